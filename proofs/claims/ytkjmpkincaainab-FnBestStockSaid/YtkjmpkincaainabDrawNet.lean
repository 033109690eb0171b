import Derived.Test.YtkjmpkincaainabRows
import Derived.WalkKit
import Derived.LoopTactic
import Derived.Outline
import Derived.WalkSpells
import Derived.WalkLawsBesides
import Derived.ProofKit
import Derived.Test.YtkjmpkincaainabLib
import Derived.Test.YtkjmpkincaainabRd
import Derived.Test.YtkjmpkincaainabGen
import Derived.Test.YtkjmpkincaainabOwn1
import Derived.Test.YtkjmpkincaainabPick
import Derived.Test.YtkjmpkincaainabNewReader
import Derived.Test.YtkjmpkincaainabDr
import Derived.Test.YtkjmpkincaainabApp
import Derived.Test.YtkjmpkincaainabListOf
import Derived.Test.YtkjmpkincaainabDays
import Derived.Test.YtkjmpkincaainabBill
import Derived.Test.YtkjmpkincaainabDrawOne
import Derived.Test.YtkjmpkincaainabNetAt
namespace Go.Proofs.Ytkjmpkincaainab
open Go.RowKit Go.WideShapes

/-- two cells of a block, that may be written -/
def Two (w : World) (b : Nat) (x y : Value) : Prop := (w.cell? ⟨b, 0, none⟩ = some x ∧ w.frozen? ⟨b, 0, none⟩ = false) ∧ w.cell? ⟨b, 1, none⟩ = some y ∧ w.frozen? ⟨b, 1, none⟩ = false
theorem Two.block {w w' : World} {b : Nat} {x y : Value} (h : Two w b x y) (e : w'.heap[b]? = w.heap[b]?) : Two w' b x y :=
  ⟨⟨by rw [World.cell?_of_block (w := w) e]; exact h.1.1, by rw [World.frozen?_of_block (w := w) e]; exact h.1.2⟩, by rw [World.cell?_of_block (w := w) e]; exact h.2.1, by rw [World.frozen?_of_block (w := w) e]; exact h.2.2⟩
theorem Two.lt {w : World} {b : Nat} {x y : Value} (h : Two w b x y) : b < w.heap.size := World.block_lt_of_cell? w _ h.1.1
theorem Two.grown {w w' : World} {b : Nat} {x y : Value} {r : Option Nat} (h : Two w b x y) (hg : w.grownBy w' r) (hr : some b ≠ r) : Two w' b x y := h.block (hg.block b h.lt hr)
theorem two_new (w : World) (x y : Value) (t : TypeId) : Two (w.alloc (.cells #[x, y] t)) w.heap.size x y :=
  ⟨⟨by rw [World.cell?_alloc_new]; rfl, World.frozen?_alloc_new w _ _ _⟩, by rw [World.cell?_alloc_new]; rfl, World.frozen?_alloc_new w _ _ _⟩
theorem Two.set0 {w : World} {b : Nat} {x y : Value} (h : Two w b x y) (u : Value) : Two (w.setCell ⟨b, 0, none⟩ u) b u y := by
  refine ⟨⟨World.cell?_setCell_same _ _ _ h.1.1, by rw [World.frozen?_setCell]; exact h.1.2⟩, ?_, by rw [World.frozen?_setCell]; exact h.2.2⟩
  rw [World.cell?_setCell_other _ _ _ _ (by intro e; injection e with _ e2; exact absurd e2 (by omega))]; exact h.2.1
theorem Two.set1 {w : World} {b : Nat} {x y : Value} (h : Two w b x y) (u : Value) : Two (w.setCell ⟨b, 1, none⟩ u) b x u := by
  refine ⟨⟨?_, by rw [World.frozen?_setCell]; exact h.1.2⟩, World.cell?_setCell_same _ _ _ h.2.1, by rw [World.frozen?_setCell]; exact h.2.2⟩
  rw [World.cell?_setCell_other _ _ _ _ (by intro e; injection e with _ e2; exact absurd e2 (by omega))]; exact h.1.1
/-- a drawn net, behind a reader -/
def NetPost (w : World) (R p : Nat) (e : Ending) (w' : World) : Prop := ∃ (d : NV) (ts : List Int) (rows : List (List Int)) (p' : Nat), e = .returned (.agg #[.slice d.aT d.lT d.cT, .slice d.aW d.lW d.cW]) ∧
  NetAt w' (fun b => w.heap.size ≤ b ∧ b < w'.heap.size) d ts rows ∧ d.lT ≤ 4 ∧ d.lW ≤ 8 ∧ Rd w' R p' ∧ p' ≤ p + 100 ∧ w.grownBy w' (some R)
theorem netw_n {n : Int} (h : n ∈ [4, 5, 3, 6, 7, 2, 0]) : ∃ m : Nat, n = (m : Int) ∧ m ≤ 7 := by
  simp at h
  exact ⟨n.toNat, by omega, by omega⟩
theorem netv_n {n : Int} (h : n ∈ [3, 2, 4, 1, 0]) : ∃ m : Nat, n = (m : Int) ∧ m ≤ 4 := by
  simp at h
  exact ⟨n.toNat, by omega, by omega⟩
theorem nett_n {n : Int} (h : n ∈ [5, 9]) : 5 ≤ n ∧ n ≤ 9 := by simp at h; omega
end Go.Proofs.Ytkjmpkincaainab
