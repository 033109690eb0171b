import Derived.Test.YtkjmpkincaainaaRows
import Derived.WalkKit
import Derived.ProofKit
import Derived.Lib.Hide
import Derived.Test.YtkjmpkincaainaaLib
import Derived.Test.YtkjmpkincaainaaEx
import Derived.Test.YtkjmpkincaainaaTokM
namespace Go.Proofs.Ytkjmpkincaainaa
open Go.RowKit Go.WideShapes

/-- where a net lies -/
structure NV where
  aT : Option Addr
  lT : Nat
  cT : Nat
  aW : Option Addr
  lW : Nat
  cW : Nat
def NV.v (d : NV) : Value := .agg #[.slice d.aT d.lT d.cT, .slice d.aW d.lW d.cW]
structure NetAt (w : World) (S : Nat → Prop) (d : NV) (ts : List Int) (rows : List (List Int)) : Prop where
  t : IntsAt w S d.aT d.lT ts
  r : RowsAt w S d.aW d.lW rows
  ct : d.lT ≤ d.cT
  cw : d.lW ≤ d.cW
theorem NetAt.to {w w' : World} {S S' : Nat → Prop} {d : NV} {ts : List Int} {rows : List (List Int)} (h : NetAt w S d ts rows) (hg : ∀ b, S b → S' b ∧ w'.heap[b]? = w.heap[b]?) : NetAt w' S' d ts rows :=
  ⟨h.t.to hg, h.r.to hg, h.ct, h.cw⟩
theorem NetAt.below {w w' : World} {n : Nat} {d : NV} {ts : List Int} {rows : List (List Int)} (h : NetAt w (· < n) d ts rows) (hb : Below n w w') : NetAt w' (· < n) d ts rows := ⟨h.t.below hb, h.r.below hb, h.ct, h.cw⟩
theorem net_lift {w w' : World} {d : NV} {ts : List Int} {rows : List (List Int)} (h : NetAt w (· < w.heap.size) d ts rows) (hb : Below w.heap.size w w') : NetAt w' (· < w'.heap.size) d ts rows :=
  (h.below hb).to fun b hb' => ⟨Nat.lt_of_lt_of_le hb' hb.size, rfl⟩
/-- the box of a net, as it is made -/
def netObj (aT : Option Addr) (lT cT : Nat) (aW : Option Addr) (lW cW : Nat) : Array Value := #[.slice aT lT cT, .slice aW lW cW]
/-- block b holds the two slices of a net -/
def NetB (w : World) (b : Nat) (d : NV) : Prop := w.cell? ⟨b, 0, none⟩ = some (.slice d.aT d.lT d.cT) ∧ w.cell? ⟨b, 1, none⟩ = some (.slice d.aW d.lW d.cW)
theorem NetB.block {w w' : World} {b : Nat} {d : NV} (h : NetB w b d) (e : w'.heap[b]? = w.heap[b]?) : NetB w' b d :=
  ⟨by rw [World.cell?_of_block (w := w) e]; exact h.1, by rw [World.cell?_of_block (w := w) e]; exact h.2⟩
theorem NetB.lt {w : World} {b : Nat} {d : NV} (h : NetB w b d) : b < w.heap.size := World.block_lt_of_cell? w _ h.1
theorem NetB.below {w w' : World} {b n : Nat} {d : NV} (h : NetB w b d) (hb : Below n w w') (hn : b < n) : NetB w' b d := h.block (hb.block b hn)
theorem netB_new (w : World) (aT : Option Addr) (lT cT : Nat) (aW : Option Addr) (lW cW : Nat) (t : TypeId) : NetB (w.alloc (.cells #[.slice aT lT cT, .slice aW lW cW] t)) w.heap.size ⟨aT, lT, cT, aW, lW, cW⟩ :=
  ⟨by rw [World.cell?_alloc_new]; rfl, by rw [World.cell?_alloc_new]; rfl⟩
/-- the answer, and what lay below lies as it lay -/
def valN (w : World) (v : Value) (e : Ending) (w' : World) : Prop := e = .returned v ∧ Below w.heap.size w w'
theorem below_drewN {w w' : World} {n : Nat} (h : Below n w w') (q : Nat) : Below n w (w'.drewN q) := h.trans (Drew.below ⟨q, rfl⟩ n)
theorem NetB.drewN {w : World} {b : Nat} {d : NV} (h : NetB w b d) (q : Nat) : NetB (w.drewN q) b d := h.block rfl
/-- a net in its box -/
structure NetOn (w : World) (b : Nat) (d : NV) (ts : List Int) (rows : List (List Int)) : Prop where
  box : NetB w b d
  at' : NetAt w (· < w.heap.size) d ts rows
theorem NetOn.lift {w w' : World} {b : Nat} {d : NV} {ts : List Int} {rows : List (List Int)} (h : NetOn w b d ts rows) (hb : Below w.heap.size w w') : NetOn w' b d ts rows := ⟨h.box.below hb h.box.lt, net_lift h.at' hb⟩
theorem netOn_new {w : World} {aT : Option Addr} {lT cT : Nat} {aW : Option Addr} {lW cW : Nat} {ts : List Int} {rows : List (List Int)} (h : NetAt w (· < w.heap.size) ⟨aT, lT, cT, aW, lW, cW⟩ ts rows) (t : TypeId) : NetOn (w.alloc (.cells #[.slice aT lT cT, .slice aW lW cW] t)) w.heap.size ⟨aT, lT, cT, aW, lW, cW⟩ ts rows :=
  ⟨netB_new w aT lT cT aW lW cW t, net_lift h ((Below.refl _ _).alloc (Nat.le_refl _) _)⟩
end Go.Proofs.Ytkjmpkincaainaa
