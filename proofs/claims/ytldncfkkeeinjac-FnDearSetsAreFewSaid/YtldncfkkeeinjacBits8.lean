import Derived.Test.YtldncfkkeeinjacRows
import Derived.WalkKit
import Derived.LoopTactic
import Derived.Outline
import Derived.WalkSpells
import Derived.WalkLawsBesides
import Derived.ProofKit
import Derived.Lib.Hide
import Derived.Test.YtldncfkkeeinjacLib
import Derived.Test.YtldncfkkeeinjacGen
namespace Go.Proofs.Ytldncfkkeeinjac
open Go.RowKit

/-- the block b holds eight bools -/
def ArrB (w : World) (b : Nat) (f : Nat → Bool) : Prop := ∀ q, q < 8 → w.cell? ⟨b, q, none⟩ = some (.bool (f q)) ∧ w.frozen? ⟨b, q, none⟩ = false
def agg8 (f : Nat → Bool) : Value := .agg #[.bool (f 0), .bool (f 1), .bool (f 2), .bool (f 3), .bool (f 4), .bool (f 5), .bool (f 6), .bool (f 7)]
def put8 (f : Nat → Bool) (k : Nat) (v : Bool) (q : Nat) : Bool := if q = k then v else f q
theorem ArrB.put {w : World} {b : Nat} {f : Nat → Bool} (h : ArrB w b f) (k : Nat) (hk : k < 8) (v : Bool) : ArrB (w.setCell ⟨b, k, none⟩ (.bool v)) b (put8 f k v) := by
  intro q hq
  obtain ⟨h1, h2⟩ := h q hq
  obtain ⟨h3, h4⟩ := h k hk
  unfold put8
  by_cases e : q = k
  · subst e
    rw [if_pos rfl]
    exact ⟨World.cell?_setCell_same _ _ _ h3, by rw [World.frozen?_setCell]; exact h2⟩
  · rw [if_neg e]
    exact ⟨by rw [World.cell?_setCell_other _ _ _ _ (by intro e'; injection e'; omega)]; exact h1, by rw [World.frozen?_setCell]; exact h2⟩
theorem ArrB.other {w : World} {b b' : Nat} {f : Nat → Bool} (h : ArrB w b f) (k : Nat) (v : Value) (hb : b' ≠ b) : ArrB (w.setCell ⟨b', k, none⟩ v) b f := by
  intro q hq
  obtain ⟨h1, h2⟩ := h q hq
  exact ⟨by rw [World.cell?_setCell_other _ _ _ _ (by intro e'; injection e'; omega)]; exact h1, by rw [World.frozen?_setCell]; exact h2⟩
theorem ArrB.new (w : World) (f : Nat → Bool) (t : TypeId) : ArrB (w.alloc (.cells #[.bool (f 0), .bool (f 1), .bool (f 2), .bool (f 3), .bool (f 4), .bool (f 5), .bool (f 6), .bool (f 7)] t)) w.heap.size f := by
  intro q hq
  refine ⟨?_, World.frozen?_alloc_new w _ _ _⟩
  rw [World.cell?_alloc_new]
  rcases (by omega : q = 0 ∨ q = 1 ∨ q = 2 ∨ q = 3 ∨ q = 4 ∨ q = 5 ∨ q = 6 ∨ q = 7) with rfl | rfl | rfl | rfl | rfl | rfl | rfl | rfl <;> rfl
theorem ArrB.block {w w' : World} {b : Nat} {f : Nat → Bool} (h : ArrB w b f) (e : w'.heap[b]? = w.heap[b]?) : ArrB w' b f := by
  intro q hq
  obtain ⟨h1, h2⟩ := h q hq
  exact ⟨by rw [World.cell?_of_block (w := w) e]; exact h1, by rw [World.frozen?_of_block (w := w) e]; exact h2⟩
theorem ArrB.lt {w : World} {b : Nat} {f : Nat → Bool} (h : ArrB w b f) : b < w.heap.size := World.block_lt_of_cell? w _ (h 0 (by omega)).1
theorem ArrB.alloc {w : World} {b : Nat} {f : Nat → Bool} (h : ArrB w b f) (o : Obj) : ArrB (w.alloc o) b f := h.block (Below.heap_alloc _ _ _ h.lt)
theorem ArrB.below {w w' : World} {b n : Nat} {f : Nat → Bool} (h : ArrB w b f) (hb : Below n w w') (hlt : b < n) : ArrB w' b f := h.block (hb.block b hlt)
theorem ArrB.congr {w : World} {b : Nat} {f g : Nat → Bool} (h : ArrB w b f) (e : ∀ q, q < 8 → f q = g q) : ArrB w b g := fun q hq => by rw [← e q hq]; exact h q hq
theorem agg8_congr {f g : Nat → Bool} (e : ∀ q, q < 8 → f q = g q) : agg8 f = agg8 g := by
  unfold agg8
  rw [e 0 (by omega), e 1 (by omega), e 2 (by omega), e 3 (by omega), e 4 (by omega), e 5 (by omega), e 6 (by omega), e 7 (by omega)]
/-- the set behind on, of the first so many -/
def NextOf (on : Nat → Bool) (days : Nat) (g : Nat → Bool) : Prop :=
  (∃ k, k < days ∧ (∀ j, j < k → on j = true) ∧ on k = false ∧ ∀ q, q < 8 → g q = if q < k then false else if q = k then true else on q) ∨ ((∀ j, j < days → on j = true) ∧ ∀ q, q < 8 → g q = if q < days then false else on q)
theorem stored8 {w : World} {r : Nat} {h0 f : Nat → Bool} (h : ArrB w r h0) :
    ArrB ((((((((w.setCell ⟨r, 0, none⟩ (.bool (f 0))).setCell ⟨r, 1, none⟩ (.bool (f 1))).setCell ⟨r, 2, none⟩ (.bool (f 2))).setCell ⟨r, 3, none⟩ (.bool (f 3))).setCell ⟨r, 4, none⟩ (.bool (f 4))).setCell ⟨r, 5, none⟩ (.bool (f 5))).setCell ⟨r, 6, none⟩ (.bool (f 6))).setCell ⟨r, 7, none⟩ (.bool (f 7))) r f := by
  have := (((((((h.put 0 (by omega) (f 0)).put 1 (by omega) (f 1)).put 2 (by omega) (f 2)).put 3 (by omega) (f 3)).put 4 (by omega) (f 4)).put 5 (by omega) (f 5)).put 6 (by omega) (f 6)).put 7 (by omega) (f 7)
  refine this.congr (fun q hq => ?_)
  unfold put8
  rcases (by omega : q = 0 ∨ q = 1 ∨ q = 2 ∨ q = 3 ∨ q = 4 ∨ q = 5 ∨ q = 6 ∨ q = 7) with rfl | rfl | rfl | rfl | rfl | rfl | rfl | rfl <;> simp
theorem below8 {n : Nat} {w0 w : World} {r : Nat} {v0 v1 v2 v3 v4 v5 v6 v7 : Value} (h : Below n w0 w) (hr : n ≤ r) :
    Below n w0 ((((((((w.setCell ⟨r, 0, none⟩ v0).setCell ⟨r, 1, none⟩ v1).setCell ⟨r, 2, none⟩ v2).setCell ⟨r, 3, none⟩ v3).setCell ⟨r, 4, none⟩ v4).setCell ⟨r, 5, none⟩ v5).setCell ⟨r, 6, none⟩ v6).setCell ⟨r, 7, none⟩ v7) :=
  (((((((h.setCell hr _).setCell hr _).setCell hr _).setCell hr _).setCell hr _).setCell hr _).setCell hr _).setCell hr _
end Go.Proofs.Ytldncfkkeeinjac
