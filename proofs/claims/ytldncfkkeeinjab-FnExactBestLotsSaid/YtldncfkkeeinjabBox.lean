import Derived.Test.YtldncfkkeeinjabRows
import Derived.WalkKit
import Derived.LoopTactic
import Derived.Outline
import Derived.WalkSpells
import Derived.WalkLawsBesides
import Derived.ProofKit
import Derived.Lib.Hide
import Derived.RangeFuncWrites
import Derived.RangeFuncLeaves
import Derived.RangeFuncCalls
import Derived.RangeFuncNested
import Derived.RangeFuncBound
import Derived.Test.YtldncfkkeeinjabLib
import Derived.Test.YtldncfkkeeinjabGen
import Derived.Test.YtldncfkkeeinjabArr
import Derived.Test.YtldncfkkeeinjabOwn1
import Derived.Test.YtldncfkkeeinjabParts
import Derived.Test.YtldncfkkeeinjabRound
namespace Go.Proofs.Ytldncfkkeeinjab
open Go.RowKit Go.Shelf Go.Deep

/-- a boxed row of ints of the call's own: its place g, its box x -/
structure BoxInv (w wr : World) (g x len cap : Nat) (f : Nat → Int) : Prop where
  low : w.heap.size ≤ g
  up : g < x
  box : wr.cell? ⟨x, 0, none⟩ = some (.slice (some ⟨g, 0, none⟩) len cap)
  cells : ∀ q, q < len → wr.cell? ⟨g, q, none⟩ = some (.int .i64 (f q)) ∧ wr.frozen? ⟨g, q, none⟩ = false
  below : Below w.heap.size w wr
theorem BoxInv.kept {w a b : World} {g x len cap : Nat} {f : Nat → Int} (h : BoxInv w a g x len cap f) {row : Option Nat} (hg : a.grownBy b row) (hr : ∀ r, row = some r → w.heap.size ≤ r ∧ ∃ o : Obj, a.heap[r]? = some o ∧ o.isCells = false) : BoxInv w b g x len cap f :=
  ⟨h.low, h.up, cell_kept h.box hg (fun r e => (hr r e).2), fun q hq => ⟨cell_kept (h.cells q hq).1 hg (fun r e => (hr r e).2), (frozen_kept (h.cells q hq).1 hg (fun r e => (hr r e).2)).trans (h.cells q hq).2⟩,
    h.below.grown hg h.below.size (fun k e => (hr k e).1)⟩
theorem BoxInv.alloc {w a : World} {g x len cap : Nat} {f : Nat → Int} (h : BoxInv w a g x len cap f) (o : Obj) : BoxInv w (a.alloc o) g x len cap f :=
  h.kept (World.grownBy_alloc a o none) (fun r e => by cases e)
theorem BoxInv.congr {w a : World} {g x len cap : Nat} {f f' : Nat → Int} (h : BoxInv w a g x len cap f) (e : ∀ q, q < len → f q = f' q) : BoxInv w a g x len cap f' :=
  ⟨h.low, h.up, h.box, fun q hq => by rw [← e q hq]; exact h.cells q hq, h.below⟩
theorem BoxInv.put {w a : World} {g x len cap : Nat} {f : Nat → Int} (h : BoxInv w a g x len cap f) {k : Nat} {v : Int} : BoxInv w (a.drew.setCell ⟨g, k, none⟩ (.int .i64 v)) g x len cap (fun q => if q = k then v else f q) := by
  refine ⟨h.low, h.up, ?_, fun q hq => ⟨?_, ?_⟩, h.below.drew.setCell h.low _⟩
  · have := h.up
    rw [World.cell?_setCell_other _ _ _ _ (by intro e; injection e; omega)]; exact h.box
  · by_cases e : q = k
    · subst e
      rw [if_pos rfl]
      exact World.cell?_setCell_same _ _ _ (h.cells q hq).1
    · rw [World.cell?_setCell_other _ _ _ _ (by intro e'; injection e'; omega), if_neg e]
      exact (h.cells q hq).1
  · rw [World.frozen?_setCell]; exact (h.cells q hq).2
theorem box_close {w W : World} {g x len cap k s : Nat} {f f' : Nat → Int} {v : Int} {Ds : List Nat} {u : Value} (h : BoxInv w W g x len cap f) (hm : Marks W w.heap.size Ds) (hk : k < len)
    (hi : W.cell? ⟨s, 0, none⟩ = some u) (hs : x < s) (ht : ∀ q, q < len → (if q = k then v else f q) = f' q) :
    KeepsOthers W (W.setCell ⟨g, k, none⟩ (.int .i64 v)).drew ∧ Below w.heap.size W (W.setCell ⟨g, k, none⟩ (.int .i64 v)).drew ∧
      ((W.setCell ⟨g, k, none⟩ (.int .i64 v)).drew.cell? ⟨s, 0, none⟩ = some u ∧ BoxInv w (W.setCell ⟨g, k, none⟩ (.int .i64 v)).drew g x len cap f' ∧ Marks (W.setCell ⟨g, k, none⟩ (.int .i64 v)).drew w.heap.size Ds) := by
  have hl := h.low
  have hu := h.up
  refine ⟨(KeepsOthers.setCell _ _ _).trans (KeepsOthers.drew _), ((Below.refl w.heap.size W).setCell (p := ⟨g, k, none⟩) hl _).drew, ?_, h.put.congr ht, ?_⟩
  · show (W.setCell ⟨g, k, none⟩ (.int .i64 v)).cell? ⟨s, 0, none⟩ = some u
    rw [World.cell?_setCell_other _ _ _ _ (by intro e; injection e; omega)]; exact hi
  · exact (hm.setCell (u := .int .i64 v) (h.cells k hk).1).kept (fun _ _ hx => hx)
/-- a row of the call's own, put into a box -/
theorem box_start {w w1 : World} {a : Option Addr} {len cap : Nat} {xs : List Int} (ho : w1.ownsRow w.heap.size 3 1 (.slice a len cap) len (xs.map (.int .i64))) (hb : Below w.heap.size w w1) (h0 : 0 < len) (t : TypeId) :
    ∃ g, a = some ⟨g, 0, none⟩ ∧ BoxInv w (w1.alloc (.cells #[.slice (some ⟨g, 0, none⟩) len cap] t)) g w1.heap.size len cap (fun q => xs.getD q 0) := by
  have hlen : xs.length = len := by have := ho.1; simpa using this
  obtain ⟨g, v0, rfl, hg, _, _⟩ := own_place ho (j := 0) h0
  have hlt : g < w1.heap.size := (ho.lt g rfl).2
  have hbx := cell_new_l w1 (.slice (some ⟨g, 0, none⟩) len cap) t
  refine ⟨g, rfl, hg, hlt, hbx.1, fun q hq => ?_, hb.alloc hb.size _⟩
  have hc := ho.cellAt q (by simp [hlen]; exact hq)
  rw [List.getElem?_map, get_getD (by omega)] at hc
  exact ⟨cell_alloc_l _ hc, by rw [World.frozen?_alloc_past _ _ _ (by simpa using hlt)]; exact ho.frozenAt q⟩
end Go.Proofs.Ytldncfkkeeinjab
