import Derived.Test.YtobfencmfeneoaaRows
import Derived.WalkKit
import Derived.LoopTactic
import Derived.Outline
import Derived.WalkSpells
import Derived.WalkLawsBesides
import Derived.ProofKit
import Derived.Lib.Hide
import Derived.IntWalk
import Derived.StillTail
import Derived.Deep.LoopGhost
import Derived.WalkMore
import Derived.StillTailTactics
import Derived.Test.YtobfencmfeneoaaLib
import Derived.Test.YtobfencmfeneoaaGen
import Derived.Test.YtobfencmfeneoaaMark
import Derived.Test.YtobfencmfeneoaaArr
import Derived.Test.YtobfencmfeneoaaOwn1
import Derived.Test.YtobfencmfeneoaaUp
import Derived.Test.YtobfencmfeneoaaEx
import Derived.Test.YtobfencmfeneoaaNetM
import Derived.Test.YtobfencmfeneoaaBitOp
import Derived.Test.YtobfencmfeneoaaTaskSpec
import Derived.Test.YtobfencmfeneoaaLoadSpec
import Derived.Test.YtobfencmfeneoaaFewSpec
import Derived.Test.YtobfencmfeneoaaFewC
import Derived.Test.YtobfencmfeneoaaLineA
import Derived.Test.YtobfencmfeneoaaLineB
namespace Go.Proofs.Ytobfencmfeneoaa
open Go.RowKit Go.WideShapes

/-- n ints in block b -/
def ArrN (w : World) (b n : Nat) (f : Nat → Int) : Prop := ∀ q, q < n → w.cell? ⟨b, q, none⟩ = some (.int .i64 (f q)) ∧ w.frozen? ⟨b, q, none⟩ = false
theorem ArrN.put {w : World} {b n : Nat} {f : Nat → Int} (h : ArrN w b n f) {k : Nat} (hk : k < n) (v : Int) : ArrN (w.setCell ⟨b, k, none⟩ (.int .i64 v)) b n (fun q => if q = k then v else f q) := by
  intro q hq
  obtain ⟨h1, h2⟩ := h q hq
  by_cases e : q = k
  · subst e
    exact ⟨by rw [World.cell?_setCell_same _ _ _ h1]; simp, by rw [World.frozen?_setCell]; exact h2⟩
  · exact ⟨by rw [World.cell?_setCell_other _ _ _ _ (by intro e'; injection e'; omega)]; simp [e, h1], by rw [World.frozen?_setCell]; exact h2⟩
theorem ArrN.congr {w : World} {b n : Nat} {f g : Nat → Int} (h : ArrN w b n f) (e : ∀ q, q < n → f q = g q) : ArrN w b n g := fun q hq => by rw [← e q hq]; exact h q hq
theorem ArrN.drew {w : World} {b n : Nat} {f : Nat → Int} (h : ArrN w b n f) : ArrN w.drew b n f := h
theorem ArrN.to {w w' : World} {b n : Nat} {f : Nat → Int} (h : ArrN w b n f) (e : w'.heap[b]? = w.heap[b]?) : ArrN w' b n f := fun q hq => by
  obtain ⟨h1, h2⟩ := h q hq
  exact ⟨by rw [World.cell?_of_block (w := w) e]; exact h1, by rw [World.frozen?_of_block (w := w) e]; exact h2⟩
theorem ArrN.new {w : World} {cs : Array Value} {t : TypeId} {n : Nat} {c : Int} (hcs : cs.toList = List.replicate n (.int .i64 c)) : ArrN (w.alloc (.cells cs t)) w.heap.size n (fun _ => c) := by
  intro q hq
  refine ⟨?_, World.frozen?_alloc_new w _ _ _⟩
  rw [World.cell?_alloc_new, ← Array.getElem?_toList, hcs, List.getElem?_replicate, if_pos hq]
/-- 64 zeros -/
def zero64 : Array Value := #[.int .i64 0, .int .i64 0, .int .i64 0, .int .i64 0, .int .i64 0, .int .i64 0, .int .i64 0, .int .i64 0, .int .i64 0, .int .i64 0, .int .i64 0, .int .i64 0, .int .i64 0, .int .i64 0, .int .i64 0, .int .i64 0, .int .i64 0, .int .i64 0, .int .i64 0, .int .i64 0, .int .i64 0, .int .i64 0, .int .i64 0, .int .i64 0, .int .i64 0, .int .i64 0, .int .i64 0, .int .i64 0, .int .i64 0, .int .i64 0, .int .i64 0, .int .i64 0, .int .i64 0, .int .i64 0, .int .i64 0, .int .i64 0, .int .i64 0, .int .i64 0, .int .i64 0, .int .i64 0, .int .i64 0, .int .i64 0, .int .i64 0, .int .i64 0, .int .i64 0, .int .i64 0, .int .i64 0, .int .i64 0, .int .i64 0, .int .i64 0, .int .i64 0, .int .i64 0, .int .i64 0, .int .i64 0, .int .i64 0, .int .i64 0, .int .i64 0, .int .i64 0, .int .i64 0, .int .i64 0, .int .i64 0, .int .i64 0, .int .i64 0, .int .i64 0]
theorem zero64_list : zero64.toList = List.replicate 64 (.int .i64 0) := rfl
end Go.Proofs.Ytobfencmfeneoaa
