import Derived.Test.YtkjmpkincaainabRows
import Derived.WalkKit
import Derived.LoopTactic
import Derived.Outline
import Derived.WalkSpells
import Derived.WalkLawsBesides
import Derived.ProofKit
import Derived.Test.YtkjmpkincaainabLib
import Derived.Test.YtkjmpkincaainabRd
import Derived.Test.YtkjmpkincaainabGen
import Derived.Test.YtkjmpkincaainabOwn1
import Derived.Test.YtkjmpkincaainabPick
import Derived.Test.YtkjmpkincaainabNewReader
import Derived.Test.YtkjmpkincaainabDr
import Derived.Test.YtkjmpkincaainabApp
import Derived.Test.YtkjmpkincaainabListOf
import Derived.Test.YtkjmpkincaainabDays
import Derived.Test.YtkjmpkincaainabBill
import Derived.Test.YtkjmpkincaainabInsert
import Derived.Test.YtkjmpkincaainabDrawTwo
namespace Go.Proofs.Ytkjmpkincaainab
open Go.RowKit Go.WideShapes

theorem own_lit3 (w : World) {B : Nat} (hB : B ≤ w.heap.size) (x y z : Int) : (w.alloc (.cells #[.int .i64 x, .int .i64 y, .int .i64 z] 3)).ownsRow B 3 1 (.slice (some ⟨w.heap.size, 0, none⟩) 3 3) 3 ([x, y, z].map (.int .i64)) :=
  ⟨rfl, .inr ⟨w.heap.size, 3, _, rfl, hB, heap_alloc_new w _, Nat.le_refl _, by unfold maxLen; omega, rfl, rfl⟩⟩
theorem job_t {n : Int} (h : n ∈ [5, 9]) : 5 ≤ n ∧ n ≤ 9 := by simp at h; omega
theorem job_d {n : Int} (h : n ∈ [12, 25, 6]) : 6 ≤ n ∧ n ≤ 25 := by simp at h; omega
end Go.Proofs.Ytkjmpkincaainab
