import Derived.Test.YtkjmpkincaainaaRows
import Derived.WalkKit
import Derived.LoopTactic
import Derived.Outline
import Derived.WalkSpells
import Derived.WalkLawsBesides
import Derived.ProofKit
import Derived.Test.YtkjmpkincaainaaLib
import Derived.Test.YtkjmpkincaainaaRd
import Derived.Test.YtkjmpkincaainaaGen
import Derived.Test.YtkjmpkincaainaaOwn1
import Derived.Test.YtkjmpkincaainaaPick
import Derived.Test.YtkjmpkincaainaaNewReader
import Derived.Test.YtkjmpkincaainaaDr
import Derived.Test.YtkjmpkincaainaaApp
import Derived.Test.YtkjmpkincaainaaListOf
import Derived.Test.YtkjmpkincaainaaDays
import Derived.Test.YtkjmpkincaainaaBill
import Derived.Test.YtkjmpkincaainaaInsert
import Derived.Test.YtkjmpkincaainaaDrawTwo
namespace Go.Proofs.Ytkjmpkincaainaa
open Go.RowKit Go.WideShapes

theorem own_lit3 (w : World) {B : Nat} (hB : B ≤ w.heap.size) (x y z : Int) : (w.alloc (.cells #[.int .i64 x, .int .i64 y, .int .i64 z] 3)).ownsRow B 3 1 (.slice (some ⟨w.heap.size, 0, none⟩) 3 3) 3 ([x, y, z].map (.int .i64)) :=
  ⟨rfl, .inr ⟨w.heap.size, 3, _, rfl, hB, heap_alloc_new w _, Nat.le_refl _, by unfold maxLen; omega, rfl, rfl⟩⟩
theorem job_t {n : Int} (h : n ∈ [5, 9]) : 5 ≤ n ∧ n ≤ 9 := by simp at h; omega
theorem job_d {n : Int} (h : n ∈ [12, 25, 6]) : 6 ≤ n ∧ n ≤ 25 := by simp at h; omega
end Go.Proofs.Ytkjmpkincaainaa
