import Derived.Test.YtiapaddmnbeheaaRows
import Derived.WalkKit
import Derived.LoopTactic
import Derived.Outline
import Derived.WalkSpells
import Derived.WalkLawsBesides
import Derived.ProofKit
import Derived.Test.YtiapaddmnbeheaaLib
import Derived.Test.YtiapaddmnbeheaaRd
import Derived.Test.YtiapaddmnbeheaaGen
import Derived.Test.YtiapaddmnbeheaaOwn1
import Derived.Test.YtiapaddmnbeheaaPick
import Derived.Test.YtiapaddmnbeheaaNewReader
import Derived.Test.YtiapaddmnbeheaaDr
import Derived.Test.YtiapaddmnbeheaaApp
import Derived.Test.YtiapaddmnbeheaaListOf
import Derived.Test.YtiapaddmnbeheaaDays
import Derived.Test.YtiapaddmnbeheaaBill
import Derived.Test.YtiapaddmnbeheaaInsert
import Derived.Test.YtiapaddmnbeheaaDrawTwo
namespace Go.Proofs.Ytiapaddmnbeheaa
open Go.RowKit Go.WideShapes

theorem own_lit3 (w : World) {B : Nat} (hB : B ≤ w.heap.size) (x y z : Int) : (w.alloc (.cells #[.int .i64 x, .int .i64 y, .int .i64 z] 3)).ownsRow B 3 1 (.slice (some ⟨w.heap.size, 0, none⟩) 3 3) 3 ([x, y, z].map (.int .i64)) :=
  ⟨rfl, .inr ⟨w.heap.size, 3, _, rfl, hB, heap_alloc_new w _, Nat.le_refl _, by unfold maxLen; omega, rfl, rfl⟩⟩
theorem job_t {n : Int} (h : n ∈ [5, 9]) : 5 ≤ n ∧ n ≤ 9 := by simp at h; omega
theorem job_d {n : Int} (h : n ∈ [12, 25, 6]) : 6 ≤ n ∧ n ≤ 25 := by simp at h; omega
end Go.Proofs.Ytiapaddmnbeheaa
