import Derived.Test.YtiapaddmnbeheacRows
import Derived.WalkKit
import Derived.LoopTactic
import Derived.Outline
import Derived.WalkSpells
import Derived.WalkLawsBesides
import Derived.ProofKit
import Derived.Test.YtiapaddmnbeheacLib
import Derived.Test.YtiapaddmnbeheacRd
import Derived.Test.YtiapaddmnbeheacGen
import Derived.Test.YtiapaddmnbeheacOwn1
import Derived.Test.YtiapaddmnbeheacPick
import Derived.Test.YtiapaddmnbeheacNewReader
import Derived.Test.YtiapaddmnbeheacDr
import Derived.Test.YtiapaddmnbeheacApp
import Derived.Test.YtiapaddmnbeheacListOf
import Derived.Test.YtiapaddmnbeheacDays
import Derived.Test.YtiapaddmnbeheacBill
import Derived.Test.YtiapaddmnbeheacInsert
import Derived.Test.YtiapaddmnbeheacDrawTwo
namespace Go.Proofs.Ytiapaddmnbeheac
open Go.RowKit Go.WideShapes

theorem own_lit3 (w : World) {B : Nat} (hB : B ≤ w.heap.size) (x y z : Int) : (w.alloc (.cells #[.int .i64 x, .int .i64 y, .int .i64 z] 3)).ownsRow B 3 1 (.slice (some ⟨w.heap.size, 0, none⟩) 3 3) 3 ([x, y, z].map (.int .i64)) :=
  ⟨rfl, .inr ⟨w.heap.size, 3, _, rfl, hB, heap_alloc_new w _, Nat.le_refl _, by unfold maxLen; omega, rfl, rfl⟩⟩
theorem job_t {n : Int} (h : n ∈ [5, 9]) : 5 ≤ n ∧ n ≤ 9 := by simp at h; omega
theorem job_d {n : Int} (h : n ∈ [12, 25, 6]) : 6 ≤ n ∧ n ≤ 25 := by simp at h; omega
end Go.Proofs.Ytiapaddmnbeheac
