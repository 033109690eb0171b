/- The walk of the law FnExactLeastSample: it returns true at all arguments, and what was there reads as it read before. No condition. -/
import Derived.Test.YtkebdelfklmigacRows
import Derived.WalkKit
import Derived.Outline
import Derived.WalkSpells
import Derived.WalkLawsBesides
import Derived.ProofKit
import Derived.Test.YtkebdelfklmigacM0
import Derived.Test.YtkebdelfklmigacM2
import Derived.Test.YtkebdelfklmigacM7
import Derived.Test.YtkebdelfklmigacM13
namespace Go.Proofs.Ytkebdelfklmigac
open Go.RowKit Go.WideShapes

set_option maxRecDepth 100000 in
set_option maxHeartbeats 1000000 in
theorem fnExactLeastSample_any (x0 x1 x2 x3 x4 : Int) (w : World) :
    Calls Try.prog 4 #[.int .i64 x0, .int .i64 x1, .int .i64 x2, .int .i64 x3, .int .i64 x4] w (LawPost w) := by
  have HS := Lib.hid (fun w' => leastSample_spec x0 x1 x2 x3 x4 w')
  have HI := Lib.hid (fun w' => leastSample_impl x0 x1 x2 x3 x4 w')
  obtain ⟨c, hc⟩ : ∃ c, leastS x0 x1 x2 x3 x4 = c := ⟨_, rfl⟩
  rw [hc] at HS HI
  clear hc
  have hne : (c != c) = false := by simp
  go_enter Try.func4, Try.ntmps4
  go_wp2_with fail
  refine (HS.out w).mono ?_
  rintro e w' ⟨rfl, he⟩
  obtain rfl := he.symm
  go_wp2_with fail
  refine (HI.out w).mono ?_
  rintro e w2 ⟨rfl, hb2⟩
  go_wp2
  go_ret
  exact ⟨rfl, hb2⟩
end Go.Proofs.Ytkebdelfklmigac
