/- The walk of the law FnExactBadOut: it returns true at all arguments, and what was there reads as it read before. No condition. -/
import Derived.Test.YtkebdelfklmigabRows
import Derived.WalkKit
import Derived.Outline
import Derived.WalkSpells
import Derived.WalkLawsBesides
import Derived.ProofKit
import Derived.Test.YtkebdelfklmigabM0
import Derived.Test.YtkebdelfklmigabM2
import Derived.Test.YtkebdelfklmigabM3
import Derived.Test.YtkebdelfklmigabM7
import Derived.Test.YtkebdelfklmigabM13
namespace Go.Proofs.Ytkebdelfklmigab
open Go.RowKit Go.WideShapes

set_option maxHeartbeats 1000000 in
theorem eqFrac_any9 (U D : Nat) (w : World) : Calls Try.prog 13 #[.agg #[.int .i64 U, .int .i64 D], .agg #[.int .i64 U, .int .i64 D]] w (valN w (.bool true)) := by
  have e1 : ((U : Int) != (U : Int)) = false := by simp
  have e2 : ((D : Int) != (D : Int)) = false := by simp
  go_enter Try.func13, Try.ntmps13
  go_wp2_with fail
  go_ret
  exact ⟨rfl, ((Below.refl _ w).alloc (Nat.le_refl _) _).alloc (by simp) _⟩
set_option maxRecDepth 100000 in
set_option maxHeartbeats 4000000 in
theorem fnExactBadOut_any (x0 x1 x2 x3 : Int) (w : World) :
    Calls Try.prog 6 #[.int .i64 x0, .int .i64 x1, .int .i64 x2, .int .i64 x3] w (LawPost w) := by
  have HS := Lib.hid (fun w' => badOut_spec x0 x1 x2 x3 w')
  have HI := Lib.hid (fun w' => badOut_impl x0 x1 x2 x3 w')
  obtain ⟨U, hU⟩ : ∃ u, badU x0 x1 x2 x3 = u := ⟨_, rfl⟩
  obtain ⟨D, hD⟩ : ∃ u, badD x0 x1 x2 x3 = u := ⟨_, rfl⟩
  obtain ⟨B, hB⟩ : ∃ u, planB x0 x1 x2 x3 = u := ⟨_, rfl⟩
  rw [hU, hD, hB] at HS HI
  unfold FracBP at HS HI
  clear hU hD hB
  go_enter Try.func6, Try.ntmps6
  go_wp2_with fail
  refine (HS.out w).mono ?_
  rintro e w1 ⟨rfl, hb1⟩
  have fr2 := two_new w1 (.int .i64 (U : Int)) (.int .i64 (D : Int)) 26
  have hb2 := hb1.alloc hb1.size (.cells #[.int .i64 (U : Int), .int .i64 (D : Int)] 26)
  obtain ⟨w2, hw2⟩ : ∃ wx, w1.alloc (.cells #[.int .i64 (U : Int), .int .i64 (D : Int)] 26) = wx := ⟨_, rfl⟩
  rw [hw2] at fr2 hb2
  have HW2 := Lib.hid hw2
  clear hw2 hb1
  go_wp2_with fail
  rw [HW2.out]
  refine (HI.out w2).mono ?_
  rintro e w3 ⟨rfl, hb3⟩
  have fr3 := fr2.block (hb3.block _ fr2.lt)
  have hb4 := hb2.trans (hb3.mono hb2.size)
  have fg4 := two_new w3 (.int .i64 (U : Int)) (.int .i64 (D : Int)) 26
  have fr4 := fr3.block (w' := w3.alloc (.cells #[.int .i64 (U : Int), .int .i64 (D : Int)] 26)) (Below.heap_alloc _ _ _ fr3.lt)
  have hb5 := hb4.alloc hb4.size (.cells #[.int .i64 (U : Int), .int .i64 (D : Int)] 26)
  obtain ⟨w4, hw4⟩ : ∃ wx, w3.alloc (.cells #[.int .i64 (U : Int), .int .i64 (D : Int)] 26) = wx := ⟨_, rfl⟩
  rw [hw4] at fg4 fr4 hb5
  have HW4 := Lib.hid hw4
  clear hw4 fr2 fr3 hb2 hb3 hb4
  obtain ⟨⟨f0, _⟩, f1, _⟩ := fr4
  obtain ⟨⟨g0, _⟩, g1, _⟩ := fg4
  rw [← HW4.out] at f0 f1 g0 g1
  have hbb : (B != B) = false := by simp
  go_wp2_with fail
  rw [HW4.out]
  refine (eqFrac_any9 U D w4).mono ?_
  rintro e w5 ⟨rfl, hb6⟩
  have hb7 := hb5.trans (hb6.mono hb5.size)
  clear hb5 hb6
  go_wp2
  go_ret
  exact ⟨rfl, hb7⟩
end Go.Proofs.Ytkebdelfklmigab
