/- The walk of the law FnExactAgeRate: it returns true at all arguments, and what was there reads as it read before. No condition. -/
import Derived.Test.YtkjmpkincaainacRows
import Derived.WalkKit
import Derived.Outline
import Derived.WalkSpells
import Derived.WalkLawsBesides
import Derived.ProofKit
import Derived.Test.YtkjmpkincaainacM0
import Derived.Test.YtkjmpkincaainacM1
import Derived.Test.YtkjmpkincaainacM13
namespace Go.Proofs.Ytkjmpkincaainac
open Go.RowKit Go.WideShapes

set_option maxHeartbeats 1000000 in
theorem eqFracX (U D : Nat) (w : World) : Calls Try.prog 10 #[.agg #[.int .i64 U, .int .i64 D], .agg #[.int .i64 U, .int .i64 D]] w (valN w (.bool true)) := by
  have e1 : ((U : Int) != (U : Int)) = false := by simp
  have e2 : ((D : Int) != (D : Int)) = false := by simp
  go_enter Try.func10, Try.ntmps10
  go_wp2_with fail
  go_ret
  exact ⟨rfl, ((Below.refl _ w).alloc (Nat.le_refl _) _).alloc (by simp) _⟩
set_option maxRecDepth 100000 in
set_option maxHeartbeats 2000000 in
theorem fnExactAgeRate_any (a0 : Option Addr) (len0 cap0 : Nat) (x0 : List Int) (n1 : Int) (n2 : Int) (n3 : Int) (w : World) (o0 : IntsAt w (· < w.heap.size) a0 len0 x0) :
    Calls Try.prog 3 #[.slice a0 len0 cap0, .int .i64 n1, .int .i64 n2, .int .i64 n3] w (LawPost w) := by
  by_cases hL0 : len0 ≤ 1048576
  · go_enter Try.func3, Try.ntmps3
    obtain ⟨U, hU⟩ : ∃ u, rateU x0 n1 n2 n3 = u := ⟨_, rfl⟩
    obtain ⟨D, hD⟩ : ∃ u, rateD x0 n1 n2 n3 = u := ⟨_, rfl⟩
    obtain ⟨B, hBB⟩ : ∃ u, rateFine x0 n1 n2 n3 = u := ⟨_, rfl⟩
    have HU := Lib.hid hU
    have HD := Lib.hid hD
    have HBB := Lib.hid hBB
    clear hU hD hBB
    have heq10 : eqB x0 x0 = true := decide_eq_true rfl
    have hB0 := Below.refl w.heap.size w
    -- the model's answer
    go_wp2_with fail
    refine (toInts_new a0 len0 cap0 x0 w (ints_lift o0 hB0) hL0).mono ?_
    rintro e u1 ⟨rfl, cm0_, fm0_, r1⟩
    have s1 := r1.size
    have hB1 : Below w.heap.size w u1 := hB0.trans (r1.mono hB0.size)
    skip
    have qm0_1 := SameOn.refl w.heap.size u1.heap.size u1
    go_wp2_with fail
    refine (ageRate_spec _ _ _ x0 n1 n2 n3 u1 (ints_in (qm0_1.ints cm0_) (by omega)) ).mono ?_
    rintro e v2 ⟨rfl, r2⟩
    rw [HU.out, HD.out, HBB.out]
    have r2 := r2.alloc r2.size (.cells #[.int .i64 (U : Int), .int .i64 (D : Int)] 24)
    have tm := two_new v2 (.int .i64 (U : Int)) (.int .i64 (D : Int)) 24
    obtain ⟨u2, hu2⟩ : ∃ wx, v2.alloc (.cells #[.int .i64 (U : Int), .int .i64 (D : Int)] 24) = wx := ⟨_, rfl⟩
    rw [hu2] at r2 tm
    have Hu2 := Lib.hid hu2
    clear hu2
    have s2 := r2.size
    have hB2 : Below w.heap.size w u2 := hB1.trans (r2.mono hB1.size)
    have qm0_2 := qm0_1.below r2 (by omega)
    clear hB1 qm0_1
    -- the code's answer
    go_wp2_with fail
    rw [Hu2.out]
    refine (toInts_new a0 len0 cap0 x0 u2 (ints_lift o0 hB2) hL0).mono ?_
    rintro e u3 ⟨rfl, cx0_, fx0_, r3⟩
    have s3 := r3.size
    have tm := tm.lift r3
    have hB3 : Below w.heap.size w u3 := hB2.trans (r3.mono hB2.size)
    clear hB2
    have qx0_3 := SameOn.refl u2.heap.size u3.heap.size u3
    go_wp2_with fail
    refine (ageRate_impl _ _ _ x0 n1 n2 n3 u3 (ints_in (qx0_3.ints cx0_) (by omega)) ).mono ?_
    rintro e v4 ⟨rfl, r4⟩
    rw [HU.out, HD.out, HBB.out]
    have r4 := r4.alloc r4.size (.cells #[.int .i64 (U : Int), .int .i64 (D : Int)] 24)
    have tg := two_new v4 (.int .i64 (U : Int)) (.int .i64 (D : Int)) 24
    obtain ⟨u4, hu4⟩ : ∃ wx, v4.alloc (.cells #[.int .i64 (U : Int), .int .i64 (D : Int)] 24) = wx := ⟨_, rfl⟩
    rw [hu4] at r4 tg
    have Hu4 := Lib.hid hu4
    clear hu4
    have tm := tm.lift r4
    have s4 := r4.size
    have hB4 : Below w.heap.size w u4 := hB3.trans (r4.mono hB3.size)
    have qx0_4 := qx0_3.below r4 (by omega)
    clear hB3 qx0_3
    have hbb : (B != B) = false := by simp
    obtain ⟨⟨f0, z0⟩, f1, z1⟩ := tm
    obtain ⟨⟨g0, y0⟩, g1, y1⟩ := tg
    rw [← Hu4.out] at f0 f1 g0 g1
    go_wp2_with fail
    rw [Hu4.out]
    refine (eqFracX U D u4).mono ?_
    rintro e u4b ⟨rfl, r4b⟩
    clear f0 f1 g0 g1 z0 z1 y0 y1
    have s4b := r4b.size
    have hB4b : Below w.heap.size w u4b := hB4.trans (r4b.mono hB4.size)
    have qx0_4b := qx0_4.below r4b (by omega)
    clear hB4 qx0_4
    go_wp2_with fail
    refine (toInts_new a0 len0 cap0 x0 u4b (ints_lift o0 hB4b) hL0).mono ?_
    rintro e u5 ⟨rfl, cy0_, fy0_, r5⟩
    have s5 := r5.size
    have hB5 : Below w.heap.size w u5 := hB4b.trans (r5.mono hB4b.size)
    have qx0_5 := qx0_4b.below r5 (by omega)
    clear hB4b qx0_4b
    have qy0_5 := SameOn.refl u4b.heap.size u5.heap.size u5
    go_wp2_with fail
    refine (eqIntS_any _ _ _ _ _ _ _ _ x0 x0 _ (qx0_5.ints cx0_) (qy0_5.ints cy0_)).mono ?_
    rintro e u6 ⟨rfl, d6⟩
    have s6 := (d6.below u5.heap.size).size
    have hB6 : Below w.heap.size w u6 := hB5.trans ((d6.below u5.heap.size).mono hB5.size)
    have qx0_6 := qx0_5.below (d6.below u5.heap.size) (by omega)
    have qy0_6 := qy0_5.below (d6.below u5.heap.size) (by omega)
    clear hB5 qx0_5 qy0_5
    go_wp2_with fail
    go_ret
    exact ⟨rfl, hB6⟩
  · go_enter Try.func3, Try.ntmps3
    go_wp2
    go_ret
    exact ⟨rfl, Below.refl _ _⟩
end Go.Proofs.Ytkjmpkincaainac
