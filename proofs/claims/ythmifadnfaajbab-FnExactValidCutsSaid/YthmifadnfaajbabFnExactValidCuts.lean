/- The walk of the law FnExactValidCuts: it returns true at all arguments, and what was there reads as it read before. No condition. -/
import Derived.Test.YthmifadnfaajbabRows
import Derived.WalkKit
import Derived.Outline
import Derived.WalkSpells
import Derived.WalkLawsBesides
import Derived.ProofKit
import Derived.Test.YthmifadnfaajbabM0
import Derived.Test.YthmifadnfaajbabM1
import Derived.Test.YthmifadnfaajbabM15
namespace Go.Proofs.Ythmifadnfaajbab
open Go.RowKit Go.WideShapes

set_option maxRecDepth 100000 in
set_option maxHeartbeats 2000000 in
theorem fnExactValidCuts_any (a0 : Option Addr) (len0 cap0 : Nat) (x0 : List Int) (n1 : Int) (w : World) (o0 : IntsAt w (· < w.heap.size) a0 len0 x0) :
    Calls Try.prog 3 #[.slice a0 len0 cap0, .int .i64 n1] w (LawPost w) := by
  by_cases hL0 : len0 ≤ 1048576
  · go_enter Try.func3, Try.ntmps3
    generalize hRES : (cutsM x0 n1) = ys
    have HRES := Lib.hid hRES
    clear hRES
    have heq0 : (ys == ys) = true := by simp
    have heq10 : eqB x0 x0 = true := decide_eq_true rfl
    have hB0 := Below.refl w.heap.size w
    -- the model's answer
    go_wp2_with fail
    refine (toInts_new a0 len0 cap0 x0 w (ints_lift o0 hB0) hL0).mono ?_
    rintro e u1 ⟨rfl, cm0_, fm0_, r1⟩
    have s1 := r1.size
    have hB1 : Below w.heap.size w u1 := hB0.trans (r1.mono hB0.size)
    skip
    have qm0_1 := SameOn.refl w.heap.size u1.heap.size u1
    go_wp2_with fail
    refine (validCuts_Y _ _ _ x0 n1 u1 (ints_in (qm0_1.ints cm0_) (by omega)) ).mono ?_
    rintro e u2 ⟨rfl, r2⟩
    rw [HRES.out]
    have s2 := r2.size
    have hB2 : Below w.heap.size w u2 := hB1.trans (r2.mono hB1.size)
    have qm0_2 := qm0_1.below r2 (by omega)
    clear hB1 qm0_1
    -- the code's answer
    go_wp2_with fail
    refine (toInts_new a0 len0 cap0 x0 u2 (ints_lift o0 hB2) hL0).mono ?_
    rintro e u3 ⟨rfl, cx0_, fx0_, r3⟩
    have s3 := r3.size
    have hB3 : Below w.heap.size w u3 := hB2.trans (r3.mono hB2.size)
    clear hB2
    have qx0_3 := SameOn.refl u2.heap.size u3.heap.size u3
    go_wp2_with fail
    refine (validCuts_X _ _ _ x0 n1 u3 (ints_in (qx0_3.ints cx0_) (by omega)) ).mono ?_
    rintro e u4 ⟨rfl, r4⟩
    rw [HRES.out]
    have s4 := r4.size
    have hB4 : Below w.heap.size w u4 := hB3.trans (r4.mono hB3.size)
    have qx0_4 := qx0_3.below r4 (by omega)
    clear hB3 qx0_3
    go_wp2_with fail
    refine (toInts_new a0 len0 cap0 x0 u4 (ints_lift o0 hB4) hL0).mono ?_
    rintro e u5 ⟨rfl, cy0_, fy0_, r5⟩
    have s5 := r5.size
    have hB5 : Below w.heap.size w u5 := hB4.trans (r5.mono hB4.size)
    have qx0_5 := qx0_4.below r5 (by omega)
    clear hB4 qx0_4
    have qy0_5 := SameOn.refl u4.heap.size u5.heap.size u5
    go_wp2_with fail
    refine (eqIntS_any _ _ _ _ _ _ _ _ x0 x0 _ (qx0_5.ints cx0_) (qy0_5.ints cy0_)).mono ?_
    rintro e u6 ⟨rfl, d6⟩
    have s6 := (d6.below u5.heap.size).size
    have hB6 : Below w.heap.size w u6 := hB5.trans ((d6.below u5.heap.size).mono hB5.size)
    have qx0_6 := qx0_5.below (d6.below u5.heap.size) (by omega)
    have qy0_6 := qy0_5.below (d6.below u5.heap.size) (by omega)
    clear hB5 qx0_5 qy0_5
    go_wp2_with fail
    go_ret
    exact ⟨rfl, hB6⟩
  · go_enter Try.func3, Try.ntmps3
    go_wp2
    go_ret
    exact ⟨rfl, Below.refl _ _⟩
end Go.Proofs.Ythmifadnfaajbab
