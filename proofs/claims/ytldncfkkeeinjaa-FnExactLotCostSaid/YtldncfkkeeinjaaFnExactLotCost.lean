/- The walk of the law FnExactLotCost: it returns true at all arguments, and what was there reads as it read before. No condition. -/
import Derived.Test.YtldncfkkeeinjaaRows
import Derived.WalkKit
import Derived.Outline
import Derived.WalkSpells
import Derived.WalkLawsBesides
import Derived.ProofKit
import Derived.Test.YtldncfkkeeinjaaLib
import Derived.Test.YtldncfkkeeinjaaMark
import Derived.Test.YtldncfkkeeinjaaExact
import Derived.Test.YtldncfkkeeinjaaEx
import Derived.Test.YtldncfkkeeinjaaLotSpec
import Derived.Test.YtldncfkkeeinjaaLotImpl
namespace Go.Proofs.Ytldncfkkeeinjaa
open Go.RowKit Go.WideShapes

set_option maxRecDepth 100000 in
set_option maxHeartbeats 2000000 in
theorem fnExactLotCost_any (a0 : Option Addr) (len0 cap0 : Nat) (x0 : List Int) (a1 : Option Addr) (len1 cap1 : Nat) (x1 : List Int) (n2 : Int) (n3 : Int) (w : World) (o0 : IntsAt w (· < w.heap.size) a0 len0 x0) (o1 : IntsAt w (· < w.heap.size) a1 len1 x1) :
    Calls Try.prog 4 #[.slice a0 len0 cap0, .slice a1 len1 cap1, .int .i64 n2, .int .i64 n3] w (LawPost w) := by
  by_cases hL0 : len0 ≤ 1048576
  · by_cases hL1 : len1 ≤ 1048576
    · go_enter Try.func4, Try.ntmps4
      generalize hRES : (lotCostM x0 x1 n2 n3) = ys
      have HRES := Lib.hid hRES
      clear hRES
      have heq0 : (ys == ys) = true := by simp
      generalize hRESB : (lotFine x0 x1 n2 n3) = yb
      have HRESB := Lib.hid hRESB
      clear hRESB
      have hyb : (yb == yb) = true := by simp
      have heq10 : eqB x0 x0 = true := decide_eq_true rfl
      have heq11 : eqB x1 x1 = true := decide_eq_true rfl
      have hB0 := Below.refl w.heap.size w
      -- the model's answer
      go_wp2_with fail
      refine (toInts_new a0 len0 cap0 x0 w (ints_lift o0 hB0) hL0).mono ?_
      rintro e u1 ⟨rfl, cm0_, fm0_, r1⟩
      have s1 := r1.size
      have hB1 : Below w.heap.size w u1 := hB0.trans (r1.mono hB0.size)
      skip
      have qm0_1 := SameOn.refl w.heap.size u1.heap.size u1
      go_wp2_with fail
      refine (toInts_new a1 len1 cap1 x1 u1 (ints_lift o1 hB1) hL1).mono ?_
      rintro e u2 ⟨rfl, cm1_, fm1_, r2⟩
      have s2 := r2.size
      have hB2 : Below w.heap.size w u2 := hB1.trans (r2.mono hB1.size)
      have qm0_2 := qm0_1.below r2 (by omega)
      clear hB1 qm0_1
      have qm1_2 := SameOn.refl u1.heap.size u2.heap.size u2
      go_wp2_with fail
      refine (lotCost_spec _ _ _ x0 _ _ _ x1 n2 n3 u2 (ints_in (qm0_2.ints cm0_) (by omega)) (ints_in (qm1_2.ints cm1_) (by omega)) ).mono ?_
      rintro e u3 ⟨rfl, r3⟩
      rw [HRES.out]
      rw [HRESB.out]
      have s3 := r3.size
      have hB3 : Below w.heap.size w u3 := hB2.trans (r3.mono hB2.size)
      have qm0_3 := qm0_2.below r3 (by omega)
      have qm1_3 := qm1_2.below r3 (by omega)
      clear hB2 qm0_2 qm1_2
      -- the code's answer
      go_wp2_with fail
      refine (toInts_new a0 len0 cap0 x0 u3 (ints_lift o0 hB3) hL0).mono ?_
      rintro e u4 ⟨rfl, cx0_, fx0_, r4⟩
      have s4 := r4.size
      have hB4 : Below w.heap.size w u4 := hB3.trans (r4.mono hB3.size)
      clear hB3
      have qx0_4 := SameOn.refl u3.heap.size u4.heap.size u4
      go_wp2_with fail
      refine (toInts_new a1 len1 cap1 x1 u4 (ints_lift o1 hB4) hL1).mono ?_
      rintro e u5 ⟨rfl, cx1_, fx1_, r5⟩
      have s5 := r5.size
      have hB5 : Below w.heap.size w u5 := hB4.trans (r5.mono hB4.size)
      have qx0_5 := qx0_4.below r5 (by omega)
      clear hB4 qx0_4
      have qx1_5 := SameOn.refl u4.heap.size u5.heap.size u5
      go_wp2_with fail
      refine (lotCost_impl _ _ _ x0 _ _ _ x1 n2 n3 u5 (ints_in (qx0_5.ints cx0_) (by omega)) (ints_in (qx1_5.ints cx1_) (by omega)) ).mono ?_
      rintro e u6 ⟨rfl, r6⟩
      rw [HRES.out]
      rw [HRESB.out]
      have s6 := r6.size
      have hB6 : Below w.heap.size w u6 := hB5.trans (r6.mono hB5.size)
      have qx0_6 := qx0_5.below r6 (by omega)
      have qx1_6 := qx1_5.below r6 (by omega)
      clear hB5 qx0_5 qx1_5
      go_wp2_with fail
      refine (toInts_new a0 len0 cap0 x0 u6 (ints_lift o0 hB6) hL0).mono ?_
      rintro e u7 ⟨rfl, cy0_, fy0_, r7⟩
      have s7 := r7.size
      have hB7 : Below w.heap.size w u7 := hB6.trans (r7.mono hB6.size)
      have qx0_7 := qx0_6.below r7 (by omega)
      have qx1_7 := qx1_6.below r7 (by omega)
      clear hB6 qx0_6 qx1_6
      have qy0_7 := SameOn.refl u6.heap.size u7.heap.size u7
      go_wp2_with fail
      refine (eqIntS_any _ _ _ _ _ _ _ _ x0 x0 _ (qx0_7.ints cx0_) (qy0_7.ints cy0_)).mono ?_
      rintro e u8 ⟨rfl, d8⟩
      have s8 := (d8.below u7.heap.size).size
      have hB8 : Below w.heap.size w u8 := hB7.trans ((d8.below u7.heap.size).mono hB7.size)
      have qx0_8 := qx0_7.below (d8.below u7.heap.size) (by omega)
      have qx1_8 := qx1_7.below (d8.below u7.heap.size) (by omega)
      have qy0_8 := qy0_7.below (d8.below u7.heap.size) (by omega)
      clear hB7 qx0_7 qx1_7 qy0_7
      go_wp2_with fail
      refine (toInts_new a1 len1 cap1 x1 u8 (ints_lift o1 hB8) hL1).mono ?_
      rintro e u9 ⟨rfl, cy1_, fy1_, r9⟩
      have s9 := r9.size
      have hB9 : Below w.heap.size w u9 := hB8.trans (r9.mono hB8.size)
      have qx0_9 := qx0_8.below r9 (by omega)
      have qx1_9 := qx1_8.below r9 (by omega)
      clear hB8 qx0_8 qx1_8
      have qy1_9 := SameOn.refl u8.heap.size u9.heap.size u9
      go_wp2_with fail
      refine (eqIntS_any _ _ _ _ _ _ _ _ x1 x1 _ (qx1_9.ints cx1_) (qy1_9.ints cy1_)).mono ?_
      rintro e u10 ⟨rfl, d10⟩
      have s10 := (d10.below u9.heap.size).size
      have hB10 : Below w.heap.size w u10 := hB9.trans ((d10.below u9.heap.size).mono hB9.size)
      have qx0_10 := qx0_9.below (d10.below u9.heap.size) (by omega)
      have qx1_10 := qx1_9.below (d10.below u9.heap.size) (by omega)
      have qy1_10 := qy1_9.below (d10.below u9.heap.size) (by omega)
      clear hB9 qx0_9 qx1_9 qy1_9
      go_wp2_with fail
      go_ret
      exact ⟨rfl, hB10⟩
    · go_enter Try.func4, Try.ntmps4
      go_wp2
      go_ret
      exact ⟨rfl, Below.refl _ _⟩
  · go_enter Try.func4, Try.ntmps4
    go_wp2
    go_ret
    exact ⟨rfl, Below.refl _ _⟩
end Go.Proofs.Ytldncfkkeeinjaa
