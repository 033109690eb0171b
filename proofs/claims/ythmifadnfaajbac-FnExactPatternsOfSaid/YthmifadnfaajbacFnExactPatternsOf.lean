/- The walk of the law FnExactPatternsOf: it returns true at all arguments, and what was there reads as it read before. No condition. -/
import Derived.Test.YthmifadnfaajbacRows
import Derived.WalkKit
import Derived.Outline
import Derived.WalkSpells
import Derived.WalkLawsBesides
import Derived.ProofKit
import Derived.Test.YthmifadnfaajbacM0
import Derived.Test.YthmifadnfaajbacM1
import Derived.Test.YthmifadnfaajbacM13
import Derived.Test.YthmifadnfaajbacM16
import Derived.Test.YthmifadnfaajbacM18
namespace Go.Proofs.Ythmifadnfaajbac
open Go.RowKit Go.WideShapes

set_option maxRecDepth 100000 in
set_option maxHeartbeats 2000000 in
theorem fnExactPatternsOf_any (a0 : Option Addr) (len0 cap0 : Nat) (x0 : List Int) (n1 : Int) (w : World) (o0 : IntsAt w (· < w.heap.size) a0 len0 x0) :
    Calls Try.prog 6 #[.slice a0 len0 cap0, .int .i64 n1] w (LawPost w) := by
  by_cases hL0 : len0 ≤ 1048576
  · go_enter Try.func6, Try.ntmps6
    have hRL := patRes_len x0 n1
    generalize hRES : (patRes x0 n1) = ys at hRL
    have HRES := Lib.hid hRES
    clear hRES
    have heq : eqRB ys ys = true := decide_eq_true rfl
    have heq10 : eqB x0 x0 = true := decide_eq_true rfl
    have hB0 := Below.refl w.heap.size w
    -- the model's answer
    go_wp2_with fail
    refine (toInts_new a0 len0 cap0 x0 w (ints_lift o0 hB0) hL0).mono ?_
    rintro e u1 ⟨rfl, cm0_, fm0_, r1⟩
    have s1 := r1.size
    have hB1 : Below w.heap.size w u1 := hB0.trans (r1.mono hB0.size)
    skip
    have qm0_1 := SameOn.refl w.heap.size u1.heap.size u1
    go_wp2_with fail
    refine (patternsOf_spec _ _ _ x0 n1 u1 (ints_in (qm0_1.ints cm0_) (by omega)) (Nat.le_refl _)).mono ?_
    rintro e u2 ⟨aM, lM, kM, rfl, cM, _, r2⟩
    rw [HRES.out] at cM
    have hlM : lM ≤ 1048576 := by rw [← cM.lenEq]; omega
    have s2 := r2.size
    have hB2 : Below w.heap.size w u2 := hB1.trans (r2.mono hB1.size)
    have qm0_2 := qm0_1.below r2 (by omega)
    clear hB1 qm0_1
    have qM2 := SameOn.refl u1.heap.size u2.heap.size u2
    -- the code's answer
    go_wp2_with fail
    refine (toInts_new a0 len0 cap0 x0 u2 (ints_lift o0 hB2) hL0).mono ?_
    rintro e u3 ⟨rfl, cx0_, fx0_, r3⟩
    have s3 := r3.size
    have hB3 : Below w.heap.size w u3 := hB2.trans (r3.mono hB2.size)
    have qM3 := qM2.below r3 (by omega)
    clear hB2 qM2
    have qx0_3 := SameOn.refl u2.heap.size u3.heap.size u3
    go_wp2_with fail
    refine (patternsOf_implP _ _ _ x0 n1 u3 (ints_in (qx0_3.ints cx0_) (by omega)) (Nat.le_refl _)).mono ?_
    rintro e u4 ⟨vG, rfl, hpG, r4⟩
    rw [HRES.out] at hpG
    obtain ⟨aG, kG, G, A, LG, C, bl, hvG, haG, sG, hG1, hbl⟩ := hpG.sep11 (by omega)
    subst hvG
    have cG := hpG.rowsAt rfl (by omega)
    obtain ⟨lG, hlGe⟩ : ∃ l, ys.length = l := ⟨_, rfl⟩
    rw [hlGe] at cG haG sG hG1 hbl ⊢
    have HAG := Lib.hid haG
    have HSG := Lib.hid sG
    have HG1 := Lib.hid hG1
    have HBL := Lib.hid hbl
    clear hpG haG sG hG1 hbl hlGe
    have hlG : lG ≤ 1048576 := by rw [← cG.lenEq]; omega
    have s4 := r4.size
    have hB4 : Below w.heap.size w u4 := hB3.trans (r4.mono hB3.size)
    have qM4 := qM3.below r4 (by omega)
    have qx0_4 := qx0_3.below r4 (by omega)
    clear hB3 qM3 qx0_3
    have qG4 := SameOn.refl u3.heap.size u4.heap.size u4
    go_wp2_with fail
    refine (eqIntSS_any _ _ _ _ _ _ _ _ ys ys _ (qG4.rows cG) (qM4.rows cM)).mono ?_
    rintro e u5 ⟨rfl, d5⟩
    have s5 := (d5.below u4.heap.size).size
    have hB5 : Below w.heap.size w u5 := hB4.trans ((d5.below u4.heap.size).mono hB4.size)
    have qM5 := qM4.below (d5.below u4.heap.size) (by omega)
    have qx0_5 := qx0_4.below (d5.below u4.heap.size) (by omega)
    have qG5 := qG4.below (d5.below u4.heap.size) (by omega)
    clear hB4 qM4 qx0_4 qG4
    go_wp2_with fail
    refine (toInts_new a0 len0 cap0 x0 u5 (ints_lift o0 hB5) hL0).mono ?_
    rintro e u6 ⟨rfl, cy0_, fy0_, r6⟩
    have s6 := r6.size
    have hB6 : Below w.heap.size w u6 := hB5.trans (r6.mono hB5.size)
    have qM6 := qM5.below r6 (by omega)
    have qx0_6 := qx0_5.below r6 (by omega)
    have qG6 := qG5.below r6 (by omega)
    clear hB5 qM5 qx0_5 qG5
    have qy0_6 := SameOn.refl u5.heap.size u6.heap.size u6
    go_wp2_with fail
    refine (eqIntS_any _ _ _ _ _ _ _ _ x0 x0 _ (qx0_6.ints cx0_) (qy0_6.ints cy0_)).mono ?_
    rintro e u7 ⟨rfl, d7⟩
    have s7 := (d7.below u6.heap.size).size
    have hB7 : Below w.heap.size w u7 := hB6.trans ((d7.below u6.heap.size).mono hB6.size)
    have qM7 := qM6.below (d7.below u6.heap.size) (by omega)
    have qx0_7 := qx0_6.below (d7.below u6.heap.size) (by omega)
    have qG7 := qG6.below (d7.below u6.heap.size) (by omega)
    have qy0_7 := qy0_6.below (d7.below u6.heap.size) (by omega)
    clear hB6 qM6 qx0_6 qG6 qy0_6
    -- the arguments are marked
    go_wp2_with fail
    refine (markIntS_any _ _ len0 _ 1 u7 (qx0_7.free fx0_) (by omega) (by omega) (by omega)).mono ?_
    rintro e u8 ⟨rfl, _, k8⟩
    generalize hK0 : 1 + (len0 : Int) = km0
    have hk0 : 0 ≤ km0 := by omega
    have hk0u : km0 ≤ 1 + 1048576 := by omega
    clear hK0
    have s8 := Nat.le_of_eq k8.size.symm
    have s8r := Nat.le_of_eq k8.size
    have hB8 : Below w.heap.size w u8 := hB7.trans (k8.below (fun q hq => by omega))
    have qM8 := qM7.kept k8 (fun q hq => by omega)
    have qG8 := qG7.kept k8 (fun q hq => by omega)
    clear hB7 qM7 qG7
    go_wp2_with fail
    refine (eqIntSS_any _ _ _ _ _ _ _ _ ys ys _ (qG8.rows cG) (qM8.rows cM)).mono ?_
    rintro e u9 ⟨rfl, d9⟩
    have s9 := (d9.below u8.heap.size).size
    have hB9 : Below w.heap.size w u9 := hB8.trans ((d9.below u8.heap.size).mono hB8.size)
    have qM9 := qM8.below (d9.below u8.heap.size) (by omega)
    have qG9 := qG8.below (d9.below u8.heap.size) (by omega)
    clear hB8 qM8 qG8
    -- the answer is marked
    go_wp2_with fail
    have sG9 := HSG.out.to (w' := u9) (fun h => qG9 G (HG1.out h).1 (HG1.out h).2) (fun i hi h0 => qG9 (bl i) (HBL.out i hi).1 (HBL.out i hi).2)
    refine (markRows11_any aG kG HAG.out sG9).mono ?_
    rintro e u10 ⟨rfl, mH, kk10⟩
    have HSH := Lib.hid (sG9.kept kk10)
    have HMH := Lib.hid mH
    have k10 := kk10.wide (T := fun q => u3.heap.size ≤ q) (fun q hq => by obtain ⟨i, hi, rfl⟩ := hq; exact (HBL.out i hi).1)
    clear sG9 mH kk10
    have s10 := Nat.le_of_eq k10.size.symm
    have s10r := Nat.le_of_eq k10.size
    have hB10 : Below w.heap.size w u10 := hB9.trans (k10.below (fun q hq => by omega))
    have qM10 := qM9.kept k10 (fun q hq => by omega)
    clear hB9 qM9
    have qH10 := SameOn.refl u3.heap.size u4.heap.size u10
    have hlG0 : 0 ≤ 1 + ((pre11 LG lG : Nat) : Int) := by omega
    clear k10
    go_wp2_with fail
    refine (heldRows11_any aG kG HAG.out HSH.out HMH.out).mono ?_
    rintro e u ⟨rfl, rfl⟩
    go_wp2_with fail
    refine (toInts_new a0 len0 cap0 x0 u10 (ints_lift o0 hB10) hL0).mono ?_
    rintro e u11 ⟨rfl, cz0_, fz0_, r11⟩
    have s11 := r11.size
    have hB11 : Below w.heap.size w u11 := hB10.trans (r11.mono hB10.size)
    have qM11 := qM10.below r11 (by omega)
    have qH11 := qH10.below r11 (by omega)
    clear hB10 qM10 qH10
    have qz0_11 := SameOn.refl u10.heap.size u11.heap.size u11
    go_wp2_with fail
    refine (patternsOf_implP _ _ _ x0 n1 u11 (ints_in (qz0_11.ints cz0_) (by omega)) (Nat.le_refl _)).mono ?_
    rintro e u12 ⟨vZ, rfl, hpZ, r12⟩
    rw [HRES.out] at hpZ
    obtain ⟨aZ, kZ, hvZ, _⟩ := hpZ.slice
    subst hvZ
    have cZ := hpZ.rowsAt rfl (by omega)
    clear hpZ
    have s12 := r12.size
    have hB12 : Below w.heap.size w u12 := hB11.trans (r12.mono hB11.size)
    have qM12 := qM11.below r12 (by omega)
    have qH12 := qH11.below r12 (by omega)
    have qz0_12 := qz0_11.below r12 (by omega)
    clear hB11 qM11 qH11 qz0_11
    have qZ12 := SameOn.refl u11.heap.size u12.heap.size u12
    go_wp2_with fail
    refine (eqIntSS_any _ _ _ _ _ _ _ _ ys ys _ (qZ12.rows cZ) (qM12.rows cM)).mono ?_
    rintro e u13 ⟨rfl, d13⟩
    have s13 := (d13.below u12.heap.size).size
    have hB13 : Below w.heap.size w u13 := hB12.trans ((d13.below u12.heap.size).mono hB12.size)
    have qM13 := qM12.below (d13.below u12.heap.size) (by omega)
    have qH13 := qH12.below (d13.below u12.heap.size) (by omega)
    have qz0_13 := qz0_12.below (d13.below u12.heap.size) (by omega)
    have qZ13 := qZ12.below (d13.below u12.heap.size) (by omega)
    clear hB12 qM12 qH12 qz0_12 qZ12
    go_wp2_with fail
    refine (heldRows11_any aG kG HAG.out (HSH.out.to (w' := u13) (fun h => qH13 G (HG1.out h).1 (HG1.out h).2) (fun i hi h0 => qH13 (bl i) (HBL.out i hi).1 (HBL.out i hi).2)) (HMH.out.to (fun i hi h0 => qH13 (bl i) (HBL.out i hi).1 (HBL.out i hi).2))).mono ?_
    rintro e u ⟨rfl, rfl⟩
    go_wp2_with fail
    go_ret
    exact ⟨rfl, hB13⟩
  · go_enter Try.func6, Try.ntmps6
    go_wp2
    go_ret
    exact ⟨rfl, Below.refl _ _⟩
end Go.Proofs.Ythmifadnfaajbac
