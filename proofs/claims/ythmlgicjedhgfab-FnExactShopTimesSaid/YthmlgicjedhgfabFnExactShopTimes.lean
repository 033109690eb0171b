/- The walk of the law FnExactShopTimes: it returns true at all arguments, and what was there reads as it read before. No condition. -/
import Derived.Test.YthmlgicjedhgfabRows
import Derived.WalkKit
import Derived.Outline
import Derived.WalkSpells
import Derived.WalkLawsBesides
import Derived.ProofKit
import Derived.Test.YthmlgicjedhgfabM0
import Derived.Test.YthmlgicjedhgfabM1
import Derived.Test.YthmlgicjedhgfabM2
import Derived.Test.YthmlgicjedhgfabM19
namespace Go.Proofs.Ythmlgicjedhgfab
open Go.RowKit Go.WideShapes

set_option maxRecDepth 100000 in
set_option maxHeartbeats 2000000 in
theorem fnExactShopTimes_any (a0 : Option Addr) (len0 cap0 : Nat) (x0 : List (List (List Int))) (a1 : Option Addr) (len1 cap1 : Nat) (x1 : List Int) (w : World) (o0 : ShopAt w (· < w.heap.size) a0 len0 x0) (o1 : IntsAt w (· < w.heap.size) a1 len1 x1) :
    Calls Try.prog 4 #[.slice a0 len0 cap0, .slice a1 len1 cap1] w (LawPost w) := by
  by_cases hL1 : len1 ≤ 1048576
  · go_enter Try.func4, Try.ntmps4
    go_wp2_with fail
    refine (szIntSSS_any _ a0 len0 cap0 x0 1048576 w o0 (by omega) (by omega)).mono ?_
    rintro e w0 ⟨q, rfl, _, hq, rfl⟩
    by_cases h0 : 0 ≤ q
    · obtain ⟨hl, hr⟩ := hq h0
      have HR0 := Lib.hid hr
      have hL0 : len0 ≤ 1048576 := by omega
      clear hq hr
      have hRL := timesRows_len x0 x1
      generalize hRES : (timesRows x0 x1) = ys at hRL
      have HRES := Lib.hid hRES
      clear hRES
      have heq : eqRB ys ys = true := decide_eq_true rfl
      generalize hRESB : (timesN x0 x1) = yb
      have HRESB := Lib.hid hRESB
      clear hRESB
      have hyb : (yb == yb) = true := by simp
      have heq10 : eqSB x0 x0 = true := decide_eq_true rfl
      have heq11 : eqB x1 x1 = true := decide_eq_true rfl
      have hB0 := Below.refl w.heap.size w
      -- the model's answer
      go_wp2_with fail
      refine (toShopF_new a0 len0 cap0 x0 w (shop_lift3 o0 hB0) hL0 HR0.out).mono ?_
      rintro e u1 ⟨rfl, cm0_, fm0_, tm0_, r1⟩
      have s1 := r1.size
      have hB1 : Below w.heap.size w u1 := hB0.trans (r1.mono hB0.size)
      skip
      have qm0_1 := SameOn.refl w.heap.size u1.heap.size u1
      go_wp2_with fail
      refine (toInts_new a1 len1 cap1 x1 u1 (ints_lift o1 hB1) hL1).mono ?_
      rintro e u2 ⟨rfl, cm1_, fm1_, r2⟩
      have s2 := r2.size
      have hB2 : Below w.heap.size w u2 := hB1.trans (r2.mono hB1.size)
      have qm0_2 := qm0_1.below r2 (by omega)
      clear hB1 qm0_1
      have qm1_2 := SameOn.refl u1.heap.size u2.heap.size u2
      go_wp2_with fail
      refine (shopTimes_any _ _ _ x0 _ _ _ x1 u2 (shop_in (qm0_2.shop cm0_) (by omega)) (ints_in (qm1_2.ints cm1_) (by omega)) ).mono ?_
      rintro e u3 ⟨aM, lM, kM, rfl, cM, _, r3⟩
      rw [HRES.out] at cM
      rw [HRESB.out]
      have s3 := r3.size
      have hB3 : Below w.heap.size w u3 := hB2.trans (r3.mono hB2.size)
      have qm0_3 := qm0_2.below r3 (by omega)
      have qm1_3 := qm1_2.below r3 (by omega)
      clear hB2 qm0_2 qm1_2
      have qM3 := SameOn.refl u2.heap.size u3.heap.size u3
      -- the code's answer
      go_wp2_with fail
      refine (toShopF_new a0 len0 cap0 x0 u3 (shop_lift3 o0 hB3) hL0 HR0.out).mono ?_
      rintro e u4 ⟨rfl, cx0_, fx0_, tx0_, r4⟩
      have s4 := r4.size
      have hB4 : Below w.heap.size w u4 := hB3.trans (r4.mono hB3.size)
      have qM4 := qM3.below r4 (by omega)
      clear hB3 qM3
      have qx0_4 := SameOn.refl u3.heap.size u4.heap.size u4
      go_wp2_with fail
      refine (toInts_new a1 len1 cap1 x1 u4 (ints_lift o1 hB4) hL1).mono ?_
      rintro e u5 ⟨rfl, cx1_, fx1_, r5⟩
      have s5 := r5.size
      have hB5 : Below w.heap.size w u5 := hB4.trans (r5.mono hB4.size)
      have qM5 := qM4.below r5 (by omega)
      have qx0_5 := qx0_4.below r5 (by omega)
      clear hB4 qM4 qx0_4
      have qx1_5 := SameOn.refl u4.heap.size u5.heap.size u5
      go_wp2_with fail
      refine (shopTimes_ownC _ _ _ x0 _ _ _ x1 u5 (shop_in (qx0_5.shop cx0_) (by omega)) (ints_in (qx1_5.ints cx1_) (by omega)) (Nat.le_refl _) (Nat.le_refl _)).mono ?_
      rintro e u6 ⟨aG, lG, kG, rfl, oG⟩
      rw [HRES.out] at oG
      rw [HRESB.out]
      have cG := (oG.at' (by omega)).2.2
      have r6 := oG.below7
      have HG7 := Lib.hid (oG.sep7 hRL)
      clear oG
      have s6 := r6.size
      have hB6 : Below w.heap.size w u6 := hB5.trans (r6.mono hB5.size)
      have qM6 := qM5.below r6 (by omega)
      have qx0_6 := qx0_5.below r6 (by omega)
      have qx1_6 := qx1_5.below r6 (by omega)
      clear hB5 qM5 qx0_5 qx1_5
      have qG6 := SameOn.refl u5.heap.size u6.heap.size u6
      go_wp2_with fail
      refine (eqIntSS_any _ _ _ _ _ _ _ _ ys ys _ (qG6.rows cG) (qM6.rows cM)).mono ?_
      rintro e u7 ⟨rfl, d7⟩
      have s7 := (d7.below u6.heap.size).size
      have hB7 : Below w.heap.size w u7 := hB6.trans ((d7.below u6.heap.size).mono hB6.size)
      have qM7 := qM6.below (d7.below u6.heap.size) (by omega)
      have qx0_7 := qx0_6.below (d7.below u6.heap.size) (by omega)
      have qx1_7 := qx1_6.below (d7.below u6.heap.size) (by omega)
      have qG7 := qG6.below (d7.below u6.heap.size) (by omega)
      clear hB6 qM6 qx0_6 qx1_6 qG6
      go_wp2_with fail
      refine (toShopF_new a0 len0 cap0 x0 u7 (shop_lift3 o0 hB7) hL0 HR0.out).mono ?_
      rintro e u8 ⟨rfl, cy0_, fy0_, ty0_, r8⟩
      have s8 := r8.size
      have hB8 : Below w.heap.size w u8 := hB7.trans (r8.mono hB7.size)
      have qM8 := qM7.below r8 (by omega)
      have qx0_8 := qx0_7.below r8 (by omega)
      have qx1_8 := qx1_7.below r8 (by omega)
      have qG8 := qG7.below r8 (by omega)
      clear hB7 qM7 qx0_7 qx1_7 qG7
      have qy0_8 := SameOn.refl u7.heap.size u8.heap.size u8
      go_wp2_with fail
      refine (eqIntSSS_any _ _ _ _ _ _ _ _ x0 x0 _ (qx0_8.shop cx0_) (qy0_8.shop cy0_)).mono ?_
      rintro e u9 ⟨rfl, d9⟩
      have s9 := (d9.below u8.heap.size).size
      have hB9 : Below w.heap.size w u9 := hB8.trans ((d9.below u8.heap.size).mono hB8.size)
      have qM9 := qM8.below (d9.below u8.heap.size) (by omega)
      have qx0_9 := qx0_8.below (d9.below u8.heap.size) (by omega)
      have qx1_9 := qx1_8.below (d9.below u8.heap.size) (by omega)
      have qG9 := qG8.below (d9.below u8.heap.size) (by omega)
      have qy0_9 := qy0_8.below (d9.below u8.heap.size) (by omega)
      clear hB8 qM8 qx0_8 qx1_8 qG8 qy0_8
      go_wp2_with fail
      refine (toInts_new a1 len1 cap1 x1 u9 (ints_lift o1 hB9) hL1).mono ?_
      rintro e u10 ⟨rfl, cy1_, fy1_, r10⟩
      have s10 := r10.size
      have hB10 : Below w.heap.size w u10 := hB9.trans (r10.mono hB9.size)
      have qM10 := qM9.below r10 (by omega)
      have qx0_10 := qx0_9.below r10 (by omega)
      have qx1_10 := qx1_9.below r10 (by omega)
      have qG10 := qG9.below r10 (by omega)
      clear hB9 qM9 qx0_9 qx1_9 qG9
      have qy1_10 := SameOn.refl u9.heap.size u10.heap.size u10
      go_wp2_with fail
      refine (eqIntS_any _ _ _ _ _ _ _ _ x1 x1 _ (qx1_10.ints cx1_) (qy1_10.ints cy1_)).mono ?_
      rintro e u11 ⟨rfl, d11⟩
      have s11 := (d11.below u10.heap.size).size
      have hB11 : Below w.heap.size w u11 := hB10.trans ((d11.below u10.heap.size).mono hB10.size)
      have qM11 := qM10.below (d11.below u10.heap.size) (by omega)
      have qx0_11 := qx0_10.below (d11.below u10.heap.size) (by omega)
      have qx1_11 := qx1_10.below (d11.below u10.heap.size) (by omega)
      have qG11 := qG10.below (d11.below u10.heap.size) (by omega)
      have qy1_11 := qy1_10.below (d11.below u10.heap.size) (by omega)
      clear hB10 qM10 qx0_10 qx1_10 qG10 qy1_10
      -- the arguments are marked
      go_wp2_with fail
      refine (markShop_any u3.heap.size u4.heap.size _ len0 _ 1 u11 (qx0_11.sfree fx0_) (by omega) (by omega)).mono ?_
      rintro e u12 ⟨km0, rfl, hk0, hk0u, k12⟩
      have s12 := Nat.le_of_eq k12.size.symm
      have s12r := Nat.le_of_eq k12.size
      have hB12 : Below w.heap.size w u12 := hB11.trans (k12.below (fun q hq => by omega))
      have qM12 := qM11.kept k12 (fun q hq => by omega)
      have qx1_12 := qx1_11.kept k12 (fun q hq => by omega)
      have qG12 := qG11.kept k12 (fun q hq => by omega)
      clear hB11 qM11 qx1_11 qG11
      have hk0z : 0 ≤ km0 := by omega
      go_wp2_with fail
      refine (markIntS_any _ _ len1 _ km0 u12 (qx1_12.free fx1_) (by omega) (by omega) (by omega)).mono ?_
      rintro e u13 ⟨rfl, _, k13⟩
      generalize hK1 : km0 + (len1 : Int) = km1
      have hk1 : 0 ≤ km1 := by omega
      have hk1u : km1 ≤ km0 + 1048576 := by omega
      clear hK1
      have s13 := Nat.le_of_eq k13.size.symm
      have s13r := Nat.le_of_eq k13.size
      have hB13 : Below w.heap.size w u13 := hB12.trans (k13.below (fun q hq => by omega))
      have qM13 := qM12.kept k13 (fun q hq => by omega)
      have qG13 := qG12.kept k13 (fun q hq => by omega)
      clear hB12 qM12 qG12
      go_wp2_with fail
      refine (eqIntSS_any _ _ _ _ _ _ _ _ ys ys _ (qG13.rows cG) (qM13.rows cM)).mono ?_
      rintro e u14 ⟨rfl, d14⟩
      have s14 := (d14.below u13.heap.size).size
      have hB14 : Below w.heap.size w u14 := hB13.trans ((d14.below u13.heap.size).mono hB13.size)
      have qM14 := qM13.below (d14.below u13.heap.size) (by omega)
      have qG14 := qG13.below (d14.below u13.heap.size) (by omega)
      clear hB13 qM13 qG13
      -- the answer is marked
      go_wp2_with fail
      obtain ⟨bG, ofG, AG, LG, CG, blG, haG, sG, hbG, hblG⟩ := HG7.out
      have sG14 := sG.to (w' := u14) (fun h => qG14 bG (hbG h).1 (hbG h).2) (fun i hi h0 => qG14 (blG i) (hblG i hi).1 ((hblG i hi).2 h0))
      refine (markRows_any aG kG haG sG14).mono ?_
      rintro e u15 ⟨rfl, mH, kk15⟩
      have HsH := Lib.hid (sG14.kept kk15)
      have HmH := Lib.hid mH
      have HaG := Lib.hid haG
      have k15 := kk15.wide (T := fun q => u5.heap.size ≤ q) (fun q hq => by obtain ⟨i, hi, rfl⟩ := hq; exact (hblG i hi).1)
      have HbG := Lib.hid hbG
      have HblG := Lib.hid hblG
      clear mH haG sG sG14 hbG hblG kk15 HG7
      have s15 := Nat.le_of_eq k15.size.symm
      have s15r := Nat.le_of_eq k15.size
      have hB15 : Below w.heap.size w u15 := hB14.trans (k15.below (fun q hq => by omega))
      have qM15 := qM14.kept k15 (fun q hq => by omega)
      clear hB14 qM14
      have qH15 := SameOn.refl u5.heap.size u6.heap.size u15
      have hlG0 : 0 ≤ 1 + ((pre7 LG lG : Nat) : Int) := by omega
      go_wp2_with fail
      refine (heldRows_any aG kG HaG.out (HsH.out.to (w' := u15) (fun h => qH15 bG (HbG.out h).1 (HbG.out h).2) (fun i hi h0 => qH15 (blG i) (HblG.out i hi).1 ((HblG.out i hi).2 h0))) (HmH.out.to (fun i hi h0 => qH15 (blG i) (HblG.out i hi).1 ((HblG.out i hi).2 h0)))).mono ?_
      rintro e u ⟨rfl, rfl⟩
      go_wp2_with fail
      refine (toShopF_new a0 len0 cap0 x0 u15 (shop_lift3 o0 hB15) hL0 HR0.out).mono ?_
      rintro e u16 ⟨rfl, cz0_, fz0_, tz0_, r16⟩
      have s16 := r16.size
      have hB16 : Below w.heap.size w u16 := hB15.trans (r16.mono hB15.size)
      have qM16 := qM15.below r16 (by omega)
      have qH16 := qH15.below r16 (by omega)
      clear hB15 qM15 qH15
      have qz0_16 := SameOn.refl u15.heap.size u16.heap.size u16
      go_wp2_with fail
      refine (toInts_new a1 len1 cap1 x1 u16 (ints_lift o1 hB16) hL1).mono ?_
      rintro e u17 ⟨rfl, cz1_, fz1_, r17⟩
      have s17 := r17.size
      have hB17 : Below w.heap.size w u17 := hB16.trans (r17.mono hB16.size)
      have qM17 := qM16.below r17 (by omega)
      have qH17 := qH16.below r17 (by omega)
      have qz0_17 := qz0_16.below r17 (by omega)
      clear hB16 qM16 qH16 qz0_16
      have qz1_17 := SameOn.refl u16.heap.size u17.heap.size u17
      go_wp2_with fail
      refine (shopTimes_ownC _ _ _ x0 _ _ _ x1 u17 (shop_in (qz0_17.shop cz0_) (by omega)) (ints_in (qz1_17.ints cz1_) (by omega)) (Nat.le_refl _) (Nat.le_refl _)).mono ?_
      rintro e u18 ⟨aZ, lZ, kZ, rfl, oZ⟩
      rw [HRES.out] at oZ
      rw [HRESB.out]
      have cZ := (oZ.at' (by omega)).2.2
      have r18 := oZ.below7
      clear oZ
      have s18 := r18.size
      have hB18 : Below w.heap.size w u18 := hB17.trans (r18.mono hB17.size)
      have qM18 := qM17.below r18 (by omega)
      have qH18 := qH17.below r18 (by omega)
      have qz0_18 := qz0_17.below r18 (by omega)
      have qz1_18 := qz1_17.below r18 (by omega)
      clear hB17 qM17 qH17 qz0_17 qz1_17
      have qZ18 := SameOn.refl u17.heap.size u18.heap.size u18
      go_wp2_with fail
      refine (eqIntSS_any _ _ _ _ _ _ _ _ ys ys _ (qZ18.rows cZ) (qM18.rows cM)).mono ?_
      rintro e u19 ⟨rfl, d19⟩
      have s19 := (d19.below u18.heap.size).size
      have hB19 : Below w.heap.size w u19 := hB18.trans ((d19.below u18.heap.size).mono hB18.size)
      have qM19 := qM18.below (d19.below u18.heap.size) (by omega)
      have qH19 := qH18.below (d19.below u18.heap.size) (by omega)
      have qz0_19 := qz0_18.below (d19.below u18.heap.size) (by omega)
      have qz1_19 := qz1_18.below (d19.below u18.heap.size) (by omega)
      have qZ19 := qZ18.below (d19.below u18.heap.size) (by omega)
      clear hB18 qM18 qH18 qz0_18 qz1_18 qZ18
      go_wp2_with fail
      refine (heldRows_any aG kG HaG.out (HsH.out.to (w' := u19) (fun h => qH19 bG (HbG.out h).1 (HbG.out h).2) (fun i hi h0 => qH19 (blG i) (HblG.out i hi).1 ((HblG.out i hi).2 h0))) (HmH.out.to (fun i hi h0 => qH19 (blG i) (HblG.out i hi).1 ((HblG.out i hi).2 h0)))).mono ?_
      rintro e u ⟨rfl, rfl⟩
      go_wp2_with fail
      go_ret
      exact ⟨rfl, hB19⟩
    · go_wp2
      go_ret
      exact ⟨rfl, Below.refl _ _⟩
  · go_enter Try.func4, Try.ntmps4
    go_wp2
    go_ret
    exact ⟨rfl, Below.refl _ _⟩
end Go.Proofs.Ythmlgicjedhgfab
