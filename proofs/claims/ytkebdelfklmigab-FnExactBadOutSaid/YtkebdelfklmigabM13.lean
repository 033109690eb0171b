import Derived.Test.YtkebdelfklmigabRows
import Derived.WalkKit
import Derived.LoopTactic
import Derived.Outline
import Derived.WalkSpells
import Derived.WalkLawsBesides
import Derived.ProofKit
import Derived.Lib.Hide
import Derived.IntWalk
import Derived.Deep.QuietTactic
import Derived.BigQuiet
import Derived.Deep.RegionHeld3
import Derived.Test.YtkebdelfklmigabM10
import Derived.Test.YtkebdelfklmigabM11
import Derived.Test.YtkebdelfklmigabM12
namespace Go.Proofs.Ytkebdelfklmigab
open Go.RowKit Go.WideShapes
set_option maxRecDepth 100000 in
set_option maxHeartbeats 4000000 in
theorem badOut_impl (lot bad size most : Int) (w : World) :
    Calls Try.prog 15 #[.int .i64 lot, .int .i64 bad, .int .i64 size, .int .i64 most] w (FracBP w (badU lot bad size most) (badD lot bad size most) (planB lot bad size most)) := by
  have HV := Lib.hid (fun w' => isValid_any lot bad size most w')
  have ht1 := two_new w (.int .i64 0) (.int .i64 0) 26
  have hb1 := below_alloc w (.cells #[.int .i64 0, .int .i64 0] 26)
  have hz1 : (w.alloc (.cells #[.int .i64 0, .int .i64 0] 26)).heap.size = w.heap.size + 1 := by simp
  obtain ⟨w1, hw1⟩ : ∃ w1, (w.alloc (.cells #[.int .i64 0, .int .i64 0] 26)) = w1 := ⟨_, rfl⟩
  rw [hw1] at ht1 hb1 hz1
  have hf2 := four_new w1 lot bad size most 39
  have ht2 := ht1.lift (below_alloc w1 (.cells #[.int .i64 lot, .int .i64 bad, .int .i64 size, .int .i64 most] 39))
  have hb2 := hb1.alloc (by omega) (.cells #[.int .i64 lot, .int .i64 bad, .int .i64 size, .int .i64 most] 39)
  have hz2 : (w1.alloc (.cells #[.int .i64 lot, .int .i64 bad, .int .i64 size, .int .i64 most] 39)).heap.size = w.heap.size + 2 := by simp; omega
  obtain ⟨w2, hw2⟩ : ∃ w2, (w1.alloc (.cells #[.int .i64 lot, .int .i64 bad, .int .i64 size, .int .i64 most] 39)) = w2 := ⟨_, rfl⟩
  rw [hw2] at hf2 ht2 hb2 hz2
  rw [hz1] at hf2
  have HW1 := Lib.hid hw1
  have HW2 := Lib.hid hw2
  have HT2 := Lib.hid ht2
  have HF2 := Lib.hid hf2
  have HB2 := Lib.hid hb2
  have HS2 := Lib.hid hz2
  clear hw1 hw2 ht1 hb1 hz1 hf2 ht2 hb2 hz2
  have HEND := Lib.hid (fun w' (h : Below w2.heap.size w2 w') (U D : Nat) => And.intro ((((HT2.out.lift h).set0 (.int .i64 U)).set1 (.int .i64 D))) (((HB2.out.trans (h.mono HB2.out.size)).setCell (p := ⟨w.heap.size, 0, none⟩) (Nat.le_refl _) (.int .i64 U)).setCell (p := ⟨w.heap.size, 1, none⟩) (Nat.le_refl _) (.int .i64 D)))
  cases hv : planB lot bad size most
  · obtain ⟨p1, p2, p3, p4⟩ := pass_no hv
    rw [p3, p4]
    rw [hv] at HV
    clear p1 p2 p3 p4 hv
    go_enter Try.func15, Try.ntmps15
    go_wp2_with fail
    rw [HW1.out, HW2.out]
    obtain ⟨a0, a1, a2, a3⟩ := HF2.out
    go_wp2_with fail
    refine (HV.out w2).mono ?_
    rintro e w3 ⟨rfl, hb3⟩
    have HE := Lib.hid (HEND.out w3 hb3 0 0)
    obtain ⟨⟨r0, z0⟩, r1, z1⟩ := HT2.out.lift hb3
    clear a0 a1 a2 a3 hb3
    go_wp2_with fail
    have v0 := HE.out.1.1.1
    have v1 := HE.out.1.2.1
    exact bodyPost_ret (v := .tuple #[.agg #[.int .i64 0, .int .i64 0], .bool false]) (by simp [results, Try.results15, go_sem] at v0 v1 ⊢; simp [go_sem, v0, v1]) rfl ⟨rfl, HE.out.2⟩
  · obtain ⟨l, b, s, m, rfl, rfl, rfl, rfl, h1, h12, hbl, hsl, hm⟩ := plan_get hv
    obtain ⟨p1, p2, p3, p4⟩ := pass_yes hv
    rw [p3, p4]
    obtain ⟨c1, c2⟩ := ch_1 h12 hsl
    have HMIN := Lib.hid (psum_min (size := s) h12 hbl hm).2
    have HCH := Lib.hid (fun k (hk : k ≤ 12) => chanceOf_any l b s k (m : Int) h12 hbl hsl hk)
    have HPB := Lib.hid (show ∀ k, k ≤ 13 → psum l b s k ≤ 924 from fun k hk => Nat.le_trans (psum_le h12 hbl hsl hk) c2)
    have HB := Lib.hid (show ∀ k, k ≤ 13 → bsum l b s k ≤ 11088 from fun k hk => Nat.le_trans (bsum_le k) (Nat.le_trans (Nat.mul_le_mul (show b ≤ 12 by omega) (HPB.out k hk)) (by omega)))
    have HTB := Lib.hid (show ∀ k, k ≤ 12 → trm l b s k ≤ 924 from fun k hk => by have := HPB.out (k + 1) (by omega); rw [psum] at this; omega)
    obtain ⟨z, hz⟩ : ∃ z, ch l s = z := ⟨_, rfl⟩
    rw [hz] at HCH c1 c2 ⊢
    clear hz HPB
    rw [← HMIN.out]
    clear HMIN
    have HF0 := Lib.hid (ifrac_any 0 1 (by omega) (by omega) (by omega))
    rw [show fU 0 1 = 0 from rfl, show fD 0 1 = 1 from rfl] at HF0
    have HZ0 := Lib.hid (f_zero (C := z) c1)
    obtain ⟨q, hq⟩ : ∃ q, min m b = q := ⟨_, rfl⟩
    rw [hq]
    have hqm : q ≤ 12 ∧ q ≤ b := by omega
    have hNI : (if b < m then (b : Int) else (m : Int)) = (q : Int) := by split <;> omega
    have hNV : (if b < m then Value.int .i64 (b : Int) else Value.int .i64 (m : Int)) = Value.int .i64 (q : Int) := by split <;> (congr 1; omega)
    clear hq
    rw [hv] at HV
    clear hv p1 p2 p3 p4
    go_enter Try.func15, Try.ntmps15
    go_wp2_with fail
    rw [HW1.out, HW2.out]
    obtain ⟨a0, a1, a2, a3⟩ := HF2.out
    go_wp2_with fail
    refine (HV.out w2).mono ?_
    rintro e w3 ⟨rfl, hb3⟩
    have HB3 := Lib.hid hb3
    clear a0 a1 a2 a3 hb3
    go_wp2_with fail
    refine (HF0.out w3).mono ?_
    rintro e w4 ⟨rfl, hb4⟩
    have hs2 := HS2.out
    have hs3 := HB3.out.size
    have hs4 := hb4.size
    have HBX := Lib.hid ((HB3.out.trans (hb4.mono HB3.out.size)).alloc (by omega) (.cells #[.int .i64 0, .int .i64 1] 26))
    have HE4 := Lib.hid (two_new w4 (.int .i64 0) (.int .i64 1) 26)
    have hPB : w.heap.size + 2 ≤ w4.heap.size := by omega
    clear hb4 hs3 hs4
    go_wp2_with fail
    clear hNI hNV
    go_loopw [27] (fun i wr => ∃ (k U D : Nat), i = .int .i64 k ∧ k ≤ q + 1 ∧ U = fU (bsum l b s k) z ∧ D = fD (bsum l b s k) z ∧ Two wr w4.heap.size (.int .i64 U) (.int .i64 D) ∧ Below w2.heap.size w2 wr) (fun i _ => q + 1 - (intOf i).toNat)
    case atStart => exact ⟨0, 0, 1, rfl, by omega, HZ0.out.1.symm, HZ0.out.2.symm, HE4.out, HBX.out⟩
    case round =>
      clear HE4 HBX
      obtain ⟨k, U, D, rfl, hk, hU, hD, ht, hb⟩ := hrel
      obtain ⟨wi, rfl⟩ : ∃ wi : World, wi = wr := ⟨_, rfl⟩
      obtain ⟨u1, u2, u3⟩ := f_bd (T := bsum l b s k) c1
      have u4 := HB.out k (by omega)
      rw [← hU] at u1
      rw [← hD] at u2 u3
      have HU := Lib.hid hU
      have HD := Lib.hid hD
      clear hU hD
      have hwb := ht.lt
      have HQ := Lib.hid (show ∀ w', Below wi.heap.size wi w' → Two w' w4.heap.size (.int .i64 U) (.int .i64 D) ∧ Four w' (w.heap.size + 1) l b s m ∧ Below w2.heap.size w2 w' from fun w' h => ⟨ht.lift h, HF2.out.lift (hb.trans (h.mono hb.size)), hb.trans (h.mono hb.size)⟩)
      clear ht hb
      by_cases hkq : k < q + 1
      · have hkI : (k : Int) < (q : Int) + 1 := by omega
        have ht9 := HTB.out k (by omega)
        obtain ⟨v1, v2, v3⟩ := f_bd (T := trm l b s k) c1
        have HC := Lib.hid (HCH.out k (by omega))
        have HBK : Hid ((b : Int) - (k : Int) = ((b - k : Nat) : Int)) := Lib.hid (by omega)
        have HBW : Hid (IntKind.i64.wrap ((b : Int) - (k : Int)) = ((b - k : Nat) : Int)) := Lib.hid (by rw [HBK.out]; exact IntWalk.i64_in _ (by omega))
        have HTI := Lib.hid (times_any (fU (trm l b s k) z) (fD (trm l b s k) z) (b - k) (by omega) (by omega) (by omega))
        have hte := f_times (T := trm l b s k) (n := b - k) c1
        rw [hte.1, hte.2] at HTI
        clear hte
        obtain ⟨x1, x2, x3⟩ := f_bd (T := trm l b s k * (b - k)) c1
        have x4 : trm l b s k * (b - k) ≤ 924 * 12 := Nat.mul_le_mul ht9 (by omega)
        have HPL := Lib.hid (plus_any U D (fU (trm l b s k * (b - k)) z) (fD (trm l b s k * (b - k)) z) (by omega) (by omega) (by omega) (by omega))
        have HEQ := Lib.hid (f_plus (T := bsum l b s k) (T' := trm l b s k * (b - k)) c1)
        rw [← HU.out, ← HD.out] at HEQ
        rw [HEQ.out.1, HEQ.out.2] at HPL
        obtain ⟨V, hV⟩ : ∃ V, fU (trm l b s k) z = V := ⟨_, rfl⟩
        obtain ⟨E, hE⟩ : ∃ E, fD (trm l b s k) z = E := ⟨_, rfl⟩
        obtain ⟨V2, hV2⟩ : ∃ V2, fU (trm l b s k * (b - k)) z = V2 := ⟨_, rfl⟩
        obtain ⟨E2, hE2⟩ : ∃ E2, fD (trm l b s k * (b - k)) z = E2 := ⟨_, rfl⟩
        rw [hV, hE] at HC HTI
        rw [hV2, hE2] at HPL HTI
        clear v1 v2 v3 x1 x2 x3 x4
        obtain ⟨U2, hU2⟩ : ∃ U2, fU (bsum l b s k + trm l b s k * (b - k)) z = U2 := ⟨_, rfl⟩
        obtain ⟨D2, hD2⟩ : ∃ D2, fD (bsum l b s k + trm l b s k * (b - k)) z = D2 := ⟨_, rfl⟩
        rw [hU2, hD2] at HPL
        have HU2 := Lib.hid hU2
        have HD2 := Lib.hid hD2
        clear hV hE hV2 hE2 hU2 hD2 HEQ ht9
        obtain ⟨dd, hdd⟩ : ∃ dd : Nat, b - k = dd := ⟨_, rfl⟩
        rw [hdd] at HBW HTI
        clear hdd HBK
        unfold FracP at HC HPL HTI
        have HD0 : Hid (Below wi.heap.size wi wi.drew) := Lib.hid (Below.refl _ _).drew
        obtain ⟨f0, f1, f2, f3⟩ := (HQ.out _ (Below.refl _ _)).2.1
        have hp0 : w4.heap.size ≠ w.heap.size + 1 := by omega
        go_wp2_with fail
        refine wp_region_held_drew (S := (fun w' => wi.drew.grownBy w' (some w4.heap.size))) (by kernel_rfl) (grown_refl _ _) (fun hHeld => ?_)
        refine wpAnyH_take (i := 1) (v := .agg #[.int .i64 l, .int .i64 b, .int .i64 s, .int .i64 m]) rfl (by kernel_rfl) (by kernel_rfl) (by kernel_rfl) (fun _ _ _ h => h) (Or.inl ⟨by rfl, ?_⟩) hHeld ?_
        · intro w' hS; have k0 := hS.cell (show wi.drew.cell? ⟨w.heap.size + 1, 0, none⟩ = _ from f0) (by simp; omega); have k1 := hS.cell (show wi.drew.cell? ⟨w.heap.size + 1, 1, none⟩ = _ from f1) (by simp; omega); have k2 := hS.cell (show wi.drew.cell? ⟨w.heap.size + 1, 2, none⟩ = _ from f2) (by simp; omega); have k3 := hS.cell (show wi.drew.cell? ⟨w.heap.size + 1, 3, none⟩ = _ from f3) (by simp; omega); go_simp
        try simp only [Act.put, List.setIfInBounds_toArray, List.set_cons_zero, List.set_cons_succ, List.getElem_toArray, List.getElem_cons_succ, List.getElem_cons_zero]
        refine wpAnyH_take (i := 2) (v := .int .i64 k) rfl (by kernel_rfl) (by kernel_rfl) (by kernel_rfl) (fun _ _ _ h => h) (Or.inl ⟨by rfl, ?_⟩) hHeld ?_
        · intro w' hS; go_simp
        try simp only [Act.put, List.setIfInBounds_toArray, List.set_cons_zero, List.set_cons_succ, List.getElem_toArray, List.getElem_cons_succ, List.getElem_cons_zero]
        refine wpAnyH_take (i := 4) (v := .int .i64 b) rfl (by kernel_rfl) (by kernel_rfl) (by kernel_rfl) (fun _ _ _ h => h) (Or.inl ⟨by rfl, ?_⟩) hHeld ?_
        · intro w' hS; go_simp
        try simp only [Act.put, List.setIfInBounds_toArray, List.set_cons_zero, List.set_cons_succ, List.getElem_toArray, List.getElem_cons_succ, List.getElem_cons_zero]
        refine wpAnyH_take (i := 5) (v := .int .i64 k) rfl (by kernel_rfl) (by kernel_rfl) (by kernel_rfl) (fun _ _ _ h => h) (Or.inl ⟨by rfl, ?_⟩) hHeld ?_
        · intro w' hS; go_simp
        try simp only [Act.put, List.setIfInBounds_toArray, List.set_cons_zero, List.set_cons_succ, List.getElem_toArray, List.getElem_cons_succ, List.getElem_cons_zero]
        refine wpAnyH_take (i := 6) (v := .int .i64 dd) rfl (by kernel_rfl) (by kernel_rfl) (by kernel_rfl) (fun _ _ _ h => h) (Or.inl ⟨by rfl, ?_⟩) hHeld ?_
        · intro w' hS; go_simp; rw [← HBW.out, IntWalk.i64_left]
        try simp only [Act.put, List.setIfInBounds_toArray, List.set_cons_zero, List.set_cons_succ, List.getElem_toArray, List.getElem_cons_succ, List.getElem_cons_zero]
        clear f0 f1 f2 f3
        refine wpAnyH_ready (rs := [0, 3]) (by kernel_rfl) (by simp) ?_
        refine (AllReadyH.cons (o := _) rfl (fun K hK => ?_) (AllReadyH.cons (o := _) rfl (fun K hK => ?_) AllReadyH.nil))
        · obtain ⟨⟨b0, bz0⟩, b1, bz1⟩ := (HQ.out _ (HD0.out)).1
          go_simp
          refine hK.out _ _ (grown_of9 (Below.refl wi.drew.heap.size wi.drew) w4.heap.size) (fun hHeld => ?_)
          clear hK K b0 bz0 b1 bz1
          try simp only [Act.put, List.setIfInBounds_toArray, List.set_cons_zero, List.set_cons_succ, List.getElem_toArray, List.getElem_cons_succ, List.getElem_cons_zero]
          refine wpAnyH_ready (rs := [3]) (by kernel_rfl) (by simp) ?_
          refine (AllReadyH.cons (o := _) rfl (fun K hK => ?_) AllReadyH.nil)
          go_simp
          refine (HC.out _).mono ?_
          rintro e wx ⟨rfl, hbx⟩
          have Hwx := Lib.hid (hbx)
          clear hbx
          refine hK.out _ _ (grown_of9 Hwx.out w4.heap.size) (fun hHeld => ?_)
          clear hK K
          try simp only [Act.put, List.setIfInBounds_toArray, List.set_cons_zero, List.set_cons_succ, List.getElem_toArray, List.getElem_cons_succ, List.getElem_cons_zero]
          refine wpAnyH_ready (rs := [7]) (by kernel_rfl) (by simp) ?_
          refine (AllReadyH.cons (o := _) rfl (fun K hK => ?_) AllReadyH.nil)
          go_simp
          refine (HTI.out _).mono ?_
          rintro e wt ⟨rfl, hbx⟩
          have Hwt := Lib.hid (Hwx.out.trans (hbx.mono Hwx.out.size))
          clear hbx
          refine hK.out _ _ (grown_of9 Hwt.out w4.heap.size) (fun hHeld => ?_)
          clear hK K
          try simp only [Act.put, List.setIfInBounds_toArray, List.set_cons_zero, List.set_cons_succ, List.getElem_toArray, List.getElem_cons_succ, List.getElem_cons_zero]
          refine wpAnyH_ready (rs := [8]) (by kernel_rfl) (by simp) ?_
          refine (AllReadyH.cons (o := _) rfl (fun K hK => ?_) AllReadyH.nil)
          go_simp
          refine (HPL.out _).mono ?_
          rintro e wy ⟨rfl, hbx⟩
          have Hwy := Lib.hid (Hwt.out.trans (hbx.mono Hwt.out.size))
          clear hbx
          refine hK.out _ _ (grown_of9 Hwy.out w4.heap.size) (fun hHeld => ?_)
          clear hK K
          try simp only [Act.put, List.setIfInBounds_toArray, List.set_cons_zero, List.set_cons_succ, List.getElem_toArray, List.getElem_cons_succ, List.getElem_cons_zero]
          refine wpAnyH_ready (rs := [9]) (by kernel_rfl) (by simp) ?_
          refine (AllReadyH.cons (o := _) rfl (fun K hK => ?_) AllReadyH.nil)
          obtain ⟨⟨z0, zf0⟩, z1, zf1⟩ := (HQ.out _ (HD0.out.trans (Hwy.out.mono HD0.out.size))).1
          go_simp
          refine hK.out _ _ (grown_comp (grown_of9 Hwy.out w4.heap.size) (grown_comp (grownBy_setCell _ ⟨w4.heap.size, 0, none⟩ _) (grownBy_setCell _ ⟨w4.heap.size, 1, none⟩ _))) (fun hHeld => ?_)
          clear hK K z0 zf0 z1 zf1
          try simp only [Act.put, List.setIfInBounds_toArray, List.set_cons_zero, List.set_cons_succ, List.getElem_toArray, List.getElem_cons_succ, List.getElem_cons_zero]
          refine wpAnyH_done (by kernel_rfl) ?_ _
          clear hHeld
          have hgs : wy.grownBy ((wy.setCell ⟨w4.heap.size, 0, none⟩ (.int .i64 (U2 : Int))).setCell ⟨w4.heap.size, 1, none⟩ (.int .i64 (D2 : Int))) (some w4.heap.size) := grown_comp (grownBy_setCell _ _ _) (grownBy_setCell _ _ _)
          have HGS := Lib.hid hgs
          have HQZ := Lib.hid (HQ.out _ (HD0.out.trans (Hwy.out.mono HD0.out.size)))
          clear hgs
          go_wp2_with fail
          go_roundw
          case rel => exact ⟨k + 1, U2, D2, by go_num, by omega, HU2.out.symm, HD2.out.symm, (HQZ.out.1.set0 _).set1 _, HQZ.out.2.2.trans (below_of9 HGS.out (by omega) HQZ.out.2.2.size)⟩
          case measure => simp [intOf]; omega
        · go_simp
          refine (HC.out _).mono ?_
          rintro e wx ⟨rfl, hbx⟩
          have Hwx := Lib.hid (hbx)
          clear hbx
          refine hK.out _ _ (grown_of9 Hwx.out w4.heap.size) (fun hHeld => ?_)
          clear hK K
          try simp only [Act.put, List.setIfInBounds_toArray, List.set_cons_zero, List.set_cons_succ, List.getElem_toArray, List.getElem_cons_succ, List.getElem_cons_zero]
          refine wpAnyH_ready (rs := [0, 7]) (by kernel_rfl) (by simp) ?_
          refine (AllReadyH.cons (o := _) rfl (fun K hK => ?_) (AllReadyH.cons (o := _) rfl (fun K hK => ?_) AllReadyH.nil))
          · obtain ⟨⟨b0, bz0⟩, b1, bz1⟩ := (HQ.out _ (HD0.out.trans (Hwx.out.mono HD0.out.size))).1
            go_simp
            refine hK.out _ _ (grown_of9 Hwx.out w4.heap.size) (fun hHeld => ?_)
            clear hK K b0 bz0 b1 bz1
            try simp only [Act.put, List.setIfInBounds_toArray, List.set_cons_zero, List.set_cons_succ, List.getElem_toArray, List.getElem_cons_succ, List.getElem_cons_zero]
            refine wpAnyH_ready (rs := [7]) (by kernel_rfl) (by simp) ?_
            refine (AllReadyH.cons (o := _) rfl (fun K hK => ?_) AllReadyH.nil)
            go_simp
            refine (HTI.out _).mono ?_
            rintro e wt ⟨rfl, hbx⟩
            have Hwt := Lib.hid (Hwx.out.trans (hbx.mono Hwx.out.size))
            clear hbx
            refine hK.out _ _ (grown_of9 Hwt.out w4.heap.size) (fun hHeld => ?_)
            clear hK K
            try simp only [Act.put, List.setIfInBounds_toArray, List.set_cons_zero, List.set_cons_succ, List.getElem_toArray, List.getElem_cons_succ, List.getElem_cons_zero]
            refine wpAnyH_ready (rs := [8]) (by kernel_rfl) (by simp) ?_
            refine (AllReadyH.cons (o := _) rfl (fun K hK => ?_) AllReadyH.nil)
            go_simp
            refine (HPL.out _).mono ?_
            rintro e wy ⟨rfl, hbx⟩
            have Hwy := Lib.hid (Hwt.out.trans (hbx.mono Hwt.out.size))
            clear hbx
            refine hK.out _ _ (grown_of9 Hwy.out w4.heap.size) (fun hHeld => ?_)
            clear hK K
            try simp only [Act.put, List.setIfInBounds_toArray, List.set_cons_zero, List.set_cons_succ, List.getElem_toArray, List.getElem_cons_succ, List.getElem_cons_zero]
            refine wpAnyH_ready (rs := [9]) (by kernel_rfl) (by simp) ?_
            refine (AllReadyH.cons (o := _) rfl (fun K hK => ?_) AllReadyH.nil)
            obtain ⟨⟨z0, zf0⟩, z1, zf1⟩ := (HQ.out _ (HD0.out.trans (Hwy.out.mono HD0.out.size))).1
            go_simp
            refine hK.out _ _ (grown_comp (grown_of9 Hwy.out w4.heap.size) (grown_comp (grownBy_setCell _ ⟨w4.heap.size, 0, none⟩ _) (grownBy_setCell _ ⟨w4.heap.size, 1, none⟩ _))) (fun hHeld => ?_)
            clear hK K z0 zf0 z1 zf1
            try simp only [Act.put, List.setIfInBounds_toArray, List.set_cons_zero, List.set_cons_succ, List.getElem_toArray, List.getElem_cons_succ, List.getElem_cons_zero]
            refine wpAnyH_done (by kernel_rfl) ?_ _
            clear hHeld
            have hgs : wy.grownBy ((wy.setCell ⟨w4.heap.size, 0, none⟩ (.int .i64 (U2 : Int))).setCell ⟨w4.heap.size, 1, none⟩ (.int .i64 (D2 : Int))) (some w4.heap.size) := grown_comp (grownBy_setCell _ _ _) (grownBy_setCell _ _ _)
            have HGS := Lib.hid hgs
            have HQZ := Lib.hid (HQ.out _ (HD0.out.trans (Hwy.out.mono HD0.out.size)))
            clear hgs
            go_wp2_with fail
            go_roundw
            case rel => exact ⟨k + 1, U2, D2, by go_num, by omega, HU2.out.symm, HD2.out.symm, (HQZ.out.1.set0 _).set1 _, HQZ.out.2.2.trans (below_of9 HGS.out (by omega) HQZ.out.2.2.size)⟩
            case measure => simp [intOf]; omega
          · go_simp
            refine (HTI.out _).mono ?_
            rintro e wt ⟨rfl, hbx⟩
            have Hwt := Lib.hid (Hwx.out.trans (hbx.mono Hwx.out.size))
            clear hbx
            refine hK.out _ _ (grown_of9 Hwt.out w4.heap.size) (fun hHeld => ?_)
            clear hK K
            try simp only [Act.put, List.setIfInBounds_toArray, List.set_cons_zero, List.set_cons_succ, List.getElem_toArray, List.getElem_cons_succ, List.getElem_cons_zero]
            refine wpAnyH_ready (rs := [0]) (by kernel_rfl) (by simp) ?_
            refine (AllReadyH.cons (o := _) rfl (fun K hK => ?_) AllReadyH.nil)
            obtain ⟨⟨b0, bz0⟩, b1, bz1⟩ := (HQ.out _ (HD0.out.trans (Hwt.out.mono HD0.out.size))).1
            go_simp
            refine hK.out _ _ (grown_of9 Hwt.out w4.heap.size) (fun hHeld => ?_)
            clear hK K b0 bz0 b1 bz1
            try simp only [Act.put, List.setIfInBounds_toArray, List.set_cons_zero, List.set_cons_succ, List.getElem_toArray, List.getElem_cons_succ, List.getElem_cons_zero]
            refine wpAnyH_ready (rs := [8]) (by kernel_rfl) (by simp) ?_
            refine (AllReadyH.cons (o := _) rfl (fun K hK => ?_) AllReadyH.nil)
            go_simp
            refine (HPL.out _).mono ?_
            rintro e wy ⟨rfl, hbx⟩
            have Hwy := Lib.hid (Hwt.out.trans (hbx.mono Hwt.out.size))
            clear hbx
            refine hK.out _ _ (grown_of9 Hwy.out w4.heap.size) (fun hHeld => ?_)
            clear hK K
            try simp only [Act.put, List.setIfInBounds_toArray, List.set_cons_zero, List.set_cons_succ, List.getElem_toArray, List.getElem_cons_succ, List.getElem_cons_zero]
            refine wpAnyH_ready (rs := [9]) (by kernel_rfl) (by simp) ?_
            refine (AllReadyH.cons (o := _) rfl (fun K hK => ?_) AllReadyH.nil)
            obtain ⟨⟨z0, zf0⟩, z1, zf1⟩ := (HQ.out _ (HD0.out.trans (Hwy.out.mono HD0.out.size))).1
            go_simp
            refine hK.out _ _ (grown_comp (grown_of9 Hwy.out w4.heap.size) (grown_comp (grownBy_setCell _ ⟨w4.heap.size, 0, none⟩ _) (grownBy_setCell _ ⟨w4.heap.size, 1, none⟩ _))) (fun hHeld => ?_)
            clear hK K z0 zf0 z1 zf1
            try simp only [Act.put, List.setIfInBounds_toArray, List.set_cons_zero, List.set_cons_succ, List.getElem_toArray, List.getElem_cons_succ, List.getElem_cons_zero]
            refine wpAnyH_done (by kernel_rfl) ?_ _
            clear hHeld
            have hgs : wy.grownBy ((wy.setCell ⟨w4.heap.size, 0, none⟩ (.int .i64 (U2 : Int))).setCell ⟨w4.heap.size, 1, none⟩ (.int .i64 (D2 : Int))) (some w4.heap.size) := grown_comp (grownBy_setCell _ _ _) (grownBy_setCell _ _ _)
            have HGS := Lib.hid hgs
            have HQZ := Lib.hid (HQ.out _ (HD0.out.trans (Hwy.out.mono HD0.out.size)))
            clear hgs
            go_wp2_with fail
            go_roundw
            case rel => exact ⟨k + 1, U2, D2, by go_num, by omega, HU2.out.symm, HD2.out.symm, (HQZ.out.1.set0 _).set1 _, HQZ.out.2.2.trans (below_of9 HGS.out (by omega) HQZ.out.2.2.size)⟩
            case measure => simp [intOf]; omega
      · have hkq2 : k = q + 1 := by omega
        subst hkq2
        have hkI : ¬ ((q : Int) + 1) < (q : Int) + 1 := by omega
        obtain ⟨⟨e0, ez0⟩, e1, ez1⟩ := (HQ.out _ (Below.refl _ _)).1
        have HBB := Lib.hid (HQ.out _ (Below.refl _ _)).2.2
        have HE := Lib.hid (HEND.out wi HBB.out U D)
        obtain ⟨⟨r0, z0⟩, r1, z1⟩ := HT2.out.lift HBB.out
        go_wp2_with fail
        have v0 := HE.out.1.1.1
        have v1 := HE.out.1.2.1
        exact bodyPost_ret (v := .tuple #[.agg #[.int .i64 U, .int .i64 D], .bool true]) (by simp [results, Try.results15, go_sem, v0, v1]) rfl ⟨by rw [HU.out, HD.out], HE.out.2⟩
end Go.Proofs.Ytkebdelfklmigab
