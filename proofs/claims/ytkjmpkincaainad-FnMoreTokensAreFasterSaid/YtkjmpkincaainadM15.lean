import Derived.Test.YtkjmpkincaainadRows
import Derived.WalkKit
import Derived.LoopTactic
import Derived.Outline
import Derived.WalkSpells
import Derived.WalkLawsBesides
import Derived.ProofKit
import Derived.Lib.Hide
import Derived.IntWalk
import Derived.Deep.QuietTactic
import Derived.BigQuiet
import Derived.Deep.RegionHeld3
import Derived.Test.YtkjmpkincaainadM0
import Derived.Test.YtkjmpkincaainadM6
import Derived.Test.YtkjmpkincaainadM10
import Derived.Test.YtkjmpkincaainadM11
import Derived.Test.YtkjmpkincaainadM13
import Derived.Test.YtkjmpkincaainadM12
import Derived.Test.YtkjmpkincaainadM14
import Derived.Test.YtkjmpkincaainadM1
import Derived.Test.YtkjmpkincaainadM5
import Derived.Test.YtkjmpkincaainadM7
import Derived.Test.YtkjmpkincaainadM4
namespace Go.Proofs.Ytkjmpkincaainad
open Go.RowKit Go.WideShapes

theorem upA_succ {g : Gr} {k : Nat} (T : Int) (C : Nat) : g.Upto (k + 1) (fun _ _ => True) T C ↔ g.Upto k (fun _ _ => True) T C ∨ g.On k (fun _ => True) [k] k 0 0 T C := upto_succ T C
theorem shl8 {k : Nat} (hk : k ≤ 3) : wrap64 ((2 : Int) ^ k) = ((2 ^ k : Nat) : Int) := by
  have : k = 0 ∨ k = 1 ∨ k = 2 ∨ k = 3 := by omega
  rcases this with rfl | rfl | rfl | rfl <;> (unfold wrap64; decide)
theorem mask_one (k : Nat) : MaskOf (2 ^ k) [k] := fun v => by
  rw [Nat.testBit_two_pow, decide_eq_true_eq, List.mem_singleton]; exact eq_comm
set_option maxRecDepth 100000 in
set_option maxHeartbeats 4000000 in
theorem paceOf_impl (d : NV) (ts : List Int) (rows : List (List Int)) (w : World) (h : NetAt w (· < w.heap.size) d ts rows) :
    Calls Try.prog 10 #[.agg #[.slice d.aT d.lT d.cT, .slice d.aW d.lW d.cW]] w (PacePostR w ts rows) := by
  have HAV := Lib.hid (fun w' (hb : Below w.heap.size w w') => isAlive_any d ts rows w' (net_lift h hb))
  have HGP := Lib.hid (fun w' (hb : Below w.heap.size w w') hv rk hrk s X M T0 C0 tmv hpo hmk htm => greatestPace_any d ts rows hv rk hrk s _ X M T0 C0 tmv w' rfl hpo hmk htm (net_lift h hb))
  have HA := Lib.hid (fun w' (hb : Below w.heap.size w w') => net_lift h hb)
  obtain ⟨aT, lT, cT, aW, lW, cW⟩ := d
  have hTL : ts.length = lT := h.t.lenEq
  have hst := h.t.small
  have HTM := Lib.hid (fun (w' : World) (hb : Below w.heap.size w w') (v : Nat) (hv : v < lT) => (show ∃ b off, aT = some ⟨b, off, none⟩ ∧ w'.cell? ⟨b, off + v, none⟩ = some (.int .i64 ((grOf ts rows).tm v)) by
    obtain ⟨b, off, x, e, hx, hc⟩ := (HA.out w' hb).t.get hv
    exact ⟨b, off, e, by rw [hc]; show _ = some (Value.int .i64 (ts.getD v 0)); rw [getD_of hx]⟩))
  clear h
  dsimp only at HAV HGP HA hst
  have hb1 := (Below.refl w.heap.size w).alloc (Nat.le_refl _) (.cells #[.slice aT lT cT, .slice aW lW cW] 26)
  have hn1 := netB_new w aT lT cT aW lW cW 26
  have hz1 : (w.alloc (.cells #[.slice aT lT cT, .slice aW lW cW] 26)).heap.size = w.heap.size + 1 := by simp
  obtain ⟨w1, hw1⟩ : ∃ w1, (w.alloc (.cells #[.slice aT lT cT, .slice aW lW cW] 26)) = w1 := ⟨_, rfl⟩
  rw [hw1] at hb1 hn1 hz1
  have ht2 := two_new w1 (.int .i64 0) (.int .i64 0) 32
  have hb2 := hb1.alloc (by omega) (.cells #[.int .i64 0, .int .i64 0] 32)
  have hn2 : NetB (w1.alloc (.cells #[.int .i64 0, .int .i64 0] 32)) w.heap.size ⟨aT, lT, cT, aW, lW, cW⟩ := hn1.block (Below.heap_alloc _ _ _ (by omega))
  have hz2 : (w1.alloc (.cells #[.int .i64 0, .int .i64 0] 32)).heap.size = w.heap.size + 2 := by simp; omega
  rw [hz1] at ht2
  obtain ⟨w2, hw2⟩ : ∃ w2, (w1.alloc (.cells #[.int .i64 0, .int .i64 0] 32)) = w2 := ⟨_, rfl⟩
  rw [hw2] at ht2 hb2 hn2 hz2
  have HW1 := Lib.hid hw1
  have HW2 := Lib.hid hw2
  have HT2 := Lib.hid ht2
  have HB2 := Lib.hid hb2
  have HN2 := Lib.hid hn2
  have HZ2 := Lib.hid hz2
  clear hw1 hw2 ht2 hb1 hb2 hn1 hn2 hz1 hz2
  cases hal : aliveB ts rows
  · rw [hal] at HAV
    have HAL := Lib.hid hal
    clear hal HGP
    go_enter Try.func10, Try.ntmps10
    obtain ⟨n0, n1⟩ := HN2.out
    dsimp only at n0 n1
    go_wp2_with fail
    rw [HW1.out, HW2.out]
    refine (HAV.out w2 HB2.out).mono ?_
    rintro e w3 ⟨rfl, hb3⟩
    have HT3 := Lib.hid (HT2.out.block (hb3.block _ HT2.out.lt))
    have HB3 := Lib.hid (HB2.out.trans (hb3.mono HB2.out.size))
    obtain ⟨⟨r0, z0⟩, r1, z1⟩ := HT3.out
    have HVV := Lib.hid (And.intro ((HT3.out.set0 (.int .i64 0)).set1 (.int .i64 0)).1.1 ((HT3.out.set0 (.int .i64 0)).set1 (.int .i64 0)).2.1)
    clear hb3
    go_wp2_with fail
    obtain ⟨v0, v1⟩ := HVV.out
    exact bodyPost_ret (v := .tuple #[.agg #[.int .i64 0, .int .i64 0], .bool false]) (by simp [results, Try.results10, go_sem, v0, v1]) rfl ⟨0, 0, false, rfl, .inr ⟨HAL.out, rfl, rfl, rfl⟩, (HB3.out.setCell (p := ⟨w.heap.size + 1, 0, none⟩) (Nat.le_succ _) _).setCell (p := ⟨w.heap.size + 1, 1, none⟩) (Nat.le_succ _) _⟩
  · rw [hal] at HAV
    obtain ⟨hv, hnd⟩ := alive_get hal
    have hok := gr_ok hv
    obtain ⟨rk, hrk⟩ := rank_of hok hnd
    have HAL := Lib.hid hal
    have HGP2 := Lib.hid (fun w' hb s X M T0 C0 tmv hpo hmk htm => HGP.out w' hb hv rk hrk s X M T0 C0 tmv hpo hmk htm)
    have hn : (grOf ts rows).n = lT := hTL
    obtain ⟨g, hg⟩ : ∃ g, grOf ts rows = g := ⟨_, rfl⟩
    rw [hg] at hok hrk HGP2 hn HTM
    have HGE := Lib.hid hg
    have h4 := hok.n4
    rw [hn] at h4
    have HOK := Lib.hid hok
    have HRK := Lib.hid hrk
    have HN := Lib.hid hn
    have HF01 : Hid (fU 0 1 = 0 ∧ fD 0 1 = 1) := Lib.hid (by decide)
    have HFR := Lib.hid (ifrac_any 0 1 (by omega) (by omega) (by omega))
    rw [HF01.out.1, HF01.out.2] at HFR
    clear hv hnd hg hok hrk hn hal HF01 HGP hTL
    go_enter Try.func10, Try.ntmps10
    obtain ⟨n0, n1⟩ := HN2.out
    dsimp only at n0 n1
    go_wp2_with fail
    rw [HW1.out, HW2.out]
    refine (HAV.out w2 HB2.out).mono ?_
    rintro e w2b ⟨rfl, hb2b⟩
    have HX2 := Lib.hid hb2b
    clear hb2b
    go_wp2_with fail
    refine (HFR.out w2b).mono ?_
    rintro e w3 ⟨rfl, hb3⟩
    have hb23 := HX2.out.trans (hb3.mono HX2.out.size)
    have hs3 := hb23.size
    have hz2 := HZ2.out
    have HR3 := Lib.hid ((HT2.out.block (hb23.block (w.heap.size + 1) (by omega))).grown (World.grownBy_alloc w3 (.cells #[.int .i64 0, .int .i64 1] 32) none) (by simp))
    have HT3 := Lib.hid (two_new w3 (.int .i64 0) (.int .i64 1) 32)
    have HB3 := Lib.hid ((HB2.out.trans (hb23.mono (by omega))).alloc (by omega) (.cells #[.int .i64 0, .int .i64 1] 32))
    have HN3 : Hid (NetB (w3.alloc (.cells #[.int .i64 0, .int .i64 1] 32)) w.heap.size ⟨aT, lT, cT, aW, lW, cW⟩) := Lib.hid ((HN2.out.block (hb23.block _ (by omega))).block (Below.heap_alloc _ _ _ (by omega)))
    have HZ3 : Hid ((w3.alloc (.cells #[.int .i64 0, .int .i64 1] 32)).heap.size = w3.heap.size + 1) := Lib.hid (by simp)
    have hw3 : w.heap.size + 2 ≤ w3.heap.size := by omega
    clear hb3 hs3 hz2 hb23 n0 n1
    obtain ⟨n0, n1⟩ := HN3.out
    dsimp only at n0 n1
    go_wp2_with fail
    go_loopw [16] (fun iv wr => ∃ (k U D : Nat), iv = .int .i64 k ∧ k ≤ lT ∧ IsGr U D (g.Upto k (fun _ _ => True)) ∧ Two wr w3.heap.size (.int .i64 U) (.int .i64 D) ∧ Two wr (w.heap.size + 1) (.int .i64 0) (.int .i64 0) ∧ Below w.heap.size w wr ∧ NetB wr w.heap.size ⟨aT, lT, cT, aW, lW, cW⟩ ∧ w3.heap.size < wr.heap.size) (fun iv _ => lT - (intOf iv).toNat)
    case atStart => exact ⟨0, 0, 1, rfl, Nat.zero_le _, gr_zero (fun T C ⟨s, hs, _⟩ => by omega), HT3.out, HR3.out, HB3.out, HN3.out, by have := HZ3.out; omega⟩
    case round =>
      clear HT3 HR3 HB3 HN3 HZ3 n0 n1
      obtain ⟨k, U, D, rfl, hk, hgr, ht, hr, hb, hn, hsz⟩ := hrel
      obtain ⟨wi, rfl⟩ : ∃ wi : World, wi = wr := ⟨_, rfl⟩
      have HGR := Lib.hid hgr
      have HT := Lib.hid ht
      have HR := Lib.hid hr
      have HB := Lib.hid hb
      have HNB := Lib.hid hn
      have hub := hgr.u36
      have hdb := hgr.d12
      clear hgr ht hr hb hn
      obtain ⟨n0, n1⟩ := HNB.out
      dsimp only at n0 n1
      by_cases hlt : k < lT
      · have hkI : (k : Int) < (lT : Int) := by omega
        have HPO : Hid (PathOk g rk [k] k 0 0) := Lib.hid ⟨rfl, by simp, fun v hv => by simp at hv; subst hv; rw [HN.out]; exact hlt, by simp, by simp, fun _ => Nat.le_refl _⟩
        have htk := HOK.out.times k
        obtain ⟨tmk, htmk⟩ : ∃ q : Nat, g.tm k = (q : Int) := ⟨(g.tm k).toNat, by omega⟩
        obtain ⟨bt, ot, rfl, dt⟩ := HTM.out wi HB.out k hlt
        rw [htmk] at dt
        have HSH := Lib.hid (shl8 (show k ≤ 3 by omega))
        have HAL := Lib.hid ((Below.refl wi.heap.size wi).alloc (Nat.le_refl _) (.cells #[.int .i64 (k : Int), .int .i64 (k : Int), .int .i64 ((2 ^ k : Nat) : Int), .int .i64 (tmk : Int), .int .i64 0] 56))
        have HFV := Lib.hid (five_new wi (k : Int) (k : Int) ((2 ^ k : Nat) : Int) (tmk : Int) 0 56)
        have HWZ : Hid ((wi.alloc (.cells #[.int .i64 (k : Int), .int .i64 (k : Int), .int .i64 ((2 ^ k : Nat) : Int), .int .i64 (tmk : Int), .int .i64 0] 56)).heap.size = wi.heap.size + 1) := Lib.hid (by simp)
        have HCP : Hid (∀ w', Below w.heap.size w w' → Calls Try.prog 35 #[.agg #[.slice (some ⟨bt, ot, none⟩) lT cT, .slice aW lW cW], .agg #[.int .i64 k, .int .i64 k, .int .i64 ((2 ^ k : Nat) : Int), .int .i64 tmk, .int .i64 0]] w' (PacePostG w' (g.On k (fun _ => True) [k] k 0 0))) := Lib.hid (fun w' hb => by
          have := HGP2.out w' hb k [k] (2 ^ k) 0 0 tmk HPO.out (mask_one k) (by show g.tm k = _; exact htmk)
          have e9 : ((0 + tmk : Nat) : Int) = (tmk : Int) := by rw [Nat.zero_add]
          rw [e9] at this
          exact this)
        obtain ⟨pw, hpw⟩ : ∃ pw, ((2 ^ k : Nat) : Int) = pw := ⟨_, rfl⟩
        rw [hpw] at HSH HAL HFV HWZ HCP
        clear hpw htk htmk
        go_wp2_with fail
        rw [HSH.out]
        obtain ⟨wg, hwg⟩ : ∃ x, (wi.alloc (.cells #[.int .i64 (k : Int), .int .i64 (k : Int), .int .i64 pw, .int .i64 (tmk : Int), .int .i64 0] 56)) = x := ⟨_, rfl⟩
        have HGB : Hid (Below wi.heap.size wi wg.drew) := Lib.hid (by rw [← hwg]; exact HAL.out.drew)
        have HGZ : Hid (wg.drew.heap.size = wi.heap.size + 1) := Lib.hid (by rw [← hwg]; exact HWZ.out)
        have HGC : Hid (Five wg.drew wi.heap.size (k : Int) (k : Int) pw (tmk : Int) 0) := Lib.hid (by rw [← hwg]; exact HFV.out.block rfl)
        have HQ := Lib.hid (show ∀ w', Below wi.heap.size wi w' → Two w' w3.heap.size (.int .i64 U) (.int .i64 D) ∧ Two w' (w.heap.size + 1) (.int .i64 0) (.int .i64 0) ∧ NetB w' w.heap.size ⟨some ⟨bt, ot, none⟩, lT, cT, aW, lW, cW⟩ ∧ Below w.heap.size w w' from fun w' h =>
          ⟨HT.out.block (h.block _ HT.out.lt), HR.out.block (h.block _ HR.out.lt), HNB.out.block (h.block _ HNB.out.lt), HB.out.trans (h.mono HB.out.size)⟩)
        rw [hwg]
        clear hwg n0 n1 dt
        obtain ⟨q0, q1, q2, q3, q4⟩ := HGC.out
        obtain ⟨m0, m1⟩ := (HQ.out _ HGB.out).2.2.1
        dsimp only at m0 m1
        have hgz := HGZ.out
        have hpn : w3.heap.size ≠ w.heap.size := by omega
        have hpnw : w3.heap.size ≠ wi.heap.size := by omega
        refine wp_region_held_drew (S := (fun w' => wg.drew.grownBy w' (some w3.heap.size))) (by kernel_rfl) (grown_refl _ _) (fun hHeld => ?_)
        refine wpAnyH_take (i := 1) (v := .agg #[.slice (some ⟨bt, ot, none⟩) lT cT, .slice aW lW cW]) rfl (by kernel_rfl) (by kernel_rfl) (by kernel_rfl) (fun _ _ _ h => h) (Or.inl ⟨by rfl, ?_⟩) hHeld ?_
        · intro w' hS; have k0 := hS.cell (m0) (by simp; omega); have k1 := hS.cell (m1) (by simp; omega); go_simp
        try simp only [Act.put, List.setIfInBounds_toArray, List.set_cons_zero, List.set_cons_succ, List.getElem_toArray, List.getElem_cons_succ, List.getElem_cons_zero]
        refine wpAnyH_take (i := 2) (v := .agg #[.int .i64 (k : Int), .int .i64 (k : Int), .int .i64 pw, .int .i64 (tmk : Int), .int .i64 0]) rfl (by kernel_rfl) (by kernel_rfl) (by kernel_rfl) (fun _ _ _ h => h) (Or.inl ⟨by rfl, ?_⟩) hHeld ?_
        · intro w' hS; have k0 := hS.cell (q0) (by simp; omega); have k1 := hS.cell (q1) (by simp; omega); have k2 := hS.cell (q2) (by simp; omega); have k3 := hS.cell (q3) (by simp; omega); have k4 := hS.cell (q4) (by simp; omega); go_simp
        try simp only [Act.put, List.setIfInBounds_toArray, List.set_cons_zero, List.set_cons_succ, List.getElem_toArray, List.getElem_cons_succ, List.getElem_cons_zero]
        refine wpAnyH_ready (rs := [0, 3]) (by kernel_rfl) (by simp) ?_
        refine AllReadyH.cons (o := _) rfl (fun K hK => ?_) (AllReadyH.cons (o := _) rfl (fun K hK => ?_) AllReadyH.nil)
        · obtain ⟨⟨b0, bz0⟩, b1, bz1⟩ := (HQ.out _ HGB.out).1
          go_simp
          refine hK.out _ _ (grown_of8 ((Below.refl wg.drew.heap.size wg.drew)) w3.heap.size) (fun hHeld => ?_)
          clear hK K
          try simp only [Act.put, List.setIfInBounds_toArray, List.set_cons_zero, List.set_cons_succ, List.getElem_toArray, List.getElem_cons_succ, List.getElem_cons_zero]
          refine wpAnyH_ready (rs := [3]) (by kernel_rfl) (by simp) ?_
          refine AllReadyH.cons (o := _) rfl (fun K hK => ?_) AllReadyH.nil
          go_simp
          refine (HCP.out _ (HQ.out _ HGB.out).2.2.2).mono ?_
          rintro e wp ⟨U', D', rfl, hop, hbp⟩
          have HOP := Lib.hid hop
          have HXP := Lib.hid (HGB.out.trans (hbp.mono HGB.out.size))
          have HYP := Lib.hid hbp
          clear hbp hop
          have HG2 := Lib.hid (gr_join HGR.out HOP.out (fun T C => upA_succ T C))
          have HGT := Lib.hid (greater_any U D U' D' (by have := HOP.out.u36; have := HOP.out.d12; omega) HGR.out.cop HOP.out.cop HGR.out.d1)
          obtain ⟨U2, hU2⟩ : ∃ U2, (if (U : Int) * D' < (U' : Int) * D then U' else U) = U2 := ⟨_, rfl⟩
          obtain ⟨D2, hD2⟩ : ∃ D2, (if (U : Int) * D' < (U' : Int) * D then D' else D) = D2 := ⟨_, rfl⟩
          rw [hU2, hD2] at HG2 HGT
          clear hU2 hD2
          refine hK.out _ _ (grown_of8 HYP.out w3.heap.size) (fun hHeld => ?_)
          clear hK K
          try simp only [Act.put, List.setIfInBounds_toArray, List.set_cons_zero, List.set_cons_succ, List.getElem_toArray, List.getElem_cons_succ, List.getElem_cons_zero]
          refine wpAnyH_ready (rs := [4]) (by kernel_rfl) (by simp) ?_
          refine AllReadyH.cons (o := _) rfl (fun K hK => ?_) AllReadyH.nil
          go_simp
          refine (HGT.out _).mono ?_
          rintro e wz ⟨rfl, hbz⟩
          have HXZ := Lib.hid (HXP.out.trans (hbz.mono HXP.out.size))
          have HYZ := Lib.hid (HYP.out.trans (hbz.mono HYP.out.size))
          have HTZ := Lib.hid ((HQ.out _ HXZ.out).1)
          clear hbz
          obtain ⟨⟨z0, zf0⟩, z1, zf1⟩ := HTZ.out
          refine hK.out _ _ (grown_of8 HYZ.out w3.heap.size) (fun hHeld => ?_)
          clear hK K
          try simp only [Act.put, List.setIfInBounds_toArray, List.set_cons_zero, List.set_cons_succ, List.getElem_toArray, List.getElem_cons_succ, List.getElem_cons_zero]
          refine wpAnyH_ready (rs := [5]) (by kernel_rfl) (by simp) ?_
          refine AllReadyH.cons (o := _) rfl (fun K hK => ?_) AllReadyH.nil
          go_simp
          refine hK.out _ _ (grown_comp (grown_of8 HYZ.out w3.heap.size) (grown_comp (grownBy_setCell _ ⟨w3.heap.size, 0, none⟩ _) (grownBy_setCell _ ⟨w3.heap.size, 1, none⟩ _))) (fun hHeld => ?_)
          clear hK K
          try simp only [Act.put, List.setIfInBounds_toArray, List.set_cons_zero, List.set_cons_succ, List.getElem_toArray, List.getElem_cons_succ, List.getElem_cons_zero]
          refine wpAnyH_done (by kernel_rfl) ?_ _
          have hgs : wz.grownBy ((wz.setCell ⟨w3.heap.size, 0, none⟩ (.int .i64 (U2 : Int))).setCell ⟨w3.heap.size, 1, none⟩ (.int .i64 (D2 : Int))) (some w3.heap.size) := grown_comp (grownBy_setCell _ _ _) (grownBy_setCell _ _ _)
          have HGS := Lib.hid hgs
          have hzs := HXZ.out.size
          have hzq : ((wz.setCell ⟨w3.heap.size, 0, none⟩ (.int .i64 (U2 : Int))).setCell ⟨w3.heap.size, 1, none⟩ (.int .i64 (D2 : Int))).heap.size = wz.heap.size := by rw [World.size_setCell, World.size_setCell]
          have HZQ := Lib.hid hzq
          clear hgs hzq hHeld q0 q1 q2 q3 q4 m0 m1 hgz
          go_wp2_with fail
          go_roundw
          case rel => exact ⟨k + 1, U2, D2, by go_num, by omega, HG2.out, (HTZ.out.set0 _).set1 _, (HQ.out _ HXZ.out).2.1.grown HGS.out (by simp; omega), (HQ.out _ HXZ.out).2.2.2.trans (below_of8 HGS.out (by omega) (by omega)), (HQ.out _ HXZ.out).2.2.1.block (HGS.out.block _ (by omega) (by simp; omega)), by have := HZQ.out; omega⟩
          case measure => simp [intOf]; omega
        · go_simp
          refine (HCP.out _ (HQ.out _ HGB.out).2.2.2).mono ?_
          rintro e wp ⟨U', D', rfl, hop, hbp⟩
          have HOP := Lib.hid hop
          have HXP := Lib.hid (HGB.out.trans (hbp.mono HGB.out.size))
          have HYP := Lib.hid hbp
          clear hbp hop
          have HG2 := Lib.hid (gr_join HGR.out HOP.out (fun T C => upA_succ T C))
          have HGT := Lib.hid (greater_any U D U' D' (by have := HOP.out.u36; have := HOP.out.d12; omega) HGR.out.cop HOP.out.cop HGR.out.d1)
          obtain ⟨U2, hU2⟩ : ∃ U2, (if (U : Int) * D' < (U' : Int) * D then U' else U) = U2 := ⟨_, rfl⟩
          obtain ⟨D2, hD2⟩ : ∃ D2, (if (U : Int) * D' < (U' : Int) * D then D' else D) = D2 := ⟨_, rfl⟩
          rw [hU2, hD2] at HG2 HGT
          clear hU2 hD2
          refine hK.out _ _ (grown_of8 HYP.out w3.heap.size) (fun hHeld => ?_)
          clear hK K
          try simp only [Act.put, List.setIfInBounds_toArray, List.set_cons_zero, List.set_cons_succ, List.getElem_toArray, List.getElem_cons_succ, List.getElem_cons_zero]
          refine wpAnyH_ready (rs := [0]) (by kernel_rfl) (by simp) ?_
          refine AllReadyH.cons (o := _) rfl (fun K hK => ?_) AllReadyH.nil
          obtain ⟨⟨b0, bz0⟩, b1, bz1⟩ := (HQ.out _ HXP.out).1
          go_simp
          refine hK.out _ _ (grown_of8 (HYP.out) w3.heap.size) (fun hHeld => ?_)
          clear hK K
          try simp only [Act.put, List.setIfInBounds_toArray, List.set_cons_zero, List.set_cons_succ, List.getElem_toArray, List.getElem_cons_succ, List.getElem_cons_zero]
          refine wpAnyH_ready (rs := [4]) (by kernel_rfl) (by simp) ?_
          refine AllReadyH.cons (o := _) rfl (fun K hK => ?_) AllReadyH.nil
          go_simp
          refine (HGT.out _).mono ?_
          rintro e wz ⟨rfl, hbz⟩
          have HXZ := Lib.hid (HXP.out.trans (hbz.mono HXP.out.size))
          have HYZ := Lib.hid (HYP.out.trans (hbz.mono HYP.out.size))
          have HTZ := Lib.hid ((HQ.out _ HXZ.out).1)
          clear hbz
          obtain ⟨⟨z0, zf0⟩, z1, zf1⟩ := HTZ.out
          refine hK.out _ _ (grown_of8 HYZ.out w3.heap.size) (fun hHeld => ?_)
          clear hK K
          try simp only [Act.put, List.setIfInBounds_toArray, List.set_cons_zero, List.set_cons_succ, List.getElem_toArray, List.getElem_cons_succ, List.getElem_cons_zero]
          refine wpAnyH_ready (rs := [5]) (by kernel_rfl) (by simp) ?_
          refine AllReadyH.cons (o := _) rfl (fun K hK => ?_) AllReadyH.nil
          go_simp
          refine hK.out _ _ (grown_comp (grown_of8 HYZ.out w3.heap.size) (grown_comp (grownBy_setCell _ ⟨w3.heap.size, 0, none⟩ _) (grownBy_setCell _ ⟨w3.heap.size, 1, none⟩ _))) (fun hHeld => ?_)
          clear hK K
          try simp only [Act.put, List.setIfInBounds_toArray, List.set_cons_zero, List.set_cons_succ, List.getElem_toArray, List.getElem_cons_succ, List.getElem_cons_zero]
          refine wpAnyH_done (by kernel_rfl) ?_ _
          have hgs : wz.grownBy ((wz.setCell ⟨w3.heap.size, 0, none⟩ (.int .i64 (U2 : Int))).setCell ⟨w3.heap.size, 1, none⟩ (.int .i64 (D2 : Int))) (some w3.heap.size) := grown_comp (grownBy_setCell _ _ _) (grownBy_setCell _ _ _)
          have HGS := Lib.hid hgs
          have hzs := HXZ.out.size
          have hzq : ((wz.setCell ⟨w3.heap.size, 0, none⟩ (.int .i64 (U2 : Int))).setCell ⟨w3.heap.size, 1, none⟩ (.int .i64 (D2 : Int))).heap.size = wz.heap.size := by rw [World.size_setCell, World.size_setCell]
          have HZQ := Lib.hid hzq
          clear hgs hzq hHeld q0 q1 q2 q3 q4 m0 m1 hgz
          go_wp2_with fail
          go_roundw
          case rel => exact ⟨k + 1, U2, D2, by go_num, by omega, HG2.out, (HTZ.out.set0 _).set1 _, (HQ.out _ HXZ.out).2.1.grown HGS.out (by simp; omega), (HQ.out _ HXZ.out).2.2.2.trans (below_of8 HGS.out (by omega) (by omega)), (HQ.out _ HXZ.out).2.2.1.block (HGS.out.block _ (by omega) (by simp; omega)), by have := HZQ.out; omega⟩
          case measure => simp [intOf]; omega
      · obtain rfl : k = lT := by omega
        have hkI : ¬ (k : Int) < (k : Int) := by omega
        have HPC := Lib.hid (pace_of HOK.out HRK.out HGR.out (fun T C ⟨s, hs, hb⟩ => ⟨s, by rw [← HN.out]; exact hs, back_mono (fun _ _ => trivial) hb⟩) (fun T C ⟨s, hs, hb⟩ => ⟨s, by rw [HN.out]; exact hs, hb⟩))
        obtain ⟨⟨b0, bz0⟩, b1, bz1⟩ := HT.out
        obtain ⟨⟨r0, z0⟩, r1, z1⟩ := HR.out
        have HVV := Lib.hid (And.intro ((HR.out.set0 (.int .i64 U)).set1 (.int .i64 D)).1.1 ((HR.out.set0 (.int .i64 U)).set1 (.int .i64 D)).2.1)
        go_wp2_with fail
        obtain ⟨v0, v1⟩ := HVV.out
        exact bodyPost_ret (v := .tuple #[.agg #[.int .i64 U, .int .i64 D], .bool true]) (by simp [results, Try.results10, go_sem, v0, v1]) rfl ⟨U, D, true, rfl, .inl ⟨HAL.out, rfl, by rw [HGE.out]; exact HPC.out⟩, (HB.out.setCell (p := ⟨w.heap.size + 1, 0, none⟩) (Nat.le_succ _) _).setCell (p := ⟨w.heap.size + 1, 1, none⟩) (Nat.le_succ _) _⟩
end Go.Proofs.Ytkjmpkincaainad
namespace Go.Proofs.Ytkjmpkincaainad

-- when workers begin: a row that is raised until nothing rises (plain)
def mu (f : Nat → Int) : Nat → Nat
  | 0 => 0
  | n + 1 => mu f n + (f n).toNat
theorem mu_congr {f h : Nat → Int} {n : Nat} (e : ∀ v, v < n → f v = h v) : mu f n = mu h n := by
  induction n with
  | zero => rfl
  | succ n ih => rw [mu, mu, ih (fun v hv => e v (by omega)), e n (by omega)]
theorem mu_less {f h : Nat → Int} {n u : Nat} (hu : u < n) (e : ∀ v, v < n → v ≠ u → h v = f v) (h0 : 0 ≤ h u) (hl : h u < f u) : mu h n < mu f n := by
  induction n with
  | zero => omega
  | succ n ih =>
    rw [mu, mu]
    by_cases hun : u = n
    · subst hun
      rw [mu_congr (n := u) (f := h) (h := f) (fun v hv => e v (by omega) (by omega))]
      omega
    · have := ih (by omega) (fun v hv hne => e v (by omega) hne)
      rw [e n (by omega) (fun h => hun h.symm)]
      omega
/-- what way k asks for in round r, over the row X of this round -/
def Gr.val (g : Gr) (r : Nat) (X : Nat → Int) (k : Nat) : Int := (if g.c k = 0 then X (g.f k) else g.b (r - g.c k) (g.f k)) + g.tm (g.f k)
/-- no more than when workers begin -/
def Gr.low (g : Gr) (r : Nat) (X : Nat → Int) : Prop := ∀ v, v < g.n → 0 ≤ X v ∧ X v ≤ g.b r v
theorem val_bd {g : Gr} (hg : g.Ok) {rk : Nat → Nat} (hr : g.Rank rk) {r k : Nat} (h40 : r ≤ 40) (hk : k < g.m) (hc : g.c k ≤ r) {X : Nat → Int} (hX : g.low r X) : 0 ≤ g.val r X k ∧ g.val r X k ≤ g.b r (g.t k) := by
  obtain ⟨h1, h2, _⟩ := hg.ways k hk
  have ht := hg.times (g.f k)
  have hb := b_ge hg hr h40 hk hc
  unfold Gr.val
  by_cases h0 : g.c k = 0
  · rw [if_pos h0]
    have := hX _ h1
    rw [h0, Nat.sub_zero] at hb
    omega
  · rw [if_neg h0]
    have := b_nn g (r - g.c k) (g.f k)
    omega
theorem low_put {g : Gr} (hg : g.Ok) {rk : Nat → Nat} (hr : g.Rank rk) {r k : Nat} (h40 : r ≤ 40) (hk : k < g.m) (hc : g.c k ≤ r) {X : Nat → Int} (hX : g.low r X) : g.low r (fun v => if v = g.t k then g.val r X k else X v) := by
  intro v hv
  show 0 ≤ (if v = g.t k then g.val r X k else X v) ∧ (if v = g.t k then g.val r X k else X v) ≤ g.b r v
  split
  · rename_i e; subst e; exact val_bd hg hr h40 hk hc hX
  · exact hX v hv
theorem mu_put {g : Gr} (hg : g.Ok) {rk : Nat → Nat} (hr : g.Rank rk) {r k : Nat} (h40 : r ≤ 40) (hk : k < g.m) (hc : g.c k ≤ r) {X : Nat → Int} (hX : g.low r X) (hl : X (g.t k) < g.val r X k) :
    mu (fun v => g.b r v - (if v = g.t k then g.val r X k else X v)) g.n < mu (fun v => g.b r v - X v) g.n := by
  have hb := (val_bd hg hr h40 hk hc hX).2
  refine mu_less (hg.ways k hk).2.1 (fun v _ hne => ?_) ?_ ?_
  · rw [if_neg hne]
  · rw [if_pos rfl]; omega
  · rw [if_pos rfl]; omega
/-- a row that is raised no more -/
theorem row_done {g : Gr} (hg : g.Ok) {rk : Nat → Nat} (hr : g.Rank rk) {r : Nat} (h40 : r ≤ 40) {X : Nat → Int} (hX : g.low r X) (hd : ∀ k, k < g.m → g.c k ≤ r → g.val r X k ≤ X (g.t k)) : ∀ v, v < g.n → X v = g.b r v := by
  have h := b_le hg hr (fun r' v => if r' = r then X v else g.b r' v) (R := r + 1) (by omega) (fun r' v hr' hv => by
    split
    · exact (hX v hv).1
    · exact b_nn g r' v) (fun r' k hr' hk hc hi => by
    skip
    by_cases e : r' = r
    · subst e
      rw [if_pos rfl]
      have h1 := hd k hk hc
      unfold Gr.val at h1
      by_cases h0 : g.c k = 0
      · rw [if_pos h0] at h1
        rw [h0, Nat.sub_zero] at hi ⊢
        rw [if_pos rfl] at hi
        omega
      · rw [if_neg h0] at h1
        exact h1
    · rw [if_neg e]
      exact b_ge hg hr (by omega) hk hc)
  intro v hv
  have h1 := h r v (by omega) hv
  skip
  rw [if_pos rfl] at h1
  have := (hX v hv).2
  omega
/-- the rows of the first rounds -/
def bRows (ts : List Int) (rows : List (List Int)) (r : Nat) : List (List Int) := (List.range r).map (fun q => tab (fun v => (grOf ts rows).b q v) ts.length)
theorem bRows_snoc (ts : List Int) (rows : List (List Int)) (r : Nat) : bRows ts rows (r + 1) = bRows ts rows r ++ [tab (fun v => (grOf ts rows).b r v) ts.length] := by simp [bRows, List.range_succ]
theorem bRows_len (ts : List Int) (rows : List (List Int)) (r : Nat) : (bRows ts rows r).length = r := by simp [bRows]
theorem bRows_get {ts : List Int} {rows : List (List Int)} {r q : Nat} (h : q < r) : (bRows ts rows r)[q]? = some (tab (fun v => (grOf ts rows).b q v) ts.length) := by simp [bRows, h]
/-- what BeginsAt answers -/
def begRes (ts : List Int) (rows : List (List Int)) (r : Int) : List (List Int) := if aliveB ts rows && inB 0 40 r then bRows ts rows r.toNat else []
theorem begRes_no {ts : List Int} {rows : List (List Int)} {r : Int} (h : aliveB ts rows = false ∨ inB 0 40 r = false) : begRes ts rows r = [] := by
  unfold begRes
  rcases h with h | h <;> simp [h]
theorem begRes_yes {ts : List Int} {rows : List (List Int)} {r : Nat} (h : aliveB ts rows = true) (hr : r ≤ 40) : begRes ts rows r = bRows ts rows r := by
  unfold begRes
  rw [h, inB_true (by omega) (by omega)]; rfl
end Go.Proofs.Ytkjmpkincaainad
namespace Go.Proofs.Ytkjmpkincaainad
open Go.RowKit

theorem small8 {len : Nat} {xs : List Int} (hl : xs.length = len) (h : ¬ len ≤ 8) (b : Bool) : (decide (xs.length ≤ 8) && b) = false := by
  rw [decide_eq_false (by omega)]; rfl
theorem small8' {len : Nat} {xs : List Int} (hl : xs.length = len) (h : len ≤ 8) (b : Bool) : (decide (xs.length ≤ 8) && b) = b := by
  rw [decide_eq_true (by omega)]; rfl
def wantsM (n : Int) (xs : List Int) : Bool := allIn 0 20 xs && decide ((xs.length : Int) = n)
theorem wantsM_false {n : Int} {xs : List Int} {k : Nat} {x : Int} (h : xs[k]? = some x) (hx : inB 0 20 x = false) : wantsM n xs = false := by rw [wantsM, allIn_false h hx]; rfl
theorem wantsM_of {n : Int} {len : Nat} {xs : List Int} (hl : xs.length = len) (ha : allIn 0 20 (xs.take len) = true) : wantsM n xs = ((len : Int) == n) := by
  rw [List.take_of_length_le (by omega)] at ha
  rw [wantsM, ha, hl]; simp; rfl
theorem wantsM_len (xs : List Int) : wantsM xs.length xs = allIn 0 20 xs := by simp [wantsM]
end Go.Proofs.Ytkjmpkincaainad
namespace Go.Proofs.Ytkjmpkincaainad
open Go.RowKit Go.WideShapes

theorem Try.infoIntN : (Try.prog.info? 3).map (fun i => (i.zero, i.size, i.bytes)) = some (some (.int .i64 0), 1, 8) := by kernel_rfl

/-- what NetOf answers -/
def netRes (xs : List Int) (s : Int) : List Int := if (validDaysM xs && inB 0 20 s) = true then netM xs s else []
theorem netRes_len (xs : List Int) (s : Int) : (netRes xs s).length ≤ 1048576 := by
  unfold netRes
  split
  · rename_i h; simp only [Bool.and_eq_true] at h; have := validDays_len h.1; rw [netM_length]; omega
  · simp
theorem netRes_no {xs : List Int} {s : Int} (h : (validDaysM xs && inB 0 20 s) = false) : netRes xs s = [] := by unfold netRes; rw [h]; rfl
theorem netRes_yes {xs : List Int} {s : Int} (h : (validDaysM xs && inB 0 20 s) = true) : netRes xs s = netM xs s := by unfold netRes; rw [h]; rfl
theorem inB_of {lo hi x : Int} (h : inB lo hi x = true) : lo ≤ x ∧ x ≤ hi := by simpa [inB] using h

end Go.Proofs.Ytkjmpkincaainad
namespace Go.Proofs.Ytkjmpkincaainad
open Go.RowKit

end Go.Proofs.Ytkjmpkincaainad
