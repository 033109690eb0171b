import Derived.Test.YtobfencmfeneoabLineH
import Derived.Test.YtobfencmfeneoabResC
namespace Go.Proofs.Ytobfencmfeneoab
open Go.RowKit Go.WideShapes

theorem resC_below {w w2 w' : World} {xs : List Int} {e : Ending} (hb : Below w.heap.size w w2) (h : ResPostC w2 xs e w') : ResPostC w xs e w' := by
  obtain ⟨a, l, c, h1, h2, h3, h4, h5⟩ := h
  have hz := hb.size
  exact ⟨a, l, c, h1, h2.to (fun b hb => ⟨⟨Nat.le_trans hz hb.1, hb.2⟩, rfl⟩), h3.to (fun b hb => ⟨⟨Nat.le_trans hz hb.1, hb.2⟩, rfl⟩), h4, hb.trans (h5.mono hz)⟩
set_option maxRecDepth 100000 in
set_option maxHeartbeats 8000000 in
theorem placesBy_impl (a : Option Addr) (len cap : Nat) (T : List Int) (a2 : Option Addr) (len2 cap2 : Nat) (ys : List Int) (c : Int) (w : World) (ht : IntsAt w (· < w.heap.size) a len T) (hy : IntsAt w (· < w.heap.size) a2 len2 ys) (hc : len ≤ cap) (hc2 : len2 ≤ cap2) (hl : len ≤ 1048576) (hl2 : len2 ≤ 1048576) :
    Calls Try.prog 10 #[.slice a len cap, .slice a2 len2 cap2, .int .i64 c] w (ResPostC w (byRes T ys c)) := by
  have HTL := Lib.hid ht.lenEq
  have HYL := Lib.hid hy.lenEq
  cases hv : lineM T ys c
  · have HR := Lib.hid (show byRes T ys c = [] from if_neg fun h => by rw [lineM_yes h] at hv; cases hv)
    rw [HR.out]
    go_enter Try.func10, Try.ntmps10
    go_wp2_with fail
    refine (fitTact_any _ a len cap T a2 len2 cap2 ys c w ht hy hc hc2 hl hl2).mono ?_
    rintro e w' ⟨rfl, hdw⟩
    rw [hv]
    go_wp2_with fail
    go_ret
    exact resC_drew hdw (resPostC_nil _)
  · have hP := lineM_get hv
    have hcb := lineP_c hP
    have HR := Lib.hid (show byRes T ys c = byM T (natsOf ys) (weightsM T (natsOf ys)) c from if_pos hP)
    rw [HR.out]
    have hl6 : len ≤ 6 := by have := hP.2.1.2.2; have := HTL.out; omega
    have hle : len2 = len := by have := hP.2.1.2.1; have := HTL.out; have := HYL.out; omega
    subst hle
    have HPI := Lib.hid hP.2.1.1.2
    have HTB := Lib.hid (tasks_at hP.2.1.1.1).1
    have HTASK := Lib.hid hP.2.1
    have HST := Lib.hid (fun (W : List Int) {s : GS} (g : IG T (natsOf ys) c s) (hD : s.D < 2 ^ T.length - 1) => g.step (W := W) (by rw [natsOf_len]; exact hP.2.1.2.1) (natsOf_hA hP.2.1.1.2) (fun k hk => ⟨(tasks_at hP.2.1.1.1).2 k hk, hP.1 k hk⟩) (by omega) hD)
    have HWL := Lib.hid (weightsM_len T (natsOf ys))
    have HPL := Lib.hid (fun w => allOf_any len2 (by omega) w)
    have hpb : 1 ≤ 2 ^ len2 ∧ 2 ^ len2 ≤ 64 := ⟨Nat.pow_pos (by omega), Nat.pow_le_pow_right (n := 2) (by omega) hl6⟩
    have HWB := Lib.hid (show ∀ k, 0 ≤ (weightsM T (natsOf ys)).getD k 0 ∧ (weightsM T (natsOf ys)).getD k 0 ≤ 1000 from fun k => by
      by_cases hk : k < T.length
      · rw [weightsM_get hk]; unfold wM
        have := csum_range (tasks_at hP.2.1.1.1).1 (fun x => (bsM (natsOf ys) k T.length).testBit x) T.length
        have := hP.2.1.2.2; omega
      · rw [getD_past (by rw [weightsM_len]; omega)]; omega)
    obtain ⟨P, hPP⟩ : ∃ P, 2 ^ len2 = P := ⟨_, rfl⟩
    rw [hPP] at HPL hpb
    have HPE := Lib.hid (show 2 ^ T.length = P by rw [HTL.out]; exact hPP)
    clear hP hPP
    have hmk := fun w => run_make_row' (P := Try.prog) 23 3 (.int .i64 0) 8 Try.underlying23 Try.infoIntBy rfl .i64 .i64 len2 (by omega) (by omega) w
    go_enter Try.func10, Try.ntmps10
    go_wp2_with fail
    refine (fitTact_any _ a len2 cap T a2 len2 cap2 ys c w ht hy hc hc2 hl hl2).mono ?_
    rintro e w1 ⟨rfl, hdw⟩
    rw [hv]
    have hz := hdw.size
    have hx1 : IntsAt w1 (· < w1.heap.size) a len2 T := (Drew.ints ht hdw).to (fun b hb => ⟨by rw [hz]; exact hb, rfl⟩)
    have hy1 : IntsAt w1 (· < w1.heap.size) a2 len2 ys := (Drew.ints hy hdw).to (fun b hb => ⟨by rw [hz]; exact hb, rfl⟩)
    have HDW := Lib.hid hdw
    clear hv hdw ht hy
    go_wp2_with fail
    refine (weights_impl a len2 cap T a2 len2 cap2 ys w1 hx1 hy1 hc hc2 hl hl2).mono ?_
    rintro e w2 ⟨a3, l3, c3, rfl, hw3, _, _, hb3⟩
    rw [show weightsRes T ys = weightsM T (natsOf ys) from if_pos HTASK.out] at hw3
    have hl3e : l3 = len2 := by have := hw3.lenEq; have := HWL.out; have := HTL.out; omega
    subst hl3e
    have hw2 : IntsAt w2 (· < w2.heap.size) a3 l3 (weightsM T (natsOf ys)) := hw3.to (fun b hb => ⟨hb.2, rfl⟩)
    have hx2 := ints_lift hx1 hb3
    have hy2 := ints_lift hy1 hb3
    have HB2 := Lib.hid (show Below w.heap.size w w2 from (HDW.out.below _).trans (hb3.mono (by rw [hz]; exact Nat.le_refl _)))
    have HO0 := Lib.hid ((OwnF.start w2 l3 (by omega)).congr (g := fun q => (initG T c).out.getD q 0) (fun q hq => by simp [initG, List.getD_eq_getElem?_getD, HTL.out, hq]))
    clear hw3 hb3 hx1 hy1 hz
    generalize hWe : weightsM T (natsOf ys) = W at *
    clear hWe
    go_wp2_with fail
    clear hmk
    go_loopw [9, 10, 11] (fun dv pv lv wr => ∃ (g : GS) (f : Nat), IG T (natsOf ys) c g ∧ measG T c g ≤ f ∧ f + g.place ≤ 2 * T.length + 1 ∧ (runG T (natsOf ys) W c f g).out = byM T (natsOf ys) W c ∧ dv = .int .i64 (g.D : Int) ∧ pv = .int .i64 (g.place : Int) ∧ lv = .int .i64 g.left ∧ OwnF w2 wr l3 (fun q => g.out.getD q 0)) (fun dv _ lv _ => msG c l3 dv lv)
    case atStart => exact ⟨initG T c, 2 * T.length + 1, initG_ok (by omega), by
        show 2 * undone 0 T.length + _ ≤ _
        have := undone_le 0 T.length
        have e : ¬ (initG T c).left < c := Int.lt_irrefl _
        rw [if_neg e]; omega, Nat.le_refl _, rfl, rfl, rfl, rfl, HO0.out⟩
    case round =>
      clear HO0
      obtain ⟨g, f, hg, hm, hfp, hrun, rfl, rfl, rfl, hO⟩ := hrel
      obtain ⟨wo, rfl⟩ : ∃ wo : World, wo = wr := ⟨_, rfl⟩
      have HG := Lib.hid hg
      have HM := Lib.hid hm
      have HFP := Lib.hid hfp
      have HRUN := Lib.hid hrun
      have HO := Lib.hid hO
      have hDlt : g.D < P := by have := hg.lt; rwa [HPE.out] at this
      have hplb : g.place ≤ 13 := by have := HTL.out; omega
      have hleft : 0 ≤ g.left ∧ g.left ≤ 60 := by have := hg.pos; have := hg.top; omega
      have HX := Lib.hid (hx2.below HO.out.below)
      have HY := Lib.hid (hy2.below HO.out.below)
      have HW := Lib.hid (hw2.below HO.out.below)
      clear hg hm hfp hrun hO
      by_cases hlt : g.D < P - 1
      · have hlti : (g.D : Int) < (P : Int) - 1 := by omega
        have HSTEP := Lib.hid (HST.out W HG.out (by rw [HPE.out]; exact hlt))
        obtain ⟨f', hf'⟩ : ∃ f', f = f' + 1 := ⟨f - 1, by have := HSTEP.out.2; have := HM.out; omega⟩
        have HF := Lib.hid hf'
        have HRUN2 := Lib.hid (show (runG T (natsOf ys) W c f' (stepG T (natsOf ys) W c g)).out = byM T (natsOf ys) W c by
          have := HRUN.out
          rw [HF.out, runG, if_pos (by rw [HPE.out]; exact hlt)] at this; exact this)
        obtain ⟨D, hD⟩ : ∃ D, g.D = D := ⟨_, rfl⟩
        obtain ⟨lf, hlf⟩ : ∃ lf, g.left = lf := ⟨_, rfl⟩
        rw [hD] at hDlt hlt hlti ⊢
        rw [hlf] at hleft ⊢
        have HDD := Lib.hid hD
        have HLF := Lib.hid hlf
        clear hD hlf hf'
        have hne : ((D : Int) != ((P - 1 : Nat) : Int)) = true := by simp; omega
        go_wp2_with fail
        refine (HPL.out _).mono ?_
        rintro e w' ⟨rfl, rfl⟩
        go_wp2_with fail
        refine (nextTask_any _ a a2 a3 l3 cap cap2 c3 T ys W D lf wo HX.out HY.out HW.out HPI.out hl6 HTB.out HWB.out (by omega) hleft).mono ?_
        rintro e w' ⟨rfl, hdw⟩
        obtain ⟨y, hwy⟩ := hdw
        subst hwy
        have HOD := Lib.hid (HO.out.drew y)
        have HXD := Lib.hid (hx2.below HOD.out.below)
        clear HX HY HW
        obtain ⟨wd, hwd⟩ : ∃ wd, wo.drewN y = wd := ⟨_, rfl⟩
        rw [hwd] at HOD HXD ⊢
        clear hwd HO
        have HSG := Lib.hid (show stepG T (natsOf ys) W c g = if pickM T (natsOf ys) W D lf l3 < 0 then ⟨D, g.place + 1, c, g.out⟩ else ⟨D + 2 ^ (pickM T (natsOf ys) W D lf l3).toNat, g.place, lf - T.getD (pickM T (natsOf ys) W D lf l3).toNat 0, g.out.set (pickM T (natsOf ys) W D lf l3).toNat g.place⟩ by
          unfold stepG; rw [HDD.out, HLF.out, HTL.out])
        by_cases hneg : pickM T (natsOf ys) W D lf l3 < 0
        · have HE := Lib.hid (HSG.out.trans (if_pos hneg))
          generalize pickM T (natsOf ys) W D lf l3 = pk at *
          go_wp2_with fail
          go_roundw
          case rel => exact ⟨⟨D, g.place + 1, c, g.out⟩, f', by rw [← HE.out]; exact HSTEP.out.1, by rw [← HE.out]; have := HSTEP.out.2; have := HM.out; have := HF.out; omega, by have := HFP.out; have := HF.out; simp only; omega, by rw [← HE.out]; exact HRUN2.out, rfl, by go_num, rfl, HOD.out⟩
          case measure =>
            have h1 := HSTEP.out.2
            rw [HE.out] at h1
            unfold measG at h1
            simp only [HDD.out, HLF.out, HTL.out] at h1
            have h2 : lf < c := by
              by_cases h : lf < c
              · exact h
              · rw [if_neg h] at h1; omega
            rw [msG_at, msG_at, if_neg (Int.lt_irrefl c), if_pos h2]
            omega
        · obtain ⟨m, hml, hme⟩ := pick_lt (T := T) (A := natsOf ys) (W := W) (D := D) (left := lf) (k := l3) (by omega)
          have HE := Lib.hid (HSG.out.trans (if_neg hneg))
          obtain ⟨hq, hqb⟩ : D.testBit m = false ∧ T.getD m 0 ≤ lf := by
            obtain ⟨q, _, e, h1, _, h3⟩ := pickM_get (T := T) (A := natsOf ys) (W := W) (D := D) (left := lf) l3 (by omega)
            have : q = m := by omega
            subst this; exact ⟨h1, h3⟩
          
          rw [hme] at HE ⊢
          rw [Int.toNat_natCast] at HE
          obtain ⟨b, off, x, rfl, hxx, hcx⟩ := HXD.out.get hml
          have hxe := getD_of hxx
          have hxb := HTB.out m
          rw [hxe] at hxb hqb HE
          obtain ⟨e1, f1⟩ := HOD.out.cell hml
          have hmi : (m : Int) < (l3 : Int) := by omega
          have hpm : 2 ^ m ≤ 64 := Nat.pow_le_pow_right (n := 2) (j := 6) (by omega) (by omega)
          obtain ⟨pm, hpme⟩ : ∃ pm, 2 ^ m = pm := ⟨_, rfl⟩
          rw [hpme] at hpm HE
          have HPE2 := Lib.hid hpme
          have HQ := Lib.hid hq
          clear hpme
          have HGL := Lib.hid (show g.out.length = l3 by rw [HG.out.len, HTL.out])
          clear hneg hme hxx hxe hq
          have EO := Lib.hid (show bits .or .i64 (D : Int) (wrap64 (2 ^ m)) = ((D + pm : Nat) : Int) by
            rw [show ((2 : Int) ^ m) = ((pm : Nat) : Int) by rw [← HPE2.out]; push_cast; rfl, w64_id (by omega) (by omega), i_or D pm (by omega) (by omega), ← HPE2.out, or_add HQ.out])
          have hcx2 : (wd.setCell ⟨w2.heap.size, m, none⟩ (.int .i64 (g.place : Int))).cell? ⟨b, off + m, none⟩ = some (.int .i64 x) := by
            have := HXD.out.mem (by omega)
            rw [World.cell?_setCell_other _ _ _ _ (by intro e'; injection e'; omega)]; exact hcx
          go_wp2_with fail
          go_roundw
          case rel => exact ⟨⟨D + pm, g.place, lf - x, g.out.set m g.place⟩, f', by rw [← HE.out]; exact HSTEP.out.1, by rw [← HE.out]; have := HSTEP.out.2; have := HM.out; have := HF.out; omega, by have := HFP.out; have := HF.out; simp only; omega, by rw [← HE.out]; exact HRUN2.out, by rw [EO.out], rfl, rfl, (HOD.out.put m _).congr (fun q hq => by
              by_cases e : q = m
              · subst e; rw [if_pos rfl]; exact (getD_set_eq (by rw [HGL.out]; exact hq)).symm
              · rw [if_neg e]; exact (getD_set_ne e).symm)⟩
          case measure =>
            have h1 := HSTEP.out.2
            rw [HE.out] at h1
            unfold measG at h1
            simp only [HDD.out, HLF.out, HTL.out] at h1
            have e3 : (bits .or .i64 (D : Int) (wrap64 (2 ^ m))).toNat = D + pm := by rw [EO.out]; exact Int.toNat_natCast _
            have e4 : ((D : Nat) : Int).toNat = D := by omega
            rw [msG_at, msG_at, e3, e4]
            exact h1
      · have hDe : g.D = P - 1 := by omega
        have hne : ((g.D : Int) != ((P - 1 : Nat) : Int)) = false := by simp; omega
        have HE := Lib.hid (show byM T (natsOf ys) W c = tab (fun q => g.out.getD q 0) l3 by
          have e : runG T (natsOf ys) W c f g = g := by
            cases f with
            | zero => rfl
            | succ f => rw [runG, if_neg (by rw [HPE.out]; exact hlt)]
          rw [← HRUN.out, e]
          have hl := HG.out.len
          rw [HTL.out] at hl
          have := tab_self g.out
          rw [hl] at this; exact this.symm)
        go_wp2_with fail
        refine (HPL.out _).mono ?_
        rintro e w' ⟨rfl, rfl⟩
        go_wp2_with fail
        go_ret
        rw [HE.out]
        exact resC_below HB2.out (resC_own HO.out (by omega))
end Go.Proofs.Ytobfencmfeneoab
