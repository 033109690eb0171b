import Derived.Test.YtobfencmfeneoacRows
import Derived.WalkKit
import Derived.LoopTactic
import Derived.Outline
import Derived.WalkSpells
import Derived.WalkLawsBesides
import Derived.ProofKit
import Derived.Lib.Hide
import Derived.Deep.QuietTactic
import Derived.BigQuiet
import Derived.IntWalk
import Derived.Test.YtobfencmfeneoacLib
import Derived.Test.YtobfencmfeneoacGen
import Derived.Test.YtobfencmfeneoacMark
import Derived.Test.YtobfencmfeneoacArr
import Derived.Test.YtobfencmfeneoacOwn1
import Derived.Test.YtobfencmfeneoacDr
import Derived.Test.YtobfencmfeneoacNetM
import Derived.Test.YtobfencmfeneoacLineM
import Derived.Test.YtobfencmfeneoacLineLawM
import Derived.Test.YtobfencmfeneoacTactM
import Derived.Test.YtobfencmfeneoacBitOp
import Derived.Test.YtobfencmfeneoacTaskSpec
import Derived.Test.YtobfencmfeneoacLoadSpec
import Derived.Test.YtobfencmfeneoacWeightSpec
import Derived.Test.YtobfencmfeneoacFewSpec
namespace Go.Proofs.Ytobfencmfeneoac
open Go.RowKit Go.WideShapes

theorem Try.infoIntBy : (Try.prog.info? 3).map (fun i => (i.zero, i.size, i.bytes)) = some (some (.int .i64 0), 1, 8) := by kernel_rfl
/-- what PlacesBy answers -/
def byRes (T ys : List Int) (c : Int) : List Int := if lineP T ys c then byM T (natsOf ys) (weightsM T (natsOf ys)) c else []
theorem byRes_len (T ys : List Int) (c : Int) : (byRes T ys c).length ≤ 1048576 := by
  unfold byRes
  split
  · rename_i h
    have hs := by_spec (T := T) (A := natsOf ys) (W := weightsM T (natsOf ys)) (c := c) (by rw [natsOf_len]; exact h.2.1.2.1) (natsOf_hA h.2.1.1.2) (fun k hk => ⟨(tasks_at h.2.1.1.1).2 k hk, h.1 k hk⟩) (by have := lineP_c h; omega)
    have := h.2.1.2.2
    rw [hs.1]; omega
  · simp
theorem pick_step {T : List Int} {A : List Nat} {W : List Int} {D : Nat} {left : Int} {k : Nat} {t wk : Int} (ht : T.getD k 0 = t) (hw : W.getD k 0 = wk) : pickM T A W D left (k + 1) = if D.testBit k = false ∧ dif (A.getD k 0) D = 0 ∧ t ≤ left ∧ (pickM T A W D left k < 0 ∨ W.getD (pickM T A W D left k).toNat 0 < wk) then (k : Int) else pickM T A W D left k := by
  rw [pickM, ht, hw]
theorem pick_lt {T : List Int} {A : List Nat} {W : List Int} {D : Nat} {left : Int} {k : Nat} (h : 0 ≤ pickM T A W D left k) : ∃ m : Nat, m < k ∧ pickM T A W D left k = (m : Int) := by
  obtain ⟨q, hq, e, _⟩ := pickM_get k h; exact ⟨q, hq, e⟩
def msG (c : Int) (n : Nat) (d l : Value) : Nat := 2 * undone (intOf d).toNat n + (if intOf l < c then 1 else 0)
theorem msG_at (c : Int) (n : Nat) (d l : Int) : msG c n (.int .i64 d) (.int .i64 l) = 2 * undone d.toNat n + (if l < c then 1 else 0) := rfl
set_option maxRecDepth 100000 in
set_option maxHeartbeats 8000000 in
theorem placesBy_spec (a a2 : Option Addr) (len cap len2 cap2 : Nat) (T ys : List Int) (c : Int) (w : World) (ht : IntsAt w (· < w.heap.size) a len T) (hy : IntsAt w (· < w.heap.size) a2 len2 ys) (hl : len2 ≤ 1048576) :
    Calls Try.prog 9 #[.slice a len cap, .slice a2 len2 cap2, .int .i64 c] w (NewInts w (byRes T ys c)) := by
  have HTL := Lib.hid ht.lenEq
  have HYL := Lib.hid hy.lenEq
  cases hv : lineM T ys c
  · have HR := Lib.hid (show byRes T ys c = [] from if_neg fun h => by rw [lineM_yes h] at hv; cases hv)
    rw [HR.out]
    go_enter Try.func9, Try.ntmps9
    go_wp2_with fail
    refine (validLine_any _ a a2 len cap len2 cap2 T ys c w ht hy hl).mono ?_
    rintro e w' ⟨rfl, hdw⟩
    rw [hv]
    go_wp2_with fail
    go_ret
    exact ⟨none, 0, 0, rfl, ⟨rfl, Nat.zero_le _, fun h => absurd h (by omega)⟩, Nat.le_refl _, hdw.below _⟩
  · have hP := lineM_get hv
    have hcb := lineP_c hP
    have HR := Lib.hid (show byRes T ys c = byM T (natsOf ys) (weightsM T (natsOf ys)) c from if_pos hP)
    rw [HR.out]
    have hl6 : len ≤ 6 := by have := hP.2.1.2.2; have := HTL.out; omega
    have hle : len2 = len := by have := hP.2.1.2.1; have := HTL.out; have := HYL.out; omega
    subst hle
    have HPI := Lib.hid hP.2.1.1.2
    have HTB := Lib.hid (tasks_at hP.2.1.1.1).1
    have HTASK := Lib.hid hP.2.1
    have HST := Lib.hid (fun (W : List Int) {s : GS} (g : IG T (natsOf ys) c s) (hD : s.D < 2 ^ T.length - 1) => g.step (W := W) (by rw [natsOf_len]; exact hP.2.1.2.1) (natsOf_hA hP.2.1.1.2) (fun k hk => ⟨(tasks_at hP.2.1.1.1).2 k hk, hP.1 k hk⟩) (by omega) hD)
    have HWL := Lib.hid (weightsM_len T (natsOf ys))
    have HPL := Lib.hid (powV_eq len2 (by omega))
    have hpb : 1 ≤ 2 ^ len2 ∧ 2 ^ len2 ≤ 64 := ⟨Nat.pow_pos (by omega), Nat.pow_le_pow_right (n := 2) (by omega) hl6⟩
    have HWB := Lib.hid (show ∀ k, 0 ≤ (weightsM T (natsOf ys)).getD k 0 ∧ (weightsM T (natsOf ys)).getD k 0 ≤ 1000 from fun k => by
      by_cases hk : k < T.length
      · rw [weightsM_get hk]; unfold wM
        have := csum_range (tasks_at hP.2.1.1.1).1 (fun x => (bsM (natsOf ys) k T.length).testBit x) T.length
        have := hP.2.1.2.2; omega
      · rw [getD_past (by rw [weightsM_len]; omega)]; omega)
    obtain ⟨P, hPP⟩ : ∃ P, 2 ^ len2 = P := ⟨_, rfl⟩
    rw [hPP] at HPL hpb
    have HPE := Lib.hid (show 2 ^ T.length = P by rw [HTL.out]; exact hPP)
    clear hP hPP
    have hmk := fun w => run_make_row' (P := Try.prog) 23 3 (.int .i64 0) 8 Try.underlying23 Try.infoIntBy rfl .i64 .i64 len2 (by omega) (by omega) w
    go_enter Try.func9, Try.ntmps9
    go_wp2_with fail
    refine (validLine_any _ a a2 len2 cap len2 cap2 T ys c w ht hy hl).mono ?_
    rintro e w1 ⟨rfl, hdw⟩
    rw [hv]
    have hz := hdw.size
    have hx1 : IntsAt w1 (· < w1.heap.size) a len2 T := (Drew.ints ht hdw).to (fun b hb => ⟨by rw [hz]; exact hb, rfl⟩)
    have hy1 : IntsAt w1 (· < w1.heap.size) a2 len2 ys := (Drew.ints hy hdw).to (fun b hb => ⟨by rw [hz]; exact hb, rfl⟩)
    have HDW := Lib.hid hdw
    clear hv hdw ht hy
    go_wp2_with fail
    refine (weights_any a a2 len2 cap len2 cap2 T ys w1 hx1 hy1 HTASK.out).mono ?_
    rintro e w2 ⟨a3, l3, c3, rfl, hl3, own3, hb3⟩
    have hl3e : l3 = len2 := by have := own3.1; simp at this; have := HWL.out; have := HTL.out; omega
    subst hl3e
    have hw2 := own_low own3 hl3
    have hx2 := ints_lift hx1 hb3
    have hy2 := ints_lift hy1 hb3
    have HB2 := Lib.hid (show Below w.heap.size w w2 from (HDW.out.below _).trans (hb3.mono (by rw [hz]; exact Nat.le_refl _)))
    have HO0 := Lib.hid ((OwnF.start w2 l3 (by omega)).congr (g := fun q => (initG T c).out.getD q 0) (fun q hq => by simp [initG, List.getD_eq_getElem?_getD, HTL.out, hq]))
    clear own3 hb3 hx1 hy1 hz
    generalize hWe : weightsM T (natsOf ys) = W at *
    clear hWe
    go_wp2_with fail
    clear hmk
    go_loopw [10, 11, 12] (fun dv pv lv wr => ∃ (g : GS) (f : Nat), IG T (natsOf ys) c g ∧ measG T c g ≤ f ∧ f + g.place ≤ 2 * T.length + 1 ∧ (runG T (natsOf ys) W c f g).out = byM T (natsOf ys) W c ∧ dv = .int .i64 (g.D : Int) ∧ pv = .int .i64 (g.place : Int) ∧ lv = .int .i64 g.left ∧ OwnF w2 wr l3 (fun q => g.out.getD q 0)) (fun dv _ lv _ => msG c l3 dv lv)
    case atStart => exact ⟨initG T c, 2 * T.length + 1, initG_ok (by omega), by
        show 2 * undone 0 T.length + _ ≤ _
        have := undone_le 0 T.length
        have e : ¬ (initG T c).left < c := Int.lt_irrefl _
        rw [if_neg e]; omega, Nat.le_refl _, rfl, rfl, rfl, rfl, HO0.out⟩
    case round =>
      clear HO0
      obtain ⟨g, f, hg, hm, hfp, hrun, rfl, rfl, rfl, hO⟩ := hrel
      obtain ⟨wo, rfl⟩ : ∃ wo : World, wo = wr := ⟨_, rfl⟩
      have HG := Lib.hid hg
      have HM := Lib.hid hm
      have HFP := Lib.hid hfp
      have HRUN := Lib.hid hrun
      have HO := Lib.hid hO
      have hDlt : g.D < P := by have := hg.lt; rwa [HPE.out] at this
      have hplb : g.place ≤ 13 := by have := HTL.out; omega
      have hleft : 0 ≤ g.left ∧ g.left ≤ 60 := by have := hg.pos; have := hg.top; omega
      have HX := Lib.hid (hx2.below HO.out.below)
      have HY := Lib.hid (hy2.below HO.out.below)
      have HW := Lib.hid (hw2.below HO.out.below)
      clear hg hm hfp hrun hO
      by_cases hlt : g.D < P - 1
      · have hlti : (g.D : Int) < (P : Int) - 1 := by omega
        have HSTEP := Lib.hid (HST.out W HG.out (by rw [HPE.out]; exact hlt))
        obtain ⟨f', hf'⟩ : ∃ f', f = f' + 1 := ⟨f - 1, by have := HSTEP.out.2; have := HM.out; omega⟩
        have HF := Lib.hid hf'
        have HRUN2 := Lib.hid (show (runG T (natsOf ys) W c f' (stepG T (natsOf ys) W c g)).out = byM T (natsOf ys) W c by
          have := HRUN.out
          rw [HF.out, runG, if_pos (by rw [HPE.out]; exact hlt)] at this; exact this)
        obtain ⟨D, hD⟩ : ∃ D, g.D = D := ⟨_, rfl⟩
        obtain ⟨lf, hlf⟩ : ∃ lf, g.left = lf := ⟨_, rfl⟩
        rw [hD] at hDlt hlt hlti ⊢
        rw [hlf] at hleft ⊢
        have HDD := Lib.hid hD
        have HLF := Lib.hid hlf
        clear hD hlf hf'
        go_wp2_with fail
        refine (power_all l3 (by omega) wo).mono ?_
        rintro e w' ⟨rfl, rfl⟩
        rw [HPL.out]
        go_wp2_with fail
        go_loopw [13, 14] (fun av iv wr => ∃ k : Nat, k ≤ l3 ∧ iv = .int .i64 (k : Int) ∧ av = .int .i64 (pickM T (natsOf ys) W D lf k) ∧ Drew wo wr) (fun _ iv _ => l3 - (intOf iv).toNat)
        case atStart => exact ⟨0, Nat.zero_le _, rfl, rfl, Drew.refl _⟩
        case round =>
          obtain ⟨k, hk, rfl, rfl, hdw⟩ := hrel
          have HDR := Lib.hid hdw
          by_cases hkl : k < l3
          · obtain ⟨b, off, x, rfl, hxx, hcx⟩ := (Drew.ints HX.out hdw).get hkl
            obtain ⟨b2, off2, y, rfl, hyy, hcy⟩ := (Drew.ints HY.out hdw).get hkl
            obtain ⟨b3, off3, z, rfl, hzz, hcz⟩ := (Drew.ints HW.out hdw).get hkl
            have hxe := getD_of hxx
            have hze := getD_of hzz
            have HPS := Lib.hid (pick_step (T := T) (A := natsOf ys) (W := W) (D := D) (left := lf) hxe hze)
            have hye : y = (((natsOf ys).getD k 0 : Nat) : Int) := by rw [natsOf_get HPI.out (by rw [HYL.out]; exact hkl), getD_of hyy]
            subst hye
            have hab := natsOf_small HPI.out (i := k) (by omega)
            have hxb := HTB.out k
            have hzb := HWB.out k
            rw [hxe] at hxb
            rw [hze] at hzb
            have hkli : (k : Int) < (l3 : Int) := by omega
            have HBIT := Lib.hid (fun q => bit_at D k (by omega) (by omega) (wr.drewN q))
            have hlow := pickM_low (T := T) (A := natsOf ys) (W := W) (D := D) (left := lf) k
            have HPK := Lib.hid (fun h => pick_lt (T := T) (A := natsOf ys) (W := W) (D := D) (left := lf) (k := k) h)
            generalize (natsOf ys).getD k 0 = am at *
            have EA := Lib.hid (i_not am D (by omega) (by omega))
            clear hxx hyy hzz hxe hze
            generalize pickM T (natsOf ys) W D lf k = pk at *
            cases hbit : D.testBit k
            · have HB2_ := Lib.hid (fun q => (HBIT.out q).mono (fun e w' (he : e = .returned (.int .i64 (bI D k)) ∧ wr.drewN q = w') => (⟨by rw [he.1]; unfold bI; rw [hbit]; rfl, he.2.symm⟩ : e = .returned (.int .i64 0) ∧ w' = wr.drewN q)))
              by_cases hdz : dif am D = 0
              · have hnz : (bits .andNot .i64 (am : Int) (D : Int) == 0) = true := by rw [EA.out, hdz]; rfl
                by_cases hxl : x ≤ lf
                · by_cases hpn : pk < 0
                  · have HN := Lib.hid (HPS.out.trans (if_pos ⟨hbit, hdz, hxl, .inl hpn⟩))
                    clear hbit hdz
                    go_wp2_with fail
                    go_quiet ((go_at_call 32; exact Calls.quiet_of_same (HB2_.out _)))
                    clear hcx hcy hcz
                    go_wp2_with fail
                    go_roundw
                    case rel => exact ⟨k + 1, by omega, by go_num, by rw [HN.out], HDR.out.drew _⟩
                    case measure => simp [intOf] <;> omega
                  · obtain ⟨m, hmk2, rfl⟩ := HPK.out (by omega)
                    have hdp : decide ((m : Int) < 0) = false := decide_eq_false (by omega)
                    obtain ⟨b4, off4, z4, e4, hz4, hc4⟩ := (Drew.ints HW.out hdw).get (k := m) (by omega)
                    cases e4
                    have hz4e := getD_of hz4
                    have hmi : (m : Int) < (l3 : Int) := by omega
                    have hml : m < l3 := by omega
                    rw [Int.toNat_natCast, hz4e] at HPS
                    clear hz4 hz4e
                    by_cases hzw : z4 < z
                    · have HN := Lib.hid (HPS.out.trans (if_pos ⟨hbit, hdz, hxl, .inr hzw⟩))
                      clear hbit hdz
                      go_wp2_with fail
                      go_quiet ((go_at_call 32; exact Calls.quiet_of_same (HB2_.out _)))
                      clear hcx hcy hcz hc4
                      go_wp2_with fail
                      go_roundw
                      case rel => exact ⟨k + 1, by omega, by go_num, by rw [HN.out], HDR.out.drew _⟩
                      case measure => simp [intOf] <;> omega
                    · have HN := Lib.hid (HPS.out.trans (if_neg (fun h => h.2.2.2.elim (by omega) hzw)))
                      clear hbit hdz
                      go_wp2_with fail
                      go_quiet ((go_at_call 32; exact Calls.quiet_of_same (HB2_.out _)))
                      clear hcx hcy hcz hc4
                      go_wp2_with fail
                      go_roundw
                      case rel => exact ⟨k + 1, by omega, by go_num, by rw [HN.out], HDR.out.drew _⟩
                      case measure => simp [intOf] <;> omega
                · have HN := Lib.hid (HPS.out.trans (if_neg (fun h => hxl h.2.2.1)))
                  have hdx : decide (x ≤ lf) = false := decide_eq_false hxl
                  clear hbit hdz
                  go_wp2_with fail
                  go_quiet ((go_at_call 32; exact Calls.quiet_of_same (HB2_.out _)))
                  clear hcx hcy hcz
                  go_wp2_with fail
                  go_roundw
                  case rel => exact ⟨k + 1, by omega, by go_num, by rw [HN.out], HDR.out.drew _⟩
                  case measure => simp [intOf] <;> omega
              · have HN := Lib.hid (HPS.out.trans (if_neg (fun h => hdz h.2.1)))
                have hnz : (bits .andNot .i64 (am : Int) (D : Int) == 0) = false := by rw [EA.out]; simp; omega
                clear hbit hdz
                go_wp2_with fail
                go_quiet ((go_at_call 32; exact Calls.quiet_of_same (HB2_.out _)))
                clear hcx hcy hcz
                go_wp2_with fail
                go_roundw
                case rel => exact ⟨k + 1, by omega, by go_num, by rw [HN.out], HDR.out.drew _⟩
                case measure => simp [intOf] <;> omega
            · have HB2_ := Lib.hid (fun q => (HBIT.out q).mono (fun e w' (he : e = .returned (.int .i64 (bI D k)) ∧ wr.drewN q = w') => (⟨by rw [he.1]; unfold bI; rw [hbit]; rfl, he.2.symm⟩ : e = .returned (.int .i64 1) ∧ w' = wr.drewN q)))
              have HN := Lib.hid (HPS.out.trans (if_neg (fun h => by rw [hbit] at h; cases h.1)))
              clear hbit
              go_wp2_with fail
              go_quiet ((go_at_call 32; exact Calls.quiet_of_same (HB2_.out _)))
              clear hcx hcy hcz
              go_wp2_with fail
              go_roundw
              case rel => exact ⟨k + 1, by omega, by go_num, by rw [HN.out], HDR.out.drew _⟩
              case measure => simp [intOf] <;> omega
          · obtain rfl : k = l3 := by omega
            obtain ⟨y, hwy⟩ := hdw
            subst hwy
            have HOD := Lib.hid (HO.out.drew y)
            have HXD := Lib.hid (hx2.below HOD.out.below)
            clear HX HY HW
            obtain ⟨wd, hwd⟩ : ∃ wd, wo.drewN y = wd := ⟨_, rfl⟩
            rw [hwd] at HOD HXD ⊢
            clear hwd HO
            have HSG := Lib.hid (show stepG T (natsOf ys) W c g = if pickM T (natsOf ys) W D lf k < 0 then ⟨D, g.place + 1, c, g.out⟩ else ⟨D + 2 ^ (pickM T (natsOf ys) W D lf k).toNat, g.place, lf - T.getD (pickM T (natsOf ys) W D lf k).toNat 0, g.out.set (pickM T (natsOf ys) W D lf k).toNat g.place⟩ by
              unfold stepG; rw [HDD.out, HLF.out, HTL.out])
            by_cases hneg : pickM T (natsOf ys) W D lf k < 0
            · have HE := Lib.hid (HSG.out.trans (if_pos hneg))
              generalize pickM T (natsOf ys) W D lf k = pk at *
              go_wp2_with fail
              go_roundw
              case rel => exact ⟨⟨D, g.place + 1, c, g.out⟩, f', by rw [← HE.out]; exact HSTEP.out.1, by rw [← HE.out]; have := HSTEP.out.2; have := HM.out; have := HF.out; omega, by have := HFP.out; have := HF.out; simp only; omega, by rw [← HE.out]; exact HRUN2.out, rfl, by go_num, rfl, HOD.out⟩
              case measure =>
                have h1 := HSTEP.out.2
                rw [HE.out] at h1
                unfold measG at h1
                simp only [HDD.out, HLF.out, HTL.out] at h1
                have h2 : lf < c := by
                  by_cases h : lf < c
                  · exact h
                  · rw [if_neg h] at h1; omega
                rw [msG_at, msG_at, if_neg (Int.lt_irrefl c), if_pos h2]
                omega
            · obtain ⟨m, hml, hme⟩ := pick_lt (T := T) (A := natsOf ys) (W := W) (D := D) (left := lf) (k := k) (by omega)
              have HE := Lib.hid (HSG.out.trans (if_neg hneg))
              obtain ⟨hq, hqb⟩ : D.testBit m = false ∧ T.getD m 0 ≤ lf := by
                obtain ⟨q, _, e, h1, _, h3⟩ := pickM_get (T := T) (A := natsOf ys) (W := W) (D := D) (left := lf) k (by omega)
                have : q = m := by omega
                subst this; exact ⟨h1, h3⟩
              
              rw [hme] at HE ⊢
              rw [Int.toNat_natCast] at HE
              obtain ⟨b, off, x, rfl, hxx, hcx⟩ := HXD.out.get hml
              have hxe := getD_of hxx
              have hxb := HTB.out m
              rw [hxe] at hxb hqb HE
              obtain ⟨e1, f1⟩ := HOD.out.cell hml
              have hmi : (m : Int) < (k : Int) := by omega
              have HPM := Lib.hid (powV_eq m (by omega))
              have hpm : 2 ^ m ≤ 64 := Nat.pow_le_pow_right (n := 2) (j := 6) (by omega) (by omega)
              obtain ⟨pm, hpme⟩ : ∃ pm, 2 ^ m = pm := ⟨_, rfl⟩
              rw [hpme] at hpm HPM HE
              clear hpme
              have HGL := Lib.hid (show g.out.length = k by rw [HG.out.len, HTL.out])
              clear hneg hme hxx hxe hq
              go_wp2_with fail
              refine (power_all m (by omega) _).mono ?_
              rintro e w' ⟨rfl, rfl⟩
              rw [HPM.out]
              have hcx2 : (wd.setCell ⟨w2.heap.size, m, none⟩ (.int .i64 (g.place : Int))).cell? ⟨b, off + m, none⟩ = some (.int .i64 x) := by
                have := HXD.out.mem (by omega)
                rw [World.cell?_setCell_other _ _ _ _ (by intro e'; injection e'; omega)]; exact hcx
              clear hcx
              go_wp2_with fail
              go_roundw
              case rel => exact ⟨⟨D + pm, g.place, lf - x, g.out.set m g.place⟩, f', by rw [← HE.out]; exact HSTEP.out.1, by rw [← HE.out]; have := HSTEP.out.2; have := HM.out; have := HF.out; omega, by have := HFP.out; have := HF.out; simp only; omega, by rw [← HE.out]; exact HRUN2.out, by go_num, rfl, rfl, (HOD.out.put m _).congr (fun q hq => by
                  by_cases e : q = m
                  · subst e; rw [if_pos rfl]; exact (getD_set_eq (by rw [HGL.out]; exact hq)).symm
                  · rw [if_neg e]; exact (getD_set_ne e).symm)⟩
              case measure =>
                have h1 := HSTEP.out.2
                rw [HE.out] at h1
                unfold measG at h1
                simp only [HDD.out, HLF.out, HTL.out] at h1
                have e3 : ((D : Int) + (pm : Int)).toNat = D + pm := by omega
                have e4 : ((D : Nat) : Int).toNat = D := by omega
                rw [msG_at, msG_at, e3, e4]
                exact h1
      · have hDe : g.D = P - 1 := by omega
        have hlti : ¬ (g.D : Int) < (P : Int) - 1 := by omega
        have HE := Lib.hid (show byM T (natsOf ys) W c = tab (fun q => g.out.getD q 0) l3 by
          have e : runG T (natsOf ys) W c f g = g := by
            cases f with
            | zero => rfl
            | succ f => rw [runG, if_neg (by rw [HPE.out]; exact hlt)]
          rw [← HRUN.out, e]
          have hl := HG.out.len
          rw [HTL.out] at hl
          have := tab_self g.out
          rw [hl] at this; exact this.symm)
        go_wp2_with fail
        refine (power_all l3 (by omega) wo).mono ?_
        rintro e w' ⟨rfl, rfl⟩
        rw [HPL.out]
        go_wp2_with fail
        go_ret
        rw [HE.out]
        obtain ⟨a7, l7, c7, e7, h7, h8, h9⟩ := (HO.out.done (by omega)).ints
        simp only [Ending.returned.injEq, Value.slice.injEq] at e7
        obtain ⟨rfl, rfl, rfl⟩ := e7
        exact ⟨_, _, _, rfl, h7.to (fun b hb => ⟨⟨Nat.le_trans HB2.out.size hb.1, hb.2⟩, rfl⟩), h8, HB2.out.trans (h9.mono HB2.out.size)⟩
end Go.Proofs.Ytobfencmfeneoac
