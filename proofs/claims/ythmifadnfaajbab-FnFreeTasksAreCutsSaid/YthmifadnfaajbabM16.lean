import Derived.Test.YthmifadnfaajbabM5
import Derived.Test.YthmifadnfaajbabRows
import Derived.WalkKit
import Derived.LoopTactic
import Derived.Outline
import Derived.WalkSpells
import Derived.WalkLawsBesides
import Derived.ProofKit
import Derived.Lib.Hide
import Derived.IntWalk
import Derived.Test.YthmifadnfaajbabM0
import Derived.Test.YthmifadnfaajbabM1
import Derived.Test.YthmifadnfaajbabM2
import Derived.Test.YthmifadnfaajbabM3
import Derived.Test.YthmifadnfaajbabM4
import Derived.Test.YthmifadnfaajbabM15
import Derived.Deep.QuietTactic
import Derived.BigQuiet
import Derived.RegionTactic
import Derived.BigRegion
namespace Go.Proofs.Ythmifadnfaajbab
open Go.RowKit Go.WideShapes

def lineP (T ys : List Int) (c : Int) : Prop := (∀ k, k < T.length → T.getD k 0 ≤ c) ∧ tasksP T ys ∧ inB 1 60 c = true
instance (T ys : List Int) (c : Int) : Decidable (lineP T ys c) := by unfold lineP; infer_instance
def lineM (T ys : List Int) (c : Int) : Bool := decide (lineP T ys c)
theorem lineM_yes {T ys : List Int} {c : Int} (h : lineP T ys c) : lineM T ys c = true := decide_eq_true h
theorem lineM_no {T ys : List Int} {c : Int} (h : ¬ lineP T ys c) : lineM T ys c = false := decide_eq_false h
theorem lineM_get {T ys : List Int} {c : Int} (h : lineM T ys c = true) : lineP T ys c := of_decide_eq_true h
theorem lineP_c {T ys : List Int} {c : Int} (h : lineP T ys c) : 1 ≤ c ∧ c ≤ 60 := by simpa [inB] using h.2.2
set_option maxRecDepth 100000 in
set_option maxHeartbeats 4000000 in
theorem validLine_any (S : Nat → Prop) (a a2 : Option Addr) (len cap len2 cap2 : Nat) (T ys : List Int) (c : Int) (w : World) (ht : IntsAt w S a len T) (hy : IntsAt w S a2 len2 ys) (hl : len2 ≤ 1048576) :
    Calls Try.prog 32 #[.slice a len cap, .slice a2 len2 cap2, .int .i64 c] w fun e w' => e = .returned (.bool (lineM T ys c)) ∧ Drew w w' := by
  have HT := Lib.hid ht.lenEq
  have hs := ht.small
  go_enter Try.func32, Try.ntmps32
  go_wp2_with fail
  go_loop [7] (fun i => ∃ k : Nat, k ≤ len ∧ i = .int .i64 k ∧ ∀ q, q < k → T.getD q 0 ≤ c) (fun i => len - (intOf i).toNat)
  case atStart => exact ⟨0, Nat.zero_le _, rfl, fun q h => absurd h (by omega)⟩
  case round =>
    obtain ⟨k, hk, rfl, ha⟩ := hrel
    have HA := Lib.hid ha
    clear ha
    by_cases hlt : k < len
    · obtain ⟨b, off, x, rfl, hx, hc⟩ := ht.get hlt
      have HG := Lib.hid (getD_of hx)
      clear hx
      by_cases hxc : c < x
      · go_wp2_with fail
        go_ret
        exact ⟨ret_bool (lineM_no fun h => by have := h.1 k (by rw [HT.out]; exact hlt); rw [HG.out] at this; omega).symm, Drew.refl _⟩
      · go_wp2_with fail
        go_round
        case rel =>
          refine ⟨k + 1, by omega, by go_num, fun q hq => ?_⟩
          rcases Nat.lt_or_eq_of_le (Nat.le_of_lt_succ hq) with h | rfl
          · exact HA.out q h
          · rw [HG.out]; omega
        case measure => simp [intOf]; omega
    · obtain rfl : len = k := by omega
      cases hv : tasksM T ys
      · have HF := Lib.hid (show lineM T ys c = false from lineM_no fun h => by rw [tasksM_yes h.2.1] at hv; cases hv)
        go_wp2_with fail
        refine (validTasks_any S a a2 len cap len2 cap2 T ys w ht hy hl).mono ?_
        rintro e w' ⟨rfl, hdw⟩
        rw [hv]
        go_wp2_with fail
        go_ret
        exact ⟨ret_bool HF.out.symm, hdw⟩
      · cases hq : inB 1 60 c
        · have HF := Lib.hid (show lineM T ys c = false from lineM_no fun h => by rw [h.2.2] at hq; cases hq)
          go_wp2_with fail
          refine (validTasks_any S a a2 len cap len2 cap2 T ys w ht hy hl).mono ?_
          rintro e w' ⟨rfl, hdw⟩
          rw [hv]
          go_wp2_with (go_at_call 37; refine (inRange_any _ _ _ _).mono ?_; rintro e w'2 ⟨rfl, rfl⟩)
          go_ret
          exact ⟨ret_bool HF.out.symm, hdw⟩
        · have HF := Lib.hid (show lineM T ys c = true from lineM_yes ⟨fun k hk => HA.out k (by rw [HT.out] at hk; exact hk), tasksM_get hv, hq⟩)
          go_wp2_with fail
          refine (validTasks_any S a a2 len cap len2 cap2 T ys w ht hy hl).mono ?_
          rintro e w' ⟨rfl, hdw⟩
          rw [hv]
          go_wp2_with (go_at_call 37; refine (inRange_any _ _ _ _).mono ?_; rintro e w'2 ⟨rfl, rfl⟩)
          go_ret
          exact ⟨ret_bool HF.out.symm, hdw⟩
def fewRes (T ys : List Int) (c : Int) : Int := if lineP T ys c then fewM T (natsOf ys) c else -1
end Go.Proofs.Ythmifadnfaajbab
namespace Go.Proofs.Ythmifadnfaajbab
open Go.RowKit Go.WideShapes

/-- what WeightsOf answers -/
def weightsRes (T ys : List Int) : List Int := if tasksP T ys then weightsM T (natsOf ys) else []
theorem weightsRes_len (T ys : List Int) : (weightsRes T ys).length ≤ 1048576 := by
  unfold weightsRes
  split
  · rename_i h; rw [weightsM_len]; have := h.2.2; omega
  · simp
/-- what LeastTact answers -/
def tactFine (T ys : List Int) (p : Int) : Bool := tasksM T ys && inB 1 6 p
def tactRes (T ys : List Int) (p : Int) : Int := if tactFine T ys p then (leastT T (natsOf ys) p : Int) else -1
theorem tactRes_no {T ys : List Int} {p : Int} (h : tactFine T ys p = false) : tactRes T ys p = -1 := by unfold tactRes; rw [h]; rfl
theorem tactRes_yes {T ys : List Int} {p : Int} (h : tactFine T ys p = true) : tactRes T ys p = (leastT T (natsOf ys) p : Int) := by unfold tactRes; rw [h]; rfl
end Go.Proofs.Ythmifadnfaajbab
namespace Go.Proofs.Ythmifadnfaajbab
open Go.RowKit Go.WideShapes

theorem Try.infoIntBy : (Try.prog.info? 3).map (fun i => (i.zero, i.size, i.bytes)) = some (some (.int .i64 0), 1, 8) := by kernel_rfl
/-- what PlacesBy answers -/
def byRes (T ys : List Int) (c : Int) : List Int := if lineP T ys c then byM T (natsOf ys) (weightsM T (natsOf ys)) c else []
theorem byRes_len (T ys : List Int) (c : Int) : (byRes T ys c).length ≤ 1048576 := by
  unfold byRes
  split
  · rename_i h
    have hs := by_spec (T := T) (A := natsOf ys) (W := weightsM T (natsOf ys)) (c := c) (by rw [natsOf_len]; exact h.2.1.2.1) (natsOf_hA h.2.1.1.2) (fun k hk => ⟨(tasks_at h.2.1.1.1).2 k hk, h.1 k hk⟩) (by have := lineP_c h; omega)
    have := h.2.1.2.2
    rw [hs.1]; omega
  · simp
theorem pick_step {T : List Int} {A : List Nat} {W : List Int} {D : Nat} {left : Int} {k : Nat} {t wk : Int} (ht : T.getD k 0 = t) (hw : W.getD k 0 = wk) : pickM T A W D left (k + 1) = if D.testBit k = false ∧ dif (A.getD k 0) D = 0 ∧ t ≤ left ∧ (pickM T A W D left k < 0 ∨ W.getD (pickM T A W D left k).toNat 0 < wk) then (k : Int) else pickM T A W D left k := by
  rw [pickM, ht, hw]
theorem pick_lt {T : List Int} {A : List Nat} {W : List Int} {D : Nat} {left : Int} {k : Nat} (h : 0 ≤ pickM T A W D left k) : ∃ m : Nat, m < k ∧ pickM T A W D left k = (m : Int) := by
  obtain ⟨q, hq, e, _⟩ := pickM_get k h; exact ⟨q, hq, e⟩
def msG (c : Int) (n : Nat) (d l : Value) : Nat := 2 * undone (intOf d).toNat n + (if intOf l < c then 1 else 0)
theorem msG_at (c : Int) (n : Nat) (d l : Int) : msG c n (.int .i64 d) (.int .i64 l) = 2 * undone d.toNat n + (if l < c then 1 else 0) := rfl
set_option maxRecDepth 100000 in
set_option maxHeartbeats 8000000 in
theorem placesBy_spec (a a2 : Option Addr) (len cap len2 cap2 : Nat) (T ys : List Int) (c : Int) (w : World) (ht : IntsAt w (· < w.heap.size) a len T) (hy : IntsAt w (· < w.heap.size) a2 len2 ys) (hl : len2 ≤ 1048576) :
    Calls Try.prog 18 #[.slice a len cap, .slice a2 len2 cap2, .int .i64 c] w (NewInts w (byRes T ys c)) := by
  have HTL := Lib.hid ht.lenEq
  have HYL := Lib.hid hy.lenEq
  cases hv : lineM T ys c
  · have HR := Lib.hid (show byRes T ys c = [] from if_neg fun h => by rw [lineM_yes h] at hv; cases hv)
    rw [HR.out]
    go_enter Try.func18, Try.ntmps18
    go_wp2_with fail
    refine (validLine_any _ a a2 len cap len2 cap2 T ys c w ht hy hl).mono ?_
    rintro e w' ⟨rfl, hdw⟩
    rw [hv]
    go_wp2_with fail
    go_ret
    exact ⟨none, 0, 0, rfl, ⟨rfl, Nat.zero_le _, fun h => absurd h (by omega)⟩, Nat.le_refl _, hdw.below _⟩
  · have hP := lineM_get hv
    have hcb := lineP_c hP
    have HR := Lib.hid (show byRes T ys c = byM T (natsOf ys) (weightsM T (natsOf ys)) c from if_pos hP)
    rw [HR.out]
    have hl6 : len ≤ 6 := by have := hP.2.1.2.2; have := HTL.out; omega
    have hle : len2 = len := by have := hP.2.1.2.1; have := HTL.out; have := HYL.out; omega
    subst hle
    have HPI := Lib.hid hP.2.1.1.2
    have HTB := Lib.hid (tasks_at hP.2.1.1.1).1
    have HTASK := Lib.hid hP.2.1
    have HST := Lib.hid (fun (W : List Int) {s : GS} (g : IG T (natsOf ys) c s) (hD : s.D < 2 ^ T.length - 1) => g.step (W := W) (by rw [natsOf_len]; exact hP.2.1.2.1) (natsOf_hA hP.2.1.1.2) (fun k hk => ⟨(tasks_at hP.2.1.1.1).2 k hk, hP.1 k hk⟩) (by omega) hD)
    have HWL := Lib.hid (weightsM_len T (natsOf ys))
    have HPL := Lib.hid (powV_eq len2 (by omega))
    have hpb : 1 ≤ 2 ^ len2 ∧ 2 ^ len2 ≤ 64 := ⟨Nat.pow_pos (by omega), Nat.pow_le_pow_right (n := 2) (by omega) hl6⟩
    have HWB := Lib.hid (show ∀ k, 0 ≤ (weightsM T (natsOf ys)).getD k 0 ∧ (weightsM T (natsOf ys)).getD k 0 ≤ 1000 from fun k => by
      by_cases hk : k < T.length
      · rw [weightsM_get hk]; unfold wM
        have := csum_range (tasks_at hP.2.1.1.1).1 (fun x => (bsM (natsOf ys) k T.length).testBit x) T.length
        have := hP.2.1.2.2; omega
      · rw [getD_past (by rw [weightsM_len]; omega)]; omega)
    obtain ⟨P, hPP⟩ : ∃ P, 2 ^ len2 = P := ⟨_, rfl⟩
    rw [hPP] at HPL hpb
    have HPE := Lib.hid (show 2 ^ T.length = P by rw [HTL.out]; exact hPP)
    clear hP hPP
    have hmk := fun w => run_make_row' (P := Try.prog) 22 3 (.int .i64 0) 8 Try.underlying22 Try.infoIntBy rfl .i64 .i64 len2 (by omega) (by omega) w
    go_enter Try.func18, Try.ntmps18
    go_wp2_with fail
    refine (validLine_any _ a a2 len2 cap len2 cap2 T ys c w ht hy hl).mono ?_
    rintro e w1 ⟨rfl, hdw⟩
    rw [hv]
    have hz := hdw.size
    have hx1 : IntsAt w1 (· < w1.heap.size) a len2 T := (Drew.ints ht hdw).to (fun b hb => ⟨by rw [hz]; exact hb, rfl⟩)
    have hy1 : IntsAt w1 (· < w1.heap.size) a2 len2 ys := (Drew.ints hy hdw).to (fun b hb => ⟨by rw [hz]; exact hb, rfl⟩)
    have HDW := Lib.hid hdw
    clear hv hdw ht hy
    go_wp2_with fail
    refine (weights_any a a2 len2 cap len2 cap2 T ys w1 hx1 hy1 HTASK.out).mono ?_
    rintro e w2 ⟨a3, l3, c3, rfl, hl3, own3, hb3⟩
    have hl3e : l3 = len2 := by have := own3.1; simp at this; have := HWL.out; have := HTL.out; omega
    subst hl3e
    have hw2 := own_low own3 hl3
    have hx2 := ints_lift hx1 hb3
    have hy2 := ints_lift hy1 hb3
    have HB2 := Lib.hid (show Below w.heap.size w w2 from (HDW.out.below _).trans (hb3.mono (by rw [hz]; exact Nat.le_refl _)))
    have HO0 := Lib.hid ((OwnF.start w2 l3 (by omega)).congr (g := fun q => (initG T c).out.getD q 0) (fun q hq => by simp [initG, List.getD_eq_getElem?_getD, HTL.out, hq]))
    clear own3 hb3 hx1 hy1 hz
    generalize hWe : weightsM T (natsOf ys) = W at *
    clear hWe
    go_wp2_with fail
    clear hmk
    go_loopw [10, 11, 12] (fun dv pv lv wr => ∃ (g : GS) (f : Nat), IG T (natsOf ys) c g ∧ measG T c g ≤ f ∧ f + g.place ≤ 2 * T.length + 1 ∧ (runG T (natsOf ys) W c f g).out = byM T (natsOf ys) W c ∧ dv = .int .i64 (g.D : Int) ∧ pv = .int .i64 (g.place : Int) ∧ lv = .int .i64 g.left ∧ OwnF w2 wr l3 (fun q => g.out.getD q 0)) (fun dv _ lv _ => msG c l3 dv lv)
    case atStart => exact ⟨initG T c, 2 * T.length + 1, initG_ok (by omega), by
        show 2 * undone 0 T.length + _ ≤ _
        have := undone_le 0 T.length
        have e : ¬ (initG T c).left < c := Int.lt_irrefl _
        rw [if_neg e]; omega, Nat.le_refl _, rfl, rfl, rfl, rfl, HO0.out⟩
    case round =>
      clear HO0
      obtain ⟨g, f, hg, hm, hfp, hrun, rfl, rfl, rfl, hO⟩ := hrel
      obtain ⟨wo, rfl⟩ : ∃ wo : World, wo = wr := ⟨_, rfl⟩
      have HG := Lib.hid hg
      have HM := Lib.hid hm
      have HFP := Lib.hid hfp
      have HRUN := Lib.hid hrun
      have HO := Lib.hid hO
      have hDlt : g.D < P := by have := hg.lt; rwa [HPE.out] at this
      have hplb : g.place ≤ 13 := by have := HTL.out; omega
      have hleft : 0 ≤ g.left ∧ g.left ≤ 60 := by have := hg.pos; have := hg.top; omega
      have HX := Lib.hid (hx2.below HO.out.below)
      have HY := Lib.hid (hy2.below HO.out.below)
      have HW := Lib.hid (hw2.below HO.out.below)
      clear hg hm hfp hrun hO
      by_cases hlt : g.D < P - 1
      · have hlti : (g.D : Int) < (P : Int) - 1 := by omega
        have HSTEP := Lib.hid (HST.out W HG.out (by rw [HPE.out]; exact hlt))
        obtain ⟨f', hf'⟩ : ∃ f', f = f' + 1 := ⟨f - 1, by have := HSTEP.out.2; have := HM.out; omega⟩
        have HF := Lib.hid hf'
        have HRUN2 := Lib.hid (show (runG T (natsOf ys) W c f' (stepG T (natsOf ys) W c g)).out = byM T (natsOf ys) W c by
          have := HRUN.out
          rw [HF.out, runG, if_pos (by rw [HPE.out]; exact hlt)] at this; exact this)
        obtain ⟨D, hD⟩ : ∃ D, g.D = D := ⟨_, rfl⟩
        obtain ⟨lf, hlf⟩ : ∃ lf, g.left = lf := ⟨_, rfl⟩
        rw [hD] at hDlt hlt hlti ⊢
        rw [hlf] at hleft ⊢
        have HDD := Lib.hid hD
        have HLF := Lib.hid hlf
        clear hD hlf hf'
        go_wp2_with fail
        refine (power_all l3 (by omega) wo).mono ?_
        rintro e w' ⟨rfl, rfl⟩
        rw [HPL.out]
        go_wp2_with fail
        go_loopw [13, 14] (fun av iv wr => ∃ k : Nat, k ≤ l3 ∧ iv = .int .i64 (k : Int) ∧ av = .int .i64 (pickM T (natsOf ys) W D lf k) ∧ Drew wo wr) (fun _ iv _ => l3 - (intOf iv).toNat)
        case atStart => exact ⟨0, Nat.zero_le _, rfl, rfl, Drew.refl _⟩
        case round =>
          obtain ⟨k, hk, rfl, rfl, hdw⟩ := hrel
          have HDR := Lib.hid hdw
          by_cases hkl : k < l3
          · obtain ⟨b, off, x, rfl, hxx, hcx⟩ := (Drew.ints HX.out hdw).get hkl
            obtain ⟨b2, off2, y, rfl, hyy, hcy⟩ := (Drew.ints HY.out hdw).get hkl
            obtain ⟨b3, off3, z, rfl, hzz, hcz⟩ := (Drew.ints HW.out hdw).get hkl
            have hxe := getD_of hxx
            have hze := getD_of hzz
            have HPS := Lib.hid (pick_step (T := T) (A := natsOf ys) (W := W) (D := D) (left := lf) hxe hze)
            have hye : y = (((natsOf ys).getD k 0 : Nat) : Int) := by rw [natsOf_get HPI.out (by rw [HYL.out]; exact hkl), getD_of hyy]
            subst hye
            have hab := natsOf_small HPI.out (i := k) (by omega)
            have hxb := HTB.out k
            have hzb := HWB.out k
            rw [hxe] at hxb
            rw [hze] at hzb
            have hkli : (k : Int) < (l3 : Int) := by omega
            have HBIT := Lib.hid (fun q => bit_at D k (by omega) (by omega) (wr.drewN q))
            have hlow := pickM_low (T := T) (A := natsOf ys) (W := W) (D := D) (left := lf) k
            have HPK := Lib.hid (fun h => pick_lt (T := T) (A := natsOf ys) (W := W) (D := D) (left := lf) (k := k) h)
            generalize (natsOf ys).getD k 0 = am at *
            have EA := Lib.hid (i_not am D (by omega) (by omega))
            clear hxx hyy hzz hxe hze
            generalize pickM T (natsOf ys) W D lf k = pk at *
            cases hbit : D.testBit k
            · have HB2_ := Lib.hid (fun q => (HBIT.out q).mono (fun e w' (he : e = .returned (.int .i64 (bI D k)) ∧ wr.drewN q = w') => (⟨by rw [he.1]; unfold bI; rw [hbit]; rfl, he.2.symm⟩ : e = .returned (.int .i64 0) ∧ w' = wr.drewN q)))
              by_cases hdz : dif am D = 0
              · have hnz : (bits .andNot .i64 (am : Int) (D : Int) == 0) = true := by rw [EA.out, hdz]; rfl
                by_cases hxl : x ≤ lf
                · by_cases hpn : pk < 0
                  · have HN := Lib.hid (HPS.out.trans (if_pos ⟨hbit, hdz, hxl, .inl hpn⟩))
                    clear hbit hdz
                    go_wp2_with fail
                    go_quiet ((go_at_call 35; exact Calls.quiet_of_same (HB2_.out _)))
                    clear hcx hcy hcz
                    go_wp2_with fail
                    go_roundw
                    case rel => exact ⟨k + 1, by omega, by go_num, by rw [HN.out], HDR.out.drew _⟩
                    case measure => simp [intOf] <;> omega
                  · obtain ⟨m, hmk2, rfl⟩ := HPK.out (by omega)
                    have hdp : decide ((m : Int) < 0) = false := decide_eq_false (by omega)
                    obtain ⟨b4, off4, z4, e4, hz4, hc4⟩ := (Drew.ints HW.out hdw).get (k := m) (by omega)
                    cases e4
                    have hz4e := getD_of hz4
                    have hmi : (m : Int) < (l3 : Int) := by omega
                    have hml : m < l3 := by omega
                    rw [Int.toNat_natCast, hz4e] at HPS
                    clear hz4 hz4e
                    by_cases hzw : z4 < z
                    · have HN := Lib.hid (HPS.out.trans (if_pos ⟨hbit, hdz, hxl, .inr hzw⟩))
                      clear hbit hdz
                      go_wp2_with fail
                      go_quiet ((go_at_call 35; exact Calls.quiet_of_same (HB2_.out _)))
                      clear hcx hcy hcz hc4
                      go_wp2_with fail
                      go_roundw
                      case rel => exact ⟨k + 1, by omega, by go_num, by rw [HN.out], HDR.out.drew _⟩
                      case measure => simp [intOf] <;> omega
                    · have HN := Lib.hid (HPS.out.trans (if_neg (fun h => h.2.2.2.elim (by omega) hzw)))
                      clear hbit hdz
                      go_wp2_with fail
                      go_quiet ((go_at_call 35; exact Calls.quiet_of_same (HB2_.out _)))
                      clear hcx hcy hcz hc4
                      go_wp2_with fail
                      go_roundw
                      case rel => exact ⟨k + 1, by omega, by go_num, by rw [HN.out], HDR.out.drew _⟩
                      case measure => simp [intOf] <;> omega
                · have HN := Lib.hid (HPS.out.trans (if_neg (fun h => hxl h.2.2.1)))
                  have hdx : decide (x ≤ lf) = false := decide_eq_false hxl
                  clear hbit hdz
                  go_wp2_with fail
                  go_quiet ((go_at_call 35; exact Calls.quiet_of_same (HB2_.out _)))
                  clear hcx hcy hcz
                  go_wp2_with fail
                  go_roundw
                  case rel => exact ⟨k + 1, by omega, by go_num, by rw [HN.out], HDR.out.drew _⟩
                  case measure => simp [intOf] <;> omega
              · have HN := Lib.hid (HPS.out.trans (if_neg (fun h => hdz h.2.1)))
                have hnz : (bits .andNot .i64 (am : Int) (D : Int) == 0) = false := by rw [EA.out]; simp; omega
                clear hbit hdz
                go_wp2_with fail
                go_quiet ((go_at_call 35; exact Calls.quiet_of_same (HB2_.out _)))
                clear hcx hcy hcz
                go_wp2_with fail
                go_roundw
                case rel => exact ⟨k + 1, by omega, by go_num, by rw [HN.out], HDR.out.drew _⟩
                case measure => simp [intOf] <;> omega
            · have HB2_ := Lib.hid (fun q => (HBIT.out q).mono (fun e w' (he : e = .returned (.int .i64 (bI D k)) ∧ wr.drewN q = w') => (⟨by rw [he.1]; unfold bI; rw [hbit]; rfl, he.2.symm⟩ : e = .returned (.int .i64 1) ∧ w' = wr.drewN q)))
              have HN := Lib.hid (HPS.out.trans (if_neg (fun h => by rw [hbit] at h; cases h.1)))
              clear hbit
              go_wp2_with fail
              go_quiet ((go_at_call 35; exact Calls.quiet_of_same (HB2_.out _)))
              clear hcx hcy hcz
              go_wp2_with fail
              go_roundw
              case rel => exact ⟨k + 1, by omega, by go_num, by rw [HN.out], HDR.out.drew _⟩
              case measure => simp [intOf] <;> omega
          · obtain rfl : k = l3 := by omega
            obtain ⟨y, hwy⟩ := hdw
            subst hwy
            have HOD := Lib.hid (HO.out.drew y)
            have HXD := Lib.hid (hx2.below HOD.out.below)
            clear HX HY HW
            obtain ⟨wd, hwd⟩ : ∃ wd, wo.drewN y = wd := ⟨_, rfl⟩
            rw [hwd] at HOD HXD ⊢
            clear hwd HO
            have HSG := Lib.hid (show stepG T (natsOf ys) W c g = if pickM T (natsOf ys) W D lf k < 0 then ⟨D, g.place + 1, c, g.out⟩ else ⟨D + 2 ^ (pickM T (natsOf ys) W D lf k).toNat, g.place, lf - T.getD (pickM T (natsOf ys) W D lf k).toNat 0, g.out.set (pickM T (natsOf ys) W D lf k).toNat g.place⟩ by
              unfold stepG; rw [HDD.out, HLF.out, HTL.out])
            by_cases hneg : pickM T (natsOf ys) W D lf k < 0
            · have HE := Lib.hid (HSG.out.trans (if_pos hneg))
              generalize pickM T (natsOf ys) W D lf k = pk at *
              go_wp2_with fail
              go_roundw
              case rel => exact ⟨⟨D, g.place + 1, c, g.out⟩, f', by rw [← HE.out]; exact HSTEP.out.1, by rw [← HE.out]; have := HSTEP.out.2; have := HM.out; have := HF.out; omega, by have := HFP.out; have := HF.out; simp only; omega, by rw [← HE.out]; exact HRUN2.out, rfl, by go_num, rfl, HOD.out⟩
              case measure =>
                have h1 := HSTEP.out.2
                rw [HE.out] at h1
                unfold measG at h1
                simp only [HDD.out, HLF.out, HTL.out] at h1
                have h2 : lf < c := by
                  by_cases h : lf < c
                  · exact h
                  · rw [if_neg h] at h1; omega
                rw [msG_at, msG_at, if_neg (Int.lt_irrefl c), if_pos h2]
                omega
            · obtain ⟨m, hml, hme⟩ := pick_lt (T := T) (A := natsOf ys) (W := W) (D := D) (left := lf) (k := k) (by omega)
              have HE := Lib.hid (HSG.out.trans (if_neg hneg))
              obtain ⟨hq, hqb⟩ : D.testBit m = false ∧ T.getD m 0 ≤ lf := by
                obtain ⟨q, _, e, h1, _, h3⟩ := pickM_get (T := T) (A := natsOf ys) (W := W) (D := D) (left := lf) k (by omega)
                have : q = m := by omega
                subst this; exact ⟨h1, h3⟩
              
              rw [hme] at HE ⊢
              rw [Int.toNat_natCast] at HE
              obtain ⟨b, off, x, rfl, hxx, hcx⟩ := HXD.out.get hml
              have hxe := getD_of hxx
              have hxb := HTB.out m
              rw [hxe] at hxb hqb HE
              obtain ⟨e1, f1⟩ := HOD.out.cell hml
              have hmi : (m : Int) < (k : Int) := by omega
              have HPM := Lib.hid (powV_eq m (by omega))
              have hpm : 2 ^ m ≤ 64 := Nat.pow_le_pow_right (n := 2) (j := 6) (by omega) (by omega)
              obtain ⟨pm, hpme⟩ : ∃ pm, 2 ^ m = pm := ⟨_, rfl⟩
              rw [hpme] at hpm HPM HE
              clear hpme
              have HGL := Lib.hid (show g.out.length = k by rw [HG.out.len, HTL.out])
              clear hneg hme hxx hxe hq
              go_wp2_with fail
              refine (power_all m (by omega) _).mono ?_
              rintro e w' ⟨rfl, rfl⟩
              rw [HPM.out]
              have hcx2 : (wd.setCell ⟨w2.heap.size, m, none⟩ (.int .i64 (g.place : Int))).cell? ⟨b, off + m, none⟩ = some (.int .i64 x) := by
                have := HXD.out.mem (by omega)
                rw [World.cell?_setCell_other _ _ _ _ (by intro e'; injection e'; omega)]; exact hcx
              clear hcx
              go_wp2_with fail
              go_roundw
              case rel => exact ⟨⟨D + pm, g.place, lf - x, g.out.set m g.place⟩, f', by rw [← HE.out]; exact HSTEP.out.1, by rw [← HE.out]; have := HSTEP.out.2; have := HM.out; have := HF.out; omega, by have := HFP.out; have := HF.out; simp only; omega, by rw [← HE.out]; exact HRUN2.out, by go_num, rfl, rfl, (HOD.out.put m _).congr (fun q hq => by
                  by_cases e : q = m
                  · subst e; rw [if_pos rfl]; exact (getD_set_eq (by rw [HGL.out]; exact hq)).symm
                  · rw [if_neg e]; exact (getD_set_ne e).symm)⟩
              case measure =>
                have h1 := HSTEP.out.2
                rw [HE.out] at h1
                unfold measG at h1
                simp only [HDD.out, HLF.out, HTL.out] at h1
                have e3 : ((D : Int) + (pm : Int)).toNat = D + pm := by omega
                have e4 : ((D : Nat) : Int).toNat = D := by omega
                rw [msG_at, msG_at, e3, e4]
                exact h1
      · have hDe : g.D = P - 1 := by omega
        have hlti : ¬ (g.D : Int) < (P : Int) - 1 := by omega
        have HE := Lib.hid (show byM T (natsOf ys) W c = tab (fun q => g.out.getD q 0) l3 by
          have e : runG T (natsOf ys) W c f g = g := by
            cases f with
            | zero => rfl
            | succ f => rw [runG, if_neg (by rw [HPE.out]; exact hlt)]
          rw [← HRUN.out, e]
          have hl := HG.out.len
          rw [HTL.out] at hl
          have := tab_self g.out
          rw [hl] at this; exact this.symm)
        go_wp2_with fail
        refine (power_all l3 (by omega) wo).mono ?_
        rintro e w' ⟨rfl, rfl⟩
        rw [HPL.out]
        go_wp2_with fail
        go_ret
        rw [HE.out]
        obtain ⟨a7, l7, c7, e7, h7, h8, h9⟩ := (HO.out.done (by omega)).ints
        simp only [Ending.returned.injEq, Value.slice.injEq] at e7
        obtain ⟨rfl, rfl, rfl⟩ := e7
        exact ⟨_, _, _, rfl, h7.to (fun b hb => ⟨⟨Nat.le_trans HB2.out.size hb.1, hb.2⟩, rfl⟩), h8, HB2.out.trans (h9.mono HB2.out.size)⟩
end Go.Proofs.Ythmifadnfaajbab
namespace Go.Proofs.Ythmifadnfaajbab
open Go.RowKit

theorem small8 {len : Nat} {xs : List Int} (hl : xs.length = len) (h : ¬ len ≤ 8) (b : Bool) : (decide (xs.length ≤ 8) && b) = false := by
  rw [decide_eq_false (by omega)]; rfl
theorem small8' {len : Nat} {xs : List Int} (hl : xs.length = len) (h : len ≤ 8) (b : Bool) : (decide (xs.length ≤ 8) && b) = b := by
  rw [decide_eq_true (by omega)]; rfl
def wantsM (n : Int) (xs : List Int) : Bool := allIn 0 20 xs && decide ((xs.length : Int) = n)
theorem wantsM_false {n : Int} {xs : List Int} {k : Nat} {x : Int} (h : xs[k]? = some x) (hx : inB 0 20 x = false) : wantsM n xs = false := by rw [wantsM, allIn_false h hx]; rfl
theorem wantsM_of {n : Int} {len : Nat} {xs : List Int} (hl : xs.length = len) (ha : allIn 0 20 (xs.take len) = true) : wantsM n xs = ((len : Int) == n) := by
  rw [List.take_of_length_le (by omega)] at ha
  rw [wantsM, ha, hl]; simp; rfl
theorem wantsM_len (xs : List Int) : wantsM xs.length xs = allIn 0 20 xs := by simp [wantsM]
end Go.Proofs.Ythmifadnfaajbab
namespace Go.Proofs.Ythmifadnfaajbab
open Go.RowKit Go.WideShapes

theorem Try.infoIntT : (Try.prog.info? 3).map (fun i => (i.zero, i.size, i.bytes)) = some (some (.int .i64 0), 1, 8) := by kernel_rfl

theorem stocks_no {s : Int} {ms ws : List Int} (h : stocksFine s ms ws = false) : stocksM s ms ws = [] := by unfold stocksM; rw [h]; rfl
theorem stocks_yes {s : Int} {ms ws : List Int} (h : stocksFine s ms ws = true) : stocksM s ms ws = tab (fun q => stockTo ms ws s (q + 1)) ws.length := by unfold stocksM; rw [h]; rfl
theorem stocksM_len (s : Int) (ms ws : List Int) : (stocksM s ms ws).length ≤ 1048576 := by
  unfold stocksM
  split
  · rename_i h
    simp only [stocksFine, stocksIn, Bool.and_eq_true] at h
    have := validDays_len h.1.1.2
    rw [tab_length]; omega
  · simp
theorem resPostB_none {w w' : World} (h : Below w.heap.size w w') : ResPostB w [] false (.returned (.tuple #[.slice none 0 0, .bool false])) w' :=
  ⟨none, 0, 0, rfl, ⟨rfl, Nat.zero_le _, fun h => absurd h (by omega)⟩, ⟨Nat.zero_le _, fun h => absurd h (by omega)⟩, h⟩
theorem newIntsB_none {w w' : World} (h : Below w.heap.size w w') : NewIntsB w [] false (.returned (.tuple #[.slice none 0 0, .bool false])) w' :=
  ⟨none, 0, 0, rfl, ⟨rfl, Nat.zero_le _, fun h => absurd h (by omega)⟩, Nat.le_refl _, h⟩
theorem newIntsB_of {w w' : World} {xs : List Int} {b : Bool} {a : Option Addr} {len cap : Nat} (h : NewInts w xs (.returned (.slice a len cap)) w') : NewIntsB w xs b (.returned (.tuple #[.slice a len cap, .bool b])) w' := by
  obtain ⟨a', l', c', e, h1, h2, h3⟩ := h
  simp only [Ending.returned.injEq, Value.slice.injEq] at e
  obtain ⟨rfl, rfl, rfl⟩ := e
  exact ⟨_, _, _, rfl, h1, h2, h3⟩

def stocksMB (s : Int) (ms ws : List Int) : Bool := stocksFine s ms ws

end Go.Proofs.Ythmifadnfaajbab
namespace Go.Proofs.Ythmifadnfaajbab
open Go.RowKit Go.WideShapes

theorem Try.infoIntP : (Try.prog.info? 3).map (fun i => (i.zero, i.size, i.bytes)) = some (some (.int .i64 0), 1, 8) := by kernel_rfl
def validLotsM (xs : List Int) (s h : Int) : Bool := validDaysM xs && inB 0 30 s && inB 0 30 h
theorem validLots_get {xs : List Int} {s h : Int} (hv : validLotsM xs s h = true) : validDaysM xs = true ∧ (0 ≤ s ∧ s ≤ 30) ∧ (0 ≤ h ∧ h ≤ 30) := by
  simp only [validLotsM, Bool.and_eq_true] at hv
  have h1 : 0 ≤ s ∧ s ≤ 30 := by simpa [inB] using hv.1.2
  have h2 : 0 ≤ h ∧ h ≤ 30 := by simpa [inB] using hv.2
  exact ⟨hv.1.1, h1, h2⟩
theorem mul_box3 {a b A B : Int} (ha : 0 ≤ a) (ha' : a ≤ A) (hb : 0 ≤ b) (hb' : b ≤ B) : 0 ≤ a * b ∧ a * b ≤ A * B :=
  ⟨Int.mul_nonneg ha hb, Int.mul_le_mul ha' hb' hb (by omega)⟩
theorem ints_part {w : World} {S : Nat → Prop} {b off len : Nat} {xs : List Int} (h : IntsAt w S (some ⟨b, off, none⟩) len xs) (i k : Nat) (hi : i < k) (hk : k ≤ len) : IntsAt w S (some ⟨b, off + i, none⟩) (k - i) ((xs.drop i).take (k - i)) := by
  have hl := h.lenEq
  have hs := h.small
  obtain ⟨b', off', e, hS, hc⟩ := h.cells (by omega)
  cases e
  refine ⟨by simp; omega, by omega, fun _ => ⟨b, off + i, rfl, hS, fun j x hx => ?_⟩⟩
  rw [List.getElem?_take] at hx
  split at hx
  · rw [List.getElem?_drop] at hx
    rw [Nat.add_assoc]
    exact hc _ _ hx
  · cases hx
theorem days_mem {xs : List Int} (hx : ∀ k, 0 ≤ xs.getD k 0 ∧ xs.getD k 0 ≤ 20) : ∀ x ∈ xs, -1099511627776 ≤ x ∧ x ≤ 1099511627776 := by
  intro x hx'
  obtain ⟨k, hk, rfl⟩ := List.mem_iff_getElem.1 hx'
  have := hx k
  rw [List.getD_eq_getElem?_getD, List.getElem?_eq_getElem hk] at this
  simp at this
  omega
def lotFine (ms xs : List Int) (s h : Int) : Bool := validLotsM xs s h && stocksFine 0 ms xs
/-- what LotCost answers -/
def lotCostM (ms xs : List Int) (s h : Int) : Int := if lotFine ms xs s h then planTo ms xs s h xs.length else -1
def IntBool (w : World) (n : Int) (b : Bool) (e : Ending) (w' : World) : Prop := e = .returned (.tuple #[.int .i64 n, .bool b]) ∧ Below w.heap.size w w'
theorem lotCost_no {ms xs : List Int} {s h : Int} (e : lotFine ms xs s h = false) : lotCostM ms xs s h = -1 := by unfold lotCostM; rw [e]; rfl
theorem lotCost_yes {ms xs : List Int} {s h : Int} (e : lotFine ms xs s h = true) : lotCostM ms xs s h = planTo ms xs s h xs.length := by unfold lotCostM; rw [e]; rfl
theorem dayC_bd {ms xs : List Int} {s h : Int} (hm : validMadeM ms = true) (hx : validDaysM xs = true) (hok : ∀ q, q < xs.length → 0 ≤ stockTo ms xs 0 (q + 1)) (hs : 0 ≤ s ∧ s ≤ 31) (hh : 0 ≤ h ∧ h ≤ 31) {q : Nat} (hq : q < xs.length) : 0 ≤ dayC ms xs s h q ∧ dayC ms xs s h q ≤ 50000 := by
  have h1 := hok q hq
  have h2 := stockTo_bd (s := 0) (by omega) (by omega) hm hx (q + 1)
  have hl := validDays_len hx
  have e : stockTo ms xs 0 (q + 1) = sumN ms (q + 1) - sumN xs (q + 1) := by rw [stockTo_closed]; omega
  rw [e] at h1 h2
  have h3 := mul_box3 hh.1 hh.2 h1 (show _ ≤ (1400 : Int) by omega)
  unfold dayC; split <;> omega
theorem planTo_bd {ms xs : List Int} {s h : Int} (hm : validMadeM ms = true) (hx : validDaysM xs = true) (hok : ∀ q, q < xs.length → 0 ≤ stockTo ms xs 0 (q + 1)) (hs : 0 ≤ s ∧ s ≤ 31) (hh : 0 ≤ h ∧ h ≤ 31) : ∀ q, q ≤ xs.length → 0 ≤ planTo ms xs s h q ∧ planTo ms xs s h q ≤ 50000 * (q : Int) := by
  intro q
  induction q with
  | zero => intro _; simp [planTo]
  | succ q ih => intro hq; have := ih (by omega); have := dayC_bd hm hx hok hs hh (q := q) (by omega); rw [planTo]; omega
/-- of the days behind i, so many lots are tried: the least cost, -1 ahead of the first -/
def curM (xs : List Int) (s h : Int) (i : Nat) : Nat → Int
  | 0 => -1
  | m + 1 => minTo (fun d => runD xs s h i (d + 1) + bst xs s h (i + (d + 1))) m
def doneB (xs : List Int) (s h : Int) (m q : Nat) : Int := if m ≤ q then bst xs s h q else 0
def bestNow (xs : List Int) (s h : Int) (i : Nat) (c : Int) (q : Nat) : Int := if q = i then c else if i < q then bst xs s h q else 0
def leastRes (xs : List Int) (s h : Int) : Int := if validLotsM xs s h then bst xs s h 0 else -1
theorem leastRes_no {xs : List Int} {s h : Int} (e : validLotsM xs s h = false) : leastRes xs s h = -1 := by unfold leastRes; rw [e]; rfl
theorem leastRes_yes {xs : List Int} {s h : Int} (e : validLotsM xs s h = true) : leastRes xs s h = bst xs s h 0 := by unfold leastRes; rw [e]; rfl
def IntVal (w : World) (n : Int) (e : Ending) (w' : World) : Prop := e = .returned (.int .i64 n) ∧ Below w.heap.size w w'
end Go.Proofs.Ythmifadnfaajbab
namespace Go.Proofs.Ythmifadnfaajbab
open Go.RowKit Go.WideShapes

/-- the greatest number, 0 if there is none -/
def greatM : List Int → Int
  | xs => xs.foldl max 0
theorem greatM_snoc (xs : List Int) (x : Int) : greatM (xs ++ [x]) = max (greatM xs) x := by simp [greatM]
theorem greatM_nn (xs : List Int) : 0 ≤ greatM xs := by
  have key : ∀ (xs : List Int) (s : Int), s ≤ xs.foldl max s := by
    intro xs
    induction xs with
    | nil => intro s; exact Int.le_refl _
    | cons a l ih => intro s; have := ih (max s a); simp only [List.foldl_cons]; omega
  exact key xs 0
theorem greatM_ge {xs : List Int} : ∀ x ∈ xs, x ≤ greatM xs := by
  have key : ∀ (xs : List Int) (s : Int), s ≤ xs.foldl max s ∧ ∀ x ∈ xs, x ≤ xs.foldl max s := by
    intro xs
    induction xs with
    | nil => intro s; exact ⟨Int.le_refl _, fun x hx => by cases hx⟩
    | cons a l ih =>
      intro s
      obtain ⟨h1, h2⟩ := ih (max s a)
      simp only [List.foldl_cons]
      refine ⟨by omega, fun x hx => ?_⟩
      rcases List.mem_cons.1 hx with rfl | hx
      · omega
      · exact h2 x hx
  exact (key xs 0).2
theorem greatM_le {xs : List Int} {B : Int} (hB : 0 ≤ B) (h : ∀ x ∈ xs, x ≤ B) : greatM xs ≤ B := by
  have key : ∀ (xs : List Int) (s : Int), s ≤ B → (∀ x ∈ xs, x ≤ B) → xs.foldl max s ≤ B := by
    intro xs
    induction xs with
    | nil => intro s hs _; exact hs
    | cons a l ih => intro s hs h; simp only [List.foldl_cons]; exact ih _ (by have := h a List.mem_cons_self; omega) (fun x hx => h x (List.mem_cons_of_mem _ hx))
  exact key xs 0 hB h
def inM (xs : List Int) (x : Int) : Bool := xs.any (· == x)
theorem inM_iff {xs : List Int} {x : Int} : inM xs x = true ↔ x ∈ xs := by simp [inM]
/-- how many numbers are different -/
def diffM (xs : List Int) : Nat → Nat
  | 0 => 0
  | k + 1 => diffM xs k + (if inM (xs.take k) (xs.getD k 0) then 0 else 1)
theorem diffM_le (xs : List Int) : ∀ k, diffM xs k ≤ k := by
  intro k
  induction k with
  | zero => exact Nat.le_refl _
  | succ k ih => rw [diffM]; split <;> omega
theorem ints_take {w : World} {S : Nat → Prop} {b off len : Nat} {xs : List Int} (h : IntsAt w S (some ⟨b, off, none⟩) len xs) {k : Nat} (hk : k ≤ len) : IntsAt w S (some ⟨b, off, none⟩) k (xs.take k) := by
  have hl := h.lenEq
  have hs := h.small
  refine ⟨by simp; omega, by omega, fun h0 => ?_⟩
  obtain ⟨b', off', e, hS, hc⟩ := h.cells (by omega)
  cases e
  refine ⟨b, off, rfl, hS, fun i x hx => ?_⟩
  rw [List.getElem?_take] at hx
  split at hx
  · exact hc _ _ hx
  · cases hx
end Go.Proofs.Ythmifadnfaajbab
