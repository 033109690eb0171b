/- The law FnWeightsOf returns true at every code, and the code reads behind the call as it read before. No condition. -/
import Derived.Test.YtobfencmfeneoaaRows
import Derived.WalkKit
import Derived.LoopTactic
import Derived.Outline
import Derived.WalkSpells
import Derived.WalkLawsBesides
import Derived.ProofKit
import Derived.Deep.QuietTactic
import Derived.BigQuiet
import Derived.IntWalk
import Derived.Test.YtobfencmfeneoaaLib
import Derived.Test.YtobfencmfeneoaaRd
import Derived.Test.YtobfencmfeneoaaEx
import Derived.Test.YtobfencmfeneoaaGen
import Derived.Test.YtobfencmfeneoaaArr
import Derived.Test.YtobfencmfeneoaaOwn1
import Derived.Test.YtobfencmfeneoaaLaws
import Derived.Test.YtobfencmfeneoaaNetM
import Derived.Test.YtobfencmfeneoaaLineM
import Derived.Test.YtobfencmfeneoaaLineLawM
import Derived.Test.YtobfencmfeneoaaTactM
import Derived.Test.YtobfencmfeneoaaBitOp
import Derived.Test.YtobfencmfeneoaaResC
import Derived.Test.YtobfencmfeneoaaTaskSpec
import Derived.Test.YtobfencmfeneoaaLoadSpec
import Derived.Test.YtobfencmfeneoaaWeightSpec
import Derived.Test.YtobfencmfeneoaaFewSpec
import Derived.Test.YtobfencmfeneoaaTactSpec
import Derived.Test.YtobfencmfeneoaaBySpec
import Derived.Test.YtobfencmfeneoaaStations
import Derived.Test.YtobfencmfeneoaaLineC
import Derived.Test.YtobfencmfeneoaaLineL
import Derived.Test.YtobfencmfeneoaaLineImpl
import Derived.Test.YtobfencmfeneoaaLineEx
import Derived.Test.YtobfencmfeneoaaDrawTask
namespace Go.Proofs.Ytobfencmfeneoaa
open Go.RowKit Go.WideShapes

set_option maxRecDepth 100000 in
set_option maxHeartbeats 4000000 in
theorem fnWeightsOf_any (a : Option Addr) (len cap : Nat) (w : World) (hb : BytesAt w w.heap.size a len) (hl : len ≤ cap) (hs : len ≤ 9223372036854775807) :
    Calls Try.prog 5 #[.slice a len cap] w (LawPost w) := by
  by_cases h20 : len ≤ 1048576
  · go_enter Try.func5, Try.ntmps5
    have hB0 := Below.refl w.heap.size w
    go_wp2_with fail
    refine (drawWeightsOf_any a len cap w hb hl hs).mono ?_
    rintro e w1 ⟨a1, l1, c1, T, a2, l2, c2, ys, rfl, n_t, hc1, hl1, n_y, hc2, hl2, hb1⟩
    have hB1 : Below w.heap.size w w1 := hB0.trans (hb1.mono hB0.size)
    clear hB0
    have xt_1 := n_t
    have xy_1 := n_y
    clear n_t
    clear n_y
    clear hb hb1
    go_wp2_with fail
    refine (weights_impl a1 l1 c1 T a2 l2 c2 ys w1 xt_1 xy_1 hc1 hc2 (by omega) (by omega)).mono ?_
    rintro e w2 ⟨a3, l3, c3, rfl, n_g, _, hc3, hb2⟩
    have xt_2 := ints_lift xt_1 hb2
    have xy_2 := ints_lift xy_1 hb2
    have hB2 : Below w.heap.size w w2 := hB1.trans (hb2.mono hB1.size)
    clear hB1 xt_1 xy_1
    have xg_2 := ints_in n_g (Nat.le_refl _)
    clear n_g
    go_wp2_with fail
    refine (weights_specV a1 l1 c1 T a2 l2 c2 ys w2 xt_2 xy_2 (by omega) (by omega)).mono ?_
    rintro e w3 ⟨a4, l4, c4, rfl, n_k, _, hb3⟩
    have xt_3 := ints_lift xt_2 hb3
    have xy_3 := ints_lift xy_2 hb3
    have xg_3 := ints_lift xg_2 hb3
    have hB3 : Below w.heap.size w w3 := hB2.trans (hb3.mono hB2.size)
    clear hB2 xt_2 xy_2 xg_2
    have xk_3 := ints_in n_k (Nat.le_refl _)
    clear n_k
    have heq : eqB (weightsRes T ys) (weightsRes T ys) = true := decide_eq_true rfl
    go_wp2_with fail
    refine (equalInts_any _ _ _ _ _ _ _ _ _ _ _ xg_3 xk_3).mono ?_
    rintro e w4 ⟨rfl, dd⟩
    have xt_4 := ints_lift xt_3 (dd.below _)
    have xy_4 := ints_lift xy_3 (dd.below _)
    have xg_4 := ints_lift xg_3 (dd.below _)
    have xk_4 := ints_lift xk_3 (dd.below _)
    have hB4 : Below w.heap.size w w4 := hB3.trans (dd.below w.heap.size)
    clear hB3 xt_3 xy_3 xg_3 xk_3
    clear dd
    clear xk_4
    clear hb2 hb3
    by_cases hl0 : l3 = 0
    · subst hl0
      go_wp2_with fail
      refine (weights_specV a1 l1 c1 T a2 l2 c2 ys w4 xt_4 xy_4 (by omega) (by omega)).mono ?_
      rintro e w5 ⟨a4, l4, c4, rfl, n_k, _, hb4⟩
      have xt_5 := ints_lift xt_4 hb4
      have xy_5 := ints_lift xy_4 hb4
      have xg_5 := ints_lift xg_4 hb4
      have hB5 : Below w.heap.size w w5 := hB4.trans (hb4.mono hB4.size)
      clear hB4 xt_4 xy_4 xg_4
      have xk_5 := ints_in n_k (Nat.le_refl _)
      clear n_k
      go_wp2_with fail
      refine (equalInts_any _ _ _ _ _ _ _ _ _ _ _ xg_5 xk_5).mono ?_
      rintro e w6 ⟨rfl, dd⟩
      have xt_6 := ints_lift xt_5 (dd.below _)
      have xy_6 := ints_lift xy_5 (dd.below _)
      have xg_6 := ints_lift xg_5 (dd.below _)
      have xk_6 := ints_lift xk_5 (dd.below _)
      have hB6 : Below w.heap.size w w6 := hB5.trans (dd.below w.heap.size)
      clear hB5 xt_5 xy_5 xg_5 xk_5
      clear dd
      go_wp2_with fail
      go_ret
      exact ⟨rfl, hB6⟩
    · have hl0e : ((l3 : Int) == 0) = false := by simp; omega
      have hP : tasksP T ys := by
        by_cases hp : tasksP T ys
        · exact hp
        · have := xg_4.lenEq
          rw [show weightsRes T ys = [] from if_neg hp] at this
          exact absurd this.symm (by simpa using hl0)
      rw [show weightsRes T ys = weightsM T (natsOf ys) from if_pos hP] at xg_4
      have hlen := xt_4.lenEq
      obtain rfl : l3 = l1 := by rw [← xg_4.lenEq, weightsM_len]; exact hlen
      obtain rfl : l2 = l3 := by rw [← xy_4.lenEq, hP.2.1]; exact hlen
      have HL := Lib.hid hlen
      have HTA := Lib.hid (tasks_at hP.1.1).1
      have HPI := Lib.hid hP.1.2
      have HYL := Lib.hid xy_4.lenEq
      have hl6 : l2 ≤ 6 := by have := hP.2.2; omega
      have HWG := Lib.hid (fun i (hi : i < l2) => weightsM_get (T := T) (A := natsOf ys) (i := i) (by rw [hlen]; exact hi))
      have HWO := Lib.hid (fun i (hi : i < l2) => wM_own (T := T) (fun k => (tasks_at hP.1.1).1 k |>.1) (natsOf ys) (i := i) (by rw [hlen]; exact hi))
      have HWA := Lib.hid (fun i => (by rw [total_csum]; exact wM_all (fun k => ((tasks_at hP.1.1).1 k).1) (natsOf ys) i : wM T (natsOf ys) i ≤ totalM T))
      have HWD := Lib.hid (fun i k (hi : i < l2) (hk : k < i) (ha : ((natsOf ys).getD i 0).testBit k = true) => wM_down (T := T) (fun k => ((tasks_at hP.1.1).1 k).1) (by rw [hlen]; exact hi) hk ha)
      have HMEM := Lib.hid (show ∀ x ∈ T, -1099511627776 ≤ x ∧ x ≤ 1099511627776 from fun x hx => by
        obtain ⟨k, hk, rfl⟩ := List.mem_iff_getElem.1 hx
        have := (tasks_at hP.1.1).1 k
        rw [List.getD_eq_getElem?_getD, List.getElem?_eq_getElem hk] at this
        simp at this; omega)
      have htb : 0 ≤ totalM T ∧ totalM T ≤ 54 := by
        rw [total_csum]
        have := csum_range (tasks_at hP.1.1).1 (fun _ => true) T.length
        omega
      clear hP hlen
      go_wp2_with fail
      clear heq
      go_loopw [6] (fun iv wr => ∃ i : Nat, i ≤ l2 ∧ iv = .int .i64 (i : Int) ∧ Drew w4 wr) (fun iv _ => l2 - (intOf iv).toNat)
      case atStart => exact ⟨0, Nat.zero_le _, rfl, Drew.refl _⟩
      case round =>
        obtain ⟨i, hi, rfl, hdw⟩ := hrel
        obtain ⟨wo, rfl⟩ : ∃ wo : World, wo = wr := ⟨_, rfl⟩
        have HDW := Lib.hid hdw
        by_cases hil : i < l2
        · obtain ⟨b, off, gi, rfl, hgi, hcg⟩ := (Drew.ints xg_4 hdw).get hil
          obtain ⟨b2, off2, ti, rfl, hti, hct⟩ := (Drew.ints xt_4 hdw).get hil
          have hge : gi = wM T (natsOf ys) i := by rw [← getD_of hgi]; exact HWG.out i hil
          have h1 := HWO.out i hil
          have h2 := HWA.out i
          have h0t := HTA.out i
          rw [getD_of hti] at h1 h0t
          rw [← hge] at h1 h2
          have hili : (i : Int) < (l2 : Int) := by omega
          have HTOT := Lib.hid (fun z => total_any _ (some ⟨b2, off2, none⟩) l2 c1 T (wo.drewN z) (Drew.ints xt_4 (by obtain ⟨y, rfl⟩ := HDW.out; exact ⟨y + z, World.drewN_drewN _ _ _⟩)) HMEM.out (by omega))
          have HGE := Lib.hid hge
          have hd1 : decide (gi < ti) = false := decide_eq_false (by omega)
          have hng : ¬ totalM T < gi := by omega
          clear hge hgi hti
          generalize totalM T = tt at *
          have hd2 : decide (tt < gi) = false := decide_eq_false (by omega)
          have HTOT2 := Lib.hid (fun z => (HTOT.out z).mono (fun e w' (he : e = .returned (.int .i64 tt) ∧ wo.drewN z = w') => (⟨he.1, he.2.symm⟩ : e = .returned (.int .i64 tt) ∧ w' = wo.drewN z)))
          go_wp2_with fail
          go_quiet ((go_at_call 16; exact Calls.quiet_of_same (HTOT2.out _)))
          clear hcg hct
          have HDR := Lib.hid (hdw.drew nq)
          obtain ⟨wd, hwd⟩ : ∃ wd, wo.drewN nq = wd := ⟨_, rfl⟩
          rw [hwd] at HDR ⊢
          clear hwd hdw HDW
          go_wp2_with fail
          go_loopw [7] (fun kv wr => ∃ k : Nat, k ≤ i ∧ kv = .int .i64 (k : Int) ∧ Drew wd wr) (fun kv _ => i - (intOf kv).toNat)
          case atStart => exact ⟨0, Nat.zero_le _, rfl, Drew.refl _⟩
          case round =>
            obtain ⟨k, hk, rfl, hdk⟩ := hrel
            have hdk2 : Drew w4 wr := drew_two HDR.out hdk
            have HDK := Lib.hid hdk
            by_cases hki : k < i
            · obtain ⟨b3, off3, y, rfl, hy, hcy⟩ := (Drew.ints xy_4 hdk2).get hil
              obtain ⟨b4, off4, gi2, e4, hgi, hcg⟩ := (Drew.ints xg_4 hdk2).get hil
              cases e4
              obtain ⟨b5, off5, gk, e5, hgk, hcgk⟩ := (Drew.ints xg_4 hdk2).get (k := k) (by omega)
              cases e5
              obtain ⟨b6, off6, tk, e6, htk, hctk⟩ := (Drew.ints xt_4 hdk2).get (k := k) (by omega)
              cases e6
              have hye : y = (((natsOf ys).getD i 0 : Nat) : Int) := by rw [natsOf_get HPI.out (by rw [HYL.out]; exact hil), getD_of hy]
              subst hye
              have hab := natsOf_small HPI.out (i := i) (by omega)
              have hgie : gi2 = wM T (natsOf ys) i := by rw [← getD_of hgi]; exact HWG.out i hil
              have hgke : gk = wM T (natsOf ys) k := by rw [← getD_of hgk]; exact HWG.out k (by omega)
              have HD := Lib.hid (HWD.out i k hil hki)
              rw [← hgie, ← hgke, getD_of htk] at HD
              have htb2 := HTA.out k
              rw [getD_of htk] at htb2
              have hgb : gi2 = gi := by rw [hgie]; exact HGE.out.symm
              have hki2 : (k : Int) < (l2 : Int) := by omega
              have hki3 : k < l2 := by omega
              clear hgi hgk htk hy hgie hgke
              generalize (natsOf ys).getD i 0 = am at *
              have HBIT := Lib.hid (fun z => bitL_at am k (by omega) (by omega) (wr.drewN z))
              have hgi0 : 0 ≤ gi2 ∧ gi2 ≤ 54 := by omega
              cases hbit : am.testBit k
              · have HB2 := Lib.hid (fun q => (HBIT.out q).mono (fun e w' (he : e = .returned (.int .i64 (bI am k)) ∧ wr.drewN q = w') => (⟨by rw [he.1]; unfold bI; rw [hbit]; rfl, he.2.symm⟩ : e = .returned (.int .i64 0) ∧ w' = wr.drewN q)))
                clear hbit
                go_wp2_with fail
                go_quiet ((go_at_call 17; exact Calls.quiet_of_same (HB2.out _)))
                clear hcy hcg hcgk hctk
                go_wp2_with fail
                go_roundw
                case rel => exact ⟨k + 1, by omega, by go_num, HDK.out.drew _⟩
                case measure => simp [intOf] <;> omega
              · have HB2 := Lib.hid (fun q => (HBIT.out q).mono (fun e w' (he : e = .returned (.int .i64 (bI am k)) ∧ wr.drewN q = w') => (⟨by rw [he.1]; unfold bI; rw [hbit]; rfl, he.2.symm⟩ : e = .returned (.int .i64 1) ∧ w' = wr.drewN q)))
                have hsum := HD.out hbit
                have hns : decide (gk < gi2 + tk) = false := decide_eq_false (by omega)
                clear hbit
                go_wp2_with fail
                go_quiet ((go_at_call 17; exact Calls.quiet_of_same (HB2.out _)))
                clear hcy hcg hcgk hctk
                go_wp2_with fail
                go_roundw
                case rel => exact ⟨k + 1, by omega, by go_num, HDK.out.drew _⟩
                case measure => simp [intOf] <;> omega
            · go_wp2_with fail
              go_roundw
              case rel => exact ⟨i + 1, by omega, by go_num, drew_two HDR.out HDK.out⟩
              case measure => simp [intOf] <;> omega
        · have heq2 : ((l2 : Int) == (l2 : Int)) = true := by simp
          go_wp2_with fail
          go_ret
          exact ⟨rfl, hB4.trans (HDW.out.below _)⟩
  · go_enter Try.func5, Try.ntmps5
    go_wp2
    go_ret
    exact ⟨rfl, Below.refl _ _⟩
end Go.Proofs.Ytobfencmfeneoaa
