/- The law FnMostTurns returns true at every code, and the code reads behind the call as it read before. No condition. -/
import Derived.Test.YthmlgicjedhgfabRows
import Derived.WalkKit
import Derived.LoopTactic
import Derived.Outline
import Derived.WalkSpells
import Derived.WalkLawsBesides
import Derived.ProofKit
import Derived.Deep.QuietTactic
import Derived.BigQuiet
import Derived.IntWalk
import Derived.Test.YthmlgicjedhgfabM0
import Derived.Test.YthmlgicjedhgfabM1
import Derived.Test.YthmlgicjedhgfabM2
import Derived.Test.YthmlgicjedhgfabM18
import Derived.Test.YthmlgicjedhgfabM9
import Derived.Test.YthmlgicjedhgfabM19
namespace Go.Proofs.Ythmlgicjedhgfab
open Go.RowKit Go.WideShapes

set_option maxRecDepth 100000 in
set_option maxHeartbeats 2000000 in
theorem fnMostTurns_any (a : Option Addr) (len cap : Nat) (w : World) (hb : BytesAt w w.heap.size a len) (hl : len ≤ cap) (hs : len ≤ 9223372036854775807) :
    Calls Try.prog 5 #[.slice a len cap] w (LawPost w) := by
  by_cases h20 : len ≤ 1048576
  · go_enter Try.func5, Try.ntmps5
    have hB0 := Below.refl w.heap.size w
    go_wp2_with fail
    refine (drawMostTurns_any a len cap w hb hl hs).mono ?_
    rintro e w1 ⟨a1, l1, c1, shop, rfl, n_s, hj3, hc1, hl1, hb1⟩
    have hB1 : Below w.heap.size w w1 := hB0.trans (hb1.mono hB0.size)
    clear hB0
    have xs_1 := n_s
    clear n_s
    clear hb hb1
    go_wp2_with fail
    refine (mostTurns_impl a1 l1 c1 shop w1 xs_1 hc1).mono ?_
    rintro e w2 ⟨aG, lG, cG, rfl, n_g, _, hcG, hb2⟩
    have xs_2 := shop_lift xs_1 hb2
    have hB2 : Below w.heap.size w w2 := hB1.trans (hb2.mono hB1.size)
    clear hB1 xs_1
    have xg_2 := ints_in n_g (Nat.le_refl _)
    clear n_g
    clear hb2
    go_wp2_with fail
    refine (mostTurns_any a1 l1 c1 shop w2 xs_2).mono ?_
    rintro e w3 ⟨aM, lM, cM, rfl, n_m, _, hb3⟩
    have xs_3 := shop_lift xs_2 hb3
    have xg_3 := ints_lift xg_2 hb3
    have hB3 : Below w.heap.size w w3 := hB2.trans (hb3.mono hB2.size)
    clear hB2 xs_2 xg_2
    have xm_3 := ints_in n_m (Nat.le_refl _)
    clear n_m
    clear hb3
    have heq : eqB (mostRes shop) (mostRes shop) = true := decide_eq_true rfl
    go_wp2_with fail
    refine (equalInts_any _ _ _ _ _ _ _ _ _ _ _ xg_3 xm_3).mono ?_
    rintro e w4 ⟨rfl, dd⟩
    have xs_4 := shop_lift xs_3 (dd.below _)
    have xg_4 := ints_lift xg_3 (dd.below _)
    have xm_4 := ints_lift xm_3 (dd.below _)
    have hB4 : Below w.heap.size w w4 := hB3.trans (dd.below w.heap.size)
    clear hB3 xs_3 xg_3 xm_3
    clear dd
    clear xm_4
    go_wp2_with fail
    refine (validShop_implB a1 l1 c1 shop w4 xs_4 hc1).mono ?_
    rintro e w5 ⟨rfl, hb4⟩
    have xs_5 := shop_lift xs_4 hb4
    have xg_5 := ints_lift xg_4 hb4
    have hB5 : Below w.heap.size w w5 := hB4.trans (hb4.mono hB4.size)
    clear hB4 xs_4 xg_4
    clear hb4
    cases hv : shopM shop
    · go_wp2_with fail
      refine (mostTurns_any a1 l1 c1 shop w5 xs_5).mono ?_
      rintro e w6 ⟨aM2, lM2, cM2, rfl, n_m, _, hb5⟩
      have xs_6 := shop_lift xs_5 hb5
      have xg_6 := ints_lift xg_5 hb5
      have hB6 : Below w.heap.size w w6 := hB5.trans (hb5.mono hB5.size)
      clear hB5 xs_5 xg_5
      have xm_6 := ints_in n_m (Nat.le_refl _)
      clear n_m
      clear hb5
      go_wp2_with fail
      refine (equalInts_any _ _ _ _ _ _ _ _ _ _ _ xg_6 xm_6).mono ?_
      rintro e w7 ⟨rfl, dd⟩
      have xs_7 := shop_lift xs_6 (dd.below _)
      have xg_7 := ints_lift xg_6 (dd.below _)
      have xm_7 := ints_lift xm_6 (dd.below _)
      have hB7 : Below w.heap.size w w7 := hB6.trans (dd.below w.heap.size)
      clear hB6 xs_6 xg_6 xm_6
      clear dd
      go_wp2_with fail
      go_ret
      exact ⟨rfl, hB7⟩
    · have HV := Lib.hid hv
      have HLN := Lib.hid (xs_5.lenEq)
      have HMR := Lib.hid (mostRes_yes hv)
      have HFM := Lib.hid (first_most hv)
      have hmn := Lib.hid (timesN_most hv)
      clear hv
      go_wp2_with fail
      refine (shopTimes_impl a1 l1 c1 shop aG lG cG (mostRes shop) w5 xs_5 xg_5 hc1 hcG).mono ?_
      rintro e w6 ⟨aT, lT, cT, rfl, n_t, hcT, hb6⟩
      have xs_6 := shop_lift xs_5 hb6
      have xg_6 := ints_lift xg_5 hb6
      have hB6 : Below w.heap.size w w6 := hB5.trans (hb6.mono hB5.size)
      clear hB5 xs_5 xg_5
      clear hb6 n_t
      have hnn := hmn.out
      generalize timesN shop (mostRes shop) = tn at *
      have hnn2 : (0 : Int) ≤ tn := hnn
      clear hmn hnn
      have HX := Lib.hid xs_6
      have hg := xg_6
      clear xs_6 xg_6
      rw [HMR.out] at hg
      cases hm : mostM shop with
      | nil =>
        rw [hm] at hg
        have hl0 : lG = 0 := hg.lenEq.symm
        subst hl0
        have HFI := Lib.hid (fun i => firstJ_nil hm i)
        clear hg hm
        go_wp2_with fail
        go_loop [7, 8, 9] (fun mv fv iv => ∃ i : Nat, i ≤ l1 ∧ iv = .int .i64 i ∧ mv = .int .i64 (leastJ shop i) ∧ fv = .int .i64 (firstJ shop i)) (fun _ _ iv => l1 - (intOf iv).toNat)
        case atStart => exact ⟨0, Nat.zero_le _, rfl, rfl, by rw [firstJ_zero]⟩
        case round =>
          obtain ⟨i, hi, rfl, rfl, rfl⟩ := hrel
          by_cases hlt : i < l1
          · obtain ⟨b, off, job, aj, lj, cj, e0, hjob, dj, hlj, hrj⟩ := HX.out.get hlt
            have hlj2 : lj = slen shop i := by rw [slen_job7 hjob]; exact hrj.lenEq.symm
            subst hlj2
            subst e0
            clear hrj hjob
            have HLJ := Lib.hid (show leastJ shop (i + 1) = max (leastJ shop i) (stepsTo (stime shop) i (slen shop i)) from rfl)
            generalize leastJ shop i = lj at *
            have HFS := Lib.hid (HFI.out (i + 1))
            obtain ⟨fi, hfi⟩ : ∃ fi, firstJ shop i = fi := ⟨_, rfl⟩
            rw [hfi]
            rw [HFI.out i] at hfi
            have HFF := Lib.hid hfi
            clear hfi
            go_wp2_with fail
            go_loop [10, 11] (fun nv kv => ∃ k : Nat, k ≤ slen shop i ∧ kv = .int .i64 k ∧ nv = .int .i64 (stepsTo (stime shop) i k)) (fun _ kv => slen shop i - (intOf kv).toNat)
            case atStart => exact ⟨0, Nat.zero_le _, rfl, rfl⟩
            case round =>
              obtain ⟨k, hk, rfl, rfl⟩ := hrel
              have hst0 := stepsTo_nn (fun j k => (stime_bd HV.out j k).1) i k
              have hst1 := stepsTo_le (fun j k => stime_bd HV.out j k) i k
              have hsl3 := slen_le HV.out i
              by_cases hlt2 : k < slen shop i
              · obtain ⟨b', off', b1, off1, d1, b2, off2, d2, e, q1, _, q2, _, q3, q4⟩ := step_at HX.out HV.out (j := i) hlt hlt2
                cases e
                have htb := stime_bd HV.out i k
                have hbd : 0 ≤ stepsTo (stime shop) i k + stime shop i k ∧ stepsTo (stime shop) i k + stime shop i k ≤ 100 := by omega
                have HSU := Lib.hid (show stepsTo (stime shop) i (k + 1) = stepsTo (stime shop) i k + stime shop i k from rfl)
                clear dj q3
                generalize stepsTo (stime shop) i k = st at *
                generalize stime shop i k = tm at *
                go_wp2_with fail
                go_round
                case rel => exact ⟨k + 1, by omega, by go_num, by rw [HSU.out]⟩
                case measure => simp [intOf]; omega
              · obtain rfl : k = slen shop i := by omega
                obtain ⟨st, hst⟩ : ∃ st, stepsTo (stime shop) i (slen shop i) = st := ⟨_, rfl⟩
                rw [hst] at HLJ ⊢
                have HST := Lib.hid hst
                clear hst hst0 hst1
                go_wp2_with fail
                go_round
                case rel => exact ⟨i + 1, by omega, by go_num, by rw [HLJ.out]; split <;> (congr 1; omega), by rw [HFS.out, ← HFF.out]⟩
                case measure => simp [intOf]; omega
          · have hil : i = l1 := by omega
            rw [hil]
            clear hil hlt hi
            have hfm := HFM.out
            rw [HLN.out] at hfm
            rw [hfm]
            generalize leastJ shop l1 = lj at *
            have hje : (lj == lj) = true := by simp
            go_wp2_with fail
            go_ret
            exact ⟨rfl, hB6⟩
      | cons q l =>
        rw [hm] at hg
        have hl0 : 0 < lG := by have := hg.lenEq; simp at this; omega
        obtain ⟨bg, og, xg, rfl, hxg, hcg⟩ := hg.get hl0
        simp only [List.map_cons, List.getElem?_cons_zero, Option.some.injEq] at hxg
        subst hxg
        rw [Nat.add_zero] at hcg
        have hl0I : (0 : Int) < (lG : Int) := by omega
        have HFI := Lib.hid (fun i => firstJ_cons hm i)
        clear hg hm
        go_wp2_with fail
        go_loop [7, 8, 9] (fun mv fv iv => ∃ i : Nat, i ≤ l1 ∧ iv = .int .i64 i ∧ mv = .int .i64 (leastJ shop i) ∧ fv = .int .i64 (firstJ shop i)) (fun _ _ iv => l1 - (intOf iv).toNat)
        case atStart => exact ⟨0, Nat.zero_le _, rfl, rfl, by rw [firstJ_zero]⟩
        case round =>
          obtain ⟨i, hi, rfl, rfl, rfl⟩ := hrel
          by_cases hlt : i < l1
          · obtain ⟨b, off, job, aj, lj, cj, e0, hjob, dj, hlj, hrj⟩ := HX.out.get hlt
            have hlj2 : lj = slen shop i := by rw [slen_job7 hjob]; exact hrj.lenEq.symm
            subst hlj2
            subst e0
            clear hrj hjob
            have HLJ := Lib.hid (show leastJ shop (i + 1) = max (leastJ shop i) (stepsTo (stime shop) i (slen shop i)) from rfl)
            generalize leastJ shop i = lj at *
            have HFS := Lib.hid (HFI.out (i + 1))
            obtain ⟨fi, hfi⟩ : ∃ fi, firstJ shop i = fi := ⟨_, rfl⟩
            rw [hfi]
            rw [HFI.out i] at hfi
            have HFF := Lib.hid hfi
            clear hfi
            go_wp2_with fail
            go_loop [10, 11] (fun nv kv => ∃ k : Nat, k ≤ slen shop i ∧ kv = .int .i64 k ∧ nv = .int .i64 (stepsTo (stime shop) i k)) (fun _ kv => slen shop i - (intOf kv).toNat)
            case atStart => exact ⟨0, Nat.zero_le _, rfl, rfl⟩
            case round =>
              obtain ⟨k, hk, rfl, rfl⟩ := hrel
              have hst0 := stepsTo_nn (fun j k => (stime_bd HV.out j k).1) i k
              have hst1 := stepsTo_le (fun j k => stime_bd HV.out j k) i k
              have hsl3 := slen_le HV.out i
              by_cases hlt2 : k < slen shop i
              · obtain ⟨b', off', b1, off1, d1, b2, off2, d2, e, q1, _, q2, _, q3, q4⟩ := step_at HX.out HV.out (j := i) hlt hlt2
                cases e
                have htb := stime_bd HV.out i k
                have hbd : 0 ≤ stepsTo (stime shop) i k + stime shop i k ∧ stepsTo (stime shop) i k + stime shop i k ≤ 100 := by omega
                have HSU := Lib.hid (show stepsTo (stime shop) i (k + 1) = stepsTo (stime shop) i k + stime shop i k from rfl)
                clear dj q3
                generalize stepsTo (stime shop) i k = st at *
                generalize stime shop i k = tm at *
                go_wp2_with fail
                go_round
                case rel => exact ⟨k + 1, by omega, by go_num, by rw [HSU.out]⟩
                case measure => simp [intOf]; omega
              · obtain rfl : k = slen shop i := by omega
                obtain ⟨st, hst⟩ : ∃ st, stepsTo (stime shop) i (slen shop i) = st := ⟨_, rfl⟩
                rw [hst] at HLJ ⊢
                have HST := Lib.hid hst
                clear hst hst0 hst1
                by_cases hqi : q = i
                · subst hqi
                  have hqe : (((q : Nat) : Int) == (q : Int)) = true := by simp
                  go_wp2_with fail
                  go_round
                  case rel => exact ⟨q + 1, by omega, by go_num, by rw [HLJ.out]; split <;> (congr 1; omega), by rw [HFS.out, if_pos (by omega), HST.out]⟩
                  case measure => simp [intOf]; omega
                · have hqe : (((q : Nat) : Int) == (i : Int)) = false := by simp; omega
                  go_wp2_with fail
                  go_round
                  case rel => exact ⟨i + 1, by omega, by go_num, by rw [HLJ.out]; split <;> (congr 1; omega), by rw [HFS.out, ← HFF.out]; congr 1; by_cases h9 : q < i <;> simp [h9] <;> omega⟩
                  case measure => simp [intOf]; omega
          · have hil : i = l1 := by omega
            rw [hil]
            clear hil hlt hi
            have hfm := HFM.out
            rw [HLN.out] at hfm
            rw [hfm]
            generalize leastJ shop l1 = lj at *
            have hje : (lj == lj) = true := by simp
            go_wp2_with fail
            go_ret
            exact ⟨rfl, hB6⟩
  · go_enter Try.func5, Try.ntmps5
    go_wp2
    go_ret
    exact ⟨rfl, Below.refl _ _⟩
end Go.Proofs.Ythmlgicjedhgfab
