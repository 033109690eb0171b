import Derived.Test.YtkjmpkincaainabRows
import Derived.WalkKit
import Derived.LoopTactic
import Derived.Outline
import Derived.WalkSpells
import Derived.WalkLawsBesides
import Derived.ProofKit
import Derived.Lib.Hide
import Derived.IntWalk
import Derived.Carry
import Derived.Maps.RangeWalk
import Derived.Test.YtkjmpkincaainabLib
import Derived.Test.YtkjmpkincaainabArr
import Derived.Test.YtkjmpkincaainabGen
import Derived.Test.YtkjmpkincaainabUp
import Derived.Test.YtkjmpkincaainabLots
import Derived.Test.YtkjmpkincaainabTokA
import Derived.Test.YtkjmpkincaainabLotA
import Derived.Test.YtkjmpkincaainabNetM
import Derived.Test.YtkjmpkincaainabStockM
import Derived.Test.YtkjmpkincaainabStockMap
import Derived.Test.YtkjmpkincaainabStockT
import Derived.Test.YtkjmpkincaainabStockA
import Derived.Test.YtkjmpkincaainabStockB
namespace Go.Proofs.Ytkjmpkincaainab
open Go.RowKit Go.WideShapes Go.Maps

set_option maxRecDepth 100000 in
set_option maxHeartbeats 4000000 in
theorem bestStock_impl (a : Option Addr) (len cap : Nat) (xs : List Int) (o u : Int) (w : World) (h : IntsAt w (· < w.heap.size) a len xs) :
    Calls Try.prog 9 #[.slice a len cap, .int .i64 o, .int .i64 u] w (valN w (.int .i64 (shareRes xs o u))) := by
  cases hc : chM xs
  · rw [shareRes_no (by rw [okO_eq hc rfl]; rfl)]
    go_enter Try.func9, Try.ntmps9
    go_wp2_with (go_at_call 18; refine (vchI hc _ h).mono ?_; rintro e w' ⟨rfl, rfl⟩)
    go_ret
    exact ⟨rfl, Below.refl _ _⟩
  · cases ho : (inB 0 30 o && inB 0 30 u)
    · rw [shareRes_no (by rw [okO_eq hc ho]; rfl)]
      go_enter Try.func9, Try.ntmps9
      go_wp2_with (first | (go_at_call 18; refine (vchI hc _ h).mono ?_; rintro e w' ⟨rfl, rfl⟩) | (go_at_call 19; refine (areC ho _).mono ?_; rintro e w' ⟨rfl, rfl⟩))
      go_ret
      exact ⟨rfl, Below.refl _ _⟩
    · have hok : okO xs o u = true := by rw [okO_eq hc ho]; rfl
      rw [shareRes_yes hok]
      obtain ⟨_, ho0, ho1, hu0, hu1⟩ := okO_at hok
      have hsl := (share_is hc ho0 hu0).1
      have hl7 := (chM_at hc).2.1
      have HSC := Lib.hid (fun w' (hb : Below w.heap.size w w') (k : Nat) (hk : k ≤ 7) => (show Calls Try.prog 12 #[.slice a len cap, .int .i64 k, .int .i64 o, .int .i64 u] w' (valN w' (.int .i64 (costS xs k o u))) by
        have hh := stockCost_impl a len cap xs (k : Int) o u w' ((h.below hb).to (fun b hb2 => ⟨Nat.lt_of_lt_of_le hb2 hb.size, rfl⟩))
        rwa [stockRes_yes hok hk] at hh))
      have HST := Lib.hid (fun k => best_step (xs := xs) (k := k) hc ho0 hu0)
      have HBD := Lib.hid (fun k (hk : k ≤ 8) => costS_bd hok (s := k) hk)
      obtain ⟨S, hS⟩ : ∃ S, shareN xs o u = S := ⟨_, rfl⟩
      rw [hS] at hsl HST ⊢
      clear hS
      have hS7 : S ≤ 6 := by omega
      clear hsl hl7
      go_enter Try.func9, Try.ntmps9
      go_wp2_with (first | (go_at_call 18; refine (vchI hc _ h).mono ?_; rintro e w' ⟨rfl, rfl⟩) | (go_at_call 19; refine (areC ho _).mono ?_; rintro e w' ⟨rfl, rfl⟩))
      clear h hc ho hok
      go_loopw [7, 18] (fun b i wr => ∃ k : Nat, k ≤ 8 ∧ i = .int .i64 k ∧ b = .int .i64 ((min S (k - 1) : Nat) : Int) ∧ Below w.heap.size w wr) (fun _ i _ => 8 - (intOf i).toNat)
      case atStart => exact ⟨0, by omega, rfl, by simp, Below.refl _ _⟩
      case round =>
        obtain ⟨k, hk, rfl, rfl, hb⟩ := hrel
        have HB := Lib.hid hb
        have hst := HST.out k
        obtain ⟨B, hB⟩ : ∃ B, min S (k - 1) = B := ⟨_, rfl⟩
        have hB7 : B ≤ 7 := by omega
        rw [hB] at hst ⊢
        by_cases hlt : k < 8
        · have hkI : (k : Int) < 8 := by omega
          have b1 := HBD.out k (by omega)
          have b2 := HBD.out B (by omega)
          have C1 := Lib.hid (fun w' hb => HSC.out w' hb k (by omega))
          have C2 := Lib.hid (fun w' hb => HSC.out w' hb B (by omega))
          obtain ⟨x, hx⟩ : ∃ x, costS xs k o u = x := ⟨_, rfl⟩
          obtain ⟨y, hy⟩ : ∃ y, costS xs B o u = y := ⟨_, rfl⟩
          rw [hx, hy] at hst
          rw [hx] at C1 b1
          rw [hy] at C2 b2
          clear hx hy hb
          have HST1 := Lib.hid hst
          clear hst
          go_wp2_with fail
          refine (C1.out _ HB.out).mono ?_
          rintro e w2 ⟨rfl, hb2⟩
          have HB2 := Lib.hid (HB.out.trans (hb2.mono HB.out.size))
          clear hb2
          go_wp2_with fail
          refine (C2.out _ HB2.out).mono ?_
          rintro e w3 ⟨rfl, hb3⟩
          have HB3 := Lib.hid (HB2.out.trans (hb3.mono HB2.out.size))
          clear hb3
          by_cases hxy : x < y
          · go_wp2_with fail
            go_roundw
            case rel => exact ⟨k + 1, by omega, by go_num, by rw [show k + 1 - 1 = k by omega, ← HST1.out, if_pos hxy], HB3.out⟩
            case measure => simp [intOf]; omega
          · go_wp2_with fail
            go_roundw
            case rel => exact ⟨k + 1, by omega, by go_num, by rw [show k + 1 - 1 = k by omega, ← HST1.out, if_neg (by omega)], HB3.out⟩
            case measure => simp [intOf]; omega
        · obtain rfl : k = 8 := by omega
          go_wp2_with fail
          go_ret
          exact ⟨ret_int (by rw [← hB]; omega), HB.out⟩
set_option maxRecDepth 100000 in
set_option maxHeartbeats 4000000 in
theorem stockByShare_impl (a : Option Addr) (len cap : Nat) (xs : List Int) (o u : Int) (w : World) (h : IntsAt w (· < w.heap.size) a len xs) :
    Calls Try.prog 13 #[.slice a len cap, .int .i64 o, .int .i64 u] w (valN w (.int .i64 (shareRes xs o u))) := by
  cases hc : chM xs
  · rw [shareRes_no (by rw [okO_eq hc rfl]; rfl)]
    go_enter Try.func13, Try.ntmps13
    go_wp2_with (go_at_call 18; refine (vchI hc _ h).mono ?_; rintro e w' ⟨rfl, rfl⟩)
    go_ret
    exact ⟨rfl, Below.refl _ _⟩
  · cases ho : (inB 0 30 o && inB 0 30 u)
    · rw [shareRes_no (by rw [okO_eq hc ho]; rfl)]
      go_enter Try.func13, Try.ntmps13
      go_wp2_with (first | (go_at_call 18; refine (vchI hc _ h).mono ?_; rintro e w' ⟨rfl, rfl⟩) | (go_at_call 19; refine (areC ho _).mono ?_; rintro e w' ⟨rfl, rfl⟩))
      go_ret
      exact ⟨rfl, Below.refl _ _⟩
    · have hok : okO xs o u = true := by rw [okO_eq hc ho]; rfl
      rw [shareRes_yes hok]
      obtain ⟨_, ho0, ho1, hu0, hu1⟩ := okO_at hok
      obtain ⟨hl1, hl7, hx9, _⟩ := chM_at hc
      have hle : xs.length = len := h.lenEq
      have HX9 := Lib.hid hx9
      have HTB := Lib.hid (ch_T hc)
      have HML := Lib.hid (fun s (hs : xs.length ≤ s + 1) => met_last (o := o) (u := u) hc ho0 hu0 hs)
      have HSU := Lib.hid (fun r => share_unique (xs := xs) (o := o) (u := u) (r := r))
      have HSM := Lib.hid (fun k => And.intro (sumS_0 (fun k => (hx9 k).1) k) (sumS_le (fun k => (hx9 k).1) k))
      rw [hle] at hl1 hl7
      have HLE := Lib.hid hle
      clear hle hx9
      go_enter Try.func13, Try.ntmps13
      go_wp2_with (first | (go_at_call 18; refine (vchI hc _ h).mono ?_; rintro e w' ⟨rfl, rfl⟩) | (go_at_call 19; refine (areC ho _).mono ?_; rintro e w' ⟨rfl, rfl⟩))
      refine (chancesOf_impl a len cap xs _ h hl7 HX9.out).mono ?_
      rintro e w1 ⟨B, n, D, rfl, hB, hn, hown, hm, hb1⟩
      have HB1 := Lib.hid hb1
      clear hb1 h hc ho hok
      have HDR := Lib.hid (fun k => drop_sum xs k)
      obtain ⟨T, hT⟩ : ∃ T, sumN xs xs.length = T := ⟨_, rfl⟩
      rw [hT] at HTB HDR HSM
      have HT := Lib.hid hT
      have hT1 := HTB.out
      have HS0 := Lib.hid (show sumF (fun v => xs.getD v 0) len = T by rw [← HT.out, HLE.out, sumN_F])
      clear hT
      go_wp2_with fail
      refine (weight_impl B n D _ len _ hown hm (by omega) HX9.out).mono ?_
      rintro e w2 ⟨rfl, hb2⟩
      rw [HS0.out]
      have hown2 := hown.kept (grown_of_belowS hb2) (by simp)
      have HB2 := Lib.hid (HB1.out.trans (hb2.mono HB1.out.size))
      have hBw : w.heap.size ≤ B := hB
      clear hown hb2 hB
      go_wp2_with fail
      go_loopw [9] (fun i wr => ∃ (k : Nat) (D : DataW Unit), k < len ∧ i = .int .i64 k ∧ wr.ownsMap Try.prog 3 (plainElem Try.prog 3) B n D ∧ MapIs D (dropG xs k) len ∧ (∀ j, j < k → metB xs o u j = false) ∧ Below w.heap.size w wr) (fun i _ => 8 - (intOf i).toNat)
      case atStart => exact ⟨0, D, by omega, rfl, hown2, hm.congr (fun v => (drop_0 xs v).symm), fun j hj => absurd hj (by omega), HB2.out⟩
      case round =>
        clear hown2 hm
        obtain ⟨k, D, hk, rfl, hown, hm, hj, hb⟩ := hrel
        have HB := Lib.hid hb
        have HM := Lib.hid ((hm.del k).congr (drop_next xs k))
        have HJ := Lib.hid hj
        clear hb hm hj
        have hm1 := HSM.out (k + 1)
        obtain ⟨m, hmm⟩ : ∃ m, sumN xs (k + 1) = m := ⟨_, rfl⟩
        have HW := Lib.hid (show sumF (dropG xs (k + 1)) len = T - m by have := HDR.out (k + 1); rw [HLE.out, hmm] at this; exact this)
        have HMET := Lib.hid (show metB xs o u k = decide (u * T ≤ m * (o + u)) by unfold metB; rw [HT.out, hmm])
        rw [hmm] at hm1
        clear hmm
        have b1 : 0 ≤ m * (o + u) ∧ m * (o + u) ≤ 63 * 60 := ⟨Int.mul_nonneg hm1.1 (by omega), Int.mul_le_mul (by omega) (by omega) (by omega) (by omega)⟩
        have b2 : 0 ≤ u * T ∧ u * T ≤ 30 * 63 := ⟨Int.mul_nonneg hu0 (by omega), Int.mul_le_mul hu1 (by omega) (by omega) (by omega)⟩
        go_wp2_with (first
          | (at_delete; refine wpList_delete_own _ rfl _ _ 39 3 rfl 3 Try.lawI Try.underCh _ B n _ rfl hown _ _ rfl (keyOf_int_mk Try.underI (WalkArith.wf_i64 (by omega))) ?_; intro w3 hown3 hturn3)
          | fail)
        have hb3 := HB.out.grown hturn3.grown HB.out.size (fun j hj => by cases hj; exact hBw)
        have HB3 := Lib.hid hb3
        clear hb3 hturn3 hown
        refine (weight_impl B n _ _ len _ hown3 HM.out (by omega) (drop_9 HX9.out _)).mono ?_
        rintro e w4 ⟨rfl, hb4⟩
        rw [HW.out]
        have hown4 := hown3.kept (grown_of_belowS hb4) (by simp)
        have HB4 := Lib.hid (HB3.out.trans (hb4.mono HB3.out.size))
        clear hown3 hb4
        have he : T - (T - m) = m := by omega
        by_cases hme : u * T ≤ m * (o + u)
        · have hsh := HSU.out k HJ.out (by rw [HMET.out]; exact decide_eq_true hme) (by omega)
          have HSH := Lib.hid hsh
          clear hsh
          go_wp2_with fail
          go_ret
          exact ⟨ret_int (by rw [HSH.out]), HB4.out⟩
        · have hkl : k + 1 < len := by
            rcases Nat.lt_or_ge (k + 1) len with g | g
            · exact g
            · have := HML.out k (by rw [HLE.out]; exact g)
              rw [HMET.out] at this
              exact absurd (of_decide_eq_true this) hme
          go_wp2_with fail
          go_roundw
          case rel => exact ⟨k + 1, _, hkl, by go_num, hown4, HM.out, fun j hj => by
            rcases Nat.lt_or_ge j k with g | g
            · exact HJ.out j g
            · have : j = k := by omega
              subst this
              rw [HMET.out]; exact decide_eq_false (Int.not_le.2 hme), HB4.out⟩
          case measure => simp [intOf]; omega
end Go.Proofs.Ytkjmpkincaainab
