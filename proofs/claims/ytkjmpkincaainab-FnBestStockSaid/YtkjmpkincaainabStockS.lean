import Derived.Test.YtkjmpkincaainabRows
import Derived.WalkKit
import Derived.LoopTactic
import Derived.Outline
import Derived.WalkSpells
import Derived.WalkLawsBesides
import Derived.ProofKit
import Derived.Lib.Hide
import Derived.IntWalk
import Derived.Test.YtkjmpkincaainabLib
import Derived.Test.YtkjmpkincaainabArr
import Derived.Test.YtkjmpkincaainabGen
import Derived.Test.YtkjmpkincaainabUp
import Derived.Test.YtkjmpkincaainabLots
import Derived.Test.YtkjmpkincaainabNetM
import Derived.Test.YtkjmpkincaainabLotSpec
import Derived.Test.YtkjmpkincaainabNetVal
import Derived.Test.YtkjmpkincaainabStockM
import Derived.Test.YtkjmpkincaainabStockT
namespace Go.Proofs.Ytkjmpkincaainab
open Go.RowKit Go.WideShapes

theorem mem_9 {xs : List Int} (h : allIn 0 9 xs = true) : ∀ x ∈ xs, -1099511627776 ≤ x ∧ x ≤ 1099511627776 := fun x hx => by
  have := List.all_eq_true.1 h x hx
  simp [inB] at this
  omega
theorem ch_all {xs : List Int} (h : chM xs = true) : allIn 0 9 xs = true := by
  unfold chM at h
  simp only [Bool.and_eq_true] at h
  exact h.1.2
set_option maxRecDepth 100000 in
set_option maxHeartbeats 2000000 in
theorem vChances_spec (S : Nat → Prop) (a : Option Addr) (len cap : Nat) (xs : List Int) (w : World) (h : IntsAt w S a len xs) :
    Calls Try.prog 27 #[.slice a len cap] w fun e w' => e = .returned (.bool (chM xs)) ∧ w = w' := by
  have hs := h.small
  have HL := Lib.hid h.lenEq
  go_enter Try.func27, Try.ntmps27
  go_wp2_with fail
  go_loop [3] (fun i => ∃ k : Nat, k ≤ len ∧ i = .int .i64 k ∧ allIn 0 9 (xs.take k) = true) (fun i => len - (intOf i).toNat)
  case atStart => exact ⟨0, Nat.zero_le _, rfl, rfl⟩
  case round =>
    obtain ⟨k, hk, rfl, ha⟩ := hrel
    have HA := Lib.hid ha
    clear ha
    by_cases hlt : k < len
    · have hkI : (k : Int) < (len : Int) := by omega
      obtain ⟨b, off, x, rfl, hx, hc⟩ := h.get hlt
      have HX := Lib.hid hx
      clear hx
      cases hq : inB 0 9 x
      · have HF := Lib.hid (show chM xs = false by unfold chM; rw [allIn_false HX.out hq]; simp)
        go_wp2_with (go_at_call 28; refine (inRange_any _ _ _ _).mono ?_; rintro e w' ⟨rfl, rfl⟩)
        go_ret
        exact ⟨ret_bool HF.out.symm, rfl⟩
      · go_wp2_with (go_at_call 28; refine (inRange_any _ _ _ _).mono ?_; rintro e w' ⟨rfl, rfl⟩)
        go_round
        case rel => exact ⟨k + 1, by omega, by go_num, allIn_step HX.out HA.out hq⟩
        case measure => simp [intOf]; omega
    · obtain rfl : k = len := by omega
      have hkI : ¬ (k : Int) < (k : Int) := by omega
      have ha := HA.out
      rw [List.take_of_length_le (by rw [HL.out]; omega)] at ha
      have HM := Lib.hid (mem_9 ha)
      cases h1 : inB 1 7 (k : Int)
      · have HF := Lib.hid (show chM xs = false by unfold chM; simp [inB] at h1; rw [HL.out]; simp; omega)
        clear ha
        go_wp2_with (go_at_call 28; refine (inRange_any _ _ _ _).mono ?_; rintro e w' ⟨rfl, rfl⟩)
        go_ret
        exact ⟨ret_bool HF.out.symm, rfl⟩
      · have HF := Lib.hid (show chM xs = decide (totalM xs > 0) by unfold chM; rw [ha]; simp [inB] at h1; rw [HL.out, decide_eq_true (by omega)]; rfl)
        have hl8 : k ≤ 1048576 := by simp [inB] at h1; omega
        clear ha
        obtain ⟨T, hT⟩ : ∃ T, totalM xs = T := ⟨_, rfl⟩
        rw [hT] at HF
        have HT := Lib.hid hT
        clear hT
        go_wp2_with (first | (go_at_call 28; refine (inRange_any _ _ _ _).mono ?_; rintro e w' ⟨rfl, rfl⟩) | (go_at_call 26; refine (specSum_any _ _ _ _ xs _ h HM.out hl8).mono ?_; rintro e w' ⟨rfl, rfl⟩; rw [HT.out]))
        go_ret
        exact ⟨ret_bool HF.out.symm, rfl⟩
theorem vchS {S : Nat → Prop} {a : Option Addr} {len cap : Nat} {xs : List Int} {b : Bool} (hb : chM xs = b) (w : World) (h : IntsAt w S a len xs) : Calls Try.prog 27 #[.slice a len cap] w fun e w' => e = .returned (.bool b) ∧ w = w' := by
  subst hb; exact vChances_spec S a len cap xs w h
theorem inRS {lo hi n : Int} {b : Bool} (h : inB lo hi n = b) (w : World) : Calls Try.prog 28 #[.int .i64 n, .int .i64 lo, .int .i64 hi] w fun e w' => e = .returned (.bool b) ∧ w = w' := by
  subst h; exact inRange_any n lo hi w
set_option maxRecDepth 100000 in
set_option maxHeartbeats 2000000 in
theorem validOver_any (S : Nat → Prop) (a : Option Addr) (len cap : Nat) (xs : List Int) (o u : Int) (w : World) (h : IntsAt w S a len xs) :
    Calls Try.prog 16 #[.slice a len cap, .int .i64 o, .int .i64 u] w fun e w' => e = .returned (.bool (okO xs o u)) ∧ w = w' := by
  unfold okO
  cases hc : chM xs
  · go_enter Try.func16, Try.ntmps16
    go_wp2_with (go_at_call 27; refine (vchS hc _ h).mono ?_; rintro e w' ⟨rfl, rfl⟩)
    go_ret
    exact ⟨rfl, rfl⟩
  · cases ho : inB 0 30 o
    · go_enter Try.func16, Try.ntmps16
      go_wp2_with (first | (go_at_call 27; refine (vchS hc _ h).mono ?_; rintro e w' ⟨rfl, rfl⟩) | (go_at_call 28; refine (inRS ho _).mono ?_; rintro e w' ⟨rfl, rfl⟩))
      go_ret
      exact ⟨rfl, rfl⟩
    · go_enter Try.func16, Try.ntmps16
      go_wp2_with (first | (go_at_call 27; refine (vchS hc _ h).mono ?_; rintro e w' ⟨rfl, rfl⟩) | (go_at_call 28; refine (inRange_any _ _ _ _).mono ?_; rintro e w' ⟨rfl, rfl⟩; first | rw [ho] | skip))
      go_ret
      exact ⟨rfl, rfl⟩
theorem vov {S : Nat → Prop} {a : Option Addr} {len cap : Nat} {xs : List Int} {o u : Int} {b : Bool} (hb : okO xs o u = b) (w : World) (h : IntsAt w S a len xs) : Calls Try.prog 16 #[.slice a len cap, .int .i64 o, .int .i64 u] w fun e w' => e = .returned (.bool b) ∧ w = w' := by
  subst hb; exact validOver_any S a len cap xs o u w h
set_option maxRecDepth 100000 in
set_option maxHeartbeats 2000000 in
theorem sells_any (S : Nat → Prop) (a : Option Addr) (len cap : Nat) (xs : List Int) (s : Nat) (o u : Int) (w : World) (h : IntsAt w S a len xs) (hok : okO xs o u = true) (hs : s ≤ 7) :
    Calls Try.prog 17 #[.slice a len cap, .int .i64 s, .int .i64 o, .int .i64 u] w fun e w' => e = .returned (.int .i64 (costS xs s o u)) ∧ w = w' := by
  have hsm := h.small
  have HL := Lib.hid h.lenEq
  obtain ⟨hc, ho0, ho1, hu0, hu1⟩ := okO_at hok
  obtain ⟨hl1, hl7, hx9, _⟩ := chM_at hc
  have HX9 := Lib.hid hx9
  have HCB := Lib.hid (fun k (hk : k ≤ 8) => costK_bd10 (xs := xs) (s := s) hx9 ⟨ho0, ho1⟩ ⟨hu0, hu1⟩ (by omega) k hk)
  have hlen7 : len ≤ 7 := by rw [← HL.out]; exact hl7
  clear hx9 hok hc hl1 hl7
  go_enter Try.func17, Try.ntmps17
  go_wp2_with fail
  go_loop [9, 10] (fun t i => ∃ k : Nat, k ≤ len ∧ i = .int .i64 k ∧ t = .int .i64 (costK xs s o u k)) (fun _ i => len - (intOf i).toNat)
  case atStart => exact ⟨0, Nat.zero_le _, rfl, rfl⟩
  case round =>
    obtain ⟨k, hk, rfl, rfl⟩ := hrel
    have hcb := HCB.out k (by omega)
    by_cases hlt : k < len
    · have hkI : (k : Int) < (len : Int) := by omega
      obtain ⟨b, off, x, rfl, hx, hcx⟩ := h.get hlt
      have hxe : xs.getD k 0 = x := getD_of hx
      have hx9 := HX9.out k
      rw [hxe] at hx9
      obtain ⟨d1, e1⟩ : ∃ d1 : Int, ((s - k : Nat) : Int) = d1 := ⟨_, rfl⟩
      obtain ⟨d2, e2⟩ : ∃ d2 : Int, ((k - s : Nat) : Int) = d2 := ⟨_, rfl⟩
      have hF : unitC s k o u = o * d1 + u * d2 := by unfold unitC; rw [e1, e2]
      have hb := termC_bd hx9 (unit_bd (s := s) (v := k) ⟨ho0, ho1⟩ ⟨hu0, hu1⟩ (by omega) (by omega))
      rw [hF] at hb
      have HN := Lib.hid (show costK xs s o u (k + 1) = costK xs s o u k + x * (o * d1 + u * d2) by rw [costK, hxe, hF])
      clear hF hx hxe
      obtain ⟨t, ht⟩ : ∃ t, costK xs s o u k = t := ⟨_, rfl⟩
      rw [ht] at HN hcb ⊢
      clear ht
      have ht0 : 0 ≤ t := hcb.1
      have ht1 : t ≤ 40000 := by omega
      clear hcb
      have b1 : 0 ≤ o * d1 ∧ o * d1 ≤ 30 * 8 := ⟨Int.mul_nonneg ho0 (by omega), Int.mul_le_mul ho1 (by omega) (by omega) (by omega)⟩
      have b2 : 0 ≤ u * d2 ∧ u * d2 ≤ 30 * 8 := ⟨Int.mul_nonneg hu0 (by omega), Int.mul_le_mul hu1 (by omega) (by omega) (by omega)⟩
      have m1 : (if (s : Int) - (k : Int) < 0 then (0 : Int) else (s : Int) - (k : Int)) = d1 := by split <;> omega
      have n1 : (if (k : Int) - (s : Int) < 0 then (0 : Int) else (k : Int) - (s : Int)) = d2 := by split <;> omega
      clear e1 e2
      go_wp2_with fail
      go_round
      case rel => exact ⟨k + 1, by omega, by go_num, by rw [HN.out]⟩
      case measure => simp [intOf]; omega
    · obtain rfl : k = len := by omega
      have hkI : ¬ (k : Int) < (k : Int) := by omega
      go_wp2_with fail
      go_ret
      exact ⟨ret_int (by unfold costS; rw [HL.out]), rfl⟩
set_option maxRecDepth 100000 in
set_option maxHeartbeats 2000000 in
theorem bestStock_spec (S : Nat → Prop) (a : Option Addr) (len cap : Nat) (xs : List Int) (o u : Int) (w : World) (h : IntsAt w S a len xs) :
    Calls Try.prog 7 #[.slice a len cap, .int .i64 o, .int .i64 u] w fun e w' => e = .returned (.int .i64 (shareRes xs o u)) ∧ w = w' := by
  cases hok : okO xs o u
  · rw [shareRes_no hok]
    go_enter Try.func7, Try.ntmps7
    go_wp2_with (go_at_call 16; refine (vov hok _ h).mono ?_; rintro e w' ⟨rfl, rfl⟩)
    go_ret
    exact ⟨rfl, rfl⟩
  · rw [shareRes_yes hok]
    obtain ⟨hc, ho0, ho1, hu0, hu1⟩ := okO_at hok
    have hsl := (share_is hc ho0 hu0).1
    have hl7 := (chM_at hc).2.1
    have HST := Lib.hid (fun k => best_step (xs := xs) (k := k) hc ho0 hu0)
    have HBD := Lib.hid (fun k (hk : k ≤ 8) => costS_bd hok (s := k) hk)
    have HSE := Lib.hid (fun (k : Nat) (hk : k ≤ 7) => sells_any S a len cap xs k o u w h hok hk)
    obtain ⟨R, hS⟩ : ∃ R, shareN xs o u = R := ⟨_, rfl⟩
    rw [hS] at hsl HST ⊢
    clear hS
    have hS7 : R ≤ 6 := by omega
    clear hsl hl7 hc
    go_enter Try.func7, Try.ntmps7
    go_wp2_with (first | (go_at_call 16; refine (vov hok _ h).mono ?_; rintro e w' ⟨rfl, rfl⟩) | fail)
    go_loop [7, 8] (fun b i => ∃ k : Nat, 1 ≤ k ∧ k ≤ 8 ∧ i = .int .i64 k ∧ b = .int .i64 ((min R (k - 1) : Nat) : Int)) (fun _ i => 8 - (intOf i).toNat)
    case atStart => exact ⟨1, by omega, by omega, rfl, by simp⟩
    case round =>
      obtain ⟨k, hk1, hk, rfl, rfl⟩ := hrel
      have hst := HST.out k
      obtain ⟨B, hB⟩ : ∃ B, min R (k - 1) = B := ⟨_, rfl⟩
      have hB7 : B ≤ 7 := by omega
      rw [hB] at hst ⊢
      by_cases hlt : k < 8
      · have hkI : (k : Int) ≤ 7 := by omega
        have b1 := HBD.out k (by omega)
        have b2 := HBD.out B (by omega)
        have C1 := Lib.hid (HSE.out k (by omega))
        have C2 := Lib.hid (HSE.out B (by omega))
        obtain ⟨x, hx⟩ : ∃ x, costS xs k o u = x := ⟨_, rfl⟩
        obtain ⟨y, hy⟩ : ∃ y, costS xs B o u = y := ⟨_, rfl⟩
        rw [hx, hy] at hst
        rw [hx] at C1 b1
        rw [hy] at C2 b2
        clear hx hy
        have HST1 := Lib.hid hst
        clear hst
        go_wp2_with fail
        refine C1.out.mono ?_
        rintro e w2 ⟨rfl, rfl⟩
        go_wp2_with fail
        refine C2.out.mono ?_
        rintro e w3 ⟨rfl, rfl⟩
        by_cases hxy : x < y
        · go_wp2_with fail
          go_round
          case rel => exact ⟨k + 1, by omega, by omega, by go_num, by rw [show k + 1 - 1 = k by omega, ← HST1.out, if_pos hxy]⟩
          case measure => simp [intOf]; omega
        · go_wp2_with fail
          go_round
          case rel => exact ⟨k + 1, by omega, by omega, by go_num, by rw [show k + 1 - 1 = k by omega, ← HST1.out, if_neg (by omega)]⟩
          case measure => simp [intOf]; omega
      · obtain rfl : k = 8 := by omega
        go_wp2_with fail
        go_ret
        exact ⟨ret_int (by rw [← hB]; omega), rfl⟩
set_option maxRecDepth 100000 in
set_option maxHeartbeats 2000000 in
theorem stockByShare_spec (S : Nat → Prop) (a : Option Addr) (len cap : Nat) (xs : List Int) (o u : Int) (w : World) (h : IntsAt w S a len xs) :
    Calls Try.prog 14 #[.slice a len cap, .int .i64 o, .int .i64 u] w fun e w' => e = .returned (.int .i64 (shareRes xs o u)) ∧ w = w' := by
  cases hok : okO xs o u
  · rw [shareRes_no hok]
    go_enter Try.func14, Try.ntmps14
    go_wp2_with (go_at_call 16; refine (vov hok _ h).mono ?_; rintro e w' ⟨rfl, rfl⟩)
    go_ret
    exact ⟨rfl, rfl⟩
  · rw [shareRes_yes hok]
    have hsm := h.small
    have HLE := Lib.hid h.lenEq
    obtain ⟨hc, ho0, ho1, hu0, hu1⟩ := okO_at hok
    obtain ⟨hl1, hl7, hx9, _⟩ := chM_at hc
    have HX9 := Lib.hid hx9
    have HTB := Lib.hid (ch_T hc)
    have HML := Lib.hid (fun s (hs : xs.length ≤ s + 1) => met_last (o := o) (u := u) hc ho0 hu0 hs)
    have HSU := Lib.hid (fun r => share_unique (xs := xs) (o := o) (u := u) (r := r))
    have HSM := Lib.hid (fun k => And.intro (sumS_0 (fun k => (hx9 k).1) k) (sumS_le (fun k => (hx9 k).1) k))
    have HSP := Lib.hid (specSum_any S a len cap xs w h (mem_9 (ch_all hc)) (by rw [← HLE.out]; omega))
    rw [totalM_eq] at HSP
    rw [HLE.out] at hl1 hl7
    obtain ⟨T, hT⟩ : ∃ T, sumN xs xs.length = T := ⟨_, rfl⟩
    rw [hT] at HTB HSM HSP
    have HT := Lib.hid hT
    have hT1 := HTB.out
    clear hT hx9 hc
    go_enter Try.func14, Try.ntmps14
    go_wp2_with (first | (go_at_call 16; refine (vov hok _ h).mono ?_; rintro e w' ⟨rfl, rfl⟩) | fail)
    go_loop [7, 8] (fun t i => ∃ k : Nat, k < len ∧ i = .int .i64 k ∧ t = .int .i64 (sumN xs k) ∧ (∀ j, j < k → metB xs o u j = false)) (fun _ i => 8 - (intOf i).toNat)
    case atStart => exact ⟨0, by omega, rfl, rfl, fun j hj => absurd hj (by omega)⟩
    case round =>
      obtain ⟨k, hk, rfl, rfl, hj⟩ := hrel
      have HJ := Lib.hid hj
      clear hj
      have hkI : (k : Int) < (len : Int) := by omega
      obtain ⟨b, off, x, rfl, hx, hcx⟩ := h.get hk
      have hxe : xs.getD k 0 = x := getD_of hx
      have hx9 := HX9.out k
      rw [hxe] at hx9
      have hs0 := HSM.out k
      have hm1 := HSM.out (k + 1)
      have hms : sumN xs (k + 1) = sumN xs k + x := by rw [sumN, hxe]
      obtain ⟨m, hmm⟩ : ∃ m, sumN xs (k + 1) = m := ⟨_, rfl⟩
      have HMET := Lib.hid (show metB xs o u k = decide (u * T ≤ m * (o + u)) by unfold metB; rw [HT.out, hmm])
      rw [hmm] at hm1 hms
      have HMM := Lib.hid hmm
      clear hmm hx hxe
      obtain ⟨t, ht⟩ : ∃ t, sumN xs k = t := ⟨_, rfl⟩
      rw [ht] at hms hs0 ⊢
      clear ht
      have b1 : 0 ≤ m * (o + u) ∧ m * (o + u) ≤ 63 * 60 := ⟨Int.mul_nonneg hm1.1 (by omega), Int.mul_le_mul (by omega) (by omega) (by omega) (by omega)⟩
      have b2 : 0 ≤ u * T ∧ u * T ≤ 30 * 63 := ⟨Int.mul_nonneg hu0 (by omega), Int.mul_le_mul hu1 (by omega) (by omega) (by omega)⟩
      have hms' : t + x = m := hms.symm
      clear hms
      go_wp2_with fail
      refine HSP.out.mono ?_
      rintro e w2 ⟨rfl, rfl⟩
      by_cases hme : u * T ≤ m * (o + u)
      · have HSH := Lib.hid (HSU.out k HJ.out (by rw [HMET.out]; exact decide_eq_true hme) (by omega))
        go_wp2_with fail
        go_ret
        exact ⟨ret_int (by rw [HSH.out]), rfl⟩
      · have hkl : k + 1 < len := by
          rcases Nat.lt_or_ge (k + 1) len with g | g
          · exact g
          · have := HML.out k (by rw [HLE.out]; exact g)
            rw [HMET.out] at this
            exact absurd (of_decide_eq_true this) hme
        go_wp2_with fail
        go_round
        case rel => exact ⟨k + 1, hkl, by go_num, by rw [HMM.out], fun j hj => by
          rcases Nat.lt_or_ge j k with g | g
          · exact HJ.out j g
          · have : j = k := by omega
            subst this
            rw [HMET.out]; exact decide_eq_false (Int.not_le.2 hme)⟩
        case measure => simp [intOf]; omega
end Go.Proofs.Ytkjmpkincaainab
