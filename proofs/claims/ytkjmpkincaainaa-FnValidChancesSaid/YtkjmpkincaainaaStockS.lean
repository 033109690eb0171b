import Derived.Test.YtkjmpkincaainaaRows
import Derived.WalkKit
import Derived.LoopTactic
import Derived.Outline
import Derived.WalkSpells
import Derived.WalkLawsBesides
import Derived.ProofKit
import Derived.Lib.Hide
import Derived.IntWalk
import Derived.Test.YtkjmpkincaainaaLib
import Derived.Test.YtkjmpkincaainaaArr
import Derived.Test.YtkjmpkincaainaaGen
import Derived.Test.YtkjmpkincaainaaUp
import Derived.Test.YtkjmpkincaainaaLots
import Derived.Test.YtkjmpkincaainaaNetM
import Derived.Test.YtkjmpkincaainaaLotSpec
import Derived.Test.YtkjmpkincaainaaNetVal
import Derived.Test.YtkjmpkincaainaaStockM
import Derived.Test.YtkjmpkincaainaaStockT
namespace Go.Proofs.Ytkjmpkincaainaa
open Go.RowKit Go.WideShapes

theorem mem_9 {xs : List Int} (h : allIn 0 9 xs = true) : ∀ x ∈ xs, -1099511627776 ≤ x ∧ x ≤ 1099511627776 := fun x hx => by
  have := List.all_eq_true.1 h x hx
  simp [inB] at this
  omega
theorem ch_all {xs : List Int} (h : chM xs = true) : allIn 0 9 xs = true := by
  unfold chM at h
  simp only [Bool.and_eq_true] at h
  exact h.1.2
set_option maxRecDepth 100000 in
set_option maxHeartbeats 2000000 in
theorem vChances_spec (S : Nat → Prop) (a : Option Addr) (len cap : Nat) (xs : List Int) (w : World) (h : IntsAt w S a len xs) :
    Calls Try.prog 15 #[.slice a len cap] w fun e w' => e = .returned (.bool (chM xs)) ∧ w = w' := by
  have hs := h.small
  have HL := Lib.hid h.lenEq
  go_enter Try.func15, Try.ntmps15
  go_wp2_with fail
  go_loop [3] (fun i => ∃ k : Nat, k ≤ len ∧ i = .int .i64 k ∧ allIn 0 9 (xs.take k) = true) (fun i => len - (intOf i).toNat)
  case atStart => exact ⟨0, Nat.zero_le _, rfl, rfl⟩
  case round =>
    obtain ⟨k, hk, rfl, ha⟩ := hrel
    have HA := Lib.hid ha
    clear ha
    by_cases hlt : k < len
    · have hkI : (k : Int) < (len : Int) := by omega
      obtain ⟨b, off, x, rfl, hx, hc⟩ := h.get hlt
      have HX := Lib.hid hx
      clear hx
      cases hq : inB 0 9 x
      · have HF := Lib.hid (show chM xs = false by unfold chM; rw [allIn_false HX.out hq]; simp)
        go_wp2_with (go_at_call 20; refine (inRange_any _ _ _ _).mono ?_; rintro e w' ⟨rfl, rfl⟩)
        go_ret
        exact ⟨ret_bool HF.out.symm, rfl⟩
      · go_wp2_with (go_at_call 20; refine (inRange_any _ _ _ _).mono ?_; rintro e w' ⟨rfl, rfl⟩)
        go_round
        case rel => exact ⟨k + 1, by omega, by go_num, allIn_step HX.out HA.out hq⟩
        case measure => simp [intOf]; omega
    · obtain rfl : k = len := by omega
      have hkI : ¬ (k : Int) < (k : Int) := by omega
      have ha := HA.out
      rw [List.take_of_length_le (by rw [HL.out]; omega)] at ha
      have HM := Lib.hid (mem_9 ha)
      cases h1 : inB 1 7 (k : Int)
      · have HF := Lib.hid (show chM xs = false by unfold chM; simp [inB] at h1; rw [HL.out]; simp; omega)
        clear ha
        go_wp2_with (go_at_call 20; refine (inRange_any _ _ _ _).mono ?_; rintro e w' ⟨rfl, rfl⟩)
        go_ret
        exact ⟨ret_bool HF.out.symm, rfl⟩
      · have HF := Lib.hid (show chM xs = decide (totalM xs > 0) by unfold chM; rw [ha]; simp [inB] at h1; rw [HL.out, decide_eq_true (by omega)]; rfl)
        have hl8 : k ≤ 1048576 := by simp [inB] at h1; omega
        clear ha
        obtain ⟨T, hT⟩ : ∃ T, totalM xs = T := ⟨_, rfl⟩
        rw [hT] at HF
        have HT := Lib.hid hT
        clear hT
        go_wp2_with (first | (go_at_call 20; refine (inRange_any _ _ _ _).mono ?_; rintro e w' ⟨rfl, rfl⟩) | (go_at_call 28; refine (specSum_any _ _ _ _ xs _ h HM.out hl8).mono ?_; rintro e w' ⟨rfl, rfl⟩; rw [HT.out]))
        go_ret
        exact ⟨ret_bool HF.out.symm, rfl⟩
theorem vchS {S : Nat → Prop} {a : Option Addr} {len cap : Nat} {xs : List Int} {b : Bool} (hb : chM xs = b) (w : World) (h : IntsAt w S a len xs) : Calls Try.prog 15 #[.slice a len cap] w fun e w' => e = .returned (.bool b) ∧ w = w' := by
  subst hb; exact vChances_spec S a len cap xs w h
theorem inRS {lo hi n : Int} {b : Bool} (h : inB lo hi n = b) (w : World) : Calls Try.prog 20 #[.int .i64 n, .int .i64 lo, .int .i64 hi] w fun e w' => e = .returned (.bool b) ∧ w = w' := by
  subst h; exact inRange_any n lo hi w
set_option maxRecDepth 100000 in
theorem validChances_spec (S : Nat → Prop) (a : Option Addr) (len cap : Nat) (xs : List Int) (w : World) (h : IntsAt w S a len xs) :
    Calls Try.prog 7 #[.slice a len cap] w fun e w' => e = .returned (.bool (chM xs)) ∧ w = w' := by
  go_enter Try.func7, Try.ntmps7
  go_wp2_with (go_at_call 15; refine (vChances_spec S _ _ _ xs _ h).mono ?_; rintro e w' ⟨rfl, rfl⟩)
  go_ret
  exact ⟨rfl, rfl⟩
set_option maxRecDepth 100000 in
set_option maxHeartbeats 2000000 in
theorem validOver_any (S : Nat → Prop) (a : Option Addr) (len cap : Nat) (xs : List Int) (o u : Int) (w : World) (h : IntsAt w S a len xs) :
    Calls Try.prog 19 #[.slice a len cap, .int .i64 o, .int .i64 u] w fun e w' => e = .returned (.bool (okO xs o u)) ∧ w = w' := by
  unfold okO
  cases hc : chM xs
  · go_enter Try.func19, Try.ntmps19
    go_wp2_with (go_at_call 15; refine (vchS hc _ h).mono ?_; rintro e w' ⟨rfl, rfl⟩)
    go_ret
    exact ⟨rfl, rfl⟩
  · cases ho : inB 0 30 o
    · go_enter Try.func19, Try.ntmps19
      go_wp2_with (first | (go_at_call 15; refine (vchS hc _ h).mono ?_; rintro e w' ⟨rfl, rfl⟩) | (go_at_call 20; refine (inRS ho _).mono ?_; rintro e w' ⟨rfl, rfl⟩))
      go_ret
      exact ⟨rfl, rfl⟩
    · go_enter Try.func19, Try.ntmps19
      go_wp2_with (first | (go_at_call 15; refine (vchS hc _ h).mono ?_; rintro e w' ⟨rfl, rfl⟩) | (go_at_call 20; refine (inRange_any _ _ _ _).mono ?_; rintro e w' ⟨rfl, rfl⟩; first | rw [ho] | skip))
      go_ret
      exact ⟨rfl, rfl⟩
theorem vov {S : Nat → Prop} {a : Option Addr} {len cap : Nat} {xs : List Int} {o u : Int} {b : Bool} (hb : okO xs o u = b) (w : World) (h : IntsAt w S a len xs) : Calls Try.prog 19 #[.slice a len cap, .int .i64 o, .int .i64 u] w fun e w' => e = .returned (.bool b) ∧ w = w' := by
  subst hb; exact validOver_any S a len cap xs o u w h
set_option maxRecDepth 100000 in
set_option maxHeartbeats 2000000 in
theorem sells_any (S : Nat → Prop) (a : Option Addr) (len cap : Nat) (xs : List Int) (s : Nat) (o u : Int) (w : World) (h : IntsAt w S a len xs) (hok : okO xs o u = true) (hs : s ≤ 7) :
    Calls Try.prog 21 #[.slice a len cap, .int .i64 s, .int .i64 o, .int .i64 u] w fun e w' => e = .returned (.int .i64 (costS xs s o u)) ∧ w = w' := by
  have hsm := h.small
  have HL := Lib.hid h.lenEq
  obtain ⟨hc, ho0, ho1, hu0, hu1⟩ := okO_at hok
  obtain ⟨hl1, hl7, hx9, _⟩ := chM_at hc
  have HX9 := Lib.hid hx9
  have HCB := Lib.hid (fun k (hk : k ≤ 8) => costK_bd10 (xs := xs) (s := s) hx9 ⟨ho0, ho1⟩ ⟨hu0, hu1⟩ (by omega) k hk)
  have hlen7 : len ≤ 7 := by rw [← HL.out]; exact hl7
  clear hx9 hok hc hl1 hl7
  go_enter Try.func21, Try.ntmps21
  go_wp2_with fail
  go_loop [9, 10] (fun t i => ∃ k : Nat, k ≤ len ∧ i = .int .i64 k ∧ t = .int .i64 (costK xs s o u k)) (fun _ i => len - (intOf i).toNat)
  case atStart => exact ⟨0, Nat.zero_le _, rfl, rfl⟩
  case round =>
    obtain ⟨k, hk, rfl, rfl⟩ := hrel
    have hcb := HCB.out k (by omega)
    by_cases hlt : k < len
    · have hkI : (k : Int) < (len : Int) := by omega
      obtain ⟨b, off, x, rfl, hx, hcx⟩ := h.get hlt
      have hxe : xs.getD k 0 = x := getD_of hx
      have hx9 := HX9.out k
      rw [hxe] at hx9
      obtain ⟨d1, e1⟩ : ∃ d1 : Int, ((s - k : Nat) : Int) = d1 := ⟨_, rfl⟩
      obtain ⟨d2, e2⟩ : ∃ d2 : Int, ((k - s : Nat) : Int) = d2 := ⟨_, rfl⟩
      have hF : unitC s k o u = o * d1 + u * d2 := by unfold unitC; rw [e1, e2]
      have hb := termC_bd hx9 (unit_bd (s := s) (v := k) ⟨ho0, ho1⟩ ⟨hu0, hu1⟩ (by omega) (by omega))
      rw [hF] at hb
      have HN := Lib.hid (show costK xs s o u (k + 1) = costK xs s o u k + x * (o * d1 + u * d2) by rw [costK, hxe, hF])
      clear hF hx hxe
      obtain ⟨t, ht⟩ : ∃ t, costK xs s o u k = t := ⟨_, rfl⟩
      rw [ht] at HN hcb ⊢
      clear ht
      have ht0 : 0 ≤ t := hcb.1
      have ht1 : t ≤ 40000 := by omega
      clear hcb
      have b1 : 0 ≤ o * d1 ∧ o * d1 ≤ 30 * 8 := ⟨Int.mul_nonneg ho0 (by omega), Int.mul_le_mul ho1 (by omega) (by omega) (by omega)⟩
      have b2 : 0 ≤ u * d2 ∧ u * d2 ≤ 30 * 8 := ⟨Int.mul_nonneg hu0 (by omega), Int.mul_le_mul hu1 (by omega) (by omega) (by omega)⟩
      have m1 : (if (s : Int) - (k : Int) < 0 then (0 : Int) else (s : Int) - (k : Int)) = d1 := by split <;> omega
      have n1 : (if (k : Int) - (s : Int) < 0 then (0 : Int) else (k : Int) - (s : Int)) = d2 := by split <;> omega
      clear e1 e2
      go_wp2_with fail
      go_round
      case rel => exact ⟨k + 1, by omega, by go_num, by rw [HN.out]⟩
      case measure => simp [intOf]; omega
    · obtain rfl : k = len := by omega
      have hkI : ¬ (k : Int) < (k : Int) := by omega
      go_wp2_with fail
      go_ret
      exact ⟨ret_int (by unfold costS; rw [HL.out]), rfl⟩
set_option maxRecDepth 100000 in
set_option maxHeartbeats 2000000 in
theorem stockCost_spec (S : Nat → Prop) (a : Option Addr) (len cap : Nat) (xs : List Int) (s o u : Int) (w : World) (h : IntsAt w S a len xs) :
    Calls Try.prog 11 #[.slice a len cap, .int .i64 s, .int .i64 o, .int .i64 u] w fun e w' => e = .returned (.int .i64 (stockRes xs s o u)) ∧ w = w' := by
  cases hok : okO xs o u
  · rw [stockRes_no (.inl hok)]
    go_enter Try.func11, Try.ntmps11
    go_wp2_with (go_at_call 19; refine (vov hok _ h).mono ?_; rintro e w' ⟨rfl, rfl⟩)
    go_ret
    exact ⟨rfl, rfl⟩
  · cases hs : inB 0 7 s
    · rw [stockRes_no (.inr hs)]
      go_enter Try.func11, Try.ntmps11
      go_wp2_with (first | (go_at_call 19; refine (vov hok _ h).mono ?_; rintro e w' ⟨rfl, rfl⟩) | (go_at_call 20; refine (inRS hs _).mono ?_; rintro e w' ⟨rfl, rfl⟩))
      go_ret
      exact ⟨rfl, rfl⟩
    · obtain ⟨s, rfl, hs7⟩ : ∃ n : Nat, s = (n : Int) ∧ n ≤ 7 := by simp [inB] at hs; exact ⟨s.toNat, by omega, by omega⟩
      rw [stockRes_yes hok hs7]
      go_enter Try.func11, Try.ntmps11
      go_wp2_with (first | (go_at_call 19; refine (vov hok _ h).mono ?_; rintro e w' ⟨rfl, rfl⟩) | (go_at_call 20; refine (inRS hs _).mono ?_; rintro e w' ⟨rfl, rfl⟩) | (go_at_call 21; refine (sells_any S _ _ _ xs s o u _ h hok hs7).mono ?_; rintro e w' ⟨rfl, rfl⟩))
      go_ret
      exact ⟨rfl, rfl⟩
end Go.Proofs.Ytkjmpkincaainaa
