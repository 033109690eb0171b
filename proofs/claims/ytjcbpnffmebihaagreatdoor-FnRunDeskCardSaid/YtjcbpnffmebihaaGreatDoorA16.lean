import Derived.Test.YtjcbpnffmebihaaGreatDoorA14
import Derived.Test.YtjcbpnffmebihaaGreatDoorRows
import Derived.WalkKit
import Derived.LoopTactic
import Derived.Outline
import Derived.WalkSpells
import Derived.WalkLawsBesides
import Derived.ProofKit
import Derived.Lib.Hide
import Derived.IntWalk
import Derived.Carry
import Derived.Maps.RangeWalk
set_option linter.unusedVariables false
set_option linter.unusedSimpArgs false
namespace Go.Proofs.YtjcbpnffmebihaaGreatDoor
open Go.RowKit Go.WideShapes

def bI (x j : Nat) : Int := if x.testBit j then 1 else 0
theorem bI_bd (x j : Nat) : 0 ≤ bI x j ∧ bI x j ≤ 1 := by unfold bI; split <;> omega
theorem bit_at (x j : Nat) (hx : x ≤ 1048576) (hj : j ≤ 20) (w : World) :
    Calls Tryz.prog 100 #[.int .i64 x, .int .i64 j] w fun e w' => e = .returned (.int .i64 (bI x j)) ∧ w = w' := by
  have hb := p2_bd hj
  have HB := Lib.hid (show bI x j = (x : Int) / ((2 ^ j : Nat) : Int) % 2 by
    have := bitN_test x j; unfold bitN at this; unfold bI; rw [show (x : Int) / ((2 ^ j : Nat) : Int) % 2 = ((x / 2 ^ j % 2 : Nat) : Int) by push_cast; rfl, this]; split <;> rfl)
  have HP := Lib.hid (powV_eq j hj)
  go_enter Tryz.func100, Tryz.ntmps100
  go_wp2_with fail
  refine (power_all j (by omega) w).mono ?_
  rintro e w' ⟨rfl, rfl⟩
  rw [HP.out]
  generalize 2 ^ j = p at hb HB ⊢
  have h1 : 0 ≤ (x : Int) / (p : Int) := Int.ediv_nonneg (by omega) (by omega)
  have h2 : (x : Int) / (p : Int) ≤ x := Int.ediv_le_self _ (by omega)
  go_wp2
  go_ret
  exact ⟨ret_int HB.out.symm, rfl⟩
end Go.Proofs.YtjcbpnffmebihaaGreatDoor
namespace Go.Proofs.YtjcbpnffmebihaaGreatDoor
open Go.RowKit Go.WideShapes

theorem mem_9 {xs : List Int} (h : allIn 0 9 xs = true) : ∀ x ∈ xs, -1099511627776 ≤ x ∧ x ≤ 1099511627776 := fun x hx => by
  have := List.all_eq_true.1 h x hx
  simp [inB] at this
  omega
set_option maxRecDepth 100000 in
set_option maxHeartbeats 2000000 in
theorem vChances_spec (S : Nat → Prop) (a : Option Addr) (len cap : Nat) (xs : List Int) (w : World) (h : IntsAt w S a len xs) :
    Calls Tryz.prog 63 #[.slice a len cap] w fun e w' => e = .returned (.bool (chM xs)) ∧ w = w' := by
  have hs := h.small
  have HL := Lib.hid h.lenEq
  go_enter Tryz.func63, Tryz.ntmps63
  go_wp2_with fail
  go_loop [3] (fun i => ∃ k : Nat, k ≤ len ∧ i = .int .i64 k ∧ allIn 0 9 (xs.take k) = true) (fun i => len - (intOf i).toNat)
  case atStart => exact ⟨0, Nat.zero_le _, rfl, rfl⟩
  case round =>
    obtain ⟨k, hk, rfl, ha⟩ := hrel
    have HA := Lib.hid ha
    clear ha
    by_cases hlt : k < len
    · have hkI : (k : Int) < (len : Int) := by omega
      obtain ⟨b, off, x, rfl, hx, hc⟩ := h.get hlt
      have HX := Lib.hid hx
      clear hx
      cases hq : inB 0 9 x
      · have HF := Lib.hid (show chM xs = false by unfold chM; rw [allIn_false HX.out hq]; simp)
        go_wp2_with (go_at_call 54; refine (inRange_any _ _ _ _).mono ?_; rintro e w' ⟨rfl, rfl⟩)
        go_ret
        exact ⟨ret_bool HF.out.symm, rfl⟩
      · go_wp2_with (go_at_call 54; refine (inRange_any _ _ _ _).mono ?_; rintro e w' ⟨rfl, rfl⟩)
        go_round
        case rel => exact ⟨k + 1, by omega, by go_num, allIn_step HX.out HA.out hq⟩
        case measure => simp [intOf]; omega
    · obtain rfl : k = len := by omega
      have hkI : ¬ (k : Int) < (k : Int) := by omega
      have ha := HA.out
      rw [List.take_of_length_le (by rw [HL.out]; omega)] at ha
      have HM := Lib.hid (mem_9 ha)
      cases h1 : inB 1 7 (k : Int)
      · have HF := Lib.hid (show chM xs = false by unfold chM; simp [inB] at h1; rw [HL.out]; simp; omega)
        clear ha
        go_wp2_with (go_at_call 54; refine (inRange_any _ _ _ _).mono ?_; rintro e w' ⟨rfl, rfl⟩)
        go_ret
        exact ⟨ret_bool HF.out.symm, rfl⟩
      · have HF := Lib.hid (show chM xs = decide (totalM xs > 0) by unfold chM; rw [ha]; simp [inB] at h1; rw [HL.out, decide_eq_true (by omega)]; rfl)
        have hl8 : k ≤ 1048576 := by simp [inB] at h1; omega
        clear ha
        obtain ⟨T, hT⟩ : ∃ T, totalM xs = T := ⟨_, rfl⟩
        rw [hT] at HF
        have HT := Lib.hid hT
        clear hT
        go_wp2_with (first | (go_at_call 54; refine (inRange_any _ _ _ _).mono ?_; rintro e w' ⟨rfl, rfl⟩) | (go_at_call 28; refine (specSum_any _ _ _ _ xs _ h HM.out hl8).mono ?_; rintro e w' ⟨rfl, rfl⟩; rw [HT.out]))
        go_ret
        exact ⟨ret_bool HF.out.symm, rfl⟩
theorem vchS {S : Nat → Prop} {a : Option Addr} {len cap : Nat} {xs : List Int} {b : Bool} (hb : chM xs = b) (w : World) (h : IntsAt w S a len xs) : Calls Tryz.prog 63 #[.slice a len cap] w fun e w' => e = .returned (.bool b) ∧ w = w' := by
  subst hb; exact vChances_spec S a len cap xs w h
theorem inRS {lo hi n : Int} {b : Bool} (h : inB lo hi n = b) (w : World) : Calls Tryz.prog 54 #[.int .i64 n, .int .i64 lo, .int .i64 hi] w fun e w' => e = .returned (.bool b) ∧ w = w' := by
  subst h; exact inRange_any n lo hi w
set_option maxRecDepth 100000 in
set_option maxHeartbeats 2000000 in
theorem validOver_any (S : Nat → Prop) (a : Option Addr) (len cap : Nat) (xs : List Int) (o u : Int) (w : World) (h : IntsAt w S a len xs) :
    Calls Tryz.prog 45 #[.slice a len cap, .int .i64 o, .int .i64 u] w fun e w' => e = .returned (.bool (okO xs o u)) ∧ w = w' := by
  unfold okO
  cases hc : chM xs
  · go_enter Tryz.func45, Tryz.ntmps45
    go_wp2_with (go_at_call 63; refine (vchS hc _ h).mono ?_; rintro e w' ⟨rfl, rfl⟩)
    go_ret
    exact ⟨rfl, rfl⟩
  · cases ho : inB 0 30 o
    · go_enter Tryz.func45, Tryz.ntmps45
      go_wp2_with (first | (go_at_call 63; refine (vchS hc _ h).mono ?_; rintro e w' ⟨rfl, rfl⟩) | (go_at_call 54; refine (inRS ho _).mono ?_; rintro e w' ⟨rfl, rfl⟩))
      go_ret
      exact ⟨rfl, rfl⟩
    · go_enter Tryz.func45, Tryz.ntmps45
      go_wp2_with (first | (go_at_call 63; refine (vchS hc _ h).mono ?_; rintro e w' ⟨rfl, rfl⟩) | (go_at_call 54; refine (inRange_any _ _ _ _).mono ?_; rintro e w' ⟨rfl, rfl⟩; first | rw [ho] | skip))
      go_ret
      exact ⟨rfl, rfl⟩
theorem vov {S : Nat → Prop} {a : Option Addr} {len cap : Nat} {xs : List Int} {o u : Int} {b : Bool} (hb : okO xs o u = b) (w : World) (h : IntsAt w S a len xs) : Calls Tryz.prog 45 #[.slice a len cap, .int .i64 o, .int .i64 u] w fun e w' => e = .returned (.bool b) ∧ w = w' := by
  subst hb; exact validOver_any S a len cap xs o u w h
set_option maxRecDepth 100000 in
set_option maxHeartbeats 2000000 in
theorem sells_any (S : Nat → Prop) (a : Option Addr) (len cap : Nat) (xs : List Int) (s : Nat) (o u : Int) (w : World) (h : IntsAt w S a len xs) (hok : okO xs o u = true) (hs : s ≤ 7) :
    Calls Tryz.prog 64 #[.slice a len cap, .int .i64 s, .int .i64 o, .int .i64 u] w fun e w' => e = .returned (.int .i64 (costS xs s o u)) ∧ w = w' := by
  have hsm := h.small
  have HL := Lib.hid h.lenEq
  obtain ⟨hc, ho0, ho1, hu0, hu1⟩ := okO_at hok
  obtain ⟨hl1, hl7, hx9, _⟩ := chM_at hc
  have HX9 := Lib.hid hx9
  have HCB := Lib.hid (fun k (hk : k ≤ 8) => costK_bd10 (xs := xs) (s := s) hx9 ⟨ho0, ho1⟩ ⟨hu0, hu1⟩ (by omega) k hk)
  have hlen7 : len ≤ 7 := by rw [← HL.out]; exact hl7
  clear hx9 hok hc hl1 hl7
  go_enter Tryz.func64, Tryz.ntmps64
  go_wp2_with fail
  go_loop [9, 10] (fun t i => ∃ k : Nat, k ≤ len ∧ i = .int .i64 k ∧ t = .int .i64 (costK xs s o u k)) (fun _ i => len - (intOf i).toNat)
  case atStart => exact ⟨0, Nat.zero_le _, rfl, rfl⟩
  case round =>
    obtain ⟨k, hk, rfl, rfl⟩ := hrel
    have hcb := HCB.out k (by omega)
    by_cases hlt : k < len
    · have hkI : (k : Int) < (len : Int) := by omega
      obtain ⟨b, off, x, rfl, hx, hcx⟩ := h.get hlt
      have hxe : xs.getD k 0 = x := getD_of hx
      have hx9 := HX9.out k
      rw [hxe] at hx9
      obtain ⟨d1, e1⟩ : ∃ d1 : Int, ((s - k : Nat) : Int) = d1 := ⟨_, rfl⟩
      obtain ⟨d2, e2⟩ : ∃ d2 : Int, ((k - s : Nat) : Int) = d2 := ⟨_, rfl⟩
      have hF : unitC s k o u = o * d1 + u * d2 := by unfold unitC; rw [e1, e2]
      have hb := termC_bd hx9 (unit_bd (s := s) (v := k) ⟨ho0, ho1⟩ ⟨hu0, hu1⟩ (by omega) (by omega))
      rw [hF] at hb
      have HN := Lib.hid (show costK xs s o u (k + 1) = costK xs s o u k + x * (o * d1 + u * d2) by rw [costK, hxe, hF])
      clear hF hx hxe
      obtain ⟨t, ht⟩ : ∃ t, costK xs s o u k = t := ⟨_, rfl⟩
      rw [ht] at HN hcb ⊢
      clear ht
      have ht0 : 0 ≤ t := hcb.1
      have ht1 : t ≤ 40000 := by omega
      clear hcb
      have b1 : 0 ≤ o * d1 ∧ o * d1 ≤ 30 * 8 := ⟨Int.mul_nonneg ho0 (by omega), Int.mul_le_mul ho1 (by omega) (by omega) (by omega)⟩
      have b2 : 0 ≤ u * d2 ∧ u * d2 ≤ 30 * 8 := ⟨Int.mul_nonneg hu0 (by omega), Int.mul_le_mul hu1 (by omega) (by omega) (by omega)⟩
      have m1 : (if (s : Int) - (k : Int) < 0 then (0 : Int) else (s : Int) - (k : Int)) = d1 := by split <;> omega
      have n1 : (if (k : Int) - (s : Int) < 0 then (0 : Int) else (k : Int) - (s : Int)) = d2 := by split <;> omega
      clear e1 e2
      go_wp2_with fail
      go_round
      case rel => exact ⟨k + 1, by omega, by go_num, by rw [HN.out]⟩
      case measure => simp [intOf]; omega
    · obtain rfl : k = len := by omega
      have hkI : ¬ (k : Int) < (k : Int) := by omega
      go_wp2_with fail
      go_ret
      exact ⟨ret_int (by unfold costS; rw [HL.out]), rfl⟩
set_option maxRecDepth 100000 in
set_option maxHeartbeats 2000000 in
theorem bestStock_spec (S : Nat → Prop) (a : Option Addr) (len cap : Nat) (xs : List Int) (o u : Int) (w : World) (h : IntsAt w S a len xs) :
    Calls Tryz.prog 46 #[.slice a len cap, .int .i64 o, .int .i64 u] w fun e w' => e = .returned (.int .i64 (shareRes xs o u)) ∧ w = w' := by
  cases hok : okO xs o u
  · rw [shareRes_no hok]
    go_enter Tryz.func46, Tryz.ntmps46
    go_wp2_with (go_at_call 45; refine (vov hok _ h).mono ?_; rintro e w' ⟨rfl, rfl⟩)
    go_ret
    exact ⟨rfl, rfl⟩
  · rw [shareRes_yes hok]
    obtain ⟨hc, ho0, ho1, hu0, hu1⟩ := okO_at hok
    have hsl := (share_is hc ho0 hu0).1
    have hl7 := (chM_at hc).2.1
    have HST := Lib.hid (fun k => best_step (xs := xs) (k := k) hc ho0 hu0)
    have HBD := Lib.hid (fun k (hk : k ≤ 8) => costS_bd hok (s := k) hk)
    have HSE := Lib.hid (fun (k : Nat) (hk : k ≤ 7) => sells_any S a len cap xs k o u w h hok hk)
    obtain ⟨R, hS⟩ : ∃ R, shareN xs o u = R := ⟨_, rfl⟩
    rw [hS] at hsl HST ⊢
    clear hS
    have hS7 : R ≤ 6 := by omega
    clear hsl hl7 hc
    go_enter Tryz.func46, Tryz.ntmps46
    go_wp2_with (first | (go_at_call 45; refine (vov hok _ h).mono ?_; rintro e w' ⟨rfl, rfl⟩) | fail)
    go_loop [7, 8] (fun b i => ∃ k : Nat, 1 ≤ k ∧ k ≤ 8 ∧ i = .int .i64 k ∧ b = .int .i64 ((min R (k - 1) : Nat) : Int)) (fun _ i => 8 - (intOf i).toNat)
    case atStart => exact ⟨1, by omega, by omega, rfl, by simp⟩
    case round =>
      obtain ⟨k, hk1, hk, rfl, rfl⟩ := hrel
      have hst := HST.out k
      obtain ⟨B, hB⟩ : ∃ B, min R (k - 1) = B := ⟨_, rfl⟩
      have hB7 : B ≤ 7 := by omega
      rw [hB] at hst ⊢
      by_cases hlt : k < 8
      · have hkI : (k : Int) ≤ 7 := by omega
        have b1 := HBD.out k (by omega)
        have b2 := HBD.out B (by omega)
        have C1 := Lib.hid (HSE.out k (by omega))
        have C2 := Lib.hid (HSE.out B (by omega))
        obtain ⟨x, hx⟩ : ∃ x, costS xs k o u = x := ⟨_, rfl⟩
        obtain ⟨y, hy⟩ : ∃ y, costS xs B o u = y := ⟨_, rfl⟩
        rw [hx, hy] at hst
        rw [hx] at C1 b1
        rw [hy] at C2 b2
        clear hx hy
        have HST1 := Lib.hid hst
        clear hst
        go_wp2_with fail
        refine C1.out.mono ?_
        rintro e w2 ⟨rfl, rfl⟩
        go_wp2_with fail
        refine C2.out.mono ?_
        rintro e w3 ⟨rfl, rfl⟩
        by_cases hxy : x < y
        · go_wp2_with fail
          go_round
          case rel => exact ⟨k + 1, by omega, by omega, by go_num, by rw [show k + 1 - 1 = k by omega, ← HST1.out, if_pos hxy]⟩
          case measure => simp [intOf]; omega
        · go_wp2_with fail
          go_round
          case rel => exact ⟨k + 1, by omega, by omega, by go_num, by rw [show k + 1 - 1 = k by omega, ← HST1.out, if_neg (by omega)]⟩
          case measure => simp [intOf]; omega
      · obtain rfl : k = 8 := by omega
        go_wp2_with fail
        go_ret
        exact ⟨ret_int (by rw [← hB]; omega), rfl⟩
end Go.Proofs.YtjcbpnffmebihaaGreatDoor
namespace Go.Proofs.YtjcbpnffmebihaaGreatDoor
open Go.RowKit Go.WideShapes Go.Maps

theorem upTo_mem {xs : List Int} (h : allIn 0 9 xs = true) : ∀ x ∈ xs, -1099511627776 ≤ x ∧ x ≤ 1099511627776 := fun x hx => by
  have := List.all_eq_true.1 h x hx
  simp [inB] at this
  omega
theorem fromOne10 (n hi : Int) (w : World) {b : Bool} (hb : inB 1 hi n = b) :
    Calls Tryz.prog 125 #[.int .i64 n, .int .i64 hi] w fun e w' => e = .returned (.bool b) ∧ w' = w := by
  subst hb
  by_cases h1 : 1 ≤ n
  · by_cases h2 : n ≤ hi
    · go_enter Tryz.func125, Tryz.ntmps125
      go_wp2
      go_ret
      exact ⟨ret_bool (inB_true h1 h2).symm, rfl⟩
    · go_enter Tryz.func125, Tryz.ntmps125
      go_wp2
      go_ret
      exact ⟨ret_bool (inB_hi (by omega)).symm, rfl⟩
  · go_enter Tryz.func125, Tryz.ntmps125
    go_wp2
    go_ret
    exact ⟨ret_bool (inB_lo (by omega)).symm, rfl⟩
set_option maxRecDepth 100000 in
set_option maxHeartbeats 2000000 in
theorem validChances_impl (S : Nat → Prop) (a : Option Addr) (len cap : Nat) (xs : List Int) (w : World) (h : IntsAt w S a len xs) :
    Calls Tryz.prog 97 #[.slice a len cap] w fun e w' => e = .returned (.bool (chM xs)) ∧ w = w' := by
  have hs := h.small
  have HL := Lib.hid h.lenEq
  cases h1 : inB 1 7 (len : Int)
  · have e : chM xs = false := by unfold chM; simp [inB] at h1; rw [HL.out]; simp; omega
    rw [e]
    go_enter Tryz.func97, Tryz.ntmps97
    go_wp2_with (go_at_call 125; refine (fromOne10 _ _ _ h1).mono ?_; rintro e w' ⟨rfl, rfl⟩)
    go_ret
    exact ⟨rfl, rfl⟩
  · cases h2 : allIn 0 9 xs
    · have e : chM xs = false := by unfold chM; rw [h2]; simp
      rw [e]
      go_enter Tryz.func97, Tryz.ntmps97
      go_wp2_with (first | (go_at_call 125; refine (fromOne10 _ _ _ h1).mono ?_; rintro e w' ⟨rfl, rfl⟩) | (go_at_call 105; refine (upTo8 S a len cap xs 9 _ h h2).mono ?_; rintro e w' ⟨rfl, rfl⟩))
      go_ret
      exact ⟨rfl, rfl⟩
    · have e : chM xs = decide (totalM xs > 0) := by unfold chM; rw [h2]; simp [inB] at h1; rw [HL.out, decide_eq_true (by omega)]; rfl
      rw [e]
      have hl8 : len ≤ 1048576 := by simp [inB] at h1; omega
      have HM := Lib.hid (upTo_mem h2)
      obtain ⟨T, hT⟩ : ∃ T, totalM xs = T := ⟨_, rfl⟩
      have HT := Lib.hid hT
      rw [hT]
      clear hT e
      go_enter Tryz.func97, Tryz.ntmps97
      go_wp2_with (first | (go_at_call 125; refine (fromOne10 _ _ _ h1).mono ?_; rintro e w' ⟨rfl, rfl⟩) | (go_at_call 105; refine (upTo8 S a len cap xs 9 _ h h2).mono ?_; rintro e w' ⟨rfl, rfl⟩) | (go_at_call 131; refine (sumOf_any S a len cap xs _ h HM.out hl8).mono ?_; rintro e w' ⟨rfl, rfl⟩; rw [HT.out]))
      go_ret
      exact ⟨rfl, rfl⟩
theorem Tryz.underCh : Tryz.prog.underlying 196 = some (.map 3 3) := by kernel_rfl
theorem Tryz.underI : Tryz.prog.underlying 3 = some (.int .i64) := by kernel_rfl
theorem Tryz.lawI : Keyed Tryz.prog 3 := int_keyed Tryz.underI
/-- a map of the call's own -/
def ChanP (w : World) (g : Nat → Int) (K : Nat) (e : Ending) (w' : World) : Prop := ∃ (B n : Nat) (D : DataW Unit), e = .returned (.map (some B)) ∧ w.heap.size ≤ B ∧ n ≤ K ∧ w'.ownsMap Tryz.prog 3 (plainElem Tryz.prog 3) B n D ∧ MapIs D g K ∧ Below w.heap.size w w'
def upto (xs : List Int) (k : Nat) (v : Nat) : Int := if v < k then xs.getD v 0 else 0
set_option maxRecDepth 100000 in
set_option maxHeartbeats 2000000 in
theorem chancesOf_impl (a : Option Addr) (len cap : Nat) (xs : List Int) (w : World) (h : IntsAt w (· < w.heap.size) a len xs) (h7 : len ≤ 7) (hx : ∀ k, 0 ≤ xs.getD k 0 ∧ xs.getD k 0 ≤ 9) :
    Calls Tryz.prog 159 #[.slice a len cap] w (ChanP w (fun v => xs.getD v 0) len) := by
  have hmm := @run_makeMap Tryz.prog
  have HXS := Lib.hid hx
  have HL := Lib.hid h.lenEq
  have HH := Lib.hid (fun w' (hb : Below w.heap.size w w') => h.below hb)
  clear hx h
  go_enter Tryz.func159, Tryz.ntmps159
  go_wp2_with fail
  go_loopw [9] (fun i wr => ∃ (k : Nat) (D : DataW Unit), k ≤ len ∧ i = .int .i64 k ∧ wr.ownsMap Tryz.prog 3 (plainElem Tryz.prog 3) w.heap.size k D ∧ MapIs D (upto xs k) len ∧ Below w.heap.size w wr) (fun i _ => len - (intOf i).toNat)
  case atStart => exact ⟨0, _, Nat.zero_le _, rfl, World.ownsMap_made _ _ _ _, mapIs_none len, (Below.refl _ _).alloc (Nat.le_refl _) _⟩
  case round =>
    obtain ⟨k, D, hk, rfl, hown, hm, hnx⟩ := hrel
    have HM := Lib.hid hm
    have HNX := Lib.hid hnx
    clear hm hnx
    by_cases hlt : k < len
    · have hkI : (k : Int) < (len : Int) := by omega
      obtain ⟨b, off, x, rfl, hx, hc⟩ := (HH.out wr HNX.out).get hlt
      have hxe : xs.getD k 0 = x := getD_of hx
      have hx9 := HXS.out k
      rw [hxe] at hx9
      have HXE := Lib.hid hxe
      clear hx hxe
      by_cases hp : 0 < x
      · have EM : ∀ v, (if v = k then x else upto xs k v) = upto xs (k + 1) v := fun v => by
          unfold upto
          by_cases e : v = k
          · subst e; rw [if_pos rfl, if_pos (by omega), HXE.out]
          · rw [if_neg e]
            by_cases h1 : v < k
            · rw [if_pos h1, if_pos (by omega)]
            · rw [if_neg h1, if_neg (by omega)]
        have HEM := Lib.hid EM
        clear EM
        go_wp2_with (first
          | (at_mapUpdate; refine wpList_mapUpdate_own _ rfl _ _ _ 196 rfl 3 3 Tryz.lawI Tryz.underCh _ w.heap.size k _ rfl hown (by unfold maxLen; omega) _ _ _ rfl rfl (keyOf_int_mk Tryz.underI (WalkArith.wf_i64 (by omega))) _ [] (plainElem_int Tryz.underI (WalkArith.wf_i64 (by omega))) ?_; intro w1 hown1 hgrow1)
          | fail)
        have hnx1 := HNX.out.grown hgrow1 HNX.out.size (fun j hj => by cases hj; exact Nat.le_refl _)
        go_roundw
        case rel => exact ⟨k + 1, _, by omega, by go_num, hown1, (HM.out.put (by omega) hp).congr HEM.out, hnx1⟩
        case measure => simp [intOf]; omega
      · have EM : ∀ v, upto xs k v = upto xs (k + 1) v := fun v => by
          unfold upto
          by_cases e : v = k
          · subst e; rw [if_neg (by omega), if_pos (by omega), HXE.out]; omega
          · by_cases h1 : v < k
            · rw [if_pos h1, if_pos (by omega)]
            · rw [if_neg h1, if_neg (by omega)]
        have HEM := Lib.hid EM
        clear EM
        go_wp2_with fail
        go_roundw
        case rel => exact ⟨k + 1, _, by omega, by go_num, hown.mono (by omega), HM.out.congr HEM.out, HNX.out⟩
        case measure => simp [intOf]; omega
    · obtain rfl : k = len := by omega
      have hkI : ¬ (k : Int) < (k : Int) := by omega
      go_wp2_with fail
      go_ret
      refine ⟨_, _, _, rfl, Nat.le_refl _, Nat.le_refl _, hown, HM.out.congr (fun v => ?_), HNX.out⟩
      unfold upto
      split
      · rfl
      · exact (getD_past (by rw [HL.out]; omega)).symm
end Go.Proofs.YtjcbpnffmebihaaGreatDoor
