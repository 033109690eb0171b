import Derived.Test.YtkjmpkincaainadRows
import Derived.WalkKit
import Derived.LoopTactic
import Derived.Outline
import Derived.WalkSpells
import Derived.WalkLawsBesides
import Derived.ProofKit
import Derived.Lib.Hide
import Derived.IntWalk
import Derived.Carry
import Derived.Maps.RangeWalk
import Derived.Test.YtkjmpkincaainadM0
import Derived.Test.YtkjmpkincaainadM1
import Derived.Test.YtkjmpkincaainadM8
import Derived.Test.YtkjmpkincaainadM9
import Derived.Test.YtkjmpkincaainadM11
import Derived.Test.YtkjmpkincaainadM2
import Derived.Test.YtkjmpkincaainadM10
import Derived.Test.YtkjmpkincaainadM4
namespace Go.Proofs.Ytkjmpkincaainad
open Go.RowKit Go.WideShapes Go.Maps

theorem areC {o u : Int} {b : Bool} (h : (inB 0 30 o && inB 0 30 u) = b) (w : World) : Calls Try.prog 37 #[.int .i64 o, .int .i64 u] w fun e w' => e = .returned (.bool b) ∧ w = w' := by
  subst h; exact areCosts_any o u w
theorem vchI {S : Nat → Prop} {a : Option Addr} {len cap : Nat} {xs : List Int} {b : Bool} (hb : chM xs = b) (w : World) (h : IntsAt w S a len xs) : Calls Try.prog 17 #[.slice a len cap] w fun e w' => e = .returned (.bool b) ∧ w = w' := by
  subst hb; exact validChances_impl S a len cap xs w h
theorem okO_eq {xs : List Int} {o u : Int} {b c : Bool} (h : chM xs = b) (h2 : (inB 0 30 o && inB 0 30 u) = c) : okO xs o u = (b && c) := by
  unfold okO; rw [Bool.and_assoc, h2, h]
theorem from1S {n hi : Int} {b : Bool} (hb : inB 1 hi n = b) (w : World) : Calls Try.prog 42 #[.int .i64 n, .int .i64 hi] w fun e w' => e = .returned (.bool b) ∧ w = w' := (fromOne10 n hi w hb).mono fun _ _ h => ⟨h.1, h.2.symm⟩
set_option maxRecDepth 100000 in
set_option maxHeartbeats 4000000 in
theorem stockCost_impl (a : Option Addr) (len cap : Nat) (xs : List Int) (s o u : Int) (w : World) (h : IntsAt w (· < w.heap.size) a len xs) :
    Calls Try.prog 19 #[.slice a len cap, .int .i64 s, .int .i64 o, .int .i64 u] w (valN w (.int .i64 (stockRes xs s o u))) := by
  cases hc : chM xs
  · rw [stockRes_no (.inl (by rw [okO_eq hc rfl]; rfl))]
    go_enter Try.func19, Try.ntmps19
    go_wp2_with (go_at_call 17; refine (vchI hc _ h).mono ?_; rintro e w' ⟨rfl, rfl⟩)
    go_ret
    exact ⟨rfl, Below.refl _ _⟩
  · cases hs : inB 0 7 s
    · rw [stockRes_no (.inr hs)]
      go_enter Try.func19, Try.ntmps19
      go_wp2_with (first | (go_at_call 17; refine (vchI hc _ h).mono ?_; rintro e w' ⟨rfl, rfl⟩) | (go_at_call 24; refine (isUp8 _ _ _ hs).mono ?_; rintro e w' ⟨rfl, rfl⟩))
      go_ret
      exact ⟨rfl, Below.refl _ _⟩
    · cases ho : (inB 0 30 o && inB 0 30 u)
      · rw [stockRes_no (.inl (by rw [okO_eq hc ho]; rfl))]
        go_enter Try.func19, Try.ntmps19
        go_wp2_with (first | (go_at_call 17; refine (vchI hc _ h).mono ?_; rintro e w' ⟨rfl, rfl⟩) | (go_at_call 24; refine (isUp8 _ _ _ hs).mono ?_; rintro e w' ⟨rfl, rfl⟩) | (go_at_call 37; refine (areC ho _).mono ?_; rintro e w' ⟨rfl, rfl⟩))
        go_ret
        exact ⟨rfl, Below.refl _ _⟩
      · have hok : okO xs o u = true := by rw [okO_eq hc ho]; rfl
        obtain ⟨s, rfl, hs7⟩ : ∃ n : Nat, s = (n : Int) ∧ n ≤ 7 := by simp [inB] at hs; exact ⟨s.toNat, by omega, by omega⟩
        rw [stockRes_yes hok hs7]
        obtain ⟨_, ho0, ho1, hu0, hu1⟩ := okO_at hok
        obtain ⟨hl1, hl7, hx9, _⟩ := chM_at hc
        have hle : xs.length = len := h.lenEq
        have HX9 := Lib.hid hx9
        clear hx9
        have HCO := Lib.hid (show costS xs s o u = sumF (fun v => xs.getD v 0 * unitC s v o u) len by unfold costS; rw [costK_F, hle])
        rw [hle] at hl1 hl7
        clear hle
        go_enter Try.func19, Try.ntmps19
        go_wp2_with (first | (go_at_call 17; refine (vchI hc _ h).mono ?_; rintro e w' ⟨rfl, rfl⟩) | (go_at_call 24; refine (isUp8 _ _ _ hs).mono ?_; rintro e w' ⟨rfl, rfl⟩) | (go_at_call 37; refine (areC ho _).mono ?_; rintro e w' ⟨rfl, rfl⟩))
        refine (chancesOf_impl a len cap xs _ h hl7 HX9.out).mono ?_
        rintro e w1 ⟨B, n, D, rfl, hB, hn, hown, hm, hb1⟩
        have HM := Lib.hid hm
        have HB1 := Lib.hid hb1
        clear hm hb1 h hc hs ho hok
        go_wp2_with (first
          | (at_range; refine wpList_range_own _ rfl _ 61 rfl 3 3 Try.lawI Try.underCh _ B n _ rfl hown ?_; intro w0 hrg0 hg0 hs0)
          | fail)
        go_frame
        go_loopw [9] (fun i wr => ∃ (left : Lit → Bool) (cnt : Nat), i = .int .i64 (cameF (fun v => xs.getD v 0 * unitC s v o u) left len) ∧ (∀ kl, left kl = true → has D kl = true) ∧ wr.ranges Try.prog 3 (plainElem Try.prog 3) B w1.heap.size n D left cnt ∧ Below w1.heap.size w1 wr) (fun _ wr => wr.rangeLeft B w1.heap.size)
        case atStart =>
          refine ⟨_, _, ?_, fun _ h => h, hrg0, ⟨hg0.os, hg0.tape, hg0.output, hg0.size, fun k hk => hg0.block k hk (by simp)⟩⟩
          rw [came_start (fun v hv hh => ?_)]
          rw [HM.out.2.1 v hv] at hh
          have h1 : ¬ 0 < xs.getD v 0 := of_decide_eq_false hh
          have h2 := HX9.out v
          have h3 : xs.getD v 0 = 0 := by omega
          rw [h3, Int.zero_mul]
        case round =>
          clear hrg0 hg0 hs0 hown
          obtain ⟨left, cnt, rfl, hle, hrg, hnx⟩ := hrel
          have HNX := Lib.hid hnx
          have HLE := Lib.hid hle
          have hcb := came_bd (f := fun v => xs.getD v 0 * unitC s v o u) (left := left) (B := 4320) (K := len) (by omega) (fun v hv => termC_bd (HX9.out v) (unit_bd ⟨ho0, ho1⟩ ⟨hu0, hu1⟩ (by omega) (by omega)))
          clear hnx hle
          obtain ⟨c, hc⟩ : ∃ c, cameF (fun v => xs.getD v 0 * unitC s v o u) left len = c := ⟨_, rfl⟩
          rw [hc] at hcb ⊢
          have HC := Lib.hid hc
          clear hc
          have hc0 : 0 ≤ c := hcb.1
          have hc1 : c ≤ 40000 := by omega
          clear hcb
          go_wp2_with (first
            | (at_next; refine wpList_next_ranges_ii _ rfl _ rfl 3 3 .i64 .i64 Try.lawI Try.underI Try.underI B w1.heap.size n _ _ _ rfl hrg ?_ ?_)
            | fail)
          · intro _ hl0
            go_wp2_with fail
            go_ret
            exact ⟨ret_int (by rw [HCO.out, ← HC.out, came_end hl0]), HB1.out.trans (HNX.out.mono HB1.out.size)⟩
          · intro x y w2 cnt1 hwx hwc hlx hat hrg1 hlt hg1 hs1 hen
            obtain ⟨v, hv, rfl, rfl, hp⟩ := HM.out.came HLE.out hlx hat
            have hnx1 := HNX.out.grown hg1 HNX.out.size (fun j hj => by cases hj; exact Nat.le_refl _)
            have HST := Lib.hid (came_step (f := fun v => xs.getD v 0 * unitC s v o u) hlx hv)
            have HN1 := Lib.hid hnx1
            have hx9 := HX9.out v
            clear hnx1 hat
            obtain ⟨d1, e1⟩ : ∃ d1 : Int, ((s - v : Nat) : Int) = d1 := ⟨_, rfl⟩
            obtain ⟨d2, e2⟩ : ∃ d2 : Int, ((v - s : Nat) : Int) = d2 := ⟨_, rfl⟩
            have hF : xs.getD v 0 * unitC s v o u = xs.getD v 0 * (o * d1 + u * d2) := by unfold unitC; rw [e1, e2]
            have hb := termC_bd hx9 (unit_bd (s := s) (v := v) ⟨ho0, ho1⟩ ⟨hu0, hu1⟩ (by omega) (by omega))
            rw [hF] at hb
            have HFF := Lib.hid hF
            clear hF
            have b1 : 0 ≤ o * d1 ∧ o * d1 ≤ 30 * 8 := ⟨Int.mul_nonneg ho0 (by omega), Int.mul_le_mul ho1 (by omega) (by omega) (by omega)⟩
            have b2 : 0 ≤ u * d2 ∧ u * d2 ≤ 30 * 8 := ⟨Int.mul_nonneg hu0 (by omega), Int.mul_le_mul hu1 (by omega) (by omega) (by omega)⟩
            have m1 : (if v < s then (s : Int) - (v : Int) else 0) = d1 := by split <;> omega
            have n1 : (if s < v then (v : Int) - (s : Int) else 0) = d2 := by split <;> omega
            clear e1 e2
            obtain ⟨g, hg⟩ : ∃ g, xs.getD v 0 = g := ⟨_, rfl⟩
            rw [hg] at hb hx9 hp hwc hen HFF ⊢
            have HG := Lib.hid hg
            clear hg hwx hwc
            go_wp2_with fail
            go_roundw
            case rel => exact ⟨_, _, by rw [HST.out, HC.out]; show _ = Value.int .i64 (c + (xs.getD v 0 * unitC s v o u)); rw [HG.out, HFF.out], strike_le HLE.out _, hrg1, HN1.out⟩
            case measure => rw [hrg1.left_eq, hrg.left_eq]; exact hlt
end Go.Proofs.Ytkjmpkincaainad
namespace Go.Proofs.Ytkjmpkincaainad
open Go.RowKit Go.WideShapes Go.Maps

set_option maxRecDepth 100000 in
set_option maxHeartbeats 4000000 in
theorem bestStock_impl (a : Option Addr) (len cap : Nat) (xs : List Int) (o u : Int) (w : World) (h : IntsAt w (· < w.heap.size) a len xs) :
    Calls Try.prog 18 #[.slice a len cap, .int .i64 o, .int .i64 u] w (valN w (.int .i64 (shareRes xs o u))) := by
  cases hc : chM xs
  · rw [shareRes_no (by rw [okO_eq hc rfl]; rfl)]
    go_enter Try.func18, Try.ntmps18
    go_wp2_with (go_at_call 17; refine (vchI hc _ h).mono ?_; rintro e w' ⟨rfl, rfl⟩)
    go_ret
    exact ⟨rfl, Below.refl _ _⟩
  · cases ho : (inB 0 30 o && inB 0 30 u)
    · rw [shareRes_no (by rw [okO_eq hc ho]; rfl)]
      go_enter Try.func18, Try.ntmps18
      go_wp2_with (first | (go_at_call 17; refine (vchI hc _ h).mono ?_; rintro e w' ⟨rfl, rfl⟩) | (go_at_call 37; refine (areC ho _).mono ?_; rintro e w' ⟨rfl, rfl⟩))
      go_ret
      exact ⟨rfl, Below.refl _ _⟩
    · have hok : okO xs o u = true := by rw [okO_eq hc ho]; rfl
      rw [shareRes_yes hok]
      obtain ⟨_, ho0, ho1, hu0, hu1⟩ := okO_at hok
      have hsl := (share_is hc ho0 hu0).1
      have hl7 := (chM_at hc).2.1
      have HSC := Lib.hid (fun w' (hb : Below w.heap.size w w') (k : Nat) (hk : k ≤ 7) => (show Calls Try.prog 19 #[.slice a len cap, .int .i64 k, .int .i64 o, .int .i64 u] w' (valN w' (.int .i64 (costS xs k o u))) by
        have hh := stockCost_impl a len cap xs (k : Int) o u w' ((h.below hb).to (fun b hb2 => ⟨Nat.lt_of_lt_of_le hb2 hb.size, rfl⟩))
        rwa [stockRes_yes hok hk] at hh))
      have HST := Lib.hid (fun k => best_step (xs := xs) (k := k) hc ho0 hu0)
      have HBD := Lib.hid (fun k (hk : k ≤ 8) => costS_bd hok (s := k) hk)
      obtain ⟨S, hS⟩ : ∃ S, shareN xs o u = S := ⟨_, rfl⟩
      rw [hS] at hsl HST ⊢
      clear hS
      have hS7 : S ≤ 6 := by omega
      clear hsl hl7
      go_enter Try.func18, Try.ntmps18
      go_wp2_with (first | (go_at_call 17; refine (vchI hc _ h).mono ?_; rintro e w' ⟨rfl, rfl⟩) | (go_at_call 37; refine (areC ho _).mono ?_; rintro e w' ⟨rfl, rfl⟩))
      clear h hc ho hok
      go_loopw [7, 18] (fun b i wr => ∃ k : Nat, k ≤ 8 ∧ i = .int .i64 k ∧ b = .int .i64 ((min S (k - 1) : Nat) : Int) ∧ Below w.heap.size w wr) (fun _ i _ => 8 - (intOf i).toNat)
      case atStart => exact ⟨0, by omega, rfl, by simp, Below.refl _ _⟩
      case round =>
        obtain ⟨k, hk, rfl, rfl, hb⟩ := hrel
        have HB := Lib.hid hb
        have hst := HST.out k
        obtain ⟨B, hB⟩ : ∃ B, min S (k - 1) = B := ⟨_, rfl⟩
        have hB7 : B ≤ 7 := by omega
        rw [hB] at hst ⊢
        by_cases hlt : k < 8
        · have hkI : (k : Int) < 8 := by omega
          have b1 := HBD.out k (by omega)
          have b2 := HBD.out B (by omega)
          have C1 := Lib.hid (fun w' hb => HSC.out w' hb k (by omega))
          have C2 := Lib.hid (fun w' hb => HSC.out w' hb B (by omega))
          obtain ⟨x, hx⟩ : ∃ x, costS xs k o u = x := ⟨_, rfl⟩
          obtain ⟨y, hy⟩ : ∃ y, costS xs B o u = y := ⟨_, rfl⟩
          rw [hx, hy] at hst
          rw [hx] at C1 b1
          rw [hy] at C2 b2
          clear hx hy hb
          have HST1 := Lib.hid hst
          clear hst
          go_wp2_with fail
          refine (C1.out _ HB.out).mono ?_
          rintro e w2 ⟨rfl, hb2⟩
          have HB2 := Lib.hid (HB.out.trans (hb2.mono HB.out.size))
          clear hb2
          go_wp2_with fail
          refine (C2.out _ HB2.out).mono ?_
          rintro e w3 ⟨rfl, hb3⟩
          have HB3 := Lib.hid (HB2.out.trans (hb3.mono HB2.out.size))
          clear hb3
          by_cases hxy : x < y
          · go_wp2_with fail
            go_roundw
            case rel => exact ⟨k + 1, by omega, by go_num, by rw [show k + 1 - 1 = k by omega, ← HST1.out, if_pos hxy], HB3.out⟩
            case measure => simp [intOf]; omega
          · go_wp2_with fail
            go_roundw
            case rel => exact ⟨k + 1, by omega, by go_num, by rw [show k + 1 - 1 = k by omega, ← HST1.out, if_neg (by omega)], HB3.out⟩
            case measure => simp [intOf]; omega
        · obtain rfl : k = 8 := by omega
          go_wp2_with fail
          go_ret
          exact ⟨ret_int (by rw [← hB]; omega), HB.out⟩
set_option maxRecDepth 100000 in
set_option maxHeartbeats 4000000 in
theorem stockByShare_impl (a : Option Addr) (len cap : Nat) (xs : List Int) (o u : Int) (w : World) (h : IntsAt w (· < w.heap.size) a len xs) :
    Calls Try.prog 15 #[.slice a len cap, .int .i64 o, .int .i64 u] w (valN w (.int .i64 (shareRes xs o u))) := by
  cases hc : chM xs
  · rw [shareRes_no (by rw [okO_eq hc rfl]; rfl)]
    go_enter Try.func15, Try.ntmps15
    go_wp2_with (go_at_call 17; refine (vchI hc _ h).mono ?_; rintro e w' ⟨rfl, rfl⟩)
    go_ret
    exact ⟨rfl, Below.refl _ _⟩
  · cases ho : (inB 0 30 o && inB 0 30 u)
    · rw [shareRes_no (by rw [okO_eq hc ho]; rfl)]
      go_enter Try.func15, Try.ntmps15
      go_wp2_with (first | (go_at_call 17; refine (vchI hc _ h).mono ?_; rintro e w' ⟨rfl, rfl⟩) | (go_at_call 37; refine (areC ho _).mono ?_; rintro e w' ⟨rfl, rfl⟩))
      go_ret
      exact ⟨rfl, Below.refl _ _⟩
    · have hok : okO xs o u = true := by rw [okO_eq hc ho]; rfl
      rw [shareRes_yes hok]
      obtain ⟨_, ho0, ho1, hu0, hu1⟩ := okO_at hok
      obtain ⟨hl1, hl7, hx9, _⟩ := chM_at hc
      have hle : xs.length = len := h.lenEq
      have HX9 := Lib.hid hx9
      have HTB := Lib.hid (ch_T hc)
      have HML := Lib.hid (fun s (hs : xs.length ≤ s + 1) => met_last (o := o) (u := u) hc ho0 hu0 hs)
      have HSU := Lib.hid (fun r => share_unique (xs := xs) (o := o) (u := u) (r := r))
      have HSM := Lib.hid (fun k => And.intro (sumS_0 (fun k => (hx9 k).1) k) (sumS_le (fun k => (hx9 k).1) k))
      rw [hle] at hl1 hl7
      have HLE := Lib.hid hle
      clear hle hx9
      go_enter Try.func15, Try.ntmps15
      go_wp2_with (first | (go_at_call 17; refine (vchI hc _ h).mono ?_; rintro e w' ⟨rfl, rfl⟩) | (go_at_call 37; refine (areC ho _).mono ?_; rintro e w' ⟨rfl, rfl⟩))
      refine (chancesOf_impl a len cap xs _ h hl7 HX9.out).mono ?_
      rintro e w1 ⟨B, n, D, rfl, hB, hn, hown, hm, hb1⟩
      have HB1 := Lib.hid hb1
      clear hb1 h hc ho hok
      have HDR := Lib.hid (fun k => drop_sum xs k)
      obtain ⟨T, hT⟩ : ∃ T, sumN xs xs.length = T := ⟨_, rfl⟩
      rw [hT] at HTB HDR HSM
      have HT := Lib.hid hT
      have hT1 := HTB.out
      have HS0 := Lib.hid (show sumF (fun v => xs.getD v 0) len = T by rw [← HT.out, HLE.out, sumN_F])
      clear hT
      go_wp2_with fail
      refine (weight_impl B n D _ len _ hown hm (by omega) HX9.out).mono ?_
      rintro e w2 ⟨rfl, hb2⟩
      rw [HS0.out]
      have hown2 := hown.kept (grown_of_belowS hb2) (by simp)
      have HB2 := Lib.hid (HB1.out.trans (hb2.mono HB1.out.size))
      have hBw : w.heap.size ≤ B := hB
      clear hown hb2 hB
      go_wp2_with fail
      go_loopw [9] (fun i wr => ∃ (k : Nat) (D : DataW Unit), k < len ∧ i = .int .i64 k ∧ wr.ownsMap Try.prog 3 (plainElem Try.prog 3) B n D ∧ MapIs D (dropG xs k) len ∧ (∀ j, j < k → metB xs o u j = false) ∧ Below w.heap.size w wr) (fun i _ => 8 - (intOf i).toNat)
      case atStart => exact ⟨0, D, by omega, rfl, hown2, hm.congr (fun v => (drop_0 xs v).symm), fun j hj => absurd hj (by omega), HB2.out⟩
      case round =>
        clear hown2 hm
        obtain ⟨k, D, hk, rfl, hown, hm, hj, hb⟩ := hrel
        have HB := Lib.hid hb
        have HM := Lib.hid ((hm.del k).congr (drop_next xs k))
        have HJ := Lib.hid hj
        clear hb hm hj
        have hm1 := HSM.out (k + 1)
        obtain ⟨m, hmm⟩ : ∃ m, sumN xs (k + 1) = m := ⟨_, rfl⟩
        have HW := Lib.hid (show sumF (dropG xs (k + 1)) len = T - m by have := HDR.out (k + 1); rw [HLE.out, hmm] at this; exact this)
        have HMET := Lib.hid (show metB xs o u k = decide (u * T ≤ m * (o + u)) by unfold metB; rw [HT.out, hmm])
        rw [hmm] at hm1
        clear hmm
        have b1 : 0 ≤ m * (o + u) ∧ m * (o + u) ≤ 63 * 60 := ⟨Int.mul_nonneg hm1.1 (by omega), Int.mul_le_mul (by omega) (by omega) (by omega) (by omega)⟩
        have b2 : 0 ≤ u * T ∧ u * T ≤ 30 * 63 := ⟨Int.mul_nonneg hu0 (by omega), Int.mul_le_mul hu1 (by omega) (by omega) (by omega)⟩
        go_wp2_with (first
          | (at_delete; refine wpList_delete_own _ rfl _ _ 61 3 rfl 3 Try.lawI Try.underCh _ B n _ rfl hown _ _ rfl (keyOf_int_mk Try.underI (WalkArith.wf_i64 (by omega))) ?_; intro w3 hown3 hturn3)
          | fail)
        have hb3 := HB.out.grown hturn3.grown HB.out.size (fun j hj => by cases hj; exact hBw)
        have HB3 := Lib.hid hb3
        clear hb3 hturn3 hown
        refine (weight_impl B n _ _ len _ hown3 HM.out (by omega) (drop_9 HX9.out _)).mono ?_
        rintro e w4 ⟨rfl, hb4⟩
        rw [HW.out]
        have hown4 := hown3.kept (grown_of_belowS hb4) (by simp)
        have HB4 := Lib.hid (HB3.out.trans (hb4.mono HB3.out.size))
        clear hown3 hb4
        have he : T - (T - m) = m := by omega
        by_cases hme : u * T ≤ m * (o + u)
        · have hsh := HSU.out k HJ.out (by rw [HMET.out]; exact decide_eq_true hme) (by omega)
          have HSH := Lib.hid hsh
          clear hsh
          go_wp2_with fail
          go_ret
          exact ⟨ret_int (by rw [HSH.out]), HB4.out⟩
        · have hkl : k + 1 < len := by
            rcases Nat.lt_or_ge (k + 1) len with g | g
            · exact g
            · have := HML.out k (by rw [HLE.out]; exact g)
              rw [HMET.out] at this
              exact absurd (of_decide_eq_true this) hme
          go_wp2_with fail
          go_roundw
          case rel => exact ⟨k + 1, _, hkl, by go_num, hown4, HM.out, fun j hj => by
            rcases Nat.lt_or_ge j k with g | g
            · exact HJ.out j g
            · have : j = k := by omega
              subst this
              rw [HMET.out]; exact decide_eq_false (Int.not_le.2 hme), HB4.out⟩
          case measure => simp [intOf]; omega
end Go.Proofs.Ytkjmpkincaainad
namespace Go.Proofs.Ytkjmpkincaainad
open Go.RowKit Go.WideShapes
theorem validChances_X (a : Option Addr) (len cap : Nat) (xs : List Int) (w : World) (h : IntsAt w (· < w.heap.size) a len xs) :
    Calls Try.prog 17 #[.slice a len cap] w (ValPost w (.bool (chM xs))) :=
  (validChances_impl _ a len cap xs w h).mono fun _ _ h => ⟨h.1, by rw [← h.2]; exact Below.refl _ _⟩
theorem stockByShare_Y (a : Option Addr) (len cap : Nat) (xs : List Int) (o u : Int) (w : World) (h : IntsAt w (· < w.heap.size) a len xs) :
    Calls Try.prog 16 #[.slice a len cap, .int .i64 o, .int .i64 u] w (ValPost w (.int .i64 (shareRes xs o u))) :=
  (stockByShare_spec _ a len cap xs o u w h).mono fun _ _ h => ⟨h.1, by rw [← h.2]; exact Below.refl _ _⟩
end Go.Proofs.Ytkjmpkincaainad
namespace Go.Proofs.Ytkjmpkincaainad
open Go.RowKit Go.WideShapes

def ChPost (w : World) (R p : Nat) (e : Ending) (w' : World) : Prop := ∃ (a : Option Addr) (len cap : Nat) (xs : List Int) (p' : Nat), e = .returned (.slice a len cap) ∧
  w'.ownsRow w.heap.size 3 1 (.slice a len cap) len (xs.map (.int .i64)) ∧ len ≤ cap ∧ len ≤ 8 ∧ Rd w' R p' ∧ p' ≤ p + 100 ∧ w.grownBy w' (some R)
theorem ChPost.mk {w w' : World} {R p p' : Nat} {a : Option Addr} {len cap : Nat} {xs : List Int} (h : w'.ownsRow w.heap.size 3 1 (.slice a len cap) len (xs.map (.int .i64))) (hl : len ≤ 8) (hr : Rd w' R p') (hp : p' ≤ p + 100) (hg : w.grownBy w' (some R)) :
    ChPost w R p (.returned (.slice a len cap)) w' := by
  obtain ⟨a', cap', e, hc⟩ := own_slice h
  simp only [Value.slice.injEq] at e
  obtain ⟨rfl, _, rfl⟩ := e
  exact ⟨_, _, _, xs, p', rfl, h, hc, hl, hr, hp, hg⟩
theorem ch_n {n : Int} (h : n ∈ [4, 5, 3, 7, 2, 1, 0, 8]) : ∃ m : Nat, n = (m : Int) ∧ m ≤ 8 := by simp at h; exact ⟨n.toNat, by omega, by omega⟩
theorem ch_hi {n : Int} (h : n ∈ [4, 9, 1]) : 1 ≤ n ∧ n ≤ 9 := by simp at h; omega
/-- behind the list, made whole: the last choice -/
theorem own_up {w1 w2 w' : World} {a : Option Addr} {n c : Nat} {xs : List Int} {B B' : Nat} (h : w'.ownsRow B 3 1 (.slice a n c) n (xs.map (.int .i64))) (hB : B' ≤ B) : w'.ownsRow B' 3 1 (.slice a n c) n (xs.map (.int .i64)) := own_base h hB
set_option maxRecDepth 100000 in
set_option maxHeartbeats 4000000 in
theorem someChances_any (R p : Nat) (w : World) (h : Rd w R p) (hp : p ≤ 900000) :
    Calls Try.prog 36 #[.pointer (some ⟨R, 0, none⟩)] w (ChPost w R p) := by
  have hR := h.lt
  go_enter Try.func36, Try.ntmps36
  go_wp2_with fail
  refine (one_any (fun k => k = w.heap.size) R p _ 8 8 [4, 5, 3, 7, 2, 1, 0, 8] _ (h.alloc _) (IntsAt.lit rfl rfl rfl (by omega)) (by intro b hb; simp; omega) (by omega) (by omega)).mono ?_
  rintro e w1 ⟨n, hn, rfl, hr1, hg1⟩
  obtain ⟨n, rfl, hn8⟩ := ch_n hn
  clear hn
  have gw1 : w.grownBy w1 (some R) := grown_r (World.grownBy_alloc _ _ _) hg1
  go_wp2_with fail
  refine (one_any (fun k => k = w1.heap.size) R (p + 1) _ 3 3 [4, 9, 1] _ (hr1.alloc _) (IntsAt.lit rfl rfl rfl (by omega)) (by intro b hb; have := hr1.lt; simp; omega) (by omega) (by omega)).mono ?_
  rintro e w2 ⟨hi, hhi, rfl, hr2, hg2⟩
  obtain ⟨hi1, hi9⟩ := ch_hi hhi
  clear hhi
  have gw2 := grown_r gw1 (grown_r (World.grownBy_alloc _ _ _) hg2)
  go_wp2_with fail
  refine (listOf_any R (p + 1 + 1) n 0 hi w2 hr2 (by omega) (by omega) (by omega) (by omega) (by omega)).mono ?_
  rintro e w3 ⟨a5, c5, xs, rfl, ho5, hc5, hl5, hall, hr3, hg3⟩
  have gw3 := grown_r gw2 hg3
  have ho := own_base ho5 gw2.size
  have HO := Lib.hid ho
  have HL := Lib.hid (fun w' (hx : IntsAt w' (· < w'.heap.size) a5 n xs) => specSum_any (· < w'.heap.size) a5 n c5 xs w' hx (fun y hy => by have := hall y hy; omega) (by omega))
  have HLOW := Lib.hid (own_low ho5 (by omega))
  have HR3 := Lib.hid hr3
  have HG3 := Lib.hid gw3
  clear ho5 ho hall hr1 hr2 hr3 hg1 hg2 hg3 gw1 gw2 gw3 h
  obtain ⟨T, hT⟩ : ∃ T, totalM xs = T := ⟨_, rfl⟩
  rw [hT] at HL
  clear hT
  by_cases h0 : 0 < n
  · go_wp2_with fail
    refine (HL.out w3 HLOW.out).mono ?_
    rintro e w4 ⟨rfl, rfl⟩
    by_cases hT0 : T = 0
    · subst hT0
      go_wp2_with fail
      refine (pick_any R (p + 1 + 1 + n) (n : Int) w3 HR3.out (by omega)).mono ?_
      rintro e w5 ⟨q, rfl, hq, hr5, hg5⟩
      have HO5 := Lib.hid (HO.out.kept hg5 (ne_low HO.out hR))
      have gw5 := grown_r HG3.out hg5
      have hqn : q < n := by omega
      obtain ⟨g, v0, rfl, hgB, hc0, hf0⟩ := own_place HO5.out (j := q) hqn
      obtain ⟨h7, g7⟩ := HO5.out.stored q (.int .i64 1)
      have hr7 := hr5.grown g7 (by intro b hb; injection hb; omega)
      have hg7 := grown_trans gw5 g7 (by intro b hb; injection hb; omega)
      have ho7 : World.ownsRow (w5.setCell ⟨g, q, none⟩ (.int .i64 1)) w.heap.size 3 1 (.slice (some ⟨g, 0, none⟩) n c5) n ((xs.set q 1).map (.int .i64)) := by rw [List.map_set]; simpa using h7
      have hr7' : Rd (w5.setCell ⟨g, q, none⟩ (.int .i64 1)) R (p + 1 + 1 + n + 1) := by simpa using hr7
      have hg7' : w.grownBy (w5.setCell ⟨g, q, none⟩ (.int .i64 1)) (some R) := by simpa using hg7
      obtain ⟨w6, hw6⟩ : ∃ w6, w5.setCell ⟨g, q, none⟩ (.int .i64 1) = w6 := ⟨_, rfl⟩
      rw [hw6] at ho7 hr7' hg7'
      have HO7 := Lib.hid ho7
      have HR7 := Lib.hid hr7'
      have HG7 := Lib.hid hg7'
      have HW6 := Lib.hid hw6
      clear h7 g7 hg5 gw5 hr5 hr7 hg7 hr7' hg7' ho7 hw6 HO HO5
      go_wp2_with fail
      rw [HW6.out]
      go_wp2_with fail
      refine (pick_any R (p + 1 + 1 + n + 1) 30 w6 HR7.out (by omega)).mono ?_
      rintro e w8 ⟨q8, rfl, hq8, hr8, hg8⟩
      have HO8 := Lib.hid (HO7.out.kept hg8 (ne_low HO7.out hR))
      have hg9 := grown_r HG7.out hg8
      by_cases hq80 : q8 = 0
      · subst hq80
        go_wp2_with fail
        refine (one_any (fun b => b = w8.heap.size) R (p + 1 + 1 + n + 1 + 1) _ 2 2 [-1, 10] _ (hr8.alloc _) (IntsAt.lit rfl rfl rfl (by omega)) (by intro b hb; have := hr8.lt; simp; omega) (by omega) (by omega)).mono ?_
        rintro e w9 ⟨x, _, rfl, hr9, hg9b⟩
        have hgw : w8.grownBy w9 (some R) := grown_r (World.grownBy_alloc _ _ _) hg9b
        have HO9 := Lib.hid (HO8.out.kept hgw (ne_low HO8.out hR))
        have hg10 := grown_r hg9 hgw
        obtain ⟨g2, v0, e0, hgB, hc0, hf0⟩ := own_place HO9.out (j := 0) h0
        first | (obtain rfl := e0) | (simp only [Option.some.injEq, Addr.mk.injEq, and_true] at e0; subst e0)
        go_wp2
        go_ret
        obtain ⟨h7, g7⟩ := HO9.out.stored 0 (.int .i64 x)
        exact ChPost.mk (xs := (xs.set q 1).set 0 x) (by rw [List.map_set]; exact h7) (by omega) (hr9.grown g7 (by intro b hb; injection hb; omega)) (by omega) (grown_trans hg10 g7 (by intro b hb; injection hb; omega))
      · go_wp2_with fail
        go_ret
        exact ChPost.mk HO8.out (by omega) hr8 (by omega) hg9
    · go_wp2_with fail
      go_wp2_with fail
      refine (pick_any R (p + 1 + 1 + n) 30 w3 HR3.out (by omega)).mono ?_
      rintro e w8 ⟨q8, rfl, hq8, hr8, hg8⟩
      have HO8 := Lib.hid (HO.out.kept hg8 (ne_low HO.out hR))
      have hg9 := grown_r HG3.out hg8
      by_cases hq80 : q8 = 0
      · subst hq80
        go_wp2_with fail
        refine (one_any (fun b => b = w8.heap.size) R (p + 1 + 1 + n + 1) _ 2 2 [-1, 10] _ (hr8.alloc _) (IntsAt.lit rfl rfl rfl (by omega)) (by intro b hb; have := hr8.lt; simp; omega) (by omega) (by omega)).mono ?_
        rintro e w9 ⟨x, _, rfl, hr9, hg9b⟩
        have hgw : w8.grownBy w9 (some R) := grown_r (World.grownBy_alloc _ _ _) hg9b
        have HO9 := Lib.hid (HO8.out.kept hgw (ne_low HO8.out hR))
        have hg10 := grown_r hg9 hgw
        obtain ⟨g2, v0, e0, hgB, hc0, hf0⟩ := own_place HO9.out (j := 0) h0
        first | (obtain rfl := e0) | (simp only [Option.some.injEq, Addr.mk.injEq, and_true] at e0; subst e0)
        go_wp2
        go_ret
        obtain ⟨h7, g7⟩ := HO9.out.stored 0 (.int .i64 x)
        exact ChPost.mk (xs := xs.set 0 x) (by rw [List.map_set]; exact h7) (by omega) (hr9.grown g7 (by intro b hb; injection hb; omega)) (by omega) (grown_trans hg10 g7 (by intro b hb; injection hb; omega))
      · go_wp2_with fail
        go_ret
        exact ChPost.mk HO8.out (by omega) hr8 (by omega) hg9
  · have hn0 : n = 0 := by omega
    subst hn0
    go_wp2_with fail
    go_ret
    exact ChPost.mk HO.out (by omega) HR3.out (by omega) HG3.out
/-- drawn: a list, and numbers in their bounds -/
def DrawnW (w : World) (e : Ending) (w' : World) : Prop := ∃ (a : Option Addr) (len cap : Nat) (xs : List Int), e = .returned (.slice a len cap) ∧ IntsAt w' (· < w'.heap.size) a len xs ∧ len ≤ cap ∧ len ≤ 8 ∧ Below w.heap.size w w'
def DrawnW2 (w : World) (e : Ending) (w' : World) : Prop := ∃ (a : Option Addr) (len cap : Nat) (xs : List Int) (o u : Int), e = .returned (.tuple #[.slice a len cap, .int .i64 o, .int .i64 u]) ∧ IntsAt w' (· < w'.heap.size) a len xs ∧ len ≤ cap ∧ len ≤ 8 ∧ -1 ≤ o ∧ o ≤ 31 ∧ -1 ≤ u ∧ u ≤ 31 ∧ Below w.heap.size w w'
def DrawnW3 (w : World) (e : Ending) (w' : World) : Prop := ∃ (a : Option Addr) (len cap : Nat) (xs : List Int) (s o u : Int), e = .returned (.tuple #[.slice a len cap, .int .i64 s, .int .i64 o, .int .i64 u]) ∧ IntsAt w' (· < w'.heap.size) a len xs ∧ len ≤ cap ∧ len ≤ 8 ∧ -1 ≤ s ∧ s ≤ 31 ∧ -1 ≤ o ∧ o ≤ 31 ∧ -1 ≤ u ∧ u ≤ 31 ∧ Below w.heap.size w w'
set_option maxRecDepth 100000 in
set_option maxHeartbeats 2000000 in
theorem dDrawStockByShare_any (a : Option Addr) (len cap : Nat) (w : World) (hb : BytesAt w w.heap.size a len) (hl : len ≤ cap) (hs : len ≤ 9223372036854775807) :
    Calls Try.prog 14 #[.slice a len cap] w (DrawnW2 w) := by
  go_enter Try.func14, Try.ntmps14
  go_wp2_with fail
  refine (newReader_any a len cap w hb hl hs).mono ?_
  rintro e w1 ⟨rfl, hr, hb1⟩
  go_wp2_with fail
  refine (someChances_any w.heap.size 0 w1 hr (by omega)).mono ?_
  rintro e w2 ⟨a2, l2, c2, xs, p2, rfl, h1, h2, h8, hr2, hp2, hg⟩
  have hlt := hr.lt
  have x2 := lat_own h1 hlt (by omega)
  go_wp2_with fail
  refine (one_any (fun b => b = w2.heap.size) w.heap.size (p2) _ 5 5 [1, 3, 0, 30, 31] _ (hr2.alloc _) (IntsAt.lit rfl rfl rfl (by omega)) (by intro b hb; have := hr2.lt; simp; omega) (by omega) (by omega)).mono ?_
  rintro e w3 ⟨y2, hy2, rfl, hr3, hg3⟩
  have by2 : -1 ≤ y2 ∧ y2 ≤ 31 := by simp at hy2; omega
  clear hy2
  have hg3 := grown_r (World.grownBy_alloc w2 _ _) hg3
  go_wp2_with fail
  refine (one_any (fun b => b = w3.heap.size) w.heap.size (p2 + 1) _ 5 5 [4, 2, 0, 10, -1] _ (hr3.alloc _) (IntsAt.lit rfl rfl rfl (by omega)) (by intro b hb; have := hr3.lt; simp; omega) (by omega) (by omega)).mono ?_
  rintro e w4 ⟨y3, hy3, rfl, hr4, hg4⟩
  have by3 : -1 ≤ y3 ∧ y3 ≤ 31 := by simp at hy3; omega
  clear hy3
  have hg4 := grown_r (World.grownBy_alloc w3 _ _) hg4
  have hg4 := grown_r hg3 hg4
  have x9 := (x2.step hg4).low
  have hbb : Below w.heap.size w w4 := grown_below (grown_r hg hg4) hb1 hb1.size
  go_wp2
  go_ret3
  exact ⟨_, _, _, xs, y2, y3, rfl, x9, h2, h8, by2.1, by2.2, by3.1, by3.2, hbb⟩
end Go.Proofs.Ytkjmpkincaainad
namespace Go.Proofs.Ytkjmpkincaainad
open Go.RowKit Go.WideShapes

theorem Try.infoIntN : (Try.prog.info? 3).map (fun i => (i.zero, i.size, i.bytes)) = some (some (.int .i64 0), 1, 8) := by kernel_rfl

/-- what NetOf answers -/
def netRes (xs : List Int) (s : Int) : List Int := if (validDaysM xs && inB 0 20 s) = true then netM xs s else []
theorem netRes_len (xs : List Int) (s : Int) : (netRes xs s).length ≤ 1048576 := by
  unfold netRes
  split
  · rename_i h; simp only [Bool.and_eq_true] at h; have := validDays_len h.1; rw [netM_length]; omega
  · simp
theorem netRes_no {xs : List Int} {s : Int} (h : (validDaysM xs && inB 0 20 s) = false) : netRes xs s = [] := by unfold netRes; rw [h]; rfl
theorem netRes_yes {xs : List Int} {s : Int} (h : (validDaysM xs && inB 0 20 s) = true) : netRes xs s = netM xs s := by unfold netRes; rw [h]; rfl
theorem inB_of {lo hi x : Int} (h : inB lo hi x = true) : lo ≤ x ∧ x ≤ hi := by simpa [inB] using h

end Go.Proofs.Ytkjmpkincaainad
