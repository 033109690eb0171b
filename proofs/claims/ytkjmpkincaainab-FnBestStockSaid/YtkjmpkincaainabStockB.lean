import Derived.Test.YtkjmpkincaainabRows
import Derived.WalkKit
import Derived.LoopTactic
import Derived.Outline
import Derived.WalkSpells
import Derived.WalkLawsBesides
import Derived.ProofKit
import Derived.Lib.Hide
import Derived.IntWalk
import Derived.Carry
import Derived.Maps.RangeWalk
import Derived.Test.YtkjmpkincaainabLib
import Derived.Test.YtkjmpkincaainabArr
import Derived.Test.YtkjmpkincaainabGen
import Derived.Test.YtkjmpkincaainabUp
import Derived.Test.YtkjmpkincaainabLots
import Derived.Test.YtkjmpkincaainabTokA
import Derived.Test.YtkjmpkincaainabLotA
import Derived.Test.YtkjmpkincaainabNetM
import Derived.Test.YtkjmpkincaainabStockM
import Derived.Test.YtkjmpkincaainabStockMap
import Derived.Test.YtkjmpkincaainabStockT
import Derived.Test.YtkjmpkincaainabStockA
namespace Go.Proofs.Ytkjmpkincaainab
open Go.RowKit Go.WideShapes Go.Maps

theorem areC {o u : Int} {b : Bool} (h : (inB 0 30 o && inB 0 30 u) = b) (w : World) : Calls Try.prog 19 #[.int .i64 o, .int .i64 u] w fun e w' => e = .returned (.bool b) ∧ w = w' := by
  subst h; exact areCosts_any o u w
theorem vchI {S : Nat → Prop} {a : Option Addr} {len cap : Nat} {xs : List Int} {b : Bool} (hb : chM xs = b) (w : World) (h : IntsAt w S a len xs) : Calls Try.prog 18 #[.slice a len cap] w fun e w' => e = .returned (.bool b) ∧ w = w' := by
  subst hb; exact validChances_impl S a len cap xs w h
theorem okO_eq {xs : List Int} {o u : Int} {b c : Bool} (h : chM xs = b) (h2 : (inB 0 30 o && inB 0 30 u) = c) : okO xs o u = (b && c) := by
  unfold okO; rw [Bool.and_assoc, h2, h]
theorem from1S {n hi : Int} {b : Bool} (hb : inB 1 hi n = b) (w : World) : Calls Try.prog 29 #[.int .i64 n, .int .i64 hi] w fun e w' => e = .returned (.bool b) ∧ w = w' := (fromOne10 n hi w hb).mono fun _ _ h => ⟨h.1, h.2.symm⟩
set_option maxRecDepth 100000 in
set_option maxHeartbeats 4000000 in
theorem stockCost_impl (a : Option Addr) (len cap : Nat) (xs : List Int) (s o u : Int) (w : World) (h : IntsAt w (· < w.heap.size) a len xs) :
    Calls Try.prog 12 #[.slice a len cap, .int .i64 s, .int .i64 o, .int .i64 u] w (valN w (.int .i64 (stockRes xs s o u))) := by
  cases hc : chM xs
  · rw [stockRes_no (.inl (by rw [okO_eq hc rfl]; rfl))]
    go_enter Try.func12, Try.ntmps12
    go_wp2_with (go_at_call 18; refine (vchI hc _ h).mono ?_; rintro e w' ⟨rfl, rfl⟩)
    go_ret
    exact ⟨rfl, Below.refl _ _⟩
  · cases hs : inB 0 7 s
    · rw [stockRes_no (.inr hs)]
      go_enter Try.func12, Try.ntmps12
      go_wp2_with (first | (go_at_call 18; refine (vchI hc _ h).mono ?_; rintro e w' ⟨rfl, rfl⟩) | (go_at_call 23; refine (isUp8 _ _ _ hs).mono ?_; rintro e w' ⟨rfl, rfl⟩))
      go_ret
      exact ⟨rfl, Below.refl _ _⟩
    · cases ho : (inB 0 30 o && inB 0 30 u)
      · rw [stockRes_no (.inl (by rw [okO_eq hc ho]; rfl))]
        go_enter Try.func12, Try.ntmps12
        go_wp2_with (first | (go_at_call 18; refine (vchI hc _ h).mono ?_; rintro e w' ⟨rfl, rfl⟩) | (go_at_call 23; refine (isUp8 _ _ _ hs).mono ?_; rintro e w' ⟨rfl, rfl⟩) | (go_at_call 19; refine (areC ho _).mono ?_; rintro e w' ⟨rfl, rfl⟩))
        go_ret
        exact ⟨rfl, Below.refl _ _⟩
      · have hok : okO xs o u = true := by rw [okO_eq hc ho]; rfl
        obtain ⟨s, rfl, hs7⟩ : ∃ n : Nat, s = (n : Int) ∧ n ≤ 7 := by simp [inB] at hs; exact ⟨s.toNat, by omega, by omega⟩
        rw [stockRes_yes hok hs7]
        obtain ⟨_, ho0, ho1, hu0, hu1⟩ := okO_at hok
        obtain ⟨hl1, hl7, hx9, _⟩ := chM_at hc
        have hle : xs.length = len := h.lenEq
        have HX9 := Lib.hid hx9
        clear hx9
        have HCO := Lib.hid (show costS xs s o u = sumF (fun v => xs.getD v 0 * unitC s v o u) len by unfold costS; rw [costK_F, hle])
        rw [hle] at hl1 hl7
        clear hle
        go_enter Try.func12, Try.ntmps12
        go_wp2_with (first | (go_at_call 18; refine (vchI hc _ h).mono ?_; rintro e w' ⟨rfl, rfl⟩) | (go_at_call 23; refine (isUp8 _ _ _ hs).mono ?_; rintro e w' ⟨rfl, rfl⟩) | (go_at_call 19; refine (areC ho _).mono ?_; rintro e w' ⟨rfl, rfl⟩))
        refine (chancesOf_impl a len cap xs _ h hl7 HX9.out).mono ?_
        rintro e w1 ⟨B, n, D, rfl, hB, hn, hown, hm, hb1⟩
        have HM := Lib.hid hm
        have HB1 := Lib.hid hb1
        clear hm hb1 h hc hs ho hok
        go_wp2_with (first
          | (at_range; refine wpList_range_own _ rfl _ 39 rfl 3 3 Try.lawI Try.underCh _ B n _ rfl hown ?_; intro w0 hrg0 hg0 hs0)
          | fail)
        go_frame
        go_loopw [9] (fun i wr => ∃ (left : Lit → Bool) (cnt : Nat), i = .int .i64 (cameF (fun v => xs.getD v 0 * unitC s v o u) left len) ∧ (∀ kl, left kl = true → has D kl = true) ∧ wr.ranges Try.prog 3 (plainElem Try.prog 3) B w1.heap.size n D left cnt ∧ Below w1.heap.size w1 wr) (fun _ wr => wr.rangeLeft B w1.heap.size)
        case atStart =>
          refine ⟨_, _, ?_, fun _ h => h, hrg0, ⟨hg0.os, hg0.tape, hg0.output, hg0.size, fun k hk => hg0.block k hk (by simp)⟩⟩
          rw [came_start (fun v hv hh => ?_)]
          rw [HM.out.2.1 v hv] at hh
          have h1 : ¬ 0 < xs.getD v 0 := of_decide_eq_false hh
          have h2 := HX9.out v
          have h3 : xs.getD v 0 = 0 := by omega
          rw [h3, Int.zero_mul]
        case round =>
          clear hrg0 hg0 hs0 hown
          obtain ⟨left, cnt, rfl, hle, hrg, hnx⟩ := hrel
          have HNX := Lib.hid hnx
          have HLE := Lib.hid hle
          have hcb := came_bd (f := fun v => xs.getD v 0 * unitC s v o u) (left := left) (B := 4320) (K := len) (by omega) (fun v hv => termC_bd (HX9.out v) (unit_bd ⟨ho0, ho1⟩ ⟨hu0, hu1⟩ (by omega) (by omega)))
          clear hnx hle
          obtain ⟨c, hc⟩ : ∃ c, cameF (fun v => xs.getD v 0 * unitC s v o u) left len = c := ⟨_, rfl⟩
          rw [hc] at hcb ⊢
          have HC := Lib.hid hc
          clear hc
          have hc0 : 0 ≤ c := hcb.1
          have hc1 : c ≤ 40000 := by omega
          clear hcb
          go_wp2_with (first
            | (at_next; refine wpList_next_ranges_ii _ rfl _ rfl 3 3 .i64 .i64 Try.lawI Try.underI Try.underI B w1.heap.size n _ _ _ rfl hrg ?_ ?_)
            | fail)
          · intro _ hl0
            go_wp2_with fail
            go_ret
            exact ⟨ret_int (by rw [HCO.out, ← HC.out, came_end hl0]), HB1.out.trans (HNX.out.mono HB1.out.size)⟩
          · intro x y w2 cnt1 hwx hwc hlx hat hrg1 hlt hg1 hs1 hen
            obtain ⟨v, hv, rfl, rfl, hp⟩ := HM.out.came HLE.out hlx hat
            have hnx1 := HNX.out.grown hg1 HNX.out.size (fun j hj => by cases hj; exact Nat.le_refl _)
            have HST := Lib.hid (came_step (f := fun v => xs.getD v 0 * unitC s v o u) hlx hv)
            have HN1 := Lib.hid hnx1
            have hx9 := HX9.out v
            clear hnx1 hat
            obtain ⟨d1, e1⟩ : ∃ d1 : Int, ((s - v : Nat) : Int) = d1 := ⟨_, rfl⟩
            obtain ⟨d2, e2⟩ : ∃ d2 : Int, ((v - s : Nat) : Int) = d2 := ⟨_, rfl⟩
            have hF : xs.getD v 0 * unitC s v o u = xs.getD v 0 * (o * d1 + u * d2) := by unfold unitC; rw [e1, e2]
            have hb := termC_bd hx9 (unit_bd (s := s) (v := v) ⟨ho0, ho1⟩ ⟨hu0, hu1⟩ (by omega) (by omega))
            rw [hF] at hb
            have HFF := Lib.hid hF
            clear hF
            have b1 : 0 ≤ o * d1 ∧ o * d1 ≤ 30 * 8 := ⟨Int.mul_nonneg ho0 (by omega), Int.mul_le_mul ho1 (by omega) (by omega) (by omega)⟩
            have b2 : 0 ≤ u * d2 ∧ u * d2 ≤ 30 * 8 := ⟨Int.mul_nonneg hu0 (by omega), Int.mul_le_mul hu1 (by omega) (by omega) (by omega)⟩
            have m1 : (if v < s then (s : Int) - (v : Int) else 0) = d1 := by split <;> omega
            have n1 : (if s < v then (v : Int) - (s : Int) else 0) = d2 := by split <;> omega
            clear e1 e2
            obtain ⟨g, hg⟩ : ∃ g, xs.getD v 0 = g := ⟨_, rfl⟩
            rw [hg] at hb hx9 hp hwc hen HFF ⊢
            have HG := Lib.hid hg
            clear hg hwx hwc
            go_wp2_with fail
            go_roundw
            case rel => exact ⟨_, _, by rw [HST.out, HC.out]; show _ = Value.int .i64 (c + (xs.getD v 0 * unitC s v o u)); rw [HG.out, HFF.out], strike_le HLE.out _, hrg1, HN1.out⟩
            case measure => rw [hrg1.left_eq, hrg.left_eq]; exact hlt
end Go.Proofs.Ytkjmpkincaainab
