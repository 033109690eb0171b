import Derived.Test.YtkjmpkincaainacRows
import Derived.WalkKit
import Derived.LoopTactic
import Derived.Outline
import Derived.WalkSpells
import Derived.WalkLawsBesides
import Derived.ProofKit
import Derived.Lib.Hide
import Derived.IntWalk
import Derived.Test.YtkjmpkincaainacM0
import Derived.Test.YtkjmpkincaainacM1
import Derived.Test.YtkjmpkincaainacM2
import Derived.Test.YtkjmpkincaainacM3
import Derived.Test.YtkjmpkincaainacM4
import Derived.Test.YtkjmpkincaainacM6
import Derived.Test.YtkjmpkincaainacM10
import Derived.Test.YtkjmpkincaainacM11
import Derived.Test.YtkjmpkincaainacM12
import Derived.Deep.QuietTactic
import Derived.BigQuiet
import Derived.Test.YtkjmpkincaainacM9
import Derived.Test.YtkjmpkincaainacM5
import Derived.Laws.StructEq
namespace Go.Proofs.Ytkjmpkincaainac
open Go.RowKit Go.WideShapes

def upN (xs : List Int) (p f : Int) (a : Nat) : Nat → Int
  | 0 => 0
  | k + 1 => upN xs p f a k + xs.getD k 0 * (if k + 1 ≤ a then f else p)
theorem upN_is (xs : List Int) (p f : Int) (a : Nat) : ∀ k, upN xs p f a k = f * sumN xs (min a k) + p * (sumN xs k - sumN xs (min a k))
  | 0 => by simp [upN, sumN]
  | k + 1 => by
    rw [upN, upN_is xs p f a k, sumN]
    rcases Nat.lt_or_ge k a with h | h
    · rw [if_pos (by omega), Nat.min_eq_right (show k ≤ a by omega), Nat.min_eq_right (show k + 1 ≤ a by omega), sumN, Int.mul_add, Int.mul_comm f (xs.getD k 0)]
      rw [Int.sub_self, Int.sub_self, Int.mul_zero]
      omega
    · rw [if_neg (by omega), Nat.min_eq_left (show a ≤ k by omega), Nat.min_eq_left (show a ≤ k + 1 by omega), show sumN xs k + xs.getD k 0 - sumN xs a = (sumN xs k - sumN xs a) + xs.getD k 0 by omega, Int.mul_add p, Int.mul_comm p (xs.getD k 0)]
      omega
theorem upN_end (xs : List Int) (p f : Int) (a : Nat) : upN xs p f a xs.length = costA xs p f a := by
  rw [upN_is]
  unfold costA
  have e : sumN xs (min a xs.length) = sumN xs a := by
    rcases Nat.lt_or_ge a xs.length with h | h
    · rw [Nat.min_eq_left (by omega)]
    · rw [Nat.min_eq_right h, sumN_past xs h]
  rw [e]
theorem upN_bd {xs : List Int} {p f : Int} {a : Nat} (hx : ∀ k, 0 ≤ xs.getD k 0 ∧ xs.getD k 0 ≤ 9) (hp : 0 ≤ p ∧ p ≤ 30) (hf : 0 ≤ f ∧ f ≤ 30) : ∀ k : Nat, 0 ≤ upN xs p f a k ∧ upN xs p f a k ≤ 270 * (k : Int)
  | 0 => by simp [upN]
  | k + 1 => by
    have ih := upN_bd (a := a) hx hp hf k
    have h1 := hx k
    have b : 0 ≤ xs.getD k 0 * (if k + 1 ≤ a then f else p) ∧ xs.getD k 0 * (if k + 1 ≤ a then f else p) ≤ 9 * 30 := by
      split
      · exact ⟨Int.mul_nonneg h1.1 hf.1, Int.mul_le_mul h1.2 hf.2 hf.1 (by omega)⟩
      · exact ⟨Int.mul_nonneg h1.1 hp.1, Int.mul_le_mul h1.2 hp.2 hp.1 (by omega)⟩
    rw [upN]; push_cast; omega
theorem liveN_bd {xs : List Int} {a : Nat} (hx : ∀ k, 0 ≤ xs.getD k 0 ∧ xs.getD k 0 ≤ 9) (ha : a ≤ 7) : ∀ k : Nat, 0 ≤ liveN xs a k ∧ liveN xs a k ≤ 63 * (k : Int)
  | 0 => by simp [liveN]
  | k + 1 => by
    have ih := liveN_bd (a := a) hx ha k
    have h1 := hx k
    have b : 0 ≤ xs.getD k 0 * ((min (k + 1) a : Nat) : Int) ∧ xs.getD k 0 * ((min (k + 1) a : Nat) : Int) ≤ 9 * 7 := ⟨Int.mul_nonneg h1.1 (by omega), Int.mul_le_mul h1.2 (by omega) (by omega) (by omega)⟩
    rw [liveN]; push_cast; omega
set_option maxRecDepth 100000 in
set_option maxHeartbeats 2000000 in
theorem rate_any (a : Option Addr) (len cap : Nat) (xs : List Int) (age : Nat) (p f : Int) (w : World) (h : IntsAt w (· < w.heap.size) a len xs) (hok : okO xs p f = true) (ha1 : 1 ≤ age) (ha7 : age ≤ 7) :
    Calls Try.prog 21 #[.slice a len cap, .int .i64 age, .int .i64 p, .int .i64 f] w (FracP w (rateU xs age p f) (rateD xs age p f)) := by
  have ht1 := two_new w (.int .i64 0) (.int .i64 0) 24
  have hb1 := below_alloc w (.cells #[.int .i64 0, .int .i64 0] 24)
  obtain ⟨w1, hw1⟩ : ∃ w1, (w.alloc (.cells #[.int .i64 0, .int .i64 0] 24)) = w1 := ⟨_, rfl⟩
  rw [hw1] at ht1 hb1
  have h1 : IntsAt w1 (· < w.heap.size) a len xs := h.below hb1
  have hsm := h.small
  have HLE := Lib.hid h.lenEq
  have HW1 := Lib.hid hw1
  have HT1 := Lib.hid ht1
  have HB1 := Lib.hid hb1
  clear hw1 ht1 hb1 h
  have HEND := Lib.hid (fun w' (h : Below w1.heap.size w1 w') (U D : Nat) => And.intro ((((HT1.out.lift h).set0 (.int .i64 U)).set1 (.int .i64 D))) (((HB1.out.trans (h.mono HB1.out.size)).setCell (p := ⟨w.heap.size, 0, none⟩) (Nat.le_refl _) (.int .i64 U)).setCell (p := ⟨w.heap.size, 1, none⟩) (Nat.le_refl _) (.int .i64 D)))
  obtain ⟨_, e1, e2⟩ := rate_yes hok ha1 ha7
  rw [e1, e2]
  clear e1 e2
  obtain ⟨hc, hp0, hp1, hf0, hf1⟩ := okO_at hok
  obtain ⟨hl1, hl7, hx9, _⟩ := chM_at hc
  have HX9 := Lib.hid hx9
  have HUB := Lib.hid (fun k => upN_bd (a := age) hx9 ⟨hp0, hp1⟩ ⟨hf0, hf1⟩ k)
  have HLB := Lib.hid (fun k => liveN_bd (a := age) hx9 ha7 k)
  have hUU := ageU_is hok age
  have hDD := ageD_is hc age
  have hD1 := ageD_pos hc ha1
  rw [← upN_end] at hUU
  rw [← live_time] at hDD
  rw [HLE.out] at hl1 hl7 hUU hDD
  obtain ⟨U, hU⟩ : ∃ U, ageU xs p f age = U := ⟨_, rfl⟩
  obtain ⟨D, hD⟩ : ∃ D, ageD xs age = D := ⟨_, rfl⟩
  rw [hU] at hUU ⊢
  rw [hD] at hDD hD1 ⊢
  have HUU := Lib.hid hUU.1
  have HDD := Lib.hid hDD.1
  have hU2 := hUU.2
  have hD2 := hDD.2
  have HFR := Lib.hid (frac_any U D (by omega) hD1 (by omega))
  clear hU hD hUU hDD hx9 hc hok
  go_enter Try.func21, Try.ntmps21
  go_wp2_with fail
  rw [HW1.out]
  go_loop [9, 10, 11] (fun u d i => ∃ k : Nat, k ≤ len ∧ i = .int .i64 k ∧ u = .int .i64 (upN xs p f age k) ∧ d = .int .i64 (liveN xs age k)) (fun _ _ i => len - (intOf i).toNat)
  case atStart => exact ⟨0, Nat.zero_le _, rfl, rfl, rfl⟩
  case round =>
    obtain ⟨k, hk, rfl, rfl, rfl⟩ := hrel
    have hub := HUB.out k
    have hlb := HLB.out k
    by_cases hlt : k < len
    · have hkI : (k : Int) < (len : Int) := by omega
      obtain ⟨b, off, x, rfl, hx, hcx⟩ := h1.get hlt
      have hxe : xs.getD k 0 = x := getD_of hx
      have hx9 := HX9.out k
      rw [hxe] at hx9
      have HU1 := Lib.hid (show upN xs p f age (k + 1) = upN xs p f age k + x * (if k + 1 ≤ age then f else p) by rw [upN, hxe])
      have HL1 := Lib.hid (show liveN xs age (k + 1) = liveN xs age k + x * ((min (k + 1) age : Nat) : Int) by rw [liveN, hxe])
      clear hx hxe
      obtain ⟨t, ht⟩ : ∃ t, upN xs p f age k = t := ⟨_, rfl⟩
      obtain ⟨d, hd⟩ : ∃ d, liveN xs age k = d := ⟨_, rfl⟩
      rw [ht] at HU1 hub ⊢
      rw [hd] at HL1 hlb ⊢
      clear ht hd
      by_cases hka : k + 1 ≤ age
      · have hkaI : (k : Int) + 1 ≤ (age : Int) := by omega
        have b1 : 0 ≤ x * f ∧ x * f ≤ 9 * 30 := ⟨Int.mul_nonneg hx9.1 hf0, Int.mul_le_mul hx9.2 hf1 hf0 (by omega)⟩
        have b2 : 0 ≤ x * ((k : Int) + 1) ∧ x * ((k : Int) + 1) ≤ 9 * 7 := ⟨Int.mul_nonneg hx9.1 (by omega), Int.mul_le_mul hx9.2 (by omega) (by omega) (by omega)⟩
        rw [if_pos hka] at HU1
        rw [Nat.min_eq_left hka, show ((k + 1 : Nat) : Int) = (k : Int) + 1 by omega] at HL1
        go_wp2_with fail
        go_round
        case rel => exact ⟨k + 1, by omega, by go_num, by rw [HU1.out], by rw [HL1.out]⟩
        case measure => simp [intOf]; omega
      · have hkaI : ¬ (k : Int) + 1 ≤ (age : Int) := by omega
        have b1 : 0 ≤ x * p ∧ x * p ≤ 9 * 30 := ⟨Int.mul_nonneg hx9.1 hp0, Int.mul_le_mul hx9.2 hp1 hp0 (by omega)⟩
        have b2 : 0 ≤ x * (age : Int) ∧ x * (age : Int) ≤ 9 * 7 := ⟨Int.mul_nonneg hx9.1 (by omega), Int.mul_le_mul hx9.2 (by omega) (by omega) (by omega)⟩
        rw [if_neg hka] at HU1
        rw [Nat.min_eq_right (by omega)] at HL1
        go_wp2_with fail
        go_round
        case rel => exact ⟨k + 1, by omega, by go_num, by rw [HU1.out], by rw [HL1.out]⟩
        case measure => simp [intOf]; omega
    · obtain rfl : k = len := by omega
      have hkI : ¬ (k : Int) < (k : Int) := by omega
      rw [← HUU.out, ← HDD.out]
      clear hub hlb
      go_wp2_with fail
      refine (HFR.out _).mono ?_
      rintro e w5 ⟨rfl, hb5⟩
      have HB5 := Lib.hid hb5
      clear hb5
      have HE := Lib.hid (HEND.out w5 HB5.out (fU U D) (fD U D))
      obtain ⟨⟨r0, z0⟩, r1, z1⟩ := HT1.out.lift HB5.out
      go_wp2_with fail
      have v0 := HE.out.1.1.1
      have v1 := HE.out.1.2.1
      exact bodyPost_ret (v := .agg #[.int .i64 (fU U D : Nat), .int .i64 (fD U D : Nat)]) (by simp [results, Try.results21, go_sem, v0, v1]) rfl ⟨rfl, HE.out.2⟩
set_option maxRecDepth 100000 in
set_option maxHeartbeats 2000000 in
theorem ageRate_spec (a : Option Addr) (len cap : Nat) (xs : List Int) (age p f : Int) (w : World) (h : IntsAt w (· < w.heap.size) a len xs) :
    Calls Try.prog 7 #[.slice a len cap, .int .i64 age, .int .i64 p, .int .i64 f] w (FracBP w (rateU xs age p f) (rateD xs age p f) (rateFine xs age p f)) := by
  have ht1 := two_new w (.int .i64 0) (.int .i64 0) 24
  have hb1 := below_alloc w (.cells #[.int .i64 0, .int .i64 0] 24)
  obtain ⟨w1, hw1⟩ : ∃ w1, (w.alloc (.cells #[.int .i64 0, .int .i64 0] 24)) = w1 := ⟨_, rfl⟩
  rw [hw1] at ht1 hb1
  have h1 : IntsAt w1 (· < w1.heap.size) a len xs := (h.below hb1).to (fun b hb2 => ⟨Nat.lt_of_lt_of_le hb2 hb1.size, rfl⟩)
  have HW1 := Lib.hid hw1
  have HT1 := Lib.hid ht1
  have HB1 := Lib.hid hb1
  clear hw1 ht1 hb1
  have HEND := Lib.hid (fun w' (h : Below w1.heap.size w1 w') (U D : Nat) => And.intro ((((HT1.out.lift h).set0 (.int .i64 U)).set1 (.int .i64 D))) (((HB1.out.trans (h.mono HB1.out.size)).setCell (p := ⟨w.heap.size, 0, none⟩) (Nat.le_refl _) (.int .i64 U)).setCell (p := ⟨w.heap.size, 1, none⟩) (Nat.le_refl _) (.int .i64 D)))
  have HEND0 := Lib.hid (HEND.out w1 (Below.refl _ _) 0 0)
  clear h
  cases hok : okO xs p f
  · have hr : rateFine xs age p f = false := by unfold rateFine; rw [hok]; rfl
    obtain ⟨e1, e2⟩ := rate_no (xs := xs) (a := age) (p := p) (f := f) hr
    rw [hr, e1, e2]
    clear hr e1 e2
    obtain ⟨⟨r0, z0⟩, r1, z1⟩ := HT1.out
    go_enter Try.func7, Try.ntmps7
    go_wp2_with fail
    rw [HW1.out]
    go_wp2_with (first | (go_at_call 19; refine (vov hok _ h1).mono ?_; rintro e w' ⟨rfl, rfl⟩) | fail)
    have v0 := HEND0.out.1.1.1
    have v1 := HEND0.out.1.2.1
    exact bodyPost_ret (v := .tuple #[.agg #[.int .i64 0, .int .i64 0], .bool false]) (by simp [results, Try.results7, go_sem] at v0 v1 ⊢; simp [go_sem, v0, v1]) rfl ⟨rfl, HEND0.out.2⟩
  · cases ha : inB 1 7 age
    · have hr : rateFine xs age p f = false := by unfold rateFine; rw [ha]; simp
      obtain ⟨e1, e2⟩ := rate_no (xs := xs) (a := age) (p := p) (f := f) hr
      rw [hr, e1, e2]
      clear hr e1 e2
      obtain ⟨⟨r0, z0⟩, r1, z1⟩ := HT1.out
      go_enter Try.func7, Try.ntmps7
      go_wp2_with fail
      rw [HW1.out]
      go_wp2_with (first | (go_at_call 19; refine (vov hok _ h1).mono ?_; rintro e w' ⟨rfl, rfl⟩) | (go_at_call 20; refine (inRS ha _).mono ?_; rintro e w' ⟨rfl, rfl⟩) | fail)
      have v0 := HEND0.out.1.1.1
      have v1 := HEND0.out.1.2.1
      exact bodyPost_ret (v := .tuple #[.agg #[.int .i64 0, .int .i64 0], .bool false]) (by simp [results, Try.results7, go_sem] at v0 v1 ⊢; simp [go_sem, v0, v1]) rfl ⟨rfl, HEND0.out.2⟩
    · obtain ⟨age, rfl, ha1, ha7⟩ : ∃ n : Nat, age = (n : Int) ∧ 1 ≤ n ∧ n ≤ 7 := by simp [inB] at ha; exact ⟨age.toNat, by omega, by omega, by omega⟩
      rw [(rate_yes hok ha1 ha7).1]
      have HRA := Lib.hid (rate_any a len cap xs age p f w1 h1 hok ha1 ha7)
      obtain ⟨U, hU⟩ : ∃ U, rateU xs age p f = U := ⟨_, rfl⟩
      obtain ⟨D, hD⟩ : ∃ D, rateD xs age p f = D := ⟨_, rfl⟩
      rw [hU, hD] at HRA ⊢
      clear hU hD
      go_enter Try.func7, Try.ntmps7
      go_wp2_with fail
      rw [HW1.out]
      go_wp2_with (first | (go_at_call 19; refine (vov hok _ h1).mono ?_; rintro e w' ⟨rfl, rfl⟩) | (go_at_call 20; refine (inRS ha _).mono ?_; rintro e w' ⟨rfl, rfl⟩) | fail)
      refine HRA.out.mono ?_
      rintro e w5 ⟨rfl, hb5⟩
      have HB5 := Lib.hid hb5
      clear hb5
      have HE := Lib.hid (HEND.out w5 HB5.out U D)
      obtain ⟨⟨r0, z0⟩, r1, z1⟩ := HT1.out.lift HB5.out
      go_wp2_with fail
      have v0 := HE.out.1.1.1
      have v1 := HE.out.1.2.1
      exact bodyPost_ret (v := .tuple #[.agg #[.int .i64 U, .int .i64 D], .bool true]) (by simp [results, Try.results7, go_sem, v0, v1]) rfl ⟨rfl, HE.out.2⟩
theorem bestA_less {xs : List Int} {p f : Int} (h : okO xs p f = true) {k : Nat} (hk : k + 2 ≤ 7) :
    bestA xs p f (k + 1) = if (rateU xs ((k + 2 : Nat) : Int) p f : Int) * (rateD xs (bestA xs p f k) p f : Int) < (rateU xs (bestA xs p f k) p f : Int) * (rateD xs ((k + 2 : Nat) : Int) p f : Int) then k + 2 else bestA xs p f k := by
  rw [bestA_next h hk]
  split
  · rw [if_neg (by omega)]
  · rw [if_pos (by omega)]
set_option maxRecDepth 100000 in
set_option maxHeartbeats 4000000 in
theorem bestAge_spec (a : Option Addr) (len cap : Nat) (xs : List Int) (p f : Int) (w : World) (h : IntsAt w (· < w.heap.size) a len xs) :
    Calls Try.prog 15 #[.slice a len cap, .int .i64 p, .int .i64 f] w (valN w (.int .i64 (bestARes xs p f))) := by
  cases hok : okO xs p f
  · rw [bestARes_no hok]
    go_enter Try.func15, Try.ntmps15
    go_wp2_with (first | (go_at_call 19; refine (vov hok _ h).mono ?_; rintro e w' ⟨rfl, rfl⟩) | fail)
    go_ret
    exact ⟨rfl, Below.refl _ _⟩
  · rw [bestARes_yes hok]
    have HAR := Lib.hid (fun w' (hb : Below w.heap.size w w') (age : Nat) (h1 : 1 ≤ age) (h7 : age ≤ 7) => rate_any a len cap xs age p f w' ((h.below hb).to (fun b hb2 => ⟨Nat.lt_of_lt_of_le hb2 hb.size, rfl⟩)) hok h1 h7)
    have HNX := Lib.hid (fun (k : Nat) (hk : k + 2 ≤ 7) => bestA_less hok hk)
    have HRB := Lib.hid (fun age => rate_bd (xs := xs) (a := age) (p := p) (f := f))
    have HBB := Lib.hid (fun k => bestA_is (p := p) (f := f) (okO_at hok).1 k)
    go_enter Try.func15, Try.ntmps15
    go_wp2_with (first | (go_at_call 19; refine (vov hok _ h).mono ?_; rintro e w' ⟨rfl, rfl⟩) | fail)
    clear h hok
    go_loopw [7, 8] (fun b i wr => ∃ k : Nat, k ≤ 6 ∧ i = .int .i64 ((k + 2 : Nat) : Int) ∧ b = .int .i64 (bestA xs p f k : Int) ∧ Below w.heap.size w wr) (fun _ i _ => 8 - (intOf i).toNat)
    case atStart => exact ⟨0, by omega, rfl, rfl, Below.refl _ _⟩
    case round =>
      obtain ⟨k, hk, rfl, rfl, hb⟩ := hrel
      have HB := Lib.hid hb
      clear hb
      by_cases hlt : k < 6
      · have hnx := HNX.out k (by omega)
        obtain ⟨i1, i2, _⟩ := HBB.out k
        have b1 := HRB.out (bestA xs p f k : Int)
        have b2 := HRB.out ((k + 2 : Nat) : Int)
        have C1 := Lib.hid (fun w' hb => HAR.out w' hb (k + 2) (by omega) (by omega))
        have C2 := Lib.hid (fun w' hb => HAR.out w' hb (bestA xs p f k) i1 (by omega))
        obtain ⟨A, hA⟩ : ∃ A : Nat, k + 2 = A := ⟨_, rfl⟩
        obtain ⟨B, hB⟩ : ∃ B : Nat, bestA xs p f k = B := ⟨_, rfl⟩
        rw [hA] at hnx b2 C1 ⊢
        rw [hB] at hnx b1 C2 ⊢
        have hAI : (A : Int) ≤ 7 := by omega
        obtain ⟨UA, hUA⟩ : ∃ U, rateU xs A p f = U := ⟨_, rfl⟩
        obtain ⟨DA, hDA⟩ : ∃ U, rateD xs A p f = U := ⟨_, rfl⟩
        obtain ⟨UB, hUB⟩ : ∃ U, rateU xs B p f = U := ⟨_, rfl⟩
        obtain ⟨DB, hDB⟩ : ∃ U, rateD xs B p f = U := ⟨_, rfl⟩
        rw [hUA, hDA] at b2 C1
        rw [hUB, hDB] at b1 C2
        rw [hUA, hDA, hUB, hDB] at hnx
        have HNX1 := Lib.hid hnx
        have HAM := Lib.hid (less_any UA DA UB DB (by omega))
        clear hnx hUA hDA hUB hDB b1 b2 hB i1 i2
        go_wp2_with fail
        refine (C1.out _ HB.out).mono ?_
        rintro e w4 ⟨rfl, hb4⟩
        have HB4 := Lib.hid (HB.out.trans (hb4.mono HB.out.size))
        clear hb4
        go_wp2_with fail
        refine (C2.out _ HB4.out).mono ?_
        rintro e w5 ⟨rfl, hb5⟩
        have HB5 := Lib.hid (HB4.out.trans (hb5.mono HB4.out.size))
        clear hb5
        go_wp2_with fail
        refine (HAM.out w5).mono ?_
        rintro e w6 ⟨rfl, hb6⟩
        have HB6 := Lib.hid (HB5.out.trans (hb6.mono HB5.out.size))
        clear hb6
        by_cases hle : (UA : Int) * DB < (UB : Int) * DA
        · have hdec : decide ((UA : Int) * DB < (UB : Int) * DA) = true := decide_eq_true hle
          go_wp2_with fail
          go_roundw
          case rel => exact ⟨k + 1, by omega, by rw [show k + 1 + 2 = A + 1 by omega]; go_num, by rw [HNX1.out, if_pos hle], HB6.out⟩
          case measure => simp [intOf]; omega
        · have hdec : decide ((UA : Int) * DB < (UB : Int) * DA) = false := decide_eq_false hle
          go_wp2_with fail
          go_roundw
          case rel => exact ⟨k + 1, by omega, by rw [show k + 1 + 2 = A + 1 by omega]; go_num, by rw [HNX1.out, if_neg (by omega)], HB6.out⟩
          case measure => simp [intOf]; omega
      · obtain rfl : k = 6 := by omega
        go_wp2_with fail
        go_ret
        exact ⟨rfl, HB.out⟩
end Go.Proofs.Ytkjmpkincaainac
namespace Go.Proofs.Ytkjmpkincaainac
open Go.RowKit Go.WideShapes

def keepRes (ts : List Int) (rows : List (List Int)) (up down : Int) : Bool := tokM ts rows && (inB 0 40 up && (inB 1 40 down && (grOf ts rows).keepB up down))
/-- block b holds these numbers, one to a worker, and may be written -/
def NumsB (w : World) (b n : Nat) (f : Nat → Int) : Prop := ∀ j, j < n → w.cell? ⟨b, j, none⟩ = some (.int .i64 (f j)) ∧ w.frozen? ⟨b, j, none⟩ = false
theorem NumsB.block {w w' : World} {b n : Nat} {f : Nat → Int} (h : NumsB w b n f) (e : w'.heap[b]? = w.heap[b]?) : NumsB w' b n f := fun j hj =>
  ⟨by rw [World.cell?_of_block (w := w) e]; exact (h j hj).1, by rw [World.frozen?_of_block (w := w) e]; exact (h j hj).2⟩
theorem NumsB.put {w : World} {b n : Nat} {f : Nat → Int} (h : NumsB w b n f) {k : Nat} (hk : k < n) (x : Int) : NumsB (w.setCell ⟨b, k, none⟩ (.int .i64 x)) b n (fun j => if j = k then x else f j) := fun j hj => by
  refine ⟨?_, by rw [World.frozen?_setCell]; exact (h j hj).2⟩
  dsimp only
  by_cases e : j = k
  · subst e
    rw [if_pos rfl]
    exact World.cell?_setCell_same _ _ _ (h j hj).1
  · rw [if_neg e, World.cell?_setCell_other _ _ _ _ (by intro e'; injection e' with _ e2; exact e e2.symm)]
    exact (h j hj).1
theorem numsB_new (w : World) (n : Nat) : NumsB (w.alloc (.cells (madeCells #[.int .i64 0] n) 3)) w.heap.size n (fun _ => 0) := fun j hj => by
  refine ⟨?_, World.frozen?_alloc_new w _ _ _⟩
  rw [World.cell?_alloc_new]
  simp [madeCells, hj, Nat.mod_one]
theorem Try.infoInt8 : (Try.prog.info? 3).map (fun i => (i.zero, i.size, i.bytes)) = some (some (.int .i64 0), 1, 8) := by kernel_rfl
theorem pas_step1 {g : Gr} {up down : Int} (a : Nat → Int) (j : Nat) (h : (g.pas up down a j).1 (g.t j) < (g.pas up down a j).1 (g.f j) + g.w up down j) : g.pas up down a (j + 1) = (fun q => if q = g.t j then (g.pas up down a j).1 (g.f j) + g.w up down j else (g.pas up down a j).1 q, true) := by rw [Gr.pas, if_pos h]
theorem pas_step0 {g : Gr} {up down : Int} (a : Nat → Int) (j : Nat) (h : ¬ (g.pas up down a j).1 (g.t j) < (g.pas up down a j).1 (g.f j) + g.w up down j) : g.pas up down a (j + 1) = g.pas up down a j := by rw [Gr.pas, if_neg h]
/-- the three numbers of a way, where they lie -/
theorem way_at {w : World} {S : Nat → Prop} {aW : Option Addr} {lW : Nat} {rows : List (List Int)} {ts : List Int} (h : RowsAt w S aW lW rows) (hv : tokM ts rows = true) {q : Nat} (hq : q < lW) :
    ∃ b off b' off' c, aW = some ⟨b, off, none⟩ ∧ w.cell? ⟨b, off + q, none⟩ = some (.slice (some ⟨b', off', none⟩) 3 c) ∧ w.cell? ⟨b', off', none⟩ = some (.int .i64 ((grOf ts rows).f q : Nat)) ∧ w.cell? ⟨b', off' + 1, none⟩ = some (.int .i64 ((grOf ts rows).t q : Nat)) ∧ w.cell? ⟨b', off' + 2, none⟩ = some (.int .i64 ((grOf ts rows).c q : Nat)) := by
  obtain ⟨b, off, r, a', lr, cr, rfl, hr, dr, _, hri⟩ := h.get hq
  obtain ⟨l3, e0, _, e1, _, e2, _⟩ := (tok_get hv).2.2.2 q r hr
  have hl3 : lr = 3 := by have := hri.lenEq; omega
  subst hl3
  obtain ⟨b', off', r0, rfl, hy, hd⟩ := hri.get (k := 0) (by omega)
  obtain ⟨b2, off2, r1, e', hy2, hd2⟩ := hri.get (k := 1) (by omega)
  cases e'
  obtain ⟨b3, off3, r2, e', hy3, hd3⟩ := hri.get (k := 2) (by omega)
  cases e'
  rw [Nat.add_zero] at hd
  rw [getD_of hy] at e0
  rw [getD_of hy2] at e1
  rw [getD_of hy3] at e2
  subst e0
  subst e1
  subst e2
  exact ⟨b, off, b', off', cr, rfl, dr, hd, hd2, hd3⟩
end Go.Proofs.Ytkjmpkincaainac
namespace Go.Proofs.Ytkjmpkincaainac
open Go.RowKit

theorem run_neq_frac (U D : Nat) (w : World) : (binOp .neq 24 (.agg #[.int .i64 U, .int .i64 D]) (.agg #[.int .i64 U, .int .i64 D])).run Try.prog w = .ok (.bool false) w := by
  have he := run_equalIn_agg (P := Try.prog) w 9999 24 #[.int .i64 U, .int .i64 D] #[.int .i64 U, .int .i64 D] (by kernel_rfl) (by kernel_rfl)
  have hu : Try.prog.underlying 3 = some (.int .i64) := Try.underlying3
  rw [run_neq_struct, he]
  simp [Program.fieldsOf, Try.underlying24, Op.eqFields, go_sem]
theorem run_eq_frac (U D : Nat) (w : World) : (binOp .eql 24 (.agg #[.int .i64 U, .int .i64 D]) (.agg #[.int .i64 U, .int .i64 D])).run Try.prog w = .ok (.bool true) w := by
  have he := run_equalIn_agg (P := Try.prog) w 9999 24 #[.int .i64 U, .int .i64 D] #[.int .i64 U, .int .i64 D] (by kernel_rfl) (by kernel_rfl)
  have hu : Try.prog.underlying 3 = some (.int .i64) := Try.underlying3
  rw [run_eql_struct, he]
  simp [Program.fieldsOf, Try.underlying24, Op.eqFields, go_sem]
theorem keepRes_pace {ts : List Int} {rows : List (List Int)} {U D : Nat} (hv : tokM ts rows = true) (hok : (grOf ts rows).Ok) (h : IsPace (grOf ts rows) U D) : keepRes ts rows (U : Int) (D : Int) = true := by
  have h1 := h.u36; have h2 := h.d12; have h3 := h.d1
  unfold keepRes
  rw [hv, inB_true (by omega) (by omega), inB_true (by omega) (by omega), pace_kept hok h]; rfl
theorem keepRes_less {ts : List Int} {rows : List (List Int)} {U D : Nat} (hv : tokM ts rows = true) (hok : (grOf ts rows).Ok) (h : IsPace (grOf ts rows) U D) (h0 : 1 ≤ U) : keepRes ts rows ((U : Int) - 1) (D : Int) = false := by
  unfold keepRes
  rw [pace_less hok h h0]; simp
theorem keepRes_zero {ts : List Int} {rows : List (List Int)} {U D : Nat} (hv : tokM ts rows = true) (hok : (grOf ts rows).Ok) (h : IsPace (grOf ts rows) U D) (h0 : U = 0) : keepRes ts rows 0 1 = true := by
  have h3 := h.d1
  have hk : (grOf ts rows).keeps 0 1 := by
    refine (pace_keeps h (by omega) (by omega)).2 ?_
    subst h0; simp
  unfold keepRes
  rw [hv, inB_true (by omega) (by omega), inB_true (by omega) (by omega), (keepB_iff hok).2 hk]; rfl
end Go.Proofs.Ytkjmpkincaainac
namespace Go.Proofs.Ytkjmpkincaainac
open Go.RowKit Go.ChangeShapes Go.WideShapes

theorem byte_wf {x : Int} (h : (Lit.int .u8 x).wf = true) : 0 ≤ x ∧ x < 256 := by
  have h1 : IntKind.u8.min = 0 := rfl
  have h2 : IntKind.u8.max = 255 := rfl
  simp only [Lit.wf, Bool.and_eq_true, decide_eq_true_eq] at h
  omega
theorem open_bytes_arg {H : Type} {enc : TypeId × Value → H} {P : Program} {W : World} {t e : TypeId} {a : Option Addr} {len cap : Nat} {d : DataW H} {p : List MemPlace} (ht : P.underlying t = some (.slice e)) (he : P.underlying e = some (.int .u8))
    (ce : P.cellsOf e = 1) (h : DataW.Trod enc P W 0 (fun _ => true) true t (.slice a len cap) d p) : BytesAt W W.heap.size a len ∧ len ≤ cap ∧ len ≤ 9223372036854775807 := by
  obtain ⟨fuel, hf⟩ := h
  rcases open_ints ht he ce hf with ⟨hcs, _⟩ | ⟨a, len', cap', zs, hcs, _, hl, hmx, hz, _, hcell, hwz⟩
  · simp [Value.cells] at hcs
    obtain ⟨rfl, rfl, rfl⟩ := hcs
    exact ⟨fun h => absurd h (by omega), Nat.le_refl _, Nat.zero_le _⟩
  · simp [Value.cells] at hcs
    obtain ⟨rfl, rfl, rfl⟩ := hcs
    simp only [if_true] at hz
    refine ⟨fun h0 => ?_, hl, by unfold maxLen at hmx; omega⟩
    obtain ⟨b, off, spot⟩ := a
    have hspot : spot = none := by simpa [Addr.add] using World.cell?_spot (hcell 0 (by omega))
    subst hspot
    have hb : ∀ i, i < len → W.cell? ⟨b, off + i, none⟩ = some (.int .u8 (zs.getD i 0)) := fun i hi => by rw [← add_plain]; exact hcell i (by omega)
    refine ⟨b, off, rfl, ?_, fun i hi => ?_⟩
    · rcases Nat.lt_or_ge b W.heap.size with h' | h'
      · exact h'
      · have := hb 0 h0
        simp [World.cell?, Array.getElem?_eq_none h'] at this
    · have hmem : zs.getD i 0 ∈ zs := by
        rw [List.getD_eq_getElem?_getD, List.getElem?_eq_getElem (by omega)]
        exact List.getElem_mem _
      have hx := byte_wf (hwz _ hmem)
      refine ⟨(zs.getD i 0).toNat, by omega, ?_⟩
      rw [hb i hi]
      congr 2
      omega
end Go.Proofs.Ytkjmpkincaainac
namespace Go.Proofs.Ytkjmpkincaainac
open Go.RowKit

/-- a new slice of these ints that may be written, not longer than its array -/
def ResPostC (w : World) (xs : List Int) (e : Ending) (w' : World) : Prop := ∃ (a : Option Addr) (len cap : Nat), e = .returned (.slice a len cap) ∧ IntsAt w' (fun b => w.heap.size ≤ b ∧ b < w'.heap.size) a len xs ∧
  Free w' (fun b => w.heap.size ≤ b ∧ b < w'.heap.size) a len ∧ len ≤ cap ∧ Below w.heap.size w w'
theorem resPostC_nil (w : World) : ResPostC w [] (.returned (.slice none 0 0)) w :=
  ⟨none, 0, 0, rfl, ⟨rfl, Nat.zero_le _, fun h => absurd h (by omega)⟩, ⟨Nat.zero_le _, fun h => absurd h (by omega)⟩, Nat.le_refl _, Below.refl _ _⟩
theorem resPostC_of {w w' : World} {xs : List Int} {a : Option Addr} {len cap : Nat} (h : ResPost w xs (.returned (.slice a len cap)) w') (hc : len ≤ cap) : ResPostC w xs (.returned (.slice a len cap)) w' := by
  obtain ⟨a', l', c', e, h1, h2, h3⟩ := h
  simp only [Ending.returned.injEq, Value.slice.injEq] at e
  obtain ⟨rfl, rfl, rfl⟩ := e
  exact ⟨_, _, _, rfl, h1, h2, hc, h3⟩
theorem ResPostC.res {w w' : World} {xs : List Int} {e : Ending} (h : ResPostC w xs e w') : ResPost w xs e w' := by
  obtain ⟨a', l', c', e1, h1, h2, _, h3⟩ := h
  exact ⟨a', l', c', e1, h1, h2, h3⟩
end Go.Proofs.Ytkjmpkincaainac
