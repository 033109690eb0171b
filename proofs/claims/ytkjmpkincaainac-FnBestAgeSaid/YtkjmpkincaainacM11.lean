import Derived.Test.YtkjmpkincaainacRows
import Derived.Test.YtkjmpkincaainacM0
import Derived.Test.YtkjmpkincaainacM1
import Derived.Test.YtkjmpkincaainacM2
import Derived.Test.YtkjmpkincaainacM6
import Derived.Test.YtkjmpkincaainacM9
import Derived.Test.YtkjmpkincaainacM10
import Derived.WalkKit
import Derived.LoopTactic
import Derived.Outline
import Derived.WalkSpells
import Derived.WalkLawsBesides
import Derived.ProofKit
import Derived.Lib.Hide
import Derived.RegionTactic
import Derived.BigRegion
import Derived.IntWalk
import Derived.Test.YtkjmpkincaainacM3
import Derived.Maps.RangeWalk
namespace Go.Proofs.Ytkjmpkincaainac
open Go.RowKit

theorem getD_snoc (xs : List Int) (x : Int) (k : Nat) : (xs ++ [x]).getD k 0 = if k < xs.length then xs.getD k 0 else if k = xs.length then x else 0 := by
  rw [List.getD_eq_getElem?_getD, List.getD_eq_getElem?_getD, List.getElem?_append]
  split
  · rfl
  · rename_i h
    by_cases e : k = xs.length
    · subst e; simp
    · rw [if_neg e, List.getElem?_eq_none (by simp; omega)]; rfl
theorem sumN_snoc (xs : List Int) (x : Int) : sumN (xs ++ [x]) (xs ++ [x]).length = sumN xs xs.length + x := by
  rw [← totalM_eq, ← totalM_eq, totalM_snoc]
theorem ch_more {xs : List Int} (h : chM xs = true) (h7 : xs.length ≠ 7) : chM (xs ++ [1]) = true := by
  obtain ⟨h0, h1, h2, h3⟩ := chM_at h
  refine chM_of (by simp) (by simp; omega) (fun k _ => ?_) (by rw [sumN_snoc]; omega)
  rw [getD_snoc]
  have := h2 k
  split
  · exact this
  · split <;> omega
theorem cost_hump {xs : List Int} {o u : Int} (h : chM xs = true) (ho : 0 ≤ o) (hu : 0 ≤ u) (s : Nat) : 2 * costS xs (s + 1) o u ≤ costS xs (s + 2) o u + costS xs s o u := by
  have h1 := costS_step xs s o u
  have h2 := costS_step xs (s + 1) o u
  have hm := Int.mul_le_mul_of_nonneg_right (sumS_mono (fun k => ((chM_at h).2.2.1 k).1) (show s + 1 ≤ s + 1 + 1 by omega)) (show 0 ≤ o + u by omega)
  rw [show s + 2 = s + 1 + 1 from rfl]
  omega
theorem costS_bd {xs : List Int} {o u : Int} (h : okO xs o u = true) {s : Nat} (hs : s ≤ 8) : 0 ≤ costS xs s o u ∧ costS xs s o u ≤ 30240 := by
  obtain ⟨h0, a, b, c, d⟩ := okO_at h
  obtain ⟨_, h7, h2, _⟩ := chM_at h0
  have := costK_bd10 (xs := xs) (s := s) h2 ⟨a, b⟩ ⟨c, d⟩ hs xs.length (by omega)
  unfold costS
  omega
theorem stockRes_no {xs : List Int} {s o u : Int} (h : okO xs o u = false ∨ inB 0 7 s = false) : stockRes xs s o u = -1 := by
  unfold stockRes
  rcases h with h | h <;> rw [h] <;> simp
theorem stockRes_yes {xs : List Int} {s : Nat} {o u : Int} (h : okO xs o u = true) (hs : s ≤ 7) : stockRes xs (s : Int) o u = costS xs s o u := by
  unfold stockRes
  rw [h, inB_true (by omega) (by omega)]
  simp
theorem stockRes_bd (xs : List Int) (s o u : Int) : -1 ≤ stockRes xs s o u ∧ stockRes xs s o u ≤ 30240 := by
  unfold stockRes
  cases h : okO xs o u
  · simp
  · cases h2 : inB 0 7 s
    · simp
    · have := costS_bd h (s := s.toNat) (by simp [inB] at h2; omega)
      simp; omega
/-- what FnStockCost asks -/
theorem stock_hump {xs : List Int} {s o u : Int} (h : 0 ≤ stockRes xs s o u) : stockRes xs (s + 1) o u < 0 ∨ stockRes xs (s - 1) o u < 0 ∨ stockRes xs s o u * 2 ≤ stockRes xs (s + 1) o u + stockRes xs (s - 1) o u := by
  cases hk : okO xs o u
  · rw [stockRes_no (.inl hk)] at h; omega
  · rcases Int.lt_or_le 6 s with h1 | h1
    · exact .inl (by rw [stockRes_no (.inr (inB_hi (by omega)))]; omega)
    · rcases Int.lt_or_le s 1 with h2 | h2
      · exact .inr (.inl (by rw [stockRes_no (.inr (inB_lo (by omega)))]; omega))
      · obtain ⟨k, rfl⟩ : ∃ k : Nat, s = ((k + 1 : Nat) : Int) := ⟨(s - 1).toNat, by omega⟩
        obtain ⟨h0, a, b, c, d⟩ := okO_at hk
        have e1 : ((k + 1 : Nat) : Int) + 1 = ((k + 2 : Nat) : Int) := by omega
        have e2 : ((k + 1 : Nat) : Int) - 1 = ((k : Nat) : Int) := by omega
        have := cost_hump h0 a c k
        rw [e1, e2, stockRes_yes hk (by omega), stockRes_yes hk (by omega), stockRes_yes hk (by omega)]
        exact .inr (.inr (by omega))
theorem shareRes_no {xs : List Int} {o u : Int} (h : okO xs o u = false) : shareRes xs o u = -1 := by unfold shareRes; rw [h]; rfl
theorem shareRes_yes {xs : List Int} {o u : Int} (h : okO xs o u = true) : shareRes xs o u = (shareN xs o u : Int) := by unfold shareRes; rw [h]; rfl
theorem share_le {xs : List Int} {o u o' u' : Int} (h : chM xs = true) (ho : 0 ≤ o) (hu : 0 ≤ u) (ho' : 0 ≤ o') (hu' : 0 ≤ u') (hm : ∀ s, metB xs o' u' s = true → metB xs o u s = true) : shareN xs o u ≤ shareN xs o' u' := by
  rcases Nat.lt_or_ge (shareN xs o' u') (shareN xs o u) with g | g
  · have h1 := (share_is h ho hu).2.2 _ g
    rw [hm _ (share_is h ho' hu').2.1] at h1; cases h1
  · exact g
theorem share_under {xs : List Int} {o u : Int} (h : chM xs = true) (ho : 0 ≤ o) (hu : 0 ≤ u) : shareN xs o u ≤ shareN xs o (u + 1) := by
  refine share_le h ho hu ho (by omega) (fun s hs => ?_)
  unfold metB at hs ⊢
  have h1 := of_decide_eq_true hs
  have h2 := sumS_le (fun k => ((chM_at h).2.2.1 k).1) (s + 1)
  rw [show o + (u + 1) = (o + u) + 1 by omega, Int.mul_add, Int.add_mul] at h1
  exact decide_eq_true (by omega)
theorem share_over {xs : List Int} {o u : Int} (h : chM xs = true) (ho : 0 ≤ o) (hu : 0 ≤ u) : shareN xs (o + 1) u ≤ shareN xs o u := by
  refine share_le h (by omega) hu ho hu (fun s hs => ?_)
  unfold metB at hs ⊢
  have h1 := of_decide_eq_true hs
  have h2 := sumS_0 (fun k => ((chM_at h).2.2.1 k).1) (s + 1)
  rw [show o + 1 + u = (o + u) + 1 by omega, Int.mul_add]
  exact decide_eq_true (by omega)
/-- what FnStockByShare asks -/
theorem share_dear {xs : List Int} {o u : Int} (h : 0 ≤ shareRes xs o u) : (shareRes xs o (u + 1) < 0 ∨ shareRes xs o u ≤ shareRes xs o (u + 1)) ∧ (shareRes xs (o + 1) u < 0 ∨ shareRes xs (o + 1) u ≤ shareRes xs o u) ∧ shareRes xs o u < (xs.length : Int) := by
  cases hk : okO xs o u
  · rw [shareRes_no hk] at h; omega
  · obtain ⟨h0, a, b, c, d⟩ := okO_at hk
    refine ⟨?_, ?_, ?_⟩
    · cases h1 : okO xs o (u + 1)
      · exact .inl (by rw [shareRes_no h1]; omega)
      · have := share_under (o := o) (u := u) h0 a c
        exact .inr (by rw [shareRes_yes hk, shareRes_yes h1]; omega)
    · cases h1 : okO xs (o + 1) u
      · exact .inl (by rw [shareRes_no h1]; omega)
      · have := share_over (o := o) (u := u) h0 a c
        exact .inr (by rw [shareRes_yes hk, shareRes_yes h1]; omega)
    · have := (share_is h0 a c).1
      rw [shareRes_yes hk]; omega
theorem shareRes_bd (xs : List Int) (o u : Int) : -1 ≤ shareRes xs o u ∧ shareRes xs o u ≤ 7 := by
  unfold shareRes
  have := (firstB_is (metB xs o u) 7 0).2.1
  unfold shareN
  split <;> omega
/-- what FnBestStock asks of each stock -/
theorem stock_least {xs : List Int} {o u : Int} (h : okO xs o u = true) {s : Nat} (hs : s ≤ 7) : ¬ stockRes xs (s : Int) o u < stockRes xs (shareN xs o u : Int) o u := by
  obtain ⟨h0, a, b, c, d⟩ := okO_at h
  have h1 := (share_is h0 a c).1
  have h2 := (chM_at h0).2.1
  have := cost_least h0 a c s
  rw [stockRes_yes h hs, stockRes_yes h (by omega)]
  omega
def lifeN (xs : List Int) : Nat → Int
  | 0 => 0
  | k + 1 => lifeN xs k + xs.getD k 0 * ((k : Int) + 1)
theorem live_life {xs : List Int} {a : Nat} : ∀ k, k ≤ a → liveN xs a k = lifeN xs k
  | 0, _ => rfl
  | k + 1, h => by rw [liveN, lifeN, live_life k (by omega), Nat.min_eq_left h]; push_cast; rfl
theorem lifeN_bd {xs : List Int} (h : ∀ k, 0 ≤ xs.getD k 0 ∧ xs.getD k 0 ≤ 9) : ∀ k, k ≤ 8 → 0 ≤ lifeN xs k ∧ lifeN xs k ≤ 81 * (k : Int)
  | 0, _ => by simp [lifeN]
  | k + 1, hk => by
    have ih := lifeN_bd h k (by omega)
    have h1 := h k
    have b : 0 ≤ xs.getD k 0 * ((k : Int) + 1) ∧ xs.getD k 0 * ((k : Int) + 1) ≤ 9 * 9 := ⟨Int.mul_nonneg h1.1 (by omega), Int.mul_le_mul h1.2 (by omega) (by omega) (by omega)⟩
    rw [lifeN]; push_cast; omega
theorem rate_late {xs : List Int} {a : Nat} {p f : Int} (h : okO xs p f = true) (ha : a ≤ 7) (hl : xs.length ≤ a) : rateU xs a p f = fU (f * totalM xs).toNat (lifeN xs xs.length).toNat ∧ rateD xs a p f = fD (f * totalM xs).toNat (lifeN xs xs.length).toNat := by
  have h0 := (okO_at h).1
  have h1 := (chM_at h0).1
  have hr : rateFine xs (a : Int) p f = true := by unfold rateFine; rw [h, inB_true (by omega) (by omega)]; rfl
  unfold rateU rateD
  rw [hr, if_pos rfl, if_pos rfl]
  have e1 : ageU xs p f (a : Int).toNat = (f * totalM xs).toNat := by
    unfold ageU costA
    rw [totalM_eq, show (a : Int).toNat = a by omega, sumN_past xs hl, Int.sub_self, Int.mul_zero, Int.add_zero]
  have e2 : ageD xs (a : Int).toNat = (lifeN xs xs.length).toNat := by
    unfold ageD
    rw [show (a : Int).toNat = a by omega, ← live_time, live_life _ hl]
  rw [e1, e2]
  exact ⟨rfl, rfl⟩
theorem life_pos {xs : List Int} (h : chM xs = true) : 1 ≤ lifeN xs xs.length ∧ lifeN xs xs.length ≤ 567 := by
  obtain ⟨_, h1, h2, _⟩ := chM_at h
  have b := lifeN_bd h2 xs.length (by omega)
  have e := live_time xs 7
  rw [live_life _ h1] at e
  have := time_pos h (show 1 ≤ 7 by omega)
  omega
theorem rate_yes {xs : List Int} {a : Nat} {p f : Int} (h : okO xs p f = true) (h1 : 1 ≤ a) (h7 : a ≤ 7) : rateFine xs (a : Int) p f = true ∧ rateU xs a p f = fU (ageU xs p f a) (ageD xs a) ∧ rateD xs a p f = fD (ageU xs p f a) (ageD xs a) := by
  have hr : rateFine xs (a : Int) p f = true := by unfold rateFine; rw [h, inB_true (by omega) (by omega)]; rfl
  unfold rateU rateD
  rw [hr, if_pos rfl, if_pos rfl]
  exact ⟨rfl, rfl, rfl⟩
theorem rate_no {xs : List Int} {a p f : Int} (h : rateFine xs a p f = false) : rateU xs a p f = 0 ∧ rateD xs a p f = 0 := by
  unfold rateU rateD; rw [h]; exact ⟨rfl, rfl⟩
theorem rate_bd {xs : List Int} {a p f : Int} : rateU xs a p f ≤ 3780 ∧ rateD xs a p f ≤ 441 := by
  cases hf : rateFine xs a p f
  · obtain ⟨e1, e2⟩ := rate_no hf; omega
  · have hf' := hf
    unfold rateFine at hf'
    simp only [Bool.and_eq_true] at hf'
    have ha : 1 ≤ a ∧ a ≤ 7 := by simpa [inB] using hf'.2
    obtain ⟨k, rfl⟩ : ∃ k : Nat, a = (k : Int) := ⟨a.toNat, by omega⟩
    obtain ⟨_, e1, e2⟩ := rate_yes (a := k) hf'.1 (by omega) (by omega)
    have b := f_bd (T := ageU xs p f k) (ageD_pos (okO_at hf'.1).1 (show 1 ≤ k by omega))
    have b1 := (ageU_is hf'.1 k).2
    have b2 := (ageD_is (okO_at hf'.1).1 k).2
    omega
/-- what FnBestAge asks of each age -/
theorem age_best {xs : List Int} {p f : Int} (h : okO xs p f = true) {a : Nat} (h1 : 1 ≤ a) (h7 : a ≤ 7) :
    ¬ (rateU xs a p f : Int) * (rateD xs (bestA xs p f 6) p f : Int) < (rateU xs (bestA xs p f 6) p f : Int) * (rateD xs a p f : Int) ∧ (a < bestA xs p f 6 → ¬ (rateU xs a p f = rateU xs (bestA xs p f 6) p f ∧ rateD xs a p f = rateD xs (bestA xs p f 6) p f)) := by
  have h0 := (okO_at h).1
  obtain ⟨i1, i2, i3⟩ := bestA_is (p := p) (f := f) h0 6
  obtain ⟨j1, j2⟩ := i3 a h1 h7
  have d1 := ageD_pos h0 h1
  have d2 := ageD_pos h0 i1
  obtain ⟨_, e1, e2⟩ := rate_yes h h1 h7
  obtain ⟨_, e3, e4⟩ := rate_yes h i1 i2
  rw [e1, e2, e3, e4]
  constructor
  · have := (f_le (T := ageU xs p f (bestA xs p f 6)) (T' := ageU xs p f a) d2 d1).2 j1
    have : (fU (ageU xs p f (bestA xs p f 6)) (ageD xs (bestA xs p f 6)) : Int) * (fD (ageU xs p f a) (ageD xs a) : Int) ≤ (fU (ageU xs p f a) (ageD xs a) : Int) * (fD (ageU xs p f (bestA xs p f 6)) (ageD xs (bestA xs p f 6)) : Int) := by exact_mod_cast this
    omega
  · intro hl hh
    have hlt := j2 hl
    have := (f_le (T := ageU xs p f a) (T' := ageU xs p f (bestA xs p f 6)) d1 d2).1 (by rw [hh.1, hh.2]; exact Nat.le_refl _)
    omega
theorem age_never {xs : List Int} {p f : Int} (h : okO xs p f = true) (hpf : f ≤ p) : rateU xs (bestA xs p f 6) p f = rateU xs (7 : Nat) p f ∧ rateD xs (bestA xs p f 6) p f = rateD xs (7 : Nat) p f := by
  have h0 := (okO_at h).1
  obtain ⟨i1, i2, i3⟩ := bestA_is (p := p) (f := f) h0 6
  have j := (i3 7 (by omega) (by omega)).1
  have j' := never_best h hpf i2
  obtain ⟨_, e1, e2⟩ := rate_yes h (show 1 ≤ 7 by omega) (show 7 ≤ 7 by omega)
  obtain ⟨_, e3, e4⟩ := rate_yes h i1 i2
  rw [e1, e2, e3, e4]
  exact f_eq (ageD_pos h0 i1) (ageD_pos h0 (by omega)) (by omega)
theorem bestARes_no {xs : List Int} {p f : Int} (h : okO xs p f = false) : bestARes xs p f = -1 := by unfold bestARes; rw [h]; rfl
theorem bestARes_yes {xs : List Int} {p f : Int} (h : okO xs p f = true) : bestARes xs p f = (bestA xs p f 6 : Int) := by unfold bestARes; rw [h]; rfl
theorem bestA_bd {xs : List Int} {p f : Int} (h : okO xs p f = true) : 1 ≤ bestA xs p f 6 ∧ bestA xs p f 6 ≤ 7 := by
  obtain ⟨i1, i2, _⟩ := bestA_is (p := p) (f := f) (okO_at h).1 6
  exact ⟨i1, i2⟩

-- sure wants
def sureM (n v : Nat) : List Int := (List.replicate n (0 : Int)).set v 3
theorem sure_len (n v : Nat) : (sureM n v).length = n := by simp [sureM]
theorem sure_getD {n v : Nat} (hv : v < n) (k : Nat) : (sureM n v).getD k 0 = if k = v then 3 else 0 := by
  unfold sureM
  rw [List.getD_eq_getElem?_getD, List.getElem?_set]
  by_cases h : v = k
  · subst h; simp [hv]
  · rw [if_neg h, if_neg (Ne.symm h), List.getElem?_replicate]
    split <;> rfl
theorem sure_sum {n v : Nat} (hv : v < n) : ∀ k, sumN (sureM n v) k = if v < k then 3 else 0
  | 0 => rfl
  | k + 1 => by
    rw [sumN, sure_sum hv k, sure_getD hv]
    by_cases h : k = v
    · subst h; simp
    · rw [if_neg h]
      by_cases h1 : v < k
      · rw [if_pos h1, if_pos (by omega)]; rfl
      · rw [if_neg h1, if_neg (by omega)]; rfl
theorem sure_ok {n v : Nat} {o u : Int} (hv : v < n) (hn : n ≤ 7) (ho : 1 ≤ o ∧ o ≤ 30) (hu : 1 ≤ u ∧ u ≤ 30) : okO (sureM n v) o u = true := by
  refine okO_of (chM_of (by rw [sure_len]; omega) (by rw [sure_len]; omega) (fun k _ => ?_) ?_) (by omega) (by omega)
  · rw [sure_getD hv]; split <;> omega
  · rw [sure_len, sure_sum hv, if_pos hv]; omega
theorem sure_share {n v : Nat} {o u : Int} (hv : v < n) (hn : n ≤ 7) (ho : 1 ≤ o ∧ o ≤ 30) (hu : 1 ≤ u ∧ u ≤ 30) : shareN (sureM n v) o u = v := by
  refine share_unique (fun j hj => ?_) ?_ (by omega)
  · unfold metB; rw [sure_len, sure_sum hv, sure_sum hv, if_pos hv, if_neg (by omega)]
    exact decide_eq_false (by omega)
  · unfold metB; rw [sure_len, sure_sum hv, sure_sum hv, if_pos hv, if_pos (by omega)]
    exact decide_eq_true (by omega)
theorem sure_cost {n v : Nat} {o u : Int} (hv : v < n) : costS (sureM n v) v o u = 0 := by
  have : ∀ k, costK (sureM n v) v o u k = 0 := fun k => by
    induction k with
    | zero => rfl
    | succ k ih =>
      rw [costK, ih, sure_getD hv]
      by_cases h : k = v
      · subst h; simp [unitC]
      · rw [if_neg h]; simp
  exact this _
end Go.Proofs.Ytkjmpkincaainac
namespace Go.Proofs.Ytkjmpkincaainac
open Go.RowKit Go.WideShapes

theorem Try.infoIntLo : (Try.prog.info? 3).map (fun i => (i.zero, i.size, i.bytes)) = some (some (.int .i64 0), 1, 8) := by kernel_rfl

theorem ints_alloc {w : World} {a : Option Addr} {len : Nat} {xs : List Int} (h : IntsAt w (· < w.heap.size) a len xs) (o : Obj) : IntsAt (w.alloc o) (· < w.heap.size) a len xs :=
  h.to (fun b hb => ⟨hb, Below.heap_alloc _ _ _ (by omega)⟩)

theorem ret_slice {a : Option Addr} {l c l' c' : Nat} (h : l = l') (h2 : c = c') : Ending.returned (.slice a l c) = Ending.returned (.slice a l' c') := by rw [h, h2]
def SlicePost (w : World) (S : Nat → Prop) (l : Nat) (xs : List Int) (e : Ending) (w' : World) : Prop := (∃ a', e = .returned (.slice a' l l) ∧ IntsAt w S a' l xs) ∧ w = w'
theorem sumOf_any (S : Nat → Prop) (a : Option Addr) (len cap : Nat) (xs : List Int) (w : World) (h : IntsAt w S a len xs) (hb : ∀ x ∈ xs, -1099511627776 ≤ x ∧ x ≤ 1099511627776) (hl : len ≤ 1048576) :
    Calls Try.prog 37 #[.slice a len cap] w fun e w' => e = .returned (.int .i64 (totalM xs)) ∧ w = w' := by
  go_enter Try.func37, Try.ntmps37
  go_wp2
  go_loop [3, 8] (fun n i => ∃ k : Nat, k ≤ len ∧ i = .int .i64 k ∧ n = .int .i64 (totalM (xs.take k))) (fun _ i => len - (intOf i).toNat)
  case atStart => exact ⟨0, Nat.zero_le _, rfl, rfl⟩
  case round =>
    obtain ⟨k, hk, rfl, rfl⟩ := hrel
    by_cases hlt : k < len
    · obtain ⟨b, off, x, rfl, hx, hc⟩ := h.get hlt
      have hx1 := hb x (List.mem_of_getElem? hx)
      have hx2 := totalM_bd (B := 1099511627776) (by omega) (fun y hy => hb y (take_mem (k := k) hy))
      have hll : ((xs.take k).length : Int) ≤ 1048576 := by rw [List.length_take]; omega
      have HX := Lib.hid hx
      clear hx
      generalize hT : totalM (xs.take k) = t at hx2 ⊢
      have HT := Lib.hid hT
      clear hT
      have ht1 : -1152921504606846976 ≤ t := by omega
      have ht2 : t ≤ 1152921504606846976 := by omega
      clear hx2 hll
      go_wp2
      go_round
      case rel => exact ⟨k + 1, by omega, by go_num, by rw [take_get HX.out, totalM_snoc, HT.out]⟩
      case measure => simp [intOf]; omega
    · have hle := h.lenEq
      have HL := Lib.hid hle
      clear hle
      go_wp2
      go_ret
      exact ⟨ret_int (by rw [List.take_of_length_le (by rw [HL.out]; omega)]), rfl⟩
/-- what LotsFor answers -/
def lotsRes (xs : List Int) (d : Int) : List Int := if (validDaysM xs && inB 1 8 d) = true then lotsM xs d else []
theorem lotsRes_len (xs : List Int) (d : Int) : (lotsRes xs d).length ≤ 1048576 := by
  unfold lotsRes
  split
  · rename_i h; simp only [Bool.and_eq_true] at h; have := validDays_len h.1; rw [lotsM_length]; omega
  · simp
theorem lotsRes_no {xs : List Int} {d : Int} (h : (validDaysM xs && inB 1 8 d) = false) : lotsRes xs d = [] := by unfold lotsRes; rw [h]; rfl
theorem lotsRes_yes {xs : List Int} {d : Int} (h : (validDaysM xs && inB 1 8 d) = true) : lotsRes xs d = lotsM xs d := by unfold lotsRes; rw [h]; rfl

end Go.Proofs.Ytkjmpkincaainac
namespace Go.Proofs.Ytkjmpkincaainac
open Go.RowKit Go.WideShapes

theorem mem_9 {xs : List Int} (h : allIn 0 9 xs = true) : ∀ x ∈ xs, -1099511627776 ≤ x ∧ x ≤ 1099511627776 := fun x hx => by
  have := List.all_eq_true.1 h x hx
  simp [inB] at this
  omega
theorem ch_all {xs : List Int} (h : chM xs = true) : allIn 0 9 xs = true := by
  unfold chM at h
  simp only [Bool.and_eq_true] at h
  exact h.1.2
set_option maxRecDepth 100000 in
set_option maxHeartbeats 2000000 in
theorem vChances_spec (S : Nat → Prop) (a : Option Addr) (len cap : Nat) (xs : List Int) (w : World) (h : IntsAt w S a len xs) :
    Calls Try.prog 34 #[.slice a len cap] w fun e w' => e = .returned (.bool (chM xs)) ∧ w = w' := by
  have hs := h.small
  have HL := Lib.hid h.lenEq
  go_enter Try.func34, Try.ntmps34
  go_wp2_with fail
  go_loop [3] (fun i => ∃ k : Nat, k ≤ len ∧ i = .int .i64 k ∧ allIn 0 9 (xs.take k) = true) (fun i => len - (intOf i).toNat)
  case atStart => exact ⟨0, Nat.zero_le _, rfl, rfl⟩
  case round =>
    obtain ⟨k, hk, rfl, ha⟩ := hrel
    have HA := Lib.hid ha
    clear ha
    by_cases hlt : k < len
    · have hkI : (k : Int) < (len : Int) := by omega
      obtain ⟨b, off, x, rfl, hx, hc⟩ := h.get hlt
      have HX := Lib.hid hx
      clear hx
      cases hq : inB 0 9 x
      · have HF := Lib.hid (show chM xs = false by unfold chM; rw [allIn_false HX.out hq]; simp)
        go_wp2_with (go_at_call 20; refine (inRange_any _ _ _ _).mono ?_; rintro e w' ⟨rfl, rfl⟩)
        go_ret
        exact ⟨ret_bool HF.out.symm, rfl⟩
      · go_wp2_with (go_at_call 20; refine (inRange_any _ _ _ _).mono ?_; rintro e w' ⟨rfl, rfl⟩)
        go_round
        case rel => exact ⟨k + 1, by omega, by go_num, allIn_step HX.out HA.out hq⟩
        case measure => simp [intOf]; omega
    · obtain rfl : k = len := by omega
      have hkI : ¬ (k : Int) < (k : Int) := by omega
      have ha := HA.out
      rw [List.take_of_length_le (by rw [HL.out]; omega)] at ha
      have HM := Lib.hid (mem_9 ha)
      cases h1 : inB 1 7 (k : Int)
      · have HF := Lib.hid (show chM xs = false by unfold chM; simp [inB] at h1; rw [HL.out]; simp; omega)
        clear ha
        go_wp2_with (go_at_call 20; refine (inRange_any _ _ _ _).mono ?_; rintro e w' ⟨rfl, rfl⟩)
        go_ret
        exact ⟨ret_bool HF.out.symm, rfl⟩
      · have HF := Lib.hid (show chM xs = decide (totalM xs > 0) by unfold chM; rw [ha]; simp [inB] at h1; rw [HL.out, decide_eq_true (by omega)]; rfl)
        have hl8 : k ≤ 1048576 := by simp [inB] at h1; omega
        clear ha
        obtain ⟨T, hT⟩ : ∃ T, totalM xs = T := ⟨_, rfl⟩
        rw [hT] at HF
        have HT := Lib.hid hT
        clear hT
        go_wp2_with (first | (go_at_call 20; refine (inRange_any _ _ _ _).mono ?_; rintro e w' ⟨rfl, rfl⟩) | (go_at_call 40; refine (specSum_any _ _ _ _ xs _ h HM.out hl8).mono ?_; rintro e w' ⟨rfl, rfl⟩; rw [HT.out]))
        go_ret
        exact ⟨ret_bool HF.out.symm, rfl⟩
theorem vchS {S : Nat → Prop} {a : Option Addr} {len cap : Nat} {xs : List Int} {b : Bool} (hb : chM xs = b) (w : World) (h : IntsAt w S a len xs) : Calls Try.prog 34 #[.slice a len cap] w fun e w' => e = .returned (.bool b) ∧ w = w' := by
  subst hb; exact vChances_spec S a len cap xs w h
theorem inRS {lo hi n : Int} {b : Bool} (h : inB lo hi n = b) (w : World) : Calls Try.prog 20 #[.int .i64 n, .int .i64 lo, .int .i64 hi] w fun e w' => e = .returned (.bool b) ∧ w = w' := by
  subst h; exact inRange_any n lo hi w
set_option maxRecDepth 100000 in
set_option maxHeartbeats 2000000 in
theorem validOver_any (S : Nat → Prop) (a : Option Addr) (len cap : Nat) (xs : List Int) (o u : Int) (w : World) (h : IntsAt w S a len xs) :
    Calls Try.prog 19 #[.slice a len cap, .int .i64 o, .int .i64 u] w fun e w' => e = .returned (.bool (okO xs o u)) ∧ w = w' := by
  unfold okO
  cases hc : chM xs
  · go_enter Try.func19, Try.ntmps19
    go_wp2_with (go_at_call 34; refine (vchS hc _ h).mono ?_; rintro e w' ⟨rfl, rfl⟩)
    go_ret
    exact ⟨rfl, rfl⟩
  · cases ho : inB 0 30 o
    · go_enter Try.func19, Try.ntmps19
      go_wp2_with (first | (go_at_call 34; refine (vchS hc _ h).mono ?_; rintro e w' ⟨rfl, rfl⟩) | (go_at_call 20; refine (inRS ho _).mono ?_; rintro e w' ⟨rfl, rfl⟩))
      go_ret
      exact ⟨rfl, rfl⟩
    · go_enter Try.func19, Try.ntmps19
      go_wp2_with (first | (go_at_call 34; refine (vchS hc _ h).mono ?_; rintro e w' ⟨rfl, rfl⟩) | (go_at_call 20; refine (inRange_any _ _ _ _).mono ?_; rintro e w' ⟨rfl, rfl⟩; first | rw [ho] | skip))
      go_ret
      exact ⟨rfl, rfl⟩
theorem vov {S : Nat → Prop} {a : Option Addr} {len cap : Nat} {xs : List Int} {o u : Int} {b : Bool} (hb : okO xs o u = b) (w : World) (h : IntsAt w S a len xs) : Calls Try.prog 19 #[.slice a len cap, .int .i64 o, .int .i64 u] w fun e w' => e = .returned (.bool b) ∧ w = w' := by
  subst hb; exact validOver_any S a len cap xs o u w h
end Go.Proofs.Ytkjmpkincaainac
namespace Go.Proofs.Ytkjmpkincaainac
open Go.RowKit Go.WideShapes

/-- what it costs to set for so many -/
def setM (n s : Int) : Int := if n = 0 then 0 else s
theorem areCosts_any (s h : Int) (w : World) :
    Calls Try.prog 24 #[.int .i64 s, .int .i64 h] w fun e w' => e = .returned (.bool (inB 0 30 s && inB 0 30 h)) ∧ w = w' := by
  cases hs : inB 0 30 s
  · go_enter Try.func24, Try.ntmps24
    go_wp2_with (go_at_call 38; refine (isUpTo_any _ _ _).mono ?_; rintro e w' ⟨rfl, rfl⟩)
    go_ret
    exact ⟨rfl, rfl⟩
  · go_enter Try.func24, Try.ntmps24
    go_wp2_with (go_at_call 38; refine (isUpTo_any _ _ _).mono ?_; rintro e w' ⟨rfl, rfl⟩)
    go_ret
    exact ⟨rfl, rfl⟩
theorem setM_pos {n s : Int} (h : 0 ≤ n) : setM n s = if 0 < n then s else 0 := by
  unfold setM
  by_cases e : n = 0
  · subst e; rfl
  · rw [if_neg e, if_pos (by omega)]
theorem runD_part {xs : List Int} {s h : Int} {i d : Nat} (hd : i + d ≤ xs.length) : runD ((xs.drop i).take d) s h 0 d = runD xs s h i d := by
  have e1 : ∀ q, q ≤ d → hsum ((xs.drop i).take d) 0 q = hsum xs i q := by
    intro q
    induction q with
    | zero => intro _; rfl
    | succ q ih =>
      intro hq
      rw [hsum, hsum, ih (by omega)]
      congr 2
      rw [List.getD_eq_getElem?_getD, List.getD_eq_getElem?_getD, List.getElem?_take, if_pos (by omega), List.getElem?_drop]
      congr 2; omega
  have e2 := totalM_part xs i d hd
  rw [totalM_eq] at e2
  have e3 : ((xs.drop i).take d).length = d := by simp; omega
  rw [e3] at e2
  unfold runD
  rw [e1 d (Nat.le_refl _), Nat.zero_add, e2]
  simp [sumN]
theorem plan_parts (ms xs : List Int) (s h : Int) : ∀ n, planTo ms xs s h n = h * sumN (tab (fun q => stockTo ms xs 0 (q + 1)) n) n + sumN (tab (fun q => if 0 < ms.getD q 0 then s else 0) n) n := by
  intro n
  induction n with
  | zero => simp [planTo, sumN]
  | succ n ih =>
    rw [planTo, ih, sumN, sumN, tab_getD _ (by omega), tab_getD _ (by omega), sumN_tab _ (n + 1) n (by omega), sumN_tab _ (n + 1) n (by omega), Int.mul_add, dayC, stockTo_closed, show (0 : Int) + sumN ms (n + 1) - sumN xs (n + 1) = sumN ms (n + 1) - sumN xs (n + 1) by omega]
    omega
def setTo (ms : List Int) (s : Int) (k : Nat) : Int := sumN (tab (fun q => if 0 < ms.getD q 0 then s else 0) k) k
theorem setTo_succ (ms : List Int) (s : Int) (k : Nat) : setTo ms s (k + 1) = setTo ms s k + (if 0 < ms.getD k 0 then s else 0) := by
  unfold setTo; rw [sumN, tab_getD _ (by omega), sumN_tab _ (k + 1) k (by omega)]
theorem setTo_bd {ms : List Int} {s : Int} (hs : 0 ≤ s ∧ s ≤ 30) : ∀ k, 0 ≤ setTo ms s k ∧ setTo ms s k ≤ 30 * (k : Int) := by
  intro k
  induction k with
  | zero => exact ⟨Int.le_refl _, Int.le_refl _⟩
  | succ k ih => rw [setTo_succ]; split <;> push_cast <;> omega
end Go.Proofs.Ytkjmpkincaainac
namespace Go.Proofs.Ytkjmpkincaainac
open Go.RowKit Go.Maps

/-- block's map: for each v below K the number g v, where that is above 0; nothing else -/
def MapIs (D : DataW Unit) (g : Nat → Int) (K : Nat) : Prop :=
  IsMap D ∧ (∀ v : Nat, v < K → has D (.int .i64 v) = decide (0 < g v)) ∧ (∀ v : Nat, v < K → 0 < g v → ∀ zd, D.atKey (.int .i64 v) zd = .lit (.int .i64 (g v))) ∧ ∀ kl, has D kl = true → ∃ v : Nat, v < K ∧ kl = .int .i64 v
theorem key_ne {a b : Nat} (h : a ≠ b) : (Lit.int .i64 (a : Int)) ≠ .int .i64 (b : Int) := fun e => by injection e with _ e; omega
theorem keyI (v : Int) : WideAt.IsKeyLit (.int .i64 v) := trivial
theorem key_same (a b : Nat) : (Lit.int .i64 (a : Int)).sameKey (.int .i64 (b : Int)) = decide (a = b) := by
  by_cases h : a = b
  · subst h; rw [WideAt.sameKey_self (keyI _)]; simp
  · rw [sameKey_ne (key_ne h)]; simp [h]
theorem mapIs_none (K : Nat) : MapIs (.map []) (fun _ => 0) K :=
  ⟨isMap_empty, fun v _ => rfl, fun v _ h => absurd h (by simp), fun kl h => by cases h⟩
theorem MapIs.skip {D : DataW Unit} {g : Nat → Int} {k K : Nat} (h : MapIs D g k) (hg : ∀ v, k ≤ v → g v ≤ 0) (hK : k ≤ K) : MapIs D g K := by
  obtain ⟨h1, h2, h3, h4⟩ := h
  refine ⟨h1, fun v hv => ?_, fun v hv hp => ?_, fun kl hk => ?_⟩
  · rcases Nat.lt_or_ge v k with g1 | g1
    · exact h2 v g1
    · have e : decide (0 < g v) = false := decide_eq_false (by have := hg v g1; omega)
      rw [e]
      cases hh : has D (.int .i64 v)
      · rfl
      · obtain ⟨u, hu, e⟩ := h4 _ hh
        injection e with _ e
        omega
  · rcases Nat.lt_or_ge v k with g1 | g1
    · exact h3 v g1 hp
    · have := hg v g1; omega
  · obtain ⟨v, hv, e⟩ := h4 kl hk
    exact ⟨v, by omega, e⟩
theorem MapIs.put {D : DataW Unit} {g : Nat → Int} {K k : Nat} (h : MapIs D g K) (hk : k < K) {x : Int} (hx : 0 < x) : MapIs (D.put (.int .i64 (k : Int)) (.lit (.int .i64 x))) (fun v => if v = k then x else g v) K := by
  obtain ⟨h1, h2, h3, h4⟩ := h
  refine ⟨h1.put _ _, fun v hv => ?_, fun v hv hp => ?_, fun kl hkl => ?_⟩ <;> try dsimp only at *
  · by_cases e : v = k
    · subst e; rw [has_put_same h1 (keyI _)]; simp [hx]
    · rw [has_put_other (key_ne e), h2 v hv]; simp [e]
  · by_cases e : v = k
    · subst e; rw [if_pos rfl]; exact fun zd => atKey_put_same h1 (keyI _) _ _
    · rw [if_neg e] at hp ⊢; intro zd; rw [atKey_put_other (key_ne e)]; exact h3 v hv hp zd
  · by_cases e : kl = .int .i64 (k : Int)
    · exact ⟨k, hk, e⟩
    · rw [has_put_other e] at hkl; exact h4 kl hkl
theorem MapIs.del {D : DataW Unit} {g : Nat → Int} {K : Nat} (h : MapIs D g K) (k : Nat) : MapIs (D.del (.int .i64 (k : Int))) (fun v => if v = k then 0 else g v) K := by
  obtain ⟨h1, h2, h3, h4⟩ := h
  refine ⟨h1.del _, fun v hv => ?_, fun v hv hp => ?_, fun kl hkl => ?_⟩ <;> try dsimp only at *
  · by_cases e : v = k
    · subst e; rw [has_del_same]; simp
    · rw [has_del_other (key_ne e), h2 v hv]; simp [e]
  · by_cases e : v = k
    · subst e; rw [if_pos rfl] at hp; omega
    · rw [if_neg e] at hp ⊢; intro zd; rw [atKey_del_other (key_ne e)]; exact h3 v hv hp zd
  · by_cases e : kl = .int .i64 (k : Int)
    · subst e; rw [has_del_same] at hkl; cases hkl
    · rw [has_del_other e] at hkl; exact h4 kl hkl
theorem MapIs.congr {D : DataW Unit} {g g' : Nat → Int} {K : Nat} (h : MapIs D g K) (e : ∀ v, g v = g' v) : MapIs D g' K := by
  have : g = g' := funext e
  rwa [← this]

def sumF (f : Nat → Int) : Nat → Int
  | 0 => 0
  | k + 1 => sumF f k + f k
/-- of those that have come -/
def cameF (f : Nat → Int) (left : Lit → Bool) : Nat → Int
  | 0 => 0
  | k + 1 => cameF f left k + if left (.int .i64 (k : Int)) then 0 else f k
theorem sumN_F (xs : List Int) : ∀ k, sumN xs k = sumF (fun v => xs.getD v 0) k
  | 0 => rfl
  | k + 1 => by rw [sumN, sumF, sumN_F xs k]
theorem costK_F (xs : List Int) (s : Nat) (o u : Int) : ∀ k, costK xs s o u k = sumF (fun v => xs.getD v 0 * unitC s v o u) k
  | 0 => rfl
  | k + 1 => by rw [costK, sumF, costK_F xs s o u k]
theorem sumF_congr {f f' : Nat → Int} : ∀ {k : Nat}, (∀ v, v < k → f v = f' v) → sumF f k = sumF f' k
  | 0, _ => rfl
  | k + 1, h => by rw [sumF, sumF, sumF_congr (fun v hv => h v (by omega)), h k (by omega)]
theorem came_start {f : Nat → Int} {left : Lit → Bool} : ∀ {K : Nat}, (∀ v : Nat, v < K → left (.int .i64 (v : Int)) = false → f v = 0) → cameF f left K = 0
  | 0, _ => rfl
  | k + 1, h => by
    rw [cameF, came_start (fun v hv => h v (by omega))]
    cases e : left (.int .i64 (k : Int))
    · simp [h k (by omega) e]
    · simp
theorem came_end {f : Nat → Int} {left : Lit → Bool} (h : ∀ kl, left kl = false) : ∀ K, cameF f left K = sumF f K
  | 0 => rfl
  | k + 1 => by rw [cameF, sumF, came_end h k, h]; simp
theorem came_miss {f : Nat → Int} {left : Lit → Bool} {j : Nat} : ∀ {K : Nat}, K ≤ j → cameF f (fun z => left z && !z.sameKey (.int .i64 (j : Int))) K = cameF f left K
  | 0, _ => rfl
  | k + 1, h => by
    rw [cameF, cameF, came_miss (by omega)]
    simp only [key_same, show ¬ k = j by omega, decide_false, Bool.not_false, Bool.and_true]
theorem came_step {f : Nat → Int} {left : Lit → Bool} {j : Nat} (hj : left (.int .i64 (j : Int)) = true) : ∀ {K : Nat}, j < K → cameF f (fun z => left z && !z.sameKey (.int .i64 (j : Int))) K = cameF f left K + f j
  | 0, h => by omega
  | k + 1, h => by
    rw [cameF, cameF]
    by_cases e : k = j
    · subst e
      rw [came_miss (Nat.le_refl _)]
      simp [key_same, hj]
    · rw [came_step hj (by omega)]
      simp only [key_same, e, decide_false, Bool.not_false, Bool.and_true]
      omega
theorem came_bd {f : Nat → Int} {left : Lit → Bool} {B : Int} (hB : 0 ≤ B) : ∀ {K : Nat}, (∀ v : Nat, v < K → 0 ≤ f v ∧ f v ≤ B) → 0 ≤ cameF f left K ∧ cameF f left K ≤ B * (K : Int)
  | 0, _ => by simp [cameF]
  | k + 1, h => by
    have ih := came_bd (left := left) hB (fun v (hv : v < k) => h v (by omega))
    have := h k (by omega)
    rw [cameF, show B * ((k + 1 : Nat) : Int) = B * (k : Int) + B by push_cast; rw [Int.mul_add, Int.mul_one]]
    split <;> omega
theorem strike_le {left : Lit → Bool} {D : DataW Unit} (h : ∀ kl, left kl = true → has D kl = true) (kl' : Lit) : ∀ kl, (fun z : Lit => left z && !z.sameKey kl') kl = true → has D kl = true := fun kl e => by
  simp only [Bool.and_eq_true] at e
  exact h kl e.1
/-- the entry that has come: its key and its number -/
theorem MapIs.came {D : DataW Unit} {g : Nat → Int} {K : Nat} (h : MapIs D g K) {left : Lit → Bool} (hl : ∀ kl, left kl = true → has D kl = true) {x c : Int} (hx : left (.int .i64 x) = true) (hat : ∀ zd, D.atKey (.int .i64 x) zd = .lit (.int .i64 c)) :
    ∃ v : Nat, v < K ∧ x = (v : Int) ∧ c = g v ∧ 0 < g v := by
  obtain ⟨v, hv, e⟩ := h.2.2.2 _ (hl _ hx)
  injection e with _ e
  subst e
  have h0 := h.2.1 v hv
  rw [hl _ hx] at h0
  have hp := of_decide_eq_true h0.symm
  have := h.2.2.1 v hv hp .nil
  rw [hat .nil] at this
  injection this with this
  injection this with _ this
  exact ⟨v, hv, rfl, this, hp⟩
/-- the weights from k on -/
def dropG (xs : List Int) (k : Nat) (v : Nat) : Int := if v < k then 0 else xs.getD v 0
theorem dropF_sum (xs : List Int) (k : Nat) : ∀ K, sumF (dropG xs k) K = sumN xs K - sumN xs (min k K)
  | 0 => by simp [sumF, sumN]
  | K + 1 => by
    rw [sumF, dropF_sum xs k K, sumN]
    unfold dropG
    rcases Nat.lt_or_ge K k with h | h
    · rw [if_pos h, Nat.min_eq_right (show K ≤ k by omega), Nat.min_eq_right (show K + 1 ≤ k by omega), sumN]; omega
    · rw [if_neg (by omega), Nat.min_eq_left (show k ≤ K by omega), Nat.min_eq_left (show k ≤ K + 1 by omega)]; omega
theorem drop_sum (xs : List Int) (k : Nat) : sumF (dropG xs k) xs.length = sumN xs xs.length - sumN xs k := by
  rw [dropF_sum]
  rcases Nat.lt_or_ge k xs.length with h | h
  · rw [Nat.min_eq_left (by omega)]
  · rw [Nat.min_eq_right h, sumN_past xs h]
theorem drop_0 (xs : List Int) (v : Nat) : dropG xs 0 v = xs.getD v 0 := by unfold dropG; rw [if_neg (by omega)]
theorem drop_next (xs : List Int) (k v : Nat) : (if v = k then 0 else dropG xs k v) = dropG xs (k + 1) v := by
  unfold dropG
  by_cases e : v = k
  · subst e; rw [if_pos rfl, if_pos (by omega)]
  · rw [if_neg e]
    by_cases h : v < k
    · rw [if_pos h, if_pos (by omega)]
    · rw [if_neg h, if_neg (by omega)]
theorem drop_9 {xs : List Int} (h : ∀ k, 0 ≤ xs.getD k 0 ∧ xs.getD k 0 ≤ 9) (k v : Nat) : 0 ≤ dropG xs k v ∧ dropG xs k v ≤ 9 := by
  have := h v
  unfold dropG
  split <;> omega
end Go.Proofs.Ytkjmpkincaainac
