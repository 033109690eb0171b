import Derived.Test.YtkjmpkincaainabRows
import Derived.Test.YtkjmpkincaainabLib
import Derived.Test.YtkjmpkincaainabLaws
import Derived.Test.YtkjmpkincaainabArr
import Derived.Test.YtkjmpkincaainabNetM
import Derived.Test.YtkjmpkincaainabFrac8
import Derived.Test.YtkjmpkincaainabSampL
import Derived.Test.YtkjmpkincaainabStockM
namespace Go.Proofs.Ytkjmpkincaainab
open Go.RowKit

theorem getD_snoc (xs : List Int) (x : Int) (k : Nat) : (xs ++ [x]).getD k 0 = if k < xs.length then xs.getD k 0 else if k = xs.length then x else 0 := by
  rw [List.getD_eq_getElem?_getD, List.getD_eq_getElem?_getD, List.getElem?_append]
  split
  · rfl
  · rename_i h
    by_cases e : k = xs.length
    · subst e; simp
    · rw [if_neg e, List.getElem?_eq_none (by simp; omega)]; rfl
theorem sumN_snoc (xs : List Int) (x : Int) : sumN (xs ++ [x]) (xs ++ [x]).length = sumN xs xs.length + x := by
  rw [← totalM_eq, ← totalM_eq, totalM_snoc]
theorem ch_more {xs : List Int} (h : chM xs = true) (h7 : xs.length ≠ 7) : chM (xs ++ [1]) = true := by
  obtain ⟨h0, h1, h2, h3⟩ := chM_at h
  refine chM_of (by simp) (by simp; omega) (fun k _ => ?_) (by rw [sumN_snoc]; omega)
  rw [getD_snoc]
  have := h2 k
  split
  · exact this
  · split <;> omega
theorem cost_hump {xs : List Int} {o u : Int} (h : chM xs = true) (ho : 0 ≤ o) (hu : 0 ≤ u) (s : Nat) : 2 * costS xs (s + 1) o u ≤ costS xs (s + 2) o u + costS xs s o u := by
  have h1 := costS_step xs s o u
  have h2 := costS_step xs (s + 1) o u
  have hm := Int.mul_le_mul_of_nonneg_right (sumS_mono (fun k => ((chM_at h).2.2.1 k).1) (show s + 1 ≤ s + 1 + 1 by omega)) (show 0 ≤ o + u by omega)
  rw [show s + 2 = s + 1 + 1 from rfl]
  omega
theorem costS_bd {xs : List Int} {o u : Int} (h : okO xs o u = true) {s : Nat} (hs : s ≤ 8) : 0 ≤ costS xs s o u ∧ costS xs s o u ≤ 30240 := by
  obtain ⟨h0, a, b, c, d⟩ := okO_at h
  obtain ⟨_, h7, h2, _⟩ := chM_at h0
  have := costK_bd10 (xs := xs) (s := s) h2 ⟨a, b⟩ ⟨c, d⟩ hs xs.length (by omega)
  unfold costS
  omega
theorem stockRes_no {xs : List Int} {s o u : Int} (h : okO xs o u = false ∨ inB 0 7 s = false) : stockRes xs s o u = -1 := by
  unfold stockRes
  rcases h with h | h <;> rw [h] <;> simp
theorem stockRes_yes {xs : List Int} {s : Nat} {o u : Int} (h : okO xs o u = true) (hs : s ≤ 7) : stockRes xs (s : Int) o u = costS xs s o u := by
  unfold stockRes
  rw [h, inB_true (by omega) (by omega)]
  simp
theorem stockRes_bd (xs : List Int) (s o u : Int) : -1 ≤ stockRes xs s o u ∧ stockRes xs s o u ≤ 30240 := by
  unfold stockRes
  cases h : okO xs o u
  · simp
  · cases h2 : inB 0 7 s
    · simp
    · have := costS_bd h (s := s.toNat) (by simp [inB] at h2; omega)
      simp; omega
/-- what FnStockCost asks -/
theorem stock_hump {xs : List Int} {s o u : Int} (h : 0 ≤ stockRes xs s o u) : stockRes xs (s + 1) o u < 0 ∨ stockRes xs (s - 1) o u < 0 ∨ stockRes xs s o u * 2 ≤ stockRes xs (s + 1) o u + stockRes xs (s - 1) o u := by
  cases hk : okO xs o u
  · rw [stockRes_no (.inl hk)] at h; omega
  · rcases Int.lt_or_le 6 s with h1 | h1
    · exact .inl (by rw [stockRes_no (.inr (inB_hi (by omega)))]; omega)
    · rcases Int.lt_or_le s 1 with h2 | h2
      · exact .inr (.inl (by rw [stockRes_no (.inr (inB_lo (by omega)))]; omega))
      · obtain ⟨k, rfl⟩ : ∃ k : Nat, s = ((k + 1 : Nat) : Int) := ⟨(s - 1).toNat, by omega⟩
        obtain ⟨h0, a, b, c, d⟩ := okO_at hk
        have e1 : ((k + 1 : Nat) : Int) + 1 = ((k + 2 : Nat) : Int) := by omega
        have e2 : ((k + 1 : Nat) : Int) - 1 = ((k : Nat) : Int) := by omega
        have := cost_hump h0 a c k
        rw [e1, e2, stockRes_yes hk (by omega), stockRes_yes hk (by omega), stockRes_yes hk (by omega)]
        exact .inr (.inr (by omega))
theorem shareRes_no {xs : List Int} {o u : Int} (h : okO xs o u = false) : shareRes xs o u = -1 := by unfold shareRes; rw [h]; rfl
theorem shareRes_yes {xs : List Int} {o u : Int} (h : okO xs o u = true) : shareRes xs o u = (shareN xs o u : Int) := by unfold shareRes; rw [h]; rfl
theorem share_le {xs : List Int} {o u o' u' : Int} (h : chM xs = true) (ho : 0 ≤ o) (hu : 0 ≤ u) (ho' : 0 ≤ o') (hu' : 0 ≤ u') (hm : ∀ s, metB xs o' u' s = true → metB xs o u s = true) : shareN xs o u ≤ shareN xs o' u' := by
  rcases Nat.lt_or_ge (shareN xs o' u') (shareN xs o u) with g | g
  · have h1 := (share_is h ho hu).2.2 _ g
    rw [hm _ (share_is h ho' hu').2.1] at h1; cases h1
  · exact g
theorem share_under {xs : List Int} {o u : Int} (h : chM xs = true) (ho : 0 ≤ o) (hu : 0 ≤ u) : shareN xs o u ≤ shareN xs o (u + 1) := by
  refine share_le h ho hu ho (by omega) (fun s hs => ?_)
  unfold metB at hs ⊢
  have h1 := of_decide_eq_true hs
  have h2 := sumS_le (fun k => ((chM_at h).2.2.1 k).1) (s + 1)
  rw [show o + (u + 1) = (o + u) + 1 by omega, Int.mul_add, Int.add_mul] at h1
  exact decide_eq_true (by omega)
theorem share_over {xs : List Int} {o u : Int} (h : chM xs = true) (ho : 0 ≤ o) (hu : 0 ≤ u) : shareN xs (o + 1) u ≤ shareN xs o u := by
  refine share_le h (by omega) hu ho hu (fun s hs => ?_)
  unfold metB at hs ⊢
  have h1 := of_decide_eq_true hs
  have h2 := sumS_0 (fun k => ((chM_at h).2.2.1 k).1) (s + 1)
  rw [show o + 1 + u = (o + u) + 1 by omega, Int.mul_add]
  exact decide_eq_true (by omega)
/-- what FnStockByShare asks -/
theorem share_dear {xs : List Int} {o u : Int} (h : 0 ≤ shareRes xs o u) : (shareRes xs o (u + 1) < 0 ∨ shareRes xs o u ≤ shareRes xs o (u + 1)) ∧ (shareRes xs (o + 1) u < 0 ∨ shareRes xs (o + 1) u ≤ shareRes xs o u) ∧ shareRes xs o u < (xs.length : Int) := by
  cases hk : okO xs o u
  · rw [shareRes_no hk] at h; omega
  · obtain ⟨h0, a, b, c, d⟩ := okO_at hk
    refine ⟨?_, ?_, ?_⟩
    · cases h1 : okO xs o (u + 1)
      · exact .inl (by rw [shareRes_no h1]; omega)
      · have := share_under (o := o) (u := u) h0 a c
        exact .inr (by rw [shareRes_yes hk, shareRes_yes h1]; omega)
    · cases h1 : okO xs (o + 1) u
      · exact .inl (by rw [shareRes_no h1]; omega)
      · have := share_over (o := o) (u := u) h0 a c
        exact .inr (by rw [shareRes_yes hk, shareRes_yes h1]; omega)
    · have := (share_is h0 a c).1
      rw [shareRes_yes hk]; omega
theorem shareRes_bd (xs : List Int) (o u : Int) : -1 ≤ shareRes xs o u ∧ shareRes xs o u ≤ 7 := by
  unfold shareRes
  have := (firstB_is (metB xs o u) 7 0).2.1
  unfold shareN
  split <;> omega
/-- what FnBestStock asks of each stock -/
theorem stock_least {xs : List Int} {o u : Int} (h : okO xs o u = true) {s : Nat} (hs : s ≤ 7) : ¬ stockRes xs (s : Int) o u < stockRes xs (shareN xs o u : Int) o u := by
  obtain ⟨h0, a, b, c, d⟩ := okO_at h
  have h1 := (share_is h0 a c).1
  have h2 := (chM_at h0).2.1
  have := cost_least h0 a c s
  rw [stockRes_yes h hs, stockRes_yes h (by omega)]
  omega
def lifeN (xs : List Int) : Nat → Int
  | 0 => 0
  | k + 1 => lifeN xs k + xs.getD k 0 * ((k : Int) + 1)
theorem live_life {xs : List Int} {a : Nat} : ∀ k, k ≤ a → liveN xs a k = lifeN xs k
  | 0, _ => rfl
  | k + 1, h => by rw [liveN, lifeN, live_life k (by omega), Nat.min_eq_left h]; push_cast; rfl
theorem lifeN_bd {xs : List Int} (h : ∀ k, 0 ≤ xs.getD k 0 ∧ xs.getD k 0 ≤ 9) : ∀ k, k ≤ 8 → 0 ≤ lifeN xs k ∧ lifeN xs k ≤ 81 * (k : Int)
  | 0, _ => by simp [lifeN]
  | k + 1, hk => by
    have ih := lifeN_bd h k (by omega)
    have h1 := h k
    have b : 0 ≤ xs.getD k 0 * ((k : Int) + 1) ∧ xs.getD k 0 * ((k : Int) + 1) ≤ 9 * 9 := ⟨Int.mul_nonneg h1.1 (by omega), Int.mul_le_mul h1.2 (by omega) (by omega) (by omega)⟩
    rw [lifeN]; push_cast; omega
theorem rate_late {xs : List Int} {a : Nat} {p f : Int} (h : okO xs p f = true) (ha : a ≤ 7) (hl : xs.length ≤ a) : rateU xs a p f = fU (f * totalM xs).toNat (lifeN xs xs.length).toNat ∧ rateD xs a p f = fD (f * totalM xs).toNat (lifeN xs xs.length).toNat := by
  have h0 := (okO_at h).1
  have h1 := (chM_at h0).1
  have hr : rateFine xs (a : Int) p f = true := by unfold rateFine; rw [h, inB_true (by omega) (by omega)]; rfl
  unfold rateU rateD
  rw [hr, if_pos rfl, if_pos rfl]
  have e1 : ageU xs p f (a : Int).toNat = (f * totalM xs).toNat := by
    unfold ageU costA
    rw [totalM_eq, show (a : Int).toNat = a by omega, sumN_past xs hl, Int.sub_self, Int.mul_zero, Int.add_zero]
  have e2 : ageD xs (a : Int).toNat = (lifeN xs xs.length).toNat := by
    unfold ageD
    rw [show (a : Int).toNat = a by omega, ← live_time, live_life _ hl]
  rw [e1, e2]
  exact ⟨rfl, rfl⟩
theorem life_pos {xs : List Int} (h : chM xs = true) : 1 ≤ lifeN xs xs.length ∧ lifeN xs xs.length ≤ 567 := by
  obtain ⟨_, h1, h2, _⟩ := chM_at h
  have b := lifeN_bd h2 xs.length (by omega)
  have e := live_time xs 7
  rw [live_life _ h1] at e
  have := time_pos h (show 1 ≤ 7 by omega)
  omega
theorem rate_yes {xs : List Int} {a : Nat} {p f : Int} (h : okO xs p f = true) (h1 : 1 ≤ a) (h7 : a ≤ 7) : rateFine xs (a : Int) p f = true ∧ rateU xs a p f = fU (ageU xs p f a) (ageD xs a) ∧ rateD xs a p f = fD (ageU xs p f a) (ageD xs a) := by
  have hr : rateFine xs (a : Int) p f = true := by unfold rateFine; rw [h, inB_true (by omega) (by omega)]; rfl
  unfold rateU rateD
  rw [hr, if_pos rfl, if_pos rfl]
  exact ⟨rfl, rfl, rfl⟩
theorem rate_no {xs : List Int} {a p f : Int} (h : rateFine xs a p f = false) : rateU xs a p f = 0 ∧ rateD xs a p f = 0 := by
  unfold rateU rateD; rw [h]; exact ⟨rfl, rfl⟩
theorem rate_bd {xs : List Int} {a p f : Int} : rateU xs a p f ≤ 3780 ∧ rateD xs a p f ≤ 441 := by
  cases hf : rateFine xs a p f
  · obtain ⟨e1, e2⟩ := rate_no hf; omega
  · have hf' := hf
    unfold rateFine at hf'
    simp only [Bool.and_eq_true] at hf'
    have ha : 1 ≤ a ∧ a ≤ 7 := by simpa [inB] using hf'.2
    obtain ⟨k, rfl⟩ : ∃ k : Nat, a = (k : Int) := ⟨a.toNat, by omega⟩
    obtain ⟨_, e1, e2⟩ := rate_yes (a := k) hf'.1 (by omega) (by omega)
    have b := f_bd (T := ageU xs p f k) (ageD_pos (okO_at hf'.1).1 (show 1 ≤ k by omega))
    have b1 := (ageU_is hf'.1 k).2
    have b2 := (ageD_is (okO_at hf'.1).1 k).2
    omega
/-- what FnBestAge asks of each age -/
theorem age_best {xs : List Int} {p f : Int} (h : okO xs p f = true) {a : Nat} (h1 : 1 ≤ a) (h7 : a ≤ 7) :
    ¬ (rateU xs a p f : Int) * (rateD xs (bestA xs p f 6) p f : Int) < (rateU xs (bestA xs p f 6) p f : Int) * (rateD xs a p f : Int) ∧ (a < bestA xs p f 6 → ¬ (rateU xs a p f = rateU xs (bestA xs p f 6) p f ∧ rateD xs a p f = rateD xs (bestA xs p f 6) p f)) := by
  have h0 := (okO_at h).1
  obtain ⟨i1, i2, i3⟩ := bestA_is (p := p) (f := f) h0 6
  obtain ⟨j1, j2⟩ := i3 a h1 h7
  have d1 := ageD_pos h0 h1
  have d2 := ageD_pos h0 i1
  obtain ⟨_, e1, e2⟩ := rate_yes h h1 h7
  obtain ⟨_, e3, e4⟩ := rate_yes h i1 i2
  rw [e1, e2, e3, e4]
  constructor
  · have := (f_le (T := ageU xs p f (bestA xs p f 6)) (T' := ageU xs p f a) d2 d1).2 j1
    have : (fU (ageU xs p f (bestA xs p f 6)) (ageD xs (bestA xs p f 6)) : Int) * (fD (ageU xs p f a) (ageD xs a) : Int) ≤ (fU (ageU xs p f a) (ageD xs a) : Int) * (fD (ageU xs p f (bestA xs p f 6)) (ageD xs (bestA xs p f 6)) : Int) := by exact_mod_cast this
    omega
  · intro hl hh
    have hlt := j2 hl
    have := (f_le (T := ageU xs p f a) (T' := ageU xs p f (bestA xs p f 6)) d1 d2).1 (by rw [hh.1, hh.2]; exact Nat.le_refl _)
    omega
theorem age_never {xs : List Int} {p f : Int} (h : okO xs p f = true) (hpf : f ≤ p) : rateU xs (bestA xs p f 6) p f = rateU xs (7 : Nat) p f ∧ rateD xs (bestA xs p f 6) p f = rateD xs (7 : Nat) p f := by
  have h0 := (okO_at h).1
  obtain ⟨i1, i2, i3⟩ := bestA_is (p := p) (f := f) h0 6
  have j := (i3 7 (by omega) (by omega)).1
  have j' := never_best h hpf i2
  obtain ⟨_, e1, e2⟩ := rate_yes h (show 1 ≤ 7 by omega) (show 7 ≤ 7 by omega)
  obtain ⟨_, e3, e4⟩ := rate_yes h i1 i2
  rw [e1, e2, e3, e4]
  exact f_eq (ageD_pos h0 i1) (ageD_pos h0 (by omega)) (by omega)
theorem bestARes_no {xs : List Int} {p f : Int} (h : okO xs p f = false) : bestARes xs p f = -1 := by unfold bestARes; rw [h]; rfl
theorem bestARes_yes {xs : List Int} {p f : Int} (h : okO xs p f = true) : bestARes xs p f = (bestA xs p f 6 : Int) := by unfold bestARes; rw [h]; rfl
theorem bestA_bd {xs : List Int} {p f : Int} (h : okO xs p f = true) : 1 ≤ bestA xs p f 6 ∧ bestA xs p f 6 ≤ 7 := by
  obtain ⟨i1, i2, _⟩ := bestA_is (p := p) (f := f) (okO_at h).1 6
  exact ⟨i1, i2⟩

-- sure wants
def sureM (n v : Nat) : List Int := (List.replicate n (0 : Int)).set v 3
theorem sure_len (n v : Nat) : (sureM n v).length = n := by simp [sureM]
theorem sure_getD {n v : Nat} (hv : v < n) (k : Nat) : (sureM n v).getD k 0 = if k = v then 3 else 0 := by
  unfold sureM
  rw [List.getD_eq_getElem?_getD, List.getElem?_set]
  by_cases h : v = k
  · subst h; simp [hv]
  · rw [if_neg h, if_neg (Ne.symm h), List.getElem?_replicate]
    split <;> rfl
theorem sure_sum {n v : Nat} (hv : v < n) : ∀ k, sumN (sureM n v) k = if v < k then 3 else 0
  | 0 => rfl
  | k + 1 => by
    rw [sumN, sure_sum hv k, sure_getD hv]
    by_cases h : k = v
    · subst h; simp
    · rw [if_neg h]
      by_cases h1 : v < k
      · rw [if_pos h1, if_pos (by omega)]; rfl
      · rw [if_neg h1, if_neg (by omega)]; rfl
theorem sure_ok {n v : Nat} {o u : Int} (hv : v < n) (hn : n ≤ 7) (ho : 1 ≤ o ∧ o ≤ 30) (hu : 1 ≤ u ∧ u ≤ 30) : okO (sureM n v) o u = true := by
  refine okO_of (chM_of (by rw [sure_len]; omega) (by rw [sure_len]; omega) (fun k _ => ?_) ?_) (by omega) (by omega)
  · rw [sure_getD hv]; split <;> omega
  · rw [sure_len, sure_sum hv, if_pos hv]; omega
theorem sure_share {n v : Nat} {o u : Int} (hv : v < n) (hn : n ≤ 7) (ho : 1 ≤ o ∧ o ≤ 30) (hu : 1 ≤ u ∧ u ≤ 30) : shareN (sureM n v) o u = v := by
  refine share_unique (fun j hj => ?_) ?_ (by omega)
  · unfold metB; rw [sure_len, sure_sum hv, sure_sum hv, if_pos hv, if_neg (by omega)]
    exact decide_eq_false (by omega)
  · unfold metB; rw [sure_len, sure_sum hv, sure_sum hv, if_pos hv, if_pos (by omega)]
    exact decide_eq_true (by omega)
theorem sure_cost {n v : Nat} {o u : Int} (hv : v < n) : costS (sureM n v) v o u = 0 := by
  have : ∀ k, costK (sureM n v) v o u k = 0 := fun k => by
    induction k with
    | zero => rfl
    | succ k ih =>
      rw [costK, ih, sure_getD hv]
      by_cases h : k = v
      · subst h; simp [unitC]
      · rw [if_neg h]; simp
  exact this _
end Go.Proofs.Ytkjmpkincaainab
