import Derived.Test.YtkjmpkincaainadRows
import Derived.Test.YtkjmpkincaainadM0
import Derived.Test.YtkjmpkincaainadM1
import Derived.Test.YtkjmpkincaainadM2
import Derived.Test.YtkjmpkincaainadM7
import Derived.WalkKit
import Derived.LoopTactic
import Derived.Outline
import Derived.WalkSpells
import Derived.WalkLawsBesides
import Derived.Lib.Hide
namespace Go.Proofs.Ytkjmpkincaainad
open Go.RowKit

/-- chances -/
def chM (xs : List Int) : Bool := decide (1 ≤ xs.length ∧ xs.length ≤ 7) && allIn 0 9 xs && decide (0 < totalM xs)
def okO (xs : List Int) (o u : Int) : Bool := chM xs && inB 0 30 o && inB 0 30 u
theorem chM_at {xs : List Int} (h : chM xs = true) : 1 ≤ xs.length ∧ xs.length ≤ 7 ∧ (∀ k, 0 ≤ xs.getD k 0 ∧ xs.getD k 0 ≤ 9) ∧ 0 < sumN xs xs.length := by
  unfold chM at h
  simp only [Bool.and_eq_true, decide_eq_true_eq] at h
  exact ⟨h.1.1.1, h.1.1.2, fun k => allIn_getD h.1.2 (by omega) (by omega) k, by rw [← totalM_eq]; exact h.2⟩
theorem chM_of {xs : List Int} (h0 : 1 ≤ xs.length) (h1 : xs.length ≤ 7) (h2 : ∀ k, k < xs.length → 0 ≤ xs.getD k 0 ∧ xs.getD k 0 ≤ 9) (h3 : 0 < sumN xs xs.length) : chM xs = true := by
  unfold chM
  rw [totalM_eq, allIn_of h2]
  simp [h0, h1, h3]
theorem okO_at {xs : List Int} {o u : Int} (h : okO xs o u = true) : chM xs = true ∧ 0 ≤ o ∧ o ≤ 30 ∧ 0 ≤ u ∧ u ≤ 30 := by
  unfold okO inB at h
  simp only [Bool.and_eq_true, decide_eq_true_eq] at h
  exact ⟨h.1.1, h.1.2.1, h.1.2.2, h.2.1, h.2.2⟩
theorem okO_of {xs : List Int} {o u : Int} (h : chM xs = true) (h1 : 0 ≤ o ∧ o ≤ 30) (h2 : 0 ≤ u ∧ u ≤ 30) : okO xs o u = true := by
  unfold okO inB; simp [h, h1, h2]
theorem sumS_mono {xs : List Int} (h : ∀ k, 0 ≤ xs.getD k 0) {a b : Nat} (hab : a ≤ b) : sumN xs a ≤ sumN xs b := by
  induction b with
  | zero => have : a = 0 := by omega
            subst this; exact Int.le_refl _
  | succ b ih =>
    rcases Nat.lt_or_ge b a with h1 | h1
    · have : a = b + 1 := by omega
      subst this; exact Int.le_refl _
    · have := ih h1; have := h b; rw [sumN]; omega
theorem sumN_past (xs : List Int) {k : Nat} (h : xs.length ≤ k) : sumN xs k = sumN xs xs.length := by
  induction k with
  | zero => have : xs.length = 0 := by omega
            rw [this]
  | succ k ih =>
    rcases Nat.lt_or_ge k xs.length with h1 | h1
    · have : xs.length = k + 1 := by omega
      rw [this]
    · rw [sumN, ih h1, getD_past h1]; omega
theorem sumS_le {xs : List Int} (h : ∀ k, 0 ≤ xs.getD k 0) (k : Nat) : sumN xs k ≤ sumN xs xs.length := by
  rcases Nat.lt_or_ge k xs.length with h1 | h1
  · exact sumS_mono h (by omega)
  · rw [sumN_past xs h1]; exact Int.le_refl _
theorem sumS_0 {xs : List Int} (h : ∀ k, 0 ≤ xs.getD k 0) (k : Nat) : 0 ≤ sumN xs k := by
  have := sumS_mono h (Nat.zero_le k); simpa [sumN] using this
theorem ch_T {xs : List Int} (h : chM xs = true) : 1 ≤ sumN xs xs.length ∧ sumN xs xs.length ≤ 63 := by
  obtain ⟨h0, h1, h2, h3⟩ := chM_at h
  have := sumN_bd h2 xs.length
  omega

/-- what one want of v costs at a stock of s -/
def unitC (s v : Nat) (o u : Int) : Int := o * ((s - v : Nat) : Int) + u * ((v - s : Nat) : Int)
def costK (xs : List Int) (s : Nat) (o u : Int) : Nat → Int
  | 0 => 0
  | k + 1 => costK xs s o u k + xs.getD k 0 * unitC s k o u
def costS (xs : List Int) (s : Nat) (o u : Int) : Int := costK xs s o u xs.length
def stockRes (xs : List Int) (s : Int) (o u : Int) : Int := if okO xs o u && inB 0 7 s then costS xs s.toNat o u else -1
theorem unit_bd {s v : Nat} {o u : Int} (ho : 0 ≤ o ∧ o ≤ 30) (hu : 0 ≤ u ∧ u ≤ 30) (hs : s ≤ 8) (hv : v ≤ 8) : 0 ≤ unitC s v o u ∧ unitC s v o u ≤ 480 := by
  unfold unitC
  have b1 : 0 ≤ o * ((s - v : Nat) : Int) ∧ o * ((s - v : Nat) : Int) ≤ 30 * 8 := ⟨Int.mul_nonneg ho.1 (by omega), Int.mul_le_mul ho.2 (by omega) (by omega) (by omega)⟩
  have b2 : 0 ≤ u * ((v - s : Nat) : Int) ∧ u * ((v - s : Nat) : Int) ≤ 30 * 8 := ⟨Int.mul_nonneg hu.1 (by omega), Int.mul_le_mul hu.2 (by omega) (by omega) (by omega)⟩
  omega
theorem termC_bd {x c : Int} (hx : 0 ≤ x ∧ x ≤ 9) (hc : 0 ≤ c ∧ c ≤ 480) : 0 ≤ x * c ∧ x * c ≤ 4320 :=
  ⟨Int.mul_nonneg hx.1 hc.1, by have := Int.mul_le_mul hx.2 hc.2 hc.1 (by omega : (0 : Int) ≤ 9); omega⟩
theorem costK_bd10 {xs : List Int} {s : Nat} {o u : Int} (hx : ∀ k, 0 ≤ xs.getD k 0 ∧ xs.getD k 0 ≤ 9) (ho : 0 ≤ o ∧ o ≤ 30) (hu : 0 ≤ u ∧ u ≤ 30) (hs : s ≤ 8) : ∀ k : Nat, k ≤ 8 → 0 ≤ costK xs s o u k ∧ costK xs s o u k ≤ 4320 * (k : Int)
  | 0, _ => by simp [costK]
  | k + 1, hk => by
    have ih := costK_bd10 hx ho hu hs k (by omega)
    have := termC_bd (hx k) (unit_bd (s := s) (v := k) ho hu hs (by omega))
    rw [costK]; push_cast; omega
theorem costK_step {xs : List Int} {s : Nat} {o u : Int} : ∀ k : Nat, costK xs (s + 1) o u k = costK xs s o u k + (o + u) * sumN xs (min (s + 1) k) - u * sumN xs k
  | 0 => by simp [costK, sumN]
  | k + 1 => by
    rw [costK, costK, costK_step k, sumN]
    rcases Nat.lt_or_ge s k with h | h
    · rw [Nat.min_eq_left (by omega), Nat.min_eq_left (by omega)]
      have e1 : unitC (s + 1) k o u = unitC s k o u - u := by
        unfold unitC
        rw [show s + 1 - k = 0 by omega, show s - k = 0 by omega, show ((k - s : Nat) : Int) = ((k - (s + 1) : Nat) : Int) + 1 by omega, Int.mul_add]
        omega
      rw [e1, Int.mul_sub, Int.mul_add u, Int.mul_comm u (xs.getD k 0)]
      omega
    · rw [Nat.min_eq_right (by omega), Nat.min_eq_right (by omega), sumN]
      have e1 : unitC (s + 1) k o u = unitC s k o u + o := by
        unfold unitC
        rw [show k - (s + 1) = 0 by omega, show k - s = 0 by omega, show ((s + 1 - k : Nat) : Int) = ((s - k : Nat) : Int) + 1 by omega, Int.mul_add]
        omega
      rw [e1, Int.mul_add, Int.mul_add (o + u), Int.mul_add u, Int.add_mul o u (xs.getD k 0), Int.mul_comm u (xs.getD k 0), Int.mul_comm o (xs.getD k 0)]
      omega
theorem costS_step (xs : List Int) (s : Nat) (o u : Int) : costS xs (s + 1) o u = costS xs s o u + (sumN xs (s + 1) * (o + u) - u * sumN xs xs.length) := by
  unfold costS
  rw [costK_step]
  have e : sumN xs (min (s + 1) xs.length) = sumN xs (s + 1) := by
    rcases Nat.lt_or_ge (s + 1) xs.length with h | h
    · rw [Nat.min_eq_left (by omega)]
    · rw [Nat.min_eq_right h, sumN_past xs h]
  rw [e, Int.mul_comm (o + u)]
  omega

/-- the first from s on at which p holds, or the end -/
def firstB (p : Nat → Bool) : Nat → Nat → Nat
  | 0, s => s
  | n + 1, s => if p s then s else firstB p n (s + 1)
theorem firstB_is (p : Nat → Bool) : ∀ n s, s ≤ firstB p n s ∧ firstB p n s ≤ s + n ∧ (∀ j, s ≤ j → j < firstB p n s → p j = false) ∧ (firstB p n s < s + n → p (firstB p n s) = true)
  | 0, s => ⟨Nat.le_refl _, Nat.le_refl _, fun j h1 h2 => by simp only [firstB] at h2; omega, fun h => by simp only [firstB] at h; omega⟩
  | n + 1, s => by
    cases h : p s
    · have e : firstB p (n + 1) s = firstB p n (s + 1) := by simp [firstB, h]
      obtain ⟨i1, i2, i3, i4⟩ := firstB_is p n (s + 1)
      rw [e]
      refine ⟨by omega, by omega, fun j h1 h2 => ?_, fun h2 => i4 (by omega)⟩
      rcases Nat.eq_or_lt_of_le h1 with h3 | h3
      · rw [← h3]; exact h
      · exact i3 j (by omega) h2
    · have e : firstB p (n + 1) s = s := by simp [firstB, h]
      rw [e]
      exact ⟨Nat.le_refl _, by omega, fun j h1 h2 => by omega, fun _ => h⟩
theorem firstB_eq {p : Nat → Bool} {n r : Nat} (h1 : ∀ j, j < r → p j = false) (h2 : p r = true) (h3 : r < n) : firstB p n 0 = r := by
  obtain ⟨_, i2, i3, i4⟩ := firstB_is p n 0
  rcases Nat.lt_trichotomy (firstB p n 0) r with h | h | h
  · rw [h1 _ h] at i4; exact absurd (i4 (by omega)) (by simp)
  · exact h
  · rw [i3 r (Nat.zero_le _) h] at h2; cases h2

/-- the share is met at s -/
def metB (xs : List Int) (o u : Int) (s : Nat) : Bool := decide (u * sumN xs xs.length ≤ sumN xs (s + 1) * (o + u))
def shareN (xs : List Int) (o u : Int) : Nat := firstB (metB xs o u) 7 0
def shareRes (xs : List Int) (o u : Int) : Int := if okO xs o u then (shareN xs o u : Int) else -1
theorem met_mono {xs : List Int} {o u : Int} (hx : ∀ k, 0 ≤ xs.getD k 0) (ho : 0 ≤ o) (hu : 0 ≤ u) {s t : Nat} (hst : s ≤ t) (h : metB xs o u s = true) : metB xs o u t = true := by
  unfold metB at h ⊢
  have h := of_decide_eq_true h
  have := Int.mul_le_mul_of_nonneg_right (sumS_mono hx (show s + 1 ≤ t + 1 by omega)) (show 0 ≤ o + u by omega)
  exact decide_eq_true (by omega)
theorem met_last {xs : List Int} {o u : Int} (h : chM xs = true) (ho : 0 ≤ o) (hu : 0 ≤ u) {s : Nat} (hs : xs.length ≤ s + 1) : metB xs o u s = true := by
  obtain ⟨_, _, h2, _⟩ := chM_at h
  unfold metB
  rw [sumN_past xs hs]
  have b := Int.mul_nonneg ho (sumS_0 (fun k => (h2 k).1) xs.length)
  have e : sumN xs xs.length * (o + u) = o * sumN xs xs.length + u * sumN xs xs.length := by rw [Int.mul_comm, Int.add_mul]
  rw [e]
  exact decide_eq_true (by omega)
theorem share_is {xs : List Int} {o u : Int} (h : chM xs = true) (ho : 0 ≤ o) (hu : 0 ≤ u) : shareN xs o u < xs.length ∧ metB xs o u (shareN xs o u) = true ∧ ∀ j, j < shareN xs o u → metB xs o u j = false := by
  obtain ⟨h0, h1, h2, h3⟩ := chM_at h
  obtain ⟨_, i2, i3, i4⟩ := firstB_is (metB xs o u) 7 0
  have hl : shareN xs o u < xs.length := by
    rcases Nat.lt_or_ge (shareN xs o u) xs.length with g | g
    · exact g
    · have := i3 (xs.length - 1) (Nat.zero_le _) (by unfold shareN at g; omega)
      rw [met_last h ho hu (by omega)] at this; cases this
  exact ⟨hl, i4 (by unfold shareN at hl; omega), fun j hj => i3 j (Nat.zero_le _) hj⟩
theorem share_unique {xs : List Int} {o u : Int} {r : Nat} (h1 : ∀ j, j < r → metB xs o u j = false) (h2 : metB xs o u r = true) (h3 : r < 7) : shareN xs o u = r := firstB_eq h1 h2 h3
theorem met_cost {xs : List Int} {o u : Int} {s : Nat} : metB xs o u s = decide (costS xs s o u ≤ costS xs (s + 1) o u) := by
  unfold metB
  rw [costS_step]
  apply decide_eq_decide.2
  omega
theorem cost_up {xs : List Int} {o u : Int} (h : chM xs = true) (ho : 0 ≤ o) (hu : 0 ≤ u) : ∀ d, costS xs (shareN xs o u) o u ≤ costS xs (shareN xs o u + d) o u
  | 0 => Int.le_refl _
  | d + 1 => by
    have ih := cost_up h ho hu d
    have hm := met_mono (s := shareN xs o u) (t := shareN xs o u + d) (fun k => ((chM_at h).2.2.1 k).1) ho hu (by omega) (share_is h ho hu).2.1
    rw [met_cost] at hm
    have := of_decide_eq_true hm
    rw [← Nat.add_assoc]; omega
theorem cost_down {xs : List Int} {o u : Int} {s : Nat} (h : chM xs = true) (ho : 0 ≤ o) (hu : 0 ≤ u) (hs : s < shareN xs o u) : costS xs (s + 1) o u < costS xs s o u := by
  have := (share_is h ho hu).2.2 s hs
  rw [met_cost] at this
  have := of_decide_eq_false this
  omega
theorem cost_down2 {xs : List Int} {o u : Int} (h : chM xs = true) (ho : 0 ≤ o) (hu : 0 ≤ u) {s : Nat} : ∀ d, s + d = shareN xs o u → costS xs (shareN xs o u) o u ≤ costS xs s o u := by
  intro d
  induction d generalizing s with
  | zero => intro e; have : s = shareN xs o u := by omega
            rw [this]; exact Int.le_refl _
  | succ d ih => intro e; have := ih (s := s + 1) (by omega); have := cost_down (s := s) h ho hu (by omega); omega
theorem cost_least {xs : List Int} {o u : Int} (h : chM xs = true) (ho : 0 ≤ o) (hu : 0 ≤ u) (s : Nat) : costS xs (shareN xs o u) o u ≤ costS xs s o u := by
  rcases Nat.lt_or_ge s (shareN xs o u) with g | g
  · exact cost_down2 h ho hu (shareN xs o u - s) (by omega)
  · have := cost_up h ho hu (s - shareN xs o u)
    rwa [show shareN xs o u + (s - shareN xs o u) = s by omega] at this
/-- the walk from 0 up that keeps the first best one stands at the share, or before it -/
theorem best_step {xs : List Int} {o u : Int} (h : chM xs = true) (ho : 0 ≤ o) (hu : 0 ≤ u) {k : Nat} :
    (if costS xs k o u < costS xs (min (shareN xs o u) (k - 1)) o u then k else min (shareN xs o u) (k - 1)) = min (shareN xs o u) k := by
  rcases Nat.lt_or_ge (shareN xs o u) k with g | g
  · rw [Nat.min_eq_left (by omega), Nat.min_eq_left (by omega), if_neg]
    have := cost_least h ho hu k
    omega
  · rw [Nat.min_eq_right (by omega), Nat.min_eq_right g]
    cases k with
    | zero => simp
    | succ k =>
      rw [if_pos]
      exact cost_down h ho hu (by omega)

-- ages
/-- what is lived in the first a units of time -/
def liveN (xs : List Int) (a : Nat) : Nat → Int
  | 0 => 0
  | k + 1 => liveN xs a k + xs.getD k 0 * ((min (k + 1) a : Nat) : Int)
def timeN (xs : List Int) : Nat → Int
  | 0 => 0
  | a + 1 => timeN xs a + (sumN xs xs.length - sumN xs a)
theorem live_step {xs : List Int} {a : Nat} : ∀ k, liveN xs (a + 1) k = liveN xs a k + (sumN xs k - sumN xs (min a k))
  | 0 => by simp [liveN, sumN]
  | k + 1 => by
    rw [liveN, liveN, live_step k, sumN]
    rcases Nat.lt_or_ge k a with h | h
    · rw [Nat.min_eq_left (show k + 1 ≤ a + 1 by omega), Nat.min_eq_left (show k + 1 ≤ a by omega), Nat.min_eq_right (show k ≤ a by omega), Nat.min_eq_right (show k + 1 ≤ a by omega), sumN]
      omega
    · rw [Nat.min_eq_right (show a + 1 ≤ k + 1 by omega), Nat.min_eq_right (show a ≤ k + 1 by omega), Nat.min_eq_left (show a ≤ k by omega), Nat.min_eq_left (show a ≤ k + 1 by omega)]
      rw [show ((a + 1 : Nat) : Int) = (a : Int) + 1 by omega, Int.mul_add]
      omega
theorem live_time (xs : List Int) : ∀ a, liveN xs a xs.length = timeN xs a
  | 0 => by
    have : ∀ k, liveN xs 0 k = 0 := fun k => by induction k with
      | zero => rfl
      | succ k ih => rw [liveN, ih]; simp
    rw [this, timeN]
  | a + 1 => by
    rw [live_step, live_time xs a, timeN]
    have e : sumN xs (min a xs.length) = sumN xs a := by
      rcases Nat.lt_or_ge a xs.length with h | h
      · rw [Nat.min_eq_left (by omega)]
      · rw [Nat.min_eq_right h, sumN_past xs h]
    rw [e]
def costA (xs : List Int) (p f : Int) (a : Nat) : Int := f * sumN xs a + p * (sumN xs xs.length - sumN xs a)
theorem time_mono {xs : List Int} (h : ∀ k, 0 ≤ xs.getD k 0) {a b : Nat} (hab : a ≤ b) : timeN xs a ≤ timeN xs b := by
  induction b with
  | zero => have : a = 0 := by omega
            subst this; exact Int.le_refl _
  | succ b ih =>
    rcases Nat.lt_or_ge b a with h1 | h1
    · have : a = b + 1 := by omega
      subst this; exact Int.le_refl _
    · have := ih h1; have := sumS_le h b; rw [timeN]; omega
theorem time_bd {xs : List Int} (h : chM xs = true) : ∀ a : Nat, 0 ≤ timeN xs a ∧ timeN xs a ≤ 63 * (a : Int)
  | 0 => by simp [timeN]
  | a + 1 => by
    have ih := time_bd h a
    have h1 := sumS_le (fun k => ((chM_at h).2.2.1 k).1) a
    have h2 := sumS_0 (fun k => ((chM_at h).2.2.1 k).1) a
    have h3 := ch_T h
    rw [timeN]; push_cast; omega
theorem time_pos {xs : List Int} (h : chM xs = true) {a : Nat} (ha : 1 ≤ a) : 1 ≤ timeN xs a := by
  have h1 := time_mono (fun k => ((chM_at h).2.2.1 k).1) ha
  have h3 := ch_T h
  have : timeN xs 1 = sumN xs xs.length := by simp [timeN, sumN]
  omega
theorem costA_bd {xs : List Int} {p f : Int} (h : chM xs = true) (hp : 0 ≤ p ∧ p ≤ 30) (hf : 0 ≤ f ∧ f ≤ 30) (a : Nat) : 0 ≤ costA xs p f a ∧ costA xs p f a ≤ 3780 := by
  have h1 := sumS_le (fun k => ((chM_at h).2.2.1 k).1) a
  have h2 := sumS_0 (fun k => ((chM_at h).2.2.1 k).1) a
  have h3 := ch_T h
  have b1 : 0 ≤ f * sumN xs a ∧ f * sumN xs a ≤ 30 * 63 := ⟨Int.mul_nonneg hf.1 h2, Int.mul_le_mul hf.2 (by omega) h2 (by omega)⟩
  have b2 : 0 ≤ p * (sumN xs xs.length - sumN xs a) ∧ p * (sumN xs xs.length - sumN xs a) ≤ 30 * 63 := ⟨Int.mul_nonneg hp.1 (by omega), Int.mul_le_mul hp.2 (by omega) (by omega) (by omega)⟩
  unfold costA; omega
def ageU (xs : List Int) (p f : Int) (a : Nat) : Nat := (costA xs p f a).toNat
def ageD (xs : List Int) (a : Nat) : Nat := (timeN xs a).toNat
theorem ageU_is {xs : List Int} {p f : Int} (h : okO xs p f = true) (a : Nat) : (ageU xs p f a : Int) = costA xs p f a ∧ ageU xs p f a ≤ 3780 := by
  obtain ⟨h0, hp, hp2, hf, hf2⟩ := okO_at h
  have := costA_bd (a := a) h0 ⟨hp, hp2⟩ ⟨hf, hf2⟩
  unfold ageU; omega
theorem ageD_is {xs : List Int} (h : chM xs = true) (a : Nat) : (ageD xs a : Int) = timeN xs a ∧ ageD xs a ≤ 63 * a := by
  have := time_bd h a
  unfold ageD; omega
theorem ageD_pos {xs : List Int} (h : chM xs = true) {a : Nat} (ha : 1 ≤ a) : 1 ≤ ageD xs a := by
  have := time_pos h ha
  unfold ageD; omega
def rateFine (xs : List Int) (a p f : Int) : Bool := okO xs p f && inB 1 7 a
def rateU (xs : List Int) (a p f : Int) : Nat := if rateFine xs a p f then fU (ageU xs p f a.toNat) (ageD xs a.toNat) else 0
def rateD (xs : List Int) (a p f : Int) : Nat := if rateFine xs a p f then fD (ageU xs p f a.toNat) (ageD xs a.toNat) else 0
/-- the first best age of 1 .. k + 1 -/
def bestA (xs : List Int) (p f : Int) : Nat → Nat
  | 0 => 1
  | k + 1 => if ageU xs p f (k + 2) * ageD xs (bestA xs p f k) < ageU xs p f (bestA xs p f k) * ageD xs (k + 2) then k + 2 else bestA xs p f k
def bestARes (xs : List Int) (p f : Int) : Int := if okO xs p f then (bestA xs p f 6 : Int) else -1
theorem q_le {a b c d e f : Nat} (h1 : a * d ≤ c * b) (h2 : c * f ≤ e * d) (hd : 1 ≤ d) : a * f ≤ e * b := by
  refine Nat.le_of_mul_le_mul_right (c := d) ?_ hd
  calc a * f * d = (a * d) * f := by rw [Nat.mul_right_comm]
    _ ≤ (c * b) * f := Nat.mul_le_mul_right _ h1
    _ = (c * f) * b := by rw [Nat.mul_right_comm]
    _ ≤ (e * d) * b := Nat.mul_le_mul_right _ h2
    _ = e * b * d := by rw [Nat.mul_right_comm]
theorem q_lt {a b c d e f : Nat} (h1 : a * d < c * b) (h2 : c * f ≤ e * d) (hd : 1 ≤ d) (hf : 1 ≤ f) : a * f < e * b := by
  refine Nat.lt_of_mul_lt_mul_right (a := d) ?_
  calc a * f * d = (a * d) * f := by rw [Nat.mul_right_comm]
    _ < (c * b) * f := Nat.mul_lt_mul_of_pos_right h1 hf
    _ = (c * f) * b := by rw [Nat.mul_right_comm]
    _ ≤ (e * d) * b := Nat.mul_le_mul_right _ h2
    _ = e * b * d := by rw [Nat.mul_right_comm]
theorem bestA_is {xs : List Int} {p f : Int} (h : chM xs = true) : ∀ k, 1 ≤ bestA xs p f k ∧ bestA xs p f k ≤ k + 1 ∧ ∀ a, 1 ≤ a → a ≤ k + 1 →
    ageU xs p f (bestA xs p f k) * ageD xs a ≤ ageU xs p f a * ageD xs (bestA xs p f k) ∧ (a < bestA xs p f k → ageU xs p f (bestA xs p f k) * ageD xs a < ageU xs p f a * ageD xs (bestA xs p f k))
  | 0 => ⟨Nat.le_refl _, Nat.le_refl _, fun a h1 h2 => by
      have : a = 1 := by omega
      subst this; exact ⟨Nat.le_refl _, fun h => absurd h (by simp [bestA])⟩⟩
  | k + 1 => by
    obtain ⟨i1, i2, i3⟩ := bestA_is (p := p) (f := f) h k
    by_cases hc : ageU xs p f (k + 2) * ageD xs (bestA xs p f k) < ageU xs p f (bestA xs p f k) * ageD xs (k + 2)
    · have e : bestA xs p f (k + 1) = k + 2 := by rw [bestA, if_pos hc]
      rw [e]
      refine ⟨by omega, by omega, fun a h1 h2 => ?_⟩
      rcases Nat.eq_or_lt_of_le h2 with h3 | h3
      · subst h3; exact ⟨Nat.le_refl _, fun h => absurd h (by omega)⟩
      · have hl := q_lt hc (i3 a h1 (by omega)).1 (ageD_pos h i1) (ageD_pos h h1)
        exact ⟨Nat.le_of_lt hl, fun _ => hl⟩
    · have e : bestA xs p f (k + 1) = bestA xs p f k := by rw [bestA, if_neg hc]
      rw [e]
      refine ⟨i1, by omega, fun a h1 h2 => ?_⟩
      rcases Nat.eq_or_lt_of_le h2 with h3 | h3
      · subst h3; exact ⟨Nat.le_of_not_lt hc, fun h => absurd h (by omega)⟩
      · exact i3 a h1 (by omega)
/-- renewing that is no cheaper than failing pays at no age -/
theorem never_best {xs : List Int} {p f : Int} (h : okO xs p f = true) (hpf : f ≤ p) {a : Nat} (ha : a ≤ 7) : ageU xs p f 7 * ageD xs a ≤ ageU xs p f a * ageD xs 7 := by
  obtain ⟨h0, hp, hp2, hf, hf2⟩ := okO_at h
  have hx := fun k => ((chM_at h0).2.2.1 k).1
  have hT : sumN xs 7 = sumN xs xs.length := sumN_past xs (chM_at h0).2.1
  have h1 : ageU xs p f 7 ≤ ageU xs p f a := by
    have e1 := (ageU_is h 7).1
    have e2 := (ageU_is h a).1
    have : costA xs p f 7 ≤ costA xs p f a := by
      unfold costA
      rw [hT]
      have := sumS_le hx a
      have g := Int.mul_le_mul_of_nonneg_right hpf (show 0 ≤ sumN xs xs.length - sumN xs a by omega)
      rw [Int.mul_sub] at g
      rw [Int.sub_self, Int.mul_zero]
      omega
    omega
  have h2 : ageD xs a ≤ ageD xs 7 := by
    have e1 := (ageD_is h0 7).1
    have e2 := (ageD_is h0 a).1
    have := time_mono hx ha
    omega
  exact Nat.mul_le_mul h1 h2
end Go.Proofs.Ytkjmpkincaainad
namespace Go.Proofs.Ytkjmpkincaainad
open Go.RowKit

theorem getD_snoc (xs : List Int) (x : Int) (k : Nat) : (xs ++ [x]).getD k 0 = if k < xs.length then xs.getD k 0 else if k = xs.length then x else 0 := by
  rw [List.getD_eq_getElem?_getD, List.getD_eq_getElem?_getD, List.getElem?_append]
  split
  · rfl
  · rename_i h
    by_cases e : k = xs.length
    · subst e; simp
    · rw [if_neg e, List.getElem?_eq_none (by simp; omega)]; rfl
theorem sumN_snoc (xs : List Int) (x : Int) : sumN (xs ++ [x]) (xs ++ [x]).length = sumN xs xs.length + x := by
  rw [← totalM_eq, ← totalM_eq, totalM_snoc]
theorem ch_more {xs : List Int} (h : chM xs = true) (h7 : xs.length ≠ 7) : chM (xs ++ [1]) = true := by
  obtain ⟨h0, h1, h2, h3⟩ := chM_at h
  refine chM_of (by simp) (by simp; omega) (fun k _ => ?_) (by rw [sumN_snoc]; omega)
  rw [getD_snoc]
  have := h2 k
  split
  · exact this
  · split <;> omega
theorem cost_hump {xs : List Int} {o u : Int} (h : chM xs = true) (ho : 0 ≤ o) (hu : 0 ≤ u) (s : Nat) : 2 * costS xs (s + 1) o u ≤ costS xs (s + 2) o u + costS xs s o u := by
  have h1 := costS_step xs s o u
  have h2 := costS_step xs (s + 1) o u
  have hm := Int.mul_le_mul_of_nonneg_right (sumS_mono (fun k => ((chM_at h).2.2.1 k).1) (show s + 1 ≤ s + 1 + 1 by omega)) (show 0 ≤ o + u by omega)
  rw [show s + 2 = s + 1 + 1 from rfl]
  omega
theorem costS_bd {xs : List Int} {o u : Int} (h : okO xs o u = true) {s : Nat} (hs : s ≤ 8) : 0 ≤ costS xs s o u ∧ costS xs s o u ≤ 30240 := by
  obtain ⟨h0, a, b, c, d⟩ := okO_at h
  obtain ⟨_, h7, h2, _⟩ := chM_at h0
  have := costK_bd10 (xs := xs) (s := s) h2 ⟨a, b⟩ ⟨c, d⟩ hs xs.length (by omega)
  unfold costS
  omega
theorem stockRes_no {xs : List Int} {s o u : Int} (h : okO xs o u = false ∨ inB 0 7 s = false) : stockRes xs s o u = -1 := by
  unfold stockRes
  rcases h with h | h <;> rw [h] <;> simp
theorem stockRes_yes {xs : List Int} {s : Nat} {o u : Int} (h : okO xs o u = true) (hs : s ≤ 7) : stockRes xs (s : Int) o u = costS xs s o u := by
  unfold stockRes
  rw [h, inB_true (by omega) (by omega)]
  simp
theorem stockRes_bd (xs : List Int) (s o u : Int) : -1 ≤ stockRes xs s o u ∧ stockRes xs s o u ≤ 30240 := by
  unfold stockRes
  cases h : okO xs o u
  · simp
  · cases h2 : inB 0 7 s
    · simp
    · have := costS_bd h (s := s.toNat) (by simp [inB] at h2; omega)
      simp; omega
/-- what FnStockCost asks -/
theorem stock_hump {xs : List Int} {s o u : Int} (h : 0 ≤ stockRes xs s o u) : stockRes xs (s + 1) o u < 0 ∨ stockRes xs (s - 1) o u < 0 ∨ stockRes xs s o u * 2 ≤ stockRes xs (s + 1) o u + stockRes xs (s - 1) o u := by
  cases hk : okO xs o u
  · rw [stockRes_no (.inl hk)] at h; omega
  · rcases Int.lt_or_le 6 s with h1 | h1
    · exact .inl (by rw [stockRes_no (.inr (inB_hi (by omega)))]; omega)
    · rcases Int.lt_or_le s 1 with h2 | h2
      · exact .inr (.inl (by rw [stockRes_no (.inr (inB_lo (by omega)))]; omega))
      · obtain ⟨k, rfl⟩ : ∃ k : Nat, s = ((k + 1 : Nat) : Int) := ⟨(s - 1).toNat, by omega⟩
        obtain ⟨h0, a, b, c, d⟩ := okO_at hk
        have e1 : ((k + 1 : Nat) : Int) + 1 = ((k + 2 : Nat) : Int) := by omega
        have e2 : ((k + 1 : Nat) : Int) - 1 = ((k : Nat) : Int) := by omega
        have := cost_hump h0 a c k
        rw [e1, e2, stockRes_yes hk (by omega), stockRes_yes hk (by omega), stockRes_yes hk (by omega)]
        exact .inr (.inr (by omega))
theorem shareRes_no {xs : List Int} {o u : Int} (h : okO xs o u = false) : shareRes xs o u = -1 := by unfold shareRes; rw [h]; rfl
theorem shareRes_yes {xs : List Int} {o u : Int} (h : okO xs o u = true) : shareRes xs o u = (shareN xs o u : Int) := by unfold shareRes; rw [h]; rfl
theorem share_le {xs : List Int} {o u o' u' : Int} (h : chM xs = true) (ho : 0 ≤ o) (hu : 0 ≤ u) (ho' : 0 ≤ o') (hu' : 0 ≤ u') (hm : ∀ s, metB xs o' u' s = true → metB xs o u s = true) : shareN xs o u ≤ shareN xs o' u' := by
  rcases Nat.lt_or_ge (shareN xs o' u') (shareN xs o u) with g | g
  · have h1 := (share_is h ho hu).2.2 _ g
    rw [hm _ (share_is h ho' hu').2.1] at h1; cases h1
  · exact g
theorem share_under {xs : List Int} {o u : Int} (h : chM xs = true) (ho : 0 ≤ o) (hu : 0 ≤ u) : shareN xs o u ≤ shareN xs o (u + 1) := by
  refine share_le h ho hu ho (by omega) (fun s hs => ?_)
  unfold metB at hs ⊢
  have h1 := of_decide_eq_true hs
  have h2 := sumS_le (fun k => ((chM_at h).2.2.1 k).1) (s + 1)
  rw [show o + (u + 1) = (o + u) + 1 by omega, Int.mul_add, Int.add_mul] at h1
  exact decide_eq_true (by omega)
theorem share_over {xs : List Int} {o u : Int} (h : chM xs = true) (ho : 0 ≤ o) (hu : 0 ≤ u) : shareN xs (o + 1) u ≤ shareN xs o u := by
  refine share_le h (by omega) hu ho hu (fun s hs => ?_)
  unfold metB at hs ⊢
  have h1 := of_decide_eq_true hs
  have h2 := sumS_0 (fun k => ((chM_at h).2.2.1 k).1) (s + 1)
  rw [show o + 1 + u = (o + u) + 1 by omega, Int.mul_add]
  exact decide_eq_true (by omega)
/-- what FnStockByShare asks -/
theorem share_dear {xs : List Int} {o u : Int} (h : 0 ≤ shareRes xs o u) : (shareRes xs o (u + 1) < 0 ∨ shareRes xs o u ≤ shareRes xs o (u + 1)) ∧ (shareRes xs (o + 1) u < 0 ∨ shareRes xs (o + 1) u ≤ shareRes xs o u) ∧ shareRes xs o u < (xs.length : Int) := by
  cases hk : okO xs o u
  · rw [shareRes_no hk] at h; omega
  · obtain ⟨h0, a, b, c, d⟩ := okO_at hk
    refine ⟨?_, ?_, ?_⟩
    · cases h1 : okO xs o (u + 1)
      · exact .inl (by rw [shareRes_no h1]; omega)
      · have := share_under (o := o) (u := u) h0 a c
        exact .inr (by rw [shareRes_yes hk, shareRes_yes h1]; omega)
    · cases h1 : okO xs (o + 1) u
      · exact .inl (by rw [shareRes_no h1]; omega)
      · have := share_over (o := o) (u := u) h0 a c
        exact .inr (by rw [shareRes_yes hk, shareRes_yes h1]; omega)
    · have := (share_is h0 a c).1
      rw [shareRes_yes hk]; omega
theorem shareRes_bd (xs : List Int) (o u : Int) : -1 ≤ shareRes xs o u ∧ shareRes xs o u ≤ 7 := by
  unfold shareRes
  have := (firstB_is (metB xs o u) 7 0).2.1
  unfold shareN
  split <;> omega
/-- what FnBestStock asks of each stock -/
theorem stock_least {xs : List Int} {o u : Int} (h : okO xs o u = true) {s : Nat} (hs : s ≤ 7) : ¬ stockRes xs (s : Int) o u < stockRes xs (shareN xs o u : Int) o u := by
  obtain ⟨h0, a, b, c, d⟩ := okO_at h
  have h1 := (share_is h0 a c).1
  have h2 := (chM_at h0).2.1
  have := cost_least h0 a c s
  rw [stockRes_yes h hs, stockRes_yes h (by omega)]
  omega
def lifeN (xs : List Int) : Nat → Int
  | 0 => 0
  | k + 1 => lifeN xs k + xs.getD k 0 * ((k : Int) + 1)
theorem live_life {xs : List Int} {a : Nat} : ∀ k, k ≤ a → liveN xs a k = lifeN xs k
  | 0, _ => rfl
  | k + 1, h => by rw [liveN, lifeN, live_life k (by omega), Nat.min_eq_left h]; push_cast; rfl
theorem lifeN_bd {xs : List Int} (h : ∀ k, 0 ≤ xs.getD k 0 ∧ xs.getD k 0 ≤ 9) : ∀ k, k ≤ 8 → 0 ≤ lifeN xs k ∧ lifeN xs k ≤ 81 * (k : Int)
  | 0, _ => by simp [lifeN]
  | k + 1, hk => by
    have ih := lifeN_bd h k (by omega)
    have h1 := h k
    have b : 0 ≤ xs.getD k 0 * ((k : Int) + 1) ∧ xs.getD k 0 * ((k : Int) + 1) ≤ 9 * 9 := ⟨Int.mul_nonneg h1.1 (by omega), Int.mul_le_mul h1.2 (by omega) (by omega) (by omega)⟩
    rw [lifeN]; push_cast; omega
theorem rate_late {xs : List Int} {a : Nat} {p f : Int} (h : okO xs p f = true) (ha : a ≤ 7) (hl : xs.length ≤ a) : rateU xs a p f = fU (f * totalM xs).toNat (lifeN xs xs.length).toNat ∧ rateD xs a p f = fD (f * totalM xs).toNat (lifeN xs xs.length).toNat := by
  have h0 := (okO_at h).1
  have h1 := (chM_at h0).1
  have hr : rateFine xs (a : Int) p f = true := by unfold rateFine; rw [h, inB_true (by omega) (by omega)]; rfl
  unfold rateU rateD
  rw [hr, if_pos rfl, if_pos rfl]
  have e1 : ageU xs p f (a : Int).toNat = (f * totalM xs).toNat := by
    unfold ageU costA
    rw [totalM_eq, show (a : Int).toNat = a by omega, sumN_past xs hl, Int.sub_self, Int.mul_zero, Int.add_zero]
  have e2 : ageD xs (a : Int).toNat = (lifeN xs xs.length).toNat := by
    unfold ageD
    rw [show (a : Int).toNat = a by omega, ← live_time, live_life _ hl]
  rw [e1, e2]
  exact ⟨rfl, rfl⟩
theorem life_pos {xs : List Int} (h : chM xs = true) : 1 ≤ lifeN xs xs.length ∧ lifeN xs xs.length ≤ 567 := by
  obtain ⟨_, h1, h2, _⟩ := chM_at h
  have b := lifeN_bd h2 xs.length (by omega)
  have e := live_time xs 7
  rw [live_life _ h1] at e
  have := time_pos h (show 1 ≤ 7 by omega)
  omega
theorem rate_yes {xs : List Int} {a : Nat} {p f : Int} (h : okO xs p f = true) (h1 : 1 ≤ a) (h7 : a ≤ 7) : rateFine xs (a : Int) p f = true ∧ rateU xs a p f = fU (ageU xs p f a) (ageD xs a) ∧ rateD xs a p f = fD (ageU xs p f a) (ageD xs a) := by
  have hr : rateFine xs (a : Int) p f = true := by unfold rateFine; rw [h, inB_true (by omega) (by omega)]; rfl
  unfold rateU rateD
  rw [hr, if_pos rfl, if_pos rfl]
  exact ⟨rfl, rfl, rfl⟩
theorem rate_no {xs : List Int} {a p f : Int} (h : rateFine xs a p f = false) : rateU xs a p f = 0 ∧ rateD xs a p f = 0 := by
  unfold rateU rateD; rw [h]; exact ⟨rfl, rfl⟩
theorem rate_bd {xs : List Int} {a p f : Int} : rateU xs a p f ≤ 3780 ∧ rateD xs a p f ≤ 441 := by
  cases hf : rateFine xs a p f
  · obtain ⟨e1, e2⟩ := rate_no hf; omega
  · have hf' := hf
    unfold rateFine at hf'
    simp only [Bool.and_eq_true] at hf'
    have ha : 1 ≤ a ∧ a ≤ 7 := by simpa [inB] using hf'.2
    obtain ⟨k, rfl⟩ : ∃ k : Nat, a = (k : Int) := ⟨a.toNat, by omega⟩
    obtain ⟨_, e1, e2⟩ := rate_yes (a := k) hf'.1 (by omega) (by omega)
    have b := f_bd (T := ageU xs p f k) (ageD_pos (okO_at hf'.1).1 (show 1 ≤ k by omega))
    have b1 := (ageU_is hf'.1 k).2
    have b2 := (ageD_is (okO_at hf'.1).1 k).2
    omega
/-- what FnBestAge asks of each age -/
theorem age_best {xs : List Int} {p f : Int} (h : okO xs p f = true) {a : Nat} (h1 : 1 ≤ a) (h7 : a ≤ 7) :
    ¬ (rateU xs a p f : Int) * (rateD xs (bestA xs p f 6) p f : Int) < (rateU xs (bestA xs p f 6) p f : Int) * (rateD xs a p f : Int) ∧ (a < bestA xs p f 6 → ¬ (rateU xs a p f = rateU xs (bestA xs p f 6) p f ∧ rateD xs a p f = rateD xs (bestA xs p f 6) p f)) := by
  have h0 := (okO_at h).1
  obtain ⟨i1, i2, i3⟩ := bestA_is (p := p) (f := f) h0 6
  obtain ⟨j1, j2⟩ := i3 a h1 h7
  have d1 := ageD_pos h0 h1
  have d2 := ageD_pos h0 i1
  obtain ⟨_, e1, e2⟩ := rate_yes h h1 h7
  obtain ⟨_, e3, e4⟩ := rate_yes h i1 i2
  rw [e1, e2, e3, e4]
  constructor
  · have := (f_le (T := ageU xs p f (bestA xs p f 6)) (T' := ageU xs p f a) d2 d1).2 j1
    have : (fU (ageU xs p f (bestA xs p f 6)) (ageD xs (bestA xs p f 6)) : Int) * (fD (ageU xs p f a) (ageD xs a) : Int) ≤ (fU (ageU xs p f a) (ageD xs a) : Int) * (fD (ageU xs p f (bestA xs p f 6)) (ageD xs (bestA xs p f 6)) : Int) := by exact_mod_cast this
    omega
  · intro hl hh
    have hlt := j2 hl
    have := (f_le (T := ageU xs p f a) (T' := ageU xs p f (bestA xs p f 6)) d1 d2).1 (by rw [hh.1, hh.2]; exact Nat.le_refl _)
    omega
theorem age_never {xs : List Int} {p f : Int} (h : okO xs p f = true) (hpf : f ≤ p) : rateU xs (bestA xs p f 6) p f = rateU xs (7 : Nat) p f ∧ rateD xs (bestA xs p f 6) p f = rateD xs (7 : Nat) p f := by
  have h0 := (okO_at h).1
  obtain ⟨i1, i2, i3⟩ := bestA_is (p := p) (f := f) h0 6
  have j := (i3 7 (by omega) (by omega)).1
  have j' := never_best h hpf i2
  obtain ⟨_, e1, e2⟩ := rate_yes h (show 1 ≤ 7 by omega) (show 7 ≤ 7 by omega)
  obtain ⟨_, e3, e4⟩ := rate_yes h i1 i2
  rw [e1, e2, e3, e4]
  exact f_eq (ageD_pos h0 i1) (ageD_pos h0 (by omega)) (by omega)
theorem bestARes_no {xs : List Int} {p f : Int} (h : okO xs p f = false) : bestARes xs p f = -1 := by unfold bestARes; rw [h]; rfl
theorem bestARes_yes {xs : List Int} {p f : Int} (h : okO xs p f = true) : bestARes xs p f = (bestA xs p f 6 : Int) := by unfold bestARes; rw [h]; rfl
theorem bestA_bd {xs : List Int} {p f : Int} (h : okO xs p f = true) : 1 ≤ bestA xs p f 6 ∧ bestA xs p f 6 ≤ 7 := by
  obtain ⟨i1, i2, _⟩ := bestA_is (p := p) (f := f) (okO_at h).1 6
  exact ⟨i1, i2⟩

-- sure wants
def sureM (n v : Nat) : List Int := (List.replicate n (0 : Int)).set v 3
theorem sure_len (n v : Nat) : (sureM n v).length = n := by simp [sureM]
theorem sure_getD {n v : Nat} (hv : v < n) (k : Nat) : (sureM n v).getD k 0 = if k = v then 3 else 0 := by
  unfold sureM
  rw [List.getD_eq_getElem?_getD, List.getElem?_set]
  by_cases h : v = k
  · subst h; simp [hv]
  · rw [if_neg h, if_neg (Ne.symm h), List.getElem?_replicate]
    split <;> rfl
theorem sure_sum {n v : Nat} (hv : v < n) : ∀ k, sumN (sureM n v) k = if v < k then 3 else 0
  | 0 => rfl
  | k + 1 => by
    rw [sumN, sure_sum hv k, sure_getD hv]
    by_cases h : k = v
    · subst h; simp
    · rw [if_neg h]
      by_cases h1 : v < k
      · rw [if_pos h1, if_pos (by omega)]; rfl
      · rw [if_neg h1, if_neg (by omega)]; rfl
theorem sure_ok {n v : Nat} {o u : Int} (hv : v < n) (hn : n ≤ 7) (ho : 1 ≤ o ∧ o ≤ 30) (hu : 1 ≤ u ∧ u ≤ 30) : okO (sureM n v) o u = true := by
  refine okO_of (chM_of (by rw [sure_len]; omega) (by rw [sure_len]; omega) (fun k _ => ?_) ?_) (by omega) (by omega)
  · rw [sure_getD hv]; split <;> omega
  · rw [sure_len, sure_sum hv, if_pos hv]; omega
theorem sure_share {n v : Nat} {o u : Int} (hv : v < n) (hn : n ≤ 7) (ho : 1 ≤ o ∧ o ≤ 30) (hu : 1 ≤ u ∧ u ≤ 30) : shareN (sureM n v) o u = v := by
  refine share_unique (fun j hj => ?_) ?_ (by omega)
  · unfold metB; rw [sure_len, sure_sum hv, sure_sum hv, if_pos hv, if_neg (by omega)]
    exact decide_eq_false (by omega)
  · unfold metB; rw [sure_len, sure_sum hv, sure_sum hv, if_pos hv, if_pos (by omega)]
    exact decide_eq_true (by omega)
theorem sure_cost {n v : Nat} {o u : Int} (hv : v < n) : costS (sureM n v) v o u = 0 := by
  have : ∀ k, costK (sureM n v) v o u k = 0 := fun k => by
    induction k with
    | zero => rfl
    | succ k ih =>
      rw [costK, ih, sure_getD hv]
      by_cases h : k = v
      · subst h; simp [unitC]
      · rw [if_neg h]; simp
  exact this _
end Go.Proofs.Ytkjmpkincaainad
namespace Go.Proofs.Ytkjmpkincaainad
open Go.RowKit

theorem inRange_any (n lo hi : Int) (w : World) :
    Calls Try.prog 31 #[.int .i64 n, .int .i64 lo, .int .i64 hi] w fun e w' => e = .returned (.bool (inB lo hi n)) ∧ w = w' := by
  by_cases h1 : lo ≤ n
  · by_cases h2 : n ≤ hi
    · go_enter Try.func31, Try.ntmps31
      go_wp2
      go_ret
      exact ⟨ret_bool (inB_true h1 h2).symm, rfl⟩
    · go_enter Try.func31, Try.ntmps31
      go_wp2
      go_ret
      exact ⟨ret_bool (inB_hi (by omega)).symm, rfl⟩
  · go_enter Try.func31, Try.ntmps31
    go_wp2
    go_ret
    exact ⟨ret_bool (inB_lo (by omega)).symm, rfl⟩
theorem isUpTo_any (n hi : Int) (w : World) :
    Calls Try.prog 24 #[.int .i64 n, .int .i64 hi] w fun e w' => e = .returned (.bool (inB 0 hi n)) ∧ w = w' := by
  by_cases h1 : 0 ≤ n
  · by_cases h2 : n ≤ hi
    · go_enter Try.func24, Try.ntmps24
      go_wp2
      go_ret
      exact ⟨ret_bool (inB_true h1 h2).symm, rfl⟩
    · go_enter Try.func24, Try.ntmps24
      go_wp2
      go_ret
      exact ⟨ret_bool (inB_hi (by omega)).symm, rfl⟩
  · go_enter Try.func24, Try.ntmps24
    go_wp2
    go_ret
    exact ⟨ret_bool (inB_lo (by omega)).symm, rfl⟩
theorem allUpTo_any (S : Nat → Prop) (a : Option Addr) (len cap : Nat) (xs : List Int) (lim : Int) (w : World) (h : IntsAt w S a len xs) :
    Calls Try.prog 43 #[.slice a len cap, .int .i64 lim] w fun e w' => e = .returned (.bool (allIn 0 lim xs)) ∧ w = w' := by
  have hs := h.small
  go_enter Try.func43, Try.ntmps43
  go_wp2
  go_loop [9] (fun i => ∃ k : Nat, k ≤ len ∧ i = .int .i64 k ∧ allIn 0 lim (xs.take k) = true) (fun i => len - (intOf i).toNat)
  case atStart => exact ⟨0, Nat.zero_le _, rfl, rfl⟩
  case round =>
    obtain ⟨k, hk, rfl, ha⟩ := hrel
    have HA := Lib.hid ha
    clear ha
    by_cases hlt : k < len
    · obtain ⟨b, off, x, rfl, hx, hc⟩ := h.get hlt
      have HX := Lib.hid hx
      clear hx
      cases hq : inB 0 lim x
      · go_wp2_with (go_at_call 24; refine (isUpTo_any _ _ _).mono ?_; rintro e w' ⟨rfl, rfl⟩)
        go_ret
        exact ⟨ret_bool (allIn_false HX.out hq).symm, rfl⟩
      · go_wp2_with (go_at_call 24; refine (isUpTo_any _ _ _).mono ?_; rintro e w' ⟨rfl, rfl⟩)
        go_round
        case rel => exact ⟨k + 1, by omega, by go_num, allIn_step HX.out HA.out hq⟩
        case measure => simp [intOf]; omega
    · go_wp2
      go_ret
      have ha := HA.out
      have hl := h.lenEq
      rw [List.take_of_length_le (by omega)] at ha
      exact ⟨ret_bool ha.symm, rfl⟩
end Go.Proofs.Ytkjmpkincaainad
namespace Go.Proofs.Ytkjmpkincaainad
open Go.RowKit

theorem small8 {len : Nat} {xs : List Int} (hl : xs.length = len) (h : ¬ len ≤ 8) (b : Bool) : (decide (xs.length ≤ 8) && b) = false := by
  rw [decide_eq_false (by omega)]; rfl
theorem small8' {len : Nat} {xs : List Int} (hl : xs.length = len) (h : len ≤ 8) (b : Bool) : (decide (xs.length ≤ 8) && b) = b := by
  rw [decide_eq_true (by omega)]; rfl
def wantsM (n : Int) (xs : List Int) : Bool := allIn 0 20 xs && decide ((xs.length : Int) = n)
theorem wantsM_false {n : Int} {xs : List Int} {k : Nat} {x : Int} (h : xs[k]? = some x) (hx : inB 0 20 x = false) : wantsM n xs = false := by rw [wantsM, allIn_false h hx]; rfl
theorem wantsM_of {n : Int} {len : Nat} {xs : List Int} (hl : xs.length = len) (ha : allIn 0 20 (xs.take len) = true) : wantsM n xs = ((len : Int) == n) := by
  rw [List.take_of_length_le (by omega)] at ha
  rw [wantsM, ha, hl]; simp; rfl
theorem wantsM_len (xs : List Int) : wantsM xs.length xs = allIn 0 20 xs := by simp [wantsM]
end Go.Proofs.Ytkjmpkincaainad
