import Derived.Test.YthmifadnfaajbabRows
import Derived.Test.YthmifadnfaajbabM0
import Derived.Test.YthmifadnfaajbabM1
import Derived.Test.YthmifadnfaajbabM3
import Derived.Test.YthmifadnfaajbabM2
namespace Go.Proofs.Ythmifadnfaajbab

-- chapter 11, plain: cuts on rolls; first fit, and first fit by falling lengths
def wsum (f : Nat → Int) (P : Nat → Bool) : Nat → Int
  | 0 => 0
  | k + 1 => wsum f P k + if P k then f k else 0
def card (P : Nat → Bool) : Nat → Nat
  | 0 => 0
  | k + 1 => card P k + if P k then 1 else 0
def bsumN (f : Nat → Nat) : Nat → Nat
  | 0 => 0
  | k + 1 => bsumN f k + f k
theorem csum_w (T : List Int) (P : Nat → Bool) : ∀ n, csum T P n = wsum (fun i => T.getD i 0) P n
  | 0 => rfl
  | n + 1 => by rw [csum, wsum, csum_w T P n]
theorem wsum_congr {f g : Nat → Int} {P Q : Nat → Bool} : ∀ n, (∀ i, i < n → P i = Q i) → (∀ i, i < n → P i = true → f i = g i) → wsum f P n = wsum g Q n
  | 0, _, _ => rfl
  | n + 1, h, h2 => by
    rw [wsum, wsum, wsum_congr n (fun i hi => h i (by omega)) (fun i hi => h2 i (by omega)), ← h n (by omega)]
    cases e : P n
    · rfl
    · rw [h2 n (by omega) e]
theorem wsum_none {f : Nat → Int} {P : Nat → Bool} : ∀ n, (∀ i, i < n → P i = false) → wsum f P n = 0
  | 0, _ => rfl
  | n + 1, h => by rw [wsum, wsum_none n (fun i hi => h i (by omega)), h n (by omega)]; rfl
theorem wsum_mono {f : Nat → Int} {P Q : Nat → Bool} : ∀ n, (∀ i, i < n → 0 ≤ f i) → (∀ i, i < n → P i = true → Q i = true) → wsum f P n ≤ wsum f Q n
  | 0, _, _ => Int.le_refl _
  | n + 1, h0, h => by
    have ih := wsum_mono n (fun i hi => h0 i (by omega)) (fun i hi => h i (by omega))
    have h1 := h0 n (by omega)
    have h2 := h n (by omega)
    rw [wsum, wsum]
    cases e : P n
    · cases Q n <;> simp <;> omega
    · rw [h2 e]; simp; omega
theorem wsum_nn {f : Nat → Int} {P : Nat → Bool} (n : Nat) (h : ∀ i, i < n → 0 ≤ f i) : 0 ≤ wsum f P n := by
  have := wsum_mono (P := fun _ => false) (Q := P) n h (fun i _ e => by cases e)
  rwa [wsum_none n (fun _ _ => rfl)] at this
theorem wsum_only {f : Nat → Int} {P : Nat → Bool} {a : Nat} : ∀ n, a < n → P a = true → (∀ i, i < n → P i = true → i = a) → wsum f P n = f a
  | 0, h, _, _ => by omega
  | n + 1, h, ha, hu => by
    rw [wsum]
    by_cases e : a = n
    · subst e
      rw [wsum_none a (fun i hi => by
        cases e : P i
        · rfl
        · have := hu i (by omega) e; omega), ha]
      simp
    · rw [wsum_only n (by omega) ha (fun i hi => hu i (by omega))]
      cases e2 : P n
      · simp
      · have := hu n (by omega) e2; omega
theorem wsum_or {f : Nat → Int} {P Q : Nat → Bool} : ∀ n, (∀ i, i < n → ¬ (P i = true ∧ Q i = true)) → wsum f (fun i => P i || Q i) n = wsum f P n + wsum f Q n
  | 0, _ => rfl
  | n + 1, h => by
    rw [wsum, wsum, wsum, wsum_or n (fun i hi => h i (by omega))]
    have := h n (by omega)
    cases e1 : P n <;> cases e2 : Q n <;> simp [e1, e2] at this ⊢ <;> omega
theorem wsum_mem {f : Nat → Int} {P : Nat → Bool} {a n : Nat} (h0 : ∀ i, i < n → 0 ≤ f i) (ha : a < n) (hp : P a = true) : f a ≤ wsum f P n := by
  rw [← wsum_only (f := f) (P := fun i => i == a) n ha (by simp) (fun i _ e => by simpa using e)]
  exact wsum_mono n h0 (fun i _ e => by have : i = a := by simpa using e
                                        rw [this]; exact hp)
theorem wsum_two {f : Nat → Int} {P : Nat → Bool} {a b n : Nat} (h0 : ∀ i, i < n → 0 ≤ f i) (ha : a < n) (hb : b < n) (hab : a ≠ b) (hp : P a = true) (hq : P b = true) : f a + f b ≤ wsum f P n := by
  rw [← wsum_only (f := f) (P := fun i => i == a) n ha (by simp) (fun i _ e => by simpa using e), ← wsum_only (f := f) (P := fun i => i == b) n hb (by simp) (fun i _ e => by simpa using e), ← wsum_or]
  · exact wsum_mono n h0 (fun i _ e => by
      simp only [Bool.or_eq_true, beq_iff_eq] at e
      rcases e with e | e <;> (rw [e]; assumption))
  · intro i _ h
    simp only [beq_iff_eq] at h
    omega
theorem wsum_split {f : Nat → Int} {P : Nat → Bool} {q : Nat → Nat} (m : Nat) : ∀ n, wsum f (fun i => P i && decide (q i < m + 1)) n = wsum f (fun i => P i && decide (q i < m)) n + wsum f (fun i => P i && q i == m) n
  | 0 => rfl
  | n + 1 => by
    rw [wsum, wsum, wsum, wsum_split m n]
    cases P n
    · simp
    · by_cases h1 : q n < m
      · rw [show decide (q n < m + 1) = true by simp; omega, show decide (q n < m) = true by simp [h1], show (q n == m) = false by simp; omega]; simp; omega
      · by_cases h2 : q n = m
        · rw [show decide (q n < m + 1) = true by simp; omega, show decide (q n < m) = false by simp; omega, show (q n == m) = true by simp [h2]]; simp; omega
        · rw [show decide (q n < m + 1) = false by simp; omega, show decide (q n < m) = false by simp; omega, show (q n == m) = false by simp [h2]]; simp
theorem wsum_rolls {f : Nat → Int} {P : Nat → Bool} {q : Nat → Nat} {n : Nat} {R : Int} : ∀ m : Nat, (∀ j, j < m → wsum f (fun i => P i && q i == j) n ≤ R) → wsum f (fun i => P i && decide (q i < m)) n ≤ (m : Int) * R
  | 0, _ => by rw [wsum_none n (fun i _ => by simp)]; simp
  | m + 1, h => by
    have ih := wsum_rolls m (fun j hj => h j (by omega))
    have := h m (by omega)
    rw [wsum_split]; push_cast; rw [Int.add_mul, Int.one_mul]; omega
theorem wsum_all {f : Nat → Int} {P : Nat → Bool} {q : Nat → Nat} {n m : Nat} {R : Int} (hq : ∀ i, i < n → q i < m) (h : ∀ j, j < m → wsum f (fun i => P i && q i == j) n ≤ R) : wsum f P n ≤ (m : Int) * R := by
  have := wsum_rolls m h
  rwa [wsum_congr (g := f) (Q := P) n (fun i hi => by simp [hq i hi]) (fun _ _ _ => rfl)] at this
theorem wsum_const {S : Nat → Bool} {R : Int} {T : Nat → Int} : ∀ n, wsum (fun i => if S i then R else T i) S n = wsum (fun _ => 1) S n * R
  | 0 => by simp [wsum]
  | n + 1 => by
    rw [wsum, wsum, Int.add_mul, wsum_const n]
    cases S n <;> simp
-- counting
theorem card_w (P : Nat → Bool) : ∀ n, (card P n : Int) = wsum (fun _ => 1) P n
  | 0 => rfl
  | n + 1 => by rw [card, wsum, ← card_w P n]; cases P n <;> simp
theorem card_split {P : Nat → Bool} {p : Nat → Nat} {n : Nat} : ∀ v : Nat, card (fun i => P i && decide (p i < v)) n = bsumN (fun b => card (fun i => P i && p i == b) n) v
  | 0 => by
    have := card_w (fun i => P i && decide (p i < 0)) n
    rw [wsum_none n (fun i _ => by simp)] at this
    rw [bsumN]; omega
  | v + 1 => by
    have h := wsum_split (f := fun _ => 1) (P := P) (q := p) v n
    rw [← card_w, ← card_w, ← card_w] at h
    rw [bsumN, ← card_split v]; omega
theorem card_bins {P : Nat → Bool} {p : Nat → Nat} {n v : Nat} (hp : ∀ i, i < n → P i = true → p i < v) : card P n = bsumN (fun b => card (fun i => P i && p i == b) n) v := by
  rw [← card_split]
  have h := wsum_congr (f := fun _ => 1) (g := fun _ => 1) (P := P) (Q := fun i => P i && decide (p i < v)) n (fun i hi => by
    cases e : P i
    · rfl
    · simp [hp i hi e]) (fun _ _ _ => rfl)
  rw [← card_w, ← card_w] at h
  omega
theorem card_none {P : Nat → Bool} {n : Nat} (h : ∀ i, i < n → P i = false) : card P n = 0 := by
  have := card_w P n
  rw [wsum_none n h] at this; omega
theorem card_mem {P : Nat → Bool} {n a : Nat} (ha : a < n) (hp : P a = true) : 1 ≤ card P n := by
  have h := wsum_mem (f := fun _ => 1) (P := P) (n := n) (fun _ _ => by omega) ha hp
  rw [← card_w] at h; omega
theorem card_one {P : Nat → Bool} {n a b : Nat} (h : card P n = 1) (ha : a < n) (hp : P a = true) (hb : b < n) (hq : P b = true) : b = a := by
  by_cases e : a = b
  · exact e.symm
  · have h2 := wsum_two (f := fun _ => 1) (P := P) (n := n) (fun _ _ => by omega) ha hb e hp hq
    rw [← card_w] at h2; omega
theorem card_lt {P : Nat → Bool} {n z : Nat} (hz : z < n) (hp : P z = false) : card P n + 1 ≤ n := by
  have h1 := wsum_or (f := fun _ => 1) (P := P) (Q := fun i => i == z) n (fun i _ h => by
    have : i = z := by simpa using h.2
    rw [this, hp] at h; exact absurd h.1 (by simp))
  have h2 := wsum_only (f := fun _ => (1 : Int)) (P := fun i => i == z) n hz (by simp) (fun i _ e => by simpa using e)
  have h3 := wsum_mono (f := fun _ => 1) (P := fun i => P i || i == z) (Q := fun _ => true) n (fun _ _ => by omega) (fun _ _ _ => rfl)
  have h4 : wsum (fun _ => 1) (fun _ => true) n = (n : Int) := by
    clear h1 h2 h3 hz hp
    induction n with
    | zero => rfl
    | succ n ih => rw [wsum, ih]; simp
  rw [h1, h2, h4, ← card_w] at h3
  omega
theorem bsumN_le {f g : Nat → Nat} : ∀ v, (∀ b, b < v → f b ≤ g b) → bsumN f v ≤ bsumN g v
  | 0, _ => Nat.le_refl _
  | v + 1, h => by have := bsumN_le v (fun b hb => h b (by omega)); have := h v (by omega); rw [bsumN, bsumN]; omega
theorem bsumN_eq {f g : Nat → Nat} : ∀ v, (∀ b, b < v → f b = g b) → bsumN f v = bsumN g v
  | 0, _ => rfl
  | v + 1, h => by rw [bsumN, bsumN, bsumN_eq v (fun b hb => h b (by omega)), h v (by omega)]
theorem bsumN_two {f : Nat → Nat} : ∀ v, bsumN (fun b => 2 - f b) v + bsumN f v ≥ 2 * v
  | 0 => by simp [bsumN]
  | v + 1 => by have := bsumN_two (f := f) v; simp only [bsumN] at this ⊢; omega
theorem bsumN_one {f : Nat → Nat} {v : Nat} (h : ∀ b, b < v → f b = 1) : bsumN f v = v := by
  induction v with
  | zero => rfl
  | succ v ih => rw [bsumN, ih (fun b hb => h b (by omega)), h v (by omega)]
/-- first fit by falling lengths: the last roll that was begun (by z, behind those of B), and all other plans -/
theorem fall_bound {n v m z : Nat} {R : Int} {T : Nat → Int} {p q : Nat → Nat} {B : Nat → Bool}
    (hT : ∀ i, i < n → 1 ≤ T i ∧ T i ≤ R) (hz : z < n) (hBz : B z = false) (hB : ∀ i, i < n → B i = true → T z ≤ T i ∧ p i < v) (hv : ∀ b, b < v → R < wsum T (fun i => B i && p i == b) n + T z)
    (hq : ∀ i, i < n → q i < m) (hql : ∀ j, j < m → wsum T (fun i => q i == j) n ≤ R) :
    ∃ s, 2 * v ≤ s + (n - 1) ∧ s ≤ v ∧ (s < v → s + 2 ≤ m) ∧ (s = v → v + 1 ≤ m) := by
  have h0 : ∀ i, i < n → 0 ≤ T i := fun i hi => by have := (hT i hi).1; omega
  have hTz := hT z hz
  obtain ⟨cnt, hcnt⟩ : ∃ cnt : Nat → Nat, cnt = fun b => card (fun i => B i && p i == b) n := ⟨_, rfl⟩
  obtain ⟨S, hS⟩ : ∃ S : Nat → Bool, S = fun i => B i && cnt (p i) == 1 := ⟨_, rfl⟩
  have hSB : ∀ i, S i = true → B i = true ∧ cnt (p i) = 1 := fun i h => by rw [hS] at h; simpa using h
  have hc1 : ∀ b, b < v → 1 ≤ cnt b := fun b hb => by
    have h1 := hv b hb
    rcases Nat.eq_zero_or_pos (cnt b) with e | e
    · exfalso
      have : wsum T (fun i => B i && p i == b) n = 0 := wsum_none n (fun i hi => by
        cases e2 : (B i && p i == b)
        · rfl
        · have := card_mem (P := fun i => B i && p i == b) hi e2
          rw [hcnt] at e; dsimp only at e; omega)
      omega
    · exact e
  -- one alone stands with none
  have hal : ∀ a, a < n → S a = true → R < T a + T z := fun a ha hs => by
    obtain ⟨hb, hc⟩ := hSB a hs
    have h1 := hv (p a) (hB a ha hb).2
    rwa [wsum_only (a := a) n ha (by simp [hb]) (fun i hi e => card_one (P := fun i => B i && p i == p a) (by rw [hcnt] at hc; exact hc) ha (by simp [hb]) hi e)] at h1
  have hroll : ∀ j, j < m → wsum (fun i => if S i then R else T i) (fun i => (B i || i == z) && q i == j) n ≤ R := fun j hj => by
    by_cases hx : ∃ a, a < n ∧ S a = true ∧ q a = j
    · obtain ⟨a, ha, hs, hqa⟩ := hx
      rw [wsum_only (a := a) n ha (by simp [(hSB a hs).1, hqa]) (fun y hy e => by
        simp only [Bool.and_eq_true, Bool.or_eq_true, beq_iff_eq] at e
        by_cases hya : y = a
        · exact hya
        · exfalso
          have h1 := wsum_two (f := T) (P := fun i => q i == j) h0 ha hy (Ne.symm hya) (by simp [hqa]) (by simp [e.2])
          have h2 := hql j hj
          have h3 := hal a ha hs
          have h4 : T z ≤ T y := by
            rcases e.1 with e1 | e1
            · exact (hB y hy e1).1
            · rw [e1]; exact Int.le_refl _
          omega)]
      simp [hs]
    · refine Int.le_trans ?_ (hql j hj)
      rw [wsum_congr (g := T) (Q := fun i => (B i || i == z) && q i == j) n (fun _ _ => rfl) (fun i hi e => by
        cases e2 : S i
        · rfl
        · exact absurd ⟨i, hi, e2, by simp only [Bool.and_eq_true, beq_iff_eq] at e; exact e.2⟩ hx)]
      exact wsum_mono n h0 (fun i _ e => by simp only [Bool.and_eq_true] at e; exact e.2)
  have htot := wsum_all hq hroll
  have hSz : S z = false := by rw [hS]; simp [hBz]
  have hsplit : wsum (fun i => if S i then R else T i) (fun i => B i || i == z) n = (card S n : Int) * R + wsum T (fun i => (B i && !S i) || i == z) n := by
    have e1 := wsum_or (f := fun i => if S i then R else T i) (P := S) (Q := fun i => (B i && !S i) || i == z) n (fun i _ h => by
      simp only [Bool.or_eq_true, Bool.and_eq_true, Bool.not_eq_true', beq_iff_eq] at h
      rcases h.2 with h2 | h2
      · rw [h.1] at h2; exact absurd h2.2 (by simp)
      · rw [h2, hSz] at h; exact absurd h.1 (by simp))
    rw [wsum_congr (g := fun i => if S i then R else T i) (Q := fun i => S i || ((B i && !S i) || i == z)) n (fun i _ => by
      cases e2 : S i
      · simp
      · simp [(hSB i e2).1]) (fun _ _ _ => rfl), e1]
    congr 1
    · rw [card_w]; exact wsum_const n
    · exact wsum_congr n (fun _ _ => rfl) (fun i _ e => by
        cases e2 : S i
        · simp
        · simp only [e2, Bool.not_true, Bool.and_false, Bool.false_or, beq_iff_eq] at e
          rw [e, hSz] at e2; cases e2)
  rw [hsplit] at htot
  have hcS : card S n = bsumN (fun b => if cnt b = 1 then 1 else 0) v := by
    rw [card_bins (P := S) (p := p) (fun i hi e => (hB i hi (hSB i e).1).2)]
    refine bsumN_eq v (fun b hb => ?_)
    by_cases e : cnt b = 1
    · rw [if_pos e]
      have e2 := card_w (fun i => S i && p i == b) n
      rw [wsum_congr (g := fun _ => 1) (Q := fun i => B i && p i == b) n (fun i _ => by
        rw [hS]; by_cases e3 : p i = b
        · simp [e3, e]
        · have e4 : (p i == b) = false := by simp [e3]
          simp [e4]) (fun _ _ _ => rfl), ← card_w] at e2
      rw [hcnt] at e; dsimp only at e; omega
    · rw [if_neg e]
      exact card_none (fun i _ => by
        rw [hS]; by_cases e3 : p i = b
        · simp [e3, e]
        · have e4 : (p i == b) = false := by simp [e3]
          simp [e4])
  have hcB : bsumN cnt v = card B n := by rw [card_bins (P := B) (p := p) (fun i hi e => (hB i hi e).2), hcnt]
  have hlt := card_lt hz hBz
  have h2 := bsumN_two (f := fun b => if cnt b = 1 then 1 else 0) v
  have h3 := bsumN_le (f := fun b => 2 - if cnt b = 1 then 1 else 0) (g := cnt) v (fun b hb => by have := hc1 b hb; split <;> omega)
  have h4 := bsumN_le (f := fun b => if cnt b = 1 then 1 else 0) (g := fun _ => 1) v (fun b hb => by split <;> omega)
  rw [bsumN_one (f := fun _ => 1) (fun _ _ => rfl)] at h4
  refine ⟨card S n, by omega, by omega, fun hs => ?_, fun hs => ?_⟩
  · -- one of the rolls has several
    have hb : ∃ b, b < v ∧ cnt b ≠ 1 := by
      refine Classical.byContradiction fun hn => ?_
      have : bsumN (fun b => if cnt b = 1 then 1 else 0) v = v := bsumN_one (fun b hb => by
        by_cases e : cnt b = 1
        · rw [if_pos e]
        · exact absurd ⟨b, hb, e⟩ hn)
      omega
    obtain ⟨b, hb, hcb⟩ := hb
    have e1 := wsum_or (f := T) (P := fun i => B i && p i == b) (Q := fun i => i == z) n (fun i _ h => by
      have h5 : i = z := by simpa using h.2
      have h6 := h.1
      rw [h5, hBz] at h6; exact absurd h6 (by simp))
    have e2 := wsum_only (f := T) (P := fun i => i == z) n hz (by simp) (fun i _ e => by simpa using e)
    have e3 := wsum_mono (f := T) (P := fun i => (B i && p i == b) || i == z) (Q := fun i => (B i && !S i) || i == z) n h0 (fun i _ e => by
      simp only [Bool.or_eq_true, Bool.and_eq_true, beq_iff_eq] at e
      rcases e with e | e
      · have : S i = false := by rw [hS]; simp [e.2, hcb]
        simp [e.1, this]
      · simp [e])
    have e4 := hv b hb
    have hgt : (card S n : Int) * R + R < (m : Int) * R := by omega
    have : ((card S n : Int) + 1) * R < (m : Int) * R := by rw [Int.add_mul, Int.one_mul]; exact hgt
    have := Int.lt_of_mul_lt_mul_right this (by omega)
    omega
  · have e2 := wsum_only (f := T) (P := fun i => i == z) n hz (by simp) (fun i _ e => by simpa using e)
    have e3 := wsum_mono (f := T) (P := fun i => i == z) (Q := fun i => (B i && !S i) || i == z) n h0 (fun i _ e => by simp [e])
    have hgt : (card S n : Int) * R < (m : Int) * R := by omega
    have := Int.lt_of_mul_lt_mul_right hgt (by omega)
    omega
end Go.Proofs.Ythmifadnfaajbab
namespace Go.Proofs.Ythmifadnfaajbab

-- chapter 11, plain: first fit in any order, and what no plan goes below
theorem fit_pairs {n : Nat} {R : Int} {T : Nat → Int} {p : Nat → Nat} {u : Nat} (h0 : ∀ i, i < n → 0 ≤ T i) (hne : ∀ b, b < u → ∃ i, i < n ∧ p i = b) (hf : ∀ i, i < n → ∀ b, b < p i → R < wsum T (fun i => p i == b) n + T i) :
    ∀ k : Nat, 2 * k ≤ u → (k : Int) * (R + 1) ≤ wsum T (fun i => true && decide (p i < 2 * k)) n
  | 0, _ => by simpa using wsum_nn n h0
  | k + 1, h => by
    have ih := fit_pairs h0 hne hf k (by omega)
    have e1 := wsum_split (f := T) (P := fun _ => true) (q := p) (2 * k) n
    have e2 := wsum_split (f := T) (P := fun _ => true) (q := p) (2 * k + 1) n
    obtain ⟨i, hi, hpi⟩ := hne (2 * k + 1) (by omega)
    have e3 := hf i hi (2 * k) (by omega)
    have e4 := wsum_mem (f := T) (P := fun i => true && p i == 2 * k + 1) h0 hi (by simp [hpi])
    have e5 := wsum_congr (f := T) (g := T) (P := fun i => p i == 2 * k) (Q := fun i => true && p i == 2 * k) n (fun _ _ => by simp) (fun _ _ _ => rfl)
    rw [show 2 * (k + 1) = 2 * k + 1 + 1 by omega, e2, e1, show ((k + 1 : Nat) : Int) = (k : Int) + 1 by omega, Int.add_mul, Int.one_mul]
    omega
theorem fit_bound {n : Nat} {R : Int} {T : Nat → Int} {p q : Nat → Nat} {u m : Nat} (hR : 1 ≤ R) (hT : ∀ i, i < n → 1 ≤ T i ∧ T i ≤ R) (hne : ∀ b, b < u → ∃ i, i < n ∧ p i = b)
    (hf : ∀ i, i < n → ∀ b, b < p i → R < wsum T (fun i => p i == b) n + T i) (hq : ∀ i, i < n → q i < m) (hql : ∀ j, j < m → wsum T (fun i => q i == j) n ≤ R) (hu : 2 ≤ u) : u / 2 + 1 ≤ m := by
  have h0 : ∀ i, i < n → 0 ≤ T i := fun i hi => by have := (hT i hi).1; omega
  have h1 := fit_pairs h0 hne hf (u / 2) (by omega)
  have h2 := wsum_all (f := T) (P := fun _ => true) hq (R := R) (fun j hj => by
    rw [wsum_congr (g := T) (Q := fun i => q i == j) n (fun _ _ => by simp) (fun _ _ _ => rfl)]; exact hql j hj)
  have h3 := wsum_mono (f := T) (P := fun i => true && decide (p i < 2 * (u / 2))) (Q := fun _ => true) n h0 (fun _ _ _ => rfl)
  have h4 : ((u / 2 : Nat) : Int) * R < (m : Int) * R := by
    have : ((u / 2 : Nat) : Int) * (R + 1) = ((u / 2 : Nat) : Int) * R + ((u / 2 : Nat) : Int) := by rw [Int.mul_add, Int.mul_one]
    omega
  have := Int.lt_of_mul_lt_mul_right h4 (by omega)
  omega
theorem card_all (n : Nat) : card (fun _ => true) n = n := by
  induction n with
  | zero => rfl
  | succ n ih => rw [card, ih]; simp
/-- no two stand together: as many rolls -/
theorem apart_bound {n : Nat} {R : Int} {T : Nat → Int} {q : Nat → Nat} {m : Nat} {P : Nat → Bool} (h0 : ∀ i, i < n → 0 ≤ T i) (hp : ∀ i j, i < n → j < n → i ≠ j → P i = true → P j = true → R < T i + T j)
    (hq : ∀ i, i < n → q i < m) (hql : ∀ j, j < m → wsum T (fun i => q i == j) n ≤ R) : card P n ≤ m := by
  have h := wsum_all (f := fun _ => 1) (P := P) (R := 1) hq (fun j hj => by
    by_cases hx : ∃ a, a < n ∧ P a = true ∧ q a = j
    · obtain ⟨a, ha, hpa, hqa⟩ := hx
      rw [wsum_only (a := a) n ha (by simp [hpa, hqa]) (fun y hy e => by
        simp only [Bool.and_eq_true, beq_iff_eq] at e
        by_cases hya : y = a
        · exact hya
        · exfalso
          have h1 := hp a y ha hy (Ne.symm hya) hpa e.1
          have h2 := wsum_two (f := T) (P := fun i => q i == j) h0 ha hy (Ne.symm hya) (by simp [hqa]) (by simp [e.2])
          have h3 := hql j hj
          omega)]
      exact Int.le_refl _
    · rw [wsum_none n (fun i hi => by
        cases e : (P i && q i == j)
        · rfl
        · simp only [Bool.and_eq_true, beq_iff_eq] at e
          exact absurd ⟨i, hi, e.1, e.2⟩ hx)]
      omega)
  rw [← card_w] at h
  omega
/-- first fit with a roll for each: no plan does with fewer -/
theorem fit_each {n : Nat} {R : Int} {T : Nat → Int} {p q : Nat → Nat} {m : Nat} (hT : ∀ i, i < n → 1 ≤ T i ∧ T i ≤ R) (hin : ∀ i j, i < n → j < n → p i = p j → i = j)
    (hf : ∀ i, i < n → ∀ b, b < p i → R < wsum T (fun i => p i == b) n + T i) (hq : ∀ i, i < n → q i < m) (hql : ∀ j, j < m → wsum T (fun i => q i == j) n ≤ R) : n ≤ m := by
  have h0 : ∀ i, i < n → 0 ≤ T i := fun i hi => by have := (hT i hi).1; omega
  have key : ∀ i j, i < n → j < n → p i < p j → R < T i + T j := fun i j hi hj h => by
    have := hf j hj (p i) h
    rwa [wsum_only (a := i) n hi (by simp) (fun y hy e => hin y i hy hi (by simpa using e))] at this
  have h := apart_bound (P := fun _ => true) h0 (fun i j hi hj hij _ _ => by
    rcases Nat.lt_trichotomy (p i) (p j) with g | g | g
    · exact key i j hi hj g
    · exact absurd (hin i j hi hj g) hij
    · have := key j i hj hi g; omega) hq hql
  rwa [card_all] at h
/-- what FnFewestRolls asks of LeastRolls, at one x: big ones (above R - x), middle ones (at most, but above half), small ones (at least x) -/
theorem least_bound {n : Nat} {R x : Int} {T : Nat → Int} {q : Nat → Nat} {m : Nat} (hx : 0 ≤ x) (hx2 : 2 * x ≤ R) (hT : ∀ i, i < n → 1 ≤ T i ∧ T i ≤ R) (hq : ∀ i, i < n → q i < m) (hql : ∀ j, j < m → wsum T (fun i => q i == j) n ≤ R) :
    card (fun i => decide (R - x < T i)) n + card (fun i => !decide (R - x < T i) && decide (R < 2 * T i)) n ≤ m ∧
    (card (fun i => decide (R - x < T i)) n : Int) * R + wsum T (fun i => !decide (R - x < T i) && decide (R < 2 * T i)) n + wsum T (fun i => !decide (R - x < T i) && (!decide (R < 2 * T i) && decide (x ≤ T i))) n ≤ (m : Int) * R := by
  have h0 : ∀ i, i < n → 0 ≤ T i := fun i hi => by have := (hT i hi).1; omega
  constructor
  · have h := apart_bound (P := fun i => decide (R - x < T i) || (!decide (R - x < T i) && decide (R < 2 * T i))) h0 (fun i j hi hj _ h1 h2 => by
      simp only [Bool.or_eq_true, Bool.and_eq_true, Bool.not_eq_true', decide_eq_true_eq, decide_eq_false_iff_not] at h1 h2
      omega) hq hql
    have e := wsum_or (f := fun _ => (1 : Int)) (P := fun i => decide (R - x < T i)) (Q := fun i => !decide (R - x < T i) && decide (R < 2 * T i)) n (fun i _ h => by
      simp only [Bool.and_eq_true, Bool.not_eq_true', decide_eq_true_eq, decide_eq_false_iff_not] at h
      exact h.2.1 h.1)
    rw [← card_w, ← card_w, ← card_w] at e
    omega
  · have h := wsum_all (f := fun i => if decide (R - x < T i) then R else T i) (P := fun i => decide (x ≤ T i)) (R := R) hq (fun j hj => by
      by_cases hx3 : ∃ a, a < n ∧ R - x < T a ∧ q a = j
      · obtain ⟨a, ha, hta, hqa⟩ := hx3
        rw [wsum_only (a := a) n ha (by simp [hqa]; omega) (fun y hy e => by
          simp only [Bool.and_eq_true, beq_iff_eq, decide_eq_true_eq] at e
          by_cases hya : y = a
          · exact hya
          · exfalso
            have h2 := wsum_two (f := T) (P := fun i => q i == j) h0 ha hy (Ne.symm hya) (by simp [hqa]) (by simp [e.2])
            have h3 := hql j hj
            omega)]
        simp [hta]
      · refine Int.le_trans ?_ (hql j hj)
        rw [wsum_congr (g := T) (Q := fun i => decide (x ≤ T i) && q i == j) n (fun _ _ => rfl) (fun i hi e => by
          simp only [Bool.and_eq_true, beq_iff_eq] at e
          have : ¬ R - x < T i := fun hh => hx3 ⟨i, hi, hh, e.2⟩
          simp [this])]
        exact wsum_mono n h0 (fun i _ e => by simp only [Bool.and_eq_true] at e; exact e.2))
    have e1 := wsum_or (f := fun i => if decide (R - x < T i) then R else T i) (P := fun i => decide (R - x < T i)) (Q := fun i => !decide (R - x < T i) && decide (x ≤ T i)) n (fun i _ h => by
      simp only [Bool.and_eq_true, Bool.not_eq_true', decide_eq_true_eq, decide_eq_false_iff_not] at h
      exact h.2.1 h.1)
    have e2 := wsum_congr (f := fun i => if decide (R - x < T i) then R else T i) (g := fun i => if decide (R - x < T i) then R else T i) (P := fun i => decide (x ≤ T i)) (Q := fun i => decide (R - x < T i) || (!decide (R - x < T i) && decide (x ≤ T i))) n (fun i hi => by
      by_cases g : R - x < T i
      · have : x ≤ T i := by omega
        simp [g, this]
      · simp [g]) (fun _ _ _ => rfl)
    have e3 := wsum_const (S := fun i => decide (R - x < T i)) (R := R) (T := T) n
    have e4 := wsum_congr (f := fun i => if decide (R - x < T i) then R else T i) (g := T) (P := fun i => !decide (R - x < T i) && decide (x ≤ T i)) (Q := fun i => (!decide (R - x < T i) && decide (R < 2 * T i)) || (!decide (R - x < T i) && (!decide (R < 2 * T i) && decide (x ≤ T i)))) n (fun i hi => by
      by_cases g : R - x < T i
      · simp [g]
      · by_cases g2 : R < 2 * T i
        · have : x ≤ T i := by omega
          simp [g, g2, this]
        · simp [g, g2]) (fun i _ e => by
      simp only [Bool.and_eq_true, Bool.not_eq_true'] at e
      simp only [e.1]; rfl)
    have e5 := wsum_or (f := T) (P := fun i => !decide (R - x < T i) && decide (R < 2 * T i)) (Q := fun i => !decide (R - x < T i) && (!decide (R < 2 * T i) && decide (x ≤ T i))) n (fun i _ h => by
      simp only [Bool.and_eq_true, Bool.not_eq_true', decide_eq_true_eq, decide_eq_false_iff_not] at h
      exact h.2.2.1 h.1.2)
    rw [← card_w] at e3
    omega
end Go.Proofs.Ythmifadnfaajbab
namespace Go.Proofs.Ythmifadnfaajbab

-- chapter 11, plain: the least rolls, at each x and together
section
variable (T : Nat → Int) (R : Int)
def longN (x : Int) (n : Nat) : Nat := card (fun i => decide (R - x < T i)) n
def midN (x : Int) (n : Nat) : Nat := card (fun i => !decide (R - x < T i) && decide (R < 2 * T i)) n
def roomN (x : Int) (n : Nat) : Int := wsum (fun i => R - T i) (fun i => !decide (R - x < T i) && decide (R < 2 * T i)) n
def smallN (x : Int) (n : Nat) : Int := wsum T (fun i => !decide (R - x < T i) && (!decide (R < 2 * T i) && decide (x ≤ T i))) n
def leastX (x : Int) (n : Nat) : Int := longN T R x n + midN T R x n + (max (smallN T R x n - roomN T R x n + R - 1) 0) / R
/-- the greatest of those at x below k -/
def leastTo (n : Nat) : Nat → Int
  | 0 => 0
  | k + 1 => max (leastTo n k) (leastX T R (k : Int) n)
end
theorem wsum_sub {f g : Nat → Int} {P : Nat → Bool} : ∀ n, wsum (fun i => f i - g i) P n = wsum f P n - wsum g P n
  | 0 => rfl
  | n + 1 => by rw [wsum, wsum, wsum, wsum_sub n]; cases P n <;> simp <;> omega
theorem wsum_one {R : Int} {P : Nat → Bool} : ∀ n, wsum (fun _ => R) P n = (card P n : Int) * R
  | 0 => by simp [wsum, card]
  | n + 1 => by rw [wsum, wsum_one n, card]; cases P n <;> simp [Int.add_mul]
theorem ceil_bd {D R : Int} (hR : 1 ≤ R) : 0 ≤ (max (D + R - 1) 0) / R ∧ D ≤ ((max (D + R - 1) 0) / R) * R ∧ (0 < D → ((max (D + R - 1) 0) / R) * R ≤ D + R - 1) ∧ (D ≤ 0 → (max (D + R - 1) 0) / R = 0) := by
  have h1 := Int.mul_ediv_add_emod (max (D + R - 1) 0) R
  have h2 := Int.emod_nonneg (max (D + R - 1) 0) (show R ≠ 0 by omega)
  have h3 := Int.emod_lt_of_pos (max (D + R - 1) 0) (show 0 < R by omega)
  rw [Int.mul_comm] at h1
  refine ⟨Int.ediv_nonneg (by omega) (by omega), by omega, fun h => by omega, fun h => ?_⟩
  exact Int.ediv_eq_zero_of_lt (by omega) (by omega)
theorem leastX_le {n : Nat} {R x : Int} {T : Nat → Int} {q : Nat → Nat} {m : Nat} (hR : 1 ≤ R) (hx : 0 ≤ x) (hx2 : 2 * x ≤ R) (hT : ∀ i, i < n → 1 ≤ T i ∧ T i ≤ R) (hq : ∀ i, i < n → q i < m) (hql : ∀ j, j < m → wsum T (fun i => q i == j) n ≤ R) : leastX T R x n ≤ (m : Int) := by
  obtain ⟨h1, h2⟩ := least_bound hx hx2 hT hq hql
  have e1 := wsum_sub (f := fun _ => R) (g := T) (P := fun i => !decide (R - x < T i) && decide (R < 2 * T i)) n
  have e2 := wsum_one (R := R) (P := fun i => !decide (R - x < T i) && decide (R < 2 * T i)) n
  obtain ⟨c1, c2, c3, c4⟩ := ceil_bd (D := smallN T R x n - roomN T R x n) hR
  unfold leastX
  obtain ⟨c, hc⟩ : ∃ c, (max (smallN T R x n - roomN T R x n + R - 1) 0) / R = c := ⟨_, rfl⟩
  rw [hc] at c1 c2 c3 c4 ⊢
  rcases Int.lt_or_le 0 (smallN T R x n - roomN T R x n) with g | g
  · have c3 := c3 g
    have hlt : ((longN T R x n : Int) + midN T R x n + c) * R < ((m : Int) + 1) * R := by
      rw [Int.add_mul, Int.add_mul, Int.add_mul, Int.one_mul]
      unfold longN midN smallN roomN at *
      omega
    have := Int.lt_of_mul_lt_mul_right hlt (by omega)
    omega
  · rw [c4 g]
    unfold longN midN
    omega
theorem leastTo_le {n : Nat} {R : Int} {T : Nat → Int} {q : Nat → Nat} {m : Nat} (hR : 1 ≤ R) (hT : ∀ i, i < n → 1 ≤ T i ∧ T i ≤ R) (hq : ∀ i, i < n → q i < m) (hql : ∀ j, j < m → wsum T (fun i => q i == j) n ≤ R) : ∀ k : Nat, (∀ x : Nat, x < k → 2 * (x : Int) ≤ R) → leastTo T R n k ≤ (m : Int)
  | 0, _ => by simp [leastTo]
  | k + 1, h => by
    have h1 := leastTo_le hR hT hq hql k (fun x hx => h x (by omega))
    have h2 := leastX_le hR (show (0 : Int) ≤ (k : Int) by omega) (h k (by omega)) hT hq hql
    rw [leastTo]; omega
theorem leastTo_0 {n : Nat} {R : Int} {T : Nat → Int} : ∀ k : Nat, 1 ≤ k → leastX T R 0 n ≤ leastTo T R n k
  | 0, h => by omega
  | 1, _ => by rw [leastTo, leastTo]; exact Int.le_max_right _ _
  | k + 2, _ => by
    have := leastTo_0 (T := T) (R := R) (n := n) (k + 1) (by omega)
    rw [leastTo]; omega
theorem leastTo_nn {n : Nat} {R : Int} {T : Nat → Int} : ∀ k : Nat, 0 ≤ leastTo T R n k
  | 0 => Int.le_refl _
  | k + 1 => by have := leastTo_nn (T := T) (R := R) (n := n) k; rw [leastTo]; omega
/-- what FnLeastRolls asks -/
theorem leastTo_long {n : Nat} {R : Int} {T : Nat → Int} (hR : 1 ≤ R) (hT : ∀ i, i < n → 1 ≤ T i ∧ T i ≤ R) {k : Nat} (hk : 1 ≤ k) :
    (card (fun i => decide (R < 2 * T i)) n : Int) ≤ leastTo T R n k ∧ wsum T (fun _ => true) n ≤ leastTo T R n k * R := by
  have h0 := leastTo_0 (T := T) (R := R) (n := n) k hk
  obtain ⟨c1, c2, c3, c4⟩ := ceil_bd (D := smallN T R 0 n - roomN T R 0 n) hR
  have hm : midN T R 0 n = card (fun i => decide (R < 2 * T i)) n := by
    have := wsum_congr (f := fun _ => (1 : Int)) (g := fun _ => 1) (P := fun i => !decide (R - 0 < T i) && decide (R < 2 * T i)) (Q := fun i => decide (R < 2 * T i)) n (fun i hi => by
      have : T i ≤ R := (hT i hi).2
      simp [this]) (fun _ _ _ => rfl)
    rw [← card_w, ← card_w] at this
    unfold midN; omega
  have e1 := wsum_sub (f := fun _ => R) (g := T) (P := fun i => !decide (R - 0 < T i) && decide (R < 2 * T i)) n
  have e2 := wsum_one (R := R) (P := fun i => !decide (R - 0 < T i) && decide (R < 2 * T i)) n
  have e3 := wsum_or (f := T) (P := fun i => !decide (R - 0 < T i) && decide (R < 2 * T i)) (Q := fun i => !decide (R - 0 < T i) && (!decide (R < 2 * T i) && decide (0 ≤ T i))) n (fun i _ h => by
    simp only [Bool.and_eq_true, Bool.not_eq_true', decide_eq_true_eq, decide_eq_false_iff_not] at h
    exact h.2.2.1 h.1.2)
  have e4 := wsum_congr (f := T) (g := T) (P := fun _ => true) (Q := fun i => (!decide (R - 0 < T i) && decide (R < 2 * T i)) || (!decide (R - 0 < T i) && (!decide (R < 2 * T i) && decide (0 ≤ T i)))) n (fun i hi => by
    have g1 : T i ≤ R := (hT i hi).2
    have g2 : 0 ≤ T i := by have := (hT i hi).1; omega
    by_cases g3 : R < 2 * T i
    · simp [g1, g3]
    · simp [g1, g2, g3]) (fun _ _ _ => rfl)
  unfold leastX at h0
  obtain ⟨c, hc⟩ : ∃ c, (max (smallN T R 0 n - roomN T R 0 n + R - 1) 0) / R = c := ⟨_, rfl⟩
  rw [hc] at c1 c2 c3 c4 h0
  refine ⟨by rw [← hm]; omega, ?_⟩
  have hmul : ((longN T R 0 n : Int) + midN T R 0 n + c) * R ≤ leastTo T R n k * R := Int.mul_le_mul_of_nonneg_right h0 (by omega)
  rw [Int.add_mul, Int.add_mul] at hmul
  have hnn : 0 ≤ (longN T R 0 n : Int) * R := Int.mul_nonneg (by omega) (by omega)
  unfold midN smallN roomN at *
  omega
end Go.Proofs.Ythmifadnfaajbab
namespace Go.Proofs.Ythmifadnfaajbab

-- chapter 11, plain: the fewest rolls (the fewest places of tasks that need not wait)
def zerosN (n : Nat) : List Nat := List.replicate n 0
theorem zeros_bit (n i k : Nat) : ((zerosN n).getD i 0).testBit k = false := by
  have : (zerosN n).getD i 0 = 0 := by
    unfold zerosN
    rw [List.getD_eq_getElem?_getD, List.getElem?_replicate]
    split <;> rfl
  rw [this]; simp
def fewRl (xs : List Int) (R : Int) : Int := fewM xs (zerosN xs.length) R
def lenT (xs : List Int) (i : Nat) : Int := xs.getD i 0
def cutsM (xs : List Int) (R : Int) : Bool := allIn 1 R xs && (inB 1 20 R && decide (xs.length ≤ 7))
theorem cuts_get {xs : List Int} {R : Int} (h : cutsM xs R = true) : 1 ≤ R ∧ R ≤ 20 ∧ xs.length ≤ 7 ∧ ∀ i, i < xs.length → 1 ≤ lenT xs i ∧ lenT xs i ≤ R := by
  unfold cutsM inB at h
  simp only [Bool.and_eq_true, decide_eq_true_eq] at h
  exact ⟨h.2.1.1, h.2.1.2, h.2.2, fun i hi => allIn_get h.1 (get_getD hi)⟩
theorem cuts_take {xs : List Int} {R : Int} (h : cutsM xs R = true) (k : Nat) : cutsM (xs.take k) R = true := by
  unfold cutsM at h ⊢
  simp only [Bool.and_eq_true, decide_eq_true_eq] at h ⊢
  refine ⟨?_, h.2.1, by rw [List.length_take]; omega⟩
  unfold allIn at h ⊢
  rw [List.all_eq_true] at h ⊢
  exact fun y hy => h.1 y (List.mem_of_mem_take hy)
theorem few_min {xs : List Int} {R : Int} {m : Nat} {q : Nat → Nat} (hq : ∀ i, i < xs.length → q i < m) (hql : ∀ j, wsum (lenT xs) (fun i => q i == j) xs.length ≤ R) : 0 ≤ fewRl xs R ∧ fewRl xs R ≤ m :=
  few_le (by simp [zerosN]) (fun i k h => by rw [zeros_bit] at h; cases h) ⟨hq, fun i hi k h => (by rw [zeros_bit] at h; cases h), fun j => by rw [csum_w]; exact hql j⟩
theorem few_each {xs : List Int} {R : Int} (hR : 0 ≤ R) (h : ∀ i, i < xs.length → lenT xs i ≤ R) : 0 ≤ fewRl xs R ∧ fewRl xs R ≤ xs.length :=
  few_nn (by simp [zerosN]) (fun i k h => by rw [zeros_bit] at h; cases h) hR h
theorem few_plan {xs : List Int} {R : Int} (hR : 0 ≤ R) (h : ∀ i, i < xs.length → lenT xs i ≤ R) : ∃ (m : Nat) (q : Nat → Nat), fewRl xs R = (m : Int) ∧ (∀ i, i < xs.length → q i < m) ∧ ∀ j, wsum (lenT xs) (fun i => q i == j) xs.length ≤ R := by
  have h0 := (few_each hR h).1
  obtain ⟨q, hq⟩ := few_get (T := xs) (A := zerosN xs.length) (c := R) (by simp [zerosN]) hR (fun i k h => by rw [zeros_bit] at h; cases h) h0
  exact ⟨(fewRl xs R).toNat, q, by omega, hq.low, fun j => by have := hq.load j; rwa [csum_w] at this⟩
theorem few_none (R : Int) : fewRl [] R = 0 := rfl
theorem lenT_take {xs : List Int} {k i : Nat} (h : i < k) : lenT (xs.take k) i = lenT xs i := by
  unfold lenT
  rw [List.getD_eq_getElem?_getD, List.getD_eq_getElem?_getD, List.getElem?_take, if_pos h]
/-- one cut more takes at most one roll more -/
theorem few_take {xs : List Int} {R : Int} {n : Nat} (hR : 1 ≤ R) (hn : xs.length = n + 1) (h : ∀ i, i < xs.length → 1 ≤ lenT xs i ∧ lenT xs i ≤ R) : fewRl (xs.take n) R ≤ fewRl xs R ∧ fewRl xs R ≤ fewRl (xs.take n) R + 1 := by
  have hl : (xs.take n).length = n := by rw [List.length_take]; omega
  constructor
  · obtain ⟨m, q, e, h1, h2⟩ := few_plan (by omega) (fun i hi => (h i hi).2)
    rw [e]
    refine (few_min (q := q) (fun i hi => h1 i (by omega)) (fun j => ?_)).2
    refine Int.le_trans ?_ (h2 j)
    rw [hl, hn, wsum, wsum_congr (f := lenT (xs.take n)) (g := lenT xs) (Q := fun i => q i == j) n (fun _ _ => rfl) (fun i hi _ => lenT_take hi)]
    have := (h n (by omega)).1
    split <;> omega
  · obtain ⟨m, q, e, h1, h2⟩ := few_plan (xs := xs.take n) (R := R) (by omega) (fun i hi => by rw [lenT_take (by omega)]; exact (h i (by omega)).2)
    rw [e]
    have := (few_min (xs := xs) (R := R) (m := m + 1) (q := fun i => if i < n then q i else m) (fun i hi => by
      try dsimp only
      split
      · have := h1 i (by omega); omega
      · omega) (fun j => by
      have h3 := h2 j
      rw [hl] at h3
      have e1 : wsum (lenT xs) (fun i => (if i < n then q i else m) == j) n = wsum (lenT (xs.take n)) (fun i => q i == j) n := wsum_congr n (fun i hi => by rw [if_pos hi]) (fun i hi _ => (lenT_take hi).symm)
      rw [hn, wsum, e1, if_neg (show ¬ n < n by omega)]
      have hx := h n (by omega)
      by_cases g : m = j
      · subst g
        rw [if_pos (by simp), wsum_none n (fun i hi => by have := h1 i (by omega); simp; omega)]
        omega
      · rw [if_neg (by simp [g])]; omega)).2
    push_cast at this
    omega
theorem few_least {xs : List Int} {R : Int} (hR : 1 ≤ R) (h : ∀ i, i < xs.length → 1 ≤ lenT xs i ∧ lenT xs i ≤ R) {k : Nat} (hk : ∀ x : Nat, x < k → 2 * (x : Int) ≤ R) : leastTo (lenT xs) R xs.length k ≤ fewRl xs R := by
  obtain ⟨m, q, e, h1, h2⟩ := few_plan (by omega) (fun i hi => (h i hi).2)
  rw [e]
  exact leastTo_le hR h h1 (fun j _ => h2 j) k hk
/-- every set of valid cuts has its fewest -/
theorem zeros_clo (n s : Nat) : ∀ k, cloM (zerosN n) s k = true := fun k => (cloM_iff k).2 (fun i _ _ j h => by rw [zeros_bit] at h; cases h)
theorem st_nn {T : List Int} {n : Nat} {c : Int} (hc : 0 ≤ c) (hT : ∀ k, k < T.length → T.getD k 0 ≤ c) : ∀ N s, s ≤ N → 0 ≤ stP T (zerosN n) c s
  | _, 0, _ => Int.le_refl _
  | 0, s + 1, h => by omega
  | N + 1, s + 1, h => by
    have hne : s + 1 ≠ 0 := by omega
    obtain ⟨i, hi⟩ := Nat.exists_testBit_of_ne_zero hne
    obtain ⟨r, hr⟩ : ∃ r, dif (s + 1) (2 ^ i) = r := ⟨_, rfl⟩
    have hb : ∀ j, r.testBit j = ((s + 1).testBit j && !decide (i = j)) := fun j => by rw [← hr, dif_bit, Nat.testBit_two_pow]
    have hsub : r &&& (s + 1) = r := sub_iff.2 (fun j hj => by rw [hb] at hj; simp only [Bool.and_eq_true] at hj; exact hj.1)
    have hle : r ≤ s + 1 := by rw [← hsub]; exact Nat.and_le_right
    have hlt : r < s + 1 := by
      rcases Nat.lt_or_eq_of_le hle with g | g
      · exact g
      · have := hb i
        rw [g, hi] at this; simp at this
    rw [stP_succ]
    unfold nxtP
    rw [if_pos (zeros_clo _ _ _)]
    refine (scanP_le (s + 1) r hlt ((okR_tab (by omega)).2 ⟨hsub, st_nn hc hT N r (by omega), ?_⟩)).1
    rw [csum_congr (Q := fun j => j == i) T.length (fun j _ => by
      rw [dif_bit, hb]
      by_cases e : i = j
      · subst e; simp [hi]
      · rw [show (j == i) = false by simp [Ne.symm e]]
        cases (s + 1).testBit j <;> simp [e]), csum_one]
    split
    · rename_i g; exact hT i g
    · exact hc
end Go.Proofs.Ythmifadnfaajbab
