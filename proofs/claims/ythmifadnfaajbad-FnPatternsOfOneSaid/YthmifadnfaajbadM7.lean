import Derived.Test.YthmifadnfaajbadRows
import Derived.Test.YthmifadnfaajbadM0
import Derived.Test.YthmifadnfaajbadM1
import Derived.Test.YthmifadnfaajbadM6
import Derived.Test.YthmifadnfaajbadM4
namespace Go.Proofs.Ythmifadnfaajbad

-- chapter 11, plain: first fit in any order, and what no plan goes below
theorem fit_pairs {n : Nat} {R : Int} {T : Nat → Int} {p : Nat → Nat} {u : Nat} (h0 : ∀ i, i < n → 0 ≤ T i) (hne : ∀ b, b < u → ∃ i, i < n ∧ p i = b) (hf : ∀ i, i < n → ∀ b, b < p i → R < wsum T (fun i => p i == b) n + T i) :
    ∀ k : Nat, 2 * k ≤ u → (k : Int) * (R + 1) ≤ wsum T (fun i => true && decide (p i < 2 * k)) n
  | 0, _ => by simpa using wsum_nn n h0
  | k + 1, h => by
    have ih := fit_pairs h0 hne hf k (by omega)
    have e1 := wsum_split (f := T) (P := fun _ => true) (q := p) (2 * k) n
    have e2 := wsum_split (f := T) (P := fun _ => true) (q := p) (2 * k + 1) n
    obtain ⟨i, hi, hpi⟩ := hne (2 * k + 1) (by omega)
    have e3 := hf i hi (2 * k) (by omega)
    have e4 := wsum_mem (f := T) (P := fun i => true && p i == 2 * k + 1) h0 hi (by simp [hpi])
    have e5 := wsum_congr (f := T) (g := T) (P := fun i => p i == 2 * k) (Q := fun i => true && p i == 2 * k) n (fun _ _ => by simp) (fun _ _ _ => rfl)
    rw [show 2 * (k + 1) = 2 * k + 1 + 1 by omega, e2, e1, show ((k + 1 : Nat) : Int) = (k : Int) + 1 by omega, Int.add_mul, Int.one_mul]
    omega
theorem fit_bound {n : Nat} {R : Int} {T : Nat → Int} {p q : Nat → Nat} {u m : Nat} (hR : 1 ≤ R) (hT : ∀ i, i < n → 1 ≤ T i ∧ T i ≤ R) (hne : ∀ b, b < u → ∃ i, i < n ∧ p i = b)
    (hf : ∀ i, i < n → ∀ b, b < p i → R < wsum T (fun i => p i == b) n + T i) (hq : ∀ i, i < n → q i < m) (hql : ∀ j, j < m → wsum T (fun i => q i == j) n ≤ R) (hu : 2 ≤ u) : u / 2 + 1 ≤ m := by
  have h0 : ∀ i, i < n → 0 ≤ T i := fun i hi => by have := (hT i hi).1; omega
  have h1 := fit_pairs h0 hne hf (u / 2) (by omega)
  have h2 := wsum_all (f := T) (P := fun _ => true) hq (R := R) (fun j hj => by
    rw [wsum_congr (g := T) (Q := fun i => q i == j) n (fun _ _ => by simp) (fun _ _ _ => rfl)]; exact hql j hj)
  have h3 := wsum_mono (f := T) (P := fun i => true && decide (p i < 2 * (u / 2))) (Q := fun _ => true) n h0 (fun _ _ _ => rfl)
  have h4 : ((u / 2 : Nat) : Int) * R < (m : Int) * R := by
    have : ((u / 2 : Nat) : Int) * (R + 1) = ((u / 2 : Nat) : Int) * R + ((u / 2 : Nat) : Int) := by rw [Int.mul_add, Int.mul_one]
    omega
  have := Int.lt_of_mul_lt_mul_right h4 (by omega)
  omega
theorem card_all (n : Nat) : card (fun _ => true) n = n := by
  induction n with
  | zero => rfl
  | succ n ih => rw [card, ih]; simp
/-- no two stand together: as many rolls -/
theorem apart_bound {n : Nat} {R : Int} {T : Nat → Int} {q : Nat → Nat} {m : Nat} {P : Nat → Bool} (h0 : ∀ i, i < n → 0 ≤ T i) (hp : ∀ i j, i < n → j < n → i ≠ j → P i = true → P j = true → R < T i + T j)
    (hq : ∀ i, i < n → q i < m) (hql : ∀ j, j < m → wsum T (fun i => q i == j) n ≤ R) : card P n ≤ m := by
  have h := wsum_all (f := fun _ => 1) (P := P) (R := 1) hq (fun j hj => by
    by_cases hx : ∃ a, a < n ∧ P a = true ∧ q a = j
    · obtain ⟨a, ha, hpa, hqa⟩ := hx
      rw [wsum_only (a := a) n ha (by simp [hpa, hqa]) (fun y hy e => by
        simp only [Bool.and_eq_true, beq_iff_eq] at e
        by_cases hya : y = a
        · exact hya
        · exfalso
          have h1 := hp a y ha hy (Ne.symm hya) hpa e.1
          have h2 := wsum_two (f := T) (P := fun i => q i == j) h0 ha hy (Ne.symm hya) (by simp [hqa]) (by simp [e.2])
          have h3 := hql j hj
          omega)]
      exact Int.le_refl _
    · rw [wsum_none n (fun i hi => by
        cases e : (P i && q i == j)
        · rfl
        · simp only [Bool.and_eq_true, beq_iff_eq] at e
          exact absurd ⟨i, hi, e.1, e.2⟩ hx)]
      omega)
  rw [← card_w] at h
  omega
/-- first fit with a roll for each: no plan does with fewer -/
theorem fit_each {n : Nat} {R : Int} {T : Nat → Int} {p q : Nat → Nat} {m : Nat} (hT : ∀ i, i < n → 1 ≤ T i ∧ T i ≤ R) (hin : ∀ i j, i < n → j < n → p i = p j → i = j)
    (hf : ∀ i, i < n → ∀ b, b < p i → R < wsum T (fun i => p i == b) n + T i) (hq : ∀ i, i < n → q i < m) (hql : ∀ j, j < m → wsum T (fun i => q i == j) n ≤ R) : n ≤ m := by
  have h0 : ∀ i, i < n → 0 ≤ T i := fun i hi => by have := (hT i hi).1; omega
  have key : ∀ i j, i < n → j < n → p i < p j → R < T i + T j := fun i j hi hj h => by
    have := hf j hj (p i) h
    rwa [wsum_only (a := i) n hi (by simp) (fun y hy e => hin y i hy hi (by simpa using e))] at this
  have h := apart_bound (P := fun _ => true) h0 (fun i j hi hj hij _ _ => by
    rcases Nat.lt_trichotomy (p i) (p j) with g | g | g
    · exact key i j hi hj g
    · exact absurd (hin i j hi hj g) hij
    · have := key j i hj hi g; omega) hq hql
  rwa [card_all] at h
/-- what FnFewestRolls asks of LeastRolls, at one x: big ones (above R - x), middle ones (at most, but above half), small ones (at least x) -/
theorem least_bound {n : Nat} {R x : Int} {T : Nat → Int} {q : Nat → Nat} {m : Nat} (hx : 0 ≤ x) (hx2 : 2 * x ≤ R) (hT : ∀ i, i < n → 1 ≤ T i ∧ T i ≤ R) (hq : ∀ i, i < n → q i < m) (hql : ∀ j, j < m → wsum T (fun i => q i == j) n ≤ R) :
    card (fun i => decide (R - x < T i)) n + card (fun i => !decide (R - x < T i) && decide (R < 2 * T i)) n ≤ m ∧
    (card (fun i => decide (R - x < T i)) n : Int) * R + wsum T (fun i => !decide (R - x < T i) && decide (R < 2 * T i)) n + wsum T (fun i => !decide (R - x < T i) && (!decide (R < 2 * T i) && decide (x ≤ T i))) n ≤ (m : Int) * R := by
  have h0 : ∀ i, i < n → 0 ≤ T i := fun i hi => by have := (hT i hi).1; omega
  constructor
  · have h := apart_bound (P := fun i => decide (R - x < T i) || (!decide (R - x < T i) && decide (R < 2 * T i))) h0 (fun i j hi hj _ h1 h2 => by
      simp only [Bool.or_eq_true, Bool.and_eq_true, Bool.not_eq_true', decide_eq_true_eq, decide_eq_false_iff_not] at h1 h2
      omega) hq hql
    have e := wsum_or (f := fun _ => (1 : Int)) (P := fun i => decide (R - x < T i)) (Q := fun i => !decide (R - x < T i) && decide (R < 2 * T i)) n (fun i _ h => by
      simp only [Bool.and_eq_true, Bool.not_eq_true', decide_eq_true_eq, decide_eq_false_iff_not] at h
      exact h.2.1 h.1)
    rw [← card_w, ← card_w, ← card_w] at e
    omega
  · have h := wsum_all (f := fun i => if decide (R - x < T i) then R else T i) (P := fun i => decide (x ≤ T i)) (R := R) hq (fun j hj => by
      by_cases hx3 : ∃ a, a < n ∧ R - x < T a ∧ q a = j
      · obtain ⟨a, ha, hta, hqa⟩ := hx3
        rw [wsum_only (a := a) n ha (by simp [hqa]; omega) (fun y hy e => by
          simp only [Bool.and_eq_true, beq_iff_eq, decide_eq_true_eq] at e
          by_cases hya : y = a
          · exact hya
          · exfalso
            have h2 := wsum_two (f := T) (P := fun i => q i == j) h0 ha hy (Ne.symm hya) (by simp [hqa]) (by simp [e.2])
            have h3 := hql j hj
            omega)]
        simp [hta]
      · refine Int.le_trans ?_ (hql j hj)
        rw [wsum_congr (g := T) (Q := fun i => decide (x ≤ T i) && q i == j) n (fun _ _ => rfl) (fun i hi e => by
          simp only [Bool.and_eq_true, beq_iff_eq] at e
          have : ¬ R - x < T i := fun hh => hx3 ⟨i, hi, hh, e.2⟩
          simp [this])]
        exact wsum_mono n h0 (fun i _ e => by simp only [Bool.and_eq_true] at e; exact e.2))
    have e1 := wsum_or (f := fun i => if decide (R - x < T i) then R else T i) (P := fun i => decide (R - x < T i)) (Q := fun i => !decide (R - x < T i) && decide (x ≤ T i)) n (fun i _ h => by
      simp only [Bool.and_eq_true, Bool.not_eq_true', decide_eq_true_eq, decide_eq_false_iff_not] at h
      exact h.2.1 h.1)
    have e2 := wsum_congr (f := fun i => if decide (R - x < T i) then R else T i) (g := fun i => if decide (R - x < T i) then R else T i) (P := fun i => decide (x ≤ T i)) (Q := fun i => decide (R - x < T i) || (!decide (R - x < T i) && decide (x ≤ T i))) n (fun i hi => by
      by_cases g : R - x < T i
      · have : x ≤ T i := by omega
        simp [g, this]
      · simp [g]) (fun _ _ _ => rfl)
    have e3 := wsum_const (S := fun i => decide (R - x < T i)) (R := R) (T := T) n
    have e4 := wsum_congr (f := fun i => if decide (R - x < T i) then R else T i) (g := T) (P := fun i => !decide (R - x < T i) && decide (x ≤ T i)) (Q := fun i => (!decide (R - x < T i) && decide (R < 2 * T i)) || (!decide (R - x < T i) && (!decide (R < 2 * T i) && decide (x ≤ T i)))) n (fun i hi => by
      by_cases g : R - x < T i
      · simp [g]
      · by_cases g2 : R < 2 * T i
        · have : x ≤ T i := by omega
          simp [g, g2, this]
        · simp [g, g2]) (fun i _ e => by
      simp only [Bool.and_eq_true, Bool.not_eq_true'] at e
      simp only [e.1]; rfl)
    have e5 := wsum_or (f := T) (P := fun i => !decide (R - x < T i) && decide (R < 2 * T i)) (Q := fun i => !decide (R - x < T i) && (!decide (R < 2 * T i) && decide (x ≤ T i))) n (fun i _ h => by
      simp only [Bool.and_eq_true, Bool.not_eq_true', decide_eq_true_eq, decide_eq_false_iff_not] at h
      exact h.2.2.1 h.1.2)
    rw [← card_w] at e3
    omega
end Go.Proofs.Ythmifadnfaajbad
namespace Go.Proofs.Ythmifadnfaajbad

-- chapter 11, plain: the least rolls, at each x and together
section
variable (T : Nat → Int) (R : Int)
def longN (x : Int) (n : Nat) : Nat := card (fun i => decide (R - x < T i)) n
def midN (x : Int) (n : Nat) : Nat := card (fun i => !decide (R - x < T i) && decide (R < 2 * T i)) n
def roomN (x : Int) (n : Nat) : Int := wsum (fun i => R - T i) (fun i => !decide (R - x < T i) && decide (R < 2 * T i)) n
def smallN (x : Int) (n : Nat) : Int := wsum T (fun i => !decide (R - x < T i) && (!decide (R < 2 * T i) && decide (x ≤ T i))) n
def leastX (x : Int) (n : Nat) : Int := longN T R x n + midN T R x n + (max (smallN T R x n - roomN T R x n + R - 1) 0) / R
/-- the greatest of those at x below k -/
def leastTo (n : Nat) : Nat → Int
  | 0 => 0
  | k + 1 => max (leastTo n k) (leastX T R (k : Int) n)
end
theorem wsum_sub {f g : Nat → Int} {P : Nat → Bool} : ∀ n, wsum (fun i => f i - g i) P n = wsum f P n - wsum g P n
  | 0 => rfl
  | n + 1 => by rw [wsum, wsum, wsum, wsum_sub n]; cases P n <;> simp <;> omega
theorem wsum_one {R : Int} {P : Nat → Bool} : ∀ n, wsum (fun _ => R) P n = (card P n : Int) * R
  | 0 => by simp [wsum, card]
  | n + 1 => by rw [wsum, wsum_one n, card]; cases P n <;> simp [Int.add_mul]
theorem ceil_bd {D R : Int} (hR : 1 ≤ R) : 0 ≤ (max (D + R - 1) 0) / R ∧ D ≤ ((max (D + R - 1) 0) / R) * R ∧ (0 < D → ((max (D + R - 1) 0) / R) * R ≤ D + R - 1) ∧ (D ≤ 0 → (max (D + R - 1) 0) / R = 0) := by
  have h1 := Int.mul_ediv_add_emod (max (D + R - 1) 0) R
  have h2 := Int.emod_nonneg (max (D + R - 1) 0) (show R ≠ 0 by omega)
  have h3 := Int.emod_lt_of_pos (max (D + R - 1) 0) (show 0 < R by omega)
  rw [Int.mul_comm] at h1
  refine ⟨Int.ediv_nonneg (by omega) (by omega), by omega, fun h => by omega, fun h => ?_⟩
  exact Int.ediv_eq_zero_of_lt (by omega) (by omega)
theorem leastX_le {n : Nat} {R x : Int} {T : Nat → Int} {q : Nat → Nat} {m : Nat} (hR : 1 ≤ R) (hx : 0 ≤ x) (hx2 : 2 * x ≤ R) (hT : ∀ i, i < n → 1 ≤ T i ∧ T i ≤ R) (hq : ∀ i, i < n → q i < m) (hql : ∀ j, j < m → wsum T (fun i => q i == j) n ≤ R) : leastX T R x n ≤ (m : Int) := by
  obtain ⟨h1, h2⟩ := least_bound hx hx2 hT hq hql
  have e1 := wsum_sub (f := fun _ => R) (g := T) (P := fun i => !decide (R - x < T i) && decide (R < 2 * T i)) n
  have e2 := wsum_one (R := R) (P := fun i => !decide (R - x < T i) && decide (R < 2 * T i)) n
  obtain ⟨c1, c2, c3, c4⟩ := ceil_bd (D := smallN T R x n - roomN T R x n) hR
  unfold leastX
  obtain ⟨c, hc⟩ : ∃ c, (max (smallN T R x n - roomN T R x n + R - 1) 0) / R = c := ⟨_, rfl⟩
  rw [hc] at c1 c2 c3 c4 ⊢
  rcases Int.lt_or_le 0 (smallN T R x n - roomN T R x n) with g | g
  · have c3 := c3 g
    have hlt : ((longN T R x n : Int) + midN T R x n + c) * R < ((m : Int) + 1) * R := by
      rw [Int.add_mul, Int.add_mul, Int.add_mul, Int.one_mul]
      unfold longN midN smallN roomN at *
      omega
    have := Int.lt_of_mul_lt_mul_right hlt (by omega)
    omega
  · rw [c4 g]
    unfold longN midN
    omega
theorem leastTo_le {n : Nat} {R : Int} {T : Nat → Int} {q : Nat → Nat} {m : Nat} (hR : 1 ≤ R) (hT : ∀ i, i < n → 1 ≤ T i ∧ T i ≤ R) (hq : ∀ i, i < n → q i < m) (hql : ∀ j, j < m → wsum T (fun i => q i == j) n ≤ R) : ∀ k : Nat, (∀ x : Nat, x < k → 2 * (x : Int) ≤ R) → leastTo T R n k ≤ (m : Int)
  | 0, _ => by simp [leastTo]
  | k + 1, h => by
    have h1 := leastTo_le hR hT hq hql k (fun x hx => h x (by omega))
    have h2 := leastX_le hR (show (0 : Int) ≤ (k : Int) by omega) (h k (by omega)) hT hq hql
    rw [leastTo]; omega
theorem leastTo_0 {n : Nat} {R : Int} {T : Nat → Int} : ∀ k : Nat, 1 ≤ k → leastX T R 0 n ≤ leastTo T R n k
  | 0, h => by omega
  | 1, _ => by rw [leastTo, leastTo]; exact Int.le_max_right _ _
  | k + 2, _ => by
    have := leastTo_0 (T := T) (R := R) (n := n) (k + 1) (by omega)
    rw [leastTo]; omega
theorem leastTo_nn {n : Nat} {R : Int} {T : Nat → Int} : ∀ k : Nat, 0 ≤ leastTo T R n k
  | 0 => Int.le_refl _
  | k + 1 => by have := leastTo_nn (T := T) (R := R) (n := n) k; rw [leastTo]; omega
/-- what FnLeastRolls asks -/
theorem leastTo_long {n : Nat} {R : Int} {T : Nat → Int} (hR : 1 ≤ R) (hT : ∀ i, i < n → 1 ≤ T i ∧ T i ≤ R) {k : Nat} (hk : 1 ≤ k) :
    (card (fun i => decide (R < 2 * T i)) n : Int) ≤ leastTo T R n k ∧ wsum T (fun _ => true) n ≤ leastTo T R n k * R := by
  have h0 := leastTo_0 (T := T) (R := R) (n := n) k hk
  obtain ⟨c1, c2, c3, c4⟩ := ceil_bd (D := smallN T R 0 n - roomN T R 0 n) hR
  have hm : midN T R 0 n = card (fun i => decide (R < 2 * T i)) n := by
    have := wsum_congr (f := fun _ => (1 : Int)) (g := fun _ => 1) (P := fun i => !decide (R - 0 < T i) && decide (R < 2 * T i)) (Q := fun i => decide (R < 2 * T i)) n (fun i hi => by
      have : T i ≤ R := (hT i hi).2
      simp [this]) (fun _ _ _ => rfl)
    rw [← card_w, ← card_w] at this
    unfold midN; omega
  have e1 := wsum_sub (f := fun _ => R) (g := T) (P := fun i => !decide (R - 0 < T i) && decide (R < 2 * T i)) n
  have e2 := wsum_one (R := R) (P := fun i => !decide (R - 0 < T i) && decide (R < 2 * T i)) n
  have e3 := wsum_or (f := T) (P := fun i => !decide (R - 0 < T i) && decide (R < 2 * T i)) (Q := fun i => !decide (R - 0 < T i) && (!decide (R < 2 * T i) && decide (0 ≤ T i))) n (fun i _ h => by
    simp only [Bool.and_eq_true, Bool.not_eq_true', decide_eq_true_eq, decide_eq_false_iff_not] at h
    exact h.2.2.1 h.1.2)
  have e4 := wsum_congr (f := T) (g := T) (P := fun _ => true) (Q := fun i => (!decide (R - 0 < T i) && decide (R < 2 * T i)) || (!decide (R - 0 < T i) && (!decide (R < 2 * T i) && decide (0 ≤ T i)))) n (fun i hi => by
    have g1 : T i ≤ R := (hT i hi).2
    have g2 : 0 ≤ T i := by have := (hT i hi).1; omega
    by_cases g3 : R < 2 * T i
    · simp [g1, g3]
    · simp [g1, g2, g3]) (fun _ _ _ => rfl)
  unfold leastX at h0
  obtain ⟨c, hc⟩ : ∃ c, (max (smallN T R 0 n - roomN T R 0 n + R - 1) 0) / R = c := ⟨_, rfl⟩
  rw [hc] at c1 c2 c3 c4 h0
  refine ⟨by rw [← hm]; omega, ?_⟩
  have hmul : ((longN T R 0 n : Int) + midN T R 0 n + c) * R ≤ leastTo T R n k * R := Int.mul_le_mul_of_nonneg_right h0 (by omega)
  rw [Int.add_mul, Int.add_mul] at hmul
  have hnn : 0 ≤ (longN T R 0 n : Int) * R := Int.mul_nonneg (by omega) (by omega)
  unfold midN smallN roomN at *
  omega
end Go.Proofs.Ythmifadnfaajbad
namespace Go.Proofs.Ythmifadnfaajbad

-- chapter 11, plain: the fewest rolls (the fewest places of tasks that need not wait)
def zerosN (n : Nat) : List Nat := List.replicate n 0
theorem zeros_bit (n i k : Nat) : ((zerosN n).getD i 0).testBit k = false := by
  have : (zerosN n).getD i 0 = 0 := by
    unfold zerosN
    rw [List.getD_eq_getElem?_getD, List.getElem?_replicate]
    split <;> rfl
  rw [this]; simp
def fewRl (xs : List Int) (R : Int) : Int := fewM xs (zerosN xs.length) R
def lenT (xs : List Int) (i : Nat) : Int := xs.getD i 0
def cutsM (xs : List Int) (R : Int) : Bool := allIn 1 R xs && (inB 1 20 R && decide (xs.length ≤ 7))
theorem cuts_get {xs : List Int} {R : Int} (h : cutsM xs R = true) : 1 ≤ R ∧ R ≤ 20 ∧ xs.length ≤ 7 ∧ ∀ i, i < xs.length → 1 ≤ lenT xs i ∧ lenT xs i ≤ R := by
  unfold cutsM inB at h
  simp only [Bool.and_eq_true, decide_eq_true_eq] at h
  exact ⟨h.2.1.1, h.2.1.2, h.2.2, fun i hi => allIn_get h.1 (get_getD hi)⟩
theorem cuts_take {xs : List Int} {R : Int} (h : cutsM xs R = true) (k : Nat) : cutsM (xs.take k) R = true := by
  unfold cutsM at h ⊢
  simp only [Bool.and_eq_true, decide_eq_true_eq] at h ⊢
  refine ⟨?_, h.2.1, by rw [List.length_take]; omega⟩
  unfold allIn at h ⊢
  rw [List.all_eq_true] at h ⊢
  exact fun y hy => h.1 y (List.mem_of_mem_take hy)
theorem few_min {xs : List Int} {R : Int} {m : Nat} {q : Nat → Nat} (hq : ∀ i, i < xs.length → q i < m) (hql : ∀ j, wsum (lenT xs) (fun i => q i == j) xs.length ≤ R) : 0 ≤ fewRl xs R ∧ fewRl xs R ≤ m :=
  few_le (by simp [zerosN]) (fun i k h => by rw [zeros_bit] at h; cases h) ⟨hq, fun i hi k h => (by rw [zeros_bit] at h; cases h), fun j => by rw [csum_w]; exact hql j⟩
theorem few_each {xs : List Int} {R : Int} (hR : 0 ≤ R) (h : ∀ i, i < xs.length → lenT xs i ≤ R) : 0 ≤ fewRl xs R ∧ fewRl xs R ≤ xs.length :=
  few_nn (by simp [zerosN]) (fun i k h => by rw [zeros_bit] at h; cases h) hR h
theorem few_plan {xs : List Int} {R : Int} (hR : 0 ≤ R) (h : ∀ i, i < xs.length → lenT xs i ≤ R) : ∃ (m : Nat) (q : Nat → Nat), fewRl xs R = (m : Int) ∧ (∀ i, i < xs.length → q i < m) ∧ ∀ j, wsum (lenT xs) (fun i => q i == j) xs.length ≤ R := by
  have h0 := (few_each hR h).1
  obtain ⟨q, hq⟩ := few_get (T := xs) (A := zerosN xs.length) (c := R) (by simp [zerosN]) hR (fun i k h => by rw [zeros_bit] at h; cases h) h0
  exact ⟨(fewRl xs R).toNat, q, by omega, hq.low, fun j => by have := hq.load j; rwa [csum_w] at this⟩
theorem few_none (R : Int) : fewRl [] R = 0 := rfl
theorem lenT_take {xs : List Int} {k i : Nat} (h : i < k) : lenT (xs.take k) i = lenT xs i := by
  unfold lenT
  rw [List.getD_eq_getElem?_getD, List.getD_eq_getElem?_getD, List.getElem?_take, if_pos h]
/-- one cut more takes at most one roll more -/
theorem few_take {xs : List Int} {R : Int} {n : Nat} (hR : 1 ≤ R) (hn : xs.length = n + 1) (h : ∀ i, i < xs.length → 1 ≤ lenT xs i ∧ lenT xs i ≤ R) : fewRl (xs.take n) R ≤ fewRl xs R ∧ fewRl xs R ≤ fewRl (xs.take n) R + 1 := by
  have hl : (xs.take n).length = n := by rw [List.length_take]; omega
  constructor
  · obtain ⟨m, q, e, h1, h2⟩ := few_plan (by omega) (fun i hi => (h i hi).2)
    rw [e]
    refine (few_min (q := q) (fun i hi => h1 i (by omega)) (fun j => ?_)).2
    refine Int.le_trans ?_ (h2 j)
    rw [hl, hn, wsum, wsum_congr (f := lenT (xs.take n)) (g := lenT xs) (Q := fun i => q i == j) n (fun _ _ => rfl) (fun i hi _ => lenT_take hi)]
    have := (h n (by omega)).1
    split <;> omega
  · obtain ⟨m, q, e, h1, h2⟩ := few_plan (xs := xs.take n) (R := R) (by omega) (fun i hi => by rw [lenT_take (by omega)]; exact (h i (by omega)).2)
    rw [e]
    have := (few_min (xs := xs) (R := R) (m := m + 1) (q := fun i => if i < n then q i else m) (fun i hi => by
      try dsimp only
      split
      · have := h1 i (by omega); omega
      · omega) (fun j => by
      have h3 := h2 j
      rw [hl] at h3
      have e1 : wsum (lenT xs) (fun i => (if i < n then q i else m) == j) n = wsum (lenT (xs.take n)) (fun i => q i == j) n := wsum_congr n (fun i hi => by rw [if_pos hi]) (fun i hi _ => (lenT_take hi).symm)
      rw [hn, wsum, e1, if_neg (show ¬ n < n by omega)]
      have hx := h n (by omega)
      by_cases g : m = j
      · subst g
        rw [if_pos (by simp), wsum_none n (fun i hi => by have := h1 i (by omega); simp; omega)]
        omega
      · rw [if_neg (by simp [g])]; omega)).2
    push_cast at this
    omega
theorem few_least {xs : List Int} {R : Int} (hR : 1 ≤ R) (h : ∀ i, i < xs.length → 1 ≤ lenT xs i ∧ lenT xs i ≤ R) {k : Nat} (hk : ∀ x : Nat, x < k → 2 * (x : Int) ≤ R) : leastTo (lenT xs) R xs.length k ≤ fewRl xs R := by
  obtain ⟨m, q, e, h1, h2⟩ := few_plan (by omega) (fun i hi => (h i hi).2)
  rw [e]
  exact leastTo_le hR h h1 (fun j _ => h2 j) k hk
/-- every set of valid cuts has its fewest -/
theorem zeros_clo (n s : Nat) : ∀ k, cloM (zerosN n) s k = true := fun k => (cloM_iff k).2 (fun i _ _ j h => by rw [zeros_bit] at h; cases h)
theorem st_nn {T : List Int} {n : Nat} {c : Int} (hc : 0 ≤ c) (hT : ∀ k, k < T.length → T.getD k 0 ≤ c) : ∀ N s, s ≤ N → 0 ≤ stP T (zerosN n) c s
  | _, 0, _ => Int.le_refl _
  | 0, s + 1, h => by omega
  | N + 1, s + 1, h => by
    have hne : s + 1 ≠ 0 := by omega
    obtain ⟨i, hi⟩ := Nat.exists_testBit_of_ne_zero hne
    obtain ⟨r, hr⟩ : ∃ r, dif (s + 1) (2 ^ i) = r := ⟨_, rfl⟩
    have hb : ∀ j, r.testBit j = ((s + 1).testBit j && !decide (i = j)) := fun j => by rw [← hr, dif_bit, Nat.testBit_two_pow]
    have hsub : r &&& (s + 1) = r := sub_iff.2 (fun j hj => by rw [hb] at hj; simp only [Bool.and_eq_true] at hj; exact hj.1)
    have hle : r ≤ s + 1 := by rw [← hsub]; exact Nat.and_le_right
    have hlt : r < s + 1 := by
      rcases Nat.lt_or_eq_of_le hle with g | g
      · exact g
      · have := hb i
        rw [g, hi] at this; simp at this
    rw [stP_succ]
    unfold nxtP
    rw [if_pos (zeros_clo _ _ _)]
    refine (scanP_le (s + 1) r hlt ((okR_tab (by omega)).2 ⟨hsub, st_nn hc hT N r (by omega), ?_⟩)).1
    rw [csum_congr (Q := fun j => j == i) T.length (fun j _ => by
      rw [dif_bit, hb]
      by_cases e : i = j
      · subst e; simp [hi]
      · rw [show (j == i) = false by simp [Ne.symm e]]
        cases (s + 1).testBit j <;> simp [e]), csum_one]
    split
    · rename_i g; exact hT i g
    · exact hc
end Go.Proofs.Ythmifadnfaajbad
namespace Go.Proofs.Ythmifadnfaajbad

-- chapter 11, plain: each cut is tried on each roll that has room, or on a new one
def tryTo (f : Nat → Int) (P : Nat → Bool) (b : Int) : Nat → Int
  | 0 => b
  | k + 1 => if P k then min (tryTo f P b k) (f k) else tryTo f P b k
theorem tryTo_le {f : Nat → Int} {P : Nat → Bool} {b : Int} : ∀ k, tryTo f P b k ≤ b ∧ ∀ j, j < k → P j = true → tryTo f P b k ≤ f j
  | 0 => ⟨Int.le_refl _, fun j hj => by omega⟩
  | k + 1 => by
    have ih := tryTo_le (f := f) (P := P) (b := b) k
    rw [tryTo]
    cases e : P k
    · refine ⟨ih.1, fun j hj hp => ?_⟩
      by_cases e2 : j = k
      · subst e2; rw [e] at hp; cases hp
      · exact ih.2 j (by omega) hp
    · simp only [if_true]
      refine ⟨by omega, fun j hj hp => ?_⟩
      by_cases e2 : j = k
      · subst e2; omega
      · have := ih.2 j (by omega) hp; omega
theorem tryTo_get {f : Nat → Int} {P : Nat → Bool} {b : Int} : ∀ k, tryTo f P b k = b ∨ ∃ j, j < k ∧ P j = true ∧ tryTo f P b k = f j
  | 0 => .inl rfl
  | k + 1 => by
    rw [tryTo]
    rcases tryTo_get (f := f) (P := P) (b := b) k with h | ⟨j, h1, h2, h3⟩
    · cases e : P k
      · exact .inl h
      · simp only [if_true]
        by_cases g : tryTo f P b k ≤ f k
        · exact .inl (by omega)
        · exact .inr ⟨k, by omega, e, by omega⟩
    · cases e : P k
      · exact .inr ⟨j, by omega, h2, h3⟩
      · simp only [if_true]
        by_cases g : tryTo f P b k ≤ f k
        · exact .inr ⟨j, by omega, h2, by omega⟩
        · exact .inr ⟨k, by omega, e, by omega⟩
theorem tryTo_congr {f g : Nat → Int} {P Q : Nat → Bool} {b : Int} : ∀ k, (∀ j, j < k → P j = Q j) → (∀ j, j < k → P j = true → f j = g j) → tryTo f P b k = tryTo g Q b k
  | 0, _, _ => rfl
  | k + 1, h1, h2 => by
    rw [tryTo, tryTo, tryTo_congr k (fun j hj => h1 j (by omega)) (fun j hj => h2 j (by omega)), ← h1 k (by omega)]
    cases e : P k
    · rfl
    · rw [h2 k (by omega) e]
/-- roll r, which may be a new one, has room -/
def hasR (R : Int) (L : List Int) (r : Nat) (y : Int) : Bool := decide (r = L.length) || decide (y ≤ R - L.getD r 0)
def putR (L : List Int) (r : Nat) (y : Int) : List Int := if r = L.length then L ++ [y] else L.set r (L.getD r 0 + y)
def goL (R : Int) : List Int → List Int → Int
  | [], L => (L.length : Nat)
  | y :: ys, L => tryTo (fun r => goL R ys (putR L r y)) (fun r => hasR R L r y) ((L.length + (ys.length + 1) : Nat) : Int) (L.length + 1)
theorem putR_len (L : List Int) (r : Nat) (y : Int) : (putR L r y).length = if r = L.length then L.length + 1 else L.length := by
  unfold putR; split <;> simp
theorem go_bd (R : Int) : ∀ (ys L : List Int), 0 ≤ goL R ys L ∧ goL R ys L ≤ ((L.length + ys.length : Nat) : Int)
  | [], L => by rw [goL]; simp only [List.length_nil]; omega
  | y :: ys, L => by
    rw [goL]
    refine ⟨?_, (tryTo_le _).1⟩
    rcases tryTo_get (f := fun r => goL R ys (putR L r y)) (P := fun r => hasR R L r y) (b := ((L.length + (ys.length + 1) : Nat) : Int)) (L.length + 1) with h | ⟨j, _, _, h⟩
    · rw [h]; omega
    · rw [h]; exact (go_bd R ys _).1
section
variable {xs : List Int} {R : Int}
/-- k cuts lie on the rolls whose loads are L -/
structure Pl (xs : List Int) (R : Int) (k : Nat) (L : List Int) (p : Nat → Nat) : Prop where
  on : ∀ i, i < k → p i < L.length
  load : ∀ j, j < L.length → L.getD j 0 = wsum (lenT xs) (fun i => p i == j) k
  fits : ∀ j, j < L.length → L.getD j 0 ≤ R
theorem wsum_pre {f : Nat → Int} {P : Nat → Bool} : ∀ (d k : Nat), (∀ i, i < k + d → 0 ≤ f i) → wsum f P k ≤ wsum f P (k + d)
  | 0, k, _ => Int.le_refl _
  | d + 1, k, h => by
    have ih := wsum_pre (P := P) d k (fun i hi => h i (by omega))
    have := h (k + d) (by omega)
    show _ ≤ wsum f P (k + d) + (if P (k + d) then f (k + d) else 0)
    split <;> omega
theorem getD_snocI {L : List Int} {y : Int} {j : Nat} : (L ++ [y]).getD j 0 = if j < L.length then L.getD j 0 else if j = L.length then y else 0 := by
  rw [List.getD_eq_getElem?_getD, List.getD_eq_getElem?_getD]
  by_cases h : j < L.length
  · rw [if_pos h, List.getElem?_append_left h]
  · rw [if_neg h, List.getElem?_append_right (by omega)]
    by_cases h2 : j = L.length
    · rw [if_pos h2, h2, Nat.sub_self]; rfl
    · rw [if_neg h2, List.getElem?_eq_none (by simp; omega)]; rfl
theorem getD_setI {L : List Int} {x : Int} {r j : Nat} (hr : r < L.length) : (L.set r x).getD j 0 = if j = r then x else L.getD j 0 := by
  rw [List.getD_eq_getElem?_getD, List.getD_eq_getElem?_getD, List.getElem?_set]
  by_cases h : r = j
  · subst h; rw [if_pos rfl, if_pos rfl, if_pos hr]; rfl
  · rw [if_neg h, if_neg (fun e => h e.symm)]
theorem Pl.put {k : Nat} {L : List Int} {p : Nat → Nat} (h : Pl xs R k L p) {r : Nat} (hr : r ≤ L.length) (hx : lenT xs k ≤ R) (hroom : hasR R L r (lenT xs k) = true) : Pl xs R (k + 1) (putR L r (lenT xs k)) (fun i => if i = k then r else p i) := by
  have hpre : ∀ j, wsum (lenT xs) (fun i => (if i = k then r else p i) == j) k = wsum (lenT xs) (fun i => p i == j) k := fun j =>
    wsum_congr k (fun i hi => by rw [if_neg (by omega)]) (fun _ _ _ => rfl)
  have hlen := putR_len L r (lenT xs k)
  refine ⟨fun i hi => ?_, fun j hj => ?_, fun j hj => ?_⟩
  · rw [hlen]
    by_cases e : i = k
    · rw [if_pos e]; split <;> omega
    · rw [if_neg e]
      have := h.on i (by omega)
      split <;> omega
  · rw [wsum, hpre]
    simp only [if_true]
    unfold putR
    by_cases e : r = L.length
    · rw [if_pos e, getD_snocI]
      by_cases e2 : j < L.length
      · rw [if_pos e2, h.load j e2, if_neg (by simp; omega)]; omega
      · rw [hlen, if_pos e] at hj
        rw [if_neg e2, if_pos (by omega), if_pos (by simp; omega), wsum_none k (fun i hi => by have := h.on i hi; simp; omega)]; omega
    · rw [if_neg e, getD_setI (by omega)]
      rw [hlen, if_neg e] at hj
      by_cases e2 : j = r
      · subst e2; rw [if_pos rfl, if_pos (by simp), h.load j hj]
      · rw [if_neg e2, if_neg (by simp; omega), h.load j hj]; omega
  · unfold putR
    rw [hlen] at hj
    by_cases e : r = L.length
    · rw [if_pos e, getD_snocI]
      rw [if_pos e] at hj
      by_cases e2 : j < L.length
      · rw [if_pos e2]; exact h.fits j e2
      · rw [if_neg e2, if_pos (by omega)]; exact hx
    · rw [if_neg e, getD_setI (by omega)]
      rw [if_neg e] at hj
      by_cases e2 : j = r
      · rw [if_pos e2]
        unfold hasR at hroom
        rw [decide_eq_false e, Bool.false_or, decide_eq_true_eq] at hroom
        omega
      · rw [if_neg e2]; exact h.fits j hj
theorem drop_cons {k : Nat} {y : Int} {ys : List Int} (e : xs.drop k = y :: ys) : k < xs.length ∧ lenT xs k = y ∧ xs.drop (k + 1) = ys ∧ xs.length = k + (ys.length + 1) := by
  have hl := congrArg List.length e
  rw [List.length_drop, List.length_cons] at hl
  have hk : k < xs.length := by omega
  rw [List.drop_eq_getElem_cons hk] at e
  injection e with e1 e2
  refine ⟨hk, ?_, e2, by omega⟩
  unfold lenT
  rw [List.getD_eq_getElem?_getD, List.getElem?_eq_getElem hk, e1]; rfl
/-- what is found are rolls on which all lies -/
theorem go_lower (hR : 0 ≤ R) (hx : ∀ i, i < xs.length → 1 ≤ lenT xs i ∧ lenT xs i ≤ R) : ∀ (ys : List Int) (k : Nat) (L : List Int) (p : Nat → Nat), xs.drop k = ys → k ≤ xs.length → Pl xs R k L p →
    ∃ (m : Nat) (q : Nat → Nat), goL R ys L = (m : Int) ∧ (∀ i, i < xs.length → q i < m) ∧ ∀ j, wsum (lenT xs) (fun i => q i == j) xs.length ≤ R
  | [], k, L, p, e, hk, h => by
    have hl := congrArg List.length e
    rw [List.length_drop, List.length_nil] at hl
    obtain rfl : k = xs.length := by omega
    refine ⟨L.length, p, rfl, h.on, fun j => ?_⟩
    by_cases hj : j < L.length
    · rw [← h.load j hj]; exact h.fits j hj
    · rw [wsum_none _ (fun i hi => by have := h.on i hi; simp; omega)]; exact hR
  | y :: ys, k, L, p, e, hk, h => by
    obtain ⟨h1, h2, h3, h4⟩ := drop_cons e
    subst h2
    have hnew : hasR R L L.length (lenT xs k) = true := by unfold hasR; rw [decide_eq_true rfl, Bool.true_or]
    have hput := fun r (hr : r ≤ L.length) (hroom : hasR R L r (lenT xs k) = true) => go_lower hR hx ys (k + 1) _ _ h3 (by omega) (h.put hr (hx k h1).2 hroom)
    rw [goL]
    rcases tryTo_get (f := fun r => goL R ys (putR L r (lenT xs k))) (P := fun r => hasR R L r (lenT xs k)) (b := ((L.length + (ys.length + 1) : Nat) : Int)) (L.length + 1) with g | ⟨j, g1, g2, g3⟩
    · have hle := (tryTo_le (f := fun r => goL R ys (putR L r (lenT xs k))) (P := fun r => hasR R L r (lenT xs k)) (b := ((L.length + (ys.length + 1) : Nat) : Int)) (L.length + 1)).2 L.length (by omega) hnew
      have hb := (go_bd R ys (putR L L.length (lenT xs k))).2
      rw [putR_len, if_pos rfl] at hb
      have he : goL R ys (putR L L.length (lenT xs k)) = ((L.length + (ys.length + 1) : Nat) : Int) := by
        have hle' : tryTo (fun r => goL R ys (putR L r (lenT xs k))) (fun r => hasR R L r (lenT xs k)) ((L.length + (ys.length + 1) : Nat) : Int) (L.length + 1) ≤ goL R ys (putR L L.length (lenT xs k)) := hle
        rw [g] at hle'
        omega
      rw [g, ← he]
      exact hput L.length (Nat.le_refl _) hnew
    · rw [g3]
      exact hput j (by omega) g2
theorem inj_le {u m : Nat} {s : Nat → Nat} (h1 : ∀ j, j < u → s j < m) (h2 : ∀ i j, i < u → j < u → s i = s j → i = j) : u ≤ m := by
  have e := card_bins (P := fun _ => true) (p := s) (n := u) (v := m) (fun i hi _ => h1 i hi)
  rw [card_all] at e
  have hb : ∀ v, bsumN (fun b => card (fun i => true && s i == b) u) v ≤ v := by
    intro v
    induction v with
    | zero => exact Nat.le_refl _
    | succ v ih =>
      rw [bsumN]
      have : card (fun i => true && s i == v) u ≤ 1 := by
        rw [← Int.ofNat_le, card_w]
        by_cases hz : ∃ a, a < u ∧ s a = v
        · obtain ⟨a, ha, hsa⟩ := hz
          rw [wsum_only u ha (by simp [hsa]) (fun i hi hp => h2 i a hi ha (by simp at hp; omega))]; decide
        · rw [wsum_none u (fun i hi => by simp; exact fun h => hz ⟨i, hi, h⟩)]; decide
      omega
  have := hb m
  omega
/-- no plan has fewer -/
theorem go_upper {m : Nat} {q : Nat → Nat} (hx : ∀ i, i < xs.length → 1 ≤ lenT xs i ∧ lenT xs i ≤ R) (hq : ∀ i, i < xs.length → q i < m) (hql : ∀ j, wsum (lenT xs) (fun i => q i == j) xs.length ≤ R) :
    ∀ (ys : List Int) (k : Nat) (L : List Int) (p s : Nat → Nat), xs.drop k = ys → k ≤ xs.length → Pl xs R k L p → (∀ i, i < k → s (p i) = q i) → (∀ j, j < L.length → s j < m) → (∀ i j, i < L.length → j < L.length → s i = s j → i = j) →
    goL R ys L ≤ (m : Int)
  | [], k, L, p, s, _, _, _, _, h2, h3 => by rw [goL]; have := inj_le h2 h3; omega
  | y :: ys, k, L, p, s, e, hk, h, h1, h2, h3 => by
    obtain ⟨g1, g2, g3, g4⟩ := drop_cons e
    subst g2
    have hpre : ∀ v, wsum (lenT xs) (fun i => q i == v) (k + 1) ≤ R := fun v => by
      have := wsum_pre (f := lenT xs) (P := fun i => q i == v) (xs.length - (k + 1)) (k + 1) (fun i hi => by have := (hx i (by omega)).1; omega)
      rw [show k + 1 + (xs.length - (k + 1)) = xs.length by omega] at this
      exact Int.le_trans this (hql v)
    have step : ∀ (r : Nat) (s' : Nat → Nat), r ≤ L.length → hasR R L r (lenT xs k) = true → (∀ i, i < k + 1 → s' (if i = k then r else p i) = q i) → (∀ j, j < (putR L r (lenT xs k)).length → s' j < m) → (∀ i j, i < (putR L r (lenT xs k)).length → j < (putR L r (lenT xs k)).length → s' i = s' j → i = j) → goL R (lenT xs k :: ys) L ≤ (m : Int) := fun r s' hr hroom a1 a2 a3 => by
      rw [goL]
      exact Int.le_trans ((tryTo_le _).2 r (by omega) hroom) (go_upper hx hq hql ys (k + 1) _ _ s' g3 (by omega) (h.put hr (hx k g1).2 hroom) a1 a2 a3)
    by_cases hz : ∃ j, j < L.length ∧ s j = q k
    · obtain ⟨j, hj, hsj⟩ := hz
      have hroom : hasR R L j (lenT xs k) = true := by
        unfold hasR
        have hw := hpre (s j)
        rw [wsum, if_pos (by simp [hsj])] at hw
        have hl : L.getD j 0 = wsum (lenT xs) (fun i => q i == s j) k := by
          rw [h.load j hj]
          refine wsum_congr k (fun i hi => ?_) (fun _ _ _ => rfl)
          by_cases e2 : p i = j
          · rw [show (p i == j) = true by simp [e2], ← h1 i hi, e2]; simp
          · rw [show (p i == j) = false by simp [e2]]
            have hne : ¬ q i = s j := fun e3 => e2 (h3 (p i) j (h.on i hi) hj ((h1 i hi).trans e3))
            rw [show (q i == s j) = false by simp [hne]]
        rw [decide_eq_true (p := lenT xs k ≤ R - L.getD j 0) (by omega), Bool.or_true]
      have hlen : (putR L j (lenT xs k)).length = L.length := by rw [putR_len, if_neg (by omega)]
      refine step j s (by omega) hroom (fun i hi => ?_) (fun i hi => h2 i (by omega)) (fun i i' hi hi' => h3 i i' (by omega) (by omega))
      by_cases e2 : i = k
      · rw [if_pos e2, hsj, e2]
      · rw [if_neg e2]; exact h1 i (by omega)
    · have hroom : hasR R L L.length (lenT xs k) = true := by unfold hasR; rw [decide_eq_true rfl, Bool.true_or]
      have hlen : (putR L L.length (lenT xs k)).length = L.length + 1 := by rw [putR_len, if_pos rfl]
      refine step L.length (fun j => if j = L.length then q k else s j) (Nat.le_refl _) hroom (fun i hi => ?_) (fun i hi => ?_) (fun i i' hi hi' => ?_)
      · by_cases e2 : i = k
        · subst e2; rw [if_pos rfl, if_pos rfl]
        · rw [if_neg e2]
          have := h.on i (by omega)
          rw [if_neg (by omega)]; exact h1 i (by omega)
      · by_cases e2 : i = L.length
        · rw [if_pos e2]; exact hq k g1
        · rw [if_neg e2]; exact h2 i (by omega)
      · by_cases e2 : i = L.length <;> by_cases e3 : i' = L.length
        · intro _; omega
        · rw [if_pos e2, if_neg e3]; exact fun e4 => absurd ⟨i', by omega, e4.symm⟩ hz
        · rw [if_neg e2, if_pos e3]; exact fun e4 => absurd ⟨i, by omega, e4⟩ hz
        · rw [if_neg e2, if_neg e3]; exact h3 i i' (by omega) (by omega)
/-- all that is tried is the fewest -/
theorem go_few (hv : cutsM xs R = true) : goL R xs [] = fewRl xs R := by
  obtain ⟨hR, _, _, hx⟩ := cuts_get hv
  have h0 : Pl xs R 0 [] (fun _ => 0) := ⟨fun i hi => by omega, fun j hj => by simp at hj, fun j hj => by simp at hj⟩
  obtain ⟨m, q, e, h1, h2⟩ := go_lower (by omega) hx xs 0 [] (fun _ => 0) rfl (Nat.zero_le _) h0
  obtain ⟨m', q', e', h1', h2'⟩ := few_plan (xs := xs) (R := R) (by omega) (fun i hi => (hx i hi).2)
  have a := (few_min h1 h2).2
  have b := go_upper hx h1' h2' xs 0 [] (fun _ => 0) (fun _ => 0) rfl (Nat.zero_le _) h0 (fun i hi => by omega) (fun j hj => by simp at hj) (fun i j hi => by simp at hi)
  omega
end
end Go.Proofs.Ythmifadnfaajbad
