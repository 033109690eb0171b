import Derived.Test.YthmifadnfaajbacRows
import Derived.Test.YthmifadnfaajbacM0
import Derived.Test.YthmifadnfaajbacM1
import Derived.Test.YthmifadnfaajbacM4
import Derived.Test.YthmifadnfaajbacM6
import Derived.Test.YthmifadnfaajbacM2
import Derived.WalkKit
import Derived.LoopTactic
import Derived.Outline
import Derived.WalkSpells
import Derived.WalkLawsBesides
import Derived.ProofKit
import Derived.Deep.RegionLaw
import Derived.Deep.AppendLies
namespace Go.Proofs.Ythmifadnfaajbac

-- chapter 11, plain: first fit in any order, and what no plan goes below
theorem fit_pairs {n : Nat} {R : Int} {T : Nat → Int} {p : Nat → Nat} {u : Nat} (h0 : ∀ i, i < n → 0 ≤ T i) (hne : ∀ b, b < u → ∃ i, i < n ∧ p i = b) (hf : ∀ i, i < n → ∀ b, b < p i → R < wsum T (fun i => p i == b) n + T i) :
    ∀ k : Nat, 2 * k ≤ u → (k : Int) * (R + 1) ≤ wsum T (fun i => true && decide (p i < 2 * k)) n
  | 0, _ => by simpa using wsum_nn n h0
  | k + 1, h => by
    have ih := fit_pairs h0 hne hf k (by omega)
    have e1 := wsum_split (f := T) (P := fun _ => true) (q := p) (2 * k) n
    have e2 := wsum_split (f := T) (P := fun _ => true) (q := p) (2 * k + 1) n
    obtain ⟨i, hi, hpi⟩ := hne (2 * k + 1) (by omega)
    have e3 := hf i hi (2 * k) (by omega)
    have e4 := wsum_mem (f := T) (P := fun i => true && p i == 2 * k + 1) h0 hi (by simp [hpi])
    have e5 := wsum_congr (f := T) (g := T) (P := fun i => p i == 2 * k) (Q := fun i => true && p i == 2 * k) n (fun _ _ => by simp) (fun _ _ _ => rfl)
    rw [show 2 * (k + 1) = 2 * k + 1 + 1 by omega, e2, e1, show ((k + 1 : Nat) : Int) = (k : Int) + 1 by omega, Int.add_mul, Int.one_mul]
    omega
theorem fit_bound {n : Nat} {R : Int} {T : Nat → Int} {p q : Nat → Nat} {u m : Nat} (hR : 1 ≤ R) (hT : ∀ i, i < n → 1 ≤ T i ∧ T i ≤ R) (hne : ∀ b, b < u → ∃ i, i < n ∧ p i = b)
    (hf : ∀ i, i < n → ∀ b, b < p i → R < wsum T (fun i => p i == b) n + T i) (hq : ∀ i, i < n → q i < m) (hql : ∀ j, j < m → wsum T (fun i => q i == j) n ≤ R) (hu : 2 ≤ u) : u / 2 + 1 ≤ m := by
  have h0 : ∀ i, i < n → 0 ≤ T i := fun i hi => by have := (hT i hi).1; omega
  have h1 := fit_pairs h0 hne hf (u / 2) (by omega)
  have h2 := wsum_all (f := T) (P := fun _ => true) hq (R := R) (fun j hj => by
    rw [wsum_congr (g := T) (Q := fun i => q i == j) n (fun _ _ => by simp) (fun _ _ _ => rfl)]; exact hql j hj)
  have h3 := wsum_mono (f := T) (P := fun i => true && decide (p i < 2 * (u / 2))) (Q := fun _ => true) n h0 (fun _ _ _ => rfl)
  have h4 : ((u / 2 : Nat) : Int) * R < (m : Int) * R := by
    have : ((u / 2 : Nat) : Int) * (R + 1) = ((u / 2 : Nat) : Int) * R + ((u / 2 : Nat) : Int) := by rw [Int.mul_add, Int.mul_one]
    omega
  have := Int.lt_of_mul_lt_mul_right h4 (by omega)
  omega
theorem card_all (n : Nat) : card (fun _ => true) n = n := by
  induction n with
  | zero => rfl
  | succ n ih => rw [card, ih]; simp
/-- no two stand together: as many rolls -/
theorem apart_bound {n : Nat} {R : Int} {T : Nat → Int} {q : Nat → Nat} {m : Nat} {P : Nat → Bool} (h0 : ∀ i, i < n → 0 ≤ T i) (hp : ∀ i j, i < n → j < n → i ≠ j → P i = true → P j = true → R < T i + T j)
    (hq : ∀ i, i < n → q i < m) (hql : ∀ j, j < m → wsum T (fun i => q i == j) n ≤ R) : card P n ≤ m := by
  have h := wsum_all (f := fun _ => 1) (P := P) (R := 1) hq (fun j hj => by
    by_cases hx : ∃ a, a < n ∧ P a = true ∧ q a = j
    · obtain ⟨a, ha, hpa, hqa⟩ := hx
      rw [wsum_only (a := a) n ha (by simp [hpa, hqa]) (fun y hy e => by
        simp only [Bool.and_eq_true, beq_iff_eq] at e
        by_cases hya : y = a
        · exact hya
        · exfalso
          have h1 := hp a y ha hy (Ne.symm hya) hpa e.1
          have h2 := wsum_two (f := T) (P := fun i => q i == j) h0 ha hy (Ne.symm hya) (by simp [hqa]) (by simp [e.2])
          have h3 := hql j hj
          omega)]
      exact Int.le_refl _
    · rw [wsum_none n (fun i hi => by
        cases e : (P i && q i == j)
        · rfl
        · simp only [Bool.and_eq_true, beq_iff_eq] at e
          exact absurd ⟨i, hi, e.1, e.2⟩ hx)]
      omega)
  rw [← card_w] at h
  omega
/-- first fit with a roll for each: no plan does with fewer -/
theorem fit_each {n : Nat} {R : Int} {T : Nat → Int} {p q : Nat → Nat} {m : Nat} (hT : ∀ i, i < n → 1 ≤ T i ∧ T i ≤ R) (hin : ∀ i j, i < n → j < n → p i = p j → i = j)
    (hf : ∀ i, i < n → ∀ b, b < p i → R < wsum T (fun i => p i == b) n + T i) (hq : ∀ i, i < n → q i < m) (hql : ∀ j, j < m → wsum T (fun i => q i == j) n ≤ R) : n ≤ m := by
  have h0 : ∀ i, i < n → 0 ≤ T i := fun i hi => by have := (hT i hi).1; omega
  have key : ∀ i j, i < n → j < n → p i < p j → R < T i + T j := fun i j hi hj h => by
    have := hf j hj (p i) h
    rwa [wsum_only (a := i) n hi (by simp) (fun y hy e => hin y i hy hi (by simpa using e))] at this
  have h := apart_bound (P := fun _ => true) h0 (fun i j hi hj hij _ _ => by
    rcases Nat.lt_trichotomy (p i) (p j) with g | g | g
    · exact key i j hi hj g
    · exact absurd (hin i j hi hj g) hij
    · have := key j i hj hi g; omega) hq hql
  rwa [card_all] at h
/-- what FnFewestRolls asks of LeastRolls, at one x: big ones (above R - x), middle ones (at most, but above half), small ones (at least x) -/
theorem least_bound {n : Nat} {R x : Int} {T : Nat → Int} {q : Nat → Nat} {m : Nat} (hx : 0 ≤ x) (hx2 : 2 * x ≤ R) (hT : ∀ i, i < n → 1 ≤ T i ∧ T i ≤ R) (hq : ∀ i, i < n → q i < m) (hql : ∀ j, j < m → wsum T (fun i => q i == j) n ≤ R) :
    card (fun i => decide (R - x < T i)) n + card (fun i => !decide (R - x < T i) && decide (R < 2 * T i)) n ≤ m ∧
    (card (fun i => decide (R - x < T i)) n : Int) * R + wsum T (fun i => !decide (R - x < T i) && decide (R < 2 * T i)) n + wsum T (fun i => !decide (R - x < T i) && (!decide (R < 2 * T i) && decide (x ≤ T i))) n ≤ (m : Int) * R := by
  have h0 : ∀ i, i < n → 0 ≤ T i := fun i hi => by have := (hT i hi).1; omega
  constructor
  · have h := apart_bound (P := fun i => decide (R - x < T i) || (!decide (R - x < T i) && decide (R < 2 * T i))) h0 (fun i j hi hj _ h1 h2 => by
      simp only [Bool.or_eq_true, Bool.and_eq_true, Bool.not_eq_true', decide_eq_true_eq, decide_eq_false_iff_not] at h1 h2
      omega) hq hql
    have e := wsum_or (f := fun _ => (1 : Int)) (P := fun i => decide (R - x < T i)) (Q := fun i => !decide (R - x < T i) && decide (R < 2 * T i)) n (fun i _ h => by
      simp only [Bool.and_eq_true, Bool.not_eq_true', decide_eq_true_eq, decide_eq_false_iff_not] at h
      exact h.2.1 h.1)
    rw [← card_w, ← card_w, ← card_w] at e
    omega
  · have h := wsum_all (f := fun i => if decide (R - x < T i) then R else T i) (P := fun i => decide (x ≤ T i)) (R := R) hq (fun j hj => by
      by_cases hx3 : ∃ a, a < n ∧ R - x < T a ∧ q a = j
      · obtain ⟨a, ha, hta, hqa⟩ := hx3
        rw [wsum_only (a := a) n ha (by simp [hqa]; omega) (fun y hy e => by
          simp only [Bool.and_eq_true, beq_iff_eq, decide_eq_true_eq] at e
          by_cases hya : y = a
          · exact hya
          · exfalso
            have h2 := wsum_two (f := T) (P := fun i => q i == j) h0 ha hy (Ne.symm hya) (by simp [hqa]) (by simp [e.2])
            have h3 := hql j hj
            omega)]
        simp [hta]
      · refine Int.le_trans ?_ (hql j hj)
        rw [wsum_congr (g := T) (Q := fun i => decide (x ≤ T i) && q i == j) n (fun _ _ => rfl) (fun i hi e => by
          simp only [Bool.and_eq_true, beq_iff_eq] at e
          have : ¬ R - x < T i := fun hh => hx3 ⟨i, hi, hh, e.2⟩
          simp [this])]
        exact wsum_mono n h0 (fun i _ e => by simp only [Bool.and_eq_true] at e; exact e.2))
    have e1 := wsum_or (f := fun i => if decide (R - x < T i) then R else T i) (P := fun i => decide (R - x < T i)) (Q := fun i => !decide (R - x < T i) && decide (x ≤ T i)) n (fun i _ h => by
      simp only [Bool.and_eq_true, Bool.not_eq_true', decide_eq_true_eq, decide_eq_false_iff_not] at h
      exact h.2.1 h.1)
    have e2 := wsum_congr (f := fun i => if decide (R - x < T i) then R else T i) (g := fun i => if decide (R - x < T i) then R else T i) (P := fun i => decide (x ≤ T i)) (Q := fun i => decide (R - x < T i) || (!decide (R - x < T i) && decide (x ≤ T i))) n (fun i hi => by
      by_cases g : R - x < T i
      · have : x ≤ T i := by omega
        simp [g, this]
      · simp [g]) (fun _ _ _ => rfl)
    have e3 := wsum_const (S := fun i => decide (R - x < T i)) (R := R) (T := T) n
    have e4 := wsum_congr (f := fun i => if decide (R - x < T i) then R else T i) (g := T) (P := fun i => !decide (R - x < T i) && decide (x ≤ T i)) (Q := fun i => (!decide (R - x < T i) && decide (R < 2 * T i)) || (!decide (R - x < T i) && (!decide (R < 2 * T i) && decide (x ≤ T i)))) n (fun i hi => by
      by_cases g : R - x < T i
      · simp [g]
      · by_cases g2 : R < 2 * T i
        · have : x ≤ T i := by omega
          simp [g, g2, this]
        · simp [g, g2]) (fun i _ e => by
      simp only [Bool.and_eq_true, Bool.not_eq_true'] at e
      simp only [e.1]; rfl)
    have e5 := wsum_or (f := T) (P := fun i => !decide (R - x < T i) && decide (R < 2 * T i)) (Q := fun i => !decide (R - x < T i) && (!decide (R < 2 * T i) && decide (x ≤ T i))) n (fun i _ h => by
      simp only [Bool.and_eq_true, Bool.not_eq_true', decide_eq_true_eq, decide_eq_false_iff_not] at h
      exact h.2.2.1 h.1.2)
    rw [← card_w] at e3
    omega
end Go.Proofs.Ythmifadnfaajbac
namespace Go.Proofs.Ythmifadnfaajbac

-- chapter 11, plain: the least rolls, at each x and together
section
variable (T : Nat → Int) (R : Int)
def longN (x : Int) (n : Nat) : Nat := card (fun i => decide (R - x < T i)) n
def midN (x : Int) (n : Nat) : Nat := card (fun i => !decide (R - x < T i) && decide (R < 2 * T i)) n
def roomN (x : Int) (n : Nat) : Int := wsum (fun i => R - T i) (fun i => !decide (R - x < T i) && decide (R < 2 * T i)) n
def smallN (x : Int) (n : Nat) : Int := wsum T (fun i => !decide (R - x < T i) && (!decide (R < 2 * T i) && decide (x ≤ T i))) n
def leastX (x : Int) (n : Nat) : Int := longN T R x n + midN T R x n + (max (smallN T R x n - roomN T R x n + R - 1) 0) / R
/-- the greatest of those at x below k -/
def leastTo (n : Nat) : Nat → Int
  | 0 => 0
  | k + 1 => max (leastTo n k) (leastX T R (k : Int) n)
end
theorem wsum_sub {f g : Nat → Int} {P : Nat → Bool} : ∀ n, wsum (fun i => f i - g i) P n = wsum f P n - wsum g P n
  | 0 => rfl
  | n + 1 => by rw [wsum, wsum, wsum, wsum_sub n]; cases P n <;> simp <;> omega
theorem wsum_one {R : Int} {P : Nat → Bool} : ∀ n, wsum (fun _ => R) P n = (card P n : Int) * R
  | 0 => by simp [wsum, card]
  | n + 1 => by rw [wsum, wsum_one n, card]; cases P n <;> simp [Int.add_mul]
theorem ceil_bd {D R : Int} (hR : 1 ≤ R) : 0 ≤ (max (D + R - 1) 0) / R ∧ D ≤ ((max (D + R - 1) 0) / R) * R ∧ (0 < D → ((max (D + R - 1) 0) / R) * R ≤ D + R - 1) ∧ (D ≤ 0 → (max (D + R - 1) 0) / R = 0) := by
  have h1 := Int.mul_ediv_add_emod (max (D + R - 1) 0) R
  have h2 := Int.emod_nonneg (max (D + R - 1) 0) (show R ≠ 0 by omega)
  have h3 := Int.emod_lt_of_pos (max (D + R - 1) 0) (show 0 < R by omega)
  rw [Int.mul_comm] at h1
  refine ⟨Int.ediv_nonneg (by omega) (by omega), by omega, fun h => by omega, fun h => ?_⟩
  exact Int.ediv_eq_zero_of_lt (by omega) (by omega)
theorem leastX_le {n : Nat} {R x : Int} {T : Nat → Int} {q : Nat → Nat} {m : Nat} (hR : 1 ≤ R) (hx : 0 ≤ x) (hx2 : 2 * x ≤ R) (hT : ∀ i, i < n → 1 ≤ T i ∧ T i ≤ R) (hq : ∀ i, i < n → q i < m) (hql : ∀ j, j < m → wsum T (fun i => q i == j) n ≤ R) : leastX T R x n ≤ (m : Int) := by
  obtain ⟨h1, h2⟩ := least_bound hx hx2 hT hq hql
  have e1 := wsum_sub (f := fun _ => R) (g := T) (P := fun i => !decide (R - x < T i) && decide (R < 2 * T i)) n
  have e2 := wsum_one (R := R) (P := fun i => !decide (R - x < T i) && decide (R < 2 * T i)) n
  obtain ⟨c1, c2, c3, c4⟩ := ceil_bd (D := smallN T R x n - roomN T R x n) hR
  unfold leastX
  obtain ⟨c, hc⟩ : ∃ c, (max (smallN T R x n - roomN T R x n + R - 1) 0) / R = c := ⟨_, rfl⟩
  rw [hc] at c1 c2 c3 c4 ⊢
  rcases Int.lt_or_le 0 (smallN T R x n - roomN T R x n) with g | g
  · have c3 := c3 g
    have hlt : ((longN T R x n : Int) + midN T R x n + c) * R < ((m : Int) + 1) * R := by
      rw [Int.add_mul, Int.add_mul, Int.add_mul, Int.one_mul]
      unfold longN midN smallN roomN at *
      omega
    have := Int.lt_of_mul_lt_mul_right hlt (by omega)
    omega
  · rw [c4 g]
    unfold longN midN
    omega
theorem leastTo_le {n : Nat} {R : Int} {T : Nat → Int} {q : Nat → Nat} {m : Nat} (hR : 1 ≤ R) (hT : ∀ i, i < n → 1 ≤ T i ∧ T i ≤ R) (hq : ∀ i, i < n → q i < m) (hql : ∀ j, j < m → wsum T (fun i => q i == j) n ≤ R) : ∀ k : Nat, (∀ x : Nat, x < k → 2 * (x : Int) ≤ R) → leastTo T R n k ≤ (m : Int)
  | 0, _ => by simp [leastTo]
  | k + 1, h => by
    have h1 := leastTo_le hR hT hq hql k (fun x hx => h x (by omega))
    have h2 := leastX_le hR (show (0 : Int) ≤ (k : Int) by omega) (h k (by omega)) hT hq hql
    rw [leastTo]; omega
theorem leastTo_0 {n : Nat} {R : Int} {T : Nat → Int} : ∀ k : Nat, 1 ≤ k → leastX T R 0 n ≤ leastTo T R n k
  | 0, h => by omega
  | 1, _ => by rw [leastTo, leastTo]; exact Int.le_max_right _ _
  | k + 2, _ => by
    have := leastTo_0 (T := T) (R := R) (n := n) (k + 1) (by omega)
    rw [leastTo]; omega
theorem leastTo_nn {n : Nat} {R : Int} {T : Nat → Int} : ∀ k : Nat, 0 ≤ leastTo T R n k
  | 0 => Int.le_refl _
  | k + 1 => by have := leastTo_nn (T := T) (R := R) (n := n) k; rw [leastTo]; omega
/-- what FnLeastRolls asks -/
theorem leastTo_long {n : Nat} {R : Int} {T : Nat → Int} (hR : 1 ≤ R) (hT : ∀ i, i < n → 1 ≤ T i ∧ T i ≤ R) {k : Nat} (hk : 1 ≤ k) :
    (card (fun i => decide (R < 2 * T i)) n : Int) ≤ leastTo T R n k ∧ wsum T (fun _ => true) n ≤ leastTo T R n k * R := by
  have h0 := leastTo_0 (T := T) (R := R) (n := n) k hk
  obtain ⟨c1, c2, c3, c4⟩ := ceil_bd (D := smallN T R 0 n - roomN T R 0 n) hR
  have hm : midN T R 0 n = card (fun i => decide (R < 2 * T i)) n := by
    have := wsum_congr (f := fun _ => (1 : Int)) (g := fun _ => 1) (P := fun i => !decide (R - 0 < T i) && decide (R < 2 * T i)) (Q := fun i => decide (R < 2 * T i)) n (fun i hi => by
      have : T i ≤ R := (hT i hi).2
      simp [this]) (fun _ _ _ => rfl)
    rw [← card_w, ← card_w] at this
    unfold midN; omega
  have e1 := wsum_sub (f := fun _ => R) (g := T) (P := fun i => !decide (R - 0 < T i) && decide (R < 2 * T i)) n
  have e2 := wsum_one (R := R) (P := fun i => !decide (R - 0 < T i) && decide (R < 2 * T i)) n
  have e3 := wsum_or (f := T) (P := fun i => !decide (R - 0 < T i) && decide (R < 2 * T i)) (Q := fun i => !decide (R - 0 < T i) && (!decide (R < 2 * T i) && decide (0 ≤ T i))) n (fun i _ h => by
    simp only [Bool.and_eq_true, Bool.not_eq_true', decide_eq_true_eq, decide_eq_false_iff_not] at h
    exact h.2.2.1 h.1.2)
  have e4 := wsum_congr (f := T) (g := T) (P := fun _ => true) (Q := fun i => (!decide (R - 0 < T i) && decide (R < 2 * T i)) || (!decide (R - 0 < T i) && (!decide (R < 2 * T i) && decide (0 ≤ T i)))) n (fun i hi => by
    have g1 : T i ≤ R := (hT i hi).2
    have g2 : 0 ≤ T i := by have := (hT i hi).1; omega
    by_cases g3 : R < 2 * T i
    · simp [g1, g3]
    · simp [g1, g2, g3]) (fun _ _ _ => rfl)
  unfold leastX at h0
  obtain ⟨c, hc⟩ : ∃ c, (max (smallN T R 0 n - roomN T R 0 n + R - 1) 0) / R = c := ⟨_, rfl⟩
  rw [hc] at c1 c2 c3 c4 h0
  refine ⟨by rw [← hm]; omega, ?_⟩
  have hmul : ((longN T R 0 n : Int) + midN T R 0 n + c) * R ≤ leastTo T R n k * R := Int.mul_le_mul_of_nonneg_right h0 (by omega)
  rw [Int.add_mul, Int.add_mul] at hmul
  have hnn : 0 ≤ (longN T R 0 n : Int) * R := Int.mul_nonneg (by omega) (by omega)
  unfold midN smallN roomN at *
  omega
end Go.Proofs.Ythmifadnfaajbac
namespace Go.Proofs.Ythmifadnfaajbac

-- chapter 11, plain: the fewest rolls (the fewest places of tasks that need not wait)
def zerosN (n : Nat) : List Nat := List.replicate n 0
theorem zeros_bit (n i k : Nat) : ((zerosN n).getD i 0).testBit k = false := by
  have : (zerosN n).getD i 0 = 0 := by
    unfold zerosN
    rw [List.getD_eq_getElem?_getD, List.getElem?_replicate]
    split <;> rfl
  rw [this]; simp
def fewRl (xs : List Int) (R : Int) : Int := fewM xs (zerosN xs.length) R
def lenT (xs : List Int) (i : Nat) : Int := xs.getD i 0
def cutsM (xs : List Int) (R : Int) : Bool := allIn 1 R xs && (inB 1 20 R && decide (xs.length ≤ 7))
theorem cuts_get {xs : List Int} {R : Int} (h : cutsM xs R = true) : 1 ≤ R ∧ R ≤ 20 ∧ xs.length ≤ 7 ∧ ∀ i, i < xs.length → 1 ≤ lenT xs i ∧ lenT xs i ≤ R := by
  unfold cutsM inB at h
  simp only [Bool.and_eq_true, decide_eq_true_eq] at h
  exact ⟨h.2.1.1, h.2.1.2, h.2.2, fun i hi => allIn_get h.1 (get_getD hi)⟩
theorem cuts_take {xs : List Int} {R : Int} (h : cutsM xs R = true) (k : Nat) : cutsM (xs.take k) R = true := by
  unfold cutsM at h ⊢
  simp only [Bool.and_eq_true, decide_eq_true_eq] at h ⊢
  refine ⟨?_, h.2.1, by rw [List.length_take]; omega⟩
  unfold allIn at h ⊢
  rw [List.all_eq_true] at h ⊢
  exact fun y hy => h.1 y (List.mem_of_mem_take hy)
theorem few_min {xs : List Int} {R : Int} {m : Nat} {q : Nat → Nat} (hq : ∀ i, i < xs.length → q i < m) (hql : ∀ j, wsum (lenT xs) (fun i => q i == j) xs.length ≤ R) : 0 ≤ fewRl xs R ∧ fewRl xs R ≤ m :=
  few_le (by simp [zerosN]) (fun i k h => by rw [zeros_bit] at h; cases h) ⟨hq, fun i hi k h => (by rw [zeros_bit] at h; cases h), fun j => by rw [csum_w]; exact hql j⟩
theorem few_each {xs : List Int} {R : Int} (hR : 0 ≤ R) (h : ∀ i, i < xs.length → lenT xs i ≤ R) : 0 ≤ fewRl xs R ∧ fewRl xs R ≤ xs.length :=
  few_nn (by simp [zerosN]) (fun i k h => by rw [zeros_bit] at h; cases h) hR h
theorem few_plan {xs : List Int} {R : Int} (hR : 0 ≤ R) (h : ∀ i, i < xs.length → lenT xs i ≤ R) : ∃ (m : Nat) (q : Nat → Nat), fewRl xs R = (m : Int) ∧ (∀ i, i < xs.length → q i < m) ∧ ∀ j, wsum (lenT xs) (fun i => q i == j) xs.length ≤ R := by
  have h0 := (few_each hR h).1
  obtain ⟨q, hq⟩ := few_get (T := xs) (A := zerosN xs.length) (c := R) (by simp [zerosN]) hR (fun i k h => by rw [zeros_bit] at h; cases h) h0
  exact ⟨(fewRl xs R).toNat, q, by omega, hq.low, fun j => by have := hq.load j; rwa [csum_w] at this⟩
theorem few_none (R : Int) : fewRl [] R = 0 := rfl
theorem lenT_take {xs : List Int} {k i : Nat} (h : i < k) : lenT (xs.take k) i = lenT xs i := by
  unfold lenT
  rw [List.getD_eq_getElem?_getD, List.getD_eq_getElem?_getD, List.getElem?_take, if_pos h]
/-- one cut more takes at most one roll more -/
theorem few_take {xs : List Int} {R : Int} {n : Nat} (hR : 1 ≤ R) (hn : xs.length = n + 1) (h : ∀ i, i < xs.length → 1 ≤ lenT xs i ∧ lenT xs i ≤ R) : fewRl (xs.take n) R ≤ fewRl xs R ∧ fewRl xs R ≤ fewRl (xs.take n) R + 1 := by
  have hl : (xs.take n).length = n := by rw [List.length_take]; omega
  constructor
  · obtain ⟨m, q, e, h1, h2⟩ := few_plan (by omega) (fun i hi => (h i hi).2)
    rw [e]
    refine (few_min (q := q) (fun i hi => h1 i (by omega)) (fun j => ?_)).2
    refine Int.le_trans ?_ (h2 j)
    rw [hl, hn, wsum, wsum_congr (f := lenT (xs.take n)) (g := lenT xs) (Q := fun i => q i == j) n (fun _ _ => rfl) (fun i hi _ => lenT_take hi)]
    have := (h n (by omega)).1
    split <;> omega
  · obtain ⟨m, q, e, h1, h2⟩ := few_plan (xs := xs.take n) (R := R) (by omega) (fun i hi => by rw [lenT_take (by omega)]; exact (h i (by omega)).2)
    rw [e]
    have := (few_min (xs := xs) (R := R) (m := m + 1) (q := fun i => if i < n then q i else m) (fun i hi => by
      try dsimp only
      split
      · have := h1 i (by omega); omega
      · omega) (fun j => by
      have h3 := h2 j
      rw [hl] at h3
      have e1 : wsum (lenT xs) (fun i => (if i < n then q i else m) == j) n = wsum (lenT (xs.take n)) (fun i => q i == j) n := wsum_congr n (fun i hi => by rw [if_pos hi]) (fun i hi _ => (lenT_take hi).symm)
      rw [hn, wsum, e1, if_neg (show ¬ n < n by omega)]
      have hx := h n (by omega)
      by_cases g : m = j
      · subst g
        rw [if_pos (by simp), wsum_none n (fun i hi => by have := h1 i (by omega); simp; omega)]
        omega
      · rw [if_neg (by simp [g])]; omega)).2
    push_cast at this
    omega
theorem few_least {xs : List Int} {R : Int} (hR : 1 ≤ R) (h : ∀ i, i < xs.length → 1 ≤ lenT xs i ∧ lenT xs i ≤ R) {k : Nat} (hk : ∀ x : Nat, x < k → 2 * (x : Int) ≤ R) : leastTo (lenT xs) R xs.length k ≤ fewRl xs R := by
  obtain ⟨m, q, e, h1, h2⟩ := few_plan (by omega) (fun i hi => (h i hi).2)
  rw [e]
  exact leastTo_le hR h h1 (fun j _ => h2 j) k hk
/-- every set of valid cuts has its fewest -/
theorem zeros_clo (n s : Nat) : ∀ k, cloM (zerosN n) s k = true := fun k => (cloM_iff k).2 (fun i _ _ j h => by rw [zeros_bit] at h; cases h)
theorem st_nn {T : List Int} {n : Nat} {c : Int} (hc : 0 ≤ c) (hT : ∀ k, k < T.length → T.getD k 0 ≤ c) : ∀ N s, s ≤ N → 0 ≤ stP T (zerosN n) c s
  | _, 0, _ => Int.le_refl _
  | 0, s + 1, h => by omega
  | N + 1, s + 1, h => by
    have hne : s + 1 ≠ 0 := by omega
    obtain ⟨i, hi⟩ := Nat.exists_testBit_of_ne_zero hne
    obtain ⟨r, hr⟩ : ∃ r, dif (s + 1) (2 ^ i) = r := ⟨_, rfl⟩
    have hb : ∀ j, r.testBit j = ((s + 1).testBit j && !decide (i = j)) := fun j => by rw [← hr, dif_bit, Nat.testBit_two_pow]
    have hsub : r &&& (s + 1) = r := sub_iff.2 (fun j hj => by rw [hb] at hj; simp only [Bool.and_eq_true] at hj; exact hj.1)
    have hle : r ≤ s + 1 := by rw [← hsub]; exact Nat.and_le_right
    have hlt : r < s + 1 := by
      rcases Nat.lt_or_eq_of_le hle with g | g
      · exact g
      · have := hb i
        rw [g, hi] at this; simp at this
    rw [stP_succ]
    unfold nxtP
    rw [if_pos (zeros_clo _ _ _)]
    refine (scanP_le (s + 1) r hlt ((okR_tab (by omega)).2 ⟨hsub, st_nn hc hT N r (by omega), ?_⟩)).1
    rw [csum_congr (Q := fun j => j == i) T.length (fun j _ => by
      rw [dif_bit, hb]
      by_cases e : i = j
      · subst e; simp [hi]
      · rw [show (j == i) = false by simp [Ne.symm e]]
        cases (s + 1).testBit j <;> simp [e]), csum_one]
    split
    · rename_i g; exact hT i g
    · exact hc
end Go.Proofs.Ythmifadnfaajbac
namespace Go.Proofs.Ythmifadnfaajbac
open Go.RowKit Go.WideShapes

theorem cut_at {T : List Int} {c : Int} (h : cutsM T c = true) (k : Nat) : 0 ≤ T.getD k 0 ∧ T.getD k 0 ≤ 20 := by
  obtain ⟨h1, h2, _, h4⟩ := cuts_get h
  rcases Nat.lt_or_ge k T.length with g | g
  · have := h4 k g; unfold lenT at this; omega
  · rw [getD_past g]; omega
theorem inRC {lo hi n : Int} {b : Bool} (h : inB lo hi n = b) (w : World) : Calls Try.prog 52 #[.int .i64 n, .int .i64 lo, .int .i64 hi] w fun e w' => e = .returned (.bool b) ∧ w = w' := by
  subst h; exact inRange_any n lo hi w
set_option maxRecDepth 100000 in
set_option maxHeartbeats 2000000 in
theorem vCuts_spec (S : Nat → Prop) (a : Option Addr) (len cap : Nat) (xs : List Int) (R : Int) (w : World) (h : IntsAt w S a len xs) :
    Calls Try.prog 33 #[.slice a len cap, .int .i64 R] w fun e w' => e = .returned (.bool (cutsM xs R)) ∧ w = w' := by
  have hs := h.small
  have HL := Lib.hid h.lenEq
  go_enter Try.func33, Try.ntmps33
  go_wp2_with fail
  go_loop [5] (fun i => ∃ k : Nat, k ≤ len ∧ i = .int .i64 k ∧ allIn 1 R (xs.take k) = true) (fun i => len - (intOf i).toNat)
  case atStart => exact ⟨0, Nat.zero_le _, rfl, rfl⟩
  case round =>
    obtain ⟨k, hk, rfl, ha⟩ := hrel
    have HA := Lib.hid ha
    clear ha
    by_cases hlt : k < len
    · have hkI : (k : Int) < (len : Int) := by omega
      obtain ⟨b, off, x, rfl, hx, hc⟩ := h.get hlt
      have HX := Lib.hid hx
      clear hx
      cases hq : inB 1 R x
      · have HF := Lib.hid (show cutsM xs R = false by unfold cutsM; rw [allIn_false HX.out hq]; rfl)
        go_wp2_with (go_at_call 52; refine (inRC hq _).mono ?_; rintro e w' ⟨rfl, rfl⟩)
        go_ret
        exact ⟨ret_bool HF.out.symm, rfl⟩
      · go_wp2_with (go_at_call 52; refine (inRC hq _).mono ?_; rintro e w' ⟨rfl, rfl⟩)
        go_round
        case rel => exact ⟨k + 1, by omega, by go_num, allIn_step HX.out HA.out hq⟩
        case measure => simp [intOf]; omega
    · obtain rfl : k = len := by omega
      have hkI : ¬ (k : Int) < (k : Int) := by omega
      have ha := HA.out
      rw [List.take_of_length_le (by rw [HL.out]; omega)] at ha
      cases h1 : inB 1 20 R
      · have HF := Lib.hid (show cutsM xs R = false by unfold cutsM; rw [h1, ha]; rfl)
        clear ha
        go_wp2_with (go_at_call 52; refine (inRC h1 _).mono ?_; rintro e w' ⟨rfl, rfl⟩)
        go_ret
        exact ⟨ret_bool HF.out.symm, rfl⟩
      · have HF := Lib.hid (show cutsM xs R = decide ((k : Int) ≤ 7) by unfold cutsM; rw [h1, ha, HL.out]; simp; omega)
        clear ha
        go_wp2_with (go_at_call 52; refine (inRC h1 _).mono ?_; rintro e w' ⟨rfl, rfl⟩)
        go_ret
        exact ⟨ret_bool (by rw [HF.out]), rfl⟩
theorem vcuts {S : Nat → Prop} {a : Option Addr} {len cap : Nat} {xs : List Int} {R : Int} {b : Bool} (hb : cutsM xs R = b) (w : World) (h : IntsAt w S a len xs) : Calls Try.prog 33 #[.slice a len cap, .int .i64 R] w fun e w' => e = .returned (.bool b) ∧ w = w' := by
  subst hb; exact vCuts_spec S a len cap xs R w h
/-- what FewestRolls answers -/
def rollsRes (xs : List Int) (R : Int) : Int := if cutsM xs R then fewRl xs R else -1
end Go.Proofs.Ythmifadnfaajbac
namespace Go.Proofs.Ythmifadnfaajbac
open Go.RowKit Go.WideShapes

/-- what LeastRolls answers -/
def leastRes11 (xs : List Int) (R : Int) : Int := if cutsM xs R then leastTo (lenT xs) R xs.length (R.toNat / 2 + 1) else -1
theorem long_bd {T : Nat → Int} {R x : Int} : ∀ n, longN T R x n ≤ n ∧ midN T R x n ≤ n
  | 0 => by simp [longN, midN, card]
  | n + 1 => by
    have ih := long_bd (T := T) (R := R) (x := x) n
    unfold longN midN at ih ⊢
    rw [card, card]
    constructor <;> (split <;> omega)
theorem room_bd {T : Nat → Int} {R x : Int} {N : Nat} (hT : ∀ i, i < N → 1 ≤ T i ∧ T i ≤ R) (hR : R ≤ 20) : ∀ n : Nat, n ≤ N → 0 ≤ roomN T R x n ∧ roomN T R x n ≤ 20 * (n : Int) ∧ 0 ≤ smallN T R x n ∧ smallN T R x n ≤ 20 * (n : Int)
  | 0, _ => by simp [roomN, smallN, wsum]
  | n + 1, h => by
    have ih := room_bd (x := x) hT hR n (by omega)
    have h1 := hT n (by omega)
    unfold roomN smallN at ih ⊢
    rw [wsum, wsum]
    push_cast
    refine ⟨?_, ?_, ?_, ?_⟩ <;> (split <;> omega)
end Go.Proofs.Ythmifadnfaajbac
namespace Go.Proofs.Ythmifadnfaajbac
open Go.RowKit Go.WideShapes

theorem Try.infoIntD : (Try.prog.info? 3).map (fun i => (i.zero, i.size, i.bytes)) = some (some (.int .i64 0), 1, 8) := by kernel_rfl

/-- the days that are drawn -/
def DaysOk (xs : List Int) : Prop := xs.length ≤ 9 ∧ (∀ k, -1 ≤ xs.getD k 0) ∧ (∀ k, xs.getD k 0 ≤ if k = 0 then 21 else 12)
theorem daysOk_of {xs : List Int} (hl : xs.length ≤ 9) (h : ∀ x ∈ xs, 0 ≤ x ∧ x ≤ 12) : DaysOk xs := by
  have key : ∀ k, 0 ≤ xs.getD k 0 ∧ xs.getD k 0 ≤ 12 := by
    intro k
    rcases Nat.lt_or_ge k xs.length with h' | h'
    · exact h _ (List.mem_of_getElem? (get_getD h'))
    · rw [getD_past h']; omega
  exact ⟨hl, fun k => by have := key k; omega, fun k => by have := key k; split <;> omega⟩
theorem daysOk_set {xs : List Int} {x : Int} (hl : xs.length ≤ 9) (h : ∀ x ∈ xs, 0 ≤ x ∧ x ≤ 12) (hx : x = -1 ∨ x = 21) : DaysOk (xs.set 0 x) := by
  have key : ∀ k, 0 ≤ xs.getD k 0 ∧ xs.getD k 0 ≤ 12 := by
    intro k
    rcases Nat.lt_or_ge k xs.length with h' | h'
    · exact h _ (List.mem_of_getElem? (get_getD h'))
    · rw [getD_past h']; omega
  have e : ∀ k, (xs.set 0 x).getD k 0 = if k = 0 ∧ 0 < xs.length then x else xs.getD k 0 := by
    intro k
    rw [List.getD_eq_getElem?_getD, List.getD_eq_getElem?_getD, List.getElem?_set]
    by_cases hk : 0 = k
    · subst hk
      by_cases hp : 0 < xs.length
      · rw [if_pos rfl, if_pos hp, if_pos ⟨rfl, hp⟩]; rfl
      · rw [if_pos rfl, if_neg hp, if_neg (by omega), List.getElem?_eq_none (by omega)]
    · rw [if_neg hk, if_neg (by omega)]
  refine ⟨by rw [List.length_set]; exact hl, fun k => ?_, fun k => ?_⟩
  · rw [e]; have := key k; split <;> omega
  · rw [e]; have := key k; split <;> split <;> omega

def DaysPost (w : World) (R p : Nat) (e : Ending) (w' : World) : Prop := ∃ (a : Option Addr) (len cap : Nat) (xs : List Int) (p' : Nat), e = .returned (.slice a len cap) ∧
  w'.ownsRow w.heap.size 3 1 (.slice a len cap) len (xs.map (.int .i64)) ∧ len ≤ cap ∧ len ≤ 9 ∧ DaysOk xs ∧ Rd w' R p' ∧ p' ≤ p + 100 ∧ w.grownBy w' (some R)
theorem DaysPost.mk {w w' : World} {R p p' : Nat} {a : Option Addr} {len cap : Nat} {xs : List Int} (h : w'.ownsRow w.heap.size 3 1 (.slice a len cap) len (xs.map (.int .i64))) (hl : len ≤ 9) (hd : DaysOk xs) (hr : Rd w' R p') (hp : p' ≤ p + 100) (hg : w.grownBy w' (some R)) :
    DaysPost w R p (.returned (.slice a len cap)) w' := by
  obtain ⟨a', cap', e, hc⟩ := own_slice h
  simp only [Value.slice.injEq] at e
  obtain ⟨rfl, _, rfl⟩ := e
  exact ⟨_, _, _, xs, p', rfl, h, hc, hl, hd, hr, hp, hg⟩
theorem ro {R : Nat} : ∀ k, some R = some k → k = R ∨ False := by intro k e; cases e; exact Or.inl rfl

theorem most_n {n : Int} (h : n ∈ [6, 12, 3]) : 3 ≤ n ∧ n ≤ 12 := by simp at h; omega
theorem days_n {n : Int} (h : n ∈ [5, 6, 4, 8, 3, 2, 1, 0, 9]) : ∃ m : Nat, n = (m : Int) ∧ m ≤ 9 := by simp at h; exact ⟨n.toNat, by omega, by omega⟩
theorem grown_r {a b c : World} {R : Nat} (h : a.grownBy b (some R)) (g : b.grownBy c (some R)) : a.grownBy c (some R) := grown_trans h g (fun k e => by cases e; exact Or.inl rfl)

end Go.Proofs.Ythmifadnfaajbac
namespace Go.Proofs.Ythmifadnfaajbac
open Go.RowKit Go.WideShapes

set_option maxRecDepth 100000 in
/-- append of a list to a list of the call's own, at a step of a region that draws; the source may be empty -/
theorem stepApp {ops : Array Oper} {o : Oper} {a : Act} {K : Act → World → Prop} {Q : Exit → Act → World → Prop} {E : Prop} {wo : World} (hgd : o.guard = none) (s x : Operand)
    (ho : o.op = .call { callee := .builtin .append, args := #[s, x], argTypes := #[23, 23] })
    (base k cp gx : Nat) (xs : List Int) (S : Nat → Prop) (b off m c : Nat) (ys : List Int) (hs : a.eval s = .slice (some ⟨gx, 0, none⟩) k cp)
    (hown : wo.ownsRow base 3 1 (.slice (some ⟨gx, 0, none⟩) k cp) k (xs.map (.int .i64))) (hx : a.eval x = .slice (some ⟨b, off, none⟩) m c) (hy : IntsAt wo S (some ⟨b, off, none⟩) m ys)
    (hbase : base ≤ wo.heap.size) (km : Nat) (hkm : k + m = km) (zs : List Int) (hzs : xs ++ ys = zs) (hk : km ≤ 1048576)
    (h : ∀ (g6 c6 : Nat) (w' : World), w'.ownsRow base 3 1 (.slice (some ⟨g6, 0, none⟩) km c6) km (zs.map (.int .i64)) → km ≤ c6 → wo.grownBy w' (some gx) → base ≤ g6 → g6 < w'.heap.size →
      K (a.put o.dst (.slice (some ⟨g6, 0, none⟩) km c6)) w') :
    if Region.wanted o (yielded ops a.tmps) = true then Oper.wp Try.prog o a wo K Q else E := by
  subst hkm
  subst hzs
  have hw : Region.wanted o (yielded ops a.tmps) = true := by simp [Region.wanted, hgd]
  rw [if_pos hw]
  obtain ⟨i0, hi, hz0, hz1, hz2⟩ := info_parts Try.infoIntO
  obtain ⟨v', w', hr, h2, h3, h4, _⟩ := run_append_own_at (P := Try.prog) wo base 23 o.type 3 i0 (.int .i64 0) 1 8 Try.underlying23 hi hz0 hz1 hz2 rfl (by decide) _ k _ hown ⟨b, off, none⟩ m c (ys.map (.int .i64)) (by simp [hy.lenEq]) (by
    intro j u hj
    rw [List.getElem?_map] at hj
    cases hq : ys[j]? with
    | none => rw [hq] at hj; cases hj
    | some z =>
      rw [hq] at hj
      simp only [Option.map_some, Option.some.injEq] at hj
      have hlt : j < ys.length := (List.getElem?_eq_some_iff.1 hq).1
      obtain ⟨b', off', e, _, hc⟩ := hy.cells (by have := hy.lenEq; omega)
      cases e
      rw [add_plain, hc _ _ hq, ← hj]) (by
    intro u hu
    obtain ⟨x, _, rfl⟩ := List.mem_map.1 hu
    rfl) (by unfold maxLen; omega) (by omega) hbase
  unfold Oper.wp execOp
  simp only [ho, resolve, invoke, builtin, Sem.run_bind, Sem.run_pure, Result.andThen_ok, List.map_toArray, List.map_cons, List.map_nil, hs, hx, hr]
  obtain ⟨a6, c6, rfl, hc⟩ := own_slice h2
  rcases h2.2 with ⟨e1, e2⟩ | ⟨g, cap, cur, hv, hb, hg, _⟩
  · exact absurd (h4.1 (by injection e1 with e3 _ e4; subst e3; subst e4; rw [e2])).1 (by simp)
  · injection hv with e3 _ e4
    subst e3
    rw [← List.map_append] at h2
    refine h g c6 w' h2 hc h3 hb ?_
    rcases Nat.lt_or_ge g w'.heap.size with hlt | hge
    · exact hlt
    · rw [Array.getElem?_eq_none hge] at hg; cases hg

theorem IntsAt.takeI {w : World} {S : Nat → Prop} {b off len : Nat} {xs : List Int} (h : IntsAt w S (some ⟨b, off, none⟩) len xs) (k : Nat) (hk : k ≤ len) : IntsAt w S (some ⟨b, off, none⟩) k (xs.take k) := by
  have hl := h.lenEq
  have hs := h.small
  refine ⟨by simp; omega, by omega, fun h0 => ?_⟩
  obtain ⟨b', off', e, hS, hc⟩ := h.cells (by omega)
  cases e
  refine ⟨_, _, rfl, hS, fun i x hx => hc i x ?_⟩
  rw [List.getElem?_take] at hx
  split at hx
  · exact hx
  · cases hx
theorem IntsAt.dropI {w : World} {S : Nat → Prop} {b len : Nat} {xs : List Int} (h : IntsAt w S (some ⟨b, 0, none⟩) len xs) (k : Nat) (hk : k ≤ len) : IntsAt w S (some ⟨b, k, none⟩) (len - k) (xs.drop k) := by
  have hl := h.lenEq
  have hs := h.small
  refine ⟨by simp; omega, by omega, fun h0 => ?_⟩
  obtain ⟨b', off', e, hS, hc⟩ := h.cells (by omega)
  cases e
  refine ⟨_, _, rfl, hS, fun i x hx => ?_⟩
  rw [List.getElem?_drop] at hx
  have := hc _ x hx
  rwa [Nat.zero_add] at this
theorem IntsAt.grownEq {W W' w' : World} {b r len : Nat} {xs : List Int} (h : IntsAt W (fun k => k = b) (some ⟨b, 0, none⟩) len xs) (hg : W'.grownBy w' (some r)) (he : W'.heap = W.heap) (hb : b < W'.heap.size) (hr : b ≠ r) :
    IntsAt w' (fun k => k = b) (some ⟨b, 0, none⟩) len xs :=
  h.to fun k hk => ⟨hk, by subst hk; rw [hg.block _ hb (by simp; omega), he]⟩
theorem below_grown {n : Nat} {w w' : World} (h : Below n w w') (hn : n = w.heap.size) (r : Option Nat) : w.grownBy w' r := by
  subst hn
  exact ⟨h.os, h.tape, h.output, h.size, fun k hk _ => h.block k hk⟩
def OrderPost (w : World) (R p n : Nat) (e : Ending) (w' : World) : Prop := ∃ (g cap : Nat) (xs : List Int), e = .returned (.slice (some ⟨g, 0, none⟩) n cap) ∧
  w'.ownsRow w.heap.size 3 1 (.slice (some ⟨g, 0, none⟩) n cap) n (xs.map (.int .i64)) ∧ n ≤ cap ∧ (∀ x ∈ xs, -1 ≤ x ∧ x ≤ n) ∧ w.grownBy w' (some R)
end Go.Proofs.Ythmifadnfaajbac
