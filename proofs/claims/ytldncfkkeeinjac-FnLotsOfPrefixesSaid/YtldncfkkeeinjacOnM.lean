import Derived.Test.YtldncfkkeeinjacLib
import Derived.Test.YtldncfkkeeinjacNetM
import Derived.Test.YtldncfkkeeinjacArr
import Derived.Test.YtldncfkkeeinjacPlanM
import Derived.Test.YtldncfkkeeinjacBlockM
namespace Go.Proofs.Ytldncfkkeeinjac

/-- the last of the first k days that is on; -1: none is -/
def lastOn (on : Nat → Bool) : Nat → Int
  | 0 => -1
  | k + 1 => if on k then (k : Int) else lastOn on k
/-- what is made on day q when the first k days are looked at -/
def onTo (on : Nat → Bool) (xs : List Int) : Nat → Nat → Int
  | 0, _ => 0
  | k + 1, q => onTo on xs k q + (if lastOn on (k + 1) = (q : Int) then xs.getD k 0 else 0)
def onM (on : Nat → Bool) (xs : List Int) : List Int := tab (onTo on xs xs.length) xs.length
theorem lastOn_bd (on : Nat → Bool) : ∀ k, -1 ≤ lastOn on k ∧ lastOn on k < max (k : Int) 0 := by
  intro k
  induction k with
  | zero => simp [lastOn]
  | succ k ih => rw [lastOn]; split <;> omega
theorem onTo_bd {on : Nat → Bool} {xs : List Int} {B : Int} (h : ∀ k, 0 ≤ xs.getD k 0 ∧ xs.getD k 0 ≤ B) : ∀ k q, 0 ≤ onTo on xs k q ∧ onTo on xs k q ≤ sumN xs k := by
  intro k
  induction k with
  | zero => intro q; exact ⟨Int.le_refl _, Int.le_refl _⟩
  | succ k ih => intro q; have := ih q; have := h k; rw [onTo, sumN]; split <;> omega
theorem onM_length (on : Nat → Bool) (xs : List Int) : (onM on xs).length = xs.length := tab_length _ _
theorem lastOn_congr {f g : Nat → Bool} : ∀ k, (∀ q, q < k → f q = g q) → lastOn f k = lastOn g k := by
  intro k
  induction k with
  | zero => intro _; rfl
  | succ k ih => intro h; rw [lastOn, lastOn, h k (by omega), ih (fun q hq => h q (by omega))]
theorem onTo_congr {f g : Nat → Bool} {xs : List Int} : ∀ k, (∀ q, q < k → f q = g q) → ∀ q, onTo f xs k q = onTo g xs k q := by
  intro k
  induction k with
  | zero => intro _ _; rfl
  | succ k ih => intro h q; rw [onTo, onTo, ih (fun q hq => h q (by omega)), lastOn_congr (k + 1) h]
theorem onM_congr {f g : Nat → Bool} {xs : List Int} (h : ∀ q, q < xs.length → f q = g q) : onM f xs = onM g xs := tab_congr (fun q _ => onTo_congr _ h q)
/-- on the first days of lots -/
theorem lastOn_owner {nx : Nat → Nat} {n : Nat} (hn : Nexts nx n) {on : Nat → Bool} (h : ∀ q, q < n → on q = decide (owner nx q = q)) : ∀ k, k < n → lastOn on (k + 1) = (owner nx k : Int) := by
  intro k
  induction k with
  | zero => intro h0; rw [lastOn, h 0 h0]; rfl
  | succ k ih =>
    intro hk
    rw [lastOn, h (k + 1) hk]
    by_cases e : owner nx (k + 1) = k + 1
    · rw [decide_eq_true e, if_pos rfl, e]
    · rw [decide_eq_false e, ih (by omega)]
      have hne : owner nx (k + 1) = owner nx k := by
        rw [owner]; split
        · rename_i h2; exact absurd (by rw [owner, if_pos h2]) e
        · rfl
      rw [hne]; rfl
theorem onTo_owner {nx : Nat → Nat} {xs : List Int} (hn : Nexts nx xs.length) {on : Nat → Bool} (h : ∀ q, q < xs.length → on q = decide (owner nx q = q)) : ∀ k, k ≤ xs.length → ∀ q, q < xs.length →
    onTo on xs k q = if owner nx q = q ∧ q < k then sumN xs (min k (nx q)) - sumN xs q else 0 := by
  intro k
  induction k with
  | zero => intro _ q _; rw [if_neg (by omega)]; rfl
  | succ k ih =>
    intro hk q hq
    rw [onTo, ih (by omega) q hq, lastOn_owner hn h k (by omega)]
    obtain ⟨h1, h2, h3⟩ := owner_in hn k (by omega)
    have h4 := owner_self hn k (by omega)
    have h5 := hn q hq
    by_cases e : owner nx k = q
    · have c1 : (owner nx k : Int) = (q : Int) := by rw [e]
      rw [e] at h1 h2 h4
      have c3 : owner nx q = q ∧ q < k + 1 := ⟨h4, by omega⟩
      by_cases e2 : q = k
      · have c2 : ¬ (owner nx q = q ∧ q < k) := fun h => by omega
        subst e2
        rw [if_pos c1, if_neg c2, if_pos c3, show min (q + 1) (nx q) = q + 1 by omega, sumN]; omega
      · have c2 : owner nx q = q ∧ q < k := ⟨h4, by omega⟩
        rw [if_pos c1, if_pos c2, if_pos c3, show min (k + 1) (nx q) = k + 1 by omega, show min k (nx q) = k by omega, sumN]; omega
    · have c1 : ¬ (owner nx k : Int) = (q : Int) := by omega
      by_cases e2 : owner nx q = q ∧ q < k
      · have h6 : nx q ≤ k := by
          rcases Nat.lt_or_ge k (nx q) with h' | h'
          · have := owner_run e2.1 (k - q) (by omega)
            rw [show q + (k - q) = k by omega] at this
            exact absurd this e
          · exact h'
        have c3 : owner nx q = q ∧ q < k + 1 := ⟨e2.1, by omega⟩
        rw [if_neg c1, if_pos e2, if_pos c3, show min (k + 1) (nx q) = nx q by omega, show min k (nx q) = nx q by omega]; omega
      · have e3 : ¬ (owner nx q = q ∧ q < k + 1) := fun h' => by
          by_cases e4 : q = k
          · subst e4; exact e h'.1
          · exact e2 ⟨h'.1, by omega⟩
        rw [if_neg c1, if_neg e2, if_neg e3]; rfl
theorem onM_made {nx : Nat → Nat} {xs : List Int} (hn : Nexts nx xs.length) {on : Nat → Bool} (h : ∀ q, q < xs.length → on q = decide (owner nx q = q)) : onM on xs = madeM nx xs := by
  refine tab_congr (fun q hq => ?_)
  rw [onTo_owner hn h _ (Nat.le_refl _) q hq, madeAt]
  have := hn q hq
  by_cases e : owner nx q = q
  · rw [if_pos ⟨e, hq⟩, if_pos e, show min xs.length (nx q) = nx q by omega]
  · rw [if_neg (fun h => e h.1), if_neg e]
-- sets as numbers
/-- the number of a set -/
def numOf (on : Nat → Bool) : Nat → Nat
  | 0 => 0
  | k + 1 => numOf on k + (if on k then 2 ^ k else 0)
theorem numOf_lt (on : Nat → Bool) : ∀ k, numOf on k < 2 ^ k := by
  intro k
  induction k with
  | zero => simp [numOf]
  | succ k ih => rw [numOf, Nat.pow_succ]; split <;> omega
theorem numOf_bit (on : Nat → Bool) : ∀ k q, q < k → (numOf on k).testBit q = on q := by
  intro k
  induction k with
  | zero => intro q hq; omega
  | succ k ih =>
    intro q hq
    have hlt := numOf_lt on k
    rw [numOf]
    by_cases e : q = k
    · subst e
      cases h : on q
      · simp [Nat.testBit_lt_two_pow hlt]
      · rw [if_pos rfl, Nat.add_comm, Nat.testBit_two_pow_add_eq, Nat.testBit_lt_two_pow hlt]; rfl
    · cases h : on k
      · simp [ih q (by omega)]
      · rw [if_pos rfl, Nat.add_comm, Nat.testBit_two_pow_add_gt (by omega), ih q (by omega)]
/-- counting up by one -/
theorem next_bits : ∀ (k m : Nat), (∀ j, j < k → m.testBit j = true) → m.testBit k = false → ∀ q, (m + 1).testBit q = if q < k then false else if q = k then true else m.testBit q := by
  intro k
  induction k with
  | zero =>
    intro m _ h0 q
    rw [if_neg (by omega)]
    have hm : m % 2 = 0 := by
      have : m.testBit 0 = false := h0
      simp [Nat.testBit_zero] at this
      omega
    cases q with
    | zero => simp [Nat.testBit_zero]; omega
    | succ q => rw [if_neg (by omega), Nat.testBit_succ, Nat.testBit_succ, show (m + 1) / 2 = m / 2 by omega]
  | succ k ih =>
    intro m h1 h0 q
    have hm : m % 2 = 1 := by
      have := h1 0 (by omega)
      simp [Nat.testBit_zero] at this
      omega
    have ih' := ih (m / 2) (fun j hj => by rw [← Nat.testBit_succ]; exact h1 (j + 1) (by omega)) (by rw [← Nat.testBit_succ]; exact h0)
    cases q with
    | zero =>
      have c : 0 < k + 1 := by omega
      rw [if_pos c, Nat.testBit_zero]
      simp
      omega
    | succ q =>
      rw [Nat.testBit_succ, show (m + 1) / 2 = m / 2 + 1 by omega, ih' q, Nat.testBit_succ]
      by_cases h : q < k
      · have c : q + 1 < k + 1 := by omega
        rw [if_pos h, if_pos c]
      · have c : ¬ q + 1 < k + 1 := by omega
        rw [if_neg h, if_neg c]
        by_cases e : q = k
        · have c2 : q + 1 = k + 1 := by omega
          rw [if_pos e, if_pos c2]
        · have c2 : ¬ q + 1 = k + 1 := by omega
          rw [if_neg e, if_neg c2]
theorem all_bits : ∀ (k m : Nat), m < 2 ^ k → (∀ j, j < k → m.testBit j = true) → m + 1 = 2 ^ k := by
  intro k
  induction k with
  | zero => intro m h _; simp at h; subst h; rfl
  | succ k ih =>
    intro m h h1
    have hm : m % 2 = 1 := by
      have := h1 0 (by omega)
      simp [Nat.testBit_zero] at this
      omega
    rw [Nat.pow_succ] at h ⊢
    have := ih (m / 2) (by omega) (fun j hj => by rw [← Nat.testBit_succ]; exact h1 (j + 1) (by omega))
    omega
theorem low_bits {k m : Nat} (h : m < 2 ^ k) {q : Nat} (hq : k ≤ q) : m.testBit q = false := Nat.testBit_lt_two_pow (Nat.lt_of_lt_of_le h (Nat.pow_le_pow_right (by omega) hq))
end Go.Proofs.Ytldncfkkeeinjac
