import Derived.Test.YtldncfkkeeinjacLib
import Derived.Test.YtldncfkkeeinjacNetM
import Derived.Test.YtldncfkkeeinjacArr
import Derived.Test.YtldncfkkeeinjacPlanM
namespace Go.Proofs.Ytldncfkkeeinjac

/-- the first day of the lot of day q, when the lot of day i ends ahead of day nx i -/
def owner (nx : Nat → Nat) : Nat → Nat
  | 0 => 0
  | q + 1 => if nx (owner nx q) = q + 1 then q + 1 else owner nx q
def Nexts (nx : Nat → Nat) (n : Nat) : Prop := ∀ i, i < n → i < nx i ∧ nx i ≤ n
theorem owner_in {nx : Nat → Nat} {n : Nat} (h : Nexts nx n) : ∀ q, q < n → owner nx q ≤ q ∧ q < nx (owner nx q) ∧ nx (owner nx q) ≤ n := by
  intro q
  induction q with
  | zero => intro hq; have := h 0 hq; exact ⟨Nat.le_refl _, this⟩
  | succ q ih =>
    intro hq
    obtain ⟨h1, h2, h3⟩ := ih (by omega)
    rw [owner]
    split
    · have := h (q + 1) hq; exact ⟨Nat.le_refl _, this⟩
    · exact ⟨by omega, by omega, h3⟩
theorem owner_self {nx : Nat → Nat} {n : Nat} (h : Nexts nx n) : ∀ q, q < n → owner nx (owner nx q) = owner nx q := by
  intro q
  induction q with
  | zero => intro _; rfl
  | succ q ih =>
    intro hq
    by_cases e : nx (owner nx q) = q + 1
    · have e2 : owner nx (q + 1) = q + 1 := by rw [owner, if_pos e]
      rw [e2, e2]
    · have e2 : owner nx (q + 1) = owner nx q := by rw [owner, if_neg e]
      rw [e2]; exact ih (by omega)
/-- within a lot -/
theorem owner_run {nx : Nat → Nat} {i : Nat} (hi : owner nx i = i) : ∀ d, i + d < nx i → owner nx (i + d) = i := by
  intro d
  induction d with
  | zero => intro _; exact hi
  | succ d ih =>
    intro h
    rw [← Nat.add_assoc, owner, ih (by omega), if_neg (by omega)]
/-- the next lot begins -/
theorem owner_next {nx : Nat → Nat} {i : Nat} (hi : owner nx i = i) (h : i < nx i) : owner nx (nx i) = nx i := by
  obtain ⟨d, hd⟩ : ∃ d, nx i = i + d + 1 := ⟨nx i - i - 1, by omega⟩
  rw [hd, owner, owner_run hi d (by omega), if_pos hd]
/-- what is made on day q -/
def madeAt (nx : Nat → Nat) (xs : List Int) (q : Nat) : Int := if owner nx q = q then sumN xs (nx q) - sumN xs q else 0
def madeM (nx : Nat → Nat) (xs : List Int) : List Int := tab (madeAt nx xs) xs.length
theorem madeM_length (nx : Nat → Nat) (xs : List Int) : (madeM nx xs).length = xs.length := tab_length _ _
theorem madeM_getD (nx : Nat → Nat) (xs : List Int) {q : Nat} (h : q < xs.length) : (madeM nx xs).getD q 0 = madeAt nx xs q := tab_getD _ h
theorem made_sum {nx : Nat → Nat} {xs : List Int} (h : Nexts nx xs.length) : ∀ q, q < xs.length → sumN (madeM nx xs) (q + 1) = sumN xs (nx (owner nx q)) := by
  intro q
  induction q with
  | zero =>
    intro hq
    rw [sumN, sumN, madeM_getD _ _ hq, madeAt, if_pos (show owner nx 0 = 0 from rfl)]
    have : sumN xs 0 = 0 := rfl
    show 0 + (sumN xs (nx 0) - sumN xs 0) = sumN xs (nx 0); omega
  | succ q ih =>
    intro hq
    rw [sumN, ih (by omega), madeM_getD _ _ hq, madeAt]
    by_cases e : nx (owner nx q) = q + 1
    · have e2 : owner nx (q + 1) = q + 1 := by rw [owner, if_pos e]
      rw [if_pos e2, e2, e]; omega
    · have e2 : owner nx (q + 1) = owner nx q := by rw [owner, if_neg e]
      have := (owner_in h q (by omega)).1
      rw [e2, if_neg (by omega)]; omega
theorem made_total {nx : Nat → Nat} {xs : List Int} (h : Nexts nx xs.length) : sumN (madeM nx xs) xs.length = sumN xs xs.length := by
  by_cases h0 : xs.length = 0
  · rw [h0]; rfl
  · have := made_sum h (xs.length - 1) (by omega)
    obtain ⟨_, h2, h3⟩ := owner_in h (xs.length - 1) (by omega)
    rw [show xs.length - 1 + 1 = xs.length by omega] at this
    rw [this, show nx (owner nx (xs.length - 1)) = xs.length by omega]
theorem made_before {nx : Nat → Nat} {xs : List Int} (hx : ∀ k, 0 ≤ xs.getD k 0) (h : Nexts nx xs.length) {k : Nat} (hk : k ≤ xs.length) : sumN xs k ≤ sumN (madeM nx xs) k := by
  cases k with
  | zero => exact Int.le_refl _
  | succ q =>
    obtain ⟨_, h2, _⟩ := owner_in h q (by omega)
    rw [made_sum h q (by omega)]
    exact sumN_le hx (by omega)
theorem madeAt_bd {nx : Nat → Nat} {xs : List Int} {B : Int} (hx : ∀ k, 0 ≤ xs.getD k 0 ∧ xs.getD k 0 ≤ B) (h : Nexts nx xs.length) {q : Nat} (hq : q < xs.length) : 0 ≤ madeAt nx xs q ∧ madeAt nx xs q ≤ B * xs.length := by
  have h1 := h q hq
  have h2 := sumN_le (fun k => (hx k).1) (show q ≤ nx q by omega)
  have h3 := sumN_bd hx (nx q)
  have h4 := sumN_bd hx q
  have hB : 0 ≤ B := by have := hx 0; omega
  have h5 : B * ((nx q : Nat) : Int) ≤ B * xs.length := Int.mul_le_mul_of_nonneg_left (by omega) hB
  unfold madeAt; split <;> omega
theorem made_nonneg {nx : Nat → Nat} {xs : List Int} (hx : ∀ k, 0 ≤ xs.getD k 0) (h : Nexts nx xs.length) (k : Nat) : 0 ≤ (madeM nx xs).getD k 0 := by
  by_cases hk : k < xs.length
  · rw [madeM_getD _ _ hk]
    have h1 := h k hk
    have h2 := sumN_le hx (show k ≤ nx k by omega)
    unfold madeAt; split <;> omega
  · rw [getD_past (by rw [madeM_length]; omega)]; exact Int.le_refl _
/-- lots that each cost least cost least together -/
theorem made_least {nx : Nat → Nat} {xs : List Int} {s h : Int} (hx : ∀ k, 0 ≤ xs.getD k 0) (hn : Nexts nx xs.length) (hb : ∀ i, i < xs.length → runD xs s h i (nx i - i) + bst xs s h (nx i) = bst xs s h i) :
    planTo (madeM nx xs) xs s h xs.length = bst xs s h 0 := by
  have key : ∀ q, q < xs.length → planTo (madeM nx xs) xs s h (q + 1) = bst xs s h 0 - bst xs s h (owner nx q) + (h * (hsum xs (owner nx q) (q + 1 - owner nx q) + ((q + 1 - owner nx q : Nat) : Int) * (sumN xs (nx (owner nx q)) - sumN xs (q + 1))) + (if 0 < sumN xs (nx (owner nx q)) - sumN xs (owner nx q) then s else 0)) := by
    intro q
    induction q with
    | zero =>
      intro hq
      have e0 : owner nx 0 = 0 := rfl
      have hp : planTo (madeM nx xs) xs s h 0 = 0 := rfl
      have hz : sumN xs 0 = 0 := rfl
      rw [planTo, hp, dayC, made_sum hn 0 hq, madeM_getD _ _ hq, madeAt, e0, if_pos rfl, hz]
      simp only [hsum, Nat.sub_zero, Nat.zero_add, Int.sub_zero, Int.natCast_one, Int.one_mul, Int.natCast_zero, Int.zero_mul, Int.zero_add, Int.sub_self]
    | succ q ih =>
      intro hq
      have ih' := ih (by omega)
      obtain ⟨h1, h2, h3⟩ := owner_in hn q (by omega)
      rw [planTo, ih', dayC, made_sum hn (q + 1) hq, madeM_getD _ _ hq, madeAt]
      by_cases e : nx (owner nx q) = q + 1
      · have e2 : owner nx (q + 1) = q + 1 := by rw [owner, if_pos e]
        have hb' := hb (owner nx q) (by omega)
        rw [e] at hb' ⊢
        rw [e2, if_pos rfl, Int.sub_self, Int.mul_zero, Int.add_zero, show q + 1 + 1 - (q + 1) = 1 by omega]
        have hr : runD xs s h (owner nx q) (q + 1 - owner nx q) = h * hsum xs (owner nx q) (q + 1 - owner nx q) + (if 0 < sumN xs (q + 1) - sumN xs (owner nx q) then s else 0) := by
          unfold runD; rw [show owner nx q + (q + 1 - owner nx q) = q + 1 by omega]
        rw [hr] at hb'
        simp only [hsum, Int.natCast_zero, Int.zero_mul, Int.zero_add, Int.natCast_one, Int.one_mul]
        omega
      · have e2 : owner nx (q + 1) = owner nx q := by rw [owner, if_neg e]
        rw [e2, if_neg (show ¬ owner nx q = q + 1 by omega), if_neg (show ¬ (0 : Int) < 0 by omega)]
        obtain ⟨d, hd⟩ : ∃ d, q + 1 - owner nx q = d := ⟨_, rfl⟩
        have e3 : q + 1 + 1 - owner nx q = d + 1 := by omega
        rw [e3, hd, hsum, show owner nx q + d = q + 1 by omega, show sumN xs (q + 1 + 1) = sumN xs (q + 1) + xs.getD (q + 1) 0 from rfl]
        have e4 : h * (hsum xs (owner nx q) d + (d : Int) * xs.getD (q + 1) 0 + ((d + 1 : Nat) : Int) * (sumN xs (nx (owner nx q)) - (sumN xs (q + 1) + xs.getD (q + 1) 0))) =
            h * (hsum xs (owner nx q) d + (d : Int) * (sumN xs (nx (owner nx q)) - sumN xs (q + 1))) + h * (sumN xs (nx (owner nx q)) - (sumN xs (q + 1) + xs.getD (q + 1) 0)) := by
          rw [← Int.mul_add]
          congr 1
          push_cast
          rw [Int.add_mul, Int.one_mul, Int.mul_sub, Int.mul_sub, Int.mul_add]
          omega
        rw [e4]; omega
  by_cases h0 : xs.length = 0
  · have : bst xs s h 0 = 0 := by have := bst_end xs s h; rw [h0] at this; exact this
    rw [this, h0]; rfl
  · have := key (xs.length - 1) (by omega)
    obtain ⟨h1, h2, h3⟩ := owner_in hn (xs.length - 1) (by omega)
    have hb' := hb (owner nx (xs.length - 1)) (by omega)
    have e : nx (owner nx (xs.length - 1)) = xs.length := by omega
    rw [e, bst_end] at hb'
    rw [show xs.length - 1 + 1 = xs.length by omega, e, Int.sub_self, Int.mul_zero, Int.add_zero] at this
    have hr : runD xs s h (owner nx (xs.length - 1)) (xs.length - owner nx (xs.length - 1)) = h * hsum xs (owner nx (xs.length - 1)) (xs.length - owner nx (xs.length - 1)) + (if 0 < sumN xs xs.length - sumN xs (owner nx (xs.length - 1)) then s else 0) := by
      unfold runD; rw [show owner nx (xs.length - 1) + (xs.length - owner nx (xs.length - 1)) = xs.length by omega]
    rw [hr] at hb'
    omega
end Go.Proofs.Ytldncfkkeeinjac
