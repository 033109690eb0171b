import Derived.Test.YtkpokcddefoklaaCountM
namespace Go.Proofs.Ytkpokcddefoklaa

/-- the sum of f 0, .., f (n - 1) -/
def sumTo (f : Nat → Int) : Nat → Int
  | 0 => 0
  | n + 1 => sumTo f n + f n
theorem sumTo_congr {f g : Nat → Int} : ∀ {n : Nat}, (∀ k, k < n → f k = g k) → sumTo f n = sumTo g n := by
  intro n
  induction n with
  | zero => intro _; rfl
  | succ n ih => intro h; simp only [sumTo]; rw [ih (fun k hk => h k (by omega)), h n (by omega)]
theorem sumTo_add (f g : Nat → Int) (n : Nat) : sumTo (fun k => f k + g k) n = sumTo f n + sumTo g n := by
  induction n with
  | zero => rfl
  | succ n ih => simp only [sumTo, ih]; omega
theorem sumTo_mul (c : Int) (f : Nat → Int) (n : Nat) : sumTo (fun k => c * f k) n = c * sumTo f n := by
  induction n with
  | zero => simp [sumTo]
  | succ n ih => simp only [sumTo, ih, Int.mul_add]
theorem sumTo_mul_right (c : Int) (f : Nat → Int) (n : Nat) : sumTo (fun k => f k * c) n = sumTo f n * c := by
  induction n with
  | zero => simp [sumTo]
  | succ n ih => simp only [sumTo, ih, Int.add_mul]
theorem sumTo_zero {f : Nat → Int} : ∀ {n : Nat}, (∀ k, k < n → f k = 0) → sumTo f n = 0 := by
  intro n
  induction n with
  | zero => intro _; rfl
  | succ n ih => intro h; simp only [sumTo]; rw [ih (fun k hk => h k (by omega)), h n (by omega)]; rfl
theorem sumTo_swap (f : Nat → Nat → Int) (n m : Nat) : sumTo (fun i => sumTo (fun j => f i j) m) n = sumTo (fun j => sumTo (fun i => f i j) n) m := by
  induction n with
  | zero => exact (sumTo_zero (n := m) (fun k _ => rfl)).symm
  | succ n ih => simp only [sumTo, ih, sumTo_add]
/-- what lies beyond n counts for nothing -/
theorem sumTo_more {f : Nat → Int} {n m : Nat} (h : n ≤ m) (h0 : ∀ k, n ≤ k → k < m → f k = 0) : sumTo f m = sumTo f n := by
  induction m with
  | zero =>
    obtain rfl : n = 0 := by omega
    rfl
  | succ m ih =>
    by_cases e : n = m + 1
    · subst e; rfl
    · simp only [sumTo]; rw [ih (by omega) (fun k h1 h2 => h0 k h1 (by omega)), h0 m (by omega) (by omega), Int.add_zero]
theorem sumTo_one {f : Nat → Int} {n i : Nat} (hi : i < n) (h0 : ∀ k, k < n → k ≠ i → f k = 0) : sumTo f n = f i := by
  rw [sumTo_more (n := i + 1) (by omega) (fun k h1 h2 => h0 k h2 (by omega))]
  simp only [sumTo]
  rw [sumTo_zero (fun k hk => h0 k (by omega) (by omega)), Int.zero_add]
theorem sumTo_nonneg {f : Nat → Int} : ∀ {n : Nat}, (∀ k, k < n → 0 ≤ f k) → 0 ≤ sumTo f n := by
  intro n
  induction n with
  | zero => intro _; exact Int.le_refl _
  | succ n ih => intro h; have := ih (fun k hk => h k (by omega)); have := h n (by omega); simp only [sumTo]; omega

theorem sumTo_le {f : Nat → Int} {B : Int} : ∀ {n : Nat}, (∀ k, k < n → f k ≤ B) → sumTo f n ≤ B * n := by
  intro n
  induction n with
  | zero => intro _; simp [sumTo]
  | succ n ih =>
    intro h
    have h1 := ih (fun k hk => h k (by omega))
    have h2 := h n (by omega)
    have e : B * ((n + 1 : Nat) : Int) = B * (n : Int) + B := by push_cast; rw [Int.mul_add, Int.mul_one]
    simp only [sumTo]
    omega
/-- how many of k one of i takes -/
def useM (rows : List (List Int)) (i k : Nat) : Int := (rows.getD i []).getD k 0
theorem useM_get {rows : List (List Int)} {i k : Nat} {r : List Int} {x : Int} (h : rows[i]? = some r) (hx : r[k]? = some x) : useM rows i k = x := by
  unfold useM
  rw [List.getD_eq_getElem?_getD, List.getD_eq_getElem?_getD, h, Option.getD_some, hx]; rfl
theorem useM_bd {rows : List (List Int)} (hv : validBillM rows = true) (i k : Nat) : 0 ≤ useM rows i k ∧ useM rows i k ≤ 3 := by
  unfold useM
  rw [List.getD_eq_getElem?_getD, List.getD_eq_getElem?_getD]
  cases hr : rows[i]? with
  | none => simp
  | some r =>
    simp only [Option.getD_some]
    cases hx : r[k]? with
    | none => simp
    | some x => exact (okRows_get hv hr).2.1 x (List.mem_of_getElem? hx)
theorem useM_high {rows : List (List Int)} (hv : validBillM rows = true) {i k : Nat} (h : i ≤ k) : useM rows i k = 0 := by
  unfold useM
  rw [List.getD_eq_getElem?_getD, List.getD_eq_getElem?_getD]
  cases hr : rows[i]? with
  | none => simp
  | some r =>
    have := (okRows_get hv hr).1
    simp only [Option.getD_some]
    rw [List.getElem?_eq_none (by omega)]; rfl
theorem sumOver_pairs (f : Nat → Int) (r : List Int) (hr : ∀ x ∈ r, 0 ≤ x) : ∀ n, sumOver (fun p c => c * f p) (pairsTo r n) = sumTo (fun k => r.getD k 0 * f k) n := by
  intro n
  induction n with
  | zero => rfl
  | succ n ih =>
    simp only [pairsTo, sumTo]
    rw [List.getD_eq_getElem?_getD]
    cases hx : r[n]? with
    | none => simp [pairAt, hx, ih]
    | some x =>
      simp only [Option.getD_some]
      by_cases h0 : 0 < x
      · rw [pairAt_yes hx h0, sumOver_snoc, ih]
      · have := hr x (List.mem_of_getElem? hx)
        obtain rfl : x = 0 := by omega
        rw [pairAt_no hx h0, List.append_nil, ih]; omega
theorem countM_fuel {rows : List (List Int)} (hv : validBillM rows = true) (j : Nat) : ∀ (d d' i : Nat), i < d → i < d' → countM rows j d i = countM rows j d' i := by
  intro d
  induction d with
  | zero => intro d' i h; omega
  | succ d ih =>
    intro d' i h h'
    cases d' with
    | zero => omega
    | succ d' =>
      by_cases hij : i = j
      · subst hij; rw [countM_self, countM_self]
      · cases hr : rows[i]? with
        | none => simp only [countM, if_neg hij, List.getD_eq_getElem?_getD, hr, Option.getD_none, List.length_nil, pairsTo]; rfl
        | some r =>
          obtain ⟨h1, h2, _⟩ := okRows_get hv hr
          rw [countM_eq hr hij, countM_eq hr hij, sumOver_pairs _ r (fun x hx => (h2 x hx).1), sumOver_pairs _ r (fun x hx => (h2 x hx).1)]
          exact sumTo_congr (fun k hk => by rw [ih d' k (by omega) (by omega)])
/-- how many of j one of i takes in all -/
def takeM (rows : List (List Int)) (i j : Nat) : Int := countM rows j 6 i
theorem takeM_self (rows : List (List Int)) (i : Nat) : takeM rows i i = 1 := countM_self rows 6 i
theorem takeM_low {rows : List (List Int)} (hv : validBillM rows = true) {i j : Nat} (h : i < j) : takeM rows i j = 0 := countM_low hv j 6 i h
theorem takeM_nonneg {rows : List (List Int)} (hv : validBillM rows = true) (i j : Nat) : 0 ≤ takeM rows i j := (countM_bd hv j 6 i).1
theorem takeM_first {rows : List (List Int)} (hv : validBillM rows = true) {i j : Nat} (hi : i < rows.length) (h : i ≠ j) : takeM rows i j = sumTo (fun k => useM rows i k * takeM rows k j) i := by
  have hr : rows[i]? = some rows[i] := List.getElem?_eq_getElem hi
  obtain ⟨h1, h2, h3⟩ := okRows_get hv hr
  unfold takeM
  rw [countM_eq hr h, sumOver_pairs _ _ (fun x hx => (h2 x hx).1), h1]
  exact sumTo_congr (fun k hk => by
    rw [countM_fuel hv j 5 6 k (by omega) (by omega)]
    congr 1
    unfold useM
    rw [List.getD_eq_getElem?_getD (l := rows), hr]; rfl)
/-- .. by the last part, too -/
theorem takeM_last {rows : List (List Int)} (hv : validBillM rows = true) {j : Nat} : ∀ (n i : Nat), i < n → i < rows.length → i ≠ j → takeM rows i j = sumTo (fun k => takeM rows i k * useM rows k j) (i + 1) := by
  intro n
  induction n with
  | zero => intro i h; omega
  | succ n ih =>
    intro i hi hil hij
    by_cases hlt : i < j
    · rw [takeM_low hv hlt]
      exact (sumTo_zero (fun k hk => by rw [useM_high hv (show k ≤ j by omega), Int.mul_zero])).symm
    · have hji : j < i := by omega
      rw [takeM_first hv hil hij]
      simp only [sumTo]
      rw [takeM_self, Int.one_mul]
      have e1 : sumTo (fun k => takeM rows i k * useM rows k j) i = sumTo (fun k => sumTo (fun l => useM rows i l * (takeM rows l k * useM rows k j)) i) i :=
        sumTo_congr (fun k hk => by
          rw [takeM_first hv hil (show i ≠ k by omega), ← sumTo_mul_right]
          exact sumTo_congr (fun l _ => Int.mul_assoc _ _ _))
      rw [e1, sumTo_swap]
      have e2 : ∀ l, l < i → useM rows i l * takeM rows l j = sumTo (fun k => useM rows i l * (takeM rows l k * useM rows k j)) i + (if l = j then useM rows i j else 0) := by
        intro l hl
        rw [sumTo_mul]
        by_cases hlj : l = j
        · subst hlj
          rw [if_pos rfl, takeM_self, Int.mul_one, sumTo_zero (f := fun k => takeM rows l k * useM rows k l) (fun k hk => by
            by_cases h' : l < k
            · rw [takeM_low hv h', Int.zero_mul]
            · rw [useM_high hv (show k ≤ l by omega), Int.mul_zero])]
          omega
        · rw [if_neg hlj, Int.add_zero, ih l (by omega) (by omega) hlj]
          congr 1
          exact (sumTo_more (by omega) (fun k h1 h2 => by rw [takeM_low hv (show l < k by omega), Int.zero_mul])).symm
      rw [sumTo_congr e2, sumTo_add]
      congr 1
      rw [sumTo_one (i := j) hji (fun k _ hk => if_neg hk), if_pos rfl]
theorem takeM_le {rows : List (List Int)} (hv : validBillM rows = true) (i j : Nat) : takeM rows i j ≤ 34012224 := by
  have := (countM_bd hv j 6 i).2
  have e : ((18 ^ 6 : Nat) : Int) = 34012224 := by decide
  unfold takeM; omega
theorem prod_bd {rows : List (List Int)} (hv : validBillM rows = true) (i k a b : Nat) : 0 ≤ useM rows i k * takeM rows a b ∧ useM rows i k * takeM rows a b ≤ 102036672 := by
  obtain ⟨u0, u1⟩ := useM_bd hv i k
  have t0 := takeM_nonneg hv a b
  have t1 := takeM_le hv a b
  exact ⟨Int.mul_nonneg u0 t0, Int.le_trans (Int.mul_le_mul u1 t1 t0 (by omega)) (by omega)⟩
end Go.Proofs.Ytkpokcddefoklaa
