import Derived.Test.YtldncfkkeeinjacLib
namespace Go.Proofs.Ytldncfkkeeinjac
/-- a part that a row takes, and how many -/
abbrev Part (xs : List Int) := { x : Nat × Int // xs[x.1]? = some x.2 ∧ 0 < x.2 }
def pairAt (xs : List Int) (k : Nat) : List (Nat × Int) :=
  match xs[k]? with
  | some x => if 0 < x then [(k, x)] else []
  | none => []
/-- the parts among the first k -/
def pairsTo (xs : List Int) : Nat → List (Nat × Int)
  | 0 => []
  | k + 1 => pairsTo xs k ++ pairAt xs k
theorem pairAt_yes {xs : List Int} {k : Nat} {x : Int} (h : xs[k]? = some x) (h0 : 0 < x) : pairAt xs k = [(k, x)] := by simp [pairAt, h, h0]
theorem pairAt_no {xs : List Int} {k : Nat} {x : Int} (h : xs[k]? = some x) (h0 : ¬ 0 < x) : pairAt xs k = [] := by simp only [pairAt, h, if_neg h0]
theorem pairsTo_length (xs : List Int) (k : Nat) : (pairsTo xs k).length ≤ k := by
  induction k with
  | zero => simp [pairsTo]
  | succ k ih =>
    have : (pairAt xs k).length ≤ 1 := by
      unfold pairAt
      split
      · split <;> simp
      · simp
    simp only [pairsTo, List.length_append]
    omega
def sumOver (f : Nat → Int → Int) (l : List (Nat × Int)) : Int := l.foldl (fun s p => s + f p.1 p.2) 0
theorem sumOver_snoc (f : Nat → Int → Int) (l : List (Nat × Int)) (p : Nat × Int) : sumOver f (l ++ [p]) = sumOver f l + f p.1 p.2 := by simp [sumOver]
/-- how many of j one of i takes, over d levels -/
def countM (rows : List (List Int)) (j : Nat) : Nat → Nat → Int
  | 0, i => if i = j then 1 else 0
  | d + 1, i => if i = j then 1 else sumOver (fun p c => c * countM rows j d p) (pairsTo (rows.getD i []) (rows.getD i []).length)

theorem pow_le {d : Nat} (h : d ≤ 6) : 18 ^ d ≤ 34012224 := Nat.le_trans (Nat.pow_le_pow_right (by omega) h) (by decide)
theorem mem_pairsTo {xs : List Int} {p : Nat × Int} : ∀ {k : Nat}, p ∈ pairsTo xs k → xs[p.1]? = some p.2 ∧ 0 < p.2 := by
  intro k
  induction k with
  | zero => intro h; simp [pairsTo] at h
  | succ k ih =>
    intro h
    simp only [pairsTo, List.mem_append] at h
    rcases h with h | h
    · exact ih h
    · unfold pairAt at h
      split at h
      · split at h
        · simp only [List.mem_singleton] at h; subst h; exact ⟨by assumption, by assumption⟩
        · cases h
      · cases h
theorem sumOver_bd {f : Nat → Int → Int} {B : Int} : ∀ (l : List (Nat × Int)), (∀ p ∈ l, 0 ≤ f p.1 p.2 ∧ f p.1 p.2 ≤ B) → 0 ≤ sumOver f l ∧ sumOver f l ≤ B * l.length := by
  have key : ∀ (l : List (Nat × Int)) (s : Int), (∀ p ∈ l, 0 ≤ f p.1 p.2 ∧ f p.1 p.2 ≤ B) → s ≤ l.foldl (fun s p => s + f p.1 p.2) s ∧ l.foldl (fun s p => s + f p.1 p.2) s ≤ s + B * l.length := by
    intro l
    induction l with
    | nil => intro s _; simp
    | cons p l ih =>
      intro s h
      have h1 := h p List.mem_cons_self
      have h2 := ih (s + f p.1 p.2) (fun q hq => h q (List.mem_cons_of_mem _ hq))
      have e : B * ((p :: l).length : Int) = B * (l.length : Int) + B := by rw [List.length_cons]; push_cast; rw [Int.mul_add, Int.mul_one]
      simp only [List.foldl_cons]
      rw [e]
      omega
  intro l h
  have := key l 0 h
  unfold sumOver
  omega
/-- what holds of a valid bill's rows -/
theorem okRows_get {rows : List (List Int)} {i : Nat} {r : List Int} (hv : validBillM rows = true) (h : rows[i]? = some r) : r.length = i ∧ (∀ x ∈ r, 0 ≤ x ∧ x ≤ 3) ∧ i < 6 := by
  have hi : i < rows.length := by
    rcases Nat.lt_or_ge i rows.length with h' | h'
    · exact h'
    · simp [List.getElem?_eq_none h'] at h
  simp only [validBillM, Bool.and_eq_true, inB, decide_eq_true_eq] at hv
  have hr : rowOk i r = true := by
    cases hq : rowOk i r with
    | true => rfl
    | false => rw [okRows_false h hq] at hv; cases hv.2
  simp only [rowOk, Bool.and_eq_true, beq_iff_eq, allIn, List.all_eq_true, inB, decide_eq_true_eq] at hr
  exact ⟨hr.1, hr.2, by omega⟩
theorem validBill_len6 {rows : List (List Int)} (hv : validBillM rows = true) : rows.length ≤ 6 := by
  simp only [validBillM, Bool.and_eq_true, inB, decide_eq_true_eq] at hv
  omega
theorem countM_bd {rows : List (List Int)} (hv : validBillM rows = true) (j : Nat) : ∀ (d i : Nat), 0 ≤ countM rows j d i ∧ countM rows j d i ≤ ((18 ^ d : Nat) : Int) := by
  intro d
  induction d with
  | zero => intro i; simp only [countM]; split <;> simp
  | succ d ih =>
    intro i
    have hp : (1 : Nat) ≤ 18 ^ d := Nat.one_le_pow _ _ (by omega)
    have e : (18 ^ (d + 1) : Nat) = 18 * 18 ^ d := by rw [Nat.pow_succ, Nat.mul_comm]
    simp only [countM]
    split
    · omega
    · rw [List.getD_eq_getElem?_getD]
      cases hr : rows[i]? with
      | none => simp only [Option.getD_none, List.length_nil, pairsTo, sumOver, List.foldl_nil]; omega
      | some r =>
        simp only [Option.getD_some]
        obtain ⟨h1, h2, h3⟩ := okRows_get hv hr
        have hb := sumOver_bd (f := fun p c => c * countM rows j d p) (B := 3 * ((18 ^ d : Nat) : Int)) (pairsTo r r.length) (fun p hp => by
          obtain ⟨hp1, hp2⟩ := mem_pairsTo hp
          have hc := h2 p.2 (List.mem_of_getElem? hp1)
          have hq := ih p.1
          refine ⟨Int.mul_nonneg hc.1 hq.1, ?_⟩
          have := Int.mul_le_mul hc.2 hq.2 hq.1 (by omega)
          exact this)
        have hl := pairsTo_length r r.length
        have hm : 3 * ((18 ^ d : Nat) : Int) * ((pairsTo r r.length).length : Int) ≤ 3 * ((18 ^ d : Nat) : Int) * 6 := Int.mul_le_mul_of_nonneg_left (by omega) (by omega)
        refine ⟨hb.1, Int.le_trans hb.2 ?_⟩
        omega

theorem countM_low {rows : List (List Int)} (hv : validBillM rows = true) (j : Nat) : ∀ (d i : Nat), i < j → countM rows j d i = 0 := by
  intro d
  induction d with
  | zero => intro i h; simp only [countM]; rw [if_neg (by omega)]
  | succ d ih =>
    intro i h
    simp only [countM]
    rw [if_neg (by omega), List.getD_eq_getElem?_getD]
    cases hr : rows[i]? with
    | none => rfl
    | some r =>
      simp only [Option.getD_some]
      obtain ⟨h1, _, _⟩ := okRows_get hv hr
      have hb := sumOver_bd (f := fun p c => c * countM rows j d p) (B := 0) (pairsTo r r.length) (fun p hp => by
        obtain ⟨hp1, hp2⟩ := mem_pairsTo hp
        have hpl : p.1 < r.length := by
          rcases Nat.lt_or_ge p.1 r.length with h' | h'
          · exact h'
          · simp [List.getElem?_eq_none h'] at hp1
        have := ih p.1 (by omega)
        show 0 ≤ p.2 * countM rows j d p.1 ∧ p.2 * countM rows j d p.1 ≤ 0
        rw [this, Int.mul_zero]
        exact ⟨Int.le_refl _, Int.le_refl _⟩)
      omega
/-- the bounds of one summand, and of a part of the sum -/
theorem term_bd {rows : List (List Int)} {r : List Int} {i d : Nat} (hv : validBillM rows = true) (hr : rows[i]? = some r) (hd : d ≤ 6) (j : Nat) {k : Nat} {x : Int} (hx : r[k]? = some x) :
    0 ≤ x * countM rows j d k ∧ x * countM rows j d k ≤ 102036672 := by
  obtain ⟨_, h2, _⟩ := okRows_get hv hr
  have hz := h2 x (List.mem_of_getElem? hx)
  have hy := countM_bd hv j d k
  have hpw := pow_le hd
  have hm := Int.mul_le_mul hz.2 hy.2 hy.1 (by omega)
  exact ⟨Int.mul_nonneg hz.1 hy.1, by omega⟩
theorem part_bd {rows : List (List Int)} {r : List Int} {i d : Nat} (hv : validBillM rows = true) (hr : rows[i]? = some r) (hd : d ≤ 6) (j : Nat) (k : Nat) (hk : k ≤ 6) :
    0 ≤ sumOver (fun p c => c * countM rows j d p) (pairsTo r k) ∧ sumOver (fun p c => c * countM rows j d p) (pairsTo r k) ≤ 612220032 := by
  have hb := sumOver_bd (f := fun p c => c * countM rows j d p) (B := 102036672) (pairsTo r k) (fun p hp => term_bd hv hr hd j (mem_pairsTo hp).1)
  have hl := pairsTo_length r k
  have : (102036672 : Int) * ((pairsTo r k).length : Int) ≤ 102036672 * 6 := Int.mul_le_mul_of_nonneg_left (by omega) (by omega)
  exact ⟨hb.1, Int.le_trans hb.2 this⟩
theorem countM_eq {rows : List (List Int)} {r : List Int} {i d j : Nat} (hr : rows[i]? = some r) (hij : i ≠ j) : countM rows j (d + 1) i = sumOver (fun p c => c * countM rows j d p) (pairsTo r r.length) := by
  rw [countM, if_neg hij, List.getD_eq_getElem?_getD, hr, Option.getD_some]
theorem countM_self (rows : List (List Int)) (d i : Nat) : countM rows i d i = 1 := by
  cases d <;> simp [countM]
end Go.Proofs.Ytldncfkkeeinjac
