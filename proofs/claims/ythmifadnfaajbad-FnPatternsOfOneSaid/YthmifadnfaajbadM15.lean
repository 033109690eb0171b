import Derived.Test.YthmifadnfaajbadRows
import Derived.Test.YthmifadnfaajbadM0
import Derived.Test.YthmifadnfaajbadM1
import Derived.Test.YthmifadnfaajbadM14
import Derived.Test.YthmifadnfaajbadM6
import Derived.Test.YthmifadnfaajbadM7
import Derived.Test.YthmifadnfaajbadM13
import Derived.Test.YthmifadnfaajbadM4
import Derived.Test.YthmifadnfaajbadM8
import Derived.WalkKit
import Derived.LoopTactic
import Derived.Outline
import Derived.WalkSpells
import Derived.WalkLawsBesides
import Derived.ProofKit
import Derived.Lib.Hide
import Derived.IntWalk
import Derived.Test.YthmifadnfaajbadM10
namespace Go.Proofs.Ythmifadnfaajbad

-- chapter 11, plain: what RollsBy takes, against any plan
def wsumL (f : Nat → Int) (P : Nat → Bool) : List Nat → Int
  | [] => 0
  | x :: l => (if P x then f x else 0) + wsumL f P l
theorem wsumL_perm {f : Nat → Int} {P : Nat → Bool} {l l' : List Nat} (h : l.Perm l') : wsumL f P l = wsumL f P l' := by
  induction h with
  | nil => rfl
  | cons x _ ih => rw [wsumL, wsumL, ih]
  | swap x y l => simp only [wsumL]; omega
  | trans _ _ ih1 ih2 => rw [ih1, ih2]
theorem wsumL_snoc (f : Nat → Int) (P : Nat → Bool) (x : Nat) : ∀ l : List Nat, wsumL f P (l ++ [x]) = wsumL f P l + if P x then f x else 0
  | [] => by simp [wsumL]
  | y :: l => by rw [List.cons_append, wsumL, wsumL, wsumL_snoc f P x l]; omega
theorem wsumL_range (f : Nat → Int) (P : Nat → Bool) : ∀ n, wsumL f P (List.range n) = wsum f P n
  | 0 => rfl
  | n + 1 => by rw [List.range_succ, wsumL_snoc, wsumL_range f P n, wsum]
theorem wsumL_at (f : Nat → Int) (P : Nat → Bool) (l : List Nat) : ∀ k, k ≤ l.length → wsumL f P (l.take k) = wsum (fun j => f (l.getD j 0)) (fun j => P (l.getD j 0)) k
  | 0, _ => rfl
  | k + 1, h => by
    have e : l.take (k + 1) = l.take k ++ [l.getD k 0] := by
      rw [List.take_add_one, List.getD_eq_getElem?_getD, List.getElem?_eq_getElem (show k < l.length by omega)]; rfl
    rw [e, wsumL_snoc, wsumL_at f P l k (by omega), wsum]
theorem wsum_perm {f : Nat → Int} {P : Nat → Bool} {l : List Nat} {n : Nat} (h : l.Perm (List.range n)) : wsum (fun j => f (l.getD j 0)) (fun j => P (l.getD j 0)) n = wsum f P n := by
  have hl : l.length = n := by simpa using h.length_eq
  have := wsumL_at f P l n (by omega)
  rw [← this, List.take_of_length_le (by omega), wsumL_perm h, wsumL_range]
theorem perm_lt {l : List Nat} {n : Nat} (h : l.Perm (List.range n)) {j : Nat} (hj : j < n) : l.getD j 0 < n := by
  have hl : l.length = n := by simpa using h.length_eq
  have := h.mem_iff.1 (getD_mem (l := l) (k := j) (by omega))
  simpa using this
theorem perm_inj {l : List Nat} {n : Nat} (h : l.Perm (List.range n)) {i j : Nat} (hi : i < n) (hj : j < n) (e : l.getD i 0 = l.getD j 0) : i = j := by
  have hl : l.length = n := by simpa using h.length_eq
  have hn : l.Nodup := h.symm.nodup List.nodup_range
  have key : ∀ a b, a < b → b < n → l.getD a 0 ≠ l.getD b 0 := fun a b hab hb => by
    have := List.pairwise_iff_getElem.1 hn a b (by omega) (by omega) hab
    rw [List.getD_eq_getElem?_getD, List.getD_eq_getElem?_getD, List.getElem?_eq_getElem (by omega), List.getElem?_eq_getElem (by omega)]
    exact this
  rcases Nat.lt_trichotomy i j with g | g | g
  · exact absurd e (key i j g hj)
  · exact g
  · exact absurd e.symm (key j i g hi)
theorem perm_on {l : List Nat} {n : Nat} (h : l.Perm (List.range n)) {i : Nat} (hi : i < n) : ∃ j, j < n ∧ l.getD j 0 = i := by
  have hl : l.length = n := by simpa using h.length_eq
  have hm : i ∈ l := h.mem_iff.2 (by simpa using hi)
  obtain ⟨j, hj, e⟩ := List.mem_iff_getElem.1 hm
  exact ⟨j, by omega, by rw [List.getD_eq_getElem?_getD, List.getElem?_eq_getElem hj]; exact e⟩
section
variable {T : Nat → Int} {R : Int} {n : Nat} {l : List Nat}
def ordO (l : List Nat) (j : Nat) : Nat := l.getD j 0
/-- each one's roll, and how many -/
def rollP (T : Nat → Int) (R : Int) (l : List Nat) (n : Nat) : Nat → Nat := (fitS T R (ordO l) n).2
def rollU (T : Nat → Int) (R : Int) (l : List Nat) (n : Nat) : Nat := usedM T R (ordO l) n
theorem roll_inv (hT : ∀ i, i < n → 1 ≤ T i ∧ T i ≤ R) (h : l.Perm (List.range n)) {t : Nat} (ht : t ≤ n) : FitI T R n (ordO l) t (fitS T R (ordO l) t).1 (fitS T R (ordO l) t).2 :=
  fit_inv hT (fun _ hj => perm_lt h hj) (fun _ _ hi hj e => perm_inj h hi hj e) t ht
/-- the rolls hold what is cut from them; each one is begun -/
theorem roll_plan (hT : ∀ i, i < n → 1 ≤ T i ∧ T i ≤ R) (h : l.Perm (List.range n)) : (∀ i, i < n → rollP T R l n i < rollU T R l n) ∧ (∀ b, b < rollU T R l n → ∃ i, i < n ∧ rollP T R l n i = b) ∧
    (∀ b, b < rollU T R l n → wsum T (fun i => rollP T R l n i == b) n ≤ R) ∧ (∀ i, i < n → ∀ b, b < rollP T R l n i → R < wsum T (fun i => rollP T R l n i == b) n + T i) := by
  obtain ⟨i1, i2, i3, i4, i5⟩ := roll_inv hT h (Nat.le_refl n)
  have hw : ∀ b, wsum (fun j => T (ordO l j)) (fun j => rollP T R l n (ordO l j) == b) n = wsum T (fun i => rollP T R l n i == b) n := fun b => wsum_perm (f := T) (P := fun i => rollP T R l n i == b) h
  refine ⟨fun i hi => ?_, fun b hb => ?_, fun b hb => ?_, fun i hi b hb => ?_⟩
  · obtain ⟨j, hj, rfl⟩ := perm_on h hi
    exact i1 j hj
  · obtain ⟨j, hj, e⟩ := i2 b hb
    exact ⟨_, perm_lt h hj, e⟩
  · have e1 := i3 b hb
    have e2 := i4 b hb
    have e3 := hw b
    unfold rollP at e3 ⊢
    omega
  · obtain ⟨j, hj, rfl⟩ := perm_on h hi
    have hj1 := i1 j hj
    have hb' : b < (fitS T R (ordO l) n).2 (ordO l j) := hb
    have e1 := i3 b (by omega)
    have e2 := i5 j hj b hb
    have e3 := hw b
    have e4 : ordO l j = l.getD j 0 := rfl
    unfold rollP at e3 ⊢
    rw [e4] at e2
    omega
/-- what FnRollsBy asks of the kind first -/
theorem first_bound {q : Nat → Nat} {m : Nat} (hR : 1 ≤ R) (hT : ∀ i, i < n → 1 ≤ T i ∧ T i ≤ R) (h : l.Perm (List.range n)) (h0 : 0 < n) (h7 : n ≤ 7) (hq : ∀ i, i < n → q i < m) (hql : ∀ j, j < m → wsum T (fun i => q i == j) n ≤ R) : 10 * rollU T R l n ≤ 17 * m := by
  obtain ⟨p1, p2, p3, p4⟩ := roll_plan hT h
  have hm : 1 ≤ m := by have := hq 0 h0; omega
  have hu : rollU T R l n ≤ n := by
    have e := card_bins (P := fun _ => true) (p := rollP T R l n) (n := n) (v := rollU T R l n) (fun i hi _ => p1 i hi)
    have e2 := bsumN_le (f := fun _ => 1) (g := fun b => card (fun i => true && rollP T R l n i == b) n) (rollU T R l n) (fun b hb => by
      obtain ⟨i, hi, e⟩ := p2 b hb
      exact card_mem hi (by simp [e]))
    rw [bsumN_one (fun _ _ => rfl), ← e, card_all] at e2
    exact e2
  rcases Nat.lt_or_ge (rollU T R l n) 2 with g | g
  · omega
  · have h1 := fit_bound hR hT p2 p4 hq hql g
    rcases Nat.lt_or_ge (rollU T R l n) 7 with g2 | g2
    · omega
    · have hn : n = 7 := by omega
      have h2 := fit_each (n := n) (p := rollP T R l n) hT (fun i j hi hj e => by
        refine Classical.byContradiction fun hij => ?_
        have hU : rollU T R l n = n := by omega
        have e3 := card_bins (P := fun _ => true) (p := rollP T R l n) (n := n) (v := rollU T R l n) (fun i hi _ => p1 i hi)
        rw [card_all, hU] at e3
        -- one roll has two: then all have one at least, and one of them two
        have e4 : ∀ v, rollP T R l n i < v → v ≤ n → v + 1 ≤ bsumN (fun b => card (fun i => true && rollP T R l n i == b) n) v := by
          intro v
          induction v with
          | zero => intro h; omega
          | succ v ih =>
            intro h1 h2
            rw [bsumN]
            have c1 : 1 ≤ card (fun i => true && rollP T R l n i == v) n := by
              obtain ⟨k, hk, e⟩ := p2 v (by omega)
              exact card_mem hk (by simp [e])
            rcases Nat.eq_or_lt_of_le (Nat.le_of_lt_succ h1) with g3 | g3
            · have c2 := wsum_two (f := fun _ => 1) (P := fun i => true && rollP T R l n i == v) (n := n) (fun _ _ => by omega) hi hj hij (by simp [g3]) (by simp [← e, g3])
              rw [← card_w] at c2
              have c3 := bsumN_le (f := fun _ => 1) (g := fun b => card (fun i => true && rollP T R l n i == b) n) v (fun b hb => by
                obtain ⟨k, hk, e⟩ := p2 b (by omega)
                exact card_mem hk (by simp [e]))
              rw [bsumN_one (fun _ _ => rfl)] at c3
              omega
            · have := ih g3 (by omega); omega
        have := e4 n (by have := p1 i hi; omega) (Nat.le_refl _)
        omega) p4 hq hql
      omega
/-- what FnRollsBy asks of the kind long -/
theorem long_bound {q : Nat → Nat} {m : Nat} (hR : 1 ≤ R) (hT : ∀ i, i < n → 1 ≤ T i ∧ T i ≤ R) (h : l.Perm (List.range n)) (hs : ∀ i j, i < j → j < n → T (l.getD j 0) ≤ T (l.getD i 0)) (h0 : 0 < n) (h7 : n ≤ 7) (hq : ∀ i, i < n → q i < m) (hql : ∀ j, j < m → wsum T (fun i => q i == j) n ≤ R) : 9 * rollU T R l n ≤ 11 * m + 6 := by
  obtain ⟨p1, p2, p3, p4⟩ := roll_plan hT h
  have hm : 1 ≤ m := by have := hq 0 h0; omega
  rcases Nat.lt_or_ge (rollU T R l n) 2 with g | g
  · omega
  · have h1 := fit_bound hR hT p2 p4 hq hql g
    obtain ⟨s, s1, s2, s3, s4⟩ := last_new T R (ordO l) n (by unfold rollU at g; omega)
    obtain ⟨i1, i2, i3, i4, i5⟩ := roll_inv hT h (t := s) (by omega)
    have hv : ∃ v, usedM T R (ordO l) s = v := ⟨_, rfl⟩
    obtain ⟨v, hv⟩ := hv
    have hvl : (fitS T R (ordO l) s).1.length = v := hv
    -- over the places in the order
    have hfb := fall_bound (n := n) (v := v) (m := m) (z := s) (R := R) (T := fun j => T (ordO l j)) (p := fun j => (fitS T R (ordO l) s).2 (ordO l j)) (q := fun j => q (ordO l j)) (B := fun j => decide (j < s))
      (fun j hj => hT _ (perm_lt h hj)) s1 (by simp) (fun j hj hb => by
        have hjs : j < s := by simpa using hb
        exact ⟨hs j s hjs s1, by have := i1 j hjs; omega⟩) (fun b hb => by
        have e1 := i3 b (by omega)
        have e2 := room_lt (lf := (fitS T R (ordO l) s).1) (x := T (ordO l s)) (j := b) (by rw [s4, hv]; exact hb)
        have e3 : wsum (fun j => T (ordO l j)) (fun j => decide (j < s) && (fitS T R (ordO l) s).2 (ordO l j) == b) n = wsum (fun j => T (ordO l j)) (fun j => (fitS T R (ordO l) s).2 (ordO l j) == b) s := by
          have key : ∀ d, s + d ≤ n → wsum (fun j => T (ordO l j)) (fun j => decide (j < s) && (fitS T R (ordO l) s).2 (ordO l j) == b) (s + d) = wsum (fun j => T (ordO l j)) (fun j => (fitS T R (ordO l) s).2 (ordO l j) == b) s := by
            intro d
            induction d with
            | zero => intro _; exact wsum_congr s (fun j hj => by simp [hj]) (fun _ _ _ => rfl)
            | succ d ih => intro hd; rw [← Nat.add_assoc, wsum, ih (by omega)]; simp [show ¬ s + d < s by omega]
          have := key (n - s) (by omega)
          rwa [show s + (n - s) = n by omega] at this
        omega) (fun j hj => hq _ (perm_lt h hj)) (fun j hj => by
        have := wsum_perm (f := T) (P := fun i => q i == j) h
        have h2 := hql j hj
        unfold ordO
        omega)
    obtain ⟨c, c1, c2, c3, c4⟩ := hfb
    have hU : rollU T R l n = v + 1 := by unfold rollU; omega
    have hvn : v ≤ 6 := by
      rcases Nat.lt_or_ge c v with g3 | g3
      · omega
      · omega
    rcases Nat.lt_or_ge c v with g3 | g3
    · have := c3 g3; omega
    · have := c4 (by omega); omega
end
end Go.Proofs.Ythmifadnfaajbad
namespace Go.Proofs.Ythmifadnfaajbad

-- chapter 11, plain: cuts of one length
theorem card_ivl' (a b : Nat) : ∀ n, card (fun i => decide (a ≤ i) && decide (i < b)) n ≤ min n b - a
  | 0 => by simp [card]
  | n + 1 => by
    have ih := card_ivl' a b n
    rw [card]
    by_cases h1 : a ≤ n
    · by_cases h2 : n < b
      · simp [h1, h2]; omega
      · simp [h2]; omega
    · simp [h1]; omega
theorem card_ivl (a b n : Nat) : card (fun i => decide (a ≤ i) && decide (i < b)) n ≤ b - a := by
  have := card_ivl' a b n
  omega
/-- how many of n go on rolls of f each -/
def ceilN (n f : Nat) : Nat := (n + f - 1) / f
theorem ceilN_is {n f m : Nat} (hf : 1 ≤ f) : ceilN n f ≤ m ↔ n ≤ m * f := by
  unfold ceilN
  constructor
  · intro h
    have h1 := Nat.div_add_mod (n + f - 1) f
    have h2 := Nat.mod_lt (n + f - 1) (show 0 < f by omega)
    have h3 := Nat.mul_le_mul_left f h
    rw [Nat.mul_comm f m] at h3
    omega
  · intro h
    refine Nat.le_of_lt_succ ((Nat.div_lt_iff_lt_mul (by omega)).2 ?_)
    rw [Nat.succ_mul]; omega
theorem even_lower {n f m : Nat} {x R : Int} {T : Nat → Int} {q : Nat → Nat} (hx : 1 ≤ x) (hf2 : R < ((f : Int) + 1) * x) (hT : ∀ i, i < n → T i = x) (hq : ∀ i, i < n → q i < m) (hql : ∀ j, j < m → wsum T (fun i => q i == j) n ≤ R) : n ≤ m * f := by
  have h := wsum_all (f := fun _ => 1) (P := fun _ => true) (R := (f : Int)) hq (fun j hj => by
    have h1 := hql j hj
    rw [wsum_congr (g := fun _ => x) (Q := fun i => q i == j) n (fun _ _ => rfl) (fun i hi _ => hT i hi), wsum_one] at h1
    rw [← card_w, show (fun i => true && q i == j) = (fun i => q i == j) from funext fun i => by simp]
    have h2 : (card (fun i => q i == j) n : Int) * x < ((f : Int) + 1) * x := by omega
    have := Int.lt_of_mul_lt_mul_right h2 (by omega)
    omega)
  rw [← card_w, card_all] at h
  exact_mod_cast h
theorem even_upper {n f j : Nat} {x R : Int} {T : Nat → Int} (hx : 1 ≤ x) (hf : 1 ≤ f) (hf1 : (f : Int) * x ≤ R) (hT : ∀ i, i < n → T i = x) : wsum T (fun i => i / f == j) n ≤ R := by
  rw [wsum_congr (g := fun _ => x) (Q := fun i => decide (j * f ≤ i) && decide (i < j * f + f)) n (fun i _ => by
    have h1 := Nat.div_add_mod i f
    have h2 := Nat.mod_lt i (show 0 < f by omega)
    rw [Nat.mul_comm] at h1
    by_cases e : i / f = j
    · subst e
      rw [show (i / f == i / f) = true by simp, decide_eq_true (by omega), decide_eq_true (by omega)]; rfl
    · rw [show (i / f == j) = false by simp [e]]
      symm
      rw [Bool.and_eq_false_iff]
      rcases Nat.lt_or_ge i (j * f) with g | g
      · exact .inl (decide_eq_false (by omega))
      · refine .inr (decide_eq_false fun g2 => e ?_)
        have : j ≤ i / f := (Nat.le_div_iff_mul_le (by omega)).2 g
        have : i / f < j + 1 := (Nat.div_lt_iff_lt_mul (by omega)).2 (by rw [Nat.add_mul, Nat.one_mul]; exact g2)
        omega) (fun i hi _ => hT i hi), wsum_one]
  have h := card_ivl (j * f) (j * f + f) n
  have h2 : (card (fun i => decide (j * f ≤ i) && decide (i < j * f + f)) n : Int) * x ≤ (f : Int) * x := Int.mul_le_mul_of_nonneg_right (by omega) (by omega)
  omega
theorem even_used {n f u : Nat} {x R : Int} {T : Nat → Int} {p : Nat → Nat} (hx : 1 ≤ x) (hf1 : (f : Int) * x ≤ R) (hT : ∀ i, i < n → T i = x) (hp : ∀ i, i < n → p i < u) (hne : ∀ b, b < u → ∃ i, i < n ∧ p i = b)
    (hff : ∀ i, i < n → ∀ b, b < p i → R < wsum T (fun i => p i == b) n + T i) (hu : 0 < u) : (u - 1) * f + 1 ≤ n := by
  obtain ⟨i, hi, hpi⟩ := hne (u - 1) (by omega)
  have h1 : ∀ b, b < u - 1 → f ≤ card (fun i => true && p i == b) n := fun b hb => by
    have h := hff i hi b (by omega)
    rw [hT i hi, wsum_congr (g := fun _ => x) (Q := fun i => true && p i == b) n (fun _ _ => by simp) (fun i hi _ => hT i hi), wsum_one] at h
    have h2 : (f : Int) * x < ((card (fun i => true && p i == b) n : Int) + 1) * x := by rw [Int.add_mul, Int.one_mul]; omega
    have := Int.lt_of_mul_lt_mul_right h2 (by omega)
    omega
  have e := card_bins (P := fun _ => true) (p := p) (n := n) (v := u) (fun i hi _ => hp i hi)
  rw [card_all, show u = (u - 1) + 1 by omega, bsumN] at e
  have h2 := bsumN_le (f := fun _ => f) (g := fun b => card (fun i => true && p i == b) n) (u - 1) h1
  have h3 : ∀ v, bsumN (fun _ => f) v = v * f := fun v => by
    induction v with
    | zero => simp [bsumN]
    | succ v ih => rw [bsumN, ih, Nat.succ_mul]
  have h4 := card_mem (P := fun i => true && p i == u - 1) hi (by simp [hpi])
  rw [h3] at h2
  omega
/-- what FnRollsOfOneLength asks -/
theorem even_few {xs : List Int} {f : Nat} {x R : Int} (hx : 1 ≤ x) (hxR : x ≤ R) (hf1 : (f : Int) * x ≤ R) (hf2 : R < ((f : Int) + 1) * x) (hT : ∀ i, i < xs.length → lenT xs i = x) : fewRl xs R = (ceilN xs.length f : Int) := by
  have hf : 1 ≤ f := by
    rcases Nat.eq_zero_or_pos f with e | e
    · subst e; simp at hf2; omega
    · exact e
  obtain ⟨m, q, e, h1, h2⟩ := few_plan (xs := xs) (R := R) (by omega) (fun i hi => by rw [hT i hi]; exact hxR)
  have hl := even_lower hx hf2 hT h1 (fun j _ => h2 j)
  have hc : ceilN xs.length f ≤ m := (ceilN_is hf).2 hl
  have hu := (few_min (xs := xs) (R := R) (m := ceilN xs.length f) (q := fun i => i / f) (fun i hi => by
    have := (ceilN_is (n := xs.length) (f := f) (m := ceilN xs.length f) hf).1 (Nat.le_refl _)
    exact (Nat.div_lt_iff_lt_mul (by omega)).2 (by omega)) (fun j => even_upper hx hf hf1 hT)).2
  rw [e] at hu ⊢
  omega
theorem even_roll {xs : List Int} {f : Nat} {x R : Int} {l : List Nat} (hx : 1 ≤ x) (hxR : x ≤ R) (hf1 : (f : Int) * x ≤ R) (hf2 : R < ((f : Int) + 1) * x) (hT : ∀ i, i < xs.length → lenT xs i = x) (h : l.Perm (List.range xs.length)) (h0 : 0 < xs.length) : rollU (lenT xs) R l xs.length = ceilN xs.length f := by
  have hf : 1 ≤ f := by
    rcases Nat.eq_zero_or_pos f with e | e
    · subst e; simp at hf2; omega
    · exact e
  obtain ⟨p1, p2, p3, p4⟩ := roll_plan (T := lenT xs) (R := R) (fun i hi => by rw [hT i hi]; exact ⟨hx, hxR⟩) h
  have hu : 0 < rollU (lenT xs) R l xs.length := by have := p1 0 h0; omega
  have h1 := even_used hx hf1 hT p1 p2 p4 hu
  have h2 := even_lower hx hf2 hT p1 p3
  have h3 : ceilN xs.length f ≤ rollU (lenT xs) R l xs.length := (ceilN_is hf).2 h2
  have h4 : ¬ ceilN xs.length f ≤ rollU (lenT xs) R l xs.length - 1 := fun h => by
    have := (ceilN_is hf).1 h; omega
  omega
end Go.Proofs.Ythmifadnfaajbad
namespace Go.Proofs.Ythmifadnfaajbad
open Go.RowKit Go.WideShapes

-- chapter 11: what the laws of patterns ask
theorem drew_rows {w w' : World} {S : Nat → Prop} {a : Option Addr} {len : Nat} {rows : List (List Int)} (h : RowsAt w S a len rows) (d : Drew w w') : RowsAt w' S a len rows := by
  obtain ⟨q, rfl⟩ := d
  exact h.to (fun k hk => ⟨hk, rfl⟩)
theorem pat_some {xs : List Int} {c : Int} (h : 0 < (patRes xs c).length) : sizesM xs c = true := by
  cases e : patRes xs c with
  | nil => rw [e] at h; simp at h
  | cons a b => exact (patRes_mem (show a ∈ patRes xs c by rw [e]; simp)).1
theorem pat_first {xs : List Int} {c : Int} (h : 0 < (patRes xs c).length) : ∃ (r : List Int) (s : Int), (patRes xs c)[0]? = some r ∧ xs[0]? = some s ∧ r[0]? = some (c / s) ∧ 1 ≤ s ∧ s ≤ c ∧ 1 ≤ c ∧ c ≤ 20 := by
  have hv := pat_some h
  obtain ⟨r, hr⟩ := patRes_head hv
  obtain ⟨_, h3, _, h1, h4, h5⟩ := sizes_get hv
  cases e : xs with
  | nil => rw [e] at h3; simp at h3
  | cons s ss =>
    have hs := h1 s (by rw [e]; simp)
    have hq : 0 ≤ c / s := Int.ediv_nonneg (by omega) (by omega)
    refine ⟨greedy xs c, s, by rw [← e, hr]; rfl, rfl, ?_, hs.1, hs.2, h4, h5⟩
    rw [e]
    show some ((((c / s).toNat : Nat) : Int)) = _
    congr 1
    omega
theorem pat_ne {xs : List Int} {c : Int} {i k : Nat} {r r' : List Int} (hik : i < k) (h1 : (patRes xs c)[i]? = some r) (h2 : (patRes xs c)[k]? = some r') : eqB r r' = false := by
  refine decide_eq_false fun e => ?_
  subst e
  obtain ⟨a, b⟩ := List.getElem?_eq_some_iff.1 h1
  obtain ⟨a', b'⟩ := List.getElem?_eq_some_iff.1 h2
  exact List.pairwise_iff_getElem.1 (patRes_nodup xs c) i k a a' hik (b.trans b'.symm)
theorem only_one {β : Type} {l : List β} {a : β} (h : l.Nodup) (ha : ∀ x ∈ l, x = a) (hn : 0 < l.length) : l = [a] := by
  cases l with
  | nil => simp at hn
  | cons x l =>
    cases l with
    | nil => rw [ha x (by simp)]
    | cons y l =>
      rw [List.nodup_cons] at h
      exact absurd (by rw [ha x (by simp), ha y (by simp)]; simp) h.1
theorem pat_one {xs : List Int} {c s : Int} (h : sizesM xs c = true) (hs : xs[0]? = some s) : xs.take 1 = [s] ∧ patRes [s] c = [[c / s]] := by
  have ht : xs.take 1 = [s] := by rw [take_get hs]; rfl
  obtain ⟨h1, h3, h4, h5, h6, h7⟩ := sizes_get h
  have hv : sizesM [s] c = true := by
    unfold sizesM
    have := cuts_take h1 1
    rw [ht] at this
    rw [this, decide_eq_true (by simp), decide_eq_true (by simp)]; rfl
  refine ⟨ht, ?_⟩
  obtain ⟨r, hr⟩ := patRes_head hv
  refine only_one (patRes_nodup _ _) (fun x hx => ?_) (by rw [hr]; simp)
  obtain ⟨_, hl, hb, h0, hlt⟩ := patRes_mem hx
  match x, hl with
  | [y], _ =>
    have hy0 := (hb y (by simp)).1
    have a : 0 ≤ c - y * s := h0
    have b : c - y * s < s := hlt s (by simp)
    have hs1 := (h5 s (List.mem_of_getElem? hs)).1
    congr 1
    have : c / s = y := by
      rw [Int.ediv_eq_iff_of_pos (by omega)]
      constructor
      · omega
      · have := Int.add_mul y 1 s
        omega
    exact this.symm
theorem few_one {ys : List Int} {c : Int} (hc1 : 1 ≤ c) (hc2 : c ≤ 20) (hl : ys.length ≤ 7) (hy : ∀ y ∈ ys, 1 ≤ y ∧ y ≤ c) (hsum : sumI ys ≤ c) : 0 ≤ rollsRes ys c ∧ rollsRes ys c ≤ 1 := by
  have hv : cutsM ys c = true := by
    unfold cutsM
    rw [decide_eq_true hl, inB_true hc1 hc2]
    rw [Bool.and_true, Bool.and_true]
    unfold allIn
    rw [List.all_eq_true]
    exact fun x hx => inB_true (hy x hx).1 (hy x hx).2
  have e : rollsRes ys c = fewRl ys c := by unfold rollsRes; rw [hv]; rfl
  rw [e]
  refine few_min (m := 1) (q := fun _ => 0) (fun i hi => by omega) (fun j => ?_)
  by_cases g : j = 0
  · subst g
    exact hsum
  · rw [wsum_none _ (fun i _ => by simp; omega)]; omega
end Go.Proofs.Ythmifadnfaajbad
namespace Go.Proofs.Ythmifadnfaajbad
open Go.RowKit Go.WideShapes

-- chapter 11's code: rolls of plain cuts
def encP (y : Int) : List Value := [.int .i64 y]
def RollsP (w : World) (B r : Nat) (R : Int) (v : Value) (vs : List Value) (rows : List (List Int)) : Prop := RollsW encP 1 43 39 40 w B r R v vs rows
theorem encP_flat (l : List Int) : l.flatMap encP = l.map (.int .i64) := by
  induction l with
  | nil => rfl
  | cons a l ih => rw [List.flatMap_cons, ih]; rfl
theorem own_intsP {w : World} {B : Nat} {e : TypeId} {u : Value} {n : Nat} {l : List Int} (h : w.ownsRow B e 1 u n (l.map (.int .i64))) : ∃ a c, u = .slice a n c ∧ n ≤ c ∧ IntsAt w (fun b => B ≤ b ∧ b < w.heap.size) a n l := by
  obtain ⟨a, c, rfl, hc⟩ := own_slice h
  have hl : l.length = n := by have := h.1; simpa using this
  refine ⟨a, c, rfl, hc, hl, ?_, fun h0 => ?_⟩
  · rcases h.2 with ⟨_, rfl⟩ | ⟨g, cap, cur, _, _, _, h1, h2, _⟩
    · omega
    · unfold maxLen at h2; omega
  · obtain ⟨g, cap, e, hb, hlt⟩ := h.form h0
    injection e with e1 e2 e3
    refine ⟨g, 0, e1, ⟨hb, hlt⟩, fun i x hx => ?_⟩
    have hx' : (l.map (Value.int .i64))[i]? = some (.int .i64 x) := by rw [List.getElem?_map, hx]; rfl
    have := h.cells (g := g) (by rw [e1]; rfl) i _ hx'
    rwa [add_plain] at this
theorem lenP_meth (y : Int) : ∀ (k : Nat) (w : World), (method (k + 1) 40 (.int .i64 y) "loop.example/shopsthatmake/impl.length").run Try.prog w = .ok (44, (.int .i64 y)) w := fun _ _ => by kernel_rfl
set_option maxRecDepth 100000 in
theorem lenP_any (y : Int) (w : World) : Calls Try.prog 44 #[.int .i64 y] w fun e w' => e = .returned (.int .i64 y) ∧ w' = w := by
  go_enter Try.func44, Try.ntmps44
  go_wp2
  go_ret
  exact ⟨rfl, rfl⟩
set_option maxRecDepth 100000 in
set_option maxHeartbeats 2000000 in
theorem hasRoomP_any {w : World} {B r : Nat} {R : Int} {v : Value} {vs : List Value} {rows : List (List Int)} {n : Nat} (h : RollsP w B r R v vs rows) (hok : RowsOk id rows n) (hn : n ≤ 20) (hR : 0 ≤ R ∧ R ≤ 20) {k : Nat} (hk : k ≤ rows.length) (y : Int) :
    Calls Try.prog 25 #[.pointer (some ⟨r, 0, none⟩), .int .i64 k, .int .i64 y] w fun e w' => e = .returned (.bool (hasR R (loadsOf id rows) k y)) ∧ w' = w := by
  obtain ⟨c0, c1, _⟩ := h.cells
  have hlen := hok.len
  obtain ⟨av, cv, hv, hcv⟩ := own_slice h.outer
  rw [hv] at c1
  by_cases hkn : k = rows.length
  · have HF := Lib.hid (show hasR R (loadsOf id rows) k y = true by unfold hasR; rw [loads_len, decide_eq_true hkn]; rfl)
    subst hkn
    clear hv hok h
    go_enter Try.func25, Try.ntmps25
    go_wp2_with fail
    go_ret
    exact ⟨ret_bool HF.out.symm, rfl⟩
  · have hkl : k < rows.length := by omega
    have HF := Lib.hid (show hasR R (loadsOf id rows) k y = decide (y ≤ R - sumI (rows.getD k [])) by unfold hasR; rw [loads_len, decide_eq_false hkn, loads_get]; simp)
    obtain ⟨g, cap, hv2, _, _⟩ := h.outer.form (by omega)
    have ho := h.outer
    rw [hv2] at ho hv
    injection hv with hv1 _ hv3
    subst hv1 hv3
    obtain ⟨u, hu⟩ : ∃ u, vs[k]? = some u := ⟨vs[k]'(by rw [h.lenV]; exact hkl), List.getElem?_eq_getElem _⟩
    have cr := (ho.cellAt k (by omega)).trans hu
    have hrow := h.row k u hu
    rw [encP_flat] at hrow
    obtain ⟨au, cu, rfl, hcu, hints⟩ := own_intsP hrow
    have hrl := hok.row k
    have hrv := hok.val k
    obtain ⟨l, hl⟩ : ∃ l, rows.getD k [] = l := ⟨_, rfl⟩
    rw [hl] at hints hrl hrv HF cr
    have hbd := fun j hj => sumI_bd hrv j hj
    have HB := Lib.hid hbd
    obtain ⟨m, hm⟩ : ∃ m, l.length = m := ⟨_, rfl⟩
    rw [hm] at hints cr hrl
    have HM := Lib.hid hm
    have HI := Lib.hid hints
    have hknI : ¬ (k : Int) = (rows.length : Int) := by omega
    have hklI : (k : Int) < (rows.length : Int) := by omega
    obtain ⟨N, hN⟩ : ∃ N, rows.length = N := ⟨_, rfl⟩
    rw [hN] at c1 hkl hknI hklI hlen
    have hmeth := lenP_meth
    clear hok h ho hu hrow hints hrv hbd hv2 hl hm hN hkn hcv hcu
    go_enter Try.func25, Try.ntmps25
    go_wp2_with fail
    go_loop [7, 29] (fun s i => ∃ j : Nat, j ≤ m ∧ i = .int .i64 j ∧ s = .int .i64 (R - wsum (lenT l) (fun _ => true) j)) (fun _ i => m - (intOf i).toNat)
    case atStart => exact ⟨0, Nat.zero_le _, rfl, by simp [wsum]⟩
    case round =>
      obtain ⟨j, hj, rfl, rfl⟩ := hrel
      have hsb := HB.out j (by rw [HM.out]; exact hj)
      by_cases hlt : j < m
      · have hjI : (j : Int) < (m : Int) := by omega
        obtain ⟨b, off, x, rfl, hx, hc⟩ := HI.out.get hlt
        have HST := Lib.hid (show wsum (lenT l) (fun _ => true) (j + 1) = wsum (lenT l) (fun _ => true) j + x by rw [sumI_pre l j (by rw [HM.out]; exact hlt), getD_of hx])
        have hxb := HB.out (j + 1) (by rw [HM.out]; exact hlt)
        rw [HST.out] at hxb
        obtain ⟨s, hs⟩ : ∃ s, wsum (lenT l) (fun _ => true) j = s := ⟨_, rfl⟩
        rw [hs] at hsb hxb HST ⊢
        push_cast at hxb
        clear hs hx
        go_wp2_with (first | (go_at_call 44; refine (lenP_any _ _).mono ?_; rintro e w' ⟨rfl, rfl⟩) | fail)
        go_round
        case rel => exact ⟨j + 1, by omega, by go_num, by rw [HST.out]; simp; omega⟩
        case measure => simp [intOf]; omega
      · obtain rfl : j = m := by omega
        have hjI : ¬ (j : Int) < (j : Int) := by omega
        have HS := Lib.hid (show sumI l = wsum (lenT l) (fun _ => true) j by unfold sumI; rw [HM.out])
        obtain ⟨s, hs⟩ : ∃ s, wsum (lenT l) (fun _ => true) j = s := ⟨_, rfl⟩
        rw [hs] at HS ⊢
        clear hs
        go_wp2_with (first | (go_at_call 44; refine (lenP_any _ _).mono ?_; rintro e w' ⟨rfl, rfl⟩) | fail)
        go_ret
        exact ⟨ret_bool (by rw [HF.out, HS.out]), rfl⟩
end Go.Proofs.Ythmifadnfaajbad
namespace Go.Proofs.Ythmifadnfaajbad
open Go.RowKit Go.WideShapes

/-- what LeastRolls answers -/
def leastRes11 (xs : List Int) (R : Int) : Int := if cutsM xs R then leastTo (lenT xs) R xs.length (R.toNat / 2 + 1) else -1
theorem long_bd {T : Nat → Int} {R x : Int} : ∀ n, longN T R x n ≤ n ∧ midN T R x n ≤ n
  | 0 => by simp [longN, midN, card]
  | n + 1 => by
    have ih := long_bd (T := T) (R := R) (x := x) n
    unfold longN midN at ih ⊢
    rw [card, card]
    constructor <;> (split <;> omega)
theorem room_bd {T : Nat → Int} {R x : Int} {N : Nat} (hT : ∀ i, i < N → 1 ≤ T i ∧ T i ≤ R) (hR : R ≤ 20) : ∀ n : Nat, n ≤ N → 0 ≤ roomN T R x n ∧ roomN T R x n ≤ 20 * (n : Int) ∧ 0 ≤ smallN T R x n ∧ smallN T R x n ≤ 20 * (n : Int)
  | 0, _ => by simp [roomN, smallN, wsum]
  | n + 1, h => by
    have ih := room_bd (x := x) hT hR n (by omega)
    have h1 := hT n (by omega)
    unfold roomN smallN at ih ⊢
    rw [wsum, wsum]
    push_cast
    refine ⟨?_, ?_, ?_, ?_⟩ <;> (split <;> omega)
end Go.Proofs.Ythmifadnfaajbad
namespace Go.Proofs.Ythmifadnfaajbad
open Go.RowKit Go.WideShapes

-- chapter 11's code: ValidCuts, LeastRolls
theorem fromOne11 (n hi : Int) (w : World) {b : Bool} (hb : inB 1 hi n = b) :
    Calls Try.prog 20 #[.int .i64 n, .int .i64 hi] w fun e w' => e = .returned (.bool b) ∧ w' = w := by
  subst hb
  by_cases h1 : 1 ≤ n
  · by_cases h2 : n ≤ hi
    · go_enter Try.func20, Try.ntmps20
      go_wp2
      go_ret
      exact ⟨ret_bool (inB_true h1 h2).symm, rfl⟩
    · go_enter Try.func20, Try.ntmps20
      go_wp2
      go_ret
      exact ⟨ret_bool (inB_hi (by omega)).symm, rfl⟩
  · go_enter Try.func20, Try.ntmps20
    go_wp2
    go_ret
    exact ⟨ret_bool (inB_lo (by omega)).symm, rfl⟩
set_option maxRecDepth 100000 in
set_option maxHeartbeats 2000000 in
theorem vCuts_impl (S : Nat → Prop) (a : Option Addr) (len cap : Nat) (xs : List Int) (R : Int) (w : World) (h : IntsAt w S a len xs) :
    Calls Try.prog 18 #[.slice a len cap, .int .i64 R] w fun e w' => e = .returned (.bool (cutsM xs R)) ∧ w' = w := by
  have hs := h.small
  have HL := Lib.hid h.lenEq
  by_cases h7 : (len : Int) > 7
  · have HF := Lib.hid (show cutsM xs R = false by unfold cutsM; rw [HL.out, decide_eq_false (by omega)]; simp)
    go_enter Try.func18, Try.ntmps18
    go_wp2_with fail
    go_ret
    exact ⟨ret_bool HF.out.symm, rfl⟩
  · cases hR : inB 1 20 R
    · have HF := Lib.hid (show cutsM xs R = false by unfold cutsM; rw [hR]; simp)
      go_enter Try.func18, Try.ntmps18
      go_wp2_with (go_at_call 20; refine (fromOne11 _ _ _ hR).mono ?_; rintro e w' ⟨rfl, rfl⟩)
      go_ret
      exact ⟨ret_bool HF.out.symm, rfl⟩
    · have HC := Lib.hid (show cutsM xs R = allIn 1 R xs by unfold cutsM; rw [hR, HL.out, decide_eq_true (by omega)]; simp)
      go_enter Try.func18, Try.ntmps18
      go_wp2_with (go_at_call 20; refine (fromOne11 _ _ _ hR).mono ?_; rintro e w' ⟨rfl, rfl⟩)
      clear hR
      go_loop [17] (fun i => ∃ k : Nat, k ≤ len ∧ i = .int .i64 k ∧ allIn 1 R (xs.take k) = true) (fun i => len - (intOf i).toNat)
      case atStart => exact ⟨0, Nat.zero_le _, rfl, rfl⟩
      case round =>
        obtain ⟨k, hk, rfl, ha⟩ := hrel
        have HA := Lib.hid ha
        clear ha
        by_cases hlt : k < len
        · have hkI : (k : Int) < (len : Int) := by omega
          obtain ⟨b, off, x, rfl, hx, hc⟩ := h.get hlt
          have HX := Lib.hid hx
          clear hx
          cases hq : inB 1 R x
          · have HF := Lib.hid (show cutsM xs R = false by rw [HC.out, allIn_false HX.out hq])
            go_wp2_with (go_at_call 20; refine (fromOne11 _ _ _ hq).mono ?_; rintro e w' ⟨rfl, rfl⟩)
            go_ret
            exact ⟨ret_bool HF.out.symm, rfl⟩
          · go_wp2_with (go_at_call 20; refine (fromOne11 _ _ _ hq).mono ?_; rintro e w' ⟨rfl, rfl⟩)
            go_round
            case rel => exact ⟨k + 1, by omega, by go_num, allIn_step HX.out HA.out hq⟩
            case measure => simp [intOf]; omega
        · obtain rfl : k = len := by omega
          have hkI : ¬ (k : Int) < (k : Int) := by omega
          have ha := HA.out
          rw [List.take_of_length_le (by rw [HL.out]; omega)] at ha
          have HT := Lib.hid (show cutsM xs R = true by rw [HC.out, ha])
          clear ha
          go_wp2_with fail
          go_ret
          exact ⟨ret_bool HT.out.symm, rfl⟩
theorem vcutsI {S : Nat → Prop} {a : Option Addr} {len cap : Nat} {xs : List Int} {R : Int} {b : Bool} (hb : cutsM xs R = b) (w : World) (h : IntsAt w S a len xs) : Calls Try.prog 18 #[.slice a len cap, .int .i64 R] w fun e w' => e = .returned (.bool b) ∧ w' = w := by
  subst hb; exact vCuts_impl S a len cap xs R w h
/-- the cuts longer than half of a roll, and what the others need beside the room that these leave -/
def ownN (T : Nat → Int) (R : Int) (n : Nat) : Nat := card (fun i => decide (R < 2 * T i)) n
theorem own_add {T : Nat → Int} {R x : Int} (hx : 2 * x ≤ R) : ∀ n, longN T R x n + midN T R x n = ownN T R n
  | 0 => rfl
  | n + 1 => by
    have ih := own_add (T := T) hx n
    unfold longN midN ownN at ih ⊢
    rw [card, card, card]
    by_cases g1 : R - x < T n
    · rw [decide_eq_true g1, decide_eq_true (show R < 2 * T n by omega)]; simp; omega
    · rw [decide_eq_false g1]
      by_cases g2 : R < 2 * T n
      · rw [decide_eq_true g2]; simp; omega
      · rw [decide_eq_false g2]; simp; omega
def overN (T : Nat → Int) (R x : Int) (n : Nat) : Int := smallN T R x n - roomN T R x n
theorem ownN_step (T : Nat → Int) (R : Int) (n : Nat) : ownN T R (n + 1) = ownN T R n + if decide (R < 2 * T n) then 1 else 0 := rfl
theorem over_step (T : Nat → Int) (R x : Int) (n : Nat) : overN T R x (n + 1) = overN T R x n + (if R - x < T n then 0 else if R < 2 * T n then T n - R else if x ≤ T n then T n else 0) := by
  unfold overN smallN roomN
  rw [wsum, wsum]
  by_cases g1 : R - x < T n
  · rw [decide_eq_true g1, if_pos g1]; simp
  · rw [decide_eq_false g1, if_neg g1]
    by_cases g2 : R < 2 * T n
    · rw [decide_eq_true g2, if_pos g2]; simp; omega
    · rw [decide_eq_false g2, if_neg g2]
      by_cases g3 : x ≤ T n
      · rw [decide_eq_true g3, if_pos g3]; simp; omega
      · rw [decide_eq_false g3, if_neg g3]; simp
theorem own_le (T : Nat → Int) (R : Int) : ∀ n, ownN T R n ≤ n
  | 0 => Nat.le_refl _
  | n + 1 => by have := own_le T R n; rw [ownN_step]; split <;> omega
theorem leastX_own {T : Nat → Int} {R x : Int} (hR : 1 ≤ R) (hx : 2 * x ≤ R) (n : Nat) : leastX T R x n = ownN T R n + ((if 0 < overN T R x n then overN T R x n else 0) + R - 1) / R := by
  have h1 : leastX T R x n = longN T R x n + midN T R x n + (max (overN T R x n + R - 1) 0) / R := rfl
  rw [h1, ← own_add hx n]
  obtain ⟨D, hD⟩ : ∃ D, overN T R x n = D := ⟨_, rfl⟩
  rw [hD]
  by_cases g : 0 < D
  · rw [if_pos g, Int.max_eq_left (by omega)]; push_cast; omega
  · rw [if_neg g]
    have a : (0 + R - 1) / R = 0 := Int.ediv_eq_zero_of_lt (by omega) (by omega)
    have b : max (D + R - 1) 0 / R = 0 := Int.ediv_eq_zero_of_lt (by omega) (by omega)
    rw [a, b]; push_cast; omega
end Go.Proofs.Ythmifadnfaajbad
