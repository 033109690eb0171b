import Derived.Test.YthmifadnfaajbadM6
import Derived.Test.YthmifadnfaajbadRows
import Derived.WalkKit
import Derived.Laws.Entries
import Derived.LoopTactic
import Derived.Outline
import Derived.WalkSpells
import Derived.WalkLawsBesides
import Derived.ProofKit
import Derived.Lib.Hide
import Derived.IntWalk
import Derived.Test.YthmifadnfaajbadM0
import Derived.Test.YthmifadnfaajbadM1
import Derived.Test.YthmifadnfaajbadM8
namespace Go.Proofs.Ythmifadnfaajbad

/-- The line the other way round. -/
theorem csum_rev {T : List Int} {P : Nat → Bool} : ∀ n, n ≤ T.length → csum T.reverse (fun t => P (T.length - 1 - t)) n = csum T P T.length - csum T P (T.length - n)
  | 0, _ => by simp [csum]
  | n + 1, h => by
    rw [csum, csum_rev n (by omega)]
    obtain ⟨d, hd⟩ : ∃ d, T.length - n = d + 1 := ⟨T.length - n - 1, by omega⟩
    rw [hd, csum, show T.length - (n + 1) = d by omega, show T.length - 1 - n = d by omega]
    have : T.reverse.getD n 0 = T.getD d 0 := by
      simp only [List.getD_eq_getElem?_getD]
      rw [List.getElem?_reverse (by omega), show T.length - 1 - n = d by omega]
    rw [this]
    cases P d <;> simp <;> omega
theorem PA.rev {T : List Int} {A B : List Nat} {c : Int} (hc : 0 ≤ c) {m : Nat} {p : Nat → Nat} (h : PA T A c m p)
    (hB : ∀ t, t < T.length → ∀ u, (B.getD t 0).testBit u = true → u < t ∧ (A.getD (T.length - 1 - u) 0).testBit (T.length - 1 - t) = true) : PA T.reverse B c m (fun t => m - 1 - p (T.length - 1 - t)) := by
  refine ⟨fun i hi => ?_, fun i hi k hk => ?_, fun j => ?_⟩
  · rw [List.length_reverse] at hi
    have := h.low (T.length - 1 - i) (by omega)
    show m - 1 - p (T.length - 1 - i) < m; omega
  · rw [List.length_reverse] at hi
    obtain ⟨h1, h2⟩ := hB i hi k hk
    have := h.clo (T.length - 1 - k) (by omega) _ h2
    show m - 1 - p (T.length - 1 - k) ≤ m - 1 - p (T.length - 1 - i); omega
  · have h1 := csum_rev (T := T) (P := fun i => m - 1 - p i == j) T.length (Nat.le_refl _)
    rw [List.length_reverse]
    rw [h1, Nat.sub_self, csum, Int.sub_zero]
    by_cases hj : j < m
    · refine Int.le_trans (Int.le_of_eq (csum_congr _ fun i hi => ?_)) (h.load (m - 1 - j))
      have := h.low i hi
      by_cases he : p i = m - 1 - j
      · rw [show (p i == m - 1 - j) = true by simp [he], show (m - 1 - p i == j) = true by simp; omega]
      · rw [show (p i == m - 1 - j) = false by simp [he], show (m - 1 - p i == j) = false by simp; omega]
    · rw [csum_none _ fun i hi => ?_]
      · exact hc
      · have := h.low i hi
        simp; omega
theorem few_rev_le {T : List Int} {A B : List Nat} {c : Int} (hl : A.length = T.length) (hl2 : B.length = T.length) (hc : 0 ≤ c) (hA : ∀ i k, (A.getD i 0).testBit k = true → k < i) (hB0 : ∀ i k, (B.getD i 0).testBit k = true → k < i)
    (hB : ∀ t, t < T.length → ∀ u, (B.getD t 0).testBit u = true → u < t ∧ (A.getD (T.length - 1 - u) 0).testBit (T.length - 1 - t) = true) (h0 : 0 ≤ fewM T A c) : 0 ≤ fewM T.reverse B c ∧ fewM T.reverse B c ≤ fewM T A c := by
  obtain ⟨p, hp⟩ := few_get hl hc hA h0
  have := few_le (by rw [List.length_reverse]; exact hl2) hB0 (hp.rev hc hB)
  omega
theorem few_rev {T : List Int} {A B : List Nat} {c : Int} (hl : A.length = T.length) (hl2 : B.length = T.length) (hc : 0 ≤ c) (hA : ∀ i k, (A.getD i 0).testBit k = true → k < i) (hB0 : ∀ i k, (B.getD i 0).testBit k = true → k < i)
    (hB : ∀ t u, u < t → t < T.length → (B.getD t 0).testBit u = (A.getD (T.length - 1 - u) 0).testBit (T.length - 1 - t)) (h0 : 0 ≤ fewM T A c) : fewM T.reverse B c = fewM T A c := by
  have h1 := few_rev_le hl hl2 hc hA hB0 (fun t ht u hu => ⟨hB0 t u hu, by rw [← hB t u (hB0 t u hu) ht]; exact hu⟩) h0
  have h2 := few_rev_le (T := T.reverse) (A := B) (B := A) (by rw [List.length_reverse]; exact hl2) (by rw [List.length_reverse]; exact hl) hc hB0 hA (fun t ht u hu => by
    rw [List.length_reverse] at ht ⊢
    have h3 := hA t u hu
    refine ⟨h3, ?_⟩
    rw [hB _ _ (by omega) (by omega), show T.length - 1 - (T.length - 1 - t) = t by omega, show T.length - 1 - (T.length - 1 - u) = u by omega]; exact hu) h1.1
  rw [List.reverse_reverse] at h2
  omega

/-- The places filled one after the other. -/
structure GS where
  D : Nat
  place : Nat
  left : Int
  out : List Int
def pickM (T : List Int) (A : List Nat) (W : List Int) (D : Nat) (left : Int) : Nat → Int
  | 0 => -1
  | k + 1 => if D.testBit k = false ∧ dif (A.getD k 0) D = 0 ∧ T.getD k 0 ≤ left ∧ (pickM T A W D left k < 0 ∨ W.getD (pickM T A W D left k).toNat 0 < W.getD k 0) then (k : Int) else pickM T A W D left k
theorem pickM_get {T : List Int} {A : List Nat} {W : List Int} {D : Nat} {left : Int} : ∀ n, 0 ≤ pickM T A W D left n → ∃ q, q < n ∧ pickM T A W D left n = (q : Int) ∧ D.testBit q = false ∧ dif (A.getD q 0) D = 0 ∧ T.getD q 0 ≤ left
  | 0, h => by simp [pickM] at h
  | n + 1, h => by
    rw [pickM] at h ⊢
    split at h
    · rename_i h2; rw [if_pos h2]; exact ⟨n, by omega, rfl, h2.1, h2.2.1, h2.2.2.1⟩
    · rename_i h2; rw [if_neg h2]; obtain ⟨q, hq, he, hr⟩ := pickM_get n h; exact ⟨q, by omega, he, hr⟩
theorem pickM_low {T : List Int} {A : List Nat} {W : List Int} {D : Nat} {left : Int} : ∀ n, -1 ≤ pickM T A W D left n
  | 0 => Int.le_refl _
  | n + 1 => by have := pickM_low (T := T) (A := A) (W := W) (D := D) (left := left) n; rw [pickM]; split <;> omega
theorem pickM_none {T : List Int} {A : List Nat} {W : List Int} {D : Nat} {left : Int} : ∀ n, pickM T A W D left n < 0 → ∀ q, q < n → ¬ (D.testBit q = false ∧ dif (A.getD q 0) D = 0 ∧ T.getD q 0 ≤ left)
  | n + 1, h, q, hq => by
    rw [pickM] at h
    split at h
    · omega
    · rename_i h2
      rcases Nat.lt_or_eq_of_le (Nat.le_of_lt_succ hq) with h3 | rfl
      · exact pickM_none n h q h3
      · exact fun h4 => h2 ⟨h4.1, h4.2.1, h4.2.2, .inl h⟩
def stepG (T : List Int) (A : List Nat) (W : List Int) (c : Int) (s : GS) : GS :=
  if pickM T A W s.D s.left T.length < 0 then ⟨s.D, s.place + 1, c, s.out⟩
  else ⟨s.D + 2 ^ (pickM T A W s.D s.left T.length).toNat, s.place, s.left - T.getD (pickM T A W s.D s.left T.length).toNat 0, s.out.set (pickM T A W s.D s.left T.length).toNat s.place⟩
def runG (T : List Int) (A : List Nat) (W : List Int) (c : Int) : Nat → GS → GS
  | 0, s => s
  | f + 1, s => if s.D < 2 ^ T.length - 1 then runG T A W c f (stepG T A W c s) else s
def undone (D : Nat) : Nat → Nat
  | 0 => 0
  | k + 1 => undone D k + (if D.testBit k then 0 else 1)
def measG (T : List Int) (c : Int) (s : GS) : Nat := 2 * undone s.D T.length + (if s.left < c then 1 else 0)
theorem undone_le (D : Nat) : ∀ n, undone D n ≤ n
  | 0 => Nat.le_refl _
  | n + 1 => by have := undone_le D n; rw [undone]; split <;> omega
theorem undone_congr {D E : Nat} : ∀ n, (∀ i, i < n → D.testBit i = E.testBit i) → undone D n = undone E n
  | 0, _ => rfl
  | n + 1, h => by rw [undone, undone, undone_congr n (fun i hi => h i (by omega)), h n (by omega)]
theorem add_bit {D q : Nat} (h : D.testBit q = false) (i : Nat) : (D + 2 ^ q).testBit i = (D.testBit i || decide (i = q)) := by
  obtain ⟨a, b, hb, rfl⟩ : ∃ a b, b < 2 ^ q ∧ D = 2 ^ q * (2 * a) + b := by
    rw [Nat.testBit_eq_decide_div_mod_eq, decide_eq_false_iff_not] at h
    refine ⟨D / 2 ^ q / 2, D % 2 ^ q, Nat.mod_lt _ (Nat.two_pow_pos q), ?_⟩
    have h1 := Nat.div_add_mod D (2 ^ q)
    rw [show 2 * (D / 2 ^ q / 2) = D / 2 ^ q by omega]
    omega
  rw [show 2 ^ q * (2 * a) + b + 2 ^ q = 2 ^ q * (2 * a + 1) + b by rw [Nat.mul_add]; omega, Nat.testBit_two_pow_mul_add _ hb, Nat.testBit_two_pow_mul_add _ hb]
  by_cases h1 : i < q
  · rw [if_pos h1, if_pos h1, show decide (i = q) = false by simp; omega, Bool.or_false]
  · rw [if_neg h1, if_neg h1]
    by_cases h2 : i = q
    · subst h2; simp
    · obtain ⟨d, hd⟩ : ∃ d, i - q = d + 1 := ⟨i - q - 1, by omega⟩
      rw [hd, Nat.testBit_add_one, Nat.testBit_add_one, show (2 * a + 1) / 2 = a by omega, show 2 * a / 2 = a by omega, show decide (i = q) = false by simp; omega, Bool.or_false]
theorem undone_add {D q : Nat} (h : D.testBit q = false) : ∀ n, q < n → undone (D + 2 ^ q) n + 1 = undone D n
  | n + 1, hq => by
    rw [undone, undone, add_bit h]
    rcases Nat.lt_or_eq_of_le (Nat.le_of_lt_succ hq) with h3 | rfl
    · have := undone_add h n h3
      rw [show decide (n = q) = false by simp; omega, Bool.or_false]
      omega
    · rw [undone_congr (D := D + 2 ^ q) (E := D) q (fun i hi => by rw [add_bit h, show decide (i = q) = false by simp; omega, Bool.or_false])]
      simp [h]
theorem undone_zero {D : Nat} : ∀ n, undone D n = 0 → ∀ i, i < n → D.testBit i = true
  | n + 1, h, i, hi => by
    rw [undone] at h
    rcases Nat.lt_or_eq_of_le (Nat.le_of_lt_succ hi) with h3 | rfl
    · exact undone_zero n (by omega) i h3
    · cases hd : D.testBit i
      · rw [hd] at h; simp at h
      · rfl
/-- A first task that is not done has all ahead of it done. -/
theorem first_undone {A : List Nat} (hA : ∀ i k, (A.getD i 0).testBit k = true → k < i) {D : Nat} : ∀ n, undone D n ≠ 0 → ∃ q, q < n ∧ D.testBit q = false ∧ dif (A.getD q 0) D = 0
  | 0, h => absurd rfl h
  | n + 1, h => by
    by_cases h0 : undone D n = 0
    · refine ⟨n, by omega, ?_, dif_zero.mpr fun k hk => undone_zero n h0 k (hA n k hk)⟩
      rw [undone, h0] at h
      cases hd : D.testBit n
      · rfl
      · rw [hd] at h; simp at h
    · obtain ⟨q, hq, hr⟩ := first_undone hA n h0
      exact ⟨q, by omega, hr⟩

/-- What holds as the places are filled. -/
structure IG (T : List Int) (A : List Nat) (c : Int) (s : GS) : Prop where
  lt : s.D < 2 ^ T.length
  len : s.out.length = T.length
  low : ∀ i, i < T.length → s.D.testBit i = true → 0 ≤ s.out.getD i 0 ∧ s.out.getD i 0 ≤ s.place
  clo : ∀ i, i < T.length → s.D.testBit i = true → ∀ k, (A.getD i 0).testBit k = true → s.D.testBit k = true ∧ s.out.getD k 0 ≤ s.out.getD i 0
  now : csum T (fun i => s.D.testBit i && s.out.getD i 0 == (s.place : Int)) T.length + s.left = c
  old : ∀ j : Nat, j < s.place → csum T (fun i => s.D.testBit i && s.out.getD i 0 == (j : Int)) T.length ≤ c
  use : ∀ j : Nat, j < s.place → ∃ i, i < T.length ∧ s.D.testBit i = true ∧ s.out.getD i 0 = (j : Int)
  cur : s.left < c → ∃ i, i < T.length ∧ s.D.testBit i = true ∧ s.out.getD i 0 = (s.place : Int)
  top : s.left ≤ c
  pos : 0 ≤ s.left
  fin : s.left = c → s.D < 2 ^ T.length - 1 ∨ T.length = 0
theorem full_of_undone {D n : Nat} (h : D < 2 ^ n) (h0 : undone D n = 0) : D = 2 ^ n - 1 := by
  apply Nat.eq_of_testBit_eq; intro i
  rw [full_bit]
  by_cases hi : i < n
  · rw [undone_zero n h0 i hi]; simp [hi]
  · rw [Nat.testBit_lt_two_pow (Nat.lt_of_lt_of_le h (Nat.pow_le_pow_right (by omega) (by omega)))]; simp [hi]
theorem add_lt {D q n : Nat} (h : D < 2 ^ n) (hq : q < n) (hb : D.testBit q = false) : D + 2 ^ q < 2 ^ n := by
  apply Nat.lt_pow_two_of_testBit
  intro i hi
  rw [add_bit hb, Nat.testBit_lt_two_pow (Nat.lt_of_lt_of_le h (Nat.pow_le_pow_right (by omega) hi))]
  simp; omega
theorem getD_set_ne {l : List Int} {q i : Nat} {v : Int} (h : i ≠ q) : (l.set q v).getD i 0 = l.getD i 0 := by
  simp only [List.getD_eq_getElem?_getD]; rw [List.getElem?_set_ne (Ne.symm h)]
theorem getD_set_eq {l : List Int} {q : Nat} {v : Int} (h : q < l.length) : (l.set q v).getD q 0 = v := by
  simp only [List.getD_eq_getElem?_getD]; rw [List.getElem?_set_self h]; rfl
theorem csum_put {T : List Int} {D q : Nat} (hq : D.testBit q = false) {out : List Int} (hol : out.length = T.length) {v j : Int} : ∀ n, n ≤ T.length → csum T (fun i => (D + 2 ^ q).testBit i && (out.set q v).getD i 0 == j) n = csum T (fun i => D.testBit i && out.getD i 0 == j) n + (if q < n ∧ v = j then T.getD q 0 else 0)
  | 0, _ => by simp [csum]
  | n + 1, h => by
    rw [csum, csum, csum_put hq hol n (by omega), add_bit hq]
    by_cases hn : n = q
    · subst hn
      rw [getD_set_eq (by omega), hq]
      by_cases hv : v = j
      · subst hv; simp
      · simp [hv]
    · rw [getD_set_ne hn, show decide (n = q) = false by simp [hn], Bool.or_false]
      by_cases h1 : q < n ∧ v = j
      · rw [if_pos h1, if_pos (⟨by omega, h1.2⟩ : q < n + 1 ∧ v = j)]; omega
      · rw [if_neg h1, if_neg (show ¬ (q < n + 1 ∧ v = j) from fun h2 => h1 ⟨by omega, h2.2⟩)]; omega
theorem IG.step {T : List Int} {A : List Nat} {W : List Int} {c : Int} (hl : A.length = T.length) (hA : ∀ i k, (A.getD i 0).testBit k = true → k < i) (hT : ∀ k, k < T.length → 1 ≤ T.getD k 0 ∧ T.getD k 0 ≤ c)
    (hc : 0 ≤ c) {s : GS} (g : IG T A c s) (hD : s.D < 2 ^ T.length - 1) : IG T A c (stepG T A W c s) ∧ measG T c (stepG T A W c s) < measG T c s := by
  unfold stepG
  have hund : undone s.D T.length ≠ 0 := fun h => by have := full_of_undone g.lt h; omega
  split
  case isTrue hp =>
    have hlc : s.left < c := by
      obtain ⟨q, hq, h1, h2⟩ := first_undone hA T.length hund
      have h3 := pickM_none _ hp q hq
      have h4 := (hT q hq).2
      by_cases h5 : T.getD q 0 ≤ s.left
      · exact absurd ⟨h1, h2, h5⟩ h3
      · omega
    have hno : ∀ j : Int, (s.place : Int) < j → csum T (fun i => s.D.testBit i && s.out.getD i 0 == j) T.length = 0 := by
      intro j hj
      apply csum_none
      intro i hi
      cases hd : s.D.testBit i
      · rfl
      · have := g.low i hi hd
        simp only [Bool.true_and, beq_eq_false_iff_ne, ne_eq]; omega
    refine ⟨⟨g.lt, g.len, fun i hi hd => ?_, g.clo, ?_, fun j hj => ?_, fun j hj => ?_, fun h => absurd h (Int.lt_irrefl _), Int.le_refl _, hc, fun _ => .inl hD⟩, ?_⟩
    · have := g.low i hi hd; exact ⟨this.1, by show s.out.getD i 0 ≤ ((s.place + 1 : Nat) : Int); push_cast; omega⟩
    · show csum T (fun i => s.D.testBit i && s.out.getD i 0 == ((s.place + 1 : Nat) : Int)) T.length + c = c
      rw [hno _ (by push_cast; omega)]; omega
    · rcases Nat.lt_or_eq_of_le (Nat.le_of_lt_succ hj) with h | rfl
      · exact g.old j h
      · have := g.now
        have hn := g.pos
        show csum T (fun i => s.D.testBit i && s.out.getD i 0 == (s.place : Int)) T.length ≤ c
        omega
    · rcases Nat.lt_or_eq_of_le (Nat.le_of_lt_succ hj) with h | rfl
      · exact g.use j h
      · exact g.cur hlc
    · unfold measG
      rw [if_pos hlc]
      show 2 * undone s.D T.length + (if c < c then 1 else 0) < _
      rw [if_neg (Int.lt_irrefl _)]; omega
  case isFalse hp =>
    obtain ⟨q, hq, he, hb, hd, hle⟩ := pickM_get (T := T) (A := A) (W := W) (D := s.D) (left := s.left) T.length (by omega)
    rw [he, show ((q : Int)).toNat = q by omega]
    have hol := g.len
    have hT1 := hT q hq
    have hput := fun j : Int => csum_put hb hol (v := (s.place : Int)) (j := j) T.length (Nat.le_refl _)
    have hnb : ∀ i, i ≠ q → (s.D + 2 ^ q).testBit i = s.D.testBit i := fun i hi => by rw [add_bit hb, show decide (i = q) = false by simp [hi], Bool.or_false]
    have hqb : (s.D + 2 ^ q).testBit q = true := by rw [add_bit hb]; simp
    refine ⟨⟨add_lt g.lt hq hb, by show (s.out.set q _).length = _; rw [List.length_set]; exact hol, fun i hi hdi => ?_, fun i hi hdi k hk => ?_, ?_, fun j hj => ?_, fun j hj => ?_, fun _ => ?_, ?_, ?_, fun h => ?_⟩, ?_⟩
    · show 0 ≤ (s.out.set q _).getD i 0 ∧ (s.out.set q _).getD i 0 ≤ (s.place : Int)
      by_cases h : i = q
      · subst h; rw [getD_set_eq (by omega)]; omega
      · rw [getD_set_ne h]; exact g.low i hi (by rw [← hnb i h]; exact hdi)
    · have hkd : s.D.testBit k = true := by
        by_cases h : i = q
        · subst h; exact dif_zero.mp hd k hk
        · exact (g.clo i hi (by rw [← hnb i h]; exact hdi) k hk).1
      have hkq : k ≠ q := fun h => by subst h; rw [hb] at hkd; cases hkd
      refine ⟨by show (s.D + 2 ^ q).testBit k = true; rw [hnb k hkq]; exact hkd, ?_⟩
      show (s.out.set q _).getD k 0 ≤ (s.out.set q _).getD i 0
      rw [getD_set_ne hkq]
      by_cases h : i = q
      · subst h; rw [getD_set_eq (by omega)]; exact (g.low k (by have := hA i k hk; omega) hkd).2
      · rw [getD_set_ne h]; exact (g.clo i hi (by rw [← hnb i h]; exact hdi) k hk).2
    · have := g.now
      show csum T (fun i => (s.D + 2 ^ q).testBit i && (s.out.set q (s.place : Int)).getD i 0 == (s.place : Int)) T.length + (s.left - T.getD q 0) = c
      rw [hput, if_pos ⟨hq, rfl⟩]; omega
    · show csum T (fun i => (s.D + 2 ^ q).testBit i && (s.out.set q (s.place : Int)).getD i 0 == (j : Int)) T.length ≤ c
      have hj' : j < s.place := hj
      rw [hput, if_neg (by omega)]; have := g.old j hj'; omega
    · obtain ⟨i, hi, h1, h2⟩ := g.use j hj
      have hiq : i ≠ q := fun h => by subst h; rw [hb] at h1; cases h1
      exact ⟨i, hi, by show (s.D + 2 ^ q).testBit i = true; rw [hnb i hiq]; exact h1, by show (s.out.set q _).getD i 0 = _; rw [getD_set_ne hiq]; exact h2⟩
    · exact ⟨q, hq, hqb, by show (s.out.set q _).getD q 0 = _; rw [getD_set_eq (by omega)]⟩
    · have := g.top; show s.left - T.getD q 0 ≤ c; omega
    · show 0 ≤ s.left - T.getD q 0; omega
    · have := g.top; have h' : s.left - T.getD q 0 = c := h; omega
    · unfold measG
      have := undone_add hb T.length hq
      show 2 * undone (s.D + 2 ^ q) T.length + _ < 2 * undone s.D T.length + _
      split <;> split <;> omega
theorem runG_end {T : List Int} {A : List Nat} {W : List Int} {c : Int} (hl : A.length = T.length) (hA : ∀ i k, (A.getD i 0).testBit k = true → k < i) (hT : ∀ k, k < T.length → 1 ≤ T.getD k 0 ∧ T.getD k 0 ≤ c) (hc : 0 ≤ c) :
    ∀ f s, IG T A c s → measG T c s ≤ f → IG T A c (runG T A W c f s) ∧ (runG T A W c f s).D = 2 ^ T.length - 1
  | 0, s, g, hm => by
    refine ⟨g, full_of_undone g.lt ?_⟩
    unfold measG at hm; show undone s.D T.length = 0; omega
  | f + 1, s, g, hm => by
    rw [runG]
    split
    · rename_i hD
      have := g.step (W := W) hl hA hT hc hD
      exact runG_end hl hA hT hc f _ this.1 (by omega)
    · have := g.lt; exact ⟨g, by omega⟩
def initG (T : List Int) (c : Int) : GS := ⟨0, 0, c, List.replicate T.length 0⟩
def byM (T : List Int) (A : List Nat) (W : List Int) (c : Int) : List Int := (runG T A W c (2 * T.length + 1) (initG T c)).out
theorem initG_ok {T : List Int} {A : List Nat} {c : Int} (hc : 0 ≤ c) : IG T A c (initG T c) :=
  ⟨Nat.two_pow_pos _, List.length_replicate, fun i _ h => by simp [initG] at h, fun i _ h => by simp [initG] at h, by
    show csum T (fun i => (0 : Nat).testBit i && _) T.length + c = c
    rw [csum_none _ (fun i _ => by simp)]; omega, fun j h => absurd h (by simp [initG]), fun j h => absurd h (by simp [initG]), fun h => absurd h (Int.lt_irrefl _), Int.le_refl _, hc, fun _ => by
    by_cases h : T.length = 0
    · exact .inr h
    · left; show 0 < 2 ^ T.length - 1
      have := Nat.pow_le_pow_right (n := 2) (by omega) (show 1 ≤ T.length by omega); omega⟩
theorem by_spec {T : List Int} {A : List Nat} {W : List Int} {c : Int} (hl : A.length = T.length) (hA : ∀ i k, (A.getD i 0).testBit k = true → k < i) (hT : ∀ k, k < T.length → 1 ≤ T.getD k 0 ∧ T.getD k 0 ≤ c) (hc : 0 ≤ c) :
    (byM T A W c).length = T.length ∧ ∃ P : Nat, (∀ i, i < T.length → 0 ≤ (byM T A W c).getD i 0 ∧ (byM T A W c).getD i 0 ≤ P) ∧ (∀ i, i < T.length → ∀ k, (A.getD i 0).testBit k = true → (byM T A W c).getD k 0 ≤ (byM T A W c).getD i 0)
      ∧ (∀ j : Int, csum T (fun i => (byM T A W c).getD i 0 == j) T.length ≤ c) ∧ (T.length ≠ 0 → ∀ j : Nat, j ≤ P → ∃ i, i < T.length ∧ (byM T A W c).getD i 0 = (j : Int)) := by
  have h := runG_end (W := W) hl hA hT hc (2 * T.length + 1) (initG T c) (initG_ok hc) (by
    unfold measG; have := undone_le (initG T c).D T.length
    show 2 * undone (initG T c).D T.length + (if c < c then 1 else 0) ≤ _
    rw [if_neg (Int.lt_irrefl _)]; omega)
  unfold byM
  generalize runG T A W c (2 * T.length + 1) (initG T c) = s at h
  obtain ⟨g, hD⟩ := h
  have hbit : ∀ i, i < T.length → s.D.testBit i = true := fun i hi => by rw [hD, full_bit]; simp [hi]
  refine ⟨g.len, s.place, fun i hi => g.low i hi (hbit i hi), fun i hi k hk => (g.clo i hi (hbit i hi) k hk).2, fun j => ?_, fun hn j hj => ?_⟩
  · have e : csum T (fun i => s.out.getD i 0 == j) T.length = csum T (fun i => s.D.testBit i && s.out.getD i 0 == j) T.length := csum_congr _ fun i hi => by rw [hbit i hi, Bool.true_and]
    rw [e]
    by_cases h1 : 0 ≤ j ∧ j ≤ s.place
    · obtain ⟨q, rfl⟩ : ∃ q : Nat, j = (q : Int) := ⟨j.toNat, by omega⟩
      by_cases h2 : q < s.place
      · exact g.old q h2
      · obtain rfl : q = s.place := by omega
        have := g.now; have := g.pos; omega
    · rw [csum_none _ fun i hi => ?_]
      · exact hc
      · have := g.low i hi (hbit i hi)
        simp only [hbit i hi, Bool.true_and, beq_eq_false_iff_ne, ne_eq]; omega
  · by_cases h2 : j < s.place
    · obtain ⟨i, hi, _, h⟩ := g.use j h2; exact ⟨i, hi, h⟩
    · obtain rfl : j = s.place := by omega
      have hl : s.left < c := by
        by_cases h3 : s.left = c
        · have := g.fin h3; omega
        · have := g.top; omega
      obtain ⟨i, hi, _, h⟩ := g.cur hl; exact ⟨i, hi, h⟩
theorem by_few {T : List Int} {A : List Nat} {W : List Int} {c : Int} (hl : A.length = T.length) (hA : ∀ i k, (A.getD i 0).testBit k = true → k < i) (hT : ∀ k, k < T.length → 1 ≤ T.getD k 0 ∧ T.getD k 0 ≤ c) (hc : 0 ≤ c) {g : Int}
    (hg : ∀ i, i < T.length → (byM T A W c).getD i 0 ≤ g) (h0 : T.length ≠ 0) : fewM T A c ≤ g + 1 := by
  obtain ⟨hlen, P, h1, h2, h3, h4⟩ := by_spec (W := W) hl hA hT hc
  obtain ⟨i, hi, he⟩ := h4 h0 P (Nat.le_refl _)
  have hPg := hg i hi
  have := few_le (T := T) (A := A) (c := c) hl hA (m := P + 1) (p := fun i => ((byM T A W c).getD i 0).toNat) ⟨fun i hi => by have := h1 i hi; show ((byM T A W c).getD i 0).toNat < P + 1; omega, fun i hi k hk => by
    have := h2 i hi k hk; show ((byM T A W c).getD k 0).toNat ≤ ((byM T A W c).getD i 0).toNat; omega, fun j => by
    refine Int.le_trans (Int.le_of_eq (csum_congr _ fun i hi => ?_)) (h3 j)
    have := h1 i hi
    by_cases he : (byM T A W c).getD i 0 = j
    · rw [he]; simp
    · rw [show ((byM T A W c).getD i 0 == (j : Int)) = false by simp only [beq_eq_false_iff_ne, ne_eq]; exact he]
      simp only [beq_eq_false_iff_ne, ne_eq]; omega⟩
  omega
end Go.Proofs.Ythmifadnfaajbad
namespace Go.Proofs.Ythmifadnfaajbad

/-- A task and all behind it. -/
def bsM (A : List Nat) (i : Nat) : Nat → Nat
  | 0 => 0
  | m + 1 => if m < i then 0 else if m = i then 2 ^ i else if A.getD m 0 &&& bsM A i m ≠ 0 then bsM A i m + 2 ^ m else bsM A i m
theorem bsM_lt (A : List Nat) (i : Nat) : ∀ m, bsM A i m < 2 ^ m
  | 0 => by simp [bsM]
  | m + 1 => by
    have h := bsM_lt A i m
    have h2 := Nat.two_pow_pos m
    rw [bsM, Nat.pow_succ]
    split
    · omega
    · split
      · rename_i h1; subst h1; omega
      · split <;> omega
theorem bsM_out {A : List Nat} {i m x : Nat} (h : m ≤ x) : (bsM A i m).testBit x = false := Nat.testBit_lt_two_pow (Nat.lt_of_lt_of_le (bsM_lt A i m) (Nat.pow_le_pow_right (by omega) h))
theorem bsM_low {A : List Nat} {i : Nat} : ∀ m, m ≤ i → bsM A i m = 0
  | 0, _ => rfl
  | m + 1, h => by rw [bsM, if_pos (by omega)]
theorem bsM_step {A : List Nat} {i m : Nat} (h : i < m) (x : Nat) : (bsM A i (m + 1)).testBit x = ((bsM A i m).testBit x || (decide (x = m) && decide (A.getD m 0 &&& bsM A i m ≠ 0))) := by
  rw [bsM, if_neg (by omega), if_neg (by omega)]
  split
  · rename_i h1; rw [add_bit (bsM_out (Nat.le_refl _)), decide_eq_true h1, Bool.and_true]
  · rename_i h1; rw [decide_eq_false h1]; simp
theorem bsM_self {A : List Nat} {i : Nat} : ∀ d, (bsM A i (i + 1 + d)).testBit i = true
  | 0 => by rw [Nat.add_zero, bsM, if_neg (by omega), if_pos rfl, Nat.testBit_two_pow]; simp
  | d + 1 => by rw [show i + 1 + (d + 1) = (i + 1 + d) + 1 by omega, bsM_step (by omega), bsM_self d]; rfl
theorem bsM_ge {A : List Nat} {i : Nat} : ∀ m x, (bsM A i m).testBit x = true → i ≤ x
  | 0, x, h => by simp [bsM] at h
  | m + 1, x, h => by
    by_cases h1 : i < m
    · rw [bsM_step h1] at h
      cases h2 : (bsM A i m).testBit x
      · rw [h2] at h; simp only [Bool.false_or, Bool.and_eq_true, decide_eq_true_eq] at h; omega
      · exact bsM_ge m x h2
    · by_cases h2 : m < i
      · rw [bsM, if_pos h2] at h; simp at h
      · rw [bsM, if_neg h2, if_pos (by omega), Nat.testBit_two_pow] at h; simp at h; omega
theorem and_ne {a b x : Nat} (h1 : a.testBit x = true) (h2 : b.testBit x = true) : a &&& b ≠ 0 := fun h => by
  have := congrArg (fun y => y.testBit x) h; simp [h1, h2] at this
theorem and_ne_get {a b : Nat} (h : a &&& b ≠ 0) : ∃ x, a.testBit x = true ∧ b.testBit x = true := by
  obtain ⟨x, hx⟩ := Nat.exists_testBit_of_ne_zero h
  rw [Nat.testBit_and, Bool.and_eq_true] at hx
  exact ⟨x, hx⟩
theorem bsM_sub {A : List Nat} {k i : Nat} (hk : k < i) (ha : (A.getD i 0).testBit k = true) : ∀ m x, (bsM A i m).testBit x = true → (bsM A k m).testBit x = true
  | 0, x, h => by simp [bsM] at h
  | m + 1, x, h => by
    by_cases h1 : i < m
    · rw [bsM_step h1] at h
      rw [bsM_step (by omega)]
      cases h2 : (bsM A i m).testBit x
      · rw [h2] at h; simp only [Bool.false_or, Bool.and_eq_true, decide_eq_true_eq] at h
        obtain ⟨rfl, h3⟩ := h
        obtain ⟨y, h4, h5⟩ := and_ne_get h3
        rw [decide_eq_true (and_ne h4 (bsM_sub hk ha x y h5))]; simp
      · rw [bsM_sub hk ha m x h2]; rfl
    · by_cases h2 : m < i
      · rw [bsM, if_pos h2] at h; simp at h
      · obtain rfl : m = i := by omega
        rw [bsM, if_neg h2, if_pos rfl, Nat.testBit_two_pow] at h
        have hx : m = x := by simpa using h
        subst hx
        rw [bsM_step hk, decide_eq_true (and_ne ha (by have := bsM_self (A := A) (i := k) (m - k - 1); rwa [show k + 1 + (m - k - 1) = m by omega] at this))]; simp
def wM (T : List Int) (A : List Nat) (i : Nat) : Int := csum T (fun x => (bsM A i T.length).testBit x) T.length
def weightsM (T : List Int) (A : List Nat) : List Int := (List.range T.length).map (wM T A)
theorem weightsM_len (T : List Int) (A : List Nat) : (weightsM T A).length = T.length := by simp [weightsM]
theorem weightsM_get {T : List Int} {A : List Nat} {i : Nat} (h : i < T.length) : (weightsM T A).getD i 0 = wM T A i := by
  simp [weightsM, List.getD_eq_getElem?_getD, h]
theorem wM_own {T : List Int} (hT : ∀ k, 0 ≤ T.getD k 0) (A : List Nat) {i : Nat} (h : i < T.length) : T.getD i 0 ≤ wM T A i :=
  csum_le hT (c := 0) _ i h (by have := bsM_self (A := A) (i := i) (T.length - i - 1); rwa [show i + 1 + (T.length - i - 1) = T.length by omega] at this)
theorem wM_all {T : List Int} (hT : ∀ k, 0 ≤ T.getD k 0) (A : List Nat) (i : Nat) : wM T A i ≤ csum T (fun _ => true) T.length := csum_mono hT _ fun _ _ _ => rfl
theorem csum_with {T : List Int} {P : Nat → Bool} {k : Nat} (hk : P k = false) : ∀ n, csum T (fun i => P i || i == k) n = csum T P n + (if k < n then T.getD k 0 else 0)
  | 0 => rfl
  | n + 1 => by
    rw [csum, csum, csum_with hk n]
    by_cases h : n = k
    · subst h; simp [hk]
    · rw [show (n == k) = false by simp [h], Bool.or_false]
      by_cases h2 : k < n
      · rw [if_pos h2, if_pos (show k < n + 1 by omega)]; omega
      · rw [if_neg h2, if_neg (show ¬ k < n + 1 by omega)]; omega
theorem wM_down {T : List Int} (hT : ∀ k, 0 ≤ T.getD k 0) {A : List Nat} {k i : Nat} (hi : i < T.length) (hk : k < i) (ha : (A.getD i 0).testBit k = true) : wM T A i + T.getD k 0 ≤ wM T A k := by
  have h1 : (bsM A i T.length).testBit k = false := by
    cases h : (bsM A i T.length).testBit k
    · rfl
    · have := bsM_ge _ _ h; omega
  have h2 := csum_with (T := T) (P := fun x => (bsM A i T.length).testBit x) h1 T.length
  rw [if_pos (by omega)] at h2
  unfold wM
  rw [← h2]
  refine csum_mono hT _ fun x hx h => ?_
  rw [Bool.or_eq_true] at h
  rcases h with h | h
  · exact bsM_sub hk ha _ x h
  · have hxk : x = k := by simpa using h
    subst hxk
    have := bsM_self (A := A) (i := x) (T.length - x - 1); rwa [show x + 1 + (T.length - x - 1) = T.length by omega] at this

/-- The least tact for so many places. -/
def okT (T : List Int) (A : List Nat) (places : Int) (t : Nat) : Prop := (∀ k, k < T.length → T.getD k 0 ≤ (t : Int)) ∧ fewM T A t ≤ places
instance (T : List Int) (A : List Nat) (places : Int) (t : Nat) : Decidable (okT T A places t) := by unfold okT; infer_instance
def upT (T : List Int) (A : List Nat) (places : Int) : Nat → Nat → Nat
  | 0, t => t
  | f + 1, t => if okT T A places t then t else upT T A places f (t + 1)
theorem upT_ok {T : List Int} {A : List Nat} {places : Int} : ∀ f t e, t ≤ e → e ≤ t + f → okT T A places e → okT T A places (upT T A places f t) ∧ t ≤ upT T A places f t ∧ upT T A places f t ≤ e ∧ ∀ x, t ≤ x → x < upT T A places f t → ¬ okT T A places x
  | 0, t, e, h1, h2, h => by
    obtain rfl : t = e := by omega
    exact ⟨h, Nat.le_refl _, Nat.le_refl _, fun x hx hx2 => by unfold upT at hx2; omega⟩
  | f + 1, t, e, h1, h2, h => by
    by_cases h0 : okT T A places t
    · rw [upT, if_pos h0]; exact ⟨h0, Nat.le_refl _, h1, fun x _ _ => by omega⟩
    · have hne : t ≠ e := fun he => by subst he; exact h0 h
      have := upT_ok f (t + 1) e (by omega) (by omega) h
      rw [upT, if_neg h0]
      refine ⟨this.1, by omega, this.2.2.1, fun x hx hx2 => ?_⟩
      by_cases hxt : x = t
      · subst hxt; exact h0
      · exact this.2.2.2 x (by omega) hx2
def leastT (T : List Int) (A : List Nat) (places : Int) : Nat := upT T A places 60 1
theorem okT_top {T : List Int} {A : List Nat} (hl : A.length = T.length) (hA : ∀ i k, (A.getD i 0).testBit k = true → k < i) {t : Nat} (hT : ∀ k, 0 ≤ T.getD k 0) (ht : csum T (fun _ => true) T.length ≤ (t : Int)) {places : Int} (hp : 1 ≤ places) : okT T A places t := by
  refine ⟨fun k hk => Int.le_trans (csum_le hT (c := 0) _ k hk rfl) ht, ?_⟩
  have := few_le (T := T) (A := A) (c := (t : Int)) hl hA (m := 1) (p := fun _ => 0) ⟨fun _ _ => Nat.one_pos, fun _ _ _ _ => Nat.le_refl _, fun j => by
    by_cases h : j = 0
    · subst h; refine Int.le_trans (Int.le_of_eq (csum_congr _ fun i _ => ?_)) ht; rfl
    · rw [csum_none _ fun i _ => ?_]
      · omega
      · simp; omega⟩
  omega
theorem csum_bd {T : List Int} (hT : ∀ k, T.getD k 0 ≤ 9) : ∀ n : Nat, csum T (fun _ => true) n ≤ 9 * (n : Int)
  | 0 => by simp [csum]
  | n + 1 => by have := csum_bd hT n; have := hT n; rw [csum, if_pos rfl]; push_cast; omega
theorem least_spec {T : List Int} {A : List Nat} (hl : A.length = T.length) (hn : T.length ≤ 6) (hA : ∀ i k, (A.getD i 0).testBit k = true → k < i) (hT : ∀ k, 0 ≤ T.getD k 0 ∧ T.getD k 0 ≤ 9) {places : Int} (hp : 1 ≤ places) :
    okT T A places (leastT T A places) ∧ 1 ≤ leastT T A places ∧ leastT T A places ≤ 54 ∧ ∀ x, 1 ≤ x → x < leastT T A places → ¬ okT T A places x :=
  upT_ok 60 1 54 (by omega) (by omega) (okT_top hl hA (fun k => (hT k).1) (by have := csum_bd (fun k => (hT k).2) T.length; show _ ≤ (54 : Int); omega) hp)
theorem least_total {T : List Int} {A : List Nat} (hl : A.length = T.length) (hA : ∀ i k, (A.getD i 0).testBit k = true → k < i) {c places : Int} (hc : 0 ≤ c) (h0 : 0 ≤ fewM T A c) (h : fewM T A c ≤ places) : csum T (fun _ => true) T.length ≤ c * places := by
  obtain ⟨p, hp⟩ := few_get hl hc hA h0
  have h1 := hp.total
  rw [show (((fewM T A c).toNat : Nat) : Int) = fewM T A c by omega] at h1
  have h2 := Int.mul_le_mul_of_nonneg_right h hc
  rw [Int.mul_comm c]; omega
end Go.Proofs.Ythmifadnfaajbad
namespace Go.Proofs.Ythmifadnfaajbad
open Go.RowKit

theorem ofInt_small (a : Nat) (ha : a < 1048576) : (BitVec.ofInt 64 (a : Int)).toNat = a := by
  rw [BitVec.ofInt_natCast, BitVec.toNat_ofNat]; exact Nat.mod_eq_of_lt (by omega)
theorem wrap_small (n : Nat) (h : n < 1048576) : IntKind.i64.wrap (n : Int) = (n : Int) := by
  simp [IntKind.wrap, IntKind.bits, IntKind.signed]; omega
theorem wr_bd (n : Int) : -9223372036854775808 ≤ IntKind.i64.wrap n ∧ IntKind.i64.wrap n ≤ 9223372036854775807 := by
  simp [IntKind.wrap, IntKind.bits, IntKind.signed]; omega
theorem wr_id {n : Int} (h : -9223372036854775808 ≤ n) (h' : n ≤ 9223372036854775807) : IntKind.i64.wrap n = n := by
  simp [IntKind.wrap, IntKind.bits, IntKind.signed]; omega
theorem w64_bd (n : Int) : -9223372036854775808 ≤ wrap64 n ∧ wrap64 n ≤ 9223372036854775807 := by unfold wrap64; omega
theorem w64_id {n : Int} (h : -9223372036854775808 ≤ n) (h' : n ≤ 9223372036854775807) : wrap64 n = n := by unfold wrap64; omega
theorem i_and (a b : Nat) (ha : a < 1048576) (hb : b < 1048576) : bits .and .i64 (a : Int) (b : Int) = ((a &&& b : Nat) : Int) := by
  have hx : a &&& b < 2 ^ 20 := Nat.and_lt_two_pow _ (by omega)
  show IntKind.i64.wrap ((BitVec.ofInt 64 (a : Int) &&& BitVec.ofInt 64 (b : Int)).toNat : Int) = _
  rw [BitVec.toNat_and, ofInt_small a ha, ofInt_small b hb, wrap_small _ (by omega)]
theorem i_or (a b : Nat) (ha : a < 1048576) (hb : b < 1048576) : bits .or .i64 (a : Int) (b : Int) = ((a ||| b : Nat) : Int) := by
  have hx : a ||| b < 2 ^ 20 := Nat.or_lt_two_pow (by omega) (by omega)
  show IntKind.i64.wrap ((BitVec.ofInt 64 (a : Int) ||| BitVec.ofInt 64 (b : Int)).toNat : Int) = _
  rw [BitVec.toNat_or, ofInt_small a ha, ofInt_small b hb, wrap_small _ (by omega)]
theorem dif_le (a b : Nat) : dif a b ≤ a := by
  have e : dif a b = a &&& dif a b := by
    apply Nat.eq_of_testBit_eq; intro i
    rw [Nat.testBit_and, dif_bit]; cases a.testBit i <;> cases b.testBit i <;> rfl
  rw [e]; exact Nat.and_le_left
theorem i_not (a b : Nat) (ha : a < 1048576) (hb : b < 1048576) : bits .andNot .i64 (a : Int) (b : Int) = ((dif a b : Nat) : Int) := by
  have e : a &&& (2 ^ 64 - 1 - b) = dif a b := by
    apply Nat.eq_of_testBit_eq; intro i
    rw [show 2 ^ 64 - 1 - b = 2 ^ 64 - (b + 1) by omega, Nat.testBit_and, Nat.testBit_two_pow_sub_succ (by omega), dif_bit]
    by_cases h : i < 64
    · simp [h]
    · rw [Nat.testBit_lt_two_pow (x := a) (Nat.lt_of_lt_of_le (show a < 2 ^ 64 by omega) (Nat.pow_le_pow_right (by omega) (by omega)))]; rfl
  show IntKind.i64.wrap ((BitVec.ofInt 64 (a : Int) &&& ~~~BitVec.ofInt 64 (b : Int)).toNat : Int) = _
  rw [BitVec.toNat_and, BitVec.toNat_not, ofInt_small a ha, ofInt_small b hb, e, wrap_small _ (by have := dif_le a b; omega)]
end Go.Proofs.Ythmifadnfaajbad
namespace Go.Proofs.Ythmifadnfaajbad
open Go.RowKit Go.WideShapes

theorem p2_bd {n : Nat} (h : n ≤ 20) : 1 ≤ 2 ^ n ∧ 2 ^ n ≤ 1048576 := ⟨Nat.pow_pos (by omega), Nat.pow_le_pow_right (n := 2) (by omega) h⟩
/-- 2 to n, as far as it goes. -/
def powV : Nat → Int
  | 0 => 1
  | n + 1 => wrap64 (2 * powV n)
theorem powV_bd : ∀ n, -9223372036854775808 ≤ powV n ∧ powV n ≤ 9223372036854775807
  | 0 => by decide
  | n + 1 => w64_bd _
theorem powV_eq : ∀ n, n ≤ 20 → powV n = ((2 ^ n : Nat) : Int)
  | 0, _ => rfl
  | n + 1, h => by
    have hb := p2_bd (n := n) (by omega)
    rw [powV, powV_eq n (by omega), w64_id (by omega) (by omega), Nat.pow_succ]; push_cast; omega
/-- Tasks. -/
def powIn (ys : List Int) (n : Nat) : Prop := ∀ i, i < n → 0 ≤ ys.getD i 0 ∧ ys.getD i 0 ≤ ((2 ^ i : Nat) : Int) - 1
def tasksP (T ys : List Int) : Prop := (allIn 1 9 T = true ∧ powIn ys ys.length) ∧ ys.length = T.length ∧ T.length ≤ 6
instance (ys : List Int) (n : Nat) : Decidable (powIn ys n) := by unfold powIn; infer_instance
instance (T ys : List Int) : Decidable (tasksP T ys) := by unfold tasksP; infer_instance
def tasksM (T ys : List Int) : Bool := decide (tasksP T ys)
theorem tasksM_yes {T ys : List Int} (h : tasksP T ys) : tasksM T ys = true := by unfold tasksM; exact decide_eq_true h
theorem tasksM_no {T ys : List Int} (h : ¬ tasksP T ys) : tasksM T ys = false := by unfold tasksM; exact decide_eq_false h
theorem tasksM_get {T ys : List Int} (h : tasksM T ys = true) : tasksP T ys := by unfold tasksM at h; exact of_decide_eq_true h
end Go.Proofs.Ythmifadnfaajbad
namespace Go.Proofs.Ythmifadnfaajbad
open Go.RowKit Go.WideShapes

def bI (x j : Nat) : Int := if x.testBit j then 1 else 0
theorem bI_bd (x j : Nat) : 0 ≤ bI x j ∧ bI x j ≤ 1 := by unfold bI; split <;> omega
theorem csum_range {T : List Int} (hT : ∀ k, 0 ≤ T.getD k 0 ∧ T.getD k 0 ≤ 9) (P : Nat → Bool) : ∀ n : Nat, 0 ≤ csum T P n ∧ csum T P n ≤ 9 * (n : Int)
  | 0 => by simp [csum]
  | n + 1 => by have := csum_range hT P n; have := hT n; rw [csum]; push_cast; split <;> omega
def natsOf (ys : List Int) : List Nat := ys.map Int.toNat
theorem natsOf_len (ys : List Int) : (natsOf ys).length = ys.length := by simp [natsOf]
theorem natsOf_get {ys : List Int} {n : Nat} (h : powIn ys n) {i : Nat} (hi : i < n) : (((natsOf ys).getD i 0 : Nat) : Int) = ys.getD i 0 := by
  have := h i hi
  simp only [natsOf, List.getD_eq_getElem?_getD, List.getElem?_map] at this ⊢
  cases hq : ys[i]? with
  | none => simp
  | some z => rw [hq] at this; simp at this ⊢; omega
theorem natsOf_lt {ys : List Int} (h : powIn ys ys.length) (i : Nat) : (natsOf ys).getD i 0 < 2 ^ i := by
  have := Nat.two_pow_pos i
  by_cases hi : i < ys.length
  · have h1 := natsOf_get h hi; have h2 := h i hi; omega
  · simp only [List.getD_eq_getElem?_getD]; rw [List.getElem?_eq_none (by rw [natsOf_len]; omega)]; simpa using this
theorem natsOf_small {ys : List Int} (h : powIn ys ys.length) {i : Nat} (hi : i ≤ 6) : (natsOf ys).getD i 0 ≤ 64 := by
  have := natsOf_lt h i; have := Nat.pow_le_pow_right (n := 2) (by omega) hi; omega
theorem natsOf_hA {ys : List Int} (h : powIn ys ys.length) : ∀ i k, ((natsOf ys).getD i 0).testBit k = true → k < i := by
  intro i k hk
  rcases Nat.lt_or_ge k i with h1 | h1
  · exact h1
  · rw [Nat.testBit_lt_two_pow (Nat.lt_of_lt_of_le (natsOf_lt h i) (Nat.pow_le_pow_right (by omega) h1))] at hk; cases hk
theorem tasks_at {T : List Int} (h : allIn 1 9 T = true) : (∀ k, 0 ≤ T.getD k 0 ∧ T.getD k 0 ≤ 9) ∧ ∀ k, k < T.length → 1 ≤ T.getD k 0 := by
  have key : ∀ k, k < T.length → 1 ≤ T.getD k 0 ∧ T.getD k 0 ≤ 9 := by
    intro k hk
    unfold allIn at h
    rw [List.all_eq_true] at h
    have := h (T.getD k 0) (by rw [List.getD_eq_getElem?_getD, List.getElem?_eq_getElem hk]; simp)
    simpa [inB] using this
  refine ⟨fun k => ?_, fun k hk => (key k hk).1⟩
  by_cases hk : k < T.length
  · have := key k hk; omega
  · rw [List.getD_eq_getElem?_getD, List.getElem?_eq_none (by omega)]; simp
end Go.Proofs.Ythmifadnfaajbad
namespace Go.Proofs.Ythmifadnfaajbad
open Go.RowKit Go.WideShapes

theorem cloM_false {A : List Nat} {s k : Nat} (h : cloM A s (k + 1) = false) : ∀ n, k < n → cloM A s n = false
  | n + 1, hn => by
    rcases Nat.lt_or_eq_of_le (Nat.le_of_lt_succ hn) with h1 | rfl
    · rw [cloM, cloM_false h n h1]; rfl
    · exact h
end Go.Proofs.Ythmifadnfaajbad
