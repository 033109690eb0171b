import Derived.Test.YtjcbpnffmebihaaGreatDoorA10
import Derived.Test.YtjcbpnffmebihaaGreatDoorRows
import Derived.WalkKit
import Derived.Laws.Entries
import Derived.LoopTactic
import Derived.Outline
import Derived.WalkSpells
import Derived.WalkLawsBesides
import Derived.ProofKit
set_option linter.unusedVariables false
set_option linter.unusedSimpArgs false
namespace Go.Proofs.YtjcbpnffmebihaaGreatDoor

/-- The places filled one after the other. -/
structure GS where
  D : Nat
  place : Nat
  left : Int
  out : List Int
def pickM (T : List Int) (A : List Nat) (W : List Int) (D : Nat) (left : Int) : Nat → Int
  | 0 => -1
  | k + 1 => if D.testBit k = false ∧ dif (A.getD k 0) D = 0 ∧ T.getD k 0 ≤ left ∧ (pickM T A W D left k < 0 ∨ W.getD (pickM T A W D left k).toNat 0 < W.getD k 0) then (k : Int) else pickM T A W D left k
theorem pickM_get {T : List Int} {A : List Nat} {W : List Int} {D : Nat} {left : Int} : ∀ n, 0 ≤ pickM T A W D left n → ∃ q, q < n ∧ pickM T A W D left n = (q : Int) ∧ D.testBit q = false ∧ dif (A.getD q 0) D = 0 ∧ T.getD q 0 ≤ left
  | 0, h => by simp [pickM] at h
  | n + 1, h => by
    rw [pickM] at h ⊢
    split at h
    · rename_i h2; rw [if_pos h2]; exact ⟨n, by omega, rfl, h2.1, h2.2.1, h2.2.2.1⟩
    · rename_i h2; rw [if_neg h2]; obtain ⟨q, hq, he, hr⟩ := pickM_get n h; exact ⟨q, by omega, he, hr⟩
theorem pickM_none {T : List Int} {A : List Nat} {W : List Int} {D : Nat} {left : Int} : ∀ n, pickM T A W D left n < 0 → ∀ q, q < n → ¬ (D.testBit q = false ∧ dif (A.getD q 0) D = 0 ∧ T.getD q 0 ≤ left)
  | n + 1, h, q, hq => by
    rw [pickM] at h
    split at h
    · omega
    · rename_i h2
      rcases Nat.lt_or_eq_of_le (Nat.le_of_lt_succ hq) with h3 | rfl
      · exact pickM_none n h q h3
      · exact fun h4 => h2 ⟨h4.1, h4.2.1, h4.2.2, .inl h⟩
def stepG (T : List Int) (A : List Nat) (W : List Int) (c : Int) (s : GS) : GS :=
  if pickM T A W s.D s.left T.length < 0 then ⟨s.D, s.place + 1, c, s.out⟩
  else ⟨s.D + 2 ^ (pickM T A W s.D s.left T.length).toNat, s.place, s.left - T.getD (pickM T A W s.D s.left T.length).toNat 0, s.out.set (pickM T A W s.D s.left T.length).toNat s.place⟩
def undone (D : Nat) : Nat → Nat
  | 0 => 0
  | k + 1 => undone D k + (if D.testBit k then 0 else 1)
def measG (T : List Int) (c : Int) (s : GS) : Nat := 2 * undone s.D T.length + (if s.left < c then 1 else 0)
theorem undone_congr {D E : Nat} : ∀ n, (∀ i, i < n → D.testBit i = E.testBit i) → undone D n = undone E n
  | 0, _ => rfl
  | n + 1, h => by rw [undone, undone, undone_congr n (fun i hi => h i (by omega)), h n (by omega)]
theorem add_bit {D q : Nat} (h : D.testBit q = false) (i : Nat) : (D + 2 ^ q).testBit i = (D.testBit i || decide (i = q)) := by
  obtain ⟨a, b, hb, rfl⟩ : ∃ a b, b < 2 ^ q ∧ D = 2 ^ q * (2 * a) + b := by
    rw [Nat.testBit_eq_decide_div_mod_eq, decide_eq_false_iff_not] at h
    refine ⟨D / 2 ^ q / 2, D % 2 ^ q, Nat.mod_lt _ (Nat.two_pow_pos q), ?_⟩
    have h1 := Nat.div_add_mod D (2 ^ q)
    rw [show 2 * (D / 2 ^ q / 2) = D / 2 ^ q by omega]
    omega
  rw [show 2 ^ q * (2 * a) + b + 2 ^ q = 2 ^ q * (2 * a + 1) + b by rw [Nat.mul_add]; omega, Nat.testBit_two_pow_mul_add _ hb, Nat.testBit_two_pow_mul_add _ hb]
  by_cases h1 : i < q
  · rw [if_pos h1, if_pos h1, show decide (i = q) = false by simp; omega, Bool.or_false]
  · rw [if_neg h1, if_neg h1]
    by_cases h2 : i = q
    · subst h2; simp
    · obtain ⟨d, hd⟩ : ∃ d, i - q = d + 1 := ⟨i - q - 1, by omega⟩
      rw [hd, Nat.testBit_add_one, Nat.testBit_add_one, show (2 * a + 1) / 2 = a by omega, show 2 * a / 2 = a by omega, show decide (i = q) = false by simp; omega, Bool.or_false]
theorem undone_add {D q : Nat} (h : D.testBit q = false) : ∀ n, q < n → undone (D + 2 ^ q) n + 1 = undone D n
  | n + 1, hq => by
    rw [undone, undone, add_bit h]
    rcases Nat.lt_or_eq_of_le (Nat.le_of_lt_succ hq) with h3 | rfl
    · have := undone_add h n h3
      rw [show decide (n = q) = false by simp; omega, Bool.or_false]
      omega
    · rw [undone_congr (D := D + 2 ^ q) (E := D) q (fun i hi => by rw [add_bit h, show decide (i = q) = false by simp; omega, Bool.or_false])]
      simp [h]
theorem undone_zero {D : Nat} : ∀ n, undone D n = 0 → ∀ i, i < n → D.testBit i = true
  | n + 1, h, i, hi => by
    rw [undone] at h
    rcases Nat.lt_or_eq_of_le (Nat.le_of_lt_succ hi) with h3 | rfl
    · exact undone_zero n (by omega) i h3
    · cases hd : D.testBit i
      · rw [hd] at h; simp at h
      · rfl
/-- A first task that is not done has all ahead of it done. -/
theorem first_undone {A : List Nat} (hA : ∀ i k, (A.getD i 0).testBit k = true → k < i) {D : Nat} : ∀ n, undone D n ≠ 0 → ∃ q, q < n ∧ D.testBit q = false ∧ dif (A.getD q 0) D = 0
  | 0, h => absurd rfl h
  | n + 1, h => by
    by_cases h0 : undone D n = 0
    · refine ⟨n, by omega, ?_, dif_zero.mpr fun k hk => undone_zero n h0 k (hA n k hk)⟩
      rw [undone, h0] at h
      cases hd : D.testBit n
      · rfl
      · rw [hd] at h; simp at h
    · obtain ⟨q, hq, hr⟩ := first_undone hA n h0
      exact ⟨q, by omega, hr⟩

/-- What holds as the places are filled. -/
structure IG (T : List Int) (A : List Nat) (c : Int) (s : GS) : Prop where
  lt : s.D < 2 ^ T.length
  len : s.out.length = T.length
  low : ∀ i, i < T.length → s.D.testBit i = true → 0 ≤ s.out.getD i 0 ∧ s.out.getD i 0 ≤ s.place
  clo : ∀ i, i < T.length → s.D.testBit i = true → ∀ k, (A.getD i 0).testBit k = true → s.D.testBit k = true ∧ s.out.getD k 0 ≤ s.out.getD i 0
  now : csum T (fun i => s.D.testBit i && s.out.getD i 0 == (s.place : Int)) T.length + s.left = c
  old : ∀ j : Nat, j < s.place → csum T (fun i => s.D.testBit i && s.out.getD i 0 == (j : Int)) T.length ≤ c
  use : ∀ j : Nat, j < s.place → ∃ i, i < T.length ∧ s.D.testBit i = true ∧ s.out.getD i 0 = (j : Int)
  cur : s.left < c → ∃ i, i < T.length ∧ s.D.testBit i = true ∧ s.out.getD i 0 = (s.place : Int)
  top : s.left ≤ c
  pos : 0 ≤ s.left
  fin : s.left = c → s.D < 2 ^ T.length - 1 ∨ T.length = 0
theorem full_of_undone {D n : Nat} (h : D < 2 ^ n) (h0 : undone D n = 0) : D = 2 ^ n - 1 := by
  apply Nat.eq_of_testBit_eq; intro i
  rw [full_bit]
  by_cases hi : i < n
  · rw [undone_zero n h0 i hi]; simp [hi]
  · rw [Nat.testBit_lt_two_pow (Nat.lt_of_lt_of_le h (Nat.pow_le_pow_right (by omega) (by omega)))]; simp [hi]
theorem add_lt {D q n : Nat} (h : D < 2 ^ n) (hq : q < n) (hb : D.testBit q = false) : D + 2 ^ q < 2 ^ n := by
  apply Nat.lt_pow_two_of_testBit
  intro i hi
  rw [add_bit hb, Nat.testBit_lt_two_pow (Nat.lt_of_lt_of_le h (Nat.pow_le_pow_right (by omega) hi))]
  simp; omega
theorem getD_set_ne {l : List Int} {q i : Nat} {v : Int} (h : i ≠ q) : (l.set q v).getD i 0 = l.getD i 0 := by
  simp only [List.getD_eq_getElem?_getD]; rw [List.getElem?_set_ne (Ne.symm h)]
theorem getD_set_eq {l : List Int} {q : Nat} {v : Int} (h : q < l.length) : (l.set q v).getD q 0 = v := by
  simp only [List.getD_eq_getElem?_getD]; rw [List.getElem?_set_self h]; rfl
theorem csum_put {T : List Int} {D q : Nat} (hq : D.testBit q = false) {out : List Int} (hol : out.length = T.length) {v j : Int} : ∀ n, n ≤ T.length → csum T (fun i => (D + 2 ^ q).testBit i && (out.set q v).getD i 0 == j) n = csum T (fun i => D.testBit i && out.getD i 0 == j) n + (if q < n ∧ v = j then T.getD q 0 else 0)
  | 0, _ => by simp [csum]
  | n + 1, h => by
    rw [csum, csum, csum_put hq hol n (by omega), add_bit hq]
    by_cases hn : n = q
    · subst hn
      rw [getD_set_eq (by omega), hq]
      by_cases hv : v = j
      · subst hv; simp
      · simp [hv]
    · rw [getD_set_ne hn, show decide (n = q) = false by simp [hn], Bool.or_false]
      by_cases h1 : q < n ∧ v = j
      · rw [if_pos h1, if_pos (⟨by omega, h1.2⟩ : q < n + 1 ∧ v = j)]; omega
      · rw [if_neg h1, if_neg (show ¬ (q < n + 1 ∧ v = j) from fun h2 => h1 ⟨by omega, h2.2⟩)]; omega
theorem IG.step {T : List Int} {A : List Nat} {W : List Int} {c : Int} (hl : A.length = T.length) (hA : ∀ i k, (A.getD i 0).testBit k = true → k < i) (hT : ∀ k, k < T.length → 1 ≤ T.getD k 0 ∧ T.getD k 0 ≤ c)
    (hc : 0 ≤ c) {s : GS} (g : IG T A c s) (hD : s.D < 2 ^ T.length - 1) : IG T A c (stepG T A W c s) ∧ measG T c (stepG T A W c s) < measG T c s := by
  unfold stepG
  have hund : undone s.D T.length ≠ 0 := fun h => by have := full_of_undone g.lt h; omega
  split
  case isTrue hp =>
    have hlc : s.left < c := by
      obtain ⟨q, hq, h1, h2⟩ := first_undone hA T.length hund
      have h3 := pickM_none _ hp q hq
      have h4 := (hT q hq).2
      by_cases h5 : T.getD q 0 ≤ s.left
      · exact absurd ⟨h1, h2, h5⟩ h3
      · omega
    have hno : ∀ j : Int, (s.place : Int) < j → csum T (fun i => s.D.testBit i && s.out.getD i 0 == j) T.length = 0 := by
      intro j hj
      apply csum_none
      intro i hi
      cases hd : s.D.testBit i
      · rfl
      · have := g.low i hi hd
        simp only [Bool.true_and, beq_eq_false_iff_ne, ne_eq]; omega
    refine ⟨⟨g.lt, g.len, fun i hi hd => ?_, g.clo, ?_, fun j hj => ?_, fun j hj => ?_, fun h => absurd h (Int.lt_irrefl _), Int.le_refl _, hc, fun _ => .inl hD⟩, ?_⟩
    · have := g.low i hi hd; exact ⟨this.1, by show s.out.getD i 0 ≤ ((s.place + 1 : Nat) : Int); push_cast; omega⟩
    · show csum T (fun i => s.D.testBit i && s.out.getD i 0 == ((s.place + 1 : Nat) : Int)) T.length + c = c
      rw [hno _ (by push_cast; omega)]; omega
    · rcases Nat.lt_or_eq_of_le (Nat.le_of_lt_succ hj) with h | rfl
      · exact g.old j h
      · have := g.now
        have hn := g.pos
        show csum T (fun i => s.D.testBit i && s.out.getD i 0 == (s.place : Int)) T.length ≤ c
        omega
    · rcases Nat.lt_or_eq_of_le (Nat.le_of_lt_succ hj) with h | rfl
      · exact g.use j h
      · exact g.cur hlc
    · unfold measG
      rw [if_pos hlc]
      show 2 * undone s.D T.length + (if c < c then 1 else 0) < _
      rw [if_neg (Int.lt_irrefl _)]; omega
  case isFalse hp =>
    obtain ⟨q, hq, he, hb, hd, hle⟩ := pickM_get (T := T) (A := A) (W := W) (D := s.D) (left := s.left) T.length (by omega)
    rw [he, show ((q : Int)).toNat = q by omega]
    have hol := g.len
    have hT1 := hT q hq
    have hput := fun j : Int => csum_put hb hol (v := (s.place : Int)) (j := j) T.length (Nat.le_refl _)
    have hnb : ∀ i, i ≠ q → (s.D + 2 ^ q).testBit i = s.D.testBit i := fun i hi => by rw [add_bit hb, show decide (i = q) = false by simp [hi], Bool.or_false]
    have hqb : (s.D + 2 ^ q).testBit q = true := by rw [add_bit hb]; simp
    refine ⟨⟨add_lt g.lt hq hb, by show (s.out.set q _).length = _; rw [List.length_set]; exact hol, fun i hi hdi => ?_, fun i hi hdi k hk => ?_, ?_, fun j hj => ?_, fun j hj => ?_, fun _ => ?_, ?_, ?_, fun h => ?_⟩, ?_⟩
    · show 0 ≤ (s.out.set q _).getD i 0 ∧ (s.out.set q _).getD i 0 ≤ (s.place : Int)
      by_cases h : i = q
      · subst h; rw [getD_set_eq (by omega)]; omega
      · rw [getD_set_ne h]; exact g.low i hi (by rw [← hnb i h]; exact hdi)
    · have hkd : s.D.testBit k = true := by
        by_cases h : i = q
        · subst h; exact dif_zero.mp hd k hk
        · exact (g.clo i hi (by rw [← hnb i h]; exact hdi) k hk).1
      have hkq : k ≠ q := fun h => by subst h; rw [hb] at hkd; cases hkd
      refine ⟨by show (s.D + 2 ^ q).testBit k = true; rw [hnb k hkq]; exact hkd, ?_⟩
      show (s.out.set q _).getD k 0 ≤ (s.out.set q _).getD i 0
      rw [getD_set_ne hkq]
      by_cases h : i = q
      · subst h; rw [getD_set_eq (by omega)]; exact (g.low k (by have := hA i k hk; omega) hkd).2
      · rw [getD_set_ne h]; exact (g.clo i hi (by rw [← hnb i h]; exact hdi) k hk).2
    · have := g.now
      show csum T (fun i => (s.D + 2 ^ q).testBit i && (s.out.set q (s.place : Int)).getD i 0 == (s.place : Int)) T.length + (s.left - T.getD q 0) = c
      rw [hput, if_pos ⟨hq, rfl⟩]; omega
    · show csum T (fun i => (s.D + 2 ^ q).testBit i && (s.out.set q (s.place : Int)).getD i 0 == (j : Int)) T.length ≤ c
      have hj' : j < s.place := hj
      rw [hput, if_neg (by omega)]; have := g.old j hj'; omega
    · obtain ⟨i, hi, h1, h2⟩ := g.use j hj
      have hiq : i ≠ q := fun h => by subst h; rw [hb] at h1; cases h1
      exact ⟨i, hi, by show (s.D + 2 ^ q).testBit i = true; rw [hnb i hiq]; exact h1, by show (s.out.set q _).getD i 0 = _; rw [getD_set_ne hiq]; exact h2⟩
    · exact ⟨q, hq, hqb, by show (s.out.set q _).getD q 0 = _; rw [getD_set_eq (by omega)]⟩
    · have := g.top; show s.left - T.getD q 0 ≤ c; omega
    · show 0 ≤ s.left - T.getD q 0; omega
    · have := g.top; have h' : s.left - T.getD q 0 = c := h; omega
    · unfold measG
      have := undone_add hb T.length hq
      show 2 * undone (s.D + 2 ^ q) T.length + _ < 2 * undone s.D T.length + _
      split <;> split <;> omega
end Go.Proofs.YtjcbpnffmebihaaGreatDoor
namespace Go.Proofs.YtjcbpnffmebihaaGreatDoor
open Go.RowKit

theorem ofInt_small (a : Nat) (ha : a < 1048576) : (BitVec.ofInt 64 (a : Int)).toNat = a := by
  rw [BitVec.ofInt_natCast, BitVec.toNat_ofNat]; exact Nat.mod_eq_of_lt (by omega)
theorem wrap_small (n : Nat) (h : n < 1048576) : IntKind.i64.wrap (n : Int) = (n : Int) := by
  simp [IntKind.wrap, IntKind.bits, IntKind.signed]; omega
theorem w64_bd (n : Int) : -9223372036854775808 ≤ wrap64 n ∧ wrap64 n ≤ 9223372036854775807 := by unfold wrap64; omega
theorem w64_id {n : Int} (h : -9223372036854775808 ≤ n) (h' : n ≤ 9223372036854775807) : wrap64 n = n := by unfold wrap64; omega
theorem i_and (a b : Nat) (ha : a < 1048576) (hb : b < 1048576) : bits .and .i64 (a : Int) (b : Int) = ((a &&& b : Nat) : Int) := by
  have hx : a &&& b < 2 ^ 20 := Nat.and_lt_two_pow _ (by omega)
  show IntKind.i64.wrap ((BitVec.ofInt 64 (a : Int) &&& BitVec.ofInt 64 (b : Int)).toNat : Int) = _
  rw [BitVec.toNat_and, ofInt_small a ha, ofInt_small b hb, wrap_small _ (by omega)]
theorem i_or (a b : Nat) (ha : a < 1048576) (hb : b < 1048576) : bits .or .i64 (a : Int) (b : Int) = ((a ||| b : Nat) : Int) := by
  have hx : a ||| b < 2 ^ 20 := Nat.or_lt_two_pow (by omega) (by omega)
  show IntKind.i64.wrap ((BitVec.ofInt 64 (a : Int) ||| BitVec.ofInt 64 (b : Int)).toNat : Int) = _
  rw [BitVec.toNat_or, ofInt_small a ha, ofInt_small b hb, wrap_small _ (by omega)]
theorem dif_le (a b : Nat) : dif a b ≤ a := by
  have e : dif a b = a &&& dif a b := by
    apply Nat.eq_of_testBit_eq; intro i
    rw [Nat.testBit_and, dif_bit]; cases a.testBit i <;> cases b.testBit i <;> rfl
  rw [e]; exact Nat.and_le_left
theorem i_not (a b : Nat) (ha : a < 1048576) (hb : b < 1048576) : bits .andNot .i64 (a : Int) (b : Int) = ((dif a b : Nat) : Int) := by
  have e : a &&& (2 ^ 64 - 1 - b) = dif a b := by
    apply Nat.eq_of_testBit_eq; intro i
    rw [show 2 ^ 64 - 1 - b = 2 ^ 64 - (b + 1) by omega, Nat.testBit_and, Nat.testBit_two_pow_sub_succ (by omega), dif_bit]
    by_cases h : i < 64
    · simp [h]
    · rw [Nat.testBit_lt_two_pow (x := a) (Nat.lt_of_lt_of_le (show a < 2 ^ 64 by omega) (Nat.pow_le_pow_right (by omega) (by omega)))]; rfl
  show IntKind.i64.wrap ((BitVec.ofInt 64 (a : Int) &&& ~~~BitVec.ofInt 64 (b : Int)).toNat : Int) = _
  rw [BitVec.toNat_and, BitVec.toNat_not, ofInt_small a ha, ofInt_small b hb, e, wrap_small _ (by have := dif_le a b; omega)]
end Go.Proofs.YtjcbpnffmebihaaGreatDoor
namespace Go.Proofs.YtjcbpnffmebihaaGreatDoor

-- chapter 11, plain: cuts on rolls; first fit, and first fit by falling lengths
def wsum (f : Nat → Int) (P : Nat → Bool) : Nat → Int
  | 0 => 0
  | k + 1 => wsum f P k + if P k then f k else 0
def card (P : Nat → Bool) : Nat → Nat
  | 0 => 0
  | k + 1 => card P k + if P k then 1 else 0
def bsumN (f : Nat → Nat) : Nat → Nat
  | 0 => 0
  | k + 1 => bsumN f k + f k
theorem csum_w (T : List Int) (P : Nat → Bool) : ∀ n, csum T P n = wsum (fun i => T.getD i 0) P n
  | 0 => rfl
  | n + 1 => by rw [csum, wsum, csum_w T P n]
theorem wsum_congr {f g : Nat → Int} {P Q : Nat → Bool} : ∀ n, (∀ i, i < n → P i = Q i) → (∀ i, i < n → P i = true → f i = g i) → wsum f P n = wsum g Q n
  | 0, _, _ => rfl
  | n + 1, h, h2 => by
    rw [wsum, wsum, wsum_congr n (fun i hi => h i (by omega)) (fun i hi => h2 i (by omega)), ← h n (by omega)]
    cases e : P n
    · rfl
    · rw [h2 n (by omega) e]
theorem wsum_none {f : Nat → Int} {P : Nat → Bool} : ∀ n, (∀ i, i < n → P i = false) → wsum f P n = 0
  | 0, _ => rfl
  | n + 1, h => by rw [wsum, wsum_none n (fun i hi => h i (by omega)), h n (by omega)]; rfl
theorem wsum_mono {f : Nat → Int} {P Q : Nat → Bool} : ∀ n, (∀ i, i < n → 0 ≤ f i) → (∀ i, i < n → P i = true → Q i = true) → wsum f P n ≤ wsum f Q n
  | 0, _, _ => Int.le_refl _
  | n + 1, h0, h => by
    have ih := wsum_mono n (fun i hi => h0 i (by omega)) (fun i hi => h i (by omega))
    have h1 := h0 n (by omega)
    have h2 := h n (by omega)
    rw [wsum, wsum]
    cases e : P n
    · cases Q n <;> simp <;> omega
    · rw [h2 e]; simp; omega
theorem wsum_nn {f : Nat → Int} {P : Nat → Bool} (n : Nat) (h : ∀ i, i < n → 0 ≤ f i) : 0 ≤ wsum f P n := by
  have := wsum_mono (P := fun _ => false) (Q := P) n h (fun i _ e => by cases e)
  rwa [wsum_none n (fun _ _ => rfl)] at this
theorem wsum_only {f : Nat → Int} {P : Nat → Bool} {a : Nat} : ∀ n, a < n → P a = true → (∀ i, i < n → P i = true → i = a) → wsum f P n = f a
  | 0, h, _, _ => by omega
  | n + 1, h, ha, hu => by
    rw [wsum]
    by_cases e : a = n
    · subst e
      rw [wsum_none a (fun i hi => by
        cases e : P i
        · rfl
        · have := hu i (by omega) e; omega), ha]
      simp
    · rw [wsum_only n (by omega) ha (fun i hi => hu i (by omega))]
      cases e2 : P n
      · simp
      · have := hu n (by omega) e2; omega
theorem wsum_split {f : Nat → Int} {P : Nat → Bool} {q : Nat → Nat} (m : Nat) : ∀ n, wsum f (fun i => P i && decide (q i < m + 1)) n = wsum f (fun i => P i && decide (q i < m)) n + wsum f (fun i => P i && q i == m) n
  | 0 => rfl
  | n + 1 => by
    rw [wsum, wsum, wsum, wsum_split m n]
    cases P n
    · simp
    · by_cases h1 : q n < m
      · rw [show decide (q n < m + 1) = true by simp; omega, show decide (q n < m) = true by simp [h1], show (q n == m) = false by simp; omega]; simp; omega
      · by_cases h2 : q n = m
        · rw [show decide (q n < m + 1) = true by simp; omega, show decide (q n < m) = false by simp; omega, show (q n == m) = true by simp [h2]]; simp; omega
        · rw [show decide (q n < m + 1) = false by simp; omega, show decide (q n < m) = false by simp; omega, show (q n == m) = false by simp [h2]]; simp
theorem card_w (P : Nat → Bool) : ∀ n, (card P n : Int) = wsum (fun _ => 1) P n
  | 0 => rfl
  | n + 1 => by rw [card, wsum, ← card_w P n]; cases P n <;> simp
theorem card_split {P : Nat → Bool} {p : Nat → Nat} {n : Nat} : ∀ v : Nat, card (fun i => P i && decide (p i < v)) n = bsumN (fun b => card (fun i => P i && p i == b) n) v
  | 0 => by
    have := card_w (fun i => P i && decide (p i < 0)) n
    rw [wsum_none n (fun i _ => by simp)] at this
    rw [bsumN]; omega
  | v + 1 => by
    have h := wsum_split (f := fun _ => 1) (P := P) (q := p) v n
    rw [← card_w, ← card_w, ← card_w] at h
    rw [bsumN, ← card_split v]; omega
theorem card_bins {P : Nat → Bool} {p : Nat → Nat} {n v : Nat} (hp : ∀ i, i < n → P i = true → p i < v) : card P n = bsumN (fun b => card (fun i => P i && p i == b) n) v := by
  rw [← card_split]
  have h := wsum_congr (f := fun _ => 1) (g := fun _ => 1) (P := P) (Q := fun i => P i && decide (p i < v)) n (fun i hi => by
    cases e : P i
    · rfl
    · simp [hp i hi e]) (fun _ _ _ => rfl)
  rw [← card_w, ← card_w] at h
  omega
end Go.Proofs.YtjcbpnffmebihaaGreatDoor
namespace Go.Proofs.YtjcbpnffmebihaaGreatDoor
open Go.RowKit Go.WideShapes

/-- two cells of a block, that may be written -/
def Two (w : World) (b : Nat) (x y : Value) : Prop := (w.cell? ⟨b, 0, none⟩ = some x ∧ w.frozen? ⟨b, 0, none⟩ = false) ∧ w.cell? ⟨b, 1, none⟩ = some y ∧ w.frozen? ⟨b, 1, none⟩ = false
theorem Two.block {w w' : World} {b : Nat} {x y : Value} (h : Two w b x y) (e : w'.heap[b]? = w.heap[b]?) : Two w' b x y :=
  ⟨⟨by rw [World.cell?_of_block (w := w) e]; exact h.1.1, by rw [World.frozen?_of_block (w := w) e]; exact h.1.2⟩, by rw [World.cell?_of_block (w := w) e]; exact h.2.1, by rw [World.frozen?_of_block (w := w) e]; exact h.2.2⟩
theorem Two.lt {w : World} {b : Nat} {x y : Value} (h : Two w b x y) : b < w.heap.size := World.block_lt_of_cell? w _ h.1.1
theorem Two.grown {w w' : World} {b : Nat} {x y : Value} {r : Option Nat} (h : Two w b x y) (hg : w.grownBy w' r) (hr : some b ≠ r) : Two w' b x y := h.block (hg.block b h.lt hr)
end Go.Proofs.YtjcbpnffmebihaaGreatDoor
