import Derived.Test.YtkjmpkincaainacM8
import Derived.Test.YtkjmpkincaainacRows
import Derived.WalkKit
import Derived.LoopTactic
import Derived.Outline
import Derived.WalkSpells
import Derived.WalkLawsBesides
import Derived.ProofKit
import Derived.Lib.Hide
import Derived.IntWalk
import Derived.Test.YtkjmpkincaainacM0
import Derived.Test.YtkjmpkincaainacM1
import Derived.Test.YtkjmpkincaainacM2
import Derived.Test.YtkjmpkincaainacM7
import Derived.Deep.QuietTactic
import Derived.BigQuiet
import Derived.Shelf.RegionOpenPlain
import Derived.Test.YtkjmpkincaainacM4
import Derived.Test.YtkjmpkincaainacM6
namespace Go.Proofs.Ytkjmpkincaainac
open Go.RowKit Go.WideShapes

def lineP (T ys : List Int) (c : Int) : Prop := (∀ k, k < T.length → T.getD k 0 ≤ c) ∧ tasksP T ys ∧ inB 1 60 c = true
instance (T ys : List Int) (c : Int) : Decidable (lineP T ys c) := by unfold lineP; infer_instance
def lineM (T ys : List Int) (c : Int) : Bool := decide (lineP T ys c)
theorem lineM_yes {T ys : List Int} {c : Int} (h : lineP T ys c) : lineM T ys c = true := decide_eq_true h
theorem lineM_no {T ys : List Int} {c : Int} (h : ¬ lineP T ys c) : lineM T ys c = false := decide_eq_false h
theorem lineM_get {T ys : List Int} {c : Int} (h : lineM T ys c = true) : lineP T ys c := of_decide_eq_true h
theorem lineP_c {T ys : List Int} {c : Int} (h : lineP T ys c) : 1 ≤ c ∧ c ≤ 60 := by simpa [inB] using h.2.2
def fewRes (T ys : List Int) (c : Int) : Int := if lineP T ys c then fewM T (natsOf ys) c else -1
end Go.Proofs.Ytkjmpkincaainac
namespace Go.Proofs.Ytkjmpkincaainac

/-- how many tasks a set has -/
def popM (s : Nat) : Int := 6 - (undone s 6 : Int)
theorem popM_bd (s : Nat) : 0 ≤ popM s ∧ popM s ≤ 6 := by unfold popM; have := undone_le s 6; omega
theorem top_of {s n : Nat} (h0 : s ≠ 0) (h : s < 2 ^ n) : ∃ q r, q < n ∧ s = r + 2 ^ q ∧ r < 2 ^ q := by
  have h1 := Nat.log2_self_le h0
  have h2 := Nat.lt_log2_self (n := s)
  rw [Nat.pow_succ] at h2
  exact ⟨s.log2, s - 2 ^ s.log2, (Nat.pow_lt_pow_iff_right (by omega)).1 (Nat.lt_of_le_of_lt h1 h), by omega, by omega⟩
theorem clo_zero (A : List Nat) (n : Nat) : cloM A 0 n = true := (cloM_iff n).mpr fun i _ h => by simp at h
theorem st_not {T : List Int} {A : List Nat} {c : Int} {s : Nat} (h : cloM A s A.length = false) : stP T A c s = -1 := by
  cases s with
  | zero => rw [clo_zero] at h; cases h
  | succ s => rw [stP_succ]; unfold nxtP; rw [h]; rfl
/-- a set that can stand needs no more places than it has tasks -/
theorem st_pop {T : List Int} {A : List Nat} {c : Int} (hA : ∀ i k, (A.getD i 0).testBit k = true → k < i) (hc : 0 ≤ c) (hT : ∀ k, k < T.length → T.getD k 0 ≤ c) :
    ∀ N s, s ≤ N → s < 2 ^ 6 → cloM A s A.length = true → 0 ≤ stP T A c s ∧ stP T A c s ≤ popM s
  | _, 0, _, _, _ => ⟨Int.le_refl _, (popM_bd 0).1⟩
  | N + 1, s + 1, hs, h6, hcl => by
    obtain ⟨q, r, hq, he, hr⟩ := top_of (show s + 1 ≠ 0 by omega) h6
    have hrq : r.testBit q = false := Nat.testBit_lt_two_pow hr
    have hb := add_bit hrq
    rw [← he] at hb
    have hrs : r < s + 1 := by have := Nat.two_pow_pos q; omega
    have hcr : cloM A r A.length = true := (cloM_iff _).mpr fun i hi hri k hk => by
      have h1 := (cloM_iff _).mp hcl i hi (by rw [hb, hri]; rfl) k hk
      have h2 := hA i k hk
      have h3 : i < q := by
        rcases Nat.lt_or_ge i q with h | h
        · exact h
        · rw [Nat.testBit_lt_two_pow (Nat.lt_of_lt_of_le hr (Nat.pow_le_pow_right (by omega) h))] at hri; cases hri
      rw [hb] at h1
      simp only [Bool.or_eq_true, decide_eq_true_eq] at h1
      rcases h1 with h1 | h1
      · exact h1
      · omega
    have ih := st_pop hA hc hT N r (by omega) (by omega) hcr
    have hsub : r &&& (s + 1) = r := sub_iff.mpr fun i hi => by rw [hb, hi]; rfl
    have hld : csum T (fun i => (dif (s + 1) r).testBit i) T.length ≤ c := by
      rw [csum_congr (Q := fun i => i == q) _ fun i _ => by
        rw [dif_bit, hb]
        by_cases h : i = q
        · subst h; simp [hrq]
        · cases r.testBit i <;> simp [h]]
      rw [csum_one]
      split
      · rename_i h; exact hT q h
      · exact hc
    have hsc := scanP_le (T := T) (c := c) (t := tabP T A c s) (s := s + 1) (s + 1) r hrs ((okR_tab (by omega)).mpr ⟨hsub, ih.1, hld⟩)
    rw [tabP_at (show r ≤ s by omega)] at hsc
    rw [stP_succ]
    unfold nxtP
    rw [if_pos hcl]
    have hp := undone_add hrq 6 hq
    rw [← he] at hp
    unfold popM at ih ⊢
    omega
/-- the fewest places of a set, as the program counts them -/
def fewC (T : List Int) (A : List Nat) (c : Int) (s : Nat) : Int := if cloM A s A.length = true then stP T A c s else 7
def okC (T : List Int) (c : Int) (s r : Nat) : Prop := dif r s = 0 ∧ csum T (fun i => (dif s r).testBit i) T.length ≤ c
instance (T : List Int) (c : Int) (s r : Nat) : Decidable (okC T c s r) := by unfold okC; infer_instance
def runC (T : List Int) (A : List Nat) (c : Int) (s : Nat) : Nat → Int
  | 0 => popM s
  | r + 1 => if okC T c s r then min (runC T A c s r) (fewC T A c r + 1) else runC T A c s r
theorem fewC_bd {T : List Int} {A : List Nat} {c : Int} (hA : ∀ i k, (A.getD i 0).testBit k = true → k < i) (hc : 0 ≤ c) (hT : ∀ k, k < T.length → T.getD k 0 ≤ c) {s : Nat} (h6 : s < 2 ^ 6) : 0 ≤ fewC T A c s ∧ fewC T A c s ≤ 7 := by
  unfold fewC
  split
  · rename_i h; have := st_pop hA hc hT s s (Nat.le_refl _) h6 h; have := popM_bd s; omega
  · omega
theorem runC_scan {T : List Int} {A : List Nat} {c : Int} (hA : ∀ i k, (A.getD i 0).testBit k = true → k < i) (hc : 0 ≤ c) (hT : ∀ k, k < T.length → T.getD k 0 ≤ c) {s : Nat} (h6 : s < 2 ^ 6) :
    ∀ R, R ≤ s + 1 → runC T A c (s + 1) R = if scanP T c (tabP T A c s) (s + 1) R < 0 then popM (s + 1) else min (popM (s + 1)) (scanP T c (tabP T A c s) (s + 1) R)
  | 0, _ => by simp [runC, scanP]
  | R + 1, hR => by
    have ih := runC_scan hA hc hT h6 R (by omega)
    have hp := popM_bd (s + 1)
    have hs : scanP T c (tabP T A c s) (s + 1) (R + 1) = if okR T c (tabP T A c s) (s + 1) R ∧ (scanP T c (tabP T A c s) (s + 1) R < 0 ∨ stP T A c R + 1 < scanP T c (tabP T A c s) (s + 1) R) then stP T A c R + 1 else scanP T c (tabP T A c s) (s + 1) R := by
      rw [scanP, tabP_at (show R ≤ s by omega)]
    rw [runC, ih]
    have ho := okR_tab (T := T) (A := A) (c := c) (m := s) (s := s + 1) (r := R) (by omega)
    have hsub : (R &&& (s + 1) = R) ↔ dif R (s + 1) = 0 := by rw [sub_iff, dif_zero]
    clear ih
    generalize scanP T c (tabP T A c s) (s + 1) R = sc at hs ⊢
    by_cases h1 : okC T c (s + 1) R
    · rw [if_pos h1]
      unfold fewC
      by_cases h2 : cloM A R A.length = true
      · have h3 := st_pop hA hc hT R R (Nat.le_refl _) (by omega) h2
        have h4 := ho.mpr ⟨hsub.mpr h1.1, h3.1, h1.2⟩
        rw [if_pos h2]
        by_cases h5 : sc < 0
        · rw [hs.trans (if_pos ⟨h4, .inl h5⟩), if_pos h5, if_neg (by omega)]
        · rw [if_neg h5]
          by_cases h6 : stP T A c R + 1 < sc
          · rw [hs.trans (if_pos ⟨h4, .inr h6⟩), if_neg (by omega)]; omega
          · rw [hs.trans (if_neg (fun h => h.2.elim h5 h6)), if_neg h5]; omega
      · rw [if_neg h2]
        have h3 := st_not (T := T) (c := c) (Bool.not_eq_true _ |>.mp h2)
        rw [hs.trans (if_neg (fun h => by have := (ho.mp h.1).2.1; omega))]
        split <;> omega
    · rw [if_neg h1, hs.trans (if_neg (fun h => h1 (by have := ho.mp h.1; exact ⟨hsub.mp this.1, this.2.2⟩)))]
theorem runC_all {T : List Int} {A : List Nat} {c : Int} (hA : ∀ i k, (A.getD i 0).testBit k = true → k < i) (hc : 0 ≤ c) (hT : ∀ k, k < T.length → T.getD k 0 ≤ c) {s : Nat} (h6 : s < 2 ^ 6) (hcl : cloM A s A.length = true) : runC T A c s s = fewC T A c s := by
  have hp := st_pop hA hc hT s s (Nat.le_refl _) h6 hcl
  unfold fewC
  rw [if_pos hcl]
  cases s with
  | zero => rw [runC]; show popM 0 = 0; simp [popM, undone]
  | succ s =>
    rw [runC_scan hA hc hT (by omega) _ (Nat.le_refl _)]
    rw [stP_succ] at hp ⊢
    unfold nxtP at hp ⊢
    rw [if_pos hcl] at hp ⊢
    rw [if_neg (by omega)]; omega
theorem runC_bd {T : List Int} {A : List Nat} {c : Int} (hA : ∀ i k, (A.getD i 0).testBit k = true → k < i) (hc : 0 ≤ c) (hT : ∀ k, k < T.length → T.getD k 0 ≤ c) {s : Nat} : ∀ R, R ≤ 2 ^ 6 → 0 ≤ runC T A c s R ∧ runC T A c s R ≤ 6
  | 0, _ => popM_bd s
  | R + 1, h => by
    have := runC_bd hA hc hT (s := s) R (by omega)
    have := fewC_bd hA hc hT (s := R) (by omega)
    rw [runC]; split <;> omega
theorem fewC_full {T : List Int} {A : List Nat} {c : Int} (hl : A.length = T.length) (hA : ∀ i k, (A.getD i 0).testBit k = true → k < i) : fewC T A c (2 ^ T.length - 1) = fewM T A c := by
  unfold fewC fewM
  rw [if_pos ((cloM_iff _).mpr fun i hi _ k hk => by rw [full_bit]; have := hA i k hk; simp; omega)]

/-- all that must be done ahead of a task, over others, too -/
def aU (A : List Nat) (t : List Nat) (k : Nat) : Nat → Nat
  | 0 => A.getD k 0
  | m + 1 => if (A.getD k 0).testBit m = true then aU A t k m ||| t.getD m 0 else aU A t k m
def allT (A : List Nat) : Nat → List Nat
  | 0 => []
  | k + 1 => allT A k ++ [aU A (allT A k) k k]
def allX (A : List Nat) (x : Nat) : Nat := (allT A (x + 1)).getD x 0
theorem allT_len (A : List Nat) : ∀ k, (allT A k).length = k
  | 0 => rfl
  | k + 1 => by rw [allT, List.length_append, allT_len A k]; rfl
theorem allT_get (A : List Nat) (s : Nat) : ∀ d, (allT A (s + 1 + d)).getD s 0 = allX A s
  | 0 => rfl
  | d + 1 => by
    have h := allT_len A (s + 1 + d)
    rw [show s + 1 + (d + 1) = (s + 1 + d) + 1 by omega, allT, ← allT_get A s d]
    simp only [List.getD_eq_getElem?_getD]
    rw [List.getElem?_append_left (by omega)]
theorem allT_at {A : List Nat} {s m : Nat} (h : s < m) : (allT A m).getD s 0 = allX A s := by
  have := allT_get A s (m - s - 1); rwa [show s + 1 + (m - s - 1) = m by omega] at this
theorem allX_eq (A : List Nat) (k : Nat) : allX A k = aU A (allT A k) k k := by
  have h := allT_len A k
  unfold allX
  rw [allT]
  simp only [List.getD_eq_getElem?_getD]
  rw [List.getElem?_append_right (by omega), h, Nat.sub_self]; rfl
theorem aU_bit {A : List Nat} {k : Nat} (x : Nat) : ∀ m, m ≤ k → ((aU A (allT A k) k m).testBit x = true ↔ (A.getD k 0).testBit x = true ∨ ∃ y, y < m ∧ (A.getD k 0).testBit y = true ∧ (allX A y).testBit x = true)
  | 0, _ => by simp [aU]
  | m + 1, h => by
    have ih := aU_bit (A := A) (k := k) x m (by omega)
    rw [aU, allT_at (show m < k by omega)]
    by_cases h1 : (A.getD k 0).testBit m = true
    · rw [if_pos h1, Nat.testBit_or, Bool.or_eq_true, ih]
      constructor
      · rintro ((h2 | ⟨y, h2, h3⟩) | h2)
        · exact .inl h2
        · exact .inr ⟨y, by omega, h3⟩
        · exact .inr ⟨m, by omega, h1, h2⟩
      · rintro (h2 | ⟨y, h2, h3, h4⟩)
        · exact .inl (.inl h2)
        · rcases Nat.lt_or_eq_of_le (Nat.le_of_lt_succ h2) with h5 | rfl
          · exact .inl (.inr ⟨y, h5, h3, h4⟩)
          · exact .inr h4
    · rw [if_neg h1, ih]
      constructor
      · rintro (h2 | ⟨y, h2, h3⟩)
        · exact .inl h2
        · exact .inr ⟨y, by omega, h3⟩
      · rintro (h2 | ⟨y, h2, h3, h4⟩)
        · exact .inl h2
        · rcases Nat.lt_or_eq_of_le (Nat.le_of_lt_succ h2) with h5 | rfl
          · exact .inr ⟨y, h5, h3, h4⟩
          · exact absurd h3 h1
theorem allX_bit {A : List Nat} {k : Nat} (hA : ∀ i k, (A.getD i 0).testBit k = true → k < i) (x : Nat) : (allX A k).testBit x = true ↔ ∃ y, (A.getD k 0).testBit y = true ∧ (x = y ∨ (allX A y).testBit x = true) := by
  rw [allX_eq, aU_bit x k (Nat.le_refl _)]
  constructor
  · rintro (h | ⟨y, _, h2, h3⟩)
    · exact ⟨x, h, .inl rfl⟩
    · exact ⟨y, h2, .inr h3⟩
  · rintro ⟨y, h2, rfl | h3⟩
    · exact .inl h2
    · exact .inr ⟨y, hA k y h2, h2, h3⟩
theorem allX_low {A : List Nat} (hA : ∀ i k, (A.getD i 0).testBit k = true → k < i) : ∀ N k, k ≤ N → ∀ x, (allX A k).testBit x = true → x < k
  | 0, k, hk, x, h => by
    obtain rfl : k = 0 := by omega
    obtain ⟨y, h1, _⟩ := (allX_bit hA x).mp h
    have := hA 0 y h1; omega
  | N + 1, k, hk, x, h => by
    obtain ⟨y, h1, h2⟩ := (allX_bit hA x).mp h
    have h3 := hA k y h1
    rcases h2 with rfl | h2
    · exact h3
    · have := allX_low hA N y (by omega) x h2; omega
theorem allX_lt {A : List Nat} (hA : ∀ i k, (A.getD i 0).testBit k = true → k < i) (k : Nat) : allX A k < 2 ^ k :=
  Nat.lt_pow_two_of_testBit _ fun i hi => by
    cases h : (allX A k).testBit i
    · rfl
    · have := allX_low hA k k (Nat.le_refl _) i h; omega
theorem aU_lt {A : List Nat} (hA : ∀ i k, (A.getD i 0).testBit k = true → k < i) (k m : Nat) (hm : m ≤ k) : aU A (allT A k) k m < 2 ^ k :=
  Nat.lt_pow_two_of_testBit _ fun i hi => by
    cases h : (aU A (allT A k) k m).testBit i
    · rfl
    · rcases (aU_bit i m hm).mp h with h1 | ⟨y, h1, h2, h3⟩
      · have := hA k i h1; omega
      · have := hA k y h2; have := allX_low hA y y (Nat.le_refl _) i h3; omega
/-- those behind are those that all ahead of them hold -/
theorem bsM_keep {A : List Nat} {i x : Nat} : ∀ d, (bsM A i (x + 1 + d)).testBit x = (bsM A i (x + 1)).testBit x
  | 0 => rfl
  | d + 1 => by
    rw [← bsM_keep d]
    by_cases h : i < x + 1 + d
    · rw [show x + 1 + (d + 1) = (x + 1 + d) + 1 by omega, bsM_step h, show decide (x = x + 1 + d) = false by simp; omega, Bool.false_and, Bool.or_false]
    · by_cases h2 : x + 1 + d = i
      · subst h2
        rw [bsM_low (A := A) (i := x + 1 + d) (x + 1 + d) (Nat.le_refl _), show x + 1 + (d + 1) = (x + 1 + d) + 1 by omega, bsM, if_neg (by omega), if_pos rfl, Nat.testBit_two_pow]
        simp; omega
      · rw [bsM_low _ (by omega), bsM_low _ (by omega)]
theorem bsM_all {A : List Nat} (hA : ∀ i k, (A.getD i 0).testBit k = true → k < i) {i : Nat} : ∀ N x n, x ≤ N → x < n → ((bsM A i n).testBit x = true ↔ x = i ∨ (allX A x).testBit i = true)
  | N, x, n, hN, hx => by
    have hk := bsM_keep (A := A) (i := i) (x := x) (n - x - 1)
    rw [show x + 1 + (n - x - 1) = n by omega] at hk
    rw [hk]
    rcases Nat.lt_trichotomy x i with h | h | h
    · rw [bsM_low _ (by omega)]
      constructor
      · intro h2; simp at h2
      · rintro (h2 | h2)
        · omega
        · have := allX_low hA x x (Nat.le_refl _) i h2; omega
    · subst h
      rw [bsM, if_neg (by omega), if_pos rfl, Nat.testBit_two_pow]; simp
    · rw [bsM_step h, bsM_out (Nat.le_refl _), Bool.false_or]
      simp only [decide_true, Bool.true_and, decide_eq_true_eq]
      rw [allX_bit hA]
      constructor
      · intro h2
        obtain ⟨y, h3, h4⟩ := and_ne_get h2
        have hy := hA x y h3
        refine .inr ⟨y, h3, ?_⟩
        rcases (bsM_all hA (N - 1) y x (by omega) hy).mp h4 with h5 | h5
        · exact .inl h5.symm
        · exact .inr h5
      · rintro (h2 | ⟨y, h3, h4⟩)
        · omega
        · have hy := hA x y h3
          refine and_ne h3 ((bsM_all hA (N - 1) y x (by omega) hy).mpr ?_)
          rcases h4 with h5 | h5
          · exact .inl h5.symm
          · exact .inr h5
termination_by N x _ _ _ => x
decreasing_by all_goals exact hA _ _ h3
/-- the weights, as the program adds them up: k tasks are added, of the next one m others -/
def wC (T : List Int) (A : List Nat) (i k : Nat) : Int := csum T (fun x => x == i || (allX A x).testBit i) k
theorem wC_all {T : List Int} {A : List Nat} (hA : ∀ i k, (A.getD i 0).testBit k = true → k < i) (i : Nat) : wC T A i T.length = wM T A i := by
  unfold wC wM
  refine csum_congr _ fun x hx => ?_
  have := bsM_all hA (i := i) x x T.length (Nat.le_refl _) hx
  rw [Bool.eq_iff_iff, Bool.or_eq_true, beq_iff_eq]
  exact this.symm
theorem wC_succ (T : List Int) (A : List Nat) (i k : Nat) : wC T A i (k + 1) = wC T A i k + (if k = i ∨ (allX A k).testBit i = true then T.getD k 0 else 0) := by
  unfold wC
  rw [csum]
  congr 1
  simp only [Bool.or_eq_true, beq_iff_eq]
theorem or_add {D q : Nat} (h : D.testBit q = false) : D ||| 2 ^ q = D + 2 ^ q := by
  apply Nat.eq_of_testBit_eq; intro i
  rw [add_bit h, Nat.testBit_or, Nat.testBit_two_pow]
  by_cases hq : q = i
  · subst hq; simp
  · simp [hq, Ne.symm hq]
end Go.Proofs.Ytkjmpkincaainac
namespace Go.Proofs.Ytkjmpkincaainac
open Go.RowKit Go.WideShapes

theorem isFrom1To_any (n hi : Int) (w : World) :
    Calls Try.prog 23 #[.int .i64 n, .int .i64 hi] w fun e w' => e = .returned (.bool (inB 1 hi n)) ∧ w = w' := by
  by_cases h1 : 1 ≤ n
  · by_cases h2 : n ≤ hi
    · go_enter Try.func23, Try.ntmps23
      go_wp2
      go_ret
      exact ⟨ret_bool (inB_true h1 h2).symm, rfl⟩
    · go_enter Try.func23, Try.ntmps23
      go_wp2
      go_ret
      exact ⟨ret_bool (inB_hi (by omega)).symm, rfl⟩
  · go_enter Try.func23, Try.ntmps23
    go_wp2
    go_ret
    exact ⟨ret_bool (inB_lo (by omega)).symm, rfl⟩
theorem p2_le {n : Nat} (h : n ≤ 20) : 1 ≤ 2 ^ n ∧ 2 ^ n ≤ 1048576 := ⟨Nat.two_pow_pos n, by have := Nat.pow_le_pow_right (n := 2) (by omega) h; omega⟩
end Go.Proofs.Ytkjmpkincaainac
namespace Go.Proofs.Ytkjmpkincaainac
open Go.RowKit Go.WideShapes

theorem upTo8 (S : Nat → Prop) (a : Option Addr) (len cap : Nat) (xs : List Int) (lim : Int) (w : World) (h : IntsAt w S a len xs) {b : Bool} (hb : allIn 0 lim xs = b) :
    Calls Try.prog 36 #[.slice a len cap, .int .i64 lim] w fun e w' => e = .returned (.bool b) ∧ w' = w := by
  subst hb; exact (allUpTo_any S a len cap xs lim w h).mono fun _ _ h => ⟨h.1, h.2.symm⟩
theorem isUp8 (n hi : Int) (w : World) {b : Bool} (hb : inB 0 hi n = b) : Calls Try.prog 38 #[.int .i64 n, .int .i64 hi] w fun e w' => e = .returned (.bool b) ∧ w' = w := by
  subst hb; exact (isUpTo_any n hi w).mono fun _ _ h => ⟨h.1, h.2.symm⟩
theorem allIn_two {lo hi : Int} {r : List Int} {x y : Int} (h0 : r[0]? = some x) (h1 : r[1]? = some y) : allIn lo hi (r.take 2) = (inB lo hi x && inB lo hi y) := by
  rw [take_get (k := 1) h1, take_get (k := 0) h0]
  simp [allIn]
theorem ints_take8 {w : World} {S : Nat → Prop} {a : Option Addr} {len : Nat} {xs : List Int} (h : IntsAt w S a len xs) {k : Nat} (hk : k ≤ len) : IntsAt w S a k (xs.take k) := by
  have hl := h.lenEq
  have hs := h.small
  refine ⟨by simp; omega, by omega, fun h0 => ?_⟩
  obtain ⟨b, off, ha, hs, hc⟩ := h.cells (by omega)
  refine ⟨b, off, ha, hs, fun i x hx => hc i x ?_⟩
  rw [List.getElem?_take] at hx
  split at hx
  · exact hx
  · cases hx
end Go.Proofs.Ytkjmpkincaainac
namespace Go.Proofs.Ytkjmpkincaainac

/-- Pascal's triangle up to 12, ten bits a number -/
def pasT : Nat := 54385061065684800540011163633074225266529689054062350113096803723279458193811827842204926003977343309459177112652888669744470748115619296461917853970249117576653513846418436790461392887768700952485466176952685347854922204958842601551461357000522739273210641263130788881835566643715928825264181515877615878201727098649938612295921831467937628080429425022212340976598681061771703336248555950105563781297952392327987407334892147973078235041655175546388897522636949859416138614742195963638451675281028127129601
/-- in how many ways k of n are chosen, for n and k up to 12 -/
def ch (n k : Nat) : Nat := (pasT / 1024 ^ (13 * n + k)) % 1024
/-- factorials up to 12 -/
def fa : Nat → Nat
  | 0 => 1
  | n + 1 => (n + 1) * fa n
/-- samples of just k bad ones -/
def trm (lot bad size k : Nat) : Nat := if k ≤ size then ch bad k * ch (lot - bad) (size - k) else 0
/-- samples of less than m bad ones -/
def psum (lot bad size : Nat) : Nat → Nat
  | 0 => 0
  | m + 1 => psum lot bad size m + trm lot bad size m
/-- what is left in these -/
def bsum (lot bad size : Nat) : Nat → Nat
  | 0 => 0
  | m + 1 => bsum lot bad size m + trm lot bad size m * (bad - m)
/-- the mean of the first ones -/
def msum (lot bad size : Nat) : Nat → Nat
  | 0 => 0
  | m + 1 => msum lot bad size m + m * trm lot bad size m
/-- n, n - 1, .. , k of them, multiplied -/
def fall (n : Nat) : Nat → Nat
  | 0 => 1
  | k + 1 => fall n k * (n - k)

set_option maxRecDepth 100000
theorem ch_rec : ∀ m, m < 12 → ∀ i, i < m + 1 → ch m i * (m + 1) / (i + 1) = ch (m + 1) (i + 1) ∧ ch m i * (m + 1) ≤ 100000 := by decide +kernel
theorem ch_pas : ∀ n, n < 12 → ∀ k, k < 12 → ch (n + 1) (k + 1) = ch n k + ch n (k + 1) := by decide +kernel
theorem ch_zero : ∀ n, n < 13 → ch n 0 = 1 := by decide +kernel
theorem ch_over : ∀ n, n < 13 → ∀ k, k < 13 → n < k → ch n k = 0 := by decide +kernel
theorem ch_bd : ∀ n, n < 13 → ∀ k, k < 13 → ch n k ≤ 924 := by decide +kernel
theorem ch_pos : ∀ n, n < 13 → ∀ k, k < n + 1 → 1 ≤ ch n k := by decide +kernel
theorem ch_sym : ∀ n, n < 13 → ∀ k, k < n + 1 → ch n (n - k) = ch n k := by decide +kernel
theorem ch_abs : ∀ n, n < 12 → ∀ k, k < 12 → (k + 1) * ch (n + 1) (k + 1) = (n + 1) * ch n k := by decide +kernel
theorem fall_bd : ∀ n, n < 13 → ∀ k, k < 13 → fall n k ≤ 479001600 := by decide +kernel
theorem fall_ch : ∀ n, n < 13 → ∀ k, k < n + 1 → fall n k / fall k k = ch n k ∧ fall n k = ch n k * fa k ∧ 1 ≤ fall n k := by decide +kernel
theorem fa_bd : ∀ n, n < 13 → 1 ≤ fa n ∧ fa n ≤ 479001600 := by decide +kernel

theorem psum_all : ∀ lot, lot < 13 → ∀ bad, bad < lot + 1 → ∀ size, size < lot + 1 → psum lot bad size (bad + 1) = ch lot size ∧ psum lot bad size (size + 1) = ch lot size ∧ msum lot bad size (size + 1) * lot = size * bad * ch lot size := by decide +kernel
theorem trm_turn : ∀ lot, lot < 13 → ∀ bad, bad < lot + 1 → ∀ size, size < lot + 1 → ∀ k, k < 13 → trm lot bad size k * ch lot bad = trm lot size bad k * ch lot size := by decide +kernel
theorem psum_worse : ∀ lot, lot < 13 → ∀ bad, bad < lot → ∀ size, size < lot + 1 → ∀ m, m < 14 → psum lot (bad + 1) size m ≤ psum lot bad size m := by decide +kernel
theorem trm_draw : ∀ b, b < 13 → ∀ g, g < 13 - b → ∀ s, s < g + b → ∀ k, k < 13 → trm (g + b) b (s + 1) k * (s + 1) = g * trm (g + b - 1) b s k + (if k = 0 then 0 else b * trm (g + b - 1) (b - 1) s (k - 1)) := by decide +kernel
end Go.Proofs.Ytkjmpkincaainac
namespace Go.Proofs.Ytkjmpkincaainac

theorem psum_draw {b g s : Nat} (hb : b + g ≤ 12) (hs : s < g + b) : ∀ m, m ≤ 13 → psum (g + b) b (s + 1) m * (s + 1) = g * psum (g + b - 1) b s m + b * psum (g + b - 1) (b - 1) s (m - 1) := by
  intro m
  induction m with
  | zero => intro _; simp [psum]
  | succ m ih =>
    intro hm
    have h1 := ih (by omega)
    have h2 := trm_draw b (by omega) g (by omega) s hs m (by omega)
    show (psum (g + b) b (s + 1) m + trm (g + b) b (s + 1) m) * (s + 1) = g * (psum (g + b - 1) b s m + trm (g + b - 1) b s m) + b * psum (g + b - 1) (b - 1) s m
    rw [Nat.add_mul, h1, h2, Nat.mul_add]
    cases m with
    | zero => simp [psum]
    | succ j =>
      rw [if_neg (Nat.succ_ne_zero j), Nat.add_sub_cancel, show psum (g + b - 1) (b - 1) s (j + 1) = psum (g + b - 1) (b - 1) s j + trm (g + b - 1) (b - 1) s j from rfl, Nat.mul_add]
      omega
/-- orders of draws with less than m bad ones -/
def drw (lot bad size m : Nat) : Nat := psum lot bad size m * fa size
theorem drw_step {b g s m : Nat} (hb : b + g ≤ 12) (hs : s < g + b) (hm : m ≤ 13) : drw (g + b) b (s + 1) m = g * drw (g + b - 1) b s m + b * drw (g + b - 1) (b - 1) s (m - 1) := by
  unfold drw
  rw [show fa (s + 1) = (s + 1) * fa s from rfl, ← Nat.mul_assoc, psum_draw hb hs m hm, Nat.add_mul, Nat.mul_assoc, Nat.mul_assoc]
theorem trm_over {lot bad size k : Nat} (hl : lot ≤ 12) (hb : bad ≤ lot) (hk : bad < k) (hk2 : k ≤ 12) : trm lot bad size k = 0 := by
  unfold trm
  split
  · rw [ch_over bad (by omega) k (by omega) hk, Nat.zero_mul]
  · rfl
theorem psum_mono {lot bad size : Nat} : ∀ {d m : Nat}, psum lot bad size m ≤ psum lot bad size (m + d) := by
  intro d
  induction d with
  | zero => intro m; exact Nat.le_refl _
  | succ d ih => intro m; exact Nat.le_trans ih (by rw [← Nat.add_assoc]; exact Nat.le_add_right _ _)
theorem psum_past {lot bad size : Nat} (hl : lot ≤ 12) (hb : bad ≤ lot) : ∀ d, bad + 1 + d ≤ 13 → psum lot bad size (bad + 1 + d) = psum lot bad size (bad + 1) ∧ bsum lot bad size (bad + 1 + d) = bsum lot bad size (bad + 1) := by
  intro d
  induction d with
  | zero => intro _; exact ⟨rfl, rfl⟩
  | succ d ih =>
    intro h
    obtain ⟨h1, h2⟩ := ih (by omega)
    have e : trm lot bad size (bad + 1 + d) = 0 := trm_over hl hb (by omega) (by omega)
    rw [← Nat.add_assoc]
    simp only [psum, bsum, e, h1, h2, Nat.zero_mul, Nat.add_zero, and_self]
theorem psum_min {lot bad size most : Nat} (hl : lot ≤ 12) (hb : bad ≤ lot) (hm : most ≤ 12) : psum lot bad size (min most bad + 1) = psum lot bad size (most + 1) ∧ bsum lot bad size (min most bad + 1) = bsum lot bad size (most + 1) := by
  rcases Nat.le_total most bad with h | h
  · rw [Nat.min_eq_left h]; exact ⟨rfl, rfl⟩
  · rw [Nat.min_eq_right h]
    obtain ⟨h1, h2⟩ := psum_past (size := size) hl hb (most - bad) (by omega)
    rw [show most + 1 = bad + 1 + (most - bad) by omega, h1, h2]; exact ⟨rfl, rfl⟩
theorem psum_le {lot bad size m : Nat} (hl : lot ≤ 12) (hb : bad ≤ lot) (hs : size ≤ lot) (hm : m ≤ 13) : psum lot bad size m ≤ ch lot size := by
  have h1 := (psum_past (size := size) hl hb (12 - bad) (by omega)).1
  rw [show bad + 1 + (12 - bad) = 13 by omega] at h1
  have h2 := (psum_all lot (by omega) bad (by omega) size (by omega)).1
  have h3 := @psum_mono lot bad size (13 - m) m
  rw [show m + (13 - m) = 13 by omega] at h3
  omega
theorem psum_over {lot bad size most : Nat} (hl : lot ≤ 12) (hb : bad ≤ lot) (hs : size ≤ lot) (hm : most ≤ 12) (hbm : bad ≤ most) : psum lot bad size (most + 1) = ch lot size := by
  have h1 := (psum_past (size := size) hl hb (most - bad) (by omega)).1
  rw [show bad + 1 + (most - bad) = most + 1 by omega] at h1
  rw [h1]; exact (psum_all lot (by omega) bad (by omega) size (by omega)).1
theorem bsum_le {lot bad size : Nat} : ∀ m, bsum lot bad size m ≤ bad * psum lot bad size m := by
  intro m
  induction m with
  | zero => simp [bsum, psum]
  | succ m ih =>
    simp only [bsum, psum, Nat.mul_add]
    have : trm lot bad size m * (bad - m) ≤ bad * trm lot bad size m := by rw [Nat.mul_comm]; exact Nat.mul_le_mul_right _ (Nat.sub_le _ _)
    omega
theorem psum_turn {lot bad size : Nat} (hl : lot ≤ 12) (hb : bad ≤ lot) (hs : size ≤ lot) : ∀ m, m ≤ 13 → psum lot bad size m * ch lot bad = psum lot size bad m * ch lot size := by
  intro m
  induction m with
  | zero => intro _; simp [psum]
  | succ m ih => intro h; simp only [psum, Nat.add_mul, ih (by omega), trm_turn lot (by omega) bad (by omega) size (by omega) m (by omega)]
theorem trm_none {lot bad k : Nat} (hl : lot ≤ 12) (hb : bad ≤ lot) : trm lot bad 0 k = if k = 0 then 1 else 0 := by
  unfold trm
  by_cases h : k = 0
  · subst h
    rw [if_pos (Nat.le_refl _), if_pos rfl, ch_zero bad (by omega), Nat.sub_zero, ch_zero _ (by omega)]
  · rw [if_neg (by omega), if_neg h]
theorem psum_none {lot bad : Nat} (hl : lot ≤ 12) (hb : bad ≤ lot) : ∀ m, psum lot bad 0 (m + 1) = 1 ∧ bsum lot bad 0 (m + 1) = bad := by
  intro m
  induction m with
  | zero => simp [psum, bsum, trm_none hl hb]
  | succ m ih =>
    have e : trm lot bad 0 (m + 1) = 0 := by rw [trm_none hl hb]; simp
    exact ⟨by rw [psum, ih.1, e], by rw [bsum, ih.2, e, Nat.zero_mul, Nat.add_zero]⟩

-- fractions
theorem f_scale {g T C : Nat} (hg : 1 ≤ g) : fU (g * T) (g * C) = fU T C ∧ fD (g * T) (g * C) = fD T C := by
  unfold fU fD
  rw [Nat.gcd_mul_left, Nat.mul_div_mul_left _ _ hg, Nat.mul_div_mul_left _ _ hg]
  exact ⟨rfl, rfl⟩
theorem f_mul {T C : Nat} (hC : 1 ≤ C) : ∃ g, 1 ≤ g ∧ g * fU T C = T ∧ g * fD T C = C := by
  refine ⟨Nat.gcd T C, (gcd_le8 hC).1, ?_, ?_⟩
  · exact Nat.mul_div_cancel' (Nat.gcd_dvd_left T C)
  · exact Nat.mul_div_cancel' (Nat.gcd_dvd_right T C)
theorem f_bd {T C : Nat} (hC : 1 ≤ C) : fU T C ≤ T ∧ fD T C ≤ C ∧ 1 ≤ fD T C := ⟨Nat.div_le_self _ _, Nat.div_le_self _ _, (gcd_div hC).1⟩
theorem f_eq {T C T' C' : Nat} (hC : 1 ≤ C) (hC' : 1 ≤ C') (h : T * C' = T' * C) : fU T C = fU T' C' ∧ fD T C = fD T' C' := by
  have a := @f_scale C' T C hC'
  have b := @f_scale C T' C' hC
  rw [show C' * T = C * T' by rw [Nat.mul_comm C', h, Nat.mul_comm], Nat.mul_comm C' C] at a
  exact ⟨a.1.symm.trans b.1, a.2.symm.trans b.2⟩
theorem f_plus {T T' C : Nat} (hC : 1 ≤ C) : fU (fU T C * fD T' C + fU T' C * fD T C) (fD T C * fD T' C) = fU (T + T') C ∧ fD (fU T C * fD T' C + fU T' C * fD T C) (fD T C * fD T' C) = fD (T + T') C := by
  obtain ⟨g, hg, e1, e2⟩ := @f_mul T C hC
  obtain ⟨g', hg', e3, e4⟩ := @f_mul T' C hC
  have h0 := @f_scale (g * g') (fU T C * fD T' C + fU T' C * fD T C) (fD T C * fD T' C) (Nat.mul_pos hg hg')
  have x1 : g * g' * (fU T C * fD T' C + fU T' C * fD T C) = C * (T + T') := by
    calc g * g' * (fU T C * fD T' C + fU T' C * fD T C) = (g * fU T C) * (g' * fD T' C) + (g' * fU T' C) * (g * fD T C) := by
          rw [Nat.mul_add]
          congr 1
          · ac_rfl
          · ac_rfl
      _ = C * (T + T') := by rw [e1, e2, e3, e4, Nat.mul_add, Nat.mul_comm T, Nat.mul_comm T']
  have x2 : g * g' * (fD T C * fD T' C) = C * C := by
    calc g * g' * (fD T C * fD T' C) = (g * fD T C) * (g' * fD T' C) := by ac_rfl
      _ = C * C := by rw [e2, e4]
  rw [x1, x2] at h0
  have h1 := @f_scale C (T + T') C hC
  exact ⟨h0.1.symm.trans h1.1, h0.2.symm.trans h1.2⟩
theorem f_times {T C n : Nat} (hC : 1 ≤ C) : fU (fU T C * n) (fD T C) = fU (T * n) C ∧ fD (fU T C * n) (fD T C) = fD (T * n) C := by
  obtain ⟨g, hg, e1, e2⟩ := @f_mul T C hC
  have h0 := @f_scale g (fU T C * n) (fD T C) hg
  rw [← Nat.mul_assoc, e1, e2] at h0
  exact ⟨h0.1.symm, h0.2.symm⟩
theorem f_le {T C T' C' : Nat} (hC : 1 ≤ C) (hC' : 1 ≤ C') : fU T C * fD T' C' ≤ fU T' C' * fD T C ↔ T * C' ≤ T' * C := by
  obtain ⟨g, hg, e1, e2⟩ := @f_mul T C hC
  obtain ⟨g', hg', e3, e4⟩ := @f_mul T' C' hC'
  have x1 : (g * g') * (fU T C * fD T' C') = T * C' := by
    calc (g * g') * (fU T C * fD T' C') = (g * fU T C) * (g' * fD T' C') := by ac_rfl
      _ = _ := by rw [e1, e4]
  have x2 : (g * g') * (fU T' C' * fD T C) = T' * C := by
    calc (g * g') * (fU T' C' * fD T C) = (g' * fU T' C') * (g * fD T C) := by ac_rfl
      _ = _ := by rw [e2, e3]
  rw [← x1, ← x2]
  exact ⟨fun h => Nat.mul_le_mul_left _ h, fun h => Nat.le_of_mul_le_mul_left h (Nat.mul_pos hg hg')⟩
theorem f_one {C : Nat} (hC : 1 ≤ C) : fU C C = 1 ∧ fD C C = 1 := by
  unfold fU fD
  rw [Nat.gcd_self, Nat.div_self hC]; exact ⟨rfl, rfl⟩
theorem f_zero {C : Nat} (hC : 1 ≤ C) : fU 0 C = 0 ∧ fD 0 C = 1 := by
  unfold fU fD
  rw [Nat.gcd_zero_left, Nat.div_self hC, Nat.zero_div]; exact ⟨rfl, rfl⟩
theorem f_int {n : Nat} : fU n 1 = n ∧ fD n 1 = 1 := by
  unfold fU fD
  rw [Nat.gcd_one_right, Nat.div_one]; exact ⟨rfl, rfl⟩
end Go.Proofs.Ytkjmpkincaainac
namespace Go.Proofs.Ytkjmpkincaainac
open Go.RowKit Go.WideShapes

theorem inR {lo hi n : Int} {b : Bool} (h : inB lo hi n = b) (w : World) : Calls Try.prog 20 #[.int .i64 n, .int .i64 lo, .int .i64 hi] w fun e w' => e = .returned (.bool b) ∧ w' = w := by
  subst h; exact (inRange_any n lo hi w).mono fun _ _ h => ⟨h.1, h.2.symm⟩
end Go.Proofs.Ytkjmpkincaainac
namespace Go.Proofs.Ytkjmpkincaainac
open Go.RowKit Go.WideShapes

/-- in how many ways k of n are chosen, k any integer -/
def chI (n : Nat) (k : Int) : Nat := if 0 ≤ k ∧ k ≤ n then ch n k.toNat else 0
theorem chI_nat {n k : Nat} (hn : n ≤ 12) (hk : k ≤ 12) : chI n (k : Int) = ch n k := by
  unfold chI
  by_cases h : k ≤ n
  · rw [if_pos (by omega), Int.toNat_natCast]
  · rw [if_neg (by omega), ch_over n (by omega) k (by omega) (by omega)]
theorem chI_neg {n : Nat} {k : Int} (hk : k < 0) : chI n k = 0 := if_neg (by omega)
theorem chI_bd {n : Nat} {k : Int} (hn : n ≤ 12) : chI n k ≤ 924 := by
  unfold chI
  split
  · exact ch_bd n (by omega) _ (by omega)
  · omega
theorem trm_chI {lot bad size k : Nat} (hl : lot ≤ 12) (hb : bad ≤ lot) (hs : size ≤ lot) (hk : k ≤ 12) : trm lot bad size k = chI bad k * chI (lot - bad) ((size : Int) - (k : Int)) := by
  unfold trm
  by_cases h : k ≤ size
  · rw [if_pos h, chI_nat (by omega) hk, show (size : Int) - (k : Int) = ((size - k : Nat) : Int) by omega, chI_nat (by omega) (by omega)]
  · rw [if_neg h, chI_neg (k := (size : Int) - (k : Int)) (by omega), Nat.mul_zero]
theorem quo_nat (c d q j r : Nat) (h1 : c * (d + j + 1) / (j + 1) = r) (h2 : c * (d + j + 1) ≤ 100000) :
    wrap64 ((wrap64 ((c : Int) * ((q : Int) + (d : Int) - (q : Int) + ((j : Int) + 1)))).tdiv ((j : Int) + 1)) = (r : Int) := by
  have e1 : (c : Int) * ((q : Int) + (d : Int) - (q : Int) + ((j : Int) + 1)) = ((c * (d + j + 1) : Nat) : Int) := by
    rw [show (q : Int) + (d : Int) - (q : Int) + ((j : Int) + 1) = ((d + j + 1 : Nat) : Int) by omega]; push_cast; rfl
  have e2 : (((c * (d + j + 1) : Nat) : Int)).tdiv ((j : Int) + 1) = (r : Int) := by rw [← h1, show ((j : Int) + 1) = ((j + 1 : Nat) : Int) by omega]; exact (Int.ofNat_tdiv _ _).symm
  have e3 : r ≤ 100000 := by rw [← h1]; exact Nat.le_trans (Nat.div_le_self _ _) h2
  rw [e1, IntWalk.wrap64_in ((c * (d + j + 1) : Nat) : Int) (by omega), e2, IntWalk.wrap64_in _ (by omega)]
def chooseM (n k : Int) : Int := if inB 0 12 n then (chI n.toNat k : Nat) else -1
def planB (lot bad size most : Int) : Bool := inB 1 12 lot && (inB 0 lot bad && (inB 0 lot size && inB 0 12 most))
theorem plan_get {lot bad size most : Int} (h : planB lot bad size most = true) : ∃ l b s m : Nat, lot = l ∧ bad = b ∧ size = s ∧ most = m ∧ 1 ≤ l ∧ l ≤ 12 ∧ b ≤ l ∧ s ≤ l ∧ m ≤ 12 := by
  simp only [planB, inB, Bool.and_eq_true, decide_eq_true_eq] at h
  exact ⟨lot.toNat, bad.toNat, size.toNat, most.toNat, by omega, by omega, by omega, by omega, by omega, by omega, by omega, by omega, by omega⟩
end Go.Proofs.Ytkjmpkincaainac
