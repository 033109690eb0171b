import Derived.Test.YtmcongioghkdcacM5
import Derived.Test.YtmcongioghkdcacRows
import Derived.WalkKit
import Derived.LoopTactic
import Derived.Outline
import Derived.WalkSpells
import Derived.WalkLawsBesides
import Derived.ProofKit
import Derived.Lib.Hide
import Derived.IntWalk
import Derived.Test.YtmcongioghkdcacM0
import Derived.Test.YtmcongioghkdcacM1
import Derived.Test.YtmcongioghkdcacM2
import Derived.Test.YtmcongioghkdcacM3
import Derived.Test.YtmcongioghkdcacM6
import Derived.Test.YtmcongioghkdcacM10
namespace Go.Proofs.Ytmcongioghkdcac

/-- how many tasks a set has -/
def popM (s : Nat) : Int := 6 - (undone s 6 : Int)
theorem popM_bd (s : Nat) : 0 ≤ popM s ∧ popM s ≤ 6 := by unfold popM; have := undone_le s 6; omega
theorem top_of {s n : Nat} (h0 : s ≠ 0) (h : s < 2 ^ n) : ∃ q r, q < n ∧ s = r + 2 ^ q ∧ r < 2 ^ q := by
  have h1 := Nat.log2_self_le h0
  have h2 := Nat.lt_log2_self (n := s)
  rw [Nat.pow_succ] at h2
  exact ⟨s.log2, s - 2 ^ s.log2, (Nat.pow_lt_pow_iff_right (by omega)).1 (Nat.lt_of_le_of_lt h1 h), by omega, by omega⟩
theorem clo_zero (A : List Nat) (n : Nat) : cloM A 0 n = true := (cloM_iff n).mpr fun i _ h => by simp at h
theorem st_not {T : List Int} {A : List Nat} {c : Int} {s : Nat} (h : cloM A s A.length = false) : stP T A c s = -1 := by
  cases s with
  | zero => rw [clo_zero] at h; cases h
  | succ s => rw [stP_succ]; unfold nxtP; rw [h]; rfl
/-- a set that can stand needs no more places than it has tasks -/
theorem st_pop {T : List Int} {A : List Nat} {c : Int} (hA : ∀ i k, (A.getD i 0).testBit k = true → k < i) (hc : 0 ≤ c) (hT : ∀ k, k < T.length → T.getD k 0 ≤ c) :
    ∀ N s, s ≤ N → s < 2 ^ 6 → cloM A s A.length = true → 0 ≤ stP T A c s ∧ stP T A c s ≤ popM s
  | _, 0, _, _, _ => ⟨Int.le_refl _, (popM_bd 0).1⟩
  | N + 1, s + 1, hs, h6, hcl => by
    obtain ⟨q, r, hq, he, hr⟩ := top_of (show s + 1 ≠ 0 by omega) h6
    have hrq : r.testBit q = false := Nat.testBit_lt_two_pow hr
    have hb := add_bit hrq
    rw [← he] at hb
    have hrs : r < s + 1 := by have := Nat.two_pow_pos q; omega
    have hcr : cloM A r A.length = true := (cloM_iff _).mpr fun i hi hri k hk => by
      have h1 := (cloM_iff _).mp hcl i hi (by rw [hb, hri]; rfl) k hk
      have h2 := hA i k hk
      have h3 : i < q := by
        rcases Nat.lt_or_ge i q with h | h
        · exact h
        · rw [Nat.testBit_lt_two_pow (Nat.lt_of_lt_of_le hr (Nat.pow_le_pow_right (by omega) h))] at hri; cases hri
      rw [hb] at h1
      simp only [Bool.or_eq_true, decide_eq_true_eq] at h1
      rcases h1 with h1 | h1
      · exact h1
      · omega
    have ih := st_pop hA hc hT N r (by omega) (by omega) hcr
    have hsub : r &&& (s + 1) = r := sub_iff.mpr fun i hi => by rw [hb, hi]; rfl
    have hld : csum T (fun i => (dif (s + 1) r).testBit i) T.length ≤ c := by
      rw [csum_congr (Q := fun i => i == q) _ fun i _ => by
        rw [dif_bit, hb]
        by_cases h : i = q
        · subst h; simp [hrq]
        · cases r.testBit i <;> simp [h]]
      rw [csum_one]
      split
      · rename_i h; exact hT q h
      · exact hc
    have hsc := scanP_le (T := T) (c := c) (t := tabP T A c s) (s := s + 1) (s + 1) r hrs ((okR_tab (by omega)).mpr ⟨hsub, ih.1, hld⟩)
    rw [tabP_at (show r ≤ s by omega)] at hsc
    rw [stP_succ]
    unfold nxtP
    rw [if_pos hcl]
    have hp := undone_add hrq 6 hq
    rw [← he] at hp
    unfold popM at ih ⊢
    omega
/-- the fewest places of a set, as the program counts them -/
def fewC (T : List Int) (A : List Nat) (c : Int) (s : Nat) : Int := if cloM A s A.length = true then stP T A c s else 7
def okC (T : List Int) (c : Int) (s r : Nat) : Prop := dif r s = 0 ∧ csum T (fun i => (dif s r).testBit i) T.length ≤ c
instance (T : List Int) (c : Int) (s r : Nat) : Decidable (okC T c s r) := by unfold okC; infer_instance
def runC (T : List Int) (A : List Nat) (c : Int) (s : Nat) : Nat → Int
  | 0 => popM s
  | r + 1 => if okC T c s r then min (runC T A c s r) (fewC T A c r + 1) else runC T A c s r
theorem fewC_bd {T : List Int} {A : List Nat} {c : Int} (hA : ∀ i k, (A.getD i 0).testBit k = true → k < i) (hc : 0 ≤ c) (hT : ∀ k, k < T.length → T.getD k 0 ≤ c) {s : Nat} (h6 : s < 2 ^ 6) : 0 ≤ fewC T A c s ∧ fewC T A c s ≤ 7 := by
  unfold fewC
  split
  · rename_i h; have := st_pop hA hc hT s s (Nat.le_refl _) h6 h; have := popM_bd s; omega
  · omega
theorem runC_scan {T : List Int} {A : List Nat} {c : Int} (hA : ∀ i k, (A.getD i 0).testBit k = true → k < i) (hc : 0 ≤ c) (hT : ∀ k, k < T.length → T.getD k 0 ≤ c) {s : Nat} (h6 : s < 2 ^ 6) :
    ∀ R, R ≤ s + 1 → runC T A c (s + 1) R = if scanP T c (tabP T A c s) (s + 1) R < 0 then popM (s + 1) else min (popM (s + 1)) (scanP T c (tabP T A c s) (s + 1) R)
  | 0, _ => by simp [runC, scanP]
  | R + 1, hR => by
    have ih := runC_scan hA hc hT h6 R (by omega)
    have hp := popM_bd (s + 1)
    have hs : scanP T c (tabP T A c s) (s + 1) (R + 1) = if okR T c (tabP T A c s) (s + 1) R ∧ (scanP T c (tabP T A c s) (s + 1) R < 0 ∨ stP T A c R + 1 < scanP T c (tabP T A c s) (s + 1) R) then stP T A c R + 1 else scanP T c (tabP T A c s) (s + 1) R := by
      rw [scanP, tabP_at (show R ≤ s by omega)]
    rw [runC, ih]
    have ho := okR_tab (T := T) (A := A) (c := c) (m := s) (s := s + 1) (r := R) (by omega)
    have hsub : (R &&& (s + 1) = R) ↔ dif R (s + 1) = 0 := by rw [sub_iff, dif_zero]
    clear ih
    generalize scanP T c (tabP T A c s) (s + 1) R = sc at hs ⊢
    by_cases h1 : okC T c (s + 1) R
    · rw [if_pos h1]
      unfold fewC
      by_cases h2 : cloM A R A.length = true
      · have h3 := st_pop hA hc hT R R (Nat.le_refl _) (by omega) h2
        have h4 := ho.mpr ⟨hsub.mpr h1.1, h3.1, h1.2⟩
        rw [if_pos h2]
        by_cases h5 : sc < 0
        · rw [hs.trans (if_pos ⟨h4, .inl h5⟩), if_pos h5, if_neg (by omega)]
        · rw [if_neg h5]
          by_cases h6 : stP T A c R + 1 < sc
          · rw [hs.trans (if_pos ⟨h4, .inr h6⟩), if_neg (by omega)]; omega
          · rw [hs.trans (if_neg (fun h => h.2.elim h5 h6)), if_neg h5]; omega
      · rw [if_neg h2]
        have h3 := st_not (T := T) (c := c) (Bool.not_eq_true _ |>.mp h2)
        rw [hs.trans (if_neg (fun h => by have := (ho.mp h.1).2.1; omega))]
        split <;> omega
    · rw [if_neg h1, hs.trans (if_neg (fun h => h1 (by have := ho.mp h.1; exact ⟨hsub.mp this.1, this.2.2⟩)))]
theorem runC_all {T : List Int} {A : List Nat} {c : Int} (hA : ∀ i k, (A.getD i 0).testBit k = true → k < i) (hc : 0 ≤ c) (hT : ∀ k, k < T.length → T.getD k 0 ≤ c) {s : Nat} (h6 : s < 2 ^ 6) (hcl : cloM A s A.length = true) : runC T A c s s = fewC T A c s := by
  have hp := st_pop hA hc hT s s (Nat.le_refl _) h6 hcl
  unfold fewC
  rw [if_pos hcl]
  cases s with
  | zero => rw [runC]; show popM 0 = 0; simp [popM, undone]
  | succ s =>
    rw [runC_scan hA hc hT (by omega) _ (Nat.le_refl _)]
    rw [stP_succ] at hp ⊢
    unfold nxtP at hp ⊢
    rw [if_pos hcl] at hp ⊢
    rw [if_neg (by omega)]; omega
theorem runC_bd {T : List Int} {A : List Nat} {c : Int} (hA : ∀ i k, (A.getD i 0).testBit k = true → k < i) (hc : 0 ≤ c) (hT : ∀ k, k < T.length → T.getD k 0 ≤ c) {s : Nat} : ∀ R, R ≤ 2 ^ 6 → 0 ≤ runC T A c s R ∧ runC T A c s R ≤ 6
  | 0, _ => popM_bd s
  | R + 1, h => by
    have := runC_bd hA hc hT (s := s) R (by omega)
    have := fewC_bd hA hc hT (s := R) (by omega)
    rw [runC]; split <;> omega
theorem fewC_full {T : List Int} {A : List Nat} {c : Int} (hl : A.length = T.length) (hA : ∀ i k, (A.getD i 0).testBit k = true → k < i) : fewC T A c (2 ^ T.length - 1) = fewM T A c := by
  unfold fewC fewM
  rw [if_pos ((cloM_iff _).mpr fun i hi _ k hk => by rw [full_bit]; have := hA i k hk; simp; omega)]

/-- all that must be done ahead of a task, over others, too -/
def aU (A : List Nat) (t : List Nat) (k : Nat) : Nat → Nat
  | 0 => A.getD k 0
  | m + 1 => if (A.getD k 0).testBit m = true then aU A t k m ||| t.getD m 0 else aU A t k m
def allT (A : List Nat) : Nat → List Nat
  | 0 => []
  | k + 1 => allT A k ++ [aU A (allT A k) k k]
def allX (A : List Nat) (x : Nat) : Nat := (allT A (x + 1)).getD x 0
theorem allT_len (A : List Nat) : ∀ k, (allT A k).length = k
  | 0 => rfl
  | k + 1 => by rw [allT, List.length_append, allT_len A k]; rfl
theorem allT_get (A : List Nat) (s : Nat) : ∀ d, (allT A (s + 1 + d)).getD s 0 = allX A s
  | 0 => rfl
  | d + 1 => by
    have h := allT_len A (s + 1 + d)
    rw [show s + 1 + (d + 1) = (s + 1 + d) + 1 by omega, allT, ← allT_get A s d]
    simp only [List.getD_eq_getElem?_getD]
    rw [List.getElem?_append_left (by omega)]
theorem allT_at {A : List Nat} {s m : Nat} (h : s < m) : (allT A m).getD s 0 = allX A s := by
  have := allT_get A s (m - s - 1); rwa [show s + 1 + (m - s - 1) = m by omega] at this
theorem allX_eq (A : List Nat) (k : Nat) : allX A k = aU A (allT A k) k k := by
  have h := allT_len A k
  unfold allX
  rw [allT]
  simp only [List.getD_eq_getElem?_getD]
  rw [List.getElem?_append_right (by omega), h, Nat.sub_self]; rfl
theorem aU_bit {A : List Nat} {k : Nat} (x : Nat) : ∀ m, m ≤ k → ((aU A (allT A k) k m).testBit x = true ↔ (A.getD k 0).testBit x = true ∨ ∃ y, y < m ∧ (A.getD k 0).testBit y = true ∧ (allX A y).testBit x = true)
  | 0, _ => by simp [aU]
  | m + 1, h => by
    have ih := aU_bit (A := A) (k := k) x m (by omega)
    rw [aU, allT_at (show m < k by omega)]
    by_cases h1 : (A.getD k 0).testBit m = true
    · rw [if_pos h1, Nat.testBit_or, Bool.or_eq_true, ih]
      constructor
      · rintro ((h2 | ⟨y, h2, h3⟩) | h2)
        · exact .inl h2
        · exact .inr ⟨y, by omega, h3⟩
        · exact .inr ⟨m, by omega, h1, h2⟩
      · rintro (h2 | ⟨y, h2, h3, h4⟩)
        · exact .inl (.inl h2)
        · rcases Nat.lt_or_eq_of_le (Nat.le_of_lt_succ h2) with h5 | rfl
          · exact .inl (.inr ⟨y, h5, h3, h4⟩)
          · exact .inr h4
    · rw [if_neg h1, ih]
      constructor
      · rintro (h2 | ⟨y, h2, h3⟩)
        · exact .inl h2
        · exact .inr ⟨y, by omega, h3⟩
      · rintro (h2 | ⟨y, h2, h3, h4⟩)
        · exact .inl h2
        · rcases Nat.lt_or_eq_of_le (Nat.le_of_lt_succ h2) with h5 | rfl
          · exact .inr ⟨y, h5, h3, h4⟩
          · exact absurd h3 h1
theorem allX_bit {A : List Nat} {k : Nat} (hA : ∀ i k, (A.getD i 0).testBit k = true → k < i) (x : Nat) : (allX A k).testBit x = true ↔ ∃ y, (A.getD k 0).testBit y = true ∧ (x = y ∨ (allX A y).testBit x = true) := by
  rw [allX_eq, aU_bit x k (Nat.le_refl _)]
  constructor
  · rintro (h | ⟨y, _, h2, h3⟩)
    · exact ⟨x, h, .inl rfl⟩
    · exact ⟨y, h2, .inr h3⟩
  · rintro ⟨y, h2, rfl | h3⟩
    · exact .inl h2
    · exact .inr ⟨y, hA k y h2, h2, h3⟩
theorem allX_low {A : List Nat} (hA : ∀ i k, (A.getD i 0).testBit k = true → k < i) : ∀ N k, k ≤ N → ∀ x, (allX A k).testBit x = true → x < k
  | 0, k, hk, x, h => by
    obtain rfl : k = 0 := by omega
    obtain ⟨y, h1, _⟩ := (allX_bit hA x).mp h
    have := hA 0 y h1; omega
  | N + 1, k, hk, x, h => by
    obtain ⟨y, h1, h2⟩ := (allX_bit hA x).mp h
    have h3 := hA k y h1
    rcases h2 with rfl | h2
    · exact h3
    · have := allX_low hA N y (by omega) x h2; omega
theorem allX_lt {A : List Nat} (hA : ∀ i k, (A.getD i 0).testBit k = true → k < i) (k : Nat) : allX A k < 2 ^ k :=
  Nat.lt_pow_two_of_testBit _ fun i hi => by
    cases h : (allX A k).testBit i
    · rfl
    · have := allX_low hA k k (Nat.le_refl _) i h; omega
theorem aU_lt {A : List Nat} (hA : ∀ i k, (A.getD i 0).testBit k = true → k < i) (k m : Nat) (hm : m ≤ k) : aU A (allT A k) k m < 2 ^ k :=
  Nat.lt_pow_two_of_testBit _ fun i hi => by
    cases h : (aU A (allT A k) k m).testBit i
    · rfl
    · rcases (aU_bit i m hm).mp h with h1 | ⟨y, h1, h2, h3⟩
      · have := hA k i h1; omega
      · have := hA k y h2; have := allX_low hA y y (Nat.le_refl _) i h3; omega
/-- those behind are those that all ahead of them hold -/
theorem bsM_keep {A : List Nat} {i x : Nat} : ∀ d, (bsM A i (x + 1 + d)).testBit x = (bsM A i (x + 1)).testBit x
  | 0 => rfl
  | d + 1 => by
    rw [← bsM_keep d]
    by_cases h : i < x + 1 + d
    · rw [show x + 1 + (d + 1) = (x + 1 + d) + 1 by omega, bsM_step h, show decide (x = x + 1 + d) = false by simp; omega, Bool.false_and, Bool.or_false]
    · by_cases h2 : x + 1 + d = i
      · subst h2
        rw [bsM_low (A := A) (i := x + 1 + d) (x + 1 + d) (Nat.le_refl _), show x + 1 + (d + 1) = (x + 1 + d) + 1 by omega, bsM, if_neg (by omega), if_pos rfl, Nat.testBit_two_pow]
        simp; omega
      · rw [bsM_low _ (by omega), bsM_low _ (by omega)]
theorem bsM_all {A : List Nat} (hA : ∀ i k, (A.getD i 0).testBit k = true → k < i) {i : Nat} : ∀ N x n, x ≤ N → x < n → ((bsM A i n).testBit x = true ↔ x = i ∨ (allX A x).testBit i = true)
  | N, x, n, hN, hx => by
    have hk := bsM_keep (A := A) (i := i) (x := x) (n - x - 1)
    rw [show x + 1 + (n - x - 1) = n by omega] at hk
    rw [hk]
    rcases Nat.lt_trichotomy x i with h | h | h
    · rw [bsM_low _ (by omega)]
      constructor
      · intro h2; simp at h2
      · rintro (h2 | h2)
        · omega
        · have := allX_low hA x x (Nat.le_refl _) i h2; omega
    · subst h
      rw [bsM, if_neg (by omega), if_pos rfl, Nat.testBit_two_pow]; simp
    · rw [bsM_step h, bsM_out (Nat.le_refl _), Bool.false_or]
      simp only [decide_true, Bool.true_and, decide_eq_true_eq]
      rw [allX_bit hA]
      constructor
      · intro h2
        obtain ⟨y, h3, h4⟩ := and_ne_get h2
        have hy := hA x y h3
        refine .inr ⟨y, h3, ?_⟩
        rcases (bsM_all hA (N - 1) y x (by omega) hy).mp h4 with h5 | h5
        · exact .inl h5.symm
        · exact .inr h5
      · rintro (h2 | ⟨y, h3, h4⟩)
        · omega
        · have hy := hA x y h3
          refine and_ne h3 ((bsM_all hA (N - 1) y x (by omega) hy).mpr ?_)
          rcases h4 with h5 | h5
          · exact .inl h5.symm
          · exact .inr h5
termination_by N x _ _ _ => x
decreasing_by all_goals exact hA _ _ h3
/-- the weights, as the program adds them up: k tasks are added, of the next one m others -/
def wC (T : List Int) (A : List Nat) (i k : Nat) : Int := csum T (fun x => x == i || (allX A x).testBit i) k
theorem wC_all {T : List Int} {A : List Nat} (hA : ∀ i k, (A.getD i 0).testBit k = true → k < i) (i : Nat) : wC T A i T.length = wM T A i := by
  unfold wC wM
  refine csum_congr _ fun x hx => ?_
  have := bsM_all hA (i := i) x x T.length (Nat.le_refl _) hx
  rw [Bool.eq_iff_iff, Bool.or_eq_true, beq_iff_eq]
  exact this.symm
theorem wC_succ (T : List Int) (A : List Nat) (i k : Nat) : wC T A i (k + 1) = wC T A i k + (if k = i ∨ (allX A k).testBit i = true then T.getD k 0 else 0) := by
  unfold wC
  rw [csum]
  congr 1
  simp only [Bool.or_eq_true, beq_iff_eq]
theorem or_add {D q : Nat} (h : D.testBit q = false) : D ||| 2 ^ q = D + 2 ^ q := by
  apply Nat.eq_of_testBit_eq; intro i
  rw [add_bit h, Nat.testBit_or, Nat.testBit_two_pow]
  by_cases hq : q = i
  · subst hq; simp
  · simp [hq, Ne.symm hq]
end Go.Proofs.Ytmcongioghkdcac
namespace Go.Proofs.Ytmcongioghkdcac
open Go.RowKit Go.WideShapes

theorem p2_le {n : Nat} (h : n ≤ 20) : 1 ≤ 2 ^ n ∧ 2 ^ n ≤ 1048576 := ⟨Nat.two_pow_pos n, by have := Nat.pow_le_pow_right (n := 2) (by omega) h; omega⟩
theorem allOf_any (n : Nat) (hn : n ≤ 20) (w : World) :
    Calls Try.prog 28 #[.int .i64 n] w fun e w' => e = .returned (.int .i64 (((2 ^ n - 1 : Nat) : Nat) : Int)) ∧ w = w' := by
  have hp := p2_le hn
  go_enter Try.func28, Try.ntmps28
  go_wp2
  go_ret
  refine ⟨ret_int ?_, rfl⟩
  have e : ((2 : Int) ^ n) = ((2 ^ n : Nat) : Int) := by push_cast; rfl
  rw [e]
  generalize 2 ^ n = p at hp ⊢
  have e1 : wrap64 (p : Int) = p := w64_id (by omega) (by omega)
  rw [e1]
  have e2 : wrap64 ((p : Int) - 1) = (p : Int) - 1 := w64_id (by omega) (by omega)
  rw [e2]
  omega
theorem inSet_any (s j : Nat) (hs : s < 1048576) (hj : j ≤ 20) (w : World) :
    Calls Try.prog 30 #[.int .i64 s, .int .i64 j] w fun e w' => e = .returned (.bool (s.testBit j)) ∧ w = w' := by
  go_enter Try.func30, Try.ntmps30
  go_wp2
  go_ret
  refine ⟨ret_bool ?_, rfl⟩
  have h2 : s / 2 ^ j ≤ s := Nat.div_le_self _ _
  have e : (s : Int) / 2 ^ j = ((s / 2 ^ j : Nat) : Int) := by push_cast; rfl
  rw [e, Nat.testBit_eq_decide_div_mod_eq]
  generalize s / 2 ^ j = x at h2 ⊢
  have hx : x < 1048576 := by omega
  rw [show (1 : Int) = ((1 : Nat) : Int) from rfl, i_and x 1 hx (by omega), Nat.and_one_is_mod, Bool.eq_iff_iff, beq_iff_eq, decide_eq_true_eq]
  omega
end Go.Proofs.Ytmcongioghkdcac
namespace Go.Proofs.Ytmcongioghkdcac
open Go.RowKit Go.WideShapes

/-- where the job that comes at place k stands, and its times -/
theorem job_at {w : World} {S T : Nat → Prop} {a a2 : Option Addr} {len len2 : Nat} {rows : List (List Int)} {o : List Int} (h : RowsAt w S a len rows) (g : IntsAt w T a2 len2 o) (hP : ∀ r ∈ rows, r.length = 2 ∧ (0 ≤ r.getD 0 0 ∧ r.getD 0 0 ≤ 9) ∧ (0 ≤ r.getD 1 0 ∧ r.getD 1 0 ≤ 9))
    (ho : ∀ x ∈ o, 0 ≤ x ∧ x < (len : Int)) {k : Nat} (hk : k < len2) : ∃ (b off q b2 off2 b3 off3 c : Nat), a2 = some ⟨b, off, none⟩ ∧ a = some ⟨b2, off2, none⟩ ∧ o[k]? = some (q : Int) ∧ q < len ∧ w.cell? ⟨b, off + k, none⟩ = some (.int .i64 (q : Int)) ∧
      w.cell? ⟨b2, off2 + q, none⟩ = some (.slice (some ⟨b3, off3, none⟩) 2 c) ∧ w.cell? ⟨b3, off3, none⟩ = some (.int .i64 (ta rows q)) ∧ w.cell? ⟨b3, off3 + 1, none⟩ = some (.int .i64 (tb rows q)) := by
  obtain ⟨b, off, x, rfl, hx, hc⟩ := g.get hk
  have hxb := ho x (List.mem_of_getElem? hx)
  obtain ⟨q, rfl⟩ : ∃ q : Nat, x = (q : Int) := ⟨x.toNat, by omega⟩
  have hql : q < len := by omega
  obtain ⟨b2, off2, r, a', l, c, rfl, hr, hcr, _, hri⟩ := h.get hql
  obtain ⟨hr2, _, _⟩ := hP r (List.mem_of_getElem? hr)
  have hl2 : l = 2 := by rw [← hri.lenEq, hr2]
  subst hl2
  obtain ⟨b3, off3, x3, rfl, h3, hc3⟩ := hri.get (k := 0) (by omega)
  obtain ⟨b4, off4, x4, e4, h4, hc4⟩ := hri.get (k := 1) (by omega)
  cases e4
  have ht := t_at hr
  rw [getD_of h3, getD_of h4] at ht
  rw [Nat.add_zero] at hc3
  exact ⟨b, off, q, b2, off2, b3, off3, c, rfl, rfl, hx, hql, hc, hcr, by rw [ht.1]; exact hc3, by rw [ht.2]; exact hc4⟩
def turnsRes (rows : List (List Int)) (o : List Int) : Int := spanRes rows o
theorem nO_take (o : List Int) (k : Nat) : nO (o.take k) = (nO o).take k := by simp [nO, List.map_take]
theorem nO_length (o : List Int) : (nO o).length = o.length := by simp [nO]
theorem sum_take_snoc {o : List Int} {k q : Nat} (f : Nat → Int) (h : o[k]? = some (q : Int)) : sumL f ((nO o).take (k + 1)) = sumL f ((nO o).take k) + f q := by
  rw [← nO_take, ← nO_take, nO_snoc h, sumL_append, Int.toNat_natCast, sumL, sumL, Int.add_zero]
theorem sum_mid_snoc {o : List Int} {i k q : Nat} (f : Nat → Int) (h : o[i]? = some (q : Int)) (hki : k ≤ i) : sumL f (((nO o).take (i + 1)).drop k) = sumL f (((nO o).take i).drop k) + f q := by
  have hi : i < o.length := (List.getElem?_eq_some_iff.1 h).1
  rw [← nO_take, ← nO_take, nO_snoc h, List.drop_append_of_le_length (by rw [nO_length, List.length_take]; omega), sumL_append, Int.toNat_natCast, sumL, sumL, Int.add_zero]
end Go.Proofs.Ytmcongioghkdcac
namespace Go.Proofs.Ytmcongioghkdcac
open Go.RowKit Go.WideShapes

theorem pair_allIn {r : List Int} (h : r.length = 2) : pairB r = allIn 0 9 r := by
  obtain ⟨x, y, rfl⟩ : ∃ x y, r = [x, y] := by
    cases r with
    | nil => simp at h
    | cons x r => cases r with
      | nil => simp at h
      | cons y r => cases r with
        | nil => exact ⟨x, y, rfl⟩
        | cons z r => simp at h
  simp [pairB, allIn]
theorem nodup_cover {α : Type} [DecidableEq α] : ∀ (l s : List α), s.Nodup → s ⊆ l → l.length ≤ s.length → l.Nodup := by
  intro l
  induction l with
  | nil => intro s _ _ _; exact List.nodup_nil
  | cons x t ih =>
    intro s hn hs hl
    have hx : x ∉ t := by
      intro hm
      have h1 : s ⊆ t := fun y hy => by
        rcases List.mem_cons.1 (hs hy) with rfl | h
        · exact hm
        · exact h
      have := List.Nodup.length_le_of_subset hn h1
      simp at hl; omega
    refine List.nodup_cons.2 ⟨hx, ih (s.erase x) (hn.erase x) (fun y hy => ?_) ?_⟩
    · have h1 := (List.Nodup.mem_erase_iff hn).1 hy
      rcases List.mem_cons.1 (hs h1.2) with h | h
      · exact absurd h h1.1
      · exact h
    · have : s.length - 1 ≤ (s.erase x).length := by rw [List.length_erase]; split <;> omega
      simp at hl; omega
theorem order_full {o : List Int} {n D : Nat} (hr : ∀ x ∈ o, 0 ≤ x ∧ x < (n : Int)) (hl : o.length = n) (hD : ∀ i, D.testBit i = decide ((i : Int) ∈ o)) : orderM o n = decide (D = 2 ^ n - 1) := by
  rw [Bool.eq_iff_iff, decide_eq_true_eq]
  constructor
  · intro h
    have hp := nO_perm (orderM_get h)
    apply Nat.eq_of_testBit_eq
    intro i
    rw [hD, Nat.testBit_two_pow_sub_one]
    refine decide_eq_decide.2 ⟨fun hm => by have := hr _ hm; omega, fun hi => ?_⟩
    have := hp.mem_iff.2 (List.mem_range.2 hi)
    obtain ⟨y, hy, rfl⟩ := List.mem_map.1 this
    have := hr y hy
    rwa [Int.toNat_of_nonneg this.1]
  · intro h
    subst h
    refine decide_eq_true ⟨⟨hr, ?_⟩, hl⟩
    have hn : (nO o).Nodup := nodup_cover (nO o) (List.range n) List.nodup_range (fun i hi => by
      have hi := List.mem_range.1 hi
      have := hD i
      rw [Nat.testBit_two_pow_sub_one, decide_eq_true hi] at this
      have hm := of_decide_eq_true this.symm
      exact List.mem_map.2 ⟨(i : Int), hm, by simp⟩) (by simp [nO, hl])
    exact (List.pairwise_map.1 hn).imp (fun {x y} h e => h (by rw [e]))
set_option maxHeartbeats 1000000 in
theorem isOrder_any (S : Nat → Prop) (a : Option Addr) (len cap : Nat) (o : List Int) (n : Nat) (w : World) (h : IntsAt w S a len o) (hn : n ≤ 8) :
    Calls Try.prog 51 #[.slice a len cap, .int .i64 n] w fun e w' => e = .returned (.bool (orderM o n)) ∧ w = w' := by
  have hs := h.small
  have HL := Lib.hid h.lenEq
  by_cases hln : len = n
  · subst hln
    have hp8 : 1 ≤ 2 ^ len ∧ 2 ^ len ≤ 256 := ⟨Nat.two_pow_pos _, Nat.pow_le_pow_right (n := 2) (j := 8) (by omega) hn⟩
    have HALL := Lib.hid (fun w => allOf_any len (by omega) w)
    have hneq : ((len : Int) != (len : Int)) = false := by simp
    go_enter Try.func51, Try.ntmps51
    go_wp2_with fail
    go_loop [5, 14] (fun s i => ∃ k D : Nat, k ≤ len ∧ i = .int .i64 k ∧ s = .int .i64 (D : Int) ∧ (∀ x ∈ o.take k, 0 ≤ x ∧ x < (len : Int)) ∧ ∀ i, D.testBit i = decide ((i : Int) ∈ o.take k)) (fun _ i => len - (intOf i).toNat)
    case atStart => exact ⟨0, 0, Nat.zero_le _, rfl, rfl, fun x hx => by simp at hx, fun i => by simp⟩
    case round =>
      obtain ⟨k, D, hk, rfl, rfl, h1, h3⟩ := hrel
      have hD : D < 2 ^ len := Nat.lt_pow_two_of_testBit _ (fun i hi => by
        rw [h3]; exact decide_eq_false (fun hm => by have := h1 _ hm; omega))
      have H1 := Lib.hid h1
      have H3 := Lib.hid h3
      clear h1 h3
      by_cases hlt : k < len
      · obtain ⟨b, off, x, rfl, hx, hc⟩ := h.get hlt
        have HX := Lib.hid hx
        have hkl : (k : Int) < (len : Int) := by omega
        clear hx
        cases hq : inB 0 ((len : Int) - 1) x
        · go_wp2_with (go_at_call 55; refine (isUpTo_any _ _ _).mono ?_; rintro e w' ⟨rfl, rfl⟩)
          go_ret
          exact ⟨ret_bool (order_bad HX.out hq).symm, rfl⟩
        · have hxb : 0 ≤ x ∧ x ≤ (len : Int) - 1 := by simpa [inB] using hq
          obtain ⟨q, rfl⟩ : ∃ q : Nat, x = (q : Int) := ⟨x.toNat, by omega⟩
          have hpq : 1 ≤ 2 ^ q ∧ 2 ^ q ≤ 256 := ⟨Nat.two_pow_pos _, Nat.pow_le_pow_right (n := 2) (j := 8) (by omega) (by omega)⟩
          obtain ⟨pq, hpqe⟩ : ∃ pq, 2 ^ q = pq := ⟨_, rfl⟩
          have HPQ := Lib.hid hpqe
          rw [hpqe] at hpq
          clear hpqe
          go_wp2_with (go_at_call 55; refine (isUpTo_any _ _ _).mono ?_; rintro e w' ⟨rfl, rfl⟩)
          go_round
          case rel => exact ⟨k + 1, D ||| pq, by omega, by go_num, by
              rw [show ((2 : Int) ^ q) = ((pq : Nat) : Int) by rw [← HPQ.out]; push_cast; rfl, w64_id (by omega) (by omega), i_or D pq (by omega) (by omega)], fun x hx => by
              rw [take_get HX.out] at hx
              rcases List.mem_append.1 hx with hx | hx
              · exact H1.out x hx
              · simp at hx; omega, fun i => by
              rw [← HPQ.out, Nat.testBit_or, H3.out, take_get HX.out, Nat.testBit_two_pow, Bool.eq_iff_iff]
              simp only [Bool.or_eq_true, decide_eq_true_eq, List.mem_append, List.mem_singleton]
              exact or_congr Iff.rfl ⟨fun e => by omega, fun e => by omega⟩⟩
          case measure => simp [intOf] <;> omega
      · obtain rfl : k = len := by omega
        have hall : o.take k = o := List.take_of_length_le (by rw [HL.out]; omega)
        have HF := Lib.hid (show orderM o k = ((D : Int) == ((2 ^ k - 1 : Nat) : Int)) by
          have h1 := H1.out
          have h3 := H3.out
          rw [hall] at h1 h3
          rw [order_full h1 HL.out h3, Bool.eq_iff_iff, decide_eq_true_eq, beq_iff_eq]
          omega)
        generalize 2 ^ k - 1 = p at *
        clear hall
        go_wp2_with (go_at_call 28; refine (HALL.out _).mono ?_; rintro e w' ⟨rfl, rfl⟩)
        go_ret
        exact ⟨ret_bool HF.out.symm, rfl⟩
  · have HF := Lib.hid (show orderM o n = false from decide_eq_false fun hp => by have := hp.2; have := HL.out; omega)
    have hne : ((len : Int) != (n : Int)) = true := by simp; omega
    go_enter Try.func51, Try.ntmps51
    go_wp2_with fail
    go_ret
    exact ⟨ret_bool HF.out.symm, rfl⟩
-- the span
end Go.Proofs.Ytmcongioghkdcac
