import Derived.Test.YthmifadnfaajbabRows
import Derived.WalkKit
import Derived.LoopTactic
import Derived.Outline
import Derived.WalkSpells
import Derived.WalkLawsBesides
import Derived.ProofKit
import Derived.Lib.Hide
import Derived.Test.YthmifadnfaajbabM0
import Derived.Test.YthmifadnfaajbabM1
import Derived.Test.YthmifadnfaajbabM5
import Derived.Test.YthmifadnfaajbabM2
import Derived.Test.YthmifadnfaajbabM3
import Derived.Test.YthmifadnfaajbabM4
import Derived.Test.YthmifadnfaajbabM16
import Derived.IntWalk
namespace Go.Proofs.Ythmifadnfaajbab
open Go.RowKit Go.WideShapes

def revM (xs : List Int) : List Int := tab (fun q => xs.getD (xs.length - 1 - q) 0) xs.length
theorem revM_length (xs : List Int) : (revM xs).length = xs.length := tab_length _ _
theorem revM_getD (xs : List Int) {q : Nat} (h : q < xs.length) : (revM xs).getD q 0 = xs.getD (xs.length - 1 - q) 0 := tab_getD _ h
end Go.Proofs.Ythmifadnfaajbab
namespace Go.Proofs.Ythmifadnfaajbab

theorem csum_sumN (T : List Int) : ∀ n, csum T (fun _ => true) n = sumN T n := by
  intro n
  induction n with
  | zero => rfl
  | succ n ih => rw [csum, sumN, ih]; simp
theorem total_csum (T : List Int) : totalM T = csum T (fun _ => true) T.length := by rw [totalM_eq, csum_sumN]
theorem few_nil {T : List Int} {A : List Nat} {c : Int} (h : T.length = 0) : fewM T A c = 0 := by
  unfold fewM; rw [h]; rfl
theorem few_facts {T ys : List Int} {c : Int} (h : lineP T ys c) : (0 ≤ fewM T (natsOf ys) c ∧ fewM T (natsOf ys) c ≤ 6) ∧ totalM T ≤ fewM T (natsOf ys) c * c := by
  have hl : (natsOf ys).length = T.length := by rw [natsOf_len]; exact h.2.1.2.1
  have hA := natsOf_hA h.2.1.1.2
  have hc := lineP_c h
  have h1 := few_nn (T := T) (A := natsOf ys) (c := c) hl hA (by omega) h.1
  have h2 := h.2.1.2.2
  obtain ⟨p, hp⟩ := few_get (T := T) (A := natsOf ys) (c := c) hl (by omega) hA h1.1
  have h3 := hp.total
  rw [total_csum]
  refine ⟨by omega, ?_⟩
  rwa [Int.toNat_of_nonneg h1.1] at h3
theorem few_more {T ys : List Int} {c : Int} (h : lineP T ys c) : fewRes T ys (c + 1) < 0 ∨ fewRes T ys (c + 1) ≤ fewM T (natsOf ys) c := by
  have hl : (natsOf ys).length = T.length := by rw [natsOf_len]; exact h.2.1.2.1
  have hA := natsOf_hA h.2.1.1.2
  have hc := lineP_c h
  unfold fewRes
  split
  · right; exact few_up hl hA (by omega) (by omega) (few_facts h).1.1
  · left; omega
theorem fewRes_bd (T ys : List Int) (c : Int) : -1 ≤ fewRes T ys c ∧ fewRes T ys c ≤ 6 := by
  unfold fewRes
  split
  · rename_i h; have := (few_facts h).1; omega
  · omega
theorem by_line {T ys : List Int} {c : Int} (h : lineP T ys c) : (byM T (natsOf ys) (weightsM T (natsOf ys)) c).length = T.length := by
  have hl : (natsOf ys).length = T.length := by rw [natsOf_len]; exact h.2.1.2.1
  exact (by_spec hl (natsOf_hA h.2.1.1.2) (fun k hk => ⟨(tasks_at h.2.1.1.1).2 k hk, h.1 k hk⟩) (by have := lineP_c h; omega)).1
theorem byRes_line {T ys : List Int} {c : Int} (h : lineP T ys c) : byRes T ys c = byM T (natsOf ys) (weightsM T (natsOf ys)) c := if_pos h
theorem byRes_no {T ys : List Int} {c : Int} (h : ¬ lineP T ys c) : byRes T ys c = [] := if_neg h
theorem few_by {T ys : List Int} {c : Int} (h : lineP T ys c) (h0 : T.length ≠ 0) : fewM T (natsOf ys) c ≤ greatM (byRes T ys c) + 1 := by
  have hl : (natsOf ys).length = T.length := by rw [natsOf_len]; exact h.2.1.2.1
  rw [byRes_line h]
  refine by_few (W := weightsM T (natsOf ys)) hl (natsOf_hA h.2.1.1.2) (fun k hk => ⟨(tasks_at h.2.1.1.1).2 k hk, h.1 k hk⟩) (by have := lineP_c h; omega) (fun i hi => ?_) h0
  rw [← by_line h] at hi
  exact greatM_ge _ (List.mem_of_getElem? (get_getD hi))
theorem tasks_take {T ys : List Int} (h : tasksP T ys) (n : Nat) : tasksP (T.take n) (ys.take n) := by
  obtain ⟨⟨h1, h2⟩, h3, h4⟩ := h
  refine ⟨⟨?_, fun i hi => ?_⟩, by simp; omega, by simp; omega⟩
  · unfold allIn at h1 ⊢
    rw [List.all_eq_true] at h1 ⊢
    exact fun x hx => h1 x (List.mem_of_mem_take hx)
  · have hi' : i < ys.length ∧ i < n := by simp at hi; omega
    have e : (ys.take n).getD i 0 = ys.getD i 0 := by
      rw [List.getD_eq_getElem?_getD, List.getD_eq_getElem?_getD, List.getElem?_take, if_pos hi'.2]
    rw [e]; exact h2 i hi'.1
/-- how many of 0 .. V - 1 are among the first k -/
def cntM (xs : List Int) (k : Nat) : Nat → Nat
  | 0 => 0
  | V + 1 => cntM xs k V + (if inM (xs.take k) (V : Int) then 1 else 0)
theorem inM_snoc (l : List Int) (x y : Int) : inM (l ++ [x]) y = (inM l y || decide (x = y)) := by
  rw [Bool.eq_iff_iff, inM_iff, Bool.or_eq_true, inM_iff, decide_eq_true_eq, List.mem_append, List.mem_singleton]
  exact ⟨fun h => h.imp id Eq.symm, fun h => h.imp id Eq.symm⟩
theorem cntM_next {xs : List Int} {k : Nat} (hk : k < xs.length) (hx : 0 ≤ xs.getD k 0) : ∀ V : Nat, cntM xs (k + 1) V = cntM xs k V + (if inM (xs.take k) (xs.getD k 0) = false ∧ xs.getD k 0 < (V : Int) then 1 else 0) := by
  intro V
  induction V with
  | zero =>
    have c : ¬ (inM (xs.take k) (xs.getD k 0) = false ∧ xs.getD k 0 < ((0 : Nat) : Int)) := fun h => by have := h.2; omega
    rw [if_neg c]; rfl
  | succ V ih =>
    rw [cntM, cntM, ih, take_get (get_getD hk), inM_snoc]
    by_cases hv : xs.getD k 0 = (V : Int)
    · have c1 : ¬ (inM (xs.take k) (xs.getD k 0) = false ∧ xs.getD k 0 < (V : Int)) := fun h => by have := h.2; omega
      rw [decide_eq_true hv, Bool.or_true, if_neg c1, if_pos rfl]
      cases hi : inM (xs.take k) (V : Int)
      · have c2 : inM (xs.take k) (xs.getD k 0) = false ∧ xs.getD k 0 < ((V + 1 : Nat) : Int) := ⟨by rw [hv, hi], by omega⟩
        rw [if_pos c2]; simp
      · have c2 : ¬ (inM (xs.take k) (xs.getD k 0) = false ∧ xs.getD k 0 < ((V + 1 : Nat) : Int)) := fun h => by rw [hv, hi] at h; cases h.1
        rw [if_neg c2]; simp
    · rw [decide_eq_false hv, Bool.or_false]
      by_cases c3 : inM (xs.take k) (xs.getD k 0) = false ∧ xs.getD k 0 < (V : Int)
      · have c4 : inM (xs.take k) (xs.getD k 0) = false ∧ xs.getD k 0 < ((V + 1 : Nat) : Int) := ⟨c3.1, by have := c3.2; omega⟩
        rw [if_pos c3, if_pos c4]; omega
      · have c4 : ¬ (inM (xs.take k) (xs.getD k 0) = false ∧ xs.getD k 0 < ((V + 1 : Nat) : Int)) := fun h => c3 ⟨h.1, by have := h.2; omega⟩
        rw [if_neg c3, if_neg c4]; omega
/-- of numbers in 0..P, each of which is there, so many are different -/
theorem diff_all {xs : List Int} {P : Nat} (h : ∀ k, k < xs.length → 0 ≤ xs.getD k 0 ∧ xs.getD k 0 ≤ P) (ha : ∀ j : Nat, j ≤ P → ∃ i, i < xs.length ∧ xs.getD i 0 = (j : Int)) : diffM xs xs.length = P + 1 := by
  have all : ∀ k, k ≤ xs.length → diffM xs k = cntM xs k (P + 1) := by
    intro k
    induction k with
    | zero =>
      intro _
      have e : ∀ V, cntM xs 0 V = 0 := by
        intro V
        induction V with
        | zero => rfl
        | succ V ih => rw [cntM, ih]; simp [inM]
      rw [e]; rfl
    | succ k ih =>
      intro hk
      rw [diffM, ih (by omega), cntM_next (by omega) (h k (by omega)).1]
      have := (h k (by omega)).2
      cases hi : inM (xs.take k) (xs.getD k 0)
      · have c : (false = false ∧ xs.getD k 0 < ((P + 1 : Nat) : Int)) := ⟨rfl, by omega⟩
        rw [if_pos c]; rfl
      · have c : ¬ (true = false ∧ xs.getD k 0 < ((P + 1 : Nat) : Int)) := fun h => by cases h.1
        rw [if_neg c]; rfl
  rw [all _ (Nat.le_refl _)]
  have full : ∀ V, V ≤ P + 1 → cntM xs xs.length V = V := by
    intro V
    induction V with
    | zero => intro _; rfl
    | succ V ih =>
      intro hV
      obtain ⟨i, hi, e⟩ := ha V (by omega)
      rw [cntM, ih (by omega), List.take_length, inM_iff.2 (by rw [← e]; exact List.mem_of_getElem? (get_getD hi))]; rfl
  exact full _ (Nat.le_refl _)
theorem great_all {xs : List Int} {P : Nat} (h : ∀ k, k < xs.length → 0 ≤ xs.getD k 0 ∧ xs.getD k 0 ≤ P) (ha : ∃ i, i < xs.length ∧ xs.getD i 0 = (P : Int)) : greatM xs = P := by
  obtain ⟨i, hi, e⟩ := ha
  have h1 := greatM_ge _ (List.mem_of_getElem? (get_getD hi))
  have h2 := greatM_le (xs := xs) (B := P) (by omega) (fun x hx => by
    obtain ⟨k, hk, rfl⟩ := List.mem_iff_getElem.1 hx
    have := (h k hk).2
    rwa [List.getD_eq_getElem?_getD, List.getElem?_eq_getElem hk] at this)
  omega
theorem tact_facts {T ys : List Int} {p : Int} (h : tactFine T ys p = true) : (1 ≤ leastT T (natsOf ys) p ∧ leastT T (natsOf ys) p ≤ 54) ∧ (1 ≤ p ∧ p ≤ 6) ∧ (0 ≤ fewRes T ys (leastT T (natsOf ys) p) ∧ fewRes T ys (leastT T (natsOf ys) p) ≤ p) ∧
    (leastT T (natsOf ys) p = 1 ∨ fewRes T ys ((leastT T (natsOf ys) p : Int) - 1) < 0 ∨ p < fewRes T ys ((leastT T (natsOf ys) p : Int) - 1)) ∧ totalM T ≤ (leastT T (natsOf ys) p : Int) * p ∧ (0 ≤ totalM T ∧ totalM T ≤ 54) ∧ ∀ x ∈ T, -1099511627776 ≤ x ∧ x ≤ 1099511627776 := by
  simp only [tactFine, Bool.and_eq_true] at h
  have hP := tasksM_get h.1
  have hp : 1 ≤ p ∧ p ≤ 6 := by simpa [inB] using h.2
  have hl : (natsOf ys).length = T.length := by rw [natsOf_len]; exact hP.2.1
  have hA := natsOf_hA hP.1.2
  obtain ⟨hok, h1, h54, hno⟩ := least_spec (T := T) (A := natsOf ys) hl hP.2.2 hA (tasks_at hP.1.1).1 (places := p) hp.1
  have hL : lineP T ys (leastT T (natsOf ys) p) := ⟨hok.1, hP, inB_true (by omega) (by omega)⟩
  have hF := few_facts hL
  have hR : fewRes T ys (leastT T (natsOf ys) p) = fewM T (natsOf ys) (leastT T (natsOf ys) p) := if_pos hL
  refine ⟨⟨h1, h54⟩, hp, by rw [hR]; exact ⟨hF.1.1, hok.2⟩, ?_, by rw [total_csum]; exact least_total hl hA (by omega) hF.1.1 hok.2, ?_, fun x hx => ?_⟩
  · by_cases e : leastT T (natsOf ys) p = 1
    · exact .inl e
    · right
      have hn := hno (leastT T (natsOf ys) p - 1) (by omega) (by omega)
      have e1 : (leastT T (natsOf ys) p : Int) - 1 = ((leastT T (natsOf ys) p - 1 : Nat) : Int) := by omega
      rw [e1]
      unfold fewRes
      split
      · rename_i hl2
        right
        have : ¬ fewM T (natsOf ys) ((leastT T (natsOf ys) p - 1 : Nat) : Int) ≤ p := fun h => hn ⟨hl2.1, h⟩
        omega
      · left; omega
  · rw [total_csum]
    have := csum_range (tasks_at hP.1.1).1 (fun _ => true) T.length
    have := hP.2.2; omega
  · obtain ⟨k, hk, rfl⟩ := List.mem_iff_getElem.1 hx
    have := (tasks_at hP.1.1).1 k
    rw [List.getD_eq_getElem?_getD, List.getElem?_eq_getElem hk] at this
    simp at this; omega
theorem by_loads {T ys : List Int} {c : Int} (h : lineP T ys c) : (∀ i, i < T.length → 0 ≤ (byRes T ys c).getD i 0 ∧ (byRes T ys c).getD i 0 ≤ 6) ∧ (∀ i, i < T.length → ∀ k, ((natsOf ys).getD i 0).testBit k = true → (byRes T ys c).getD k 0 ≤ (byRes T ys c).getD i 0) ∧
    (∀ j : Int, csum T (fun i => (byRes T ys c).getD i 0 == j) T.length ≤ c) := by
  have hl : (natsOf ys).length = T.length := by rw [natsOf_len]; exact h.2.1.2.1
  rw [byRes_line h]
  obtain ⟨hbl, P, h1, h2, h3, h4⟩ := by_spec (W := weightsM T (natsOf ys)) hl (natsOf_hA h.2.1.1.2) (fun k hk => ⟨(tasks_at h.2.1.1.1).2 k hk, h.1 k hk⟩) (show 0 ≤ c by have := lineP_c h; omega)
  refine ⟨fun i hi => ?_, h2, h3⟩
  have hd := diff_all (xs := byM T (natsOf ys) (weightsM T (natsOf ys)) c) (P := P) (fun k hk => h1 k (by omega)) (fun j hj => by
    obtain ⟨i, hi, e⟩ := h4 (by omega) j hj
    exact ⟨i, by omega, e⟩)
  have hle := diffM_le (byM T (natsOf ys) (weightsM T (natsOf ys)) c) (byM T (natsOf ys) (weightsM T (natsOf ys)) c).length
  have := h1 i hi
  have := h.2.1.2.2
  omega
theorem by_great {T ys : List Int} {c : Int} (h : lineP T ys c) (h0 : T.length ≠ 0) : ∃ P : Nat, P < T.length ∧ greatM (byRes T ys c) = P ∧ diffM (byRes T ys c) T.length = P + 1 := by
  have hl : (natsOf ys).length = T.length := by rw [natsOf_len]; exact h.2.1.2.1
  rw [byRes_line h]
  obtain ⟨hbl, P, h1, _, _, h4⟩ := by_spec (W := weightsM T (natsOf ys)) hl (natsOf_hA h.2.1.1.2) (fun k hk => ⟨(tasks_at h.2.1.1.1).2 k hk, h.1 k hk⟩) (show 0 ≤ c by have := lineP_c h; omega)
  have hd := diff_all (xs := byM T (natsOf ys) (weightsM T (natsOf ys)) c) (P := P) (fun k hk => h1 k (by omega)) (fun j hj => by
    obtain ⟨i, hi, e⟩ := h4 h0 j hj
    exact ⟨i, by omega, e⟩)
  have hg := great_all (xs := byM T (natsOf ys) (weightsM T (natsOf ys)) c) (P := P) (fun k hk => h1 k (by omega)) (by
    obtain ⟨i, hi, e⟩ := h4 h0 P (Nat.le_refl _)
    exact ⟨i, by omega, e⟩)
  have hle := diffM_le (byM T (natsOf ys) (weightsM T (natsOf ys)) c) T.length
  rw [hbl] at hd
  exact ⟨P, by omega, hg, hd⟩
end Go.Proofs.Ythmifadnfaajbab
namespace Go.Proofs.Ythmifadnfaajbab

/-- how many tasks a set has -/
def popM (s : Nat) : Int := 6 - (undone s 6 : Int)
theorem popM_bd (s : Nat) : 0 ≤ popM s ∧ popM s ≤ 6 := by unfold popM; have := undone_le s 6; omega
theorem top_of {s n : Nat} (h0 : s ≠ 0) (h : s < 2 ^ n) : ∃ q r, q < n ∧ s = r + 2 ^ q ∧ r < 2 ^ q := by
  have h1 := Nat.log2_self_le h0
  have h2 := Nat.lt_log2_self (n := s)
  rw [Nat.pow_succ] at h2
  exact ⟨s.log2, s - 2 ^ s.log2, (Nat.pow_lt_pow_iff_right (by omega)).1 (Nat.lt_of_le_of_lt h1 h), by omega, by omega⟩
theorem clo_zero (A : List Nat) (n : Nat) : cloM A 0 n = true := (cloM_iff n).mpr fun i _ h => by simp at h
theorem st_not {T : List Int} {A : List Nat} {c : Int} {s : Nat} (h : cloM A s A.length = false) : stP T A c s = -1 := by
  cases s with
  | zero => rw [clo_zero] at h; cases h
  | succ s => rw [stP_succ]; unfold nxtP; rw [h]; rfl
/-- a set that can stand needs no more places than it has tasks -/
theorem st_pop {T : List Int} {A : List Nat} {c : Int} (hA : ∀ i k, (A.getD i 0).testBit k = true → k < i) (hc : 0 ≤ c) (hT : ∀ k, k < T.length → T.getD k 0 ≤ c) :
    ∀ N s, s ≤ N → s < 2 ^ 6 → cloM A s A.length = true → 0 ≤ stP T A c s ∧ stP T A c s ≤ popM s
  | _, 0, _, _, _ => ⟨Int.le_refl _, (popM_bd 0).1⟩
  | N + 1, s + 1, hs, h6, hcl => by
    obtain ⟨q, r, hq, he, hr⟩ := top_of (show s + 1 ≠ 0 by omega) h6
    have hrq : r.testBit q = false := Nat.testBit_lt_two_pow hr
    have hb := add_bit hrq
    rw [← he] at hb
    have hrs : r < s + 1 := by have := Nat.two_pow_pos q; omega
    have hcr : cloM A r A.length = true := (cloM_iff _).mpr fun i hi hri k hk => by
      have h1 := (cloM_iff _).mp hcl i hi (by rw [hb, hri]; rfl) k hk
      have h2 := hA i k hk
      have h3 : i < q := by
        rcases Nat.lt_or_ge i q with h | h
        · exact h
        · rw [Nat.testBit_lt_two_pow (Nat.lt_of_lt_of_le hr (Nat.pow_le_pow_right (by omega) h))] at hri; cases hri
      rw [hb] at h1
      simp only [Bool.or_eq_true, decide_eq_true_eq] at h1
      rcases h1 with h1 | h1
      · exact h1
      · omega
    have ih := st_pop hA hc hT N r (by omega) (by omega) hcr
    have hsub : r &&& (s + 1) = r := sub_iff.mpr fun i hi => by rw [hb, hi]; rfl
    have hld : csum T (fun i => (dif (s + 1) r).testBit i) T.length ≤ c := by
      rw [csum_congr (Q := fun i => i == q) _ fun i _ => by
        rw [dif_bit, hb]
        by_cases h : i = q
        · subst h; simp [hrq]
        · cases r.testBit i <;> simp [h]]
      rw [csum_one]
      split
      · rename_i h; exact hT q h
      · exact hc
    have hsc := scanP_le (T := T) (c := c) (t := tabP T A c s) (s := s + 1) (s + 1) r hrs ((okR_tab (by omega)).mpr ⟨hsub, ih.1, hld⟩)
    rw [tabP_at (show r ≤ s by omega)] at hsc
    rw [stP_succ]
    unfold nxtP
    rw [if_pos hcl]
    have hp := undone_add hrq 6 hq
    rw [← he] at hp
    unfold popM at ih ⊢
    omega
/-- the fewest places of a set, as the program counts them -/
def fewC (T : List Int) (A : List Nat) (c : Int) (s : Nat) : Int := if cloM A s A.length = true then stP T A c s else 7
def okC (T : List Int) (c : Int) (s r : Nat) : Prop := dif r s = 0 ∧ csum T (fun i => (dif s r).testBit i) T.length ≤ c
instance (T : List Int) (c : Int) (s r : Nat) : Decidable (okC T c s r) := by unfold okC; infer_instance
def runC (T : List Int) (A : List Nat) (c : Int) (s : Nat) : Nat → Int
  | 0 => popM s
  | r + 1 => if okC T c s r then min (runC T A c s r) (fewC T A c r + 1) else runC T A c s r
theorem fewC_bd {T : List Int} {A : List Nat} {c : Int} (hA : ∀ i k, (A.getD i 0).testBit k = true → k < i) (hc : 0 ≤ c) (hT : ∀ k, k < T.length → T.getD k 0 ≤ c) {s : Nat} (h6 : s < 2 ^ 6) : 0 ≤ fewC T A c s ∧ fewC T A c s ≤ 7 := by
  unfold fewC
  split
  · rename_i h; have := st_pop hA hc hT s s (Nat.le_refl _) h6 h; have := popM_bd s; omega
  · omega
theorem runC_scan {T : List Int} {A : List Nat} {c : Int} (hA : ∀ i k, (A.getD i 0).testBit k = true → k < i) (hc : 0 ≤ c) (hT : ∀ k, k < T.length → T.getD k 0 ≤ c) {s : Nat} (h6 : s < 2 ^ 6) :
    ∀ R, R ≤ s + 1 → runC T A c (s + 1) R = if scanP T c (tabP T A c s) (s + 1) R < 0 then popM (s + 1) else min (popM (s + 1)) (scanP T c (tabP T A c s) (s + 1) R)
  | 0, _ => by simp [runC, scanP]
  | R + 1, hR => by
    have ih := runC_scan hA hc hT h6 R (by omega)
    have hp := popM_bd (s + 1)
    have hs : scanP T c (tabP T A c s) (s + 1) (R + 1) = if okR T c (tabP T A c s) (s + 1) R ∧ (scanP T c (tabP T A c s) (s + 1) R < 0 ∨ stP T A c R + 1 < scanP T c (tabP T A c s) (s + 1) R) then stP T A c R + 1 else scanP T c (tabP T A c s) (s + 1) R := by
      rw [scanP, tabP_at (show R ≤ s by omega)]
    rw [runC, ih]
    have ho := okR_tab (T := T) (A := A) (c := c) (m := s) (s := s + 1) (r := R) (by omega)
    have hsub : (R &&& (s + 1) = R) ↔ dif R (s + 1) = 0 := by rw [sub_iff, dif_zero]
    clear ih
    generalize scanP T c (tabP T A c s) (s + 1) R = sc at hs ⊢
    by_cases h1 : okC T c (s + 1) R
    · rw [if_pos h1]
      unfold fewC
      by_cases h2 : cloM A R A.length = true
      · have h3 := st_pop hA hc hT R R (Nat.le_refl _) (by omega) h2
        have h4 := ho.mpr ⟨hsub.mpr h1.1, h3.1, h1.2⟩
        rw [if_pos h2]
        by_cases h5 : sc < 0
        · rw [hs.trans (if_pos ⟨h4, .inl h5⟩), if_pos h5, if_neg (by omega)]
        · rw [if_neg h5]
          by_cases h6 : stP T A c R + 1 < sc
          · rw [hs.trans (if_pos ⟨h4, .inr h6⟩), if_neg (by omega)]; omega
          · rw [hs.trans (if_neg (fun h => h.2.elim h5 h6)), if_neg h5]; omega
      · rw [if_neg h2]
        have h3 := st_not (T := T) (c := c) (Bool.not_eq_true _ |>.mp h2)
        rw [hs.trans (if_neg (fun h => by have := (ho.mp h.1).2.1; omega))]
        split <;> omega
    · rw [if_neg h1, hs.trans (if_neg (fun h => h1 (by have := ho.mp h.1; exact ⟨hsub.mp this.1, this.2.2⟩)))]
theorem runC_all {T : List Int} {A : List Nat} {c : Int} (hA : ∀ i k, (A.getD i 0).testBit k = true → k < i) (hc : 0 ≤ c) (hT : ∀ k, k < T.length → T.getD k 0 ≤ c) {s : Nat} (h6 : s < 2 ^ 6) (hcl : cloM A s A.length = true) : runC T A c s s = fewC T A c s := by
  have hp := st_pop hA hc hT s s (Nat.le_refl _) h6 hcl
  unfold fewC
  rw [if_pos hcl]
  cases s with
  | zero => rw [runC]; show popM 0 = 0; simp [popM, undone]
  | succ s =>
    rw [runC_scan hA hc hT (by omega) _ (Nat.le_refl _)]
    rw [stP_succ] at hp ⊢
    unfold nxtP at hp ⊢
    rw [if_pos hcl] at hp ⊢
    rw [if_neg (by omega)]; omega
theorem runC_bd {T : List Int} {A : List Nat} {c : Int} (hA : ∀ i k, (A.getD i 0).testBit k = true → k < i) (hc : 0 ≤ c) (hT : ∀ k, k < T.length → T.getD k 0 ≤ c) {s : Nat} : ∀ R, R ≤ 2 ^ 6 → 0 ≤ runC T A c s R ∧ runC T A c s R ≤ 6
  | 0, _ => popM_bd s
  | R + 1, h => by
    have := runC_bd hA hc hT (s := s) R (by omega)
    have := fewC_bd hA hc hT (s := R) (by omega)
    rw [runC]; split <;> omega
theorem fewC_full {T : List Int} {A : List Nat} {c : Int} (hl : A.length = T.length) (hA : ∀ i k, (A.getD i 0).testBit k = true → k < i) : fewC T A c (2 ^ T.length - 1) = fewM T A c := by
  unfold fewC fewM
  rw [if_pos ((cloM_iff _).mpr fun i hi _ k hk => by rw [full_bit]; have := hA i k hk; simp; omega)]

/-- all that must be done ahead of a task, over others, too -/
def aU (A : List Nat) (t : List Nat) (k : Nat) : Nat → Nat
  | 0 => A.getD k 0
  | m + 1 => if (A.getD k 0).testBit m = true then aU A t k m ||| t.getD m 0 else aU A t k m
def allT (A : List Nat) : Nat → List Nat
  | 0 => []
  | k + 1 => allT A k ++ [aU A (allT A k) k k]
def allX (A : List Nat) (x : Nat) : Nat := (allT A (x + 1)).getD x 0
theorem allT_len (A : List Nat) : ∀ k, (allT A k).length = k
  | 0 => rfl
  | k + 1 => by rw [allT, List.length_append, allT_len A k]; rfl
theorem allT_get (A : List Nat) (s : Nat) : ∀ d, (allT A (s + 1 + d)).getD s 0 = allX A s
  | 0 => rfl
  | d + 1 => by
    have h := allT_len A (s + 1 + d)
    rw [show s + 1 + (d + 1) = (s + 1 + d) + 1 by omega, allT, ← allT_get A s d]
    simp only [List.getD_eq_getElem?_getD]
    rw [List.getElem?_append_left (by omega)]
theorem allT_at {A : List Nat} {s m : Nat} (h : s < m) : (allT A m).getD s 0 = allX A s := by
  have := allT_get A s (m - s - 1); rwa [show s + 1 + (m - s - 1) = m by omega] at this
theorem allX_eq (A : List Nat) (k : Nat) : allX A k = aU A (allT A k) k k := by
  have h := allT_len A k
  unfold allX
  rw [allT]
  simp only [List.getD_eq_getElem?_getD]
  rw [List.getElem?_append_right (by omega), h, Nat.sub_self]; rfl
theorem aU_bit {A : List Nat} {k : Nat} (x : Nat) : ∀ m, m ≤ k → ((aU A (allT A k) k m).testBit x = true ↔ (A.getD k 0).testBit x = true ∨ ∃ y, y < m ∧ (A.getD k 0).testBit y = true ∧ (allX A y).testBit x = true)
  | 0, _ => by simp [aU]
  | m + 1, h => by
    have ih := aU_bit (A := A) (k := k) x m (by omega)
    rw [aU, allT_at (show m < k by omega)]
    by_cases h1 : (A.getD k 0).testBit m = true
    · rw [if_pos h1, Nat.testBit_or, Bool.or_eq_true, ih]
      constructor
      · rintro ((h2 | ⟨y, h2, h3⟩) | h2)
        · exact .inl h2
        · exact .inr ⟨y, by omega, h3⟩
        · exact .inr ⟨m, by omega, h1, h2⟩
      · rintro (h2 | ⟨y, h2, h3, h4⟩)
        · exact .inl (.inl h2)
        · rcases Nat.lt_or_eq_of_le (Nat.le_of_lt_succ h2) with h5 | rfl
          · exact .inl (.inr ⟨y, h5, h3, h4⟩)
          · exact .inr h4
    · rw [if_neg h1, ih]
      constructor
      · rintro (h2 | ⟨y, h2, h3⟩)
        · exact .inl h2
        · exact .inr ⟨y, by omega, h3⟩
      · rintro (h2 | ⟨y, h2, h3, h4⟩)
        · exact .inl h2
        · rcases Nat.lt_or_eq_of_le (Nat.le_of_lt_succ h2) with h5 | rfl
          · exact .inr ⟨y, h5, h3, h4⟩
          · exact absurd h3 h1
theorem allX_bit {A : List Nat} {k : Nat} (hA : ∀ i k, (A.getD i 0).testBit k = true → k < i) (x : Nat) : (allX A k).testBit x = true ↔ ∃ y, (A.getD k 0).testBit y = true ∧ (x = y ∨ (allX A y).testBit x = true) := by
  rw [allX_eq, aU_bit x k (Nat.le_refl _)]
  constructor
  · rintro (h | ⟨y, _, h2, h3⟩)
    · exact ⟨x, h, .inl rfl⟩
    · exact ⟨y, h2, .inr h3⟩
  · rintro ⟨y, h2, rfl | h3⟩
    · exact .inl h2
    · exact .inr ⟨y, hA k y h2, h2, h3⟩
theorem allX_low {A : List Nat} (hA : ∀ i k, (A.getD i 0).testBit k = true → k < i) : ∀ N k, k ≤ N → ∀ x, (allX A k).testBit x = true → x < k
  | 0, k, hk, x, h => by
    obtain rfl : k = 0 := by omega
    obtain ⟨y, h1, _⟩ := (allX_bit hA x).mp h
    have := hA 0 y h1; omega
  | N + 1, k, hk, x, h => by
    obtain ⟨y, h1, h2⟩ := (allX_bit hA x).mp h
    have h3 := hA k y h1
    rcases h2 with rfl | h2
    · exact h3
    · have := allX_low hA N y (by omega) x h2; omega
theorem allX_lt {A : List Nat} (hA : ∀ i k, (A.getD i 0).testBit k = true → k < i) (k : Nat) : allX A k < 2 ^ k :=
  Nat.lt_pow_two_of_testBit _ fun i hi => by
    cases h : (allX A k).testBit i
    · rfl
    · have := allX_low hA k k (Nat.le_refl _) i h; omega
theorem aU_lt {A : List Nat} (hA : ∀ i k, (A.getD i 0).testBit k = true → k < i) (k m : Nat) (hm : m ≤ k) : aU A (allT A k) k m < 2 ^ k :=
  Nat.lt_pow_two_of_testBit _ fun i hi => by
    cases h : (aU A (allT A k) k m).testBit i
    · rfl
    · rcases (aU_bit i m hm).mp h with h1 | ⟨y, h1, h2, h3⟩
      · have := hA k i h1; omega
      · have := hA k y h2; have := allX_low hA y y (Nat.le_refl _) i h3; omega
/-- those behind are those that all ahead of them hold -/
theorem bsM_keep {A : List Nat} {i x : Nat} : ∀ d, (bsM A i (x + 1 + d)).testBit x = (bsM A i (x + 1)).testBit x
  | 0 => rfl
  | d + 1 => by
    rw [← bsM_keep d]
    by_cases h : i < x + 1 + d
    · rw [show x + 1 + (d + 1) = (x + 1 + d) + 1 by omega, bsM_step h, show decide (x = x + 1 + d) = false by simp; omega, Bool.false_and, Bool.or_false]
    · by_cases h2 : x + 1 + d = i
      · subst h2
        rw [bsM_low (A := A) (i := x + 1 + d) (x + 1 + d) (Nat.le_refl _), show x + 1 + (d + 1) = (x + 1 + d) + 1 by omega, bsM, if_neg (by omega), if_pos rfl, Nat.testBit_two_pow]
        simp; omega
      · rw [bsM_low _ (by omega), bsM_low _ (by omega)]
theorem bsM_all {A : List Nat} (hA : ∀ i k, (A.getD i 0).testBit k = true → k < i) {i : Nat} : ∀ N x n, x ≤ N → x < n → ((bsM A i n).testBit x = true ↔ x = i ∨ (allX A x).testBit i = true)
  | N, x, n, hN, hx => by
    have hk := bsM_keep (A := A) (i := i) (x := x) (n - x - 1)
    rw [show x + 1 + (n - x - 1) = n by omega] at hk
    rw [hk]
    rcases Nat.lt_trichotomy x i with h | h | h
    · rw [bsM_low _ (by omega)]
      constructor
      · intro h2; simp at h2
      · rintro (h2 | h2)
        · omega
        · have := allX_low hA x x (Nat.le_refl _) i h2; omega
    · subst h
      rw [bsM, if_neg (by omega), if_pos rfl, Nat.testBit_two_pow]; simp
    · rw [bsM_step h, bsM_out (Nat.le_refl _), Bool.false_or]
      simp only [decide_true, Bool.true_and, decide_eq_true_eq]
      rw [allX_bit hA]
      constructor
      · intro h2
        obtain ⟨y, h3, h4⟩ := and_ne_get h2
        have hy := hA x y h3
        refine .inr ⟨y, h3, ?_⟩
        rcases (bsM_all hA (N - 1) y x (by omega) hy).mp h4 with h5 | h5
        · exact .inl h5.symm
        · exact .inr h5
      · rintro (h2 | ⟨y, h3, h4⟩)
        · omega
        · have hy := hA x y h3
          refine and_ne h3 ((bsM_all hA (N - 1) y x (by omega) hy).mpr ?_)
          rcases h4 with h5 | h5
          · exact .inl h5.symm
          · exact .inr h5
termination_by N x _ _ _ => x
decreasing_by all_goals exact hA _ _ h3
/-- the weights, as the program adds them up: k tasks are added, of the next one m others -/
def wC (T : List Int) (A : List Nat) (i k : Nat) : Int := csum T (fun x => x == i || (allX A x).testBit i) k
theorem wC_all {T : List Int} {A : List Nat} (hA : ∀ i k, (A.getD i 0).testBit k = true → k < i) (i : Nat) : wC T A i T.length = wM T A i := by
  unfold wC wM
  refine csum_congr _ fun x hx => ?_
  have := bsM_all hA (i := i) x x T.length (Nat.le_refl _) hx
  rw [Bool.eq_iff_iff, Bool.or_eq_true, beq_iff_eq]
  exact this.symm
theorem wC_succ (T : List Int) (A : List Nat) (i k : Nat) : wC T A i (k + 1) = wC T A i k + (if k = i ∨ (allX A k).testBit i = true then T.getD k 0 else 0) := by
  unfold wC
  rw [csum]
  congr 1
  simp only [Bool.or_eq_true, beq_iff_eq]
theorem or_add {D q : Nat} (h : D.testBit q = false) : D ||| 2 ^ q = D + 2 ^ q := by
  apply Nat.eq_of_testBit_eq; intro i
  rw [add_bit h, Nat.testBit_or, Nat.testBit_two_pow]
  by_cases hq : q = i
  · subst hq; simp
  · simp [hq, Ne.symm hq]
end Go.Proofs.Ythmifadnfaajbab
namespace Go.Proofs.Ythmifadnfaajbab
open Go.RowKit Go.WideShapes

theorem isFrom1To_any (n hi : Int) (w : World) :
    Calls Try.prog 21 #[.int .i64 n, .int .i64 hi] w fun e w' => e = .returned (.bool (inB 1 hi n)) ∧ w = w' := by
  by_cases h1 : 1 ≤ n
  · by_cases h2 : n ≤ hi
    · go_enter Try.func21, Try.ntmps21
      go_wp2
      go_ret
      exact ⟨ret_bool (inB_true h1 h2).symm, rfl⟩
    · go_enter Try.func21, Try.ntmps21
      go_wp2
      go_ret
      exact ⟨ret_bool (inB_hi (by omega)).symm, rfl⟩
  · go_enter Try.func21, Try.ntmps21
    go_wp2
    go_ret
    exact ⟨ret_bool (inB_lo (by omega)).symm, rfl⟩
theorem p2_le {n : Nat} (h : n ≤ 20) : 1 ≤ 2 ^ n ∧ 2 ^ n ≤ 1048576 := ⟨Nat.two_pow_pos n, by have := Nat.pow_le_pow_right (n := 2) (by omega) h; omega⟩
theorem allOf_any (n : Nat) (hn : n ≤ 20) (w : World) :
    Calls Try.prog 30 #[.int .i64 n] w fun e w' => e = .returned (.int .i64 (((2 ^ n - 1 : Nat) : Nat) : Int)) ∧ w = w' := by
  have hp := p2_le hn
  go_enter Try.func30, Try.ntmps30
  go_wp2
  go_ret
  refine ⟨ret_int ?_, rfl⟩
  have e : ((2 : Int) ^ n) = ((2 ^ n : Nat) : Int) := by push_cast; rfl
  rw [e]
  generalize 2 ^ n = p at hp ⊢
  have e1 : wrap64 (p : Int) = p := w64_id (by omega) (by omega)
  rw [e1]
  have e2 : wrap64 ((p : Int) - 1) = (p : Int) - 1 := w64_id (by omega) (by omega)
  rw [e2]
  omega
theorem inSet_any (s j : Nat) (hs : s < 1048576) (hj : j ≤ 20) (w : World) :
    Calls Try.prog 47 #[.int .i64 s, .int .i64 j] w fun e w' => e = .returned (.bool (s.testBit j)) ∧ w = w' := by
  go_enter Try.func47, Try.ntmps47
  go_wp2
  go_ret
  refine ⟨ret_bool ?_, rfl⟩
  have h2 : s / 2 ^ j ≤ s := Nat.div_le_self _ _
  have e : (s : Int) / 2 ^ j = ((s / 2 ^ j : Nat) : Int) := by push_cast; rfl
  rw [e, Nat.testBit_eq_decide_div_mod_eq]
  generalize s / 2 ^ j = x at h2 ⊢
  have hx : x < 1048576 := by omega
  rw [show (1 : Int) = ((1 : Nat) : Int) from rfl, i_and x 1 hx (by omega), Nat.and_one_is_mod, Bool.eq_iff_iff, beq_iff_eq, decide_eq_true_eq]
  omega
theorem all64 (P Q : Nat → Int) (h : ((List.range 64).all fun k => P k == Q k) = true) : ∀ n, n < 64 → P n = Q n := by
  intro n hn
  rw [List.all_eq_true] at h
  simpa using h n (List.mem_range.mpr hn)
/-- how many ones the library counts -/
theorem onesCount64_any (n : Nat) (hn : n < 64) (w : World) :
    Calls Try.prog 53 #[.int .u64 n] w fun e w' => e = .returned (.int .i64 (popM n)) ∧ w = w' := by
  go_enter Try.func53, Try.ntmps53
  go_wp2
  go_ret
  refine ⟨ret_int ?_, rfl⟩
  clear w
  revert n
  refine all64 _ _ ?_
  kernel_rfl
theorem onesCount_any (n : Nat) (hn : n < 64) (w : World) :
    Calls Try.prog 49 #[.int .u64 n] w fun e w' => e = .returned (.int .i64 (popM n)) ∧ w = w' := by
  go_enter Try.func49, Try.ntmps49
  go_wp2_with fail
  refine (onesCount64_any n hn w).mono ?_
  rintro e w' ⟨rfl, rfl⟩
  go_wp2_with fail
  go_ret
  exact ⟨rfl, rfl⟩
end Go.Proofs.Ythmifadnfaajbab
