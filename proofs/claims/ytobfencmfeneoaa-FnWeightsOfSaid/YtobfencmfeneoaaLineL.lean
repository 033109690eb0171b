import Derived.Test.YtobfencmfeneoaaLib
import Derived.Test.YtobfencmfeneoaaNetM
import Derived.Test.YtobfencmfeneoaaLaws
import Derived.Test.YtobfencmfeneoaaLineM
import Derived.Test.YtobfencmfeneoaaLineLawM
import Derived.Test.YtobfencmfeneoaaTactM
import Derived.Test.YtobfencmfeneoaaStatM
import Derived.Test.YtobfencmfeneoaaTaskSpec
import Derived.Test.YtobfencmfeneoaaLoadSpec
import Derived.Test.YtobfencmfeneoaaFewSpec
import Derived.Test.YtobfencmfeneoaaTactSpec
import Derived.Test.YtobfencmfeneoaaBySpec
import Derived.Test.YtobfencmfeneoaaLineC
import Derived.Test.YtobfencmfeneoaaBackw
namespace Go.Proofs.Ytobfencmfeneoaa

theorem csum_sumN (T : List Int) : ∀ n, csum T (fun _ => true) n = sumN T n := by
  intro n
  induction n with
  | zero => rfl
  | succ n ih => rw [csum, sumN, ih]; simp
theorem total_csum (T : List Int) : totalM T = csum T (fun _ => true) T.length := by rw [totalM_eq, csum_sumN]
theorem few_nil {T : List Int} {A : List Nat} {c : Int} (h : T.length = 0) : fewM T A c = 0 := by
  unfold fewM; rw [h]; rfl
theorem few_facts {T ys : List Int} {c : Int} (h : lineP T ys c) : (0 ≤ fewM T (natsOf ys) c ∧ fewM T (natsOf ys) c ≤ 6) ∧ totalM T ≤ fewM T (natsOf ys) c * c := by
  have hl : (natsOf ys).length = T.length := by rw [natsOf_len]; exact h.2.1.2.1
  have hA := natsOf_hA h.2.1.1.2
  have hc := lineP_c h
  have h1 := few_nn (T := T) (A := natsOf ys) (c := c) hl hA (by omega) h.1
  have h2 := h.2.1.2.2
  obtain ⟨p, hp⟩ := few_get (T := T) (A := natsOf ys) (c := c) hl (by omega) hA h1.1
  have h3 := hp.total
  rw [total_csum]
  refine ⟨by omega, ?_⟩
  rwa [Int.toNat_of_nonneg h1.1] at h3
theorem few_more {T ys : List Int} {c : Int} (h : lineP T ys c) : fewRes T ys (c + 1) < 0 ∨ fewRes T ys (c + 1) ≤ fewM T (natsOf ys) c := by
  have hl : (natsOf ys).length = T.length := by rw [natsOf_len]; exact h.2.1.2.1
  have hA := natsOf_hA h.2.1.1.2
  have hc := lineP_c h
  unfold fewRes
  split
  · right; exact few_up hl hA (by omega) (by omega) (few_facts h).1.1
  · left; omega
theorem fewRes_bd (T ys : List Int) (c : Int) : -1 ≤ fewRes T ys c ∧ fewRes T ys c ≤ 6 := by
  unfold fewRes
  split
  · rename_i h; have := (few_facts h).1; omega
  · omega
theorem by_line {T ys : List Int} {c : Int} (h : lineP T ys c) : (byM T (natsOf ys) (weightsM T (natsOf ys)) c).length = T.length := by
  have hl : (natsOf ys).length = T.length := by rw [natsOf_len]; exact h.2.1.2.1
  exact (by_spec hl (natsOf_hA h.2.1.1.2) (fun k hk => ⟨(tasks_at h.2.1.1.1).2 k hk, h.1 k hk⟩) (by have := lineP_c h; omega)).1
theorem byRes_line {T ys : List Int} {c : Int} (h : lineP T ys c) : byRes T ys c = byM T (natsOf ys) (weightsM T (natsOf ys)) c := if_pos h
theorem byRes_no {T ys : List Int} {c : Int} (h : ¬ lineP T ys c) : byRes T ys c = [] := if_neg h
theorem few_by {T ys : List Int} {c : Int} (h : lineP T ys c) (h0 : T.length ≠ 0) : fewM T (natsOf ys) c ≤ greatM (byRes T ys c) + 1 := by
  have hl : (natsOf ys).length = T.length := by rw [natsOf_len]; exact h.2.1.2.1
  rw [byRes_line h]
  refine by_few (W := weightsM T (natsOf ys)) hl (natsOf_hA h.2.1.1.2) (fun k hk => ⟨(tasks_at h.2.1.1.1).2 k hk, h.1 k hk⟩) (by have := lineP_c h; omega) (fun i hi => ?_) h0
  rw [← by_line h] at hi
  exact greatM_ge _ (List.mem_of_getElem? (get_getD hi))
theorem tasks_take {T ys : List Int} (h : tasksP T ys) (n : Nat) : tasksP (T.take n) (ys.take n) := by
  obtain ⟨⟨h1, h2⟩, h3, h4⟩ := h
  refine ⟨⟨?_, fun i hi => ?_⟩, by simp; omega, by simp; omega⟩
  · unfold allIn at h1 ⊢
    rw [List.all_eq_true] at h1 ⊢
    exact fun x hx => h1 x (List.mem_of_mem_take hx)
  · have hi' : i < ys.length ∧ i < n := by simp at hi; omega
    have e : (ys.take n).getD i 0 = ys.getD i 0 := by
      rw [List.getD_eq_getElem?_getD, List.getD_eq_getElem?_getD, List.getElem?_take, if_pos hi'.2]
    rw [e]; exact h2 i hi'.1
/-- how many of 0 .. V - 1 are among the first k -/
def cntM (xs : List Int) (k : Nat) : Nat → Nat
  | 0 => 0
  | V + 1 => cntM xs k V + (if inM (xs.take k) (V : Int) then 1 else 0)
theorem inM_snoc (l : List Int) (x y : Int) : inM (l ++ [x]) y = (inM l y || decide (x = y)) := by
  rw [Bool.eq_iff_iff, inM_iff, Bool.or_eq_true, inM_iff, decide_eq_true_eq, List.mem_append, List.mem_singleton]
  exact ⟨fun h => h.imp id Eq.symm, fun h => h.imp id Eq.symm⟩
theorem cntM_next {xs : List Int} {k : Nat} (hk : k < xs.length) (hx : 0 ≤ xs.getD k 0) : ∀ V : Nat, cntM xs (k + 1) V = cntM xs k V + (if inM (xs.take k) (xs.getD k 0) = false ∧ xs.getD k 0 < (V : Int) then 1 else 0) := by
  intro V
  induction V with
  | zero =>
    have c : ¬ (inM (xs.take k) (xs.getD k 0) = false ∧ xs.getD k 0 < ((0 : Nat) : Int)) := fun h => by have := h.2; omega
    rw [if_neg c]; rfl
  | succ V ih =>
    rw [cntM, cntM, ih, take_get (get_getD hk), inM_snoc]
    by_cases hv : xs.getD k 0 = (V : Int)
    · have c1 : ¬ (inM (xs.take k) (xs.getD k 0) = false ∧ xs.getD k 0 < (V : Int)) := fun h => by have := h.2; omega
      rw [decide_eq_true hv, Bool.or_true, if_neg c1, if_pos rfl]
      cases hi : inM (xs.take k) (V : Int)
      · have c2 : inM (xs.take k) (xs.getD k 0) = false ∧ xs.getD k 0 < ((V + 1 : Nat) : Int) := ⟨by rw [hv, hi], by omega⟩
        rw [if_pos c2]; simp
      · have c2 : ¬ (inM (xs.take k) (xs.getD k 0) = false ∧ xs.getD k 0 < ((V + 1 : Nat) : Int)) := fun h => by rw [hv, hi] at h; cases h.1
        rw [if_neg c2]; simp
    · rw [decide_eq_false hv, Bool.or_false]
      by_cases c3 : inM (xs.take k) (xs.getD k 0) = false ∧ xs.getD k 0 < (V : Int)
      · have c4 : inM (xs.take k) (xs.getD k 0) = false ∧ xs.getD k 0 < ((V + 1 : Nat) : Int) := ⟨c3.1, by have := c3.2; omega⟩
        rw [if_pos c3, if_pos c4]; omega
      · have c4 : ¬ (inM (xs.take k) (xs.getD k 0) = false ∧ xs.getD k 0 < ((V + 1 : Nat) : Int)) := fun h => c3 ⟨h.1, by have := h.2; omega⟩
        rw [if_neg c3, if_neg c4]; omega
/-- of numbers in 0..P, each of which is there, so many are different -/
theorem diff_all {xs : List Int} {P : Nat} (h : ∀ k, k < xs.length → 0 ≤ xs.getD k 0 ∧ xs.getD k 0 ≤ P) (ha : ∀ j : Nat, j ≤ P → ∃ i, i < xs.length ∧ xs.getD i 0 = (j : Int)) : diffM xs xs.length = P + 1 := by
  have all : ∀ k, k ≤ xs.length → diffM xs k = cntM xs k (P + 1) := by
    intro k
    induction k with
    | zero =>
      intro _
      have e : ∀ V, cntM xs 0 V = 0 := by
        intro V
        induction V with
        | zero => rfl
        | succ V ih => rw [cntM, ih]; simp [inM]
      rw [e]; rfl
    | succ k ih =>
      intro hk
      rw [diffM, ih (by omega), cntM_next (by omega) (h k (by omega)).1]
      have := (h k (by omega)).2
      cases hi : inM (xs.take k) (xs.getD k 0)
      · have c : (false = false ∧ xs.getD k 0 < ((P + 1 : Nat) : Int)) := ⟨rfl, by omega⟩
        rw [if_pos c]; rfl
      · have c : ¬ (true = false ∧ xs.getD k 0 < ((P + 1 : Nat) : Int)) := fun h => by cases h.1
        rw [if_neg c]; rfl
  rw [all _ (Nat.le_refl _)]
  have full : ∀ V, V ≤ P + 1 → cntM xs xs.length V = V := by
    intro V
    induction V with
    | zero => intro _; rfl
    | succ V ih =>
      intro hV
      obtain ⟨i, hi, e⟩ := ha V (by omega)
      rw [cntM, ih (by omega), List.take_length, inM_iff.2 (by rw [← e]; exact List.mem_of_getElem? (get_getD hi))]; rfl
  exact full _ (Nat.le_refl _)
theorem great_all {xs : List Int} {P : Nat} (h : ∀ k, k < xs.length → 0 ≤ xs.getD k 0 ∧ xs.getD k 0 ≤ P) (ha : ∃ i, i < xs.length ∧ xs.getD i 0 = (P : Int)) : greatM xs = P := by
  obtain ⟨i, hi, e⟩ := ha
  have h1 := greatM_ge _ (List.mem_of_getElem? (get_getD hi))
  have h2 := greatM_le (xs := xs) (B := P) (by omega) (fun x hx => by
    obtain ⟨k, hk, rfl⟩ := List.mem_iff_getElem.1 hx
    have := (h k hk).2
    rwa [List.getD_eq_getElem?_getD, List.getElem?_eq_getElem hk] at this)
  omega
theorem tact_facts {T ys : List Int} {p : Int} (h : tactFine T ys p = true) : (1 ≤ leastT T (natsOf ys) p ∧ leastT T (natsOf ys) p ≤ 54) ∧ (1 ≤ p ∧ p ≤ 6) ∧ (0 ≤ fewRes T ys (leastT T (natsOf ys) p) ∧ fewRes T ys (leastT T (natsOf ys) p) ≤ p) ∧
    (leastT T (natsOf ys) p = 1 ∨ fewRes T ys ((leastT T (natsOf ys) p : Int) - 1) < 0 ∨ p < fewRes T ys ((leastT T (natsOf ys) p : Int) - 1)) ∧ totalM T ≤ (leastT T (natsOf ys) p : Int) * p ∧ (0 ≤ totalM T ∧ totalM T ≤ 54) ∧ ∀ x ∈ T, -1099511627776 ≤ x ∧ x ≤ 1099511627776 := by
  simp only [tactFine, Bool.and_eq_true] at h
  have hP := tasksM_get h.1
  have hp : 1 ≤ p ∧ p ≤ 6 := by simpa [inB] using h.2
  have hl : (natsOf ys).length = T.length := by rw [natsOf_len]; exact hP.2.1
  have hA := natsOf_hA hP.1.2
  obtain ⟨hok, h1, h54, hno⟩ := least_spec (T := T) (A := natsOf ys) hl hP.2.2 hA (tasks_at hP.1.1).1 (places := p) hp.1
  have hL : lineP T ys (leastT T (natsOf ys) p) := ⟨hok.1, hP, inB_true (by omega) (by omega)⟩
  have hF := few_facts hL
  have hR : fewRes T ys (leastT T (natsOf ys) p) = fewM T (natsOf ys) (leastT T (natsOf ys) p) := if_pos hL
  refine ⟨⟨h1, h54⟩, hp, by rw [hR]; exact ⟨hF.1.1, hok.2⟩, ?_, by rw [total_csum]; exact least_total hl hA (by omega) hF.1.1 hok.2, ?_, fun x hx => ?_⟩
  · by_cases e : leastT T (natsOf ys) p = 1
    · exact .inl e
    · right
      have hn := hno (leastT T (natsOf ys) p - 1) (by omega) (by omega)
      have e1 : (leastT T (natsOf ys) p : Int) - 1 = ((leastT T (natsOf ys) p - 1 : Nat) : Int) := by omega
      rw [e1]
      unfold fewRes
      split
      · rename_i hl2
        right
        have : ¬ fewM T (natsOf ys) ((leastT T (natsOf ys) p - 1 : Nat) : Int) ≤ p := fun h => hn ⟨hl2.1, h⟩
        omega
      · left; omega
  · rw [total_csum]
    have := csum_range (tasks_at hP.1.1).1 (fun _ => true) T.length
    have := hP.2.2; omega
  · obtain ⟨k, hk, rfl⟩ := List.mem_iff_getElem.1 hx
    have := (tasks_at hP.1.1).1 k
    rw [List.getD_eq_getElem?_getD, List.getElem?_eq_getElem hk] at this
    simp at this; omega
theorem by_loads {T ys : List Int} {c : Int} (h : lineP T ys c) : (∀ i, i < T.length → 0 ≤ (byRes T ys c).getD i 0 ∧ (byRes T ys c).getD i 0 ≤ 6) ∧ (∀ i, i < T.length → ∀ k, ((natsOf ys).getD i 0).testBit k = true → (byRes T ys c).getD k 0 ≤ (byRes T ys c).getD i 0) ∧
    (∀ j : Int, csum T (fun i => (byRes T ys c).getD i 0 == j) T.length ≤ c) := by
  have hl : (natsOf ys).length = T.length := by rw [natsOf_len]; exact h.2.1.2.1
  rw [byRes_line h]
  obtain ⟨hbl, P, h1, h2, h3, h4⟩ := by_spec (W := weightsM T (natsOf ys)) hl (natsOf_hA h.2.1.1.2) (fun k hk => ⟨(tasks_at h.2.1.1.1).2 k hk, h.1 k hk⟩) (show 0 ≤ c by have := lineP_c h; omega)
  refine ⟨fun i hi => ?_, h2, h3⟩
  have hd := diff_all (xs := byM T (natsOf ys) (weightsM T (natsOf ys)) c) (P := P) (fun k hk => h1 k (by omega)) (fun j hj => by
    obtain ⟨i, hi, e⟩ := h4 (by omega) j hj
    exact ⟨i, by omega, e⟩)
  have hle := diffM_le (byM T (natsOf ys) (weightsM T (natsOf ys)) c) (byM T (natsOf ys) (weightsM T (natsOf ys)) c).length
  have := h1 i hi
  have := h.2.1.2.2
  omega
theorem by_great {T ys : List Int} {c : Int} (h : lineP T ys c) (h0 : T.length ≠ 0) : ∃ P : Nat, P < T.length ∧ greatM (byRes T ys c) = P ∧ diffM (byRes T ys c) T.length = P + 1 := by
  have hl : (natsOf ys).length = T.length := by rw [natsOf_len]; exact h.2.1.2.1
  rw [byRes_line h]
  obtain ⟨hbl, P, h1, _, _, h4⟩ := by_spec (W := weightsM T (natsOf ys)) hl (natsOf_hA h.2.1.1.2) (fun k hk => ⟨(tasks_at h.2.1.1.1).2 k hk, h.1 k hk⟩) (show 0 ≤ c by have := lineP_c h; omega)
  have hd := diff_all (xs := byM T (natsOf ys) (weightsM T (natsOf ys)) c) (P := P) (fun k hk => h1 k (by omega)) (fun j hj => by
    obtain ⟨i, hi, e⟩ := h4 h0 j hj
    exact ⟨i, by omega, e⟩)
  have hg := great_all (xs := byM T (natsOf ys) (weightsM T (natsOf ys)) c) (P := P) (fun k hk => h1 k (by omega)) (by
    obtain ⟨i, hi, e⟩ := h4 h0 P (Nat.le_refl _)
    exact ⟨i, by omega, e⟩)
  have hle := diffM_le (byM T (natsOf ys) (weightsM T (natsOf ys)) c) T.length
  rw [hbl] at hd
  exact ⟨P, by omega, hg, hd⟩
end Go.Proofs.Ytobfencmfeneoaa
