import Derived.Test.YthmifadnfaajbaaRows
import Derived.WalkKit
import Derived.LoopTactic
import Derived.Outline
import Derived.WalkSpells
import Derived.WalkLawsBesides
import Derived.ProofKit
import Derived.Lib.Hide
import Derived.IntWalk
import Derived.Test.YthmifadnfaajbaaM0
import Derived.Test.YthmifadnfaajbaaM1
import Derived.Test.YthmifadnfaajbaaM5
import Derived.Test.YthmifadnfaajbaaM2
import Derived.Test.YthmifadnfaajbaaM3
import Derived.Test.YthmifadnfaajbaaM4
import Derived.Test.YthmifadnfaajbaaM20
import Derived.Test.YthmifadnfaajbaaM16
import Derived.Deep.QuietTactic
import Derived.BigQuiet
import Derived.Test.YthmifadnfaajbaaM11
import Derived.Test.YthmifadnfaajbaaM7
namespace Go.Proofs.Ythmifadnfaajbaa
open Go.RowKit Go.WideShapes

/-- what WeightsOf answers -/
def weightsRes (T ys : List Int) : List Int := if tasksP T ys then weightsM T (natsOf ys) else []
theorem weightsRes_len (T ys : List Int) : (weightsRes T ys).length ≤ 1048576 := by
  unfold weightsRes
  split
  · rename_i h; rw [weightsM_len]; have := h.2.2; omega
  · simp
/-- what LeastTact answers -/
def tactFine (T ys : List Int) (p : Int) : Bool := tasksM T ys && inB 1 6 p
def tactRes (T ys : List Int) (p : Int) : Int := if tactFine T ys p then (leastT T (natsOf ys) p : Int) else -1
theorem tactRes_no {T ys : List Int} {p : Int} (h : tactFine T ys p = false) : tactRes T ys p = -1 := by unfold tactRes; rw [h]; rfl
theorem tactRes_yes {T ys : List Int} {p : Int} (h : tactFine T ys p = true) : tactRes T ys p = (leastT T (natsOf ys) p : Int) := by unfold tactRes; rw [h]; rfl
end Go.Proofs.Ythmifadnfaajbaa
namespace Go.Proofs.Ythmifadnfaajbaa
open Go.RowKit Go.WideShapes

theorem Try.infoIntBy : (Try.prog.info? 3).map (fun i => (i.zero, i.size, i.bytes)) = some (some (.int .i64 0), 1, 8) := by kernel_rfl
/-- what PlacesBy answers -/
def byRes (T ys : List Int) (c : Int) : List Int := if lineP T ys c then byM T (natsOf ys) (weightsM T (natsOf ys)) c else []
theorem byRes_len (T ys : List Int) (c : Int) : (byRes T ys c).length ≤ 1048576 := by
  unfold byRes
  split
  · rename_i h
    have hs := by_spec (T := T) (A := natsOf ys) (W := weightsM T (natsOf ys)) (c := c) (by rw [natsOf_len]; exact h.2.1.2.1) (natsOf_hA h.2.1.1.2) (fun k hk => ⟨(tasks_at h.2.1.1.1).2 k hk, h.1 k hk⟩) (by have := lineP_c h; omega)
    have := h.2.1.2.2
    rw [hs.1]; omega
  · simp
theorem pick_step {T : List Int} {A : List Nat} {W : List Int} {D : Nat} {left : Int} {k : Nat} {t wk : Int} (ht : T.getD k 0 = t) (hw : W.getD k 0 = wk) : pickM T A W D left (k + 1) = if D.testBit k = false ∧ dif (A.getD k 0) D = 0 ∧ t ≤ left ∧ (pickM T A W D left k < 0 ∨ W.getD (pickM T A W D left k).toNat 0 < wk) then (k : Int) else pickM T A W D left k := by
  rw [pickM, ht, hw]
theorem pick_lt {T : List Int} {A : List Nat} {W : List Int} {D : Nat} {left : Int} {k : Nat} (h : 0 ≤ pickM T A W D left k) : ∃ m : Nat, m < k ∧ pickM T A W D left k = (m : Int) := by
  obtain ⟨q, hq, e, _⟩ := pickM_get k h; exact ⟨q, hq, e⟩
def msG (c : Int) (n : Nat) (d l : Value) : Nat := 2 * undone (intOf d).toNat n + (if intOf l < c then 1 else 0)
theorem msG_at (c : Int) (n : Nat) (d l : Int) : msG c n (.int .i64 d) (.int .i64 l) = 2 * undone d.toNat n + (if l < c then 1 else 0) := rfl
end Go.Proofs.Ythmifadnfaajbaa
namespace Go.Proofs.Ythmifadnfaajbaa
open Go.RowKit Go.WideShapes

def revM (xs : List Int) : List Int := tab (fun q => xs.getD (xs.length - 1 - q) 0) xs.length
theorem revM_length (xs : List Int) : (revM xs).length = xs.length := tab_length _ _
theorem revM_getD (xs : List Int) {q : Nat} (h : q < xs.length) : (revM xs).getD q 0 = xs.getD (xs.length - 1 - q) 0 := tab_getD _ h
end Go.Proofs.Ythmifadnfaajbaa
namespace Go.Proofs.Ythmifadnfaajbaa

theorem csum_sumN (T : List Int) : ∀ n, csum T (fun _ => true) n = sumN T n := by
  intro n
  induction n with
  | zero => rfl
  | succ n ih => rw [csum, sumN, ih]; simp
theorem total_csum (T : List Int) : totalM T = csum T (fun _ => true) T.length := by rw [totalM_eq, csum_sumN]
theorem few_nil {T : List Int} {A : List Nat} {c : Int} (h : T.length = 0) : fewM T A c = 0 := by
  unfold fewM; rw [h]; rfl
theorem few_facts {T ys : List Int} {c : Int} (h : lineP T ys c) : (0 ≤ fewM T (natsOf ys) c ∧ fewM T (natsOf ys) c ≤ 6) ∧ totalM T ≤ fewM T (natsOf ys) c * c := by
  have hl : (natsOf ys).length = T.length := by rw [natsOf_len]; exact h.2.1.2.1
  have hA := natsOf_hA h.2.1.1.2
  have hc := lineP_c h
  have h1 := few_nn (T := T) (A := natsOf ys) (c := c) hl hA (by omega) h.1
  have h2 := h.2.1.2.2
  obtain ⟨p, hp⟩ := few_get (T := T) (A := natsOf ys) (c := c) hl (by omega) hA h1.1
  have h3 := hp.total
  rw [total_csum]
  refine ⟨by omega, ?_⟩
  rwa [Int.toNat_of_nonneg h1.1] at h3
theorem few_more {T ys : List Int} {c : Int} (h : lineP T ys c) : fewRes T ys (c + 1) < 0 ∨ fewRes T ys (c + 1) ≤ fewM T (natsOf ys) c := by
  have hl : (natsOf ys).length = T.length := by rw [natsOf_len]; exact h.2.1.2.1
  have hA := natsOf_hA h.2.1.1.2
  have hc := lineP_c h
  unfold fewRes
  split
  · right; exact few_up hl hA (by omega) (by omega) (few_facts h).1.1
  · left; omega
theorem fewRes_bd (T ys : List Int) (c : Int) : -1 ≤ fewRes T ys c ∧ fewRes T ys c ≤ 6 := by
  unfold fewRes
  split
  · rename_i h; have := (few_facts h).1; omega
  · omega
theorem by_line {T ys : List Int} {c : Int} (h : lineP T ys c) : (byM T (natsOf ys) (weightsM T (natsOf ys)) c).length = T.length := by
  have hl : (natsOf ys).length = T.length := by rw [natsOf_len]; exact h.2.1.2.1
  exact (by_spec hl (natsOf_hA h.2.1.1.2) (fun k hk => ⟨(tasks_at h.2.1.1.1).2 k hk, h.1 k hk⟩) (by have := lineP_c h; omega)).1
theorem byRes_line {T ys : List Int} {c : Int} (h : lineP T ys c) : byRes T ys c = byM T (natsOf ys) (weightsM T (natsOf ys)) c := if_pos h
theorem byRes_no {T ys : List Int} {c : Int} (h : ¬ lineP T ys c) : byRes T ys c = [] := if_neg h
theorem few_by {T ys : List Int} {c : Int} (h : lineP T ys c) (h0 : T.length ≠ 0) : fewM T (natsOf ys) c ≤ greatM (byRes T ys c) + 1 := by
  have hl : (natsOf ys).length = T.length := by rw [natsOf_len]; exact h.2.1.2.1
  rw [byRes_line h]
  refine by_few (W := weightsM T (natsOf ys)) hl (natsOf_hA h.2.1.1.2) (fun k hk => ⟨(tasks_at h.2.1.1.1).2 k hk, h.1 k hk⟩) (by have := lineP_c h; omega) (fun i hi => ?_) h0
  rw [← by_line h] at hi
  exact greatM_ge _ (List.mem_of_getElem? (get_getD hi))
theorem tasks_take {T ys : List Int} (h : tasksP T ys) (n : Nat) : tasksP (T.take n) (ys.take n) := by
  obtain ⟨⟨h1, h2⟩, h3, h4⟩ := h
  refine ⟨⟨?_, fun i hi => ?_⟩, by simp; omega, by simp; omega⟩
  · unfold allIn at h1 ⊢
    rw [List.all_eq_true] at h1 ⊢
    exact fun x hx => h1 x (List.mem_of_mem_take hx)
  · have hi' : i < ys.length ∧ i < n := by simp at hi; omega
    have e : (ys.take n).getD i 0 = ys.getD i 0 := by
      rw [List.getD_eq_getElem?_getD, List.getD_eq_getElem?_getD, List.getElem?_take, if_pos hi'.2]
    rw [e]; exact h2 i hi'.1
/-- how many of 0 .. V - 1 are among the first k -/
def cntM (xs : List Int) (k : Nat) : Nat → Nat
  | 0 => 0
  | V + 1 => cntM xs k V + (if inM (xs.take k) (V : Int) then 1 else 0)
theorem inM_snoc (l : List Int) (x y : Int) : inM (l ++ [x]) y = (inM l y || decide (x = y)) := by
  rw [Bool.eq_iff_iff, inM_iff, Bool.or_eq_true, inM_iff, decide_eq_true_eq, List.mem_append, List.mem_singleton]
  exact ⟨fun h => h.imp id Eq.symm, fun h => h.imp id Eq.symm⟩
theorem cntM_next {xs : List Int} {k : Nat} (hk : k < xs.length) (hx : 0 ≤ xs.getD k 0) : ∀ V : Nat, cntM xs (k + 1) V = cntM xs k V + (if inM (xs.take k) (xs.getD k 0) = false ∧ xs.getD k 0 < (V : Int) then 1 else 0) := by
  intro V
  induction V with
  | zero =>
    have c : ¬ (inM (xs.take k) (xs.getD k 0) = false ∧ xs.getD k 0 < ((0 : Nat) : Int)) := fun h => by have := h.2; omega
    rw [if_neg c]; rfl
  | succ V ih =>
    rw [cntM, cntM, ih, take_get (get_getD hk), inM_snoc]
    by_cases hv : xs.getD k 0 = (V : Int)
    · have c1 : ¬ (inM (xs.take k) (xs.getD k 0) = false ∧ xs.getD k 0 < (V : Int)) := fun h => by have := h.2; omega
      rw [decide_eq_true hv, Bool.or_true, if_neg c1, if_pos rfl]
      cases hi : inM (xs.take k) (V : Int)
      · have c2 : inM (xs.take k) (xs.getD k 0) = false ∧ xs.getD k 0 < ((V + 1 : Nat) : Int) := ⟨by rw [hv, hi], by omega⟩
        rw [if_pos c2]; simp
      · have c2 : ¬ (inM (xs.take k) (xs.getD k 0) = false ∧ xs.getD k 0 < ((V + 1 : Nat) : Int)) := fun h => by rw [hv, hi] at h; cases h.1
        rw [if_neg c2]; simp
    · rw [decide_eq_false hv, Bool.or_false]
      by_cases c3 : inM (xs.take k) (xs.getD k 0) = false ∧ xs.getD k 0 < (V : Int)
      · have c4 : inM (xs.take k) (xs.getD k 0) = false ∧ xs.getD k 0 < ((V + 1 : Nat) : Int) := ⟨c3.1, by have := c3.2; omega⟩
        rw [if_pos c3, if_pos c4]; omega
      · have c4 : ¬ (inM (xs.take k) (xs.getD k 0) = false ∧ xs.getD k 0 < ((V + 1 : Nat) : Int)) := fun h => c3 ⟨h.1, by have := h.2; omega⟩
        rw [if_neg c3, if_neg c4]; omega
/-- of numbers in 0..P, each of which is there, so many are different -/
theorem diff_all {xs : List Int} {P : Nat} (h : ∀ k, k < xs.length → 0 ≤ xs.getD k 0 ∧ xs.getD k 0 ≤ P) (ha : ∀ j : Nat, j ≤ P → ∃ i, i < xs.length ∧ xs.getD i 0 = (j : Int)) : diffM xs xs.length = P + 1 := by
  have all : ∀ k, k ≤ xs.length → diffM xs k = cntM xs k (P + 1) := by
    intro k
    induction k with
    | zero =>
      intro _
      have e : ∀ V, cntM xs 0 V = 0 := by
        intro V
        induction V with
        | zero => rfl
        | succ V ih => rw [cntM, ih]; simp [inM]
      rw [e]; rfl
    | succ k ih =>
      intro hk
      rw [diffM, ih (by omega), cntM_next (by omega) (h k (by omega)).1]
      have := (h k (by omega)).2
      cases hi : inM (xs.take k) (xs.getD k 0)
      · have c : (false = false ∧ xs.getD k 0 < ((P + 1 : Nat) : Int)) := ⟨rfl, by omega⟩
        rw [if_pos c]; rfl
      · have c : ¬ (true = false ∧ xs.getD k 0 < ((P + 1 : Nat) : Int)) := fun h => by cases h.1
        rw [if_neg c]; rfl
  rw [all _ (Nat.le_refl _)]
  have full : ∀ V, V ≤ P + 1 → cntM xs xs.length V = V := by
    intro V
    induction V with
    | zero => intro _; rfl
    | succ V ih =>
      intro hV
      obtain ⟨i, hi, e⟩ := ha V (by omega)
      rw [cntM, ih (by omega), List.take_length, inM_iff.2 (by rw [← e]; exact List.mem_of_getElem? (get_getD hi))]; rfl
  exact full _ (Nat.le_refl _)
theorem great_all {xs : List Int} {P : Nat} (h : ∀ k, k < xs.length → 0 ≤ xs.getD k 0 ∧ xs.getD k 0 ≤ P) (ha : ∃ i, i < xs.length ∧ xs.getD i 0 = (P : Int)) : greatM xs = P := by
  obtain ⟨i, hi, e⟩ := ha
  have h1 := greatM_ge _ (List.mem_of_getElem? (get_getD hi))
  have h2 := greatM_le (xs := xs) (B := P) (by omega) (fun x hx => by
    obtain ⟨k, hk, rfl⟩ := List.mem_iff_getElem.1 hx
    have := (h k hk).2
    rwa [List.getD_eq_getElem?_getD, List.getElem?_eq_getElem hk] at this)
  omega
theorem tact_facts {T ys : List Int} {p : Int} (h : tactFine T ys p = true) : (1 ≤ leastT T (natsOf ys) p ∧ leastT T (natsOf ys) p ≤ 54) ∧ (1 ≤ p ∧ p ≤ 6) ∧ (0 ≤ fewRes T ys (leastT T (natsOf ys) p) ∧ fewRes T ys (leastT T (natsOf ys) p) ≤ p) ∧
    (leastT T (natsOf ys) p = 1 ∨ fewRes T ys ((leastT T (natsOf ys) p : Int) - 1) < 0 ∨ p < fewRes T ys ((leastT T (natsOf ys) p : Int) - 1)) ∧ totalM T ≤ (leastT T (natsOf ys) p : Int) * p ∧ (0 ≤ totalM T ∧ totalM T ≤ 54) ∧ ∀ x ∈ T, -1099511627776 ≤ x ∧ x ≤ 1099511627776 := by
  simp only [tactFine, Bool.and_eq_true] at h
  have hP := tasksM_get h.1
  have hp : 1 ≤ p ∧ p ≤ 6 := by simpa [inB] using h.2
  have hl : (natsOf ys).length = T.length := by rw [natsOf_len]; exact hP.2.1
  have hA := natsOf_hA hP.1.2
  obtain ⟨hok, h1, h54, hno⟩ := least_spec (T := T) (A := natsOf ys) hl hP.2.2 hA (tasks_at hP.1.1).1 (places := p) hp.1
  have hL : lineP T ys (leastT T (natsOf ys) p) := ⟨hok.1, hP, inB_true (by omega) (by omega)⟩
  have hF := few_facts hL
  have hR : fewRes T ys (leastT T (natsOf ys) p) = fewM T (natsOf ys) (leastT T (natsOf ys) p) := if_pos hL
  refine ⟨⟨h1, h54⟩, hp, by rw [hR]; exact ⟨hF.1.1, hok.2⟩, ?_, by rw [total_csum]; exact least_total hl hA (by omega) hF.1.1 hok.2, ?_, fun x hx => ?_⟩
  · by_cases e : leastT T (natsOf ys) p = 1
    · exact .inl e
    · right
      have hn := hno (leastT T (natsOf ys) p - 1) (by omega) (by omega)
      have e1 : (leastT T (natsOf ys) p : Int) - 1 = ((leastT T (natsOf ys) p - 1 : Nat) : Int) := by omega
      rw [e1]
      unfold fewRes
      split
      · rename_i hl2
        right
        have : ¬ fewM T (natsOf ys) ((leastT T (natsOf ys) p - 1 : Nat) : Int) ≤ p := fun h => hn ⟨hl2.1, h⟩
        omega
      · left; omega
  · rw [total_csum]
    have := csum_range (tasks_at hP.1.1).1 (fun _ => true) T.length
    have := hP.2.2; omega
  · obtain ⟨k, hk, rfl⟩ := List.mem_iff_getElem.1 hx
    have := (tasks_at hP.1.1).1 k
    rw [List.getD_eq_getElem?_getD, List.getElem?_eq_getElem hk] at this
    simp at this; omega
theorem by_loads {T ys : List Int} {c : Int} (h : lineP T ys c) : (∀ i, i < T.length → 0 ≤ (byRes T ys c).getD i 0 ∧ (byRes T ys c).getD i 0 ≤ 6) ∧ (∀ i, i < T.length → ∀ k, ((natsOf ys).getD i 0).testBit k = true → (byRes T ys c).getD k 0 ≤ (byRes T ys c).getD i 0) ∧
    (∀ j : Int, csum T (fun i => (byRes T ys c).getD i 0 == j) T.length ≤ c) := by
  have hl : (natsOf ys).length = T.length := by rw [natsOf_len]; exact h.2.1.2.1
  rw [byRes_line h]
  obtain ⟨hbl, P, h1, h2, h3, h4⟩ := by_spec (W := weightsM T (natsOf ys)) hl (natsOf_hA h.2.1.1.2) (fun k hk => ⟨(tasks_at h.2.1.1.1).2 k hk, h.1 k hk⟩) (show 0 ≤ c by have := lineP_c h; omega)
  refine ⟨fun i hi => ?_, h2, h3⟩
  have hd := diff_all (xs := byM T (natsOf ys) (weightsM T (natsOf ys)) c) (P := P) (fun k hk => h1 k (by omega)) (fun j hj => by
    obtain ⟨i, hi, e⟩ := h4 (by omega) j hj
    exact ⟨i, by omega, e⟩)
  have hle := diffM_le (byM T (natsOf ys) (weightsM T (natsOf ys)) c) (byM T (natsOf ys) (weightsM T (natsOf ys)) c).length
  have := h1 i hi
  have := h.2.1.2.2
  omega
theorem by_great {T ys : List Int} {c : Int} (h : lineP T ys c) (h0 : T.length ≠ 0) : ∃ P : Nat, P < T.length ∧ greatM (byRes T ys c) = P ∧ diffM (byRes T ys c) T.length = P + 1 := by
  have hl : (natsOf ys).length = T.length := by rw [natsOf_len]; exact h.2.1.2.1
  rw [byRes_line h]
  obtain ⟨hbl, P, h1, _, _, h4⟩ := by_spec (W := weightsM T (natsOf ys)) hl (natsOf_hA h.2.1.1.2) (fun k hk => ⟨(tasks_at h.2.1.1.1).2 k hk, h.1 k hk⟩) (show 0 ≤ c by have := lineP_c h; omega)
  have hd := diff_all (xs := byM T (natsOf ys) (weightsM T (natsOf ys)) c) (P := P) (fun k hk => h1 k (by omega)) (fun j hj => by
    obtain ⟨i, hi, e⟩ := h4 h0 j hj
    exact ⟨i, by omega, e⟩)
  have hg := great_all (xs := byM T (natsOf ys) (weightsM T (natsOf ys)) c) (P := P) (fun k hk => h1 k (by omega)) (by
    obtain ⟨i, hi, e⟩ := h4 h0 P (Nat.le_refl _)
    exact ⟨i, by omega, e⟩)
  have hle := diffM_le (byM T (natsOf ys) (weightsM T (natsOf ys)) c) T.length
  rw [hbl] at hd
  exact ⟨P, by omega, hg, hd⟩
end Go.Proofs.Ythmifadnfaajbaa
namespace Go.Proofs.Ythmifadnfaajbaa
open Go.RowKit Go.WideShapes

theorem used_le {T : Nat → Int} {R : Int} {n : Nat} {l : List Nat} (hT : ∀ i, i < n → 1 ≤ T i ∧ T i ≤ R) (h : l.Perm (List.range n)) : rollU T R l n ≤ n := (fit_hi hT h (Nat.le_refl n)).1
section
variable {k1 k2 : ByteArray}
variable {xs : List Int} {R : Int} {kind : ByteArray}
theorem roll_few (hv : cutsM xs R = true) (kind : ByteArray) : fewRl xs R ≤ (rollU (lenT xs) R (cutOrd xs kind) xs.length : Nat) := by
  obtain ⟨h1, h2, h7, hT⟩ := cuts_get hv
  obtain ⟨p1, p2, p3, p4⟩ := roll_plan hT (cutOrd_perm xs kind)
  refine (few_min (m := rollU (lenT xs) R (cutOrd xs kind) xs.length) p1 (fun j => ?_)).2
  rcases Nat.lt_or_ge j (rollU (lenT xs) R (cutOrd xs kind) xs.length) with g | g
  · exact p3 j g
  · rw [wsum_none _ (fun i hi => by have := p1 i hi; simp; omega)]; omega
theorem roll_yes (hv : cutsM xs R = true) (hk : (isLong kind || isFirst kind) = true) : rollRes xs R kind = tab (fun i => (rollP (lenT xs) R (cutOrd xs kind) xs.length i : Int)) xs.length := by
  unfold rollRes; rw [hv, hk]; rfl
theorem roll_great (hv : cutsM xs R = true) (hk : (isLong kind || isFirst kind) = true) (h0 : 0 < xs.length) :
    greatM (rollRes xs R kind) + 1 = (rollU (lenT xs) R (cutOrd xs kind) xs.length : Nat) ∧ diffM (rollRes xs R kind) (rollRes xs R kind).length = rollU (lenT xs) R (cutOrd xs kind) xs.length := by
  obtain ⟨h1, h2, h7, hT⟩ := cuts_get hv
  obtain ⟨p1, p2, p3, p4⟩ := roll_plan hT (cutOrd_perm xs kind)
  have hu := p1 0 h0
  rw [roll_yes hv hk]
  obtain ⟨P, hP⟩ : ∃ P, rollU (lenT xs) R (cutOrd xs kind) xs.length = P + 1 := ⟨_, (Nat.succ_pred_eq_of_pos (by omega)).symm⟩
  rw [hP] at p1 p2 ⊢
  have b1 : ∀ k, k < (tab (fun i => (rollP (lenT xs) R (cutOrd xs kind) xs.length i : Int)) xs.length).length → 0 ≤ (tab (fun i => (rollP (lenT xs) R (cutOrd xs kind) xs.length i : Int)) xs.length).getD k 0 ∧ (tab (fun i => (rollP (lenT xs) R (cutOrd xs kind) xs.length i : Int)) xs.length).getD k 0 ≤ P := by
    intro k hk2
    rw [tab_length] at hk2
    rw [tab_getD _ hk2]
    have := p1 k hk2; omega
  have b2 : ∀ j : Nat, j ≤ P → ∃ i, i < (tab (fun i => (rollP (lenT xs) R (cutOrd xs kind) xs.length i : Int)) xs.length).length ∧ (tab (fun i => (rollP (lenT xs) R (cutOrd xs kind) xs.length i : Int)) xs.length).getD i 0 = (j : Int) := by
    intro j hj
    obtain ⟨i, hi, e⟩ := p2 j (by omega)
    exact ⟨i, by rw [tab_length]; exact hi, by rw [tab_getD _ hi, e]⟩
  exact ⟨by rw [great_all b1 (b2 P (Nat.le_refl _))]; omega, diff_all b1 b2⟩
theorem half_lt {R : Int} (hR : 1 ≤ R) : ∀ x : Nat, x < R.toNat / 2 + 1 → 2 * (x : Int) ≤ R := by intro x hx; omega
theorem least_few (hv : cutsM xs R = true) : leastRes11 xs R ≤ fewRl xs R := by
  obtain ⟨h1, h2, h7, hT⟩ := cuts_get hv
  unfold leastRes11
  rw [if_pos hv]
  exact few_least h1 hT (half_lt h1)
theorem leastRes11_bd (xs : List Int) (R : Int) : -1 ≤ leastRes11 xs R ∧ leastRes11 xs R ≤ 7 := by
  cases hv : cutsM xs R
  · unfold leastRes11; rw [hv]; simp
  · obtain ⟨h1, h2, h7, hT⟩ := cuts_get hv
    have a1 := least_few hv
    have a2 := few_each (xs := xs) (R := R) (by omega) (fun i hi => (hT i hi).2)
    have a3 := leastTo_nn (T := lenT xs) (R := R) (n := xs.length) (R.toNat / 2 + 1)
    unfold leastRes11 at a1 ⊢
    rw [if_pos hv] at a1 ⊢
    omega
theorem rolls_bd (xs : List Int) (R : Int) : -1 ≤ rollsRes xs R ∧ rollsRes xs R ≤ 7 := by
  unfold rollsRes
  cases hv : cutsM xs R
  · simp
  · obtain ⟨h1, h2, h7, hT⟩ := cuts_get hv
    have a2 := few_each (xs := xs) (R := R) (by omega) (fun i hi => (hT i hi).2)
    rw [if_pos rfl]
    omega
theorem rolls_yes (h : 0 ≤ rollsRes xs R) : cutsM xs R = true := by
  cases hv : cutsM xs R
  · unfold rollsRes at h; rw [hv] at h; simp at h
  · rfl
theorem least_yes (h : 0 ≤ leastRes11 xs R) : cutsM xs R = true := by
  cases hv : cutsM xs R
  · unfold leastRes11 at h; rw [hv] at h; simp at h
  · rfl
/-- what FnFewestRolls asks -/
theorem few_law {n : Nat} (h : 0 ≤ rollsRes xs R) (hn : xs.length = n + 1) (h1 : isLong k1 = true) (h2 : isFirst k2 = true) :
    leastRes11 xs R ≤ rollsRes xs R ∧ rollsRes xs R ≤ greatM (rollRes xs R k1) + 1 ∧ rollsRes xs R ≤ greatM (rollRes xs R k2) + 1 ∧ rollsRes (xs.take n) R ≤ rollsRes xs R ∧ rollsRes xs R ≤ rollsRes (xs.take n) R + 1 ∧ 0 ≤ greatM (rollRes xs R k1) ∧ greatM (rollRes xs R k1) ≤ 7 ∧ 0 ≤ greatM (rollRes xs R k2) ∧ greatM (rollRes xs R k2) ≤ 7 := by
  have hv := rolls_yes h
  obtain ⟨c1, c2, c7, hT⟩ := cuts_get hv
  have e1 : rollsRes xs R = fewRl xs R := by unfold rollsRes; rw [if_pos hv]
  have e2 : rollsRes (xs.take n) R = fewRl (xs.take n) R := by unfold rollsRes; rw [if_pos (cuts_take hv n)]
  obtain ⟨g1, _⟩ := roll_great hv (show (isLong k1 || isFirst k1) = true by rw [h1]; rfl) (by omega)
  obtain ⟨g2, _⟩ := roll_great hv (show (isLong k2 || isFirst k2) = true by rw [h2]; simp) (by omega)
  have f1 := roll_few hv k1
  have f2 := roll_few hv k2
  obtain ⟨t1, t2⟩ := few_take c1 hn hT
  have l1 := least_few hv
  have n1 := greatM_nn (rollRes xs R k1)
  have n2 := greatM_nn (rollRes xs R k2)
  have ub : ∀ k, (isLong k || isFirst k) = true → greatM (rollRes xs R k) ≤ 7 := by
    intro k hk
    refine greatM_le (by omega) (fun x hx => ?_)
    rw [roll_yes hv hk] at hx
    obtain ⟨i, hi⟩ := List.mem_iff_getElem?.1 hx
    obtain ⟨e, hil⟩ := tab_get hi
    obtain ⟨p1, p2, p3, p4⟩ := roll_plan hT (cutOrd_perm xs k)
    have hp := p1 i hil
    have hfu : rollU (lenT xs) R (cutOrd xs k) xs.length ≤ xs.length := used_le hT (cutOrd_perm xs k)
    omega
  have u1 := ub k1 (by rw [h1]; rfl)
  have u2 := ub k2 (by rw [h2]; simp)
  rw [e1, e2]
  omega
theorem card_le (P : Nat → Bool) : ∀ n, card P n ≤ n
  | 0 => Nat.le_refl _
  | n + 1 => by have := card_le P n; rw [card]; split <;> omega
theorem totalM_w (xs : List Int) : totalM xs = wsum (lenT xs) (fun _ => true) xs.length := by
  have key : ∀ n, n ≤ xs.length → totalM (xs.take n) = wsum (lenT xs) (fun _ => true) n := by
    intro n
    induction n with
    | zero => intro _; simp [totalM, wsum]
    | succ n ih =>
      intro h
      have e : xs.take (n + 1) = xs.take n ++ [lenT xs n] := by
        unfold lenT
        rw [List.take_add_one, List.getD_eq_getElem?_getD, List.getElem?_eq_getElem (by omega)]; rfl
      rw [e, totalM_snoc, ih (by omega), wsum, if_pos rfl]
  have := key xs.length (Nat.le_refl _)
  rw [List.take_length] at this
  exact this
/-- what FnLeastRolls asks -/
theorem least_law (h : 0 ≤ leastRes11 xs R) : (card (fun i => decide (R < 2 * lenT xs i)) xs.length : Int) ≤ leastRes11 xs R ∧ totalM xs ≤ leastRes11 xs R * R ∧ (∀ x ∈ xs, 1 ≤ x ∧ x ≤ 20) ∧ 0 ≤ leastRes11 xs R * R ∧ leastRes11 xs R * R ≤ 140 := by
  have hv := least_yes h
  obtain ⟨c1, c2, c7, hT⟩ := cuts_get hv
  have hb := (leastRes11_bd xs R).2
  have e1 : leastRes11 xs R = leastTo (lenT xs) R xs.length (R.toNat / 2 + 1) := by unfold leastRes11; rw [if_pos hv]
  obtain ⟨l1, l2⟩ := leastTo_long (T := lenT xs) (R := R) c1 hT (k := R.toNat / 2 + 1) (by omega)
  rw [← e1] at l1 l2
  refine ⟨l1, by rw [totalM_w]; exact l2, fun x hx => ?_, Int.mul_nonneg h (by omega), ?_⟩
  · obtain ⟨i, hi⟩ := List.mem_iff_getElem?.1 hx
    have hl := (List.getElem?_eq_some_iff.1 hi).1
    have := hT i hl
    unfold lenT at this
    rw [getD_of hi] at this
    omega
  · have := Int.mul_le_mul hb c2 (by omega) (by omega)
    omega
end
end Go.Proofs.Ythmifadnfaajbaa
namespace Go.Proofs.Ythmifadnfaajbaa
open Go.RowKit Go.WideShapes

/-- a list that is drawn: numbers in lo..hi -/
def ListPost (w : World) (R p n : Nat) (lo hi : Int) (e : Ending) (w' : World) : Prop := ∃ (a : Option Addr) (cap : Nat) (xs : List Int), e = .returned (.slice a n cap) ∧
  w'.ownsRow w.heap.size 3 1 (.slice a n cap) n (xs.map (.int .i64)) ∧ n ≤ cap ∧ xs.length = n ∧ (∀ x ∈ xs, lo ≤ x ∧ x ≤ hi) ∧ Rd w' R (p + n) ∧ w.grownBy w' (some R)

set_option maxRecDepth 100000 in
set_option maxHeartbeats 2000000 in
theorem listOf_any (R p n : Nat) (lo hi : Int) (w : World) (h : Rd w R p) (hp : p ≤ 1000000) (hn : n ≤ 1000) (hlo : -1000 ≤ lo) (hlh : lo ≤ hi) (hhi : hi ≤ 1000) :
    Calls Try.prog 31 #[.pointer (some ⟨R, 0, none⟩), .int .i64 n, .int .i64 lo, .int .i64 hi] w (ListPost w R p n lo hi) := by
  have hR := h.lt
  obtain ⟨i0, hi0, hz0, hz1, hz2⟩ := info_parts Try.infoIntD
  have ho0 := World.ownsRow_made (base := w.heap.size) (size := 1) (e := 3) w #[] 0 (Nat.le_refl _) (Nat.zero_le _) rfl
  go_enter Try.func31, Try.ntmps31
  go_wp2_with fail
  go_loopw [9] (fun v wr => ∃ (k cap : Nat) (a : Option Addr) (xs : List Int), v = .slice a k cap ∧ wr.ownsRow w.heap.size 3 1 v k (xs.map (.int .i64)) ∧ k ≤ n ∧ (∀ x ∈ xs, lo ≤ x ∧ x ≤ hi) ∧ Rd wr R (p + k) ∧ w.grownBy wr (some R)) (fun v _ => n - capOf v)
  case atStart => exact ⟨0, _, _, [], rfl, ho0, Nat.zero_le _, (fun x hx => by cases hx), h.alloc _, World.grownBy_alloc _ _ _⟩
  case round =>
    obtain ⟨k, cap, a, xs, rfl, hown, hkm, hall, hr, hg⟩ := hrel
    obtain ⟨wo, rfl⟩ : ∃ wo : World, wo = wr := ⟨_, rfl⟩
    have hsz := hg.size
    have HOWN := Lib.hid hown
    have HALL := Lib.hid hall
    clear hown hall
    by_cases hlt : k < n
    · go_wp2_with fail
      refine (pick_any R (p + k) (hi - lo + 1) wo hr (by omega)).mono ?_
      rintro e w5 ⟨q1, rfl, hq1, hr5, hgw⟩
      have HO5 := Lib.hid (HOWN.out.kept hgw (ne_low HOWN.out hR))
      have hg6 := grown_r hg hgw
      have hxb : lo ≤ lo + (q1 : Int) ∧ lo + (q1 : Int) ≤ hi := by omega
      go_wp2_with (at_builtin; refine wpList_append_own _ rfl _ _ 23 rfl w.heap.size 3 i0 (.int .i64 0) 1 8 Try.underlying23 hi0 hz0 hz1 hz2 rfl (by decide) _ _ _ rfl (HO5.out.alloc _) ⟨w5.heap.size, 0, none⟩ 1 1 [.int .i64 (lo + (q1 : Int))] rfl rfl ?c1 ?c2 ?c3 ?c4 ?c5 ?_)
      case c1 => exact one_new _ _ _
      case c2 => exact one_cell_int _ _
      case c3 => unfold maxLen; omega
      case c4 => omega
      case c5 => have := hgw.size; simp; omega
      intro v' w6 hown hgrow _
      obtain ⟨a6, c6, rfl, _⟩ := own_slice hown
      have hgr : w5.grownBy w6 (Value.slice a k cap).ownBlock := grown_comp (World.grownBy_alloc w5 _ _) hgrow
      have HO6 := Lib.hid hown
      have HG6 := Lib.hid hgr
      clear hown hgr hgrow
      go_wp2
      go_roundw
      case rel => exact ⟨k + 1, c6, a6, xs ++ [lo + (q1 : Int)], rfl, by rw [List.map_append]; exact HO6.out, by omega, (fun y hy => by
        rcases List.mem_append.1 hy with h' | h'
        · exact HALL.out y h'
        · simp only [List.mem_singleton] at h'; rw [h']; exact hxb), hr5.grown HG6.out (by intro b hb; have := (HO5.out.lt b hb).1; omega), grown_trans hg6 HG6.out (by intro b hb; have := (HO5.out.lt b hb).1; omega)⟩
      case measure => simp [capOf]; omega
    · obtain rfl : k = n := by omega
      go_wp2
      go_ret
      obtain ⟨a', c', e, hc⟩ := own_slice HOWN.out
      simp only [Value.slice.injEq] at e
      obtain ⟨rfl, _, rfl⟩ := e
      have hl := HOWN.out.1
      exact ⟨_, _, xs, rfl, HOWN.out, hc, by simpa using hl, HALL.out, hr, hg⟩
end Go.Proofs.Ythmifadnfaajbaa
namespace Go.Proofs.Ythmifadnfaajbaa
open Go.RowKit Go.WideShapes

theorem Try.infoInt : (Try.prog.info? 3).map (fun i => (i.zero, i.size, i.bytes)) = some (some (.int .i64 0), 1, 8) := by kernel_rfl
theorem Try.infoInts : (Try.prog.info? 23).map (fun i => (i.zero, i.size, i.bytes)) = some (some (.slice none 0 0), 1, 24) := by kernel_rfl

theorem bill_n {n : Int} (h : n ∈ [4, 5, 3, 6, 2, 1, 0]) : ∃ m : Nat, n = (m : Int) ∧ m ≤ 6 := by
  simp at h
  exact ⟨n.toNat, by omega, by omega⟩

def BillPost (w : World) (R p : Nat) (e : Ending) (w' : World) : Prop := ∃ (a : Option Addr) (len cap : Nat) (rows : List (List Int)) (p' : Nat), e = .returned (.slice a len cap) ∧
      RowsAt w' (fun b => w.heap.size ≤ b ∧ b < w'.heap.size) a len rows ∧ len ≤ cap ∧ len ≤ 6 ∧ Rd w' R p' ∧ p' ≤ p + 1000 ∧ w.grownBy w' (some R)
theorem billPost_mk {w w' : World} {R p p' len cap M : Nat} {a : Option Addr} (h : OwnRows w' w.heap.size M (.slice a len cap) len) (hl : len ≤ cap) (h6 : len ≤ 6) (hr : Rd w' R p') (hp : p' ≤ p + 1000)
    (hg : w.grownBy w' (some R)) : BillPost w R p (.returned (.slice a len cap)) w' := by
  obtain ⟨a', cap', rows, hv, _, hrows⟩ := h.rows (by omega)
  simp only [Value.slice.injEq] at hv
  obtain ⟨rfl, _, rfl⟩ := hv
  exact ⟨_, _, _, rows, p', rfl, hrows, hl, h6, hr, hp, hg⟩

end Go.Proofs.Ythmifadnfaajbaa
namespace Go.Proofs.Ythmifadnfaajbaa
open Go.RowKit Go.WideShapes

def PairsPost (w : World) (R p : Nat) (e : Ending) (w' : World) : Prop := ∃ (a : Option Addr) (len cap : Nat) (rows : List (List Int)) (p' : Nat), e = .returned (.slice a len cap) ∧
      RowsAt w' (fun b => w.heap.size ≤ b ∧ b < w'.heap.size) a len rows ∧ len ≤ cap ∧ len ≤ 8 ∧ Rd w' R p' ∧ p' ≤ p + 1000 ∧ w.grownBy w' (some R)
theorem pairsPost_mk {w w' : World} {R p p' len cap M : Nat} {a : Option Addr} (h : OwnRows w' w.heap.size M (.slice a len cap) len) (hl : len ≤ cap) (h6 : len ≤ 8) (hr : Rd w' R p') (hp : p' ≤ p + 1000)
    (hg : w.grownBy w' (some R)) : PairsPost w R p (.returned (.slice a len cap)) w' := by
  obtain ⟨a', cap', rows, hv, _, hrows⟩ := h.rows (by omega)
  simp only [Value.slice.injEq] at hv
  obtain ⟨rfl, _, rfl⟩ := hv
  exact ⟨_, _, _, rows, p', rfl, hrows, hl, h6, hr, hp, hg⟩
theorem pair_hi {n : Int} (h : n ∈ [9, 4]) : 4 ≤ n ∧ n ≤ 9 := by simp at h; omega
theorem pair_x {n : Int} (h : n ∈ [10, -1]) : -1 ≤ n ∧ n ≤ 10 := by simp at h; omega
end Go.Proofs.Ythmifadnfaajbaa
namespace Go.Proofs.Ythmifadnfaajbaa
open Go.RowKit Go.WideShapes

theorem own_lit3 (w : World) {B : Nat} (hB : B ≤ w.heap.size) (x y z : Int) : (w.alloc (.cells #[.int .i64 x, .int .i64 y, .int .i64 z] 3)).ownsRow B 3 1 (.slice (some ⟨w.heap.size, 0, none⟩) 3 3) 3 ([x, y, z].map (.int .i64)) :=
  ⟨rfl, .inr ⟨w.heap.size, 3, _, rfl, hB, heap_alloc_new w _, Nat.le_refl _, by unfold maxLen; omega, rfl, rfl⟩⟩
theorem job_t {n : Int} (h : n ∈ [5, 9]) : 5 ≤ n ∧ n ≤ 9 := by simp at h; omega
theorem job_d {n : Int} (h : n ∈ [12, 25, 6]) : 6 ≤ n ∧ n ≤ 25 := by simp at h; omega
end Go.Proofs.Ythmifadnfaajbaa
namespace Go.Proofs.Ythmifadnfaajbaa
open Go.RowKit Go.WideShapes

/-- drawn jobs -/
def DrawnJ (w : World) (e : Ending) (w' : World) : Prop := ∃ (a : Option Addr) (l c : Nat) (rows : List (List Int)), e = .returned (.slice a l c) ∧ RowsAt w' (· < w'.heap.size) a l rows ∧ l ≤ c ∧ l ≤ 8 ∧ Below w.heap.size w w'
/-- and an order, most often -/
def DrawnJO (w : World) (e : Ending) (w' : World) : Prop := ∃ (a : Option Addr) (l c : Nat) (rows : List (List Int)) (a2 : Option Addr) (l2 c2 : Nat) (xs : List Int), e = .returned (.tuple #[.slice a l c, .slice a2 l2 c2]) ∧
  RowsAt w' (· < w'.heap.size) a l rows ∧ l ≤ c ∧ l ≤ 8 ∧ IntsAt w' (· < w'.heap.size) a2 l2 xs ∧ l2 ≤ c2 ∧ l2 = l ∧ (∀ x ∈ xs, -1 ≤ x ∧ x ≤ 8) ∧ Below w.heap.size w w'
end Go.Proofs.Ythmifadnfaajbaa
namespace Go.Proofs.Ythmifadnfaajbaa
open Go.RowKit Go.WideShapes

end Go.Proofs.Ythmifadnfaajbaa
