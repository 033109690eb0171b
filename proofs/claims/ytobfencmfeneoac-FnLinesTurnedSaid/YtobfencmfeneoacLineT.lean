import Derived.Test.YtobfencmfeneoacLib
import Derived.Test.YtobfencmfeneoacNetM
import Derived.Test.YtobfencmfeneoacArr
import Derived.Test.YtobfencmfeneoacLineM
import Derived.Test.YtobfencmfeneoacLineLawM
import Derived.Test.YtobfencmfeneoacTaskSpec
import Derived.Test.YtobfencmfeneoacLoadSpec
import Derived.Test.YtobfencmfeneoacFewSpec
import Derived.Test.YtobfencmfeneoacBackw
import Derived.Test.YtobfencmfeneoacLineL
namespace Go.Proofs.Ytobfencmfeneoac

theorem revM_rev (xs : List Int) : revM xs = xs.reverse := by
  apply List.ext_getElem?
  intro i
  rcases Nat.lt_or_ge i xs.length with h | h
  · rw [List.getElem?_reverse h, get_getD (by rw [revM_length]; exact h), revM_getD xs h, get_getD (by omega)]
  · rw [List.getElem?_eq_none (by rw [revM_length]; exact h), List.getElem?_eq_none (by simpa using h)]
/-- the set of task i of the line turned, when of those behind it d are looked at -/
def sB (A : List Nat) (n i : Nat) : Nat → Nat
  | 0 => 0
  | d + 1 => sB A n i d + (if (A.getD (i + 1 + d) 0).testBit i then 2 ^ (n - 1 - (i + 1 + d)) else 0)
theorem sB_bit {A : List Nat} {n i : Nat} : ∀ d, i + d < n → ∀ u, (sB A n i d).testBit u = (decide (u < n ∧ i < n - 1 - u ∧ n - 1 - u ≤ i + d) && (A.getD (n - 1 - u) 0).testBit i) := by
  intro d
  induction d with
  | zero =>
    intro _ u
    have c : ¬ (u < n ∧ i < n - 1 - u ∧ n - 1 - u ≤ i + 0) := by omega
    rw [decide_eq_false c]; simp [sB]
  | succ d ih =>
    intro hd u
    have ih' := ih (by omega)
    rw [sB]
    cases h : (A.getD (i + 1 + d) 0).testBit i
    · simp only [Bool.false_eq_true, if_false, Nat.add_zero]
      rw [ih' u]
      by_cases hu : n - 1 - u = i + 1 + d ∧ u < n
      · rw [hu.1, h]; simp
      · congr 1
        rw [Bool.eq_iff_iff, decide_eq_true_eq, decide_eq_true_eq]; omega
    · rw [if_pos rfl]
      have hq : (sB A n i d).testBit (n - 1 - (i + 1 + d)) = false := by
        rw [ih']
        have c : ¬ (n - 1 - (i + 1 + d) < n ∧ i < n - 1 - (n - 1 - (i + 1 + d)) ∧ n - 1 - (n - 1 - (i + 1 + d)) ≤ i + d) := by omega
        rw [decide_eq_false c]; rfl
      rw [add_bit hq, ih' u]
      by_cases hu : u = n - 1 - (i + 1 + d)
      · have e : n - 1 - u = i + 1 + d := by omega
        have c : u < n ∧ i < n - 1 - u ∧ n - 1 - u ≤ i + (d + 1) := by omega
        rw [decide_eq_true hu, decide_eq_true c, e, h]; simp
      · rw [decide_eq_false hu, Bool.or_false]
        congr 1
        rw [Bool.eq_iff_iff, decide_eq_true_eq, decide_eq_true_eq]; omega
theorem sB_lt {A : List Nat} {n i d : Nat} (hd : i + d < n) : sB A n i d < 2 ^ (n - 1 - i) := by
  refine Nat.lt_pow_two_of_testBit _ (fun u hu => ?_)
  rw [sB_bit d hd]
  have c : ¬ (u < n ∧ i < n - 1 - u ∧ n - 1 - u ≤ i + d) := by omega
  rw [decide_eq_false c]; rfl
/-- the sets of the line turned -/
def backAt (A : List Nat) (n t : Nat) : Int := (sB A n (n - 1 - t) t : Nat)
def backM (A : List Nat) (n : Nat) : List Int := tab (backAt A n) n
theorem natsOf_back (A : List Nat) (n t : Nat) (h : t < n) : (natsOf (backM A n)).getD t 0 = sB A n (n - 1 - t) t := by
  unfold natsOf backM
  rw [List.getD_eq_getElem?_getD, List.getElem?_map, tab_at _ h]
  simp [backAt]
theorem back_line {T ys : List Int} {c : Int} (h : lineP T ys c) : lineP (revM T) (backM (natsOf ys) T.length) c := by
  obtain ⟨h1, ⟨⟨h2, h3⟩, h4, h5⟩, h6⟩ := h
  refine ⟨fun k hk => ?_, ⟨⟨?_, fun i hi => ?_⟩, ?_, ?_⟩, h6⟩
  · rw [revM_length] at hk
    rw [revM_getD T hk]; exact h1 _ (by omega)
  · rw [revM_rev]
    unfold allIn at h2 ⊢
    rw [List.all_reverse]; exact h2
  · unfold backM at hi
    rw [tab_length] at hi
    unfold backM
    rw [tab_getD _ hi]
    have := sB_lt (A := natsOf ys) (n := T.length) (i := T.length - 1 - i) (d := i) (by omega)
    rw [show T.length - 1 - (T.length - 1 - i) = i by omega] at this
    unfold backAt
    have h2 : ((sB (natsOf ys) T.length (T.length - 1 - i) i : Nat) : Int) < ((2 ^ i : Nat) : Int) := by exact_mod_cast this
    omega
  · unfold backM; rw [tab_length, revM_length]
  · rw [revM_length]; exact h5
theorem few_turned {T ys : List Int} {c : Int} (h : lineP T ys c) : fewRes (revM T) (backM (natsOf ys) T.length) c = fewM T (natsOf ys) c := by
  have hb := back_line h
  have hl : (natsOf ys).length = T.length := by rw [natsOf_len]; exact h.2.1.2.1
  have hl2 : (natsOf (backM (natsOf ys) T.length)).length = T.length := by rw [natsOf_len]; unfold backM; rw [tab_length]
  rw [show fewRes (revM T) (backM (natsOf ys) T.length) c = fewM (revM T) (natsOf (backM (natsOf ys) T.length)) c from if_pos hb, revM_rev]
  refine few_rev hl hl2 (by have := lineP_c h; omega) (natsOf_hA h.2.1.1.2) (natsOf_hA hb.2.1.1.2) (fun t u hu ht => ?_) (few_facts h).1.1
  rw [natsOf_back _ _ _ ht, sB_bit t (by omega)]
  have c : u < T.length ∧ T.length - 1 - t < T.length - 1 - u ∧ T.length - 1 - u ≤ T.length - 1 - t + t := by omega
  rw [decide_eq_true c]; rfl
end Go.Proofs.Ytobfencmfeneoac
