import Derived.Test.YtldncfkkeeinjaaRows
import Derived.WalkKit
import Derived.LoopTactic
import Derived.Outline
import Derived.WalkSpells
import Derived.WalkLawsBesides
import Derived.ProofKit
import Derived.Lib.Hide
import Derived.Deep.QuietTactic
import Derived.BigQuiet
import Derived.IntWalk
import Derived.Test.YtldncfkkeeinjaaLib
import Derived.Test.YtldncfkkeeinjaaGen
import Derived.Test.YtldncfkkeeinjaaMark
import Derived.Test.YtldncfkkeeinjaaArr
import Derived.Test.YtldncfkkeeinjaaOwn1
import Derived.Test.YtldncfkkeeinjaaUp
import Derived.Test.YtldncfkkeeinjaaLaws
import Derived.Test.YtldncfkkeeinjaaNetM
import Derived.Test.YtldncfkkeeinjaaVal2
import Derived.Test.YtldncfkkeeinjaaEx
import Derived.Test.YtldncfkkeeinjaaPlanM
import Derived.Test.YtldncfkkeeinjaaBlockM
import Derived.Test.YtldncfkkeeinjaaLotSpec
namespace Go.Proofs.Ytldncfkkeeinjaa
open Go.RowKit Go.WideShapes

/-- the last one up to k of which P holds -/
def lastFrom (P : Nat → Bool) : Nat → Nat
  | 0 => 0
  | k + 1 => if P (k + 1) then k + 1 else lastFrom P k
theorem lastFrom_spec {P : Nat → Bool} {n k : Nat} (hk : 0 < k) (hkn : k ≤ n) (hP : P k = true) : P (lastFrom P n) = true ∧ k ≤ lastFrom P n ∧ lastFrom P n ≤ n ∧ ∀ j, lastFrom P n < j → j ≤ n → P j = false := by
  induction n with
  | zero => omega
  | succ n ih =>
    cases e : P (n + 1)
    · have hne : k ≠ n + 1 := fun h => by rw [h, e] at hP; cases hP
      obtain ⟨h1, h2, h3, h4⟩ := ih (by omega)
      rw [lastFrom, e]
      refine ⟨h1, h2, by simp only [Bool.false_eq_true, if_false]; omega, fun j hj1 hj2 => ?_⟩
      by_cases e2 : j = n + 1
      · subst e2; exact e
      · exact h4 j hj1 (by omega)
    · rw [lastFrom, e]
      exact ⟨e, hkn, Nat.le_refl _, fun j h1 h2 => by simp only [if_true] at h1; omega⟩
/-- the days behind a lot of the best lots -/
def nxB (xs : List Int) (s h : Int) (i : Nat) : Nat := lastFrom (fun k => decide (i < k) && decide (runD xs s h i (k - i) + bst xs s h k = bst xs s h i)) xs.length
theorem nxB_spec {xs : List Int} {s h : Int} {i : Nat} (hi : i < xs.length) : (i < nxB xs s h i ∧ nxB xs s h i ≤ xs.length) ∧ runD xs s h i (nxB xs s h i - i) + bst xs s h (nxB xs s h i) = bst xs s h i ∧
    ∀ j, nxB xs s h i < j → j ≤ xs.length → runD xs s h i (j - i) + bst xs s h j ≠ bst xs s h i := by
  obtain ⟨d, hd, e⟩ := minTo_at (fun d => runD xs s h i (d + 1) + bst xs s h (i + (d + 1))) (xs.length - 1 - i)
  have hk : (fun k => decide (i < k) && decide (runD xs s h i (k - i) + bst xs s h k = bst xs s h i)) (i + (d + 1)) = true := by
    rw [Bool.and_eq_true]
    exact ⟨decide_eq_true (by omega), decide_eq_true (by rw [bst_rec hi, e, show i + (d + 1) - i = d + 1 by omega])⟩
  obtain ⟨h1, h2, h3, h4⟩ := lastFrom_spec (P := fun k => decide (i < k) && decide (runD xs s h i (k - i) + bst xs s h k = bst xs s h i)) (n := xs.length) (k := i + (d + 1)) (by omega) (by omega) hk
  simp only [Bool.and_eq_true, decide_eq_true_eq] at h1
  refine ⟨⟨by have := h1.1; exact this, h3⟩, h1.2, fun j hj1 hj2 => ?_⟩
  have := h4 j hj1 hj2
  simp only [Bool.and_eq_false_iff, decide_eq_false_iff_not] at this
  rcases this with h | h
  · have := h1.1; exact absurd (show i < j by unfold nxB at hj1; omega) h
  · exact h
theorem nxB_nexts (xs : List Int) (s h : Int) : Nexts (nxB xs s h) xs.length := fun i hi => (nxB_spec hi).1
def bestLotsM (xs : List Int) (s h : Int) : List Int := madeM (nxB xs s h) xs
/-- what is made on the days ahead of i -/
def madeTo (nx : Nat → Nat) (xs : List Int) (i q : Nat) : Int := if q < i then madeAt nx xs q else 0
theorem madeTo_next {nx : Nat → Nat} {xs : List Int} {i : Nat} (hn : Nexts nx xs.length) (hi : i < xs.length) (ho : owner nx i = i) (q : Nat) : (if q = i then sumN xs (nx i) - sumN xs i else madeTo nx xs i q) = madeTo nx xs (nx i) q := by
  have h1 := hn i hi
  unfold madeTo
  by_cases e : q = i
  · subst e; rw [if_pos rfl, if_pos h1.1, madeAt, if_pos ho]
  · rw [if_neg e]
    by_cases h2 : q < i
    · rw [if_pos h2, if_pos (by omega)]
    · rw [if_neg h2]
      by_cases h3 : q < nx i
      · obtain ⟨d, rfl⟩ : ∃ d, q = i + d := ⟨q - i, by omega⟩
        have := owner_run ho d h3
        rw [if_pos h3, madeAt, this, if_neg (by omega)]
      · rw [if_neg h3]
theorem made_part {xs : List Int} {i k : Nat} (hik : i ≤ k) (hk : k ≤ xs.length) : totalM ((xs.drop i).take (k - i)) = sumN xs k - sumN xs i := by
  rw [totalM_part xs i (k - i) (by omega), show i + (k - i) = k by omega]

def bestRes (xs : List Int) (s h : Int) : List Int := if validLotsM xs s h then bestLotsM xs s h else []
theorem bestRes_no {xs : List Int} {s h : Int} (e : validLotsM xs s h = false) : bestRes xs s h = [] := by unfold bestRes; rw [e]; rfl
theorem bestRes_yes {xs : List Int} {s h : Int} (e : validLotsM xs s h = true) : bestRes xs s h = bestLotsM xs s h := by unfold bestRes; rw [e]; rfl
theorem bestRes_len (xs : List Int) (s h : Int) : (bestRes xs s h).length ≤ 1048576 := by
  cases e : validLotsM xs s h
  · rw [bestRes_no e]; simp
  · rw [bestRes_yes e, bestLotsM, madeM_length]; have := validDays_len (validLots_get e).1; omega
end Go.Proofs.Ytldncfkkeeinjaa
