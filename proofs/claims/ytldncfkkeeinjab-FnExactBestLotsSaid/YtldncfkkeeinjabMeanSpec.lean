import Derived.Test.YtldncfkkeeinjabRows
import Derived.WalkKit
import Derived.LoopTactic
import Derived.Outline
import Derived.WalkSpells
import Derived.WalkLawsBesides
import Derived.ProofKit
import Derived.Lib.Hide
import Derived.IntWalk
import Derived.Test.YtldncfkkeeinjabLib
import Derived.Test.YtldncfkkeeinjabGen
import Derived.Test.YtldncfkkeeinjabMark
import Derived.Test.YtldncfkkeeinjabArr
import Derived.Test.YtldncfkkeeinjabOwn1
import Derived.Test.YtldncfkkeeinjabUp
import Derived.Test.YtldncfkkeeinjabLaws
import Derived.Test.YtldncfkkeeinjabNetM
import Derived.Test.YtldncfkkeeinjabVal2
import Derived.Test.YtldncfkkeeinjabEx
import Derived.Test.YtldncfkkeeinjabPlanM
import Derived.Test.YtldncfkkeeinjabBlockM
import Derived.Test.YtldncfkkeeinjabLotSpec
import Derived.Test.YtldncfkkeeinjabBestSpec
namespace Go.Proofs.Ytldncfkkeeinjab
open Go.RowKit Go.WideShapes

/-- what d days at the day i cost, set in any case -/
def raM (xs : List Int) (s h : Int) (i d : Nat) : Int := s + h * hsum xs i d
theorem raM_bd {xs : List Int} {s h : Int} (hx : ∀ k, 0 ≤ xs.getD k 0 ∧ xs.getD k 0 ≤ 20) (hs : 0 ≤ s ∧ s ≤ 31) (hh : 0 ≤ h ∧ h ≤ 31) (i d : Nat) (hd : d ≤ 8) : 0 ≤ raM xs s h i d ∧ raM xs s h i d ≤ 40000 := by
  have h1 := hsum_bd hx i d hd
  have h0 := hsum_nonneg (fun k => (hx k).1) i d
  have h2 := mul_box3 hh.1 hh.2 h0 (show hsum xs i d ≤ 1280 by omega)
  unfold raM; omega
/-- one day more is no dearer by the mean -/
def meanB (xs : List Int) (s h : Int) (i k : Nat) : Bool := decide (raM xs s h i (k + 1 - i) * ((k : Int) - i) ≤ raM xs s h i (k - i) * ((k : Int) + 1 - i))
def mup (xs : List Int) (s h : Int) (i : Nat) : Nat → Nat → Nat
  | 0, k => k
  | f + 1, k => if meanB xs s h i k then mup xs s h i f (k + 1) else k
def nxM (xs : List Int) (s h : Int) (i : Nat) : Nat := mup xs s h i (xs.length - (i + 1)) (i + 1)
theorem mup_in (xs : List Int) (s h : Int) (i : Nat) : ∀ f k, k ≤ mup xs s h i f k ∧ mup xs s h i f k ≤ k + f := by
  intro f
  induction f with
  | zero => intro k; exact ⟨Nat.le_refl _, Nat.le_refl _⟩
  | succ f ih =>
    intro k
    rw [mup]
    split
    · have := ih (k + 1); omega
    · omega
theorem nxM_nexts (xs : List Int) (s h : Int) : Nexts (nxM xs s h) xs.length := fun i hi => by
  have := mup_in xs s h i (xs.length - (i + 1)) (i + 1)
  unfold nxM; omega
def meanLotsM (xs : List Int) (s h : Int) : List Int := madeM (nxM xs s h) xs

def meanRes (xs : List Int) (s h : Int) : List Int := if validLotsM xs s h then meanLotsM xs s h else []
theorem meanRes_no {xs : List Int} {s h : Int} (e : validLotsM xs s h = false) : meanRes xs s h = [] := by unfold meanRes; rw [e]; rfl
theorem meanRes_yes {xs : List Int} {s h : Int} (e : validLotsM xs s h = true) : meanRes xs s h = meanLotsM xs s h := by unfold meanRes; rw [e]; rfl
theorem meanRes_len (xs : List Int) (s h : Int) : (meanRes xs s h).length ≤ 1048576 := by
  cases e : validLotsM xs s h
  · rw [meanRes_no e]; simp
  · rw [meanRes_yes e, meanLotsM, madeM_length]; have := validDays_len (validLots_get e).1; omega
end Go.Proofs.Ytldncfkkeeinjab
