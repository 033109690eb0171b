import Derived.Test.YtcfahmffboipiabRows
import Derived.WalkKit
import Derived.LoopTactic
import Derived.Outline
import Derived.WalkSpells
import Derived.WalkLawsBesides
import Derived.ProofKit
import Derived.Lib.Hide
import Derived.RegionTactic
import Derived.BigRegion
import Derived.Deep.QuietTactic
import Derived.BigQuiet
import Derived.IntWalk
import Derived.Test.YtcfahmffboipiabLib
import Derived.Test.YtcfahmffboipiabGen
import Derived.Test.YtcfahmffboipiabCountM
import Derived.Test.YtcfahmffboipiabTakesM
import Derived.Test.YtcfahmffboipiabBillM
import Derived.Test.YtcfahmffboipiabVb
import Derived.Test.YtcfahmffboipiabVal2
import Derived.Test.YtcfahmffboipiabApp
import Derived.Test.YtcfahmffboipiabOwn1
import Derived.Test.YtcfahmffboipiabEx
namespace Go.Proofs.Ytcfahmffboipiab
open Go.RowKit Go.WideShapes

def costsM (rows : List (List Int)) (own : List Int) : List Int := tab (costN rows own) rows.length
def costPart (rows : List (List Int)) (own : List Int) (i m : Nat) : Int := own.getD i 0 + sumTo (fun q => useM rows i q * costN rows own q) m
theorem costPart_bd {rows : List (List Int)} (hv : validBillM rows = true) {own : List Int} (ho : ∀ k, 0 ≤ own.getD k 0 ∧ own.getD k 0 ≤ 20) {i m : Nat} (hm : m ≤ 6) : 0 ≤ costPart rows own i m ∧ costPart rows own i m ≤ 100000000000 := by
  have h1 : ∀ q, q < m → 0 ≤ useM rows i q * costN rows own q ∧ useM rows i q * costN rows own q ≤ 3 * 5000000000 := fun q hq => mul_box (useM_bd hv _ _).1 (useM_bd hv _ _).2 (costN_bd hv ho (show q ≤ 6 by omega)).1 (costN_bd hv ho (show q ≤ 6 by omega)).2
  have h2 := sumTo_nonneg (f := fun q => useM rows i q * costN rows own q) (n := m) (fun k hk => (h1 k hk).1)
  have h3 := sumTo_le (f := fun q => useM rows i q * costN rows own q) (B := 3 * 5000000000) (n := m) (fun k hk => (h1 k hk).2)
  have := ho i
  unfold costPart; omega
theorem wants_at {n : Int} {xs : List Int} (h : wantsM n xs = true) (k : Nat) : 0 ≤ xs.getD k 0 ∧ xs.getD k 0 ≤ 20 := by
  simp only [wantsM, Bool.and_eq_true] at h
  exact allIn_getD h.1 (by omega) (by omega) k
theorem wants_len {n : Int} {xs : List Int} (h : wantsM n xs = true) : (xs.length : Int) = n := by
  simp only [wantsM, Bool.and_eq_true, decide_eq_true_eq] at h
  exact h.2
end Go.Proofs.Ytcfahmffboipiab
