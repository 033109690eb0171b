import Derived.Test.YtobfencmfeneoabLoadSpec
import Derived.Test.YtobfencmfeneoabResC
namespace Go.Proofs.Ytobfencmfeneoab
open Go.RowKit Go.WideShapes

theorem bsM_small {A : List Nat} {i m : Nat} (h : m ≤ 6) : bsM A i m ≤ 64 := by
  have := bsM_lt A i m; have := Nat.pow_le_pow_right (n := 2) (by omega) h; omega
theorem bsM_next {A : List Nat} {i m : Nat} (h : i < m) : bsM A i (m + 1) = if A.getD m 0 &&& bsM A i m ≠ 0 then bsM A i m ||| 2 ^ m else bsM A i m := by
  rw [bsM, if_neg (by omega), if_neg (by omega), Nat.or_two_pow_eq_add_of_lt (bsM_lt A i m)]
end Go.Proofs.Ytobfencmfeneoab
