import Derived.Test.YtobfencmfeneoaaRows
import Derived.WalkKit
import Derived.LoopTactic
import Derived.Outline
import Derived.WalkSpells
import Derived.WalkLawsBesides
import Derived.ProofKit
import Derived.Lib.Hide
import Derived.IntWalk
import Derived.Test.YtobfencmfeneoaaLib
import Derived.Test.YtobfencmfeneoaaGen
import Derived.Test.YtobfencmfeneoaaMark
import Derived.Test.YtobfencmfeneoaaArr
import Derived.Test.YtobfencmfeneoaaUp
import Derived.Test.YtobfencmfeneoaaNetM
import Derived.Test.YtobfencmfeneoaaBitOp
import Derived.Test.YtobfencmfeneoaaTaskSpec
import Derived.Test.YtobfencmfeneoaaLoadSpec
import Derived.Test.YtobfencmfeneoaaFewSpec
import Derived.Test.YtobfencmfeneoaaFewC
namespace Go.Proofs.Ytobfencmfeneoaa
open Go.RowKit Go.WideShapes

theorem isFrom1To_any (n hi : Int) (w : World) :
    Calls Try.prog 22 #[.int .i64 n, .int .i64 hi] w fun e w' => e = .returned (.bool (inB 1 hi n)) ∧ w = w' := by
  by_cases h1 : 1 ≤ n
  · by_cases h2 : n ≤ hi
    · go_enter Try.func22, Try.ntmps22
      go_wp2
      go_ret
      exact ⟨ret_bool (inB_true h1 h2).symm, rfl⟩
    · go_enter Try.func22, Try.ntmps22
      go_wp2
      go_ret
      exact ⟨ret_bool (inB_hi (by omega)).symm, rfl⟩
  · go_enter Try.func22, Try.ntmps22
    go_wp2
    go_ret
    exact ⟨ret_bool (inB_lo (by omega)).symm, rfl⟩
theorem p2_le {n : Nat} (h : n ≤ 20) : 1 ≤ 2 ^ n ∧ 2 ^ n ≤ 1048576 := ⟨Nat.two_pow_pos n, by have := Nat.pow_le_pow_right (n := 2) (by omega) h; omega⟩
theorem allOf_any (n : Nat) (hn : n ≤ 20) (w : World) :
    Calls Try.prog 24 #[.int .i64 n] w fun e w' => e = .returned (.int .i64 (((2 ^ n - 1 : Nat) : Nat) : Int)) ∧ w = w' := by
  have hp := p2_le hn
  go_enter Try.func24, Try.ntmps24
  go_wp2
  go_ret
  refine ⟨ret_int ?_, rfl⟩
  have e : ((2 : Int) ^ n) = ((2 ^ n : Nat) : Int) := by push_cast; rfl
  rw [e]
  generalize 2 ^ n = p at hp ⊢
  have e1 : wrap64 (p : Int) = p := w64_id (by omega) (by omega)
  rw [e1]
  have e2 : wrap64 ((p : Int) - 1) = (p : Int) - 1 := w64_id (by omega) (by omega)
  rw [e2]
  omega
theorem isIn_any (s j : Nat) (hs : s < 1048576) (hj : j ≤ 20) (w : World) :
    Calls Try.prog 27 #[.int .i64 s, .int .i64 j] w fun e w' => e = .returned (.bool (s.testBit j)) ∧ w = w' := by
  go_enter Try.func27, Try.ntmps27
  go_wp2
  go_ret
  refine ⟨ret_bool ?_, rfl⟩
  have h2 : s / 2 ^ j ≤ s := Nat.div_le_self _ _
  have e : (s : Int) / 2 ^ j = ((s / 2 ^ j : Nat) : Int) := by push_cast; rfl
  rw [e, Nat.testBit_eq_decide_div_mod_eq]
  generalize s / 2 ^ j = x at h2 ⊢
  have hx : x < 1048576 := by omega
  rw [show (1 : Int) = ((1 : Nat) : Int) from rfl, i_and x 1 hx (by omega), Nat.and_one_is_mod, Bool.eq_iff_iff, beq_iff_eq, decide_eq_true_eq]
  omega
end Go.Proofs.Ytobfencmfeneoaa
