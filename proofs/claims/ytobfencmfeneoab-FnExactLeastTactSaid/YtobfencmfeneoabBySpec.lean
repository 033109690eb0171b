import Derived.Test.YtobfencmfeneoabRows
import Derived.WalkKit
import Derived.LoopTactic
import Derived.Outline
import Derived.WalkSpells
import Derived.WalkLawsBesides
import Derived.ProofKit
import Derived.Lib.Hide
import Derived.Deep.QuietTactic
import Derived.BigQuiet
import Derived.IntWalk
import Derived.Test.YtobfencmfeneoabLib
import Derived.Test.YtobfencmfeneoabGen
import Derived.Test.YtobfencmfeneoabMark
import Derived.Test.YtobfencmfeneoabArr
import Derived.Test.YtobfencmfeneoabOwn1
import Derived.Test.YtobfencmfeneoabDr
import Derived.Test.YtobfencmfeneoabNetM
import Derived.Test.YtobfencmfeneoabLineM
import Derived.Test.YtobfencmfeneoabLineLawM
import Derived.Test.YtobfencmfeneoabTactM
import Derived.Test.YtobfencmfeneoabBitOp
import Derived.Test.YtobfencmfeneoabTaskSpec
import Derived.Test.YtobfencmfeneoabLoadSpec
import Derived.Test.YtobfencmfeneoabWeightSpec
import Derived.Test.YtobfencmfeneoabFewSpec
namespace Go.Proofs.Ytobfencmfeneoab
open Go.RowKit Go.WideShapes

theorem Try.infoIntBy : (Try.prog.info? 3).map (fun i => (i.zero, i.size, i.bytes)) = some (some (.int .i64 0), 1, 8) := by kernel_rfl
/-- what PlacesBy answers -/
def byRes (T ys : List Int) (c : Int) : List Int := if lineP T ys c then byM T (natsOf ys) (weightsM T (natsOf ys)) c else []
theorem byRes_len (T ys : List Int) (c : Int) : (byRes T ys c).length ≤ 1048576 := by
  unfold byRes
  split
  · rename_i h
    have hs := by_spec (T := T) (A := natsOf ys) (W := weightsM T (natsOf ys)) (c := c) (by rw [natsOf_len]; exact h.2.1.2.1) (natsOf_hA h.2.1.1.2) (fun k hk => ⟨(tasks_at h.2.1.1.1).2 k hk, h.1 k hk⟩) (by have := lineP_c h; omega)
    have := h.2.1.2.2
    rw [hs.1]; omega
  · simp
theorem pick_step {T : List Int} {A : List Nat} {W : List Int} {D : Nat} {left : Int} {k : Nat} {t wk : Int} (ht : T.getD k 0 = t) (hw : W.getD k 0 = wk) : pickM T A W D left (k + 1) = if D.testBit k = false ∧ dif (A.getD k 0) D = 0 ∧ t ≤ left ∧ (pickM T A W D left k < 0 ∨ W.getD (pickM T A W D left k).toNat 0 < wk) then (k : Int) else pickM T A W D left k := by
  rw [pickM, ht, hw]
theorem pick_lt {T : List Int} {A : List Nat} {W : List Int} {D : Nat} {left : Int} {k : Nat} (h : 0 ≤ pickM T A W D left k) : ∃ m : Nat, m < k ∧ pickM T A W D left k = (m : Int) := by
  obtain ⟨q, hq, e, _⟩ := pickM_get k h; exact ⟨q, hq, e⟩
def msG (c : Int) (n : Nat) (d l : Value) : Nat := 2 * undone (intOf d).toNat n + (if intOf l < c then 1 else 0)
theorem msG_at (c : Int) (n : Nat) (d l : Int) : msG c n (.int .i64 d) (.int .i64 l) = 2 * undone d.toNat n + (if l < c then 1 else 0) := rfl
end Go.Proofs.Ytobfencmfeneoab
