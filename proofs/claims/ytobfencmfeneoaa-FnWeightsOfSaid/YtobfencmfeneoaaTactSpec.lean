import Derived.Test.YtobfencmfeneoaaRows
import Derived.WalkKit
import Derived.LoopTactic
import Derived.Outline
import Derived.WalkSpells
import Derived.WalkLawsBesides
import Derived.ProofKit
import Derived.Lib.Hide
import Derived.IntWalk
import Derived.Test.YtobfencmfeneoaaLib
import Derived.Test.YtobfencmfeneoaaGen
import Derived.Test.YtobfencmfeneoaaMark
import Derived.Test.YtobfencmfeneoaaArr
import Derived.Test.YtobfencmfeneoaaOwn1
import Derived.Test.YtobfencmfeneoaaDr
import Derived.Test.YtobfencmfeneoaaEx
import Derived.Test.YtobfencmfeneoaaUp
import Derived.Test.YtobfencmfeneoaaNetM
import Derived.Test.YtobfencmfeneoaaLineM
import Derived.Test.YtobfencmfeneoaaTactM
import Derived.Test.YtobfencmfeneoaaTaskSpec
import Derived.Test.YtobfencmfeneoaaLoadSpec
import Derived.Test.YtobfencmfeneoaaWeightSpec
import Derived.Test.YtobfencmfeneoaaStations
import Derived.Test.YtobfencmfeneoaaFewSpec
namespace Go.Proofs.Ytobfencmfeneoaa
open Go.RowKit Go.WideShapes

theorem validTasks_spec (S : Nat → Prop) (a a2 : Option Addr) (len cap len2 cap2 : Nat) (T ys : List Int) (w : World) (ht : IntsAt w S a len T) (hy : IntsAt w S a2 len2 ys) (hl : len2 ≤ 1048576) :
    Calls Try.prog 9 #[.slice a len cap, .slice a2 len2 cap2] w fun e w' => e = .returned (.bool (tasksM T ys)) ∧ Drew w w' := by
  go_enter Try.func9, Try.ntmps9
  go_wp2_with fail
  refine (validTasks_any S a a2 len cap len2 cap2 T ys w ht hy hl).mono ?_
  rintro e w' ⟨rfl, hdw⟩
  go_wp2_with fail
  go_ret
  exact ⟨rfl, hdw⟩
/-- what WeightsOf answers -/
def weightsRes (T ys : List Int) : List Int := if tasksP T ys then weightsM T (natsOf ys) else []
theorem weightsRes_len (T ys : List Int) : (weightsRes T ys).length ≤ 1048576 := by
  unfold weightsRes
  split
  · rename_i h; rw [weightsM_len]; have := h.2.2; omega
  · simp
theorem weightsOf_spec (a a2 : Option Addr) (len cap len2 cap2 : Nat) (T ys : List Int) (w : World) (ht : IntsAt w (· < w.heap.size) a len T) (hy : IntsAt w (· < w.heap.size) a2 len2 ys) (hl : len2 ≤ 1048576) :
    Calls Try.prog 15 #[.slice a len cap, .slice a2 len2 cap2] w (NewInts w (weightsRes T ys)) := by
  cases hv : tasksM T ys
  · have HR := Lib.hid (show weightsRes T ys = [] from if_neg fun h => by rw [tasksM_yes h] at hv; cases hv)
    rw [HR.out]
    go_enter Try.func15, Try.ntmps15
    go_wp2_with fail
    refine (validTasks_any _ a a2 len cap len2 cap2 T ys w ht hy hl).mono ?_
    rintro e w' ⟨rfl, hdw⟩
    rw [hv]
    go_wp2_with fail
    go_ret
    exact ⟨none, 0, 0, rfl, ⟨rfl, Nat.zero_le _, fun h => absurd h (by omega)⟩, Nat.le_refl _, hdw.below _⟩
  · have hP := tasksM_get hv
    have HR := Lib.hid (show weightsRes T ys = weightsM T (natsOf ys) from if_pos hP)
    have HP := Lib.hid hP
    rw [HR.out]
    clear hP
    go_enter Try.func15, Try.ntmps15
    go_wp2_with fail
    refine (validTasks_any _ a a2 len cap len2 cap2 T ys w ht hy hl).mono ?_
    rintro e w1 ⟨rfl, hdw⟩
    rw [hv]
    have hz := hdw.size
    have hx1 : IntsAt w1 (· < w1.heap.size) a len T := (Drew.ints ht hdw).to (fun b hb => ⟨by rw [hz]; exact hb, rfl⟩)
    have hy1 : IntsAt w1 (· < w1.heap.size) a2 len2 ys := (Drew.ints hy hdw).to (fun b hb => ⟨by rw [hz]; exact hb, rfl⟩)
    have HDW := Lib.hid hdw
    have HZ := Lib.hid hz
    clear hdw hz
    go_wp2_with fail
    refine (weights_any a a2 len cap len2 cap2 T ys w1 hx1 hy1 HP.out).mono ?_
    rintro e w2 h2
    obtain ⟨a3, l3, c3, rfl, h3, h4, h5⟩ := h2.ints
    have h6 := HZ.out
    go_wp2_with fail
    go_ret
    exact ⟨a3, l3, c3, rfl, h3.to (fun b hb => ⟨⟨by omega, hb.2⟩, rfl⟩), h4, (HDW.out.below _).trans (h5.mono (by omega))⟩
/-- what LeastTact answers -/
def tactFine (T ys : List Int) (p : Int) : Bool := tasksM T ys && inB 1 6 p
def tactRes (T ys : List Int) (p : Int) : Int := if tactFine T ys p then (leastT T (natsOf ys) p : Int) else -1
theorem tactRes_no {T ys : List Int} {p : Int} (h : tactFine T ys p = false) : tactRes T ys p = -1 := by unfold tactRes; rw [h]; rfl
theorem tactRes_yes {T ys : List Int} {p : Int} (h : tactFine T ys p = true) : tactRes T ys p = (leastT T (natsOf ys) p : Int) := by unfold tactRes; rw [h]; rfl
end Go.Proofs.Ytobfencmfeneoaa
