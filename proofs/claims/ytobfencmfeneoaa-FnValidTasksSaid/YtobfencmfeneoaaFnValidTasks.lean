/- The law FnValidTasks returns true at every code, and the code reads behind the call as it read before. No condition. -/
import Derived.Test.YtobfencmfeneoaaRows
import Derived.WalkKit
import Derived.LoopTactic
import Derived.Outline
import Derived.WalkSpells
import Derived.WalkLawsBesides
import Derived.ProofKit
import Derived.Deep.QuietTactic
import Derived.BigQuiet
import Derived.IntWalk
import Derived.Test.YtobfencmfeneoaaLib
import Derived.Test.YtobfencmfeneoaaRd
import Derived.Test.YtobfencmfeneoaaEx
import Derived.Test.YtobfencmfeneoaaGen
import Derived.Test.YtobfencmfeneoaaArr
import Derived.Test.YtobfencmfeneoaaOwn1
import Derived.Test.YtobfencmfeneoaaLaws
import Derived.Test.YtobfencmfeneoaaNetM
import Derived.Test.YtobfencmfeneoaaLineM
import Derived.Test.YtobfencmfeneoaaLineLawM
import Derived.Test.YtobfencmfeneoaaTactM
import Derived.Test.YtobfencmfeneoaaBitOp
import Derived.Test.YtobfencmfeneoaaResC
import Derived.Test.YtobfencmfeneoaaTaskSpec
import Derived.Test.YtobfencmfeneoaaLoadSpec
import Derived.Test.YtobfencmfeneoaaWeightSpec
import Derived.Test.YtobfencmfeneoaaFewSpec
import Derived.Test.YtobfencmfeneoaaTactSpec
import Derived.Test.YtobfencmfeneoaaBySpec
import Derived.Test.YtobfencmfeneoaaStations
import Derived.Test.YtobfencmfeneoaaLineC
import Derived.Test.YtobfencmfeneoaaLineL
import Derived.Test.YtobfencmfeneoaaLineImpl
import Derived.Test.YtobfencmfeneoaaLineEx
import Derived.Test.YtobfencmfeneoaaDrawTask
namespace Go.Proofs.Ytobfencmfeneoaa
open Go.RowKit Go.WideShapes

set_option maxRecDepth 100000 in
set_option maxHeartbeats 2000000 in
theorem fnValidTasks_any (a : Option Addr) (len cap : Nat) (w : World) (hb : BytesAt w w.heap.size a len) (hl : len ≤ cap) (hs : len ≤ 9223372036854775807) :
    Calls Try.prog 3 #[.slice a len cap] w (LawPost w) := by
  by_cases h20 : len ≤ 1048576
  · go_enter Try.func3, Try.ntmps3
    have hB0 := Below.refl w.heap.size w
    go_wp2_with fail
    refine (drawValidTasks_any a len cap w hb hl hs).mono ?_
    rintro e w1 ⟨a1, l1, c1, T, a2, l2, c2, ys, rfl, n_t, hc1, hl1, n_y, hc2, hl2, hb1⟩
    have hB1 : Below w.heap.size w w1 := hB0.trans (hb1.mono hB0.size)
    clear hB0
    have xt_1 := n_t
    have xy_1 := n_y
    clear n_t
    clear n_y
    clear hb hb1
    go_wp2_with fail
    refine (validTasks_impl _ a1 l1 c1 T a2 l2 c2 ys w1 xt_1 xy_1 hc1 hc2 (by omega) (by omega)).mono ?_
    rintro e w2 ⟨rfl, dd⟩
    have xt_2 := ints_lift xt_1 (dd.below _)
    have xy_2 := ints_lift xy_1 (dd.below _)
    have hB2 : Below w.heap.size w w2 := hB1.trans (dd.below w.heap.size)
    clear hB1 xt_1 xy_1
    clear dd
    go_wp2_with fail
    refine (validTasks_spec _ a1 a2 l1 c1 l2 c2 T ys w2 xt_2 xy_2 (by omega)).mono ?_
    rintro e w3 ⟨rfl, dd⟩
    have xt_3 := ints_lift xt_2 (dd.below _)
    have xy_3 := ints_lift xy_2 (dd.below _)
    have hB3 : Below w.heap.size w w3 := hB2.trans (dd.below w.heap.size)
    clear hB2 xt_2 xy_2
    clear dd
    cases hv : tasksM T ys
    · go_wp2_with fail
      refine (validTasks_spec _ a1 a2 l1 c1 l2 c2 T ys w3 xt_3 xy_3 (by omega)).mono ?_
      rintro e w4 ⟨rfl, dd⟩
      have xt_4 := ints_lift xt_3 (dd.below _)
      have xy_4 := ints_lift xy_3 (dd.below _)
      have hB4 : Below w.heap.size w w4 := hB3.trans (dd.below w.heap.size)
      clear hB3 xt_3 xy_3
      rw [hv]
      go_wp2_with fail
      go_ret
      exact ⟨rfl, hB4⟩
    · have hP := tasksM_get hv
      have hl12 : l2 = l1 := by have := hP.2.1; have := xt_3.lenEq; have := xy_3.lenEq; omega
      subst hl12
      have HT := Lib.hid (tasksM_yes (tasks_take hP (l2 - 1)))
      clear hv hP
      by_cases h0 : l2 = 0
      · subst h0
        go_wp2_with fail
        go_quiet (fail)
        go_wp2_with fail
        go_ret
        exact ⟨rfl, hB3.trans (Drew.below ⟨nq, rfl⟩ _)⟩
      · have h0e : ((l2 : Int) == 0) = false := by simp; omega
        obtain ⟨b, off, rfl, _, _⟩ := xt_3.cells (by omega)
        obtain ⟨b2, off2, rfl, _, _⟩ := xy_3.cells (by omega)
        have hcl : (1 : Int) ≤ (l2 : Int) := by omega
        have hcl2 : 1 ≤ l2 := by omega
        have hwl : IntKind.i64.wrap ((l2 : Int) - 1) = ((l2 - 1 : Nat) : Int) := by rw [show ((l2 : Int) - 1) = ((l2 - 1 : Nat) : Int) by omega]; exact IntWalk.i64_in _ (by omega)
        have hn1 : ¬ c1 = 0 := by omega
        have hn2 : ¬ c2 = 0 := by omega
        have hle1 : l2 - 1 ≤ c1 := by omega
        have hle2 : l2 - 1 ≤ c2 := by omega
        have hlt1 : l2 - 1 ≤ l2 := by omega
        have HV := Lib.hid (fun z => validTasks_impl _ (some ⟨b, off, none⟩) (l2 - 1) c1 (T.take (l2 - 1)) (some ⟨b2, off2, none⟩) (l2 - 1) c2 (ys.take (l2 - 1)) (w3.drewN z) (Drew.ints (ints_take xt_3 hlt1) ⟨z, rfl⟩) (Drew.ints (ints_take xy_3 hlt1) ⟨z, rfl⟩) hle1 hle2 (by omega) (by omega))
        have HV2 := Lib.hid (fun z => (HV.out z).mono (fun e w' (he : e = .returned (.bool (tasksM (T.take (l2 - 1)) (ys.take (l2 - 1)))) ∧ Drew (w3.drewN z) w') => (⟨by rw [he.1, HT.out], he.2⟩ : e = .returned (.bool true) ∧ ∃ m, w' = (w3.drewN z).drewN m)))
        go_wp2_with fail
        go_quiet ((go_at_call 8; exact Calls.quiet_of (HV2.out _)))
        clear hwl
        go_wp2_with fail
        go_ret
        exact ⟨rfl, hB3.trans (Drew.below ⟨nq, rfl⟩ _)⟩
  · go_enter Try.func3, Try.ntmps3
    go_wp2
    go_ret
    exact ⟨rfl, Below.refl _ _⟩
end Go.Proofs.Ytobfencmfeneoaa
