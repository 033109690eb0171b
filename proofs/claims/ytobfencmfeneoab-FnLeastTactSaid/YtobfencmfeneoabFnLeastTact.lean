/- The law FnLeastTact returns true at every code, and the code reads behind the call as it read before. No condition. -/
import Derived.Test.YtobfencmfeneoabRows
import Derived.WalkKit
import Derived.LoopTactic
import Derived.Outline
import Derived.WalkSpells
import Derived.WalkLawsBesides
import Derived.ProofKit
import Derived.Deep.QuietTactic
import Derived.BigQuiet
import Derived.IntWalk
import Derived.Test.YtobfencmfeneoabLib
import Derived.Test.YtobfencmfeneoabRd
import Derived.Test.YtobfencmfeneoabEx
import Derived.Test.YtobfencmfeneoabGen
import Derived.Test.YtobfencmfeneoabArr
import Derived.Test.YtobfencmfeneoabOwn1
import Derived.Test.YtobfencmfeneoabLaws
import Derived.Test.YtobfencmfeneoabNetM
import Derived.Test.YtobfencmfeneoabLineM
import Derived.Test.YtobfencmfeneoabLineLawM
import Derived.Test.YtobfencmfeneoabTactM
import Derived.Test.YtobfencmfeneoabBitOp
import Derived.Test.YtobfencmfeneoabResC
import Derived.Test.YtobfencmfeneoabTaskSpec
import Derived.Test.YtobfencmfeneoabLoadSpec
import Derived.Test.YtobfencmfeneoabWeightSpec
import Derived.Test.YtobfencmfeneoabFewSpec
import Derived.Test.YtobfencmfeneoabTactSpec
import Derived.Test.YtobfencmfeneoabBySpec
import Derived.Test.YtobfencmfeneoabStations
import Derived.Test.YtobfencmfeneoabLineC
import Derived.Test.YtobfencmfeneoabLineL
import Derived.Test.YtobfencmfeneoabLineImpl
import Derived.Test.YtobfencmfeneoabLineEx
import Derived.Test.YtobfencmfeneoabDrawTask
namespace Go.Proofs.Ytobfencmfeneoab
open Go.RowKit Go.WideShapes

set_option maxRecDepth 100000 in
set_option maxHeartbeats 4000000 in
theorem fnLeastTact_any (a : Option Addr) (len cap : Nat) (w : World) (hb : BytesAt w w.heap.size a len) (hl : len ≤ cap) (hs : len ≤ 9223372036854775807) :
    Calls Try.prog 5 #[.slice a len cap] w (LawPost w) := by
  by_cases h20 : len ≤ 1048576
  · go_enter Try.func5, Try.ntmps5
    have hB0 := Below.refl w.heap.size w
    go_wp2_with fail
    refine (drawLeastTact_any a len cap w hb hl hs).mono ?_
    rintro e w1 ⟨a1, l1, c1, T, a2, l2, c2, ys, p, rfl, n_t, hc1, hl1, n_y, hc2, hl2, hn0, hn1, hb1⟩
    have hB1 : Below w.heap.size w w1 := hB0.trans (hb1.mono hB0.size)
    clear hB0
    have xt_1 := n_t
    have xy_1 := n_y
    clear n_t
    clear n_y
    clear hb hb1
    go_wp2_with fail
    refine (leastTact_impl a1 l1 c1 T a2 l2 c2 ys p w1 xt_1 xy_1 hc1 hc2 (by omega) (by omega)).mono ?_
    rintro e w2 ⟨rfl, hb2⟩
    have xt_2 := ints_lift xt_1 hb2
    have xy_2 := ints_lift xy_1 hb2
    have hB2 : Below w.heap.size w w2 := hB1.trans (hb2.mono hB1.size)
    clear hB1 xt_1 xy_1
    go_wp2_with fail
    refine (leastTact_spec a1 a2 l1 c1 l2 c2 T ys p w2 xt_2 xy_2 (by omega)).mono ?_
    rintro e w3 ⟨rfl, hb3⟩
    have xt_3 := ints_lift xt_2 hb3
    have xy_3 := ints_lift xy_2 hb3
    have hB3 : Below w.heap.size w w3 := hB2.trans (hb3.mono hB2.size)
    clear hB2 xt_2 xy_2
    clear hb2 hb3
    cases hf : tactFine T ys p
    · rw [tactRes_no hf]
      go_wp2_with fail
      refine (leastTact_spec a1 a2 l1 c1 l2 c2 T ys p w3 xt_3 xy_3 (by omega)).mono ?_
      rintro e w4 ⟨rfl, hb4⟩
      have xt_4 := ints_lift xt_3 hb4
      have xy_4 := ints_lift xy_3 hb4
      have hB4 : Below w.heap.size w w4 := hB3.trans (hb4.mono hB3.size)
      clear hB3 xt_3 xy_3
      rw [tactRes_no hf]
      go_wp2_with fail
      go_ret
      exact ⟨rfl, hB4⟩
    · obtain ⟨hL, hp, hnow, hless, htot, htb, hmem⟩ := tact_facts hf
      have HMEM := Lib.hid hmem
      have hlb := fewRes_bd T ys ((leastT T (natsOf ys) p : Int) - 1)
      rw [tactRes_yes hf]
      clear hmem hf
      generalize leastT T (natsOf ys) p = L at *
      have hn0 : ¬ (L : Int) < 0 := by omega
      have heq : ((L : Int) != (L : Int)) = false := by simp
      go_wp2_with fail
      refine (fewest_impl a1 l1 c1 T a2 l2 c2 ys L w3 xt_3 xy_3 hc1 hc2 (by omega) (by omega)).mono ?_
      rintro e w4 ⟨rfl, hb4⟩
      have xt_4 := ints_lift xt_3 hb4
      have xy_4 := ints_lift xy_3 hb4
      have hB4 : Below w.heap.size w w4 := hB3.trans (hb4.mono hB3.size)
      clear hB3 xt_3 xy_3
      generalize fewRes T ys (L : Int) = now at hnow ⊢
      have hwl : IntKind.i64.wrap ((L : Int) - 1) = (L : Int) - 1 := IntWalk.i64_in _ (by omega)
      go_wp2_with fail
      refine (fewest_impl a1 l1 c1 T a2 l2 c2 ys ((L : Int) - 1) w4 xt_4 xy_4 hc1 hc2 (by omega) (by omega)).mono ?_
      rintro e w5 ⟨rfl, hb5⟩
      have xt_5 := ints_lift xt_4 hb5
      have xy_5 := ints_lift xy_4 hb5
      have hB5 : Below w.heap.size w w5 := hB4.trans (hb5.mono hB4.size)
      clear hB4 xt_4 xy_4
      clear hb4 hb5 hwl
      generalize fewRes T ys ((L : Int) - 1) = less at hless hlb ⊢
      have hmu := mul_box3 (a := (L : Int)) (b := p) (A := 54) (B := 6) (by omega) (by omega) (by omega) (by omega)
      generalize hlp : (L : Int) * p = lp at hmu htot
      have HTOT := Lib.hid (fun (w' : World) (h : IntsAt w' (· < w'.heap.size) a1 l1 T) => total_any _ a1 l1 c1 T w' h HMEM.out (by omega))
      have hge : totalM T ≤ lp := htot
      clear htot
      by_cases hL1 : L = 1
      · subst hL1
        have hge2 : totalM T ≤ p := by simp at hlp; omega
        go_wp2_with fail
        refine (HTOT.out w5 xt_5).mono ?_
        rintro e w' ⟨rfl, rfl⟩
        generalize totalM T = tt at *
        go_wp2_with fail
        go_ret
        exact ⟨rfl, hB5⟩
      · have hL1e : ((L : Int) == 1) = false := by simp; omega
        by_cases hl0 : less < 0
        · go_wp2_with fail
          refine (HTOT.out w5 xt_5).mono ?_
          rintro e w' ⟨rfl, rfl⟩
          generalize totalM T = tt at *
          go_wp2_with fail
          go_ret
          exact ⟨rfl, hB5⟩
        · have hlp2 : p < less := by omega
          clear hless
          go_wp2_with fail
          refine (HTOT.out w5 xt_5).mono ?_
          rintro e w' ⟨rfl, rfl⟩
          generalize totalM T = tt at *
          go_wp2_with fail
          go_ret
          exact ⟨rfl, hB5⟩
  · go_enter Try.func5, Try.ntmps5
    go_wp2
    go_ret
    exact ⟨rfl, Below.refl _ _⟩
end Go.Proofs.Ytobfencmfeneoab
