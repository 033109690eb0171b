/- The law FnMeanLots returns true at every code, and the code reads behind the call as it read before. No condition. -/
import Derived.Test.YtldncfkkeeinjacRows
import Derived.WalkKit
import Derived.LoopTactic
import Derived.Outline
import Derived.WalkSpells
import Derived.WalkLawsBesides
import Derived.ProofKit
import Derived.Deep.QuietTactic
import Derived.BigQuiet
import Derived.IntWalk
import Derived.Test.YtldncfkkeeinjacLib
import Derived.Test.YtldncfkkeeinjacRd
import Derived.Test.YtldncfkkeeinjacEx
import Derived.Test.YtldncfkkeeinjacLaws
import Derived.Test.YtldncfkkeeinjacNetM
import Derived.Test.YtldncfkkeeinjacVal2
import Derived.Test.YtldncfkkeeinjacLots
import Derived.Test.YtldncfkkeeinjacStocks
import Derived.Test.YtldncfkkeeinjacResC
import Derived.Test.YtldncfkkeeinjacPlanM
import Derived.Test.YtldncfkkeeinjacBlockM
import Derived.Test.YtldncfkkeeinjacTriedM
import Derived.Test.YtldncfkkeeinjacPrefM
import Derived.Test.YtldncfkkeeinjacLotSpec
import Derived.Test.YtldncfkkeeinjacLotLawM
import Derived.Test.YtldncfkkeeinjacLotImpl
import Derived.Test.YtldncfkkeeinjacDrawLot
import Derived.Test.YtldncfkkeeinjacBestSpec
import Derived.Test.YtldncfkkeeinjacMeanSpec
namespace Go.Proofs.Ytldncfkkeeinjac
open Go.RowKit Go.WideShapes

set_option maxRecDepth 100000 in
set_option maxHeartbeats 2000000 in
theorem fnMeanLots_any (a : Option Addr) (len cap : Nat) (w : World) (hb : BytesAt w w.heap.size a len) (hl : len ≤ cap) (hs : len ≤ 9223372036854775807) :
    Calls Try.prog 3 #[.slice a len cap] w (LawPost w) := by
  by_cases h20 : len ≤ 1048576
  · go_enter Try.func3, Try.ntmps3
    have hB0 := Below.refl w.heap.size w
    go_wp2_with fail
    refine (drawMeanLots_any a len cap w hb hl hs).mono ?_
    rintro e w1 ⟨a1, l1, c1, xs, s, h, rfl, n_v, hc1, hl1, hs0, hs1, hh0, hh1, hb1⟩
    have hB1 : Below w.heap.size w w1 := hB0.trans (hb1.mono hB0.size)
    clear hB0
    have xv_1 := n_v
    clear n_v
    clear hb
    go_wp2_with fail
    refine ((meanLots_impl a1 l1 c1 xs s h w1 xv_1 hc1)).mono ?_
    rintro e w2 ⟨a2, l2, c2, rfl, n_g, _, hc2, hb2⟩
    have xv_2 := ints_lift xv_1 hb2
    have hB2 : Below w.heap.size w w2 := hB1.trans (hb2.mono hB1.size)
    clear hB1 xv_1
    have xg_2 := ints_in n_g (Nat.le_refl _)
    clear n_g
    go_wp2_with fail
    refine (meanLots_spec a1 l1 c1 xs s h w2 xv_2 hc1).mono ?_
    rintro e w3 ⟨a3, l3, c3, rfl, n_k, _, hb3⟩
    have xv_3 := ints_lift xv_2 hb3
    have xg_3 := ints_lift xg_2 hb3
    have hB3 : Below w.heap.size w w3 := hB2.trans (hb3.mono hB2.size)
    clear hB2 xv_2 xg_2
    have xk_3 := ints_in n_k (Nat.le_refl _)
    clear n_k
    have heq : eqB (meanRes xs s h) (meanRes xs s h) = true := decide_eq_true rfl
    go_wp2_with fail
    refine (equalInts_any _ _ _ _ _ _ _ _ _ _ _ xg_3 xk_3).mono ?_
    rintro e w4 ⟨rfl, dd⟩
    have xv_4 := ints_lift xv_3 (dd.below _)
    have xg_4 := ints_lift xg_3 (dd.below _)
    have xk_4 := ints_lift xk_3 (dd.below _)
    have hB4 : Below w.heap.size w w4 := hB3.trans (dd.below w.heap.size)
    clear hB3 xv_3 xg_3 xk_3
    clear dd
    clear xk_4
    clear hb1 hb2 hb3
    by_cases hl0 : l2 = 0
    · subst hl0
      go_wp2_with fail
      refine (meanLots_spec a1 l1 c1 xs s h w4 xv_4 hc1).mono ?_
      rintro e w5 ⟨a3, l3, c3, rfl, n_k, _, hb4⟩
      have xv_5 := ints_lift xv_4 hb4
      have xg_5 := ints_lift xg_4 hb4
      have hB5 : Below w.heap.size w w5 := hB4.trans (hb4.mono hB4.size)
      clear hB4 xv_4 xg_4
      have xk_5 := ints_in n_k (Nat.le_refl _)
      clear n_k
      go_wp2_with fail
      refine (equalInts_any _ _ _ _ _ _ _ _ _ _ _ xg_5 xk_5).mono ?_
      rintro e w6 ⟨rfl, dd⟩
      have xv_6 := ints_lift xv_5 (dd.below _)
      have xg_6 := ints_lift xg_5 (dd.below _)
      have xk_6 := ints_lift xk_5 (dd.below _)
      have hB6 : Below w.heap.size w w6 := hB5.trans (dd.below w.heap.size)
      clear hB5 xv_5 xg_5 xk_5
      clear dd
      go_wp2_with fail
      go_ret
      exact ⟨rfl, hB6⟩
    · have hl0e : ((l2 : Int) == 0) = false := by simp; omega
      have hv : validLotsM xs s h = true := by
        cases hb : validLotsM xs s h
        · have := xg_4.lenEq
          rw [meanRes_no hb] at this
          exact absurd this.symm (by simpa using hl0)
        · rfl
      rw [meanRes_yes hv] at xg_4
      have hlen := xv_4.lenEq
      obtain rfl : l2 = l1 := by rw [← xg_4.lenEq, meanLotsM, madeM_length]; exact hlen
      obtain ⟨hvd, _, _⟩ := validLots_get hv
      have hl8 : l2 ≤ 8 := by have := validDays_len hvd; omega
      have hf := fine_made hv (nxM_nexts xs s h)
      obtain ⟨_, hsf⟩ := fine_get hf
      have HF := Lib.hid (show lotFine (meanLotsM xs s h) xs s h = true from hf)
      have HSB := Lib.hid (show stocksMB 0 (meanLotsM xs s h) xs = true from hsf)
      have HSM := Lib.hid (show stocksM 0 (meanLotsM xs s h) xs = _ from stocks_yes hsf)
      have HT := Lib.hid (show totalM (meanLotsM xs s h) = totalM xs from made_tot (nxM_nexts xs s h))
      have HMX := Lib.hid (days_mem (validDays_at hvd))
      have HMG := Lib.hid (made_mem hvd (nxM_nexts xs s h))
      have hle := fine_least (show lotFine (meanLotsM xs s h) xs s h = true from hf)
      have hcb := lotCost_bd (show lotFine (meanLotsM xs s h) xs s h = true from hf)
      have hlb := leastRes_bd hv
      have HLEN := Lib.hid hlen
      clear hv hvd hf hsf hlen
      go_wp2_with fail
      refine (lotCost_impl a2 l2 c2 (meanLotsM xs s h) a1 l2 c1 xs s h w4 xg_4 xv_4).mono ?_
      rintro e w5 ⟨rfl, hb4⟩
      have xv_5 := ints_lift xv_4 hb4
      have xg_5 := ints_lift xg_4 hb4
      have hB5 : Below w.heap.size w w5 := hB4.trans (hb4.mono hB4.size)
      clear hB4 xv_4 xg_4
      rw [HF.out]
      clear hb4
      generalize lotCostM (meanLotsM xs s h) xs s h = C at hle hcb ⊢
      generalize hL : leastRes xs s h = L at hle hlb
      have HL := Lib.hid hL
      clear hL
      go_wp2_with fail
      refine (leastLots_impl a1 l2 c1 xs s h w5 xv_5 hc1).mono ?_
      rintro e w6 ⟨rfl, hb6⟩
      have xv_6 := ints_lift xv_5 hb6
      have xg_6 := ints_lift xg_5 hb6
      have hB6 : Below w.heap.size w w6 := hB5.trans (hb6.mono hB5.size)
      clear hB5 xv_5 xg_5
      rw [HL.out]
      clear hb6
      go_wp2_with fail
      refine (total_any _ a2 l2 c2 (meanLotsM xs s h) w6 xg_6 HMG.out (by omega)).mono ?_
      rintro e w' ⟨rfl, rfl⟩
      rw [HT.out]
      go_wp2_with fail
      refine (total_any _ a1 l2 c1 xs w6 xv_6 HMX.out (by omega)).mono ?_
      rintro e w' ⟨rfl, rfl⟩
      go_wp2_with fail
      go_ret
      exact ⟨rfl, hB6⟩
  · go_enter Try.func3, Try.ntmps3
    go_wp2
    go_ret
    exact ⟨rfl, Below.refl _ _⟩
end Go.Proofs.Ytldncfkkeeinjac
