/- The law FnBestLots returns true at every code, and the code reads behind the call as it read before. No condition. -/
import Derived.Test.YtldncfkkeeinjabRows
import Derived.WalkKit
import Derived.LoopTactic
import Derived.Outline
import Derived.WalkSpells
import Derived.WalkLawsBesides
import Derived.ProofKit
import Derived.Deep.QuietTactic
import Derived.BigQuiet
import Derived.IntWalk
import Derived.Test.YtldncfkkeeinjabLib
import Derived.Test.YtldncfkkeeinjabRd
import Derived.Test.YtldncfkkeeinjabEx
import Derived.Test.YtldncfkkeeinjabLaws
import Derived.Test.YtldncfkkeeinjabNetM
import Derived.Test.YtldncfkkeeinjabVal2
import Derived.Test.YtldncfkkeeinjabLots
import Derived.Test.YtldncfkkeeinjabStocks
import Derived.Test.YtldncfkkeeinjabResC
import Derived.Test.YtldncfkkeeinjabPlanM
import Derived.Test.YtldncfkkeeinjabBlockM
import Derived.Test.YtldncfkkeeinjabTriedM
import Derived.Test.YtldncfkkeeinjabPrefM
import Derived.Test.YtldncfkkeeinjabLotSpec
import Derived.Test.YtldncfkkeeinjabLotLawM
import Derived.Test.YtldncfkkeeinjabLotImpl
import Derived.Test.YtldncfkkeeinjabDrawLot
import Derived.Test.YtldncfkkeeinjabBestSpec
namespace Go.Proofs.Ytldncfkkeeinjab
open Go.RowKit Go.WideShapes

set_option maxRecDepth 100000 in
set_option maxHeartbeats 2000000 in
theorem fnBestLots_any (a : Option Addr) (len cap : Nat) (w : World) (hb : BytesAt w w.heap.size a len) (hl : len ≤ cap) (hs : len ≤ 9223372036854775807) :
    Calls Try.prog 5 #[.slice a len cap] w (LawPost w) := by
  by_cases h20 : len ≤ 1048576
  · go_enter Try.func5, Try.ntmps5
    have hB0 := Below.refl w.heap.size w
    go_wp2_with fail
    refine (drawBestLots_any a len cap w hb hl hs).mono ?_
    rintro e w1 ⟨a1, l1, c1, xs, s, h, rfl, n_v, hc1, hl1, hs0, hs1, hh0, hh1, hb1⟩
    have hB1 : Below w.heap.size w w1 := hB0.trans (hb1.mono hB0.size)
    clear hB0
    have xv_1 := n_v
    clear n_v
    clear hb
    go_wp2_with fail
    refine ((bestLots_impl a1 l1 c1 xs s h w1 xv_1 hc1)).mono ?_
    rintro e w2 ⟨a2, l2, c2, rfl, n_g, _, hc2, hb2⟩
    have xv_2 := ints_lift xv_1 hb2
    have hB2 : Below w.heap.size w w2 := hB1.trans (hb2.mono hB1.size)
    clear hB1 xv_1
    have xg_2 := ints_in n_g (Nat.le_refl _)
    clear n_g
    go_wp2_with fail
    refine (bestLots_spec a1 l1 c1 xs s h w2 xv_2 hc1).mono ?_
    rintro e w3 ⟨a3, l3, c3, rfl, n_k, _, hb3⟩
    have xv_3 := ints_lift xv_2 hb3
    have xg_3 := ints_lift xg_2 hb3
    have hB3 : Below w.heap.size w w3 := hB2.trans (hb3.mono hB2.size)
    clear hB2 xv_2 xg_2
    have xk_3 := ints_in n_k (Nat.le_refl _)
    clear n_k
    have heq : eqB (bestRes xs s h) (bestRes xs s h) = true := decide_eq_true rfl
    go_wp2_with fail
    refine (equalInts_any _ _ _ _ _ _ _ _ _ _ _ xg_3 xk_3).mono ?_
    rintro e w4 ⟨rfl, dd⟩
    have xv_4 := ints_lift xv_3 (dd.below _)
    have xg_4 := ints_lift xg_3 (dd.below _)
    have xk_4 := ints_lift xk_3 (dd.below _)
    have hB4 : Below w.heap.size w w4 := hB3.trans (dd.below w.heap.size)
    clear hB3 xv_3 xg_3 xk_3
    clear dd
    clear xk_4
    clear hb1 hb2 hb3
    by_cases hl0 : l2 = 0
    · subst hl0
      go_wp2_with fail
      refine (bestLots_spec a1 l1 c1 xs s h w4 xv_4 hc1).mono ?_
      rintro e w5 ⟨a3, l3, c3, rfl, n_k, _, hb4⟩
      have xv_5 := ints_lift xv_4 hb4
      have xg_5 := ints_lift xg_4 hb4
      have hB5 : Below w.heap.size w w5 := hB4.trans (hb4.mono hB4.size)
      clear hB4 xv_4 xg_4
      have xk_5 := ints_in n_k (Nat.le_refl _)
      clear n_k
      go_wp2_with fail
      refine (equalInts_any _ _ _ _ _ _ _ _ _ _ _ xg_5 xk_5).mono ?_
      rintro e w6 ⟨rfl, dd⟩
      have xv_6 := ints_lift xv_5 (dd.below _)
      have xg_6 := ints_lift xg_5 (dd.below _)
      have xk_6 := ints_lift xk_5 (dd.below _)
      have hB6 : Below w.heap.size w w6 := hB5.trans (dd.below w.heap.size)
      clear hB5 xv_5 xg_5 xk_5
      clear dd
      go_wp2_with fail
      go_ret
      exact ⟨rfl, hB6⟩
    · have hl0e : ((l2 : Int) == 0) = false := by simp; omega
      have hv : validLotsM xs s h = true := by
        cases hb : validLotsM xs s h
        · have := xg_4.lenEq
          rw [bestRes_no hb] at this
          exact absurd this.symm (by simpa using hl0)
        · rfl
      rw [bestRes_yes hv] at xg_4
      have hlen := xv_4.lenEq
      obtain rfl : l2 = l1 := by rw [← xg_4.lenEq, bestLotsM, madeM_length]; exact hlen
      obtain ⟨hvd, _, _⟩ := validLots_get hv
      have hl8 : l2 ≤ 8 := by have := validDays_len hvd; omega
      have hf := fine_made hv (nxB_nexts xs s h)
      obtain ⟨_, hsf⟩ := fine_get hf
      have HF := Lib.hid (show lotFine (bestLotsM xs s h) xs s h = true from hf)
      have HSB := Lib.hid (show stocksMB 0 (bestLotsM xs s h) xs = true from hsf)
      have HSM := Lib.hid (show stocksM 0 (bestLotsM xs s h) xs = _ from stocks_yes hsf)
      have HT := Lib.hid (show totalM (bestLotsM xs s h) = totalM xs from made_tot (nxB_nexts xs s h))
      have HMX := Lib.hid (days_mem (validDays_at hvd))
      have HMG := Lib.hid (made_mem hvd (nxB_nexts xs s h))
      have hle := fine_least (show lotFine (bestLotsM xs s h) xs s h = true from hf)
      have hcb := lotCost_bd (show lotFine (bestLotsM xs s h) xs s h = true from hf)
      have hlb := leastRes_bd hv
      have HLEN := Lib.hid hlen
      have HBC := Lib.hid (best_cost hv)
      have HEMP := Lib.hid (fun q (hq : q + 1 < xs.length) (h0 : 0 < madeAt (nxB xs s h) xs (q + 1)) => made_empty (nxB_nexts xs s h) hq h0)
      clear hv hvd hf hsf hlen
      go_wp2_with fail
      refine (lotCost_impl a2 l2 c2 (bestLotsM xs s h) a1 l2 c1 xs s h w4 xg_4 xv_4).mono ?_
      rintro e w5 ⟨rfl, hb4⟩
      have xv_5 := ints_lift xv_4 hb4
      have xg_5 := ints_lift xg_4 hb4
      have hB5 : Below w.heap.size w w5 := hB4.trans (hb4.mono hB4.size)
      clear hB4 xv_4 xg_4
      rw [HF.out]
      clear hb4
      rw [HBC.out]
      clear hle hcb
      generalize hL : leastRes xs s h = L at hlb ⊢
      have HL := Lib.hid hL
      clear hL
      go_wp2_with fail
      refine (stocks_impl 0 a2 l2 c2 (bestLotsM xs s h) a1 l2 c1 xs w5 xg_5 xv_5).mono ?_
      rintro e w6 ⟨a5, l5, c5, rfl, n_o, _, hb5⟩
      have xv_6 := ints_lift xv_5 hb5
      have xg_6 := ints_lift xg_5 hb5
      have hB6 : Below w.heap.size w w6 := hB5.trans (hb5.mono hB5.size)
      clear hB5 xv_5 xg_5
      have xo_6 := ints_in n_o (Nat.le_refl _)
      clear n_o
      rw [HSB.out]
      clear hb5
      rw [HSM.out] at xo_6
      obtain rfl : l5 = l2 := by rw [← xo_6.lenEq, tab_length]; exact HLEN.out
      go_wp2_with fail
      clear heq
      go_loopw [11] (fun i wr => ∃ k : Nat, 1 ≤ k ∧ k ≤ l5 ∧ i = .int .i64 k ∧ Drew w6 wr) (fun i _ => l5 - (intOf i).toNat)
      case atStart => exact ⟨1, Nat.le_refl _, by omega, rfl, Drew.refl _⟩
      case round =>
        obtain ⟨k, hk1, hk, rfl, hdw⟩ := hrel
        by_cases hkl : k < l5
        · obtain ⟨m, rfl⟩ : ∃ m, k = m + 1 := ⟨k - 1, by omega⟩
          obtain ⟨b, off, x, rfl, hx, hc⟩ := (Drew.ints xg_6 hdw).get hkl
          obtain ⟨b2, off2, y, rfl, hy, hc2⟩ := (Drew.ints xo_6 hdw).get (k := m) (by omega)
          obtain ⟨rfl, _⟩ := tab_get hx
          obtain ⟨rfl, _⟩ := tab_get hy
          have hem := HEMP.out m (by rw [HLEN.out]; exact hkl)
          change _ → stockTo (bestLotsM xs s h) xs 0 (m + 1) = 0 at hem
          clear hx hy
          generalize madeAt (nxB xs s h) xs (m + 1) = mx at hc hem
          generalize stockTo (bestLotsM xs s h) xs 0 (m + 1) = st at hc2 hem
          have hm1 : (m : Int) < (l5 : Int) := by omega
          have hm2 : m < l5 := by omega
          have hm3 : (m : Int) + 1 < (l5 : Int) := by omega
          have hw1 : IntKind.i64.wrap ((m : Int) + 1 - 1) = (m : Int) := by rw [show (m : Int) + 1 - 1 = (m : Int) by omega]; exact IntWalk.i64_in _ (by omega)
          by_cases hmx : 0 < mx
          · have hst := hem hmx
            subst hst
            clear hem
            go_wp2_with fail
            go_roundw
            case rel => exact ⟨m + 1 + 1, by omega, by omega, by go_num, hdw⟩
            case measure => simp [intOf] <;> omega
          · have hmx' : mx ≤ 0 := by omega
            clear hem
            go_wp2_with fail
            go_roundw
            case rel => exact ⟨m + 1 + 1, by omega, by omega, by go_num, hdw⟩
            case measure => simp [intOf] <;> omega
        · have HV := Lib.hid (ints_lift xv_6 (hdw.below _))
          have HG := Lib.hid (ints_lift xg_6 (hdw.below _))
          have HB := Lib.hid (hB6.trans (Drew.below hdw w.heap.size))
          clear hdw
          go_wp2_with fail
          refine (leastLots_impl a1 l5 c1 xs s h wr HV.out hc1).mono ?_
          rintro e w8 ⟨rfl, hb8⟩
          rw [HL.out]
          have hg8 := ints_lift HG.out hb8
          have hv8 := ints_lift HV.out hb8
          have HB8 := Lib.hid (HB.out.trans (hb8.mono HB.out.size))
          have heqL : (L == L) = true := by simp
          clear hb8
          go_wp2_with fail
          refine (total_any _ a2 l5 c2 (bestLotsM xs s h) w8 hg8 HMG.out (by omega)).mono ?_
          rintro e w9 ⟨rfl, rfl⟩
          rw [HT.out]
          go_wp2_with fail
          refine (total_any _ a1 l5 c1 xs w8 hv8 HMX.out (by omega)).mono ?_
          rintro e w9 ⟨rfl, rfl⟩
          go_wp2_with fail
          go_ret
          exact ⟨rfl, HB8.out⟩
  · go_enter Try.func5, Try.ntmps5
    go_wp2
    go_ret
    exact ⟨rfl, Below.refl _ _⟩
end Go.Proofs.Ytldncfkkeeinjab
