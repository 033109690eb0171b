/- The law FnDearSetsAreFew returns true at every code, and the code reads behind the call as it read before. No condition. -/
import Derived.Test.YtldncfkkeeinjacRows
import Derived.WalkKit
import Derived.LoopTactic
import Derived.Outline
import Derived.WalkSpells
import Derived.WalkLawsBesides
import Derived.ProofKit
import Derived.Deep.QuietTactic
import Derived.BigQuiet
import Derived.IntWalk
import Derived.Test.YtldncfkkeeinjacLib
import Derived.Test.YtldncfkkeeinjacRd
import Derived.Test.YtldncfkkeeinjacEx
import Derived.Test.YtldncfkkeeinjacLaws
import Derived.Test.YtldncfkkeeinjacNetM
import Derived.Test.YtldncfkkeeinjacVal2
import Derived.Test.YtldncfkkeeinjacLots
import Derived.Test.YtldncfkkeeinjacStocks
import Derived.Test.YtldncfkkeeinjacResC
import Derived.Test.YtldncfkkeeinjacPlanM
import Derived.Test.YtldncfkkeeinjacBlockM
import Derived.Test.YtldncfkkeeinjacTriedM
import Derived.Test.YtldncfkkeeinjacPrefM
import Derived.Test.YtldncfkkeeinjacLotSpec
import Derived.Test.YtldncfkkeeinjacLotLawM
import Derived.Test.YtldncfkkeeinjacLotImpl
import Derived.Test.YtldncfkkeeinjacDrawLot
import Derived.Test.YtldncfkkeeinjacBestSpec
import Derived.Test.YtldncfkkeeinjacMeanSpec
namespace Go.Proofs.Ytldncfkkeeinjac
open Go.RowKit Go.WideShapes

set_option maxRecDepth 100000 in
set_option maxHeartbeats 2000000 in
theorem fnDearSetsAreFew_any (a : Option Addr) (len cap : Nat) (w : World) (hb : BytesAt w w.heap.size a len) (hl : len ≤ cap) (hs : len ≤ 9223372036854775807) :
    Calls Try.prog 6 #[.slice a len cap] w (LawPost w) := by
  by_cases h20 : len ≤ 1048576
  · go_enter Try.func6, Try.ntmps6
    have hB0 := Below.refl w.heap.size w
    go_wp2_with fail
    refine (drawMeanLots_any a len cap w hb hl hs).mono ?_
    rintro e w1 ⟨a1, l1, c1, xs, s, h, rfl, n_v, hc1, hl1, hs0, hs1, hh0, hh1, hb1⟩
    have hB1 : Below w.heap.size w w1 := hB0.trans (hb1.mono hB0.size)
    clear hB0
    have xv_1 := n_v
    clear n_v
    clear hb
    go_wp2_with fail
    refine (meanLots_impl a1 l1 c1 xs s h w1 xv_1 hc1).mono ?_
    rintro e w2 ⟨a2, l2, c2, rfl, n_g, _, hc2, hb2⟩
    have xv_2 := ints_lift xv_1 hb2
    have hB2 : Below w.heap.size w w2 := hB1.trans (hb2.mono hB1.size)
    clear hB1 xv_1
    have xg_2 := ints_in n_g (Nat.le_refl _)
    clear n_g
    go_wp2_with fail
    refine (meanLots_spec a1 l1 c1 xs s h w2 xv_2 hc1).mono ?_
    rintro e w3 ⟨a3, l3, c3, rfl, n_k, _, hb3⟩
    have xv_3 := ints_lift xv_2 hb3
    have xg_3 := ints_lift xg_2 hb3
    have hB3 : Below w.heap.size w w3 := hB2.trans (hb3.mono hB2.size)
    clear hB2 xv_2 xg_2
    have xk_3 := ints_in n_k (Nat.le_refl _)
    clear n_k
    have heq : eqB (meanRes xs s h) (meanRes xs s h) = true := decide_eq_true rfl
    go_wp2_with fail
    refine (equalInts_any _ _ _ _ _ _ _ _ _ _ _ xg_3 xk_3).mono ?_
    rintro e w4 ⟨rfl, dd⟩
    have xv_4 := ints_lift xv_3 (dd.below _)
    have xg_4 := ints_lift xg_3 (dd.below _)
    have xk_4 := ints_lift xk_3 (dd.below _)
    have hB4 : Below w.heap.size w w4 := hB3.trans (dd.below w.heap.size)
    clear hB3 xv_3 xg_3 xk_3
    clear dd
    clear xk_4
    clear xg_4
    go_wp2_with fail
    refine (bestLots_impl a1 l1 c1 xs 0 h w4 xv_4 hc1).mono ?_
    rintro e w5 ⟨a4, l4, c4, rfl, n_f, _, hc4, hb4⟩
    have xv_5 := ints_lift xv_4 hb4
    have hB5 : Below w.heap.size w w5 := hB4.trans (hb4.mono hB4.size)
    clear hB4 xv_4
    have xf_5 := ints_in n_f (Nat.le_refl _)
    clear n_f
    go_wp2_with fail
    refine (bestLots_impl a1 l1 c1 xs s 0 w5 xv_5 hc1).mono ?_
    rintro e w6 ⟨a5, l5, c5, rfl, n_o, _, hc5, hb5⟩
    have xv_6 := ints_lift xv_5 hb5
    have xf_6 := ints_lift xf_5 hb5
    have hB6 : Below w.heap.size w w6 := hB5.trans (hb5.mono hB5.size)
    clear hB5 xv_5 xf_5
    have xo_6 := ints_in n_o (Nat.le_refl _)
    clear n_o
    clear hb1 hb2 hb3 hb4 hb5
    by_cases hgo : (l4 = 0 ∨ l5 = 0) ∨ h < 1 ∨ s < 1
    · by_cases h4 : l4 = 0
      · subst h4
        clear hgo
        go_wp2_with fail
        go_ret
        exact ⟨rfl, hB6⟩
      · have h4e : ((l4 : Int) == 0) = false := by simp; omega
        by_cases h5 : l5 = 0
        · subst h5
          clear hgo
          go_wp2_with fail
          go_ret
          exact ⟨rfl, hB6⟩
        · have h5e : ((l5 : Int) == 0) = false := by simp; omega
          by_cases hh : h < 1
          · clear hgo
            go_wp2_with fail
            go_ret
            exact ⟨rfl, hB6⟩
          · have hs' : s < 1 := by omega
            clear hgo
            go_wp2_with fail
            go_ret
            exact ⟨rfl, hB6⟩
    · have h4e : ((l4 : Int) == 0) = false := by simp; omega
      have h5e : ((l5 : Int) == 0) = false := by simp; omega
      have hh' : ¬ h < 1 := by omega
      have hs' : ¬ s < 1 := by omega
      have hv1 : validLotsM xs 0 h = true := by
        cases hb : validLotsM xs 0 h
        · have := xf_6.lenEq
          rw [bestRes_no hb] at this
          exact absurd this.symm (by simp; omega)
        · rfl
      have hv2 : validLotsM xs s 0 = true := by
        cases hb : validLotsM xs s 0
        · have := xo_6.lenEq
          rw [bestRes_no hb] at this
          exact absurd this.symm (by simp; omega)
        · rfl
      rw [bestRes_yes hv2] at xo_6
      have hlen := xv_6.lenEq
      obtain rfl : l5 = l1 := by rw [← xo_6.lenEq, bestLotsM, madeM_length]; exact hlen
      obtain ⟨hvd, _, _⟩ := validLots_get hv2
      have hl8 : l5 ≤ 8 := by have := validDays_len hvd; omega
      have HZ := Lib.hid (fun q (hq : q + 1 < l5) => once_zero hv2 (q := q) (by omega))
      have HT := Lib.hid (show totalM (bestLotsM xs s 0) = totalM xs from made_tot (nxB_nexts xs s 0))
      have HMX := Lib.hid (days_mem (validDays_at hvd))
      have HMG := Lib.hid (show ∀ x ∈ bestLotsM xs s 0, _ from made_mem hvd (nxB_nexts xs s 0))
      have HF0 := Lib.hid (free_zero hv1)
      clear hgo hv1 hv2 hvd hlen xf_6
      go_wp2_with fail
      clear heq
      go_loopw [8, 9] (fun n i wr => ∃ k m : Nat, k ≤ l5 ∧ m ≤ 1 ∧ (k = 0 → m = 0) ∧ i = .int .i64 k ∧ n = .int .i64 m ∧ Drew w6 wr) (fun _ i _ => l5 - (intOf i).toNat)
      case atStart => exact ⟨0, 0, Nat.zero_le _, Nat.zero_le _, fun _ => rfl, rfl, rfl, Drew.refl _⟩
      case round =>
        obtain ⟨k, m, hk, hm, hk0, rfl, rfl, hdw⟩ := hrel
        by_cases hkl : k < l5
        · obtain ⟨b, off, x, rfl, hx, hc⟩ := (Drew.ints xo_6 hdw).get hkl
          have hz : 0 < k → x = 0 := fun h0 => by
            have := HZ.out (k - 1) (by omega)
            rw [show k - 1 + 1 = k by omega, getD_of hx] at this
            exact this
          have hkl2 : (k : Int) < (l5 : Int) := by omega
          clear hx
          by_cases hx0 : 0 < x
          · have hk00 : k = 0 := by
              rcases Nat.eq_zero_or_pos k with h | h
              · exact h
              · have := hz h; omega
            have HM0 := Lib.hid (hk0 hk00)
            clear hz hk0 hk00
            go_wp2_with fail
            go_roundw
            case rel => exact ⟨k + 1, m + 1, by omega, by have := HM0.out; omega, (fun h => by omega), by go_num, by go_num, hdw⟩
            case measure => simp [intOf] <;> omega
          · have hx0' : x ≤ 0 := by omega
            clear hz
            have HK0 := Lib.hid hk0
            clear hk0
            go_wp2_with fail
            go_roundw
            case rel => exact ⟨k + 1, m, by omega, hm, (fun h => by omega), by go_num, rfl, hdw⟩
            case measure => simp [intOf] <;> omega
        · have HV := Lib.hid (ints_lift xv_6 (hdw.below _))
          have HO := Lib.hid (ints_lift xo_6 (hdw.below _))
          have HB := Lib.hid (hB6.trans (Drew.below hdw w.heap.size))
          have hm' : (m : Int) ≤ 1 := by omega
          clear hdw hk0
          go_wp2_with fail
          refine (leastLots_impl a1 l5 c1 xs 0 h wr HV.out hc1).mono ?_
          rintro e w8 ⟨rfl, hb8⟩
          rw [HF0.out]
          have hg8 := ints_lift HO.out hb8
          have hv8 := ints_lift HV.out hb8
          have HB8 := Lib.hid (HB.out.trans (hb8.mono HB.out.size))
          clear hb8
          go_wp2_with fail
          refine (total_any _ a5 l5 c5 (bestLotsM xs s 0) w8 hg8 HMG.out (by omega)).mono ?_
          rintro e w9 ⟨rfl, rfl⟩
          rw [HT.out]
          go_wp2_with fail
          refine (total_any _ a1 l5 c1 xs w8 hv8 HMX.out (by omega)).mono ?_
          rintro e w9 ⟨rfl, rfl⟩
          go_wp2_with fail
          go_ret
          exact ⟨rfl, HB8.out⟩
  · go_enter Try.func6, Try.ntmps6
    go_wp2
    go_ret
    exact ⟨rfl, Below.refl _ _⟩
end Go.Proofs.Ytldncfkkeeinjac
