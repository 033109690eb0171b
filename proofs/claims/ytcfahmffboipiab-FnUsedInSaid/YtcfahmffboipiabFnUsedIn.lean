/- The law FnUsedIn returns true at every code, and the code reads behind the call as it read before. No condition. -/
import Derived.Test.YtcfahmffboipiabRows
import Derived.WalkKit
import Derived.LoopTactic
import Derived.Outline
import Derived.WalkSpells
import Derived.WalkLawsBesides
import Derived.ProofKit
import Derived.Deep.QuietTactic
import Derived.BigQuiet
import Derived.IntWalk
import Derived.Test.YtcfahmffboipiabLib
import Derived.Test.YtcfahmffboipiabRd
import Derived.Test.YtcfahmffboipiabEx
import Derived.Test.YtcfahmffboipiabLaws
import Derived.Test.YtcfahmffboipiabCountM
import Derived.Test.YtcfahmffboipiabTakesM
import Derived.Test.YtcfahmffboipiabTakes
import Derived.Test.YtcfahmffboipiabVb
import Derived.Test.YtcfahmffboipiabUsed
import Derived.Test.YtcfahmffboipiabUsedSpec
import Derived.Test.YtcfahmffboipiabSt3
namespace Go.Proofs.Ytcfahmffboipiab
open Go.RowKit Go.WideShapes

theorem used_isIn {rows : List (List Int)} {j i n : Nat} (h : i < n) : isInB (natInts (usedTo rows j n)) (i : Int) = usedP rows j i := by
  unfold isInB
  cases e : usedP rows j i
  · refine decide_eq_false (fun hm => ?_)
    obtain ⟨q, hq, e2⟩ := List.mem_map.1 hm
    obtain rfl : q = i := by have h9 : (q : Int) = (i : Int) := e2; omega
    have := (List.mem_filter.1 hq).2
    rw [e] at this; cases this
  · exact decide_eq_true (List.mem_map.2 ⟨i, List.mem_filter.2 ⟨List.mem_range.2 h, e⟩, rfl⟩)
theorem used_up (rows : List (List Int)) (j n : Nat) : ∀ k, k + 1 < (natInts (usedTo rows j n)).length → (natInts (usedTo rows j n)).getD k 0 < (natInts (usedTo rows j n)).getD (k + 1) 0 := by
  intro k hk
  have hp : (natInts (usedTo rows j n)).Pairwise (· < ·) := by
    unfold natInts usedTo
    rw [List.pairwise_map]
    exact (List.Pairwise.filter _ List.pairwise_lt_range).imp (fun h => by omega)
  have := (List.pairwise_iff_getElem.1 hp) k (k + 1) (by omega) hk (by omega)
  rw [List.getD_eq_getElem?_getD, List.getD_eq_getElem?_getD, List.getElem?_eq_getElem hk, List.getElem?_eq_getElem (by omega)]
  exact this

set_option maxRecDepth 100000 in
set_option maxHeartbeats 4000000 in
theorem fnUsedIn_any (a : Option Addr) (len cap : Nat) (w : World) (hb : BytesAt w w.heap.size a len) (hl : len ≤ cap) (hs : len ≤ 9223372036854775807) :
    Calls Try.prog 3 #[.slice a len cap] w (LawPost w) := by
  by_cases h20 : len ≤ 1048576
  · go_enter Try.func3, Try.ntmps3
    have hB0 := Below.refl w.heap.size w
    go_wp2_with fail
    refine (drawUsedIn_any a len cap w hb hl hs).mono ?_
    rintro e w1 ⟨a1, l1, c1, rows, j, rfl, n_b, hc1, hb1⟩
    have hB1 : Below w.heap.size w w1 := hB0.trans (hb1.mono hB0.size)
    clear hB0
    have xb_1 := n_b
    clear n_b
    clear hb
    go_wp2_with fail
    refine (usedIn_impl a1 l1 c1 rows j w1 xb_1).mono ?_
    rintro e w2 ⟨a3, l3, c3, rfl, n_g, _, hb2⟩
    have xb_2 := rows_lift xb_1 hb2
    have hB2 : Below w.heap.size w w2 := hB1.trans (hb2.mono hB1.size)
    clear hB1 xb_1
    have xg_2 := ints_in n_g (Nat.le_refl _)
    clear n_g
    go_wp2_with fail
    refine (usedIn_spec a1 l1 c1 rows j w2 xb_2).mono ?_
    rintro e w3 ⟨a4, l4, c4, rfl, n_k, _, hb3⟩
    have xb_3 := rows_lift xb_2 hb3
    have xg_3 := ints_lift xg_2 hb3
    have hB3 : Below w.heap.size w w3 := hB2.trans (hb3.mono hB2.size)
    clear hB2 xb_2 xg_2
    have xk_3 := ints_in n_k (Nat.le_refl _)
    clear n_k
    have heq : eqB (usedRes rows j) (usedRes rows j) = true := decide_eq_true rfl
    go_wp2_with fail
    refine (equalInts_any _ _ _ _ _ _ _ _ _ _ _ xg_3 xk_3).mono ?_
    rintro e w4 ⟨rfl, dd⟩
    have xb_4 := rows_lift xb_3 (dd.below _)
    have xg_4 := ints_lift xg_3 (dd.below _)
    have xk_4 := ints_lift xk_3 (dd.below _)
    have hB4 : Below w.heap.size w w4 := hB3.trans (dd.below w.heap.size)
    clear hB3 xb_3 xg_3 xk_3
    clear dd
    clear xk_4
    clear hb1 hb2 hb3
    have hlr := xb_4.lenEq
    have hsm := xb_4.small
    have HLR := Lib.hid hlr
    clear hlr
    go_wp2_with fail
    refine (validBill_impl _ a1 l1 c1 rows w4 xb_4).mono ?_
    rintro e w' ⟨rfl, rfl⟩
    cases hv : validBillM rows
    · go_wp2_with fail
      refine (usedIn_spec a1 l1 c1 rows j w4 xb_4).mono ?_
      rintro e w5 ⟨a4, l4, c4, rfl, n_k, _, hb4⟩
      have xb_5 := rows_lift xb_4 hb4
      have xg_5 := ints_lift xg_4 hb4
      have hB5 : Below w.heap.size w w5 := hB4.trans (hb4.mono hB4.size)
      clear hB4 xb_4 xg_4
      have xk_5 := ints_in n_k (Nat.le_refl _)
      clear n_k
      go_wp2_with fail
      refine (equalInts_any _ _ _ _ _ _ _ _ _ _ _ xg_5 xk_5).mono ?_
      rintro e w6 ⟨rfl, dd⟩
      have xb_6 := rows_lift xb_5 (dd.below _)
      have xg_6 := ints_lift xg_5 (dd.below _)
      have xk_6 := ints_lift xk_5 (dd.below _)
      have hB6 : Below w.heap.size w w6 := hB5.trans (dd.below w.heap.size)
      clear hB5 xb_5 xg_5 xk_5
      clear dd
      go_wp2_with fail
      go_ret
      exact ⟨rfl, hB6⟩
    · have hl6 : l1 ≤ 6 := by have := validBill_len6 hv; have := HLR.out; omega
      by_cases hj0 : j < 0
      · go_wp2_with fail
        refine (usedIn_spec a1 l1 c1 rows j w4 xb_4).mono ?_
        rintro e w5 ⟨a4, l4, c4, rfl, n_k, _, hb4⟩
        have xb_5 := rows_lift xb_4 hb4
        have xg_5 := ints_lift xg_4 hb4
        have hB5 : Below w.heap.size w w5 := hB4.trans (hb4.mono hB4.size)
        clear hB4 xb_4 xg_4
        have xk_5 := ints_in n_k (Nat.le_refl _)
        clear n_k
        go_wp2_with fail
        refine (equalInts_any _ _ _ _ _ _ _ _ _ _ _ xg_5 xk_5).mono ?_
        rintro e w6 ⟨rfl, dd⟩
        have xb_6 := rows_lift xb_5 (dd.below _)
        have xg_6 := ints_lift xg_5 (dd.below _)
        have xk_6 := ints_lift xk_5 (dd.below _)
        have hB6 : Below w.heap.size w w6 := hB5.trans (dd.below w.heap.size)
        clear hB5 xb_5 xg_5 xk_5
        clear dd
        go_wp2_with fail
        go_ret
        exact ⟨rfl, hB6⟩
      · by_cases hjl : j < l1
        · obtain ⟨j, rfl⟩ : ∃ jn : Nat, j = (jn : Int) := ⟨j.toNat, by omega⟩
          have hjn : j < l1 := by omega
          rw [usedRes_yes hv (show j < rows.length by rw [HLR.out]; exact hjn)] at xg_4
          have hlg := xg_4.lenEq
          have HG := Lib.hid hlg
          have hl3 : l3 ≤ 6 := by rw [← hlg, List.length_map]; have := usedTo_length rows j rows.length; have := HLR.out; omega
          have HST := Lib.hid (⟨xb_4, xg_4, xg_4, hB4⟩ : St3 w w4 a1 l1 rows a3 l3 (natInts (usedTo rows j rows.length)) a3 l3 (natInts (usedTo rows j rows.length)))
          clear hlg xg_4 xb_4
          have hd1 : decide ((j : Int) < 0) = false := decide_eq_false (by omega)
          have hd2 : decide (l1 ≤ j) = false := decide_eq_false (by omega)
          go_wp2_with fail
          clear heq hd1 hd2
          go_loopw [6] (fun i wr => ∃ k : Nat, k ≤ l1 ∧ i = .int .i64 k ∧ St3 w wr a1 l1 rows a3 l3 (natInts (usedTo rows j rows.length)) a3 l3 (natInts (usedTo rows j rows.length))) (fun i _ => l1 - (intOf i).toNat)
          case atStart => exact ⟨0, Nat.zero_le _, rfl, HST.out⟩
          case round =>
            clear HST
            obtain ⟨k, hk, rfl, hst⟩ := hrel
            obtain ⟨wo, rfl⟩ : ∃ wo : World, wo = wr := ⟨_, rfl⟩
            have HST := Lib.hid hst
            clear hst
            by_cases hkl : k < l1
            · have HIS := Lib.hid (used_isIn (rows := rows) (j := j) (show k < rows.length by rw [HLR.out]; exact hkl))
              by_cases hkj : k = j
              · subst hkj
                have HP := Lib.hid (show usedP rows k k = false by simp [usedP])
                have hne : ((k : Int) != (k : Int)) = false := by simp
                go_wp2_with fail
                refine (isIn_any _ a3 l3 c3 _ (k : Int) wo HST.out.g).mono ?_
                rintro e w' ⟨rfl, rfl⟩
                rw [HIS.out, HP.out]
                go_wp2_with fail
                go_roundw
                case rel => exact ⟨k + 1, by omega, by go_num, HST.out⟩
                case measure => simp [intOf]; omega
              · have HP := Lib.hid (show usedP rows j k = decide (0 < takeM rows k j) by simp [usedP, hkj])
                have hne : ((k : Int) != (j : Int)) = true := by simp; omega
                have HTK := Lib.hid (show takesM rows k j = takeM rows k j from takesM_good hv (by rw [HLR.out]; exact hkl) (by rw [HLR.out]; exact hjn))
                go_wp2_with fail
                refine (isIn_any _ a3 l3 c3 _ (k : Int) wo HST.out.g).mono ?_
                rintro e w' ⟨rfl, rfl⟩
                rw [HIS.out, HP.out]
                go_wp2_with fail
                refine (takes_impl a1 l1 c1 rows k j wo HST.out.b).mono ?_
                rw [HTK.out]
                rintro e w' ⟨rfl, hb'⟩
                have HS2 := Lib.hid (HST.out.up hb')
                have h0 := takeM_nonneg hv k j
                clear hb'
                generalize takeM rows k j = t at h0 ⊢
                have hbb : (decide (0 < t) != decide (0 < t)) = false := by simp
                go_wp2_with fail
                go_roundw
                case rel => exact ⟨k + 1, by omega, by go_num, HS2.out⟩
                case measure => simp [intOf]; omega
            · go_wp2_with fail
              refine (ascends_yes _ a3 l3 c3 _ wo HST.out.g (by omega) (fun q hq => used_up rows j rows.length q (by rw [show (natInts (usedTo rows j rows.length)).length = l3 from HG.out]; exact hq))).mono ?_
              rintro e w' ⟨rfl, hd⟩
              go_wp2_with fail
              go_ret
              exact ⟨rfl, HST.out.below.trans (Drew.below hd _)⟩
        · go_wp2_with fail
          refine (usedIn_spec a1 l1 c1 rows j w4 xb_4).mono ?_
          rintro e w5 ⟨a4, l4, c4, rfl, n_k, _, hb4⟩
          have xb_5 := rows_lift xb_4 hb4
          have xg_5 := ints_lift xg_4 hb4
          have hB5 : Below w.heap.size w w5 := hB4.trans (hb4.mono hB4.size)
          clear hB4 xb_4 xg_4
          have xk_5 := ints_in n_k (Nat.le_refl _)
          clear n_k
          go_wp2_with fail
          refine (equalInts_any _ _ _ _ _ _ _ _ _ _ _ xg_5 xk_5).mono ?_
          rintro e w6 ⟨rfl, dd⟩
          have xb_6 := rows_lift xb_5 (dd.below _)
          have xg_6 := ints_lift xg_5 (dd.below _)
          have xk_6 := ints_lift xk_5 (dd.below _)
          have hB6 : Below w.heap.size w w6 := hB5.trans (dd.below w.heap.size)
          clear hB5 xb_5 xg_5 xk_5
          clear dd
          go_wp2_with fail
          go_ret
          exact ⟨rfl, hB6⟩
  · go_enter Try.func3, Try.ntmps3
    go_wp2
    go_ret
    exact ⟨rfl, Below.refl _ _⟩
end Go.Proofs.Ytcfahmffboipiab
