/- The law FnRuleOrder returns true at every code, and the code reads behind the call as it read before. No condition. -/
import Derived.Test.YtcikgbkehfepdacRows
import Derived.WalkKit
import Derived.LoopTactic
import Derived.Outline
import Derived.WalkSpells
import Derived.WalkLawsBesides
import Derived.ProofKit
import Derived.Deep.QuietTactic
import Derived.BigQuiet
import Derived.IntWalk
import Derived.Test.YtcikgbkehfepdacM0
import Derived.Test.YtcikgbkehfepdacM1
import Derived.Test.YtcikgbkehfepdacM2
import Derived.Test.YtcikgbkehfepdacM3
import Derived.Test.YtcikgbkehfepdacM7
import Derived.Test.YtcikgbkehfepdacM8
import Derived.Test.YtcikgbkehfepdacM9
import Derived.Test.YtcikgbkehfepdacM14
import Derived.Test.YtcikgbkehfepdacM12
import Derived.Test.YtcikgbkehfepdacM13
import Derived.Test.YtcikgbkehfepdacM15
namespace Go.Proofs.Ytcikgbkehfepdac
open Go.RowKit Go.WideShapes

set_option maxRecDepth 100000 in
set_option maxHeartbeats 2000000 in
theorem fnRuleOrder_any (a : Option Addr) (len cap : Nat) (w : World) (hb : BytesAt w w.heap.size a len) (hl : len ≤ cap) (hs : len ≤ 9223372036854775807) :
    Calls Try.prog 3 #[.slice a len cap] w (LawPost w) := by
  by_cases h20 : len ≤ 1048576
  · go_enter Try.func3, Try.ntmps3
    have hB0 := Below.refl w.heap.size w
    go_wp2_with fail
    refine (drawRuleOrder_any a len cap w hb hl hs).mono ?_
    rintro e w1 ⟨a1, l1, c1, rows, rfl, n_r, hc1, hl1, hb1⟩
    have hB1 : Below w.heap.size w w1 := hB0.trans (hb1.mono hB0.size)
    clear hB0
    have xr_1 := n_r
    clear n_r
    clear hb hb1
    go_wp2_with fail
    refine (ruleOrder_impl a1 l1 c1 rows w1 xr_1 hc1).mono ?_
    rintro e w2 ⟨a3, l3, c3, rfl, n_g, _, hc3, hb2⟩
    have xr_2 := rows_lift xr_1 hb2
    have hB2 : Below w.heap.size w w2 := hB1.trans (hb2.mono hB1.size)
    clear hB1 xr_1
    have xg_2 := ints_in n_g (Nat.le_refl _)
    clear n_g
    go_wp2_with fail
    refine (ruleOrder_spec a1 l1 c1 rows w2 xr_2).mono ?_
    rintro e w3 ⟨a4, l4, c4, rfl, n_k, _, hb3⟩
    have xr_3 := rows_lift xr_2 hb3
    have xg_3 := ints_lift xg_2 hb3
    have hB3 : Below w.heap.size w w3 := hB2.trans (hb3.mono hB2.size)
    clear hB2 xr_2 xg_2
    have xk_3 := ints_in n_k (Nat.le_refl _)
    clear n_k
    have heq : eqB (ruleRes rows) (ruleRes rows) = true := decide_eq_true rfl
    go_wp2_with fail
    refine (equalInts_any _ _ _ _ _ _ _ _ _ _ _ xg_3 xk_3).mono ?_
    rintro e w4 ⟨rfl, dd⟩
    have xr_4 := rows_lift xr_3 (dd.below _)
    have xg_4 := ints_lift xg_3 (dd.below _)
    have xk_4 := ints_lift xk_3 (dd.below _)
    have hB4 : Below w.heap.size w w4 := hB3.trans (dd.below w.heap.size)
    clear hB3 xr_3 xg_3 xk_3
    clear dd
    clear xk_4
    clear hb2 hb3
    rw [heq]
    go_wp2_with fail
    refine (validPairs_implV a1 l1 c1 rows w4 xr_4 hc1).mono ?_
    rintro e w5 ⟨rfl, hb5⟩
    have xr_5 := rows_lift xr_4 hb5
    have xg_5 := ints_lift xg_4 hb5
    have hB5 : Below w.heap.size w w5 := hB4.trans (hb5.mono hB4.size)
    clear hB4 xr_4 xg_4
    clear hb5
    cases hv : pairsM rows
    · go_wp2_with fail
      refine (ruleOrder_spec a1 l1 c1 rows w5 xr_5).mono ?_
      rintro e w6 ⟨a4, l4, c4, rfl, n_k, _, hb6⟩
      have xr_6 := rows_lift xr_5 hb6
      have xg_6 := ints_lift xg_5 hb6
      have hB6 : Below w.heap.size w w6 := hB5.trans (hb6.mono hB5.size)
      clear hB5 xr_5 xg_5
      have xk_6 := ints_in n_k (Nat.le_refl _)
      clear n_k
      go_wp2_with fail
      refine (equalInts_any _ _ _ _ _ _ _ _ _ _ _ xg_6 xk_6).mono ?_
      rintro e w7 ⟨rfl, dd⟩
      have xr_7 := rows_lift xr_6 (dd.below _)
      have xg_7 := ints_lift xg_6 (dd.below _)
      have xk_7 := ints_lift xk_6 (dd.below _)
      have hB7 : Below w.heap.size w w7 := hB6.trans (dd.below w.heap.size)
      clear hB6 xr_6 xg_6 xk_6
      clear dd
      rw [heq]
      go_wp2_with fail
      go_ret
      exact ⟨rfl, hB7⟩
    · have hnn := spanRes_nn (rule_fine hv)
      have HTR := Lib.hid (rule_tried hv)
      have HDF := Lib.hid (rule_diff hv)
      have hl31 : l3 = l1 := by have h1 := xg_5.lenEq; have h2 := xr_5.lenEq; rw [ruleRes_yes hv, ruleI_len] at h1; omega
      subst hl31
      have HDF2 := Lib.hid (show diffM (ruleRes rows) l3 = l3 by have h1 := HDF.out; rw [xr_5.lenEq] at h1; exact h1)
      clear hv heq
      go_wp2_with fail
      refine (spanOf_impl a1 l3 c1 rows a3 l3 c3 (ruleRes rows) w5 xr_5 xg_5 hc1 hc3).mono ?_
      rintro e w6 ⟨rfl, hb7⟩
      have xr_6 := rows_lift xr_5 hb7
      have xg_6 := ints_lift xg_5 hb7
      have hB6 : Below w.heap.size w w6 := hB5.trans (hb7.mono hB5.size)
      clear hB5 xr_5 xg_5
      clear hb7
      obtain ⟨sv, hsv⟩ : ∃ sv, spanRes rows (ruleRes rows) = sv := ⟨_, rfl⟩
      rw [hsv] at HTR hnn ⊢
      clear hsv
      go_wp2_with fail
      refine (spanTried_impl a1 l3 c1 rows w6 xr_6 hc1).mono ?_
      rintro e w7 ⟨rfl, hb8⟩
      have xr_7 := rows_lift xr_6 hb8
      have xg_7 := ints_lift xg_6 hb8
      have hB7 : Below w.heap.size w w7 := hB6.trans (hb8.mono hB6.size)
      clear hB6 xr_6 xg_6
      clear hb8
      obtain ⟨tv, htv⟩ : ∃ tv, triedRes rows = tv := ⟨_, rfl⟩
      rw [htv] at HTR ⊢
      clear htv
      have hnn0 : ¬ sv < 0 := by omega
      rcases HTR.out with rfl | rfl
      · go_wp2_with fail
        refine (different_any _ a3 l3 c3 (ruleRes rows) w7 xg_7 hc3).mono ?_
        rintro e w8 ⟨rfl, dd⟩
        have xr_8 := rows_lift xr_7 (dd.below _)
        have xg_8 := ints_lift xg_7 (dd.below _)
        have hB8 : Below w.heap.size w w8 := hB7.trans (dd.below w.heap.size)
        clear hB7 xr_7 xg_7
        clear dd
        rw [HDF2.out]
        go_wp2_with fail
        go_ret
        exact ⟨rfl, hB8⟩
      · go_wp2_with fail
        refine (different_any _ a3 l3 c3 (ruleRes rows) w7 xg_7 hc3).mono ?_
        rintro e w8 ⟨rfl, dd⟩
        have xr_8 := rows_lift xr_7 (dd.below _)
        have xg_8 := ints_lift xg_7 (dd.below _)
        have hB8 : Below w.heap.size w w8 := hB7.trans (dd.below w.heap.size)
        clear hB7 xr_7 xg_7
        clear dd
        rw [HDF2.out]
        go_wp2_with fail
        go_ret
        exact ⟨rfl, hB8⟩
  · go_enter Try.func3, Try.ntmps3
    go_wp2
    go_ret
    exact ⟨rfl, Below.refl _ _⟩
end Go.Proofs.Ytcikgbkehfepdac
