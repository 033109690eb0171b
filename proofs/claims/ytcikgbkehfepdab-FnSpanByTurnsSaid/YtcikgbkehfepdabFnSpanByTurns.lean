/- The law FnSpanByTurns returns true at every code, and the code reads behind the call as it read before. No condition. -/
import Derived.Test.YtcikgbkehfepdabRows
import Derived.WalkKit
import Derived.LoopTactic
import Derived.Outline
import Derived.WalkSpells
import Derived.WalkLawsBesides
import Derived.ProofKit
import Derived.Deep.QuietTactic
import Derived.BigQuiet
import Derived.IntWalk
import Derived.Test.YtcikgbkehfepdabM0
import Derived.Test.YtcikgbkehfepdabM1
import Derived.Test.YtcikgbkehfepdabM2
import Derived.Test.YtcikgbkehfepdabM6
import Derived.Test.YtcikgbkehfepdabM7
import Derived.Test.YtcikgbkehfepdabM8
import Derived.Test.YtcikgbkehfepdabM12
namespace Go.Proofs.Ytcikgbkehfepdab
open Go.RowKit Go.WideShapes

set_option maxRecDepth 100000 in
set_option maxHeartbeats 2000000 in
theorem fnSpanByTurns_any (a : Option Addr) (len cap : Nat) (w : World) (hb : BytesAt w w.heap.size a len) (hl : len ≤ cap) (hs : len ≤ 9223372036854775807) :
    Calls Try.prog 3 #[.slice a len cap] w (LawPost w) := by
  by_cases h20 : len ≤ 1048576
  · go_enter Try.func3, Try.ntmps3
    have hB0 := Below.refl w.heap.size w
    go_wp2_with fail
    refine (drawSpanByTurns_any a len cap w hb hl hs).mono ?_
    rintro e w1 ⟨a1, l1, c1, rows, a2, l2, c2, o, rfl, n_r, hc1, hl1, n_o, hc2, hl2, hob, hb1⟩
    have hB1 : Below w.heap.size w w1 := hB0.trans (hb1.mono hB0.size)
    clear hB0
    have xr_1 := n_r
    have xo_1 := n_o
    clear n_r
    clear n_o
    clear hb hb1 hob
    have hl2' : l2 ≤ 8 := by omega
    clear hl2
    go_wp2_with fail
    refine (turns_impl a1 l1 c1 rows a2 l2 c2 o w1 xr_1 xo_1 hc1 hc2).mono ?_
    rintro e w2 ⟨rfl, hb2⟩
    have xr_2 := rows_lift xr_1 hb2
    have xo_2 := ints_lift xo_1 hb2
    have hB2 : Below w.heap.size w w2 := hB1.trans (hb2.mono hB1.size)
    clear hB1 xr_1 xo_1
    clear hb2
    go_wp2_with fail
    refine (turns_specV a1 l1 c1 rows a2 l2 c2 o w2 xr_2 xo_2).mono ?_
    rintro e w3 ⟨rfl, hb3⟩
    have xr_3 := rows_lift xr_2 hb3
    have xo_3 := ints_lift xo_2 hb3
    have hB3 : Below w.heap.size w w3 := hB2.trans (hb3.mono hB2.size)
    clear hB2 xr_2 xo_2
    clear hb3
    cases hv : spanFine rows o
    · rw [spanRes_no hv]
      go_wp2_with fail
      refine (turns_specV a1 l1 c1 rows a2 l2 c2 o w3 xr_3 xo_3).mono ?_
      rintro e w4 ⟨rfl, hb4⟩
      have xr_4 := rows_lift xr_3 hb4
      have xo_4 := ints_lift xo_3 hb4
      have hB4 : Below w.heap.size w w4 := hB3.trans (hb4.mono hB3.size)
      clear hB3 xr_3 xo_3
      clear hb4
      rw [spanRes_no hv]
      go_wp2_with fail
      go_ret
      exact ⟨rfl, hB4⟩
    · have hnn := spanRes_nn hv
      have hp := (spanFine_get hv).1
      have HBT := Lib.hid (span_between hv)
      have HP := Lib.hid (pairs_get hp).2
      have HBX := Lib.hid (sum_box hp)
      have HLN := Lib.hid (xr_3.lenEq)
      clear hv hp
      obtain ⟨sv, hsv⟩ : ∃ sv, spanRes rows o = sv := ⟨_, rfl⟩
      have HS := Lib.hid hsv
      rw [hsv] at HBT hnn ⊢
      clear hsv
      have hn0 : ¬ sv < 0 := by omega
      go_wp2_with fail
      go_loop [6, 7, 8] (fun av bv iv => ∃ i : Nat, i ≤ l1 ∧ iv = .int .i64 i ∧ av = .int .i64 (sumL (ta rows) (List.range i)) ∧ bv = .int .i64 (sumL (tb rows) (List.range i))) (fun _ _ iv => l1 - (intOf iv).toNat)
      case atStart => exact ⟨0, Nat.zero_le _, rfl, rfl, rfl⟩
      case round =>
        obtain ⟨i, hi, rfl, rfl, rfl⟩ := hrel
        have hbx := HBX.out i
        by_cases hlt : i < l1
        · obtain ⟨b, off, r, a3, l3, c3, rfl, hr, hcr, _, hri⟩ := xr_3.get hlt
          obtain ⟨hr2, hra, hrb⟩ := HP.out r (List.mem_of_getElem? hr)
          have hl3 : l3 = 2 := by rw [← hri.lenEq, hr2]
          subst hl3
          obtain ⟨b3, off3, x3, rfl, h3, hc3⟩ := hri.get (k := 0) (by omega)
          obtain ⟨b4, off4, x4, e4, h4, hc4⟩ := hri.get (k := 1) (by omega)
          cases e4
          rw [Nat.add_zero] at hc3
          rw [getD_of h3] at hra
          rw [getD_of h4] at hrb
          have ht := t_at hr
          rw [getD_of h3, getD_of h4] at ht
          have HA := Lib.hid (show sumL (ta rows) (List.range (i + 1)) = sumL (ta rows) (List.range i) + x3 by rw [sum_range, ht.1])
          have HB2 := Lib.hid (show sumL (tb rows) (List.range (i + 1)) = sumL (tb rows) (List.range i) + x4 by rw [sum_range, ht.2])
          have hil : (i : Int) < (l1 : Int) := by omega
          clear hr hr2 h3 h4 ht
          generalize sumL (ta rows) (List.range i) = va at *
          generalize sumL (tb rows) (List.range i) = vb at *
          go_wp2_with fail
          go_round
          case rel => exact ⟨i + 1, by omega, by go_num, by rw [HA.out], by rw [HB2.out]⟩
          case measure => simp [intOf] <;> omega
        · have hil : i = l1 := by omega
          have hbt := HBT.out
          rw [HLN.out, ← hil] at hbt
          have hil2 : ¬ (i : Int) < (l1 : Int) := by omega
          clear hil
          generalize sumL (ta rows) (List.range i) = va at *
          generalize sumL (tb rows) (List.range i) = vb at *
          have g1 : va ≤ sv := hbt.1
          have g2 : vb ≤ sv := hbt.2.1
          have g3 : sv ≤ va + vb := hbt.2.2
          have wv : IntKind.i64.wrap (va + vb) = va + vb := IntWalk.i64_in _ (by omega)
          go_wp2_with fail
          refine (spanOf_impl a1 l1 c1 rows a2 l2 c2 o w3 xr_3 xo_3 hc1 hc2).mono ?_
          rintro e w4 ⟨rfl, hb5⟩
          have xr_4 := rows_lift xr_3 hb5
          have xo_4 := ints_lift xo_3 hb5
          have hB4 : Below w.heap.size w w4 := hB3.trans (hb5.mono hB3.size)
          clear hB3 xr_3 xo_3
          clear hb5
          rw [HS.out]
          go_wp2_with fail
          go_ret
          exact ⟨rfl, hB4⟩
  · go_enter Try.func3, Try.ntmps3
    go_wp2
    go_ret
    exact ⟨rfl, Below.refl _ _⟩
end Go.Proofs.Ytcikgbkehfepdab
