/- The law FnSpanOf returns true at every code, and the code reads behind the call as it read before. No condition. -/
import Derived.Test.YtcikgbkehfepdaaRows
import Derived.WalkKit
import Derived.LoopTactic
import Derived.Outline
import Derived.WalkSpells
import Derived.WalkLawsBesides
import Derived.ProofKit
import Derived.Deep.QuietTactic
import Derived.BigQuiet
import Derived.IntWalk
import Derived.Test.YtcikgbkehfepdaaM0
import Derived.Test.YtcikgbkehfepdaaM1
import Derived.Test.YtcikgbkehfepdaaM2
import Derived.Test.YtcikgbkehfepdaaM6
import Derived.Test.YtcikgbkehfepdaaM7
import Derived.Test.YtcikgbkehfepdaaM8
import Derived.Test.YtcikgbkehfepdaaM11
namespace Go.Proofs.Ytcikgbkehfepdaa
open Go.RowKit Go.WideShapes

set_option maxRecDepth 100000 in
set_option maxHeartbeats 2000000 in
theorem fnSpanOf_any (a : Option Addr) (len cap : Nat) (w : World) (hb : BytesAt w w.heap.size a len) (hl : len ≤ cap) (hs : len ≤ 9223372036854775807) :
    Calls Try.prog 5 #[.slice a len cap] w (LawPost w) := by
  by_cases h20 : len ≤ 1048576
  · go_enter Try.func5, Try.ntmps5
    have hB0 := Below.refl w.heap.size w
    go_wp2_with fail
    refine (drawSpanOf_any a len cap w hb hl hs).mono ?_
    rintro e w1 ⟨a1, l1, c1, rows, a2, l2, c2, o, rfl, n_r, hc1, hl1, n_o, hc2, hl2, hob, hb1⟩
    have hB1 : Below w.heap.size w w1 := hB0.trans (hb1.mono hB0.size)
    clear hB0
    have xr_1 := n_r
    have xo_1 := n_o
    clear n_r
    clear n_o
    clear hb hb1 hob
    have hl2' : l2 ≤ 8 := by omega
    clear hl2
    go_wp2_with fail
    refine (spanOf_impl a1 l1 c1 rows a2 l2 c2 o w1 xr_1 xo_1 hc1 hc2).mono ?_
    rintro e w2 ⟨rfl, hb2⟩
    have xr_2 := rows_lift xr_1 hb2
    have xo_2 := ints_lift xo_1 hb2
    have hB2 : Below w.heap.size w w2 := hB1.trans (hb2.mono hB1.size)
    clear hB1 xr_1 xo_1
    clear hb2
    go_wp2_with fail
    refine (spanOf_specV a1 l1 c1 rows a2 l2 c2 o w2 xr_2 xo_2).mono ?_
    rintro e w3 ⟨rfl, hb3⟩
    have xr_3 := rows_lift xr_2 hb3
    have xo_3 := ints_lift xo_2 hb3
    have hB3 : Below w.heap.size w w3 := hB2.trans (hb3.mono hB2.size)
    clear hB2 xr_2 xo_2
    clear hb3
    cases hv : spanFine rows o
    · rw [spanRes_no hv]
      go_wp2_with fail
      refine (spanOf_specV a1 l1 c1 rows a2 l2 c2 o w3 xr_3 xo_3).mono ?_
      rintro e w4 ⟨rfl, hb4⟩
      have xr_4 := rows_lift xr_3 hb4
      have xo_4 := ints_lift xo_3 hb4
      have hB4 : Below w.heap.size w w4 := hB3.trans (hb4.mono hB3.size)
      clear hB3 xr_3 xo_3
      clear hb4
      rw [spanRes_no hv]
      go_wp2_with fail
      go_ret
      exact ⟨rfl, hB4⟩
    · have HT := Lib.hid (span_turns hv)
      have hnn := spanRes_nn hv
      have hp := (spanFine_get hv).1
      clear hv
      obtain ⟨sv, hsv⟩ : ∃ sv, spanRes rows o = sv := ⟨_, rfl⟩
      have HS := Lib.hid hsv
      rw [hsv] at HT hnn ⊢
      clear hsv
      have hn0 : ¬ sv < 0 := by omega
      go_wp2_with fail
      refine (turns_impl a1 l1 c1 rows a2 l2 c2 o w3 xr_3 xo_3 hc1 hc2).mono ?_
      rintro e w4 ⟨rfl, hb5⟩
      have xr_4 := rows_lift xr_3 hb5
      have xo_4 := ints_lift xo_3 hb5
      have hB4 : Below w.heap.size w w4 := hB3.trans (hb5.mono hB3.size)
      clear hB3 xr_3 xo_3
      clear hb5
      rw [HS.out]
      go_wp2_with fail
      refine (turnedPairs_any a1 l1 c1 rows w4 xr_4 hp).mono ?_
      rintro e w5 ⟨a3, c3, rfl, hc3, n_t, hb6⟩
      have xr_5 := rows_lift xr_4 hb6
      have xo_5 := ints_lift xo_4 hb6
      have hB5 : Below w.heap.size w w5 := hB4.trans (hb6.mono hB4.size)
      clear hB4 xr_4 xo_4
      have xt_5 := rows_in n_t (Nat.le_refl _)
      clear n_t
      clear hb6
      go_wp2_with fail
      refine (backwards_any a2 l2 c2 o w5 xo_5 (by omega)).mono ?_
      rintro e w6 ⟨a4, l4, c4, rfl, hl4, ho4, hb7⟩
      have xr_6 := rows_lift xr_5 hb7
      have xo_6 := ints_lift xo_5 hb7
      have xt_6 := rows_lift xt_5 hb7
      have hB6 : Below w.heap.size w w6 := hB5.trans (hb7.mono hB5.size)
      clear hB5 xr_5 xo_5 xt_5
      obtain ⟨a5, c5, e5, hc5, n_b⟩ := own_ints ho4 hl4
      injection e5 with e6 _ e7
      subst e6 e7
      have x_b := ints_in n_b (Nat.le_refl _)
      clear ho4 hb7 n_b
      have xb_6 := x_b
      clear x_b
      go_wp2_with fail
      refine (spanOf_impl a3 l1 c3 (turnP rows) a4 l4 c4 (revM o) w6 xt_6 xb_6 hc3 hc5).mono ?_
      rintro e w7 ⟨rfl, hb8⟩
      have xr_7 := rows_lift xr_6 hb8
      have xo_7 := ints_lift xo_6 hb8
      have xt_7 := rows_lift xt_6 hb8
      have xb_7 := ints_lift xb_6 hb8
      have hB7 : Below w.heap.size w w7 := hB6.trans (hb8.mono hB6.size)
      clear hB6 xr_6 xo_6 xt_6 xb_6
      clear hb8
      rw [HT.out]
      go_wp2_with fail
      go_ret
      exact ⟨rfl, hB7⟩
  · go_enter Try.func5, Try.ntmps5
    go_wp2
    go_ret
    exact ⟨rfl, Below.refl _ _⟩
end Go.Proofs.Ytcikgbkehfepdaa
