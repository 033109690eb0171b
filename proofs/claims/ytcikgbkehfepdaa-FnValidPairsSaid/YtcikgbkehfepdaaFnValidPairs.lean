/- The law FnValidPairs returns true at every code, and the code reads behind the call as it read before. No condition. -/
import Derived.Test.YtcikgbkehfepdaaRows
import Derived.WalkKit
import Derived.LoopTactic
import Derived.Outline
import Derived.WalkSpells
import Derived.WalkLawsBesides
import Derived.ProofKit
import Derived.Deep.QuietTactic
import Derived.BigQuiet
import Derived.IntWalk
import Derived.Test.YtcikgbkehfepdaaM0
import Derived.Test.YtcikgbkehfepdaaM1
import Derived.Test.YtcikgbkehfepdaaM2
import Derived.Test.YtcikgbkehfepdaaM6
import Derived.Test.YtcikgbkehfepdaaM7
import Derived.Test.YtcikgbkehfepdaaM8
import Derived.Test.YtcikgbkehfepdaaM11
namespace Go.Proofs.Ytcikgbkehfepdaa
open Go.RowKit Go.WideShapes

set_option maxRecDepth 100000 in
set_option maxHeartbeats 2000000 in
theorem fnValidPairs_any (a : Option Addr) (len cap : Nat) (w : World) (hb : BytesAt w w.heap.size a len) (hl : len ≤ cap) (hs : len ≤ 9223372036854775807) :
    Calls Try.prog 3 #[.slice a len cap] w (LawPost w) := by
  by_cases h20 : len ≤ 1048576
  · go_enter Try.func3, Try.ntmps3
    have hB0 := Below.refl w.heap.size w
    go_wp2_with fail
    refine (drawValidPairs_any a len cap w hb hl hs).mono ?_
    rintro e w1 ⟨a1, l1, c1, rows, rfl, n_r, hc1, hl1, hb1⟩
    have hB1 : Below w.heap.size w w1 := hB0.trans (hb1.mono hB0.size)
    clear hB0
    have xr_1 := n_r
    clear n_r
    clear hb hb1
    go_wp2_with fail
    refine (validPairs_implV a1 l1 c1 rows w1 xr_1 hc1).mono ?_
    rintro e w2 ⟨rfl, hb2⟩
    have xr_2 := rows_lift xr_1 hb2
    have hB2 : Below w.heap.size w w2 := hB1.trans (hb2.mono hB1.size)
    clear hB1 xr_1
    clear hb2
    go_wp2_with fail
    refine (validPairs_specV a1 l1 c1 rows w2 xr_2).mono ?_
    rintro e w3 ⟨rfl, hb3⟩
    have xr_3 := rows_lift xr_2 hb3
    have hB3 : Below w.heap.size w w3 := hB2.trans (hb3.mono hB2.size)
    clear hB2 xr_2
    clear hb3
    cases hv : pairsM rows
    · go_wp2_with fail
      refine (validPairs_specV a1 l1 c1 rows w3 xr_3).mono ?_
      rintro e w4 ⟨rfl, hb4⟩
      have xr_4 := rows_lift xr_3 hb4
      have hB4 : Below w.heap.size w w4 := hB3.trans (hb4.mono hB3.size)
      clear hB3 xr_3
      clear hb4
      rw [hv]
      go_wp2_with fail
      go_ret
      exact ⟨rfl, hB4⟩
    · have HT := Lib.hid (turnP_pairs hv)
      go_wp2_with fail
      refine (turnedPairs_any a1 l1 c1 rows w3 xr_3 hv).mono ?_
      rintro e w4 ⟨a2, c2, rfl, hc2, n_t, hb4⟩
      have xr_4 := rows_lift xr_3 hb4
      have hB4 : Below w.heap.size w w4 := hB3.trans (hb4.mono hB3.size)
      clear hB3 xr_3
      have xt_4 := rows_in n_t (Nat.le_refl _)
      clear n_t
      clear hb4
      go_wp2_with fail
      refine (validPairs_implV a2 l1 c2 (turnP rows) w4 xt_4 hc2).mono ?_
      rintro e w5 ⟨rfl, hb5⟩
      have xr_5 := rows_lift xr_4 hb5
      have xt_5 := rows_lift xt_4 hb5
      have hB5 : Below w.heap.size w w5 := hB4.trans (hb5.mono hB4.size)
      clear hB4 xr_4 xt_4
      clear hb5
      rw [HT.out]
      go_wp2_with fail
      go_ret
      exact ⟨rfl, hB5⟩
  · go_enter Try.func3, Try.ntmps3
    go_wp2
    go_ret
    exact ⟨rfl, Below.refl _ _⟩
end Go.Proofs.Ytcikgbkehfepdaa
