/- The law FnTardyOf returns true at every code, and the code reads behind the call as it read before. No condition. -/
import Derived.Test.YtmcongioghkdcacRows
import Derived.WalkKit
import Derived.LoopTactic
import Derived.Outline
import Derived.WalkSpells
import Derived.WalkLawsBesides
import Derived.ProofKit
import Derived.Deep.QuietTactic
import Derived.BigQuiet
import Derived.IntWalk
import Derived.Test.YtmcongioghkdcacM0
import Derived.Test.YtmcongioghkdcacM1
import Derived.Test.YtmcongioghkdcacM2
import Derived.Test.YtmcongioghkdcacM16
import Derived.Test.YtmcongioghkdcacM17
namespace Go.Proofs.Ytmcongioghkdcac
open Go.RowKit Go.WideShapes

set_option maxRecDepth 100000 in
set_option maxHeartbeats 2000000 in
theorem fnTardyOf_any (a : Option Addr) (len cap : Nat) (w : World) (hb : BytesAt w w.heap.size a len) (hl : len ≤ cap) (hs : len ≤ 9223372036854775807) :
    Calls Try.prog 3 #[.slice a len cap] w (LawPost w) := by
  by_cases h20 : len ≤ 1048576
  · go_enter Try.func3, Try.ntmps3
    have hB0 := Below.refl w.heap.size w
    go_wp2_with fail
    refine (drawTardyOf_any a len cap w hb hl hs).mono ?_
    rintro e w1 ⟨a1, l1, c1, rows, a2, l2, c2, o, rfl, n_r, hc1, hl1, n_o, hc2, hl2, hob, hb1⟩
    have hB1 : Below w.heap.size w w1 := hB0.trans (hb1.mono hB0.size)
    clear hB0
    have xr_1 := n_r
    have xo_1 := n_o
    clear n_r
    clear n_o
    clear hb hb1 hob
    have hl2' : l2 ≤ 8 := by omega
    clear hl2
    go_wp2_with fail
    refine (tardyOf_impl a1 l1 c1 rows a2 l2 c2 o w1 xr_1 xo_1 hc1 hc2).mono ?_
    rintro e w2 ⟨rfl, hb2⟩
    have xr_2 := rows_lift xr_1 hb2
    have xo_2 := ints_lift xo_1 hb2
    have hB2 : Below w.heap.size w w2 := hB1.trans (hb2.mono hB1.size)
    clear hB1 xr_1 xo_1
    clear hb2
    go_wp2_with fail
    refine (tardyOf_spec a1 l1 c1 rows a2 l2 c2 o w2 xr_2 xo_2).mono ?_
    rintro e w3 ⟨rfl, hb3⟩
    have xr_3 := rows_lift xr_2 hb3
    have xo_3 := ints_lift xo_2 hb3
    have hB3 : Below w.heap.size w w3 := hB2.trans (hb3.mono hB2.size)
    clear hB2 xr_2 xo_2
    clear hb3
    cases hv : rowFine rows o
    · rw [tardRes_no hv]
      go_wp2_with fail
      refine (tardyOf_spec a1 l1 c1 rows a2 l2 c2 o w3 xr_3 xo_3).mono ?_
      rintro e w4 ⟨rfl, hb4⟩
      have xr_4 := rows_lift xr_3 hb4
      have xo_4 := ints_lift xo_3 hb4
      have hB4 : Below w.heap.size w w4 := hB3.trans (hb4.mono hB3.size)
      clear hB3 xr_3 xo_3
      clear hb4
      rw [tardRes_no hv]
      go_wp2_with fail
      go_ret
      exact ⟨rfl, hB4⟩
    · have HR := Lib.hid (lt_tard hv)
      have hnn := (tardRes_bd hv).1
      have HZ := Lib.hid (fun h => late_tard hv h)
      clear hv
      obtain ⟨sv, hsv⟩ : ∃ sv, tardRes rows o = sv := ⟨_, rfl⟩
      rw [hsv] at HR hnn HZ ⊢
      clear hsv
      have hn0 : ¬ sv < 0 := by omega
      go_wp2_with fail
      refine (leastTardy_impl a1 l1 c1 rows w3 xr_3 hc1).mono ?_
      rintro e w4 ⟨rfl, hb5⟩
      have xr_4 := rows_lift xr_3 hb5
      have xo_4 := ints_lift xo_3 hb5
      have hB4 : Below w.heap.size w w4 := hB3.trans (hb5.mono hB3.size)
      clear hB3 xr_3 xo_3
      clear hb5
      have hlv := HR.out
      generalize ltRes rows = lv at *
      go_wp2_with fail
      refine (lateOf_impl a1 l1 c1 rows a2 l2 c2 o w4 xr_4 xo_4 hc1 hc2).mono ?_
      rintro e w5 ⟨rfl, hb6⟩
      have xr_5 := rows_lift xr_4 hb6
      have xo_5 := ints_lift xo_4 hb6
      have hB5 : Below w.heap.size w w5 := hB4.trans (hb6.mono hB4.size)
      clear hB4 xr_4 xo_4
      clear hb6
      have hzz := HZ.out
      generalize lateRes rows o = tv at *
      by_cases hz : 0 < tv
      · clear hzz
        go_wp2_with fail
        go_ret
        exact ⟨rfl, hB5⟩
      · obtain rfl : sv = 0 := hzz (by omega)
        clear hzz
        go_wp2_with fail
        go_ret
        exact ⟨rfl, hB5⟩
  · go_enter Try.func3, Try.ntmps3
    go_wp2
    go_ret
    exact ⟨rfl, Below.refl _ _⟩
end Go.Proofs.Ytmcongioghkdcac
