/- The law FnLeastLots returns true at every code, and the code reads behind the call as it read before. No condition. -/
import Derived.Test.YtldncfkkeeinjaaRows
import Derived.WalkKit
import Derived.LoopTactic
import Derived.Outline
import Derived.WalkSpells
import Derived.WalkLawsBesides
import Derived.ProofKit
import Derived.Deep.QuietTactic
import Derived.BigQuiet
import Derived.IntWalk
import Derived.Test.YtldncfkkeeinjaaLib
import Derived.Test.YtldncfkkeeinjaaRd
import Derived.Test.YtldncfkkeeinjaaEx
import Derived.Test.YtldncfkkeeinjaaLaws
import Derived.Test.YtldncfkkeeinjaaNetM
import Derived.Test.YtldncfkkeeinjaaVal2
import Derived.Test.YtldncfkkeeinjaaLots
import Derived.Test.YtldncfkkeeinjaaStocks
import Derived.Test.YtldncfkkeeinjaaResC
import Derived.Test.YtldncfkkeeinjaaPlanM
import Derived.Test.YtldncfkkeeinjaaBlockM
import Derived.Test.YtldncfkkeeinjaaTriedM
import Derived.Test.YtldncfkkeeinjaaPrefM
import Derived.Test.YtldncfkkeeinjaaLotSpec
import Derived.Test.YtldncfkkeeinjaaLotLawM
import Derived.Test.YtldncfkkeeinjaaLotImpl
import Derived.Test.YtldncfkkeeinjaaDrawLot
namespace Go.Proofs.Ytldncfkkeeinjaa
open Go.RowKit Go.WideShapes

set_option maxRecDepth 100000 in
set_option maxHeartbeats 2000000 in
theorem fnLeastLots_any (a : Option Addr) (len cap : Nat) (w : World) (hb : BytesAt w w.heap.size a len) (hl : len ≤ cap) (hs : len ≤ 9223372036854775807) :
    Calls Try.prog 5 #[.slice a len cap] w (LawPost w) := by
  by_cases h20 : len ≤ 1048576
  · go_enter Try.func5, Try.ntmps5
    have hB0 := Below.refl w.heap.size w
    go_wp2_with fail
    refine (drawLeastLots_any a len cap w hb hl hs).mono ?_
    rintro e w1 ⟨a1, l1, c1, xs, s, h, rfl, n_v, hc1, hl1, hs0, hs1, hh0, hh1, hb1⟩
    have hB1 : Below w.heap.size w w1 := hB0.trans (hb1.mono hB0.size)
    clear hB0
    have xv_1 := n_v
    clear n_v
    clear hb
    go_wp2_with fail
    refine (leastLots_impl a1 l1 c1 xs s h w1 xv_1 hc1).mono ?_
    rintro e w2 ⟨rfl, hb2⟩
    have xv_2 := ints_lift xv_1 hb2
    have hB2 : Below w.heap.size w w2 := hB1.trans (hb2.mono hB1.size)
    clear hB1 xv_1
    go_wp2_with fail
    refine (leastLots_spec a1 l1 c1 xs s h w2 xv_2 hc1).mono ?_
    rintro e w3 ⟨rfl, hb3⟩
    have xv_3 := ints_lift xv_2 hb3
    have hB3 : Below w.heap.size w w3 := hB2.trans (hb3.mono hB2.size)
    clear hB2 xv_2
    clear hb1 hb2 hb3
    cases hv : validLotsM xs s h
    · rw [leastRes_no hv]
      go_wp2_with fail
      refine (leastLots_spec a1 l1 c1 xs s h w3 xv_3 hc1).mono ?_
      rintro e w4 ⟨rfl, hb4⟩
      have xv_4 := ints_lift xv_3 hb4
      have hB4 : Below w.heap.size w w4 := hB3.trans (hb4.mono hB3.size)
      clear hB3 xv_3
      rw [leastRes_no hv]
      go_wp2_with fail
      go_ret
      exact ⟨rfl, hB4⟩
    · have h1 := fine_least (fine_each hv)
      have h2 := fine_least (fine_lots (d := 8) hv)
      have hlb := leastRes_bd hv
      have FE := Lib.hid (fine_each hv)
      have FL := Lib.hid (fine_lots (d := 8) hv)
      have HLR := Lib.hid (lotsRes_yes (xs := xs) (d := 8) (by rw [(validLots_get hv).1]; rfl))
      clear hv
      generalize hL : leastRes xs s h = L at h1 h2 hlb ⊢
      have HL := Lib.hid hL
      clear hL
      have heq : (L != L) = false := by simp
      have heq2 : (L == L) = true := by simp
      go_wp2_with fail
      refine (lotCost_impl a1 l1 c1 xs a1 l1 c1 xs s h w3 xv_3 xv_3).mono ?_
      rintro e w4 ⟨rfl, hb4⟩
      have xv_4 := ints_lift xv_3 hb4
      have hB4 : Below w.heap.size w w4 := hB3.trans (hb4.mono hB3.size)
      clear hB3 xv_3
      rw [FE.out]
      generalize lotCostM xs xs s h = A at h1 ⊢
      go_wp2_with fail
      refine (lotsFor_impl a1 l1 c1 xs 8 w4 xv_4 hc1).mono ?_
      rintro e w5 ⟨a3, l3, c3, rfl, n_g, _, hb5⟩
      have xv_5 := ints_lift xv_4 hb5
      have hB5 : Below w.heap.size w w5 := hB4.trans (hb5.mono hB4.size)
      clear hB4 xv_4
      have xg_5 := ints_in n_g (Nat.le_refl _)
      clear n_g
      rw [HLR.out] at xg_5
      go_wp2_with fail
      refine (lotCost_impl a3 l3 c3 (lotsM xs 8) a1 l1 c1 xs s h w5 xg_5 xv_5).mono ?_
      rintro e w6 ⟨rfl, hb6⟩
      have xv_6 := ints_lift xv_5 hb6
      have xg_6 := ints_lift xg_5 hb6
      have hB6 : Below w.heap.size w w6 := hB5.trans (hb6.mono hB5.size)
      clear hB5 xv_5 xg_5
      rw [FL.out]
      generalize lotCostM (lotsM xs 8) xs s h = B at h2 ⊢
      go_wp2_with fail
      refine (lotsTried_impl a1 l1 c1 xs s h w6 xv_6 hc1).mono ?_
      rintro e w7 ⟨rfl, hb7⟩
      have xv_7 := ints_lift xv_6 hb7
      have xg_7 := ints_lift xg_6 hb7
      have hB7 : Below w.heap.size w w7 := hB6.trans (hb7.mono hB6.size)
      clear hB6 xv_6 xg_6
      rw [HL.out]
      go_wp2_with fail
      go_ret
      exact ⟨rfl, hB7⟩
  · go_enter Try.func5, Try.ntmps5
    go_wp2
    go_ret
    exact ⟨rfl, Below.refl _ _⟩
end Go.Proofs.Ytldncfkkeeinjaa
