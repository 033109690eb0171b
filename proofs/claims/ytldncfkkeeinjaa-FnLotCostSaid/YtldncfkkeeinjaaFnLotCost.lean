/- The law FnLotCost returns true at every code, and the code reads behind the call as it read before. No condition. -/
import Derived.Test.YtldncfkkeeinjaaRows
import Derived.WalkKit
import Derived.LoopTactic
import Derived.Outline
import Derived.WalkSpells
import Derived.WalkLawsBesides
import Derived.ProofKit
import Derived.Deep.QuietTactic
import Derived.BigQuiet
import Derived.IntWalk
import Derived.Test.YtldncfkkeeinjaaLib
import Derived.Test.YtldncfkkeeinjaaRd
import Derived.Test.YtldncfkkeeinjaaEx
import Derived.Test.YtldncfkkeeinjaaLaws
import Derived.Test.YtldncfkkeeinjaaNetM
import Derived.Test.YtldncfkkeeinjaaVal2
import Derived.Test.YtldncfkkeeinjaaLots
import Derived.Test.YtldncfkkeeinjaaStocks
import Derived.Test.YtldncfkkeeinjaaResC
import Derived.Test.YtldncfkkeeinjaaPlanM
import Derived.Test.YtldncfkkeeinjaaBlockM
import Derived.Test.YtldncfkkeeinjaaTriedM
import Derived.Test.YtldncfkkeeinjaaPrefM
import Derived.Test.YtldncfkkeeinjaaLotSpec
import Derived.Test.YtldncfkkeeinjaaLotLawM
import Derived.Test.YtldncfkkeeinjaaLotImpl
import Derived.Test.YtldncfkkeeinjaaDrawLot
namespace Go.Proofs.Ytldncfkkeeinjaa
open Go.RowKit Go.WideShapes

set_option maxRecDepth 100000 in
set_option maxHeartbeats 2000000 in
theorem fnLotCost_any (a : Option Addr) (len cap : Nat) (w : World) (hb : BytesAt w w.heap.size a len) (hl : len ≤ cap) (hs : len ≤ 9223372036854775807) :
    Calls Try.prog 3 #[.slice a len cap] w (LawPost w) := by
  by_cases h20 : len ≤ 1048576
  · go_enter Try.func3, Try.ntmps3
    have hB0 := Below.refl w.heap.size w
    go_wp2_with fail
    refine (drawLotCost_any a len cap w hb hl hs).mono ?_
    rintro e w1 ⟨a1, l1, c1, ms, a2, l2, c2, xs, s, h, rfl, n_m, hc1, n_v, hc2, hl1, hl2, hs0, hs1, hh0, hh1, hb1⟩
    have hB1 : Below w.heap.size w w1 := hB0.trans (hb1.mono hB0.size)
    clear hB0
    have xm_1 := n_m
    have xv_1 := n_v
    clear n_m
    clear n_v
    clear hb
    go_wp2_with fail
    refine (lotCost_impl a1 l1 c1 ms a2 l2 c2 xs s h w1 xm_1 xv_1).mono ?_
    rintro e w2 ⟨rfl, hb2⟩
    have xm_2 := ints_lift xm_1 hb2
    have xv_2 := ints_lift xv_1 hb2
    have hB2 : Below w.heap.size w w2 := hB1.trans (hb2.mono hB1.size)
    clear hB1 xm_1 xv_1
    go_wp2_with fail
    refine (lotCost_spec a1 l1 c1 ms a2 l2 c2 xs s h w2 xm_2 xv_2).mono ?_
    rintro e w3 ⟨rfl, hb3⟩
    have xm_3 := ints_lift xm_2 hb3
    have xv_3 := ints_lift xv_2 hb3
    have hB3 : Below w.heap.size w w3 := hB2.trans (hb3.mono hB2.size)
    clear hB2 xm_2 xv_2
    clear hb1 hb2 hb3
    cases hf : lotFine ms xs s h
    · rw [lotCost_no hf]
      go_wp2_with fail
      go_ret
      exact ⟨rfl, hB3⟩
    · obtain ⟨f1, f2, f3⟩ := fine_zero hf
      have F1 := Lib.hid f1
      have F2 := Lib.hid f2
      have F3 := Lib.hid f3
      have hle := fine_least hf
      have hcb := lotCost_bd hf
      have hb1 := lotCost_bd f1
      have hb2 := lotCost_bd f2
      have hlb := leastRes_bd (fine_get hf).1
      clear f1 f2 f3 hf
      generalize hC : lotCostM ms xs s h = C at hle hcb F3 ⊢
      generalize hL : leastRes xs s h = L at hle hlb
      have HL := Lib.hid hL
      have heq : (C != C) = false := by simp
      clear hC hL
      go_wp2_with fail
      refine (lotCost_impl a1 l1 c1 ms a2 l2 c2 xs s 0 w3 xm_3 xv_3).mono ?_
      rintro e w4 ⟨rfl, hb4⟩
      have xm_4 := ints_lift xm_3 hb4
      have xv_4 := ints_lift xv_3 hb4
      have hB4 : Below w.heap.size w w4 := hB3.trans (hb4.mono hB3.size)
      clear hB3 xm_3 xv_3
      rw [F1.out]
      generalize lotCostM ms xs s 0 = A at hb1 F3 ⊢
      go_wp2_with fail
      refine (lotCost_impl a1 l1 c1 ms a2 l2 c2 xs 0 h w4 xm_4 xv_4).mono ?_
      rintro e w5 ⟨rfl, hb5⟩
      have xm_5 := ints_lift xm_4 hb5
      have xv_5 := ints_lift xv_4 hb5
      have hB5 : Below w.heap.size w w5 := hB4.trans (hb5.mono hB4.size)
      clear hB4 xm_4 xv_4
      rw [F2.out]
      generalize lotCostM ms xs 0 h = B at hb2 F3 ⊢
      have F3' := F3.out
      subst F3'
      have heq2 : (A + B == A + B) = true := by simp
      clear hb4 hb5 F3
      go_wp2_with fail
      refine (leastLots_impl a2 l2 c2 xs s h w5 xv_5 hc2).mono ?_
      rintro e w6 ⟨rfl, hb6⟩
      have xm_6 := ints_lift xm_5 hb6
      have xv_6 := ints_lift xv_5 hb6
      have hB6 : Below w.heap.size w w6 := hB5.trans (hb6.mono hB5.size)
      clear hB5 xm_5 xv_5
      rw [HL.out]
      go_wp2_with fail
      go_ret
      exact ⟨rfl, hB6⟩
  · go_enter Try.func3, Try.ntmps3
    go_wp2
    go_ret
    exact ⟨rfl, Below.refl _ _⟩
end Go.Proofs.Ytldncfkkeeinjaa
