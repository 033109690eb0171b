/- The law FnStockCost returns true at every code, and the code reads behind the call as it read before. No condition. -/
import Derived.Test.YtkjmpkincaainaaRows
import Derived.WalkKit
import Derived.LoopTactic
import Derived.Outline
import Derived.WalkSpells
import Derived.WalkLawsBesides
import Derived.ProofKit
import Derived.Deep.QuietTactic
import Derived.BigQuiet
import Derived.IntWalk
import Derived.Test.YtkjmpkincaainaaLib
import Derived.Test.YtkjmpkincaainaaRd
import Derived.Test.YtkjmpkincaainaaEx
import Derived.Test.YtkjmpkincaainaaGen
import Derived.Test.YtkjmpkincaainaaArr
import Derived.Test.YtkjmpkincaainaaOwn1
import Derived.Test.YtkjmpkincaainaaLaws
import Derived.Test.YtkjmpkincaainaaResC
import Derived.Test.YtkjmpkincaainaaNetM
import Derived.Test.YtkjmpkincaainaaStockM
import Derived.Test.YtkjmpkincaainaaStockT
import Derived.Test.YtkjmpkincaainaaStockS
import Derived.Test.YtkjmpkincaainaaStockXs
import Derived.Test.YtkjmpkincaainaaDrawStock
namespace Go.Proofs.Ytkjmpkincaainaa
open Go.RowKit Go.WideShapes

set_option maxRecDepth 100000 in
set_option maxHeartbeats 2000000 in
theorem fnStockCost_any (a : Option Addr) (len cap : Nat) (w : World) (hb : BytesAt w w.heap.size a len) (hl : len ≤ cap) (hs : len ≤ 9223372036854775807) :
    Calls Try.prog 5 #[.slice a len cap] w (LawPost w) := by
  by_cases h20 : len ≤ 1048576
  · go_enter Try.func5, Try.ntmps5
    have hB0 := Below.refl w.heap.size w
    go_wp2_with fail
    refine (dDrawStockCost_any a len cap w hb hl hs).mono ?_
    rintro e w1 ⟨a1, l1, c1, xs, s, o, u, rfl, n_v, hc1, hl1, hs0, hs1, ho0, ho1, hu0, hu1, hb1⟩
    have hB1 : Below w.heap.size w w1 := hB0.trans (hb1.mono hB0.size)
    clear hB0
    have xv_1 := n_v
    clear n_v
    clear hb hb1
    go_wp2_with fail
    refine (stockCost_impl a1 l1 c1 xs s o u w1 xv_1).mono ?_
    rintro e w2 ⟨rfl, hb2⟩
    have xv_2 := ints_lift xv_1 hb2
    have hB2 : Below w.heap.size w w2 := hB1.trans (hb2.mono hB1.size)
    clear hB1 xv_1
    clear hb2
    obtain ⟨c, hc⟩ : ∃ c, stockRes xs s o u = c := ⟨_, rfl⟩
    rw [hc]
    have HC := Lib.hid hc
    have hbd := stockRes_bd xs s o u
    rw [hc] at hbd
    have hne : (c != c) = false := by simp
    have heq : (c == c) = true := by simp
    clear hc
    go_wp2_with fail
    refine (stockCost_spec (· < w2.heap.size) a1 l1 c1 xs s o u w2 xv_2).mono ?_
    rintro e w' ⟨rfl, rfl⟩
    rw [HC.out]
    by_cases hc0 : c < 0
    · go_wp2_with fail
      refine (stockCost_spec (· < w2.heap.size) a1 l1 c1 xs s o u w2 xv_2).mono ?_
      rintro e w' ⟨rfl, rfl⟩
      rw [HC.out]
      go_wp2_with fail
      go_ret
      exact ⟨rfl, hB2⟩
    · have HH := Lib.hid (stock_hump (xs := xs) (s := s) (o := o) (u := u) (by rw [HC.out]; omega))
      rw [HC.out] at HH
      have m1 := stockRes_bd xs (s + 1) o u
      have m2 := stockRes_bd xs (s - 1) o u
      go_wp2_with fail
      refine (stockCost_impl a1 l1 c1 xs (s + 1) o u w2 xv_2).mono ?_
      rintro e w3 ⟨rfl, hb4⟩
      have xv_3 := ints_lift xv_2 hb4
      have hB3 : Below w.heap.size w w3 := hB2.trans (hb4.mono hB2.size)
      clear hB2 xv_2
      clear hb4
      obtain ⟨p, hp⟩ : ∃ p, stockRes xs (s + 1) o u = p := ⟨_, rfl⟩
      rw [hp] at m1 HH ⊢
      clear hp
      go_wp2_with fail
      refine (stockCost_impl a1 l1 c1 xs (s - 1) o u w3 xv_3).mono ?_
      rintro e w4 ⟨rfl, hb5⟩
      have xv_4 := ints_lift xv_3 hb5
      have hB4 : Below w.heap.size w w4 := hB3.trans (hb5.mono hB3.size)
      clear hB3 xv_3
      clear hb5
      obtain ⟨q, hq⟩ : ∃ q, stockRes xs (s - 1) o u = q := ⟨_, rfl⟩
      rw [hq] at m2 HH ⊢
      clear hq
      by_cases hp : p < 0
      · go_wp2_with fail
        go_ret
        exact ⟨rfl, hB4⟩
      · by_cases hq : q < 0
        · go_wp2_with fail
          go_ret
          exact ⟨rfl, hB4⟩
        · have hge : 2 * c ≤ p + q := by have := HH.out; omega
          go_wp2_with fail
          go_ret
          exact ⟨rfl, hB4⟩
  · go_enter Try.func5, Try.ntmps5
    go_wp2
    go_ret
    exact ⟨rfl, Below.refl _ _⟩
end Go.Proofs.Ytkjmpkincaainaa
