/- The law FnStockByShare returns true at every code, and the code reads behind the call as it read before. No condition. -/
import Derived.Test.YtkjmpkincaainabRows
import Derived.WalkKit
import Derived.LoopTactic
import Derived.Outline
import Derived.WalkSpells
import Derived.WalkLawsBesides
import Derived.ProofKit
import Derived.Deep.QuietTactic
import Derived.BigQuiet
import Derived.IntWalk
import Derived.Test.YtkjmpkincaainabLib
import Derived.Test.YtkjmpkincaainabRd
import Derived.Test.YtkjmpkincaainabEx
import Derived.Test.YtkjmpkincaainabGen
import Derived.Test.YtkjmpkincaainabArr
import Derived.Test.YtkjmpkincaainabOwn1
import Derived.Test.YtkjmpkincaainabLaws
import Derived.Test.YtkjmpkincaainabResC
import Derived.Test.YtkjmpkincaainabNetM
import Derived.Test.YtkjmpkincaainabStockM
import Derived.Test.YtkjmpkincaainabStockT
import Derived.Test.YtkjmpkincaainabStockS
import Derived.Test.YtkjmpkincaainabStockXs
import Derived.Test.YtkjmpkincaainabDrawStock
namespace Go.Proofs.Ytkjmpkincaainab
open Go.RowKit Go.WideShapes

set_option maxRecDepth 100000 in
set_option maxHeartbeats 2000000 in
theorem fnStockByShare_any (a : Option Addr) (len cap : Nat) (w : World) (hb : BytesAt w w.heap.size a len) (hl : len ≤ cap) (hs : len ≤ 9223372036854775807) :
    Calls Try.prog 6 #[.slice a len cap] w (LawPost w) := by
  by_cases h20 : len ≤ 1048576
  · go_enter Try.func6, Try.ntmps6
    have hB0 := Below.refl w.heap.size w
    go_wp2_with fail
    refine (dDrawStockByShare_any a len cap w hb hl hs).mono ?_
    rintro e w1 ⟨a1, l1, c1, xs, o, u, rfl, n_v, hc1, hl1, ho0, ho1, hu0, hu1, hb1⟩
    have hB1 : Below w.heap.size w w1 := hB0.trans (hb1.mono hB0.size)
    clear hB0
    have xv_1 := n_v
    clear n_v
    clear hb hb1
    go_wp2_with fail
    refine (stockByShare_impl a1 l1 c1 xs o u w1 xv_1).mono ?_
    rintro e w2 ⟨rfl, hb2⟩
    have xv_2 := ints_lift xv_1 hb2
    have hB2 : Below w.heap.size w w2 := hB1.trans (hb2.mono hB1.size)
    clear hB1 xv_1
    clear hb2
    obtain ⟨c, hc⟩ : ∃ c, shareRes xs o u = c := ⟨_, rfl⟩
    rw [hc]
    have HC := Lib.hid hc
    have hbd := shareRes_bd xs o u
    rw [hc] at hbd
    have hne : (c != c) = false := by simp
    have heq : (c == c) = true := by simp
    clear hc
    go_wp2_with fail
    refine (stockByShare_spec (· < w2.heap.size) a1 l1 c1 xs o u w2 xv_2).mono ?_
    rintro e w' ⟨rfl, rfl⟩
    rw [HC.out]
    by_cases hc0 : c < 0
    · go_wp2_with fail
      refine (stockByShare_spec (· < w2.heap.size) a1 l1 c1 xs o u w2 xv_2).mono ?_
      rintro e w' ⟨rfl, rfl⟩
      rw [HC.out]
      go_wp2_with fail
      go_ret
      exact ⟨rfl, hB2⟩
    · have hh := share_dear (xs := xs) (o := o) (u := u) (by rw [HC.out]; omega)
      rw [HC.out, xv_2.lenEq] at hh
      have HH := Lib.hid hh
      have hcl : c < (l1 : Int) := hh.2.2
      clear hh
      have m1 := shareRes_bd xs o (u + 1)
      have m2 := shareRes_bd xs (o + 1) u
      go_wp2_with fail
      refine (stockByShare_impl a1 l1 c1 xs o (u + 1) w2 xv_2).mono ?_
      rintro e w3 ⟨rfl, hb4⟩
      have xv_3 := ints_lift xv_2 hb4
      have hB3 : Below w.heap.size w w3 := hB2.trans (hb4.mono hB2.size)
      clear hB2 xv_2
      clear hb4
      obtain ⟨p, hp⟩ : ∃ p, shareRes xs o (u + 1) = p := ⟨_, rfl⟩
      rw [hp] at m1 HH ⊢
      clear hp
      go_wp2_with fail
      refine (stockByShare_impl a1 l1 c1 xs (o + 1) u w3 xv_3).mono ?_
      rintro e w4 ⟨rfl, hb5⟩
      have xv_4 := ints_lift xv_3 hb5
      have hB4 : Below w.heap.size w w4 := hB3.trans (hb5.mono hB3.size)
      clear hB3 xv_3
      clear hb5
      obtain ⟨q, hq⟩ : ∃ q, shareRes xs (o + 1) u = q := ⟨_, rfl⟩
      rw [hq] at m2 HH ⊢
      clear hq
      by_cases hp : p < 0
      · by_cases hq : q < 0
        · go_wp2_with fail
          go_ret
          exact ⟨rfl, hB4⟩
        · have hle : q ≤ c := by have := HH.out; omega
          go_wp2_with fail
          go_ret
          exact ⟨rfl, hB4⟩
      · have hge : c ≤ p := by have := HH.out; omega
        by_cases hq : q < 0
        · go_wp2_with fail
          go_ret
          exact ⟨rfl, hB4⟩
        · have hle : q ≤ c := by have := HH.out; omega
          go_wp2_with fail
          go_ret
          exact ⟨rfl, hB4⟩
  · go_enter Try.func6, Try.ntmps6
    go_wp2
    go_ret
    exact ⟨rfl, Below.refl _ _⟩
end Go.Proofs.Ytkjmpkincaainab
