/- The law FnBestStock returns true at every code, and the code reads behind the call as it read before. No condition. -/
import Derived.Test.YtkjmpkincaainabRows
import Derived.WalkKit
import Derived.LoopTactic
import Derived.Outline
import Derived.WalkSpells
import Derived.WalkLawsBesides
import Derived.ProofKit
import Derived.Deep.QuietTactic
import Derived.BigQuiet
import Derived.IntWalk
import Derived.Test.YtkjmpkincaainabLib
import Derived.Test.YtkjmpkincaainabRd
import Derived.Test.YtkjmpkincaainabEx
import Derived.Test.YtkjmpkincaainabGen
import Derived.Test.YtkjmpkincaainabArr
import Derived.Test.YtkjmpkincaainabOwn1
import Derived.Test.YtkjmpkincaainabLaws
import Derived.Test.YtkjmpkincaainabResC
import Derived.Test.YtkjmpkincaainabNetM
import Derived.Test.YtkjmpkincaainabStockM
import Derived.Test.YtkjmpkincaainabStockT
import Derived.Test.YtkjmpkincaainabStockS
import Derived.Test.YtkjmpkincaainabStockXs
import Derived.Test.YtkjmpkincaainabDrawStock
namespace Go.Proofs.Ytkjmpkincaainab
open Go.RowKit Go.WideShapes

set_option maxRecDepth 100000 in
set_option maxHeartbeats 2000000 in
theorem fnBestStock_any (a : Option Addr) (len cap : Nat) (w : World) (hb : BytesAt w w.heap.size a len) (hl : len ≤ cap) (hs : len ≤ 9223372036854775807) :
    Calls Try.prog 4 #[.slice a len cap] w (LawPost w) := by
  by_cases h20 : len ≤ 1048576
  · go_enter Try.func4, Try.ntmps4
    have hB0 := Below.refl w.heap.size w
    go_wp2_with fail
    refine (dDrawBestStock_any a len cap w hb hl hs).mono ?_
    rintro e w1 ⟨a1, l1, c1, xs, o, u, rfl, n_v, hc1, hl1, ho0, ho1, hu0, hu1, hb1⟩
    have hB1 : Below w.heap.size w w1 := hB0.trans (hb1.mono hB0.size)
    clear hB0
    have xv_1 := n_v
    clear n_v
    clear hb hb1
    go_wp2_with fail
    refine (bestStock_impl a1 l1 c1 xs o u w1 xv_1).mono ?_
    rintro e w2 ⟨rfl, hb2⟩
    have xv_2 := ints_lift xv_1 hb2
    have hB2 : Below w.heap.size w w2 := hB1.trans (hb2.mono hB1.size)
    clear hB1 xv_1
    clear hb2
    obtain ⟨c, hc⟩ : ∃ c, shareRes xs o u = c := ⟨_, rfl⟩
    rw [hc]
    have HC := Lib.hid hc
    have hbd := shareRes_bd xs o u
    rw [hc] at hbd
    have hne : (c != c) = false := by simp
    have heq : (c == c) = true := by simp
    clear hc
    go_wp2_with fail
    refine (bestStock_spec (· < w2.heap.size) a1 l1 c1 xs o u w2 xv_2).mono ?_
    rintro e w' ⟨rfl, rfl⟩
    rw [HC.out]
    by_cases hc0 : c < 0
    · go_wp2_with fail
      refine (bestStock_spec (· < w2.heap.size) a1 l1 c1 xs o u w2 xv_2).mono ?_
      rintro e w' ⟨rfl, rfl⟩
      rw [HC.out]
      go_wp2_with fail
      go_ret
      exact ⟨rfl, hB2⟩
    · have hok : okO xs o u = true := by
        cases h : okO xs o u
        · have := shareRes_no h; rw [HC.out] at this; omega
        · rfl
      have hcs : (shareN xs o u : Int) = c := by rw [← HC.out, shareRes_yes hok]
      have HLE := Lib.hid (fun (k : Nat) (hk : k ≤ 7) => stock_least hok hk)
      rw [hcs] at HLE
      clear hcs hok
      have HBD := Lib.hid (fun k => stockRes_bd xs k o u)
      have HXV := Lib.hid (fun w' (hb : Below w2.heap.size w2 w') (k : Int) => stockCost_impl a1 l1 c1 xs k o u w' (ints_lift xv_2 hb))
      have HSB := Lib.hid (fun w' (hb : Below w2.heap.size w2 w') => stockByShare_impl a1 l1 c1 xs o u w' (ints_lift xv_2 hb))
      rw [HC.out] at HSB
      clear xv_2
      go_wp2_with fail
      go_loopw [7] (fun i wr => ∃ k : Nat, k ≤ 8 ∧ i = .int .i64 k ∧ Below w2.heap.size w2 wr) (fun i _ => 8 - (intOf i).toNat)
      case atStart => exact ⟨0, by omega, rfl, Below.refl _ _⟩
      case round =>
        obtain ⟨k, hk, rfl, hb⟩ := hrel
        have HB := Lib.hid hb
        clear hb
        by_cases hlt : k < 8
        · have hkI : (k : Int) ≤ 7 := by omega
          have C1 := Lib.hid (fun w' hb => HXV.out w' hb (k : Int))
          have C2 := Lib.hid (fun w' hb => HXV.out w' hb c)
          have hle := HLE.out k (by omega)
          have b1 := HBD.out (k : Int)
          have b2 := HBD.out c
          obtain ⟨x, hx⟩ : ∃ x, stockRes xs (k : Int) o u = x := ⟨_, rfl⟩
          obtain ⟨y, hy⟩ : ∃ y, stockRes xs c o u = y := ⟨_, rfl⟩
          rw [hx] at C1 hle b1
          rw [hy] at C2 hle b2
          clear hx hy
          go_wp2_with fail
          refine (C1.out _ HB.out).mono ?_
          rintro e w8 ⟨rfl, hb8⟩
          have HB8 := Lib.hid (HB.out.trans (hb8.mono HB.out.size))
          clear hb8
          go_wp2_with fail
          refine (C2.out _ HB8.out).mono ?_
          rintro e w9 ⟨rfl, hb9⟩
          have HB9 := Lib.hid (HB8.out.trans (hb9.mono HB8.out.size))
          clear hb9
          go_wp2_with fail
          go_roundw
          case rel => exact ⟨k + 1, by omega, by go_num, HB9.out⟩
          case measure => simp [intOf]; omega
        · obtain rfl : k = 8 := by omega
          go_wp2_with fail
          refine (HSB.out _ HB.out).mono ?_
          rintro e w8 ⟨rfl, hb8⟩
          have HB8 := Lib.hid (hB2.trans ((HB.out.trans (hb8.mono HB.out.size)).mono hB2.size))
          clear hb8
          go_wp2_with fail
          go_ret
          exact ⟨rfl, HB8.out⟩
  · go_enter Try.func4, Try.ntmps4
    go_wp2
    go_ret
    exact ⟨rfl, Below.refl _ _⟩
end Go.Proofs.Ytkjmpkincaainab
