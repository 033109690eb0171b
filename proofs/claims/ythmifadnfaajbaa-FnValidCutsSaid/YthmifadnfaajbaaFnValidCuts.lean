/- The law FnValidCuts returns true at every code, and the code reads behind the call as it read before. No condition. -/
import Derived.Test.YthmifadnfaajbaaRows
import Derived.WalkKit
import Derived.LoopTactic
import Derived.Outline
import Derived.WalkSpells
import Derived.WalkLawsBesides
import Derived.ProofKit
import Derived.Deep.QuietTactic
import Derived.BigQuiet
import Derived.IntWalk
import Derived.Test.YthmifadnfaajbaaM0
import Derived.Test.YthmifadnfaajbaaM1
import Derived.Test.YthmifadnfaajbaaM20
import Derived.Test.YthmifadnfaajbaaM21
import Derived.Test.YthmifadnfaajbaaM22
import Derived.Test.YthmifadnfaajbaaM7
namespace Go.Proofs.Ythmifadnfaajbaa
open Go.RowKit Go.WideShapes

set_option maxRecDepth 100000 in
set_option maxHeartbeats 2000000 in
theorem fnValidCuts_any (a : Option Addr) (len cap : Nat) (w : World) (hb : BytesAt w w.heap.size a len) (hl : len ≤ cap) (hs : len ≤ 9223372036854775807) :
    Calls Try.prog 3 #[.slice a len cap] w (LawPost w) := by
  by_cases h20 : len ≤ 1048576
  · go_enter Try.func3, Try.ntmps3
    have hB0 := Below.refl w.heap.size w
    go_wp2_with fail
    refine (dDrawValidCuts_any a len cap w hb hl hs).mono ?_
    rintro e w1 ⟨a1, l1, c1, xs, c, rfl, n_v, hc1, hl1, h10, h20', hb1⟩
    have hB1 : Below w.heap.size w w1 := hB0.trans (hb1.mono hB0.size)
    clear hB0
    have xv_1 := n_v
    clear n_v
    clear hb hb1
    go_wp2_with fail
    refine (validCuts_impl (· < w1.heap.size) a1 l1 c1 xs c w1 xv_1).mono ?_
    rintro e w2 ⟨rfl, hb2⟩
    have xv_2 := ints_lift xv_1 hb2
    have hB2 : Below w.heap.size w w2 := hB1.trans (hb2.mono hB1.size)
    clear hB1 xv_1
    clear hb2
    cases hv : cutsM xs c
    · go_wp2_with fail
      refine (validCuts_spec (· < w2.heap.size) a1 l1 c1 xs c w2 xv_2).mono ?_
      rintro e w' ⟨rfl, rfl⟩
      rw [hv]
      go_wp2_with fail
      refine (validCuts_spec (· < w2.heap.size) a1 l1 c1 xs c w2 xv_2).mono ?_
      rintro e w' ⟨rfl, rfl⟩
      rw [hv]
      go_wp2_with fail
      go_ret
      exact ⟨rfl, hB2⟩
    · go_wp2_with fail
      refine (validCuts_spec (· < w2.heap.size) a1 l1 c1 xs c w2 xv_2).mono ?_
      rintro e w' ⟨rfl, rfl⟩
      rw [hv]
      have HTK := Lib.hid (fun k => cuts_take hv k)
      by_cases hn0 : l1 = 0
      · have hn0I : ((l1 : Int) == 0) = true := by simp; omega
        clear hn0
        go_wp2_with fail
        go_ret
        exact ⟨rfl, hB2⟩
      · obtain ⟨n, rfl⟩ : ∃ n, l1 = n + 1 := ⟨l1 - 1, by omega⟩
        obtain ⟨b, off, rfl⟩ : ∃ b off, a1 = some ⟨b, off, none⟩ := by
          obtain ⟨b, off, x, e, _, _⟩ := xv_2.get (k := 0) (by omega)
          exact ⟨b, off, e⟩
        have xt_2 := xv_2.takeI n (by omega)
        have hne1 : ((((n + 1 : Nat) : Int)) == 0) = false := by simp; omega
        have hnw : IntKind.i64.wrap (((n + 1 : Nat) : Int) - 1) = (n : Int) := by rw [show ((n + 1 : Nat) : Int) - 1 = (n : Int) by omega]; exact IntWalk.i64_in _ (by omega)
        have hnw2 : IntKind.i64.wrap ((n : Int) + 1 - 1) = (n : Int) := by rw [Int.add_sub_cancel]; exact IntWalk.i64_in _ (by omega)
        have hn1c : n ≤ c1 := by omega
        clear hn0
        go_wp2_with fail
        refine (validCuts_impl (· < w2.heap.size) (some ⟨b, off, none⟩) n c1 (xs.take n) c w2 xt_2).mono ?_
        rintro e w3 ⟨rfl, hb4⟩
        have xv_3 := ints_lift xv_2 hb4
        have xt_3 := ints_lift xt_2 hb4
        have hB3 : Below w.heap.size w w3 := hB2.trans (hb4.mono hB2.size)
        clear hB2 xv_2 xt_2
        clear hb4
        rw [HTK.out]
        clear xt_3
        go_wp2_with fail
        go_ret
        exact ⟨rfl, hB3⟩
  · go_enter Try.func3, Try.ntmps3
    go_wp2
    go_ret
    exact ⟨rfl, Below.refl _ _⟩
end Go.Proofs.Ythmifadnfaajbaa
