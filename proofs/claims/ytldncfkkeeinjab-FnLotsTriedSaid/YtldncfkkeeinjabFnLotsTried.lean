/- The law FnLotsTried returns true at every code, and the code reads behind the call as it read before. No condition. -/
import Derived.Test.YtldncfkkeeinjabRows
import Derived.WalkKit
import Derived.LoopTactic
import Derived.Outline
import Derived.WalkSpells
import Derived.WalkLawsBesides
import Derived.ProofKit
import Derived.Deep.QuietTactic
import Derived.BigQuiet
import Derived.IntWalk
import Derived.Test.YtldncfkkeeinjabLib
import Derived.Test.YtldncfkkeeinjabRd
import Derived.Test.YtldncfkkeeinjabEx
import Derived.Test.YtldncfkkeeinjabLaws
import Derived.Test.YtldncfkkeeinjabNetM
import Derived.Test.YtldncfkkeeinjabVal2
import Derived.Test.YtldncfkkeeinjabLots
import Derived.Test.YtldncfkkeeinjabStocks
import Derived.Test.YtldncfkkeeinjabResC
import Derived.Test.YtldncfkkeeinjabPlanM
import Derived.Test.YtldncfkkeeinjabBlockM
import Derived.Test.YtldncfkkeeinjabTriedM
import Derived.Test.YtldncfkkeeinjabPrefM
import Derived.Test.YtldncfkkeeinjabLotSpec
import Derived.Test.YtldncfkkeeinjabLotLawM
import Derived.Test.YtldncfkkeeinjabLotImpl
import Derived.Test.YtldncfkkeeinjabDrawLot
import Derived.Test.YtldncfkkeeinjabTriedSpec
namespace Go.Proofs.Ytldncfkkeeinjab
open Go.RowKit Go.WideShapes

set_option maxRecDepth 100000 in
set_option maxHeartbeats 2000000 in
theorem fnLotsTried_any (a : Option Addr) (len cap : Nat) (w : World) (hb : BytesAt w w.heap.size a len) (hl : len ≤ cap) (hs : len ≤ 9223372036854775807) :
    Calls Try.prog 3 #[.slice a len cap] w (LawPost w) := by
  by_cases h20 : len ≤ 1048576
  · go_enter Try.func3, Try.ntmps3
    have hB0 := Below.refl w.heap.size w
    go_wp2_with fail
    refine (drawLotsTried_any a len cap w hb hl hs).mono ?_
    rintro e w1 ⟨a1, l1, c1, xs, s, h, rfl, n_v, hc1, hl1, hs0, hs1, hh0, hh1, hb1⟩
    have hB1 : Below w.heap.size w w1 := hB0.trans (hb1.mono hB0.size)
    clear hB0
    have xv_1 := n_v
    clear n_v
    clear hb
    go_wp2_with fail
    refine (lotsTried_impl a1 l1 c1 xs s h w1 xv_1 hc1).mono ?_
    rintro e w2 ⟨rfl, hb2⟩
    have xv_2 := ints_lift xv_1 hb2
    have hB2 : Below w.heap.size w w2 := hB1.trans (hb2.mono hB1.size)
    clear hB1 xv_1
    go_wp2_with fail
    refine (lotsTried_spec a1 l1 c1 xs s h w2 xv_2 hc1).mono ?_
    rintro e w' ⟨rfl, rfl⟩
    clear hb1 hb2
    cases hv : validLotsM xs s h
    · rw [leastRes_no hv]
      go_wp2_with fail
      refine (lotsTried_spec a1 l1 c1 xs s h w2 xv_2 hc1).mono ?_
      rintro e w' ⟨rfl, rfl⟩
      rw [leastRes_no hv]
      go_wp2_with fail
      go_ret
      exact ⟨rfl, hB2⟩
    · obtain ⟨u1, u2⟩ := least_up hv
      have hlb := leastRes_bd hv
      have b1 := leastRes_lo xs (s + 1) h
      have b2 := leastRes_lo xs s (h + 1)
      clear hv
      generalize leastRes xs s h = L at u1 u2 hlb ⊢
      have heq : (L != L) = false := by simp
      go_wp2_with fail
      refine (lotsTried_impl a1 l1 c1 xs (s + 1) h w2 xv_2 hc1).mono ?_
      rintro e w3 ⟨rfl, hb4⟩
      have xv_3 := ints_lift xv_2 hb4
      have hB3 : Below w.heap.size w w3 := hB2.trans (hb4.mono hB2.size)
      clear hB2 xv_2
      generalize leastRes xs (s + 1) h = A at u1 b1 ⊢
      go_wp2_with fail
      refine (lotsTried_impl a1 l1 c1 xs s (h + 1) w3 xv_3 hc1).mono ?_
      rintro e w4 ⟨rfl, hb5⟩
      have xv_4 := ints_lift xv_3 hb5
      have hB4 : Below w.heap.size w w4 := hB3.trans (hb5.mono hB3.size)
      clear hB3 xv_3
      generalize leastRes xs s (h + 1) = B at u2 b2 ⊢
      clear hb4 hb5
      by_cases hA : A < 0
      · by_cases hB : B < 0
        · clear u1 u2
          go_wp2_with fail
          go_ret
          exact ⟨rfl, hB4⟩
        · have hB' : L ≤ B := by omega
          clear u1 u2
          go_wp2_with fail
          go_ret
          exact ⟨rfl, hB4⟩
      · have hA' : L ≤ A := by omega
        by_cases hB : B < 0
        · clear u1 u2
          go_wp2_with fail
          go_ret
          exact ⟨rfl, hB4⟩
        · have hB' : L ≤ B := by omega
          clear u1 u2
          go_wp2_with fail
          go_ret
          exact ⟨rfl, hB4⟩
  · go_enter Try.func3, Try.ntmps3
    go_wp2
    go_ret
    exact ⟨rfl, Below.refl _ _⟩
end Go.Proofs.Ytldncfkkeeinjab
