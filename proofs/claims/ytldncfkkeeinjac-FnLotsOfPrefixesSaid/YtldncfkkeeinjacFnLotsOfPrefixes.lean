/- The law FnLotsOfPrefixes returns true at every code, and the code reads behind the call as it read before. No condition. -/
import Derived.Test.YtldncfkkeeinjacRows
import Derived.WalkKit
import Derived.LoopTactic
import Derived.Outline
import Derived.WalkSpells
import Derived.WalkLawsBesides
import Derived.ProofKit
import Derived.Deep.QuietTactic
import Derived.BigQuiet
import Derived.IntWalk
import Derived.Test.YtldncfkkeeinjacLib
import Derived.Test.YtldncfkkeeinjacRd
import Derived.Test.YtldncfkkeeinjacEx
import Derived.Test.YtldncfkkeeinjacLaws
import Derived.Test.YtldncfkkeeinjacNetM
import Derived.Test.YtldncfkkeeinjacVal2
import Derived.Test.YtldncfkkeeinjacLots
import Derived.Test.YtldncfkkeeinjacStocks
import Derived.Test.YtldncfkkeeinjacResC
import Derived.Test.YtldncfkkeeinjacPlanM
import Derived.Test.YtldncfkkeeinjacBlockM
import Derived.Test.YtldncfkkeeinjacTriedM
import Derived.Test.YtldncfkkeeinjacPrefM
import Derived.Test.YtldncfkkeeinjacLotSpec
import Derived.Test.YtldncfkkeeinjacLotLawM
import Derived.Test.YtldncfkkeeinjacLotImpl
import Derived.Test.YtldncfkkeeinjacDrawLot
import Derived.Test.YtldncfkkeeinjacBestSpec
namespace Go.Proofs.Ytldncfkkeeinjac
open Go.RowKit Go.WideShapes

theorem ints_cut {w : World} {S : Nat → Prop} {a : Option Addr} {len : Nat} {xs : List Int} (h : IntsAt w S a len xs) (k : Nat) (hk : k ≤ len) : IntsAt w S a k (xs.take k) := by
  have hl := h.lenEq
  have hs := h.small
  refine ⟨by simp; omega, by omega, fun h0 => ?_⟩
  obtain ⟨b, off, ha, hs, hc⟩ := h.cells (by omega)
  refine ⟨b, off, ha, hs, fun i r hr => hc i r ?_⟩
  rw [List.getElem?_take] at hr
  split at hr
  · exact hr
  · cases hr
theorem ints_tail {w : World} {S : Nat → Prop} {b off len : Nat} {xs : List Int} (h : IntsAt w S (some ⟨b, off, none⟩) len xs) (h0 : 0 < len) : IntsAt w S (some ⟨b, off + 1, none⟩) (len - 1) (xs.drop 1) := by
  have hl := h.lenEq
  have hs := h.small
  obtain ⟨b', off', e, hS, hc⟩ := h.cells h0
  cases e
  refine ⟨by simp; omega, by omega, fun _ => ⟨b, off + 1, rfl, hS, fun i x hx => ?_⟩⟩
  rw [List.getElem?_drop] at hx
  rw [Nat.add_assoc]
  exact hc _ _ hx

set_option maxRecDepth 100000 in
set_option maxHeartbeats 2000000 in
theorem fnLotsOfPrefixes_any (a : Option Addr) (len cap : Nat) (w : World) (hb : BytesAt w w.heap.size a len) (hl : len ≤ cap) (hs : len ≤ 9223372036854775807) :
    Calls Try.prog 5 #[.slice a len cap] w (LawPost w) := by
  by_cases h20 : len ≤ 1048576
  · go_enter Try.func5, Try.ntmps5
    have hB0 := Below.refl w.heap.size w
    go_wp2_with fail
    refine (drawBestLots_any a len cap w hb hl hs).mono ?_
    rintro e w1 ⟨a1, l1, c1, xs, s, h, rfl, n_v, hc1, hl1, hs0, hs1, hh0, hh1, hb1⟩
    have hB1 : Below w.heap.size w w1 := hB0.trans (hb1.mono hB0.size)
    clear hB0
    have xv_1 := n_v
    clear n_v
    clear hb
    go_wp2_with fail
    refine (bestLots_impl a1 l1 c1 xs s h w1 xv_1 hc1).mono ?_
    rintro e w2 ⟨a2, l2, c2, rfl, n_g, _, hc2, hb2⟩
    have xv_2 := ints_lift xv_1 hb2
    have hB2 : Below w.heap.size w w2 := hB1.trans (hb2.mono hB1.size)
    clear hB1 xv_1
    have xg_2 := ints_in n_g (Nat.le_refl _)
    clear n_g
    go_wp2_with fail
    refine (bestLots_spec a1 l1 c1 xs s h w2 xv_2 hc1).mono ?_
    rintro e w3 ⟨a3, l3, c3, rfl, n_k, _, hb3⟩
    have xv_3 := ints_lift xv_2 hb3
    have xg_3 := ints_lift xg_2 hb3
    have hB3 : Below w.heap.size w w3 := hB2.trans (hb3.mono hB2.size)
    clear hB2 xv_2 xg_2
    have xk_3 := ints_in n_k (Nat.le_refl _)
    clear n_k
    have heq : eqB (bestRes xs s h) (bestRes xs s h) = true := decide_eq_true rfl
    go_wp2_with fail
    refine (equalInts_any _ _ _ _ _ _ _ _ _ _ _ xg_3 xk_3).mono ?_
    rintro e w4 ⟨rfl, dd⟩
    have xv_4 := ints_lift xv_3 (dd.below _)
    have xg_4 := ints_lift xg_3 (dd.below _)
    have xk_4 := ints_lift xk_3 (dd.below _)
    have hB4 : Below w.heap.size w w4 := hB3.trans (dd.below w.heap.size)
    clear hB3 xv_3 xg_3 xk_3
    clear dd
    clear xk_4
    clear xg_4
    go_wp2_with fail
    refine (leastLots_impl a1 l1 c1 xs s h w4 xv_4 hc1).mono ?_
    rintro e w5 ⟨rfl, hb4⟩
    have xv_5 := ints_lift xv_4 hb4
    have hB5 : Below w.heap.size w w5 := hB4.trans (hb4.mono hB4.size)
    clear hB4 xv_4
    clear hb1 hb2 hb3 hb4
    cases hv : validLotsM xs s h
    · rw [leastRes_no hv]
      go_wp2_with fail
      go_ret
      exact ⟨rfl, hB5⟩
    · have hlb := leastRes_bd hv
      by_cases hl0 : l1 = 0
      · subst hl0
        generalize leastRes xs s h = L at hlb ⊢
        go_wp2_with fail
        go_ret
        exact ⟨rfl, hB5⟩
      · have hl0e : ((l1 : Int) == 0) = false := by simp; omega
        have hlen := xv_5.lenEq
        obtain ⟨u1, u2⟩ := least_cut hv (by omega)
        have n1 := ints_cut xv_5 (l1 - 1) (by omega)
        have hd1 : IntsAt w5 (· < w5.heap.size) a1 l1 xs := xv_5
        obtain ⟨b, off, rfl, _, _⟩ := hd1.cells (by omega)
        rw [show xs.take (l1 - 1) = xs.take (xs.length - 1) by rw [hlen]] at n1
        have hsm := xv_5.small
        have b1 := leastRes_lo (xs.take (xs.length - 1)) s h
        have b2 := leastRes_lo (xs.drop 1) s h
        generalize hys : xs.take (xs.length - 1) = ys at u1 n1 b1
        generalize hzs : xs.drop 1 = zs at u2 b2
        generalize leastRes xs s h = L at hlb u1 u2 ⊢
        have HZS := Lib.hid hzs
        have HLEN := Lib.hid hlen
        have hc9 : l1 - 1 ≤ c1 := by omega
        have hwl : IntKind.i64.wrap ((l1 : Int) - 1) = ((l1 - 1 : Nat) : Int) := by rw [show ((l1 : Int) - 1) = ((l1 - 1 : Nat) : Int) by omega]; exact IntWalk.i64_in _ (by omega)
        have hll : (l1 : Int) - 1 = ((l1 - 1 : Nat) : Int) := by omega
        clear hv hlen hys hzs
        have xy_5 := n1
        clear n1 hd1
        go_wp2_with fail
        refine (leastLots_impl (some ⟨b, off, none⟩) (l1 - 1) c1 ys s h w5 xy_5 hc9).mono ?_
        rintro e w6 ⟨rfl, hb6⟩
        have xv_6 := ints_lift xv_5 hb6
        have xy_6 := ints_lift xy_5 hb6
        have hB6 : Below w.heap.size w w6 := hB5.trans (hb6.mono hB5.size)
        clear hB5 xv_5 xy_5
        clear hb6
        generalize leastRes ys s h = A at u1 b1 ⊢
        have hcl : (1 : Int) ≤ (l1 : Int) := by omega
        have hcc : l1 ≤ c1 := hc1
        by_cases hcap : c1 = 1
        · subst hcap
          obtain rfl : l1 = 1 := by omega
          have n_z : IntsAt w6 (· < w6.heap.size) (some ⟨b, off, none⟩) 0 zs := ⟨by rw [← HZS.out]; simp [HLEN.out], Nat.zero_le _, fun h => absurd h (by omega)⟩
          have xz_6 := n_z
          clear n_z
          go_wp2_with fail
          refine (leastLots_impl _ 0 0 zs s h w6 xz_6 (Nat.le_refl _)).mono ?_
          rintro e w7 ⟨rfl, hb7⟩
          have xv_7 := ints_lift xv_6 hb7
          have xy_7 := ints_lift xy_6 hb7
          have xz_7 := ints_lift xz_6 hb7
          have hB7 : Below w.heap.size w w7 := hB6.trans (hb7.mono hB6.size)
          clear hB6 xv_6 xy_6 xz_6
          go_wp2_with fail
          go_ret
          exact ⟨rfl, hB7⟩
        · have n_z := ints_tail xv_6 (by omega)
          rw [HZS.out] at n_z
          have xz_6 := n_z
          clear n_z
          go_wp2_with fail
          refine (leastLots_impl _ (l1 - 1) (c1 - 1) zs s h w6 xz_6 (by omega)).mono ?_
          rintro e w7 ⟨rfl, hb7⟩
          have xv_7 := ints_lift xv_6 hb7
          have xy_7 := ints_lift xy_6 hb7
          have xz_7 := ints_lift xz_6 hb7
          have hB7 : Below w.heap.size w w7 := hB6.trans (hb7.mono hB6.size)
          clear hB6 xv_6 xy_6 xz_6
          go_wp2_with fail
          go_ret
          exact ⟨rfl, hB7⟩
  · go_enter Try.func5, Try.ntmps5
    go_wp2
    go_ret
    exact ⟨rfl, Below.refl _ _⟩
end Go.Proofs.Ytldncfkkeeinjac
