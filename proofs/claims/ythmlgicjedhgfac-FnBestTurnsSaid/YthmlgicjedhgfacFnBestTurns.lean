/- The law FnBestTurns returns true at every code, and the code reads behind the call as it read before. No condition. -/
import Derived.Test.YthmlgicjedhgfacRows
import Derived.WalkKit
import Derived.LoopTactic
import Derived.Outline
import Derived.WalkSpells
import Derived.WalkLawsBesides
import Derived.ProofKit
import Derived.Deep.QuietTactic
import Derived.BigQuiet
import Derived.IntWalk
import Derived.Test.YthmlgicjedhgfacM0
import Derived.Test.YthmlgicjedhgfacM1
import Derived.Test.YthmlgicjedhgfacM2
import Derived.Test.YthmlgicjedhgfacM19
import Derived.Test.YthmlgicjedhgfacM9
import Derived.Test.YthmlgicjedhgfacM20
namespace Go.Proofs.Ythmlgicjedhgfac
open Go.RowKit Go.WideShapes

theorem times_of {shop : List (List (List Int))} (hv : shopM shop = true) {l : List Nat} (h : TurnsOf shop.length (slen shop) l) : timesN shop (nat7 l) = valB shop l := by
  unfold timesN nat7 runOf valB
  rw [hv, list_turns h, toNat_cast]; rfl
theorem best_rule {shop : List (List (List Int))} (hv : shopM shop = true) : timesN shop (bestI shop) = bestN shop ∧ bestN shop ≤ timesN shop (mostRes shop) ∧ leastRes7 shop ≤ bestN shop ∧ 0 ≤ bestN shop := by
  have hb := best_is hv
  have h1 : timesN shop (bestI shop) = bestN shop := by unfold bestI; rw [times_of hv hb.turns, hb.value]
  have h2 := hb.least (mostM shop) (most_TurnsOf7 shop)
  rw [← times_of hv (most_TurnsOf7 shop)] at h2
  have h3 : mostRes shop = nat7 (mostM shop) := mostRes_yes hv
  have h4 := least_all (runS_inv (fun j k => (stime_bd hv j k).1) (bestT shop) shop0 (shop0_inv (smach shop) (stime shop))) (fun j => runS_full hb.turns j)
  refine ⟨h1, by rw [h3]; exact h2, ?_, ?_⟩
  · rw [leastRes7_yes hv, ← hb.value]; exact h4
  · rw [← hb.value]; exact valB_nn hv _
theorem bestN_no {shop : List (List (List Int))} (h : shopM shop = false) : bestN shop = -1 := by unfold bestN; rw [h]; rfl

set_option maxRecDepth 100000 in
set_option maxHeartbeats 2000000 in
theorem fnBestTurns_any (a : Option Addr) (len cap : Nat) (w : World) (hb : BytesAt w w.heap.size a len) (hl : len ≤ cap) (hs : len ≤ 9223372036854775807) :
    Calls Try.prog 3 #[.slice a len cap] w (LawPost w) := by
  by_cases h20 : len ≤ 1048576
  · go_enter Try.func3, Try.ntmps3
    have hB0 := Below.refl w.heap.size w
    go_wp2_with fail
    refine (drawBestTurns_any a len cap w hb hl hs).mono ?_
    rintro e w1 ⟨a1, l1, c1, shop, rfl, n_s, hj3, hc1, hl1, hb1⟩
    have hB1 : Below w.heap.size w w1 := hB0.trans (hb1.mono hB0.size)
    clear hB0
    have xs_1 := n_s
    clear n_s
    clear hb hb1
    go_wp2_with fail
    refine (bestTurns_impl a1 l1 c1 shop w1 xs_1 hc1).mono ?_
    rintro e w2 ⟨aG, lG, cG, rfl, n_g, ⟨_, hcG⟩, hb2⟩
    have xs_2 := shop_lift xs_1 hb2
    have hB2 : Below w.heap.size w w2 := hB1.trans (hb2.mono hB1.size)
    clear hB1 xs_1
    have xg_2 := ints_in n_g (Nat.le_refl _)
    clear n_g
    clear hb2
    go_wp2_with fail
    refine (bestTurns_spec a1 l1 c1 shop w2 xs_2).mono ?_
    rintro e w3 ⟨aM, lM, cM, rfl, n_m, _, hb3⟩
    have xs_3 := shop_lift xs_2 hb3
    have xg_3 := ints_lift xg_2 hb3
    have hB3 : Below w.heap.size w w3 := hB2.trans (hb3.mono hB2.size)
    clear hB2 xs_2 xg_2
    have xm_3 := ints_in n_m (Nat.le_refl _)
    clear n_m
    clear hb3
    have heq : eqB (bestI shop) (bestI shop) = true := decide_eq_true rfl
    go_wp2_with fail
    refine (equalInts_any _ _ _ _ _ _ _ _ _ _ _ xg_3 xm_3).mono ?_
    rintro e w4 ⟨rfl, dd⟩
    have xs_4 := shop_lift xs_3 (dd.below _)
    have xg_4 := ints_lift xg_3 (dd.below _)
    have xm_4 := ints_lift xm_3 (dd.below _)
    have hB4 : Below w.heap.size w w4 := hB3.trans (dd.below w.heap.size)
    clear hB3 xs_3 xg_3 xm_3
    clear dd
    cases hv : shopM shop
    · rw [bestN_no hv]
      go_wp2_with fail
      refine (equalInts_any _ _ _ _ _ _ _ _ _ _ _ xg_4 xm_4).mono ?_
      rintro e w5 ⟨rfl, dd⟩
      have xs_5 := shop_lift xs_4 (dd.below _)
      have xg_5 := ints_lift xg_4 (dd.below _)
      have xm_5 := ints_lift xm_4 (dd.below _)
      have hB5 : Below w.heap.size w w5 := hB4.trans (dd.below w.heap.size)
      clear hB4 xs_4 xg_4 xm_4
      clear dd
      go_wp2_with fail
      go_ret
      exact ⟨rfl, hB5⟩
    · have HR := Lib.hid (best_rule hv)
      obtain ⟨bn, hbn⟩ : ∃ bn, bestN shop = bn := ⟨_, rfl⟩
      rw [hbn] at HR ⊢
      clear hbn hv
      obtain ⟨k1, k2, k3, k4⟩ := HR.out
      have hn0 : ¬ bn < 0 := by omega
      have hbe : (bn == bn) = true := by simp
      clear xm_4
      go_wp2_with fail
      refine (shopTimes_impl a1 l1 c1 shop aG lG cG (bestI shop) w4 xs_4 xg_4 hc1 hcG).mono ?_
      rintro e w5 ⟨aT, lT, cT, rfl, n_t, hcT, hb6⟩
      have xs_5 := shop_lift xs_4 hb6
      have xg_5 := ints_lift xg_4 hb6
      have hB5 : Below w.heap.size w w5 := hB4.trans (hb6.mono hB4.size)
      clear hB4 xs_4 xg_4
      clear hb6 n_t
      rw [k1]
      go_wp2_with fail
      refine (mostTurns_impl a1 l1 c1 shop w5 xs_5 hc1).mono ?_
      rintro e w6 ⟨aP, lP, cP, rfl, n_p, _, hcP, hb7⟩
      have xs_6 := shop_lift xs_5 hb7
      have xg_6 := ints_lift xg_5 hb7
      have hB6 : Below w.heap.size w w6 := hB5.trans (hb7.mono hB5.size)
      clear hB5 xs_5 xg_5
      have xp_6 := ints_in n_p (Nat.le_refl _)
      clear n_p
      clear hb7
      go_wp2_with fail
      refine (shopTimes_impl a1 l1 c1 shop aP lP cP (mostRes shop) w6 xs_6 xp_6 hc1 hcP).mono ?_
      rintro e w7 ⟨aQ, lQ, cQ, rfl, n_q, hcQ, hb8⟩
      have xs_7 := shop_lift xs_6 hb8
      have xg_7 := ints_lift xg_6 hb8
      have xp_7 := ints_lift xp_6 hb8
      have hB7 : Below w.heap.size w w7 := hB6.trans (hb8.mono hB6.size)
      clear hB6 xs_6 xg_6 xp_6
      clear hb8 n_q
      generalize timesN shop (mostRes shop) = mn at *
      go_wp2_with fail
      refine (leastShop_impl a1 l1 c1 shop w7 xs_7 hc1).mono ?_
      rintro e w8 ⟨rfl, hb9⟩
      have xs_8 := shop_lift xs_7 hb9
      have xg_8 := ints_lift xg_7 hb9
      have xp_8 := ints_lift xp_7 hb9
      have hB8 : Below w.heap.size w w8 := hB7.trans (hb9.mono hB7.size)
      clear hB7 xs_7 xg_7 xp_7
      clear hb9
      generalize leastRes7 shop = lv at *
      go_wp2_with fail
      go_ret
      exact ⟨rfl, hB8⟩
  · go_enter Try.func3, Try.ntmps3
    go_wp2
    go_ret
    exact ⟨rfl, Below.refl _ _⟩
end Go.Proofs.Ythmlgicjedhgfac
