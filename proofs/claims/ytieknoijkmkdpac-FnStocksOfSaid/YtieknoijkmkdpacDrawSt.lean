import Derived.Test.YtieknoijkmkdpacRows
import Derived.WalkKit
import Derived.Outline
import Derived.ProofKit
import Derived.Test.YtieknoijkmkdpacLib
import Derived.Test.YtieknoijkmkdpacRd
import Derived.Test.YtieknoijkmkdpacGen
import Derived.Test.YtieknoijkmkdpacOwn1
import Derived.Test.YtieknoijkmkdpacPick
import Derived.Test.YtieknoijkmkdpacNewReader
import Derived.Test.YtieknoijkmkdpacDr
import Derived.Test.YtieknoijkmkdpacApp
import Derived.Test.YtieknoijkmkdpacListOf
import Derived.Test.YtieknoijkmkdpacDays
import Derived.Test.YtieknoijkmkdpacNetM
import Derived.Test.YtieknoijkmkdpacVal2
import Derived.Test.YtieknoijkmkdpacNet
import Derived.Test.YtieknoijkmkdpacLots
namespace Go.Proofs.Ytieknoijkmkdpac
open Go.RowKit Go.WideShapes

theorem st_n {n : Int} (h : n ∈ [4, 0, 8, 20, 21]) : 0 ≤ n ∧ n ≤ 21 := by simp at h; omega
def DrawnSMW (w : World) (e : Ending) (w' : World) : Prop := ∃ (s : Int) (a1 : Option Addr) (l1 c1 : Nat) (ms : List Int) (a2 : Option Addr) (l2 c2 : Nat) (ws : List Int),
  e = .returned (.tuple #[.int .i64 s, .slice a1 l1 c1, .slice a2 l2 c2]) ∧ IntsAt w' (· < w'.heap.size) a1 l1 ms ∧ IntsAt w' (· < w'.heap.size) a2 l2 ws ∧ 0 ≤ s ∧ s ≤ 21 ∧ l1 ≤ 10 ∧ l2 ≤ 9 ∧ Below w.heap.size w w'
set_option maxRecDepth 100000 in
set_option maxHeartbeats 2000000 in
theorem drawStocksOf_any (a : Option Addr) (len cap : Nat) (w : World) (hb : BytesAt w w.heap.size a len) (hl : len ≤ cap) (hs : len ≤ 9223372036854775807) :
    Calls Try.prog 7 #[.slice a len cap] w (DrawnSMW w) := by
  go_enter Try.func7, Try.ntmps7
  go_wp2_with fail
  refine (newReader_any a len cap w hb hl hs).mono ?_
  rintro e w1 ⟨rfl, hr, hb1⟩
  generalize hRR : w.heap.size = R at hr hb1 ⊢
  have HRR := Lib.hid hRR
  have hR1 : R ≤ w1.heap.size := by have := hb1.size; rw [hRR] at this; exact this
  clear hRR hb
  go_wp2_with fail
  refine (someDays_any R 0 w1 hr (by omega)).mono ?_
  rintro e w2 ⟨a2, l2, c2, ws, p2, rfl, h2, hc2, h9, hd, hr2, hp2, hg2⟩
  have hL2 := Lib.hid (show ws.length = l2 by have := h2.1; simpa using this)
  have h2 := lat_own h2 hr.lt (by omega)
  go_wp2_with fail
  refine (one_any (fun b => b = w2.heap.size) R p2 _ 5 5 [4, 0, 8, 20, 21] _ (hr2.alloc _) (IntsAt.lit rfl rfl rfl (by omega)) (by intro b hb; have := hr2.lt; simp; omega) (by omega) (by omega)).mono ?_
  rintro e w3 ⟨s, hs, rfl, hr3, hg3⟩
  obtain ⟨hs0, hs1⟩ := st_n hs
  clear hs
  have hg3 := grown_r (World.grownBy_alloc w2 _ _) hg3
  have hs12 := hg2.size
  have hs23 := hg3.size
  have h3 := h2.step hg3
  have hg3 := grown_r hg2 hg3
  go_wp2_with fail
  refine (listOf_any R (p2 + 1) l2 0 8 w3 hr3 (by omega) (by omega) (by omega) (by omega) (by omega)).mono ?_
  rintro e w4 ⟨a4, c4, ms, rfl, o4, hc4, hl4, hm4, hr4, hg4⟩
  have h4 := h3.step hg4
  have hB4 : R < w3.heap.size := hr3.lt
  have o4 := own_base o4 hs23
  have hg4 := grown_r hg3 hg4
  have hB1 : w1.heap.size ≤ w2.heap.size := hs12
  have hRB : R < w2.heap.size := hr2.lt
  clear hg2 hg3 hr hr2 hr3 h2 h3 hs23 hs12 hB4
  generalize w2.heap.size = B at *
  go_wp2_with fail
  refine (pick_any R (p2 + 1 + l2) 2 w4 hr4 (by omega)).mono ?_
  rintro e w5 ⟨q5, rfl, hq5, hr5, hg5⟩
  have h5 := h4.step hg5
  have o5 := own_step o4 hg5 (by omega)
  have hg5 := grown_r hg4 hg5
  clear hg4 hr4 h4 o4
  by_cases hq0 : q5 = 0
  · subst hq0
    go_wp2_with fail
    refine (validDays_spec0 _ a2 l2 c2 ws w5 h5.low).mono ?_
    rintro e w' ⟨rfl, rfl⟩
    cases hv : validDaysM ws
    · clear hv
      go_wp2_with fail
      refine (pick_any R _ 20 w5 hr5 (by omega)).mono ?_
      rintro e w8 ⟨q8, rfl, hq8, hr8, hg8⟩
      have h8 := h5.step hg8
      have o8 := own_step o5 hg8 (by omega)
      have hg8 := grown_r hg5 hg8
      clear hg5 hr5 h5 o5
      by_cases hq80 : q8 = 0
      · subst hq80
        go_wp2_with (at_builtin; refine wpApp1 rfl _ _ rfl B _ _ _ _ _ rfl o8 rfl h8.2 (by omega) ?_)
        intro a9 c9 w9 o9 hc9 hg9
        have h9 := h8.stepR hg9 (own_block o8)
        have hgz := grown_trans hg8 hg9 (fun k e => Or.inr (by have := own_block o8 k e; omega))
        clear hg8 hg9 h8 o8
        go_wp2
        go_ret3
        have hbz := grown_below hgz hb1 hR1
        rw [← HRR.out] at hbz
        exact ⟨s, _, _, c9, _, _, _, c2, ws, rfl, own_low (own_snoc o9) (by omega), h9.low, hs0, hs1, by omega, by omega, hbz⟩
      · go_wp2_with fail
        go_ret3
        have hbz := grown_below hg8 hb1 hR1
        rw [← HRR.out] at hbz
        exact ⟨s, _, _, _, _, _, _, c2, ws, rfl, own_low o8 (by omega), h8.low, hs0, hs1, by omega, by omega, hbz⟩
    · by_cases hs20 : s ≤ 20
      · skip
        go_wp2_with fail
        refine (net_spec _ a2 l2 c2 ws s w5 h5.low (fun b hb => hb) hv (by omega) (by omega)).mono ?_
        rintro e w6 ⟨a6, l6, c6, rfl, hl6, o6, hb6⟩
        have hr6 := hr5.step hb6
        have h6 := h5.stepR (grown_of_below hb6 none) (fun k e => by cases e)
        have hg6 := grown_r hg5 (grown_of_below hb6 _)
        have hv6 := netM_valid hv (s := s) (by omega)
        have hl6' : l6 = l2 := by have := o6.1; simp at this; rw [netM_length, hL2.out] at this; omega
        obtain rfl := hl6'
        have n6 := own_low o6 hl6
        go_wp2_with fail
        refine (pick_any R _ 3 w6 hr6 (by omega)).mono ?_
        rintro e w7 ⟨q7, rfl, hq7, hr7, hg7⟩
        have h7 := h6.step hg7
        have hs5 := h5.2
        have o7 := own_step o6 hg7 (by omega)
        have n7 := own_low o7 hl6
        have hg7 := grown_r hg6 hg7
        clear hg5 hg6 hr5 hr6 h5 h6 o5 o6 n6 hb6
        go_wp2_with fail
        refine (lots_spec a6 l6 c6 (netM ws s) (1 + (q7 : Int)) w7 n7 hv6 (by omega) (by omega)).mono ?_
        rintro e wz ⟨az, lz, cz, rfl, hlz, oz, hbz⟩
        have hrz := hr7.step hbz
        have hz := h7.stepR (grown_of_below hbz none) (fun k e => by cases e)
        have hgz := grown_r hg7 (grown_of_below hbz _)
        have hlz' : lz = l6 := by have := oz.1; simp at this; rw [lotsM_length, netM_length, hL2.out] at this; omega
        obtain rfl := hlz'
        have oz := own_base oz (Nat.le_trans h7.2 (Nat.le_refl _))
        clear hg7 hr7 h7 o7 n7 hbz hv6 hv
        go_wp2_with fail
        refine (pick_any R _ 20 wz hrz (by omega)).mono ?_
        rintro e w8 ⟨q8, rfl, hq8, hr8, hg8⟩
        have h8 := hz.step hg8
        have o8 := own_step oz hg8 (by omega)
        have hg8 := grown_r hgz hg8
        clear hgz hrz hz oz
        by_cases hq80 : q8 = 0
        · subst hq80
          go_wp2_with (at_builtin; refine wpApp1 rfl _ _ rfl B _ _ _ _ _ rfl o8 rfl h8.2 (by omega) ?_)
          intro a9 c9 w9 o9 hc9 hg9
          have h9 := h8.stepR hg9 (own_block o8)
          have hgz := grown_trans hg8 hg9 (fun k e => Or.inr (by have := own_block o8 k e; omega))
          clear hg8 hg9 h8 o8
          go_wp2
          go_ret3
          have hbz := grown_below hgz hb1 hR1
          rw [← HRR.out] at hbz
          exact ⟨s, _, _, c9, _, _, _, c2, ws, rfl, own_low (own_snoc o9) (by omega), h9.low, hs0, hs1, by omega, by omega, hbz⟩
        · go_wp2_with fail
          go_ret3
          have hbz := grown_below hg8 hb1 hR1
          rw [← HRR.out] at hbz
          exact ⟨s, _, _, _, _, _, _, c2, ws, rfl, own_low o8 (by omega), h8.low, hs0, hs1, by omega, by omega, hbz⟩
      · skip
        go_wp2_with fail
        refine (net_spec _ a2 l2 c2 ws 20 w5 h5.low (fun b hb => hb) hv (by omega) (by omega)).mono ?_
        rintro e w6 ⟨a6, l6, c6, rfl, hl6, o6, hb6⟩
        have hr6 := hr5.step hb6
        have h6 := h5.stepR (grown_of_below hb6 none) (fun k e => by cases e)
        have hg6 := grown_r hg5 (grown_of_below hb6 _)
        have hv6 := netM_valid hv (s := 20) (by omega)
        have hl6' : l6 = l2 := by have := o6.1; simp at this; rw [netM_length, hL2.out] at this; omega
        obtain rfl := hl6'
        have n6 := own_low o6 hl6
        go_wp2_with fail
        refine (pick_any R _ 3 w6 hr6 (by omega)).mono ?_
        rintro e w7 ⟨q7, rfl, hq7, hr7, hg7⟩
        have h7 := h6.step hg7
        have hs5 := h5.2
        have o7 := own_step o6 hg7 (by omega)
        have n7 := own_low o7 hl6
        have hg7 := grown_r hg6 hg7
        clear hg5 hg6 hr5 hr6 h5 h6 o5 o6 n6 hb6
        go_wp2_with fail
        refine (lots_spec a6 l6 c6 (netM ws 20) (1 + (q7 : Int)) w7 n7 hv6 (by omega) (by omega)).mono ?_
        rintro e wz ⟨az, lz, cz, rfl, hlz, oz, hbz⟩
        have hrz := hr7.step hbz
        have hz := h7.stepR (grown_of_below hbz none) (fun k e => by cases e)
        have hgz := grown_r hg7 (grown_of_below hbz _)
        have hlz' : lz = l6 := by have := oz.1; simp at this; rw [lotsM_length, netM_length, hL2.out] at this; omega
        obtain rfl := hlz'
        have oz := own_base oz (Nat.le_trans h7.2 (Nat.le_refl _))
        clear hg7 hr7 h7 o7 n7 hbz hv6 hv
        go_wp2_with fail
        refine (pick_any R _ 20 wz hrz (by omega)).mono ?_
        rintro e w8 ⟨q8, rfl, hq8, hr8, hg8⟩
        have h8 := hz.step hg8
        have o8 := own_step oz hg8 (by omega)
        have hg8 := grown_r hgz hg8
        clear hgz hrz hz oz
        by_cases hq80 : q8 = 0
        · subst hq80
          go_wp2_with (at_builtin; refine wpApp1 rfl _ _ rfl B _ _ _ _ _ rfl o8 rfl h8.2 (by omega) ?_)
          intro a9 c9 w9 o9 hc9 hg9
          have h9 := h8.stepR hg9 (own_block o8)
          have hgz := grown_trans hg8 hg9 (fun k e => Or.inr (by have := own_block o8 k e; omega))
          clear hg8 hg9 h8 o8
          go_wp2
          go_ret3
          have hbz := grown_below hgz hb1 hR1
          rw [← HRR.out] at hbz
          exact ⟨s, _, _, c9, _, _, _, c2, ws, rfl, own_low (own_snoc o9) (by omega), h9.low, hs0, hs1, by omega, by omega, hbz⟩
        · go_wp2_with fail
          go_ret3
          have hbz := grown_below hg8 hb1 hR1
          rw [← HRR.out] at hbz
          exact ⟨s, _, _, _, _, _, _, c2, ws, rfl, own_low o8 (by omega), h8.low, hs0, hs1, by omega, by omega, hbz⟩
  · clear hq5
    go_wp2_with fail
    refine (pick_any R _ 20 w5 hr5 (by omega)).mono ?_
    rintro e w8 ⟨q8, rfl, hq8, hr8, hg8⟩
    have h8 := h5.step hg8
    have o8 := own_step o5 hg8 (by omega)
    have hg8 := grown_r hg5 hg8
    clear hg5 hr5 h5 o5
    by_cases hq80 : q8 = 0
    · subst hq80
      go_wp2_with (at_builtin; refine wpApp1 rfl _ _ rfl B _ _ _ _ _ rfl o8 rfl h8.2 (by omega) ?_)
      intro a9 c9 w9 o9 hc9 hg9
      have h9 := h8.stepR hg9 (own_block o8)
      have hgz := grown_trans hg8 hg9 (fun k e => Or.inr (by have := own_block o8 k e; omega))
      clear hg8 hg9 h8 o8
      go_wp2
      go_ret3
      have hbz := grown_below hgz hb1 hR1
      rw [← HRR.out] at hbz
      exact ⟨s, _, _, c9, _, _, _, c2, ws, rfl, own_low (own_snoc o9) (by omega), h9.low, hs0, hs1, by omega, by omega, hbz⟩
    · go_wp2_with fail
      go_ret3
      have hbz := grown_below hg8 hb1 hR1
      rw [← HRR.out] at hbz
      exact ⟨s, _, _, _, _, _, _, c2, ws, rfl, own_low o8 (by omega), h8.low, hs0, hs1, by omega, by omega, hbz⟩
end Go.Proofs.Ytieknoijkmkdpac
