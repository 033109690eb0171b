import Derived.Test.YtldncfkkeeinjaaRows
import Derived.WalkKit
import Derived.Outline
import Derived.ProofKit
import Derived.Test.YtldncfkkeeinjaaLib
import Derived.Test.YtldncfkkeeinjaaRd
import Derived.Test.YtldncfkkeeinjaaGen
import Derived.Test.YtldncfkkeeinjaaOwn1
import Derived.Test.YtldncfkkeeinjaaPick
import Derived.Test.YtldncfkkeeinjaaNewReader
import Derived.Test.YtldncfkkeeinjaaDr
import Derived.Test.YtldncfkkeeinjaaApp
import Derived.Test.YtldncfkkeeinjaaListOf
import Derived.Test.YtldncfkkeeinjaaDays
import Derived.Test.YtldncfkkeeinjaaNetM
import Derived.Test.YtldncfkkeeinjaaVal2
import Derived.Test.YtldncfkkeeinjaaLots
namespace Go.Proofs.Ytldncfkkeeinjaa
open Go.RowKit Go.WideShapes

theorem set_n {n : Int} (h : n ∈ [10, 5, 20, 0, 30, 31]) : 0 ≤ n ∧ n ≤ 31 := by simp at h; omega
theorem set_n2 {n : Int} (h : n ∈ [10, 5, 20, 0, 31]) : 0 ≤ n ∧ n ≤ 31 := by simp at h; omega
theorem hold_n {n : Int} (h : n ∈ [1, 2, 0, 5, -1]) : -1 ≤ n ∧ n ≤ 5 := by simp at h; omega
/-- days and two costs, drawn -/
def DrawnD2 (w : World) (e : Ending) (w' : World) : Prop := ∃ (a : Option Addr) (len cap : Nat) (xs : List Int) (s h : Int), e = .returned (.tuple #[.slice a len cap, .int .i64 s, .int .i64 h]) ∧
  IntsAt w' (· < w'.heap.size) a len xs ∧ len ≤ cap ∧ len ≤ 9 ∧ 0 ≤ s ∧ s ≤ 31 ∧ -1 ≤ h ∧ h ≤ 5 ∧ Below w.heap.size w w'
set_option maxRecDepth 100000 in
set_option maxHeartbeats 2000000 in
theorem drawLeastLots_any (a : Option Addr) (len cap : Nat) (w : World) (hb : BytesAt w w.heap.size a len) (hl : len ≤ cap) (hs : len ≤ 9223372036854775807) :
    Calls Try.prog 13 #[.slice a len cap] w (DrawnD2 w) := by
  go_enter Try.func13, Try.ntmps13
  go_wp2_with fail
  refine (newReader_any a len cap w hb hl hs).mono ?_
  rintro e w1 ⟨rfl, hr, hb1⟩
  go_wp2_with fail
  refine (someDays_any w.heap.size 0 w1 hr (by omega)).mono ?_
  rintro e w2 ⟨a2, l2, c2, xs, p2, rfl, h1, h2, h9, hd, hr2, hp2, hg⟩
  have hlt := hr.lt
  have x2 := lat_own h1 hlt (by omega)
  go_wp2_with fail
  refine (one_any (fun b => b = w2.heap.size) w.heap.size p2 _ 6 6 [10, 5, 20, 0, 30, 31] _ (hr2.alloc _) (IntsAt.lit rfl rfl rfl (by omega)) (by intro b hb; have := hr2.lt; simp; omega) (by omega) (by omega)).mono ?_
  rintro e w3 ⟨s, hs, rfl, hr3, hg3⟩
  obtain ⟨hs0, hs1⟩ := set_n hs
  clear hs
  have hg3 := grown_r (World.grownBy_alloc w2 _ _) hg3
  go_wp2_with fail
  refine (one_any (fun b => b = w3.heap.size) w.heap.size (p2 + 1) _ 5 5 [1, 2, 0, 5, -1] _ (hr3.alloc _) (IntsAt.lit rfl rfl rfl (by omega)) (by intro b hb; have := hr3.lt; simp; omega) (by omega) (by omega)).mono ?_
  rintro e w4 ⟨h, hh, rfl, hr4, hg4⟩
  obtain ⟨hh0, hh1⟩ := hold_n hh
  clear hh
  have hg4 := grown_r hg3 (grown_r (World.grownBy_alloc w3 _ _) hg4)
  have x4 := (x2.step hg4).low
  have hbb : Below w.heap.size w w4 := grown_below (grown_r hg hg4) hb1 hb1.size
  go_wp2
  go_ret3
  exact ⟨_, _, _, xs, s, h, rfl, x4, h2, h9, hs0, hs1, hh0, hh1, hbb⟩
def DrawnMXSH (w : World) (e : Ending) (w' : World) : Prop := ∃ (a1 : Option Addr) (l1 c1 : Nat) (ms : List Int) (a2 : Option Addr) (l2 c2 : Nat) (xs : List Int) (s h : Int),
  e = .returned (.tuple #[.slice a1 l1 c1, .slice a2 l2 c2, .int .i64 s, .int .i64 h]) ∧ IntsAt w' (· < w'.heap.size) a1 l1 ms ∧ l1 ≤ c1 ∧ IntsAt w' (· < w'.heap.size) a2 l2 xs ∧ l2 ≤ c2 ∧ l1 ≤ 10 ∧ l2 ≤ 9 ∧ 0 ≤ s ∧ s ≤ 31 ∧ -1 ≤ h ∧ h ≤ 5 ∧ Below w.heap.size w w'
set_option maxRecDepth 100000 in
set_option maxHeartbeats 4000000 in
theorem drawLotCost_any (a : Option Addr) (len cap : Nat) (w : World) (hb : BytesAt w w.heap.size a len) (hl : len ≤ cap) (hs : len ≤ 9223372036854775807) :
    Calls Try.prog 7 #[.slice a len cap] w (DrawnMXSH w) := by
  go_enter Try.func7, Try.ntmps7
  go_wp2_with fail
  refine (newReader_any a len cap w hb hl hs).mono ?_
  rintro e w1 ⟨rfl, hr, hb1⟩
  generalize hRR : w.heap.size = R at hr hb1 ⊢
  have HRR := Lib.hid hRR
  have hR1 : R ≤ w1.heap.size := by have := hb1.size; rw [hRR] at this; exact this
  clear hRR hb
  go_wp2_with fail
  refine (someDays_any R 0 w1 hr (by omega)).mono ?_
  rintro e w2 ⟨a2, l2, c2, xs, p2, rfl, h2, hc2, h9, hd, hr2, hp2, hg2⟩
  have hL2 := Lib.hid (show xs.length = l2 by have := h2.1; simpa using this)
  have h2 := lat_own h2 hr.lt (by omega)
  have hs12 := hg2.size
  have hRB : R < w2.heap.size := hr2.lt
  go_wp2_with fail
  refine (listOf_any R p2 l2 0 9 w2 hr2 (by omega) (by omega) (by omega) (by omega) (by omega)).mono ?_
  rintro e w4 ⟨a4, c4, ms, rfl, o4, hc4, hl4, hm4, hr4, hg4⟩
  have h4 := h2.step hg4
  have n4 := lat_own o4 hr2.lt (by omega)
  have hg4 := grown_r hg2 hg4
  clear hg2 hr hr2 h2 o4
  go_wp2_with fail
  refine (pick_any R (p2 + l2) 3 w4 hr4 (by omega)).mono ?_
  rintro e w5 ⟨q5, rfl, hq5, hr5, hg5⟩
  have h5 := h4.step hg5
  have n5 := n4.step hg5
  have hg5 := grown_r hg4 hg5
  clear hg4 hr4 h4 n4
  by_cases hq0 : 0 < q5
  · go_wp2_with fail
    refine (validDays_spec0 _ a2 l2 c2 xs w5 h5.low).mono ?_
    rintro e w' ⟨rfl, rfl⟩
    cases hv : validDaysM xs
    · clear hv
      go_wp2_with fail
      refine (one_any (fun b => b = w5.heap.size) R _ _ 5 5 [10, 5, 20, 0, 31] _ (hr5.alloc _) (IntsAt.lit rfl rfl rfl (by omega)) (by intro b hb; have := hr5.lt; simp; omega) (by omega) (by omega)).mono ?_
      rintro e w8 ⟨s, hs, rfl, hr8, hg8⟩
      obtain ⟨hs0, hs1⟩ := set_n2 hs
      clear hs
      have hg8 := grown_r (World.grownBy_alloc w5 _ _) hg8
      have h8 := h5.step hg8
      have n8 := n5.step hg8
      have hg8 := grown_r hg5 hg8
      go_wp2_with fail
      refine (one_any (fun b => b = w8.heap.size) R _ _ 5 5 [1, 2, 0, 5, -1] _ (hr8.alloc _) (IntsAt.lit rfl rfl rfl (by omega)) (by intro b hb; have := hr8.lt; simp; omega) (by omega) (by omega)).mono ?_
      rintro e w9 ⟨h, hh, rfl, hr9, hg9⟩
      obtain ⟨hh0, hh1⟩ := hold_n hh
      clear hh
      have hg9 := grown_r (World.grownBy_alloc w8 _ _) hg9
      have h9' := (h8.step hg9).low
      have n9 := (n8.step hg9).low
      have hbz := grown_below (grown_r hg8 hg9) hb1 hR1
      rw [← HRR.out] at hbz
      clear hg8 hg9 h8 n8
      go_wp2
      exact bodyPost_ret (v := .tuple #[.slice a4 l2 c4, .slice a2 l2 c2, .int .i64 s, .int .i64 h]) (by simp [results, Try.results7, go_sem]) rfl ⟨_, _, _, _, _, _, _, xs, s, h, rfl, n9, (by omega), h9', hc2, by omega, by omega, hs0, hs1, hh0, hh1, hbz⟩
    · go_wp2_with fail
      refine (pick_any R _ 4 w5 hr5 (by omega)).mono ?_
      rintro e w6 ⟨q6, rfl, hq6, hr6, hg6⟩
      have h6 := h5.step hg6
      have hg6 := grown_r hg5 hg6
      clear hg5 hr5 h5 n5
      go_wp2_with fail
      refine (lots_spec a2 l2 c2 xs (1 + (q6 : Int)) w6 h6.low hv (by omega) (by omega)).mono ?_
      rintro e w7 ⟨a7, l7, c7, rfl, hl7, o7, hb7⟩
      have hr7 := hr6.step hb7
      have h7 := h6.stepR (grown_of_below hb7 none) (fun k e => by cases e)
      have hg7 := grown_r hg6 (grown_of_below hb7 _)
      have hl7' : l7 = l2 := by have := o7.1; simp at this; rw [lotsM_length, hL2.out] at this; omega
      obtain rfl := hl7'
      have n7 := lat_own o7 hr6.lt hl7
      have hc7 : l7 ≤ c7 := (own_slice o7).elim (fun a ⟨c, e, h⟩ => by simp only [Value.slice.injEq] at e; omega)
      clear hg6 hr6 h6 o7 hb7 hv
      go_wp2_with fail
      refine (one_any (fun b => b = w7.heap.size) R _ _ 5 5 [10, 5, 20, 0, 31] _ (hr7.alloc _) (IntsAt.lit rfl rfl rfl (by omega)) (by intro b hb; have := hr7.lt; simp; omega) (by omega) (by omega)).mono ?_
      rintro e w8 ⟨s, hs, rfl, hr8, hg8⟩
      obtain ⟨hs0, hs1⟩ := set_n2 hs
      clear hs
      have hg8 := grown_r (World.grownBy_alloc w7 _ _) hg8
      have h8 := h7.step hg8
      have n8 := n7.step hg8
      have hg8 := grown_r hg7 hg8
      go_wp2_with fail
      refine (one_any (fun b => b = w8.heap.size) R _ _ 5 5 [1, 2, 0, 5, -1] _ (hr8.alloc _) (IntsAt.lit rfl rfl rfl (by omega)) (by intro b hb; have := hr8.lt; simp; omega) (by omega) (by omega)).mono ?_
      rintro e w9 ⟨h, hh, rfl, hr9, hg9⟩
      obtain ⟨hh0, hh1⟩ := hold_n hh
      clear hh
      have hg9 := grown_r (World.grownBy_alloc w8 _ _) hg9
      have h9' := (h8.step hg9).low
      have n9 := (n8.step hg9).low
      have hbz := grown_below (grown_r hg8 hg9) hb1 hR1
      rw [← HRR.out] at hbz
      clear hg8 hg9 h8 n8
      go_wp2
      exact bodyPost_ret (v := .tuple #[.slice a7 l7 c7, .slice a2 l7 c2, .int .i64 s, .int .i64 h]) (by simp [results, Try.results7, go_sem]) rfl ⟨_, _, _, _, _, _, _, xs, s, h, rfl, n9, (by omega), h9', hc2, by omega, by omega, hs0, hs1, hh0, hh1, hbz⟩
  · clear hq5
    go_wp2_with fail
    refine (one_any (fun b => b = w5.heap.size) R _ _ 5 5 [10, 5, 20, 0, 31] _ (hr5.alloc _) (IntsAt.lit rfl rfl rfl (by omega)) (by intro b hb; have := hr5.lt; simp; omega) (by omega) (by omega)).mono ?_
    rintro e w8 ⟨s, hs, rfl, hr8, hg8⟩
    obtain ⟨hs0, hs1⟩ := set_n2 hs
    clear hs
    have hg8 := grown_r (World.grownBy_alloc w5 _ _) hg8
    have h8 := h5.step hg8
    have n8 := n5.step hg8
    have hg8 := grown_r hg5 hg8
    go_wp2_with fail
    refine (one_any (fun b => b = w8.heap.size) R _ _ 5 5 [1, 2, 0, 5, -1] _ (hr8.alloc _) (IntsAt.lit rfl rfl rfl (by omega)) (by intro b hb; have := hr8.lt; simp; omega) (by omega) (by omega)).mono ?_
    rintro e w9 ⟨h, hh, rfl, hr9, hg9⟩
    obtain ⟨hh0, hh1⟩ := hold_n hh
    clear hh
    have hg9 := grown_r (World.grownBy_alloc w8 _ _) hg9
    have h9' := (h8.step hg9).low
    have n9 := (n8.step hg9).low
    have hbz := grown_below (grown_r hg8 hg9) hb1 hR1
    rw [← HRR.out] at hbz
    clear hg8 hg9 h8 n8
    go_wp2
    exact bodyPost_ret (v := .tuple #[.slice a4 l2 c4, .slice a2 l2 c2, .int .i64 s, .int .i64 h]) (by simp [results, Try.results7, go_sem]) rfl ⟨_, _, _, _, _, _, _, xs, s, h, rfl, n9, (by omega), h9', hc2, by omega, by omega, hs0, hs1, hh0, hh1, hbz⟩
end Go.Proofs.Ytldncfkkeeinjaa
