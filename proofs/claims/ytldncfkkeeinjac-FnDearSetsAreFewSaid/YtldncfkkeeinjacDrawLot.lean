import Derived.Test.YtldncfkkeeinjacRows
import Derived.WalkKit
import Derived.Outline
import Derived.ProofKit
import Derived.Test.YtldncfkkeeinjacLib
import Derived.Test.YtldncfkkeeinjacRd
import Derived.Test.YtldncfkkeeinjacGen
import Derived.Test.YtldncfkkeeinjacOwn1
import Derived.Test.YtldncfkkeeinjacPick
import Derived.Test.YtldncfkkeeinjacNewReader
import Derived.Test.YtldncfkkeeinjacDr
import Derived.Test.YtldncfkkeeinjacApp
import Derived.Test.YtldncfkkeeinjacListOf
import Derived.Test.YtldncfkkeeinjacDays
import Derived.Test.YtldncfkkeeinjacNetM
import Derived.Test.YtldncfkkeeinjacVal2
import Derived.Test.YtldncfkkeeinjacLots
namespace Go.Proofs.Ytldncfkkeeinjac
open Go.RowKit Go.WideShapes

theorem set_n {n : Int} (h : n ∈ [10, 5, 20, 0, 30, 31]) : 0 ≤ n ∧ n ≤ 31 := by simp at h; omega
theorem set_n2 {n : Int} (h : n ∈ [10, 5, 20, 0, 31]) : 0 ≤ n ∧ n ≤ 31 := by simp at h; omega
theorem hold_n {n : Int} (h : n ∈ [1, 2, 0, 5, -1]) : -1 ≤ n ∧ n ≤ 5 := by simp at h; omega
/-- days and two costs, drawn -/
def DrawnD2 (w : World) (e : Ending) (w' : World) : Prop := ∃ (a : Option Addr) (len cap : Nat) (xs : List Int) (s h : Int), e = .returned (.tuple #[.slice a len cap, .int .i64 s, .int .i64 h]) ∧
  IntsAt w' (· < w'.heap.size) a len xs ∧ len ≤ cap ∧ len ≤ 9 ∧ 0 ≤ s ∧ s ≤ 31 ∧ -1 ≤ h ∧ h ≤ 5 ∧ Below w.heap.size w w'
set_option maxRecDepth 100000 in
set_option maxHeartbeats 2000000 in
theorem drawBestLots_any (a : Option Addr) (len cap : Nat) (w : World) (hb : BytesAt w w.heap.size a len) (hl : len ≤ cap) (hs : len ≤ 9223372036854775807) :
    Calls Try.prog 18 #[.slice a len cap] w (DrawnD2 w) := by
  go_enter Try.func18, Try.ntmps18
  go_wp2_with fail
  refine (newReader_any a len cap w hb hl hs).mono ?_
  rintro e w1 ⟨rfl, hr, hb1⟩
  go_wp2_with fail
  refine (someDays_any w.heap.size 0 w1 hr (by omega)).mono ?_
  rintro e w2 ⟨a2, l2, c2, xs, p2, rfl, h1, h2, h9, hd, hr2, hp2, hg⟩
  have hlt := hr.lt
  have x2 := lat_own h1 hlt (by omega)
  go_wp2_with fail
  refine (one_any (fun b => b = w2.heap.size) w.heap.size p2 _ 6 6 [10, 5, 20, 0, 30, 31] _ (hr2.alloc _) (IntsAt.lit rfl rfl rfl (by omega)) (by intro b hb; have := hr2.lt; simp; omega) (by omega) (by omega)).mono ?_
  rintro e w3 ⟨s, hs, rfl, hr3, hg3⟩
  obtain ⟨hs0, hs1⟩ := set_n hs
  clear hs
  have hg3 := grown_r (World.grownBy_alloc w2 _ _) hg3
  go_wp2_with fail
  refine (one_any (fun b => b = w3.heap.size) w.heap.size (p2 + 1) _ 5 5 [1, 2, 0, 5, -1] _ (hr3.alloc _) (IntsAt.lit rfl rfl rfl (by omega)) (by intro b hb; have := hr3.lt; simp; omega) (by omega) (by omega)).mono ?_
  rintro e w4 ⟨h, hh, rfl, hr4, hg4⟩
  obtain ⟨hh0, hh1⟩ := hold_n hh
  clear hh
  have hg4 := grown_r hg3 (grown_r (World.grownBy_alloc w3 _ _) hg4)
  have x4 := (x2.step hg4).low
  have hbb : Below w.heap.size w w4 := grown_below (grown_r hg hg4) hb1 hb1.size
  go_wp2
  go_ret3
  exact ⟨_, _, _, xs, s, h, rfl, x4, h2, h9, hs0, hs1, hh0, hh1, hbb⟩
set_option maxRecDepth 100000 in
set_option maxHeartbeats 2000000 in
theorem drawMeanLots_any (a : Option Addr) (len cap : Nat) (w : World) (hb : BytesAt w w.heap.size a len) (hl : len ≤ cap) (hs : len ≤ 9223372036854775807) :
    Calls Try.prog 7 #[.slice a len cap] w (DrawnD2 w) := by
  go_enter Try.func7, Try.ntmps7
  go_wp2_with fail
  refine (newReader_any a len cap w hb hl hs).mono ?_
  rintro e w1 ⟨rfl, hr, hb1⟩
  go_wp2_with fail
  refine (someDays_any w.heap.size 0 w1 hr (by omega)).mono ?_
  rintro e w2 ⟨a2, l2, c2, xs, p2, rfl, h1, h2, h9, hd, hr2, hp2, hg⟩
  have hlt := hr.lt
  have x2 := lat_own h1 hlt (by omega)
  go_wp2_with fail
  refine (one_any (fun b => b = w2.heap.size) w.heap.size p2 _ 6 6 [10, 5, 20, 0, 30, 31] _ (hr2.alloc _) (IntsAt.lit rfl rfl rfl (by omega)) (by intro b hb; have := hr2.lt; simp; omega) (by omega) (by omega)).mono ?_
  rintro e w3 ⟨s, hs, rfl, hr3, hg3⟩
  obtain ⟨hs0, hs1⟩ := set_n hs
  clear hs
  have hg3 := grown_r (World.grownBy_alloc w2 _ _) hg3
  go_wp2_with fail
  refine (one_any (fun b => b = w3.heap.size) w.heap.size (p2 + 1) _ 5 5 [1, 2, 0, 5, -1] _ (hr3.alloc _) (IntsAt.lit rfl rfl rfl (by omega)) (by intro b hb; have := hr3.lt; simp; omega) (by omega) (by omega)).mono ?_
  rintro e w4 ⟨h, hh, rfl, hr4, hg4⟩
  obtain ⟨hh0, hh1⟩ := hold_n hh
  clear hh
  have hg4 := grown_r hg3 (grown_r (World.grownBy_alloc w3 _ _) hg4)
  have x4 := (x2.step hg4).low
  have hbb : Below w.heap.size w w4 := grown_below (grown_r hg hg4) hb1 hb1.size
  go_wp2
  go_ret3
  exact ⟨_, _, _, xs, s, h, rfl, x4, h2, h9, hs0, hs1, hh0, hh1, hbb⟩
def DrawnMXSH (w : World) (e : Ending) (w' : World) : Prop := ∃ (a1 : Option Addr) (l1 c1 : Nat) (ms : List Int) (a2 : Option Addr) (l2 c2 : Nat) (xs : List Int) (s h : Int),
  e = .returned (.tuple #[.slice a1 l1 c1, .slice a2 l2 c2, .int .i64 s, .int .i64 h]) ∧ IntsAt w' (· < w'.heap.size) a1 l1 ms ∧ l1 ≤ c1 ∧ IntsAt w' (· < w'.heap.size) a2 l2 xs ∧ l2 ≤ c2 ∧ l1 ≤ 10 ∧ l2 ≤ 9 ∧ 0 ≤ s ∧ s ≤ 31 ∧ -1 ≤ h ∧ h ≤ 5 ∧ Below w.heap.size w w'
end Go.Proofs.Ytldncfkkeeinjac
