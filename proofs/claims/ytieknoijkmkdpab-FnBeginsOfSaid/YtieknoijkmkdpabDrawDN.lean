import Derived.Test.YtieknoijkmkdpabRows
import Derived.WalkKit
import Derived.Outline
import Derived.WalkSpells
import Derived.WalkLawsBesides
import Derived.ProofKit
import Derived.Test.YtieknoijkmkdpabLib
import Derived.Test.YtieknoijkmkdpabRd
import Derived.Test.YtieknoijkmkdpabGen
import Derived.Test.YtieknoijkmkdpabPick
import Derived.Test.YtieknoijkmkdpabNewReader
import Derived.Test.YtieknoijkmkdpabArr
import Derived.Test.YtieknoijkmkdpabOwn1
import Derived.Test.YtieknoijkmkdpabNetM
import Derived.Test.YtieknoijkmkdpabDays
namespace Go.Proofs.Ytieknoijkmkdpab
open Go.RowKit Go.WideShapes

/-- a list of days and a number, drawn -/
def DrawnDN (w : World) (lo hi : Int) (e : Ending) (w' : World) : Prop := ∃ (a : Option Addr) (len cap : Nat) (xs : List Int) (s : Int), e = .returned (.tuple #[.slice a len cap, .int .i64 s]) ∧
  IntsAt w' (· < w'.heap.size) a len xs ∧ len ≤ cap ∧ len ≤ 9 ∧ DaysOk xs ∧ lo ≤ s ∧ s ≤ hi ∧ Below w.heap.size w w'
theorem drawLotsFor_any (a : Option Addr) (len cap : Nat) (w : World) (hb : BytesAt w w.heap.size a len) (hl : len ≤ cap) (hs : len ≤ 9223372036854775807) :
    Calls Try.prog 7 #[.slice a len cap] w (DrawnDN w 0 9) := by
  go_enter Try.func7, Try.ntmps7
  go_wp2_with fail
  refine (newReader_any a len cap w hb hl hs).mono ?_
  rintro e w1 ⟨rfl, hr, hb1⟩
  go_wp2_with fail
  refine (someDays_any w.heap.size 0 w1 hr (by omega)).mono ?_
  rintro e w2 ⟨a2, l2, c2, xs, p2, rfl, h1, h2, h9, hd, hr2, hp2, hg⟩
  go_wp2_with fail
  refine (one_any (fun b => b = w2.heap.size) w.heap.size p2 _ 7 7 [2, 3, 1, 4, 8, 0, 9] _ (hr2.alloc _) (IntsAt.lit rfl rfl rfl (by omega)) (by intro b hb; have := hr2.lt; simp; omega) (by omega) (by omega)).mono ?_
  rintro e w3 ⟨s, hs, rfl, hr3, hg3⟩
  have hsb : 0 ≤ s ∧ s ≤ 9 := by simp at hs; omega
  clear hs
  have hg' := grown_r (World.grownBy_alloc w2 _ _) hg3
  have h3 := h1.kept hg' (ne_low h1 hr.lt)
  have hbb : Below w.heap.size w w3 := grown_below (grown_r hg hg') hb1 hb1.size
  obtain ⟨a3, c3, e3, _, hi⟩ := own_ints h3 (by omega)
  simp only [Value.slice.injEq] at e3
  obtain ⟨rfl, _, rfl⟩ := e3
  go_wp2
  go_ret2
  exact ⟨_, _, _, xs, s, rfl, hi.to (fun b hb => ⟨hb.2, rfl⟩), h2, h9, hd, hsb.1, hsb.2, hbb⟩
theorem drawBeginsOf_any (a : Option Addr) (len cap : Nat) (w : World) (hb : BytesAt w w.heap.size a len) (hl : len ≤ cap) (hs : len ≤ 9223372036854775807) :
    Calls Try.prog 17 #[.slice a len cap] w (DrawnDN w (-1) 9) := by
  go_enter Try.func17, Try.ntmps17
  go_wp2_with fail
  refine (newReader_any a len cap w hb hl hs).mono ?_
  rintro e w1 ⟨rfl, hr, hb1⟩
  go_wp2_with fail
  refine (someDays_any w.heap.size 0 w1 hr (by omega)).mono ?_
  rintro e w2 ⟨a2, l2, c2, xs, p2, rfl, h1, h2, h9, hd, hr2, hp2, hg⟩
  go_wp2_with fail
  refine (one_any (fun b => b = w2.heap.size) w.heap.size p2 _ 7 7 [1, 2, 0, 3, 8, 9, -1] _ (hr2.alloc _) (IntsAt.lit rfl rfl rfl (by omega)) (by intro b hb; have := hr2.lt; simp; omega) (by omega) (by omega)).mono ?_
  rintro e w3 ⟨s, hs, rfl, hr3, hg3⟩
  have hsb : (-1) ≤ s ∧ s ≤ 9 := by simp at hs; omega
  clear hs
  have hg' := grown_r (World.grownBy_alloc w2 _ _) hg3
  have h3 := h1.kept hg' (ne_low h1 hr.lt)
  have hbb : Below w.heap.size w w3 := grown_below (grown_r hg hg') hb1 hb1.size
  obtain ⟨a3, c3, e3, _, hi⟩ := own_ints h3 (by omega)
  simp only [Value.slice.injEq] at e3
  obtain ⟨rfl, _, rfl⟩ := e3
  go_wp2
  go_ret2
  exact ⟨_, _, _, xs, s, rfl, hi.to (fun b hb => ⟨hb.2, rfl⟩), h2, h9, hd, hsb.1, hsb.2, hbb⟩
end Go.Proofs.Ytieknoijkmkdpab
