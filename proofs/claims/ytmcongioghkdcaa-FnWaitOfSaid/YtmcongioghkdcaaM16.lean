import Derived.Test.YtmcongioghkdcaaRows
import Derived.WalkKit
import Derived.LoopTactic
import Derived.Outline
import Derived.WalkSpells
import Derived.WalkLawsBesides
import Derived.ProofKit
import Derived.Test.YtmcongioghkdcaaM0
import Derived.Test.YtmcongioghkdcaaM1
import Derived.Test.YtmcongioghkdcaaM2
import Derived.Test.YtmcongioghkdcaaM9
import Derived.Test.YtmcongioghkdcaaM15
namespace Go.Proofs.Ytmcongioghkdcaa
open Go.RowKit Go.WideShapes

/-- drawn jobs -/
def DrawnJ (w : World) (e : Ending) (w' : World) : Prop := ∃ (a : Option Addr) (l c : Nat) (rows : List (List Int)), e = .returned (.slice a l c) ∧ RowsAt w' (· < w'.heap.size) a l rows ∧ l ≤ c ∧ l ≤ 8 ∧ Below w.heap.size w w'
/-- and an order, most often -/
def DrawnJO (w : World) (e : Ending) (w' : World) : Prop := ∃ (a : Option Addr) (l c : Nat) (rows : List (List Int)) (a2 : Option Addr) (l2 c2 : Nat) (xs : List Int), e = .returned (.tuple #[.slice a l c, .slice a2 l2 c2]) ∧
  RowsAt w' (· < w'.heap.size) a l rows ∧ l ≤ c ∧ l ≤ 8 ∧ IntsAt w' (· < w'.heap.size) a2 l2 xs ∧ l2 ≤ c2 ∧ l2 = l ∧ (∀ x ∈ xs, -1 ≤ x ∧ x ≤ 8) ∧ Below w.heap.size w w'
theorem drawValidJobs_any (a : Option Addr) (len cap : Nat) (w : World) (hb : BytesAt w w.heap.size a len) (hl : len ≤ cap) (hs : len ≤ 9223372036854775807) :
    Calls Try.prog 7 #[.slice a len cap] w (DrawnJ w) := by
  go_enter Try.func7, Try.ntmps7
  go_wp2_with fail
  refine (newReader_any a len cap w hb hl hs).mono ?_
  rintro e w1 ⟨rfl, hr, hb1⟩
  go_wp2_with fail
  refine (someJobs_any w.heap.size 0 w1 hr (by omega)).mono ?_
  rintro e w2 ⟨a2, l2, c2, rows, p2, rfl, h1, h2, h3, hr2, hp2, hg⟩
  have hbb : Below w.heap.size w w2 := grown_below hg hb1 hb1.size
  go_wp2_with fail
  go_ret
  exact ⟨a2, l2, c2, rows, rfl, h1.to (fun b hb => ⟨hb.2, rfl⟩), h2, h3, hbb⟩
theorem drawWaitOf_any (a : Option Addr) (len cap : Nat) (w : World) (hb : BytesAt w w.heap.size a len) (hl : len ≤ cap) (hs : len ≤ 9223372036854775807) :
    Calls Try.prog 13 #[.slice a len cap] w (DrawnJO w) := by
  go_enter Try.func13, Try.ntmps13
  go_wp2_with fail
  refine (newReader_any a len cap w hb hl hs).mono ?_
  rintro e w1 ⟨rfl, hr, hb1⟩
  go_wp2_with fail
  refine (someJobs_any w.heap.size 0 w1 hr (by omega)).mono ?_
  rintro e w2 ⟨a2, l2, c2, rows, p2, rfl, h1, h2, h3, hr2, hp2, hg⟩
  go_wp2_with fail
  refine (orderOf_any w.heap.size p2 l2 w2 hr2 (by omega) h3).mono ?_
  rintro e w3 ⟨g3, c3, xs, rfl, ho3, hc3, hall, hg3⟩
  have hbb : Below w.heap.size w w3 := grown_below (grown_r hg hg3) hb1 hb1.size
  have hrw : RowsAt w3 (· < w3.heap.size) a2 l2 rows := h1.to (fun b hb => ⟨Nat.lt_of_lt_of_le hb.2 hg3.size, hg3.block b hb.2 (by have := hr.lt; simp; omega)⟩)
  have hiw : IntsAt w3 (· < w3.heap.size) (some ⟨g3, 0, none⟩) l2 xs := by
    obtain ⟨a', c', e', _, h'⟩ := own_ints ho3 (by omega)
    injection e' with e1 _ _
    subst e1
    exact h'.to fun b hb => ⟨hb.2, rfl⟩
  go_wp2
  go_ret2
  exact ⟨a2, l2, c2, rows, _, l2, c3, xs, rfl, hrw, h2, h3, hiw, hc3, rfl, (fun x hx => by have := hall x hx; omega), hbb⟩
end Go.Proofs.Ytmcongioghkdcaa
