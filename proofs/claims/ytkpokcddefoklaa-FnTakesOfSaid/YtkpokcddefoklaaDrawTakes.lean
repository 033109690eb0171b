import Derived.Test.YtkpokcddefoklaaRows
import Derived.WalkKit
import Derived.Outline
import Derived.WalkSpells
import Derived.WalkLawsBesides
import Derived.ProofKit
import Derived.Test.YtkpokcddefoklaaLib
import Derived.Test.YtkpokcddefoklaaRd
import Derived.Test.YtkpokcddefoklaaGen
import Derived.Test.YtkpokcddefoklaaPick
import Derived.Test.YtkpokcddefoklaaBill
import Derived.Test.YtkpokcddefoklaaNewReader
namespace Go.Proofs.Ytkpokcddefoklaa
open Go.RowKit Go.WideShapes

def DrawnTakes (w : World) (e : Ending) (w' : World) : Prop := ∃ (a : Option Addr) (len cap : Nat) (rows : List (List Int)) (i j : Int), e = .returned (.tuple #[.slice a len cap, .int .i64 i, .int .i64 j]) ∧
  RowsAt w' (· < w'.heap.size) a len rows ∧ len ≤ cap ∧ Below w.heap.size w w'

theorem grown_ro {a b c : World} {R : Nat} (h : a.grownBy b (some R)) (g : b.grownBy c (some R)) : a.grownBy c (some R) := grown_trans h g (fun k e => by cases e; exact Or.inl rfl)

set_option maxHeartbeats 1000000 in
theorem drawTakesOf_any (a : Option Addr) (len cap : Nat) (w : World) (hb : BytesAt w w.heap.size a len) (hl : len ≤ cap) (hs : len ≤ 9223372036854775807) :
    Calls Try.prog 13 #[.slice a len cap] w (DrawnTakes w) := by
  go_enter Try.func13, Try.ntmps13
  go_wp2_with fail
  refine (newReader_any a len cap w hb hl hs).mono ?_
  rintro e w1 ⟨rfl, hr, hb1⟩
  go_wp2_with fail
  refine (someBill_any w.heap.size 0 w1 hr (by omega)).mono ?_
  rintro e w2 ⟨a2, l2, c2, rows, p2, rfl, h1, h2, h6, hr2, hp2, hg2⟩
  have hs1 := hr.lt
  go_wp2_with fail
  refine (pick_any w.heap.size p2 (l2 : Int) w2 hr2 (by omega)).mono ?_
  rintro e w3 ⟨q, rfl, _, hr3, hg3⟩
  go_wp2_with fail
  refine (one_any (fun b => b = w3.heap.size) w.heap.size (p2 + 1) _ 4 4 [(q : Int), (l2 : Int) - 1, (l2 : Int), -1] _ (hr3.alloc _) (IntsAt.lit rfl rfl rfl (by omega)) (by intro b hb; have := hr3.lt; simp; omega) (by omega) (by omega)).mono ?_
  rintro e w4 ⟨x, _, rfl, hr4, hg4⟩
  go_wp2_with fail
  refine (pick_any w.heap.size (p2 + 1 + 1) (l2 : Int) w4 hr4 (by omega)).mono ?_
  rintro e w5 ⟨q2, rfl, _, hr5, hg5⟩
  go_wp2_with fail
  refine (one_any (fun b => b = w5.heap.size) w.heap.size (p2 + 1 + 1 + 1) _ 4 4 [(q2 : Int), 0, 1, -1] _ (hr5.alloc _) (IntsAt.lit rfl rfl rfl (by omega)) (by intro b hb; have := hr5.lt; simp; omega) (by omega) (by omega)).mono ?_
  rintro e w6 ⟨y, _, rfl, hr6, hg6⟩
  have g4 : w2.grownBy w4 (some w.heap.size) := grown_ro hg3 (grown_ro (World.grownBy_alloc _ _ _) hg4)
  have g6 : w2.grownBy w6 (some w.heap.size) := grown_ro g4 (grown_ro hg5 (grown_ro (World.grownBy_alloc _ _ _) hg6))
  have h1' := h1.to (S' := (· < w6.heap.size)) (w' := w6) (fun b hb => ⟨Nat.lt_of_lt_of_le hb.2 g6.size, g6.block b hb.2 (by simp; omega)⟩)
  have hbb : Below w.heap.size w w6 := grown_below (grown_ro hg2 g6) hb1 hb1.size
  go_wp2
  go_ret3
  exact ⟨a2, l2, c2, rows, x, y, rfl, h1', h2, hbb⟩
end Go.Proofs.Ytkpokcddefoklaa
