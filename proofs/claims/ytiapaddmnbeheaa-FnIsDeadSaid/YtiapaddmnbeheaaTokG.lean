import Derived.Test.YtiapaddmnbeheaaRows
import Derived.WalkKit
import Derived.LoopTactic
import Derived.Outline
import Derived.WalkSpells
import Derived.WalkLawsBesides
import Derived.ProofKit
import Derived.Lib.Hide
import Derived.IntWalk
import Derived.Deep.QuietTactic
import Derived.BigQuiet
import Derived.Deep.RegionHeld3
import Derived.Shelf.RegionOpenPlain
import Derived.Test.YtiapaddmnbeheaaLib
import Derived.Test.YtiapaddmnbeheaaArr
import Derived.Test.YtiapaddmnbeheaaUp
import Derived.Test.YtiapaddmnbeheaaBitOp
import Derived.Test.YtiapaddmnbeheaaGen
import Derived.Test.YtiapaddmnbeheaaNetAt
import Derived.Test.YtiapaddmnbeheaaDrawNet
import Derived.Test.YtiapaddmnbeheaaTokB
import Derived.Test.YtiapaddmnbeheaaTokC
import Derived.Test.YtiapaddmnbeheaaTokD
import Derived.Test.YtiapaddmnbeheaaKeep8
import Derived.Test.YtiapaddmnbeheaaFrac8
import Derived.Test.YtiapaddmnbeheaaPaceM
import Derived.Test.YtiapaddmnbeheaaPath8
import Derived.Test.YtiapaddmnbeheaaTokB
import Derived.Test.YtiapaddmnbeheaaPaceR
namespace Go.Proofs.Ytiapaddmnbeheaa
open Go.RowKit Go.WideShapes

theorem grown_of8 {w w' : World} (h : Below w.heap.size w w') (B : Nat) : w.grownBy w' (some B) := ⟨h.os, h.tape, h.output, h.size, fun b hb _ => h.block b hb⟩
theorem below_of8 {w w' : World} {B : Nat} (h : w.grownBy w' (some B)) {lo : Nat} (h1 : lo ≤ B) (h2 : lo ≤ w.heap.size) : Below lo w w' := (Below.refl lo w).grown h h2 (fun k e => by cases e; exact h1)
def PacePostG (w : World) (Q : Int → Nat → Prop) (e : Ending) (w' : World) : Prop := ∃ U D : Nat, e = .returned (.agg #[.int .i64 U, .int .i64 D]) ∧ IsGr U D Q ∧ Below w.heap.size w w'
theorem gr_join {U D U' D' : Nat} {Q Q' R : Int → Nat → Prop} (h : IsGr U D Q) (h' : IsGr U' D' Q') (hR : ∀ T C, R T C ↔ Q T C ∨ Q' T C) : IsGr (if (U : Int) * D' < (U' : Int) * D then U' else U) (if (U : Int) * D' < (U' : Int) * D then D' else D) R := by
  by_cases hl : (U : Int) * D' < (U' : Int) * D
  · rw [if_pos hl, if_pos hl]; exact gr_right h h' hl hR
  · rw [if_neg hl, if_neg hl]; exact gr_left h h' hl hR
/-- five numbers in a block -/
def Five (w : World) (b : Nat) (x0 x1 x2 x3 x4 : Int) : Prop := w.cell? ⟨b, 0, none⟩ = some (.int .i64 x0) ∧ w.cell? ⟨b, 1, none⟩ = some (.int .i64 x1) ∧ w.cell? ⟨b, 2, none⟩ = some (.int .i64 x2) ∧ w.cell? ⟨b, 3, none⟩ = some (.int .i64 x3) ∧ w.cell? ⟨b, 4, none⟩ = some (.int .i64 x4)
theorem Five.block {w w' : World} {b : Nat} {x0 x1 x2 x3 x4 : Int} (h : Five w b x0 x1 x2 x3 x4) (e : w'.heap[b]? = w.heap[b]?) : Five w' b x0 x1 x2 x3 x4 :=
  ⟨by rw [World.cell?_of_block (w := w) e]; exact h.1, by rw [World.cell?_of_block (w := w) e]; exact h.2.1, by rw [World.cell?_of_block (w := w) e]; exact h.2.2.1, by rw [World.cell?_of_block (w := w) e]; exact h.2.2.2.1, by rw [World.cell?_of_block (w := w) e]; exact h.2.2.2.2⟩
theorem Five.lt {w : World} {b : Nat} {x0 x1 x2 x3 x4 : Int} (h : Five w b x0 x1 x2 x3 x4) : b < w.heap.size := World.block_lt_of_cell? w _ h.1
theorem five_new (w : World) (x0 x1 x2 x3 x4 : Int) (t : TypeId) : Five (w.alloc (.cells #[.int .i64 x0, .int .i64 x1, .int .i64 x2, .int .i64 x3, .int .i64 x4] t)) w.heap.size x0 x1 x2 x3 x4 :=
  ⟨by rw [World.cell?_alloc_new]; rfl, by rw [World.cell?_alloc_new]; rfl, by rw [World.cell?_alloc_new]; rfl, by rw [World.cell?_alloc_new]; rfl, by rw [World.cell?_alloc_new]; rfl⟩
end Go.Proofs.Ytiapaddmnbeheaa
