import Derived.Test.YtiapaddmnbeheaaRows
import Derived.WalkKit
import Derived.LoopTactic
import Derived.Outline
import Derived.WalkSpells
import Derived.WalkLawsBesides
import Derived.ProofKit
import Derived.Lib.Hide
import Derived.IntWalk
import Derived.Deep.QuietTactic
import Derived.BigQuiet
import Derived.Test.YtiapaddmnbeheaaLib
import Derived.Test.YtiapaddmnbeheaaArr
import Derived.Test.YtiapaddmnbeheaaUp
import Derived.Test.YtiapaddmnbeheaaGen
import Derived.Test.YtiapaddmnbeheaaOwn1
import Derived.Test.YtiapaddmnbeheaaNetAt
import Derived.Test.YtiapaddmnbeheaaNetVal
import Derived.Test.YtiapaddmnbeheaaTokP
namespace Go.Proofs.Ytiapaddmnbeheaa
open Go.RowKit Go.WideShapes

def keepRes (ts : List Int) (rows : List (List Int)) (up down : Int) : Bool := tokM ts rows && (inB 0 40 up && (inB 1 40 down && (grOf ts rows).keepB up down))
/-- block b holds these numbers, one to a worker, and may be written -/
def NumsB (w : World) (b n : Nat) (f : Nat → Int) : Prop := ∀ j, j < n → w.cell? ⟨b, j, none⟩ = some (.int .i64 (f j)) ∧ w.frozen? ⟨b, j, none⟩ = false
theorem NumsB.block {w w' : World} {b n : Nat} {f : Nat → Int} (h : NumsB w b n f) (e : w'.heap[b]? = w.heap[b]?) : NumsB w' b n f := fun j hj =>
  ⟨by rw [World.cell?_of_block (w := w) e]; exact (h j hj).1, by rw [World.frozen?_of_block (w := w) e]; exact (h j hj).2⟩
theorem NumsB.put {w : World} {b n : Nat} {f : Nat → Int} (h : NumsB w b n f) {k : Nat} (hk : k < n) (x : Int) : NumsB (w.setCell ⟨b, k, none⟩ (.int .i64 x)) b n (fun j => if j = k then x else f j) := fun j hj => by
  refine ⟨?_, by rw [World.frozen?_setCell]; exact (h j hj).2⟩
  dsimp only
  by_cases e : j = k
  · subst e
    rw [if_pos rfl]
    exact World.cell?_setCell_same _ _ _ (h j hj).1
  · rw [if_neg e, World.cell?_setCell_other _ _ _ _ (by intro e'; injection e' with _ e2; exact e e2.symm)]
    exact (h j hj).1
theorem numsB_new (w : World) (n : Nat) : NumsB (w.alloc (.cells (madeCells #[.int .i64 0] n) 3)) w.heap.size n (fun _ => 0) := fun j hj => by
  refine ⟨?_, World.frozen?_alloc_new w _ _ _⟩
  rw [World.cell?_alloc_new]
  simp [madeCells, hj, Nat.mod_one]
theorem Try.infoInt8 : (Try.prog.info? 3).map (fun i => (i.zero, i.size, i.bytes)) = some (some (.int .i64 0), 1, 8) := by kernel_rfl
theorem pas_step1 {g : Gr} {up down : Int} (a : Nat → Int) (j : Nat) (h : (g.pas up down a j).1 (g.t j) < (g.pas up down a j).1 (g.f j) + g.w up down j) : g.pas up down a (j + 1) = (fun q => if q = g.t j then (g.pas up down a j).1 (g.f j) + g.w up down j else (g.pas up down a j).1 q, true) := by rw [Gr.pas, if_pos h]
theorem pas_step0 {g : Gr} {up down : Int} (a : Nat → Int) (j : Nat) (h : ¬ (g.pas up down a j).1 (g.t j) < (g.pas up down a j).1 (g.f j) + g.w up down j) : g.pas up down a (j + 1) = g.pas up down a j := by rw [Gr.pas, if_neg h]
/-- the three numbers of a way, where they lie -/
theorem way_at {w : World} {S : Nat → Prop} {aW : Option Addr} {lW : Nat} {rows : List (List Int)} {ts : List Int} (h : RowsAt w S aW lW rows) (hv : tokM ts rows = true) {q : Nat} (hq : q < lW) :
    ∃ b off b' off' c, aW = some ⟨b, off, none⟩ ∧ w.cell? ⟨b, off + q, none⟩ = some (.slice (some ⟨b', off', none⟩) 3 c) ∧ w.cell? ⟨b', off', none⟩ = some (.int .i64 ((grOf ts rows).f q : Nat)) ∧ w.cell? ⟨b', off' + 1, none⟩ = some (.int .i64 ((grOf ts rows).t q : Nat)) ∧ w.cell? ⟨b', off' + 2, none⟩ = some (.int .i64 ((grOf ts rows).c q : Nat)) := by
  obtain ⟨b, off, r, a', lr, cr, rfl, hr, dr, _, hri⟩ := h.get hq
  obtain ⟨l3, e0, _, e1, _, e2, _⟩ := (tok_get hv).2.2.2 q r hr
  have hl3 : lr = 3 := by have := hri.lenEq; omega
  subst hl3
  obtain ⟨b', off', r0, rfl, hy, hd⟩ := hri.get (k := 0) (by omega)
  obtain ⟨b2, off2, r1, e', hy2, hd2⟩ := hri.get (k := 1) (by omega)
  cases e'
  obtain ⟨b3, off3, r2, e', hy3, hd3⟩ := hri.get (k := 2) (by omega)
  cases e'
  rw [Nat.add_zero] at hd
  rw [getD_of hy] at e0
  rw [getD_of hy2] at e1
  rw [getD_of hy3] at e2
  subst e0
  subst e1
  subst e2
  exact ⟨b, off, b', off', cr, rfl, dr, hd, hd2, hd3⟩
end Go.Proofs.Ytiapaddmnbeheaa
