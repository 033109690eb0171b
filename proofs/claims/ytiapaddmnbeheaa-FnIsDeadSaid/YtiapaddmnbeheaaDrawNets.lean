import Derived.Test.YtiapaddmnbeheaaRows
import Derived.WalkKit
import Derived.LoopTactic
import Derived.Outline
import Derived.WalkSpells
import Derived.WalkLawsBesides
import Derived.ProofKit
import Derived.Test.YtiapaddmnbeheaaLib
import Derived.Test.YtiapaddmnbeheaaRd
import Derived.Test.YtiapaddmnbeheaaGen
import Derived.Test.YtiapaddmnbeheaaOwn1
import Derived.Test.YtiapaddmnbeheaaPick
import Derived.Test.YtiapaddmnbeheaaNewReader
import Derived.Test.YtiapaddmnbeheaaDr
import Derived.Test.YtiapaddmnbeheaaApp
import Derived.Test.YtiapaddmnbeheaaListOf
import Derived.Test.YtiapaddmnbeheaaDays
import Derived.Test.YtiapaddmnbeheaaBill
import Derived.Test.YtiapaddmnbeheaaDrawOne
import Derived.Test.YtiapaddmnbeheaaNetAt
import Derived.Test.YtiapaddmnbeheaaDrawNet
namespace Go.Proofs.Ytiapaddmnbeheaa
open Go.RowKit Go.WideShapes

/-- a drawn net -/
def DrawnN (w : World) (e : Ending) (w' : World) : Prop := ∃ (d : NV) (ts : List Int) (rows : List (List Int)), e = .returned (.agg #[.slice d.aT d.lT d.cT, .slice d.aW d.lW d.cW]) ∧ NetAt w' (· < w'.heap.size) d ts rows ∧ d.lT ≤ 4 ∧ d.lW ≤ 8 ∧ Below w.heap.size w w'
/-- and rounds -/
def DrawnNR (w : World) (e : Ending) (w' : World) : Prop := ∃ (d : NV) (ts : List Int) (rows : List (List Int)) (n : Nat), e = .returned (.tuple #[.agg #[.slice d.aT d.lT d.cT, .slice d.aW d.lW d.cW], .int .i64 n]) ∧ NetAt w' (· < w'.heap.size) d ts rows ∧ d.lT ≤ 4 ∧ d.lW ≤ 8 ∧ n ≤ 41 ∧ Below w.heap.size w w'
theorem bytes_up {w w' : World} {a : Option Addr} {n : Nat} (h : BytesAt w w.heap.size a n) (hb : Below w.heap.size w w') : BytesAt w' w'.heap.size a n := by
  intro h0
  obtain ⟨b, off, e, hlt, hc⟩ := h h0
  refine ⟨b, off, e, Nat.lt_of_lt_of_le hlt hb.size, fun i hi => ?_⟩
  obtain ⟨x, hx, hcx⟩ := hc i hi
  exact ⟨x, hx, (hb.cell (p := ⟨b, off + i, none⟩) hlt).trans hcx⟩
theorem below_set2 {w w' : World} (h : Below w.heap.size w w') (x y : Value) : Below w.heap.size w ((w'.setCell ⟨w.heap.size, 0, none⟩ x).setCell ⟨w.heap.size, 1, none⟩ y) := (h.setCell (Nat.le_refl _) _).setCell (Nat.le_refl _) _
theorem drawValidNet_any (a : Option Addr) (len cap : Nat) (w : World) (hb : BytesAt w w.heap.size a len) (hl : len ≤ cap) (hs : len ≤ 9223372036854775807) :
    Calls Try.prog 7 #[.slice a len cap] w (DrawnN w) := by
  have hb0 := (Below.refl w.heap.size w).alloc (Nat.le_refl _) (.cells #[.slice none 0 0, .slice none 0 0] 26)
  have ht0 := two_new w (.slice none 0 0) (.slice none 0 0) 26
  obtain ⟨w0, hw0⟩ : ∃ w0, w.alloc (.cells #[.slice none 0 0, .slice none 0 0] 26) = w0 := ⟨_, rfl⟩
  rw [hw0] at hb0 ht0
  have HW0 := Lib.hid hw0
  clear hw0
  go_enter Try.func7, Try.ntmps7
  go_wp2_with fail
  rw [HW0.out]
  refine (newReader_any a len cap w0 (bytes_up hb hb0) hl hs).mono ?_
  rintro e w1 ⟨rfl, hr, hb1⟩
  go_wp2_with fail
  refine (someNet_any w0.heap.size 0 w1 hr (by omega)).mono ?_
  rintro e w2 ⟨d, ts, rows, p2, rfl, h1, h2, h3, hr2, hp2, hg⟩
  have hlt0 := ht0.lt
  have hbb : Below w.heap.size w w2 := hb0.trans (hb1.mono hb0.size |>.trans (grown_below hg (Below.refl _ _) (by have := hb1.size; omega) |>.mono hb0.size))
  have ht2 : Two w2 w.heap.size (.slice none 0 0) (.slice none 0 0) := (ht0.block (hb1.block _ hlt0)).grown hg (by simp; omega)
  obtain ⟨⟨r0, z0⟩, r1, z1⟩ := ht2
  have hfin : DrawnN w (.returned (.agg #[.slice d.aT d.lT d.cT, .slice d.aW d.lW d.cW])) ((w2.setCell ⟨w.heap.size, 0, none⟩ (.slice d.aT d.lT d.cT)).setCell ⟨w.heap.size, 1, none⟩ (.slice d.aW d.lW d.cW)) := by
    refine ⟨d, ts, rows, rfl, h1.to fun b hb => ?_, h2, h3, below_set2 hbb _ _⟩
    have := hb1.size
    refine ⟨by simp only [World.size_setCell]; exact hb.2, ?_⟩
    rw [Below.heap_setCell _ _ _ _ (by show b ≠ w.heap.size; omega), Below.heap_setCell _ _ _ _ (by show b ≠ w.heap.size; omega)]
  have v0 : ((w2.setCell ⟨w.heap.size, 0, none⟩ (.slice d.aT d.lT d.cT)).setCell ⟨w.heap.size, 1, none⟩ (.slice d.aW d.lW d.cW)).cell? ⟨w.heap.size, 0, none⟩ = some (.slice d.aT d.lT d.cT) := ((Two.set0 ⟨⟨r0, z0⟩, r1, z1⟩ _).set1 _).1.1
  have v1 : ((w2.setCell ⟨w.heap.size, 0, none⟩ (.slice d.aT d.lT d.cT)).setCell ⟨w.heap.size, 1, none⟩ (.slice d.aW d.lW d.cW)).cell? ⟨w.heap.size, 1, none⟩ = some (.slice d.aW d.lW d.cW) := ((Two.set0 ⟨⟨r0, z0⟩, r1, z1⟩ _).set1 _).2.1
  have HFIN := Lib.hid hfin
  clear hfin h1 hbb hg hr2 hr hb1 hb0 hb ht0
  go_wp2_with fail
  refine bodyPost_ret (v := .agg #[.slice d.aT d.lT d.cT, .slice d.aW d.lW d.cW]) ?_ rfl HFIN.out
  simp [results, Try.results7, go_sem, v0, v1]
theorem drawIsDead_any (a : Option Addr) (len cap : Nat) (w : World) (hb : BytesAt w w.heap.size a len) (hl : len ≤ cap) (hs : len ≤ 9223372036854775807) :
    Calls Try.prog 13 #[.slice a len cap] w (DrawnN w) := by
  have hb0 := (Below.refl w.heap.size w).alloc (Nat.le_refl _) (.cells #[.slice none 0 0, .slice none 0 0] 26)
  have ht0 := two_new w (.slice none 0 0) (.slice none 0 0) 26
  obtain ⟨w0, hw0⟩ : ∃ w0, w.alloc (.cells #[.slice none 0 0, .slice none 0 0] 26) = w0 := ⟨_, rfl⟩
  rw [hw0] at hb0 ht0
  have HW0 := Lib.hid hw0
  clear hw0
  go_enter Try.func13, Try.ntmps13
  go_wp2_with fail
  rw [HW0.out]
  refine (newReader_any a len cap w0 (bytes_up hb hb0) hl hs).mono ?_
  rintro e w1 ⟨rfl, hr, hb1⟩
  go_wp2_with fail
  refine (someNet_any w0.heap.size 0 w1 hr (by omega)).mono ?_
  rintro e w2 ⟨d, ts, rows, p2, rfl, h1, h2, h3, hr2, hp2, hg⟩
  have hlt0 := ht0.lt
  have hbb : Below w.heap.size w w2 := hb0.trans (hb1.mono hb0.size |>.trans (grown_below hg (Below.refl _ _) (by have := hb1.size; omega) |>.mono hb0.size))
  have ht2 : Two w2 w.heap.size (.slice none 0 0) (.slice none 0 0) := (ht0.block (hb1.block _ hlt0)).grown hg (by simp; omega)
  obtain ⟨⟨r0, z0⟩, r1, z1⟩ := ht2
  have hfin : DrawnN w (.returned (.agg #[.slice d.aT d.lT d.cT, .slice d.aW d.lW d.cW])) ((w2.setCell ⟨w.heap.size, 0, none⟩ (.slice d.aT d.lT d.cT)).setCell ⟨w.heap.size, 1, none⟩ (.slice d.aW d.lW d.cW)) := by
    refine ⟨d, ts, rows, rfl, h1.to fun b hb => ?_, h2, h3, below_set2 hbb _ _⟩
    have := hb1.size
    refine ⟨by simp only [World.size_setCell]; exact hb.2, ?_⟩
    rw [Below.heap_setCell _ _ _ _ (by show b ≠ w.heap.size; omega), Below.heap_setCell _ _ _ _ (by show b ≠ w.heap.size; omega)]
  have v0 : ((w2.setCell ⟨w.heap.size, 0, none⟩ (.slice d.aT d.lT d.cT)).setCell ⟨w.heap.size, 1, none⟩ (.slice d.aW d.lW d.cW)).cell? ⟨w.heap.size, 0, none⟩ = some (.slice d.aT d.lT d.cT) := ((Two.set0 ⟨⟨r0, z0⟩, r1, z1⟩ _).set1 _).1.1
  have v1 : ((w2.setCell ⟨w.heap.size, 0, none⟩ (.slice d.aT d.lT d.cT)).setCell ⟨w.heap.size, 1, none⟩ (.slice d.aW d.lW d.cW)).cell? ⟨w.heap.size, 1, none⟩ = some (.slice d.aW d.lW d.cW) := ((Two.set0 ⟨⟨r0, z0⟩, r1, z1⟩ _).set1 _).2.1
  have HFIN := Lib.hid hfin
  clear hfin h1 hbb hg hr2 hr hb1 hb0 hb ht0
  go_wp2_with fail
  refine bodyPost_ret (v := .agg #[.slice d.aT d.lT d.cT, .slice d.aW d.lW d.cW]) ?_ rfl HFIN.out
  simp [results, Try.results13, go_sem, v0, v1]
theorem rounds_n {n : Int} (h : n ∈ [5, 8, 3, 12, 0, 1, 40, 41]) : ∃ m : Nat, n = (m : Int) ∧ m ≤ 41 := by
  simp at h
  exact ⟨n.toNat, by omega, by omega⟩
end Go.Proofs.Ytiapaddmnbeheaa
