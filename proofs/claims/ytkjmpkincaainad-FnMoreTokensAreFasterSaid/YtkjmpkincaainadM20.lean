import Derived.Test.YtkjmpkincaainadRows
import Derived.WalkKit
import Derived.LoopTactic
import Derived.Outline
import Derived.WalkSpells
import Derived.WalkLawsBesides
import Derived.ProofKit
import Derived.Lib.Hide
import Derived.IntWalk
import Derived.Conc.LoneCalls
import Derived.Conc.SmallLaws
import Derived.Conc.EventLaws
import Derived.Orders
import Derived.Deep.RegionHeld
import Derived.Test.YtkjmpkincaainadM0
import Derived.Test.YtkjmpkincaainadM1
import Derived.Test.YtkjmpkincaainadM6
import Derived.Test.YtkjmpkincaainadM5
import Derived.Test.YtkjmpkincaainadM7
import Derived.Test.YtkjmpkincaainadM10
import Derived.Test.YtkjmpkincaainadM9
import Derived.Test.YtkjmpkincaainadM18
import Derived.Test.YtkjmpkincaainadM19
namespace Go.Proofs.Ytkjmpkincaainad
open Go.Conc Go.RowKit Go.WideShapes

/-- what is handed on of those that are asked for -/
def readyL (p : Nat → Bool) (x : Nat → Int) : Nat → List Int
  | 0 => []
  | k + 1 => if p k then readyL p x k ++ [x k] else readyL p x k
theorem readyL_len (p : Nat → Bool) (x : Nat → Int) (k : Nat) : (readyL p x k).length ≤ k := by
  induction k with
  | zero => exact Nat.le_refl _
  | succ k ih =>
    unfold readyL
    split
    · simp; omega
    · omega
theorem readyL_yes {p : Nat → Bool} {x : Nat → Int} {k : Nat} (h : p k = true) : readyL p x (k + 1) = readyL p x k ++ [x k] := by rw [readyL, if_pos h]
theorem readyL_no {p : Nat → Bool} {x : Nat → Int} {k : Nat} (h : p k = false) : readyL p x (k + 1) = readyL p x k := by rw [readyL, h]; rfl
theorem chan_at {w : World} {c cap s r : Nat} {b b2 : Array Value} {cl cl2 tm : Bool} {s2 r2 : Nat} (h : w.heap[c]? = some (.chan cap b cl s r tm)) : (w.setChan c cap b2 cl2 s2 r2 tm).heap[c]? = some (.chan cap b2 cl2 s2 r2 tm) := by
  have hlt : c < w.heap.size := by
    rcases Nat.lt_or_ge c w.heap.size with h' | h'
    · exact h'
    · rw [Array.getElem?_eq_none h'] at h; cases h
  simp [World.setChan, hlt]
theorem push_map (l : List Int) (x : Int) : ((l.map (Value.int .i64)).toArray).push (.int .i64 x) = ((l ++ [x]).map (Value.int .i64)).toArray := by simp
theorem way_new (w : World) (f t c : Int) (ty : TypeId) : (w.alloc (.cells #[.int .i64 f, .int .i64 t, .int .i64 c] ty)).cell? ⟨w.heap.size, 0, none⟩ = some (.int .i64 f) ∧ (w.alloc (.cells #[.int .i64 f, .int .i64 t, .int .i64 c] ty)).cell? ⟨w.heap.size, 1, none⟩ = some (.int .i64 t) ∧ (w.alloc (.cells #[.int .i64 f, .int .i64 t, .int .i64 c] ty)).cell? ⟨w.heap.size, 2, none⟩ = some (.int .i64 c) :=
  ⟨by rw [World.cell?_alloc_new]; rfl, by rw [World.cell?_alloc_new]; rfl, by rw [World.cell?_alloc_new]; rfl⟩
theorem below_of_grown8 {w w' : World} {B : Nat} (h : w.grownBy w' (some B)) {lo : Nat} (h1 : lo ≤ B) (h2 : lo ≤ w.heap.size) : Below lo w w' := (Below.refl lo w).grown h h2 (fun k e => by cases e; exact h1)
theorem grown_of_below8 {w w' : World} (h : Below w.heap.size w w') (r : Option Nat) : w.grownBy w' r := ⟨h.os, h.tape, h.output, h.size, fun b hb _ => h.block b hb⟩
theorem Try.chanType : Try.prog.underlying 71 = some (.chan .both 3) := by kernel_rfl
theorem run_chan8 (n : Nat) (hn : n ≤ 8) (w : World) : (Instr.makeChan 71 (.int .i64 n)).run Try.prog w = .ok (.chan (some w.heap.size)) (w.alloc (.chan n #[] false 0 0 false)) := by
  have hb : (Try.prog.info? 3).map (·.bytes) = some 8 := by kernel_rfl
  obtain ⟨i, hi⟩ : ∃ i, Try.prog.info? 3 = some i := by
    cases h : Try.prog.info? 3 with
    | some i => exact ⟨i, rfl⟩
    | none => rw [h] at hb; cases hb
  rw [hi] at hb
  have hb2 : i.bytes = 8 := by simpa using hb
  exact run_makeChan Try.chanType hi .i64 n (by omega) (by rw [hb2]; omega)
set_option maxRecDepth 100000 in
set_option maxHeartbeats 8000000 in
theorem tokensFor_any (lo v L C G : Nat) (Br : Nat → Nat) (X : Nat → Nat → Int) (d : NV) (ts : List Int) (rows : List (List Int)) (w : World) (h : NetAt w (· < lo) d ts rows) (hv : tokM ts rows = true) (hlo : lo ≤ w.heap.size) (hvn : v ≤ 1000)
    (hb : BegW w G Br d.lT L X) (hG : G < w.heap.size) (hB : ∀ q, q < L → Br q < w.heap.size) (hL : 1 ≤ L ∧ L ≤ 1000) (hX : ∀ q u, q < L → u < d.lT → 0 ≤ X q u ∧ X q u ≤ 1000000) :
    Calls Try.prog 27 #[.agg #[.slice d.aT d.lT d.cT, .slice d.aW d.lW d.cW], .int .i64 v, .slice (some ⟨G, 0, none⟩) L C] w
      (fun e w' => ∃ c cap s, e = .returned (.chan (some c)) ∧ w.heap.size ≤ c ∧ Below w.heap.size w w' ∧ w'.heap[c]? = some (.chan cap ((readyL (fun q => decide ((grOf ts rows).t q = v)) (fun q => readyV X L ((grOf ts rows).f q) ((grOf ts rows).c q) ((grOf ts rows).tm ((grOf ts rows).f q))) (grOf ts rows).m).map (Value.int .i64)).toArray true s 0 false)) := by
  have HA := Lib.hid (fun w' (hb : Below lo w w') => h.below hb)
  have HWO := Lib.hid (fun w' (hb : Below lo w w') (hsz : lo ≤ w'.heap.size) => waysOf_any d ts rows w' ((h.below hb).to fun b hb' => ⟨Nat.lt_of_lt_of_le hb' hsz, rfl⟩) hv)
  obtain ⟨aT, lT, cT, aW, lW, cW⟩ := d
  have hTL : ts.length = lT := h.t.lenEq
  have hWL : rows.length = lW := h.r.lenEq
  dsimp only at HA HWO hb hX ⊢
  have hok := gr_ok hv
  have HTM := Lib.hid (fun (w' : World) (hb : Below lo w w') (v : Nat) (hv : v < lT) => (show ∃ b off, aT = some ⟨b, off, none⟩ ∧ b < lo ∧ w'.cell? ⟨b, off + v, none⟩ = some (.int .i64 ((grOf ts rows).tm v)) by
    obtain ⟨b, off, x, e, hx, hc⟩ := (HA.out w' hb).t.get hv
    obtain ⟨b2, off2, e2, hb2, _⟩ := (HA.out w' hb).t.cells (by show 0 < lT; omega)
    have e3 : some (⟨b, off, none⟩ : Addr) = some ⟨b2, off2, none⟩ := e.symm.trans e2
    simp only [Option.some.injEq, Addr.mk.injEq, and_true] at e3
    exact ⟨b, off, e, by omega, by rw [hc]; show _ = some (Value.int .i64 (ts.getD v 0)); rw [getD_of hx]⟩))
  have hn : (grOf ts rows).n = lT := hTL
  have hm : (grOf ts rows).m = lW := hWL
  unfold WaysPost at HWO
  rw [hWL] at HWO
  obtain ⟨g, hg⟩ : ∃ g, grOf ts rows = g := ⟨_, rfl⟩
  rw [hg] at hok HTM hn hm HWO ⊢
  have h4 := hok.n4
  have h7 := hok.m7
  rw [hn] at h4
  rw [hm] at h7
  rw [hm]
  have HTI := Lib.hid hok.times
  have HWY := Lib.hid (fun k (hk : k < lW) => (show g.f k < lT ∧ g.t k < lT ∧ g.c k ≤ 3 by have := hok.ways k (by rw [hm]; exact hk); rw [hn] at this; exact this))
  have HBW := Lib.hid (fun w' (hbl : Below w.heap.size w w') => hb.to (w' := w') (fun _ => hbl.block G hG) (fun q hq => hbl.block _ (hB q hq)))
  have HXB := Lib.hid hX
  have HBR := Lib.hid hB
  clear h hv hTL hWL hg hok hn hm hb hX hB
  have hb1 := (Below.refl w.heap.size w).alloc (Nat.le_refl _) (.cells #[.slice aT lT cT, .slice aW lW cW] 26)
  have hn1 := netB_new w aT lT cT aW lW cW 26
  have hz1 : w.heap.size < (w.alloc (.cells #[.slice aT lT cT, .slice aW lW cW] 26)).heap.size := by simp
  obtain ⟨w1, hw1⟩ : ∃ w1, (w.alloc (.cells #[.slice aT lT cT, .slice aW lW cW] 26)) = w1 := ⟨_, rfl⟩
  rw [hw1] at hb1 hn1 hz1
  have HW1 := Lib.hid hw1
  have HZ1 := Lib.hid hz1
  have hb2 := hb1.alloc (by omega) (.chan lW #[] false 0 0 false)
  have hn2 := hn1.block (w' := w1.alloc (.chan lW #[] false 0 0 false)) (Below.heap_alloc _ _ _ hn1.lt)
  have hz2 : w1.heap.size < (w1.alloc (.chan lW #[] false 0 0 false)).heap.size := by simp
  have hc2 : (w1.alloc (.chan lW #[] false 0 0 false)).heap[w1.heap.size]? = some (.chan lW #[] false 0 0 false) := by show (w1.heap.push _)[w1.heap.size]? = _; simp
  obtain ⟨w2, hw2⟩ : ∃ w2, (w1.alloc (.chan lW #[] false 0 0 false)) = w2 := ⟨_, rfl⟩
  rw [hw2] at hb2 hn2 hz2 hc2
  have HW2 := Lib.hid hw2
  have HZ2 := Lib.hid hz2
  have HB2 := Lib.hid hb2
  have HN1 := Lib.hid hn1
  have HN2 := Lib.hid hn2
  have HC2 := Lib.hid hc2
  have hmk := run_chan8 lW (by omega)
  clear hw1 hw2 hb1 hn1 hz1 hb2 hn2 hz2 hc2
  refine calls_runs Try.func27 rfl ?_
  refine runs_step (a1 := ⟨#[.agg #[.slice aT lT cT, .slice aW lW cW], .int .i64 v, .slice (some ⟨G, 0, none⟩) L C, .pointer (some ⟨w.heap.size, 0, none⟩), undef, undef, .chan none, undef, undef, undef, undef, undef, undef, undef, undef, undef, undef, undef, undef, undef, undef, undef, undef, undef, undef, undef, undef, undef, undef, undef, undef, undef, undef, undef, undef, undef, undef, undef], []⟩) (w1 := w1) (by go_wp2_with fail; exact HW1.out) ?_
  refine runs_step (a1 := ⟨#[.agg #[.slice aT lT cT, .slice aW lW cW], .int .i64 v, .slice (some ⟨G, 0, none⟩) L C, .pointer (some ⟨w.heap.size, 0, none⟩), undef, undef, .chan none, .chan (some w1.heap.size), undef, undef, .pointer (some ⟨w.heap.size, 1, none⟩), .slice aW lW cW, .int .i64 lW, .chan (some w1.heap.size), undef, undef, undef, undef, undef, undef, undef, undef, undef, undef, undef, undef, undef, undef, undef, undef, undef, undef, undef, undef, undef, undef, undef, undef], []⟩) (w1 := w2) (by
    obtain ⟨n0, n1⟩ := HN1.out
    dsimp only at n0 n1
    go_wp2_with fail
    exact HW2.out) ?_
  clear hmk
  refine runs_seq (M := fun a' w' => ∃ B w3, ∃ z9 z18 z19 z20 z21 z22 z23 z24 z25 z26 z27 z28 z29 z30 z31 z32 z33 z34 z35 : Value, w2.heap.size ≤ B ∧ B < w3.heap.size ∧ Below w2.heap.size w2 w3 ∧ a' = ⟨#[.agg #[.slice aT lT cT, .slice aW lW cW], .int .i64 v, .slice (some ⟨G, 0, none⟩) L C, .pointer (some ⟨w.heap.size, 0, none⟩), undef, undef, .chan none, .chan (some w1.heap.size), undef, z9, .pointer (some ⟨w.heap.size, 1, none⟩), .slice aW lW cW, .int .i64 lW, .chan (some w1.heap.size), .agg #[.slice aT lT cT, .slice aW lW cW], .slice (some ⟨B, 0, none⟩) lW lW, .int .i64 lW, .int .i64 lW, z18, z19, z20, z21, z22, z23, z24, z25, z26, z27, z28, z29, z30, z31, z32, z33, z34, z35, undef, undef], []⟩ ∧ w3.grownBy w' (some w1.heap.size) ∧ ∃ s, w'.heap[w1.heap.size]? = some (.chan lW ((readyL (fun q => decide (g.t q = v)) (fun q => readyV X L (g.f q) (g.c q) (g.tm (g.f q))) lW).map (Value.int .i64)).toArray false s 0 false)) (runs_seq (M := fun a' w' => ∃ B, a' = ⟨#[.agg #[.slice aT lT cT, .slice aW lW cW], .int .i64 v, .slice (some ⟨G, 0, none⟩) L C, .pointer (some ⟨w.heap.size, 0, none⟩), undef, undef, .chan none, .chan (some w1.heap.size), undef, undef, .pointer (some ⟨w.heap.size, 1, none⟩), .slice aW lW cW, .int .i64 lW, .chan (some w1.heap.size), .agg #[.slice aT lT cT, .slice aW lW cW], .slice (some ⟨B, 0, none⟩) lW lW, .int .i64 lW, .int .i64 0, undef, undef, undef, undef, undef, undef, undef, undef, undef, undef, undef, undef, undef, undef, undef, undef, undef, undef, undef, undef], []⟩ ∧ Below w2.heap.size w2 w' ∧ w2.heap.size ≤ B ∧ B < w'.heap.size ∧ WaysB w' B lW (fun k => (g.f k : Int)) (fun k => (g.t k : Int)) (fun k => (g.c k : Int))) (runs_wp ?_) ?_) ?_
  · obtain ⟨n0, n1⟩ := HN2.out
    dsimp only at n0 n1
    go_wp2_with fail
    have hz2 := HZ2.out
    have hz1 := HZ1.out
    refine (HWO.out w2 (HB2.out.mono hlo) (by omega)).mono ?_
    rintro e w3 ⟨hb3, B, rfl, hBB, hB3, hJ⟩
    go_wp2_with fail
    exact ⟨B, rfl, hb3, hBB, hB3, hJ⟩
  · rintro a' w3 ⟨B, rfl, hb3, hB2, hB3, hJ⟩
    have HJ := Lib.hid hJ
    have HB3 := Lib.hid hb3
    have hz2 := HZ2.out
    have hz1 := HZ1.out
    have hz3 := hb3.size
    have HC3 := Lib.hid ((hb3.block w1.heap.size (by omega)).trans HC2.out)
    have HN3 := Lib.hid (HN2.out.below hb3 (by omega))
    clear hJ hb3
    refine runs_block (runs_loop (I := fun n a' w' => ∃ k : Nat, n = lW - k ∧ k ≤ lW ∧ ∃ z9 z18 z19 z20 z21 z22 z23 z24 z25 z26 z27 z28 z29 z30 z31 z32 z33 z34 z35 : Value, a' = ⟨#[.agg #[.slice aT lT cT, .slice aW lW cW], .int .i64 v, .slice (some ⟨G, 0, none⟩) L C, .pointer (some ⟨w.heap.size, 0, none⟩), undef, undef, .chan none, .chan (some w1.heap.size), undef, z9, .pointer (some ⟨w.heap.size, 1, none⟩), .slice aW lW cW, .int .i64 lW, .chan (some w1.heap.size), .agg #[.slice aT lT cT, .slice aW lW cW], .slice (some ⟨B, 0, none⟩) lW lW, .int .i64 lW, .int .i64 k, z18, z19, z20, z21, z22, z23, z24, z25, z26, z27, z28, z29, z30, z31, z32, z33, z34, z35, undef, undef], []⟩ ∧ w3.grownBy w' (some w1.heap.size) ∧ ∃ s, w'.heap[w1.heap.size]? = some (.chan lW ((readyL (fun q => decide (g.t q = v)) (fun q => readyV X L (g.f q) (g.c q) (g.tm (g.f q))) k).map (Value.int .i64)).toArray false s 0 false)) lW ?_ ?_)
    · exact ⟨0, rfl, Nat.zero_le _, undef, undef, undef, undef, undef, undef, undef, undef, undef, undef, undef, undef, undef, undef, undef, undef, undef, undef, undef, rfl, (World.grownBy.refl _ _), 0, HC3.out⟩
    · rintro n a' wi ⟨k, rfl, hk, z9, z18, z19, z20, z21, z22, z23, z24, z25, z26, z27, z28, z29, z30, z31, z32, z33, z34, z35, rfl, hgr, s, hch⟩
      have HGR := Lib.hid hgr
      have HCH := Lib.hid hch
      clear hch
      have hsz := hgr.size
      by_cases hkl : k < lW
      · have hkI : (k : Int) < (lW : Int) := by omega
        obtain ⟨g0, g1, g2⟩ := (HJ.out.block (w' := wi) (hgr.block B hB3 (by simp; omega))).at hkl
        have hn4 := (HN3.out.block (w' := wi) (hgr.block _ (by omega) (by simp; omega)))
        have hn4 := hn4.block (w' := (wi.alloc (.cells #[.int .i64 (g.f k), .int .i64 (g.t k), .int .i64 (g.c k)] 75))) (Below.heap_alloc _ _ _ hn4.lt)
        have hway := way_new wi (g.f k) (g.t k) (g.c k) 75
        have hgr4 := grown_alloc hgr (.cells #[.int .i64 (g.f k), .int .i64 (g.t k), .int .i64 (g.c k)] 75)
        have hch4 := (show ((wi.alloc (.cells #[.int .i64 (g.f k), .int .i64 (g.t k), .int .i64 (g.c k)] 75))).heap[w1.heap.size]? = _ from (Below.heap_alloc _ _ _ (by omega)).trans HCH.out)
        have hbl := HB2.out.trans ((HB3.out.mono (by omega)).trans (below_of_grown8 (lo := w.heap.size) hgr4 (by omega) (by omega)))
        obtain ⟨w4, hw4⟩ : ∃ w4, (wi.alloc (.cells #[.int .i64 (g.f k), .int .i64 (g.t k), .int .i64 (g.c k)] 75)) = w4 := ⟨_, rfl⟩
        rw [hw4] at hn4 hway hgr4 hch4 hbl
        have HW4 := Lib.hid hw4
        have HN4 := Lib.hid hn4
        have HWAY := Lib.hid hway
        have HGR4 := Lib.hid hgr4
        have HCH4 := Lib.hid hch4
        have HBL := Lib.hid hbl
        have hz4 := hgr4.size
        clear hw4 hn4 hway hgr hgr4 hch4 hbl HGR HCH
        obtain ⟨hf, ht, hc⟩ := HWY.out k hkl
        have HYES := Lib.hid (@readyL_yes (fun q => decide (g.t q = v)) (fun q => readyV X L (g.f q) (g.c q) (g.tm (g.f q))) k)
        have HNO := Lib.hid (@readyL_no (fun q => decide (g.t q = v)) (fun q => readyV X L (g.f q) (g.c q) (g.tm (g.f q))) k)
        have HLEN := Lib.hid (readyL_len (fun q => decide (g.t q = v)) (fun q => readyV X L (g.f q) (g.c q) (g.tm (g.f q))) k)
        have HXK := Lib.hid (fun q (hq : q < L) => HXB.out q (g.f k) hq hf)
        have hti := HTI.out (g.f k)
        have HRA := Lib.hid (fun w' (hS : Below w4.heap.size w4 w') => readyAt_any G lT L C (g.f k) (g.c k) (g.t k) (g.tm (g.f k)) Br X w' (HBW.out w' (HBL.out.trans (hS.mono (by omega)))) (by have := hS.size; omega) (fun q hq => by have := hS.size; have := HBR.out q hq; omega) hf (by omega) hL (by omega) HXK.out (by omega))
        obtain ⟨y, hy⟩ : ∃ y, readyV X L (g.f k) (g.c k) (g.tm (g.f k)) = y := ⟨_, rfl⟩
        rw [hy] at HRA HYES
        clear hy
        refine runs_step (a1 := ⟨#[.agg #[.slice aT lT cT, .slice aW lW cW], .int .i64 v, .slice (some ⟨G, 0, none⟩) L C, .pointer (some ⟨w.heap.size, 0, none⟩), undef, undef, .chan none, .chan (some w1.heap.size), undef, z9, .pointer (some ⟨w.heap.size, 1, none⟩), .slice aW lW cW, .int .i64 lW, .chan (some w1.heap.size), .agg #[.slice aT lT cT, .slice aW lW cW], .slice (some ⟨B, 0, none⟩) lW lW, .int .i64 lW, .int .i64 k, .bool true, z19, z20, z21, z22, z23, z24, z25, z26, z27, z28, z29, z30, z31, z32, z33, z34, z35, undef, undef], []⟩) (w1 := wi) (by go_wp2_with fail <;> try rfl) ?_
        refine runs_step (a1 := ⟨#[.agg #[.slice aT lT cT, .slice aW lW cW], .int .i64 v, .slice (some ⟨G, 0, none⟩) L C, .pointer (some ⟨w.heap.size, 0, none⟩), undef, undef, .chan none, .chan (some w1.heap.size), undef, z9, .pointer (some ⟨w.heap.size, 1, none⟩), .slice aW lW cW, .int .i64 lW, .chan (some w1.heap.size), .agg #[.slice aT lT cT, .slice aW lW cW], .slice (some ⟨B, 0, none⟩) lW lW, .int .i64 lW, .int .i64 k, .bool true, z19, z20, z21, z22, z23, z24, z25, z26, z27, z28, z29, z30, z31, z32, z33, z34, z35, undef, undef], []⟩) (w1 := wi) (by go_wp2_with fail <;> try rfl) ?_
        refine runs_seq (M := fun a' w' => ∃ z9 z18 z19 z20 z21 z22 z23 z24 z25 z26 z27 z28 z29 z30 z31 z32 z33 z34 z35 : Value, a' = ⟨#[.agg #[.slice aT lT cT, .slice aW lW cW], .int .i64 v, .slice (some ⟨G, 0, none⟩) L C, .pointer (some ⟨w.heap.size, 0, none⟩), undef, undef, .chan none, .chan (some w1.heap.size), undef, z9, .pointer (some ⟨w.heap.size, 1, none⟩), .slice aW lW cW, .int .i64 lW, .chan (some w1.heap.size), .agg #[.slice aT lT cT, .slice aW lW cW], .slice (some ⟨B, 0, none⟩) lW lW, .int .i64 lW, .int .i64 k, z18, z19, z20, z21, z22, z23, z24, z25, z26, z27, z28, z29, z30, z31, z32, z33, z34, z35, undef, undef], []⟩ ∧ w3.grownBy w' (some w1.heap.size) ∧ ∃ s, w'.heap[w1.heap.size]? = some (.chan lW ((readyL (fun q => decide (g.t q = v)) (fun q => readyV X L (g.f q) (g.c q) (g.tm (g.f q))) (k + 1)).map (Value.int .i64)).toArray false s 0 false)) (runs_block (runs_step (a1 := ⟨#[.agg #[.slice aT lT cT, .slice aW lW cW], .int .i64 v, .slice (some ⟨G, 0, none⟩) L C, .pointer (some ⟨w.heap.size, 0, none⟩), undef, undef, .chan none, .chan (some w1.heap.size), undef, .pointer (some ⟨wi.heap.size, 0, none⟩), .pointer (some ⟨w.heap.size, 1, none⟩), .slice aW lW cW, .int .i64 lW, .chan (some w1.heap.size), .agg #[.slice aT lT cT, .slice aW lW cW], .slice (some ⟨B, 0, none⟩) lW lW, .int .i64 lW, .int .i64 k, .bool true, .pointer (some ⟨B, k * 3, none⟩), .agg #[.int .i64 (g.f k), .int .i64 (g.t k), .int .i64 (g.c k)], z21, z22, z23, z24, z25, z26, z27, z28, z29, z30, z31, z32, z33, z34, z35, undef, undef], []⟩) (w1 := w4) (by go_wp2_with fail; exact HW4.out) ?_)) ?_
        · clear g0 g1 g2
          obtain ⟨k0, k1, k2⟩ := HWAY.out
          by_cases hp : g.t k = v
          · have hpd : (fun q => decide (g.t q = v)) k = true := decide_eq_true hp
            refine runs_step (a1 := ⟨#[.agg #[.slice aT lT cT, .slice aW lW cW], .int .i64 v, .slice (some ⟨G, 0, none⟩) L C, .pointer (some ⟨w.heap.size, 0, none⟩), undef, undef, .chan none, .chan (some w1.heap.size), undef, .pointer (some ⟨wi.heap.size, 0, none⟩), .pointer (some ⟨w.heap.size, 1, none⟩), .slice aW lW cW, .int .i64 lW, .chan (some w1.heap.size), .agg #[.slice aT lT cT, .slice aW lW cW], .slice (some ⟨B, 0, none⟩) lW lW, .int .i64 lW, .int .i64 k, .bool true, .pointer (some ⟨B, k * 3, none⟩), .agg #[.int .i64 (g.f k), .int .i64 (g.t k), .int .i64 (g.c k)], .pointer (some ⟨wi.heap.size, 1, none⟩), .int .i64 (g.t k), .int .i64 v, .bool true, z25, z26, z27, z28, z29, z30, z31, z32, z33, z34, z35, undef, undef], []⟩) (w1 := w4) (by rw [hp] at k1; go_wp2_with fail <;> rw [hp]) ?_
            have HS := Lib.hid (HYES.out hpd)
            have hfI : ((g.f k : Nat) : Int) < (lT : Int) := by omega
            clear hp hpd k0 k1 k2 HYES HNO
            refine runs_cond (t := true) rfl ?_
            rw [if_pos rfl]
            obtain ⟨bt, ot, haT, hbt, _⟩ := HTM.out w4 (HBL.out.mono hlo) (g.f k) hf
            have HL := Lib.hid (fun w' (hS : Below w4.heap.size w4 w') => (show (w'.cell? ⟨w.heap.size, 0, none⟩ = some (.slice (some ⟨bt, ot, none⟩) lT cT) ∧ w'.cell? ⟨w.heap.size, 1, none⟩ = some (.slice aW lW cW) ∧ w'.cell? ⟨wi.heap.size, 0, none⟩ = some (.int .i64 (g.f k)) ∧ w'.cell? ⟨wi.heap.size, 1, none⟩ = some (.int .i64 (g.t k)) ∧ w'.cell? ⟨wi.heap.size, 2, none⟩ = some (.int .i64 (g.c k)) ∧ w'.cell? ⟨bt, ot + g.f k, none⟩ = some (.int .i64 (g.tm (g.f k)))) by
              obtain ⟨m0, m1⟩ := HN4.out.below hS HN4.out.lt
              obtain ⟨k0, k1, k2⟩ := HWAY.out
              have hlt : wi.heap.size < w4.heap.size := World.block_lt_of_cell? w4 _ k0
              have hq := hS.block wi.heap.size hlt
              obtain ⟨b', o', e', _, hd⟩ := HTM.out w' ((HBL.out.trans (hS.mono (by omega))).mono hlo) (g.f k) hf
              rw [haT] at e'
              simp only [Option.some.injEq, Addr.mk.injEq, and_true] at e'
              obtain ⟨e1, e2⟩ := e'
              rw [← e1, ← e2] at hd
              exact ⟨by rw [← haT]; exact m0, m1, cell_same hq k0, cell_same hq k1, cell_same hq k2, hd⟩))
            refine runs_held (.tmp 34) (s := 10) (M := fun a' w' => a' = ⟨#[.agg #[.slice aT lT cT, .slice aW lW cW], .int .i64 v, .slice (some ⟨G, 0, none⟩) L C, .pointer (some ⟨w.heap.size, 0, none⟩), undef, undef, .chan none, .chan (some w1.heap.size), undef, .pointer (some ⟨wi.heap.size, 0, none⟩), .pointer (some ⟨w.heap.size, 1, none⟩), .slice aW lW cW, .int .i64 lW, .chan (some w1.heap.size), .agg #[.slice aT lT cT, .slice aW lW cW], .slice (some ⟨B, 0, none⟩) lW lW, .int .i64 lW, .int .i64 k, .bool true, .pointer (some ⟨B, k * 3, none⟩), .agg #[.int .i64 (g.f k), .int .i64 (g.t k), .int .i64 (g.c k)], .pointer (some ⟨wi.heap.size, 1, none⟩), .int .i64 (g.t k), .int .i64 v, .bool true, .chan (some w1.heap.size), .agg #[.int .i64 (g.f k), .int .i64 (g.t k), .int .i64 (g.c k)], .pointer (some ⟨w.heap.size, 0, none⟩), .slice (some ⟨bt, ot, none⟩) lT cT, .pointer (some ⟨wi.heap.size, 0, none⟩), .int .i64 (g.f k), .pointer (some ⟨bt, ot + g.f k, none⟩), .int .i64 (g.tm (g.f k)), .slice (some ⟨G, 0, none⟩) L C, .int .i64 y, z35, undef, undef], []⟩ ∧ Below w4.heap.size w4 w') (by kernel_rfl) rfl (last_all (fun i => #[10, 9, 3, 6, 5, 6, 7, 9, 9, 10].getD i 0) rfl (by kernel_rfl)) (by kernel_rfl) (by kernel_rfl) (S := fun w' => Below w4.heap.size w4 w') (Below.refl _ _).drew (fun hHeld => ?_) ?_
            · simp only [List.setIfInBounds_toArray, List.set_cons_zero, List.set_cons_succ, List.getElem_toArray, List.getElem_cons_succ, List.getElem_cons_zero]
              refine wpAnyH_take (i := 0) (v := .chan (some w1.heap.size)) rfl (by kernel_rfl) (by kernel_rfl) (by kernel_rfl) (fun _ _ _ h => h) (Or.inl ⟨by rfl, ?_⟩) hHeld ?_
              · rintro w' hS; go_simp
              try simp only [Act.put, List.setIfInBounds_toArray, List.set_cons_zero, List.set_cons_succ, List.getElem_toArray, List.getElem_cons_zero]
              refine wpAnyH_take (i := 1) (v := .agg #[.int .i64 (g.f k), .int .i64 (g.t k), .int .i64 (g.c k)]) rfl (by kernel_rfl) (by kernel_rfl) (by kernel_rfl) (fun _ _ _ h => h) (Or.inl ⟨by rfl, ?_⟩) hHeld ?_
              · rintro w' hS; obtain ⟨n0, n1, k0, k1, k2, dt⟩ := HL.out w' hS; go_simp
              try simp only [Act.put, List.setIfInBounds_toArray, List.set_cons_zero, List.set_cons_succ, List.getElem_toArray, List.getElem_cons_succ, List.getElem_cons_zero]
              refine wpAnyH_take (i := 2) (v := .pointer (some ⟨w.heap.size, 0, none⟩)) rfl (by kernel_rfl) (by kernel_rfl) (by kernel_rfl) (fun _ _ _ h => h) (Or.inl ⟨by rfl, ?_⟩) hHeld ?_
              · rintro w' hS; go_simp
              try simp only [Act.put, List.setIfInBounds_toArray, List.set_cons_zero, List.set_cons_succ, List.getElem_toArray, List.getElem_cons_succ, List.getElem_cons_zero]
              refine wpAnyH_take (i := 3) (v := .slice (some ⟨bt, ot, none⟩) lT cT) rfl (by kernel_rfl) (by kernel_rfl) (by kernel_rfl) (fun _ _ _ h => h) (Or.inl ⟨by rfl, ?_⟩) hHeld ?_
              · rintro w' hS; obtain ⟨n0, n1, k0, k1, k2, dt⟩ := HL.out w' hS; go_simp
              try simp only [Act.put, List.setIfInBounds_toArray, List.set_cons_zero, List.set_cons_succ, List.getElem_toArray, List.getElem_cons_succ, List.getElem_cons_zero]
              refine wpAnyH_take (i := 4) (v := .pointer (some ⟨wi.heap.size, 0, none⟩)) rfl (by kernel_rfl) (by kernel_rfl) (by kernel_rfl) (fun _ _ _ h => h) (Or.inl ⟨by rfl, ?_⟩) hHeld ?_
              · rintro w' hS; go_simp
              try simp only [Act.put, List.setIfInBounds_toArray, List.set_cons_zero, List.set_cons_succ, List.getElem_toArray, List.getElem_cons_succ, List.getElem_cons_zero]
              refine wpAnyH_take (i := 5) (v := .int .i64 (g.f k)) rfl (by kernel_rfl) (by kernel_rfl) (by kernel_rfl) (fun _ _ _ h => h) (Or.inl ⟨by rfl, ?_⟩) hHeld ?_
              · rintro w' hS; obtain ⟨n0, n1, k0, k1, k2, dt⟩ := HL.out w' hS; go_simp
              try simp only [Act.put, List.setIfInBounds_toArray, List.set_cons_zero, List.set_cons_succ, List.getElem_toArray, List.getElem_cons_succ, List.getElem_cons_zero]
              refine wpAnyH_take (i := 6) (v := .pointer (some ⟨bt, ot + g.f k, none⟩)) rfl (by kernel_rfl) (by kernel_rfl) (by kernel_rfl) (fun _ _ _ h => h) (Or.inl ⟨by rfl, ?_⟩) hHeld ?_
              · rintro w' hS; go_simp
              try simp only [Act.put, List.setIfInBounds_toArray, List.set_cons_zero, List.set_cons_succ, List.getElem_toArray, List.getElem_cons_succ, List.getElem_cons_zero]
              refine wpAnyH_take (i := 7) (v := .int .i64 (g.tm (g.f k))) rfl (by kernel_rfl) (by kernel_rfl) (by kernel_rfl) (fun _ _ _ h => h) (Or.inl ⟨by rfl, ?_⟩) hHeld ?_
              · rintro w' hS; obtain ⟨n0, n1, k0, k1, k2, dt⟩ := HL.out w' hS; go_simp
              try simp only [Act.put, List.setIfInBounds_toArray, List.set_cons_zero, List.set_cons_succ, List.getElem_toArray, List.getElem_cons_succ, List.getElem_cons_zero]
              refine wpAnyH_take (i := 8) (v := .slice (some ⟨G, 0, none⟩) L C) rfl (by kernel_rfl) (by kernel_rfl) (by kernel_rfl) (fun _ _ _ h => h) (Or.inl ⟨by rfl, ?_⟩) hHeld ?_
              · rintro w' hS; go_simp
              try simp only [Act.put, List.setIfInBounds_toArray, List.set_cons_zero, List.set_cons_succ, List.getElem_toArray, List.getElem_cons_succ, List.getElem_cons_zero]
              refine wpAnyH_ready (rs := [9]) (by kernel_rfl) (by simp) ?_
              refine AllReadyH.cons (o := _) rfl (fun K hK => ?_) AllReadyH.nil
              go_simp
              go_at_call 52
              refine (HRA.out _ hHeld).mono ?_
              rintro e wy ⟨rfl, hy⟩
              have HY := Lib.hid (hHeld.trans (hy.mono hHeld.size))
              clear hy
              refine hK.out _ _ HY.out (fun hHeld => ?_)
              clear hK K
              try simp only [Act.put, List.setIfInBounds_toArray, List.set_cons_zero, List.set_cons_succ, List.getElem_toArray, List.getElem_cons_succ, List.getElem_cons_zero]
              refine wpAnyH_take (i := 10) (v := .int .i64 y) rfl (by kernel_rfl) (by kernel_rfl) (by kernel_rfl) (fun _ _ _ h => h) (Or.inl ⟨by rfl, ?_⟩) hHeld ?_
              · rintro w' hS; go_simp
              try simp only [Act.put, List.getElem_toArray, List.getElem_cons_succ, List.getElem_cons_zero]
              refine wpAnyH_done (by kernel_rfl) ?_ _
              exact ⟨by rw [haT], HY.out⟩
            · rintro a' w6 ⟨rfl, hb6⟩
              have hch6 := (hb6.block w1.heap.size (by omega)).trans HCH4.out
              refine runsO_send (v := .int .i64 y) (z := .tuple #[]) rfl rfl ?_ hch6 ?_ ?_
              · simp [go_sem, scase]
              · have := HLEN.out
                simp; omega
              · refine runsO_nil ?_
                rw [push_map, ← HS.out]
                exact ⟨.pointer (some ⟨wi.heap.size, 0, none⟩), .bool true, .pointer (some ⟨B, k * 3, none⟩), .agg #[.int .i64 (g.f k), .int .i64 (g.t k), .int .i64 (g.c k)], .pointer (some ⟨wi.heap.size, 1, none⟩), .int .i64 (g.t k), .int .i64 v, .bool true, .chan (some w1.heap.size), .agg #[.int .i64 (g.f k), .int .i64 (g.t k), .int .i64 (g.c k)], .pointer (some ⟨w.heap.size, 0, none⟩), .slice (some ⟨bt, ot, none⟩) lT cT, .pointer (some ⟨wi.heap.size, 0, none⟩), .int .i64 (g.f k), .pointer (some ⟨bt, ot + g.f k, none⟩), .int .i64 (g.tm (g.f k)), .slice (some ⟨G, 0, none⟩) L C, .int .i64 y, z35, rfl, grown_setChan (grown_comp HGR4.out (grown_of_below8 hb6 _)), _, chan_at hch6⟩
          · have hpd : (fun q => decide (g.t q = v)) k = false := decide_eq_false hp
            have hpI : ¬ ((g.t k : Nat) : Int) = (v : Int) := by omega
            refine runs_step (a1 := ⟨#[.agg #[.slice aT lT cT, .slice aW lW cW], .int .i64 v, .slice (some ⟨G, 0, none⟩) L C, .pointer (some ⟨w.heap.size, 0, none⟩), undef, undef, .chan none, .chan (some w1.heap.size), undef, .pointer (some ⟨wi.heap.size, 0, none⟩), .pointer (some ⟨w.heap.size, 1, none⟩), .slice aW lW cW, .int .i64 lW, .chan (some w1.heap.size), .agg #[.slice aT lT cT, .slice aW lW cW], .slice (some ⟨B, 0, none⟩) lW lW, .int .i64 lW, .int .i64 k, .bool true, .pointer (some ⟨B, k * 3, none⟩), .agg #[.int .i64 (g.f k), .int .i64 (g.t k), .int .i64 (g.c k)], .pointer (some ⟨wi.heap.size, 1, none⟩), .int .i64 (g.t k), .int .i64 v, .bool false, z25, z26, z27, z28, z29, z30, z31, z32, z33, z34, z35, undef, undef], []⟩) (w1 := w4) (by go_wp2_with fail <;> try rfl) ?_
            have HS := Lib.hid (HNO.out hpd)
            clear hp hpd hpI k0 k1 k2 HYES HNO
            refine runs_cond (t := false) rfl ?_
            rw [if_neg (by simp)]
            refine runs_wp ?_
            go_wp2_with fail
            rw [HS.out]
            exact ⟨.pointer (some ⟨wi.heap.size, 0, none⟩), .bool true, .pointer (some ⟨B, k * 3, none⟩), .agg #[.int .i64 (g.f k), .int .i64 (g.t k), .int .i64 (g.c k)], .pointer (some ⟨wi.heap.size, 1, none⟩), .int .i64 (g.t k), .int .i64 v, .bool false, z25, z26, z27, z28, z29, z30, z31, z32, z33, z34, z35, rfl, HGR4.out, s, HCH4.out⟩
        · rintro a' w6 ⟨z9, z18, z19, z20, z21, z22, z23, z24, z25, z26, z27, z28, z29, z30, z31, z32, z33, z34, z35, rfl, hgr6, s6, hch6⟩
          have HG6 := Lib.hid hgr6
          have HC6 := Lib.hid hch6
          clear hgr6 hch6
          refine runs_wp ?_
          go_wp2_with fail
          exact ⟨lW - (k + 1), by omega, k + 1, rfl, by omega, z9, z18, z19, z20, z21, z22, z23, z24, z25, z26, z27, z28, z29, z30, z31, z32, z33, z34, .int .i64 ((k : Int) + 1), rfl, HG6.out, s6, HC6.out⟩
      · obtain rfl : k = lW := by omega
        have hkI : ¬ (k : Int) < (k : Int) := by omega
        refine runs_wp ?_
        go_wp2_with fail
        exact ⟨B, hB2, w3, hB3, HB3.out, rfl, HGR.out, s, HCH.out⟩
  · rintro a' we ⟨B, w3, z9, z18, z19, z20, z21, z22, z23, z24, z25, z26, z27, z28, z29, z30, z31, z32, z33, z34, z35, hB2, hB3, hb3, rfl, hgr, s, hch⟩
    refine runs_wp ?_
    have HGR := Lib.hid hgr
    have HB3 := Lib.hid hb3
    have hcl := run_close_open (P := Try.prog) (w := we) #[71] 0 hch
    have HCH := Lib.hid hch
    clear hgr hb3 hch
    go_wp2_with fail
    go_ret
    have hz1 := HZ1.out
    have hz2 := HZ2.out
    have hz3 := HB3.out.size
    exact ⟨w1.heap.size, lW, s, rfl, by omega, HB2.out.trans ((HB3.out.mono (by omega)).trans (below_of_grown8 (grown_setChan HGR.out) (by omega) (by omega))), chan_at HCH.out⟩
end Go.Proofs.Ytkjmpkincaainad
