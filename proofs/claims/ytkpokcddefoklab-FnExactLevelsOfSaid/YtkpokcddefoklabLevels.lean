import Derived.Test.YtkpokcddefoklabRows
import Derived.RangeFuncNested
import Derived.RangeFuncBound
import Derived.RangeFuncCalls
import Derived.RangeFuncLeaves
import Derived.Shelf.Abstract
import Derived.Shelf.RegionOpen
import Derived.WalkKit
import Derived.Outline
import Derived.OwnWalkIn
import Derived.TacticsInMore
import Derived.LoopNIn
import Derived.LoopIn
import Derived.IntWalk
import Derived.StillTailTactics
import Derived.Deep.OwnRows
import Derived.Test.YtkpokcddefoklabLib
import Derived.Test.YtkpokcddefoklabCountM
import Derived.Test.YtkpokcddefoklabLevM
import Derived.Test.YtkpokcddefoklabParts
import Derived.Test.YtkpokcddefoklabRound
import Derived.Test.YtkpokcddefoklabVb
namespace Go.Proofs.Ytkpokcddefoklab
open Go.RowKit Go.Shelf Go.Deep

attribute [local go_sem] Oper.semAt_some

theorem Try.infoIntL : (Try.prog.info? 3).map (fun i => (i.zero, i.size, i.bytes)) = some (some (.int .i64 0), 1, 8) := by kernel_rfl

/-- the levels in the making: those below i are done, that of i is at part -/
structure LevInv (w wr : World) (rows : List (List Int)) (len i : Nat) (part : Int) : Prop where
  box : wr.cell? ⟨w.heap.size + 1, 0, none⟩ = some (.slice (some ⟨w.heap.size, 0, none⟩) len len)
  cells : ∀ q, q < len → wr.cell? ⟨w.heap.size, q, none⟩ = some (.int .i64 (if q < i then lev rows q else if q = i then part else 0)) ∧ wr.frozen? ⟨w.heap.size, q, none⟩ = false
  below : Below w.heap.size w wr
theorem LevInv.kept {w a b : World} {rows : List (List Int)} {len i : Nat} {part : Int} (h : LevInv w a rows len i part) {row : Option Nat} (hg : a.grownBy b row) (hr : ∀ r, row = some r → w.heap.size ≤ r ∧ ∃ o : Obj, a.heap[r]? = some o ∧ o.isCells = false) : LevInv w b rows len i part :=
  ⟨cell_kept h.box hg (fun r e => (hr r e).2), fun q hq => ⟨cell_kept (h.cells q hq).1 hg (fun r e => (hr r e).2), (frozen_kept (h.cells q hq).1 hg (fun r e => (hr r e).2)).trans (h.cells q hq).2⟩,
    h.below.grown hg h.below.size (fun k e => (hr k e).1)⟩
theorem LevInv.alloc {w a : World} {rows : List (List Int)} {len i : Nat} {part : Int} (h : LevInv w a rows len i part) (o : Obj) : LevInv w (a.alloc o) rows len i part :=
  h.kept (World.grownBy_alloc a o none) (fun r e => by cases e)
theorem LevInv.next {w a : World} {rows : List (List Int)} {len i : Nat} {part : Int} (h : LevInv w a rows len i part) (hp : part = lev rows i) : LevInv w a rows len (i + 1) 0 := by
  refine ⟨h.box, fun q hq => ⟨?_, (h.cells q hq).2⟩, h.below⟩
  rw [(h.cells q hq).1]
  congr 2
  by_cases h1 : q < i
  · rw [if_pos h1, if_pos (by omega)]
  · by_cases h2 : q = i
    · subst h2; rw [if_neg h1, if_pos rfl, if_pos (by omega), hp]
    · rw [if_neg h1, if_neg h2, if_neg (by omega)]; split <;> rfl
theorem LevInv.put {w a : World} {rows : List (List Int)} {len i : Nat} {part v : Int} (h : LevInv w a rows len i part) (hi : i < len) : LevInv w (a.drew.setCell ⟨w.heap.size, i, none⟩ (.int .i64 v)) rows len i v := by
  refine ⟨?_, fun q hq => ⟨?_, ?_⟩, h.below.drew.setCell (Nat.le_refl _) _⟩
  · rw [World.cell?_setCell_other _ _ _ _ (by intro e; injection e; omega)]; exact h.box
  · by_cases e : q = i
    · subst e
      rw [if_neg (by omega), if_pos rfl]
      exact World.cell?_setCell_same _ _ _ (h.cells q hq).1
    · rw [World.cell?_setCell_other _ _ _ _ (by intro e'; injection e'; omega)]
      have := (h.cells q hq).1
      rw [if_neg e] at this ⊢
      exact this
  · rw [World.frozen?_setCell]; exact (h.cells q hq).2
theorem lev_close {w W : World} {rows : List (List Int)} {len k s : Nat} {part v t : Int} {Ds : List Nat} {u : Value} (h : LevInv w W rows len k part) (hm : Marks W w.heap.size Ds) (hk : k < len)
    (hi : W.cell? ⟨s, 0, none⟩ = some u) (hs : w.heap.size < s) (ht : t = v) :
    KeepsOthers W (W.setCell ⟨w.heap.size, k, none⟩ (.int .i64 v)).drew ∧ Below w.heap.size W (W.setCell ⟨w.heap.size, k, none⟩ (.int .i64 v)).drew ∧
      ((W.setCell ⟨w.heap.size, k, none⟩ (.int .i64 v)).drew.cell? ⟨s, 0, none⟩ = some u ∧ LevInv w (W.setCell ⟨w.heap.size, k, none⟩ (.int .i64 v)).drew rows len k t ∧ Marks (W.setCell ⟨w.heap.size, k, none⟩ (.int .i64 v)).drew w.heap.size Ds) := by
  subst ht
  refine ⟨(KeepsOthers.setCell _ _ _).trans (KeepsOthers.drew _), ((Below.refl w.heap.size W).setCell (p := ⟨w.heap.size, k, none⟩) (Nat.le_refl _) _).drew, ?_, h.put hk, ?_⟩
  · show (W.setCell ⟨w.heap.size, k, none⟩ (.int .i64 t)).cell? ⟨s, 0, none⟩ = some u
    rw [World.cell?_setCell_other _ _ _ _ (by intro e; injection e; omega)]; exact hi
  · exact (hm.setCell (u := .int .i64 t) (h.cells k hk).1).kept (fun _ _ hx => hx)
theorem levInv_start (w : World) (rows : List (List Int)) (len : Nat) (t t' : TypeId) :
    LevInv w ((w.alloc (.cells (madeCells #[.int .i64 0] len) t)).alloc (.cells #[.slice (some ⟨w.heap.size, 0, none⟩) len len] t')) rows len 0 0 := by
  have h1 := cell_new_l (w.alloc (.cells (madeCells #[.int .i64 0] len) t)) (.slice (some ⟨w.heap.size, 0, none⟩) len len) t'
  rw [World.size_alloc] at h1
  refine ⟨h1.1, fun q hq => ?_, ((Below.refl _ w).alloc (Nat.le_refl _) _).alloc (by simp) _⟩
  have hc : (w.alloc (.cells (madeCells #[.int .i64 0] len) t)).cell? ⟨w.heap.size, q, none⟩ = some (.int .i64 0) := by
    rw [World.cell?_alloc_new]; simp [madeCells, hq, Nat.mod_one]
  refine ⟨?_, ?_⟩
  · rw [World.cell?_alloc_lt _ _ _ (show w.heap.size < (w.alloc (.cells (madeCells #[.int .i64 0] len) t)).heap.size by simp), hc]
    congr 2
    rw [if_neg (by omega)]; split <;> rfl
  · rw [World.frozen?_alloc_past _ _ _ (by simp)]
    exact World.frozen?_alloc_new w _ _ _

/-- the levels, in one new block -/
def LevPost (w : World) (rows : List (List Int)) (len : Nat) (e : Ending) (w' : World) : Prop := e = .returned (.slice (some ⟨w.heap.size, 0, none⟩) len len) ∧
  (∀ q, q < len → w'.cell? ⟨w.heap.size, q, none⟩ = some (.int .i64 (lev rows q)) ∧ w'.frozen? ⟨w.heap.size, q, none⟩ = false) ∧ Below w.heap.size w w'

set_option maxRecDepth 100000 in
set_option maxHeartbeats 2000000 in
theorem levels_impl (rows : List (List Int)) (hv : validBillM rows = true) (a : Option Addr) (len cap : Nat) (w : World) (h : RowsAt w (· < w.heap.size) a len rows) :
    Calls Try.prog 6 #[.slice a len cap] w (LevPost w rows len) := by
  have hs := h.small
  have hl := h.lenEq
  have hl6 : len ≤ 6 := by have := validBill_len6 hv; omega
  have HL := Lib.hid hl
  clear hl
  have hmk := fun w => run_make_row' (P := Try.prog) 25 3 (.int .i64 0) 8 Try.underlying25 Try.infoIntL rfl .i64 .i64 len (by omega) (by omega) w
  refine (callsIn_wide (n := 3)).1 ?_
  refine callsIn_of_wp_marks Try.func6 rfl trivial ?_ rfl
  simp only [Try.ntmps6, List.size_toArray, List.length_cons, List.length_nil, Nat.reduceAdd, Nat.reduceSub, Array.replicate_succ, Array.replicate_zero, List.push_toArray, List.append_toArray, List.nil_append, List.cons_append]
  gi_wp2_with (refine ⟨trivial, ?_⟩; gi_at_call 19; refine (callsIn_wide.2 (validBill_impl _ _ _ _ rows _ h)).mono ?_; rintro e w2 ⟨rfl, rfl⟩)
  clear hmk
  refine wpIn_loop (fun a' w' => ∃ (k : Nat) (Ds : List Nat) (u4 u5 u16 u17 u18 u19 u20 u21 u37 : Value), a' = { tmps := #[.slice a len cap, undef, .slice none 0 0, .pointer (some ⟨w.heap.size + 1, 0, none⟩), u4, u5, undef, .slice a len cap, .bool true, .bool false, .slice a len cap, .int .i64 len, .slice (some ⟨w.heap.size, 0, none⟩) len len, .slice a len cap, .int .i64 len, .int .i64 (k : Int), u16, u17, u18, u19, u20, u21, undef, undef, undef, undef, undef, undef, undef, undef, undef, undef, undef, undef, undef, undef, undef, u37, undef], defers := Ds.map collected } ∧ k ≤ len ∧ LevInv w w' rows len k 0 ∧ Marks w' w.heap.size Ds)
    (fun a' _ => len - (intOf (a'.tmps.getD 15 undef)).toNat) ?_ ?_
  · exact ⟨0, [], _, _, _, _, _, _, _, _, _, rfl, Nat.zero_le _, levInv_start w rows len _ _, trivial⟩
  · rintro a1 wr ⟨k, Ds, u4, u5, u16, u17, u18, u19, u20, u21, u37, rfl, hk, hinv, hmks⟩
    have HMK := Lib.hid hmks
    clear hmks
    by_cases hlt : k < len
    · have hB := hinv.below
      obtain ⟨b, off, r, a', l, c, rfl, hx, hc, _, hri⟩ := (h.below hB).get hlt
      have hbw : b < w.heap.size := h.mem (by omega)
      have hbr : b < wr.heap.size := Nat.lt_of_lt_of_le hbw hB.size
      have HX := Lib.hid hx
      have HINV := Lib.hid hinv
      clear hx hinv
      gi_wp2_with (refine ⟨trivial, ?_⟩; gi_at_call 20; refine (partsTaken_any _ _ _ _ _).mono ?_; rintro e w' ⟨rfl, rfl⟩)
      have cI := cell_new_l wr (.int .i64 k) 3
      have cR := cell_new_l (wr.alloc (.cells #[.int .i64 k] 3)) (.slice a' l c) 25
      rw [World.size_alloc] at cR
      obtain ⟨W0, hW0⟩ : ∃ W0, ((wr.alloc (.cells #[.int .i64 k] 3)).alloc (.cells #[.slice a' l c] 25)) = W0 := ⟨_, rfl⟩
      have hsz : W0.heap.size = wr.heap.size + 2 := by rw [← hW0]; simp
      have cI' : W0.cell? ⟨wr.heap.size, 0, none⟩ = some (.int .i64 k) := by rw [← hW0]; exact cell_alloc_l _ cI.1
      have cR' : W0.cell? ⟨wr.heap.size + 1, 0, none⟩ = some (.slice a' l c) := by rw [← hW0]; exact cR.1
      have hinv0 : LevInv w W0 rows len k 0 := by rw [← hW0]; exact (HINV.out.alloc _).alloc _
      have hmk0 : Marks W0 w.heap.size Ds := by rw [← hW0]; exact (HMK.out.alloc _).alloc _
      rw [hW0]
      clear cI cR hW0
      have hws := hB.size
      refine wpIn_rangeFunc_ownF rfl (by omega) (gf := 28) (lb := #[.pointer (some ⟨wr.heap.size + 1, 0, none⟩)]) rfl trivial (enters_of Try.func28 (by kernel_rfl) rfl)
        (parts_stops _ (by omega) (wr.heap.size + 1) w.heap.size a' l c r W0 (by omega) (by omega) cR' (hri.to (fun q hq => ⟨hq, (hinv0.below.block q hq).trans (hB.block q hq).symm⟩))) belowK_t (belowK_b (by omega)) (Below.refl _ _) (fun _ => rfl)
        (fun (pre : List (Part r)) W => W.cell? ⟨wr.heap.size, 0, none⟩ = some (.int .i64 k) ∧ LevInv w W rows len k (levOver (lev rows) (pre.map (·.1))) ∧ Marks W w.heap.size Ds)
        (fun _ _ _ => False)
        (by intro s A B row hs hg hr; exact ⟨cell_kept hs.1 hg (fun r e => (hr r e).2), hs.2.1.kept hg (fun r e => ⟨by have := (hr r e).1; omega, (hr r e).2⟩), hs.2.2.kept (fun x hx hx' => by
          rw [hg.block x (hs.2.2.lt hx) (fun e => by have := (hr x e.symm).1; have := HMK.out.lt hx; omega)]; exact hx')⟩)
        (fun _ _ _ _ _ hs _ _ => hs)
        ⟨cI', hinv0, hmk0⟩
        (fun x => { tmps := #[.slice (some ⟨b, off, none⟩) len cap, undef, .slice none 0 0, .pointer (some ⟨w.heap.size + 1, 0, none⟩), .pointer (some ⟨wr.heap.size, 0, none⟩), .slice a' l c, .int .i64 (x.1.1 : Int),
          .slice (some ⟨b, off, none⟩) len cap, .bool true, .bool false, .slice (some ⟨b, off, none⟩) len cap, .int .i64 len, .slice (some ⟨w.heap.size, 0, none⟩) len len, .slice (some ⟨b, off, none⟩) len cap, .int .i64 len, .int .i64 k,
          .bool true, .int .i64 k, .pointer (some ⟨b, off + k, none⟩), .slice a' l c, .slice a' l c, .func (.func 28) #[] #[.pointer (some ⟨wr.heap.size + 1, 0, none⟩)], .int .i64 (x.1.1 : Int), .int .i64 x.1.2,
          undef, undef, undef, undef, undef, undef, undef, undef, undef, undef, undef, undef, undef, u37, undef], defers := [] }) ?assign ?body ?done ?stop
      case assign =>
        intro l x W K hK
        dsimp only [partArgs]
        gi_wp2
        exact hK
      case body =>
        rintro l' pre ⟨⟨p, cc⟩, hp1, hp2⟩ W ⟨hi1, hinv1, hmk1⟩ hpl
        obtain ⟨hr1, _, _⟩ := okRows_get hv HX.out
        have hpk : p < k := by
          rw [← hr1]
          rcases Nat.lt_or_ge p r.length with h' | h'
          · exact h'
          · simp [List.getElem?_eq_none h'] at hp1
        have e1 := (hinv1.cells k hlt).1
        rw [if_neg (by omega), if_pos rfl] at e1
        have f1 := (hinv1.cells k hlt).2
        have e2 := (hinv1.cells p (by omega)).1
        rw [if_pos hpk] at e2
        have e3 := hinv1.box
        have hb0 := lev_bd rows p
        have hsn : levOver (lev rows) ((pre ++ [(⟨(p, cc), hp1, hp2⟩ : Part r)]).map (·.1)) = max (levOver (lev rows) (pre.map (·.1))) (lev rows p + 1) := by
          rw [List.map_append, List.map_cons, List.map_nil, levOver_snoc]
        have HSN := Lib.hid hsn
        have HI1 := Lib.hid hinv1
        have HM1 := Lib.hid hmk1
        clear hmk1
        have hkl : (k : Int) < (len : Int) := by omega
        have hpl2 : (p : Int) < (len : Int) := by omega
        have hpl3 : p < len := by omega
        have HP := Lib.hid hpk
        generalize hS : levOver (lev rows) (pre.map (·.1)) = m0 at e1 HSN HI1
        generalize hV : lev rows p = lp at e2 hb0 HSN
        clear hsn hinv1 hr1 hpl hS hV hpk
        have hmx : Try.prog.follows .mixedOrders = true := by kernel_rfl
        have w1 : IntKind.i64.wrap (lp + 1) = lp + 1 := IntWalk.i64_in _ (by omega)
        have hGk : w.heap.size < wr.heap.size := by have := lt_cell HINV.out.box; omega
        have HC1 := Lib.hid e1
        gi_wp2
        by_cases hmax : lp + 1 ≤ m0
        all_goals refine region_round_tail l' _ 13 (by kernel_rfl) (fun _ _ h => h) hmx (by kernel_rfl) ?_
        all_goals simp only [List.take_succ_cons, List.take_zero, List.drop_succ_cons, List.drop_zero]
        all_goals repeat still_step
        all_goals (try refine wpStill_nil ?_)
        all_goals go_wp2
        all_goals exact lev_close HI1.out HM1.out hlt hi1 hGk (by rw [HSN.out]; omega)
      case done =>
        rintro D ys W hD hys ⟨hi1, hinv1, hmk1⟩ hK
        have HI1 := Lib.hid (hinv1.next (by rw [hys]; exact (lev_eq hv HX.out).symm))
        have HM1 := Lib.hid hmk1
        have HK := Lib.hid hK
        clear hinv1 hK hys hmk1
        gi_wp2
        refine ⟨⟨k + 1, D :: Ds, _, _, _, _, _, _, _, _, _, rfl, by omega, HI1.out, ⟨⟨HK.out, by omega, fun x hx => by have := HMK.out.lt hx; omega⟩, HM1.out⟩⟩, ?_⟩
        simp [intOf]; omega
      case stop =>
        rintro D c pre W _ _ h _
        exact h.elim
    · obtain rfl : k = len := by omega
      have HINV := Lib.hid hinv
      clear hinv
      have hbx := HINV.out.box
      gi_wp2
      exact leaves_marks (fun _ => results_tmp rfl _ _ _) Ds wr HMK.out (fun w' hw' => ⟨rfl, fun q hq => ⟨(hw'.cell _).trans (by rw [(HINV.out.cells q hq).1, if_pos hq]), (hw'.frozen _).trans (HINV.out.cells q hq).2⟩, HINV.out.below.trans hw'.below⟩)
end Go.Proofs.Ytkpokcddefoklab
