import Derived.Test.YtkjmpkincaainadRows
import Derived.WalkKit
import Derived.ProofKit
import Derived.Lib.Hide
import Derived.Test.YtkjmpkincaainadM0
import Derived.Test.YtkjmpkincaainadM1
import Derived.Test.YtkjmpkincaainadM3
import Derived.Test.YtkjmpkincaainadM18
import Derived.Test.YtkjmpkincaainadM6
import Derived.Test.YtkjmpkincaainadM5
import Derived.Test.YtkjmpkincaainadM7
import Derived.Test.YtkjmpkincaainadM10
import Derived.Test.YtkjmpkincaainadM15
import Derived.Test.YtkjmpkincaainadM20
import Derived.LoopTactic
import Derived.Outline
import Derived.WalkSpells
import Derived.WalkLawsBesides
import Derived.IntWalk
import Derived.Deep.QuietTactic
import Derived.BigQuiet
import Derived.Deep.RegionHeld
import Derived.Deep.OwnRows
import Derived.Test.YtkjmpkincaainadM9
import Derived.Test.YtkjmpkincaainadM11
namespace Go.Proofs.Ytkjmpkincaainad
open Go.RowKit Go.WideShapes

-- plain: a row made worker by worker, in an order in which they begin
theorem ready_step (g : Gr) (X : Nat → Nat → Int) (R v m : Nat) :
    (readyL (fun q => decide (g.t q = v)) (fun q => readyV X (R + 1) (g.f q) (g.c q) (g.tm (g.f q))) m).foldl max 0 = mxP (g.from R v) (fun k => X (R - g.c k) (g.f k) + g.tm (g.f k)) 0 m := by
  induction m with
  | zero => rfl
  | succ m ih =>
    rw [mxP]
    by_cases ht : g.t m = v
    · rw [readyL_yes (decide_eq_true ht), List.foldl_append, ih]
      show max _ (readyV X (R + 1) (g.f m) (g.c m) (g.tm (g.f m))) = _
      have h0 := mxP_base (g.from R v) (fun k => X (R - g.c k) (g.f k) + g.tm (g.f k)) 0 m
      unfold readyV
      by_cases hc : g.c m ≤ R
      · rw [if_neg (by omega), if_pos (show g.from R v m = true from decide_eq_true ⟨ht, hc⟩), Nat.add_sub_cancel]
      · rw [if_pos (by omega), if_neg (show ¬ g.from R v m = true from fun h => hc (of_decide_eq_true h).2)]
        omega
    · rw [readyL_no (decide_eq_false ht), ih, if_neg (show ¬ g.from R v m = true from fun h => ht (of_decide_eq_true h).1)]
/-- what stands in the rows, those of the list having begun in round r -/
def xOrd (g : Gr) (r : Nat) (L1 : List Nat) (q u : Nat) : Int := if q < r then g.b q u else if q = r ∧ u ∈ L1 then g.b r u else 0
theorem step_ord {g : Gr} (hg : g.Ok) {rk : Nat → Nat} (hr : g.Rank rk) {L L1 L2 : List Nat} {v r : Nat} (hq : OrdQ g L) (e : L = L1 ++ v :: L2) (h40 : r ≤ 40) :
    mxP (g.from r v) (fun k => xOrd g r L1 (r - g.c k) (g.f k) + g.tm (g.f k)) 0 g.m = g.b r v := by
  have hv : v < g.n := hq.lt v (by rw [e]; simp)
  rw [b_eq hg hr h40 hv]
  refine mxP_congr fun k hk => ⟨rfl, fun hp => ?_⟩
  obtain ⟨h1, h2⟩ := of_decide_eq_true hp
  have he : xOrd g r L1 (r - g.c k) (g.f k) = g.b (r - g.c k) (g.f k) := by
    unfold xOrd
    by_cases h0 : g.c k = 0
    · rw [h0, Nat.sub_zero, if_neg (Nat.lt_irrefl _), if_pos ⟨rfl, hq.pre L1 v L2 e k hk h1 h0⟩]
    · rw [if_pos (by omega)]
  rw [he]
theorem xOrd_bd {g : Gr} (hg : g.Ok) {rk : Nat → Nat} (hr : g.Rank rk) {r q u : Nat} (L1 : List Nat) (h40 : r ≤ 40) (hu : u < g.n) : 0 ≤ xOrd g r L1 q u ∧ xOrd g r L1 q u ≤ 1000000 := by
  unfold xOrd
  split
  · have := b_bd2 hg hr (r := q) (by omega) hu; have := b_nn g q u; omega
  · split
    · have := b_bd2 hg hr h40 hu; have := b_nn g r u; omega
    · omega
theorem xOrd_next (g : Gr) (r : Nat) (L1 : List Nat) (v q u : Nat) : xOrd g r (L1 ++ [v]) q u = if q = r ∧ u = v then g.b r v else xOrd g r L1 q u := by
  unfold xOrd
  by_cases h1 : q < r
  · rw [if_pos h1, if_pos h1, if_neg (by omega)]
  · rw [if_neg h1, if_neg h1]
    by_cases h2 : q = r
    · by_cases h3 : u = v
      · subst h3
        rw [if_pos ⟨h2, by simp⟩, if_pos ⟨h2, rfl⟩]
      · rw [if_neg (fun h : q = r ∧ u = v => h3 h.2)]
        simp [h3]
    · rw [if_neg (fun h => h2 h.1), if_neg (fun h => h2 h.1), if_neg (fun h => h2 h.1)]
theorem xOrd_full {g : Gr} {r : Nat} {L1 : List Nat} (h : ∀ u, u < g.n → u ∈ L1) {q u : Nat} (hq : q ≤ r) (hu : u < g.n) : xOrd g r L1 q u = xOrd g (r + 1) [] q u := by
  unfold xOrd
  by_cases h1 : q < r
  · rw [if_pos h1, if_pos (by omega)]
  · obtain rfl : q = r := by omega
    rw [if_neg h1, if_pos ⟨rfl, h u hu⟩, if_pos (by omega)]
-- memory: rows of one length, being made one by one, each in a block of its own
theorem made_tab8 (z : Value) (n : Nat) : madeCells #[z] n = tabV (fun _ => z) n := by
  apply Array.ext_getElem?
  intro i
  by_cases hi : i < n
  · rw [tabV_get _ hi]; simp [madeCells, hi, Nat.mod_one]
  · rw [Array.getElem?_eq_none (by rw [size_madeCells]; omega), Array.getElem?_eq_none (by simp [tabV]; omega)]
def rowV (T R : Nat) (Br : Nat → Nat) (q : Nat) : Value := if q < R then .slice (some ⟨Br q, 0, none⟩) T T else .slice none 0 0
structure RowsMk (w w' : World) (n T G R : Nat) (Br : Nat → Nat) (X : Nat → Nat → Int) : Prop where
  below : Below w.heap.size w w'
  atG : w.heap.size ≤ G
  outer : w'.heap[G]? = some (.cells (tabV (rowV T R Br) n) 23 (0, 0))
  rows : ∀ q, q < R → w.heap.size ≤ Br q ∧ w'.heap[Br q]? = some (.cells (tabV (fun v => .int .i64 (X q v)) T) 3 (0, 0))
  sep : ∀ p q, p < R → q < R → p ≠ q → Br p ≠ Br q
section
variable {w w' w2 : World} {n T G R : Nat} {Br : Nat → Nat} {X : Nat → Nat → Int}
theorem RowsMk.begW (h : RowsMk w w' n T G R Br X) (hn : R ≤ n) : BegW w' G Br T R X := fun q hq =>
  ⟨by rw [cell_of_row _ _ _ _ _ _ h.outer, tabV_get _ (by omega)]; unfold rowV; rw [if_pos hq], fun v hv => by rw [cell_of_row _ _ _ _ _ _ (h.rows q hq).2, tabV_get _ hv]⟩
theorem RowsMk.to (h : RowsMk w w' n T G R Br X) (hb : Below w'.heap.size w' w2) : RowsMk w w2 n T G R Br X :=
  ⟨h.below.trans (hb.mono h.below.size), h.atG, by rw [hb.block G (lt_heap h.outer)]; exact h.outer, fun q hq => ⟨(h.rows q hq).1, by rw [hb.block _ (lt_heap (h.rows q hq).2)]; exact (h.rows q hq).2⟩, h.sep⟩
theorem RowsMk.congr (h : RowsMk w w' n T G R Br X) {Y : Nat → Nat → Int} (e : ∀ q v, q < R → v < T → X q v = Y q v) : RowsMk w w' n T G R Br Y :=
  ⟨h.below, h.atG, h.outer, fun q hq => ⟨(h.rows q hq).1, by rw [(h.rows q hq).2, tabV_congr (fun v hv => by rw [e q v hq hv])]⟩, h.sep⟩
/-- a new row -/
theorem RowsMk.add (h : RowsMk w w' n T G R Br X) {Y : Nat → Nat → Int} (e : ∀ q v, q < R → v < T → X q v = Y q v) (e0 : ∀ v, v < T → Y R v = 0) :
    RowsMk w ((w'.alloc (.cells (madeCells #[.int .i64 0] T) 3)).setCell ⟨G, R, none⟩ (.slice (some ⟨w'.heap.size, 0, none⟩) T T)) n T G (R + 1) (setN Br R w'.heap.size) Y := by
  have h2 := h.congr e
  have hG := lt_heap h.outer
  have hbs := h.below.size
  have ho : (w'.alloc (.cells (madeCells #[.int .i64 0] T) 3)).heap[G]? = some (.cells (tabV (rowV T R Br) n) 23 (0, 0)) := (Below.heap_alloc _ _ _ hG).trans h.outer
  refine ⟨(h.below.alloc hbs _).setCell h.atG _, h.atG, ?_, fun q hq => ?_, fun p q hp hq hpq => ?_⟩
  · rw [heap_set ho, tabV_set]
    congr 2
    refine tabV_congr fun q hq => ?_
    unfold rowV
    by_cases hqR : q = R
    · subst hqR; rw [setN_at, if_pos (by omega), setN_at]
    · rw [setN_ne _ _ hqR]
      by_cases hlt : q < R
      · rw [if_pos hlt, if_pos (by omega), setN_ne _ _ hqR]
      · rw [if_neg hlt, if_neg (by omega)]
  · by_cases hqR : q = R
    · subst hqR
      rw [setN_at]
      refine ⟨hbs, ?_⟩
      rw [heap_set_ne (by omega), heap_alloc_new, made_tab8]
      rw [tabV_congr (g := fun v => .int .i64 (Y q v)) (fun v hv => by rw [e0 v hv])]
    · rw [setN_ne _ _ hqR]
      have hq' : q < R := by omega
      have hr := h2.rows q hq'
      refine ⟨hr.1, ?_⟩
      rw [heap_set_ne (ne_type hr.2 h.outer (by decide)), Below.heap_alloc _ _ _ (lt_heap hr.2)]
      exact hr.2
  · have hlt : ∀ i, i < R → Br i < w'.heap.size := fun i hi => lt_heap (h.rows i hi).2
    by_cases h1 : p = R
    · have hq' : q < R := by omega
      have := hlt q hq'
      subst h1; rw [setN_at, setN_ne _ _ (by omega)]; omega
    · rw [setN_ne _ _ h1]
      by_cases h3 : q = R
      · have := hlt p (by omega)
        subst h3; rw [setN_at]; omega
      · rw [setN_ne _ _ h3]; exact h.sep p q (by omega) (by omega) hpq
/-- a number put -/
theorem RowsMk.put (h : RowsMk w w' n T G R Br X) {q v : Nat} (hq : q < R) (x : Int) : RowsMk w (w'.setCell ⟨Br q, v, none⟩ (.int .i64 x)) n T G R Br (fun q' u => if q' = q ∧ u = v then x else X q' u) := by
  have hr := h.rows q hq
  refine ⟨h.below.setCell hr.1 _, h.atG, ?_, fun p hp => ?_, h.sep⟩
  · rw [heap_set_ne (ne_type h.outer hr.2 (by decide))]; exact h.outer
  · have hp' := h.rows p hp
    refine ⟨hp'.1, ?_⟩
    by_cases e : p = q
    · subst e
      rw [heap_set hr.2, tabV_set]
      congr 2
      refine tabV_congr fun u hu => ?_
      by_cases hu2 : u = v
      · subst hu2; rw [setN_at, if_pos ⟨rfl, rfl⟩]
      · rw [setN_ne _ _ hu2, if_neg (fun h => hu2 h.2)]
    · rw [heap_set_ne (h.sep p q hp hq e)]
      rw [hp'.2, tabV_congr (g := fun v' => .int .i64 (if p = q ∧ v' = v then x else X p v')) (fun u hu => by rw [if_neg (fun h => e h.1)])]
/-- rows as a list -/
theorem RowsMk.at' (h : RowsMk w w' n T G n Br X) (hn : n ≤ 1000000) (hT : T ≤ 1000000) : RowsAt w' (fun b => w.heap.size ≤ b ∧ b < w'.heap.size) (some ⟨G, 0, none⟩) n ((List.range n).map (fun q => tab (X q) T)) := by
  have hb := h.begW (Nat.le_refl _)
  refine ⟨by simp, by omega, fun h0 => ⟨G, 0, rfl, ⟨h.atG, lt_heap h.outer⟩, fun i r hi => ?_⟩⟩
  rw [List.getElem?_map] at hi
  obtain ⟨j, hj, rfl⟩ := Option.map_eq_some_iff.1 hi
  obtain ⟨h1, h2⟩ := List.getElem?_eq_some_iff.1 hj
  simp at h1 h2
  subst h2
  obtain ⟨c1, c2⟩ := hb i h1
  refine ⟨some ⟨Br i, 0, none⟩, T, T, by rw [Nat.zero_add]; exact c1, Nat.le_refl _, ⟨by simp [tab], by omega, fun hT0 => ⟨Br i, 0, rfl, ⟨(h.rows i h1).1, lt_heap (h.rows i h1).2⟩, fun u x hx => ?_⟩⟩⟩
  obtain ⟨rfl, hu⟩ := tab_get hx
  rw [Nat.zero_add]; exact c2 u hu
end
end Go.Proofs.Ytkjmpkincaainad
namespace Go.Proofs.Ytkjmpkincaainad
open Go.RowKit Go.WideShapes

theorem RowsMk.start {w w3 : World} {n T : Nat} {Br : Nat → Nat} {X : Nat → Nat → Int} (hb : Below w.heap.size w w3) : RowsMk w (w3.alloc (.cells (madeCells #[.slice none 0 0] n) 23)) n T w3.heap.size 0 Br X :=
  ⟨hb.alloc hb.size _, hb.size, by rw [heap_alloc_new, made_tab8]; congr 2, fun q hq => absurd hq (by omega), fun p q hp => absurd hp (by omega)⟩
theorem xRows (g : Gr) (n T : Nat) : (List.range n).map (fun q => tab (fun v => g.b q v) T) = (List.range n).map (fun q => tab (xOrd g n [] q) T) := by
  refine List.map_congr_left fun q hq => ?_
  unfold tab
  refine List.map_congr_left fun u _ => ?_
  show g.b q u = xOrd g n [] q u
  unfold xOrd
  rw [if_pos (List.mem_range.1 hq)]
theorem ord_all {g : Gr} {L : List Nat} (hq : OrdQ g L) (hl : L.length = g.n) : ∀ u, u < g.n → u ∈ L := fun u hu => Classical.byContradiction fun hn => by
  have := nodup_short g.n (u :: L) (List.nodup_cons.2 ⟨hn, hq.nodup⟩) (fun x hx => by
    rcases List.mem_cons.1 hx with rfl | hx
    · exact hu
    · exact hq.lt x hx)
  rw [List.length_cons] at this
  omega
theorem grown_setNew {w0 w : World} {G b i : Nat} {v : Value} (h : w0.grownBy w (some G)) (hb : w0.heap.size ≤ b) : w0.grownBy (w.setCell ⟨b, i, none⟩ v) (some G) :=
  ⟨h.os, h.tape, h.output, by have := h.size; simpa [World.setCell] using this, fun c hc hne => (heap_set_ne (by omega) v).trans (h.block c hc hne)⟩
theorem split_get {L : List Nat} {j v : Nat} (h : L[j]? = some v) : L = L.take j ++ v :: L.drop (j + 1) := by
  obtain ⟨h1, h2⟩ := List.getElem?_eq_some_iff.1 h
  have := List.drop_eq_getElem_cons h1
  rw [h2] at this
  rw [← this, List.take_append_drop]
theorem lt_cellB {w : World} {b i : Nat} {v : Value} (h : w.cell? ⟨b, i, none⟩ = some v) : b < w.heap.size := World.block_lt_of_cell? w _ h
theorem Try.infoRow8 : (Try.prog.info? 23).map (fun i => (i.zero, i.size, i.bytes)) = some (some (.slice none 0 0), 1, 24) := by kernel_rfl
theorem Try.infoIntBI : (Try.prog.info? 3).map (fun i => (i.zero, i.size, i.bytes)) = some (some (.int .i64 0), 1, 8) := by kernel_rfl
/-- rows of the call's own: none, or each in a block of its own -/
def BegOwn (w : World) (ts : List Int) (rows : List (List Int)) (r : Int) (e : Ending) (w' : World) : Prop := ∃ (a : Option Addr) (n : Nat), e = .returned (.slice a n n) ∧ Below w.heap.size w w' ∧
  ((a = none ∧ n = 0 ∧ begRes ts rows r = []) ∨ ∃ G Br X, a = some ⟨G, 0, none⟩ ∧ RowsMk w w' n ts.length G n Br X ∧ n ≤ 40 ∧ ts.length ≤ 4 ∧ begRes ts rows r = (List.range n).map (fun q => tab (X q) ts.length))
set_option maxRecDepth 100000 in
set_option maxHeartbeats 8000000 in
theorem beginsAt_impl (d : NV) (ts : List Int) (rows : List (List Int)) (r : Int) (w : World) (h : NetAt w (· < w.heap.size) d ts rows) :
    Calls Try.prog 7 #[.agg #[.slice d.aT d.lT d.cT, .slice d.aW d.lW d.cW], .int .i64 r] w (BegOwn w ts rows r) := by
  have HALV := Lib.hid (fun w' (hb : Below w.heap.size w w') => isAlive_any d ts rows w' (net_lift h hb))
  have HBO := Lib.hid (fun w' (hb : Below w.heap.size w w') => beginOrder_any d ts rows w' (net_lift h hb))
  have HTK := Lib.hid (fun w' (hb : Below w.heap.size w w') hv v L C G Br X => tokensFor_any w.heap.size v L C G Br X d ts rows w' (h.below hb) hv hb.size)
  obtain ⟨aT, T, cT, aW, lW, cW⟩ := d
  have hTL : ts.length = T := h.t.lenEq
  clear h
  dsimp only at HALV HBO HTK ⊢
  have hb1 := (Below.refl w.heap.size w).alloc (Nat.le_refl _) (.cells #[.slice aT T cT, .slice aW lW cW] 26)
  have hn1 := netB_new w aT T cT aW lW cW 26
  obtain ⟨w1, hw1⟩ : ∃ w1, (w.alloc (.cells #[.slice aT T cT, .slice aW lW cW] 26)) = w1 := ⟨_, rfl⟩
  rw [hw1] at hb1 hn1
  have HW1 := Lib.hid hw1
  have HB1 := Lib.hid hb1
  have HN1 := Lib.hid hn1
  clear hw1 hb1 hn1
  cases hal : aliveB ts rows
  · have HNIL := Lib.hid (begRes_no (r := r) (.inl hal))
    rw [hal] at HALV
    clear hal
    obtain ⟨n0, n1⟩ := HN1.out
    dsimp only at n0 n1
    go_enter Try.func7, Try.ntmps7
    go_wp2_with fail
    rw [HW1.out]
    refine (HALV.out w1 HB1.out).mono ?_
    rintro e w2 ⟨rfl, hb2⟩
    have HB2 := Lib.hid (HB1.out.trans (hb2.mono HB1.out.size))
    clear hb2 n0 n1
    go_wp2_with fail
    go_ret
    exact ⟨none, 0, rfl, HB2.out, .inl ⟨rfl, rfl, HNIL.out⟩⟩
  · rw [hal] at HALV
    cases hr : inB 0 40 r
    · have HNIL := Lib.hid (begRes_no (ts := ts) (rows := rows) (.inr hr))
      have HR := Lib.hid hr
      clear hal hr
      obtain ⟨n0, n1⟩ := HN1.out
      dsimp only at n0 n1
      go_enter Try.func7, Try.ntmps7
      go_wp2_with fail
      rw [HW1.out]
      refine (HALV.out w1 HB1.out).mono ?_
      rintro e w2 ⟨rfl, hb2⟩
      have HB2 := Lib.hid (HB1.out.trans (hb2.mono HB1.out.size))
      clear hb2 n0 n1
      go_wp2_with fail
      refine (isUp8 _ _ _ HR.out).mono ?_
      rintro e wq ⟨rfl, hwq⟩
      rw [hwq]
      clear hwq wq
      go_wp2_with fail
      go_ret
      exact ⟨none, 0, rfl, HB2.out, .inl ⟨rfl, rfl, HNIL.out⟩⟩
    · have hrb : 0 ≤ r ∧ r ≤ 40 := by simpa [inB] using hr
      obtain ⟨n, rfl⟩ : ∃ n : Nat, r = (n : Int) := ⟨r.toNat, by omega⟩
      have hn40 : n ≤ 40 := by omega
      have HR := Lib.hid hr
      have HRES := Lib.hid (begRes_yes hal hn40)
      obtain ⟨hv, hnd⟩ := alive_get hal
      have hok := gr_ok hv
      have HV := Lib.hid hv
      obtain ⟨rk, hrk⟩ := rank_of hok hnd
      have HBO2 := Lib.hid (fun w' hb => HBO.out w' hb hv)
      have HTK2 := Lib.hid (fun w' hb => HTK.out w' hb hv)
      have HTL := Lib.hid hTL
      have hgn : (grOf ts rows).n = T := hTL
      clear hrb hr hal hv HBO HTK
      unfold OrderPost8 at HBO2
      obtain ⟨g, hg⟩ : ∃ g, grOf ts rows = g := ⟨_, rfl⟩
      unfold bRows at HRES
      rw [hg] at hok hnd hrk HBO2 HTK2 hgn HRES
      rw [hTL] at HRES
      have hT4 := hok.n4
      rw [hgn] at hT4
      have HGN := Lib.hid hgn
      have HOK := Lib.hid hok
      have HRK := Lib.hid hrk
      have HND := Lib.hid hnd
      clear hg hok hnd hrk hgn hTL
      have hmkI := fun w => run_make_row' (P := Try.prog) 23 3 (.int .i64 0) 8 Try.underlying23 Try.infoIntBI rfl .i64 .i64 T (by omega) (by omega) w
      have hmkR := fun w => run_make_row' (P := Try.prog) 24 23 (.slice none 0 0) 24 Try.underlying24 Try.infoRow8 rfl .i64 .i64 n (by omega) (by omega) w
      have HMKI := Lib.hid hmkI
      have HMKR := Lib.hid hmkR
      clear hmkI hmkR
      obtain ⟨n0, n1⟩ := HN1.out
      dsimp only at n0 n1
      go_enter Try.func7, Try.ntmps7
      go_wp2_with fail
      rw [HW1.out]
      refine (HALV.out w1 HB1.out).mono ?_
      rintro e w2 ⟨rfl, hb2⟩
      have HN2 := Lib.hid (HN1.out.below hb2 HN1.out.lt)
      have HB2 := Lib.hid (HB1.out.trans (hb2.mono HB1.out.size))
      clear hb2 n0 n1
      obtain ⟨n0, n1⟩ := HN2.out
      dsimp only at n0 n1
      go_wp2_with fail
      refine (isUp8 _ _ _ HR.out).mono ?_
      rintro e wq ⟨rfl, hwq⟩
      rw [hwq]
      clear hwq wq
      go_wp2_with fail
      refine (HBO2.out w2 HB2.out).mono ?_
      rintro e w3 ⟨aL, cL, L, rfl, hq, hfull, hints, hcl, hb3⟩
      have HN3 := Lib.hid (HN2.out.below hb3 HN2.out.lt)
      have HB3 := Lib.hid (HB2.out.trans (hb3.mono HB2.out.size))
      have HQ := Lib.hid hq
      have hLT : L.length = T := by rw [hfull HND.out]; exact HGN.out
      have HLT := Lib.hid hLT
      have HINT := Lib.hid hints
      clear hb3 n0 n1 hq hfull hints
      rw [hLT]
      have hmkR := HMKR.out
      clear hLT
      go_wp2_with fail
      clear hmkR
      have HN4 := Lib.hid (HN3.out.block (w' := w3.alloc (.cells (madeCells #[.slice none 0 0] n) 23)) (Below.heap_alloc _ _ _ HN3.out.lt))
      have HI4 := Lib.hid (HINT.out.to (w' := w3.alloc (.cells (madeCells #[.slice none 0 0] n) 23)) (S' := fun b => b < w3.heap.size) (fun b hb => ⟨hb.2, Below.heap_alloc _ _ _ hb.2⟩))
      have hst := RowsMk.start (n := n) (T := T) (Br := fun _ => 0) (X := xOrd g 0 []) HB3.out
      have hwG : w.heap.size < w3.heap.size := Nat.lt_of_lt_of_le HN3.out.lt (Nat.le_refl _)
      have hGz : w3.heap.size < (w3.alloc (.cells (madeCells #[.slice none 0 0] n) 23)).heap.size := by simp
      obtain ⟨w4, hw4⟩ : ∃ w4, w3.alloc (.cells (madeCells #[.slice none 0 0] n) 23) = w4 := ⟨_, rfl⟩
      obtain ⟨G, hG⟩ : ∃ G, w3.heap.size = G := ⟨_, rfl⟩
      rw [hw4, hG] at hst hGz
      rw [hw4] at HN4 HI4 ⊢
      rw [hG] at hwG HI4 ⊢
      rw [HLT.out] at HI4
      have HST := Lib.hid hst
      clear hst hw4 hG
      go_loopw [24] (fun i wr => ∃ (k : Nat) (Br : Nat → Nat), k ≤ n ∧ i = .int .i64 k ∧ RowsMk w wr n T G k Br (xOrd g k []) ∧ w4.grownBy wr (some G) ∧ ∀ q, q < k → w4.heap.size ≤ Br q) (fun i _ => n - (intOf i).toNat)
      case atStart => exact ⟨0, _, Nat.zero_le _, rfl, HST.out, World.grownBy.refl _ _, fun q hq => absurd hq (by omega)⟩
      case round =>
        clear HST
        obtain ⟨k, Br0, hk, rfl, hmk, hgr, hbr⟩ := hrel
        obtain ⟨wo, rfl⟩ : ∃ wo : World, wo = wr := ⟨_, rfl⟩
        have HMK0 := Lib.hid hmk
        have HGR0 := Lib.hid hgr
        have HBR0 := Lib.hid hbr
        by_cases hkl : k < n
        · have hkI : (k : Int) < (n : Int) := by omega
          obtain ⟨n0, n1⟩ := HN4.out.block (hgr.block _ (by omega) (by simp; omega))
          dsimp only at n0 n1
          have hGo := lt_heap hmk.outer
          have fz := frozen_row ((Below.heap_alloc wo (.cells (madeCells #[.int .i64 0] T) 3) _ hGo).trans hmk.outer) k
          obtain ⟨cz, hcz⟩ : ∃ c, (wo.alloc (.cells (madeCells #[.int .i64 0] T) 3)).cell? ⟨G, k, none⟩ = some c := ⟨_, by rw [cell_of_row _ _ _ _ _ _ ((Below.heap_alloc wo (.cells (madeCells #[.int .i64 0] T) 3) _ hGo).trans hmk.outer), tabV_get _ hkl]⟩
          have hmkI := HMKI.out
          clear hmk hgr hbr
          go_wp2_with fail
          have hadd := HMK0.out.add (Y := xOrd g k []) (fun _ _ _ _ => rfl) (fun v _ => by unfold xOrd; simp)
          have hgr5 := grown_comp (grown_alloc HGR0.out (.cells (madeCells #[.int .i64 0] T) 3)) (grownBy_setCell _ ⟨G, k, none⟩ (.slice (some ⟨wo.heap.size, 0, none⟩) T T))
          have hbr5 : ∀ q, q < k + 1 → w4.heap.size ≤ setN Br0 k wo.heap.size q := fun q hq => by
            by_cases e : q = k
            · subst e; rw [setN_at]; exact HGR0.out.size
            · rw [setN_ne _ _ e]; exact HBR0.out q (by omega)
          obtain ⟨Br, hBr⟩ : ∃ B, setN Br0 k wo.heap.size = B := ⟨_, rfl⟩
          obtain ⟨w5, hw5⟩ : ∃ w5, ((wo.alloc (.cells (madeCells #[.int .i64 0] T) 3)).setCell ⟨G, k, none⟩ (.slice (some ⟨wo.heap.size, 0, none⟩) T T)) = w5 := ⟨_, rfl⟩
          rw [hBr] at hadd hbr5
          rw [World.setCell_alloc_past _ _ _ _ hGo] at hadd hgr5 hw5
          rw [hw5] at hadd hgr5 ⊢
          have H5 := Lib.hid hadd
          have HG5 := Lib.hid hgr5
          have HBR5 := Lib.hid hbr5
          have hbrk := hbr5 k (by omega)
          have hneG : G ≠ Br k := by omega
          have hneB : w.heap.size ≠ Br k := by omega
          clear n0 n1 fz hcz cz hmkI hGo hadd hgr5 hbr5 hBr hw5 HMK0 HGR0 HBR0
          go_loopw [36] (fun i wr => ∃ j : Nat, j ≤ T ∧ i = .int .i64 j ∧ RowsMk w wr n T G (k + 1) Br (xOrd g k (L.take j)) ∧ w4.grownBy wr (some G)) (fun i _ => T - (intOf i).toNat)
          case atStart => exact ⟨0, Nat.zero_le _, rfl, H5.out, HG5.out⟩
          case round =>
            clear H5 HG5
            obtain ⟨j, hj, rfl, hmk, hgr⟩ := hrel
            obtain ⟨wi, rfl⟩ : ∃ wi : World, wi = wr := ⟨_, rfl⟩
            have HGR := Lib.hid hgr
            by_cases hjl : j < T
            · have hjI : (j : Int) < (T : Int) := by omega
              obtain ⟨v, hv⟩ : ∃ v, L[j]? = some v := ⟨_, List.getElem?_eq_getElem (by rw [HLT.out]; exact hjl)⟩
              have hvT : v < T := by have := HQ.out.lt v (List.mem_of_getElem? hv); rw [HGN.out] at this; exact this
              have HTAKE := Lib.hid (show L.take (j + 1) = L.take j ++ [v] from take_get hv)
              have HSPL := Lib.hid (show L = L.take j ++ v :: L.drop (j + 1) from split_get hv)
              have hi5 := HI4.out.to (w' := wi) (S' := fun b => b < G) (fun b hb => ⟨hb, hgr.block b (by omega) (by simp; omega)⟩)
              obtain ⟨bl, ol, x, eL, hx, hcl⟩ := hi5.get hjl
              have hxv : x = (v : Int) := by
                unfold nat8 at hx
                rw [List.getElem?_map, hv] at hx
                simpa using hx.symm
              subst hxv
              subst eL
              obtain ⟨n0, n1⟩ := (HN4.out.block (w' := wi.drew) (hgr.block _ (by omega) (by simp; omega)))
              dsimp only at n0 n1
              have hmkd := hmk.to ((Below.refl wi.heap.size wi).drew)
              have cgk := (hmkd.begW (by omega) k (by omega)).1
              have HMK := Lib.hid hmkd
              have HTF := Lib.hid (HTK2.out wi.drew hmkd.below v (k + 1) n G Br (xOrd g k (L.take j)) (by omega) (hmkd.begW (by omega)) (lt_heap hmkd.outer) (fun q hq => lt_heap (hmkd.rows q hq).2) ⟨by omega, by omega⟩ (fun q u hq hu => xOrd_bd HOK.out HRK.out _ (by omega) (by rw [HGN.out]; exact hu)))
              have HXV := Lib.hid ((ready_step g (xOrd g k (L.take j)) k v g.m).trans (step_ord HOK.out HRK.out HQ.out HSPL.out (by omega)))
              have HWK := Lib.hid (show IntKind.i64.wrap ((k : Int) + 1) = (k : Int) + 1 from IntWalk.i64_in _ (by omega))
              clear hmk hmkd hgr hi5 hx hv
              go_wp2_with fail
              refine wp_region_held_drew (S := (fun w' => w'.cell? ⟨G, k, none⟩ = some (.slice (some ⟨Br k, 0, none⟩) T T) ∧ w'.cell? ⟨w.heap.size, 0, none⟩ = some (.slice aT T cT) ∧ w'.cell? ⟨w.heap.size, 1, none⟩ = some (.slice aW lW cW))) (by kernel_rfl) ⟨cgk, n0, n1⟩ (fun hHeld => ?_)
              refine wpAnyH_take (i := 0) (v := .slice (some ⟨G, 0, none⟩) n n) rfl (by kernel_rfl) (by kernel_rfl) (by kernel_rfl) (fun _ _ _ h => h) (Or.inl ⟨by rfl, ?_⟩) hHeld ?_
              · rintro w' ⟨k0, k1, k2⟩; go_simp
              try simp only [Act.put, List.setIfInBounds_toArray, List.set_cons_zero, List.set_cons_succ, List.getElem_toArray, List.getElem_cons_zero]
              refine wpAnyH_take (i := 1) (v := .int .i64 k) rfl (by kernel_rfl) (by kernel_rfl) (by kernel_rfl) (fun _ _ _ h => h) (Or.inl ⟨by rfl, ?_⟩) hHeld ?_
              · rintro w' ⟨k0, k1, k2⟩; go_simp
              try simp only [Act.put, List.setIfInBounds_toArray, List.set_cons_zero, List.set_cons_succ, List.getElem_toArray, List.getElem_cons_succ, List.getElem_cons_zero]
              refine wpAnyH_take (i := 2) (v := .pointer (some ⟨G, k, none⟩)) rfl (by kernel_rfl) (by kernel_rfl) (by kernel_rfl) (fun _ _ _ h => h) (Or.inl ⟨by rfl, ?_⟩) hHeld ?_
              · rintro w' ⟨k0, k1, k2⟩; go_simp
              try simp only [Act.put, List.setIfInBounds_toArray, List.set_cons_zero, List.set_cons_succ, List.getElem_toArray, List.getElem_cons_succ, List.getElem_cons_zero]
              refine wpAnyH_take (i := 3) (v := .slice (some ⟨Br k, 0, none⟩) T T) rfl (by kernel_rfl) (by kernel_rfl) (by kernel_rfl) (fun _ _ _ h => h) (Or.inl ⟨by rfl, ?_⟩) hHeld ?_
              · rintro w' ⟨k0, k1, k2⟩; go_simp
              try simp only [Act.put, List.setIfInBounds_toArray, List.set_cons_zero, List.set_cons_succ, List.getElem_toArray, List.getElem_cons_succ, List.getElem_cons_zero]
              refine wpAnyH_take (i := 4) (v := .int .i64 v) rfl (by kernel_rfl) (by kernel_rfl) (by kernel_rfl) (fun _ _ _ h => h) (Or.inl ⟨by rfl, ?_⟩) hHeld ?_
              · rintro w' ⟨k0, k1, k2⟩; go_simp
              try simp only [Act.put, List.setIfInBounds_toArray, List.set_cons_zero, List.set_cons_succ, List.getElem_toArray, List.getElem_cons_succ, List.getElem_cons_zero]
              refine wpAnyH_take (i := 5) (v := .agg #[.slice aT T cT, .slice aW lW cW]) rfl (by kernel_rfl) (by kernel_rfl) (by kernel_rfl) (fun _ _ _ h => h) (Or.inl ⟨by rfl, ?_⟩) hHeld ?_
              · rintro w' ⟨k0, k1, k2⟩; go_simp
              try simp only [Act.put, List.setIfInBounds_toArray, List.set_cons_zero, List.set_cons_succ, List.getElem_toArray, List.getElem_cons_succ, List.getElem_cons_zero]
              refine wpAnyH_take (i := 6) (v := .int .i64 v) rfl (by kernel_rfl) (by kernel_rfl) (by kernel_rfl) (fun _ _ _ h => h) (Or.inl ⟨by rfl, ?_⟩) hHeld ?_
              · rintro w' ⟨k0, k1, k2⟩; go_simp
              try simp only [Act.put, List.setIfInBounds_toArray, List.set_cons_zero, List.set_cons_succ, List.getElem_toArray, List.getElem_cons_succ, List.getElem_cons_zero]
              refine wpAnyH_take (i := 7) (v := .slice (some ⟨G, 0, none⟩) n n) rfl (by kernel_rfl) (by kernel_rfl) (by kernel_rfl) (fun _ _ _ h => h) (Or.inl ⟨by rfl, ?_⟩) hHeld ?_
              · rintro w' ⟨k0, k1, k2⟩; go_simp
              try simp only [Act.put, List.setIfInBounds_toArray, List.set_cons_zero, List.set_cons_succ, List.getElem_toArray, List.getElem_cons_succ, List.getElem_cons_zero]
              refine wpAnyH_take (i := 8) (v := .int .i64 k) rfl (by kernel_rfl) (by kernel_rfl) (by kernel_rfl) (fun _ _ _ h => h) (Or.inl ⟨by rfl, ?_⟩) hHeld ?_
              · rintro w' ⟨k0, k1, k2⟩; go_simp
              try simp only [Act.put, List.setIfInBounds_toArray, List.set_cons_zero, List.set_cons_succ, List.getElem_toArray, List.getElem_cons_succ, List.getElem_cons_zero]
              refine wpAnyH_take (i := 9) (v := .int .i64 ((k : Int) + 1)) rfl (by kernel_rfl) (by kernel_rfl) (by kernel_rfl) (fun _ _ _ h => h) (Or.inl ⟨by rfl, ?_⟩) hHeld ?_
              · rintro w' ⟨k0, k1, k2⟩; have hwk := HWK.out; go_simp
              try simp only [Act.put, List.setIfInBounds_toArray, List.set_cons_zero, List.set_cons_succ, List.getElem_toArray, List.getElem_cons_succ, List.getElem_cons_zero]
              refine wpAnyH_take (i := 10) (v := .slice (some ⟨G, 0, none⟩) (k + 1) n) rfl (by kernel_rfl) (by kernel_rfl) (by kernel_rfl) (fun _ _ _ h => h) (Or.inl ⟨by rfl, ?_⟩) hHeld ?_
              · rintro w' ⟨k0, k1, k2⟩; have h0k : (0 : Int) ≤ (k : Int) + 1 := (by omega); have h1k : ¬ ((n : Int) < (k : Int) + 1) := (by omega); have h2k : ¬ ((k : Int) + 1 < 0) := (by omega); have h3k : ((k : Int) + 1).toNat = k + 1 := (by omega); have h4k : (k : Int) + 1 ≤ (n : Int) := (by omega); go_simp
              try simp only [Act.put, List.setIfInBounds_toArray, List.set_cons_zero, List.set_cons_succ, List.getElem_toArray, List.getElem_cons_succ, List.getElem_cons_zero]
              refine wpAnyH_ready (rs := [11]) (by kernel_rfl) (by simp) ?_
              refine AllReadyH.cons (o := _) rfl (fun K hK => ?_) AllReadyH.nil
              go_simp
              go_at_call 27
              refine (HTF.out).mono ?_
              rintro e wy ⟨c, cp, s, rfl, hcge, hy, hch⟩
              have HY := Lib.hid hy
              have hlate := latestOf_any _ hch
              rw [HXV.out] at hlate
              have HLATE := Lib.hid hlate
              clear hch hy hlate
              refine hK.out _ _ ⟨cell_same (HY.out.block _ (lt_cellB cgk)) cgk, cell_same (HY.out.block _ (lt_cellB n0)) n0, cell_same (HY.out.block _ (lt_cellB n1)) n1⟩ (fun hHeld => ?_)
              clear hK K
              try simp only [Act.put, List.setIfInBounds_toArray, List.set_cons_zero, List.set_cons_succ, List.getElem_toArray, List.getElem_cons_succ, List.getElem_cons_zero]
              refine wpAnyH_ready (rs := [12]) (by kernel_rfl) (by simp) ?_
              refine AllReadyH.cons (o := _) rfl (fun K hK => ?_) AllReadyH.nil
              go_simp
              go_at_call 26
              refine (HLATE.out).mono ?_
              rintro e wz ⟨rfl, hz⟩
              have HZ := Lib.hid (HY.out.trans (below_of_grown8 hz hcge (HY.out.size)))
              clear hz
              refine hK.out _ _ ⟨cell_same (HZ.out.block _ (lt_cellB cgk)) cgk, cell_same (HZ.out.block _ (lt_cellB n0)) n0, cell_same (HZ.out.block _ (lt_cellB n1)) n1⟩ (fun hHeld => ?_)
              clear hK K
              try simp only [Act.put, List.setIfInBounds_toArray, List.set_cons_zero, List.set_cons_succ, List.getElem_toArray, List.getElem_cons_succ, List.getElem_cons_zero]
              refine wpAnyH_take (i := 13) (v := .pointer (some ⟨Br k, v, none⟩)) rfl (by kernel_rfl) (by kernel_rfl) (by kernel_rfl) (fun _ _ _ h => h) (Or.inl ⟨by rfl, ?_⟩) hHeld ?_
              · rintro w' ⟨k0, k1, k2⟩; go_simp
              try simp only [Act.put, List.setIfInBounds_toArray, List.set_cons_zero, List.set_cons_succ, List.getElem_toArray, List.getElem_cons_succ, List.getElem_cons_zero]
              have hrz := HMK.out.to HZ.out
              have fz := frozen_row (hrz.rows k (by omega)).2 v
              obtain ⟨cz, hcz⟩ : ∃ c, wz.cell? ⟨Br k, v, none⟩ = some c := ⟨_, (hrz.begW (by omega) k (by omega)).2 v hvT⟩
              clear hrz
              refine wpAnyH_ready (rs := [14]) (by kernel_rfl) (by simp) ?_
              refine AllReadyH.cons (o := _) rfl (fun K hK => ?_) AllReadyH.nil
              go_simp
              refine hK.out _ _ ⟨cell_same (heap_set_ne hneG _) (cell_same (HZ.out.block _ (lt_cellB cgk)) cgk), cell_same (heap_set_ne hneB _) (cell_same (HZ.out.block _ (lt_cellB n0)) n0), cell_same (heap_set_ne hneB _) (cell_same (HZ.out.block _ (lt_cellB n1)) n1)⟩ (fun hHeld => ?_)
              clear hK K
              try simp only [Act.put, List.setIfInBounds_toArray, List.set_cons_zero, List.set_cons_succ, List.getElem_toArray, List.getElem_cons_succ, List.getElem_cons_zero]
              refine wpAnyH_done (by kernel_rfl) ?_ _
              clear hHeld fz hcz cgk n0 n1
              go_wp2_with fail
              go_roundw
              case rel => exact ⟨j + 1, by omega, by go_num, ((HMK.out.to HZ.out).put (q := k) (v := v) (by omega) (g.b k v)).congr (fun q u _ _ => by rw [HTAKE.out, xOrd_next]), grown_setNew (grown_comp (grown_comp HGR.out (grown_of_below8 (Below.refl _ _).drew _)) (grown_of_below8 HZ.out _)) hbrk⟩
              case measure => simp [intOf]; omega
            · obtain rfl : j = T := by omega
              have hjI : ¬ (j : Int) < (j : Int) := by omega
              have hfin := hmk.congr (Y := xOrd g (k + 1) []) (fun q u hq hu => by
                rw [List.take_of_length_le (Nat.le_of_eq HLT.out)]
                exact xOrd_full (ord_all HQ.out (by rw [HLT.out, HGN.out])) (by omega) (by rw [HGN.out]; exact hu))
              have HFIN := Lib.hid hfin
              clear hmk hgr hfin
              go_wp2_with fail
              go_roundw
              case rel => exact ⟨k + 1, Br, by omega, by go_num, HFIN.out, HGR.out, HBR5.out⟩
              case measure => simp [intOf]; omega
        · obtain rfl : k = n := by omega
          have hkI : ¬ (k : Int) < (k : Int) := by omega
          clear hmk hgr hbr
          go_wp2_with fail
          go_ret
          unfold BegOwn
          rw [HTL.out]
          exact ⟨some ⟨G, 0, none⟩, k, rfl, HMK0.out.below, .inr ⟨G, Br0, xOrd g k [], rfl, HMK0.out, hn40, hT4, by rw [HRES.out]; exact xRows g k T⟩⟩
end Go.Proofs.Ytkjmpkincaainad
namespace Go.Proofs.Ytkjmpkincaainad
open Go.RowKit Go.WideShapes

theorem tabs_eq {n T : Nat} {X Y : Nat → Nat → Int} (h : (List.range n).map (fun q => tab (X q) T) = (List.range n).map (fun q => tab (Y q) T)) {q v : Nat} (hq : q < n) (hv : v < T) : X q v = Y q v := by
  have h1 : ((List.range n).map (fun q => tab (X q) T))[q]? = ((List.range n).map (fun q => tab (Y q) T))[q]? := by rw [h]
  rw [List.getElem?_map, List.getElem?_map, List.getElem?_range hq] at h1
  simp only [Option.map_some, Option.some.injEq] at h1
  rw [← tab_getD (X q) hv, ← tab_getD (Y q) hv, h1]
/-- what BeginsAt answers, as it is read: none, or when the workers begin -/
theorem begOwn_b {w w' : World} {ts : List Int} {rows : List (List Int)} {r : Int} {e : Ending} (h : BegOwn w ts rows r e w') :
    ∃ (a : Option Addr) (n : Nat), e = .returned (.slice a n n) ∧ Below w.heap.size w w' ∧ RowsAt w' (fun b => w.heap.size ≤ b ∧ b < w'.heap.size) a n (begRes ts rows r) ∧ n ≤ 40 ∧ n = (begRes ts rows r).length ∧
      (0 < n → aliveB ts rows = true ∧ r = (n : Int) ∧ ∃ (G : Nat) (Br : Nat → Nat), a = some ⟨G, 0, none⟩ ∧ BegW w' G Br ts.length n (grOf ts rows).b ∧ G < w'.heap.size ∧ ∀ q, q < n → Br q < w'.heap.size) := by
  obtain ⟨a, n, rfl, hb, hc⟩ := h
  rcases hc with ⟨rfl, rfl, he⟩ | ⟨G, Br, X, rfl, hm, hn, hT, he⟩
  · rw [he]
    exact ⟨none, 0, rfl, hb, ⟨rfl, by omega, fun h => absurd h (by omega)⟩, by omega, rfl, fun h => absurd h (by omega)⟩
  · have hlen : n = (begRes ts rows r).length := by rw [he]; simp
    refine ⟨_, n, rfl, hb, by rw [he]; exact hm.at' (by omega) (by omega), hn, hlen, fun h0 => ?_⟩
    have hq : aliveB ts rows = true ∧ inB 0 40 r = true := by
      cases h1 : aliveB ts rows
      · rw [begRes_no (.inl h1)] at hlen; simp at hlen; omega
      · cases h2 : inB 0 40 r
        · rw [begRes_no (.inr h2)] at hlen; simp at hlen; omega
        · exact ⟨rfl, rfl⟩
    have hr : 0 ≤ r ∧ r ≤ 40 := by simpa [inB] using hq.2
    obtain ⟨k, rfl⟩ : ∃ k : Nat, r = (k : Int) := ⟨r.toNat, by omega⟩
    rw [begRes_yes hq.1 (by omega)] at he hlen
    rw [bRows_len] at hlen
    subst hlen
    unfold bRows at he
    exact ⟨hq.1, rfl, G, Br, rfl, fun q hq => ⟨(hm.begW (Nat.le_refl _) q hq).1, fun v hv => by rw [← tabs_eq he.symm hq hv]; exact (hm.begW (Nat.le_refl _) q hq).2 v hv⟩, lt_heap hm.outer, fun q hq => lt_heap (hm.rows q hq).2⟩
end Go.Proofs.Ytkjmpkincaainad
