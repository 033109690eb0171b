import Derived.Test.YtkebdelfklmigadRows
import Derived.WalkKit
import Derived.ProofKit
import Derived.Lib.Hide
import Derived.Test.YtkebdelfklmigadM0
import Derived.Test.YtkebdelfklmigadM2
import Derived.Test.YtkebdelfklmigadM1
import Derived.Test.YtkebdelfklmigadM7
import Derived.Test.YtkebdelfklmigadM8
import Derived.Test.YtkebdelfklmigadM11
import Derived.Test.YtkebdelfklmigadM12
import Derived.Test.YtkebdelfklmigadM14
import Derived.LoopTactic
import Derived.Outline
import Derived.WalkSpells
import Derived.WalkLawsBesides
import Derived.IntWalk
import Derived.Deep.QuietTactic
import Derived.BigQuiet
namespace Go.Proofs.Ytkebdelfklmigad
open Go.RowKit Go.WideShapes

-- plain: a row made worker by worker, in an order in which they begin
theorem ready_step (g : Gr) (X : Nat → Nat → Int) (R v m : Nat) :
    (readyL (fun q => decide (g.t q = v)) (fun q => readyV X (R + 1) (g.f q) (g.c q) (g.tm (g.f q))) m).foldl max 0 = mxP (g.from R v) (fun k => X (R - g.c k) (g.f k) + g.tm (g.f k)) 0 m := by
  induction m with
  | zero => rfl
  | succ m ih =>
    rw [mxP]
    by_cases ht : g.t m = v
    · rw [readyL_yes (decide_eq_true ht), List.foldl_append, ih]
      show max _ (readyV X (R + 1) (g.f m) (g.c m) (g.tm (g.f m))) = _
      have h0 := mxP_base (g.from R v) (fun k => X (R - g.c k) (g.f k) + g.tm (g.f k)) 0 m
      unfold readyV
      by_cases hc : g.c m ≤ R
      · rw [if_neg (by omega), if_pos (show g.from R v m = true from decide_eq_true ⟨ht, hc⟩), Nat.add_sub_cancel]
      · rw [if_pos (by omega), if_neg (show ¬ g.from R v m = true from fun h => hc (of_decide_eq_true h).2)]
        omega
    · rw [readyL_no (decide_eq_false ht), ih, if_neg (show ¬ g.from R v m = true from fun h => ht (of_decide_eq_true h).1)]
/-- what stands in the rows, those of the list having begun in round r -/
def xOrd (g : Gr) (r : Nat) (L1 : List Nat) (q u : Nat) : Int := if q < r then g.b q u else if q = r ∧ u ∈ L1 then g.b r u else 0
theorem step_ord {g : Gr} (hg : g.Ok) {rk : Nat → Nat} (hr : g.Rank rk) {L L1 L2 : List Nat} {v r : Nat} (hq : OrdQ g L) (e : L = L1 ++ v :: L2) (h40 : r ≤ 40) :
    mxP (g.from r v) (fun k => xOrd g r L1 (r - g.c k) (g.f k) + g.tm (g.f k)) 0 g.m = g.b r v := by
  have hv : v < g.n := hq.lt v (by rw [e]; simp)
  rw [b_eq hg hr h40 hv]
  refine mxP_congr fun k hk => ⟨rfl, fun hp => ?_⟩
  obtain ⟨h1, h2⟩ := of_decide_eq_true hp
  have he : xOrd g r L1 (r - g.c k) (g.f k) = g.b (r - g.c k) (g.f k) := by
    unfold xOrd
    by_cases h0 : g.c k = 0
    · rw [h0, Nat.sub_zero, if_neg (Nat.lt_irrefl _), if_pos ⟨rfl, hq.pre L1 v L2 e k hk h1 h0⟩]
    · rw [if_pos (by omega)]
  rw [he]
theorem xOrd_bd {g : Gr} (hg : g.Ok) {rk : Nat → Nat} (hr : g.Rank rk) {r q u : Nat} (L1 : List Nat) (h40 : r ≤ 40) (hu : u < g.n) : 0 ≤ xOrd g r L1 q u ∧ xOrd g r L1 q u ≤ 1000000 := by
  unfold xOrd
  split
  · have := b_bd2 hg hr (r := q) (by omega) hu; have := b_nn g q u; omega
  · split
    · have := b_bd2 hg hr h40 hu; have := b_nn g r u; omega
    · omega
theorem xOrd_next (g : Gr) (r : Nat) (L1 : List Nat) (v q u : Nat) : xOrd g r (L1 ++ [v]) q u = if q = r ∧ u = v then g.b r v else xOrd g r L1 q u := by
  unfold xOrd
  by_cases h1 : q < r
  · rw [if_pos h1, if_pos h1, if_neg (by omega)]
  · rw [if_neg h1, if_neg h1]
    by_cases h2 : q = r
    · by_cases h3 : u = v
      · subst h3
        rw [if_pos ⟨h2, by simp⟩, if_pos ⟨h2, rfl⟩]
      · rw [if_neg (fun h : q = r ∧ u = v => h3 h.2)]
        simp [h3]
    · rw [if_neg (fun h => h2 h.1), if_neg (fun h => h2 h.1), if_neg (fun h => h2 h.1)]
theorem xOrd_full {g : Gr} {r : Nat} {L1 : List Nat} (h : ∀ u, u < g.n → u ∈ L1) {q u : Nat} (hq : q ≤ r) (hu : u < g.n) : xOrd g r L1 q u = xOrd g (r + 1) [] q u := by
  unfold xOrd
  by_cases h1 : q < r
  · rw [if_pos h1, if_pos (by omega)]
  · obtain rfl : q = r := by omega
    rw [if_neg h1, if_pos ⟨rfl, h u hu⟩, if_pos (by omega)]
-- memory: rows of one length, being made one by one, each in a block of its own
theorem made_tab8 (z : Value) (n : Nat) : madeCells #[z] n = tabV (fun _ => z) n := by
  apply Array.ext_getElem?
  intro i
  by_cases hi : i < n
  · rw [tabV_get _ hi]; simp [madeCells, hi, Nat.mod_one]
  · rw [Array.getElem?_eq_none (by rw [size_madeCells]; omega), Array.getElem?_eq_none (by simp [tabV]; omega)]
def rowV (T R : Nat) (Br : Nat → Nat) (q : Nat) : Value := if q < R then .slice (some ⟨Br q, 0, none⟩) T T else .slice none 0 0
structure RowsMk (w w' : World) (n T G R : Nat) (Br : Nat → Nat) (X : Nat → Nat → Int) : Prop where
  below : Below w.heap.size w w'
  atG : w.heap.size ≤ G
  outer : w'.heap[G]? = some (.cells (tabV (rowV T R Br) n) 23 (0, 0))
  rows : ∀ q, q < R → w.heap.size ≤ Br q ∧ w'.heap[Br q]? = some (.cells (tabV (fun v => .int .i64 (X q v)) T) 3 (0, 0))
  sep : ∀ p q, p < R → q < R → p ≠ q → Br p ≠ Br q
section
variable {w w' w2 : World} {n T G R : Nat} {Br : Nat → Nat} {X : Nat → Nat → Int}
theorem RowsMk.begW (h : RowsMk w w' n T G R Br X) (hn : R ≤ n) : BegW w' G Br T R X := fun q hq =>
  ⟨by rw [cell_of_row _ _ _ _ _ _ h.outer, tabV_get _ (by omega)]; unfold rowV; rw [if_pos hq], fun v hv => by rw [cell_of_row _ _ _ _ _ _ (h.rows q hq).2, tabV_get _ hv]⟩
theorem RowsMk.to (h : RowsMk w w' n T G R Br X) (hb : Below w'.heap.size w' w2) : RowsMk w w2 n T G R Br X :=
  ⟨h.below.trans (hb.mono h.below.size), h.atG, by rw [hb.block G (lt_heap h.outer)]; exact h.outer, fun q hq => ⟨(h.rows q hq).1, by rw [hb.block _ (lt_heap (h.rows q hq).2)]; exact (h.rows q hq).2⟩, h.sep⟩
theorem RowsMk.congr (h : RowsMk w w' n T G R Br X) {Y : Nat → Nat → Int} (e : ∀ q v, q < R → v < T → X q v = Y q v) : RowsMk w w' n T G R Br Y :=
  ⟨h.below, h.atG, h.outer, fun q hq => ⟨(h.rows q hq).1, by rw [(h.rows q hq).2, tabV_congr (fun v hv => by rw [e q v hq hv])]⟩, h.sep⟩
/-- a new row -/
theorem RowsMk.add (h : RowsMk w w' n T G R Br X) {Y : Nat → Nat → Int} (e : ∀ q v, q < R → v < T → X q v = Y q v) (e0 : ∀ v, v < T → Y R v = 0) :
    RowsMk w ((w'.alloc (.cells (madeCells #[.int .i64 0] T) 3)).setCell ⟨G, R, none⟩ (.slice (some ⟨w'.heap.size, 0, none⟩) T T)) n T G (R + 1) (setN Br R w'.heap.size) Y := by
  have h2 := h.congr e
  have hG := lt_heap h.outer
  have hbs := h.below.size
  have ho : (w'.alloc (.cells (madeCells #[.int .i64 0] T) 3)).heap[G]? = some (.cells (tabV (rowV T R Br) n) 23 (0, 0)) := (Below.heap_alloc _ _ _ hG).trans h.outer
  refine ⟨(h.below.alloc hbs _).setCell h.atG _, h.atG, ?_, fun q hq => ?_, fun p q hp hq hpq => ?_⟩
  · rw [heap_set ho, tabV_set]
    congr 2
    refine tabV_congr fun q hq => ?_
    unfold rowV
    by_cases hqR : q = R
    · subst hqR; rw [setN_at, if_pos (by omega), setN_at]
    · rw [setN_ne _ _ hqR]
      by_cases hlt : q < R
      · rw [if_pos hlt, if_pos (by omega), setN_ne _ _ hqR]
      · rw [if_neg hlt, if_neg (by omega)]
  · by_cases hqR : q = R
    · subst hqR
      rw [setN_at]
      refine ⟨hbs, ?_⟩
      rw [heap_set_ne (by omega), heap_alloc_new, made_tab8]
      rw [tabV_congr (g := fun v => .int .i64 (Y q v)) (fun v hv => by rw [e0 v hv])]
    · rw [setN_ne _ _ hqR]
      have hq' : q < R := by omega
      have hr := h2.rows q hq'
      refine ⟨hr.1, ?_⟩
      rw [heap_set_ne (ne_type hr.2 h.outer (by decide)), Below.heap_alloc _ _ _ (lt_heap hr.2)]
      exact hr.2
  · have hlt : ∀ i, i < R → Br i < w'.heap.size := fun i hi => lt_heap (h.rows i hi).2
    by_cases h1 : p = R
    · have hq' : q < R := by omega
      have := hlt q hq'
      subst h1; rw [setN_at, setN_ne _ _ (by omega)]; omega
    · rw [setN_ne _ _ h1]
      by_cases h3 : q = R
      · have := hlt p (by omega)
        subst h3; rw [setN_at]; omega
      · rw [setN_ne _ _ h3]; exact h.sep p q (by omega) (by omega) hpq
/-- a number put -/
theorem RowsMk.put (h : RowsMk w w' n T G R Br X) {q v : Nat} (hq : q < R) (x : Int) : RowsMk w (w'.setCell ⟨Br q, v, none⟩ (.int .i64 x)) n T G R Br (fun q' u => if q' = q ∧ u = v then x else X q' u) := by
  have hr := h.rows q hq
  refine ⟨h.below.setCell hr.1 _, h.atG, ?_, fun p hp => ?_, h.sep⟩
  · rw [heap_set_ne (ne_type h.outer hr.2 (by decide))]; exact h.outer
  · have hp' := h.rows p hp
    refine ⟨hp'.1, ?_⟩
    by_cases e : p = q
    · subst e
      rw [heap_set hr.2, tabV_set]
      congr 2
      refine tabV_congr fun u hu => ?_
      by_cases hu2 : u = v
      · subst hu2; rw [setN_at, if_pos ⟨rfl, rfl⟩]
      · rw [setN_ne _ _ hu2, if_neg (fun h => hu2 h.2)]
    · rw [heap_set_ne (h.sep p q hp hq e)]
      rw [hp'.2, tabV_congr (g := fun v' => .int .i64 (if p = q ∧ v' = v then x else X p v')) (fun u hu => by rw [if_neg (fun h => e h.1)])]
/-- rows as a list -/
theorem RowsMk.at' (h : RowsMk w w' n T G n Br X) (hn : n ≤ 1000000) (hT : T ≤ 1000000) : RowsAt w' (fun b => w.heap.size ≤ b ∧ b < w'.heap.size) (some ⟨G, 0, none⟩) n ((List.range n).map (fun q => tab (X q) T)) := by
  have hb := h.begW (Nat.le_refl _)
  refine ⟨by simp, by omega, fun h0 => ⟨G, 0, rfl, ⟨h.atG, lt_heap h.outer⟩, fun i r hi => ?_⟩⟩
  rw [List.getElem?_map] at hi
  obtain ⟨j, hj, rfl⟩ := Option.map_eq_some_iff.1 hi
  obtain ⟨h1, h2⟩ := List.getElem?_eq_some_iff.1 hj
  simp at h1 h2
  subst h2
  obtain ⟨c1, c2⟩ := hb i h1
  refine ⟨some ⟨Br i, 0, none⟩, T, T, by rw [Nat.zero_add]; exact c1, Nat.le_refl _, ⟨by simp [tab], by omega, fun hT0 => ⟨Br i, 0, rfl, ⟨(h.rows i h1).1, lt_heap (h.rows i h1).2⟩, fun u x hx => ?_⟩⟩⟩
  obtain ⟨rfl, hu⟩ := tab_get hx
  rw [Nat.zero_add]; exact c2 u hu
end
end Go.Proofs.Ytkebdelfklmigad
namespace Go.Proofs.Ytkebdelfklmigad
open Go.RowKit Go.WideShapes

-- rows that lie apart, in the exact laws
def pre9 (L : Nat → Nat) : Nat → Nat
  | 0 => 0
  | i + 1 => pre9 L i + L i
theorem pre9_le {L : Nat → Nat} {c : Nat} : ∀ n, (∀ i, i < n → L i ≤ c) → pre9 L n ≤ c * n
  | 0, _ => Nat.zero_le _
  | n + 1, h => by have := pre9_le n (fun i hi => h i (by omega)); have := h n (by omega); rw [pre9, Nat.mul_succ]; omega
/-- row i lies in block bl i, at A i, L i long; the slices lie at (b, off) -/
structure RowsSep9 (w : World) (b off n : Nat) (A : Nat → Option Addr) (L C : Nat → Nat) (bl : Nat → Nat) : Prop where
  small : n ≤ 40
  cell : ∀ i, i < n → w.cell? ⟨b, off + i, none⟩ = some (.slice (A i) (L i) (C i))
  len : ∀ i, i < n → L i ≤ 1048576
  free : ∀ i, i < n → Free w (fun x => x = bl i) (A i) (L i)
  far : ∀ i, i < n → bl i ≠ b
  sep : ∀ i j, i < n → j < n → 0 < L i → i ≠ j → bl i ≠ bl j
def rowBlocks9 (n : Nat) (bl : Nat → Nat) (k : Nat) : Prop := ∃ i, i < n ∧ k = bl i
theorem RowsSep9.kept {w w' : World} {b off n : Nat} {A : Nat → Option Addr} {L C : Nat → Nat} {bl : Nat → Nat} (h : RowsSep9 w b off n A L C bl) (g : KeptBut (rowBlocks9 n bl) w w') : RowsSep9 w' b off n A L C bl :=
  ⟨h.small, fun i hi => by rw [World.cell?_of_block (w := w) (g.block b (fun ⟨j, hj, e⟩ => h.far j hj e.symm))]; exact h.cell i hi, h.len, fun i hi => (h.free i hi).kept g, h.far, h.sep⟩
theorem RowsSep9.to {w w' : World} {b off n : Nat} {A : Nat → Option Addr} {L C : Nat → Nat} {bl : Nat → Nat} (h : RowsSep9 w b off n A L C bl) (g : 0 < n → w'.heap[b]? = w.heap[b]?) (g2 : ∀ i, i < n → 0 < L i → w'.heap[bl i]? = w.heap[bl i]?) : RowsSep9 w' b off n A L C bl :=
  ⟨h.small, fun i hi => by rw [World.cell?_of_block (w := w) (g (by omega))]; exact h.cell i hi, h.len, fun i hi => by
    by_cases h0 : 0 < L i
    · exact (h.free i hi).to (fun k hk => ⟨hk, by rw [hk]; exact g2 i hi h0⟩)
    · exact ⟨(h.free i hi).small, fun h1 => absurd h1 h0⟩, h.far, h.sep⟩
def MarkedRows9 (w : World) (n : Nat) (A : Nat → Option Addr) (L : Nat → Nat) (bl : Nat → Nat) : Prop := ∀ i, i < n → IntsAt w (fun x => x = bl i) (A i) (L i) (upFrom (1 + (pre9 L i : Int)) (L i))
theorem MarkedRows9.to {w w' : World} {n : Nat} {A : Nat → Option Addr} {L : Nat → Nat} {bl : Nat → Nat} (h : MarkedRows9 w n A L bl) (g2 : ∀ i, i < n → 0 < L i → w'.heap[bl i]? = w.heap[bl i]?) : MarkedRows9 w' n A L bl := fun i hi =>
  ⟨(h i hi).lenEq, (h i hi).small, fun h0 => ((h i hi).to (w' := w') (S' := fun x => x = bl i) (fun k hk => ⟨hk, by rw [hk]; exact g2 i hi h0⟩)).cells h0⟩
def MarkRowsPost9 (w : World) (n : Nat) (A : Nat → Option Addr) (L : Nat → Nat) (bl : Nat → Nat) (e : Ending) (w' : World) : Prop :=
  e = .returned (.int .i64 (1 + (pre9 L n : Int))) ∧ MarkedRows9 w' n A L bl ∧ KeptBut (rowBlocks9 n bl) w w'
set_option maxRecDepth 100000 in
set_option maxHeartbeats 2000000 in
theorem markRows9_any {w : World} {b off n : Nat} {A : Nat → Option Addr} {L C : Nat → Nat} {bl : Nat → Nat} (a : Option Addr) (cap : Nat) (ha : 0 < n → a = some ⟨b, off, none⟩) (h : RowsSep9 w b off n A L C bl) :
    Calls Try.prog 18 #[.slice a n cap, .int .i64 1] w (MarkRowsPost9 w n A L bl) := by
  have hn3 := h.small
  have HH := Lib.hid h
  clear h
  go_enter Try.func18, Try.ntmps18
  go_wp2
  go_loopw [1, 5] (fun q i wr => ∃ m : Nat, m ≤ n ∧ i = .int .i64 m ∧ q = .int .i64 (1 + (pre9 L m : Int)) ∧ KeptBut (rowBlocks9 n bl) w wr ∧ ∀ i, i < m → IntsAt wr (fun x => x = bl i) (A i) (L i) (upFrom (1 + (pre9 L i : Int)) (L i))) (fun _ i _ => n - (intOf i).toNat)
  case atStart => exact ⟨0, Nat.zero_le _, rfl, rfl, KeptBut.refl _ _, fun i hi => absurd hi (by omega)⟩
  case round =>
    obtain ⟨m, hm, rfl, rfl, hk, hi⟩ := hrel
    have HK := Lib.hid hk
    have HI := Lib.hid hi
    clear hi
    by_cases hlt : m < n
    · obtain rfl := ha (by omega)
      have hs := HH.out.kept hk
      have hc := hs.cell m hlt
      have hf := hs.free m hlt
      have hl := hs.len m hlt
      have hp := pre9_le (L := L) (c := 1048576) m (fun i hi => HH.out.len i (by omega))
      have HPS := Lib.hid (show pre9 L (m + 1) = pre9 L m + L m from rfl)
      have HSEP := Lib.hid (fun i (hi : i < m) (h0 : 0 < L i) => HH.out.sep i m (by omega) hlt h0 (by omega))
      clear hs hk
      obtain ⟨Am, hAm⟩ : ∃ x, A m = x := ⟨_, rfl⟩
      obtain ⟨Lm, hLm⟩ : ∃ x, L m = x := ⟨_, rfl⟩
      obtain ⟨pm, hpm⟩ : ∃ x, pre9 L m = x := ⟨_, rfl⟩
      have HAM := Lib.hid hAm
      have HLM := Lib.hid hLm
      have HPM := Lib.hid hpm
      rw [hAm, hLm] at hc hf
      rw [hLm] at hl HPS
      rw [hpm] at hp HPS ⊢
      clear hAm hLm hpm
      go_wp2_with fail
      refine (markIntS_any (fun x => x = bl m) Am Lm _ (1 + (pm : Int)) wr hf (by omega) (by omega) (by omega)).mono ?_
      rintro e w3 ⟨rfl, hi3, hk3⟩
      have HI3 := Lib.hid hi3
      have HK3 := Lib.hid hk3
      clear hi3 hk3 hf
      go_wp2_with fail
      go_roundw
      case rel =>
        refine ⟨m + 1, by omega, by go_num, by rw [HPS.out]; congr 1; push_cast; omega, HK.out.trans (HK3.out.wide (fun k hk => ⟨m, hlt, hk⟩)), fun i hi => ?_⟩
        by_cases e : i = m
        · subst e; rw [HAM.out, HLM.out, HPM.out]; exact HI3.out
        · have h1 := HI.out i (by omega)
          refine ⟨h1.lenEq, h1.small, fun h0 => ?_⟩
          exact (HK3.out.ints h1 (fun k hk e2 => HSEP.out i (by omega) h0 (hk.symm.trans e2))).cells h0
      case measure => simp [intOf]; omega
    · obtain rfl : m = n := by omega
      clear hk
      obtain ⟨pm, hpm⟩ : ∃ x, pre9 L m = x := ⟨_, rfl⟩
      have HPM := Lib.hid hpm
      rw [hpm]
      clear hpm
      go_wp2_with fail
      go_ret
      exact ⟨by rw [HPM.out]; rfl, HI.out, HK.out⟩
set_option maxRecDepth 100000 in
set_option maxHeartbeats 2000000 in
theorem heldRows9_any {w : World} {b off n : Nat} {A : Nat → Option Addr} {L C : Nat → Nat} {bl : Nat → Nat} (a : Option Addr) (cap : Nat) (ha : 0 < n → a = some ⟨b, off, none⟩) (h : RowsSep9 w b off n A L C bl) (hm : MarkedRows9 w n A L bl) :
    Calls Try.prog 19 #[.slice a n cap, .int .i64 1] w fun e w' => e = .returned (.int .i64 (1 + (pre9 L n : Int))) ∧ w = w' := by
  have hn3 := h.small
  have HH := Lib.hid h
  have HM := Lib.hid hm
  clear h hm
  go_enter Try.func19, Try.ntmps19
  go_wp2
  go_loop [1, 5] (fun q i => ∃ m : Nat, m ≤ n ∧ i = .int .i64 m ∧ q = .int .i64 (1 + (pre9 L m : Int))) (fun _ i => n - (intOf i).toNat)
  case atStart => exact ⟨0, Nat.zero_le _, rfl, rfl⟩
  case round =>
    obtain ⟨m, hm, rfl, rfl⟩ := hrel
    by_cases hlt : m < n
    · obtain rfl := ha (by omega)
      have hc := HH.out.cell m hlt
      have hl := HH.out.len m hlt
      have hi := HM.out m hlt
      have hp := pre9_le (L := L) (c := 1048576) m (fun i hi => HH.out.len i (by omega))
      have HPS := Lib.hid (show pre9 L (m + 1) = pre9 L m + L m from rfl)
      generalize A m = Am at *
      generalize L m = Lm at *
      generalize pre9 L m = pm at *
      go_wp2_with fail
      refine (heldIntS_any (fun x => x = bl m) Am Lm _ (1 + (pm : Int)) w hi (by omega) (by omega) (by omega)).mono ?_
      rintro e w3 ⟨rfl, rfl⟩
      have hnn : ¬ (1 + (pm : Int) + (Lm : Int)) < 0 := by omega
      go_wp2_with fail
      go_round
      case rel => exact ⟨m + 1, by omega, by go_num, by rw [HPS.out]; congr 1; push_cast; omega⟩
      case measure => simp [intOf]; omega
    · obtain rfl : m = n := by omega
      obtain ⟨pm, hpm⟩ : ∃ x, pre9 L m = x := ⟨_, rfl⟩
      have HPM := Lib.hid hpm
      rw [hpm]
      clear hpm
      go_wp2_with fail
      go_ret
      exact ⟨by rw [HPM.out]; rfl, rfl⟩
/-- rows made one by one lie apart -/
theorem RowsMk.sep9 {w w' : World} {n T G : Nat} {Br : Nat → Nat} {X : Nat → Nat → Int} (h : RowsMk w w' n T G n Br X) (hn : n ≤ 40) (hT : T ≤ 1048576) :
    RowsSep9 w' G 0 n (fun i => some ⟨Br i, 0, none⟩) (fun _ => T) (fun _ => T) Br := by
  have hb := h.begW (Nat.le_refl _)
  refine ⟨hn, fun i hi => by rw [Nat.zero_add]; exact (hb i hi).1, fun _ _ => hT, fun i hi => ⟨by omega, fun _ => ⟨Br i, 0, rfl, rfl, fun q hq => ?_⟩⟩, fun i hi => ne_type (h.rows i hi).2 h.outer (by decide), fun i j hi hj _ hij => h.sep i j hi hj hij⟩
  rw [Nat.zero_add]
  exact ⟨⟨_, (hb i hi).2 q hq⟩, frozen_row (h.rows i hi).2 q⟩
end Go.Proofs.Ytkebdelfklmigad
namespace Go.Proofs.Ytkebdelfklmigad
open Go.RowKit Go.WideShapes

theorem inR {lo hi n : Int} {b : Bool} (h : inB lo hi n = b) (w : World) : Calls Try.prog 37 #[.int .i64 n, .int .i64 lo, .int .i64 hi] w fun e w' => e = .returned (.bool b) ∧ w' = w := by
  subst h; exact (inRange_any n lo hi w).mono fun _ _ h => ⟨h.1, h.2.symm⟩
set_option maxRecDepth 100000 in
set_option maxHeartbeats 4000000 in
theorem validNet_any (d : NV) (ts : List Int) (rows : List (List Int)) (w : World) (h : NetAt w (· < w.heap.size) d ts rows) :
    Calls Try.prog 35 #[.agg #[.slice d.aT d.lT d.cT, .slice d.aW d.lW d.cW]] w (valN w (.bool (tokM ts rows))) := by
  obtain ⟨aT, lT, cT, aW, lW, cW⟩ := d
  obtain ⟨ht, hr, hct, hcw⟩ := h
  dsimp only at ht hr hct hcw ⊢
  have hst := ht.small
  have hsw := hr.small
  have HTL := Lib.hid ht.lenEq
  have HWL := Lib.hid hr.lenEq
  have HH := Lib.hid (show ∀ w', Below w.heap.size w w' → IntsAt w' (· < w.heap.size) aT lT ts ∧ RowsAt w' (· < w.heap.size) aW lW rows from fun w' hb => ⟨ht.below hb, hr.below hb⟩)
  clear ht hr
  go_enter Try.func35, Try.ntmps35
  go_wp2_with fail
  have hb0 := (Below.refl w.heap.size w).alloc (Nat.le_refl _) (.cells #[.slice aT lT cT, .slice aW lW cW] 26)
  have hn0 := netB_new w aT lT cT aW lW cW 26
  go_loopw [3] (fun i wr => ∃ k : Nat, k ≤ lT ∧ i = .int .i64 k ∧ allIn 0 9 (ts.take k) = true ∧ Below w.heap.size w wr ∧ NetB wr w.heap.size ⟨aT, lT, cT, aW, lW, cW⟩) (fun i _ => lT - (intOf i).toNat)
  case atStart => exact ⟨0, Nat.zero_le _, rfl, rfl, hb0, hn0⟩
  case round =>
    clear hb0 hn0
    obtain ⟨k, hk, rfl, ha, hb, hn⟩ := hrel
    obtain ⟨n0, n1⟩ := id hn
    have HB := Lib.hid hb
    have HN := Lib.hid hn
    have HA := Lib.hid ha
    clear hb hn ha
    dsimp only at n0 n1
    by_cases hlt : k < lT
    · obtain ⟨b, off, x, rfl, hx, hc⟩ := (HH.out wr HB.out).1.get hlt
      have HX := Lib.hid hx
      have hkI : (k : Int) < (lT : Int) := by omega
      clear hx
      cases hq : inB 0 9 x
      · go_wp2_with (go_at_call 37; refine (inRange_any _ _ _ _).mono ?_; rintro e w' ⟨rfl, rfl⟩)
        go_ret
        exact ⟨ret_bool (tok_time_false (allIn_false HX.out hq)).symm, HB.out⟩
      · go_wp2_with (go_at_call 37; refine (inRange_any _ _ _ _).mono ?_; rintro e w' ⟨rfl, rfl⟩)
        go_roundw
        case rel => exact ⟨k + 1, by omega, by go_num, allIn_step HX.out HA.out hq, HB.out, HN.out⟩
        case measure => simp [intOf]; omega
    · obtain rfl : k = lT := by omega
      have hkI : ¬ (k : Int) < (k : Int) := by omega
      have HA9 : Hid (allIn 0 9 ts = true) := Lib.hid (by have := HA.out; rwa [List.take_of_length_le (by rw [HTL.out]; omega)] at this)
      go_wp2_with fail
      go_loopw [4] (fun i wr => ∃ q : Nat, q ≤ lW ∧ i = .int .i64 q ∧ (rows.take q).all (wayB k) = true ∧ Below w.heap.size w wr ∧ NetB wr w.heap.size ⟨aT, k, cT, aW, lW, cW⟩) (fun i _ => lW - (intOf i).toNat)
      case atStart => exact ⟨0, Nat.zero_le _, rfl, rfl, HB.out, HN.out⟩
      case round =>
        clear n0 n1
        obtain ⟨q, hq, rfl, ha, hb, hn⟩ := hrel
        obtain ⟨wo, rfl⟩ : ∃ wo : World, wo = wr := ⟨_, rfl⟩
        obtain ⟨n0, n1⟩ := id hn
        have HB := Lib.hid hb
        have HN := Lib.hid hn
        have HA := Lib.hid ha
        clear hb hn ha
        dsimp only at n0 n1
        by_cases hlq : q < lW
        · obtain ⟨b, off, r, a', l, c, rfl, hx, hc, _, hri⟩ := (HH.out wo HB.out).2.get hlq
          have HX := Lib.hid hx
          have HRL := Lib.hid hri.lenEq
          have hrs := hri.small
          have hqI : (q : Int) < (lW : Int) := by omega
          clear hx
          have HF := Lib.hid (fun h : wayB k r = false => tok_way_false (ts := ts) HX.out (by rw [HTL.out]; exact h))
          by_cases hl3 : l = 3
          · subst hl3
            obtain ⟨b', off', x, rfl, hy, hd⟩ := hri.get (k := 0) (by omega)
            obtain ⟨b2, off2, y, e2, hy2, hd2⟩ := hri.get (k := 1) (by omega)
            cases e2
            obtain ⟨b3, off3, z, e3, hy3, hd3⟩ := hri.get (k := 2) (by omega)
            cases e3
            rw [Nat.add_zero] at hd
            have HWB : Hid (wayB k r = (inB 0 ((k : Int) - 1) x && (inB 0 ((k : Int) - 1) y && inB 0 3 z))) := Lib.hid (by unfold wayB; rw [HRL.out, getD_of hy, getD_of hy2, getD_of hy3]; rfl)
            clear hy hy2 hy3
            have hwr : IntKind.i64.wrap ((k : Int) - 1) = (k : Int) - 1 := IntWalk.i64_in _ (by omega)
            cases h0 : inB 0 ((k : Int) - 1) x
            · have C0 := Lib.hid (fun w => inR h0 w)
              rw [h0] at HWB
              go_wp2_with fail
              go_quiet ((go_at_call 37; exact Calls.quiet_of_same (C0.out _)))
              go_wp2_with fail
              go_ret
              exact ⟨ret_bool (HF.out (by rw [HWB.out]; rfl)).symm, below_drewN HB.out _⟩
            · cases h1 : inB 0 ((k : Int) - 1) y
              · have C0 := Lib.hid (fun w => inR h0 w)
                have C1 := Lib.hid (fun w => inR h1 w)
                rw [h0, h1] at HWB
                go_wp2_with fail
                go_quiet ((go_at_call 37; first | (with_reducible exact Calls.quiet_of_same (C0.out _)) | (with_reducible exact Calls.quiet_of_same (C1.out _))))
                go_wp2_with fail
                go_ret
                exact ⟨ret_bool (HF.out (by rw [HWB.out]; rfl)).symm, below_drewN HB.out _⟩
              · cases h2 : inB 0 3 z
                all_goals
                  have C0 := Lib.hid (fun w => inR h0 w)
                  have C1 := Lib.hid (fun w => inR h1 w)
                  have C2 := Lib.hid (fun w => inR h2 w)
                  rw [h0, h1, h2] at HWB
                  go_wp2_with fail
                  go_quiet ((go_at_call 37; first | (with_reducible exact Calls.quiet_of_same (C0.out _)) | (with_reducible exact Calls.quiet_of_same (C1.out _)) | (with_reducible exact Calls.quiet_of_same (C2.out _))))
                  go_wp2_with fail
                · go_ret
                  exact ⟨ret_bool (HF.out (by rw [HWB.out]; rfl)).symm, below_drewN HB.out _⟩
                · go_roundw
                  case rel => exact ⟨q + 1, by omega, by go_num, by rw [take_get HX.out, List.all_append, HA.out]; simp only [List.all_cons, List.all_nil, Bool.and_true, Bool.true_and]; exact HWB.out, below_drewN HB.out _, HN.out.drewN _⟩
                  case measure => simp [intOf]; omega
          · have hle : ((l : Int) != 3) = true := by simp; omega
            go_wp2_with fail
            go_quiet (fail)
            go_wp2_with fail
            go_ret
            exact ⟨ret_bool (HF.out (by unfold wayB; rw [HRL.out, beq_eq_false_iff_ne.2 hl3]; rfl)).symm, below_drewN HB.out _⟩
        · obtain rfl : q = lW := by omega
          have HA8 : Hid (rows.all (wayB k) = true) := Lib.hid (by have := HA.out; rwa [List.take_of_length_le (by rw [HWL.out]; omega)] at this)
          have HM : Hid (tokM ts rows = (decide (k ≤ 4) && decide (q ≤ 7))) := Lib.hid (by unfold tokM; rw [HTL.out, HWL.out, HA9.out, HA8.out, Bool.true_and, Bool.and_true])
          have hqI : ¬ (q : Int) < (q : Int) := by omega
          by_cases h4 : k ≤ 4
          · by_cases h7 : q ≤ 7
            · have h4I : (k : Int) ≤ 4 := by omega
              have h7I : (q : Int) ≤ 7 := by omega
              go_wp2_with fail
              go_ret
              exact ⟨ret_bool (by rw [HM.out, decide_eq_true h4, decide_eq_true h7]; rfl), HB.out⟩
            · have h4I : (k : Int) ≤ 4 := by omega
              have h7I : ¬ (q : Int) ≤ 7 := by omega
              go_wp2_with fail
              go_ret
              exact ⟨ret_bool (by rw [HM.out, decide_eq_true h4, decide_eq_false h7]; rfl), HB.out⟩
          · have h4I : ¬ (k : Int) ≤ 4 := by omega
            go_wp2_with fail
            go_ret
            exact ⟨ret_bool (by rw [HM.out, decide_eq_false h4]; rfl), HB.out⟩
end Go.Proofs.Ytkebdelfklmigad
