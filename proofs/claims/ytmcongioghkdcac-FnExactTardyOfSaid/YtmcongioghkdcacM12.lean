import Derived.Test.YtmcongioghkdcacRows
import Derived.WalkKit
import Derived.LoopTactic
import Derived.Outline
import Derived.WalkSpells
import Derived.WalkLawsBesides
import Derived.ProofKit
import Derived.Lib.Hide
import Derived.IntWalk
import Derived.Laws.StructEq
import Derived.Deep.RegionHeld3
import Derived.Shelf.RegionOpenPlain
import Derived.StillTailTactics
import Derived.Test.YtmcongioghkdcacM0
import Derived.Test.YtmcongioghkdcacM1
import Derived.Test.YtmcongioghkdcacM2
import Derived.Test.YtmcongioghkdcacM11
import Derived.Test.YtmcongioghkdcacM8
import Derived.RangeFuncCalls
import Derived.RangeFuncWrites
import Derived.TacticsIn
import Derived.StillTail
import Derived.RangeFuncLeaves
import Derived.RangeFuncNested
namespace Go.Proofs.Ytmcongioghkdcac
open Go.RowKit Go.WideShapes

/-- the nearest number within limits -/
def nearI (lo hi x : Int) : Int := min (max x lo) hi
theorem nearI_in {lo hi x : Int} (h : lo ≤ hi) : nearI lo hi x = x ↔ inB lo hi x = true := by
  unfold nearI inB; rw [decide_eq_true_iff]; omega
def job3 (t v d : Int) : Value := .agg #[.int .i64 t, .int .i64 v, .int .i64 d]
set_option maxHeartbeats 1000000 in
theorem within_any (t v d : Int) (w : World) :
    Calls Try.prog 42 #[.agg #[.int .i64 t, .int .i64 v, .int .i64 d]] w fun e w' => e = .returned (.agg #[.int .i64 (nearI 1 9 t), .int .i64 (nearI 0 9 v), .int .i64 (nearI 0 60 d)]) ∧ Below w.heap.size w w' := by
  go_enter Try.func42, Try.ntmps42
  go_wp2_with fail
  all_goals
    refine bodyPost_ret (v := .agg #[.int .i64 (nearI 1 9 t), .int .i64 (nearI 0 9 v), .int .i64 (nearI 0 60 d)]) (by simp [results, Try.results42, go_sem]; unfold nearI; omega) rfl ⟨rfl, ?_⟩
    exact (((Below.refl _ w).alloc (Nat.le_refl _) _).alloc (by simp) _)
/-- the first n cells of block b hold these numbers, and may be written -/
def CellsI (w : World) (b n : Nat) (f : Nat → Int) : Prop := ∀ j, j < n → w.cell? ⟨b, j, none⟩ = some (.int .i64 (f j)) ∧ w.frozen? ⟨b, j, none⟩ = false
theorem CellsI.block {w w' : World} {b n : Nat} {f : Nat → Int} (h : CellsI w b n f) (e : w'.heap[b]? = w.heap[b]?) : CellsI w' b n f := fun j hj =>
  ⟨by rw [World.cell?_of_block (w := w) e]; exact (h j hj).1, by rw [World.frozen?_of_block (w := w) e]; exact (h j hj).2⟩
theorem CellsI.congr {w : World} {b n : Nat} {f g : Nat → Int} (h : CellsI w b n f) (e : ∀ j, j < n → f j = g j) : CellsI w b n g := fun j hj => by rw [← e j hj]; exact h j hj
theorem CellsI.put {w : World} {b n : Nat} {f : Nat → Int} (h : CellsI w b n f) {k : Nat} (hk : k < n) (x : Int) : CellsI (w.setCell ⟨b, k, none⟩ (.int .i64 x)) b n (fun j => if j = k then x else f j) := fun j hj => by
  refine ⟨?_, by rw [World.frozen?_setCell]; exact (h j hj).2⟩
  dsimp only
  by_cases e : j = k
  · subst e
    rw [if_pos rfl]
    exact World.cell?_setCell_same _ _ _ (h j hj).1
  · rw [if_neg e, World.cell?_setCell_other _ _ _ _ (by intro e'; injection e' with _ e2; exact e e2.symm)]
    exact (h j hj).1
/-- a job's three numbers, by the cell -/
def jf (t v d : Nat → Int) (j : Nat) : Int := if j % 3 = 0 then t (j / 3) else if j % 3 = 1 then v (j / 3) else d (j / 3)
theorem jf0 (t v d : Nat → Int) (q : Nat) : jf t v d (q * 3) = t q := by
  unfold jf; rw [if_pos (by omega), show q * 3 / 3 = q by omega]
theorem jf1 (t v d : Nat → Int) (q : Nat) : jf t v d (q * 3 + 1) = v q := by
  unfold jf; rw [if_neg (by omega), if_pos (by omega), show (q * 3 + 1) / 3 = q by omega]
theorem jf2 (t v d : Nat → Int) (q : Nat) : jf t v d (q * 3 + 2) = d q := by
  unfold jf; rw [if_neg (by omega), if_neg (by omega), show (q * 3 + 2) / 3 = q by omega]
/-- block b holds jobs from its first cell on, three cells each -/
def JobsB (w : World) (b n : Nat) (t v d : Nat → Int) : Prop := CellsI w b (n * 3) (jf t v d)
theorem JobsB.at {w : World} {b n : Nat} {t v d : Nat → Int} (h : JobsB w b n t v d) {q : Nat} (hq : q < n) :
    w.cell? ⟨b, q * 3, none⟩ = some (.int .i64 (t q)) ∧ w.cell? ⟨b, q * 3 + 1, none⟩ = some (.int .i64 (v q)) ∧ w.cell? ⟨b, q * 3 + 2, none⟩ = some (.int .i64 (d q)) := by
  have h0 := (h (q * 3) (by omega)).1
  have h1 := (h (q * 3 + 1) (by omega)).1
  have h2 := (h (q * 3 + 2) (by omega)).1
  rw [jf0] at h0
  rw [jf1] at h1
  rw [jf2] at h2
  exact ⟨h0, h1, h2⟩
theorem JobsB.free {w : World} {b n : Nat} {t v d : Nat → Int} (h : JobsB w b n t v d) {q : Nat} (hq : q < n) :
    w.frozen? ⟨b, q * 3, none⟩ = false ∧ w.frozen? ⟨b, q * 3 + 1, none⟩ = false ∧ w.frozen? ⟨b, q * 3 + 2, none⟩ = false :=
  ⟨(h _ (by omega)).2, (h _ (by omega)).2, (h _ (by omega)).2⟩
theorem JobsB.block {w w' : World} {b n : Nat} {t v d : Nat → Int} (h : JobsB w b n t v d) (e : w'.heap[b]? = w.heap[b]?) : JobsB w' b n t v d := CellsI.block h e
theorem JobsB.congr {w : World} {b n : Nat} {t v d t' v' d' : Nat → Int} (h : JobsB w b n t v d) (e : ∀ q, q < n → t q = t' q ∧ v q = v' q ∧ d q = d' q) : JobsB w b n t' v' d' := CellsI.congr h fun j hj => by
  have := e (j / 3) (by omega)
  unfold jf; rw [this.1, this.2.1, this.2.2]
theorem JobsB.put {w : World} {b n : Nat} {t v d : Nat → Int} (h : JobsB w b n t v d) {k : Nat} (hk : k < n) (x y z : Int) :
    JobsB (((w.setCell ⟨b, k * 3, none⟩ (.int .i64 x)).setCell ⟨b, k * 3 + 1, none⟩ (.int .i64 y)).setCell ⟨b, k * 3 + 2, none⟩ (.int .i64 z)) b n (fun q => if q = k then x else t q) (fun q => if q = k then y else v q) (fun q => if q = k then z else d q) := by
  refine (((CellsI.put h (k := k * 3) (by omega) x).put (k := k * 3 + 1) (by omega) y).put (k := k * 3 + 2) (by omega) z).congr fun j hj => ?_
  unfold jf
  dsimp only
  by_cases e : j / 3 = k
  · rw [if_pos e, if_pos e, if_pos e]
    by_cases e0 : j % 3 = 0
    · rw [if_neg (by omega), if_neg (by omega), if_pos (by omega), if_pos e0]
    · by_cases e1 : j % 3 = 1
      · rw [if_neg (by omega), if_pos (by omega), if_neg e0, if_pos e1]
      · rw [if_pos (by omega), if_neg e0, if_neg e1]
  · rw [if_neg (by omega), if_neg (by omega), if_neg (by omega), if_neg e, if_neg e, if_neg e]
theorem JobsB.start (w : World) (n : Nat) : JobsB (w.alloc (.cells (madeCells #[.int .i64 0, .int .i64 0, .int .i64 0] (n * 3)) 52)) w.heap.size n (fun _ => 0) (fun _ => 0) (fun _ => 0) := fun j hj => by
  refine ⟨?_, World.frozen?_alloc_new w _ _ _⟩
  rw [World.cell?_alloc_new]
  have hj3 : j % 3 = 0 ∨ j % 3 = 1 ∨ j % 3 = 2 := by omega
  simp only [madeCells, Array.getElem?_map, Array.getElem?_range, hj, if_true, Option.map_some]
  unfold jf
  simp only [ite_self]
  rcases hj3 with e | e | e <;> simp [e]
theorem Try.infoJob : (Try.prog.info? 52).map (fun i => (i.zero, i.size, i.bytes)) = some (some (.agg #[.int .i64 0, .int .i64 0, .int .i64 0]), 3, 24) := by kernel_rfl
theorem run_makeJobs (n : Nat) (hn : n ≤ 8) (w : World) :
    (Instr.makeSlice 46 (.int .i64 (n : Int)) (.int .i64 (n : Int))).run Try.prog w = .ok (.slice (some ⟨w.heap.size, 0, none⟩) n n) (w.alloc (.cells (madeCells #[.int .i64 0, .int .i64 0, .int .i64 0] (n * 3)) 52)) := by
  obtain ⟨i, hi, hzz⟩ := Option.map_eq_some_iff.1 Try.infoJob
  simp only [Prod.mk.injEq] at hzz
  obtain ⟨hz, hs, hb⟩ := hzz
  have hr := run_make (P := Try.prog) w 46 52 i _ Try.underlying46 hi hz .i64 .i64 n n (by omega) (Int.le_refl _) (by rw [hb]; omega) (by omega)
  simp only [Int.toNat_natCast, hs] at hr
  exact hr
theorem jobB_near {r : List Int} {x y z : Int} (hl : r.length = 3) (h0 : r.getD 0 0 = x) (h1 : r.getD 1 0 = y) (h2 : r.getD 2 0 = z) : jobB r = ((x == nearI 1 9 x) && ((y == nearI 0 9 y) && (z == nearI 0 60 z))) := by
  unfold jobB
  rw [hl, h0, h1, h2]
  have e : ∀ {lo hi q : Int}, lo ≤ hi → (q == nearI lo hi q) = inB lo hi q := fun {lo hi q} h => by
    rw [Bool.eq_iff_iff, beq_iff_eq, ← nearI_in h]; exact ⟨Eq.symm, Eq.symm⟩
  rw [e (by omega), e (by omega), e (by omega)]; rfl
theorem run_neq_job (x y z x' y' z' : Int) (w : World) :
    (binOp .neq 52 (.agg #[.int .i64 x, .int .i64 y, .int .i64 z]) (.agg #[.int .i64 x', .int .i64 y', .int .i64 z'])).run Try.prog w = .ok (.bool (!((x == x') && ((y == y') && (z == z'))))) w := by
  have hu : Try.prog.underlying 3 = some (.int .i64) := Try.underlying3
  have he := run_equalIn_agg (P := Try.prog) w 9999 52 #[.int .i64 x, .int .i64 y, .int .i64 z] #[.int .i64 x', .int .i64 y', .int .i64 z'] (by kernel_rfl) (by kernel_rfl)
  rw [run_neq_struct, he]
  simp [Program.fieldsOf, Try.underlying52, Op.eqFields, go_sem]
  by_cases h1 : x = x' <;> by_cases h2 : y = y' <;> by_cases h3 : z = z' <;> simp [h1, h2, h3]
/-- the jobs, in a new block, or nothing -/
def JobsPost (w : World) (len : Nat) (rows : List (List Int)) (e : Ending) (w' : World) : Prop :=
  Below w.heap.size w w' ∧ ((jobsM rows = false ∧ e = .returned (.tuple #[.slice none 0 0, .bool false])) ∨
    (jobsM rows = true ∧ ∃ b, e = .returned (.tuple #[.slice (some ⟨b, 0, none⟩) len len, .bool true]) ∧ w.heap.size ≤ b ∧ b < w'.heap.size ∧ JobsB w' b len (ta rows) (tb rows) (td rows)))
set_option maxRecDepth 100000 in
set_option maxHeartbeats 4000000 in
theorem dueJobsOf_any (a : Option Addr) (len cap : Nat) (rows : List (List Int)) (w : World) (h : RowsAt w (· < w.heap.size) a len rows) (hc : len ≤ cap) :
    Calls Try.prog 27 #[.slice a len cap] w (JobsPost w len rows) := by
  have hs := h.small
  have HL := Lib.hid h.lenEq
  by_cases h8 : len ≤ 8
  · have hmk := run_makeJobs len h8
    have HH := Lib.hid (show ∀ w', Below w.heap.size w w' → RowsAt w' (· < w.heap.size) a len rows from fun w' hb => h.below hb)
    clear h
    go_enter Try.func27, Try.ntmps27
    go_wp2_with fail
    clear hmk
    go_loopw [15] (fun i wr => ∃ k : Nat, k ≤ len ∧ i = .int .i64 k ∧ (rows.take k).all jobB = true ∧ Below w.heap.size w wr ∧ w.heap.size < wr.heap.size ∧
      JobsB wr w.heap.size len (fun q => if q < k then ta rows q else 0) (fun q => if q < k then tb rows q else 0) (fun q => if q < k then td rows q else 0)) (fun i _ => len - (intOf i).toNat)
    case atStart => exact ⟨0, Nat.zero_le _, rfl, rfl, (Below.refl _ _).alloc (Nat.le_refl _) _, by simp, (JobsB.start w len).congr (fun q _ => by simp)⟩
    case round =>
      obtain ⟨k, hk, rfl, ha, hB, hsz, hJ⟩ := hrel
      have HA := Lib.hid ha
      have hr := HH.out wr hB
      have HB := Lib.hid hB
      clear ha hB
      by_cases hlt : k < len
      · obtain ⟨b, off, r, a', l, c, rfl, hx, hcr, hlc, hri⟩ := hr.get hlt
        have HX := Lib.hid hx
        have HRL := Lib.hid hri.lenEq
        have hrs := hri.small
        have hkl : (k : Int) < (len : Int) := by omega
        clear hx
        by_cases hl3 : l = 3
        · subst hl3
          obtain ⟨b', off', x, rfl, hy, hd⟩ := hri.get (k := 0) (by omega)
          obtain ⟨b2, off2, y, e2, hy2, hd2⟩ := hri.get (k := 1) (by omega)
          cases e2
          obtain ⟨b3, off3, z, e3, hy3, hd3⟩ := hri.get (k := 2) (by omega)
          cases e3
          rw [Nat.add_zero] at hd
          obtain ⟨g0, g1, g2⟩ := hJ.at hlt
          obtain ⟨f0, f1, f2⟩ := hJ.free hlt
          have HJ := Lib.hid hJ
          clear hJ
          go_wp2_with fail
          have mixed : Try.prog.follows .mixedOrders = true := by kernel_rfl
          go_region_o
          clear mixed
          go_wp2_with fail
          have HJ2 := Lib.hid (show JobsB (((wr.setCell ⟨w.heap.size, k * 3, none⟩ (.int .i64 x)).setCell ⟨w.heap.size, k * 3 + 1, none⟩ (.int .i64 y)).setCell ⟨w.heap.size, k * 3 + 2, none⟩ (.int .i64 z)).drew w.heap.size len _ _ _ from (HJ.out.put hlt x y z).block rfl)
          have HB2 := Lib.hid (show Below w.heap.size w (((wr.setCell ⟨w.heap.size, k * 3, none⟩ (.int .i64 x)).setCell ⟨w.heap.size, k * 3 + 1, none⟩ (.int .i64 y)).setCell ⟨w.heap.size, k * 3 + 2, none⟩ (.int .i64 z)).drew from
            (((HB.out.setCell (p := ⟨w.heap.size, k * 3, none⟩) (Nat.le_refl _) _).setCell (p := ⟨w.heap.size, k * 3 + 1, none⟩) (Nat.le_refl _) _).setCell (p := ⟨w.heap.size, k * 3 + 2, none⟩) (Nat.le_refl _) _).drew)
          have hs2 : (((wr.setCell ⟨w.heap.size, k * 3, none⟩ (.int .i64 x)).setCell ⟨w.heap.size, k * 3 + 1, none⟩ (.int .i64 y)).setCell ⟨w.heap.size, k * 3 + 2, none⟩ (.int .i64 z)).drew.heap.size = wr.heap.size := by simp [World.setCell]
          obtain ⟨w2, hw2⟩ : ∃ w2, (((wr.setCell ⟨w.heap.size, k * 3, none⟩ (.int .i64 x)).setCell ⟨w.heap.size, k * 3 + 1, none⟩ (.int .i64 y)).setCell ⟨w.heap.size, k * 3 + 2, none⟩ (.int .i64 z)).drew = w2 := ⟨_, rfl⟩
          rw [hw2] at HJ2 HB2 hs2 ⊢
          have hsz2 : w.heap.size < w2.heap.size := by omega
          clear hw2 g0 g1 g2 f0 f1 f2 hd hd2 hd3 hs2 HJ HB hsz
          obtain ⟨g0, g1, g2⟩ := HJ2.out.at hlt
          try dsimp only at g0 g1 g2
          rw [if_pos rfl] at g0 g1 g2
          have HNQ := Lib.hid (jobB_near HRL.out (getD_of hy) (getD_of hy2) (getD_of hy3))
          have HRW := Lib.hid (show r.getD 0 0 = x ∧ r.getD 1 0 = y ∧ r.getD 2 0 = z from ⟨getD_of hy, getD_of hy2, getD_of hy3⟩)
          clear hy hy2 hy3
          have HW := Lib.hid (within_any x y z w2.drew)
          have hne := run_neq_job x y z (nearI 1 9 x) (nearI 0 9 y) (nearI 0 60 z)
          rw [← HNQ.out] at hne
          generalize nearI 1 9 x = x' at *
          generalize nearI 0 9 y = y' at *
          generalize nearI 0 60 z = z' at *
          go_region_held3 (fun w' => w'.cell? ⟨w.heap.size, k * 3, none⟩ = some (.int .i64 x) ∧ w'.cell? ⟨w.heap.size, k * 3 + 1, none⟩ = some (.int .i64 y) ∧ w'.cell? ⟨w.heap.size, k * 3 + 2, none⟩ = some (.int .i64 z)) (first | go_keep | exact ⟨k0, k1, k2⟩)
            (first | (go_at_call 42; refine HW.out.mono ?_; rintro e w3 ⟨rfl, hb3⟩; have k0 := (hb3.cell (p := ⟨w.heap.size, k * 3, none⟩) hsz2).trans g0; have k1 := (hb3.cell (p := ⟨w.heap.size, k * 3 + 1, none⟩) hsz2).trans g1; have k2 := (hb3.cell (p := ⟨w.heap.size, k * 3 + 2, none⟩) hsz2).trans g2))
          have HB3 := Lib.hid (HB2.out.drew.trans (hb3.mono (by show w.heap.size ≤ w2.heap.size; omega)))
          have HJ3 := Lib.hid (HJ2.out.block (w' := w3) (hb3.block w.heap.size hsz2))
          have hsz3 : w.heap.size < w3.heap.size := Nat.lt_of_lt_of_le hsz2 hb3.size
          clear k0 k1 k2 g0 g1 g2 hb3 hne HW HB2 HJ2
          cases hq : jobB r
          · have HF := Lib.hid (jobs_false HX.out hq)
            clear hq
            go_wp2_with fail
            go_ret2
            exact ⟨HB3.out, .inl ⟨HF.out, rfl⟩⟩
          · have HQ := Lib.hid hq
            clear hq
            go_wp2_with fail
            go_roundw
            case rel => exact ⟨k + 1, by omega, by go_num, by
              rw [take_get HX.out, List.all_append, HA.out]
              simp only [List.all_cons, List.all_nil, Bool.and_true, Bool.true_and]
              exact HQ.out, HB3.out, hsz3, HJ3.out.congr fun q _ => by
              have hj := j_at HX.out
              by_cases e : q = k
              · subst e
                rw [if_pos rfl, if_pos rfl, if_pos rfl, if_pos (by omega), if_pos (by omega), if_pos (by omega), hj.1, hj.2.1, hj.2.2, HRW.out.1, HRW.out.2.1, HRW.out.2.2]
                exact ⟨rfl, rfl, rfl⟩
              · rw [if_neg e, if_neg e, if_neg e]
                by_cases e2 : q < k
                · rw [if_pos e2, if_pos e2, if_pos e2, if_pos (by omega), if_pos (by omega), if_pos (by omega)]; exact ⟨rfl, rfl, rfl⟩
                · rw [if_neg e2, if_neg e2, if_neg e2, if_neg (by omega), if_neg (by omega), if_neg (by omega)]; exact ⟨rfl, rfl, rfl⟩⟩
            case measure => simp [intOf] <;> omega
        · have hle : ((l : Int) != 3) = true := by simp; omega
          have HF := Lib.hid (jobs_false HX.out (by unfold jobB; rw [HRL.out, beq_eq_false_iff_ne.2 hl3]; rfl))
          go_wp2_with fail
          go_ret2
          exact ⟨HB.out, .inl ⟨HF.out, rfl⟩⟩
      · obtain rfl : k = len := by omega
        have ha := HA.out
        have hl := HL.out
        rw [List.take_of_length_le (by omega)] at ha
        have HF := Lib.hid (show jobsM rows = true by rw [jobsM, ha, hl, Bool.true_and]; exact decide_eq_true h8)
        have HJ := Lib.hid (hJ.congr (t' := ta rows) (v' := tb rows) (d' := td rows) fun q hq => by rw [if_pos hq, if_pos hq, if_pos hq]; exact ⟨rfl, rfl, rfl⟩)
        clear ha hl hJ
        go_wp2_with fail
        go_ret2
        exact ⟨HB.out, .inr ⟨HF.out, _, rfl, Nat.le_refl _, hsz, HJ.out⟩⟩
  · have HF := Lib.hid (show jobsM rows = false by unfold jobsM; rw [HL.out, decide_eq_false h8, Bool.and_false])
    go_enter Try.func27, Try.ntmps27
    go_wp2_with fail
    go_ret2
    exact ⟨Below.refl _ _, .inl ⟨HF.out, rfl⟩⟩
/-- the jobs as they are done, in a new block, or nothing -/
def RowPost (w : World) (len : Nat) (rows : List (List Int)) (o : List Int) (e : Ending) (w' : World) : Prop :=
  Below w.heap.size w w' ∧ ((rowFine rows o = false ∧ e = .returned (.tuple #[.slice none 0 0, .bool false])) ∨
    (rowFine rows o = true ∧ ∃ b, e = .returned (.tuple #[.slice (some ⟨b, 0, none⟩) len len, .bool true]) ∧ w.heap.size ≤ b ∧ b < w'.heap.size ∧
      JobsB w' b len (fun q => ta rows ((nO o).getD q 0)) (fun q => tb rows ((nO o).getD q 0)) (fun q => td rows ((nO o).getD q 0))))
set_option maxRecDepth 100000 in
set_option maxHeartbeats 4000000 in
theorem rowOf_any (a : Option Addr) (len cap : Nat) (rows : List (List Int)) (a2 : Option Addr) (len2 cap2 : Nat) (o : List Int) (w : World) (h : RowsAt w (· < w.heap.size) a len rows) (g : IntsAt w (· < w.heap.size) a2 len2 o) (hc : len ≤ cap) :
    Calls Try.prog 39 #[.slice a len cap, .slice a2 len2 cap2] w (RowPost w len rows o) := by
  have hs := g.small
  have HL := Lib.hid h.lenEq
  have HD := Lib.hid (dueJobsOf_any a len cap rows w h hc)
  have HG := Lib.hid (show ∀ w', Below w.heap.size w w' → IntsAt w' (· < w.heap.size) a2 len2 o from fun w' hb => g.below hb)
  have HL2 := Lib.hid g.lenEq
  clear h g
  go_enter Try.func39, Try.ntmps39
  go_wp2_with fail
  refine HD.out.mono ?_
  rintro e w1 ⟨hb, ⟨hf, rfl⟩ | ⟨hf, B, rfl, hBw, hB1, hJ⟩⟩
  · have HF := Lib.hid (show rowFine rows o = false by unfold rowFine; rw [hf]; rfl)
    have HB := Lib.hid hb
    clear hf hb
    go_wp2_with fail
    go_ret2
    exact ⟨HB.out, .inl ⟨HF.out, rfl⟩⟩
  · have h8 : len ≤ 8 := by have := (jobs_get hf).1; have := HL.out; omega
    have HF := Lib.hid (show rowFine rows o = orderM o len by unfold rowFine; rw [HL.out, hf, Bool.true_and])
    have HB := Lib.hid hb
    have HJ := Lib.hid hJ
    have HO := Lib.hid (isOrder_any _ a2 len2 cap2 o len w1 (HG.out w1 hb) h8)
    clear hf hb hJ
    cases hq : orderM o len
    · rw [hq] at HO HF
      clear hq
      go_wp2_with fail
      refine HO.out.mono ?_
      rintro e w' ⟨rfl, rfl⟩
      go_wp2_with fail
      go_ret2
      exact ⟨HB.out, .inl ⟨HF.out, rfl⟩⟩
    · rw [hq] at HO HF
      obtain ⟨⟨hox, _⟩, hol⟩ := orderM_get hq
      have hl2 : len2 = len := by have := HL2.out; omega
      have HOX := Lib.hid hox
      clear hq hox hol
      subst hl2
      have hmk := run_makeJobs len2 h8
      go_wp2_with fail
      refine HO.out.mono ?_
      rintro e w' ⟨rfl, rfl⟩
      go_wp2_with fail
      clear hmk
      go_loopw [30] (fun i wr => ∃ k : Nat, k ≤ len2 ∧ i = .int .i64 k ∧ Below w1.heap.size w1 wr ∧ w1.heap.size < wr.heap.size ∧
        JobsB wr w1.heap.size len2 (fun q => if q < k then ta rows ((nO o).getD q 0) else 0) (fun q => if q < k then tb rows ((nO o).getD q 0) else 0) (fun q => if q < k then td rows ((nO o).getD q 0) else 0)) (fun i _ => len2 - (intOf i).toNat)
      case atStart => exact ⟨0, Nat.zero_le _, rfl, (Below.refl _ _).alloc (Nat.le_refl _) _, by simp, (JobsB.start w1 len2).congr (fun q _ => by simp)⟩
      case round =>
        obtain ⟨k, hk, rfl, hB, hsz, hK⟩ := hrel
        have HBW := Lib.hid (HB.out.trans (hB.mono (by have := HB.out.size; omega)))
        have HB2 := Lib.hid hB
        have hg := HG.out wr HBW.out
        by_cases hlt : k < len2
        · obtain ⟨b, off, q, rfl, hx, hql, hcq⟩ := ord_at hg HOX.out hlt
          have HX := Lib.hid (show (nO o).getD k 0 = q by rw [List.getD_eq_getElem?_getD, hx]; rfl)
          have hJr := HJ.out.block (w' := wr) (hB.block B (by omega))
          obtain ⟨g0, g1, g2⟩ := hJr.at hql
          obtain ⟨f0, f1, f2⟩ := hK.free hlt
          obtain ⟨e0, e1, e2⟩ := hK.at hlt
          have HK := Lib.hid hK
          have hkl : (k : Int) < (len2 : Int) := by omega
          have hqI : (q : Int) < (len2 : Int) := by omega
          clear hx hK hJr hB hg
          go_wp2_with fail
          go_roundw
          case rel => exact ⟨k + 1, by omega, by go_num, ((HB2.out.setCell (p := ⟨w1.heap.size, k * 3, none⟩) (Nat.le_refl _) _).setCell (p := ⟨w1.heap.size, k * 3 + 1, none⟩) (Nat.le_refl _) _).setCell (p := ⟨w1.heap.size, k * 3 + 2, none⟩) (Nat.le_refl _) _, by simpa [World.setCell] using hsz,
            (HK.out.put hlt _ _ _).congr fun j _ => by
              by_cases e : j = k
              · subst e
                rw [if_pos rfl, if_pos rfl, if_pos rfl, if_pos (by omega), if_pos (by omega), if_pos (by omega), HX.out]
                exact ⟨rfl, rfl, rfl⟩
              · rw [if_neg e, if_neg e, if_neg e]
                by_cases e2 : j < k
                · rw [if_pos e2, if_pos e2, if_pos e2, if_pos (by omega), if_pos (by omega), if_pos (by omega)]; exact ⟨rfl, rfl, rfl⟩
                · rw [if_neg e2, if_neg e2, if_neg e2, if_neg (by omega), if_neg (by omega), if_neg (by omega)]; exact ⟨rfl, rfl, rfl⟩⟩
          case measure => simp [intOf] <;> omega
        · obtain rfl : k = len2 := by omega
          have HK := Lib.hid (hK.congr (t' := fun q => ta rows ((nO o).getD q 0)) (v' := fun q => tb rows ((nO o).getD q 0)) (d' := fun q => td rows ((nO o).getD q 0)) fun q hq => by rw [if_pos hq, if_pos hq, if_pos hq]; exact ⟨rfl, rfl, rfl⟩)
          clear hK hB hg
          go_wp2_with fail
          go_ret2
          exact ⟨HBW.out, .inr ⟨HF.out, _, rfl, HB.out.size, hsz, HK.out⟩⟩
end Go.Proofs.Ytmcongioghkdcac
namespace Go.Proofs.Ytmcongioghkdcac
/-- a part that a row takes, and how many -/
abbrev Part (xs : List Int) := { x : Nat × Int // xs[x.1]? = some x.2 ∧ 0 < x.2 }
def pairAt (xs : List Int) (k : Nat) : List (Nat × Int) :=
  match xs[k]? with
  | some x => if 0 < x then [(k, x)] else []
  | none => []
/-- the parts among the first k -/
def pairsTo (xs : List Int) : Nat → List (Nat × Int)
  | 0 => []
  | k + 1 => pairsTo xs k ++ pairAt xs k
theorem pairAt_yes {xs : List Int} {k : Nat} {x : Int} (h : xs[k]? = some x) (h0 : 0 < x) : pairAt xs k = [(k, x)] := by simp [pairAt, h, h0]
theorem pairAt_no {xs : List Int} {k : Nat} {x : Int} (h : xs[k]? = some x) (h0 : ¬ 0 < x) : pairAt xs k = [] := by simp only [pairAt, h, if_neg h0]
theorem pairsTo_length (xs : List Int) (k : Nat) : (pairsTo xs k).length ≤ k := by
  induction k with
  | zero => simp [pairsTo]
  | succ k ih =>
    have : (pairAt xs k).length ≤ 1 := by
      unfold pairAt
      split
      · split <;> simp
      · simp
    simp only [pairsTo, List.length_append]
    omega
def sumOver (f : Nat → Int → Int) (l : List (Nat × Int)) : Int := l.foldl (fun s p => s + f p.1 p.2) 0
theorem sumOver_snoc (f : Nat → Int → Int) (l : List (Nat × Int)) (p : Nat × Int) : sumOver f (l ++ [p]) = sumOver f l + f p.1 p.2 := by simp [sumOver]
/-- how many of j one of i takes, over d levels -/
def countM (rows : List (List Int)) (j : Nat) : Nat → Nat → Int
  | 0, i => if i = j then 1 else 0
  | d + 1, i => if i = j then 1 else sumOver (fun p c => c * countM rows j d p) (pairsTo (rows.getD i []) (rows.getD i []).length)

theorem pow_le {d : Nat} (h : d ≤ 6) : 18 ^ d ≤ 34012224 := Nat.le_trans (Nat.pow_le_pow_right (by omega) h) (by decide)
theorem mem_pairsTo {xs : List Int} {p : Nat × Int} : ∀ {k : Nat}, p ∈ pairsTo xs k → xs[p.1]? = some p.2 ∧ 0 < p.2 := by
  intro k
  induction k with
  | zero => intro h; simp [pairsTo] at h
  | succ k ih =>
    intro h
    simp only [pairsTo, List.mem_append] at h
    rcases h with h | h
    · exact ih h
    · unfold pairAt at h
      split at h
      · split at h
        · simp only [List.mem_singleton] at h; subst h; exact ⟨by assumption, by assumption⟩
        · cases h
      · cases h
theorem sumOver_bd {f : Nat → Int → Int} {B : Int} : ∀ (l : List (Nat × Int)), (∀ p ∈ l, 0 ≤ f p.1 p.2 ∧ f p.1 p.2 ≤ B) → 0 ≤ sumOver f l ∧ sumOver f l ≤ B * l.length := by
  have key : ∀ (l : List (Nat × Int)) (s : Int), (∀ p ∈ l, 0 ≤ f p.1 p.2 ∧ f p.1 p.2 ≤ B) → s ≤ l.foldl (fun s p => s + f p.1 p.2) s ∧ l.foldl (fun s p => s + f p.1 p.2) s ≤ s + B * l.length := by
    intro l
    induction l with
    | nil => intro s _; simp
    | cons p l ih =>
      intro s h
      have h1 := h p List.mem_cons_self
      have h2 := ih (s + f p.1 p.2) (fun q hq => h q (List.mem_cons_of_mem _ hq))
      have e : B * ((p :: l).length : Int) = B * (l.length : Int) + B := by rw [List.length_cons]; push_cast; rw [Int.mul_add, Int.mul_one]
      simp only [List.foldl_cons]
      rw [e]
      omega
  intro l h
  have := key l 0 h
  unfold sumOver
  omega
/-- what holds of a valid bill's rows -/
theorem okRows_get {rows : List (List Int)} {i : Nat} {r : List Int} (hv : validBillM rows = true) (h : rows[i]? = some r) : r.length = i ∧ (∀ x ∈ r, 0 ≤ x ∧ x ≤ 3) ∧ i < 6 := by
  have hi : i < rows.length := by
    rcases Nat.lt_or_ge i rows.length with h' | h'
    · exact h'
    · simp [List.getElem?_eq_none h'] at h
  simp only [validBillM, Bool.and_eq_true, inB, decide_eq_true_eq] at hv
  have hr : rowOk i r = true := by
    cases hq : rowOk i r with
    | true => rfl
    | false => rw [okRows_false h hq] at hv; cases hv.2
  simp only [rowOk, Bool.and_eq_true, beq_iff_eq, allIn, List.all_eq_true, inB, decide_eq_true_eq] at hr
  exact ⟨hr.1, hr.2, by omega⟩
theorem validBill_len6 {rows : List (List Int)} (hv : validBillM rows = true) : rows.length ≤ 6 := by
  simp only [validBillM, Bool.and_eq_true, inB, decide_eq_true_eq] at hv
  omega
theorem countM_bd {rows : List (List Int)} (hv : validBillM rows = true) (j : Nat) : ∀ (d i : Nat), 0 ≤ countM rows j d i ∧ countM rows j d i ≤ ((18 ^ d : Nat) : Int) := by
  intro d
  induction d with
  | zero => intro i; simp only [countM]; split <;> simp
  | succ d ih =>
    intro i
    have hp : (1 : Nat) ≤ 18 ^ d := Nat.one_le_pow _ _ (by omega)
    have e : (18 ^ (d + 1) : Nat) = 18 * 18 ^ d := by rw [Nat.pow_succ, Nat.mul_comm]
    simp only [countM]
    split
    · omega
    · rw [List.getD_eq_getElem?_getD]
      cases hr : rows[i]? with
      | none => simp only [Option.getD_none, List.length_nil, pairsTo, sumOver, List.foldl_nil]; omega
      | some r =>
        simp only [Option.getD_some]
        obtain ⟨h1, h2, h3⟩ := okRows_get hv hr
        have hb := sumOver_bd (f := fun p c => c * countM rows j d p) (B := 3 * ((18 ^ d : Nat) : Int)) (pairsTo r r.length) (fun p hp => by
          obtain ⟨hp1, hp2⟩ := mem_pairsTo hp
          have hc := h2 p.2 (List.mem_of_getElem? hp1)
          have hq := ih p.1
          refine ⟨Int.mul_nonneg hc.1 hq.1, ?_⟩
          have := Int.mul_le_mul hc.2 hq.2 hq.1 (by omega)
          exact this)
        have hl := pairsTo_length r r.length
        have hm : 3 * ((18 ^ d : Nat) : Int) * ((pairsTo r r.length).length : Int) ≤ 3 * ((18 ^ d : Nat) : Int) * 6 := Int.mul_le_mul_of_nonneg_left (by omega) (by omega)
        refine ⟨hb.1, Int.le_trans hb.2 ?_⟩
        omega

theorem countM_low {rows : List (List Int)} (hv : validBillM rows = true) (j : Nat) : ∀ (d i : Nat), i < j → countM rows j d i = 0 := by
  intro d
  induction d with
  | zero => intro i h; simp only [countM]; rw [if_neg (by omega)]
  | succ d ih =>
    intro i h
    simp only [countM]
    rw [if_neg (by omega), List.getD_eq_getElem?_getD]
    cases hr : rows[i]? with
    | none => rfl
    | some r =>
      simp only [Option.getD_some]
      obtain ⟨h1, _, _⟩ := okRows_get hv hr
      have hb := sumOver_bd (f := fun p c => c * countM rows j d p) (B := 0) (pairsTo r r.length) (fun p hp => by
        obtain ⟨hp1, hp2⟩ := mem_pairsTo hp
        have hpl : p.1 < r.length := by
          rcases Nat.lt_or_ge p.1 r.length with h' | h'
          · exact h'
          · simp [List.getElem?_eq_none h'] at hp1
        have := ih p.1 (by omega)
        show 0 ≤ p.2 * countM rows j d p.1 ∧ p.2 * countM rows j d p.1 ≤ 0
        rw [this, Int.mul_zero]
        exact ⟨Int.le_refl _, Int.le_refl _⟩)
      omega
/-- the bounds of one summand, and of a part of the sum -/
theorem term_bd {rows : List (List Int)} {r : List Int} {i d : Nat} (hv : validBillM rows = true) (hr : rows[i]? = some r) (hd : d ≤ 6) (j : Nat) {k : Nat} {x : Int} (hx : r[k]? = some x) :
    0 ≤ x * countM rows j d k ∧ x * countM rows j d k ≤ 102036672 := by
  obtain ⟨_, h2, _⟩ := okRows_get hv hr
  have hz := h2 x (List.mem_of_getElem? hx)
  have hy := countM_bd hv j d k
  have hpw := pow_le hd
  have hm := Int.mul_le_mul hz.2 hy.2 hy.1 (by omega)
  exact ⟨Int.mul_nonneg hz.1 hy.1, by omega⟩
theorem part_bd {rows : List (List Int)} {r : List Int} {i d : Nat} (hv : validBillM rows = true) (hr : rows[i]? = some r) (hd : d ≤ 6) (j : Nat) (k : Nat) (hk : k ≤ 6) :
    0 ≤ sumOver (fun p c => c * countM rows j d p) (pairsTo r k) ∧ sumOver (fun p c => c * countM rows j d p) (pairsTo r k) ≤ 612220032 := by
  have hb := sumOver_bd (f := fun p c => c * countM rows j d p) (B := 102036672) (pairsTo r k) (fun p hp => term_bd hv hr hd j (mem_pairsTo hp).1)
  have hl := pairsTo_length r k
  have : (102036672 : Int) * ((pairsTo r k).length : Int) ≤ 102036672 * 6 := Int.mul_le_mul_of_nonneg_left (by omega) (by omega)
  exact ⟨hb.1, Int.le_trans hb.2 this⟩
theorem countM_eq {rows : List (List Int)} {r : List Int} {i d j : Nat} (hr : rows[i]? = some r) (hij : i ≠ j) : countM rows j (d + 1) i = sumOver (fun p c => c * countM rows j d p) (pairsTo r r.length) := by
  rw [countM, if_neg hij, List.getD_eq_getElem?_getD, hr, Option.getD_some]
theorem countM_self (rows : List (List Int)) (d i : Nat) : countM rows i d i = 1 := by
  cases d <;> simp [countM]
end Go.Proofs.Ytmcongioghkdcac
namespace Go.Proofs.Ytmcongioghkdcac
open Go.RowKit

/-- one operation in a round of a wide fence: as everywhere, where it is no defer statement -/
theorem oper_round {P : Program} {o : Oper} {a : Act} {w : World} {next next' : Act → World → Prop} {Q : Exit → Act → World → Prop} (r n : Nat) (hnd : ∀ c, o.op ≠ .defer c)
    (h : Oper.wp P o a w next Q) (hn : ∀ a w, next a w → next' a w) : o.wpIn (Fence.wide.inRound r) n P a w next' Q := by
  refine ⟨fun _ _ => trivial, ?_⟩
  rw [Fence.inRound_round, Oper.semAt_some r a.eval o hnd]
  unfold Oper.wp at h
  cases hx : (execOp a.eval o).run P w with
  | halt x w' =>
    rw [hx] at h
    cases x <;> first | exact h | exact h.elim
  | ok x w' =>
    rw [hx] at h
    cases x with
    | value v => exact hn _ _ h
    | skip => exact hn _ _ h
    | defer d => exact hn _ _ h
    | enter f args =>
      refine ⟨fun e => (by cases e), CallsIn.inRound r (callsIn_wide.2 (Calls.mono h ?_))⟩
      intro e w'' he
      cases e with
      | returned v => exact hn _ _ he
      | panicked c => exact he
      | outgrown => exact he
    | row row args =>
      refine ⟨fun e => (by cases e), ?_⟩
      have h' : RowsIn Fence.wide (n - 1) P row args w' (fun v w'' => next' (a.put o.dst v) w'') := fun c cs _ => by
        obtain ⟨v, w'', hr, hs⟩ := h c cs
        exact ⟨v, w'', hn _ _ hr, stepsIn_wide.2 hs⟩
      exact h'
    | _ => exact h.elim
/-- no operation is a defer statement -/
def noDefer (ops : Array Oper) : Bool := ops.all fun o => match o.op with | .defer _ => false | _ => true
theorem noDefer_spec {ops : Array Oper} (h : noDefer ops = true) {i : Nat} {o : Oper} (ho : ops[i]? = some o) : ∀ c, o.op ≠ .defer c := by
  intro c e
  obtain ⟨hi, rfl⟩ := Array.getElem?_eq_some_iff.1 ho
  have := (Array.all_eq_true.1 h) i hi
  rw [e] at this
  cases this

theorem ops_round {P : Program} {ops : Array Oper} {Q : Exit → Act → World → Prop} (r n : Nat) (hnd : noDefer ops = true) (hQ : ∀ a w, ¬ Q .outgrown a w) :
    ∀ (l : List Nat) (a : Act) (w : World), wpOps P ops Q l a w → wpOpsIn (Fence.wide.inRound r) n P ops Q l a w := by
  intro l
  induction l with
  | nil => exact fun _ _ h => h
  | cons i rest ih =>
    intro a w h
    simp only [wpOps] at h
    simp only [wpOpsIn]
    cases ho : ops[i]? with
    | none => rw [ho] at h; exact ih _ _ h
    | some o =>
      rw [ho] at h
      dsimp only at h ⊢
      by_cases hw : Region.wanted o (yielded ops a.tmps) = true
      · rw [if_pos hw] at h ⊢
        rcases h with h | ⟨_, a0, w0, hq⟩
        · exact oper_round r n (noDefer_spec hnd ho) h ih
        · exact (hQ a0 w0 hq).elim
      · rw [if_neg hw] at h ⊢
        exact ⟨fun _ _ => trivial, ih _ _ h⟩

theorem region_round_any {P : Program} {ops : Array Oper} {Q : Exit → Act → World → Prop} {id : Nat} {a : Act} {w : World} (r n : Nat) (hnd : noDefer ops = true) (hQ : ∀ a w, ¬ Q .outgrown a w) (hm : P.follows .mixedOrders = true)
    (h : wpAny P .any ops Q ops.size (Array.replicate ops.size false) a { w with drawn := w.drawn + 1 }) : (Code.region id ops true).wpIn (Fence.wide.inRound r) n P Q a w :=
  wpIn_region_draw fun t => by
    simp only [Region.schedule, hm, Bool.true_or, if_true]
    exact ops_round r n hnd hQ _ _ _ (wpAny_sound ops.size t _ a _ h)

/-- a region of a round that only reads ahead of its last operations, walked in the order of the text -/
theorem region_round_tail {P : Program} {id : Nat} {Q : Exit → Act → World → Prop} {a : Act} {w : World} {l : List Oper} (r n k : Nat) (hnd : noDefer l.toArray = true) (hQ : ∀ a w, ¬ Q .outgrown a w) (hm : P.follows .mixedOrders = true)
    (hB : Region.lexTailB .any l.toArray k = true)
    (h : wpStill P l.toArray { w with drawn := w.drawn + 1 } (fun a' => wpList P l.toArray Q (l.drop k) a' { w with drawn := w.drawn + 1 }) (l.take k) a) : (Code.region id l.toArray true).wpIn (Fence.wide.inRound r) n P Q a w := by
  simp only [Region.lexTailB, Bool.and_eq_true, decide_eq_true_eq] at hB
  obtain ⟨⟨⟨⟨hsel, hn⟩, hs⟩, hc⟩, hlex⟩ := hB
  have hn' : k < l.length := by simpa using hn
  have htl : (l.take k).length = k := by simp; omega
  have hdl : (l.drop k).length = l.toArray.size - k := by simp
  have inv0 : HeadInv .any l.toArray k (Array.replicate l.toArray.size false) :=
    ⟨by simp, fun j oj _ hl => (by rw [getD_replicate_false] at hl; cases hl), fun t _ ht => getD_in (by simpa using ht) (getD_replicate_false _ _)⟩
  have H := wpAnyL_lex (md := .any) (g := l.toArray.size - k) hsel hs hc hn (l.take k) 0 _ a (fun j hj => by
    have hj' : j < k := by rw [htl] at hj; exact hj
    simp [hj']) (by simpa using htl) inv0 (by rw [htl]; exact hlex) h
  refine region_round_any r n hnd hQ hm ?_
  have := wpAny_of_head (Q' := Q) (g := l.toArray.size - k) (fun listed a' hL => by
    have := wpAny_of_seq (md := .any) (Q' := Q) (l.drop k) k listed a' { w with drawn := w.drawn + 1 } (fun j => by simp [List.getElem?_drop]) (by rw [hdl]; exact hL.1) hL.2
    rwa [hdl] at this) _ _ _ H
  rw [htl, show k + (l.toArray.size - k) = l.toArray.size by omega] at this
  exact this
/-! ### several ranges over functions in one call: one mark each -/
def collected (D : Nat) : Deferred := { target := .collected D, args := #[] }
/-- the blocks of the marks, from B on, no two the same -/
def Marks (w : World) (B : Nat) : List Nat → Prop
  | [] => True
  | D :: Ds => (w.heap[D]? = some (.deferred (some [])) ∧ B ≤ D ∧ ∀ x ∈ Ds, x ≠ D) ∧ Marks w B Ds
theorem Marks.kept {w w' : World} {B : Nat} : ∀ {Ds : List Nat}, Marks w B Ds → (∀ D ∈ Ds, w.heap[D]? = some (.deferred (some [])) → w'.heap[D]? = some (.deferred (some []))) → Marks w' B Ds := by
  intro Ds
  induction Ds with
  | nil => exact fun _ _ => trivial
  | cons D Ds ih => exact fun h g => ⟨⟨g D List.mem_cons_self h.1.1, h.1.2⟩, ih h.2 (fun x hx => g x (List.mem_cons_of_mem _ hx))⟩
theorem Marks.get {w : World} {B D : Nat} : ∀ {Ds : List Nat}, Marks w B Ds → D ∈ Ds → w.heap[D]? = some (.deferred (some [])) ∧ B ≤ D := by
  intro Ds
  induction Ds with
  | nil => intro _ h; cases h
  | cons x Ds ih =>
    intro h hm
    rcases List.mem_cons.1 hm with rfl | hm
    · exact ⟨h.1.1, h.1.2.1⟩
    · exact ih h.2 hm
theorem Marks.lt {w : World} {B D : Nat} {Ds : List Nat} (h : Marks w B Ds) (hm : D ∈ Ds) : D < w.heap.size := by
  have h1 := (h.get hm).1
  rcases Nat.lt_or_ge D w.heap.size with h' | h'
  · exact h'
  · rw [Array.getElem?_eq_none h'] at h1; cases h1
theorem Marks.alloc {w : World} {B : Nat} {Ds : List Nat} (h : Marks w B Ds) (o : Obj) : Marks (w.alloc o) B Ds :=
  h.kept (fun D hD hx => by rw [Below.heap_alloc _ _ _ (h.lt hD)]; exact hx)
theorem Marks.setCell {w : World} {B : Nat} {Ds : List Nat} (h : Marks w B Ds) {p : Addr} {v u : Value} (hp : w.cell? p = some v) : Marks (w.setCell p u) B Ds :=
  h.kept (fun D _ hx => by
    rw [Below.heap_setCell _ _ _ _ (fun e => by subst e; simp [World.cell?, hx] at hp)]
    exact hx)
/-- cells read as they did, and what lay below B lies as it lay -/
structure SameCells (B : Nat) (w w' : World) : Prop where
  cell : ∀ p, w'.cell? p = w.cell? p
  frozen : ∀ p, w'.frozen? p = w.frozen? p
  below : Below B w w'
theorem SameCells.refl (B : Nat) (w : World) : SameCells B w w := ⟨fun _ => rfl, fun _ => rfl, Below.refl _ _⟩
theorem SameCells.trans {B : Nat} {a b c : World} (h : SameCells B a b) (g : SameCells B b c) : SameCells B a c :=
  ⟨fun p => (g.cell p).trans (h.cell p), fun p => (g.frozen p).trans (h.frozen p), h.below.trans g.below⟩
theorem sameCells_put {B D : Nat} {w : World} (h : w.heap[D]? = some (.deferred (some []))) (hB : B ≤ D) : SameCells B w (w.putObj D (.deferred none)) := by
  have hd : D < w.heap.size := by
    rcases Nat.lt_or_ge D w.heap.size with h' | h'
    · exact h'
    · rw [Array.getElem?_eq_none h'] at h; cases h
  have hs : (w.putObj D (.deferred none)).heap[D]? = some (.deferred none) := by simp [World.putObj, hd]
  have hb : Below B w (w.putObj D (.deferred none)) := ⟨rfl, rfl, rfl, by simp, fun k hk => World.putObj_heap_other (by omega)⟩
  refine ⟨fun p => ?_, fun p => ?_, hb⟩
  · by_cases e : p.block = D
    · simp only [World.cell?, e, hs, h]
    · exact World.cell?_of_block (w := w) (World.putObj_heap_other e)
  · by_cases e : p.block = D
    · simp only [World.frozen?, e, hs, h]
    · exact World.frozen?_of_block (w := w) (World.putObj_heap_other e)

theorem leaves_marks {F : Fence} {n B : Nat} {P : Program} {fn : Func} {tmps : Array Value} {R : Ending → World → Prop} {v : Value} (hres : ∀ w, (results fn tmps).run P w = .ok v w) : ∀ (Ds : List Nat) (w : World), Marks w B Ds →
    (∀ w', SameCells B w w' → R (.returned v) w') → LeavesInM F n P fn tmps R (Ds.map collected) .returning w := by
  intro Ds
  induction Ds with
  | nil => exact fun w _ h => ⟨v, hres w, h w (SameCells.refl _ _)⟩
  | cons D Ds ih =>
    intro w hm h
    have hput := sameCells_put hm.1.1 hm.1.2.1
    refine ⟨by simp, Or.inl ⟨D, _, rfl, run_takeDeferred hm.1.1, ih _ (hm.2.kept (fun x hx hx' => ?_)) (fun w' hw' => h w' (hput.trans hw'))⟩⟩
    rw [World.putObj_heap_other (hm.1.2.2 x hx)]
    exact hx'
end Go.Proofs.Ytmcongioghkdcac
