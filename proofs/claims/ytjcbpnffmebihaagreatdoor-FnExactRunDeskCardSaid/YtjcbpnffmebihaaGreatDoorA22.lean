import Derived.Test.YtjcbpnffmebihaaGreatDoorA21
import Derived.Test.YtjcbpnffmebihaaGreatDoorRows
import Derived.WalkKit
import Derived.LoopTactic
import Derived.Outline
import Derived.WalkSpells
import Derived.WalkLawsBesides
import Derived.ProofKit
import Derived.Lib.Hide
import Derived.IntWalk
import Derived.Laws.StructEq
import Derived.Deep.RegionHeld3
import Derived.Shelf.RegionOpenPlain
import Derived.StillTailTactics
namespace Go.Proofs.YtjcbpnffmebihaaGreatDoor
open Go.RowKit Go.WideShapes

/-- the nearest number within limits -/
def nearI (lo hi x : Int) : Int := min (max x lo) hi
theorem nearI_in {lo hi x : Int} (h : lo ≤ hi) : nearI lo hi x = x ↔ inB lo hi x = true := by
  unfold nearI inB; rw [decide_eq_true_iff]; omega
set_option maxHeartbeats 1000000 in
theorem within_any (t v d : Int) (w : World) :
    Calls Tryz.prog 148 #[.agg #[.int .i64 t, .int .i64 v, .int .i64 d]] w fun e w' => e = .returned (.agg #[.int .i64 (nearI 1 9 t), .int .i64 (nearI 0 9 v), .int .i64 (nearI 0 60 d)]) ∧ Below w.heap.size w w' := by
  go_enter Tryz.func148, Tryz.ntmps148
  go_wp2_with fail
  all_goals
    refine bodyPost_ret (v := .agg #[.int .i64 (nearI 1 9 t), .int .i64 (nearI 0 9 v), .int .i64 (nearI 0 60 d)]) (by simp [results, Tryz.results148, go_sem]; unfold nearI; omega) rfl ⟨rfl, ?_⟩
    exact (((Below.refl _ w).alloc (Nat.le_refl _) _).alloc (by simp) _)
/-- the first n cells of block b hold these numbers, and may be written -/
def CellsI (w : World) (b n : Nat) (f : Nat → Int) : Prop := ∀ j, j < n → w.cell? ⟨b, j, none⟩ = some (.int .i64 (f j)) ∧ w.frozen? ⟨b, j, none⟩ = false
theorem CellsI.block {w w' : World} {b n : Nat} {f : Nat → Int} (h : CellsI w b n f) (e : w'.heap[b]? = w.heap[b]?) : CellsI w' b n f := fun j hj =>
  ⟨by rw [World.cell?_of_block (w := w) e]; exact (h j hj).1, by rw [World.frozen?_of_block (w := w) e]; exact (h j hj).2⟩
theorem CellsI.congr {w : World} {b n : Nat} {f g : Nat → Int} (h : CellsI w b n f) (e : ∀ j, j < n → f j = g j) : CellsI w b n g := fun j hj => by rw [← e j hj]; exact h j hj
theorem CellsI.put {w : World} {b n : Nat} {f : Nat → Int} (h : CellsI w b n f) {k : Nat} (hk : k < n) (x : Int) : CellsI (w.setCell ⟨b, k, none⟩ (.int .i64 x)) b n (fun j => if j = k then x else f j) := fun j hj => by
  refine ⟨?_, by rw [World.frozen?_setCell]; exact (h j hj).2⟩
  dsimp only
  by_cases e : j = k
  · subst e
    rw [if_pos rfl]
    exact World.cell?_setCell_same _ _ _ (h j hj).1
  · rw [if_neg e, World.cell?_setCell_other _ _ _ _ (by intro e'; injection e' with _ e2; exact e e2.symm)]
    exact (h j hj).1
/-- a job's three numbers, by the cell -/
def jf (t v d : Nat → Int) (j : Nat) : Int := if j % 3 = 0 then t (j / 3) else if j % 3 = 1 then v (j / 3) else d (j / 3)
theorem jf0 (t v d : Nat → Int) (q : Nat) : jf t v d (q * 3) = t q := by
  unfold jf; rw [if_pos (by omega), show q * 3 / 3 = q by omega]
theorem jf1 (t v d : Nat → Int) (q : Nat) : jf t v d (q * 3 + 1) = v q := by
  unfold jf; rw [if_neg (by omega), if_pos (by omega), show (q * 3 + 1) / 3 = q by omega]
theorem jf2 (t v d : Nat → Int) (q : Nat) : jf t v d (q * 3 + 2) = d q := by
  unfold jf; rw [if_neg (by omega), if_neg (by omega), show (q * 3 + 2) / 3 = q by omega]
/-- block b holds jobs from its first cell on, three cells each -/
def JobsB (w : World) (b n : Nat) (t v d : Nat → Int) : Prop := CellsI w b (n * 3) (jf t v d)
theorem JobsB.at {w : World} {b n : Nat} {t v d : Nat → Int} (h : JobsB w b n t v d) {q : Nat} (hq : q < n) :
    w.cell? ⟨b, q * 3, none⟩ = some (.int .i64 (t q)) ∧ w.cell? ⟨b, q * 3 + 1, none⟩ = some (.int .i64 (v q)) ∧ w.cell? ⟨b, q * 3 + 2, none⟩ = some (.int .i64 (d q)) := by
  have h0 := (h (q * 3) (by omega)).1
  have h1 := (h (q * 3 + 1) (by omega)).1
  have h2 := (h (q * 3 + 2) (by omega)).1
  rw [jf0] at h0
  rw [jf1] at h1
  rw [jf2] at h2
  exact ⟨h0, h1, h2⟩
theorem JobsB.free {w : World} {b n : Nat} {t v d : Nat → Int} (h : JobsB w b n t v d) {q : Nat} (hq : q < n) :
    w.frozen? ⟨b, q * 3, none⟩ = false ∧ w.frozen? ⟨b, q * 3 + 1, none⟩ = false ∧ w.frozen? ⟨b, q * 3 + 2, none⟩ = false :=
  ⟨(h _ (by omega)).2, (h _ (by omega)).2, (h _ (by omega)).2⟩
theorem JobsB.block {w w' : World} {b n : Nat} {t v d : Nat → Int} (h : JobsB w b n t v d) (e : w'.heap[b]? = w.heap[b]?) : JobsB w' b n t v d := CellsI.block h e
theorem JobsB.congr {w : World} {b n : Nat} {t v d t' v' d' : Nat → Int} (h : JobsB w b n t v d) (e : ∀ q, q < n → t q = t' q ∧ v q = v' q ∧ d q = d' q) : JobsB w b n t' v' d' := CellsI.congr h fun j hj => by
  have := e (j / 3) (by omega)
  unfold jf; rw [this.1, this.2.1, this.2.2]
theorem JobsB.put {w : World} {b n : Nat} {t v d : Nat → Int} (h : JobsB w b n t v d) {k : Nat} (hk : k < n) (x y z : Int) :
    JobsB (((w.setCell ⟨b, k * 3, none⟩ (.int .i64 x)).setCell ⟨b, k * 3 + 1, none⟩ (.int .i64 y)).setCell ⟨b, k * 3 + 2, none⟩ (.int .i64 z)) b n (fun q => if q = k then x else t q) (fun q => if q = k then y else v q) (fun q => if q = k then z else d q) := by
  refine (((CellsI.put h (k := k * 3) (by omega) x).put (k := k * 3 + 1) (by omega) y).put (k := k * 3 + 2) (by omega) z).congr fun j hj => ?_
  unfold jf
  dsimp only
  by_cases e : j / 3 = k
  · rw [if_pos e, if_pos e, if_pos e]
    by_cases e0 : j % 3 = 0
    · rw [if_neg (by omega), if_neg (by omega), if_pos (by omega), if_pos e0]
    · by_cases e1 : j % 3 = 1
      · rw [if_neg (by omega), if_pos (by omega), if_neg e0, if_pos e1]
      · rw [if_pos (by omega), if_neg e0, if_neg e1]
  · rw [if_neg (by omega), if_neg (by omega), if_neg (by omega), if_neg e, if_neg e, if_neg e]
theorem JobsB.start (w : World) (n : Nat) : JobsB (w.alloc (.cells (madeCells #[.int .i64 0, .int .i64 0, .int .i64 0] (n * 3)) 144)) w.heap.size n (fun _ => 0) (fun _ => 0) (fun _ => 0) := fun j hj => by
  refine ⟨?_, World.frozen?_alloc_new w _ _ _⟩
  rw [World.cell?_alloc_new]
  have hj3 : j % 3 = 0 ∨ j % 3 = 1 ∨ j % 3 = 2 := by omega
  simp only [madeCells, Array.getElem?_map, Array.getElem?_range, hj, if_true, Option.map_some]
  unfold jf
  simp only [ite_self]
  rcases hj3 with e | e | e <;> simp [e]
theorem Tryz.infoJob : (Tryz.prog.info? 144).map (fun i => (i.zero, i.size, i.bytes)) = some (some (.agg #[.int .i64 0, .int .i64 0, .int .i64 0]), 3, 24) := by kernel_rfl
theorem run_makeJobs (n : Nat) (hn : n ≤ 8) (w : World) :
    (Instr.makeSlice 138 (.int .i64 (n : Int)) (.int .i64 (n : Int))).run Tryz.prog w = .ok (.slice (some ⟨w.heap.size, 0, none⟩) n n) (w.alloc (.cells (madeCells #[.int .i64 0, .int .i64 0, .int .i64 0] (n * 3)) 144)) := by
  obtain ⟨i, hi, hzz⟩ := Option.map_eq_some_iff.1 Tryz.infoJob
  simp only [Prod.mk.injEq] at hzz
  obtain ⟨hz, hs, hb⟩ := hzz
  have hr := run_make (P := Tryz.prog) w 138 144 i _ Tryz.underlying138 hi hz .i64 .i64 n n (by omega) (Int.le_refl _) (by rw [hb]; omega) (by omega)
  simp only [Int.toNat_natCast, hs] at hr
  exact hr
theorem jobB_near {r : List Int} {x y z : Int} (hl : r.length = 3) (h0 : r.getD 0 0 = x) (h1 : r.getD 1 0 = y) (h2 : r.getD 2 0 = z) : jobB r = ((x == nearI 1 9 x) && ((y == nearI 0 9 y) && (z == nearI 0 60 z))) := by
  unfold jobB
  rw [hl, h0, h1, h2]
  have e : ∀ {lo hi q : Int}, lo ≤ hi → (q == nearI lo hi q) = inB lo hi q := fun {lo hi q} h => by
    rw [Bool.eq_iff_iff, beq_iff_eq, ← nearI_in h]; exact ⟨Eq.symm, Eq.symm⟩
  rw [e (by omega), e (by omega), e (by omega)]; rfl
theorem run_neq_job (x y z x' y' z' : Int) (w : World) :
    (binOp .neq 144 (.agg #[.int .i64 x, .int .i64 y, .int .i64 z]) (.agg #[.int .i64 x', .int .i64 y', .int .i64 z'])).run Tryz.prog w = .ok (.bool (!((x == x') && ((y == y') && (z == z'))))) w := by
  have hu : Tryz.prog.underlying 3 = some (.int .i64) := Tryz.underlying3
  have he := run_equalIn_agg (P := Tryz.prog) w 9999 144 #[.int .i64 x, .int .i64 y, .int .i64 z] #[.int .i64 x', .int .i64 y', .int .i64 z'] (by kernel_rfl) (by kernel_rfl)
  rw [run_neq_struct, he]
  simp [Program.fieldsOf, Tryz.underlying144, Op.eqFields, go_sem]
  by_cases h1 : x = x' <;> by_cases h2 : y = y' <;> by_cases h3 : z = z' <;> simp [h1, h2, h3]
/-- the jobs, in a new block, or nothing -/
def JobsPost (w : World) (len : Nat) (rows : List (List Int)) (e : Ending) (w' : World) : Prop :=
  Below w.heap.size w w' ∧ ((jobsM rows = false ∧ e = .returned (.tuple #[.slice none 0 0, .bool false])) ∨
    (jobsM rows = true ∧ ∃ b, e = .returned (.tuple #[.slice (some ⟨b, 0, none⟩) len len, .bool true]) ∧ w.heap.size ≤ b ∧ b < w'.heap.size ∧ JobsB w' b len (ta rows) (tb rows) (td rows)))
set_option maxRecDepth 100000 in
set_option maxHeartbeats 4000000 in
theorem dueJobsOf_any (a : Option Addr) (len cap : Nat) (rows : List (List Int)) (w : World) (h : RowsAt w (· < w.heap.size) a len rows) (hc : len ≤ cap) :
    Calls Tryz.prog 113 #[.slice a len cap] w (JobsPost w len rows) := by
  have hs := h.small
  have HL := Lib.hid h.lenEq
  by_cases h8 : len ≤ 8
  · have hmk := run_makeJobs len h8
    have HH := Lib.hid (show ∀ w', Below w.heap.size w w' → RowsAt w' (· < w.heap.size) a len rows from fun w' hb => h.below hb)
    clear h
    go_enter Tryz.func113, Tryz.ntmps113
    go_wp2_with fail
    clear hmk
    go_loopw [15] (fun i wr => ∃ k : Nat, k ≤ len ∧ i = .int .i64 k ∧ (rows.take k).all jobB = true ∧ Below w.heap.size w wr ∧ w.heap.size < wr.heap.size ∧
      JobsB wr w.heap.size len (fun q => if q < k then ta rows q else 0) (fun q => if q < k then tb rows q else 0) (fun q => if q < k then td rows q else 0)) (fun i _ => len - (intOf i).toNat)
    case atStart => exact ⟨0, Nat.zero_le _, rfl, rfl, (Below.refl _ _).alloc (Nat.le_refl _) _, by simp, (JobsB.start w len).congr (fun q _ => by simp)⟩
    case round =>
      obtain ⟨k, hk, rfl, ha, hB, hsz, hJ⟩ := hrel
      have HA := Lib.hid ha
      have hr := HH.out wr hB
      have HB := Lib.hid hB
      clear ha hB
      by_cases hlt : k < len
      · obtain ⟨b, off, r, a', l, c, rfl, hx, hcr, hlc, hri⟩ := hr.get hlt
        have HX := Lib.hid hx
        have HRL := Lib.hid hri.lenEq
        have hrs := hri.small
        have hkl : (k : Int) < (len : Int) := by omega
        clear hx
        by_cases hl3 : l = 3
        · subst hl3
          obtain ⟨b', off', x, rfl, hy, hd⟩ := hri.get (k := 0) (by omega)
          obtain ⟨b2, off2, y, e2, hy2, hd2⟩ := hri.get (k := 1) (by omega)
          cases e2
          obtain ⟨b3, off3, z, e3, hy3, hd3⟩ := hri.get (k := 2) (by omega)
          cases e3
          rw [Nat.add_zero] at hd
          obtain ⟨g0, g1, g2⟩ := hJ.at hlt
          obtain ⟨f0, f1, f2⟩ := hJ.free hlt
          have HJ := Lib.hid hJ
          clear hJ
          go_wp2_with fail
          have mixed : Tryz.prog.follows .mixedOrders = true := by kernel_rfl
          go_region_o
          clear mixed
          go_wp2_with fail
          have HJ2 := Lib.hid (show JobsB (((wr.setCell ⟨w.heap.size, k * 3, none⟩ (.int .i64 x)).setCell ⟨w.heap.size, k * 3 + 1, none⟩ (.int .i64 y)).setCell ⟨w.heap.size, k * 3 + 2, none⟩ (.int .i64 z)).drew w.heap.size len _ _ _ from (HJ.out.put hlt x y z).block rfl)
          have HB2 := Lib.hid (show Below w.heap.size w (((wr.setCell ⟨w.heap.size, k * 3, none⟩ (.int .i64 x)).setCell ⟨w.heap.size, k * 3 + 1, none⟩ (.int .i64 y)).setCell ⟨w.heap.size, k * 3 + 2, none⟩ (.int .i64 z)).drew from
            (((HB.out.setCell (p := ⟨w.heap.size, k * 3, none⟩) (Nat.le_refl _) _).setCell (p := ⟨w.heap.size, k * 3 + 1, none⟩) (Nat.le_refl _) _).setCell (p := ⟨w.heap.size, k * 3 + 2, none⟩) (Nat.le_refl _) _).drew)
          have hs2 : (((wr.setCell ⟨w.heap.size, k * 3, none⟩ (.int .i64 x)).setCell ⟨w.heap.size, k * 3 + 1, none⟩ (.int .i64 y)).setCell ⟨w.heap.size, k * 3 + 2, none⟩ (.int .i64 z)).drew.heap.size = wr.heap.size := by simp [World.setCell]
          obtain ⟨w2, hw2⟩ : ∃ w2, (((wr.setCell ⟨w.heap.size, k * 3, none⟩ (.int .i64 x)).setCell ⟨w.heap.size, k * 3 + 1, none⟩ (.int .i64 y)).setCell ⟨w.heap.size, k * 3 + 2, none⟩ (.int .i64 z)).drew = w2 := ⟨_, rfl⟩
          rw [hw2] at HJ2 HB2 hs2 ⊢
          have hsz2 : w.heap.size < w2.heap.size := by omega
          clear hw2 g0 g1 g2 f0 f1 f2 hd hd2 hd3 hs2 HJ HB hsz
          obtain ⟨g0, g1, g2⟩ := HJ2.out.at hlt
          try dsimp only at g0 g1 g2
          rw [if_pos rfl] at g0 g1 g2
          have HNQ := Lib.hid (jobB_near HRL.out (getD_of hy) (getD_of hy2) (getD_of hy3))
          have HRW := Lib.hid (show r.getD 0 0 = x ∧ r.getD 1 0 = y ∧ r.getD 2 0 = z from ⟨getD_of hy, getD_of hy2, getD_of hy3⟩)
          clear hy hy2 hy3
          have HW := Lib.hid (within_any x y z w2.drew)
          have hne := run_neq_job x y z (nearI 1 9 x) (nearI 0 9 y) (nearI 0 60 z)
          rw [← HNQ.out] at hne
          generalize nearI 1 9 x = x' at *
          generalize nearI 0 9 y = y' at *
          generalize nearI 0 60 z = z' at *
          go_region_held3 (fun w' => w'.cell? ⟨w.heap.size, k * 3, none⟩ = some (.int .i64 x) ∧ w'.cell? ⟨w.heap.size, k * 3 + 1, none⟩ = some (.int .i64 y) ∧ w'.cell? ⟨w.heap.size, k * 3 + 2, none⟩ = some (.int .i64 z)) (first | go_keep | exact ⟨k0, k1, k2⟩)
            (first | (go_at_call 148; refine HW.out.mono ?_; rintro e w3 ⟨rfl, hb3⟩; have k0 := (hb3.cell (p := ⟨w.heap.size, k * 3, none⟩) hsz2).trans g0; have k1 := (hb3.cell (p := ⟨w.heap.size, k * 3 + 1, none⟩) hsz2).trans g1; have k2 := (hb3.cell (p := ⟨w.heap.size, k * 3 + 2, none⟩) hsz2).trans g2))
          have HB3 := Lib.hid (HB2.out.drew.trans (hb3.mono (by show w.heap.size ≤ w2.heap.size; omega)))
          have HJ3 := Lib.hid (HJ2.out.block (w' := w3) (hb3.block w.heap.size hsz2))
          have hsz3 : w.heap.size < w3.heap.size := Nat.lt_of_lt_of_le hsz2 hb3.size
          clear k0 k1 k2 g0 g1 g2 hb3 hne HW HB2 HJ2
          cases hq : jobB r
          · have HF := Lib.hid (jobs_false HX.out hq)
            clear hq
            go_wp2_with fail
            go_ret2
            exact ⟨HB3.out, .inl ⟨HF.out, rfl⟩⟩
          · have HQ := Lib.hid hq
            clear hq
            go_wp2_with fail
            go_roundw
            case rel => exact ⟨k + 1, by omega, by go_num, by
              rw [take_get HX.out, List.all_append, HA.out]
              simp only [List.all_cons, List.all_nil, Bool.and_true, Bool.true_and]
              exact HQ.out, HB3.out, hsz3, HJ3.out.congr fun q _ => by
              have hj := j_at HX.out
              by_cases e : q = k
              · subst e
                rw [if_pos rfl, if_pos rfl, if_pos rfl, if_pos (by omega), if_pos (by omega), if_pos (by omega), hj.1, hj.2.1, hj.2.2, HRW.out.1, HRW.out.2.1, HRW.out.2.2]
                exact ⟨rfl, rfl, rfl⟩
              · rw [if_neg e, if_neg e, if_neg e]
                by_cases e2 : q < k
                · rw [if_pos e2, if_pos e2, if_pos e2, if_pos (by omega), if_pos (by omega), if_pos (by omega)]; exact ⟨rfl, rfl, rfl⟩
                · rw [if_neg e2, if_neg e2, if_neg e2, if_neg (by omega), if_neg (by omega), if_neg (by omega)]; exact ⟨rfl, rfl, rfl⟩⟩
            case measure => simp [intOf] <;> omega
        · have hle : ((l : Int) != 3) = true := by simp; omega
          have HF := Lib.hid (jobs_false HX.out (by unfold jobB; rw [HRL.out, beq_eq_false_iff_ne.2 hl3]; rfl))
          go_wp2_with fail
          go_ret2
          exact ⟨HB.out, .inl ⟨HF.out, rfl⟩⟩
      · obtain rfl : k = len := by omega
        have ha := HA.out
        have hl := HL.out
        rw [List.take_of_length_le (by omega)] at ha
        have HF := Lib.hid (show jobsM rows = true by rw [jobsM, ha, hl, Bool.true_and]; exact decide_eq_true h8)
        have HJ := Lib.hid (hJ.congr (t' := ta rows) (v' := tb rows) (d' := td rows) fun q hq => by rw [if_pos hq, if_pos hq, if_pos hq]; exact ⟨rfl, rfl, rfl⟩)
        clear ha hl hJ
        go_wp2_with fail
        go_ret2
        exact ⟨HB.out, .inr ⟨HF.out, _, rfl, Nat.le_refl _, hsz, HJ.out⟩⟩
  · have HF := Lib.hid (show jobsM rows = false by unfold jobsM; rw [HL.out, decide_eq_false h8, Bool.and_false])
    go_enter Tryz.func113, Tryz.ntmps113
    go_wp2_with fail
    go_ret2
    exact ⟨Below.refl _ _, .inl ⟨HF.out, rfl⟩⟩
theorem validJobs_impl (a : Option Addr) (len cap : Nat) (rows : List (List Int)) (w : World) (h : RowsAt w (· < w.heap.size) a len rows) (hc : len ≤ cap) :
    Calls Tryz.prog 88 #[.slice a len cap] w (ValPost w (.bool (jobsM rows))) := by
  have HD := Lib.hid (dueJobsOf_any a len cap rows w h hc)
  clear h
  go_enter Tryz.func88, Tryz.ntmps88
  go_wp2_with fail
  refine HD.out.mono ?_
  rintro e w1 ⟨hb, ⟨hf, rfl⟩ | ⟨hf, b, rfl, _⟩⟩
  all_goals
    have HF := Lib.hid hf
    clear hf
    go_wp2_with fail
    go_ret
    exact ⟨ret_bool HF.out.symm, hb⟩
end Go.Proofs.YtjcbpnffmebihaaGreatDoor
namespace Go.Proofs.YtjcbpnffmebihaaGreatDoor

-- insertion in place, told by sortE (plain)
theorem ins_next {s l1 l2 : List Nat} {i n : Nat} (hi : i + 1 < n) (h : l1 ++ i :: l2 = s) : insAt l1 i l2 n = insAt s (i + 1) [] n := by
  unfold insAt
  rw [← h]
  have : List.range' (i + 1) (n - (i + 1)) = (i + 1) :: List.range' (i + 1 + 1) (n - (i + 1 + 1)) := by
    obtain ⟨m, hm⟩ : ∃ m, n - (i + 1) = m + 1 := ⟨n - (i + 1) - 1, by omega⟩
    rw [hm, List.range'_succ, show n - (i + 1 + 1) = m by omega]
  rw [this]; simp
theorem ins_last {s l1 l2 : List Nat} {i : Nat} (h : l1 ++ i :: l2 = s) : insAt l1 i l2 (i + 1) = s := by
  unfold insAt; rw [Nat.sub_self, List.range'_zero, List.append_nil, h]
theorem sortE_one (ah : Nat → Nat → Bool) : sortE ah 1 = [0] := by
  simp [sortE, insE, backK]
theorem ins_first (ah : Nat → Nat → Bool) {n : Nat} (hn : 1 < n) : List.range n = insAt (sortE ah 1) 1 [] n := by
  unfold insAt
  obtain ⟨m, rfl⟩ : ∃ m, n = m + 2 := ⟨n - 2, by omega⟩
  rw [List.range_eq_range', List.range'_succ, List.range'_succ, sortE_one]
  rfl
/-- the loop's end: what is behind comes behind, the last one ahead does not -/
theorem insE_done {ah : Nat → Nat → Bool} {l1 l2 : List Nat} {i : Nat} (h : l1 ++ l2 = sortE ah i) (h1 : ∀ l z, l1 = l ++ [z] → ah i z = false) (h2 : ∀ y ∈ l2, ah i y = true) : l1 ++ i :: l2 = sortE ah (i + 1) := by
  have hk : backK (ah i) (sortE ah i) (sortE ah i).length = l1.length := by
    refine backK_is (by rw [← h, List.length_append]; omega) (fun m hm hm2 => ?_) (fun hp => ?_)
    · rw [← h, List.getD_eq_getElem?_getD, List.getElem?_append_right hm]
      rw [← h, List.length_append] at hm2
      rw [List.getElem?_eq_getElem (by omega)]
      exact h2 _ (List.getElem_mem _)
    · rcases List.eq_nil_or_concat l1 with rfl | ⟨l, z, rfl⟩
      · simp at hp
      · have := h1 l z (by rw [List.concat_eq_append])
        rw [← h, List.getD_eq_getElem?_getD]
        simpa using this
  show _ = insE ah i (sortE ah i)
  unfold insE
  rw [hk, ← h]
  simp
end Go.Proofs.YtjcbpnffmebihaaGreatDoor
namespace Go.Proofs.YtjcbpnffmebihaaGreatDoor
open Go.RowKit Go.WideShapes

theorem resC_low {w w2 w' : World} {xs : List Int} {e : Ending} (hb : Below w.heap.size w w2) (h : ResPostC w2 xs e w') : ResPostC w xs e w' := by
  obtain ⟨a, l, c, h1, h2, h3, h4, h5⟩ := h
  have hz := hb.size
  exact ⟨a, l, c, h1, h2.to (fun b hb => ⟨⟨Nat.le_trans hz hb.1, hb.2⟩, rfl⟩), h3.to (fun b hb => ⟨⟨Nat.le_trans hz hb.1, hb.2⟩, rfl⟩), h4, hb.trans (h5.mono hz)⟩
/-- less, the same, more -/
def cc6 (p q : Int) : Int := if p < q then -1 else if q < p then 1 else 0
theorem cc6_lt {p q : Int} : cc6 p q < 0 ↔ p < q := by
  unfold cc6; split
  · omega
  · split <;> omega
theorem isNaN6_any (p : Int) (w : World) : Calls Tryz.prog 169 #[.int .i64 p] w fun e w' => e = .returned (.bool false) ∧ w = w' := by
  have h1 : (p != p) = false := by simp
  go_enter Tryz.func169, Tryz.ntmps169
  go_wp2_with fail
  go_ret
  exact ⟨rfl, rfl⟩
theorem compare6_any (p q : Int) (w : World) : Calls Tryz.prog 141 #[.int .i64 p, .int .i64 q] w fun e w' => e = .returned (.int .i64 (cc6 p q)) ∧ w = w' := by
  by_cases h1 : p < q
  · have HC := Lib.hid (show cc6 p q = -1 from if_pos h1)
    go_enter Tryz.func141, Tryz.ntmps141
    go_wp2_with (go_at_call 169; refine (isNaN6_any _ _).mono ?_; rintro e w' ⟨rfl, rfl⟩)
    go_ret
    exact ⟨ret_int HC.out.symm, rfl⟩
  · by_cases h2 : q < p
    · have HC := Lib.hid (show cc6 p q = 1 by unfold cc6; rw [if_neg h1, if_pos h2])
      go_enter Tryz.func141, Tryz.ntmps141
      go_wp2_with (go_at_call 169; refine (isNaN6_any _ _).mono ?_; rintro e w' ⟨rfl, rfl⟩)
      go_ret
      exact ⟨ret_int HC.out.symm, rfl⟩
    · have HC := Lib.hid (show cc6 p q = 0 by unfold cc6; rw [if_neg h1, if_neg h2])
      go_enter Tryz.func141, Tryz.ntmps141
      go_wp2_with (go_at_call 169; refine (isNaN6_any _ _).mono ?_; rintro e w' ⟨rfl, rfl⟩)
      go_ret
      exact ⟨ret_int HC.out.symm, rfl⟩
/-- how a rule compares two jobs -/
def CmpIs (f : Nat) (ah : Int → Int → Int → Int → Int → Int → Bool) : Prop := ∀ (t v d t' v' d' : Int) (w : World), 0 ≤ t ∧ t ≤ 9 → 0 ≤ v ∧ v ≤ 9 → 0 ≤ d ∧ d ≤ 60 → 0 ≤ t' ∧ t' ≤ 9 → 0 ≤ v' ∧ v' ≤ 9 → 0 ≤ d' ∧ d' ≤ 60 →
  ∃ cv : Int, (cv < 0 ↔ ah t v d t' v' d' = true) ∧ Calls Tryz.prog f #[.agg #[.int .i64 t, .int .i64 v, .int .i64 d], .agg #[.int .i64 t', .int .i64 v', .int .i64 d']] w fun e w' => e = .returned (.int .i64 cv) ∧ Below w.heap.size w w'
theorem byDue_any : CmpIs 115 (fun _ _ d _ _ d' => decide (d < d')) := by
  intro t v d t' v' d' w ht hv hd ht' hv' hd'
  refine ⟨cc6 d d', by rw [cc6_lt, decide_eq_true_iff], ?_⟩
  have HC := Lib.hid (fun w => compare6_any d d' w)
  generalize cc6 d d' = cv at *
  go_enter Tryz.func115, Tryz.ntmps115
  go_wp2_with fail
  refine (HC.out _).mono ?_
  rintro e w' ⟨rfl, rfl⟩
  go_wp2_with fail
  go_ret
  exact ⟨rfl, ((Below.refl _ w).alloc (Nat.le_refl _) _).alloc (by simp) _⟩
end Go.Proofs.YtjcbpnffmebihaaGreatDoor
namespace Go.Proofs.YtjcbpnffmebihaaGreatDoor
open Go.RowKit Go.WideShapes

set_option maxRecDepth 100000 in
set_option maxHeartbeats 1000000 in
theorem byRule1_any (f : Nat) (ah : Int → Int → Int → Int → Int → Int → Bool) (hent : ∀ (args : Array Value) (w : World), (callFunc f args).run Tryz.prog w = .ok (.enter f args) w) (hf : CmpIs f ah)
    (B1 B2 B n x y : Nat) (t v d : Nat → Int) (w : World) (hbd : ∀ q, (0 ≤ t q ∧ t q ≤ 9) ∧ (0 ≤ v q ∧ v q ≤ 9) ∧ (0 ≤ d q ∧ d q ≤ 60))
    (h1 : w.cell? ⟨B1, 0, none⟩ = some (.func (.func f) #[] #[])) (h2 : w.cell? ⟨B2, 0, none⟩ = some (.slice (some ⟨B, 0, none⟩) n n)) (hJ : JobsB w B n t v d) (hx : x < n) (hy : y < n) (hn : n ≤ 8) :
    ∃ cv : Int, (cv < 0 ↔ ah (t x) (v x) (d x) (t y) (v y) (d y) = true) ∧ Calls Tryz.prog 149 #[.int .i64 (x : Int), .int .i64 (y : Int), .pointer (some ⟨B1, 0, none⟩), .pointer (some ⟨B2, 0, none⟩)] w fun e w' => e = .returned (.int .i64 cv) ∧ Below w.heap.size w w' := by
  obtain ⟨cv, hcv, hC⟩ := hf (t x) (v x) (d x) (t y) (v y) (d y) w.drew (hbd x).1 (hbd x).2.1 (hbd x).2.2 (hbd y).1 (hbd y).2.1 (hbd y).2.2
  refine ⟨cv, hcv, ?_⟩
  have HC := Lib.hid hC
  obtain ⟨g0, g1, g2⟩ := hJ.at hx
  obtain ⟨k0, k1, k2⟩ := hJ.at hy
  have hxI : (x : Int) < (n : Int) := by omega
  have hyI : (y : Int) < (n : Int) := by omega
  clear hJ hcv hC hbd hf
  go_enter Tryz.func149, Tryz.ntmps149
  go_wp2_with fail
  go_still_tail 9, (by kernel_rfl)
  change wpList _ _ _ _ _ w.drew
  go_wp2_with fail
  refine HC.out.mono ?_
  rintro e w' ⟨rfl, hb⟩
  go_wp2_with fail
  go_ret
  exact ⟨rfl, (Below.refl _ w).drew.trans hb⟩
/-- what the closure answers, whenever it is called -/
def CmpAt (cf : Nat) (lb : Array Value) (ah : Nat → Nat → Bool) (n b : Nat) (w : World) : Prop := ∀ (i y : Nat) (W : World), i < n → y < i → Below b w W →
  ∃ cv : Int, (cv < 0 ↔ ah i y = true) ∧ Calls Tryz.prog cf (#[.int .i64 (i : Int), .int .i64 (y : Int)] ++ lb) W fun e w' => e = .returned (.int .i64 cv) ∧ Below W.heap.size W w'
set_option maxRecDepth 100000 in
set_option maxHeartbeats 4000000 in
/-- Go's insertion sort of a block of numbers, by a closure that makes memory -/
theorem insertion6_any (ah : Nat → Nat → Bool) (B1 B2 b n cp : Nat) (w : World) (hn8 : n ≤ 8) (hb : b < w.heap.size) (hC : CmpAt 149 #[.pointer (some ⟨B1, 0, none⟩), .pointer (some ⟨B2, 0, none⟩)] ah n b w) (hR : RowB w b (List.range n)) :
    Calls Tryz.prog 167 #[.slice (some ⟨b, 0, none⟩) n cp, .int .i64 0, .int .i64 n, .func (.func 149) #[] #[.pointer (some ⟨B1, 0, none⟩), .pointer (some ⟨B2, 0, none⟩)]] w fun e w' => e = .returned (.tuple #[]) ∧ RowB w' b (sortE ah n) ∧ Below b w w' := by
  have mixed : Tryz.prog.follows .mixedOrders = true := by kernel_rfl
  have hent := enters_of Tryz.func149 (by kernel_rfl) rfl
  have HCA := Lib.hid hC
  have HR := Lib.hid hR
  clear hC hR
  go_enter Tryz.func167, Tryz.ntmps167
  go_wp2_with fail
  go_loopg [8] n (fun g s8 wr => ∃ i : Nat, s8 = .int .i64 (i : Int) ∧ 1 ≤ i ∧ n - i ≤ g ∧ Below b w wr ∧ (i < n → RowB wr b (insAt (sortE ah i) i [] n)) ∧ (n ≤ i → RowB wr b (sortE ah n)))
  case atStart =>
    refine ⟨1, rfl, by omega, by omega, Below.refl _ _, fun h => ?_, fun h => ?_⟩
    · rw [← ins_first ah h]; exact HR.out
    · have : List.range n = sortE ah n := by
        rcases Nat.eq_zero_or_pos n with e | e
        · rw [e]; rfl
        · rw [show n = 1 by omega, sortE_one]; rfl
      rw [← this]; exact HR.out
  case round =>
    obtain ⟨i, rfl, hi1, hg, hB, h1, h2⟩ := hrel
    have H1 := Lib.hid h1
    have H2 := Lib.hid h2
    have HB := Lib.hid hB
    clear h1 h2 hB
    by_cases hlt : i < n
    · have hin : (i : Int) < (n : Int) := by omega
      have HRL := Lib.hid (sortE_len ah i)
      go_wp2_with fail
      go_loopg [9] i (fun g2 s9 wy => ∃ (l1 l2 : List Nat), s9 = .int .i64 (l1.length : Int) ∧ l1.length ≤ g2 ∧ l1 ++ l2 = sortE ah i ∧ (∀ y ∈ l2, ah i y = true) ∧ RowB wy b (insAt l1 i l2 n) ∧ Below b w wy)
      case atStart => exact ⟨sortE ah i, [], by rw [HRL.out], by rw [HRL.out]; exact Nat.le_refl _, List.append_nil _, (fun y hy => by cases hy), H1.out hlt, HB.out⟩
      case round =>
        obtain ⟨l1, l2, rfl, hg2, hl, h2, hRow, hBy⟩ := hrel
        have H2' := Lib.hid h2
        have HRow := Lib.hid hRow
        have HBy := Lib.hid hBy
        have HLL := Lib.hid hl
        have hll : l1.length + l2.length = i := by have := congrArg List.length hl; simpa [HRL.out] using this
        have hlen := insAt_length (l1 := l1) (l2 := l2) hll hlt
        clear h2 hRow hBy hl
        rcases List.eq_nil_or_concat l1 with rfl | ⟨l, y, rfl⟩
        · have HD := Lib.hid (insE_done HLL.out (fun l z e => by simp at e) H2'.out)
          have hj0 : decide ((0 : Int) < 0) = false := rfl
          rw [List.length_nil]
          go_wp2_with fail
          go_quiet (fail)
          go_wp2_with fail
          go_roundg (n - (i + 1))
          case measure => omega
          case rel => exact ⟨i + 1, by go_num, by omega, by omega, below_drewN HBy.out _, fun h => by
              have := (HRow.out.drewN nq)
              rw [ins_next h HD.out] at this
              exact this, fun h => by
              have := (HRow.out.drewN nq)
              have e : n = i + 1 := by omega
              subst e
              rw [ins_last HD.out] at this
              exact this⟩
        · rw [List.concat_eq_append] at HLL HRow hll hlen ⊢
          rw [List.length_append, List.length_singleton] at hll ⊢
          have c1 := (HRow.out.at (q := l.length + 1) (by omega)).1
          have c2 := (HRow.out.at (q := l.length) (by omega)).1
          have e1 : (insAt (l ++ [y]) i l2 n).getD (l.length + 1) 0 = i := by have := insAt_here (l ++ [y]) l2 i n; simpa using this
          rw [e1] at c1
          rw [insAt_ahead] at c2
          have hyi : y < i := by
            have hm : y ∈ sortE ah i := by rw [← HLL.out]; simp
            exact sortE_mem.1 hm
          obtain ⟨cv, hcv, hcall⟩ := HCA.out i y wr.drew hlt hyi HBy.out.drew
          have HCV := Lib.hid hcv
          have HCM := Lib.hid (show Calls Tryz.prog 149 #[.int .i64 (i : Int), .int .i64 (y : Int), .pointer (some ⟨B1, 0, none⟩), .pointer (some ⟨B2, 0, none⟩)] wr.drew (fun e w' => e = .returned (.int .i64 cv) ∧ Below wr.drew.heap.size wr.drew w') from hcall)
          have hbw : b < wr.heap.size := Nat.lt_of_lt_of_le hb HBy.out.size
          have e2 : ((l.length + 1 : Nat) : Int) - 1 = (l.length : Int) := by omega
          have e3 : ((l.length + 1 : Nat) : Int) = (l.length : Int) + 1 := by omega
          have hj1 : l.length + 1 < n := by omega
          have hj2 : (l.length : Int) + 1 < (n : Int) := by omega
          have hj3 : (l.length : Int) < (n : Int) := by omega
          have hj4 : (0 : Int) < (l.length : Int) + 1 := by omega
          have hj5 : (0 : Int) ≤ (l.length : Int) + 1 := by omega
          have hj6 : l.length < n := by omega
          rw [e3]
          have HE1 := Lib.hid e1
          have HLEN := Lib.hid hlen
          clear e1 e2 e3 hcall hcv
          have HLL2 := Lib.hid hll
          obtain ⟨j, hj⟩ : ∃ j, l.length = j := ⟨_, rfl⟩
          have HJ := Lib.hid hj
          rw [hj] at c1 c2 hj1 hj2 hj3 hj4 hj5 hj6 ⊢
          clear hj hll hlen
          go_wp2_with fail
          have hw2 : IntKind.i64.wrap (j : Int) = (j : Int) := IntWalk.i64_in _ (by omega)
          have hj7 : (0 : Int) ≤ (j : Int) := by omega
          have hw1 : IntKind.i64.wrap ((j : Int) + 1 - 1) = (j : Int) := by rw [show (j : Int) + 1 - 1 = (j : Int) by omega]; exact IntWalk.i64_in _ (by omega)
          go_region_held3 (fun w' => w'.cell? ⟨b, j + 1, none⟩ = some (.int .i64 (i : Int)) ∧ w'.cell? ⟨b, j, none⟩ = some (.int .i64 (y : Int))) (first | go_keep | exact ⟨k1, k2⟩)
            (first | (go_at_call 149; refine HCM.out.mono ?_; rintro e w3 ⟨rfl, hb3⟩; have k1 := (hb3.cell (p := ⟨b, j + 1, none⟩) hbw).trans c1; have k2 := (hb3.cell (p := ⟨b, j, none⟩) hbw).trans c2))
          have HRow3 := Lib.hid (show RowB w3 b (insAt (l ++ [y]) i l2 n) from (HRow.out.drewN 1).block (hb3.block b hbw))
          have HB3 := Lib.hid (HBy.out.drew.trans (hb3.mono (by show b ≤ wr.heap.size; omega)))
          have f1 := (HRow3.out.at (q := j + 1) (by rw [HLEN.out]; omega)).2
          have f2 := (HRow3.out.at (q := j) (by rw [HLEN.out]; omega)).2
          clear hw1 hw2 c1 c2 hb3
          by_cases hcb : cv < 0
          · go_wp2_with fail
            go_region_o
            go_wp2_with fail
            have hsw := (HRow3.out).swap (i := l.length + 1) (j := l.length) (by rw [HLEN.out]; have := HJ.out; omega) (by rw [HLEN.out]; have := HJ.out; omega)
            rw [HE1.out, insAt_ahead, insAt_swap, HJ.out] at hsw
            go_roundg j
            case measure => have := HJ.out; simp at hg2; omega
            case rel => exact ⟨l, y :: l2, by rw [HJ.out], by rw [HJ.out]; exact Nat.le_refl _, by simpa using HLL.out, fun z hz => by
                rcases List.mem_cons.1 hz with rfl | hz
                · exact HCV.out.1 hcb
                · exact H2'.out z hz, hsw, ((HB3.out.setCell (p := ⟨b, j + 1, none⟩) (Nat.le_refl _) _).setCell (p := ⟨b, j, none⟩) (Nat.le_refl _) _).drew⟩
          · have HD := Lib.hid (insE_done HLL.out (fun l' z e => by
              have : z = y := by have := List.append_inj_right' e rfl; simpa using this.symm
              subst this
              cases hq : ah i z
              · rfl
              · exact absurd (HCV.out.2 hq) hcb) H2'.out)
            go_wp2_with fail
            go_roundg (n - (i + 1))
            case measure => omega
            case rel => exact ⟨i + 1, by go_num, by omega, by omega, HB3.out, fun h => by
                have := HRow3.out
                rw [ins_next h HD.out] at this
                exact this, fun h => by
                have := HRow3.out
                have e : n = i + 1 := by omega
                subst e
                rw [ins_last HD.out] at this
                exact this⟩
    · have hin : ¬ (i : Int) < (n : Int) := by omega
      go_wp2_with fail
      go_end0
      exact ⟨rfl, H2.out (by omega), HB.out⟩
theorem stable6_any (ah : Nat → Nat → Bool) (B1 B2 b n cp : Nat) (w : World) (hn8 : n ≤ 8) (hb : b < w.heap.size) (hC : CmpAt 149 #[.pointer (some ⟨B1, 0, none⟩), .pointer (some ⟨B2, 0, none⟩)] ah n b w) (hR : RowB w b (List.range n)) :
    Calls Tryz.prog 140 #[.slice (some ⟨b, 0, none⟩) n cp, .int .i64 n, .func (.func 149) #[] #[.pointer (some ⟨B1, 0, none⟩), .pointer (some ⟨B2, 0, none⟩)]] w fun e w' => e = .returned (.tuple #[]) ∧ RowB w' b (sortE ah n) ∧ Below b w w' := by
  have HI := Lib.hid (insertion6_any ah B1 B2 b n cp w hn8 hb hC hR)
  have h20 : ¬ (20 : Int) ≤ (n : Int) := by omega
  have h20' : ¬ (20 : Int) < (n : Int) := by omega
  clear hC hR
  go_enter Tryz.func140, Tryz.ntmps140
  go_wp2_with fail
  go_loopw [7, 8] (fun s7 s8 wr => s7 = .int .i64 0 ∧ s8 = .int .i64 20 ∧ wr = w) (fun _ _ _ => 0)
  case atStart => exact ⟨rfl, rfl, rfl⟩
  case round =>
    obtain ⟨rfl, rfl, rfl⟩ := hrel
    go_wp2_with fail
    refine HI.out.mono ?_
    rintro e w2 ⟨rfl, h1, h2⟩
    have H1 := Lib.hid h1
    have H2 := Lib.hid h2
    clear h1 h2
    go_wp2_with fail
    go_loopw [6] (fun s6 wr => s6 = .int .i64 20 ∧ wr = w2) (fun _ _ => 0)
    case atStart => exact ⟨rfl, rfl⟩
    case round =>
      obtain ⟨rfl, rfl⟩ := hrel
      go_wp2_with fail
      go_end0
      exact ⟨rfl, H1.out, H2.out⟩
theorem sortStable6_any (ah : Nat → Nat → Bool) (B1 B2 b n cp : Nat) (w : World) (hn8 : n ≤ 8) (hb : b < w.heap.size) (hC : CmpAt 149 #[.pointer (some ⟨B1, 0, none⟩), .pointer (some ⟨B2, 0, none⟩)] ah n b w) (hR : RowB w b (List.range n)) :
    Calls Tryz.prog 107 #[.slice (some ⟨b, 0, none⟩) n cp, .func (.func 149) #[] #[.pointer (some ⟨B1, 0, none⟩), .pointer (some ⟨B2, 0, none⟩)]] w fun e w' => e = .returned (.tuple #[]) ∧ RowB w' b (sortE ah n) ∧ Below b w w' := by
  have HI := Lib.hid (stable6_any ah B1 B2 b n cp w hn8 hb hC hR)
  clear hC hR
  go_enter Tryz.func107, Tryz.ntmps107
  go_wp2_with fail
  refine HI.out.mono ?_
  rintro e w2 ⟨rfl, h1, h2⟩
  go_wp2_with fail
  go_end0
  exact ⟨rfl, h1, h2⟩
/-- the jobs sorted by a rule, in a block of its own -/
def SortedPost (w : World) (n : Nat) (ah : Nat → Nat → Bool) (e : Ending) (w' : World) : Prop := ∃ b, e = .returned (.slice (some ⟨b, 0, none⟩) n n) ∧ w.heap.size ≤ b ∧ b < w'.heap.size ∧ RowB w' b (sortE ah n) ∧ Below w.heap.size w w'
set_option maxHeartbeats 1000000 in
theorem orderByRule_any (f : Nat) (ah : Int → Int → Int → Int → Int → Int → Bool) (hent : ∀ (args : Array Value) (w : World), (callFunc f args).run Tryz.prog w = .ok (.enter f args) w) (hf : CmpIs f ah)
    (B n : Nat) (t v d : Nat → Int) (w : World) (hbd : ∀ q, (0 ≤ t q ∧ t q ≤ 9) ∧ (0 ≤ v q ∧ v q ≤ 9) ∧ (0 ≤ d q ∧ d q ≤ 60)) (hB : B < w.heap.size) (hJ : JobsB w B n t v d) (hn : n ≤ 8) :
    Calls Tryz.prog 114 #[.slice (some ⟨B, 0, none⟩) n n, .func (.func f) #[] #[]] w (SortedPost w n (fun i y => ah (t i) (v i) (d i) (t y) (v y) (d y))) := by
  obtain ⟨w1, hw1⟩ : ∃ w1, (w.alloc (.cells #[.slice (some ⟨B, 0, none⟩) n n] 138)).alloc (.cells #[.func (.func f) #[] #[]] 183) = w1 := ⟨_, rfl⟩
  have hs1 : w1.heap.size = w.heap.size + 2 := by rw [← hw1]; simp
  have hb1 : Below w.heap.size w w1 := by rw [← hw1]; exact ((Below.refl _ w).alloc (Nat.le_refl _) _).alloc (by simp) _
  have k1 : w1.cell? ⟨w.heap.size + 1, 0, none⟩ = some (.func (.func f) #[] #[]) := by
    rw [← hw1]
    have z := cell_new_l (w.alloc (.cells #[.slice (some ⟨B, 0, none⟩) n n] 138)) (.func (.func f) #[] #[]) 183
    simp only [World.size_alloc] at z
    exact z.1
  have k2 : w1.cell? ⟨w.heap.size, 0, none⟩ = some (.slice (some ⟨B, 0, none⟩) n n) := by
    rw [← hw1]; exact cell_alloc_l _ (cell_new_l w (.slice (some ⟨B, 0, none⟩) n n) 138).1
  have hJ1 := hJ.block (hb1.block B hB)
  have HFO := Lib.hid (firstOrder_any n w1 hn)
  have HB1 := Lib.hid hb1
  have HK1 := Lib.hid k1
  have HK2 := Lib.hid k2
  have HJ1 := Lib.hid hJ1
  have HW1 := Lib.hid hw1
  have HS1 := Lib.hid hs1
  clear hw1 hb1 k1 k2 hJ1 hJ hs1
  go_enter Tryz.func114, Tryz.ntmps114
  go_wp2_with fail
  rw [HW1.out]
  refine HFO.out.mono ?_
  rintro e w2 ⟨rfl, hown⟩
  have hR2 := hown.rowB
  have hlt2 : w1.heap.size < w2.heap.size := (Array.getElem?_eq_some_iff.1 hown.heap).1
  have hb2 := hown.below
  have hC : CmpAt 149 #[.pointer (some ⟨w.heap.size + 1, 0, none⟩), .pointer (some ⟨w.heap.size, 0, none⟩)] (fun i y => ah (t i) (v i) (d i) (t y) (v y) (d y)) n w1.heap.size w2 := fun i y W hi hy hW => by
    have hs := HS1.out
    have hbW := hb2.trans hW
    exact byRule1_any f ah hent hf (w.heap.size + 1) w.heap.size B n i y t v d W hbd ((hbW.cell (p := ⟨w.heap.size + 1, 0, none⟩) (by show w.heap.size + 1 < _; omega)).trans HK1.out) ((hbW.cell (p := ⟨w.heap.size, 0, none⟩) (by show w.heap.size < _; omega)).trans HK2.out)
      (HJ1.out.block (hbW.block B (by omega))) hi (by omega) hn
  have HST := Lib.hid (sortStable6_any _ (w.heap.size + 1) w.heap.size w1.heap.size n n w2 hn hlt2 hC hR2)
  have HB2 := Lib.hid hb2
  clear hown hR2 hb2 hC
  go_wp2_with fail
  refine HST.out.mono ?_
  rintro e w4 ⟨rfl, h4, hb4⟩
  have H4 := Lib.hid h4
  have HB4 := Lib.hid hb4
  clear h4 hb4
  go_wp2_with fail
  go_ret
  exact ⟨w1.heap.size, rfl, by have := HS1.out; omega, Nat.lt_of_lt_of_le hlt2 HB4.out.size, H4.out, HB1.out.trans ((HB2.out.trans HB4.out).mono (by have := HS1.out; omega))⟩
end Go.Proofs.YtjcbpnffmebihaaGreatDoor
