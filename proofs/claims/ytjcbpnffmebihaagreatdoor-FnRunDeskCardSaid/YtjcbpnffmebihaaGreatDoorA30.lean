import Derived.Test.YtjcbpnffmebihaaGreatDoorA26
import Derived.Test.YtjcbpnffmebihaaGreatDoorA27
import Derived.Test.YtjcbpnffmebihaaGreatDoorRows
import Derived.WalkKit
import Derived.LoopTactic
import Derived.Outline
import Derived.WalkSpells
import Derived.WalkLawsBesides
import Derived.ProofKit
import Derived.Lib.Hide
import Derived.IntWalk
import Derived.Laws.StructEq
import Derived.Deep.RegionHeld3
import Derived.Shelf.RegionOpenPlain
import Derived.StillTailTactics
set_option linter.unusedVariables false
set_option linter.unusedSimpArgs false
namespace Go.Proofs.YtjcbpnffmebihaaGreatDoor
open Go.RowKit Go.WideShapes

def isLong (kind : ByteArray) : Bool := kind.toList == [108, 111, 110, 103]
def isFirst (kind : ByteArray) : Bool := kind.toList == [102, 105, 114, 115, 116]
theorem long_not_first {kind : ByteArray} (h : isLong kind = true) : isFirst kind = false := by
  unfold isLong at h
  unfold isFirst
  rw [beq_iff_eq] at h
  rw [h]; rfl
theorem l_isLong : isLong ⟨#[108, 111, 110, 103]⟩ = true := by kernel_rfl
def upI (n : Nat) : List Int := (List.range n).map (fun x : Nat => (x : Int))
theorem upI_get (n j : Nat) (h : j < n) : (upI n).getD j 0 = (((List.range n).getD j 0 : Nat) : Int) := by
  unfold upI
  simp [List.getD_eq_getElem?_getD, h]
theorem srtI_getD (ah : Nat → Nat → Bool) (n j : Nat) (h : j < n) : (srtI ah n).getD j 0 = (((sortE ah n).getD j 0 : Nat) : Int) := by
  have := sortE_len ah n
  unfold srtI
  simp [List.getD_eq_getElem?_getD, this, h]
theorem upI_succ (n : Nat) : upI (n + 1) = upI n ++ [(n : Int)] := by unfold upI; rw [List.range_succ, List.map_append]; rfl
/-- the order in which the kind cuts -/
def cutOrd (xs : List Int) (kind : ByteArray) : List Nat := if isLong kind then sortE (ahL xs) xs.length else List.range xs.length
theorem cutOrd_perm (xs : List Int) (kind : ByteArray) : (cutOrd xs kind).Perm (List.range xs.length) := by
  unfold cutOrd; split
  · exact sortE_perm _ _
  · exact List.Perm.refl _
/-- what RollsBy answers -/
def rollRes (xs : List Int) (R : Int) (kind : ByteArray) : List Int := if cutsM xs R && (isLong kind || isFirst kind) then tab (fun i => (rollP (lenT xs) R (cutOrd xs kind) xs.length i : Int)) xs.length else []
set_option maxRecDepth 100000 in
theorem upTo_any (n : Nat) (w : World) (hn : n ≤ 1000) : Calls Tryz.prog 62 #[.int .i64 n] w (NewOwn w (upI n)) := by
  have ho0 := World.ownsRow_made (base := w.heap.size) (size := 1) (e := 3) w #[] 0 (Nat.le_refl _) (Nat.zero_le _) rfl
  have HO0 := Lib.hid ho0
  clear ho0
  go_enter Tryz.func62, Tryz.ntmps62
  go_wp2_with fail
  go_loopw [3, 4] (fun v i wr => ∃ (k cp : Nat) (ax : Option Addr), k ≤ n ∧ i = .int .i64 k ∧ v = .slice ax k cp ∧ wr.ownsRow w.heap.size 3 1 v k ((upI k).map (.int .i64)) ∧ Below w.heap.size w wr) (fun _ i _ => n - (intOf i).toNat)
  case atStart => exact ⟨0, 0, _, Nat.zero_le _, rfl, rfl, HO0.out, (Below.refl _ _).alloc (Nat.le_refl _) _⟩
  case round =>
    clear HO0
    obtain ⟨k, cp, ax, hk, rfl, rfl, hown, hB⟩ := hrel
    obtain ⟨wo, rfl⟩ : ∃ wo : World, wo = wr := ⟨_, rfl⟩
    have HO9 := Lib.hid hown
    have HB9 := Lib.hid hB
    clear hown hB
    by_cases hlt : k < n
    · have hkI : (k : Int) < (n : Int) := by omega
      go_wp2_with (at_builtin; refine wpApp1 rfl _ _ rfl w.heap.size _ _ _ _ _ rfl HO9.out rfl HB9.out.size (by omega) ?_)
      intro a6 c6 w6 hown hc6 hgr
      have HO6 := Lib.hid hown
      have HG6 := Lib.hid hgr
      clear hown hgr
      go_wp2
      go_roundw
      case rel => exact ⟨k + 1, c6, a6, by omega, by go_num, rfl, by rw [upI_succ]; exact own_snoc HO6.out, HB9.out.grown HG6.out HB9.out.size (own_block HO9.out)⟩
      case measure => simp [intOf]; omega
    · obtain rfl : k = n := by omega
      have hkI : ¬ (k : Int) < (k : Int) := by omega
      go_wp2_with fail
      go_ret
      exact ⟨_, _, _, rfl, by omega, HO9.out, HB9.out⟩
set_option maxRecDepth 100000 in
set_option maxHeartbeats 2000000 in
theorem rollsBy_own (a : Option Addr) (len cap : Nat) (xs : List Int) (R : Int) (kind : ByteArray) (w : World) (h : IntsAt w (· < w.heap.size) a len xs) :
    Calls Tryz.prog 44 #[.slice a len cap, .int .i64 R, .string kind] w (NewInts w (rollRes xs R kind)) := by
  have HL := Lib.hid h.lenEq
  cases hv : cutsM xs R
  · have HR := Lib.hid (show rollRes xs R kind = [] by unfold rollRes; rw [hv]; rfl)
    rw [HR.out]
    go_enter Tryz.func44, Tryz.ntmps44
    go_wp2_with (first | (go_at_call 42; refine (vcuts hv _ h).mono ?_; rintro e w' ⟨rfl, rfl⟩) | fail)
    go_ret
    exact newInts_nil w
  · have hl7 : len ≤ 7 := by have := (cuts_get hv).2.2.1; have := HL.out; omega
    have HVJ := Lib.hid (vcuts (cap := cap) hv w h)
    have e1 : (kind.toList == [108, 111, 110, 103]) = isLong kind := rfl
    have e2 : (kind.toList == [102, 105, 114, 115, 116]) = isFirst kind := rfl
    cases h1 : isLong kind
    · rw [h1] at e1
      cases h2 : isFirst kind
      · rw [h2] at e2
        have HR := Lib.hid (show rollRes xs R kind = [] by unfold rollRes; rw [hv, h1, h2]; rfl)
        rw [HR.out]
        clear h1 h2
        go_enter Tryz.func44, Tryz.ntmps44
        go_wp2_with fail
        refine HVJ.out.mono ?_
        rintro e w' ⟨rfl, rfl⟩
        go_wp2_with fail
        go_ret
        exact newInts_nil _
      · rw [h2] at e2
        have HR := Lib.hid (show rollRes xs R kind = tab (fun i => (rollP (lenT xs) R (List.range len) len i : Int)) len by unfold rollRes cutOrd; rw [hv, h1, h2, HL.out]; rfl)
        rw [HR.out]
        clear h1 h2
        go_enter Tryz.func44, Tryz.ntmps44
        go_wp2_with fail
        refine HVJ.out.mono ?_
        rintro e w' ⟨rfl, rfl⟩
        go_wp2_with fail
        refine (upTo_any len w (by omega)).mono ?_
        rintro e w1 h1
        obtain ⟨a3, l3, c3, rfl, h3, hc3, hb1⟩ := h1.ints
        have hl3 : l3 = len := by have := h3.lenEq; simp [upI] at this; omega
        subst hl3
        have HF := Lib.hid (fit_any a a3 l3 cap c3 xs (upI l3) R (List.range l3) w1 ((h.below hb1).to (fun b hb => ⟨Nat.lt_of_lt_of_le hb hb1.size, rfl⟩)) (h3.to (fun b hb => ⟨hb.2, rfl⟩)) hv (List.Perm.refl _) (fun j hj => upI_get _ j hj))
        have HB1 := Lib.hid hb1
        clear h3 hb1 h1
        go_wp2_with fail
        refine HF.out.mono ?_
        rintro e w2 h2
        obtain ⟨a4, l4, c4, rfl, h4, hc4, hb2⟩ := h2.ints
        have H4 := Lib.hid h4
        have HB2 := Lib.hid (HB1.out.trans (hb2.mono HB1.out.size))
        clear h4 hb2 h2
        go_wp2_with fail
        go_ret
        exact ⟨a4, l4, c4, rfl, H4.out.to (fun b hb => ⟨⟨Nat.le_trans HB1.out.size hb.1, hb.2⟩, rfl⟩), hc4, HB2.out⟩
    · rw [h1] at e1
      have h2 := long_not_first h1
      rw [h2] at e2
      have HR := Lib.hid (show rollRes xs R kind = tab (fun i => (rollP (lenT xs) R (sortE (ahL xs) len) len i : Int)) len by unfold rollRes cutOrd; rw [hv, h1, HL.out]; rfl)
      rw [HR.out]
      clear h1 h2
      go_enter Tryz.func44, Tryz.ntmps44
      go_wp2_with fail
      refine HVJ.out.mono ?_
      rintro e w' ⟨rfl, rfl⟩
      go_wp2_with fail
      refine (byLength_any a len cap xs w h (by omega)).mono ?_
      rintro e w1 h1
      obtain ⟨a3, l3, c3, rfl, h3, hc3, hb1⟩ := h1.ints
      have hl3 : l3 = len := by have := h3.lenEq; rw [srtI_len] at this; omega
      subst hl3
      have HF := Lib.hid (fit_any a a3 l3 cap c3 xs (srtI (ahL xs) l3) R (sortE (ahL xs) l3) w1 ((h.below hb1).to (fun b hb => ⟨Nat.lt_of_lt_of_le hb hb1.size, rfl⟩)) (h3.to (fun b hb => ⟨hb.2, rfl⟩)) hv (sortE_perm _ _) (fun j hj => srtI_getD _ _ j hj))
      have HB1 := Lib.hid hb1
      clear h3 hb1 h1
      go_wp2_with fail
      refine HF.out.mono ?_
      rintro e w2 h2
      obtain ⟨a4, l4, c4, rfl, h4, hc4, hb2⟩ := h2.ints
      have H4 := Lib.hid h4
      have HB2 := Lib.hid (HB1.out.trans (hb2.mono HB1.out.size))
      clear h4 hb2 h2
      go_wp2_with fail
      go_ret
      exact ⟨a4, l4, c4, rfl, H4.out.to (fun b hb => ⟨⟨Nat.le_trans HB1.out.size hb.1, hb.2⟩, rfl⟩), hc4, HB2.out⟩
end Go.Proofs.YtjcbpnffmebihaaGreatDoor
namespace Go.Proofs.YtjcbpnffmebihaaGreatDoor
open Go.RowKit Go.WideShapes

/-- the nearest number within limits -/
def nearI (lo hi x : Int) : Int := min (max x lo) hi
theorem nearI_in {lo hi x : Int} (h : lo ≤ hi) : nearI lo hi x = x ↔ inB lo hi x = true := by
  unfold nearI inB; rw [decide_eq_true_iff]; omega
set_option maxHeartbeats 1000000 in
theorem within_any (t v d : Int) (w : World) :
    Calls Tryz.prog 148 #[.agg #[.int .i64 t, .int .i64 v, .int .i64 d]] w fun e w' => e = .returned (.agg #[.int .i64 (nearI 1 9 t), .int .i64 (nearI 0 9 v), .int .i64 (nearI 0 60 d)]) ∧ Below w.heap.size w w' := by
  go_enter Tryz.func148, Tryz.ntmps148
  go_wp2_with fail
  all_goals
    refine bodyPost_ret (v := .agg #[.int .i64 (nearI 1 9 t), .int .i64 (nearI 0 9 v), .int .i64 (nearI 0 60 d)]) (by simp [results, Tryz.results148, go_sem]; unfold nearI; omega) rfl ⟨rfl, ?_⟩
    exact (((Below.refl _ w).alloc (Nat.le_refl _) _).alloc (by simp) _)
/-- the first n cells of block b hold these numbers, and may be written -/
def CellsI (w : World) (b n : Nat) (f : Nat → Int) : Prop := ∀ j, j < n → w.cell? ⟨b, j, none⟩ = some (.int .i64 (f j)) ∧ w.frozen? ⟨b, j, none⟩ = false
theorem CellsI.block {w w' : World} {b n : Nat} {f : Nat → Int} (h : CellsI w b n f) (e : w'.heap[b]? = w.heap[b]?) : CellsI w' b n f := fun j hj =>
  ⟨by rw [World.cell?_of_block (w := w) e]; exact (h j hj).1, by rw [World.frozen?_of_block (w := w) e]; exact (h j hj).2⟩
theorem CellsI.congr {w : World} {b n : Nat} {f g : Nat → Int} (h : CellsI w b n f) (e : ∀ j, j < n → f j = g j) : CellsI w b n g := fun j hj => by rw [← e j hj]; exact h j hj
theorem CellsI.put {w : World} {b n : Nat} {f : Nat → Int} (h : CellsI w b n f) {k : Nat} (hk : k < n) (x : Int) : CellsI (w.setCell ⟨b, k, none⟩ (.int .i64 x)) b n (fun j => if j = k then x else f j) := fun j hj => by
  refine ⟨?_, by rw [World.frozen?_setCell]; exact (h j hj).2⟩
  dsimp only
  by_cases e : j = k
  · subst e
    rw [if_pos rfl]
    exact World.cell?_setCell_same _ _ _ (h j hj).1
  · rw [if_neg e, World.cell?_setCell_other _ _ _ _ (by intro e'; injection e' with _ e2; exact e e2.symm)]
    exact (h j hj).1
/-- a job's three numbers, by the cell -/
def jf (t v d : Nat → Int) (j : Nat) : Int := if j % 3 = 0 then t (j / 3) else if j % 3 = 1 then v (j / 3) else d (j / 3)
theorem jf0 (t v d : Nat → Int) (q : Nat) : jf t v d (q * 3) = t q := by
  unfold jf; rw [if_pos (by omega), show q * 3 / 3 = q by omega]
theorem jf1 (t v d : Nat → Int) (q : Nat) : jf t v d (q * 3 + 1) = v q := by
  unfold jf; rw [if_neg (by omega), if_pos (by omega), show (q * 3 + 1) / 3 = q by omega]
theorem jf2 (t v d : Nat → Int) (q : Nat) : jf t v d (q * 3 + 2) = d q := by
  unfold jf; rw [if_neg (by omega), if_neg (by omega), show (q * 3 + 2) / 3 = q by omega]
/-- block b holds jobs from its first cell on, three cells each -/
def JobsB (w : World) (b n : Nat) (t v d : Nat → Int) : Prop := CellsI w b (n * 3) (jf t v d)
theorem JobsB.at {w : World} {b n : Nat} {t v d : Nat → Int} (h : JobsB w b n t v d) {q : Nat} (hq : q < n) :
    w.cell? ⟨b, q * 3, none⟩ = some (.int .i64 (t q)) ∧ w.cell? ⟨b, q * 3 + 1, none⟩ = some (.int .i64 (v q)) ∧ w.cell? ⟨b, q * 3 + 2, none⟩ = some (.int .i64 (d q)) := by
  have h0 := (h (q * 3) (by omega)).1
  have h1 := (h (q * 3 + 1) (by omega)).1
  have h2 := (h (q * 3 + 2) (by omega)).1
  rw [jf0] at h0
  rw [jf1] at h1
  rw [jf2] at h2
  exact ⟨h0, h1, h2⟩
theorem JobsB.free {w : World} {b n : Nat} {t v d : Nat → Int} (h : JobsB w b n t v d) {q : Nat} (hq : q < n) :
    w.frozen? ⟨b, q * 3, none⟩ = false ∧ w.frozen? ⟨b, q * 3 + 1, none⟩ = false ∧ w.frozen? ⟨b, q * 3 + 2, none⟩ = false :=
  ⟨(h _ (by omega)).2, (h _ (by omega)).2, (h _ (by omega)).2⟩
theorem JobsB.block {w w' : World} {b n : Nat} {t v d : Nat → Int} (h : JobsB w b n t v d) (e : w'.heap[b]? = w.heap[b]?) : JobsB w' b n t v d := CellsI.block h e
theorem JobsB.congr {w : World} {b n : Nat} {t v d t' v' d' : Nat → Int} (h : JobsB w b n t v d) (e : ∀ q, q < n → t q = t' q ∧ v q = v' q ∧ d q = d' q) : JobsB w b n t' v' d' := CellsI.congr h fun j hj => by
  have := e (j / 3) (by omega)
  unfold jf; rw [this.1, this.2.1, this.2.2]
theorem JobsB.put {w : World} {b n : Nat} {t v d : Nat → Int} (h : JobsB w b n t v d) {k : Nat} (hk : k < n) (x y z : Int) :
    JobsB (((w.setCell ⟨b, k * 3, none⟩ (.int .i64 x)).setCell ⟨b, k * 3 + 1, none⟩ (.int .i64 y)).setCell ⟨b, k * 3 + 2, none⟩ (.int .i64 z)) b n (fun q => if q = k then x else t q) (fun q => if q = k then y else v q) (fun q => if q = k then z else d q) := by
  refine (((CellsI.put h (k := k * 3) (by omega) x).put (k := k * 3 + 1) (by omega) y).put (k := k * 3 + 2) (by omega) z).congr fun j hj => ?_
  unfold jf
  dsimp only
  by_cases e : j / 3 = k
  · rw [if_pos e, if_pos e, if_pos e]
    by_cases e0 : j % 3 = 0
    · rw [if_neg (by omega), if_neg (by omega), if_pos (by omega), if_pos e0]
    · by_cases e1 : j % 3 = 1
      · rw [if_neg (by omega), if_pos (by omega), if_neg e0, if_pos e1]
      · rw [if_pos (by omega), if_neg e0, if_neg e1]
  · rw [if_neg (by omega), if_neg (by omega), if_neg (by omega), if_neg e, if_neg e, if_neg e]
theorem JobsB.start (w : World) (n : Nat) : JobsB (w.alloc (.cells (madeCells #[.int .i64 0, .int .i64 0, .int .i64 0] (n * 3)) 144)) w.heap.size n (fun _ => 0) (fun _ => 0) (fun _ => 0) := fun j hj => by
  refine ⟨?_, World.frozen?_alloc_new w _ _ _⟩
  rw [World.cell?_alloc_new]
  have hj3 : j % 3 = 0 ∨ j % 3 = 1 ∨ j % 3 = 2 := by omega
  simp only [madeCells, Array.getElem?_map, Array.getElem?_range, hj, if_true, Option.map_some]
  unfold jf
  simp only [ite_self]
  rcases hj3 with e | e | e <;> simp [e]
theorem Tryz.infoJob : (Tryz.prog.info? 144).map (fun i => (i.zero, i.size, i.bytes)) = some (some (.agg #[.int .i64 0, .int .i64 0, .int .i64 0]), 3, 24) := by kernel_rfl
theorem run_makeJobs (n : Nat) (hn : n ≤ 8) (w : World) :
    (Instr.makeSlice 138 (.int .i64 (n : Int)) (.int .i64 (n : Int))).run Tryz.prog w = .ok (.slice (some ⟨w.heap.size, 0, none⟩) n n) (w.alloc (.cells (madeCells #[.int .i64 0, .int .i64 0, .int .i64 0] (n * 3)) 144)) := by
  obtain ⟨i, hi, hzz⟩ := Option.map_eq_some_iff.1 Tryz.infoJob
  simp only [Prod.mk.injEq] at hzz
  obtain ⟨hz, hs, hb⟩ := hzz
  have hr := run_make (P := Tryz.prog) w 138 144 i _ Tryz.underlying138 hi hz .i64 .i64 n n (by omega) (Int.le_refl _) (by rw [hb]; omega) (by omega)
  simp only [Int.toNat_natCast, hs] at hr
  exact hr
theorem jobB_near {r : List Int} {x y z : Int} (hl : r.length = 3) (h0 : r.getD 0 0 = x) (h1 : r.getD 1 0 = y) (h2 : r.getD 2 0 = z) : jobB r = ((x == nearI 1 9 x) && ((y == nearI 0 9 y) && (z == nearI 0 60 z))) := by
  unfold jobB
  rw [hl, h0, h1, h2]
  have e : ∀ {lo hi q : Int}, lo ≤ hi → (q == nearI lo hi q) = inB lo hi q := fun {lo hi q} h => by
    rw [Bool.eq_iff_iff, beq_iff_eq, ← nearI_in h]; exact ⟨Eq.symm, Eq.symm⟩
  rw [e (by omega), e (by omega), e (by omega)]; rfl
theorem run_neq_job (x y z x' y' z' : Int) (w : World) :
    (binOp .neq 144 (.agg #[.int .i64 x, .int .i64 y, .int .i64 z]) (.agg #[.int .i64 x', .int .i64 y', .int .i64 z'])).run Tryz.prog w = .ok (.bool (!((x == x') && ((y == y') && (z == z'))))) w := by
  have hu : Tryz.prog.underlying 3 = some (.int .i64) := Tryz.underlying3
  have he := run_equalIn_agg (P := Tryz.prog) w 9999 144 #[.int .i64 x, .int .i64 y, .int .i64 z] #[.int .i64 x', .int .i64 y', .int .i64 z'] (by kernel_rfl) (by kernel_rfl)
  rw [run_neq_struct, he]
  simp [Program.fieldsOf, Tryz.underlying144, Op.eqFields, go_sem]
  by_cases h1 : x = x' <;> by_cases h2 : y = y' <;> by_cases h3 : z = z' <;> simp [h1, h2, h3]
/-- the jobs, in a new block, or nothing -/
def JobsPost (w : World) (len : Nat) (rows : List (List Int)) (e : Ending) (w' : World) : Prop :=
  Below w.heap.size w w' ∧ ((jobsM rows = false ∧ e = .returned (.tuple #[.slice none 0 0, .bool false])) ∨
    (jobsM rows = true ∧ ∃ b, e = .returned (.tuple #[.slice (some ⟨b, 0, none⟩) len len, .bool true]) ∧ w.heap.size ≤ b ∧ b < w'.heap.size ∧ JobsB w' b len (ta rows) (tb rows) (td rows)))
set_option maxRecDepth 100000 in
set_option maxHeartbeats 4000000 in
theorem dueJobsOf_any (a : Option Addr) (len cap : Nat) (rows : List (List Int)) (w : World) (h : RowsAt w (· < w.heap.size) a len rows) (hc : len ≤ cap) :
    Calls Tryz.prog 113 #[.slice a len cap] w (JobsPost w len rows) := by
  have hs := h.small
  have HL := Lib.hid h.lenEq
  by_cases h8 : len ≤ 8
  · have hmk := run_makeJobs len h8
    have HH := Lib.hid (show ∀ w', Below w.heap.size w w' → RowsAt w' (· < w.heap.size) a len rows from fun w' hb => h.below hb)
    clear h
    go_enter Tryz.func113, Tryz.ntmps113
    go_wp2_with fail
    clear hmk
    go_loopw [15] (fun i wr => ∃ k : Nat, k ≤ len ∧ i = .int .i64 k ∧ (rows.take k).all jobB = true ∧ Below w.heap.size w wr ∧ w.heap.size < wr.heap.size ∧
      JobsB wr w.heap.size len (fun q => if q < k then ta rows q else 0) (fun q => if q < k then tb rows q else 0) (fun q => if q < k then td rows q else 0)) (fun i _ => len - (intOf i).toNat)
    case atStart => exact ⟨0, Nat.zero_le _, rfl, rfl, (Below.refl _ _).alloc (Nat.le_refl _) _, by simp, (JobsB.start w len).congr (fun q _ => by simp)⟩
    case round =>
      obtain ⟨k, hk, rfl, ha, hB, hsz, hJ⟩ := hrel
      have HA := Lib.hid ha
      have hr := HH.out wr hB
      have HB := Lib.hid hB
      clear ha hB
      by_cases hlt : k < len
      · obtain ⟨b, off, r, a', l, c, rfl, hx, hcr, hlc, hri⟩ := hr.get hlt
        have HX := Lib.hid hx
        have HRL := Lib.hid hri.lenEq
        have hrs := hri.small
        have hkl : (k : Int) < (len : Int) := by omega
        clear hx
        by_cases hl3 : l = 3
        · subst hl3
          obtain ⟨b', off', x, rfl, hy, hd⟩ := hri.get (k := 0) (by omega)
          obtain ⟨b2, off2, y, e2, hy2, hd2⟩ := hri.get (k := 1) (by omega)
          cases e2
          obtain ⟨b3, off3, z, e3, hy3, hd3⟩ := hri.get (k := 2) (by omega)
          cases e3
          rw [Nat.add_zero] at hd
          obtain ⟨g0, g1, g2⟩ := hJ.at hlt
          obtain ⟨f0, f1, f2⟩ := hJ.free hlt
          have HJ := Lib.hid hJ
          clear hJ
          go_wp2_with fail
          have mixed : Tryz.prog.follows .mixedOrders = true := by kernel_rfl
          go_region_o
          clear mixed
          go_wp2_with fail
          have HJ2 := Lib.hid (show JobsB (((wr.setCell ⟨w.heap.size, k * 3, none⟩ (.int .i64 x)).setCell ⟨w.heap.size, k * 3 + 1, none⟩ (.int .i64 y)).setCell ⟨w.heap.size, k * 3 + 2, none⟩ (.int .i64 z)).drew w.heap.size len _ _ _ from (HJ.out.put hlt x y z).block rfl)
          have HB2 := Lib.hid (show Below w.heap.size w (((wr.setCell ⟨w.heap.size, k * 3, none⟩ (.int .i64 x)).setCell ⟨w.heap.size, k * 3 + 1, none⟩ (.int .i64 y)).setCell ⟨w.heap.size, k * 3 + 2, none⟩ (.int .i64 z)).drew from
            (((HB.out.setCell (p := ⟨w.heap.size, k * 3, none⟩) (Nat.le_refl _) _).setCell (p := ⟨w.heap.size, k * 3 + 1, none⟩) (Nat.le_refl _) _).setCell (p := ⟨w.heap.size, k * 3 + 2, none⟩) (Nat.le_refl _) _).drew)
          have hs2 : (((wr.setCell ⟨w.heap.size, k * 3, none⟩ (.int .i64 x)).setCell ⟨w.heap.size, k * 3 + 1, none⟩ (.int .i64 y)).setCell ⟨w.heap.size, k * 3 + 2, none⟩ (.int .i64 z)).drew.heap.size = wr.heap.size := by simp [World.setCell]
          obtain ⟨w2, hw2⟩ : ∃ w2, (((wr.setCell ⟨w.heap.size, k * 3, none⟩ (.int .i64 x)).setCell ⟨w.heap.size, k * 3 + 1, none⟩ (.int .i64 y)).setCell ⟨w.heap.size, k * 3 + 2, none⟩ (.int .i64 z)).drew = w2 := ⟨_, rfl⟩
          rw [hw2] at HJ2 HB2 hs2 ⊢
          have hsz2 : w.heap.size < w2.heap.size := by omega
          clear hw2 g0 g1 g2 f0 f1 f2 hd hd2 hd3 hs2 HJ HB hsz
          obtain ⟨g0, g1, g2⟩ := HJ2.out.at hlt
          try dsimp only at g0 g1 g2
          rw [if_pos rfl] at g0 g1 g2
          have HNQ := Lib.hid (jobB_near HRL.out (getD_of hy) (getD_of hy2) (getD_of hy3))
          have HRW := Lib.hid (show r.getD 0 0 = x ∧ r.getD 1 0 = y ∧ r.getD 2 0 = z from ⟨getD_of hy, getD_of hy2, getD_of hy3⟩)
          clear hy hy2 hy3
          have HW := Lib.hid (within_any x y z w2.drew)
          have hne := run_neq_job x y z (nearI 1 9 x) (nearI 0 9 y) (nearI 0 60 z)
          rw [← HNQ.out] at hne
          generalize nearI 1 9 x = x' at *
          generalize nearI 0 9 y = y' at *
          generalize nearI 0 60 z = z' at *
          go_region_held3 (fun w' => w'.cell? ⟨w.heap.size, k * 3, none⟩ = some (.int .i64 x) ∧ w'.cell? ⟨w.heap.size, k * 3 + 1, none⟩ = some (.int .i64 y) ∧ w'.cell? ⟨w.heap.size, k * 3 + 2, none⟩ = some (.int .i64 z)) (first | go_keep | exact ⟨k0, k1, k2⟩)
            (first | (go_at_call 148; refine HW.out.mono ?_; rintro e w3 ⟨rfl, hb3⟩; have k0 := (hb3.cell (p := ⟨w.heap.size, k * 3, none⟩) hsz2).trans g0; have k1 := (hb3.cell (p := ⟨w.heap.size, k * 3 + 1, none⟩) hsz2).trans g1; have k2 := (hb3.cell (p := ⟨w.heap.size, k * 3 + 2, none⟩) hsz2).trans g2))
          have HB3 := Lib.hid (HB2.out.drew.trans (hb3.mono (by show w.heap.size ≤ w2.heap.size; omega)))
          have HJ3 := Lib.hid (HJ2.out.block (w' := w3) (hb3.block w.heap.size hsz2))
          have hsz3 : w.heap.size < w3.heap.size := Nat.lt_of_lt_of_le hsz2 hb3.size
          clear k0 k1 k2 g0 g1 g2 hb3 hne HW HB2 HJ2
          cases hq : jobB r
          · have HF := Lib.hid (jobs_false HX.out hq)
            clear hq
            go_wp2_with fail
            go_ret2
            exact ⟨HB3.out, .inl ⟨HF.out, rfl⟩⟩
          · have HQ := Lib.hid hq
            clear hq
            go_wp2_with fail
            go_roundw
            case rel => exact ⟨k + 1, by omega, by go_num, by
              rw [take_get HX.out, List.all_append, HA.out]
              simp only [List.all_cons, List.all_nil, Bool.and_true, Bool.true_and]
              exact HQ.out, HB3.out, hsz3, HJ3.out.congr fun q _ => by
              have hj := j_at HX.out
              by_cases e : q = k
              · subst e
                rw [if_pos rfl, if_pos rfl, if_pos rfl, if_pos (by omega), if_pos (by omega), if_pos (by omega), hj.1, hj.2.1, hj.2.2, HRW.out.1, HRW.out.2.1, HRW.out.2.2]
                exact ⟨rfl, rfl, rfl⟩
              · rw [if_neg e, if_neg e, if_neg e]
                by_cases e2 : q < k
                · rw [if_pos e2, if_pos e2, if_pos e2, if_pos (by omega), if_pos (by omega), if_pos (by omega)]; exact ⟨rfl, rfl, rfl⟩
                · rw [if_neg e2, if_neg e2, if_neg e2, if_neg (by omega), if_neg (by omega), if_neg (by omega)]; exact ⟨rfl, rfl, rfl⟩⟩
            case measure => simp [intOf] <;> omega
        · have hle : ((l : Int) != 3) = true := by simp; omega
          have HF := Lib.hid (jobs_false HX.out (by unfold jobB; rw [HRL.out, beq_eq_false_iff_ne.2 hl3]; rfl))
          go_wp2_with fail
          go_ret2
          exact ⟨HB.out, .inl ⟨HF.out, rfl⟩⟩
      · obtain rfl : k = len := by omega
        have ha := HA.out
        have hl := HL.out
        rw [List.take_of_length_le (by omega)] at ha
        have HF := Lib.hid (show jobsM rows = true by rw [jobsM, ha, hl, Bool.true_and]; exact decide_eq_true h8)
        have HJ := Lib.hid (hJ.congr (t' := ta rows) (v' := tb rows) (d' := td rows) fun q hq => by rw [if_pos hq, if_pos hq, if_pos hq]; exact ⟨rfl, rfl, rfl⟩)
        clear ha hl hJ
        go_wp2_with fail
        go_ret2
        exact ⟨HB.out, .inr ⟨HF.out, _, rfl, Nat.le_refl _, hsz, HJ.out⟩⟩
  · have HF := Lib.hid (show jobsM rows = false by unfold jobsM; rw [HL.out, decide_eq_false h8, Bool.and_false])
    go_enter Tryz.func113, Tryz.ntmps113
    go_wp2_with fail
    go_ret2
    exact ⟨Below.refl _ _, .inl ⟨HF.out, rfl⟩⟩
theorem validJobs_impl (a : Option Addr) (len cap : Nat) (rows : List (List Int)) (w : World) (h : RowsAt w (· < w.heap.size) a len rows) (hc : len ≤ cap) :
    Calls Tryz.prog 88 #[.slice a len cap] w (ValPost w (.bool (jobsM rows))) := by
  have HD := Lib.hid (dueJobsOf_any a len cap rows w h hc)
  clear h
  go_enter Tryz.func88, Tryz.ntmps88
  go_wp2_with fail
  refine HD.out.mono ?_
  rintro e w1 ⟨hb, ⟨hf, rfl⟩ | ⟨hf, b, rfl, _⟩⟩
  all_goals
    have HF := Lib.hid hf
    clear hf
    go_wp2_with fail
    go_ret
    exact ⟨ret_bool HF.out.symm, hb⟩
end Go.Proofs.YtjcbpnffmebihaaGreatDoor
