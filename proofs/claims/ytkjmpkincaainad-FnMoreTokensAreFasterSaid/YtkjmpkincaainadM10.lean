import Derived.Test.YtkjmpkincaainadRows
import Derived.WalkKit
import Derived.LoopTactic
import Derived.Outline
import Derived.WalkSpells
import Derived.WalkLawsBesides
import Derived.ProofKit
import Derived.Lib.Hide
import Derived.IntWalk
import Derived.Deep.QuietTactic
import Derived.BigQuiet
import Derived.Shelf.RegionOpenPlain
import Derived.Test.YtkjmpkincaainadM0
import Derived.Test.YtkjmpkincaainadM1
import Derived.Test.YtkjmpkincaainadM7
import Derived.Test.YtkjmpkincaainadM9
import Derived.Test.YtkjmpkincaainadM4
import Derived.Test.YtkjmpkincaainadM6
import Derived.Deep.RegionHeld3
namespace Go.Proofs.Ytkjmpkincaainad
open Go.RowKit Go.WideShapes

/-- the first n cells of block b hold these numbers, and may be written -/
def Cells8 (w : World) (b n : Nat) (f : Nat → Int) : Prop := ∀ j, j < n → w.cell? ⟨b, j, none⟩ = some (.int .i64 (f j)) ∧ w.frozen? ⟨b, j, none⟩ = false
theorem Cells8.block {w w' : World} {b n : Nat} {f : Nat → Int} (h : Cells8 w b n f) (e : w'.heap[b]? = w.heap[b]?) : Cells8 w' b n f := fun j hj =>
  ⟨by rw [World.cell?_of_block (w := w) e]; exact (h j hj).1, by rw [World.frozen?_of_block (w := w) e]; exact (h j hj).2⟩
theorem Cells8.congr {w : World} {b n : Nat} {f g : Nat → Int} (h : Cells8 w b n f) (e : ∀ j, j < n → f j = g j) : Cells8 w b n g := fun j hj => by rw [← e j hj]; exact h j hj
theorem Cells8.put {w : World} {b n : Nat} {f : Nat → Int} (h : Cells8 w b n f) {k : Nat} (hk : k < n) (x : Int) : Cells8 (w.setCell ⟨b, k, none⟩ (.int .i64 x)) b n (fun j => if j = k then x else f j) := fun j hj => by
  refine ⟨?_, by rw [World.frozen?_setCell]; exact (h j hj).2⟩
  dsimp only
  by_cases e : j = k
  · subst e
    rw [if_pos rfl]
    exact World.cell?_setCell_same _ _ _ (h j hj).1
  · rw [if_neg e, World.cell?_setCell_other _ _ _ _ (by intro e'; injection e' with _ e2; exact e e2.symm)]
    exact (h j hj).1
/-- a way's three numbers, by the cell -/
def wf3 (t v d : Nat → Int) (j : Nat) : Int := if j % 3 = 0 then t (j / 3) else if j % 3 = 1 then v (j / 3) else d (j / 3)
theorem wf3_0 (t v d : Nat → Int) (q : Nat) : wf3 t v d (q * 3) = t q := by
  unfold wf3; rw [if_pos (by omega), show q * 3 / 3 = q by omega]
theorem wf3_1 (t v d : Nat → Int) (q : Nat) : wf3 t v d (q * 3 + 1) = v q := by
  unfold wf3; rw [if_neg (by omega), if_pos (by omega), show (q * 3 + 1) / 3 = q by omega]
theorem wf3_2 (t v d : Nat → Int) (q : Nat) : wf3 t v d (q * 3 + 2) = d q := by
  unfold wf3; rw [if_neg (by omega), if_neg (by omega), show (q * 3 + 2) / 3 = q by omega]
/-- block b holds ways, three cells each -/
def WaysB (w : World) (b n : Nat) (t v d : Nat → Int) : Prop := Cells8 w b (n * 3) (wf3 t v d)
theorem WaysB.at {w : World} {b n : Nat} {t v d : Nat → Int} (h : WaysB w b n t v d) {q : Nat} (hq : q < n) :
    w.cell? ⟨b, q * 3, none⟩ = some (.int .i64 (t q)) ∧ w.cell? ⟨b, q * 3 + 1, none⟩ = some (.int .i64 (v q)) ∧ w.cell? ⟨b, q * 3 + 2, none⟩ = some (.int .i64 (d q)) := by
  have h0 := (h (q * 3) (by omega)).1
  have h1 := (h (q * 3 + 1) (by omega)).1
  have h2 := (h (q * 3 + 2) (by omega)).1
  rw [wf3_0] at h0
  rw [wf3_1] at h1
  rw [wf3_2] at h2
  exact ⟨h0, h1, h2⟩
theorem WaysB.free {w : World} {b n : Nat} {t v d : Nat → Int} (h : WaysB w b n t v d) {q : Nat} (hq : q < n) :
    w.frozen? ⟨b, q * 3, none⟩ = false ∧ w.frozen? ⟨b, q * 3 + 1, none⟩ = false ∧ w.frozen? ⟨b, q * 3 + 2, none⟩ = false :=
  ⟨(h _ (by omega)).2, (h _ (by omega)).2, (h _ (by omega)).2⟩
theorem WaysB.block {w w' : World} {b n : Nat} {t v d : Nat → Int} (h : WaysB w b n t v d) (e : w'.heap[b]? = w.heap[b]?) : WaysB w' b n t v d := Cells8.block h e
theorem WaysB.congr {w : World} {b n : Nat} {t v d t' v' d' : Nat → Int} (h : WaysB w b n t v d) (e : ∀ q, q < n → t q = t' q ∧ v q = v' q ∧ d q = d' q) : WaysB w b n t' v' d' := Cells8.congr h fun j hj => by
  have := e (j / 3) (by omega)
  unfold wf3; rw [this.1, this.2.1, this.2.2]
theorem WaysB.put {w : World} {b n : Nat} {t v d : Nat → Int} (h : WaysB w b n t v d) {k : Nat} (hk : k < n) (x y z : Int) :
    WaysB (((w.setCell ⟨b, k * 3, none⟩ (.int .i64 x)).setCell ⟨b, k * 3 + 1, none⟩ (.int .i64 y)).setCell ⟨b, k * 3 + 2, none⟩ (.int .i64 z)) b n (fun q => if q = k then x else t q) (fun q => if q = k then y else v q) (fun q => if q = k then z else d q) := by
  refine (((Cells8.put h (k := k * 3) (by omega) x).put (k := k * 3 + 1) (by omega) y).put (k := k * 3 + 2) (by omega) z).congr fun j hj => ?_
  unfold wf3
  dsimp only
  by_cases e : j / 3 = k
  · rw [if_pos e, if_pos e, if_pos e]
    by_cases e0 : j % 3 = 0
    · rw [if_neg (by omega), if_neg (by omega), if_pos (by omega), if_pos e0]
    · by_cases e1 : j % 3 = 1
      · rw [if_neg (by omega), if_pos (by omega), if_neg e0, if_pos e1]
      · rw [if_pos (by omega), if_neg e0, if_neg e1]
  · rw [if_neg (by omega), if_neg (by omega), if_neg (by omega), if_neg e, if_neg e, if_neg e]
theorem WaysB.start (w : World) (n : Nat) : WaysB (w.alloc (.cells (madeCells #[.int .i64 0, .int .i64 0, .int .i64 0] (n * 3)) 75)) w.heap.size n (fun _ => 0) (fun _ => 0) (fun _ => 0) := fun j hj => by
  refine ⟨?_, World.frozen?_alloc_new w _ _ _⟩
  rw [World.cell?_alloc_new]
  have hj3 : j % 3 = 0 ∨ j % 3 = 1 ∨ j % 3 = 2 := by omega
  simp only [madeCells, Array.getElem?_map, Array.getElem?_range, hj, if_true, Option.map_some]
  unfold wf3
  simp only [ite_self]
  rcases hj3 with e | e | e <;> simp [e]
theorem Try.infoWay : (Try.prog.info? 75).map (fun i => (i.zero, i.size, i.bytes)) = some (some (.agg #[.int .i64 0, .int .i64 0, .int .i64 0]), 3, 24) := by kernel_rfl
theorem run_makeWays (n : Nat) (hn : n ≤ 8) (w : World) :
    (Instr.makeSlice 72 (.int .i64 (n : Int)) (.int .i64 (n : Int))).run Try.prog w = .ok (.slice (some ⟨w.heap.size, 0, none⟩) n n) (w.alloc (.cells (madeCells #[.int .i64 0, .int .i64 0, .int .i64 0] (n * 3)) 75)) := by
  obtain ⟨i, hi, hzz⟩ := Option.map_eq_some_iff.1 Try.infoWay
  simp only [Prod.mk.injEq] at hzz
  obtain ⟨hz, hs, hb⟩ := hzz
  have hr := run_make (P := Try.prog) w 72 75 i _ Try.underlying72 hi hz .i64 .i64 n n (by omega) (Int.le_refl _) (by rw [hb]; omega) (by omega)
  simp only [Int.toNat_natCast, hs] at hr
  exact hr
/-- the ways in a new block -/
def WaysPost (w : World) (ts : List Int) (rows : List (List Int)) (e : Ending) (w' : World) : Prop :=
  Below w.heap.size w w' ∧ ∃ b, e = .returned (.slice (some ⟨b, 0, none⟩) rows.length rows.length) ∧ w.heap.size ≤ b ∧ b < w'.heap.size ∧ WaysB w' b rows.length (fun k => ((grOf ts rows).f k : Int)) (fun k => ((grOf ts rows).t k : Int)) (fun k => ((grOf ts rows).c k : Int))
set_option maxRecDepth 100000 in
set_option maxHeartbeats 4000000 in
theorem waysOf_any (d : NV) (ts : List Int) (rows : List (List Int)) (w : World) (h : NetAt w (· < w.heap.size) d ts rows) (hv : tokM ts rows = true) :
    Calls Try.prog 51 #[.agg #[.slice d.aT d.lT d.cT, .slice d.aW d.lW d.cW]] w (WaysPost w ts rows) := by
  obtain ⟨aT, lT, cT, aW, lW, cW⟩ := d
  obtain ⟨ht, hr, hct, hcw⟩ := h
  dsimp only at ht hr hct hcw ⊢
  have HG := Lib.hid (tok_get hv).2.2.2
  have hW : rows.length = lW := hr.lenEq
  have h8 : lW ≤ 8 := by have := (tok_get hv).2.2.1; omega
  unfold WaysPost
  rw [hW]
  have HH := Lib.hid (show ∀ w', Below w.heap.size w w' → RowsAt w' (· < w.heap.size) aW lW rows from fun w' hb => hr.below hb)
  have hmk := run_makeWays lW h8
  clear ht hr hW
  go_enter Try.func51, Try.ntmps51
  go_wp2_with fail
  have hb0 := (Below.refl w.heap.size w).alloc (Nat.le_refl _) (.cells #[.slice aT lT cT, .slice aW lW cW] 26)
  have hn0 := netB_new w aT lT cT aW lW cW 26
  have hz0 : (w.alloc (.cells #[.slice aT lT cT, .slice aW lW cW] 26)).heap.size = w.heap.size + 1 := by simp
  obtain ⟨w1, hw1⟩ : ∃ w1, w.alloc (.cells #[.slice aT lT cT, .slice aW lW cW] 26) = w1 := ⟨_, rfl⟩
  rw [hw1] at hb0 hn0 hz0
  have HW1 := Lib.hid hw1
  have HB0 := Lib.hid hb0
  have HN0 := Lib.hid hn0
  have HZ0 := Lib.hid hz0
  clear hw1 hb0 hn0 hz0 hmk
  have hs0 := WaysB.start w1 lW
  rw [HZ0.out] at hs0
  have hsz2 : (w1.alloc (.cells (madeCells #[.int .i64 0, .int .i64 0, .int .i64 0] (lW * 3)) 75)).heap.size = w.heap.size + 2 := by simp; exact HZ0.out
  have hb2 := HB0.out.alloc (by have := HZ0.out; omega) (.cells (madeCells #[.int .i64 0, .int .i64 0, .int .i64 0] (lW * 3)) 75)
  rw [HW1.out]
  go_loopw [13] (fun i wr => ∃ k : Nat, k ≤ lW ∧ i = .int .i64 k ∧ Below w.heap.size w wr ∧ wr.heap.size = w.heap.size + 2 ∧
      WaysB wr (w.heap.size + 1) lW (fun q => if q < k then ((grOf ts rows).f q : Int) else 0) (fun q => if q < k then ((grOf ts rows).t q : Int) else 0) (fun q => if q < k then ((grOf ts rows).c q : Int) else 0)) (fun i _ => lW - (intOf i).toNat)
  case atStart => exact ⟨0, Nat.zero_le _, rfl, hb2, hsz2, hs0.congr (fun q _ => by simp)⟩
  case round =>
    clear hb2 hsz2 hs0
    obtain ⟨k, hk, rfl, hB, hsz, hJ⟩ := hrel
    obtain ⟨wo, rfl⟩ : ∃ wo : World, wo = wr := ⟨_, rfl⟩
    have hr := HH.out wo hB
    have HB := Lib.hid hB
    have HSZ := Lib.hid hsz
    clear hB hsz
    by_cases hlt : k < lW
    · obtain ⟨b, off, r, a', l, c, rfl, hx, hcr, hlc, hri⟩ := hr.get hlt
      have HX := Lib.hid (HG.out k r hx)
      have hl3 : l = 3 := by have := hri.lenEq; have := HX.out.1; omega
      have hkl : (k : Int) < (lW : Int) := by omega
      clear hx
      subst hl3
      obtain ⟨b', off', x, rfl, hy, hd⟩ := hri.get (k := 0) (by omega)
      obtain ⟨b2, off2, y, e2, hy2, hd2⟩ := hri.get (k := 1) (by omega)
      cases e2
      obtain ⟨b3, off3, z, e3, hy3, hd3⟩ := hri.get (k := 2) (by omega)
      cases e3
      rw [Nat.add_zero] at hd
      have HXE := Lib.hid (show x = ((grOf ts rows).f k : Int) by have := HX.out.2.1; rw [getD_of hy] at this; exact this)
      have HYE := Lib.hid (show y = ((grOf ts rows).t k : Int) by have := HX.out.2.2.2.1; rw [getD_of hy2] at this; exact this)
      have HZE := Lib.hid (show z = ((grOf ts rows).c k : Int) by have := HX.out.2.2.2.2.2.1; rw [getD_of hy3] at this; exact this)
      clear hy hy2 hy3 hri
      obtain ⟨g0, g1, g2⟩ := hJ.at hlt
      obtain ⟨f0, f1, f2⟩ := hJ.free hlt
      have HJ := Lib.hid hJ
      clear hJ
      go_wp2_with fail
      have mixed : Try.prog.follows .mixedOrders = true := by kernel_rfl
      go_region_o
      clear mixed
      go_wp2_with fail
      go_roundw
      case rel => exact ⟨k + 1, by omega, by go_num,
        (((HB.out.setCell (p := ⟨w.heap.size + 1, k * 3, none⟩) (Nat.le_succ _) _).setCell (p := ⟨w.heap.size + 1, k * 3 + 1, none⟩) (Nat.le_succ _) _).setCell (p := ⟨w.heap.size + 1, k * 3 + 2, none⟩) (Nat.le_succ _) _).drew, by simpa [World.setCell] using HSZ.out,
        ((HJ.out.put hlt x y z).block rfl).congr fun q _ => by
          by_cases e : q = k
          · subst e
            rw [if_pos rfl, if_pos rfl, if_pos rfl, if_pos (by omega), if_pos (by omega), if_pos (by omega)]
            exact ⟨HXE.out, HYE.out, HZE.out⟩
          · rw [if_neg e, if_neg e, if_neg e]
            by_cases e2 : q < k
            · rw [if_pos e2, if_pos e2, if_pos e2, if_pos (by omega), if_pos (by omega), if_pos (by omega)]; exact ⟨rfl, rfl, rfl⟩
            · rw [if_neg e2, if_neg e2, if_neg e2, if_neg (by omega), if_neg (by omega), if_neg (by omega)]; exact ⟨rfl, rfl, rfl⟩⟩
      case measure => simp [intOf] <;> omega
    · obtain rfl : k = lW := by omega
      have HJ := Lib.hid (hJ.congr (t' := fun q => ((grOf ts rows).f q : Int)) (v' := fun q => ((grOf ts rows).t q : Int)) (d' := fun q => ((grOf ts rows).c q : Int)) fun q hq => by rw [if_pos hq, if_pos hq, if_pos hq]; exact ⟨rfl, rfl, rfl⟩)
      clear hJ
      go_wp2_with fail
      go_ret
      exact ⟨HB.out, w.heap.size + 1, rfl, Nat.le_succ _, by have := HSZ.out; omega, HJ.out⟩
/-- the bit, hidden from the walk -/
def sb8 (s j : Nat) : Bool := s.testBit j
theorem isIn8 (s j : Nat) (hs : s < 1048576) (hj : j ≤ 20) (w : World) {b : Bool} (hb : s.testBit j = b) :
    Calls Try.prog 49 #[.int .i64 s, .int .i64 j] w fun e w' => e = .returned (.bool b) ∧ w' = w := by
  go_enter Try.func49, Try.ntmps49
  go_wp2
  go_ret
  refine ⟨ret_bool ?_, rfl⟩
  rw [← hb]
  have h2 : s / 2 ^ j ≤ s := Nat.div_le_self _ _
  have e : (s : Int) / 2 ^ j = ((s / 2 ^ j : Nat) : Int) := by push_cast; rfl
  rw [e, Nat.testBit_eq_decide_div_mod_eq]
  generalize s / 2 ^ j = x at h2 ⊢
  have hx : x < 1048576 := by omega
  rw [show (1 : Int) = ((1 : Nat) : Int) from rfl, i_and x 1 hx (by omega), Nat.and_one_is_mod, Bool.eq_iff_iff, beq_iff_eq, decide_eq_true_eq]
  omega
def Gr.canB (g : Gr) (v M : Nat) : Bool := decide (∀ k, k < g.m → g.t k = v → g.c k = 0 → M.testBit (g.f k) = true)
theorem can_no {g : Gr} {v M k : Nat} (hk : k < g.m) (h1 : g.t k = v) (h2 : g.c k = 0) (h3 : M.testBit (g.f k) = false) : g.canB v M = false := decide_eq_false fun h => by
  have := h k hk h1 h2; rw [h3] at this; cases this
set_option maxRecDepth 100000 in
set_option maxHeartbeats 4000000 in
theorem canFollow_any (d : NV) (ts : List Int) (rows : List (List Int)) (v M : Nat) (w : World) (h : NetAt w (· < w.heap.size) d ts rows) (hv : tokM ts rows = true) (hM : M < 1048576) (hvn : v ≤ 100) :
    Calls Try.prog 50 #[.agg #[.slice d.aT d.lT d.cT, .slice d.aW d.lW d.cW], .int .i64 v, .int .i64 M] w (valN w (.bool ((grOf ts rows).canB v M))) := by
  have HWO := Lib.hid (fun w' (hb : Below w.heap.size w w') => waysOf_any d ts rows w' (net_lift h hb) hv)
  obtain ⟨aT, lT, cT, aW, lW, cW⟩ := d
  have HG := Lib.hid (tok_get hv).2.2.2
  have h7 := (tok_get hv).2.2.1
  have h4 := (tok_get hv).1
  have HM0 : Hid ((grOf ts rows).m = rows.length) := Lib.hid rfl
  clear h hv
  go_enter Try.func50, Try.ntmps50
  go_wp2_with fail
  have hb0 := (Below.refl w.heap.size w).alloc (Nat.le_refl _) (.cells #[.slice aT lT cT, .slice aW lW cW] 26)
  refine (HWO.out _ hb0).mono ?_
  rintro e w1 ⟨hb1, B, rfl, hBw, hB1, hJ⟩
  have HB1 := Lib.hid (hb0.trans (hb1.mono hb0.size))
  have hlB : w.heap.size ≤ B := by have := hb0.size; omega
  have HJ := Lib.hid hJ
  clear hb0 hb1 hJ HWO hBw
  obtain ⟨g, hg⟩ : ∃ g, grOf ts rows = g := ⟨_, rfl⟩
  rw [hg] at HJ HM0 HG ⊢
  have HGE := Lib.hid hg
  clear hg
  obtain ⟨m, hm⟩ : ∃ m, rows.length = m := ⟨_, rfl⟩
  have HGL : Hid (∀ k, k < m → g.f k ≤ 3 ∧ g.t k ≤ 3 ∧ g.c k ≤ 3) := Lib.hid (fun k hk => by
    have hx : rows[k]? = some rows[k] := List.getElem?_eq_getElem (by omega)
    have := HG.out k _ hx; omega)
  rw [hm] at h7 HJ HM0 ⊢
  clear hm HG
  go_wp2_with fail
  go_loopw [12] (fun i wr => ∃ k : Nat, k ≤ m ∧ i = .int .i64 k ∧ (∀ q, q < k → g.t q = v → g.c q = 0 → M.testBit (g.f q) = true) ∧ Below w1.heap.size w1 wr) (fun i _ => m - (intOf i).toNat)
  case atStart => exact ⟨0, Nat.zero_le _, rfl, (fun q hq => by omega), Below.refl _ _⟩
  case round =>
    obtain ⟨k, hk, rfl, ha, hb⟩ := hrel
    obtain ⟨wo, rfl⟩ : ∃ wo : World, wo = wr := ⟨_, rfl⟩
    have HA := Lib.hid ha
    have HB := Lib.hid hb
    have hBo := hb.size
    clear ha hb
    by_cases hlt : k < m
    · have hkI : (k : Int) < (m : Int) := by omega
      obtain ⟨g0, g1, g2⟩ := (HJ.out.block (w' := wo) (HB.out.block B hB1)).at hlt
      have hgl := HGL.out k hlt
      have HBX := Lib.hid (HB.out.alloc hBo (.cells #[.int .i64 (g.f k), .int .i64 (g.t k), .int .i64 (g.c k)] 75))
      by_cases ht : g.t k = v
      · have htI : (((g.t k : Nat) : Int) == (v : Int)) = true := by simp; omega
        by_cases hc : g.c k = 0
        · have hcI : (((g.c k : Nat) : Int) == 0) = true := by simp; omega
          cases hbit : M.testBit (g.f k)
          · have HIN := Lib.hid (fun w => isIn8 M (g.f k) hM (by omega) w hbit)
            have HNO := Lib.hid (can_no (by rw [HM0.out]; exact hlt) ht hc hbit)
            clear ht hc hbit
            go_wp2_with fail
            refine (HIN.out _).mono ?_
            rintro e w' ⟨rfl, rfl⟩
            go_wp2_with fail
            go_ret
            exact ⟨ret_bool (by rw [HGE.out]; exact HNO.out.symm), HB1.out.trans (HBX.out.mono HB1.out.size)⟩
          · have HIN := Lib.hid (fun w => isIn8 M (g.f k) hM (by omega) w hbit)
            have HBIT := Lib.hid hbit
            clear ht hc hbit
            go_wp2_with fail
            refine (HIN.out _).mono ?_
            rintro e w' ⟨rfl, rfl⟩
            go_wp2_with fail
            go_roundw
            case rel => exact ⟨k + 1, by omega, by go_num, (fun q hq h1 h2 => by
              rcases Nat.lt_or_eq_of_le (Nat.le_of_lt_succ hq) with h | rfl
              · exact HA.out q h h1 h2
              · exact HBIT.out), HBX.out⟩
            case measure => simp [intOf]; omega
        · have hcI : (((g.c k : Nat) : Int) == 0) = false := by simp; omega
          have HC := Lib.hid hc
          clear ht hc
          go_wp2_with fail
          go_roundw
          case rel => exact ⟨k + 1, by omega, by go_num, (fun q hq h1 h2 => by
            rcases Nat.lt_or_eq_of_le (Nat.le_of_lt_succ hq) with h | rfl
            · exact HA.out q h h1 h2
            · exact absurd h2 HC.out), HBX.out⟩
          case measure => simp [intOf]; omega
      · have htI : (((g.t k : Nat) : Int) == (v : Int)) = false := by simp; omega
        have HT := Lib.hid ht
        clear ht
        go_wp2_with fail
        go_roundw
        case rel => exact ⟨k + 1, by omega, by go_num, (fun q hq h1 h2 => by
          rcases Nat.lt_or_eq_of_le (Nat.le_of_lt_succ hq) with h | rfl
          · exact HA.out q h h1 h2
          · exact absurd h1 HT.out), HBX.out⟩
        case measure => simp [intOf]; omega
    · obtain rfl : k = m := by omega
      have hkI : ¬ (k : Int) < (k : Int) := by omega
      have HY : Hid (g.canB v M = true) := Lib.hid (decide_eq_true (by rw [HM0.out]; exact HA.out))
      go_wp2_with fail
      go_ret
      exact ⟨ret_bool (by rw [HGE.out]; exact HY.out.symm), HB1.out.trans (HB.out.mono HB1.out.size)⟩
end Go.Proofs.Ytkjmpkincaainad
namespace Go.Proofs.Ytkjmpkincaainad
open Go.RowKit Go.WideShapes

theorem shl8_or {D q : Nat} (hD : D < 16) (hq : q ≤ 3) : bits .or .i64 (D : Int) (wrap64 (2 ^ q)) = ((D ||| 2 ^ q : Nat) : Int) := by
  have : q = 0 ∨ q = 1 ∨ q = 2 ∨ q = 3 := by omega
  rcases this with rfl | rfl | rfl | rfl
  · rw [show wrap64 ((2 : Int) ^ 0) = ((1 : Nat) : Int) by unfold wrap64; decide]; exact i_or D 1 (by omega) (by omega)
  · rw [show wrap64 ((2 : Int) ^ 1) = ((2 : Nat) : Int) by unfold wrap64; decide]; exact i_or D 2 (by omega) (by omega)
  · rw [show wrap64 ((2 : Int) ^ 2) = ((4 : Nat) : Int) by unfold wrap64; decide]; exact i_or D 4 (by omega) (by omega)
  · rw [show wrap64 ((2 : Int) ^ 3) = ((8 : Nat) : Int) by unfold wrap64; decide]; exact i_or D 8 (by omega) (by omega)
def nat8 (h : List Nat) : List Int := h.map (fun x : Nat => (x : Int))
theorem nat8_len (h : List Nat) : (nat8 h).length = h.length := by simp [nat8]
/-- the set of a list, as bits -/
def MaskOf (M : Nat) (L : List Nat) : Prop := ∀ v, M.testBit v = true ↔ v ∈ L
theorem mask_lt {g : Gr} (hg : g.Ok) {M : Nat} {L : List Nat} (h : MaskOf M L) (hL : ∀ v ∈ L, v < g.n) : M < 16 := Nat.lt_pow_two_of_testBit (n := 4) _ (fun i hi => by
  cases hb : M.testBit i
  · rfl
  · have := hL i ((h i).1 hb); have := hg.n4; omega)
theorem mask_snoc {M : Nat} {L : List Nat} (h : MaskOf M L) (v : Nat) : MaskOf (M ||| 2 ^ v) (L ++ [v]) := fun u => by
  rw [Nat.testBit_or, Nat.testBit_two_pow, Bool.or_eq_true, h u, List.mem_append, List.mem_singleton, decide_eq_true_eq]
  exact or_congr Iff.rfl eq_comm
/-- an order in which workers begin; all of them, if the net is not dead -/
def OrderPost8 (g : Gr) (w : World) (e : Ending) (w' : World) : Prop := ∃ (a : Option Addr) (cap : Nat) (L : List Nat), e = .returned (.slice a L.length cap) ∧ OrdQ g L ∧ (¬ g.Dead → L.length = g.n) ∧
  IntsAt w' (fun b => w.heap.size ≤ b ∧ b < w'.heap.size) a L.length (nat8 L) ∧ L.length ≤ cap ∧ Below w.heap.size w w'
set_option maxRecDepth 100000 in
set_option maxHeartbeats 4000000 in
theorem beginOrder_any (d : NV) (ts : List Int) (rows : List (List Int)) (w : World) (h : NetAt w (· < w.heap.size) d ts rows) (hv : tokM ts rows = true) :
    Calls Try.prog 25 #[.agg #[.slice d.aT d.lT d.cT, .slice d.aW d.lW d.cW]] w (OrderPost8 (grOf ts rows) w) := by
  have HCF := Lib.hid (fun w' (hb : Below w.heap.size w w') v M (hM : M < 1048576) (hvn : v ≤ 100) => canFollow_any d ts rows v M w' (net_lift h hb) hv hM hvn)
  obtain ⟨aT, lT, cT, aW, lW, cW⟩ := d
  have hok := gr_ok hv
  have hnl : (grOf ts rows).n = lT := h.t.lenEq
  obtain ⟨g, hg⟩ : ∃ g, grOf ts rows = g := ⟨_, rfl⟩
  rw [hg] at HCF hok hnl ⊢
  have h4 := hok.n4
  have HOK := Lib.hid hok
  have HN := Lib.hid hnl
  clear h hv hg hok
  rw [hnl] at h4
  clear hnl
  go_enter Try.func25, Try.ntmps25
  go_wp2_with fail
  have hb0 := (Below.refl w.heap.size w).alloc (Nat.le_refl _) (.cells #[.slice aT lT cT, .slice aW lW cW] 26)
  have hn0 := netB_new w aT lT cT aW lW cW 26
  have hz0 : w.heap.size < (w.alloc (.cells #[.slice aT lT cT, .slice aW lW cW] 26)).heap.size := by simp
  go_loopw [3, 4, 9] (fun sv mv i wr => ∃ (k M : Nat) (a : Option Addr) (cap : Nat) (L : List Nat), k ≤ lT ∧ i = .int .i64 k ∧ mv = .int .i64 M ∧ sv = .slice a L.length cap ∧ MaskOf M L ∧ OrdQ g L ∧ (¬ g.Dead → k ≤ L.length) ∧
    wr.ownsRow (w.heap.size + 1) 3 1 sv L.length ((nat8 L).map (.int .i64)) ∧ L.length ≤ cap ∧ Below w.heap.size w wr ∧ w.heap.size < wr.heap.size ∧ NetB wr w.heap.size ⟨aT, lT, cT, aW, lW, cW⟩) (fun _ _ i _ => lT - (intOf i).toNat)
  case atStart => exact ⟨0, 0, none, 0, [], Nat.zero_le _, rfl, rfl, rfl, (fun v => by simp), ordQ_nil g, (fun _ => Nat.zero_le _), World.ownsRow_nil _ _ _ _, Nat.le_refl _, hb0, hz0, hn0⟩
  case round =>
    clear hb0 hn0 hz0
    obtain ⟨k, M, a, cap, L, hk, rfl, rfl, rfl, hM, hO, hkl, hown, hcap, hb, hz, hn⟩ := hrel
    obtain ⟨wo, rfl⟩ : ∃ wo : World, wo = wr := ⟨_, rfl⟩
    obtain ⟨n0, n1⟩ := id hn
    dsimp only at n0 n1
    by_cases hlt : k < lT
    · have hkI : (k : Int) < (lT : Int) := by omega
      have HMM := Lib.hid hM
      have HO := Lib.hid hO
      have HOWN := Lib.hid hown
      have HKL := Lib.hid hkl
      have HB := Lib.hid hb
      have HNB := Lib.hid hn
      clear hM hO hown hkl hb hn
      go_wp2_with fail
      go_loopw [3, 4, 14] (fun sv mv i wr => ∃ (j M2 : Nat) (a : Option Addr) (cap : Nat) (X : List Nat), (∃ E, X = L ++ E) ∧ j ≤ lT ∧ i = .int .i64 j ∧ mv = .int .i64 M2 ∧ sv = .slice a X.length cap ∧ MaskOf M2 X ∧ OrdQ g X ∧ (∀ u, u < j → g.canB u M = true → u ∈ X) ∧
        wr.ownsRow (w.heap.size + 1) 3 1 sv X.length ((nat8 X).map (.int .i64)) ∧ X.length ≤ cap ∧ Below w.heap.size w wr ∧ w.heap.size < wr.heap.size ∧ NetB wr w.heap.size ⟨aT, lT, cT, aW, lW, cW⟩) (fun _ _ i _ => lT - (intOf i).toNat)
      case atStart => exact ⟨0, M, a, cap, L, ⟨[], (List.append_nil _).symm⟩, Nat.zero_le _, rfl, rfl, rfl, HMM.out, HO.out, (fun u hu => by omega), HOWN.out, hcap, HB.out, hz, HNB.out⟩
      case round =>
        clear n0 n1 HOWN HB HNB hcap hz
        obtain ⟨j, M2, a2, cap2, X, hpre, hj, rfl, rfl, rfl, hM2, hO2, hE, hown2, hcap2, hb2, hz2, hn2⟩ := hrel
        obtain ⟨wi, rfl⟩ : ∃ wi : World, wi = wr := ⟨_, rfl⟩
        obtain ⟨n0, n1⟩ := id hn2
        dsimp only at n0 n1
        have hM16 := mask_lt HOK.out hM2 hO2.lt
        have hlen := ordQ_len hO2
        rw [HN.out] at hlen
        have HPRE := Lib.hid hpre
        have HSUB := Lib.hid (show ∀ q, q ∈ L → q ∈ X by obtain ⟨E, rfl⟩ := hpre; exact fun q hq => List.mem_append_left _ hq)
        clear hpre
        have HM2 := Lib.hid hM2
        have HO2 := Lib.hid hO2
        have HE := Lib.hid hE
        have HOWN2 := Lib.hid hown2
        have HB2 := Lib.hid hb2
        have HN2 := Lib.hid hn2
        clear hM2 hO2 hE hown2 hb2 hn2
        by_cases hlj : j < lT
        · have hjI : (j : Int) < (lT : Int) := by omega
          cases hbit : M2.testBit j
          · have HIN := Lib.hid (fun w => isIn8 M2 j (by omega) (by omega) w hbit)
            have HNM : Hid (¬ j ∈ X) := Lib.hid (fun hm => by rw [(HM2.out j).2 hm] at hbit; cases hbit)
            have HCAN := Lib.hid (HCF.out wi HB2.out j M2 (by omega) (by omega))
            clear hbit
            cases hcan : g.canB j M2
            · rw [hcan] at HCAN
              have HMONO : Hid (g.canB j M = true → False) := Lib.hid (fun h => by
                have h1 := of_decide_eq_true h
                have h2 : g.canB j M2 = true := decide_eq_true (fun q hq e1 e2 => (HM2.out _).2 (HSUB.out _ ((HMM.out _).1 (h1 q hq e1 e2))))
                rw [hcan] at h2; cases h2)
              clear hcan
              go_wp2_with fail
              refine (HIN.out _).mono ?_
              rintro e w' ⟨rfl, rfl⟩
              go_wp2_with fail
              refine HCAN.out.mono ?_
              rintro e w4 ⟨rfl, hb4⟩
              have HB4 := Lib.hid hb4
              clear hb4
              go_wp2_with fail
              go_roundw
              case rel => exact ⟨j + 1, M2, a2, cap2, X, HPRE.out, by omega, by go_num, rfl, rfl, HM2.out, HO2.out, (fun u hu hc => by
                rcases Nat.lt_or_eq_of_le (Nat.le_of_lt_succ hu) with h | rfl
                · exact HE.out u h hc
                · exact (HMONO.out hc).elim), HOWN2.out.kept (row := none) ⟨HB4.out.os, HB4.out.tape, HB4.out.output, HB4.out.size, fun b hb _ => HB4.out.block b hb⟩ (by
                    cases hq : (Value.slice a2 X.length cap2).ownBlock with
                    | none => exact .inl rfl
                    | some b => exact .inr (by simp)), hcap2, HB2.out.trans (HB4.out.mono HB2.out.size), Nat.lt_of_lt_of_le hz2 HB4.out.size, HN2.out.below HB4.out hz2⟩
              case measure => simp [intOf]; omega
            · rw [hcan] at HCAN
              have HOK2 : Hid (∀ q, q < g.m → g.t q = j → g.c q = 0 → g.f q ∈ X) := Lib.hid (fun q hq e1 e2 => (HM2.out _).1 (of_decide_eq_true hcan q hq e1 e2))
              have HSH := Lib.hid (shl8_or hM16 (show j ≤ 3 by omega))
              clear hcan
              go_wp2_with fail
              refine (HIN.out _).mono ?_
              rintro e w' ⟨rfl, rfl⟩
              go_wp2_with fail
              refine HCAN.out.mono ?_
              rintro e w4 ⟨rfl, hb4⟩
              have hz4 := Nat.lt_of_lt_of_le hz2 hb4.size
              have HB4 := Lib.hid (HB2.out.trans (hb4.mono HB2.out.size))
              have HN4 := Lib.hid (HN2.out.below hb4 hz2)
              have HO4 := Lib.hid (HOWN2.out.kept (w' := w4) (row := none) ⟨hb4.os, hb4.tape, hb4.output, hb4.size, fun b hb _ => hb4.block b hb⟩ (by
                    cases hq : (Value.slice a2 X.length cap2).ownBlock with
                    | none => exact .inl rfl
                    | some b => exact .inr (by simp)))
              clear hb4
              go_wp2_with (at_builtin; refine wpApp1 rfl _ _ rfl (w.heap.size + 1) X.length cap2 a2 (nat8 X) j rfl HO4.out rfl (by omega) (by omega) ?_)
              intro a5 c5 w5 own5 hc5 gr5
              have HO5 := Lib.hid own5
              have hlow5 : ∀ b, (Value.slice a2 X.length cap2).ownBlock = some b → w.heap.size + 1 ≤ b := fun b e => (HO4.out.lt b e).1
              have HB5 := Lib.hid (HB4.out.grown gr5 HB4.out.size (fun b e => by have := hlow5 b e; omega))
              have HN5 := Lib.hid (HN4.out.block (gr5.block _ hz4 (fun e => by have := hlow5 _ e.symm; omega)))
              have hz5 := Nat.lt_of_lt_of_le hz4 gr5.size
              clear own5 gr5
              go_wp2_with fail
              rw [HSH.out]
              go_roundw
              case rel => exact ⟨j + 1, M2 ||| 2 ^ j, a5, c5, X ++ [j], (by obtain ⟨E, e⟩ := HPRE.out; exact ⟨E ++ [j], by rw [e, List.append_assoc]⟩), by omega, by go_num, rfl, by rw [List.length_append]; rfl, mask_snoc HM2.out j, ordQ_snoc HO2.out (by rw [HN.out]; exact hlj) HNM.out HOK2.out, (fun u hu hc => by
                rcases Nat.lt_or_eq_of_le (Nat.le_of_lt_succ hu) with h | rfl
                · exact List.mem_append_left _ (HE.out u h hc)
                · simp), by have := HO5.out; simpa [nat8] using this, by rw [List.length_append]; exact hc5, HB5.out, hz5, HN5.out⟩
              case measure => simp [intOf]; omega
          · have HIN := Lib.hid (fun w => isIn8 M2 j (by omega) (by omega) w hbit)
            have HMJ := Lib.hid ((HM2.out j).1 hbit)
            clear hbit
            go_wp2_with fail
            refine (HIN.out _).mono ?_
            rintro e w' ⟨rfl, rfl⟩
            go_wp2_with fail
            go_roundw
            case rel => exact ⟨j + 1, M2, a2, cap2, X, HPRE.out, by omega, by go_num, rfl, rfl, HM2.out, HO2.out, (fun u hu hc => by
              rcases Nat.lt_or_eq_of_le (Nat.le_of_lt_succ hu) with h | rfl
              · exact HE.out u h hc
              · exact HMJ.out), HOWN2.out, hcap2, HB2.out, hz2, HN2.out⟩
            case measure => simp [intOf]; omega
        · obtain rfl : j = lT := by omega
          have hjI : ¬ (j : Int) < (j : Int) := by omega
          have HGROW : Hid (¬ g.Dead → k + 1 ≤ X.length) := Lib.hid (fun hd => by
            have h1 := HKL.out hd
            obtain ⟨E, hXE⟩ := HPRE.out
            have hXL : X.length = L.length + E.length := by rw [hXE, List.length_append]
            rw [hXL]
            by_cases hlk : L.length < g.n
            · obtain ⟨u, hu, hnu, hc⟩ := ord_next hd HO.out hlk
              have h2 := HE.out u (by rw [← HN.out]; exact hu) (decide_eq_true (fun q hq e1 e2 => (HMM.out _).2 (by
                rcases hc q hq e1 e2 with h | h
                · exact h
                · exact absurd (HOK.out.ways q hq).1 h)))
              rw [hXE] at h2
              rcases List.mem_append.1 h2 with h3 | h3
              · exact absurd h3 hnu
              · have := List.length_pos_of_mem h3; omega
            · have := HN.out; omega)
          go_wp2_with fail
          go_roundw
          case rel => exact ⟨k + 1, M2, a2, cap2, X, by omega, by go_num, rfl, rfl, HM2.out, HO2.out, HGROW.out, HOWN2.out, hcap2, HB2.out, hz2, HN2.out⟩
          case measure => simp [intOf]; omega
    · obtain rfl : k = lT := by omega
      have hkI : ¬ (k : Int) < (k : Int) := by omega
      have hle := ordQ_len hO
      have HALL : Hid (¬ g.Dead → L.length = g.n) := Lib.hid (fun hd => by have := hkl hd; rw [HN.out] at hle ⊢; omega)
      have HO := Lib.hid hO
      have HOWN := Lib.hid hown
      have HB := Lib.hid hb
      rw [HN.out] at hle
      clear hO hown hkl hb hn
      go_wp2_with fail
      go_ret
      obtain ⟨a', c', e', _, h'⟩ := own_ints HOWN.out (by omega)
      simp only [Value.slice.injEq, true_and] at e'
      obtain ⟨rfl, rfl⟩ := e'
      exact ⟨a, cap, L, rfl, HO.out, HALL.out, h'.to (fun b hb => ⟨⟨by omega, hb.2⟩, rfl⟩), hcap, HB.out⟩
end Go.Proofs.Ytkjmpkincaainad
