import Derived.Test.YtiapaddmnbeheaaRows
import Derived.WalkKit
import Derived.LoopTactic
import Derived.Outline
import Derived.WalkSpells
import Derived.WalkLawsBesides
import Derived.ProofKit
import Derived.Lib.Hide
import Derived.IntWalk
import Derived.Deep.QuietTactic
import Derived.BigQuiet
import Derived.Shelf.RegionOpenPlain
import Derived.Test.YtiapaddmnbeheaaLib
import Derived.Test.YtiapaddmnbeheaaArr
import Derived.Test.YtiapaddmnbeheaaUp
import Derived.Test.YtiapaddmnbeheaaBitOp
import Derived.Test.YtiapaddmnbeheaaGen
import Derived.Test.YtiapaddmnbeheaaOwn1
import Derived.Test.YtiapaddmnbeheaaApp
import Derived.Test.YtiapaddmnbeheaaNetAt
import Derived.Test.YtiapaddmnbeheaaTokA
namespace Go.Proofs.Ytiapaddmnbeheaa
open Go.RowKit Go.WideShapes

/-- the first n cells of block b hold these numbers, and may be written -/
def Cells8 (w : World) (b n : Nat) (f : Nat → Int) : Prop := ∀ j, j < n → w.cell? ⟨b, j, none⟩ = some (.int .i64 (f j)) ∧ w.frozen? ⟨b, j, none⟩ = false
theorem Cells8.block {w w' : World} {b n : Nat} {f : Nat → Int} (h : Cells8 w b n f) (e : w'.heap[b]? = w.heap[b]?) : Cells8 w' b n f := fun j hj =>
  ⟨by rw [World.cell?_of_block (w := w) e]; exact (h j hj).1, by rw [World.frozen?_of_block (w := w) e]; exact (h j hj).2⟩
theorem Cells8.congr {w : World} {b n : Nat} {f g : Nat → Int} (h : Cells8 w b n f) (e : ∀ j, j < n → f j = g j) : Cells8 w b n g := fun j hj => by rw [← e j hj]; exact h j hj
theorem Cells8.put {w : World} {b n : Nat} {f : Nat → Int} (h : Cells8 w b n f) {k : Nat} (hk : k < n) (x : Int) : Cells8 (w.setCell ⟨b, k, none⟩ (.int .i64 x)) b n (fun j => if j = k then x else f j) := fun j hj => by
  refine ⟨?_, by rw [World.frozen?_setCell]; exact (h j hj).2⟩
  dsimp only
  by_cases e : j = k
  · subst e
    rw [if_pos rfl]
    exact World.cell?_setCell_same _ _ _ (h j hj).1
  · rw [if_neg e, World.cell?_setCell_other _ _ _ _ (by intro e'; injection e' with _ e2; exact e e2.symm)]
    exact (h j hj).1
/-- a way's three numbers, by the cell -/
def wf3 (t v d : Nat → Int) (j : Nat) : Int := if j % 3 = 0 then t (j / 3) else if j % 3 = 1 then v (j / 3) else d (j / 3)
theorem wf3_0 (t v d : Nat → Int) (q : Nat) : wf3 t v d (q * 3) = t q := by
  unfold wf3; rw [if_pos (by omega), show q * 3 / 3 = q by omega]
theorem wf3_1 (t v d : Nat → Int) (q : Nat) : wf3 t v d (q * 3 + 1) = v q := by
  unfold wf3; rw [if_neg (by omega), if_pos (by omega), show (q * 3 + 1) / 3 = q by omega]
theorem wf3_2 (t v d : Nat → Int) (q : Nat) : wf3 t v d (q * 3 + 2) = d q := by
  unfold wf3; rw [if_neg (by omega), if_neg (by omega), show (q * 3 + 2) / 3 = q by omega]
/-- block b holds ways, three cells each -/
def WaysB (w : World) (b n : Nat) (t v d : Nat → Int) : Prop := Cells8 w b (n * 3) (wf3 t v d)
theorem WaysB.at {w : World} {b n : Nat} {t v d : Nat → Int} (h : WaysB w b n t v d) {q : Nat} (hq : q < n) :
    w.cell? ⟨b, q * 3, none⟩ = some (.int .i64 (t q)) ∧ w.cell? ⟨b, q * 3 + 1, none⟩ = some (.int .i64 (v q)) ∧ w.cell? ⟨b, q * 3 + 2, none⟩ = some (.int .i64 (d q)) := by
  have h0 := (h (q * 3) (by omega)).1
  have h1 := (h (q * 3 + 1) (by omega)).1
  have h2 := (h (q * 3 + 2) (by omega)).1
  rw [wf3_0] at h0
  rw [wf3_1] at h1
  rw [wf3_2] at h2
  exact ⟨h0, h1, h2⟩
theorem WaysB.free {w : World} {b n : Nat} {t v d : Nat → Int} (h : WaysB w b n t v d) {q : Nat} (hq : q < n) :
    w.frozen? ⟨b, q * 3, none⟩ = false ∧ w.frozen? ⟨b, q * 3 + 1, none⟩ = false ∧ w.frozen? ⟨b, q * 3 + 2, none⟩ = false :=
  ⟨(h _ (by omega)).2, (h _ (by omega)).2, (h _ (by omega)).2⟩
theorem WaysB.block {w w' : World} {b n : Nat} {t v d : Nat → Int} (h : WaysB w b n t v d) (e : w'.heap[b]? = w.heap[b]?) : WaysB w' b n t v d := Cells8.block h e
theorem WaysB.congr {w : World} {b n : Nat} {t v d t' v' d' : Nat → Int} (h : WaysB w b n t v d) (e : ∀ q, q < n → t q = t' q ∧ v q = v' q ∧ d q = d' q) : WaysB w b n t' v' d' := Cells8.congr h fun j hj => by
  have := e (j / 3) (by omega)
  unfold wf3; rw [this.1, this.2.1, this.2.2]
theorem WaysB.put {w : World} {b n : Nat} {t v d : Nat → Int} (h : WaysB w b n t v d) {k : Nat} (hk : k < n) (x y z : Int) :
    WaysB (((w.setCell ⟨b, k * 3, none⟩ (.int .i64 x)).setCell ⟨b, k * 3 + 1, none⟩ (.int .i64 y)).setCell ⟨b, k * 3 + 2, none⟩ (.int .i64 z)) b n (fun q => if q = k then x else t q) (fun q => if q = k then y else v q) (fun q => if q = k then z else d q) := by
  refine (((Cells8.put h (k := k * 3) (by omega) x).put (k := k * 3 + 1) (by omega) y).put (k := k * 3 + 2) (by omega) z).congr fun j hj => ?_
  unfold wf3
  dsimp only
  by_cases e : j / 3 = k
  · rw [if_pos e, if_pos e, if_pos e]
    by_cases e0 : j % 3 = 0
    · rw [if_neg (by omega), if_neg (by omega), if_pos (by omega), if_pos e0]
    · by_cases e1 : j % 3 = 1
      · rw [if_neg (by omega), if_pos (by omega), if_neg e0, if_pos e1]
      · rw [if_pos (by omega), if_neg e0, if_neg e1]
  · rw [if_neg (by omega), if_neg (by omega), if_neg (by omega), if_neg e, if_neg e, if_neg e]
theorem WaysB.start (w : World) (n : Nat) : WaysB (w.alloc (.cells (madeCells #[.int .i64 0, .int .i64 0, .int .i64 0] (n * 3)) 57)) w.heap.size n (fun _ => 0) (fun _ => 0) (fun _ => 0) := fun j hj => by
  refine ⟨?_, World.frozen?_alloc_new w _ _ _⟩
  rw [World.cell?_alloc_new]
  have hj3 : j % 3 = 0 ∨ j % 3 = 1 ∨ j % 3 = 2 := by omega
  simp only [madeCells, Array.getElem?_map, Array.getElem?_range, hj, if_true, Option.map_some]
  unfold wf3
  simp only [ite_self]
  rcases hj3 with e | e | e <;> simp [e]
theorem Try.infoWay : (Try.prog.info? 57).map (fun i => (i.zero, i.size, i.bytes)) = some (some (.agg #[.int .i64 0, .int .i64 0, .int .i64 0]), 3, 24) := by kernel_rfl
theorem run_makeWays (n : Nat) (hn : n ≤ 8) (w : World) :
    (Instr.makeSlice 54 (.int .i64 (n : Int)) (.int .i64 (n : Int))).run Try.prog w = .ok (.slice (some ⟨w.heap.size, 0, none⟩) n n) (w.alloc (.cells (madeCells #[.int .i64 0, .int .i64 0, .int .i64 0] (n * 3)) 57)) := by
  obtain ⟨i, hi, hzz⟩ := Option.map_eq_some_iff.1 Try.infoWay
  simp only [Prod.mk.injEq] at hzz
  obtain ⟨hz, hs, hb⟩ := hzz
  have hr := run_make (P := Try.prog) w 54 57 i _ Try.underlying54 hi hz .i64 .i64 n n (by omega) (Int.le_refl _) (by rw [hb]; omega) (by omega)
  simp only [Int.toNat_natCast, hs] at hr
  exact hr
/-- the ways in a new block -/
def WaysPost (w : World) (ts : List Int) (rows : List (List Int)) (e : Ending) (w' : World) : Prop :=
  Below w.heap.size w w' ∧ ∃ b, e = .returned (.slice (some ⟨b, 0, none⟩) rows.length rows.length) ∧ w.heap.size ≤ b ∧ b < w'.heap.size ∧ WaysB w' b rows.length (fun k => ((grOf ts rows).f k : Int)) (fun k => ((grOf ts rows).t k : Int)) (fun k => ((grOf ts rows).c k : Int))
set_option maxRecDepth 100000 in
set_option maxHeartbeats 4000000 in
theorem waysOf_any (d : NV) (ts : List Int) (rows : List (List Int)) (w : World) (h : NetAt w (· < w.heap.size) d ts rows) (hv : tokM ts rows = true) :
    Calls Try.prog 36 #[.agg #[.slice d.aT d.lT d.cT, .slice d.aW d.lW d.cW]] w (WaysPost w ts rows) := by
  obtain ⟨aT, lT, cT, aW, lW, cW⟩ := d
  obtain ⟨ht, hr, hct, hcw⟩ := h
  dsimp only at ht hr hct hcw ⊢
  have HG := Lib.hid (tok_get hv).2.2.2
  have hW : rows.length = lW := hr.lenEq
  have h8 : lW ≤ 8 := by have := (tok_get hv).2.2.1; omega
  unfold WaysPost
  rw [hW]
  have HH := Lib.hid (show ∀ w', Below w.heap.size w w' → RowsAt w' (· < w.heap.size) aW lW rows from fun w' hb => hr.below hb)
  have hmk := run_makeWays lW h8
  clear ht hr hW
  go_enter Try.func36, Try.ntmps36
  go_wp2_with fail
  have hb0 := (Below.refl w.heap.size w).alloc (Nat.le_refl _) (.cells #[.slice aT lT cT, .slice aW lW cW] 26)
  have hn0 := netB_new w aT lT cT aW lW cW 26
  have hz0 : (w.alloc (.cells #[.slice aT lT cT, .slice aW lW cW] 26)).heap.size = w.heap.size + 1 := by simp
  obtain ⟨w1, hw1⟩ : ∃ w1, w.alloc (.cells #[.slice aT lT cT, .slice aW lW cW] 26) = w1 := ⟨_, rfl⟩
  rw [hw1] at hb0 hn0 hz0
  have HW1 := Lib.hid hw1
  have HB0 := Lib.hid hb0
  have HN0 := Lib.hid hn0
  have HZ0 := Lib.hid hz0
  clear hw1 hb0 hn0 hz0 hmk
  have hs0 := WaysB.start w1 lW
  rw [HZ0.out] at hs0
  have hsz2 : (w1.alloc (.cells (madeCells #[.int .i64 0, .int .i64 0, .int .i64 0] (lW * 3)) 57)).heap.size = w.heap.size + 2 := by simp; exact HZ0.out
  have hb2 := HB0.out.alloc (by have := HZ0.out; omega) (.cells (madeCells #[.int .i64 0, .int .i64 0, .int .i64 0] (lW * 3)) 57)
  rw [HW1.out]
  go_loopw [13] (fun i wr => ∃ k : Nat, k ≤ lW ∧ i = .int .i64 k ∧ Below w.heap.size w wr ∧ wr.heap.size = w.heap.size + 2 ∧
      WaysB wr (w.heap.size + 1) lW (fun q => if q < k then ((grOf ts rows).f q : Int) else 0) (fun q => if q < k then ((grOf ts rows).t q : Int) else 0) (fun q => if q < k then ((grOf ts rows).c q : Int) else 0)) (fun i _ => lW - (intOf i).toNat)
  case atStart => exact ⟨0, Nat.zero_le _, rfl, hb2, hsz2, hs0.congr (fun q _ => by simp)⟩
  case round =>
    clear hb2 hsz2 hs0
    obtain ⟨k, hk, rfl, hB, hsz, hJ⟩ := hrel
    obtain ⟨wo, rfl⟩ : ∃ wo : World, wo = wr := ⟨_, rfl⟩
    have hr := HH.out wo hB
    have HB := Lib.hid hB
    have HSZ := Lib.hid hsz
    clear hB hsz
    by_cases hlt : k < lW
    · obtain ⟨b, off, r, a', l, c, rfl, hx, hcr, hlc, hri⟩ := hr.get hlt
      have HX := Lib.hid (HG.out k r hx)
      have hl3 : l = 3 := by have := hri.lenEq; have := HX.out.1; omega
      have hkl : (k : Int) < (lW : Int) := by omega
      clear hx
      subst hl3
      obtain ⟨b', off', x, rfl, hy, hd⟩ := hri.get (k := 0) (by omega)
      obtain ⟨b2, off2, y, e2, hy2, hd2⟩ := hri.get (k := 1) (by omega)
      cases e2
      obtain ⟨b3, off3, z, e3, hy3, hd3⟩ := hri.get (k := 2) (by omega)
      cases e3
      rw [Nat.add_zero] at hd
      have HXE := Lib.hid (show x = ((grOf ts rows).f k : Int) by have := HX.out.2.1; rw [getD_of hy] at this; exact this)
      have HYE := Lib.hid (show y = ((grOf ts rows).t k : Int) by have := HX.out.2.2.2.1; rw [getD_of hy2] at this; exact this)
      have HZE := Lib.hid (show z = ((grOf ts rows).c k : Int) by have := HX.out.2.2.2.2.2.1; rw [getD_of hy3] at this; exact this)
      clear hy hy2 hy3 hri
      obtain ⟨g0, g1, g2⟩ := hJ.at hlt
      obtain ⟨f0, f1, f2⟩ := hJ.free hlt
      have HJ := Lib.hid hJ
      clear hJ
      go_wp2_with fail
      have mixed : Try.prog.follows .mixedOrders = true := by kernel_rfl
      go_region_o
      clear mixed
      go_wp2_with fail
      go_roundw
      case rel => exact ⟨k + 1, by omega, by go_num,
        (((HB.out.setCell (p := ⟨w.heap.size + 1, k * 3, none⟩) (Nat.le_succ _) _).setCell (p := ⟨w.heap.size + 1, k * 3 + 1, none⟩) (Nat.le_succ _) _).setCell (p := ⟨w.heap.size + 1, k * 3 + 2, none⟩) (Nat.le_succ _) _).drew, by simpa [World.setCell] using HSZ.out,
        ((HJ.out.put hlt x y z).block rfl).congr fun q _ => by
          by_cases e : q = k
          · subst e
            rw [if_pos rfl, if_pos rfl, if_pos rfl, if_pos (by omega), if_pos (by omega), if_pos (by omega)]
            exact ⟨HXE.out, HYE.out, HZE.out⟩
          · rw [if_neg e, if_neg e, if_neg e]
            by_cases e2 : q < k
            · rw [if_pos e2, if_pos e2, if_pos e2, if_pos (by omega), if_pos (by omega), if_pos (by omega)]; exact ⟨rfl, rfl, rfl⟩
            · rw [if_neg e2, if_neg e2, if_neg e2, if_neg (by omega), if_neg (by omega), if_neg (by omega)]; exact ⟨rfl, rfl, rfl⟩⟩
      case measure => simp [intOf] <;> omega
    · obtain rfl : k = lW := by omega
      have HJ := Lib.hid (hJ.congr (t' := fun q => ((grOf ts rows).f q : Int)) (v' := fun q => ((grOf ts rows).t q : Int)) (d' := fun q => ((grOf ts rows).c q : Int)) fun q hq => by rw [if_pos hq, if_pos hq, if_pos hq]; exact ⟨rfl, rfl, rfl⟩)
      clear hJ
      go_wp2_with fail
      go_ret
      exact ⟨HB.out, w.heap.size + 1, rfl, Nat.le_succ _, by have := HSZ.out; omega, HJ.out⟩
/-- the bit, hidden from the walk -/
def sb8 (s j : Nat) : Bool := s.testBit j
theorem isIn8 (s j : Nat) (hs : s < 1048576) (hj : j ≤ 20) (w : World) {b : Bool} (hb : s.testBit j = b) :
    Calls Try.prog 34 #[.int .i64 s, .int .i64 j] w fun e w' => e = .returned (.bool b) ∧ w' = w := by
  go_enter Try.func34, Try.ntmps34
  go_wp2
  go_ret
  refine ⟨ret_bool ?_, rfl⟩
  rw [← hb]
  have h2 : s / 2 ^ j ≤ s := Nat.div_le_self _ _
  have e : (s : Int) / 2 ^ j = ((s / 2 ^ j : Nat) : Int) := by push_cast; rfl
  rw [e, Nat.testBit_eq_decide_div_mod_eq]
  generalize s / 2 ^ j = x at h2 ⊢
  have hx : x < 1048576 := by omega
  rw [show (1 : Int) = ((1 : Nat) : Int) from rfl, i_and x 1 hx (by omega), Nat.and_one_is_mod, Bool.eq_iff_iff, beq_iff_eq, decide_eq_true_eq]
  omega
def Gr.canB (g : Gr) (v M : Nat) : Bool := decide (∀ k, k < g.m → g.t k = v → g.c k = 0 → M.testBit (g.f k) = true)
theorem can_no {g : Gr} {v M k : Nat} (hk : k < g.m) (h1 : g.t k = v) (h2 : g.c k = 0) (h3 : M.testBit (g.f k) = false) : g.canB v M = false := decide_eq_false fun h => by
  have := h k hk h1 h2; rw [h3] at this; cases this
set_option maxRecDepth 100000 in
set_option maxHeartbeats 4000000 in
theorem canFollow_any (d : NV) (ts : List Int) (rows : List (List Int)) (v M : Nat) (w : World) (h : NetAt w (· < w.heap.size) d ts rows) (hv : tokM ts rows = true) (hM : M < 1048576) (hvn : v ≤ 100) :
    Calls Try.prog 35 #[.agg #[.slice d.aT d.lT d.cT, .slice d.aW d.lW d.cW], .int .i64 v, .int .i64 M] w (valN w (.bool ((grOf ts rows).canB v M))) := by
  have HWO := Lib.hid (fun w' (hb : Below w.heap.size w w') => waysOf_any d ts rows w' (net_lift h hb) hv)
  obtain ⟨aT, lT, cT, aW, lW, cW⟩ := d
  have HG := Lib.hid (tok_get hv).2.2.2
  have h7 := (tok_get hv).2.2.1
  have h4 := (tok_get hv).1
  have HM0 : Hid ((grOf ts rows).m = rows.length) := Lib.hid rfl
  clear h hv
  go_enter Try.func35, Try.ntmps35
  go_wp2_with fail
  have hb0 := (Below.refl w.heap.size w).alloc (Nat.le_refl _) (.cells #[.slice aT lT cT, .slice aW lW cW] 26)
  refine (HWO.out _ hb0).mono ?_
  rintro e w1 ⟨hb1, B, rfl, hBw, hB1, hJ⟩
  have HB1 := Lib.hid (hb0.trans (hb1.mono hb0.size))
  have hlB : w.heap.size ≤ B := by have := hb0.size; omega
  have HJ := Lib.hid hJ
  clear hb0 hb1 hJ HWO hBw
  obtain ⟨g, hg⟩ : ∃ g, grOf ts rows = g := ⟨_, rfl⟩
  rw [hg] at HJ HM0 HG ⊢
  have HGE := Lib.hid hg
  clear hg
  obtain ⟨m, hm⟩ : ∃ m, rows.length = m := ⟨_, rfl⟩
  have HGL : Hid (∀ k, k < m → g.f k ≤ 3 ∧ g.t k ≤ 3 ∧ g.c k ≤ 3) := Lib.hid (fun k hk => by
    have hx : rows[k]? = some rows[k] := List.getElem?_eq_getElem (by omega)
    have := HG.out k _ hx; omega)
  rw [hm] at h7 HJ HM0 ⊢
  clear hm HG
  go_wp2_with fail
  go_loopw [12] (fun i wr => ∃ k : Nat, k ≤ m ∧ i = .int .i64 k ∧ (∀ q, q < k → g.t q = v → g.c q = 0 → M.testBit (g.f q) = true) ∧ Below w1.heap.size w1 wr) (fun i _ => m - (intOf i).toNat)
  case atStart => exact ⟨0, Nat.zero_le _, rfl, (fun q hq => by omega), Below.refl _ _⟩
  case round =>
    obtain ⟨k, hk, rfl, ha, hb⟩ := hrel
    obtain ⟨wo, rfl⟩ : ∃ wo : World, wo = wr := ⟨_, rfl⟩
    have HA := Lib.hid ha
    have HB := Lib.hid hb
    have hBo := hb.size
    clear ha hb
    by_cases hlt : k < m
    · have hkI : (k : Int) < (m : Int) := by omega
      obtain ⟨g0, g1, g2⟩ := (HJ.out.block (w' := wo) (HB.out.block B hB1)).at hlt
      have hgl := HGL.out k hlt
      have HBX := Lib.hid (HB.out.alloc hBo (.cells #[.int .i64 (g.f k), .int .i64 (g.t k), .int .i64 (g.c k)] 57))
      by_cases ht : g.t k = v
      · have htI : (((g.t k : Nat) : Int) == (v : Int)) = true := by simp; omega
        by_cases hc : g.c k = 0
        · have hcI : (((g.c k : Nat) : Int) == 0) = true := by simp; omega
          cases hbit : M.testBit (g.f k)
          · have HIN := Lib.hid (fun w => isIn8 M (g.f k) hM (by omega) w hbit)
            have HNO := Lib.hid (can_no (by rw [HM0.out]; exact hlt) ht hc hbit)
            clear ht hc hbit
            go_wp2_with fail
            refine (HIN.out _).mono ?_
            rintro e w' ⟨rfl, rfl⟩
            go_wp2_with fail
            go_ret
            exact ⟨ret_bool (by rw [HGE.out]; exact HNO.out.symm), HB1.out.trans (HBX.out.mono HB1.out.size)⟩
          · have HIN := Lib.hid (fun w => isIn8 M (g.f k) hM (by omega) w hbit)
            have HBIT := Lib.hid hbit
            clear ht hc hbit
            go_wp2_with fail
            refine (HIN.out _).mono ?_
            rintro e w' ⟨rfl, rfl⟩
            go_wp2_with fail
            go_roundw
            case rel => exact ⟨k + 1, by omega, by go_num, (fun q hq h1 h2 => by
              rcases Nat.lt_or_eq_of_le (Nat.le_of_lt_succ hq) with h | rfl
              · exact HA.out q h h1 h2
              · exact HBIT.out), HBX.out⟩
            case measure => simp [intOf]; omega
        · have hcI : (((g.c k : Nat) : Int) == 0) = false := by simp; omega
          have HC := Lib.hid hc
          clear ht hc
          go_wp2_with fail
          go_roundw
          case rel => exact ⟨k + 1, by omega, by go_num, (fun q hq h1 h2 => by
            rcases Nat.lt_or_eq_of_le (Nat.le_of_lt_succ hq) with h | rfl
            · exact HA.out q h h1 h2
            · exact absurd h2 HC.out), HBX.out⟩
          case measure => simp [intOf]; omega
      · have htI : (((g.t k : Nat) : Int) == (v : Int)) = false := by simp; omega
        have HT := Lib.hid ht
        clear ht
        go_wp2_with fail
        go_roundw
        case rel => exact ⟨k + 1, by omega, by go_num, (fun q hq h1 h2 => by
          rcases Nat.lt_or_eq_of_le (Nat.le_of_lt_succ hq) with h | rfl
          · exact HA.out q h h1 h2
          · exact absurd h1 HT.out), HBX.out⟩
        case measure => simp [intOf]; omega
    · obtain rfl : k = m := by omega
      have hkI : ¬ (k : Int) < (k : Int) := by omega
      have HY : Hid (g.canB v M = true) := Lib.hid (decide_eq_true (by rw [HM0.out]; exact HA.out))
      go_wp2_with fail
      go_ret
      exact ⟨ret_bool (by rw [HGE.out]; exact HY.out.symm), HB1.out.trans (HB.out.mono HB1.out.size)⟩
end Go.Proofs.Ytiapaddmnbeheaa
