import Derived.Test.YtkpokcddefoklaaRows
import Derived.RangeFuncNested
import Derived.RangeFuncBound
import Derived.RangeFuncCalls
import Derived.RangeFuncLeaves
import Derived.Shelf.Abstract
import Derived.Shelf.RegionOpen
import Derived.WalkKit
import Derived.Outline
import Derived.OwnWalkIn
import Derived.TacticsInMore
import Derived.LoopNIn
import Derived.LoopIn
import Derived.IntWalk
import Derived.Test.YtkpokcddefoklaaLib
import Derived.Test.YtkpokcddefoklaaCountM
import Derived.Test.YtkpokcddefoklaaParts
namespace Go.Proofs.Ytkpokcddefoklaa
open Go.RowKit Go.Shelf

attribute [local go_sem] Oper.semAt_some

theorem keeps_below {W W' : World} (h : Below W.heap.size W W') : KeepsOthers W W' :=
  ⟨h.size, fun k o ho _ => by
    have hk : k < W.heap.size := by
      rcases Nat.lt_or_ge k W.heap.size with h' | h'
      · exact h'
      · rw [Array.getElem?_eq_none h'] at ho; cases ho
    rw [h.block k hk]; exact ho⟩

theorem below_drew {W w' : World} (h : Below W.drew.heap.size W.drew w') : Below W.heap.size W w' := ⟨h.os, h.tape, h.output, h.size, h.block⟩
/-- a round has been: a sum in a cell of one's own is written, behind a call that leaves what was there -/
theorem round_close {w W w' : World} {s : Nat} {vA vB : Value} {sm q t sm' : Int} (hb' : Below W.drew.heap.size W.drew w') (hB : Below w.heap.size w W) (hs : s = w.heap.size)
    (hc1 : W.cell? ⟨s + 1 + 1, 0, none⟩ = some (.int .i64 sm)) (hf1 : W.frozen? ⟨s + 1 + 1, 0, none⟩ = false) (hb1 : W.cell? ⟨s, 0, none⟩ = some vA) (hj1 : W.cell? ⟨s + 1, 0, none⟩ = some vB) (hsn : t = sm' + q) :
    KeepsOthers W (w'.setCell ⟨s + 1 + 1, 0, none⟩ (.int .i64 (sm' + q))) ∧ Below s W (w'.setCell ⟨s + 1 + 1, 0, none⟩ (.int .i64 (sm' + q))) ∧
      (((w'.setCell ⟨s + 1 + 1, 0, none⟩ (.int .i64 (sm' + q))).cell? ⟨s + 1 + 1, 0, none⟩ = some (.int .i64 t) ∧ (w'.setCell ⟨s + 1 + 1, 0, none⟩ (.int .i64 (sm' + q))).frozen? ⟨s + 1 + 1, 0, none⟩ = false ∧
        (w'.setCell ⟨s + 1 + 1, 0, none⟩ (.int .i64 (sm' + q))).cell? ⟨s, 0, none⟩ = some vA ∧ (w'.setCell ⟨s + 1 + 1, 0, none⟩ (.int .i64 (sm' + q))).cell? ⟨s + 1, 0, none⟩ = some vB) ∧
        Below s w (w'.setCell ⟨s + 1 + 1, 0, none⟩ (.int .i64 (sm' + q)))) := by
  subst hs
  have hb := below_drew hb'
  have hl := hB.size
  have k1 := (hb.cell (p := ⟨w.heap.size + 1 + 1, 0, none⟩) (lt_cell hc1)).trans hc1
  have k2 := (hb.frozen (p := ⟨w.heap.size + 1 + 1, 0, none⟩) (lt_cell hc1)).trans hf1
  have k3 := (hb.cell (p := ⟨w.heap.size, 0, none⟩) (lt_cell hb1)).trans hb1
  have k4 := (hb.cell (p := ⟨w.heap.size + 1, 0, none⟩) (lt_cell hj1)).trans hj1
  have hbs : Below w.heap.size W (w'.setCell ⟨w.heap.size + 1 + 1, 0, none⟩ (.int .i64 (sm' + q))) := (hb.mono hl).setCell (show w.heap.size ≤ w.heap.size + 1 + 1 by omega) _
  refine ⟨(keeps_below hb).trans (KeepsOthers.setCell _ _ _), hbs, ⟨?_, ?_, ?_, ?_⟩, hB.trans hbs⟩
  · rw [hsn]; exact World.cell?_setCell_same' _ _ _ (by rw [k1]; rfl)
  · rw [World.frozen?_setCell]; exact k2
  · rw [World.cell?_setCell_other _ _ _ _ (by intro e; injection e; omega)]; exact k3
  · rw [World.cell?_setCell_other _ _ _ _ (by intro e; injection e; omega)]; exact k4

set_option maxRecDepth 100000 in
set_option maxHeartbeats 2000000 in
theorem count_calls (rows : List (List Int)) (hv : validBillM rows = true) (a : Option Addr) (len cap j : Nat) : ∀ (d i : Nat) (w : World), d ≤ 6 → i < d → i < len → RowsAt w (· < w.heap.size) a len rows →
    Calls Try.prog 26 #[.slice a len cap, .int .i64 i, .int .i64 j] w fun e W' => e = .returned (.int .i64 (countM rows j d i)) ∧ Below w.heap.size w W' := by
  intro d
  induction d with
  | zero =>
    intro i w _ hid
    exact absurd hid (by omega)
  | succ d ih =>
    intro i w hd6' hid hil hrows
    have hd6 : d ≤ 6 := by omega
    have HIH := Lib.hid ih
    clear ih
    by_cases hij : i = j
    · subst hij
      go_enter Try.func26, Try.ntmps26
      go_wp2_with fail
      go_ret
      exact ⟨ret_int (countM_self rows _ _).symm, ((Below.refl _ _).alloc (Nat.le_refl _) _).alloc (by simp) _⟩
    · obtain ⟨b, off, r, a', l, c, rfl, hx, hc, hlc, hr⟩ := hrows.get hil
      have hbw : b < w.heap.size := hrows.mem (by omega)
      have hbw1 : b < w.heap.size + 1 := by omega
      have hbw2 : b < w.heap.size + 1 + 1 := by omega
      have HX := Lib.hid hx
      clear hx
      have hneq : ((i : Int) == (j : Int)) = false := by simp; omega
      refine (callsIn_wide (n := 3)).1 ?_
      refine callsIn_of_wp_marks Try.func26 rfl trivial ?_ rfl
      simp only [Try.ntmps26, List.size_toArray, List.length_cons, List.length_nil, Nat.reduceAdd, Nat.reduceSub, Array.replicate_succ, Array.replicate_zero, List.push_toArray, List.append_toArray, List.nil_append, List.cons_append]
      gi_wp2_with (refine ⟨trivial, ?_⟩; gi_at_call 30; refine (partsTaken_any _ _ _ _ _).mono ?_; rintro e w' ⟨rfl, rfl⟩)
      have cA := cell_new_l w (.slice (some ⟨b, off, none⟩) len cap) 23
      have cB := cell_new_l (w.alloc (.cells #[.slice (some ⟨b, off, none⟩) len cap] 23)) (.int .i64 j) 3
      have cC := cell_new_l ((w.alloc (.cells #[.slice (some ⟨b, off, none⟩) len cap] 23)).alloc (.cells #[.int .i64 j] 3)) (.int .i64 0) 3
      have cD := cell_new_l (((w.alloc (.cells #[.slice (some ⟨b, off, none⟩) len cap] 23)).alloc (.cells #[.int .i64 j] 3)).alloc (.cells #[.int .i64 0] 3)) (.slice a' l c) 33
      simp only [World.size_alloc] at cB cC cD
      have hB0 : Below w.heap.size w ((((w.alloc (.cells #[.slice (some ⟨b, off, none⟩) len cap] 23)).alloc (.cells #[.int .i64 j] 3)).alloc (.cells #[.int .i64 0] 3)).alloc (.cells #[.slice a' l c] 33)) :=
        ((((Below.refl _ w).alloc (Nat.le_refl _) _).alloc (by simp) _).alloc (by simp; omega) _).alloc (by simp; omega) _
      obtain ⟨W0, hW0⟩ : ∃ W0, ((((w.alloc (.cells #[.slice (some ⟨b, off, none⟩) len cap] 23)).alloc (.cells #[.int .i64 j] 3)).alloc (.cells #[.int .i64 0] 3)).alloc (.cells #[.slice a' l c] 33)) = W0 := ⟨_, rfl⟩
      have hsz : W0.heap.size = w.heap.size + 4 := by rw [← hW0]; simp
      have cA' : W0.cell? ⟨w.heap.size, 0, none⟩ = some (.slice (some ⟨b, off, none⟩) len cap) := by rw [← hW0]; exact cell_alloc_l _ (cell_alloc_l _ (cell_alloc_l _ cA.1))
      have cB' : W0.cell? ⟨w.heap.size + 1, 0, none⟩ = some (.int .i64 j) := by rw [← hW0]; exact cell_alloc_l _ (cell_alloc_l _ cB.1)
      have cC' : W0.cell? ⟨w.heap.size + 1 + 1, 0, none⟩ = some (.int .i64 0) := by rw [← hW0]; exact cell_alloc_l _ cC.1
      have fC' : W0.frozen? ⟨w.heap.size + 1 + 1, 0, none⟩ = false := by rw [← hW0]; exact frozen_alloc_l _ cC.1 cC.2
      have cD' : W0.cell? ⟨w.heap.size + 1 + 1 + 1, 0, none⟩ = some (.slice a' l c) := by rw [← hW0]; exact cD.1
      have hB1 : Below w.heap.size w W0 := by rw [← hW0]; exact hB0
      rw [hW0]
      clear cA cB cC cD hB0 hW0
      refine wpIn_rangeFunc_ownF rfl (by omega) (gf := 31) (lb := #[.pointer (some ⟨w.heap.size + 1 + 1 + 1, 0, none⟩)]) rfl trivial (enters_of Try.func31 (by kernel_rfl) rfl)
        (parts_stops _ (by omega) (w.heap.size + 1 + 1 + 1) w.heap.size a' l c r W0 (by omega) (by omega) cD' (hr.below hB1)) belowK_t (belowK_b (by omega)) (Below.refl _ _) (fun _ => rfl)
        (fun (pre : List (Part r)) W => (W.cell? ⟨w.heap.size + 1 + 1, 0, none⟩ = some (.int .i64 (sumOver (fun p c => c * countM rows j d p) (pre.map (·.1)))) ∧ W.frozen? ⟨w.heap.size + 1 + 1, 0, none⟩ = false ∧
          W.cell? ⟨w.heap.size, 0, none⟩ = some (.slice (some ⟨b, off, none⟩) len cap) ∧ W.cell? ⟨w.heap.size + 1, 0, none⟩ = some (.int .i64 j)) ∧ Below w.heap.size w W)
        (fun _ _ _ => False)
        (OwnFrom.and (Own.from (fun s A B row hs hg hr => ⟨cell_kept hs.1 hg hr, (frozen_kept hs.1 hg hr).trans hs.2.1, cell_kept hs.2.2.1 hg hr, cell_kept hs.2.2.2 hg hr⟩) _) (ownFrom_below (Nat.le_refl _) (by omega)))
        (fun _ _ _ _ _ hs _ _ => hs)
        ⟨⟨cC', fC', cA', cB'⟩, hB1⟩
        (fun x => { tmps := #[.slice (some ⟨b, off, none⟩) len cap, .int .i64 i, .int .i64 j, .pointer (some ⟨w.heap.size, 0, none⟩), undef, .pointer (some ⟨w.heap.size + 1, 0, none⟩), .int .i64 0, .pointer (some ⟨w.heap.size + 1 + 1, 0, none⟩),
          .int .i64 (x.1.1 : Int), .int .i64 x.1.2, .int .i64 i, .int .i64 j, .bool false, .slice (some ⟨b, off, none⟩) len cap, .int .i64 i, .pointer (some ⟨b, off + i, none⟩), .slice a' l c, .func (.func 31) #[] #[.pointer (some ⟨w.heap.size + 1 + 1 + 1, 0, none⟩)],
          .int .i64 (x.1.1 : Int), .int .i64 x.1.2, undef, undef, undef, undef, undef, undef, undef, undef, undef], defers := [] }) ?assign ?body ?done ?stop
      case assign =>
        intro l x W K hK
        dsimp only [partArgs]
        gi_wp2
        exact hK
      case body =>
        rintro l' pre ⟨⟨p, cc⟩, hp1, hp2⟩ W ⟨⟨hc1, hf1, hb1, hj1⟩, hB⟩ hpl
        obtain ⟨hr1, hr2, hr3⟩ := okRows_get hv HX.out
        have hpi : p < i := by
          rw [← hr1]
          rcases Nat.lt_or_ge p r.length with h' | h'
          · exact h'
          · simp [List.getElem?_eq_none h'] at hp1
        have hcc := hr2 cc (List.mem_of_getElem? hp1)
        have hrW : RowsAt W (· < W.heap.size) (some ⟨b, off, none⟩) len rows := (hrows.below hB).to (fun k hk => ⟨Nat.lt_of_lt_of_le hk hB.size, rfl⟩)
        have hl1 : w.heap.size < W.heap.size := lt_cell hb1
        have hl2 : w.heap.size + 1 < W.heap.size := lt_cell hj1
        have hl3 : w.heap.size + 1 + 1 < W.heap.size := lt_cell hc1
        obtain ⟨hq0, hq1⟩ := countM_bd hv j d p
        have hpw := pow_le hd6
        have hsb := sumOver_bd (f := fun p c => c * countM rows j d p) (B := 102036672) (pre.map (·.1)) (fun q hq => by
          obtain ⟨z, _, rfl⟩ := List.mem_map.1 hq
          have hz := hr2 z.1.2 (List.mem_of_getElem? z.2.1)
          have hy := countM_bd hv j d z.1.1
          have hm := Int.mul_le_mul hz.2 hy.2 hy.1 (by omega)
          exact ⟨Int.mul_nonneg hz.1 hy.1, by omega⟩)
        rw [List.length_map] at hsb
        have hm0 : 0 ≤ cc * countM rows j d p := Int.mul_nonneg hcc.1 hq0
        have hm1 : cc * countM rows j d p ≤ 3 * ((18 ^ d : Nat) : Int) := Int.mul_le_mul hcc.2 hq1 hq0 (by omega)
        have hsn : sumOver (fun p c => c * countM rows j d p) ((pre ++ [(⟨(p, cc), hp1, hp2⟩ : Part r)]).map (·.1)) = sumOver (fun p c => c * countM rows j d p) (pre.map (·.1)) + cc * countM rows j d p := by
          rw [List.map_append, List.map_cons, List.map_nil, sumOver_snoc]
        have HSN := Lib.hid hsn
        clear hsn
        have hcall := HIH.out p W.drew (by omega) (by omega) (by omega) (hrW.to (fun k hk => ⟨hk, rfl⟩))
        have HCALL := Lib.hid hcall
        clear hcall hrW
        generalize hS : sumOver (fun p c => c * countM rows j d p) (pre.map (·.1)) = sm at hc1 hsb HSN
        generalize hV : countM rows j d p = vv at hq0 hq1 hm0 hm1 HSN HCALL
        have hs1 : sm ≤ 612220032 := by omega
        have hs0 : 0 ≤ sm := hsb.1
        have hm2 : cc * vv ≤ 102036672 := by omega
        have hq2 : vv ≤ 34012224 := by omega
        clear hsb hm1 hq1 hpw hS hV
        have hmx : Try.prog.follows .mixedOrders = true := by kernel_rfl
        have w1 : IntKind.i64.wrap (cc * vv) = cc * vv := IntWalk.i64_in _ (by omega)
        have w2 : IntKind.i64.wrap (sm + cc * vv) = sm + cc * vv := IntWalk.i64_in _ (by omega)
        have HB := Lib.hid hB
        clear hB hrows hc hr hr1 hr2 hr3 hcc hpl hl1 hl2 HIH HX hv hlc hil hid hd6 hd6' hsz cA' cB' cC' fC' cD' hB1 hneq hij hbw hbw1 hbw2 hpi
        gi_wp2
        gi_region_with_o (refine ⟨trivial, ?_⟩; gi_at_call 26; refine (CallsIn.inRound l' (callsIn_wide.2 HCALL.out)).mono ?_; rintro e w' ⟨rfl, hb'⟩; have k1 := (hb'.cell (p := ⟨w.heap.size + 1 + 1, 0, none⟩) hl3).trans hc1; have k2 := (hb'.frozen (p := ⟨w.heap.size + 1 + 1, 0, none⟩) hl3).trans hf1)
        all_goals gi_wp2
        all_goals exact round_close hb' HB.out rfl hc1 hf1 hb1 hj1 HSN.out
      case done =>
        rintro D ys W hD hys ⟨⟨hc1, hf1, hb1, hj1⟩, hB⟩ hK
        have HD := Lib.hid (countM_eq (d := d) HX.out hij)
        clear hrows hc hr HIH hv
        gi_wp2
        refine ⟨by simp, .inl ⟨_, _, rfl, run_takeDeferred hK, ?_⟩⟩
        exact ⟨_, results_tmp rfl _ _ _, by exact ret_int HD.out.symm, hB.trans (belowK_b (w := w) (Nat.le_refl _) W D _ _ (by omega) hK rfl rfl)⟩
      case stop =>
        rintro D c pre W _ _ h _
        exact h.elim
end Go.Proofs.Ytkpokcddefoklaa
