import Derived.Test.YtjcbpnffmebihaaGreatDoorA19
import Derived.Test.YtjcbpnffmebihaaGreatDoorRows
import Derived.WalkKit
import Derived.LoopTactic
import Derived.Outline
import Derived.WalkSpells
import Derived.WalkLawsBesides
import Derived.ProofKit
import Derived.Lib.Hide
import Derived.IntWalk
import Derived.Deep.RegionHeld3
import Derived.Deep.AppendLies
set_option linter.unusedVariables false
set_option linter.unusedSimpArgs false
namespace Go.Proofs.YtjcbpnffmebihaaGreatDoor
open Go.RowKit Go.WideShapes

theorem Tryz.infoPC : (Tryz.prog.info? 151).map (fun i => (i.zero, i.size, i.bytes)) = some (some (.int .i64 0), 1, 8) := by kernel_rfl
theorem Tryz.infoPCs : (Tryz.prog.info? 150).map (fun i => (i.zero, i.size, i.bytes)) = some (some (.slice none 0 0), 1, 24) := by kernel_rfl
set_option maxRecDepth 100000 in
set_option maxHeartbeats 4000000 in
theorem cutP_any {w : World} {B r : Nat} {R : Int} {v : Value} {vs : List Value} {rows : List (List Int)} {n : Nat} (h : RollsP w B r R v vs rows) (hlow : B ≤ r) (hB : B ≤ w.heap.size) (hok : RowsOk id rows n) (hn : n ≤ 20) {k : Nat} (hk : k ≤ rows.length) (y : Int) :
    Calls Tryz.prog 153 #[.pointer (some ⟨r, 0, none⟩), .int .i64 k, .int .i64 y] w fun e w' => e = .returned (.tuple #[]) ∧ ∃ v' vs', RollsP w' B r R v' vs' (putRow rows k y) ∧ Below B w w' := by
  have hlen := hok.len
  have hrl0 := hok.row k
  by_cases hkn : k = rows.length
  · obtain ⟨av, cv, hv, hcv⟩ := own_slice h.outer
    obtain ⟨_, c1, f1⟩ := h.cells
    have hr0 := lt_heap h.box
    have hne := h.box_ne_outer (by decide)
    have ho := h.outer
    rw [hv] at c1 hne ho
    obtain ⟨i0, hi0, hz0, hz1, hz2⟩ := info_parts Tryz.infoPCs
    have HH := Lib.hid h
    have HV := Lib.hid hv
    obtain ⟨N0, hN0⟩ : ∃ N, rows.length = N := ⟨_, rfl⟩
    rw [hN0] at c1 hkn hlen hne ho HV
    have HO := Lib.hid ho
    have HN0 := Lib.hid hN0
    have HNE := Lib.hid hne
    subst hkn
    have c1a : (w.alloc (.cells #[.slice none 0 0] 150)).cell? ⟨r, 1, none⟩ = some (.slice av k cv) := (World.cell?_of_block (w := w) (Below.heap_alloc _ _ _ hr0)).trans c1
    have f1a : (w.alloc (.cells #[.slice none 0 0] 150)).frozen? ⟨r, 1, none⟩ = false := (World.frozen?_of_block (w := w) (Below.heap_alloc _ _ _ hr0)).trans (f1 1)
    clear hv hok h hcv hN0 ho hne f1
    go_enter Tryz.func153, Tryz.ntmps153
    go_wp2_with (at_builtin; refine wpList_append_lies _ rfl _ _ _ rfl B 150 i0 (.slice none 0 0) 1 24 Tryz.underlying152 hi0 hz0 hz1 hz2 rfl (by decide) (.slice av k cv) k vs rfl (HO.out.alloc _) ⟨w.heap.size, 0, none⟩ 1 1 [.slice none 0 0] rfl rfl (World.news_of_block (cs := #[.slice none 0 0]) (t := 150) (fr := (0, 0)) (heap_alloc_new w _)) (by simp [Value.oneCell']) (by omega) (by unfold maxLen; omega) (by omega) (by simp; omega) _ rfl ?_)
    intro g0 cp0 w1 hown0 hgr0 hat0 hlt0
    have hrs : r < (w.alloc (.cells #[.slice none 0 0] 150)).heap.size := by simp; omega
    have d1 := (hgr0.cell_far ⟨r, 1, none⟩ hrs (fun e => HNE.out e.symm)).trans c1a
    have e1 := (hgr0.frozen_far ⟨r, 1, none⟩ hrs (fun e => HNE.out e.symm)).trans f1a
    have hgr0' : w.grownBy w1 (Value.slice av k cv).ownBlock := grown_comp (World.grownBy_alloc w _ _) hgr0
    have HW0 := Lib.hid (RollsW.pushNil HH.out (by decide) (by decide) (by decide) (v' := .slice (some ⟨g0, 0, none⟩) (k + 1) cp0) (w' := w1) (by rw [HN0.out]; exact hown0) (by rw [HV.out]; exact hgr0'))
    have HB0 := Lib.hid (((Below.refl B w).grown hgr0' hB (fun b e => (HO.out.lt b e).1)).setCell (p := ⟨r, 1, none⟩) hlow (.slice (some ⟨g0, 0, none⟩) (k + 1) cp0))
    clear hown0 hgr0 hgr0' hat0 c1 c1a f1a
    go_wp2_with fail
    obtain ⟨wi, hwi⟩ : ∃ wi, w1.setCell ⟨r, 1, none⟩ (.slice (some ⟨g0, 0, none⟩) (k + 1) cp0) = wi := ⟨_, rfl⟩
    rw [hwi] at HW0 HB0 ⊢
    have HPR := Lib.hid (show putRow rows k y = (rows ++ [[]]).set k ((rows ++ [[]] : List (List Int)).getD k [] ++ [y]) by
      unfold putRow
      rw [if_pos HN0.out.symm, ← HN0.out, List.getD_eq_getElem?_getD, List.getElem?_append_right (Nat.le_refl _), List.set_append_right _ _ (Nat.le_refl _)]
      simp)
    have HFIN := Lib.hid (fun (W : World) (vs' : List Value) (h : RollsP W B r R (.slice (some ⟨g0, 0, none⟩) (k + 1) cp0) vs' ((rows ++ [[]]).set k ((rows ++ [[]] : List (List Int)).getD k [] ++ [y]))) => show RollsP W B r R (.slice (some ⟨g0, 0, none⟩) (k + 1) cp0) vs' (putRow rows k y) by rw [HPR.out]; exact h)
    have HL20 := Lib.hid (show ((rows ++ [[]] : List (List Int)).getD k []).length ≤ 20 by rw [List.getD_eq_getElem?_getD, List.getElem?_append_right (by rw [HN0.out]; exact Nat.le_refl _), HN0.out, Nat.sub_self]; simp)
    have hkl : k < (rows ++ [[]] : List (List Int)).length := by rw [List.length_append, HN0.out]; simp
    have HBW := HB0
    have HW := Lib.hid (show RollsP wi B r R (.slice (some ⟨g0, 0, none⟩) (k + 1) cp0) (vs ++ [.slice none 0 0]) (rows ++ [[]]) from HW0.out)
    have hBs2 : B ≤ wi.heap.size := Nat.le_trans hB HB0.out.size
    clear HW0 HB0 hwi d1 e1 HPR hlt0 hrs HH HV HO HNE hi0 hz0 hz1 hz2 HN0
    generalize (rows ++ [[]] : List (List Int)) = rows1 at *
    generalize vs ++ [Value.slice none 0 0] = vs1 at *
    generalize Value.slice (some ⟨g0, 0, none⟩) (k + 1) cp0 = v1 at *
    clear hrl0
    obtain ⟨G, cp1, hv2, hGB, hGl⟩ := HW.out.outer.form (by omega)
    have ho := HW.out.outer
    rw [hv2] at ho
    obtain ⟨u, hu⟩ : ∃ u, vs1[k]? = some u := ⟨vs1[k]'(by rw [HW.out.lenV]; exact hkl), List.getElem?_eq_getElem _⟩
    have cg := (ho.cellAt k (by omega)).trans hu
    have cgf := ho.frozenAt k
    have hrow := HW.out.row k u hu
    rw [encP_flat] at hrow
    obtain ⟨ax, cp, hax, hcp⟩ := own_slice hrow
    have hne1 := HW.out.box_ne_row (by decide) hu
    have hne2 := HW.out.row_ne_outer (by decide) hu
    have hne3 := HW.out.box_ne_outer (by decide)
    have hrl := lt_heap HW.out.box
    obtain ⟨_, c1, _⟩ := HW.out.cells
    rw [hv2] at c1 hne2 hne3
    rw [hax] at hrow cg hne1 hne2
    have HU := Lib.hid hu
    have HAX := Lib.hid hax
    have HV2 := Lib.hid hv2
    obtain ⟨l, hl⟩ : ∃ l, rows1.getD k [] = l := ⟨_, rfl⟩
    have hm20 := HL20.out
    rw [hl] at hrow hm20 cg hne1 hne2 HAX
    obtain ⟨m, hm⟩ : ∃ m, l.length = m := ⟨_, rfl⟩
    rw [hm] at hrow hm20 cg hne1 hne2 HAX
    have HLL := Lib.hid hl
    have HMM := Lib.hid hm
    obtain ⟨N, hN⟩ : ∃ N, rows1.length = N := ⟨_, rfl⟩
    rw [hN] at c1 hne2 hne3 HV2
    have hklI : (k : Int) < (N : Int) := by omega
    have hBs := HBW.out.size
    have HGR := Lib.hid (show G ≠ r from fun e => hne3 (by rw [e]; rfl))
    have FG := Lib.hid (show (wi.alloc (.cells #[.int .i64 y] 151)).drew.cell? ⟨G, k, none⟩ = some (.slice ax m cp) ∧ (wi.alloc (.cells #[.int .i64 y] 151)).drew.frozen? ⟨G, k, none⟩ = false ∧ G < (wi.alloc (.cells #[.int .i64 y] 151)).drew.heap.size ∧ some G ≠ (Value.slice ax m cp).ownBlock from
      ⟨(World.cell?_of_block (w := wi) (Below.heap_alloc _ _ _ hGl)).trans cg, (World.frozen?_of_block (w := wi) (Below.heap_alloc _ _ _ hGl)).trans cgf, by show G < (wi.alloc _).heap.size; simp; omega, fun e => by
        rcases hne2 with g | g
        · rw [g] at e; cases e
        · exact g e.symm⟩)
    have FQ := Lib.hid (show (wi.alloc (.cells #[.int .i64 y] 151)).drew.cell? ⟨r, 1, none⟩ = some (.slice (some ⟨G, 0, none⟩) N cp1) ∧ r < (wi.alloc (.cells #[.int .i64 y] 151)).drew.heap.size ∧ some r ≠ (Value.slice ax m cp).ownBlock from
      ⟨(World.cell?_of_block (w := wi) (Below.heap_alloc _ _ _ hrl)).trans c1, by show r < (wi.alloc _).heap.size; simp; omega, fun e => hne1 e.symm⟩)
    have K3 := Lib.hid (fun (W : World) (z : Value) (h : W.cell? ⟨r, 1, none⟩ = some (.slice (some ⟨G, 0, none⟩) N cp1)) => show (W.setCell ⟨G, k, none⟩ z).cell? ⟨r, 1, none⟩ = some (.slice (some ⟨G, 0, none⟩) N cp1) from
      (World.cell?_setCell_other W _ _ z (by intro e; injection e with e1; exact HGR.out (by omega))).trans h)
    obtain ⟨i1, hi1, hy0, hy1, hy2⟩ := info_parts Tryz.infoPC
    have cg2 := FG.out.1
    have HROW := Lib.hid hrow
    have HN := Lib.hid hN
    clear hrow hax hu hv2 hcp hl hm ho hne1 hne2 hne3 hN
    go_wp2_with fail
    refine wp_region_held_drew (S := fun w' => w'.cell? ⟨r, 1, none⟩ = some (.slice (some ⟨G, 0, none⟩) N cp1)) (by kernel_rfl) c1 (fun hHeld => ?_)
    refine wpAnyH_take (i := 0) (v := .pointer (some ⟨r, 0, none⟩)) rfl (by kernel_rfl) (by kernel_rfl) (by kernel_rfl) (fun _ _ _ h => h) (Or.inl ⟨by rfl, ?_⟩) hHeld ?_
    · intro w' k1; go_simp
    try simp only [Act.put, List.setIfInBounds_toArray, List.set_cons_zero, List.set_cons_succ]
    refine wpAnyH_take (i := 1) (v := .pointer (some ⟨r, 0, none⟩)) rfl (by kernel_rfl) (by kernel_rfl) (by kernel_rfl) (fun _ _ _ h => h) (Or.inl ⟨by rfl, ?_⟩) hHeld ?_
    · intro w' k1; go_simp
    try simp only [Act.put, List.setIfInBounds_toArray, List.set_cons_zero, List.set_cons_succ]
    refine wpAnyH_take (i := 2) (v := .pointer (some ⟨r, 1, none⟩)) rfl (by kernel_rfl) (by kernel_rfl) (by kernel_rfl) (fun _ _ _ h => h) (Or.inl ⟨by rfl, ?_⟩) hHeld ?_
    · intro w' k1; go_simp
    try simp only [Act.put, List.setIfInBounds_toArray, List.set_cons_zero, List.set_cons_succ]
    refine wpAnyH_take (i := 3) (v := .slice (some ⟨G, 0, none⟩) N cp1) rfl (by kernel_rfl) (by kernel_rfl) (by kernel_rfl) (fun _ _ _ h => h) (Or.inl ⟨by rfl, ?_⟩) hHeld ?_
    · intro w' k1; go_simp
    try simp only [Act.put, List.setIfInBounds_toArray, List.set_cons_zero, List.set_cons_succ]
    refine wpAnyH_take (i := 4) (v := .int .i64 k) rfl (by kernel_rfl) (by kernel_rfl) (by kernel_rfl) (fun _ _ _ h => h) (Or.inl ⟨by rfl, ?_⟩) hHeld ?_
    · intro w' k1; go_simp
    try simp only [Act.put, List.setIfInBounds_toArray, List.set_cons_zero, List.set_cons_succ]
    refine wpAnyH_take (i := 5) (v := .pointer (some ⟨r, 0, none⟩)) rfl (by kernel_rfl) (by kernel_rfl) (by kernel_rfl) (fun _ _ _ h => h) (Or.inl ⟨by rfl, ?_⟩) hHeld ?_
    · intro w' k1; go_simp
    try simp only [Act.put, List.setIfInBounds_toArray, List.set_cons_zero, List.set_cons_succ]
    refine wpAnyH_take (i := 6) (v := .pointer (some ⟨r, 0, none⟩)) rfl (by kernel_rfl) (by kernel_rfl) (by kernel_rfl) (fun _ _ _ h => h) (Or.inl ⟨by rfl, ?_⟩) hHeld ?_
    · intro w' k1; go_simp
    try simp only [Act.put, List.setIfInBounds_toArray, List.set_cons_zero, List.set_cons_succ]
    refine wpAnyH_take (i := 7) (v := .pointer (some ⟨r, 1, none⟩)) rfl (by kernel_rfl) (by kernel_rfl) (by kernel_rfl) (fun _ _ _ h => h) (Or.inl ⟨by rfl, ?_⟩) hHeld ?_
    · intro w' k1; go_simp
    try simp only [Act.put, List.setIfInBounds_toArray, List.set_cons_zero, List.set_cons_succ]
    refine wpAnyH_take (i := 8) (v := .slice (some ⟨G, 0, none⟩) N cp1) rfl (by kernel_rfl) (by kernel_rfl) (by kernel_rfl) (fun _ _ _ h => h) (Or.inl ⟨by rfl, ?_⟩) hHeld ?_
    · intro w' k1; go_simp
    try simp only [Act.put, List.setIfInBounds_toArray, List.set_cons_zero, List.set_cons_succ]
    refine wpAnyH_take (i := 9) (v := .int .i64 k) rfl (by kernel_rfl) (by kernel_rfl) (by kernel_rfl) (fun _ _ _ h => h) (Or.inl ⟨by rfl, ?_⟩) hHeld ?_
    · intro w' k1; go_simp
    try simp only [Act.put, List.setIfInBounds_toArray, List.set_cons_zero, List.set_cons_succ]
    refine wpAnyH_take (i := 10) (v := .pointer (some ⟨G, k, none⟩)) rfl (by kernel_rfl) (by kernel_rfl) (by kernel_rfl) (fun _ _ _ h => h) (Or.inl ⟨by rfl, ?_⟩) hHeld ?_
    · intro w' k1; go_simp
    try simp only [Act.put, List.setIfInBounds_toArray, List.set_cons_zero, List.set_cons_succ]
    refine wpAnyH_take (i := 12) (v := .int .i64 y) rfl (by kernel_rfl) (by kernel_rfl) (by kernel_rfl) (fun _ _ _ h => h) (Or.inl ⟨by rfl, ?_⟩) hHeld ?_
    · intro w' k1; go_simp
    try simp only [Act.put, List.setIfInBounds_toArray, List.set_cons_zero, List.set_cons_succ]
    refine wpAnyH_ready (rs := [11, 13]) (by kernel_rfl) (by simp) ?_
    refine AllReadyH.cons (o := _) rfl (fun K hK => ?_) (AllReadyH.cons (o := _) rfl (fun K hK => ?_) AllReadyH.nil)
    go_simp
    refine hK.out _ _ c1 (fun hHeld => ?_)
    clear hK K
    try simp only [Act.put, List.setIfInBounds_toArray, List.set_cons_zero, List.set_cons_succ]
    refine wpAnyH_ready (rs := [13]) (by kernel_rfl) (by simp) ?_
    refine AllReadyH.cons (o := _) rfl (fun K hK => ?_) AllReadyH.nil
    go_simp
    refine hK.out _ _ FQ.out.1 (fun hHeld => ?_)
    clear hK K
    try simp only [Act.put, List.setIfInBounds_toArray, List.set_cons_zero, List.set_cons_succ]
    rotate_left
    go_simp
    refine hK.out _ _ FQ.out.1 (fun hHeld => ?_)
    clear hK K
    try simp only [Act.put, List.setIfInBounds_toArray, List.set_cons_zero, List.set_cons_succ]
    refine wpAnyH_ready (rs := [11]) (by kernel_rfl) (by simp) ?_
    refine AllReadyH.cons (o := _) rfl (fun K hK => ?_) AllReadyH.nil
    go_simp
    refine hK.out _ _ FQ.out.1 (fun hHeld => ?_)
    clear hK K
    try simp only [Act.put, List.setIfInBounds_toArray, List.set_cons_zero, List.set_cons_succ]
    all_goals
      refine wpAnyH_ready (rs := [14]) (by kernel_rfl) (by simp) ?_
      refine AllReadyH.cons (o := _) rfl (fun K hK => ?_) AllReadyH.nil
      refine step_append_lies _ (by rfl) _ _ _ (by rfl) B 151 i1 _ 1 8 Tryz.underlying150 hi1 hy0 hy1 hy2 rfl (by omega) (.slice ax m cp) m _ (by rfl) ((HROW.out.alloc _).drew) ⟨wi.heap.size, 0, none⟩ 1 1 [.int .i64 y] (by rfl) (by rfl) (World.news_of_block (cs := #[.int .i64 y]) (t := 151) (fr := (0, 0)) (heap_alloc_new wi _)) (by simp [Value.oneCell']) (by omega) (by unfold maxLen; omega) (by omega) (by simp; omega) (wi.heap.size + 1) (by simp) ?_
      intro g c6 w6 hown hgr hat hlt6
      have k6 := (hgr.cell_far ⟨r, 1, none⟩ FQ.out.2.1 FQ.out.2.2).trans FQ.out.1
      have j6 := (hgr.cell_far ⟨G, k, none⟩ FG.out.2.2.1 FG.out.2.2.2).trans FG.out.1
      have f6 := (hgr.frozen_far ⟨G, k, none⟩ FG.out.2.2.1 FG.out.2.2.2).trans FG.out.2.1
      refine hK.out _ _ k6 (fun hHeld => ?_)
      clear hK K
      try simp only [Act.put, List.setIfInBounds_toArray, List.set_cons_zero, List.set_cons_succ]
      refine wpAnyH_take (i := 15) (v := .pointer (some ⟨G, k, none⟩)) rfl (by kernel_rfl) (by kernel_rfl) (by kernel_rfl) (fun _ _ _ h => h) (Or.inl ⟨by rfl, ?_⟩) hHeld ?_
      · intro w' k1; go_simp
      try simp only [Act.put, List.setIfInBounds_toArray, List.set_cons_zero, List.set_cons_succ]
      refine wpAnyH_ready (rs := [16]) (by kernel_rfl) (by simp) ?_
      refine AllReadyH.cons (o := _) rfl (fun K hK => ?_) AllReadyH.nil
      go_simp
      refine hK.out _ _ (K3.out _ _ k6) (fun hHeld => ?_)
      clear hK K
      try simp only [Act.put, List.setIfInBounds_toArray, List.set_cons_zero, List.set_cons_succ]
      refine wpAnyH_done (by kernel_rfl) ?_ _
    all_goals
        have hgr2 : wi.grownBy w6 (Value.slice ax m cp).ownBlock := grown_comp (World.grownBy_alloc wi _ _) (grown_comp (grownBy_drewN _ 1 _) hgr)
        have hpush := HW.out.setRow (u' := .slice (some ⟨g, 0, none⟩) (m + 1) c6) (w' := w6) (nrow := l ++ [y]) (by decide) (by decide) (by decide) HV2.out HU.out (by rw [encP_flat, List.map_append, List.length_append, List.length_singleton, HMM.out]; exact hown) (by rw [HAX.out]; exact hgr2) (by
          rw [HAX.out]
          intro b hb
          simp only [Value.ownBlock, Option.some.injEq] at hb
          subst hb
          rcases hat with e | e
          · exact .inl e
          · exact .inr (by omega))
        have hbl := (HBW.out.grown hgr2 hBs2 (fun b e => (HROW.out.lt b e).1)).setCell (p := ⟨G, k, none⟩) hGB (.slice (some ⟨g, 0, none⟩) (m + 1) c6)
        rw [← HLL.out] at hpush
        have HPU := Lib.hid hpush
        have HBL := Lib.hid hbl
        clear hpush hbl hgr2 hgr hown hat hlt6 k6 j6 f6
        go_wp2_with fail
        go_end0
        exact ⟨rfl, _, _, HFIN.out _ _ HPU.out, HBL.out⟩
  · have hkl : k < rows.length := by omega
    have HFIN := Lib.hid (fun (W : World) (vs' : List Value) (h : RollsP W B r R v vs' (rows.set k (rows.getD k [] ++ [y]))) => show RollsP W B r R v vs' (putRow rows k y) by unfold putRow; rw [if_neg hkn]; exact h)
    have HL20 := Lib.hid (show (rows.getD k []).length ≤ 20 by omega)
    obtain ⟨wi, hwi⟩ : ∃ wi, w = wi := ⟨_, rfl⟩
    have HBW := Lib.hid (Below.refl B wi)
    have HW := Lib.hid (show RollsP wi B r R v vs rows by rw [← hwi]; exact h)
    have hBs2 : B ≤ wi.heap.size := by rw [← hwi]; exact hB
    have hkI : ¬ (k : Int) = (rows.length : Int) := by omega
    clear h hok hrl0
    go_enter Tryz.func153, Tryz.ntmps153
    rw [hwi]
    obtain ⟨G, cp1, hv2, hGB, hGl⟩ := HW.out.outer.form (by omega)
    have ho := HW.out.outer
    rw [hv2] at ho
    obtain ⟨u, hu⟩ : ∃ u, vs[k]? = some u := ⟨vs[k]'(by rw [HW.out.lenV]; exact hkl), List.getElem?_eq_getElem _⟩
    have cg := (ho.cellAt k (by omega)).trans hu
    have cgf := ho.frozenAt k
    have hrow := HW.out.row k u hu
    rw [encP_flat] at hrow
    obtain ⟨ax, cp, hax, hcp⟩ := own_slice hrow
    have hne1 := HW.out.box_ne_row (by decide) hu
    have hne2 := HW.out.row_ne_outer (by decide) hu
    have hne3 := HW.out.box_ne_outer (by decide)
    have hrl := lt_heap HW.out.box
    obtain ⟨_, c1, _⟩ := HW.out.cells
    rw [hv2] at c1 hne2 hne3
    rw [hax] at hrow cg hne1 hne2
    have HU := Lib.hid hu
    have HAX := Lib.hid hax
    have HV2 := Lib.hid hv2
    obtain ⟨l, hl⟩ : ∃ l, rows.getD k [] = l := ⟨_, rfl⟩
    have hm20 := HL20.out
    rw [hl] at hrow hm20 cg hne1 hne2 HAX
    obtain ⟨m, hm⟩ : ∃ m, l.length = m := ⟨_, rfl⟩
    rw [hm] at hrow hm20 cg hne1 hne2 HAX
    have HLL := Lib.hid hl
    have HMM := Lib.hid hm
    obtain ⟨N, hN⟩ : ∃ N, rows.length = N := ⟨_, rfl⟩
    rw [hN] at c1 hne2 hne3 HV2 hkI
    have hklI : (k : Int) < (N : Int) := by omega
    have hBs := HBW.out.size
    have HGR := Lib.hid (show G ≠ r from fun e => hne3 (by rw [e]; rfl))
    have FG := Lib.hid (show (wi.alloc (.cells #[.int .i64 y] 151)).drew.cell? ⟨G, k, none⟩ = some (.slice ax m cp) ∧ (wi.alloc (.cells #[.int .i64 y] 151)).drew.frozen? ⟨G, k, none⟩ = false ∧ G < (wi.alloc (.cells #[.int .i64 y] 151)).drew.heap.size ∧ some G ≠ (Value.slice ax m cp).ownBlock from
      ⟨(World.cell?_of_block (w := wi) (Below.heap_alloc _ _ _ hGl)).trans cg, (World.frozen?_of_block (w := wi) (Below.heap_alloc _ _ _ hGl)).trans cgf, by show G < (wi.alloc _).heap.size; simp; omega, fun e => by
        rcases hne2 with g | g
        · rw [g] at e; cases e
        · exact g e.symm⟩)
    have FQ := Lib.hid (show (wi.alloc (.cells #[.int .i64 y] 151)).drew.cell? ⟨r, 1, none⟩ = some (.slice (some ⟨G, 0, none⟩) N cp1) ∧ r < (wi.alloc (.cells #[.int .i64 y] 151)).drew.heap.size ∧ some r ≠ (Value.slice ax m cp).ownBlock from
      ⟨(World.cell?_of_block (w := wi) (Below.heap_alloc _ _ _ hrl)).trans c1, by show r < (wi.alloc _).heap.size; simp; omega, fun e => hne1 e.symm⟩)
    have K3 := Lib.hid (fun (W : World) (z : Value) (h : W.cell? ⟨r, 1, none⟩ = some (.slice (some ⟨G, 0, none⟩) N cp1)) => show (W.setCell ⟨G, k, none⟩ z).cell? ⟨r, 1, none⟩ = some (.slice (some ⟨G, 0, none⟩) N cp1) from
      (World.cell?_setCell_other W _ _ z (by intro e; injection e with e1; exact HGR.out (by omega))).trans h)
    obtain ⟨i1, hi1, hy0, hy1, hy2⟩ := info_parts Tryz.infoPC
    have cg2 := FG.out.1
    have HROW := Lib.hid hrow
    have HN := Lib.hid hN
    clear hrow hax hu hv2 hcp hl hm ho hne1 hne2 hne3 hN
    go_wp2_with fail
    refine wp_region_held_drew (S := fun w' => w'.cell? ⟨r, 1, none⟩ = some (.slice (some ⟨G, 0, none⟩) N cp1)) (by kernel_rfl) c1 (fun hHeld => ?_)
    refine wpAnyH_take (i := 0) (v := .pointer (some ⟨r, 0, none⟩)) rfl (by kernel_rfl) (by kernel_rfl) (by kernel_rfl) (fun _ _ _ h => h) (Or.inl ⟨by rfl, ?_⟩) hHeld ?_
    · intro w' k1; go_simp
    try simp only [Act.put, List.setIfInBounds_toArray, List.set_cons_zero, List.set_cons_succ]
    refine wpAnyH_take (i := 1) (v := .pointer (some ⟨r, 0, none⟩)) rfl (by kernel_rfl) (by kernel_rfl) (by kernel_rfl) (fun _ _ _ h => h) (Or.inl ⟨by rfl, ?_⟩) hHeld ?_
    · intro w' k1; go_simp
    try simp only [Act.put, List.setIfInBounds_toArray, List.set_cons_zero, List.set_cons_succ]
    refine wpAnyH_take (i := 2) (v := .pointer (some ⟨r, 1, none⟩)) rfl (by kernel_rfl) (by kernel_rfl) (by kernel_rfl) (fun _ _ _ h => h) (Or.inl ⟨by rfl, ?_⟩) hHeld ?_
    · intro w' k1; go_simp
    try simp only [Act.put, List.setIfInBounds_toArray, List.set_cons_zero, List.set_cons_succ]
    refine wpAnyH_take (i := 3) (v := .slice (some ⟨G, 0, none⟩) N cp1) rfl (by kernel_rfl) (by kernel_rfl) (by kernel_rfl) (fun _ _ _ h => h) (Or.inl ⟨by rfl, ?_⟩) hHeld ?_
    · intro w' k1; go_simp
    try simp only [Act.put, List.setIfInBounds_toArray, List.set_cons_zero, List.set_cons_succ]
    refine wpAnyH_take (i := 4) (v := .int .i64 k) rfl (by kernel_rfl) (by kernel_rfl) (by kernel_rfl) (fun _ _ _ h => h) (Or.inl ⟨by rfl, ?_⟩) hHeld ?_
    · intro w' k1; go_simp
    try simp only [Act.put, List.setIfInBounds_toArray, List.set_cons_zero, List.set_cons_succ]
    refine wpAnyH_take (i := 5) (v := .pointer (some ⟨r, 0, none⟩)) rfl (by kernel_rfl) (by kernel_rfl) (by kernel_rfl) (fun _ _ _ h => h) (Or.inl ⟨by rfl, ?_⟩) hHeld ?_
    · intro w' k1; go_simp
    try simp only [Act.put, List.setIfInBounds_toArray, List.set_cons_zero, List.set_cons_succ]
    refine wpAnyH_take (i := 6) (v := .pointer (some ⟨r, 0, none⟩)) rfl (by kernel_rfl) (by kernel_rfl) (by kernel_rfl) (fun _ _ _ h => h) (Or.inl ⟨by rfl, ?_⟩) hHeld ?_
    · intro w' k1; go_simp
    try simp only [Act.put, List.setIfInBounds_toArray, List.set_cons_zero, List.set_cons_succ]
    refine wpAnyH_take (i := 7) (v := .pointer (some ⟨r, 1, none⟩)) rfl (by kernel_rfl) (by kernel_rfl) (by kernel_rfl) (fun _ _ _ h => h) (Or.inl ⟨by rfl, ?_⟩) hHeld ?_
    · intro w' k1; go_simp
    try simp only [Act.put, List.setIfInBounds_toArray, List.set_cons_zero, List.set_cons_succ]
    refine wpAnyH_take (i := 8) (v := .slice (some ⟨G, 0, none⟩) N cp1) rfl (by kernel_rfl) (by kernel_rfl) (by kernel_rfl) (fun _ _ _ h => h) (Or.inl ⟨by rfl, ?_⟩) hHeld ?_
    · intro w' k1; go_simp
    try simp only [Act.put, List.setIfInBounds_toArray, List.set_cons_zero, List.set_cons_succ]
    refine wpAnyH_take (i := 9) (v := .int .i64 k) rfl (by kernel_rfl) (by kernel_rfl) (by kernel_rfl) (fun _ _ _ h => h) (Or.inl ⟨by rfl, ?_⟩) hHeld ?_
    · intro w' k1; go_simp
    try simp only [Act.put, List.setIfInBounds_toArray, List.set_cons_zero, List.set_cons_succ]
    refine wpAnyH_take (i := 10) (v := .pointer (some ⟨G, k, none⟩)) rfl (by kernel_rfl) (by kernel_rfl) (by kernel_rfl) (fun _ _ _ h => h) (Or.inl ⟨by rfl, ?_⟩) hHeld ?_
    · intro w' k1; go_simp
    try simp only [Act.put, List.setIfInBounds_toArray, List.set_cons_zero, List.set_cons_succ]
    refine wpAnyH_take (i := 12) (v := .int .i64 y) rfl (by kernel_rfl) (by kernel_rfl) (by kernel_rfl) (fun _ _ _ h => h) (Or.inl ⟨by rfl, ?_⟩) hHeld ?_
    · intro w' k1; go_simp
    try simp only [Act.put, List.setIfInBounds_toArray, List.set_cons_zero, List.set_cons_succ]
    refine wpAnyH_ready (rs := [11, 13]) (by kernel_rfl) (by simp) ?_
    refine AllReadyH.cons (o := _) rfl (fun K hK => ?_) (AllReadyH.cons (o := _) rfl (fun K hK => ?_) AllReadyH.nil)
    go_simp
    refine hK.out _ _ c1 (fun hHeld => ?_)
    clear hK K
    try simp only [Act.put, List.setIfInBounds_toArray, List.set_cons_zero, List.set_cons_succ]
    refine wpAnyH_ready (rs := [13]) (by kernel_rfl) (by simp) ?_
    refine AllReadyH.cons (o := _) rfl (fun K hK => ?_) AllReadyH.nil
    go_simp
    refine hK.out _ _ FQ.out.1 (fun hHeld => ?_)
    clear hK K
    try simp only [Act.put, List.setIfInBounds_toArray, List.set_cons_zero, List.set_cons_succ]
    rotate_left
    go_simp
    refine hK.out _ _ FQ.out.1 (fun hHeld => ?_)
    clear hK K
    try simp only [Act.put, List.setIfInBounds_toArray, List.set_cons_zero, List.set_cons_succ]
    refine wpAnyH_ready (rs := [11]) (by kernel_rfl) (by simp) ?_
    refine AllReadyH.cons (o := _) rfl (fun K hK => ?_) AllReadyH.nil
    go_simp
    refine hK.out _ _ FQ.out.1 (fun hHeld => ?_)
    clear hK K
    try simp only [Act.put, List.setIfInBounds_toArray, List.set_cons_zero, List.set_cons_succ]
    all_goals
      refine wpAnyH_ready (rs := [14]) (by kernel_rfl) (by simp) ?_
      refine AllReadyH.cons (o := _) rfl (fun K hK => ?_) AllReadyH.nil
      refine step_append_lies _ (by rfl) _ _ _ (by rfl) B 151 i1 _ 1 8 Tryz.underlying150 hi1 hy0 hy1 hy2 rfl (by omega) (.slice ax m cp) m _ (by rfl) ((HROW.out.alloc _).drew) ⟨wi.heap.size, 0, none⟩ 1 1 [.int .i64 y] (by rfl) (by rfl) (World.news_of_block (cs := #[.int .i64 y]) (t := 151) (fr := (0, 0)) (heap_alloc_new wi _)) (by simp [Value.oneCell']) (by omega) (by unfold maxLen; omega) (by omega) (by simp; omega) (wi.heap.size + 1) (by simp) ?_
      intro g c6 w6 hown hgr hat hlt6
      have k6 := (hgr.cell_far ⟨r, 1, none⟩ FQ.out.2.1 FQ.out.2.2).trans FQ.out.1
      have j6 := (hgr.cell_far ⟨G, k, none⟩ FG.out.2.2.1 FG.out.2.2.2).trans FG.out.1
      have f6 := (hgr.frozen_far ⟨G, k, none⟩ FG.out.2.2.1 FG.out.2.2.2).trans FG.out.2.1
      refine hK.out _ _ k6 (fun hHeld => ?_)
      clear hK K
      try simp only [Act.put, List.setIfInBounds_toArray, List.set_cons_zero, List.set_cons_succ]
      refine wpAnyH_take (i := 15) (v := .pointer (some ⟨G, k, none⟩)) rfl (by kernel_rfl) (by kernel_rfl) (by kernel_rfl) (fun _ _ _ h => h) (Or.inl ⟨by rfl, ?_⟩) hHeld ?_
      · intro w' k1; go_simp
      try simp only [Act.put, List.setIfInBounds_toArray, List.set_cons_zero, List.set_cons_succ]
      refine wpAnyH_ready (rs := [16]) (by kernel_rfl) (by simp) ?_
      refine AllReadyH.cons (o := _) rfl (fun K hK => ?_) AllReadyH.nil
      go_simp
      refine hK.out _ _ (K3.out _ _ k6) (fun hHeld => ?_)
      clear hK K
      try simp only [Act.put, List.setIfInBounds_toArray, List.set_cons_zero, List.set_cons_succ]
      refine wpAnyH_done (by kernel_rfl) ?_ _
    all_goals
        have hgr2 : wi.grownBy w6 (Value.slice ax m cp).ownBlock := grown_comp (World.grownBy_alloc wi _ _) (grown_comp (grownBy_drewN _ 1 _) hgr)
        have hpush := HW.out.setRow (u' := .slice (some ⟨g, 0, none⟩) (m + 1) c6) (w' := w6) (nrow := l ++ [y]) (by decide) (by decide) (by decide) HV2.out HU.out (by rw [encP_flat, List.map_append, List.length_append, List.length_singleton, HMM.out]; exact hown) (by rw [HAX.out]; exact hgr2) (by
          rw [HAX.out]
          intro b hb
          simp only [Value.ownBlock, Option.some.injEq] at hb
          subst hb
          rcases hat with e | e
          · exact .inl e
          · exact .inr (by omega))
        have hbl := (HBW.out.grown hgr2 hBs2 (fun b e => (HROW.out.lt b e).1)).setCell (p := ⟨G, k, none⟩) hGB (.slice (some ⟨g, 0, none⟩) (m + 1) c6)
        rw [← HLL.out] at hpush
        have HPU := Lib.hid hpush
        have HBL := Lib.hid hbl
        clear hpush hbl hgr2 hgr hown hat hlt6 k6 j6 f6
        go_wp2_with fail
        go_end0
        exact ⟨rfl, _, _, HFIN.out _ _ HPU.out, HBL.out⟩
end Go.Proofs.YtjcbpnffmebihaaGreatDoor
