import Derived.Test.YthmlgicjedhgfabRows
import Derived.WalkKit
import Derived.LoopTactic
import Derived.Outline
import Derived.WalkSpells
import Derived.WalkLawsBesides
import Derived.ProofKit
import Derived.Lib.Hide
import Derived.IntWalk
import Derived.StillTailTactics
import Derived.Deep.QuietTactic
import Derived.Deep.RegionHeld3
import Derived.Deep.AppendLies
import Derived.Deep.RegionLaw
import Derived.BigQuiet
import Derived.RegionTactic
import Derived.BigRegion
import Derived.Test.YthmlgicjedhgfabM0
import Derived.Test.YthmlgicjedhgfabM1
import Derived.Test.YthmlgicjedhgfabM2
import Derived.Test.YthmlgicjedhgfabM6
import Derived.Test.YthmlgicjedhgfabM13
import Derived.Test.YthmlgicjedhgfabM8
namespace Go.Proofs.Ythmlgicjedhgfab
open Go.RowKit Go.WideShapes

/-- the turns' block is the one that it was, or a new one -/
def SameOrNew (w : World) (v v' : Value) : Prop := v'.ownBlock = v.ownBlock ∨ ∀ b, v'.ownBlock = some b → w.heap.size ≤ b
def PutPost (w : World) (D : PD) (shop : List (List (List Int))) (v : Value) (l : List Nat) (e : Ending) (w' : World) : Prop :=
  e = .returned (.tuple #[]) ∧ ∃ v', PlanAt w' D shop v' l ∧ PFr D v w w' ∧ SameOrNew w v v'
set_option maxRecDepth 100000 in
set_option maxHeartbeats 1000000 in
theorem put_any {w : World} {D : PD} {shop : List (List (List Int))} {v : Value} {l : List Nat} (h : PlanAt w D shop v l) (hv : shopM shop = true) {j : Nat} (hj : j < shop.length) (hk : l.count j < slen shop j) :
    Calls Try.prog 42 #[.pointer (some ⟨D.P, 0, none⟩), D.ptr (some (j, l.count j))] w (PutPost w D shop v (l ++ [j])) := by
  have HL9 := Lib.hid (h.len hv)
  obtain ⟨⟨bg, on, hm, hbg, hon⟩, hown, htop, hjobs, hcnt⟩ := h
  have hM := smach_lt hv j (l.count j)
  have hl3 := (shop_get hv).1
  have HV := Lib.hid hv
  have HBG := Lib.hid hbg
  have HON := Lib.hid hon
  have HOWN := Lib.hid hown
  have HTOP := Lib.hid htop
  have HJOBS := Lib.hid hjobs
  have HCNT := Lib.hid hcnt
  have HFR0 := Lib.hid (PFr.refl D v w)
  clear hv hbg hon hown htop hjobs hcnt
  obtain ⟨k, hkk⟩ : ∃ k, l.count j = k := ⟨_, rfl⟩
  obtain ⟨M, hMM⟩ : ∃ M, smach shop j k = M := ⟨_, rfl⟩
  obtain ⟨u, hu⟩ : ∃ u, D.addr (lastL (smach shop) l M) = u := ⟨_, rfl⟩
  obtain ⟨u1, hu1⟩ : ∃ u, D.addr (prevO j k) = u := ⟨_, rfl⟩
  obtain ⟨u2, hu2⟩ : ∃ u, D.addr (on j k) = u := ⟨_, rfl⟩
  obtain ⟨q, hq⟩ : ∃ q, D.Q j k = q := ⟨_, rfl⟩
  obtain ⟨P, hP⟩ : ∃ P, D.P = P := ⟨_, rfl⟩
  rw [hkk] at hk hM
  rw [hMM] at hM
  obtain ⟨c0, c1, c2, c3, c4, c5⟩ := hm.stepCells hj hk
  have cm := hm.lastCell hM
  have fq := hm.frozen.2.2 j k hj hk
  have HM0 := Lib.hid hm
  clear hm
  rw [hq] at c0 c1 c2 c3 c4 c5 fq
  rw [hMM] at c1
  unfold PD.ptr at c4 c5 cm
  rw [hP, hu] at cm
  rw [hu1] at c4
  rw [hu2] at c5
  show Calls Try.prog 42 #[.pointer (some ⟨D.P, 0, none⟩), .pointer (some ⟨D.Q j (l.count j), 0, none⟩)] w _
  rw [hkk, hq, hP]
  have HKK := Lib.hid hkk
  have HMM := Lib.hid hMM
  have HU := Lib.hid hu
  have HQ := Lib.hid hq
  have HP := Lib.hid hP
  clear hkk hMM hu hq hP
  have hM2 : (M : Int) < 3 := by omega
  have HQR := Lib.hid (show D.B ≤ q ∧ q < D.top by rw [← HQ.out]; exact HM0.out.ok.step j k hj hk)
  -- when the step begins
  have so1 := stepOk_prev (D := D) HV.out HBG.out HL9.out HJOBS.out HCNT.out j
  have so2 := stepOk_last (D := D) HV.out HBG.out HL9.out HJOBS.out HCNT.out M
  rw [HKK.out] at so1
  have hbe := begin_ends HBG.out j
  rw [HKK.out, HMM.out] at hbe
  have HSO1 := Lib.hid so1
  have HSO2 := Lib.hid so2
  obtain ⟨x1, hx1⟩ : ∃ x, endV (stime shop) bg (prevO j k) = x := ⟨_, rfl⟩
  obtain ⟨x2, hx2⟩ : ∃ x, endV (stime shop) bg (lastL (smach shop) l M) = x := ⟨_, rfl⟩
  obtain ⟨t, ht⟩ : ∃ t, beginS (smach shop) (runS (smach shop) (stime shop) shop0 l) j = t := ⟨_, rfl⟩
  have hb1 := endV_bd HV.out so1
  have hb2 := endV_bd HV.out so2
  rw [hx1] at hb1
  rw [hx2] at hb2
  rw [hx1, hx2, ht] at hbe
  have hmx : (if x1 < x2 then x2 else x1) = t := by rw [← hbe]; split <;> omega
  have HX1 := Lib.hid hx1
  have HX2 := Lib.hid hx2
  have HT := Lib.hid ht
  have HU1 := Lib.hid hu1
  clear so1 so2 hbe hx1 hx2 ht hu1 hu2
  go_enter Try.func42, Try.ntmps42
  go_wp2_with fail
  go_still_tail 12, (by kernel_rfl)
  go_wp2_with fail
  have hm1 : PlanW (w.setCell ⟨q, 5, none⟩ (.pointer u)).drew D shop (fun j => l.count j) (lastL (smach shop) l) v bg (set2 on j k (lastL (smach shop) l M)) := by
    have := (HM0.out.setOn hj hk (lastL (smach shop) l M)).drewN 1
    unfold PD.ptr at this
    rw [HQ.out, HU.out] at this
    exact this
  have hf1 : PFr D v w (w.setCell ⟨q, 5, none⟩ (.pointer u)).drew := (HFR0.out.set _ HQR.out).drew ⟨1, rfl⟩
  have ho1 : TurnsOwn (w.setCell ⟨q, 5, none⟩ (.pointer u)).drew D v l := (HOWN.out.set 5 (.pointer u) HQR.out.2).drewN 1
  obtain ⟨w1, hw1⟩ : ∃ w1, (w.setCell ⟨q, 5, none⟩ (.pointer u)).drew = w1 := ⟨_, rfl⟩
  rw [hw1] at hm1 hf1 ho1 ⊢
  clear hw1 HM0 HFR0 HOWN c0 c1 c2 c3 c4 c5 cm fq
  obtain ⟨c0, c1, c2, c3, c4, c5⟩ := hm1.stepCells hj hk
  have fq := hm1.frozen.2.2 j k hj hk
  unfold PD.ptr at c4 c5
  rw [HQ.out] at c0 c1 c2 c3 c4 c5 fq
  rw [HU1.out] at c4
  rw [set2_at, HU.out] at c5
  have hE1 : Calls Try.prog 50 #[.pointer u1] w1.drew fun e w' => e = .returned (.int .i64 x1) ∧ ∃ m, w' = w1.drew.drewN m := by
    have := stepEnd_any (hm1.drewN 1) HV.out _ HSO1.out
    unfold PD.ptr at this
    rw [HU1.out, HX1.out] at this
    exact this
  have hE2 : ∀ m, Calls Try.prog 50 #[.pointer u] (w1.drewN m) fun e w' => e = .returned (.int .i64 x2) ∧ ∃ m2, w' = (w1.drewN m).drewN m2 := fun m => by
    have := stepEnd_any (hm1.drewN m) HV.out _ HSO2.out
    unfold PD.ptr at this
    rw [HU.out, HX2.out] at this
    exact this
  have HE1 := Lib.hid hE1
  have HE2 := Lib.hid hE2
  have HM1 := Lib.hid hm1
  have HF1 := Lib.hid hf1
  have HO1 := Lib.hid ho1
  clear hE1 hE2 hm1 hf1 ho1
  have K3 := Lib.hid (fun (W : World) (h4 : W.cell? ⟨q, 4, none⟩ = some (.pointer u1)) (h5 : W.cell? ⟨q, 5, none⟩ = some (.pointer u)) (x : Value) => show (W.setCell ⟨q, 3, none⟩ x).cell? ⟨q, 4, none⟩ = some (.pointer u1) ∧ (W.setCell ⟨q, 3, none⟩ x).cell? ⟨q, 5, none⟩ = some (.pointer u) from
    ⟨(World.cell?_setCell_other W _ _ x (by simp)).trans h4, (World.cell?_setCell_other W _ _ x (by simp)).trans h5⟩)
  clear c0 c1 c2
  go_region_held3 (fun w' => w'.cell? ⟨q, 4, none⟩ = some (.pointer u1) ∧ w'.cell? ⟨q, 5, none⟩ = some (.pointer u)) (first | go_keep | exact k1 | exact k2 | exact K3.out _ c4 c5 _)
    (first
      | (go_at_call 50; refine (HE2.out (1 + m)).mono ?_; rintro e w' ⟨rfl, m2, rfl⟩; have k2 : ((w1.drewN (1 + m)).drewN m2).cell? ⟨q, 4, none⟩ = some (.pointer u1) ∧ ((w1.drewN (1 + m)).drewN m2).cell? ⟨q, 5, none⟩ = some (.pointer u) := ⟨c4, c5⟩)
      | (go_at_call 50; refine HE1.out.mono ?_; rintro e w' ⟨rfl, m, rfl⟩; have k1 : (w1.drew.drewN m).cell? ⟨q, 4, none⟩ = some (.pointer u1) ∧ (w1.drew.drewN m).cell? ⟨q, 5, none⟩ = some (.pointer u) := ⟨c4, c5⟩))
  obtain ⟨n1, hn1⟩ : ∃ n1, 1 + m + m2 = n1 := ⟨_, rfl⟩
  clear k1 k2 c3 c4 c5 fq HE1 HE2 K3
  have hm2 : PlanW ((w1.drewN (1 + m + m2)).setCell ⟨q, 3, none⟩ (.int .i64 t)) D shop (fun j => l.count j) (lastL (smach shop) l) v (set2 bg j k t) (set2 on j k (lastL (smach shop) l M)) := by
    have := (HM1.out.drewN (1 + m + m2)).setBegin hj hk t
    rw [HQ.out] at this
    exact this
  have hf2 := (HF1.out.drew (w2 := w1.drewN (1 + m + m2)) ⟨_, rfl⟩).set (i := 3) (.int .i64 t) HQR.out
  have ho2 := (HO1.out.drewN (1 + m + m2)).set 3 (.int .i64 t) HQR.out.2
  obtain ⟨w2, hw2⟩ : ∃ w2, (w1.drewN (1 + m + m2)).setCell ⟨q, 3, none⟩ (.int .i64 t) = w2 := ⟨_, rfl⟩
  rw [hw2] at hm2 hf2 ho2 ⊢
  clear hw2 HM1 HF1 HO1 hmx
  obtain ⟨c0, c1, _, _, _, _⟩ := hm2.stepCells hj hk
  have cm := hm2.lastCell hM
  have fP := hm2.frozen.1
  have HPR := Lib.hid (show D.B ≤ P ∧ P < D.top by rw [← HP.out]; exact hm2.ok.p)
  unfold PD.ptr at cm
  rw [HQ.out] at c0 c1
  rw [HMM.out] at c1
  rw [HP.out, HU.out] at cm
  rw [HP.out] at fP
  have HM2 := Lib.hid hm2
  have HF2 := Lib.hid hf2
  have HO2 := Lib.hid ho2
  clear hm2 hf2 ho2 c0
  -- it lies on its machine last
  go_wp2_with fail
  go_still_tail 9, (by kernel_rfl)
  go_wp2_with fail
  have hm3 : PlanW (w2.setCell ⟨P, 2 + M, none⟩ (.pointer (some ⟨q, 0, none⟩))).drew D shop (fun j => l.count j) (setN (lastL (smach shop) l) M (some (j, k))) v (set2 bg j k t) (set2 on j k (lastL (smach shop) l M)) := by
    have := (HM2.out.setLast hM (some (j, k))).drewN 1
    unfold PD.ptr at this
    rw [show D.addr (some (j, k)) = some ⟨D.Q j k, 0, none⟩ from rfl, HQ.out, HP.out] at this
    exact this
  have hf3 := (HF2.out.set (i := 2 + M) (.pointer (some ⟨q, 0, none⟩)) HPR.out).drew (w2 := (w2.setCell ⟨P, 2 + M, none⟩ (.pointer (some ⟨q, 0, none⟩))).drew) ⟨1, rfl⟩
  have ho3 : TurnsOwn (w2.setCell ⟨P, 2 + M, none⟩ (.pointer (some ⟨q, 0, none⟩))).drew D v l := (HO2.out.set (2 + M) (.pointer (some ⟨q, 0, none⟩)) HPR.out.2).drewN 1
  obtain ⟨w3, hw3⟩ : ∃ w3, (w2.setCell ⟨P, 2 + M, none⟩ (.pointer (some ⟨q, 0, none⟩))).drew = w3 := ⟨_, rfl⟩
  rw [hw3] at hm3 hf3 ho3 ⊢
  clear hw3 HM2 HF2 HO2 c1 cm fP
  obtain ⟨c0, _, _, _, _, _⟩ := hm3.stepCells hj hk
  obtain ⟨_, p1, _, _, _, _⟩ := hm3.cells
  have cx := hm3.nextCell hj
  have fX := hm3.frozen.2.1
  rw [HQ.out] at c0
  rw [HP.out] at p1
  obtain ⟨X, hX⟩ : ∃ X, D.X = X := ⟨_, rfl⟩
  obtain ⟨n, hn⟩ : ∃ n, shop.length = n := ⟨_, rfl⟩
  have HXR := Lib.hid (show D.B ≤ X ∧ X < D.top by rw [← hX]; exact hm3.ok.x)
  simp only [HKK.out] at cx
  rw [hX] at cx fX
  rw [hX, hn] at p1
  have hjn : j < n := by omega
  have hjn2 : (j : Int) < (n : Int) := by omega
  have hk3 : k < 3 := by have := slen_le HV.out j; omega
  have HX := Lib.hid hX
  have HN := Lib.hid hn
  have HM3 := Lib.hid hm3
  have HF3 := Lib.hid hf3
  have HO3 := Lib.hid ho3
  clear hm3 hf3 ho3 hX hn
  go_still_tail 12, (by kernel_rfl)
  go_wp2_with fail
  have hm4 : PlanW (w3.setCell ⟨X, j, none⟩ (.int .i64 ((k : Int) + 1))).drew D shop (fun i => (l ++ [j]).count i) (setN (lastL (smach shop) l) M (some (j, k))) v (set2 bg j k t) (set2 on j k (lastL (smach shop) l M)) := by
    have := (HM3.out.setNext j (k + 1)).drewN 1
    rw [HX.out] at this
    have e : setN (fun j => l.count j) j (k + 1) = fun i => (l ++ [j]).count i := by
      funext i
      rw [count_snoc]
      by_cases e : i = j
      · subst e; rw [setN_at, if_pos rfl, HKK.out]
      · rw [setN_ne _ _ e, if_neg e]
    rw [e] at this
    exact this
  have hf4 := (HF3.out.set (i := j) (.int .i64 ((k : Int) + 1)) HXR.out).drew (w2 := (w3.setCell ⟨X, j, none⟩ (.int .i64 ((k : Int) + 1))).drew) ⟨1, rfl⟩
  have ho4 : TurnsOwn (w3.setCell ⟨X, j, none⟩ (.int .i64 ((k : Int) + 1))).drew D v l := (HO3.out.set j (.int .i64 ((k : Int) + 1)) HXR.out.2).drewN 1
  obtain ⟨w4, hw4⟩ : ∃ w4, (w3.setCell ⟨X, j, none⟩ (.int .i64 ((k : Int) + 1))).drew = w4 := ⟨_, rfl⟩
  rw [hw4] at hm4 hf4 ho4 ⊢
  clear hw4 HM3 HF3 HO3 c0 p1 cx fX
  obtain ⟨c0, _, _, _, _, _⟩ := hm4.stepCells hj hk
  obtain ⟨_, _, _, _, _, p5⟩ := hm4.cells
  obtain ⟨ax, cp, rfl, hcp⟩ := own_slice ho4
  rw [HQ.out] at c0
  rw [HP.out] at p5
  have hsz4 := hf4.size
  have hP4 : P < w4.heap.size := by have := HPR.out; have := HTOP.out; omega
  have hq4 : q < w4.heap.size := by have := HQR.out; have := HTOP.out; omega
  have ht4 : D.top ≤ w4.heap.size := by have := HTOP.out; omega
  have HM4 := Lib.hid hm4
  have HF4 := Lib.hid hf4
  have HO4 := Lib.hid (show w4.ownsRow D.top 3 1 (.slice ax l.length cp) l.length ((l.map (fun x : Nat => (x : Int))).map (.int .i64)) from ho4)
  have HT4 := Lib.hid ht4
  have h9 := HL9.out
  obtain ⟨i0, hi0, hz0, hz1, hz2⟩ := info_parts Try.infoIntO
  clear hm4 hf4 ho4
  have PA : Hid ((w4.alloc (.cells #[.int .i64 (j : Int)] 3)).drew.cell? ⟨P, 5, none⟩ = some (.slice ax l.length cp) ∧ (w4.alloc (.cells #[.int .i64 (j : Int)] 3)).drew.frozen? ⟨P, 5, none⟩ = false ∧ P < (w4.alloc (.cells #[.int .i64 (j : Int)] 3)).drew.heap.size ∧ some P ≠ (Value.slice ax l.length cp).ownBlock) :=
    Lib.hid ⟨(World.cell?_of_block (w := w4) (Below.heap_alloc _ _ _ hP4)).trans p5, (World.frozen?_of_block (w := w4) (Below.heap_alloc _ _ _ hP4)).trans (by have := HM4.out.frozen.1 5; rw [HP.out] at this; exact this), by show P < (w4.alloc _).heap.size; simp; omega, fun e => by have := (HO4.out.lt P e.symm).1; have := HPR.out; omega⟩
  go_region_law ((refine step_append_lies _ (by rfl) _ _ _ (by rfl) D.top 3 i0 _ 1 8 Try.underlying24 hi0 hz0 hz1 hz2 rfl (by omega) (.slice ax l.length cp) l.length _ (by rfl) ((HO4.out.alloc _).drew) ⟨w4.heap.size, 0, none⟩ 1 1 [.int .i64 (j : Int)] (by rfl) (by rfl) (World.news_of_block (cs := #[.int .i64 (j : Int)]) (t := 3) (fr := (0, 0)) (heap_alloc_new w4 _)) (by simp [Value.oneCell']) (by omega) (by unfold maxLen; omega) (by omega) (by simp; omega) (w4.heap.size + 1) (by simp) ?_; intro g c6 w6 hown hgr hat hlt; have p6 := (hgr.cell_far ⟨P, 5, none⟩ PA.out.2.2.1 PA.out.2.2.2).trans PA.out.1; have f6 := (hgr.frozen_far ⟨P, 5, none⟩ PA.out.2.2.1 PA.out.2.2.2).trans PA.out.2.1))
  all_goals
    have hgr : w4.grownBy w6 (Value.slice ax l.length cp).ownBlock := grown_comp (World.grownBy_alloc w4 _ _) (grown_comp (grownBy_drewN _ 1 _) hgr)
    have hvb : ∀ b, (Value.slice ax l.length cp).ownBlock = some b → D.top ≤ b := fun b e => (HO4.out.lt b e).1
    have hm6 : PlanW w6 D shop (fun i => (l ++ [j]).count i) (setN (lastL (smach shop) l) M (some (j, k))) (.slice ax l.length cp) (set2 bg j k t) (set2 on j k (lastL (smach shop) l M)) :=
      HM4.out.to (fun b _ hb => hgr.block b (by have := HT4.out; omega) (fun e => by have := hvb b e.symm; omega))
    have hf6 := HF4.out.grown hgr
    have ho6 : TurnsOwn w6 D (.slice (some ⟨g, 0, none⟩) (l.length + 1) c6) (l ++ [j]) := by
      unfold TurnsOwn
      simpa using hown
    have hsn : SameOrNew w (.slice ax l.length cp) (.slice (some ⟨g, 0, none⟩) (l.length + 1) c6) := by
      rcases hat with e | e
      · exact .inl e.symm
      · refine .inr (fun b hb => ?_)
        have hs := HF4.out.size
        simp only [Value.ownBlock, Option.some.injEq] at hb
        omega
    have HM6 := Lib.hid hm6
    have HF6 := Lib.hid hf6
    have HO6 := Lib.hid ho6
    have HSN := Lib.hid hsn
    clear hown hat hvb hm6 hf6 ho6 hsn HM4 HF4 HO4
    go_end0
    refine ⟨rfl, _, ⟨⟨set2 bg j k t, set2 on j k (lastL (smach shop) l M), ?_, ?_, ?_⟩, HO6.out.set 5 _ HPR.out.2, ?_, ?_, ?_⟩, HF6.out.set _ HPR.out, HSN.out⟩
    · have := HM6.out.setTurns (.slice (some ⟨g, 0, none⟩) (l.length + 1) c6)
      rw [HP.out] at this
      rw [lastL_snoc, HKK.out, HMM.out]
      exact this
    · have := bgOk_snoc HBG.out j
      rw [HKK.out, HT.out] at this
      exact this
    · have := onOk_snoc HON.out j
      rw [HKK.out, HMM.out] at this
      exact this
    · have h1 := HF6.out.size
      have h2 := HTOP.out
      show D.top ≤ (w6.setCell _ _).heap.size
      rw [World.size_setCell]; omega
    · intro x hx
      rcases List.mem_append.1 hx with hx | hx
      · exact HJOBS.out x hx
      · simp only [List.mem_singleton] at hx; subst hx; exact hj
    · intro i
      rw [count_snoc]
      split
      · rename_i e; subst e; have := HKK.out; omega
      · exact HCNT.out i
end Go.Proofs.Ythmlgicjedhgfab
namespace Go.Proofs.Ythmlgicjedhgfab
open Go.RowKit Go.WideShapes

def mE1 (x : Int) : Int := if 0 < x then x else 0
def mE2 (x y : Int) : Int := if mE1 x < y then y else mE1 x
def mE3 (x y z : Int) : Int := if mE2 x y < z then z else mE2 x y
def mxE (x y z : Int) : Nat → Int
  | 0 => 0
  | 1 => mE1 x
  | 2 => mE2 x y
  | _ => mE3 x y z
theorem mxE_is {x y z : Int} : mxE x y z 3 = max (max (max 0 x) y) z := by
  have h1 : mE1 x = max 0 x := by unfold mE1; split <;> omega
  have h2 : mE2 x y = max (max 0 x) y := by unfold mE2; rw [h1]; split <;> omega
  show mE3 x y z = _
  unfold mE3
  rw [h2]; split <;> omega
set_option maxRecDepth 100000 in
set_option maxHeartbeats 4000000 in
theorem planEnd_any {w : World} {D : PD} {shop : List (List (List Int))} {v : Value} {l : List Nat} (h : PlanAt w D shop v l) (hv : shopM shop = true) :
    Calls Try.prog 34 #[.pointer (some ⟨D.P, 0, none⟩)] w (DrewPost w (.int .i64 (runS (smach shop) (stime shop) shop0 l).all)) := by
  have h9 := h.len hv
  obtain ⟨⟨bg, on, hm, hbg, hon⟩, hown, htop, hjobs, hcnt⟩ := h
  obtain ⟨_, _, c2, c3, c4, _⟩ := hm.cells
  have so := fun M => stepOk_last (D := D) hv hbg h9 hjobs hcnt M
  have HALL := Lib.hid (last_all (p := stime shop) (fun j k => (stime_bd hv j k).1) (smach_lt hv) l)
  have hE : ∀ M W, Drew w W → Calls Try.prog 50 #[.pointer (D.addr (lastL (smach shop) l M))] W fun e w' => e = .returned (.int .i64 (endV (stime shop) bg (lastL (smach shop) l M))) ∧ ∃ m, w' = W.drewN m := fun M W hd => stepEnd_any (hm.drew hd) hv _ (so M)
  have b0 := endV_bd hv (so 0)
  have b1 := endV_bd hv (so 1)
  have b2 := endV_bd hv (so 2)
  have HE0 := Lib.hid (hE 0)
  have HE1 := Lib.hid (hE 1)
  have HE2 := Lib.hid (hE 2)
  rw [← endV_cong hbg 0, ← endV_cong hbg 1, ← endV_cong hbg 2, ← mxE_is] at HALL
  unfold PD.ptr at c2 c3 c4
  clear hE so hm hown hbg hon hjobs hcnt htop
  generalize endV (stime shop) bg (lastL (smach shop) l 0) = x at *
  generalize endV (stime shop) bg (lastL (smach shop) l 1) = y at *
  generalize endV (stime shop) bg (lastL (smach shop) l 2) = z at *
  generalize D.addr (lastL (smach shop) l 0) = a0 at *
  generalize D.addr (lastL (smach shop) l 1) = a1 at *
  generalize D.addr (lastL (smach shop) l 2) = a2 at *
  generalize D.P = P at *
  rw [HALL.out]
  clear HALL
  have i0 : ∀ w, (Instr.index 61 (.agg #[.pointer a0, .pointer a1, .pointer a2]) (.int .i64 0)).run Try.prog w = .ok (.pointer a0) w := fun _ => by kernel_rfl
  have i1 : ∀ w, (Instr.index 61 (.agg #[.pointer a0, .pointer a1, .pointer a2]) (.int .i64 1)).run Try.prog w = .ok (.pointer a1) w := fun _ => by kernel_rfl
  have i2 : ∀ w, (Instr.index 61 (.agg #[.pointer a0, .pointer a1, .pointer a2]) (.int .i64 2)).run Try.prog w = .ok (.pointer a2) w := fun _ => by kernel_rfl
  go_enter Try.func34, Try.ntmps34
  go_wp2_with fail
  go_loopw [3, 10] (fun o i wr => ∃ k : Nat, k ≤ 3 ∧ i = .int .i64 k ∧ o = .int .i64 (mxE x y z k) ∧ Drew w wr) (fun _ i _ => 3 - (intOf i).toNat)
  case atStart => exact ⟨0, by omega, rfl, rfl, Drew.refl _⟩
  case round =>
    obtain ⟨k, hk, rfl, rfl, hd⟩ := hrel
    have HD := Lib.hid hd
    clear hd
    have : k = 0 ∨ k = 1 ∨ k = 2 ∨ k = 3 := by omega
    rcases this with rfl | rfl | rfl | rfl
    · have e1 : mxE x y z 0 = 0 := rfl
      have E2 := Lib.hid (show (if (0 : Int) < x then x else 0) = mxE x y z 1 from rfl)
      rw [e1]
      go_wp2_with fail
      refine (HE0.out _ HD.out).mono ?_
      rintro e w2 ⟨rfl, m, rfl⟩
      go_wp2_with fail
      go_roundw
      case rel => exact ⟨1, by omega, by go_num, by rw [← E2.out], HD.out.drew _⟩
      case measure => simp [intOf]
    · have E2 := Lib.hid (show (if mxE x y z 1 < y then y else mxE x y z 1) = mxE x y z 2 from rfl)
      generalize mxE x y z 1 = u at E2 ⊢
      go_wp2_with fail
      refine (HE1.out _ HD.out).mono ?_
      rintro e w2 ⟨rfl, m, rfl⟩
      go_wp2_with fail
      go_roundw
      case rel => exact ⟨2, by omega, by go_num, by rw [← E2.out], HD.out.drew _⟩
      case measure => simp [intOf]
    · have E2 := Lib.hid (show (if mxE x y z 2 < z then z else mxE x y z 2) = mxE x y z 3 from rfl)
      generalize mxE x y z 2 = u at E2 ⊢
      go_wp2_with fail
      refine (HE2.out _ HD.out).mono ?_
      rintro e w2 ⟨rfl, m, rfl⟩
      go_wp2_with fail
      go_roundw
      case rel => exact ⟨3, by omega, by go_num, by rw [← E2.out], HD.out.drew _⟩
      case measure => simp [intOf]
    · obtain ⟨u, hu⟩ : ∃ u, mxE x y z 3 = u := ⟨_, rfl⟩
      rw [hu]
      have HU := Lib.hid hu
      clear hu
      go_wp2_with fail
      go_ret
      exact ⟨by rw [HU.out]; rfl, HD.out⟩
-- the busiest job
theorem stime_pos {shop : List (List (List Int))} (hv : shopM shop = true) {j k : Nat} (hj : j < shop.length) (hk : k < slen shop j) : 1 ≤ stime shop j k := by
  unfold slen at hk
  unfold stime
  rw [List.getD_eq_getElem?_getD (l := shop), List.getElem?_eq_getElem hj] at hk ⊢
  rw [Option.getD_some] at hk ⊢
  rw [List.getD_eq_getElem?_getD (l := shop[j]), List.getElem?_eq_getElem hk, Option.getD_some]
  exact (((shop_get hv).2 shop[j] (List.getElem_mem hj)).2.2 shop[j][k] (List.getElem_mem hk)).2.2.1
theorem restTo_ge {p : Nat → Nat → Int} (hp : ∀ j k, 0 ≤ p j k ∧ p j k ≤ 9) (j k : Nat) : ∀ m : Nat, 0 < m → p j k ≤ restTo p j k m
  | 0, h => absurd h (by omega)
  | 1, _ => by show _ ≤ restTo p j k 0 + p j (k + 0); rw [restTo, Nat.add_zero]; omega
  | m + 2, _ => by rw [restTo]; have := restTo_ge hp j k (m + 1) (by omega); have := hp j (k + (m + 1)); omega
theorem restW_pos {shop : List (List (List Int))} (hv : shopM shop = true) {j k : Nat} (hj : j < shop.length) (hk : k < slen shop j) : 0 < restW shop j k := by
  have := restTo_ge (stime_bd hv) j k (slen shop j - k) (by omega)
  have h1 := stime_pos hv hj hk
  unfold restW; omega
theorem restW_none {shop : List (List (List Int))} {j k : Nat} (hk : slen shop j ≤ k) : restW shop j k = 0 := by
  unfold restW; rw [show slen shop j - k = 0 by omega]; rfl
def busyJ (shop : List (List (List Int))) (nx : Nat → Nat) (n : Nat) : Int := if atM shop nx n < 0 then 0 else atM shop nx n
def busyW (shop : List (List (List Int))) (nx : Nat → Nat) (n : Nat) : Int := if atM shop nx n < 0 then 0 else restW shop (atM shop nx n).toNat (nx (atM shop nx n).toNat)
theorem busyW_nn {shop : List (List (List Int))} (hv : shopM shop = true) (nx : Nat → Nat) (n : Nat) : 0 ≤ busyW shop nx n ∧ busyW shop nx n ≤ 27 := by
  unfold busyW
  split
  · omega
  · have := restTo_bd (stime_bd hv) (atM shop nx n).toNat (nx (atM shop nx n).toNat) (slen shop (atM shop nx n).toNat - nx (atM shop nx n).toNat)
    have := slen_le hv (atM shop nx n).toNat
    unfold restW; omega
theorem busy_step {shop : List (List (List Int))} (hv : shopM shop = true) {nx : Nat → Nat} {k : Nat} (hk : k < shop.length) :
    (busyW shop nx k < restW shop k (nx k) → busyJ shop nx (k + 1) = k ∧ busyW shop nx (k + 1) = restW shop k (nx k)) ∧
    (¬ busyW shop nx k < restW shop k (nx k) → busyJ shop nx (k + 1) = busyJ shop nx k ∧ busyW shop nx (k + 1) = busyW shop nx k) := by
  have hnn := (busyW_nn hv nx k).1
  have ha : atM shop nx (k + 1) = if nx k < slen shop k ∧ (atM shop nx k < 0 ∨ restW shop (atM shop nx k).toNat (nx (atM shop nx k).toNat) < restW shop k (nx k)) then (k : Int) else atM shop nx k := rfl
  by_cases hl : nx k < slen shop k
  · have hpos := restW_pos hv hk hl
    by_cases h0 : atM shop nx k < 0
    · rw [if_pos ⟨hl, .inl h0⟩] at ha
      have e0 : busyW shop nx k = 0 := if_pos h0
      refine ⟨fun _ => ?_, fun h => absurd (by rw [e0]; exact hpos) h⟩
      unfold busyJ busyW
      rw [ha, if_neg (by omega), if_neg (by omega)]
      exact ⟨rfl, by simp⟩
    · have e0 : busyW shop nx k = restW shop (atM shop nx k).toNat (nx (atM shop nx k).toNat) := if_neg h0
      refine ⟨fun h => ?_, fun h => ?_⟩
      · rw [e0] at h
        rw [if_pos ⟨hl, .inr h⟩] at ha
        unfold busyJ busyW
        rw [ha, if_neg (by omega), if_neg (by omega)]
        exact ⟨rfl, by simp⟩
      · rw [e0] at h
        rw [if_neg (fun hh => by rcases hh.2 with h1 | h1; exact h0 h1; exact h h1)] at ha
        unfold busyJ busyW
        rw [ha]
        exact ⟨rfl, rfl⟩
  · have e0 := restW_none (shop := shop) (j := k) (k := nx k) (by omega)
    rw [if_neg (fun hh => hl hh.1)] at ha
    refine ⟨fun h => by omega, fun _ => ?_⟩
    unfold busyJ busyW
    rw [ha]
    exact ⟨rfl, rfl⟩
section
variable {w : World} {D : PD} {shop : List (List (List Int))} {nx : Nat → Nat} {lp : Nat → Option (Nat × Nat)} {v : Value} {bg : Nat → Nat → Int} {on : Nat → Nat → Option (Nat × Nat)}
set_option maxRecDepth 100000 in
set_option maxHeartbeats 4000000 in
theorem busiest_any (h : PlanW w D shop nx lp v bg on) (hv : shopM shop = true) (hn : ∀ j, nx j ≤ slen shop j) :
    Calls Try.prog 44 #[.pointer (some ⟨D.P, 0, none⟩)] w (DrewPost w (.int .i64 (busyJ shop nx shop.length))) := by
  have hl3 := (shop_get hv).1
  obtain ⟨c0, _⟩ := h.cells
  have HN := Lib.hid hn
  have HV := Lib.hid hv
  have HH := Lib.hid h
  clear hn hv h
  go_enter Try.func44, Try.ntmps44
  go_wp2_with fail
  go_loopw [3, 4, 14] (fun b m i wr => ∃ k : Nat, k ≤ shop.length ∧ i = .int .i64 k ∧ b = .int .i64 (busyJ shop nx k) ∧ m = .int .i64 (busyW shop nx k) ∧ Drew w wr) (fun _ _ i _ => shop.length - (intOf i).toNat)
  case atStart => exact ⟨0, Nat.zero_le _, rfl, rfl, rfl, Drew.refl _⟩
  case round =>
    obtain ⟨k, hk, rfl, rfl, rfl, hd⟩ := hrel
    have HD := Lib.hid hd
    by_cases hkl : k < shop.length
    · have hw := HH.out.drew hd
      have HC := Lib.hid (left_any hw HV.out k hkl (HN.out k))
      have hstep := busy_step HV.out (nx := nx) hkl
      have hbw := busyW_nn HV.out nx k
      have HST := Lib.hid hstep
      have hs3 := slen_le HV.out k
      have hnk := HN.out k
      clear hd hw hstep
      obtain ⟨n, hnn⟩ : ∃ n, shop.length = n := ⟨_, rfl⟩
      obtain ⟨bj, hbj⟩ : ∃ b, busyJ shop nx k = b := ⟨_, rfl⟩
      obtain ⟨bw, hbw2⟩ : ∃ b, busyW shop nx k = b := ⟨_, rfl⟩
      rw [hbw2] at hbw
      have HBJ := Lib.hid hbj
      have HBW := Lib.hid hbw2
      have HNN := Lib.hid hnn
      rw [hnn] at hl3 hk hkl c0 ⊢
      rw [hbj, hbw2]
      clear hnn hbj hbw2
      go_wp2_with fail
      refine HC.out.mono ?_
      rintro e w2 ⟨a, c, rfl, ha, m0, rfl⟩
      have HA := Lib.hid ha
      clear ha
      have hss : slen shop k - nx k ≤ 3 := by omega
      obtain ⟨s, hs⟩ : ∃ s, slen shop k - nx k = s := ⟨_, rfl⟩
      have HS := Lib.hid hs
      rw [hs] at hss ⊢
      clear hs
      go_wp2_with fail
      go_loopw [6, 21] (fun o i wr => ∃ m : Nat, m ≤ s ∧ i = .int .i64 m ∧ o = .int .i64 (restTo (stime shop) k (nx k) m) ∧ Drew w wr) (fun _ i _ => s - (intOf i).toNat)
      case atStart => exact ⟨0, Nat.zero_le _, rfl, rfl, HD.out.drew _⟩
      case round =>
        obtain ⟨m, hm, rfl, rfl, hd⟩ := hrel
        have hrb := restTo_bd (stime_bd HV.out) k (nx k) m
        by_cases hml : m < s
        · have hlt : nx k + m < slen shop k := by have := HS.out; omega
          have hkl' : k < shop.length := by have := HNN.out; omega
          have hw := HH.out.drew hd
          have hr := hw.rowCell hkl' hlt
          obtain ⟨_, _, q2, _, _, _⟩ := hw.stepCells hkl' hlt
          have ht := stime_bd HV.out k (nx k + m)
          have HRT := Lib.hid (show restTo (stime shop) k (nx k) (m + 1) = restTo (stime shop) k (nx k) m + stime shop k (nx k + m) from rfl)
          have ha := HA.out (by omega)
          subst ha
          have HD2 := Lib.hid hd
          clear hw hd
          generalize restTo (stime shop) k (nx k) m = rr at hrb HRT ⊢
          generalize stime shop k (nx k + m) = tt at ht q2 HRT
          generalize D.Q k (nx k + m) = q at hr q2
          go_wp2_with fail
          go_roundw
          case rel => exact ⟨m + 1, by omega, by go_num, by rw [HRT.out], HD2.out⟩
          case measure => simp [intOf]; omega
        · obtain rfl : m = s := by omega
          have HD2 := Lib.hid hd
          have HRW := Lib.hid (show restTo (stime shop) k (nx k) m = restW shop k (nx k) by unfold restW; rw [HS.out])
          rw [HRW.out] at hrb ⊢
          have hstep := HST.out
          rw [HBW.out, HBJ.out] at hstep
          have HST2 := Lib.hid hstep
          clear hd hstep
          generalize restW shop k (nx k) = rw7 at hrb HST2 ⊢
          by_cases hlt : bw < rw7
          · go_wp2_with fail
            go_roundw
            case rel => exact ⟨k + 1, by omega, by go_num, by rw [(HST2.out.1 hlt).1], by rw [(HST2.out.1 hlt).2], HD2.out⟩
            case measure => simp [intOf]; omega
          · go_wp2_with fail
            go_roundw
            case rel => exact ⟨k + 1, by omega, by go_num, by rw [(HST2.out.2 (by omega)).1], by rw [(HST2.out.2 (by omega)).2], HD2.out⟩
            case measure => simp [intOf]; omega
    · obtain rfl : k = shop.length := by omega
      clear hd
      obtain ⟨bj, hbj⟩ : ∃ b, busyJ shop nx shop.length = b := ⟨_, rfl⟩
      rw [hbj]
      have HBJ := Lib.hid hbj
      clear hbj
      go_wp2_with fail
      go_ret
      exact ⟨by rw [HBJ.out]; rfl, HD.out⟩
end
end Go.Proofs.Ythmlgicjedhgfab
