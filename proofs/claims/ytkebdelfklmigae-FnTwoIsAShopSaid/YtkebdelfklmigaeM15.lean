import Derived.Test.YtkebdelfklmigaeRows
import Derived.WalkKit
import Derived.LoopTactic
import Derived.Outline
import Derived.WalkSpells
import Derived.WalkLawsBesides
import Derived.ProofKit
import Derived.Lib.Hide
import Derived.IntWalk
import Derived.Test.YtkebdelfklmigaeM0
import Derived.Test.YtkebdelfklmigaeM12
import Derived.Test.YtkebdelfklmigaeM14
import Derived.StillTailTactics
import Derived.Deep.QuietTactic
import Derived.Deep.RegionHeld3
import Derived.Deep.AppendLies
import Derived.Deep.RegionLaw
import Derived.BigQuiet
import Derived.RegionTactic
import Derived.BigRegion
import Derived.Test.YtkebdelfklmigaeM1
import Derived.Test.YtkebdelfklmigaeM2
import Derived.Defers
namespace Go.Proofs.Ytkebdelfklmigae
open Go.RowKit Go.WideShapes

def nextO (nx : Nat → Nat) (shop : List (List (List Int))) (j : Nat) : Option (Nat × Nat) := if nx j < slen shop j then some (j, nx j) else none
/-- v, and nothing but draws -/
def DrewPost (w : World) (v : Value) (e : Ending) (w' : World) : Prop := e = .returned v ∧ Drew w w'
section
variable {w : World} {D : PD} {shop : List (List (List Int))} {nx : Nat → Nat} {lp : Nat → Option (Nat × Nat)} {v : Value} {bg : Nat → Nat → Int} {on : Nat → Nat → Option (Nat × Nat)}
set_option maxRecDepth 100000 in
set_option maxHeartbeats 4000000 in
theorem nextStep_any (h : PlanW w D shop nx lp v bg on) (hv : shopM shop = true) (j : Nat) (hj : j < shop.length) (hn : nx j ≤ slen shop j) :
    Calls Try.prog 72 #[.pointer (some ⟨D.P, 0, none⟩), .int .i64 j] w (DrewPost w (D.ptr (nextO nx shop j))) := by
  have hsl := slen_le hv j
  have HC := Lib.hid (left_any h hv j hj hn)
  by_cases hx : nx j < slen shop j
  · have hr := fun m => (h.drewN m).rowCell hj hx
    rw [show D.ptr (nextO nx shop j) = .pointer (some ⟨D.Q j (nx j), 0, none⟩) by unfold nextO; rw [if_pos hx]; rfl]
    have hs0 : ¬ ((slen shop j - nx j : Nat) : Int) = 0 := by omega
    have hs1 : (0 : Nat) < slen shop j - nx j := by omega
    have hs2 : (0 : Int) < ((slen shop j - nx j : Nat) : Int) := by omega
    go_enter Try.func72, Try.ntmps72
    go_wp2_with fail
    refine HC.out.mono ?_
    rintro e w1 ⟨a, c, rfl, ha, m, rfl⟩
    have hr := hr m
    rw [ha hx]
    clear ha HC h
    generalize slen shop j - nx j = s at *
    generalize D.Q j (nx j) = q at *
    generalize nx j = x at *
    generalize D.R j = R at *
    go_wp2_with fail
    go_ret
    exact ⟨rfl, m, rfl⟩
  · rw [show D.ptr (nextO nx shop j) = .pointer none by unfold nextO; rw [if_neg hx]; rfl]
    go_enter Try.func72, Try.ntmps72
    go_wp2_with fail
    refine HC.out.mono ?_
    rintro e w1 ⟨a, c, rfl, ha, m, rfl⟩
    rw [show slen shop j - nx j = 0 by omega]
    go_wp2_with fail
    go_ret
    exact ⟨rfl, m, rfl⟩
def doneP (shop : List (List (List Int))) (nx : Nat → Nat) : Bool := (List.range shop.length).all fun j => decide (slen shop j ≤ nx j)
set_option maxRecDepth 100000 in
set_option maxHeartbeats 4000000 in
theorem isDone_any (h : PlanW w D shop nx lp v bg on) (hv : shopM shop = true) (hn : ∀ j, nx j ≤ slen shop j) :
    Calls Try.prog 69 #[.pointer (some ⟨D.P, 0, none⟩)] w (DrewPost w (.bool (doneP shop nx))) := by
  have hl3 := (shop_get hv).1
  obtain ⟨c0, _⟩ := h.cells
  have HN := Lib.hid hn
  have HS : Hid (∃ n, n = shop.length) := Lib.hid ⟨_, rfl⟩
  clear hn
  go_enter Try.func69, Try.ntmps69
  go_wp2_with fail
  go_loopw [9] (fun i wr => ∃ k : Nat, k ≤ shop.length ∧ i = .int .i64 k ∧ Drew w wr ∧ ∀ j, j < k → slen shop j ≤ nx j) (fun i _ => shop.length - (intOf i).toNat)
  case atStart => exact ⟨0, Nat.zero_le _, rfl, Drew.refl _, fun j hj => absurd hj (Nat.not_lt_zero _)⟩
  case round =>
    obtain ⟨k, hk, rfl, hd, hall⟩ := hrel
    have HD := Lib.hid hd
    have HA := Lib.hid hall
    clear hall
    by_cases hkl : k < shop.length
    · have hw := h.drew hd
      have HC := Lib.hid (nextStep_any hw hv k hkl (HN.out k))
      clear hd hw
      by_cases hx : nx k < slen shop k
      · have e1 : nextO nx shop k = some (k, nx k) := if_pos hx
        rw [e1] at HC
        have HF := Lib.hid (show doneP shop nx = false by unfold doneP; rw [List.all_eq_false]; exact ⟨k, List.mem_range.2 hkl, by simp; omega⟩)
        generalize hnn : shop.length = n at *
        go_wp2_with fail
        refine HC.out.mono ?_
        rintro e w2 ⟨rfl, hd2⟩
        unfold PD.ptr
        dsimp only
        go_wp2_with fail
        go_ret
        rw [HF.out]
        obtain ⟨q, rfl⟩ := hd2
        exact ⟨rfl, HD.out.drew q⟩
      · have e1 : nextO nx shop k = none := if_neg hx
        rw [e1] at HC
        generalize hnn : shop.length = n at *
        go_wp2_with fail
        refine HC.out.mono ?_
        rintro e w2 ⟨rfl, hd2⟩
        unfold PD.ptr
        dsimp only
        go_wp2_with fail
        go_roundw
        case rel =>
          obtain ⟨q, rfl⟩ := hd2
          exact ⟨k + 1, by omega, by go_num, HD.out.drew q, fun j hj => by
            by_cases e : j = k
            · subst e; omega
            · exact HA.out j (by omega)⟩
        case measure => simp [intOf]; omega
    · have HF := Lib.hid (show doneP shop nx = true by unfold doneP; rw [List.all_eq_true]; exact fun j hj => decide_eq_true (HA.out j (by have := List.mem_range.1 hj; omega)))
      generalize hnn : shop.length = n at *
      go_wp2_with fail
      go_ret
      rw [HF.out]
      exact ⟨rfl, HD.out⟩
end
end Go.Proofs.Ytkebdelfklmigae
namespace Go.Proofs.Ytkebdelfklmigae
open Go.RowKit Go.WideShapes

/-- the turns' block is the one that it was, or a new one -/
def SameOrNew (w : World) (v v' : Value) : Prop := v'.ownBlock = v.ownBlock ∨ ∀ b, v'.ownBlock = some b → w.heap.size ≤ b
def PutPost (w : World) (D : PD) (shop : List (List (List Int))) (v : Value) (l : List Nat) (e : Ending) (w' : World) : Prop :=
  e = .returned (.tuple #[]) ∧ ∃ v', PlanAt w' D shop v' l ∧ PFr D v w w' ∧ SameOrNew w v v'
set_option maxRecDepth 100000 in
set_option maxHeartbeats 1000000 in
theorem put_any {w : World} {D : PD} {shop : List (List (List Int))} {v : Value} {l : List Nat} (h : PlanAt w D shop v l) (hv : shopM shop = true) {j : Nat} (hj : j < shop.length) (hk : l.count j < slen shop j) :
    Calls Try.prog 81 #[.pointer (some ⟨D.P, 0, none⟩), D.ptr (some (j, l.count j))] w (PutPost w D shop v (l ++ [j])) := by
  have HL9 := Lib.hid (h.len hv)
  obtain ⟨⟨bg, on, hm, hbg, hon⟩, hown, htop, hjobs, hcnt⟩ := h
  have hM := smach_lt hv j (l.count j)
  have hl3 := (shop_get hv).1
  have HV := Lib.hid hv
  have HBG := Lib.hid hbg
  have HON := Lib.hid hon
  have HOWN := Lib.hid hown
  have HTOP := Lib.hid htop
  have HJOBS := Lib.hid hjobs
  have HCNT := Lib.hid hcnt
  have HFR0 := Lib.hid (PFr.refl D v w)
  clear hv hbg hon hown htop hjobs hcnt
  obtain ⟨k, hkk⟩ : ∃ k, l.count j = k := ⟨_, rfl⟩
  obtain ⟨M, hMM⟩ : ∃ M, smach shop j k = M := ⟨_, rfl⟩
  obtain ⟨u, hu⟩ : ∃ u, D.addr (lastL (smach shop) l M) = u := ⟨_, rfl⟩
  obtain ⟨u1, hu1⟩ : ∃ u, D.addr (prevO j k) = u := ⟨_, rfl⟩
  obtain ⟨u2, hu2⟩ : ∃ u, D.addr (on j k) = u := ⟨_, rfl⟩
  obtain ⟨q, hq⟩ : ∃ q, D.Q j k = q := ⟨_, rfl⟩
  obtain ⟨P, hP⟩ : ∃ P, D.P = P := ⟨_, rfl⟩
  rw [hkk] at hk hM
  rw [hMM] at hM
  obtain ⟨c0, c1, c2, c3, c4, c5⟩ := hm.stepCells hj hk
  have cm := hm.lastCell hM
  have fq := hm.frozen.2.2 j k hj hk
  have HM0 := Lib.hid hm
  clear hm
  rw [hq] at c0 c1 c2 c3 c4 c5 fq
  rw [hMM] at c1
  unfold PD.ptr at c4 c5 cm
  rw [hP, hu] at cm
  rw [hu1] at c4
  rw [hu2] at c5
  show Calls Try.prog 81 #[.pointer (some ⟨D.P, 0, none⟩), .pointer (some ⟨D.Q j (l.count j), 0, none⟩)] w _
  rw [hkk, hq, hP]
  have HKK := Lib.hid hkk
  have HMM := Lib.hid hMM
  have HU := Lib.hid hu
  have HQ := Lib.hid hq
  have HP := Lib.hid hP
  clear hkk hMM hu hq hP
  have hM2 : (M : Int) < 3 := by omega
  have HQR := Lib.hid (show D.B ≤ q ∧ q < D.top by rw [← HQ.out]; exact HM0.out.ok.step j k hj hk)
  -- when the step begins
  have so1 := stepOk_prev (D := D) HV.out HBG.out HL9.out HJOBS.out HCNT.out j
  have so2 := stepOk_last (D := D) HV.out HBG.out HL9.out HJOBS.out HCNT.out M
  rw [HKK.out] at so1
  have hbe := begin_ends HBG.out j
  rw [HKK.out, HMM.out] at hbe
  have HSO1 := Lib.hid so1
  have HSO2 := Lib.hid so2
  obtain ⟨x1, hx1⟩ : ∃ x, endV (stime shop) bg (prevO j k) = x := ⟨_, rfl⟩
  obtain ⟨x2, hx2⟩ : ∃ x, endV (stime shop) bg (lastL (smach shop) l M) = x := ⟨_, rfl⟩
  obtain ⟨t, ht⟩ : ∃ t, beginS (smach shop) (runS (smach shop) (stime shop) shop0 l) j = t := ⟨_, rfl⟩
  have hb1 := endV_bd HV.out so1
  have hb2 := endV_bd HV.out so2
  rw [hx1] at hb1
  rw [hx2] at hb2
  rw [hx1, hx2, ht] at hbe
  have hmx : (if x1 < x2 then x2 else x1) = t := by rw [← hbe]; split <;> omega
  have HX1 := Lib.hid hx1
  have HX2 := Lib.hid hx2
  have HT := Lib.hid ht
  have HU1 := Lib.hid hu1
  clear so1 so2 hbe hx1 hx2 ht hu1 hu2
  go_enter Try.func81, Try.ntmps81
  go_wp2_with fail
  go_still_tail 12, (by kernel_rfl)
  go_wp2_with fail
  have hm1 : PlanW (w.setCell ⟨q, 5, none⟩ (.pointer u)).drew D shop (fun j => l.count j) (lastL (smach shop) l) v bg (set2 on j k (lastL (smach shop) l M)) := by
    have := (HM0.out.setOn hj hk (lastL (smach shop) l M)).drewN 1
    unfold PD.ptr at this
    rw [HQ.out, HU.out] at this
    exact this
  have hf1 : PFr D v w (w.setCell ⟨q, 5, none⟩ (.pointer u)).drew := (HFR0.out.set _ HQR.out).drew ⟨1, rfl⟩
  have ho1 : TurnsOwn (w.setCell ⟨q, 5, none⟩ (.pointer u)).drew D v l := (HOWN.out.set 5 (.pointer u) HQR.out.2).drewN 1
  obtain ⟨w1, hw1⟩ : ∃ w1, (w.setCell ⟨q, 5, none⟩ (.pointer u)).drew = w1 := ⟨_, rfl⟩
  rw [hw1] at hm1 hf1 ho1 ⊢
  clear hw1 HM0 HFR0 HOWN c0 c1 c2 c3 c4 c5 cm fq
  obtain ⟨c0, c1, c2, c3, c4, c5⟩ := hm1.stepCells hj hk
  have fq := hm1.frozen.2.2 j k hj hk
  unfold PD.ptr at c4 c5
  rw [HQ.out] at c0 c1 c2 c3 c4 c5 fq
  rw [HU1.out] at c4
  rw [set2_at, HU.out] at c5
  have hE1 : Calls Try.prog 79 #[.pointer u1] w1.drew fun e w' => e = .returned (.int .i64 x1) ∧ ∃ m, w' = w1.drew.drewN m := by
    have := stepEnd_any (hm1.drewN 1) HV.out _ HSO1.out
    unfold PD.ptr at this
    rw [HU1.out, HX1.out] at this
    exact this
  have hE2 : ∀ m, Calls Try.prog 79 #[.pointer u] (w1.drewN m) fun e w' => e = .returned (.int .i64 x2) ∧ ∃ m2, w' = (w1.drewN m).drewN m2 := fun m => by
    have := stepEnd_any (hm1.drewN m) HV.out _ HSO2.out
    unfold PD.ptr at this
    rw [HU.out, HX2.out] at this
    exact this
  have HE1 := Lib.hid hE1
  have HE2 := Lib.hid hE2
  have HM1 := Lib.hid hm1
  have HF1 := Lib.hid hf1
  have HO1 := Lib.hid ho1
  clear hE1 hE2 hm1 hf1 ho1
  have K3 := Lib.hid (fun (W : World) (h4 : W.cell? ⟨q, 4, none⟩ = some (.pointer u1)) (h5 : W.cell? ⟨q, 5, none⟩ = some (.pointer u)) (x : Value) => show (W.setCell ⟨q, 3, none⟩ x).cell? ⟨q, 4, none⟩ = some (.pointer u1) ∧ (W.setCell ⟨q, 3, none⟩ x).cell? ⟨q, 5, none⟩ = some (.pointer u) from
    ⟨(World.cell?_setCell_other W _ _ x (by simp)).trans h4, (World.cell?_setCell_other W _ _ x (by simp)).trans h5⟩)
  clear c0 c1 c2
  go_region_held3 (fun w' => w'.cell? ⟨q, 4, none⟩ = some (.pointer u1) ∧ w'.cell? ⟨q, 5, none⟩ = some (.pointer u)) (first | go_keep | exact k1 | exact k2 | exact K3.out _ c4 c5 _)
    (first
      | (go_at_call 79; refine (HE2.out (1 + m)).mono ?_; rintro e w' ⟨rfl, m2, rfl⟩; have k2 : ((w1.drewN (1 + m)).drewN m2).cell? ⟨q, 4, none⟩ = some (.pointer u1) ∧ ((w1.drewN (1 + m)).drewN m2).cell? ⟨q, 5, none⟩ = some (.pointer u) := ⟨c4, c5⟩)
      | (go_at_call 79; refine HE1.out.mono ?_; rintro e w' ⟨rfl, m, rfl⟩; have k1 : (w1.drew.drewN m).cell? ⟨q, 4, none⟩ = some (.pointer u1) ∧ (w1.drew.drewN m).cell? ⟨q, 5, none⟩ = some (.pointer u) := ⟨c4, c5⟩))
  obtain ⟨n1, hn1⟩ : ∃ n1, 1 + m + m2 = n1 := ⟨_, rfl⟩
  clear k1 k2 c3 c4 c5 fq HE1 HE2 K3
  have hm2 : PlanW ((w1.drewN (1 + m + m2)).setCell ⟨q, 3, none⟩ (.int .i64 t)) D shop (fun j => l.count j) (lastL (smach shop) l) v (set2 bg j k t) (set2 on j k (lastL (smach shop) l M)) := by
    have := (HM1.out.drewN (1 + m + m2)).setBegin hj hk t
    rw [HQ.out] at this
    exact this
  have hf2 := (HF1.out.drew (w2 := w1.drewN (1 + m + m2)) ⟨_, rfl⟩).set (i := 3) (.int .i64 t) HQR.out
  have ho2 := (HO1.out.drewN (1 + m + m2)).set 3 (.int .i64 t) HQR.out.2
  obtain ⟨w2, hw2⟩ : ∃ w2, (w1.drewN (1 + m + m2)).setCell ⟨q, 3, none⟩ (.int .i64 t) = w2 := ⟨_, rfl⟩
  rw [hw2] at hm2 hf2 ho2 ⊢
  clear hw2 HM1 HF1 HO1 hmx
  obtain ⟨c0, c1, _, _, _, _⟩ := hm2.stepCells hj hk
  have cm := hm2.lastCell hM
  have fP := hm2.frozen.1
  have HPR := Lib.hid (show D.B ≤ P ∧ P < D.top by rw [← HP.out]; exact hm2.ok.p)
  unfold PD.ptr at cm
  rw [HQ.out] at c0 c1
  rw [HMM.out] at c1
  rw [HP.out, HU.out] at cm
  rw [HP.out] at fP
  have HM2 := Lib.hid hm2
  have HF2 := Lib.hid hf2
  have HO2 := Lib.hid ho2
  clear hm2 hf2 ho2 c0
  -- it lies on its machine last
  go_wp2_with fail
  go_still_tail 9, (by kernel_rfl)
  go_wp2_with fail
  have hm3 : PlanW (w2.setCell ⟨P, 2 + M, none⟩ (.pointer (some ⟨q, 0, none⟩))).drew D shop (fun j => l.count j) (setN (lastL (smach shop) l) M (some (j, k))) v (set2 bg j k t) (set2 on j k (lastL (smach shop) l M)) := by
    have := (HM2.out.setLast hM (some (j, k))).drewN 1
    unfold PD.ptr at this
    rw [show D.addr (some (j, k)) = some ⟨D.Q j k, 0, none⟩ from rfl, HQ.out, HP.out] at this
    exact this
  have hf3 := (HF2.out.set (i := 2 + M) (.pointer (some ⟨q, 0, none⟩)) HPR.out).drew (w2 := (w2.setCell ⟨P, 2 + M, none⟩ (.pointer (some ⟨q, 0, none⟩))).drew) ⟨1, rfl⟩
  have ho3 : TurnsOwn (w2.setCell ⟨P, 2 + M, none⟩ (.pointer (some ⟨q, 0, none⟩))).drew D v l := (HO2.out.set (2 + M) (.pointer (some ⟨q, 0, none⟩)) HPR.out.2).drewN 1
  obtain ⟨w3, hw3⟩ : ∃ w3, (w2.setCell ⟨P, 2 + M, none⟩ (.pointer (some ⟨q, 0, none⟩))).drew = w3 := ⟨_, rfl⟩
  rw [hw3] at hm3 hf3 ho3 ⊢
  clear hw3 HM2 HF2 HO2 c1 cm fP
  obtain ⟨c0, _, _, _, _, _⟩ := hm3.stepCells hj hk
  obtain ⟨_, p1, _, _, _, _⟩ := hm3.cells
  have cx := hm3.nextCell hj
  have fX := hm3.frozen.2.1
  rw [HQ.out] at c0
  rw [HP.out] at p1
  obtain ⟨X, hX⟩ : ∃ X, D.X = X := ⟨_, rfl⟩
  obtain ⟨n, hn⟩ : ∃ n, shop.length = n := ⟨_, rfl⟩
  have HXR := Lib.hid (show D.B ≤ X ∧ X < D.top by rw [← hX]; exact hm3.ok.x)
  simp only [HKK.out] at cx
  rw [hX] at cx fX
  rw [hX, hn] at p1
  have hjn : j < n := by omega
  have hjn2 : (j : Int) < (n : Int) := by omega
  have hk3 : k < 3 := by have := slen_le HV.out j; omega
  have HX := Lib.hid hX
  have HN := Lib.hid hn
  have HM3 := Lib.hid hm3
  have HF3 := Lib.hid hf3
  have HO3 := Lib.hid ho3
  clear hm3 hf3 ho3 hX hn
  go_still_tail 12, (by kernel_rfl)
  go_wp2_with fail
  have hm4 : PlanW (w3.setCell ⟨X, j, none⟩ (.int .i64 ((k : Int) + 1))).drew D shop (fun i => (l ++ [j]).count i) (setN (lastL (smach shop) l) M (some (j, k))) v (set2 bg j k t) (set2 on j k (lastL (smach shop) l M)) := by
    have := (HM3.out.setNext j (k + 1)).drewN 1
    rw [HX.out] at this
    have e : setN (fun j => l.count j) j (k + 1) = fun i => (l ++ [j]).count i := by
      funext i
      rw [count_snoc]
      by_cases e : i = j
      · subst e; rw [setN_at, if_pos rfl, HKK.out]
      · rw [setN_ne _ _ e, if_neg e]
    rw [e] at this
    exact this
  have hf4 := (HF3.out.set (i := j) (.int .i64 ((k : Int) + 1)) HXR.out).drew (w2 := (w3.setCell ⟨X, j, none⟩ (.int .i64 ((k : Int) + 1))).drew) ⟨1, rfl⟩
  have ho4 : TurnsOwn (w3.setCell ⟨X, j, none⟩ (.int .i64 ((k : Int) + 1))).drew D v l := (HO3.out.set j (.int .i64 ((k : Int) + 1)) HXR.out.2).drewN 1
  obtain ⟨w4, hw4⟩ : ∃ w4, (w3.setCell ⟨X, j, none⟩ (.int .i64 ((k : Int) + 1))).drew = w4 := ⟨_, rfl⟩
  rw [hw4] at hm4 hf4 ho4 ⊢
  clear hw4 HM3 HF3 HO3 c0 p1 cx fX
  obtain ⟨c0, _, _, _, _, _⟩ := hm4.stepCells hj hk
  obtain ⟨_, _, _, _, _, p5⟩ := hm4.cells
  obtain ⟨ax, cp, rfl, hcp⟩ := own_slice ho4
  rw [HQ.out] at c0
  rw [HP.out] at p5
  have hsz4 := hf4.size
  have hP4 : P < w4.heap.size := by have := HPR.out; have := HTOP.out; omega
  have hq4 : q < w4.heap.size := by have := HQR.out; have := HTOP.out; omega
  have ht4 : D.top ≤ w4.heap.size := by have := HTOP.out; omega
  have HM4 := Lib.hid hm4
  have HF4 := Lib.hid hf4
  have HO4 := Lib.hid (show w4.ownsRow D.top 3 1 (.slice ax l.length cp) l.length ((l.map (fun x : Nat => (x : Int))).map (.int .i64)) from ho4)
  have HT4 := Lib.hid ht4
  have h9 := HL9.out
  obtain ⟨i0, hi0, hz0, hz1, hz2⟩ := info_parts Try.infoIntO
  clear hm4 hf4 ho4
  have PA : Hid ((w4.alloc (.cells #[.int .i64 (j : Int)] 3)).drew.cell? ⟨P, 5, none⟩ = some (.slice ax l.length cp) ∧ (w4.alloc (.cells #[.int .i64 (j : Int)] 3)).drew.frozen? ⟨P, 5, none⟩ = false ∧ P < (w4.alloc (.cells #[.int .i64 (j : Int)] 3)).drew.heap.size ∧ some P ≠ (Value.slice ax l.length cp).ownBlock) :=
    Lib.hid ⟨(World.cell?_of_block (w := w4) (Below.heap_alloc _ _ _ hP4)).trans p5, (World.frozen?_of_block (w := w4) (Below.heap_alloc _ _ _ hP4)).trans (by have := HM4.out.frozen.1 5; rw [HP.out] at this; exact this), by show P < (w4.alloc _).heap.size; simp; omega, fun e => by have := (HO4.out.lt P e.symm).1; have := HPR.out; omega⟩
  go_region_law ((refine step_append_lies _ (by rfl) _ _ _ (by rfl) D.top 3 i0 _ 1 8 Try.underlying23 hi0 hz0 hz1 hz2 rfl (by omega) (.slice ax l.length cp) l.length _ (by rfl) ((HO4.out.alloc _).drew) ⟨w4.heap.size, 0, none⟩ 1 1 [.int .i64 (j : Int)] (by rfl) (by rfl) (World.news_of_block (cs := #[.int .i64 (j : Int)]) (t := 3) (fr := (0, 0)) (heap_alloc_new w4 _)) (by simp [Value.oneCell']) (by omega) (by unfold maxLen; omega) (by omega) (by simp; omega) (w4.heap.size + 1) (by simp) ?_; intro g c6 w6 hown hgr hat hlt; have p6 := (hgr.cell_far ⟨P, 5, none⟩ PA.out.2.2.1 PA.out.2.2.2).trans PA.out.1; have f6 := (hgr.frozen_far ⟨P, 5, none⟩ PA.out.2.2.1 PA.out.2.2.2).trans PA.out.2.1))
  all_goals
    have hgr : w4.grownBy w6 (Value.slice ax l.length cp).ownBlock := grown_comp (World.grownBy_alloc w4 _ _) (grown_comp (grownBy_drewN _ 1 _) hgr)
    have hvb : ∀ b, (Value.slice ax l.length cp).ownBlock = some b → D.top ≤ b := fun b e => (HO4.out.lt b e).1
    have hm6 : PlanW w6 D shop (fun i => (l ++ [j]).count i) (setN (lastL (smach shop) l) M (some (j, k))) (.slice ax l.length cp) (set2 bg j k t) (set2 on j k (lastL (smach shop) l M)) :=
      HM4.out.to (fun b _ hb => hgr.block b (by have := HT4.out; omega) (fun e => by have := hvb b e.symm; omega))
    have hf6 := HF4.out.grown hgr
    have ho6 : TurnsOwn w6 D (.slice (some ⟨g, 0, none⟩) (l.length + 1) c6) (l ++ [j]) := by
      unfold TurnsOwn
      simpa using hown
    have hsn : SameOrNew w (.slice ax l.length cp) (.slice (some ⟨g, 0, none⟩) (l.length + 1) c6) := by
      rcases hat with e | e
      · exact .inl e.symm
      · refine .inr (fun b hb => ?_)
        have hs := HF4.out.size
        simp only [Value.ownBlock, Option.some.injEq] at hb
        omega
    have HM6 := Lib.hid hm6
    have HF6 := Lib.hid hf6
    have HO6 := Lib.hid ho6
    have HSN := Lib.hid hsn
    clear hown hat hvb hm6 hf6 ho6 hsn HM4 HF4 HO4
    go_end0
    refine ⟨rfl, _, ⟨⟨set2 bg j k t, set2 on j k (lastL (smach shop) l M), ?_, ?_, ?_⟩, HO6.out.set 5 _ HPR.out.2, ?_, ?_, ?_⟩, HF6.out.set _ HPR.out, HSN.out⟩
    · have := HM6.out.setTurns (.slice (some ⟨g, 0, none⟩) (l.length + 1) c6)
      rw [HP.out] at this
      rw [lastL_snoc, HKK.out, HMM.out]
      exact this
    · have := bgOk_snoc HBG.out j
      rw [HKK.out, HT.out] at this
      exact this
    · have := onOk_snoc HON.out j
      rw [HKK.out, HMM.out] at this
      exact this
    · have h1 := HF6.out.size
      have h2 := HTOP.out
      show D.top ≤ (w6.setCell _ _).heap.size
      rw [World.size_setCell]; omega
    · intro x hx
      rcases List.mem_append.1 hx with hx | hx
      · exact HJOBS.out x hx
      · simp only [List.mem_singleton] at hx; subst hx; exact hj
    · intro i
      rw [count_snoc]
      split
      · rename_i e; subst e; have := HKK.out; omega
      · exact HCNT.out i
end Go.Proofs.Ytkebdelfklmigae
namespace Go.Proofs.Ytkebdelfklmigae
open Go.RowKit Go.WideShapes

theorem own_back {w : World} {B e n cp : Nat} {v : Value} {xs : List Value} {x : Value} (h : w.ownsRow B e 1 v (n + 1) (xs ++ [x])) (hv : ∃ ax, v = .slice ax (n + 1) cp) :
    ∃ g, v = .slice (some ⟨g, 0, none⟩) (n + 1) cp ∧ n + 1 ≤ cp ∧ w.ownsRow B e 1 (.slice (some ⟨g, 0, none⟩) n cp) n xs := by
  obtain ⟨ax, rfl⟩ := hv
  obtain ⟨h1, h2 | ⟨g, cap, cur, e1, h2, h3, h4, h5, h6, h7⟩⟩ := h
  · exact absurd h2.2 (by omega)
  · simp only [Value.slice.injEq, true_and] at e1
    obtain ⟨rfl, rfl⟩ := e1
    refine ⟨g, rfl, h4, by simp at h1 ⊢; exact h1, .inr ⟨g, cp, cur, rfl, h2, h3, by omega, h5, h6, ?_⟩⟩
    simp only [Nat.mul_one] at h7 ⊢
    have := congrArg (List.take n) h7
    rw [List.take_take] at this
    simp at h1
    rw [show min n (n + 1) = n by omega] at this
    have e : List.take n (xs ++ [x]) = xs := by rw [List.take_append_of_le_length (by omega)]; exact List.take_of_length_le (by omega)
    exact this.trans e
def BackPost (w : World) (D : PD) (shop : List (List (List Int))) (v : Value) (l : List Nat) (e : Ending) (w' : World) : Prop :=
  e = .returned (.tuple #[]) ∧ ∃ v', PlanAt w' D shop v' l ∧ PFr D v w w' ∧ v'.ownBlock = v.ownBlock
set_option maxRecDepth 100000 in
set_option maxHeartbeats 2000000 in
theorem putBack_any {w : World} {D : PD} {shop : List (List (List Int))} {v : Value} {l : List Nat} {j : Nat} (h : PlanAt w D shop v (l ++ [j])) (hv : shopM shop = true) (u : FrameMode) :
    CallsD Try.prog 82 #[.pointer (some ⟨D.P, 0, none⟩), D.ptr (some (j, l.count j))] u w fun e u' w' => u' = u ∧ BackPost w D shop v l e w' := by
  have HL9 := Lib.hid (h.len hv)
  obtain ⟨⟨bg, on, hm, hbg, hon⟩, hown, htop, hjobs, hcnt⟩ := h
  have hj := hjobs j (by simp)
  have hk : l.count j < slen shop j := by have := hcnt j; rw [count_snoc, if_pos rfl] at this; omega
  have hM := smach_lt hv j (l.count j)
  have hl3 := (shop_get hv).1
  obtain ⟨hon1, hon2⟩ := onOk_back hon
  have HBG := Lib.hid (bgOk_back hbg)
  have HON := Lib.hid hon1
  have HTOP := Lib.hid htop
  have HJOBS := Lib.hid (show ∀ x ∈ l, x < shop.length from fun x hx => hjobs x (by simp [hx]))
  have HCNT := Lib.hid (show ∀ i, l.count i ≤ slen shop i from fun i => by have := hcnt i; rw [count_snoc] at this; split at this <;> omega)
  have HFR0 := Lib.hid (PFr.refl D v w)
  obtain ⟨ax, cp, rfl, hcp⟩ := own_slice hown
  have hown' : w.ownsRow D.top 3 1 (.slice ax (l.length + 1) cp) (l.length + 1) ((l.map (fun x : Nat => (x : Int))).map (.int .i64) ++ [.int .i64 (j : Int)]) := by
    unfold TurnsOwn at hown; simpa using hown
  rw [show (l ++ [j]).length = l.length + 1 by simp] at *
  obtain ⟨g, e1, hcp, ho⟩ := own_back hown' ⟨ax, rfl⟩
  simp only [Value.slice.injEq, and_true] at e1
  subst e1
  have HOWN := Lib.hid (show TurnsOwn w D (.slice (some ⟨g, 0, none⟩) l.length cp) l from ho)
  clear hbg hon hon1 hown hown' htop hjobs hcnt ho
  obtain ⟨k, hkk⟩ : ∃ k, l.count j = k := ⟨_, rfl⟩
  obtain ⟨M, hMM⟩ : ∃ M, smach shop j k = M := ⟨_, rfl⟩
  obtain ⟨u1, hu⟩ : ∃ u, D.addr (lastL (smach shop) l M) = u := ⟨_, rfl⟩
  obtain ⟨q, hq⟩ : ∃ q, D.Q j k = q := ⟨_, rfl⟩
  obtain ⟨P, hP⟩ : ∃ P, D.P = P := ⟨_, rfl⟩
  obtain ⟨X, hX⟩ : ∃ X, D.X = X := ⟨_, rfl⟩
  obtain ⟨n, hn⟩ : ∃ n, shop.length = n := ⟨_, rfl⟩
  obtain ⟨n1, hn1⟩ : ∃ n, l.length = n := ⟨_, rfl⟩
  rw [hkk] at hk hM hon2
  rw [hMM] at hM hon2
  have p5 := hm.cells.2.2.2.2.2
  have fP := hm.frozen.1
  have HPR := Lib.hid (show D.B ≤ P ∧ P < D.top by rw [← hP]; exact hm.ok.p)
  have HXR := Lib.hid (show D.B ≤ X ∧ X < D.top by rw [← hX]; exact hm.ok.x)
  have HM0 := Lib.hid hm
  have HLN := Lib.hid (HL9.out)
  clear hm
  rw [hP, hn1] at p5
  rw [hP] at fP
  show CallsD Try.prog 82 #[.pointer (some ⟨D.P, 0, none⟩), .pointer (some ⟨D.Q j (l.count j), 0, none⟩)] u w _
  rw [hkk, hq, hP]
  have hcp2 : n1 + 1 ≤ cp := by omega
  have hn9 : n1 ≤ 9 := by have := HLN.out; simp at this; omega
  have hjn2 : (j : Int) < (n : Int) := by omega
  have hjn : j < n := by omega
  have hM2 : (M : Int) < 3 := by omega
  have hwn : IntKind.i64.wrap (n1 : Int) = (n1 : Int) := IntWalk.i64_in _ (by omega)
  have hk3 : k < 3 := by have := slen_le hv j; omega
  have hwk : IntKind.i64.wrap (k : Int) = (k : Int) := IntWalk.i64_in _ (by omega)
  have hcp0 : ¬ cp = 0 := by omega
  have hcp3 : n1 ≤ cp := by omega
  have hcp4 : (n1 : Int) ≤ (cp : Int) := by omega
  have HKK := Lib.hid hkk
  have HMM := Lib.hid hMM
  have HU := Lib.hid hu
  have HQ := Lib.hid hq
  have HP := Lib.hid hP
  have HX := Lib.hid hX
  have HN := Lib.hid hn
  have HN1 := Lib.hid hn1
  have HON2 := Lib.hid hon2
  clear hkk hMM hu hq hP hX hn hn1 hon2 hcp
  go_enter_d Try.func82, Try.ntmps82
  go_wp2_with fail
  go_still_tail 14, (by kernel_rfl)
  go_wp2_with fail
  obtain ⟨V, hV⟩ : ∃ V, Value.slice (some ⟨g, 0, none⟩) n1 cp = V := ⟨_, rfl⟩
  have HVV := Lib.hid hV
  have hm1 : PlanW (w.setCell ⟨P, 5, none⟩ V).drew D shop (fun i => (l ++ [j]).count i) (lastL (smach shop) (l ++ [j])) V bg on := by
    have := (HM0.out.setTurns V).drewN 1
    rw [HP.out] at this
    exact this
  have ho0 : TurnsOwn w D V l := by rw [← HVV.out, ← HN1.out]; exact HOWN.out
  have hf1 : PFr D (.slice (some ⟨g, 0, none⟩) (l.length + 1) cp) w (w.setCell ⟨P, 5, none⟩ V).drew := (HFR0.out.set (i := 5) V HPR.out).drew ⟨1, rfl⟩
  have ho1 : TurnsOwn (w.setCell ⟨P, 5, none⟩ V).drew D V l := (ho0.set 5 V HPR.out.2).drewN 1
  rw [hV]
  obtain ⟨w1, hw1⟩ : ∃ w1, (w.setCell ⟨P, 5, none⟩ V).drew = w1 := ⟨_, rfl⟩
  rw [hw1] at hm1 hf1 ho1 ⊢
  clear hw1 ho0 p5 fP HM0 HFR0 HOWN hV
  obtain ⟨c0, _, _, _, _, _⟩ := hm1.stepCells hj hk
  obtain ⟨_, p1, _, _, _, _⟩ := hm1.cells
  have cx := hm1.nextCell hj
  have fX := hm1.frozen.2.1
  rw [HQ.out] at c0
  rw [HP.out] at p1
  simp only [count_snoc, if_true, HKK.out] at cx
  rw [HX.out] at cx fX
  rw [HX.out, HN.out] at p1
  have HM1 := Lib.hid hm1
  have HF1 := Lib.hid hf1
  have HO1 := Lib.hid ho1
  clear hm1 hf1 ho1
  go_still_tail 12, (by kernel_rfl)
  go_wp2_with fail
  have hm2 : PlanW (w1.setCell ⟨X, j, none⟩ (.int .i64 (k : Int))).drew D shop (fun i => l.count i) (lastL (smach shop) (l ++ [j])) V bg on := by
    have := (HM1.out.setNext j k).drewN 1
    rw [HX.out] at this
    have e : setN (fun i => (l ++ [j]).count i) j k = fun i => l.count i := by
      funext i
      by_cases e : i = j
      · subst e; rw [setN_at, HKK.out]
      · rw [setN_ne _ _ e, count_snoc, if_neg e]
    rw [e] at this
    exact this
  have hf2 := (HF1.out.set (i := j) (.int .i64 (k : Int)) HXR.out).drew (w2 := (w1.setCell ⟨X, j, none⟩ (.int .i64 (k : Int))).drew) ⟨1, rfl⟩
  have ho2 : TurnsOwn (w1.setCell ⟨X, j, none⟩ (.int .i64 (k : Int))).drew D V l := (HO1.out.set j (.int .i64 (k : Int)) HXR.out.2).drewN 1
  obtain ⟨w2, hw2⟩ : ∃ w2, (w1.setCell ⟨X, j, none⟩ (.int .i64 (k : Int))).drew = w2 := ⟨_, rfl⟩
  rw [hw2] at hm2 hf2 ho2 ⊢
  clear hw2 c0 p1 cx fX HM1 HF1 HO1
  obtain ⟨_, c1, _, _, _, c5⟩ := hm2.stepCells hj hk
  have cm := hm2.lastCell hM
  have fP := hm2.frozen.1
  unfold PD.ptr at cm c5
  rw [HQ.out] at c1 c5
  rw [HMM.out] at c1
  rw [HON2.out, HU.out] at c5
  rw [HP.out] at cm fP
  obtain ⟨u2, hu2⟩ : ∃ u2, D.addr (lastL (smach shop) (l ++ [j]) M) = u2 := ⟨_, rfl⟩
  rw [hu2] at cm
  have HM2 := Lib.hid hm2
  have HF2 := Lib.hid hf2
  have HO2 := Lib.hid ho2
  clear hm2 hf2 ho2 hu2
  go_still_tail 12, (by kernel_rfl)
  go_wp2_with fail
  have hm3 : PlanW (w2.setCell ⟨P, 2 + M, none⟩ (.pointer u1)).drew D shop (fun i => l.count i) (lastL (smach shop) l) V bg on := by
    have := (HM2.out.setLast hM (lastL (smach shop) l M)).drewN 1
    have e := last_back (smach shop) l j
    rw [HKK.out, HMM.out] at e
    rw [e] at this
    unfold PD.ptr at this
    rw [HU.out, HP.out] at this
    exact this
  have HM3 := Lib.hid hm3
  clear hm3 c1 c5 cm fP
  go_end0
  refine ⟨rfl, V, ⟨⟨bg, on, HM3.out, HBG.out, HON.out⟩, (HO2.out.set (2 + M) (.pointer u1) HPR.out.2).drewN 1, ?_, HJOBS.out, HCNT.out⟩, (HF2.out.set (i := 2 + M) (.pointer u1) HPR.out).drew ⟨1, rfl⟩, by rw [← HVV.out]; rfl⟩
  have h1 := HF2.out.size
  have h2 := HTOP.out
  show D.top ≤ (w2.setCell _ _).heap.size
  rw [World.size_setCell]; omega
end Go.Proofs.Ytkebdelfklmigae
