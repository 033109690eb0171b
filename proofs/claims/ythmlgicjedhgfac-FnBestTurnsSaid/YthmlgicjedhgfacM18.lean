import Derived.Test.YthmlgicjedhgfacRows
import Derived.WalkKit
import Derived.LoopTactic
import Derived.Outline
import Derived.WalkSpells
import Derived.WalkLawsBesides
import Derived.ProofKit
import Derived.Lib.Hide
import Derived.IntWalk
import Derived.Defers
import Derived.Test.YthmlgicjedhgfacM0
import Derived.Test.YthmlgicjedhgfacM1
import Derived.Test.YthmlgicjedhgfacM2
import Derived.Test.YthmlgicjedhgfacM6
import Derived.Test.YthmlgicjedhgfacM8
import Derived.Test.YthmlgicjedhgfacM9
import Derived.Test.YthmlgicjedhgfacM12
import Derived.Test.YthmlgicjedhgfacM13
import Derived.Test.YthmlgicjedhgfacM14
import Derived.Test.YthmlgicjedhgfacM17
import Derived.Test.YthmlgicjedhgfacM15
import Derived.Test.YthmlgicjedhgfacM16
import Derived.Test.YthmlgicjedhgfacM11
import Derived.Deep.OwnRows
import Derived.Deep.QuietTactic
import Derived.BigQuiet
namespace Go.Proofs.Ythmlgicjedhgfac
open Go.RowKit Go.WideShapes

-- the best turns that go on from some
def leftP (shop : List (List (List Int))) (l : List Nat) (j : Nat) : Nat := slen shop j - l.count j
theorem leftP_snoc (shop : List (List (List Int))) (l : List Nat) (j : Nat) : leftP shop (l ++ [j]) = setN (leftP shop l) j (leftP shop l j - 1) := by
  funext i
  unfold leftP
  rw [count_snoc]
  by_cases e : i = j
  · subst e; rw [setN_at, if_pos rfl]; omega
  · rw [setN_ne _ _ e, if_neg e]
def bestR (shop : List (List (List Int))) (l : List Nat) : List Nat × Int := bestFS (valB shop) shop.length (sumLeft (leftP shop l) shop.length) l (leftP shop l)
def bestG (shop : List (List (List Int))) (l : List Nat) (j : Nat) : List Nat × Int := bestFS (valB shop) shop.length (sumLeft (leftP shop l) shop.length - 1) (l ++ [j]) (setN (leftP shop l) j (leftP shop l j - 1))
theorem bestG_is {shop : List (List (List Int))} {l : List Nat} {j : Nat} (hj : j < shop.length) (h : leftP shop l j ≠ 0) : bestG shop l j = bestR shop (l ++ [j]) := by
  unfold bestG bestR
  have := sumLeft_set h shop.length hj
  rw [leftP_snoc, ← this, Nat.add_sub_cancel]
theorem bestR_go {shop : List (List (List Int))} {l : List Nat} (h : sumLeft (leftP shop l) shop.length ≠ 0) : bestR shop l = scanB (leftP shop l) (bestG shop l) shop.length := by
  unfold bestR bestG
  obtain ⟨f, hf⟩ : ∃ f, sumLeft (leftP shop l) shop.length = f + 1 := ⟨_, (Nat.succ_pred_eq_of_pos (Nat.pos_of_ne_zero h)).symm⟩
  rw [hf, bestFS]; rfl
theorem bestR_end {shop : List (List (List Int))} {l : List Nat} (h : sumLeft (leftP shop l) shop.length = 0) : bestR shop l = (l, valB shop l) := by
  unfold bestR; rw [h]; rfl
theorem sumLeft_none {left : Nat → Nat} : ∀ n, (∀ j, j < n → left j = 0) → sumLeft left n = 0
  | 0, _ => rfl
  | n + 1, h => by rw [sumLeft, sumLeft_none n (fun j hj => h j (by omega)), h n (by omega)]
theorem bestR_bd {shop : List (List (List Int))} (hv : shopM shop = true) {l : List Nat} (hj : ∀ x ∈ l, x < shop.length) (hc : ∀ j, l.count j ≤ slen shop j) : 0 ≤ (bestR shop l).2 ∧ (bestR shop l).2 ≤ 81 ∧ (bestR shop l).1.length ≤ 9 := by
  obtain ⟨t, e, ⟨h1, h2⟩, _⟩ := bestFS_is (valB_nn hv) (n := shop.length) (sumLeft (leftP shop l) shop.length) l (leftP shop l) rfl
  have hlen := turnsOf_len hv (l := l ++ t) (fun x hx => by
    rcases List.mem_append.1 hx with hx | hx
    · exact hj x hx
    · exact h1 x hx) (fun j => by
    rw [List.count_append]
    by_cases h : j < shop.length
    · have := h2 j h; have := hc j; unfold leftP at *; omega
    · rw [List.count_eq_zero.2 (fun hm => h (h1 j hm))]; exact hc j)
  have e2 : bestR shop l = (l ++ t, valB shop (l ++ t)) := e
  rw [e2]
  have hb := runS_bd (m := smach shop) (fun j k => stime_bd hv j k) (l ++ t)
  refine ⟨valB_nn hv _, ?_, hlen⟩
  show (runS (smach shop) (stime shop) shop0 (l ++ t)).all ≤ 81
  omega
/-- the best turns r, in memory of its own; the plan as it was -/
def BestPost (w : World) (D : PD) (shop : List (List (List Int))) (v : Value) (l : List Nat) (r : List Nat × Int) (e : Ending) (w' : World) : Prop := ∃ (a : Option Addr) (cap : Nat) (v' : Value),
  e = .returned (.tuple #[.slice a r.1.length cap, .int .i64 r.2]) ∧ w'.ownsRow w.heap.size 3 1 (.slice a r.1.length cap) r.1.length ((nat7 r.1).map (.int .i64)) ∧
  PlanAt w' D shop v' l ∧ PFr D v w w' ∧ SameOrNew w v v' ∧ ((Value.slice a r.1.length cap).ownBlock = none ∨ (Value.slice a r.1.length cap).ownBlock ≠ v'.ownBlock)
theorem SameOrNew.trans {w w1 : World} {v v1 v2 : Value} (h : SameOrNew w v v1) (hs : w.heap.size ≤ w1.heap.size) (g : SameOrNew w1 v1 v2) : SameOrNew w v v2 := by
  rcases g with e | e
  · rcases h with e1 | e1
    · exact .inl (e.trans e1)
    · exact .inr (fun b hb => e1 b (by rw [← e]; exact hb))
  · exact .inr (fun b hb => by have := e b hb; omega)
/-- what is the call's own, and not the plan's, lies on -/
theorem own_pfr {w w' : World} {B e n : Nat} {D : PD} {u v : Value} {xs : List Value} (h : w.ownsRow B e 1 u n xs) (hf : PFr D v w w') (hB : D.top ≤ B) (hn : u.ownBlock = none ∨ u.ownBlock ≠ v.ownBlock) : w'.ownsRow B e 1 u n xs := by
  refine ⟨h.1, ?_⟩
  rcases h.2 with h1 | ⟨g, cap, cur, e1, h1, h2, h3⟩
  · exact .inl h1
  · refine .inr ⟨g, cap, cur, e1, h1, ?_, h3⟩
    rw [hf.rest g (lt_heap h2) (.inr (by omega)) (fun e2 => ?_)]
    · exact h2
    · rcases hn with h5 | h5
      · rw [e1] at h5; cases h5
      · exact h5 (by rw [e1, e2]; rfl)
theorem clone_nil (w : World) : Calls Try.prog 49 #[.slice none 0 0] w fun e w' => e = .returned (.slice none 0 0) ∧ w' = w := by
  have q22 : ∀ (w : World) (a : Option Addr) (n c n' c' : Nat), (binOp .eql 25 (.slice a n c) (.slice none n' c')).run Try.prog w = .ok (.bool a.isNone) w := fun w a n c n' c' => Lib.run_eql_slice_nil w _ _ a n c n' c' Try.underlying25
  go_enter Try.func49, Try.ntmps49
  go_wp2
  go_ret
  exact ⟨rfl, rfl⟩
/-- a copy of the turns -/
theorem clone_turns {w : World} {D : PD} {v : Value} {l : List Nat} (h : TurnsOwn w D v l) (h9 : l.length ≤ 9) :
    Calls Try.prog 49 #[v] w fun e w' => ∃ a cap, e = .returned (.slice a l.length cap) ∧ w'.ownsRow w.heap.size 3 1 (.slice a l.length cap) l.length ((nat7 l).map (.int .i64)) ∧ Below w.heap.size w w' := by
  rcases h.2 with ⟨rfl, h0⟩ | ⟨g, cap, cur, rfl, hg, hh, _⟩
  · refine (clone_nil w).mono ?_
    rintro e w' ⟨rfl, rfl⟩
    have hl : l = [] := List.length_eq_zero_iff.1 h0
    subst hl
    exact ⟨none, 0, rfl, World.ownsRow_nil _ _ _ _, Below.refl _ _⟩
  · obtain ⟨a, c, e, hc, hi⟩ := own_ints h (by omega)
    simp only [Value.slice.injEq, true_and] at e
    obtain ⟨rfl, rfl⟩ := e
    refine (clone_any _ g 0 l.length cap _ w hi (fun b hb => hb.2) (by omega)).mono ?_
    rintro e w' ⟨a, len, cap', rfl, hs, ho, hb⟩
    have hl : len = l.length := by have := ho.1; simp at this; exact this.symm
    subst hl
    exact ⟨a, cap', rfl, ho, hb⟩
set_option maxRecDepth 100000 in
set_option maxHeartbeats 4000000 in
theorem bestWith_any {w : World} {D : PD} {shop : List (List (List Int))} {v : Value} {l : List Nat} (h : PlanAt w D shop v l) (hv : shopM shop = true) {j : Nat} (hj : j < shop.length) (hk : l.count j < slen shop j)
    (hbest : ∀ (w : World) (v : Value), PlanAt w D shop v (l ++ [j]) → Calls Try.prog 26 #[.pointer (some ⟨D.P, 0, none⟩)] w (BestPost w D shop v (l ++ [j]) (bestR shop (l ++ [j])))) :
    Calls Try.prog 50 #[.pointer (some ⟨D.P, 0, none⟩), D.ptr (some (j, l.count j))] w (BestPost w D shop v l (bestR shop (l ++ [j]))) := by
  have HBEST := Lib.hid hbest
  have HT := Lib.hid h.top
  clear hbest
  go_enter_defers Try.func50, Try.ntmps50
  go_wp2_with fail
  refine (put_any h hv hj hk).mono ?_
  rintro e w1 ⟨rfl, v1, hp1, hf1, hn1⟩
  have HP1 := Lib.hid hp1
  have HF1 := Lib.hid hf1
  have HN1 := Lib.hid hn1
  clear hp1 hf1 hn1 h
  go_wp2_with fail
  refine (HBEST.out w1 v1 HP1.out).mono ?_
  rintro e w2 ⟨a, cap, v2, rfl, ho2, hp2, hf2, hn2, hs2⟩
  have HO2 := Lib.hid ho2
  have HP2 := Lib.hid hp2
  have HF2 := Lib.hid hf2
  have HN2 := Lib.hid hn2
  have HS2 := Lib.hid hs2
  clear ho2 hp2 hf2 hn2 hs2
  go_wp2_with fail
  refine leaves_cons (f := 65) (args := #[.pointer (some ⟨D.P, 0, none⟩), D.ptr (some (j, l.count j))]) (by simp) (by simp [go_sem]) ?_
  refine (putBack_any HP2.out hv .returning).mono ?_
  rintro e u' w3 ⟨rfl, rfl, v3, hp3, hf3, hv3⟩
  have HP3 := Lib.hid hp3
  have HF3 := Lib.hid hf3
  have HV3 := Lib.hid hv3
  clear hp3 hf3 hv3
  have hfin : BestPost w D shop v l (bestR shop (l ++ [j])) (.returned (.tuple #[.slice a (bestR shop (l ++ [j])).1.length cap, .int .i64 (bestR shop (l ++ [j])).2])) w3 := by
    have hs1 := HF1.out.size
    have hs2 := HF2.out.size
    have ht := HT.out
    have hn2 : SameOrNew w v v2 := by
      rcases HN2.out with e | e
      · rcases HN1.out with e1 | e1
        · exact .inl (e.trans e1)
        · exact .inr (fun b hb => e1 b (by rw [← e]; exact hb))
      · exact .inr (fun b hb => by have := e b hb; omega)
    refine ⟨a, cap, v3, rfl, own_base (own_pfr HO2.out HF3.out (by omega) HS2.out) hs1, HP3.out, ?_, ?_, by rw [HV3.out]; exact HS2.out⟩
    · refine (HF1.out.trans HF2.out HN1.out).trans HF3.out ?_
      exact hn2
    · rcases hn2 with e | e
      · exact .inl (HV3.out.trans e)
      · exact .inr (fun b hb => e b (by rw [← HV3.out]; exact hb))
  have HFIN := Lib.hid hfin
  clear hfin
  refine ⟨_, results_tmp2 rfl _ _ _, ?_⟩
  simp
  exact HFIN.out
set_option maxRecDepth 100000 in
set_option maxHeartbeats 4000000 in
theorem best_any {D : PD} {shop : List (List (List Int))} (hv : shopM shop = true) : ∀ (f : Nat) (w : World) (v : Value) (l : List Nat), sumLeft (leftP shop l) shop.length = f → PlanAt w D shop v l →
    Calls Try.prog 26 #[.pointer (some ⟨D.P, 0, none⟩)] w (BestPost w D shop v l (bestR shop l)) := by
  intro f
  induction f with
  | zero =>
    intro w v l hf h
    have hz := sumLeft_zero shop.length hf
    have hdn : doneP shop (fun j => l.count j) = true := by unfold doneP; rw [List.all_eq_true]; exact fun j hj => decide_eq_true (show slen shop j ≤ l.count j by have := hz j (List.mem_range.1 hj); unfold leftP at this; omega)
    have HR := Lib.hid (bestR_end hf)
    have HDONE := Lib.hid (isDone_at h hv)
    have H := Lib.hid h
    rw [hdn] at HDONE
    clear h hf hz hdn
    go_enter Try.func26, Try.ntmps26
    go_wp2_with fail
    refine HDONE.out.mono ?_
    rintro e w1 ⟨rfl, hd1⟩
    have hp1 := H.out.drew hd1
    obtain ⟨bg, on, hm, _, _⟩ := hp1.mem
    obtain ⟨_, _, _, _, _, p5⟩ := hm.cells
    have HP1 := Lib.hid hp1
    have HD1 := Lib.hid hd1
    have HC := Lib.hid (clone_turns hp1.own (hp1.len hv))
    clear hm hp1 hd1
    go_wp2_with fail
    refine HC.out.mono ?_
    rintro e w2 ⟨a, cap, rfl, ho, hb⟩
    have htop := HP1.out.top
    have hp2 : PlanAt w2 D shop v l := by
      obtain ⟨bg, on, h1, h2, h3⟩ := HP1.out.mem
      have hs := hb.size
      exact ⟨⟨bg, on, h1.to (fun b _ hb2 => hb.block b (by omega)), h2, h3⟩, own_later HP1.out.own hb, by omega, HP1.out.jobs, HP1.out.cnt⟩
    have HP2 := Lib.hid hp2
    have HB := Lib.hid hb
    have HO := Lib.hid ho
    clear hp2 hb ho
    go_wp2_with fail
    refine (planEnd_any HP2.out hv).mono ?_
    rintro e w3 ⟨rfl, hd3⟩
    have HD3 := Lib.hid hd3
    clear hd3
    go_wp2_with fail
    go_ret2
    rw [HR.out]
    have hs1 : w1.heap.size = w.heap.size := HD1.out.size
    refine ⟨a, cap, v, rfl, ?_, HP2.out.drew HD3.out, ?_, .inl rfl, ?_⟩
    · obtain ⟨q, rfl⟩ := HD3.out
      exact own_base (own_drewN HO.out q) (by omega)
    · refine PFr.drew ?_ HD3.out
      have := HB.out
      refine ⟨this.os.trans (HD1.out.below 0).os, this.tape.trans (HD1.out.below 0).tape, this.output.trans (HD1.out.below 0).output, by have := this.size; omega, fun b hb _ _ => ?_⟩
      rw [this.block b (by omega)]
      obtain ⟨q, rfl⟩ := HD1.out
      rfl
    · cases ha : (Value.slice a l.length cap).ownBlock with
      | none => exact .inl rfl
      | some b =>
        right
        intro e
        have h1 := (HO.out.lt b ha).1
        have h2 := (HP1.out.own.lt b e.symm).2
        omega
  | succ f ih =>
    intro w v l hf h
    have hne : sumLeft (leftP shop l) shop.length ≠ 0 := by omega
    obtain ⟨j0, hj0, hl0⟩ := sumLeft_pos shop.length hne
    have hdn : doneP shop (fun j => l.count j) = false := by
      unfold doneP; rw [List.all_eq_false]
      exact ⟨j0, List.mem_range.2 hj0, by unfold leftP at hl0; simp; omega⟩
    have HR := Lib.hid (bestR_go hne)
    have HDONE := Lib.hid (isDone_at h hv)
    have H := Lib.hid h
    have HF := Lib.hid hf
    have HL0 := Lib.hid (And.intro hj0 hl0)
    have hl3 := (shop_get hv).1
    have HW := Lib.hid (fun (w : World) (v : Value) (j : Nat) (hp : PlanAt w D shop v l) (hj : j < shop.length) (hk : l.count j < slen shop j) => bestWith_any hp hv hj hk (fun w v hp => ih w v (l ++ [j]) (by
      have h1 : leftP shop l j ≠ 0 := by unfold leftP; omega
      have := sumLeft_set h1 shop.length hj
      rw [leftP_snoc]; omega) hp))
    rw [hdn] at HDONE
    clear h hf hdn hne hj0 hl0 ih
    go_enter Try.func26, Try.ntmps26
    go_wp2_with fail
    refine HDONE.out.mono ?_
    rintro e w1 ⟨rfl, hd1⟩
    have hp1 := H.out.drew hd1
    obtain ⟨bg, on, hm, _, _⟩ := hp1.mem
    have c0 := hm.cells.1
    have HP1 := Lib.hid hp1
    have HD1 := Lib.hid hd1
    have HTW := Lib.hid H.out.top
    have HFR1 := Lib.hid ((PFr.refl D v w).drew hd1)
    clear hm hp1 hd1
    go_wp2_with fail
    go_loopw [4, 5, 24] (fun b m i wr => ∃ (k : Nat) (a : Option Addr) (cap : Nat) (v' : Value), k ≤ shop.length ∧ i = .int .i64 k ∧ b = .slice a (scanB (leftP shop l) (bestG shop l) k).1.length cap ∧ m = .int .i64 (scanB (leftP shop l) (bestG shop l) k).2 ∧
      PlanAt wr D shop v' l ∧ PFr D v w wr ∧ SameOrNew w v v' ∧ wr.ownsRow w.heap.size 3 1 b (scanB (leftP shop l) (bestG shop l) k).1.length ((nat7 (scanB (leftP shop l) (bestG shop l) k).1).map (.int .i64)) ∧ (b.ownBlock = none ∨ b.ownBlock ≠ v'.ownBlock)) (fun _ _ i _ => shop.length - (intOf i).toNat)
    case atStart => exact ⟨0, none, 0, v, Nat.zero_le _, rfl, rfl, rfl, HP1.out, HFR1.out, .inl rfl, World.ownsRow_nil _ _ _ _, .inl rfl⟩
    case round =>
      obtain ⟨k, a, cap, v', hk, rfl, rfl, rfl, hp, hf, hn, ho, hs⟩ := hrel
      have HP := Lib.hid hp
      have HFR := Lib.hid hf
      have HN := Lib.hid hn
      have HO := Lib.hid ho
      have HS := Lib.hid hs
      clear hp hf hn ho hs HP1
      by_cases hkl : k < shop.length
      · have HNX := Lib.hid (nextStep_at HP.out hv k hkl)
        by_cases hlk : leftP shop l k = 0
        · have hno : nextO (fun j => l.count j) shop k = none := if_neg (show ¬ l.count k < slen shop k by unfold leftP at hlk; omega)
          rw [hno] at HNX
          have HSC := Lib.hid (show scanB (leftP shop l) (bestG shop l) (k + 1) = scanB (leftP shop l) (bestG shop l) k by rw [scanB, if_pos hlk])
          clear hlk hno c0
          go_wp2_with fail
          refine HNX.out.mono ?_
          rintro e w2 ⟨rfl, hd2⟩
          have HD2 := Lib.hid hd2
          clear hd2
          show _
          unfold PD.ptr PD.addr
          go_wp2_with fail
          go_roundw
          case rel =>
            refine ⟨k + 1, a, cap, v', by omega, by go_num, by rw [HSC.out], by rw [HSC.out], HP.out.drew HD2.out, HFR.out.drew HD2.out, HN.out, ?_, HS.out⟩
            rw [HSC.out]
            obtain ⟨q, rfl⟩ := HD2.out
            exact own_drewN HO.out q
          case measure => simp [intOf]; omega
        · have hlt : l.count k < slen shop k := by unfold leftP at hlk; omega
          have hno : nextO (fun j => l.count j) shop k = some (k, l.count k) := if_pos hlt
          rw [hno] at HNX
          have hgk := bestG_is hkl hlk
          have hbd := bestR_bd hv (l := l ++ [k]) (fun x hx => by
            rcases List.mem_append.1 hx with hx | hx
            · exact HP.out.jobs x hx
            · simp only [List.mem_singleton] at hx; subst hx; exact hkl) (fun j => by
            rw [count_snoc]; have := HP.out.cnt j; split
            · rename_i e; subst e; omega
            · exact this)
          have hstep : scanB (leftP shop l) (bestG shop l) (k + 1) = if (scanB (leftP shop l) (bestG shop l) k).2 < 0 ∨ (bestR shop (l ++ [k])).2 < (scanB (leftP shop l) (bestG shop l) k).2 then bestR shop (l ++ [k]) else scanB (leftP shop l) (bestG shop l) k := by
            rw [scanB, if_neg hlk, hgk]
          have HST := Lib.hid hstep
          have HLT := Lib.hid hlt
          have HKL := Lib.hid hkl
          clear hlk hno hgk hstep hlt c0
          obtain ⟨r0, hr0⟩ : ∃ r, scanB (leftP shop l) (bestG shop l) k = r := ⟨_, rfl⟩
          rw [hr0] at HST HO HS ⊢
          clear hr0
          go_wp2_with fail
          refine HNX.out.mono ?_
          rintro e w2 ⟨rfl, hd2⟩
          have HD2 := Lib.hid hd2
          have HP2 := Lib.hid (HP.out.drew hd2)
          have HF2 := Lib.hid (HFR.out.drew hd2)
          have HO2 := Lib.hid (show w2.ownsRow w.heap.size 3 1 (.slice a r0.1.length cap) r0.1.length ((nat7 r0.1).map (.int .i64)) by obtain ⟨q, rfl⟩ := hd2; exact own_drewN HO.out q)
          clear hd2
          have HCALL := Lib.hid (HW.out w2 v' k HP2.out hkl HLT.out)
          generalize bestR shop (l ++ [k]) = r1 at hbd HST HCALL
          have hcall := HCALL.out
          show _
          unfold PD.ptr PD.addr at hcall ⊢
          have HCALL2 := Lib.hid hcall
          clear hcall
          go_wp2_with fail
          refine HCALL2.out.mono ?_
          rintro e w3 ⟨a3, cap3, v3, rfl, ho3, hp3, hf3, hn3, hs3⟩
          have hs2 : w.heap.size ≤ w2.heap.size := HF2.out.size
          have HP3 := Lib.hid hp3
          have HF3 := Lib.hid (HF2.out.trans hf3 HN.out)
          have HN3 := Lib.hid (HN.out.trans hs2 hn3)
          have HNEW := Lib.hid (own_base ho3 hs2)
          have HOLD := Lib.hid (own_pfr HO2.out hf3 HTW.out HS.out)
          have HS3 := Lib.hid hs3
          have HSO := Lib.hid (show (Value.slice a r0.1.length cap).ownBlock = none ∨ (Value.slice a r0.1.length cap).ownBlock ≠ v3.ownBlock by
            cases ha : (Value.slice a r0.1.length cap).ownBlock with
            | none => exact .inl rfl
            | some b =>
              right
              intro e
              rcases hn3 with e1 | e1
              · rcases HS.out with e2 | e2
                · rw [ha] at e2; cases e2
                · exact e2 (by rw [ha, e, e1])
              · have h1 := e1 b e.symm
                have h2 := (HO2.out.lt b ha).2
                omega)
          clear ho3 hp3 hf3 hn3 hs3
          by_cases h1 : r0.2 < 0
          · have HSC := Lib.hid (show scanB (leftP shop l) (bestG shop l) (k + 1) = r1 by rw [HST.out, if_pos (.inl h1)])
            go_wp2_with fail
            go_roundw
            case rel => exact ⟨k + 1, a3, cap3, v3, by omega, by go_num, by rw [HSC.out], by rw [HSC.out], HP3.out, HF3.out, HN3.out, by rw [HSC.out]; exact HNEW.out, HS3.out⟩
            case measure => simp [intOf]; omega
          · by_cases h2 : r1.2 < r0.2
            · have HSC := Lib.hid (show scanB (leftP shop l) (bestG shop l) (k + 1) = r1 by rw [HST.out, if_pos (.inr h2)])
              go_wp2_with fail
              go_roundw
              case rel => exact ⟨k + 1, a3, cap3, v3, by omega, by go_num, by rw [HSC.out], by rw [HSC.out], HP3.out, HF3.out, HN3.out, by rw [HSC.out]; exact HNEW.out, HS3.out⟩
              case measure => simp [intOf]; omega
            · have HSC := Lib.hid (show scanB (leftP shop l) (bestG shop l) (k + 1) = r0 by rw [HST.out, if_neg (fun h => by rcases h with h | h; exact h1 h; exact h2 h)])
              go_wp2_with fail
              go_roundw
              case rel => exact ⟨k + 1, a, cap, v3, by omega, by go_num, by rw [HSC.out], by rw [HSC.out], HP3.out, HF3.out, HN3.out, by rw [HSC.out]; exact HOLD.out, HSO.out⟩
              case measure => simp [intOf]; omega
      · obtain rfl : k = shop.length := by omega
        clear c0
        obtain ⟨r0, hr0⟩ : ∃ r, scanB (leftP shop l) (bestG shop l) shop.length = r := ⟨_, rfl⟩
        rw [hr0] at HO HS ⊢
        have HR0 := Lib.hid hr0
        clear hr0
        go_wp2_with fail
        go_ret2
        rw [HR.out, HR0.out]
        exact ⟨a, cap, v', rfl, HO.out, HP.out, HFR.out, HN.out, HS.out⟩
set_option maxRecDepth 100000 in
set_option maxHeartbeats 4000000 in
theorem bestTurns_impl (a : Option Addr) (len cap : Nat) (shop : List (List (List Int))) (w : World) (h : ShopAt w (· < w.heap.size) a len shop) (hc : len ≤ cap) :
    Calls Try.prog 7 #[.slice a len cap] w (ResPostI w (bestI shop) (bestN shop)) := by
  go_enter Try.func7, Try.ntmps7
  go_wp2_with fail
  refine (planOf_any a len cap shop w h hc).mono ?_
  intro e w1 hp
  unfold PlanOfPost at hp
  cases hv : shopM shop
  · rw [hv] at hp
    obtain ⟨rfl, hd⟩ := hp
    go_wp2_with fail
    go_ret2
    unfold bestI bestT bestN
    rw [hv]
    exact ⟨none, 0, 0, rfl, ⟨rfl, Nat.zero_le _, fun h => absurd h (by omega)⟩, ⟨⟨Nat.zero_le _, fun h => absurd h (by omega)⟩, Nat.le_refl _⟩, hd.below _⟩
  · rw [hv, if_pos rfl] at hp
    obtain ⟨D, rfl, hpl, hB, hb1⟩ := hp
    have hr : bestI shop = nat7 (bestR shop []).1 ∧ bestN shop = (bestR shop []).2 := by
      have e : leftP shop [] = slen shop := by funext j; unfold leftP; simp
      unfold bestI bestT bestN bestR
      rw [hv, e]; exact ⟨rfl, rfl⟩
    have hbd := bestR_bd hv (l := []) (fun x hx => by cases hx) (fun j => by simp)
    have HC := Lib.hid (best_any hv _ w1 _ [] rfl hpl)
    have HR := Lib.hid hr
    have HV := Lib.hid hv
    have HB := Lib.hid hB
    have HB1 := Lib.hid hb1
    clear hr hv hB hb1 h hc hpl
    generalize bestR shop [] = r at hbd HC HR
    go_wp2_with fail
    refine HC.out.mono ?_
    rintro e w2 ⟨a2, cap2, v2, rfl, ho, hp2, hf2, hn2, hs2⟩
    have HO := Lib.hid ho
    have HF := Lib.hid hf2
    clear ho hp2 hf2 hn2 hs2
    go_wp2_with fail
    go_ret2
    rw [HR.out.1, HR.out.2]
    have hs := HB1.out.size
    have hbel : Below w.heap.size w w2 := HB1.out.trans (HF.out.below HB.out hs (fun b e => by simp [Value.ownBlock] at e))
    obtain ⟨a3, l3, c3, e3, h1, h2, h3, h4⟩ := resC_own (w := w) HO.out hs (by omega) hbel
    simp only [Ending.returned.injEq, Value.slice.injEq] at e3
    obtain ⟨rfl, rfl, rfl⟩ := e3
    exact ⟨_, _, _, rfl, h1, ⟨h2, h3⟩, h4⟩
end Go.Proofs.Ythmlgicjedhgfac
namespace Go.Proofs.Ythmlgicjedhgfac
open Go.RowKit
end Go.Proofs.Ythmlgicjedhgfac
namespace Go.Proofs.Ythmlgicjedhgfac
open Go.RowKit Go.WideShapes Go.Deep

-- lists of lists of lists, in the exact laws
def sizesB (shop : List (List (List Int))) : Prop := ∀ job ∈ shop, job.length ≤ 1048576 ∧ ∀ r ∈ job, r.length ≤ 1048576
def SizePost3 (w : World) (left : Int) (len : Nat) (shop : List (List (List Int))) (e : Ending) (w' : World) : Prop := ∃ q : Int, e = .returned (.int .i64 q) ∧ q ≤ left ∧ (0 ≤ q → (len : Int) ≤ left ∧ sizesB shop) ∧ w = w'
theorem szIntSSS_any (S : Nat → Prop) (a : Option Addr) (len cap : Nat) (shop : List (List (List Int))) (left : Int) (w : World) (h : ShopAt w S a len shop) (h0 : 0 ≤ left) (h1 : left ≤ 1048576) :
    Calls Try.prog 13 #[.slice a len cap, .int .i64 left] w (SizePost3 w left len shop) := by
  have hs := h.small
  by_cases hl : (len : Int) ≤ left
  · have HL := Lib.hid h.lenEq
    go_enter Try.func13, Try.ntmps13
    go_wp2
    go_loop [1, 5] (fun q i => ∃ (k : Nat) (n : Int), k ≤ len ∧ i = .int .i64 k ∧ q = .int .i64 n ∧ 0 ≤ n ∧ n ≤ left ∧ sizesB (shop.take k)) (fun _ i => len - (intOf i).toNat)
    case atStart => exact ⟨0, _, Nat.zero_le _, rfl, rfl, by omega, by omega, fun r hr => by simp at hr⟩
    case round =>
      obtain ⟨k, n, hk, rfl, rfl, hn0, hn1, hr⟩ := hrel
      have HR := Lib.hid hr
      clear hr
      by_cases hlt : k < len
      · obtain ⟨b, off, job, a', l, c, rfl, hx, hc, _, hri⟩ := h.get hlt
        have hsl := hri.small
        have HX := Lib.hid hx
        have HRL := Lib.hid hri.lenEq
        clear hx
        go_wp2_with fail
        refine (szIntSS_any _ a' l c job n _ hri hn0 (by omega)).mono ?_
        rintro e w2 ⟨q, rfl, hq1, hq2, rfl⟩
        by_cases hq0 : 0 ≤ q
        · have hq2' := hq2 hq0
          have HQ := Lib.hid hq2'
          clear hq2 hq2'
          go_wp2
          go_round
          case rel =>
            refine ⟨k + 1, q, by omega, by go_num, rfl, hq0, by omega, fun r' hr' => ?_⟩
            rw [take_get HX.out] at hr'
            rcases List.mem_append.1 hr' with h' | h'
            · exact HR.out r' h'
            · simp only [List.mem_singleton] at h'
              rw [h']
              exact ⟨by rw [HRL.out]; have := HQ.out.1; omega, fun r hr => by have := HQ.out.2 r hr; omega⟩
          case measure => simp [intOf]; omega
        · go_wp2
          go_ret
          exact ⟨_, rfl, by omega, fun h => absurd h (by omega), rfl⟩
      · go_wp2
        go_ret
        have hl' := HL.out
        have hr := HR.out
        rw [List.take_of_length_le (by omega)] at hr
        exact ⟨_, rfl, by omega, fun _ => ⟨hl, hr⟩, rfl⟩
  · go_enter Try.func13, Try.ntmps13
    go_wp2
    go_ret
    exact ⟨_, rfl, by omega, fun h => absurd h (by omega), rfl⟩
def eqSB (xs ys : List (List (List Int))) : Bool := decide (xs = ys)
set_option maxHeartbeats 400000 in
theorem eqIntSSS_any (S T : Nat → Prop) (a a2 : Option Addr) (len cap len2 cap2 : Nat) (xs ys : List (List (List Int))) (w : World) (h : ShopAt w S a len xs) (g : ShopAt w T a2 len2 ys) :
    Calls Try.prog 16 #[.slice a len cap, .slice a2 len2 cap2] w (EqPost w (eqSB xs ys)) := by
  have hs := h.small
  have hs2 := g.small
  by_cases hll : len = len2
  · subst hll
    go_enter Try.func16, Try.ntmps16
    go_wp2
    go_loopw [5] (fun i wr => ∃ k : Nat, k ≤ len ∧ i = .int .i64 k ∧ xs.take k = ys.take k ∧ Drew w wr) (fun i _ => len - (intOf i).toNat)
    case atStart => exact ⟨0, Nat.zero_le _, rfl, rfl, Drew.refl w⟩
    case round =>
      obtain ⟨k, hk, rfl, ht, hd⟩ := hrel
      have HT := Lib.hid ht
      clear ht
      by_cases hlt : k < len
      · obtain ⟨b, off, x, a3, l3, c3, rfl, hx, hc, _, hi⟩ := (Drew.shop h hd).get hlt
        obtain ⟨b2, off2, y, a4, l4, c4, rfl, hy, hc2, _, hi2⟩ := (Drew.shop g hd).get hlt
        have HX := Lib.hid hx
        have HY := Lib.hid hy
        clear hx hy
        have hcall : ∀ n, Calls Try.prog 41 #[.slice a3 l3 c3, .slice a4 l4 c4] (wr.drewN n) (fun e w' => e = .returned (.bool (eqRB x y)) ∧ ∃ m, w' = (wr.drewN n).drewN m) :=
          fun n => eqIntSS_any S T a3 a4 l3 c3 l4 c4 x y _ (Drew.rows hi ⟨n, rfl⟩) (Drew.rows hi2 ⟨n, rfl⟩)
        have HCALL := Lib.hid hcall
        clear hcall
        by_cases hxy : x = y
        · have hb : eqRB x y = true := decide_eq_true hxy
          have HXY := Lib.hid hxy
          clear hxy
          go_wp2
          go_quiet ((go_at_call 41; exact Calls.quiet_of (HCALL.out _)))
          go_wp2
          go_roundw
          case rel => exact ⟨k + 1, by omega, by go_num, take_eq_step HX.out (by rw [HXY.out]; exact HY.out) HT.out, hd.drew _⟩
          case measure => simp [intOf]; omega
        · have hb : eqRB x y = false := decide_eq_false hxy
          go_wp2
          go_quiet ((go_at_call 41; exact Calls.quiet_of (HCALL.out _)))
          go_wp2
          go_ret
          exact ⟨ret_bool (decide_eq_false (ne_of_get HX.out HY.out hxy)).symm, hd.drew _⟩
      · go_wp2
        go_ret
        have e1 := h.lenEq
        have e2 := g.lenEq
        have ht := HT.out
        rw [List.take_of_length_le (by omega), List.take_of_length_le (by omega)] at ht
        exact ⟨ret_bool (decide_eq_true ht).symm, hd⟩
  · have hne : xs ≠ ys := by rintro rfl; exact hll (h.lenEq.symm.trans g.lenEq)
    go_enter Try.func16, Try.ntmps16
    go_wp2
    go_ret
    exact ⟨ret_bool (decide_eq_false hne).symm, Drew.refl w⟩
theorem SameOn.shop {lo hi : Nat} {a b : World} {p : Option Addr} {len : Nat} {xs : List (List (List Int))} (h : SameOn lo hi a b) (x : ShopAt a (fun b => lo ≤ b ∧ b < hi) p len xs) : ShopAt b (fun b => lo ≤ b ∧ b < hi) p len xs :=
  x.to (fun k hk => ⟨hk, h k hk.1 hk.2⟩)
theorem shop_in {lo hi : Nat} {w : World} {a : Option Addr} {len : Nat} {xs : List (List (List Int))} (h : ShopAt w (fun b => lo ≤ b ∧ b < hi) a len xs) (hh : hi ≤ w.heap.size) : ShopAt w (· < w.heap.size) a len xs :=
  h.to (fun _ hb => ⟨Nat.lt_of_lt_of_le hb.2 hh, rfl⟩)
theorem shop_lift3 {w w1 : World} {a : Option Addr} {len : Nat} {shop : List (List (List Int))} (h : ShopAt w (· < w.heap.size) a len shop) (hb : Below w.heap.size w w1) : ShopAt w1 (· < w1.heap.size) a len shop :=
  (h.below hb).to (fun _ hb' => ⟨Nat.lt_of_lt_of_le hb' hb.size, rfl⟩)
theorem Try.infoInts3 : (Try.prog.info? 29).map (fun i => (i.zero, i.size, i.bytes)) = some (some (.slice none 0 0), 1, 24) := by kernel_rfl
/-- a copy of a shop so far: its top block holds k slices, and these read as the first k jobs, in blocks between -/
structure Copy3 (w wr : World) (len k : Nat) (shop : List (List (List Int))) : Prop where
  below : Below w.heap.size w wr
  lt : w.heap.size < wr.heap.size
  top : ∃ C : Array Value, wr.heap[w.heap.size]? = some (.cells C 29 (0, 0)) ∧ C.size = len ∧
    ∀ (j : Nat) (job : List (List Int)), j < k → shop[j]? = some job → ∃ g, C[j]? = some (.slice (some ⟨g, 0, none⟩) job.length job.length) ∧ w.heap.size < g ∧ g < wr.heap.size ∧ RowsAt wr (fun b => w.heap.size < b ∧ b < wr.heap.size) (some ⟨g, 0, none⟩) job.length job
theorem copy3_start (w : World) (len : Nat) (shop : List (List (List Int))) : Copy3 w (w.alloc (.cells (madeCells #[.slice none 0 0] len) 29)) len 0 shop :=
  ⟨(Below.refl _ _).alloc (Nat.le_refl _) _, by simp, ⟨_, heap_alloc_new w _, size_madeCells _ _, fun j r h => absurd h (by omega)⟩⟩
theorem Copy3.cell {w wr : World} {len k : Nat} {shop : List (List (List Int))} (h : Copy3 w wr len k shop) {j : Nat} (hj : j < len) : ∃ c, wr.cell? ⟨w.heap.size, j, none⟩ = some c ∧ wr.frozen? ⟨w.heap.size, j, none⟩ = false := by
  obtain ⟨C, h1, h2, _⟩ := h.top
  refine ⟨C[j]'(by omega), ?_, ?_⟩
  · simp only [World.cell?, h1]; exact Array.getElem?_eq_getElem _
  · simp [World.frozen?, h1]
theorem Copy3.later {w wr w2 : World} {len k : Nat} {shop : List (List (List Int))} (h : Copy3 w wr len k shop) (hb : Below wr.heap.size wr w2) : Copy3 w w2 len k shop := by
  obtain ⟨C, h1, h2, h3⟩ := h.top
  refine ⟨h.below.trans (hb.mono h.below.size), Nat.lt_of_lt_of_le h.lt hb.size, ⟨C, (hb.block _ h.lt).trans h1, h2, fun j job hj hjob => ?_⟩⟩
  obtain ⟨g, e1, e2, e3, e4⟩ := h3 j job hj hjob
  exact ⟨g, e1, e2, Nat.lt_of_lt_of_le e3 hb.size, e4.to fun b hb' => ⟨⟨hb'.1, Nat.lt_of_lt_of_le hb'.2 hb.size⟩, hb.block b hb'.2⟩⟩
theorem Copy3.step {w wr : World} {len k g : Nat} {shop : List (List (List Int))} {job : List (List Int)} (h : Copy3 w wr len k shop) (hk : k < len) (hjob : shop[k]? = some job) (hg : w.heap.size < g ∧ g < wr.heap.size) (hr : RowsAt wr (fun b => w.heap.size < b ∧ b < wr.heap.size) (some ⟨g, 0, none⟩) job.length job) :
    Copy3 w (wr.setCell ⟨w.heap.size, k, none⟩ (.slice (some ⟨g, 0, none⟩) job.length job.length)) len (k + 1) shop := by
  obtain ⟨C, h1, h2, h3⟩ := h.top
  have hsz : (wr.setCell ⟨w.heap.size, k, none⟩ (.slice (some ⟨g, 0, none⟩) job.length job.length)).heap.size = wr.heap.size := by simp [World.setCell]
  have hot : ∀ b, b ≠ w.heap.size → (wr.setCell ⟨w.heap.size, k, none⟩ (.slice (some ⟨g, 0, none⟩) job.length job.length)).heap[b]? = wr.heap[b]? := fun b hb => Below.heap_setCell _ _ _ _ hb
  refine ⟨h.below.setCell (Nat.le_refl _) _, by rw [hsz]; exact h.lt, ⟨C.setIfInBounds k (.slice (some ⟨g, 0, none⟩) job.length job.length), heap_setCell_same wr w.heap.size k C _ _ h1, by simpa using h2, fun j job' hj hjob' => ?_⟩⟩
  rw [Array.getElem?_setIfInBounds, hsz]
  by_cases e : k = j
  · subst e
    rw [if_pos rfl, if_pos (by omega)]
    have e' := hjob.symm.trans hjob'
    simp only [Option.some.injEq] at e'
    subst e'
    exact ⟨g, rfl, hg.1, hg.2, hr.to fun b hb => ⟨hb, hot b (by omega)⟩⟩
  · rw [if_neg e]
    obtain ⟨g', e1, e2, e3, e4⟩ := h3 j job' (by omega) hjob'
    exact ⟨g', e1, e2, e3, e4.to fun b hb => ⟨hb, hot b (by omega)⟩⟩
def CopyS3 (w : World) (len : Nat) (shop : List (List (List Int))) (e : Ending) (w' : World) : Prop := e = .returned (.slice (some ⟨w.heap.size, 0, none⟩) len len) ∧
  ShopAt w' (fun b => w.heap.size ≤ b ∧ b < w'.heap.size) (some ⟨w.heap.size, 0, none⟩) len shop ∧ w.heap.size < w'.heap.size ∧ Below w.heap.size w w'
set_option maxHeartbeats 400000 in
theorem toShop_new (a : Option Addr) (len cap : Nat) (shop : List (List (List Int))) (w : World) (h : ShopAt w (· < w.heap.size) a len shop) (hl : len ≤ 1048576) (hr : sizesB shop) :
    Calls Try.prog 14 #[.slice a len cap] w (CopyS3 w len shop) := by
  have HL := Lib.hid h.lenEq
  have hmk := fun w => run_make_row' (P := Try.prog) 23 29 (.slice none 0 0) 24 Try.underlying23 Try.infoInts3 rfl .i64 .i64 len (by omega) (by omega) w
  go_enter Try.func14, Try.ntmps14
  go_wp2
  clear hmk
  go_loopw [4] (fun i wr => ∃ (k : Nat), k ≤ len ∧ i = .int .i64 k ∧ Copy3 w wr len k shop) (fun i _ => len - (intOf i).toNat)
  case atStart => exact ⟨0, Nat.zero_le _, rfl, copy3_start w len shop⟩
  case round =>
    obtain ⟨k, hk, rfl, hco⟩ := hrel
    by_cases hlt : k < len
    · have hw := h.below hco.below
      obtain ⟨b, off, job, a', l, c, rfl, hx, hc, _, hri⟩ := hw.get hlt
      have hjl := hr job (List.mem_of_getElem? hx)
      have hl' : l ≤ 1048576 := by rw [← hri.lenEq]; exact hjl.1
      have hws := hco.lt
      have HX := Lib.hid hx
      have HRL := Lib.hid hri.lenEq
      clear hx
      have HTO := Lib.hid (toRows_new a' l c job wr (hri.to fun b hb => ⟨by omega, rfl⟩) hl' hjl.2)
      have HCO := Lib.hid hco
      obtain ⟨c0, hc1, hf1⟩ := hco.cell hlt
      clear hco
      go_wp2_with fail
      refine HTO.out.mono ?_
      rintro e w3 ⟨rfl, hrest⟩
      have h3 := hrest.1
      have hlt3 := hrest.2.1
      have hb3 : Below wr.heap.size wr w3 := by first | exact hrest.2.2 | exact hrest.2.2.1
      clear hrest
      have hco3 := HCO.out.later hb3
      obtain ⟨c1, hc2, hf2⟩ := hco3.cell hlt
      have HST := Lib.hid (hco3.step hlt HX.out ⟨hws, hlt3⟩ (by rw [HRL.out]; exact h3.to fun b hb => ⟨⟨by omega, hb.2⟩, rfl⟩))
      rw [HRL.out] at HST
      clear hco3 h3 hb3 hc1 hf1
      go_wp2
      go_roundw
      case rel => exact ⟨k + 1, by omega, by go_num, HST.out⟩
      case measure => simp [intOf]; omega
    · obtain rfl : k = len := by omega
      have HCO := Lib.hid hco
      clear hco
      go_wp2
      go_ret
      have hll := HL.out
      obtain ⟨C, h1, h2, h3⟩ := HCO.out.top
      refine ⟨rfl, ⟨hll, by omega, fun h0 => ⟨w.heap.size, 0, rfl, ⟨Nat.le_refl _, HCO.out.lt⟩, fun i job hi => ?_⟩⟩, HCO.out.lt, HCO.out.below⟩
      have hil : i < k := by
        have := (List.getElem?_eq_some_iff.1 hi).1
        omega
      obtain ⟨g, e1, e2, e3, e4⟩ := h3 i job hil hi
      refine ⟨some ⟨g, 0, none⟩, job.length, job.length, ?_, Nat.le_refl _, e4.to fun b hb => ⟨⟨by omega, hb.2⟩, rfl⟩⟩
      rw [Nat.zero_add]
      simp only [World.cell?, h1]
      exact e1
end Go.Proofs.Ythmlgicjedhgfac
