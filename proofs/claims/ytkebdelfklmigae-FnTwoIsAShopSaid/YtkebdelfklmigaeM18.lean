import Derived.Test.YtkebdelfklmigaeRows
import Derived.WalkKit
import Derived.LoopTactic
import Derived.Outline
import Derived.WalkSpells
import Derived.WalkLawsBesides
import Derived.ProofKit
import Derived.Lib.Hide
import Derived.IntWalk
import Derived.Deep.LoopGhost
import Derived.Test.YtkebdelfklmigaeM0
import Derived.Test.YtkebdelfklmigaeM1
import Derived.Test.YtkebdelfklmigaeM2
import Derived.Test.YtkebdelfklmigaeM4
import Derived.Test.YtkebdelfklmigaeM12
import Derived.Test.YtkebdelfklmigaeM13
import Derived.Test.YtkebdelfklmigaeM16
import Derived.Test.YtkebdelfklmigaeM14
import Derived.Test.YtkebdelfklmigaeM15
import Derived.Test.YtkebdelfklmigaeM17
import Derived.Defers
namespace Go.Proofs.Ytkebdelfklmigae
open Go.RowKit Go.WideShapes

/-- the turns lie in a block that is new -/
def NewV (w : World) (v : Value) : Prop := ∀ b, v.ownBlock = some b → w.heap.size ≤ b
theorem NewV.next {w wr : World} {v v' : Value} (h : NewV w v) (hs : w.heap.size ≤ wr.heap.size) (g : SameOrNew wr v v') : NewV w v' := fun b e => by
  rcases g with h1 | h1
  · exact h b (by rw [← h1]; exact e)
  · have := h1 b e; omega
theorem newV_nil (w : World) : NewV w (.slice none 0 0) := fun b e => by simp [Value.ownBlock] at e
theorem resC_own {w w' : World} {B k cp : Nat} {ax : Option Addr} {xs : List Int} (h : w'.ownsRow B 3 1 (.slice ax k cp) k (xs.map (.int .i64))) (hB : w.heap.size ≤ B) (hk : k ≤ 1048576) (hb : Below w.heap.size w w') :
    ResPostC w xs (.returned (.slice ax k cp)) w' := by
  obtain ⟨a, c, e, hc, hi⟩ := own_ints h (by omega)
  simp only [Value.slice.injEq, true_and] at e
  obtain ⟨rfl, rfl⟩ := e
  refine ⟨_, _, _, rfl, hi.to (fun b hb => ⟨⟨by omega, hb.2⟩, rfl⟩), ⟨by omega, fun h0 => ?_⟩, hc, hb⟩
  obtain ⟨g, cap, e, hg1, hg2⟩ := h.form h0
  simp only [Value.slice.injEq, true_and] at e
  obtain ⟨rfl, rfl⟩ := e
  refine ⟨g, 0, rfl, ⟨by omega, hg2⟩, fun i hi => ?_⟩
  rw [Nat.zero_add]
  have hl : xs.length = k := by have := h.1; simpa using this
  exact ⟨⟨_, by rw [h.cellAt i (by simp; omega)]; exact List.getElem?_eq_getElem (by simp; omega)⟩, h.frozenAt i⟩
section
variable {w : World} {D : PD} {shop : List (List (List Int))} {v : Value} {l : List Nat}
theorem nextStep_at (h : PlanAt w D shop v l) (hv : shopM shop = true) (j : Nat) (hj : j < shop.length) :
    Calls Try.prog 72 #[.pointer (some ⟨D.P, 0, none⟩), .int .i64 j] w (DrewPost w (D.ptr (nextO (fun j => l.count j) shop j))) := by
  obtain ⟨bg, on, hm, _⟩ := h.mem
  exact nextStep_any hm hv j hj (h.cnt j)
theorem isDone_at (h : PlanAt w D shop v l) (hv : shopM shop = true) :
    Calls Try.prog 69 #[.pointer (some ⟨D.P, 0, none⟩)] w (DrewPost w (.bool (doneP shop (fun j => l.count j)))) := by
  obtain ⟨bg, on, hm, _⟩ := h.mem
  exact isDone_any hm hv h.cnt
end
end Go.Proofs.Ytkebdelfklmigae
namespace Go.Proofs.Ytkebdelfklmigae
open Go.RowKit Go.WideShapes

-- the best turns that go on from some
def leftP (shop : List (List (List Int))) (l : List Nat) (j : Nat) : Nat := slen shop j - l.count j
theorem leftP_snoc (shop : List (List (List Int))) (l : List Nat) (j : Nat) : leftP shop (l ++ [j]) = setN (leftP shop l) j (leftP shop l j - 1) := by
  funext i
  unfold leftP
  rw [count_snoc]
  by_cases e : i = j
  · subst e; rw [setN_at, if_pos rfl]; omega
  · rw [setN_ne _ _ e, if_neg e]
def bestR (shop : List (List (List Int))) (l : List Nat) : List Nat × Int := bestFS (valB shop) shop.length (sumLeft (leftP shop l) shop.length) l (leftP shop l)
def bestG (shop : List (List (List Int))) (l : List Nat) (j : Nat) : List Nat × Int := bestFS (valB shop) shop.length (sumLeft (leftP shop l) shop.length - 1) (l ++ [j]) (setN (leftP shop l) j (leftP shop l j - 1))
theorem bestG_is {shop : List (List (List Int))} {l : List Nat} {j : Nat} (hj : j < shop.length) (h : leftP shop l j ≠ 0) : bestG shop l j = bestR shop (l ++ [j]) := by
  unfold bestG bestR
  have := sumLeft_set h shop.length hj
  rw [leftP_snoc, ← this, Nat.add_sub_cancel]
theorem bestR_go {shop : List (List (List Int))} {l : List Nat} (h : sumLeft (leftP shop l) shop.length ≠ 0) : bestR shop l = scanB (leftP shop l) (bestG shop l) shop.length := by
  unfold bestR bestG
  obtain ⟨f, hf⟩ : ∃ f, sumLeft (leftP shop l) shop.length = f + 1 := ⟨_, (Nat.succ_pred_eq_of_pos (Nat.pos_of_ne_zero h)).symm⟩
  rw [hf, bestFS]; rfl
theorem bestR_end {shop : List (List (List Int))} {l : List Nat} (h : sumLeft (leftP shop l) shop.length = 0) : bestR shop l = (l, valB shop l) := by
  unfold bestR; rw [h]; rfl
theorem sumLeft_none {left : Nat → Nat} : ∀ n, (∀ j, j < n → left j = 0) → sumLeft left n = 0
  | 0, _ => rfl
  | n + 1, h => by rw [sumLeft, sumLeft_none n (fun j hj => h j (by omega)), h n (by omega)]
theorem bestR_bd {shop : List (List (List Int))} (hv : shopM shop = true) {l : List Nat} (hj : ∀ x ∈ l, x < shop.length) (hc : ∀ j, l.count j ≤ slen shop j) : 0 ≤ (bestR shop l).2 ∧ (bestR shop l).2 ≤ 81 ∧ (bestR shop l).1.length ≤ 9 := by
  obtain ⟨t, e, ⟨h1, h2⟩, _⟩ := bestFS_is (valB_nn hv) (n := shop.length) (sumLeft (leftP shop l) shop.length) l (leftP shop l) rfl
  have hlen := turnsOf_len hv (l := l ++ t) (fun x hx => by
    rcases List.mem_append.1 hx with hx | hx
    · exact hj x hx
    · exact h1 x hx) (fun j => by
    rw [List.count_append]
    by_cases h : j < shop.length
    · have := h2 j h; have := hc j; unfold leftP at *; omega
    · rw [List.count_eq_zero.2 (fun hm => h (h1 j hm))]; exact hc j)
  have e2 : bestR shop l = (l ++ t, valB shop (l ++ t)) := e
  rw [e2]
  have hb := runS_bd (m := smach shop) (fun j k => stime_bd hv j k) (l ++ t)
  refine ⟨valB_nn hv _, ?_, hlen⟩
  show (runS (smach shop) (stime shop) shop0 (l ++ t)).all ≤ 81
  omega
/-- the best turns r, in memory of its own; the plan as it was -/
def BestPost (w : World) (D : PD) (shop : List (List (List Int))) (v : Value) (l : List Nat) (r : List Nat × Int) (e : Ending) (w' : World) : Prop := ∃ (a : Option Addr) (cap : Nat) (v' : Value),
  e = .returned (.tuple #[.slice a r.1.length cap, .int .i64 r.2]) ∧ w'.ownsRow w.heap.size 3 1 (.slice a r.1.length cap) r.1.length ((nat7 r.1).map (.int .i64)) ∧
  PlanAt w' D shop v' l ∧ PFr D v w w' ∧ SameOrNew w v v' ∧ ((Value.slice a r.1.length cap).ownBlock = none ∨ (Value.slice a r.1.length cap).ownBlock ≠ v'.ownBlock)
theorem SameOrNew.trans {w w1 : World} {v v1 v2 : Value} (h : SameOrNew w v v1) (hs : w.heap.size ≤ w1.heap.size) (g : SameOrNew w1 v1 v2) : SameOrNew w v v2 := by
  rcases g with e | e
  · rcases h with e1 | e1
    · exact .inl (e.trans e1)
    · exact .inr (fun b hb => e1 b (by rw [← e]; exact hb))
  · exact .inr (fun b hb => by have := e b hb; omega)
/-- what is the call's own, and not the plan's, lies on -/
theorem own_pfr {w w' : World} {B e n : Nat} {D : PD} {u v : Value} {xs : List Value} (h : w.ownsRow B e 1 u n xs) (hf : PFr D v w w') (hB : D.top ≤ B) (hn : u.ownBlock = none ∨ u.ownBlock ≠ v.ownBlock) : w'.ownsRow B e 1 u n xs := by
  refine ⟨h.1, ?_⟩
  rcases h.2 with h1 | ⟨g, cap, cur, e1, h1, h2, h3⟩
  · exact .inl h1
  · refine .inr ⟨g, cap, cur, e1, h1, ?_, h3⟩
    rw [hf.rest g (lt_heap h2) (.inr (by omega)) (fun e2 => ?_)]
    · exact h2
    · rcases hn with h5 | h5
      · rw [e1] at h5; cases h5
      · exact h5 (by rw [e1, e2]; rfl)
theorem clone_nil (w : World) : Calls Try.prog 70 #[.slice none 0 0] w fun e w' => e = .returned (.slice none 0 0) ∧ w' = w := by
  have q22 : ∀ (w : World) (a : Option Addr) (n c n' c' : Nat), (binOp .eql 23 (.slice a n c) (.slice none n' c')).run Try.prog w = .ok (.bool a.isNone) w := fun w a n c n' c' => Lib.run_eql_slice_nil w _ _ a n c n' c' Try.underlying23
  go_enter Try.func70, Try.ntmps70
  go_wp2
  go_ret
  exact ⟨rfl, rfl⟩
/-- a copy of the turns -/
theorem clone_turns {w : World} {D : PD} {v : Value} {l : List Nat} (h : TurnsOwn w D v l) (h9 : l.length ≤ 9) :
    Calls Try.prog 70 #[v] w fun e w' => ∃ a cap, e = .returned (.slice a l.length cap) ∧ w'.ownsRow w.heap.size 3 1 (.slice a l.length cap) l.length ((nat7 l).map (.int .i64)) ∧ Below w.heap.size w w' := by
  rcases h.2 with ⟨rfl, h0⟩ | ⟨g, cap, cur, rfl, hg, hh, _⟩
  · refine (clone_nil w).mono ?_
    rintro e w' ⟨rfl, rfl⟩
    have hl : l = [] := List.length_eq_zero_iff.1 h0
    subst hl
    exact ⟨none, 0, rfl, World.ownsRow_nil _ _ _ _, Below.refl _ _⟩
  · obtain ⟨a, c, e, hc, hi⟩ := own_ints h (by omega)
    simp only [Value.slice.injEq, true_and] at e
    obtain ⟨rfl, rfl⟩ := e
    refine (clone_any _ g 0 l.length cap _ w hi (fun b hb => hb.2) (by omega)).mono ?_
    rintro e w' ⟨a, len, cap', rfl, hs, ho, hb⟩
    have hl : len = l.length := by have := ho.1; simp at this; exact this.symm
    subst hl
    exact ⟨a, cap', rfl, ho, hb⟩
set_option maxRecDepth 100000 in
set_option maxHeartbeats 4000000 in
theorem bestWith_any {w : World} {D : PD} {shop : List (List (List Int))} {v : Value} {l : List Nat} (h : PlanAt w D shop v l) (hv : shopM shop = true) {j : Nat} (hj : j < shop.length) (hk : l.count j < slen shop j)
    (hbest : ∀ (w : World) (v : Value), PlanAt w D shop v (l ++ [j]) → Calls Try.prog 54 #[.pointer (some ⟨D.P, 0, none⟩)] w (BestPost w D shop v (l ++ [j]) (bestR shop (l ++ [j])))) :
    Calls Try.prog 73 #[.pointer (some ⟨D.P, 0, none⟩), D.ptr (some (j, l.count j))] w (BestPost w D shop v l (bestR shop (l ++ [j]))) := by
  have HBEST := Lib.hid hbest
  have HT := Lib.hid h.top
  clear hbest
  go_enter_defers Try.func73, Try.ntmps73
  go_wp2_with fail
  refine (put_any h hv hj hk).mono ?_
  rintro e w1 ⟨rfl, v1, hp1, hf1, hn1⟩
  have HP1 := Lib.hid hp1
  have HF1 := Lib.hid hf1
  have HN1 := Lib.hid hn1
  clear hp1 hf1 hn1 h
  go_wp2_with fail
  refine (HBEST.out w1 v1 HP1.out).mono ?_
  rintro e w2 ⟨a, cap, v2, rfl, ho2, hp2, hf2, hn2, hs2⟩
  have HO2 := Lib.hid ho2
  have HP2 := Lib.hid hp2
  have HF2 := Lib.hid hf2
  have HN2 := Lib.hid hn2
  have HS2 := Lib.hid hs2
  clear ho2 hp2 hf2 hn2 hs2
  go_wp2_with fail
  refine leaves_cons (f := 82) (args := #[.pointer (some ⟨D.P, 0, none⟩), D.ptr (some (j, l.count j))]) (by simp) (by simp [go_sem]) ?_
  refine (putBack_any HP2.out hv .returning).mono ?_
  rintro e u' w3 ⟨rfl, rfl, v3, hp3, hf3, hv3⟩
  have HP3 := Lib.hid hp3
  have HF3 := Lib.hid hf3
  have HV3 := Lib.hid hv3
  clear hp3 hf3 hv3
  have hfin : BestPost w D shop v l (bestR shop (l ++ [j])) (.returned (.tuple #[.slice a (bestR shop (l ++ [j])).1.length cap, .int .i64 (bestR shop (l ++ [j])).2])) w3 := by
    have hs1 := HF1.out.size
    have hs2 := HF2.out.size
    have ht := HT.out
    have hn2 : SameOrNew w v v2 := by
      rcases HN2.out with e | e
      · rcases HN1.out with e1 | e1
        · exact .inl (e.trans e1)
        · exact .inr (fun b hb => e1 b (by rw [← e]; exact hb))
      · exact .inr (fun b hb => by have := e b hb; omega)
    refine ⟨a, cap, v3, rfl, own_base (own_pfr HO2.out HF3.out (by omega) HS2.out) hs1, HP3.out, ?_, ?_, by rw [HV3.out]; exact HS2.out⟩
    · refine (HF1.out.trans HF2.out HN1.out).trans HF3.out ?_
      exact hn2
    · rcases hn2 with e | e
      · exact .inl (HV3.out.trans e)
      · exact .inr (fun b hb => e b (by rw [← HV3.out]; exact hb))
  have HFIN := Lib.hid hfin
  clear hfin
  refine ⟨_, results_tmp2 rfl _ _ _, ?_⟩
  simp
  exact HFIN.out
set_option maxRecDepth 100000 in
set_option maxHeartbeats 4000000 in
theorem best_any {D : PD} {shop : List (List (List Int))} (hv : shopM shop = true) : ∀ (f : Nat) (w : World) (v : Value) (l : List Nat), sumLeft (leftP shop l) shop.length = f → PlanAt w D shop v l →
    Calls Try.prog 54 #[.pointer (some ⟨D.P, 0, none⟩)] w (BestPost w D shop v l (bestR shop l)) := by
  intro f
  induction f with
  | zero =>
    intro w v l hf h
    have hz := sumLeft_zero shop.length hf
    have hdn : doneP shop (fun j => l.count j) = true := by unfold doneP; rw [List.all_eq_true]; exact fun j hj => decide_eq_true (show slen shop j ≤ l.count j by have := hz j (List.mem_range.1 hj); unfold leftP at this; omega)
    have HR := Lib.hid (bestR_end hf)
    have HDONE := Lib.hid (isDone_at h hv)
    have H := Lib.hid h
    rw [hdn] at HDONE
    clear h hf hz hdn
    go_enter Try.func54, Try.ntmps54
    go_wp2_with fail
    refine HDONE.out.mono ?_
    rintro e w1 ⟨rfl, hd1⟩
    have hp1 := H.out.drew hd1
    obtain ⟨bg, on, hm, _, _⟩ := hp1.mem
    obtain ⟨_, _, _, _, _, p5⟩ := hm.cells
    have HP1 := Lib.hid hp1
    have HD1 := Lib.hid hd1
    have HC := Lib.hid (clone_turns hp1.own (hp1.len hv))
    clear hm hp1 hd1
    go_wp2_with fail
    refine HC.out.mono ?_
    rintro e w2 ⟨a, cap, rfl, ho, hb⟩
    have htop := HP1.out.top
    have hp2 : PlanAt w2 D shop v l := by
      obtain ⟨bg, on, h1, h2, h3⟩ := HP1.out.mem
      have hs := hb.size
      exact ⟨⟨bg, on, h1.to (fun b _ hb2 => hb.block b (by omega)), h2, h3⟩, own_later HP1.out.own hb, by omega, HP1.out.jobs, HP1.out.cnt⟩
    have HP2 := Lib.hid hp2
    have HB := Lib.hid hb
    have HO := Lib.hid ho
    clear hp2 hb ho
    go_wp2_with fail
    refine (planEnd_any HP2.out hv).mono ?_
    rintro e w3 ⟨rfl, hd3⟩
    have HD3 := Lib.hid hd3
    clear hd3
    go_wp2_with fail
    go_ret2
    rw [HR.out]
    have hs1 : w1.heap.size = w.heap.size := HD1.out.size
    refine ⟨a, cap, v, rfl, ?_, HP2.out.drew HD3.out, ?_, .inl rfl, ?_⟩
    · obtain ⟨q, rfl⟩ := HD3.out
      exact own_base (own_drewN HO.out q) (by omega)
    · refine PFr.drew ?_ HD3.out
      have := HB.out
      refine ⟨this.os.trans (HD1.out.below 0).os, this.tape.trans (HD1.out.below 0).tape, this.output.trans (HD1.out.below 0).output, by have := this.size; omega, fun b hb _ _ => ?_⟩
      rw [this.block b (by omega)]
      obtain ⟨q, rfl⟩ := HD1.out
      rfl
    · cases ha : (Value.slice a l.length cap).ownBlock with
      | none => exact .inl rfl
      | some b =>
        right
        intro e
        have h1 := (HO.out.lt b ha).1
        have h2 := (HP1.out.own.lt b e.symm).2
        omega
  | succ f ih =>
    intro w v l hf h
    have hne : sumLeft (leftP shop l) shop.length ≠ 0 := by omega
    obtain ⟨j0, hj0, hl0⟩ := sumLeft_pos shop.length hne
    have hdn : doneP shop (fun j => l.count j) = false := by
      unfold doneP; rw [List.all_eq_false]
      exact ⟨j0, List.mem_range.2 hj0, by unfold leftP at hl0; simp; omega⟩
    have HR := Lib.hid (bestR_go hne)
    have HDONE := Lib.hid (isDone_at h hv)
    have H := Lib.hid h
    have HF := Lib.hid hf
    have HL0 := Lib.hid (And.intro hj0 hl0)
    have hl3 := (shop_get hv).1
    have HW := Lib.hid (fun (w : World) (v : Value) (j : Nat) (hp : PlanAt w D shop v l) (hj : j < shop.length) (hk : l.count j < slen shop j) => bestWith_any hp hv hj hk (fun w v hp => ih w v (l ++ [j]) (by
      have h1 : leftP shop l j ≠ 0 := by unfold leftP; omega
      have := sumLeft_set h1 shop.length hj
      rw [leftP_snoc]; omega) hp))
    rw [hdn] at HDONE
    clear h hf hdn hne hj0 hl0 ih
    go_enter Try.func54, Try.ntmps54
    go_wp2_with fail
    refine HDONE.out.mono ?_
    rintro e w1 ⟨rfl, hd1⟩
    have hp1 := H.out.drew hd1
    obtain ⟨bg, on, hm, _, _⟩ := hp1.mem
    have c0 := hm.cells.1
    have HP1 := Lib.hid hp1
    have HD1 := Lib.hid hd1
    have HTW := Lib.hid H.out.top
    have HFR1 := Lib.hid ((PFr.refl D v w).drew hd1)
    clear hm hp1 hd1
    go_wp2_with fail
    go_loopw [4, 5, 24] (fun b m i wr => ∃ (k : Nat) (a : Option Addr) (cap : Nat) (v' : Value), k ≤ shop.length ∧ i = .int .i64 k ∧ b = .slice a (scanB (leftP shop l) (bestG shop l) k).1.length cap ∧ m = .int .i64 (scanB (leftP shop l) (bestG shop l) k).2 ∧
      PlanAt wr D shop v' l ∧ PFr D v w wr ∧ SameOrNew w v v' ∧ wr.ownsRow w.heap.size 3 1 b (scanB (leftP shop l) (bestG shop l) k).1.length ((nat7 (scanB (leftP shop l) (bestG shop l) k).1).map (.int .i64)) ∧ (b.ownBlock = none ∨ b.ownBlock ≠ v'.ownBlock)) (fun _ _ i _ => shop.length - (intOf i).toNat)
    case atStart => exact ⟨0, none, 0, v, Nat.zero_le _, rfl, rfl, rfl, HP1.out, HFR1.out, .inl rfl, World.ownsRow_nil _ _ _ _, .inl rfl⟩
    case round =>
      obtain ⟨k, a, cap, v', hk, rfl, rfl, rfl, hp, hf, hn, ho, hs⟩ := hrel
      have HP := Lib.hid hp
      have HFR := Lib.hid hf
      have HN := Lib.hid hn
      have HO := Lib.hid ho
      have HS := Lib.hid hs
      clear hp hf hn ho hs HP1
      by_cases hkl : k < shop.length
      · have HNX := Lib.hid (nextStep_at HP.out hv k hkl)
        by_cases hlk : leftP shop l k = 0
        · have hno : nextO (fun j => l.count j) shop k = none := if_neg (show ¬ l.count k < slen shop k by unfold leftP at hlk; omega)
          rw [hno] at HNX
          have HSC := Lib.hid (show scanB (leftP shop l) (bestG shop l) (k + 1) = scanB (leftP shop l) (bestG shop l) k by rw [scanB, if_pos hlk])
          clear hlk hno c0
          go_wp2_with fail
          refine HNX.out.mono ?_
          rintro e w2 ⟨rfl, hd2⟩
          have HD2 := Lib.hid hd2
          clear hd2
          show _
          unfold PD.ptr PD.addr
          go_wp2_with fail
          go_roundw
          case rel =>
            refine ⟨k + 1, a, cap, v', by omega, by go_num, by rw [HSC.out], by rw [HSC.out], HP.out.drew HD2.out, HFR.out.drew HD2.out, HN.out, ?_, HS.out⟩
            rw [HSC.out]
            obtain ⟨q, rfl⟩ := HD2.out
            exact own_drewN HO.out q
          case measure => simp [intOf]; omega
        · have hlt : l.count k < slen shop k := by unfold leftP at hlk; omega
          have hno : nextO (fun j => l.count j) shop k = some (k, l.count k) := if_pos hlt
          rw [hno] at HNX
          have hgk := bestG_is hkl hlk
          have hbd := bestR_bd hv (l := l ++ [k]) (fun x hx => by
            rcases List.mem_append.1 hx with hx | hx
            · exact HP.out.jobs x hx
            · simp only [List.mem_singleton] at hx; subst hx; exact hkl) (fun j => by
            rw [count_snoc]; have := HP.out.cnt j; split
            · rename_i e; subst e; omega
            · exact this)
          have hstep : scanB (leftP shop l) (bestG shop l) (k + 1) = if (scanB (leftP shop l) (bestG shop l) k).2 < 0 ∨ (bestR shop (l ++ [k])).2 < (scanB (leftP shop l) (bestG shop l) k).2 then bestR shop (l ++ [k]) else scanB (leftP shop l) (bestG shop l) k := by
            rw [scanB, if_neg hlk, hgk]
          have HST := Lib.hid hstep
          have HLT := Lib.hid hlt
          have HKL := Lib.hid hkl
          clear hlk hno hgk hstep hlt c0
          obtain ⟨r0, hr0⟩ : ∃ r, scanB (leftP shop l) (bestG shop l) k = r := ⟨_, rfl⟩
          rw [hr0] at HST HO HS ⊢
          clear hr0
          go_wp2_with fail
          refine HNX.out.mono ?_
          rintro e w2 ⟨rfl, hd2⟩
          have HD2 := Lib.hid hd2
          have HP2 := Lib.hid (HP.out.drew hd2)
          have HF2 := Lib.hid (HFR.out.drew hd2)
          have HO2 := Lib.hid (show w2.ownsRow w.heap.size 3 1 (.slice a r0.1.length cap) r0.1.length ((nat7 r0.1).map (.int .i64)) by obtain ⟨q, rfl⟩ := hd2; exact own_drewN HO.out q)
          clear hd2
          have HCALL := Lib.hid (HW.out w2 v' k HP2.out hkl HLT.out)
          generalize bestR shop (l ++ [k]) = r1 at hbd HST HCALL
          have hcall := HCALL.out
          show _
          unfold PD.ptr PD.addr at hcall ⊢
          have HCALL2 := Lib.hid hcall
          clear hcall
          go_wp2_with fail
          refine HCALL2.out.mono ?_
          rintro e w3 ⟨a3, cap3, v3, rfl, ho3, hp3, hf3, hn3, hs3⟩
          have hs2 : w.heap.size ≤ w2.heap.size := HF2.out.size
          have HP3 := Lib.hid hp3
          have HF3 := Lib.hid (HF2.out.trans hf3 HN.out)
          have HN3 := Lib.hid (HN.out.trans hs2 hn3)
          have HNEW := Lib.hid (own_base ho3 hs2)
          have HOLD := Lib.hid (own_pfr HO2.out hf3 HTW.out HS.out)
          have HS3 := Lib.hid hs3
          have HSO := Lib.hid (show (Value.slice a r0.1.length cap).ownBlock = none ∨ (Value.slice a r0.1.length cap).ownBlock ≠ v3.ownBlock by
            cases ha : (Value.slice a r0.1.length cap).ownBlock with
            | none => exact .inl rfl
            | some b =>
              right
              intro e
              rcases hn3 with e1 | e1
              · rcases HS.out with e2 | e2
                · rw [ha] at e2; cases e2
                · exact e2 (by rw [ha, e, e1])
              · have h1 := e1 b e.symm
                have h2 := (HO2.out.lt b ha).2
                omega)
          clear ho3 hp3 hf3 hn3 hs3
          by_cases h1 : r0.2 < 0
          · have HSC := Lib.hid (show scanB (leftP shop l) (bestG shop l) (k + 1) = r1 by rw [HST.out, if_pos (.inl h1)])
            go_wp2_with fail
            go_roundw
            case rel => exact ⟨k + 1, a3, cap3, v3, by omega, by go_num, by rw [HSC.out], by rw [HSC.out], HP3.out, HF3.out, HN3.out, by rw [HSC.out]; exact HNEW.out, HS3.out⟩
            case measure => simp [intOf]; omega
          · by_cases h2 : r1.2 < r0.2
            · have HSC := Lib.hid (show scanB (leftP shop l) (bestG shop l) (k + 1) = r1 by rw [HST.out, if_pos (.inr h2)])
              go_wp2_with fail
              go_roundw
              case rel => exact ⟨k + 1, a3, cap3, v3, by omega, by go_num, by rw [HSC.out], by rw [HSC.out], HP3.out, HF3.out, HN3.out, by rw [HSC.out]; exact HNEW.out, HS3.out⟩
              case measure => simp [intOf]; omega
            · have HSC := Lib.hid (show scanB (leftP shop l) (bestG shop l) (k + 1) = r0 by rw [HST.out, if_neg (fun h => by rcases h with h | h; exact h1 h; exact h2 h)])
              go_wp2_with fail
              go_roundw
              case rel => exact ⟨k + 1, a, cap, v3, by omega, by go_num, by rw [HSC.out], by rw [HSC.out], HP3.out, HF3.out, HN3.out, by rw [HSC.out]; exact HOLD.out, HSO.out⟩
              case measure => simp [intOf]; omega
      · obtain rfl : k = shop.length := by omega
        clear c0
        obtain ⟨r0, hr0⟩ : ∃ r, scanB (leftP shop l) (bestG shop l) shop.length = r := ⟨_, rfl⟩
        rw [hr0] at HO HS ⊢
        have HR0 := Lib.hid hr0
        clear hr0
        go_wp2_with fail
        go_ret2
        rw [HR.out, HR0.out]
        exact ⟨a, cap, v', rfl, HO.out, HP.out, HFR.out, HN.out, HS.out⟩
set_option maxRecDepth 100000 in
set_option maxHeartbeats 4000000 in
theorem bestTurns_impl (a : Option Addr) (len cap : Nat) (shop : List (List (List Int))) (w : World) (h : ShopAt w (· < w.heap.size) a len shop) (hc : len ≤ cap) :
    Calls Try.prog 24 #[.slice a len cap] w (ResPostI w (bestI shop) (bestN shop)) := by
  go_enter Try.func24, Try.ntmps24
  go_wp2_with fail
  refine (planOf_any a len cap shop w h hc).mono ?_
  intro e w1 hp
  unfold PlanOfPost at hp
  cases hv : shopM shop
  · rw [hv] at hp
    obtain ⟨rfl, hd⟩ := hp
    go_wp2_with fail
    go_ret2
    unfold bestI bestT bestN
    rw [hv]
    exact ⟨none, 0, 0, rfl, ⟨rfl, Nat.zero_le _, fun h => absurd h (by omega)⟩, ⟨⟨Nat.zero_le _, fun h => absurd h (by omega)⟩, Nat.le_refl _⟩, hd.below _⟩
  · rw [hv, if_pos rfl] at hp
    obtain ⟨D, rfl, hpl, hB, hb1⟩ := hp
    have hr : bestI shop = nat7 (bestR shop []).1 ∧ bestN shop = (bestR shop []).2 := by
      have e : leftP shop [] = slen shop := by funext j; unfold leftP; simp
      unfold bestI bestT bestN bestR
      rw [hv, e]; exact ⟨rfl, rfl⟩
    have hbd := bestR_bd hv (l := []) (fun x hx => by cases hx) (fun j => by simp)
    have HC := Lib.hid (best_any hv _ w1 _ [] rfl hpl)
    have HR := Lib.hid hr
    have HV := Lib.hid hv
    have HB := Lib.hid hB
    have HB1 := Lib.hid hb1
    clear hr hv hB hb1 h hc hpl
    generalize bestR shop [] = r at hbd HC HR
    go_wp2_with fail
    refine HC.out.mono ?_
    rintro e w2 ⟨a2, cap2, v2, rfl, ho, hp2, hf2, hn2, hs2⟩
    have HO := Lib.hid ho
    have HF := Lib.hid hf2
    clear ho hp2 hf2 hn2 hs2
    go_wp2_with fail
    go_ret2
    rw [HR.out.1, HR.out.2]
    have hs := HB1.out.size
    have hbel : Below w.heap.size w w2 := HB1.out.trans (HF.out.below HB.out hs (fun b e => by simp [Value.ownBlock] at e))
    obtain ⟨a3, l3, c3, e3, h1, h2, h3, h4⟩ := resC_own (w := w) HO.out hs (by omega) hbel
    simp only [Ending.returned.injEq, Value.slice.injEq] at e3
    obtain ⟨rfl, rfl, rfl⟩ := e3
    exact ⟨_, _, _, rfl, h1, ⟨h2, h3⟩, h4⟩
end Go.Proofs.Ytkebdelfklmigae
namespace Go.Proofs.Ytkebdelfklmigae

-- what chapter 7's laws ask (plain)
theorem shop_take {shop : List (List (List Int))} (hv : shopM shop = true) (n : Nat) : shopM (shop.take n) = true := by
  unfold shopM at *
  rw [Bool.and_eq_true, List.all_eq_true, decide_eq_true_eq] at *
  exact ⟨fun x hx => hv.1 x (List.mem_of_mem_take hx), by rw [List.length_take]; have := hv.2; omega⟩
theorem slen_job7 {shop : List (List (List Int))} {k : Nat} {job : List (List Int)} (h : shop[k]? = some job) : slen shop k = job.length := by
  unfold slen; rw [List.getD_eq_getElem?_getD, h]; rfl
def leastRes7 (shop : List (List (List Int))) : Int := if shopM shop then leastM shop else -1
theorem leastRes7_no {shop : List (List (List Int))} (h : shopM shop = false) : leastRes7 shop = -1 := by unfold leastRes7; rw [h]; rfl
theorem leastRes7_yes {shop : List (List (List Int))} (h : shopM shop = true) : leastRes7 shop = leastM shop := by unfold leastRes7; rw [h]; rfl
theorem mostRes_yes {shop : List (List (List Int))} (h : shopM shop = true) : mostRes shop = (mostM shop).map (fun q : Nat => (q : Int)) := by unfold mostRes; rw [h]; rfl
theorem most_TurnsOf7 (shop : List (List (List Int))) : TurnsOf shop.length (slen shop) (mostM shop) := ⟨(most_turns shop).1, (most_turns shop).2⟩
theorem timesN_most {shop : List (List (List Int))} (hv : shopM shop = true) : 0 ≤ timesN shop (mostRes shop) := by
  unfold timesN
  rw [mostRes_yes hv, list_turns (most_TurnsOf7 shop), hv]
  exact (runS_inv (fun j k => (stime_bd hv j k).1) _ shop0 (shop0_inv (smach shop) (stime shop))).nn.1
/-- the work of the first one, once it has come -/
def firstJ (shop : List (List (List Int))) (i : Nat) : Int := match mostM shop with
  | [] => 0
  | q :: _ => if q < i then stepsTo (stime shop) q (slen shop q) else 0
theorem firstJ_nil {shop : List (List (List Int))} (h : mostM shop = []) (i : Nat) : firstJ shop i = 0 := by unfold firstJ; rw [h]
theorem firstJ_cons {shop : List (List (List Int))} {q : Nat} {l : List Nat} (h : mostM shop = q :: l) (i : Nat) : firstJ shop i = if q < i then stepsTo (stime shop) q (slen shop q) else 0 := by unfold firstJ; rw [h]
theorem firstJ_zero (shop : List (List (List Int))) : firstJ shop 0 = 0 := by unfold firstJ; split <;> simp
theorem first_most {shop : List (List (List Int))} (hv : shopM shop = true) : firstJ shop shop.length = leastJ shop shop.length := by
  have hg := leastJ_ge shop shop.length
  cases hm : mostM shop with
  | nil =>
    rw [firstJ_nil hm]
    have h := leastJ_le (shop := shop) (v := 0) (Int.le_refl _) shop.length (fun j hj => by
      have := (most_turns shop).2 j hj
      rw [hm] at this
      rw [← this]; exact Int.le_refl _)
    omega
  | cons q l =>
    have hq : q < shop.length := (most_turns shop).1 q (by rw [hm]; simp)
    rw [firstJ_cons hm, if_pos hq]
    have hn := stepsTo_nn (fun j k => (stime_bd hv j k).1) q (slen shop q)
    have h := leastJ_le (shop := shop) hn shop.length (fun j hj => by
      by_cases h0 : 0 < slen shop j
      · exact most_first hm j hj h0
      · rw [show slen shop j = 0 by omega]; exact hn)
    have := hg.2 q hq
    omega
theorem runS_full {shop : List (List (List Int))} {l : List Nat} (h : TurnsOf shop.length (slen shop) l) (j : Nat) : (runS (smach shop) (stime shop) shop0 l).nx j = slen shop j := by
  rw [runS_nx]
  show 0 + l.count j = slen shop j
  rw [Nat.zero_add]
  by_cases hj : j < shop.length
  · exact h.2 j hj
  · rw [List.count_eq_zero.2 (fun hm => hj (h.1 j hm))]
    unfold slen
    rw [List.getD_eq_getElem?_getD, List.getElem?_eq_none (by omega)]; rfl
theorem slen_none {shop : List (List (List Int))} {j : Nat} (h : shop.length ≤ j) : slen shop j = 0 := by
  unfold slen
  rw [List.getD_eq_getElem?_getD, List.getElem?_eq_none h]; rfl
theorem timesN_no {shop : List (List (List Int))} {ts : List Int} (h : (shopM shop && turnsM shop ts) = false) : timesN shop ts = -1 := by unfold timesN; rw [h]; rfl
theorem times_rule {shop : List (List (List Int))} {ts : List Int} (h : (shopM shop && turnsM shop ts) = true) : ∃ s : ShopS, timesRows shop ts = rowsS s shop.length ∧ timesN shop ts = s.all ∧ ShopI (smach shop) (stime shop) s ∧ (∀ j, s.nx j = slen shop j) ∧ leastRes7 shop ≤ s.all := by
  obtain ⟨hv, ht⟩ := Bool.and_eq_true_iff.1 h
  obtain ⟨l, rfl, hl⟩ := turns_list ht
  have hinv := runS_inv (fun j k => (stime_bd hv j k).1) l shop0 (shop0_inv (smach shop) (stime shop))
  have hnx := fun j => runS_full hl j
  refine ⟨runS (smach shop) (stime shop) shop0 l, ?_, ?_, hinv, hnx, ?_⟩
  · unfold timesRows runOf; rw [if_pos h, toNat_cast]
  · unfold timesN runOf; rw [if_pos h, toNat_cast]
  · rw [leastRes7_yes hv]; exact least_all hinv hnx
theorem times_ge {shop : List (List (List Int))} {ts : List Int} (h : (shopM shop && turnsM shop ts) = true) : timesN shop ts ≤ 81 := by
  obtain ⟨hv, ht⟩ := Bool.and_eq_true_iff.1 h
  obtain ⟨l, rfl, hl⟩ := turns_list ht
  unfold timesN runOf; rw [if_pos h, toNat_cast]
  have h1 := runS_bd (m := smach shop) (p := stime shop) (fun j k => stime_bd hv j k) l
  have h2 := turnsOf_len hv hl.1 (turnsOf_cnt hl)
  omega
end Go.Proofs.Ytkebdelfklmigae
