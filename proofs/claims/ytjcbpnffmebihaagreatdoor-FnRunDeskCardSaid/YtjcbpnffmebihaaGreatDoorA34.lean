import Derived.Test.YtjcbpnffmebihaaGreatDoorA31
import Derived.Test.YtjcbpnffmebihaaGreatDoorRows
import Derived.WalkKit
import Derived.LoopTactic
import Derived.Outline
import Derived.WalkSpells
import Derived.WalkLawsBesides
import Derived.ProofKit
import Derived.Lib.Hide
set_option linter.unusedVariables false
set_option linter.unusedSimpArgs false
namespace Go.Proofs.YtjcbpnffmebihaaGreatDoor

/-! What the answers to lots and rolls are at most; no answer is long. -/
theorem lots_bd {xs : List Int} {a b : Int} (h : validLotsM xs a b = true) : (bestLotsM xs a b).length ≤ 8 ∧ (∀ x ∈ bestLotsM xs a b, 0 ≤ x ∧ x ≤ 160) ∧ 0 ≤ bst xs a b 0 ∧ bst xs a b 0 ≤ 40000 := by
  obtain ⟨hv, hs, hh⟩ := validLots_get h
  have h8 := validDays_len hv
  have hat := validDays_at hv
  refine ⟨by unfold bestLotsM; rw [madeM_length]; exact h8, fun x hx => ?_, bst_bd h8 hat (by omega) (by omega) (by omega)⟩
  obtain ⟨q, hq⟩ := List.mem_iff_getElem?.1 hx
  unfold bestLotsM madeM at hq
  obtain ⟨rfl, hql⟩ := tab_get hq
  have := madeAt_bd hat (nxB_nexts xs a b) hql
  omega
theorem lotsB_size {xs : List Int} {a b : Int} (h : validLotsM xs a b = true) : (lotsB xs a b).size ≤ 400 := by
  obtain ⟨h1, h2, h3, h4⟩ := lots_bd h
  have c := listB_size (xs := bestLotsM xs a b) fun x hx => by have := h2 x hx; omega
  have d := numB_size (n := bst xs a b 0) (by omega) (by omega)
  rw [lotsB, ByteArray.size_append, ByteArray.size_append, sgnB_size]
  omega
theorem rollsK_bd {xs : List Int} {R : Int} (h : cutsM xs R = true) : (0 ≤ rollsRes xs R ∧ rollsRes xs R ≤ 7) ∧ (rollRes xs R kLong).length ≤ 7 ∧ ∀ x ∈ rollRes xs R kLong, 0 ≤ x ∧ x ≤ 7 := by
  obtain ⟨hR1, hR2, h7, hT⟩ := cuts_get h
  have hp := cutOrd_perm xs kLong
  have hr := (roll_plan hT hp).1
  have hu := used_le hT hp
  have hf := few_each (xs := xs) (R := R) (by omega) fun i hi => (hT i hi).2
  have e := roll_yes (kind := kLong) h (by rw [show isLong kLong = true from l_isLong]; rfl)
  refine ⟨by unfold rollsRes; rw [h]; simp only [if_true]; omega, by rw [e, tab_length]; exact h7, fun x hx => ?_⟩
  rw [e] at hx
  obtain ⟨q, hq⟩ := List.mem_iff_getElem?.1 hx
  obtain ⟨rfl, hql⟩ := tab_get hq
  have := hr q hql
  omega
theorem rollsB_size {xs : List Int} {R : Int} (h : cutsM xs R = true) : (rollsB xs R).size ≤ 400 := by
  obtain ⟨h1, h2, h3⟩ := rollsK_bd h
  have c := listB_size (xs := rollRes xs R kLong) fun x hx => by have := h3 x hx; omega
  have d := numB_size (n := rollsRes xs R) (by omega) (by omega)
  rw [rollsB, ByteArray.size_append, ByteArray.size_append, sgnB_size]
  omega
theorem stock_bd {xs : List Int} {o u : Int} (h : okO xs o u = true) : 0 ≤ shareRes xs o u ∧ shareRes xs o u ≤ 10 := by
  obtain ⟨hc, ho0, ho1, hu0, hu1⟩ := okO_at h
  have hsl := (share_is hc ho0 hu0).1
  have hl7 := (chM_at hc).2.1
  unfold shareRes; rw [h]; simp only [if_true]; omega
theorem words_size (ws : List ByteArray) (rows : List (List Int)) : (wordsB ws rows).size ≤ 400 := by
  have s1 : sWrong.size ≤ 400 := by decide
  have s2 : sWhat.size ≤ 400 := by decide
  unfold wordsB
  split
  · split
    · rename_i h; exact twoB_size h.2
    · exact s1
  split
  · split
    · rename_i h; exact keptB_size h.2 (jobs_get h.2).1
    · exact s1
  split
  · split
    · rename_i h; exact lotsB_size h.2.1
    · exact s1
  split
  · split
    · rename_i h; exact rollsB_size h.2.2
    · exact s1
  split
  · split
    · rename_i h
      have := stock_bd h.2.2
      unfold stockB
      exact Nat.le_trans (numB_size (by omega) (by omega)) (by decide)
    · exact s1
  exact s2
theorem ans_size (l : ByteArray) : (ansB l).size ≤ 400 := words_size _ _
end Go.Proofs.YtjcbpnffmebihaaGreatDoor
namespace Go.Proofs.YtjcbpnffmebihaaGreatDoor
open Go.RowKit Go.WideShapes

theorem word_is {a : ByteArray} (b : ByteArray) (h : a = b) : (a.toList == b.toList) = true := by rw [h]; exact beq_self_eq_true _
theorem getD_some {ss : List ByteArray} {k : Nat} {x : ByteArray} (h : ss[k]? = some x) : ss.getD k ByteArray.empty = x := by rw [List.getD_eq_getElem?_getD, h]; rfl
theorem toList_lit {a : ByteArray} {l : List UInt8} (h : a ≠ ⟨l.toArray⟩) : (a.toList == l) = false := by
  have := toList_ne h
  rwa [ByteArray.toList_mk l] at this
set_option maxRecDepth 100000 in
set_option maxHeartbeats 4000000 in
/-- the model's answer to another line -/
theorem answer_what (line : ByteArray) (w : World) (hs : line.size ≤ 1048575) (k1 : (splitB line 32).getD 0 ByteArray.empty ≠ kTwo) (k2 : (splitB line 32).getD 0 ByteArray.empty ≠ kKept) (k3 : (splitB line 32).getD 0 ByteArray.empty ≠ kLots) (k4 : (splitB line 32).getD 0 ByteArray.empty ≠ kRolls) (k5 : (splitB line 32).getD 0 ByteArray.empty ≠ kStock) :
    Calls Tryz.prog 26 #[.string line] w (fun e w' => e = .returned (.string (ansB line)) ∧ Below w.heap.size w w') := by
  have hlen := splitB_pos line 32
  have HSZ := Lib.hid (splitB_size line 32)
  have HA := Lib.hid (show ansB line = sWhat by unfold ansB wordsB; rw [if_neg k1, if_neg k2, if_neg k3, if_neg k4, if_neg k5])
  have HKS := Lib.hid (And.intro k1 (And.intro k2 (And.intro k3 (And.intro k4 k5))))
  clear k1 k2 k3 k4 k5
  go_enter Tryz.func26, Tryz.ntmps26
  go_wp2_with fail
  refine (splitAt_any line 32 _ hs).mono ?_
  rintro e w1 ⟨a, n, c, rfl, hn, hlo, hb⟩
  have hnl := strs_len hlo
  have HNL := Lib.hid hnl
  obtain ⟨m, hm⟩ : ∃ m : Nat, n = m + 1 := ⟨n - 1, by omega⟩
  subst hm
  have HLO := Lib.hid hlo
  have HB := Lib.hid hb
  obtain ⟨b0, of0, x0, e0, hx0, hc0⟩ := (own_strsAt hlo hn).get (k := 0) (by omega)
  have hb0 : b0 < w1.heap.size := by
    obtain ⟨b', o', e', hS, _⟩ := (own_strsAt hlo hn).cells (by omega)
    rw [e0] at e'; injection e' with e'; injection e' with e' _; subst e'; exact hS.2
  obtain ⟨b1, of1, x1, e1, hx1, hc1⟩ := (own_strsAt hlo hn).get (k := m) (by omega)
  rw [e0] at e1
  injection e1 with e1
  injection e1 with q1 q2
  subst q1 q2 e0
  have hl1 : x1.size ≤ 1048575 := Nat.le_trans (HSZ.out x1 (List.mem_of_getElem? hx1)) hs
  have hks := HKS.out
  rw [getD_some hx0] at hks
  obtain ⟨k1, k2, k3, k4, k5⟩ := hks
  have f1 : (x0.toList == ByteArray.toList ⟨#[116, 119, 111]⟩) = false := toList_ne k1
  have g1 : (x0.toList == [116, 119, 111]) = false := toList_lit k1
  have f2 : (x0.toList == ByteArray.toList ⟨#[107, 101, 112, 116]⟩) = false := toList_ne k2
  have g2 : (x0.toList == [107, 101, 112, 116]) = false := toList_lit k2
  have f3 : (x0.toList == ByteArray.toList ⟨#[108, 111, 116, 115]⟩) = false := toList_ne k3
  have g3 : (x0.toList == [108, 111, 116, 115]) = false := toList_lit k3
  have f4 : (x0.toList == ByteArray.toList ⟨#[114, 111, 108, 108, 115]⟩) = false := toList_ne k4
  have g4 : (x0.toList == [114, 111, 108, 108, 115]) = false := toList_lit k4
  have f5 : (x0.toList == ByteArray.toList ⟨#[115, 116, 111, 99, 107]⟩) = false := toList_ne k5
  have g5 : (x0.toList == [115, 116, 111, 99, 107]) = false := toList_lit k5
  clear k1 k2 k3 k4 k5
  have HX1 := Lib.hid (getD_some hx1)
  have hwm : IntKind.i64.wrap ((m : Int) + 1 - 1) = (m : Int) := by rw [Int.add_sub_cancel]; exact IntWalk.i64_in _ (by omega)
  have hm1 : (m : Int) < (m : Int) + 1 := by omega
  have hm2 : (0 : Int) < (m : Int) + 1 := by omega
  rw [Nat.add_zero] at hc0
  clear hlo hb hx0 hx1 hnl hlen
  go_wp2_with fail
  refine (readRows_any x1 w1 hl1).mono ?_
  rintro e w2 ⟨a2, c2, rfl, hc2, hpt, hb2⟩
  have hc02 : w2.cell? ⟨b0, of0, none⟩ = some (.string x0) := by rw [World.cell?_of_block (w := w1) (hb2.block b0 hb0)]; exact hc0
  have hrl := rowsB_len x1
  have hra := (hpt.rowsAt rfl (by omega)).to (w' := w2) (S' := (· < w2.heap.size)) fun b hb => ⟨hb.2, rfl⟩
  have HRA := Lib.hid hra
  have HB2 := Lib.hid (HB.out.trans (hb2.mono HB.out.size))
  clear hc0 hc1 hpt hb2 hra hrl
  go_wp2_with fail
  go_ret
  exact ⟨ret_str HA.out.symm, HB2.out⟩
set_option maxRecDepth 100000 in
set_option maxHeartbeats 4000000 in
/-- the model's answer to a line of pairs -/
theorem answer_two (line : ByteArray) (w : World) (hs : line.size ≤ 1048575) (hk : (splitB line 32).getD 0 ByteArray.empty = kTwo) :
    Calls Tryz.prog 26 #[.string line] w (fun e w' => e = .returned (.string (ansB line)) ∧ Below w.heap.size w w') := by
  have hlen := splitB_pos line 32
  have HSZ := Lib.hid (splitB_size line 32)
  have HK := Lib.hid hk
  clear hk
  go_enter Tryz.func26, Tryz.ntmps26
  go_wp2_with fail
  refine (splitAt_any line 32 _ hs).mono ?_
  rintro e w1 ⟨a, n, c, rfl, hn, hlo, hb⟩
  have hnl := strs_len hlo
  have HNL := Lib.hid hnl
  obtain ⟨m, hm⟩ : ∃ m : Nat, n = m + 1 := ⟨n - 1, by omega⟩
  subst hm
  have HLO := Lib.hid hlo
  have HB := Lib.hid hb
  obtain ⟨b0, of0, x0, e0, hx0, hc0⟩ := (own_strsAt hlo hn).get (k := 0) (by omega)
  have hb0 : b0 < w1.heap.size := by
    obtain ⟨b', o', e', hS, _⟩ := (own_strsAt hlo hn).cells (by omega)
    rw [e0] at e'; injection e' with e'; injection e' with e' _; subst e'; exact hS.2
  obtain ⟨b1, of1, x1, e1, hx1, hc1⟩ := (own_strsAt hlo hn).get (k := m) (by omega)
  rw [e0] at e1
  injection e1 with e1
  injection e1 with q1 q2
  subst q1 q2 e0
  have hl1 : x1.size ≤ 1048575 := Nat.le_trans (HSZ.out x1 (List.mem_of_getElem? hx1)) hs
  obtain rfl : x0 = ⟨#[116, 119, 111]⟩ := (getD_some hx0).symm.trans HK.out
  have HX1 := Lib.hid (getD_some hx1)
  have hwm : IntKind.i64.wrap ((m : Int) + 1 - 1) = (m : Int) := by rw [Int.add_sub_cancel]; exact IntWalk.i64_in _ (by omega)
  have hm1 : (m : Int) < (m : Int) + 1 := by omega
  have hm2 : (0 : Int) < (m : Int) + 1 := by omega
  rw [Nat.add_zero] at hc0
  clear hlo hb hx0 hx1 hnl hlen
  go_wp2_with fail
  refine (readRows_any x1 w1 hl1).mono ?_
  rintro e w2 ⟨a2, c2, rfl, hc2, hpt, hb2⟩
  have hc02 : w2.cell? ⟨b0, of0, none⟩ = some (.string ⟨#[116, 119, 111]⟩) := by rw [World.cell?_of_block (w := w1) (hb2.block b0 hb0)]; exact hc0
  have hrl := rowsB_len x1
  have hra := (hpt.rowsAt rfl (by omega)).to (w' := w2) (S' := (· < w2.heap.size)) fun b hb => ⟨hb.2, rfl⟩
  have HRA := Lib.hid hra
  have HB2 := Lib.hid (HB.out.trans (hb2.mono HB.out.size))
  have HANS := Lib.hid (show ansB line = (if m + 1 = 2 ∧ pairsM (rowsB x1) = true then twoB (rowsB x1) else sWrong) by
    unfold ansB wordsB
    rw [if_pos HK.out, HNL.out, Nat.add_sub_cancel, HX1.out])
  clear hc0 hc1 hpt hb2 hra hrl
  generalize rowsB x1 = rows at *
  by_cases hm : m + 1 = 2
  · obtain rfl : m = 1 := by omega
    go_wp2_with fail
    refine (validPairs_any _ a2 _ c2 rows w2 HRA.out).mono ?_
    rintro e w3 ⟨rfl, rfl⟩
    cases hp : pairsM rows
    · go_wp2_with fail
      go_ret
      exact ⟨ret_str (by rw [HANS.out, hp]; rfl), HB2.out⟩
    · have HTB := Lib.hid (two_bd hp)
      have HP := Lib.hid hp
      clear hp
      go_wp2_with fail
      refine (byRule_any a2 _ c2 rows w2 HRA.out HP.out).mono ?_
      rintro e w4 hno
      obtain ⟨a4, l4, c4, rfl, h4, h5, hb4⟩ := hno.ints
      have HI := Lib.hid h4
      have HB4 := Lib.hid (HB2.out.trans (hb4.mono HB2.out.size))
      have HRA4 := Lib.hid (show RowsAt w4 (· < w4.heap.size) a2 rows.length rows from HRA.out.to fun b hb => ⟨Nat.lt_of_lt_of_le hb hb4.size, hb4.block b hb⟩)
      have hl4 : l4 ≤ 8 := by have := h4.lenEq; rw [ruleI_len] at this; have := HTB.out.1; omega
      have HL4 := Lib.hid (show ∀ x ∈ ruleI rows rows.length, 0 ≤ x ∧ x < (rows.length : Int) from HTB.out.2.1)
      have HSP := Lib.hid HTB.out.2.2
      have HZ1 := Lib.hid (listB_size (xs := ruleI rows rows.length) fun x hx => by have := HTB.out.2.1 x hx; have := HTB.out.1; omega)
      have HL8 := Lib.hid HTB.out.1
      clear hno h4 h5 hb4
      go_wp2_with fail
      refine (listText_any _ a4 l4 c4 (ruleI rows rows.length) w4 HI.out (fun x hx => by have := HL4.out x hx; have := HL8.out; omega) (by omega)).mono ?_
      rintro e w5 ⟨rfl, hw⟩
      subst hw
      have hz1 : (listB (ruleI rows rows.length)).size ≤ 168 := by have := HZ1.out; rw [ruleI_len] at this; have := HL8.out; omega
      have t1 : ¬ 9223372036854775807 < (listB (ruleI rows rows.length)).size + (⟨#[32]⟩ : ByteArray).size := by show ¬ _ < _ + 1; omega
      go_wp2_with fail
      refine (span_any _ _ a2 _ c2 rows a4 l4 c4 (ruleI rows rows.length) w5 HRA4.out HI.out HP.out (fun x hx => HL4.out x hx) hl4).mono ?_
      rintro e w6 ⟨rfl, hw⟩
      subst hw
      have hsp := HSP.out
      have HTW := Lib.hid (show twoB rows = listB (ruleI rows rows.length) ++ sgnB 32 ++ numB (spanT (ta rows) (tb rows) (nO (ruleI rows rows.length))) from rfl)
      generalize spanT (ta rows) (tb rows) (nO (ruleI rows rows.length)) = sp at *
      generalize listB (ruleI rows rows.length) = LB at *
      go_wp2_with fail
      refine (number_any sp w5 (by omega) (by omega)).mono ?_
      rintro e w7 ⟨rfl, hw⟩
      subst hw
      have hz2 := numB_size (n := sp) (by omega) (by omega)
      have t2 : ¬ 9223372036854775807 < (LB ++ (⟨#[32]⟩ : ByteArray)).size + (numB sp).size := by rw [ByteArray.size_append]; show ¬ _ < _ + 1 + _; omega
      have t3 : ¬ 9223372036854775807 < LB.size + 1 + (numB sp).size := by omega
      go_wp2_with fail
      go_ret
      exact ⟨ret_str (HTW.out.symm.trans ((if_pos ⟨by first | rfl | trivial, HP.out⟩).symm.trans HANS.out.symm)), HB4.out⟩
  · have hne : ((m : Int) + 1 == 2) = false := by rw [beq_eq_false_iff_ne]; omega
    go_wp2_with fail
    go_ret
    exact ⟨ret_str (by rw [HANS.out, if_neg (by omega)]; rfl), HB2.out⟩
set_option maxRecDepth 100000 in
set_option maxHeartbeats 4000000 in
/-- the model's answer to a line of jobs -/
theorem answer_kept (line : ByteArray) (w : World) (hs : line.size ≤ 1048575) (hk : (splitB line 32).getD 0 ByteArray.empty = kKept) :
    Calls Tryz.prog 26 #[.string line] w (fun e w' => e = .returned (.string (ansB line)) ∧ Below w.heap.size w w') := by
  have hlen := splitB_pos line 32
  have HSZ := Lib.hid (splitB_size line 32)
  have HK := Lib.hid hk
  clear hk
  go_enter Tryz.func26, Tryz.ntmps26
  go_wp2_with fail
  refine (splitAt_any line 32 _ hs).mono ?_
  rintro e w1 ⟨a, n, c, rfl, hn, hlo, hb⟩
  have hnl := strs_len hlo
  have HNL := Lib.hid hnl
  obtain ⟨m, hm⟩ : ∃ m : Nat, n = m + 1 := ⟨n - 1, by omega⟩
  subst hm
  have HLO := Lib.hid hlo
  have HB := Lib.hid hb
  obtain ⟨b0, of0, x0, e0, hx0, hc0⟩ := (own_strsAt hlo hn).get (k := 0) (by omega)
  have hb0 : b0 < w1.heap.size := by
    obtain ⟨b', o', e', hS, _⟩ := (own_strsAt hlo hn).cells (by omega)
    rw [e0] at e'; injection e' with e'; injection e' with e' _; subst e'; exact hS.2
  obtain ⟨b1, of1, x1, e1, hx1, hc1⟩ := (own_strsAt hlo hn).get (k := m) (by omega)
  rw [e0] at e1
  injection e1 with e1
  injection e1 with q1 q2
  subst q1 q2 e0
  have hl1 : x1.size ≤ 1048575 := Nat.le_trans (HSZ.out x1 (List.mem_of_getElem? hx1)) hs
  obtain rfl : x0 = ⟨#[107, 101, 112, 116]⟩ := (getD_some hx0).symm.trans HK.out
  have HX1 := Lib.hid (getD_some hx1)
  have hwm : IntKind.i64.wrap ((m : Int) + 1 - 1) = (m : Int) := by rw [Int.add_sub_cancel]; exact IntWalk.i64_in _ (by omega)
  have hm1 : (m : Int) < (m : Int) + 1 := by omega
  have hm2 : (0 : Int) < (m : Int) + 1 := by omega
  rw [Nat.add_zero] at hc0
  clear hlo hb hx0 hx1 hnl hlen
  go_wp2_with fail
  refine (readRows_any x1 w1 hl1).mono ?_
  rintro e w2 ⟨a2, c2, rfl, hc2, hpt, hb2⟩
  have hc02 : w2.cell? ⟨b0, of0, none⟩ = some (.string ⟨#[107, 101, 112, 116]⟩) := by rw [World.cell?_of_block (w := w1) (hb2.block b0 hb0)]; exact hc0
  have hrl := rowsB_len x1
  have hra := (hpt.rowsAt rfl (by omega)).to (w' := w2) (S' := (· < w2.heap.size)) fun b hb => ⟨hb.2, rfl⟩
  have HRA := Lib.hid hra
  have HB2 := Lib.hid (HB.out.trans (hb2.mono HB.out.size))
  have HANS := Lib.hid (show ansB line = (if m + 1 = 2 ∧ jobsM (rowsB x1) = true then keptB (rowsB x1) else sWrong) by
    unfold ansB wordsB
    rw [if_neg (by rw [HK.out]; decide), if_pos HK.out, HNL.out, Nat.add_sub_cancel, HX1.out])
  clear hc0 hc1 hpt hb2 hra hrl
  generalize rowsB x1 = rows at *
  by_cases hm : m + 1 = 2
  · obtain rfl : m = 1 := by omega
    go_wp2_with fail
    refine (validJobs_any _ a2 _ c2 rows w2 HRA.out).mono ?_
    rintro e w3 ⟨rfl, rfl⟩
    cases hp : jobsM rows
    · go_wp2_with fail
      go_ret
      exact ⟨ret_str (by rw [HANS.out, hp]; rfl), HB2.out⟩
    · have HTB := Lib.hid (And.intro (jobs_get hp).1 (kept_bd hp (jobs_get hp).1))
      have HP := Lib.hid hp
      clear hp
      go_wp2_with fail
      refine (onTime_any a2 _ c2 rows w2 HRA.out HP.out HTB.out.1).mono ?_
      rintro e w4 hno
      obtain ⟨a4, l4, c4, rfl, h4, h5, hb4⟩ := hno.ints
      have HI := Lib.hid h4
      have HB4 := Lib.hid (HB2.out.trans (hb4.mono HB2.out.size))
      have hl4 : l4 ≤ 8 := by have := h4.lenEq; have := kept_len HP.out (n := rows.length) (j := rows.length); have := HTB.out.1; unfold nI at *; rw [List.length_map] at *; omega
      have HL4 := Lib.hid HTB.out.2
      clear hno h4 h5 hb4
      go_wp2_with fail
      refine (listText_any _ a4 l4 c4 (nI (keptM rows rows.length rows.length)) w4 HI.out (fun x hx => by have := HL4.out x hx; omega) (by omega)).mono ?_
      rintro e w5 ⟨rfl, hw⟩
      subst hw
      go_wp2_with fail
      go_ret
      exact ⟨ret_str ((if_pos ⟨by first | rfl | trivial, HP.out⟩).symm.trans HANS.out.symm), HB4.out⟩
  · have hne : ((m : Int) + 1 == 2) = false := by rw [beq_eq_false_iff_ne]; omega
    go_wp2_with fail
    go_ret
    exact ⟨ret_str (by rw [HANS.out, if_neg (by omega)]; rfl), HB2.out⟩
end Go.Proofs.YtjcbpnffmebihaaGreatDoor
