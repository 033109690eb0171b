import Derived.Test.YtjcbpnffmebihaaGreatDoorA32
import Derived.Test.YtjcbpnffmebihaaGreatDoorA35
import Derived.Test.YtjcbpnffmebihaaGreatDoorA41
import Derived.Test.YtjcbpnffmebihaaGreatDoorA43
import Derived.Test.YtjcbpnffmebihaaGreatDoorRows
import Derived.WalkKit
import Derived.LoopTactic
import Derived.Outline
import Derived.WalkSpells
import Derived.WalkLawsBesides
import Derived.ProofKit
import Derived.Lib.Hide
import Derived.Deep.RegionHeld3
import Derived.BigQuiet
set_option linter.unusedVariables false
set_option linter.unusedSimpArgs false
namespace Go.Proofs.YtjcbpnffmebihaaGreatDoor
open Go.RowKit Go.WideShapes

/-- an answer, or an error of the desk's own -/
def AnsPost (w : World) (ok : Bool) (s : ByteArray) (e : Ending) (w' : World) : Prop :=
  Below w.heap.size w w' ∧ ((ok = true ∧ e = .returned (.tuple #[.string s, .nilIface])) ∨ (ok = false ∧ ∃ q m, e = .returned (.tuple #[.string q, .iface 56 (.agg #[.string m])])))
theorem rows_up {w w' : World} {a : Option Addr} {l : Nat} {rows : List (List Int)} (h : RowsAt w (· < w.heap.size) a l rows) (g : Below w.heap.size w w') : RowsAt w' (· < w'.heap.size) a l rows :=
  h.to fun b hb => ⟨Nat.lt_of_lt_of_le hb g.size, g.block b hb⟩
theorem env_up {w w' : World} (hE : EnvD w) (h10 : 10 ≤ w.heap.size) (g : Below w.heap.size w w') : EnvD w' := hE.below h10 g
set_option maxRecDepth 100000 in
set_option maxHeartbeats 8000000 in
theorem answerTwo_any (a1 : Option Addr) (l1 c1 : Nat) (a2 : Option Addr) (l2 c2 : Nat) (rows : List (List Int)) (w : World) (hE : EnvD w) (h10 : 10 ≤ w.heap.size) (h : RowsAt w (· < w.heap.size) a2 l2 rows) (hc : l2 ≤ c2) :
    Calls Tryz.prog 66 #[.agg #[.slice a1 l1 c1, .slice a2 l2 c2]] w (AnsPost w (pairsM rows) (twoB rows)) := by
  have HE := Lib.hid hE
  have H10 := Lib.hid h10
  clear hE h10
  obtain ⟨w2, hw2⟩ : ∃ w2 : World, w2 = w.alloc (.cells #[.slice a1 l1 c1, .slice a2 l2 c2] 77) := ⟨_, rfl⟩
  have HB2 := Lib.hid (show Below w.heap.size w w2 by rw [hw2]; exact (Below.refl _ w).alloc (Nat.le_refl _) _)
  have HS2 := Lib.hid (show w2.heap.size = w.heap.size + 1 by rw [hw2]; simp)
  have hq0 : w2.cell? ⟨w.heap.size, 0, none⟩ = some (.slice a1 l1 c1) := by rw [hw2]; simp
  have hq1 : w2.cell? ⟨w.heap.size, 1, none⟩ = some (.slice a2 l2 c2) := by rw [hw2]; simp
  have HE2 := Lib.hid (env_up HE.out H10.out HB2.out)
  have H102 := Lib.hid (show 10 ≤ w2.heap.size by have := H10.out; have := HS2.out; omega)
  have HR2 := Lib.hid (rows_up h HB2.out)
  clear h
  go_enter Tryz.func66, Tryz.ntmps66
  go_wp2_with fail
  rw [← hw2]
  clear hw2
  refine (validPairs_impl _ a2 l2 c2 rows w2 HR2.out hc).mono ?_
  rintro e w3 ⟨rfl, hd⟩
  have hb3 := hd.below w2.heap.size
  have HB3 := Lib.hid hb3
  cases hp : pairsM rows
  · clear hb3 hd
    go_wp2_with fail
    go_ret2
    exact ⟨HB2.out.trans (HB3.out.mono HB2.out.size), .inr ⟨hp, _, _, rfl⟩⟩
  · have hq0 := cell_up hq0 (by have := HS2.out; omega) hb3
    have hq1 := cell_up hq1 (by have := HS2.out; omega) hb3
    have HP := Lib.hid hp
    have HTB := Lib.hid (two_bd hp)
    have HRR := Lib.hid (ruleRes_yes hp)
    have HSR := Lib.hid (spanRes_yes (rule_fine hp))
    have hs3 : w2.heap.size ≤ w3.heap.size := hb3.size
    have HR3 := Lib.hid (rows_up HR2.out hb3)
    clear hp hb3 hd
    go_wp2_with fail
    refine (ruleOrder_impl a2 l2 c2 rows w3 HR3.out hc).mono ?_
    rintro e w4 ⟨a4, l4, c4, rfl, h4, _, hc4, hb4⟩
    rw [HRR.out] at h4
    have hq0 := cell_up hq0 (by have := HS2.out; omega) hb4
    have hq1 := cell_up hq1 (by have := HS2.out; omega) hb4
    have HQ1 := Lib.hid hq1
    have hs4 : w3.heap.size ≤ w4.heap.size := hb4.size
    have HB4 := Lib.hid ((HB2.out.trans (HB3.out.mono HB2.out.size)).trans (hb4.mono (by have := HS2.out; omega)))
    have HI4 := Lib.hid (show IntsAt w4 (· < w4.heap.size) a4 l4 (ruleI rows rows.length) from h4.to fun b hb => ⟨hb.2, rfl⟩)
    have HR4 := Lib.hid (rows_up HR3.out hb4)
    have HE4 := Lib.hid (env_up HE.out H10.out HB4.out)
    have H104 := Lib.hid (show 10 ≤ w4.heap.size by have := H102.out; omega)
    have HBX := Lib.hid (show w.heap.size < w4.heap.size by have := HS2.out; omega)
    have HC := Lib.hid (And.intro hc hc4)
    have HZ1 := Lib.hid (listB_size (xs := ruleI rows rows.length) fun x hx => by have := HTB.out.2.1 x hx; have := HTB.out.1; omega)
    have hz1 : (listB (ruleI rows rows.length)).size ≤ 168 := by have := HZ1.out; rw [ruleI_len] at this; have := HTB.out.1; omega
    have HTW := Lib.hid (show twoB rows = listB (ruleI rows rows.length) ++ sgnB 32 ++ numB (spanT (ta rows) (tb rows) (nO (ruleI rows rows.length))) from rfl)
    rw [HRR.out] at HSR
    have hz2 := numB_size (n := spanT (ta rows) (tb rows) (nO (ruleI rows rows.length))) (by have := HTB.out.2.2.1; omega) (by have := HTB.out.2.2.2; omega)
    have HSP := Lib.hid HTB.out.2.2
    generalize hLB : listB (ruleI rows rows.length) = LB at *
    generalize hsp : spanT (ta rows) (tb rows) (nO (ruleI rows rows.length)) = sp at *
    have HLB := Lib.hid hLB
    have t0 : ¬ 9223372036854775807 < LB.size + 1 := by omega
    have t1 : ¬ 9223372036854775807 < LB.size + (⟨#[32]⟩ : ByteArray).size := by show ¬ _ < _ + 1; omega
    have t2 : ¬ 9223372036854775807 < (LB ++ (⟨#[32]⟩ : ByteArray)).size + (numB sp).size := by rw [ByteArray.size_append]; show ¬ _ < _ + 1 + _; omega
    have t3 : ¬ 9223372036854775807 < LB.size + 1 + (numB sp).size := by omega
    have HBW := Lib.hid ((Below.refl w4.heap.size w4).drew)
    clear h4 hb4 hc4 hz1 hz2 hLB hsp hq0 hc hs3 hs4
    go_wp2_with fail
    go_region_held3 (fun W => W.cell? ⟨w.heap.size, 1, none⟩ = some (.slice a2 l2 c2)) (first | go_keep | exact kS) (first
      | (go_at_call 85; refine (written_any a4 l4 c4 _ _ (env_up HE4.out H104.out HBW.out) (Nat.le_trans H104.out HBW.out.size) (ints_up HI4.out HBW.out) (fun x hx => by have := HTB.out.2.1 x hx; have := HTB.out.1; omega) (by have := HI4.out.lenEq; have := HTB.out.1; rw [ruleI_len] at *; omega)).mono ?_; rintro e wp ⟨rfl, hb5⟩; rw [HLB.out]; have HBW := Lib.hid (HBW.out.trans (hb5.mono HBW.out.size)); have kS := cell_up HQ1.out HBX.out HBW.out; clear hb5)
      | (go_at_call 87; refine (spanOf_impl a2 l2 c2 rows a4 l4 c4 (ruleI rows rows.length) _ (rows_up HR4.out HBW.out) (ints_up HI4.out HBW.out) HC.out.1 HC.out.2).mono ?_; rintro e wp ⟨rfl, hb5⟩; rw [HSR.out]; have HBW := Lib.hid (HBW.out.trans (hb5.mono HBW.out.size)); have kS := cell_up HQ1.out HBX.out HBW.out; clear hb5)
      | (go_at_call 86; refine (itoaD sp _ (env_up HE4.out H104.out HBW.out) (by have := HSP.out; omega) (by have := HSP.out; omega)).mono ?_; rintro e wp ⟨rfl, hb5⟩; have HBW := Lib.hid (HBW.out.trans (hb5.mono HBW.out.size)); have kS := cell_up HQ1.out HBX.out HBW.out; clear hb5))
    all_goals (go_wp2_with fail; go_ret2; exact ⟨HB4.out.trans (HBW.out.mono HB4.out.size), .inl ⟨HP.out, by rw [HTW.out]; rfl⟩⟩)
set_option maxRecDepth 100000 in
set_option maxHeartbeats 8000000 in
theorem answerKept_any (a1 : Option Addr) (l1 c1 : Nat) (a2 : Option Addr) (l2 c2 : Nat) (rows : List (List Int)) (w : World) (hE : EnvD w) (h10 : 10 ≤ w.heap.size) (h : RowsAt w (· < w.heap.size) a2 l2 rows) (hc : l2 ≤ c2) :
    Calls Tryz.prog 67 #[.agg #[.slice a1 l1 c1, .slice a2 l2 c2]] w (AnsPost w (jobsM rows) (keptB rows)) := by
  have HE := Lib.hid hE
  have H10 := Lib.hid h10
  clear hE h10
  obtain ⟨w2, hw2⟩ : ∃ w2 : World, w2 = w.alloc (.cells #[.slice a1 l1 c1, .slice a2 l2 c2] 77) := ⟨_, rfl⟩
  have HB2 := Lib.hid (show Below w.heap.size w w2 by rw [hw2]; exact (Below.refl _ w).alloc (Nat.le_refl _) _)
  have HS2 := Lib.hid (show w2.heap.size = w.heap.size + 1 by rw [hw2]; simp)
  have hq0 : w2.cell? ⟨w.heap.size, 0, none⟩ = some (.slice a1 l1 c1) := by rw [hw2]; simp
  have hq1 : w2.cell? ⟨w.heap.size, 1, none⟩ = some (.slice a2 l2 c2) := by rw [hw2]; simp
  have HE2 := Lib.hid (env_up HE.out H10.out HB2.out)
  have H102 := Lib.hid (show 10 ≤ w2.heap.size by have := H10.out; have := HS2.out; omega)
  have HR2 := Lib.hid (rows_up h HB2.out)
  clear h
  go_enter Tryz.func67, Tryz.ntmps67
  go_wp2_with fail
  rw [← hw2]
  clear hw2
  refine (validJobs_impl a2 l2 c2 rows w2 HR2.out hc).mono ?_
  rintro e w3 ⟨rfl, hb3⟩
  have HB3 := Lib.hid hb3
  cases hp : jobsM rows
  · clear hb3
    go_wp2_with fail
    go_ret2
    exact ⟨HB2.out.trans (HB3.out.mono HB2.out.size), .inr ⟨hp, _, _, rfl⟩⟩
  · have hq1 := cell_up hq1 (by have := HS2.out; omega) hb3
    have HP := Lib.hid hp
    have HRR := Lib.hid (show keptRes rows = nI (keptM rows rows.length rows.length) by unfold keptRes; rw [hp]; rfl)
    have HBD := Lib.hid (kept_bd hp (jobs_get hp).1)
    have HKL := Lib.hid (show (nI (keptM rows rows.length rows.length)).length ≤ 8 by have := kept_len hp (n := rows.length) (j := rows.length); have := (jobs_get hp).1; unfold nI; rw [List.length_map]; omega)
    have hs3 : w2.heap.size ≤ w3.heap.size := hb3.size
    have HR3 := Lib.hid (rows_up HR2.out hb3)
    clear hp hb3
    go_wp2_with fail
    refine (keptOnTime_impl a2 l2 c2 rows w3 HR3.out hc).mono ?_
    rintro e w4 ⟨a4, l4, c4, rfl, h4, _, hc4, hb4⟩
    rw [HRR.out] at h4
    have hs4 : w3.heap.size ≤ w4.heap.size := hb4.size
    have HB4 := Lib.hid ((HB2.out.trans (HB3.out.mono HB2.out.size)).trans (hb4.mono (by have := HS2.out; omega)))
    have HI4 := Lib.hid (show IntsAt w4 (· < w4.heap.size) a4 l4 _ from h4.to fun b hb => ⟨hb.2, rfl⟩)
    have HE4 := Lib.hid (env_up HE.out H10.out HB4.out)
    have H104 := Lib.hid (show 10 ≤ w4.heap.size by have := H102.out; omega)
    clear h4 hb4
    go_wp2_with fail
    refine (written_any a4 l4 c4 _ w4 HE4.out H104.out HI4.out (fun x hx => by have := HBD.out x hx; omega) (by have := HI4.out.lenEq; have := HKL.out; omega)).mono ?_
    rintro e w5 ⟨rfl, hb5⟩
    have HB5 := Lib.hid (HB4.out.trans (hb5.mono HB4.out.size))
    clear hb5
    go_wp2_with fail
    go_ret2
    exact ⟨HB5.out, .inl ⟨HP.out, rfl⟩⟩
set_option maxRecDepth 100000 in
set_option maxHeartbeats 8000000 in
theorem answerLots_any (a1 : Option Addr) (c1 : Nat) (a2 : Option Addr) (l2 c2 : Nat) (rows : List (List Int)) (s h' : Int) (w : World) (hE : EnvD w) (h10 : 10 ≤ w.heap.size) (hx : IntsAt w (· < w.heap.size) a1 2 [s, h']) (h : RowsAt w (· < w.heap.size) a2 l2 rows) (h0 : 0 < l2) :
    Calls Tryz.prog 68 #[.agg #[.slice a1 2 c1, .slice a2 l2 c2]] w (AnsPost w (validLotsM (rows.getD 0 []) s h') (lotsB (rows.getD 0 []) s h')) := by
  have HE := Lib.hid hE
  have H10 := Lib.hid h10
  clear hE h10
  obtain ⟨w2, hw2⟩ : ∃ w2 : World, w2 = w.alloc (.cells #[.slice a1 2 c1, .slice a2 l2 c2] 77) := ⟨_, rfl⟩
  have HB2 := Lib.hid (show Below w.heap.size w w2 by rw [hw2]; exact (Below.refl _ w).alloc (Nat.le_refl _) _)
  have HS2 := Lib.hid (show w2.heap.size = w.heap.size + 1 by rw [hw2]; simp)
  have hq0 : w2.cell? ⟨w.heap.size, 0, none⟩ = some (.slice a1 2 c1) := by rw [hw2]; simp
  have hq1 : w2.cell? ⟨w.heap.size, 1, none⟩ = some (.slice a2 l2 c2) := by rw [hw2]; simp
  have HE2 := Lib.hid (env_up HE.out H10.out HB2.out)
  have H102 := Lib.hid (show 10 ≤ w2.heap.size by have := H10.out; have := HS2.out; omega)
  have HXS := Lib.hid hx
  obtain ⟨b1, o1, s', e1, hs1, hcs⟩ := (ints_up hx HB2.out).get (k := 0) (by omega)
  obtain ⟨b1', o1', t', e1', hh1, hch⟩ := (ints_up hx HB2.out).get (k := 1) (by omega)
  rw [e1] at e1'
  injection e1' with e1'
  injection e1' with q1 q2
  subst q1 q2 e1
  injection hs1 with hs1
  injection hh1 with hh1
  subst hs1 hh1
  rw [Nat.add_zero] at hcs
  obtain ⟨b2, o2, r0, aR, lR, cR, e2, hr0, hcr, hlc, hri⟩ := (rows_up h HB2.out).get (k := 0) (by omega)
  subst e2
  have HR0 := Lib.hid (row_zero hr0)
  have HRI := Lib.hid hri
  have HLC := Lib.hid hlc
  rw [Nat.add_zero] at hcr
  have hl2 : 0 < l2 := h0
  have hl2I : (0 : Int) < (l2 : Int) := by omega
  clear h hx hr0 hri h0
  rw [HR0.out]
  go_enter Tryz.func68, Tryz.ntmps68
  go_wp2_with fail
  rw [← hw2]
  clear hw2
  go_quiet (fail)
  obtain ⟨w3, hw3⟩ : ∃ w3 : World, w3 = w2.drewN nq := ⟨_, rfl⟩
  rw [← hw3]
  have HB3 := Lib.hid (show Below w.heap.size w w3 by rw [hw3]; exact below_dn HB2.out _)
  have HI3 := Lib.hid (show IntsAt w3 (· < w3.heap.size) aR lR r0 by rw [hw3]; exact HRI.out.to fun b hb => ⟨hb, rfl⟩)
  have HE3 := Lib.hid (env_up HE.out H10.out HB3.out)
  have H103 := Lib.hid (show 10 ≤ w3.heap.size by rw [hw3]; exact H102.out)
  clear hw3 hq0 hq1 hcs hch hcr
  have hva := fun b (hb : (inB 0 30 s && inB 0 30 h') = b) (W : World) => areC hb W
  go_wp2_with fail
  cases hc : (inB 0 30 s && inB 0 30 h')
  · have HN := Lib.hid (show validLotsM r0 s h' = false by unfold validLotsM; rw [Bool.and_assoc, hc, Bool.and_false])
    refine (areC hc w3).mono ?_
    rintro e w' ⟨rfl, hw⟩
    subst hw
    go_wp2_with fail
    go_ret2
    exact ⟨HB3.out, .inr ⟨HN.out, _, _, rfl⟩⟩
  · refine (areC hc w3).mono ?_
    rintro e w' ⟨rfl, hw⟩
    subst hw
    cases hv : validDaysM r0
    · have HN := Lib.hid (show validLotsM r0 s h' = false by unfold validLotsM; rw [hv]; rfl)
      have HV := Lib.hid (hv ▸ validDays_impl _ aR lR cR r0 w3 HI3.out)
      go_wp2_with fail
      refine HV.out.mono ?_
      rintro e w' ⟨rfl, hw⟩
      subst hw
      go_wp2_with fail
      go_ret2
      exact ⟨HB3.out, .inr ⟨HN.out, _, _, rfl⟩⟩
    · have HP := Lib.hid (show validLotsM r0 s h' = true by unfold validLotsM; rw [Bool.and_assoc, hc, hv]; rfl)
      have HV := Lib.hid (hv ▸ validDays_impl _ aR lR cR r0 w3 HI3.out)
      have HBD := Lib.hid (lots_bd HP.out)
      have HRS := Lib.hid (bestRes_yes HP.out)
      have HLS := Lib.hid (leastRes_yes HP.out)
      have HTW := Lib.hid (show lotsB r0 s h' = listB (bestLotsM r0 s h') ++ sgnB 32 ++ numB (bst r0 s h' 0) from rfl)
      have hz1 := listB_size (xs := bestLotsM r0 s h') fun x hx => by have := HBD.out.2.1 x hx; omega
      have hz2 := numB_size (n := bst r0 s h' 0) (by have := HBD.out.2.2; omega) (by have := HBD.out.2.2; omega)
      have hz3 := HBD.out.1
      generalize hLB : listB (bestLotsM r0 s h') = LB at *
      generalize hsp : bst r0 s h' 0 = sp at *
      have HLB := Lib.hid hLB
      have HSPB := Lib.hid HBD.out.2.2
      have t0 : ¬ 9223372036854775807 < LB.size + 1 := by omega
      have t1 : ¬ 9223372036854775807 < LB.size + (⟨#[32]⟩ : ByteArray).size := by show ¬ _ < _ + 1; omega
      have t2 : ¬ 9223372036854775807 < (LB ++ (⟨#[32]⟩ : ByteArray)).size + (numB sp).size := by rw [ByteArray.size_append]; show ¬ _ < _ + 1 + _; omega
      have t3 : ¬ 9223372036854775807 < LB.size + 1 + (numB sp).size := by omega
      clear hz1 hz2 hz3 hLB hsp hc hv hva
      go_wp2_with fail
      refine HV.out.mono ?_
      rintro e w' ⟨rfl, hw⟩
      subst hw
      go_wp2_with fail
      refine (bestLots_impl aR lR cR r0 s h' w3 HI3.out HLC.out).mono ?_
      rintro e w4 ⟨a4, l4, c4, rfl, h4, _, hc4, hb4⟩
      rw [HRS.out] at h4
      have HB4 := Lib.hid hb4
      have HI4 := Lib.hid (show IntsAt w4 (· < w4.heap.size) a4 l4 _ from h4.to fun b hb => ⟨hb.2, rfl⟩)
      clear h4 hb4 hc4
      go_wp2_with fail
      refine (written_any a4 l4 c4 _ w4 (env_up HE3.out H103.out HB4.out) (Nat.le_trans H103.out HB4.out.size) HI4.out (fun x hx => by have := HBD.out.2.1 x hx; omega) (by have := HI4.out.lenEq; have := HBD.out.1; omega)).mono ?_
      rintro e w5 ⟨rfl, hb5⟩
      rw [HLB.out]
      have HB5 := Lib.hid (HB4.out.trans (hb5.mono HB4.out.size))
      clear hb5
      go_wp2_with fail
      refine (leastLots_impl aR lR cR r0 s h' w5 (ints_up HI3.out HB5.out) HLC.out).mono ?_
      rintro e w6 ⟨rfl, hb6⟩
      rw [HLS.out]
      have HB6 := Lib.hid (HB5.out.trans (hb6.mono HB5.out.size))
      clear hb6
      go_wp2_with fail
      refine (itoaD sp w6 (env_up HE3.out H103.out HB6.out) (by have := HSPB.out; omega) (by have := HSPB.out; omega)).mono ?_
      rintro e w7 ⟨rfl, hb7⟩
      have HB7 := Lib.hid (HB6.out.trans (hb7.mono HB6.out.size))
      clear hb7
      go_wp2_with fail
      go_ret2
      exact ⟨HB3.out.trans (HB7.out.mono HB3.out.size), .inl ⟨HP.out, by rw [HTW.out]; rfl⟩⟩
set_option maxRecDepth 100000 in
set_option maxHeartbeats 8000000 in
theorem answerStock_any (a1 : Option Addr) (c1 : Nat) (a2 : Option Addr) (l2 c2 : Nat) (rows : List (List Int)) (s h' : Int) (w : World) (hE : EnvD w) (h10 : 10 ≤ w.heap.size) (hx : IntsAt w (· < w.heap.size) a1 2 [s, h']) (h : RowsAt w (· < w.heap.size) a2 l2 rows) (h0 : 0 < l2) :
    Calls Tryz.prog 70 #[.agg #[.slice a1 2 c1, .slice a2 l2 c2]] w (AnsPost w (okO (rows.getD 0 []) s h') (stockB (rows.getD 0 []) s h')) := by
  have HE := Lib.hid hE
  have H10 := Lib.hid h10
  clear hE h10
  obtain ⟨w2, hw2⟩ : ∃ w2 : World, w2 = w.alloc (.cells #[.slice a1 2 c1, .slice a2 l2 c2] 77) := ⟨_, rfl⟩
  have HB2 := Lib.hid (show Below w.heap.size w w2 by rw [hw2]; exact (Below.refl _ w).alloc (Nat.le_refl _) _)
  have HS2 := Lib.hid (show w2.heap.size = w.heap.size + 1 by rw [hw2]; simp)
  have hq0 : w2.cell? ⟨w.heap.size, 0, none⟩ = some (.slice a1 2 c1) := by rw [hw2]; simp
  have hq1 : w2.cell? ⟨w.heap.size, 1, none⟩ = some (.slice a2 l2 c2) := by rw [hw2]; simp
  have HE2 := Lib.hid (env_up HE.out H10.out HB2.out)
  have H102 := Lib.hid (show 10 ≤ w2.heap.size by have := H10.out; have := HS2.out; omega)
  have HXS := Lib.hid hx
  obtain ⟨b1, o1, s', e1, hs1, hcs⟩ := (ints_up hx HB2.out).get (k := 0) (by omega)
  obtain ⟨b1', o1', t', e1', hh1, hch⟩ := (ints_up hx HB2.out).get (k := 1) (by omega)
  rw [e1] at e1'
  injection e1' with e1'
  injection e1' with q1 q2
  subst q1 q2 e1
  injection hs1 with hs1
  injection hh1 with hh1
  subst hs1 hh1
  rw [Nat.add_zero] at hcs
  obtain ⟨b2, o2, r0, aR, lR, cR, e2, hr0, hcr, hlc, hri⟩ := (rows_up h HB2.out).get (k := 0) (by omega)
  subst e2
  have HR0 := Lib.hid (row_zero hr0)
  have HRI := Lib.hid hri
  have HLC := Lib.hid hlc
  rw [Nat.add_zero] at hcr
  have hl2 : 0 < l2 := h0
  have hl2I : (0 : Int) < (l2 : Int) := by omega
  clear h hx hr0 hri h0
  rw [HR0.out]
  go_enter Tryz.func70, Tryz.ntmps70
  go_wp2_with fail
  rw [← hw2]
  clear hw2
  go_quiet (fail)
  obtain ⟨w3, hw3⟩ : ∃ w3 : World, w3 = w2.drewN nq := ⟨_, rfl⟩
  rw [← hw3]
  have HB3 := Lib.hid (show Below w.heap.size w w3 by rw [hw3]; exact below_dn HB2.out _)
  have HI3 := Lib.hid (show IntsAt w3 (· < w3.heap.size) aR lR r0 by rw [hw3]; exact HRI.out.to fun b hb => ⟨hb, rfl⟩)
  have HE3 := Lib.hid (env_up HE.out H10.out HB3.out)
  have H103 := Lib.hid (show 10 ≤ w3.heap.size by rw [hw3]; exact H102.out)
  clear hw3 hq0 hq1 hcs hch hcr
  go_wp2_with fail
  cases hc : (inB 0 30 s && inB 0 30 h')
  · have HN := Lib.hid (show okO r0 s h' = false by unfold okO; rw [Bool.and_assoc, hc, Bool.and_false])
    refine (areC hc w3).mono ?_
    rintro e w' ⟨rfl, hw⟩
    subst hw
    go_wp2_with fail
    go_ret2
    exact ⟨HB3.out, .inr ⟨HN.out, _, _, rfl⟩⟩
  · refine (areC hc w3).mono ?_
    rintro e w' ⟨rfl, hw⟩
    subst hw
    cases hv : chM r0
    · have HN := Lib.hid (show okO r0 s h' = false by unfold okO; rw [hv]; rfl)
      have HV := Lib.hid (vchI (cap := cR) hv w3 HI3.out)
      go_wp2_with fail
      refine HV.out.mono ?_
      rintro e w' ⟨rfl, hw⟩
      subst hw
      go_wp2_with fail
      go_ret2
      exact ⟨HB3.out, .inr ⟨HN.out, _, _, rfl⟩⟩
    · have HP := Lib.hid (show okO r0 s h' = true by unfold okO; rw [Bool.and_assoc, hc, hv]; rfl)
      have HV := Lib.hid (vchI (cap := cR) hv w3 HI3.out)
      have HBD := Lib.hid (stock_bd HP.out)
      clear hc hv
      go_wp2_with fail
      refine HV.out.mono ?_
      rintro e w' ⟨rfl, hw⟩
      subst hw
      go_wp2_with fail
      refine (bestStock_impl aR lR cR r0 s h' w3 HI3.out).mono ?_
      rintro e w4 ⟨rfl, hb4⟩
      have HB4 := Lib.hid hb4
      clear hb4
      go_wp2_with fail
      refine (itoaD _ w4 (env_up HE3.out H103.out HB4.out) (by have := HBD.out; omega) (by have := HBD.out; omega)).mono ?_
      rintro e w5 ⟨rfl, hb5⟩
      have HB5 := Lib.hid (HB4.out.trans (hb5.mono HB4.out.size))
      clear hb5
      go_wp2_with fail
      go_ret2
      exact ⟨HB3.out.trans (HB5.out.mono HB3.out.size), .inl ⟨HP.out, rfl⟩⟩
set_option maxRecDepth 100000 in
set_option maxHeartbeats 8000000 in
theorem answerRolls_any (a1 : Option Addr) (c1 : Nat) (a2 : Option Addr) (l2 c2 : Nat) (rows : List (List Int)) (R : Int) (w : World) (hE : EnvD w) (h10 : 10 ≤ w.heap.size) (hx : IntsAt w (· < w.heap.size) a1 1 [R]) (h : RowsAt w (· < w.heap.size) a2 l2 rows) (h0 : 0 < l2) :
    Calls Tryz.prog 69 #[.agg #[.slice a1 1 c1, .slice a2 l2 c2]] w (AnsPost w (cutsM (rows.getD 0 []) R) (rollsB (rows.getD 0 []) R)) := by
  have HE := Lib.hid hE
  have H10 := Lib.hid h10
  clear hE h10
  obtain ⟨w2, hw2⟩ : ∃ w2 : World, w2 = w.alloc (.cells #[.slice a1 1 c1, .slice a2 l2 c2] 77) := ⟨_, rfl⟩
  have HB2 := Lib.hid (show Below w.heap.size w w2 by rw [hw2]; exact (Below.refl _ w).alloc (Nat.le_refl _) _)
  have HS2 := Lib.hid (show w2.heap.size = w.heap.size + 1 by rw [hw2]; simp)
  have hq0 : w2.cell? ⟨w.heap.size, 0, none⟩ = some (.slice a1 1 c1) := by rw [hw2]; simp
  have hq1 : w2.cell? ⟨w.heap.size, 1, none⟩ = some (.slice a2 l2 c2) := by rw [hw2]; simp
  have HE2 := Lib.hid (env_up HE.out H10.out HB2.out)
  have H102 := Lib.hid (show 10 ≤ w2.heap.size by have := H10.out; have := HS2.out; omega)
  obtain ⟨b1, o1, s', e1, hs1, hcs⟩ := (ints_up hx HB2.out).get (k := 0) (by omega)
  injection hs1 with hs1
  subst hs1 e1
  rw [Nat.add_zero] at hcs
  obtain ⟨b2, o2, r0, aR, lR, cR, e2, hr0, hcr, hlc, hri⟩ := (rows_up h HB2.out).get (k := 0) (by omega)
  subst e2
  have HR0 := Lib.hid (row_zero hr0)
  have HRI := Lib.hid hri
  have HLC := Lib.hid hlc
  rw [Nat.add_zero] at hcr
  have hl2 : 0 < l2 := h0
  have hl2I : (0 : Int) < (l2 : Int) := by omega
  clear h hx hr0 hri h0
  rw [HR0.out]
  go_enter Tryz.func69, Tryz.ntmps69
  go_wp2_with fail
  rw [← hw2]
  clear hw2
  go_quiet (fail)
  obtain ⟨w3, hw3⟩ : ∃ w3 : World, w3 = w2.drewN nq := ⟨_, rfl⟩
  rw [← hw3]
  have HB3 := Lib.hid (show Below w.heap.size w w3 by rw [hw3]; exact below_dn HB2.out _)
  have HI3 := Lib.hid (show IntsAt w3 (· < w3.heap.size) aR lR r0 by rw [hw3]; exact HRI.out.to fun b hb => ⟨hb, rfl⟩)
  have HE3 := Lib.hid (env_up HE.out H10.out HB3.out)
  have H103 := Lib.hid (show 10 ≤ w3.heap.size by rw [hw3]; exact H102.out)
  clear hw3 hq0 hq1 hcs hcr
  go_wp2_with fail
  refine (vCuts_impl _ aR lR cR r0 R w3 HI3.out).mono ?_
  rintro e w' ⟨rfl, hw⟩
  subst hw
  cases hv : cutsM r0 R
  · have HN := Lib.hid hv
    go_wp2_with fail
    go_ret2
    exact ⟨HB3.out, .inr ⟨HN.out, _, _, rfl⟩⟩
  · have HP := Lib.hid hv
    have HBD := Lib.hid (rollsK_bd hv)
    have HTW := Lib.hid (show rollsB r0 R = numB (rollsRes r0 R) ++ sgnB 32 ++ listB (rollRes r0 R kLong) from rfl)
    have hz1 := listB_size (xs := rollRes r0 R kLong) fun x hx => by have := HBD.out.2.2 x hx; omega
    have hz2 := numB_size (n := rollsRes r0 R) (by have := HBD.out.1; omega) (by have := HBD.out.1; omega)
    have hz3 := HBD.out.2.1
    generalize hLB : listB (rollRes r0 R kLong) = LB at *
    generalize hsp : rollsRes r0 R = sp at *
    have HLB := Lib.hid hLB
    have HSP := Lib.hid hsp
    have t0 : ¬ 9223372036854775807 < (numB sp).size + 1 := by omega
    have t1 : ¬ 9223372036854775807 < (numB sp).size + (⟨#[32]⟩ : ByteArray).size := by show ¬ _ < _ + 1; omega
    have t2 : ¬ 9223372036854775807 < ((numB sp) ++ (⟨#[32]⟩ : ByteArray)).size + LB.size := by rw [ByteArray.size_append]; show ¬ _ < _ + 1 + _; omega
    have t3 : ¬ 9223372036854775807 < (numB sp).size + 1 + LB.size := by omega
    clear hz1 hz2 hz3 hLB hsp hv
    go_wp2_with fail
    refine (fewestRolls_impl aR lR cR r0 R _ HI3.out).mono ?_
    rintro e w4 ⟨rfl, hb4⟩
    rw [HSP.out]
    have HB4 := Lib.hid hb4
    clear hb4
    go_wp2_with fail
    refine (itoaD sp w4 (env_up HE3.out H103.out HB4.out) (by have := HBD.out.1; omega) (by have := HBD.out.1; omega)).mono ?_
    rintro e w5 ⟨rfl, hb5⟩
    have HB5 := Lib.hid (HB4.out.trans (hb5.mono HB4.out.size))
    clear hb5
    go_wp2_with fail
    refine (rollsBy_impl aR lR cR r0 R kLong w5 (ints_up HI3.out HB5.out)).mono ?_
    rintro e w6 ⟨a4, l4, c4, rfl, h4, hc4, hb6⟩
    have HB6 := Lib.hid (HB5.out.trans (hb6.mono HB5.out.size))
    have HI6 := Lib.hid (show IntsAt w6 (· < w6.heap.size) a4 l4 _ from h4.to fun b hb => ⟨hb.2, rfl⟩)
    clear h4 hb6 hc4
    go_wp2_with fail
    refine (written_any a4 l4 c4 _ w6 (env_up HE3.out H103.out HB6.out) (Nat.le_trans H103.out HB6.out.size) HI6.out (fun x hx => by have := HBD.out.2.2 x hx; omega) (by have := HI6.out.lenEq; have := HBD.out.2.1; omega)).mono ?_
    rintro e w7 ⟨rfl, hb7⟩
    rw [HLB.out]
    have HB7 := Lib.hid (HB6.out.trans (hb7.mono HB6.out.size))
    clear hb7
    go_wp2_with fail
    go_ret2
    exact ⟨HB3.out.trans (HB7.out.mono HB3.out.size), .inl ⟨HP.out, by rw [HTW.out]; rfl⟩⟩
end Go.Proofs.YtjcbpnffmebihaaGreatDoor
