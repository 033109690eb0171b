import Derived.Test.YtjcbpnffmebihaaGreatDoorA34
import Derived.Test.YtjcbpnffmebihaaGreatDoorRows
import Derived.WalkKit
import Derived.LoopTactic
import Derived.Outline
import Derived.WalkSpells
import Derived.WalkLawsBesides
import Derived.ProofKit
import Derived.Lib.Hide
import Derived.Deep.RegionHeld3
import Derived.BigQuiet
set_option linter.unusedVariables false
set_option linter.unusedSimpArgs false
namespace Go.Proofs.YtjcbpnffmebihaaGreatDoor
open Go.RowKit Go.WideShapes

theorem ints_up {w w' : World} {a : Option Addr} {l : Nat} {xs : List Int} (h : IntsAt w (· < w.heap.size) a l xs) (g : Below w.heap.size w w') : IntsAt w' (· < w'.heap.size) a l xs :=
  h.to fun b hb => ⟨Nat.lt_of_lt_of_le hb g.size, g.block b hb⟩
theorem cell_up {w w' : World} {b o : Nat} {v : Value} (h : w.cell? ⟨b, o, none⟩ = some v) (hb : b < w.heap.size) (g : Below w.heap.size w w') : w'.cell? ⟨b, o, none⟩ = some v := by
  rw [World.cell?_of_block (w := w) (g.block b hb)]; exact h
theorem below_dn {B : Nat} {a w : World} (h : Below B a w) (q : Nat) : Below B a (w.drewN q) := ⟨h.os, h.tape, h.output, h.size, h.block⟩
theorem bestFrom_at {a : Option Addr} {len cap : Nat} {xs : List Int} {s h : Int} {w : World} (hx : IntsAt w (· < w.heap.size) a len xs) (hcap : len ≤ cap) (hv : validLotsM xs s h = true) :
    Calls Tryz.prog 41 #[.slice a len cap, .int .i64 s, .int .i64 h] w fun e w' => ∃ g : Nat, e = .returned (.slice (some ⟨g, 0, none⟩) (len + 1) (len + 1)) ∧ g < w'.heap.size ∧ w'.cell? ⟨g, 0, none⟩ = some (.int .i64 (bst xs s h 0)) ∧ Below w.heap.size w w' :=
  (bestFrom_spec a len cap xs s h w hx hcap hv).mono fun _ _ hof => ⟨_, hof.1, (hof.2.own.lt _ rfl).2, (hof.2.cell (q := 0) (by omega)).1, hof.2.below⟩
theorem row_zero {rows : List (List Int)} {r : List Int} (h : rows[0]? = some r) : rows.getD 0 [] = r := by rw [List.getD_eq_getElem?_getD, h]; rfl
set_option maxRecDepth 100000 in
set_option maxHeartbeats 8000000 in
/-- the model's answer to a line of chances -/
theorem answer_stock (line : ByteArray) (w : World) (hs : line.size ≤ 1048575) (hk : (splitB line 32).getD 0 ByteArray.empty = kStock) :
    Calls Tryz.prog 26 #[.string line] w (fun e w' => e = .returned (.string (ansB line)) ∧ Below w.heap.size w w') := by
  have hlen := splitB_pos line 32
  have HSZ := Lib.hid (splitB_size line 32)
  have HK := Lib.hid hk
  clear hk
  go_enter Tryz.func26, Tryz.ntmps26
  go_wp2_with fail
  refine (splitAt_any line 32 _ hs).mono ?_
  rintro e w1 ⟨a, n, c, rfl, hn, hlo, hb⟩
  have hnl := strs_len hlo
  have HNL := Lib.hid hnl
  obtain ⟨m, hm⟩ : ∃ m : Nat, n = m + 1 := ⟨n - 1, by omega⟩
  subst hm
  have HLO := Lib.hid hlo
  have HB := Lib.hid hb
  obtain ⟨b0, of0, x0, e0, hx0, hc0⟩ := (own_strsAt hlo hn).get (k := 0) (by omega)
  have hb0 : b0 < w1.heap.size := by
    obtain ⟨b', o', e', hS, _⟩ := (own_strsAt hlo hn).cells (by omega)
    rw [e0] at e'; injection e' with e'; injection e' with e' _; subst e'; exact hS.2
  obtain ⟨b1, of1, x1, e1, hx1, hc1⟩ := (own_strsAt hlo hn).get (k := m) (by omega)
  rw [e0] at e1
  injection e1 with e1
  injection e1 with q1 q2
  subst q1 q2 e0
  have hl1 : x1.size ≤ 1048575 := Nat.le_trans (HSZ.out x1 (List.mem_of_getElem? hx1)) hs
  obtain rfl : x0 = ⟨#[115, 116, 111, 99, 107]⟩ := (getD_some hx0).symm.trans HK.out
  have HX1 := Lib.hid (getD_some hx1)
  have hwm : IntKind.i64.wrap ((m : Int) + 1 - 1) = (m : Int) := by rw [Int.add_sub_cancel]; exact IntWalk.i64_in _ (by omega)
  have hm1 : (m : Int) < (m : Int) + 1 := by omega
  have hm2 : (0 : Int) < (m : Int) + 1 := by omega
  rw [Nat.add_zero] at hc0
  clear hlo hb hx0 hx1 hnl hlen
  go_wp2_with fail
  refine (readRows_any x1 w1 hl1).mono ?_
  rintro e w2 ⟨a2, c2, rfl, hc2, hpt, hb2⟩
  have hc02 : w2.cell? ⟨b0, of0, none⟩ = some (.string ⟨#[115, 116, 111, 99, 107]⟩) := by rw [World.cell?_of_block (w := w1) (hb2.block b0 hb0)]; exact hc0
  have hrl := rowsB_len x1
  have hra := (hpt.rowsAt rfl (by omega)).to (w' := w2) (S' := (· < w2.heap.size)) fun b hb => ⟨hb.2, rfl⟩
  have HRA := Lib.hid hra
  have HB2 := Lib.hid (HB.out.trans (hb2.mono HB.out.size))
  have HB12 := Lib.hid hb2
  have HS12 := Lib.hid hb2.size
  clear hc0 hc1 hpt hb2 hra
  by_cases hm : m + 1 = 4
  · obtain rfl : m = 3 := by omega
    obtain ⟨p1, of1, y1, ey1, hy1, hcy1⟩ := (own_strsAt HLO.out hn).get (k := 1) (by omega)
    injection ey1 with ey1
    injection ey1 with q1 q2
    subst q1 q2
    have hcy1 : w2.cell? ⟨b0, of0 + 1, none⟩ = some (.string y1) := cell_up hcy1 hb0 HB12.out
    have HY1 := Lib.hid (getD_some hy1)
    have hyl1 : y1.size ≤ 1048576 := by have := HSZ.out y1 (List.mem_of_getElem? hy1); omega
    clear hy1
    obtain ⟨p2, of2, y2, ey2, hy2, hcy2⟩ := (own_strsAt HLO.out hn).get (k := 2) (by omega)
    injection ey2 with ey2
    injection ey2 with q1 q2
    subst q1 q2
    have hcy2 : w2.cell? ⟨b0, of0 + 2, none⟩ = some (.string y2) := cell_up hcy2 hb0 HB12.out
    have HY2 := Lib.hid (getD_some hy2)
    have hyl2 : y2.size ≤ 1048576 := by have := HSZ.out y2 (List.mem_of_getElem? hy2); omega
    clear hy2
    obtain ⟨bR, oR, r0, aR, lR, cR, rfl, hr0, hcr, hlc, hri⟩ := HRA.out.get (k := 0) (by omega)
    have hbR : bR < w2.heap.size := by
      obtain ⟨b', o', e', hS, _⟩ := HRA.out.cells (by omega)
      injection e' with e'; injection e' with e' _; subst e'; exact hS
    have HR0 := Lib.hid (row_zero hr0)
    have HRI := Lib.hid hri
    rw [Nat.add_zero] at hcr
    have hn1 : (0 : Int) < ((rowsB x1).length : Int) := by omega
    have hn2 : 0 < (rowsB x1).length := by omega
    clear hr0 hri
    have HANS := Lib.hid (show ansB line = (if (rowsB x1).length = 1 ∧ okO r0 (readB y1) (readB y2) = true then stockB r0 (readB y1) (readB y2) else sWrong) by
      unfold ansB wordsB
      rw [if_neg (by rw [HK.out]; decide), if_neg (by rw [HK.out]; decide), if_neg (by rw [HK.out]; decide), if_neg (by rw [HK.out]; decide), if_pos HK.out]
      rw [HNL.out, show 3 + 1 - 1 = 3 from rfl, HX1.out, HY1.out, HY2.out, HR0.out]
      by_cases e : (rowsB x1).length = 1 ∧ okO r0 (readB y1) (readB y2) = true
      · rw [if_pos e, if_pos ⟨rfl, e⟩]
      · rw [if_neg e, if_neg fun e' => e e'.2])
    have HC1 := Lib.hid (fun W => readNumber_any y1 W hyl1)
    have HC2 := Lib.hid (fun W => readNumber_any y2 W hyl2)
    have HV := Lib.hid (fun q => validOver_any _ aR lR cR r0 (readB y1) (readB y2) (w2.drewN q) (HRI.out.to (w' := w2.drewN q) fun b hb => ⟨hb, rfl⟩))
    have HF := Lib.hid (fun q => bestStock_spec _ aR lR cR r0 (readB y1) (readB y2) (w2.drewN q) (HRI.out.to (w' := w2.drewN q) fun b hb => ⟨hb, rfl⟩))
    generalize readB y1 = A at *
    generalize readB y2 = B at *
    generalize (rowsB x1).length = nR at *
    clear hyl1 hyl2 hrl
    go_wp2_with fail
    by_cases h1 : nR = 1
    · have h1t : ((nR : Int) == 1) = true := by rw [beq_iff_eq]; omega
      cases hv : okO r0 A B
      · rw [hv] at HV
        go_quiet (first | (go_at_call 39; first | (with_reducible exact Calls.quiet_of_same (HC1.out _)) | (with_reducible exact Calls.quiet_of_same (HC2.out _))) | (go_at_call 45; exact Calls.quiet_of_same ((HV.out _).mono fun _ _ h => ⟨h.1, h.2.symm⟩)))
        go_wp2_with fail
        go_ret
        exact ⟨ret_str (by rw [HANS.out, if_neg (by rw [hv]; simp)]; rfl), below_dn HB2.out _⟩
      · rw [hv] at HV
        have HBD := Lib.hid (stock_bd hv)
        have HE := Lib.hid (show ansB line = numB (shareRes r0 A B) by rw [HANS.out, if_pos ⟨h1, hv⟩]; rfl)
        clear hv
        go_quiet (first | (go_at_call 39; first | (with_reducible exact Calls.quiet_of_same (HC1.out _)) | (with_reducible exact Calls.quiet_of_same (HC2.out _))) | (go_at_call 45; exact Calls.quiet_of_same ((HV.out _).mono fun _ _ h => ⟨h.1, h.2.symm⟩)))
        go_wp2_with fail
        go_quiet (first | (go_at_call 39; first | (with_reducible exact quiet_add (HC1.out _)) | (with_reducible exact quiet_add (HC2.out _))) | (go_at_call 46; exact quiet_add ((HF.out _).mono fun _ _ h => ⟨h.1, h.2.symm⟩)) | (go_at_call 18; exact quiet_add (number_any _ _ (by have := HBD.out; omega) (by have := HBD.out; omega))))
        go_wp2_with fail
        go_ret
        exact ⟨ret_str HE.out.symm, below_dn (below_dn HB2.out _) _⟩
    · have h1t : ((nR : Int) == 1) = false := by rw [beq_eq_false_iff_ne]; omega
      go_quiet (fail)
      go_wp2_with fail
      go_ret
      exact ⟨ret_str (by rw [HANS.out, if_neg (by omega)]; rfl), below_dn HB2.out _⟩
  · have hne : ((m : Int) + 1 == 4) = false := by rw [beq_eq_false_iff_ne]; omega
    have HANS := Lib.hid (show ansB line = sWrong by
      unfold ansB wordsB
      rw [if_neg (by rw [HK.out]; decide), if_neg (by rw [HK.out]; decide), if_neg (by rw [HK.out]; decide), if_neg (by rw [HK.out]; decide), if_pos HK.out]
      exact if_neg (by rw [HNL.out]; omega))
    clear hrl
    go_wp2_with fail
    go_quiet (fail)
    go_wp2_with fail
    go_ret
    exact ⟨ret_str HANS.out.symm, below_dn HB2.out _⟩
set_option maxRecDepth 100000 in
set_option maxHeartbeats 8000000 in
/-- the model's answer to a line of days -/
theorem answer_lots (line : ByteArray) (w : World) (hs : line.size ≤ 1048575) (hk : (splitB line 32).getD 0 ByteArray.empty = kLots) :
    Calls Tryz.prog 26 #[.string line] w (fun e w' => e = .returned (.string (ansB line)) ∧ Below w.heap.size w w') := by
  have hlen := splitB_pos line 32
  have HSZ := Lib.hid (splitB_size line 32)
  have HK := Lib.hid hk
  clear hk
  go_enter Tryz.func26, Tryz.ntmps26
  go_wp2_with fail
  refine (splitAt_any line 32 _ hs).mono ?_
  rintro e w1 ⟨a, n, c, rfl, hn, hlo, hb⟩
  have hnl := strs_len hlo
  have HNL := Lib.hid hnl
  obtain ⟨m, hm⟩ : ∃ m : Nat, n = m + 1 := ⟨n - 1, by omega⟩
  subst hm
  have HLO := Lib.hid hlo
  have HB := Lib.hid hb
  obtain ⟨b0, of0, x0, e0, hx0, hc0⟩ := (own_strsAt hlo hn).get (k := 0) (by omega)
  have hb0 : b0 < w1.heap.size := by
    obtain ⟨b', o', e', hS, _⟩ := (own_strsAt hlo hn).cells (by omega)
    rw [e0] at e'; injection e' with e'; injection e' with e' _; subst e'; exact hS.2
  obtain ⟨b1, of1, x1, e1, hx1, hc1⟩ := (own_strsAt hlo hn).get (k := m) (by omega)
  rw [e0] at e1
  injection e1 with e1
  injection e1 with q1 q2
  subst q1 q2 e0
  have hl1 : x1.size ≤ 1048575 := Nat.le_trans (HSZ.out x1 (List.mem_of_getElem? hx1)) hs
  obtain rfl : x0 = ⟨#[108, 111, 116, 115]⟩ := (getD_some hx0).symm.trans HK.out
  have HX1 := Lib.hid (getD_some hx1)
  have hwm : IntKind.i64.wrap ((m : Int) + 1 - 1) = (m : Int) := by rw [Int.add_sub_cancel]; exact IntWalk.i64_in _ (by omega)
  have hm1 : (m : Int) < (m : Int) + 1 := by omega
  have hm2 : (0 : Int) < (m : Int) + 1 := by omega
  rw [Nat.add_zero] at hc0
  clear hlo hb hx0 hx1 hnl hlen
  go_wp2_with fail
  refine (readRows_any x1 w1 hl1).mono ?_
  rintro e w2 ⟨a2, c2, rfl, hc2, hpt, hb2⟩
  have hc02 : w2.cell? ⟨b0, of0, none⟩ = some (.string ⟨#[108, 111, 116, 115]⟩) := by rw [World.cell?_of_block (w := w1) (hb2.block b0 hb0)]; exact hc0
  have hrl := rowsB_len x1
  have hra := (hpt.rowsAt rfl (by omega)).to (w' := w2) (S' := (· < w2.heap.size)) fun b hb => ⟨hb.2, rfl⟩
  have HRA := Lib.hid hra
  have HB2 := Lib.hid (HB.out.trans (hb2.mono HB.out.size))
  have HB12 := Lib.hid hb2
  have HS12 := Lib.hid hb2.size
  clear hc0 hc1 hpt hb2 hra
  by_cases hm : m + 1 = 4
  · obtain rfl : m = 3 := by omega
    obtain ⟨p1, of1, y1, ey1, hy1, hcy1⟩ := (own_strsAt HLO.out hn).get (k := 1) (by omega)
    injection ey1 with ey1
    injection ey1 with q1 q2
    subst q1 q2
    have hcy1 : w2.cell? ⟨b0, of0 + 1, none⟩ = some (.string y1) := cell_up hcy1 hb0 HB12.out
    have HY1 := Lib.hid (getD_some hy1)
    have hyl1 : y1.size ≤ 1048576 := by have := HSZ.out y1 (List.mem_of_getElem? hy1); omega
    clear hy1
    obtain ⟨p2, of2, y2, ey2, hy2, hcy2⟩ := (own_strsAt HLO.out hn).get (k := 2) (by omega)
    injection ey2 with ey2
    injection ey2 with q1 q2
    subst q1 q2
    have hcy2 : w2.cell? ⟨b0, of0 + 2, none⟩ = some (.string y2) := cell_up hcy2 hb0 HB12.out
    have HY2 := Lib.hid (getD_some hy2)
    have hyl2 : y2.size ≤ 1048576 := by have := HSZ.out y2 (List.mem_of_getElem? hy2); omega
    clear hy2
    obtain ⟨bR, oR, r0, aR, lR, cR, rfl, hr0, hcr, hlc, hri⟩ := HRA.out.get (k := 0) (by omega)
    have hbR : bR < w2.heap.size := by
      obtain ⟨b', o', e', hS, _⟩ := HRA.out.cells (by omega)
      injection e' with e'; injection e' with e' _; subst e'; exact hS
    have HR0 := Lib.hid (row_zero hr0)
    have HRI := Lib.hid hri
    rw [Nat.add_zero] at hcr
    have hn1 : (0 : Int) < ((rowsB x1).length : Int) := by omega
    have hn2 : 0 < (rowsB x1).length := by omega
    clear hr0 hri
    have HANS := Lib.hid (show ansB line = (if validLotsM r0 (readB y1) (readB y2) = true ∧ (rowsB x1).length = 1 then lotsB r0 (readB y1) (readB y2) else sWrong) by
      unfold ansB wordsB
      rw [if_neg (by rw [HK.out]; decide), if_neg (by rw [HK.out]; decide), if_pos HK.out]
      rw [HNL.out, show 3 + 1 - 1 = 3 from rfl, HX1.out, HY1.out, HY2.out, HR0.out]
      by_cases e : validLotsM r0 (readB y1) (readB y2) = true ∧ (rowsB x1).length = 1
      · rw [if_pos e, if_pos ⟨rfl, e⟩]
      · rw [if_neg e, if_neg fun e' => e e'.2])
    have HC1 := Lib.hid (fun W => readNumber_any y1 W hyl1)
    have HC2 := Lib.hid (fun W => readNumber_any y2 W hyl2)
    have HV := Lib.hid (fun q => validLots_any _ aR lR cR r0 (readB y1) (readB y2) (w2.drewN q) (HRI.out.to (w' := w2.drewN q) fun b hb => ⟨hb, rfl⟩))
    generalize readB y1 = A at *
    generalize readB y2 = B at *
    generalize (rowsB x1).length = nR at *
    clear hyl1 hyl2 hrl
    go_wp2_with fail
    cases hv : validLotsM r0 A B
    · rw [hv] at HV
      go_quiet (first | (go_at_call 39; first | (with_reducible exact Calls.quiet_of_same (HC1.out _)) | (with_reducible exact Calls.quiet_of_same (HC2.out _))) | (go_at_call 38; exact Calls.quiet_of_same ((HV.out _).mono fun _ _ h => ⟨h.1, h.2.symm⟩)))
      go_wp2_with fail
      go_ret
      exact ⟨ret_str (by rw [HANS.out, if_neg (by rw [hv]; simp)]; rfl), below_dn HB2.out _⟩
    · rw [hv] at HV
      by_cases h1 : nR = 1
      · have h1t : ((nR : Int) == 1) = true := by rw [beq_iff_eq]; omega
        have HBD := Lib.hid (lots_bd hv)
        have HE := Lib.hid (show ansB line = listB (bestLotsM r0 A B) ++ sgnB 32 ++ numB (bst r0 A B 0) by rw [HANS.out, if_pos ⟨hv, h1⟩]; rfl)
        have HVV := Lib.hid hv
        have HS1 := Lib.hid (listB_size (xs := bestLotsM r0 A B) fun x hx => by have := HBD.out.2.1 x hx; omega)
        have HS2 := Lib.hid (numB_size (n := bst r0 A B 0) (by have := HBD.out.2.2; omega) (by have := HBD.out.2.2; omega))
        clear hv h1
        go_quiet (first | (go_at_call 39; first | (with_reducible exact Calls.quiet_of_same (HC1.out _)) | (with_reducible exact Calls.quiet_of_same (HC2.out _))) | (go_at_call 38; exact Calls.quiet_of_same ((HV.out _).mono fun _ _ h => ⟨h.1, h.2.symm⟩)))
        obtain ⟨w3, hw3⟩ : ∃ w3 : World, w3 = w2.drewN nq := ⟨_, rfl⟩
        rw [← hw3]
        have HB3 := Lib.hid (show Below w.heap.size w w3 by rw [hw3]; exact below_dn HB2.out _)
        have HRI3 := Lib.hid (show IntsAt w3 (· < w3.heap.size) aR lR r0 by rw [hw3]; exact HRI.out.to fun b hb => ⟨hb, rfl⟩)
        have hcy1 : w3.cell? ⟨b0, of0 + 1, none⟩ = some (.string y1) := by rw [hw3]; exact hcy1
        have hcy2 : w3.cell? ⟨b0, of0 + 2, none⟩ = some (.string y2) := by rw [hw3]; exact hcy2
        have hcr : w3.cell? ⟨bR, oR, none⟩ = some (.slice aR lR cR) := by rw [hw3]; exact hcr
        have hbR3 : bR < w3.heap.size := by rw [hw3]; exact hbR
        clear hw3 hc02 hbR
        go_wp2_with fail
        refine (HC1.out w3).mono ?_
        rintro e w' ⟨rfl, hw⟩
        subst hw
        go_wp2_with fail
        refine (HC2.out _).mono ?_
        rintro e w' ⟨rfl, hw⟩
        subst hw
        generalize hLB : listB (bestLotsM r0 A B) = LB at *
        generalize hCB : bst r0 A B 0 = CB at *
        have HLB := Lib.hid hLB
        have HCB := Lib.hid hCB
        have s1 := HS1.out
        have s2 := HS2.out
        have s3 := HBD.out.1
        have t0 : ¬ 9223372036854775807 < LB.size + 1 := by omega
        have t1 : ¬ 9223372036854775807 < LB.size + (⟨#[32]⟩ : ByteArray).size := by show ¬ _ < _ + 1; omega
        have t2 : ¬ 9223372036854775807 < (LB ++ (⟨#[32]⟩ : ByteArray)).size + (numB CB).size := by rw [ByteArray.size_append]; show ¬ _ < _ + 1 + _; omega
        have t3 : ¬ 9223372036854775807 < LB.size + 1 + (numB CB).size := by omega
        have HBR := Lib.hid hbR3
        have hB0 : Below w'.heap.size w' w'.drew := (Below.refl w'.heap.size w').drew
        clear s1 s2 s3 hLB hCB hbR3
        go_wp2_with fail
        refine wp_region_held_drew (S := fun W => W.cell? ⟨bR, oR, none⟩ = some (.slice aR lR cR) ∧ Below w'.heap.size w' W) (by kernel_rfl) ⟨hcr, hB0⟩ (fun hHeld => ?_)
        refine wpAnyH_take (i := 0) (v := .slice (some ⟨bR, oR, none⟩) nR c2) rfl (by kernel_rfl) (by kernel_rfl) (by kernel_rfl) (fun _ _ _ h => h) (Or.inl ⟨by rfl, ?_⟩) hHeld ?_
        · rintro w' ⟨k0, k1⟩; go_simp
        try simp only [Act.put, List.setIfInBounds_toArray, List.set_cons_zero, List.set_cons_succ, List.getElem_toArray, List.getElem_cons_succ, List.getElem_cons_zero]
        refine wpAnyH_take (i := 1) (v := .pointer (some ⟨bR, oR, none⟩)) rfl (by kernel_rfl) (by kernel_rfl) (by kernel_rfl) (fun _ _ _ h => h) (Or.inl ⟨by rfl, ?_⟩) hHeld ?_
        · rintro w' ⟨k0, k1⟩; go_simp
        try simp only [Act.put, List.setIfInBounds_toArray, List.set_cons_zero, List.set_cons_succ, List.getElem_toArray, List.getElem_cons_succ, List.getElem_cons_zero]
        refine wpAnyH_take (i := 2) (v := .slice aR lR cR) rfl (by kernel_rfl) (by kernel_rfl) (by kernel_rfl) (fun _ _ _ h => h) (Or.inl ⟨by rfl, ?_⟩) hHeld ?_
        · rintro w' ⟨k0, k1⟩; go_simp
        try simp only [Act.put, List.setIfInBounds_toArray, List.set_cons_zero, List.set_cons_succ, List.getElem_toArray, List.getElem_cons_succ, List.getElem_cons_zero]
        refine wpAnyH_take (i := 3) (v := .int .i64 A) rfl (by kernel_rfl) (by kernel_rfl) (by kernel_rfl) (fun _ _ _ h => h) (Or.inl ⟨by rfl, ?_⟩) hHeld ?_
        · rintro w' ⟨k0, k1⟩; go_simp
        try simp only [Act.put, List.setIfInBounds_toArray, List.set_cons_zero, List.set_cons_succ, List.getElem_toArray, List.getElem_cons_succ, List.getElem_cons_zero]
        refine wpAnyH_take (i := 4) (v := .int .i64 B) rfl (by kernel_rfl) (by kernel_rfl) (by kernel_rfl) (fun _ _ _ h => h) (Or.inl ⟨by rfl, ?_⟩) hHeld ?_
        · rintro w' ⟨k0, k1⟩; go_simp
        try simp only [Act.put, List.setIfInBounds_toArray, List.set_cons_zero, List.set_cons_succ, List.getElem_toArray, List.getElem_cons_succ, List.getElem_cons_zero]
        refine wpAnyH_take (i := 8) (v := .slice (some ⟨bR, oR, none⟩) nR c2) rfl (by kernel_rfl) (by kernel_rfl) (by kernel_rfl) (fun _ _ _ h => h) (Or.inl ⟨by rfl, ?_⟩) hHeld ?_
        · rintro w' ⟨k0, k1⟩; go_simp
        try simp only [Act.put, List.setIfInBounds_toArray, List.set_cons_zero, List.set_cons_succ, List.getElem_toArray, List.getElem_cons_succ, List.getElem_cons_zero]
        refine wpAnyH_take (i := 9) (v := .pointer (some ⟨bR, oR, none⟩)) rfl (by kernel_rfl) (by kernel_rfl) (by kernel_rfl) (fun _ _ _ h => h) (Or.inl ⟨by rfl, ?_⟩) hHeld ?_
        · rintro w' ⟨k0, k1⟩; go_simp
        try simp only [Act.put, List.setIfInBounds_toArray, List.set_cons_zero, List.set_cons_succ, List.getElem_toArray, List.getElem_cons_succ, List.getElem_cons_zero]
        refine wpAnyH_take (i := 10) (v := .slice aR lR cR) rfl (by kernel_rfl) (by kernel_rfl) (by kernel_rfl) (fun _ _ _ h => h) (Or.inl ⟨by rfl, ?_⟩) hHeld ?_
        · rintro w' ⟨k0, k1⟩; go_simp
        try simp only [Act.put, List.setIfInBounds_toArray, List.set_cons_zero, List.set_cons_succ, List.getElem_toArray, List.getElem_cons_succ, List.getElem_cons_zero]
        refine wpAnyH_take (i := 11) (v := .int .i64 A) rfl (by kernel_rfl) (by kernel_rfl) (by kernel_rfl) (fun _ _ _ h => h) (Or.inl ⟨by rfl, ?_⟩) hHeld ?_
        · rintro w' ⟨k0, k1⟩; go_simp
        try simp only [Act.put, List.setIfInBounds_toArray, List.set_cons_zero, List.set_cons_succ, List.getElem_toArray, List.getElem_cons_succ, List.getElem_cons_zero]
        refine wpAnyH_take (i := 12) (v := .int .i64 B) rfl (by kernel_rfl) (by kernel_rfl) (by kernel_rfl) (fun _ _ _ h => h) (Or.inl ⟨by rfl, ?_⟩) hHeld ?_
        · rintro w' ⟨k0, k1⟩; go_simp
        try simp only [Act.put, List.setIfInBounds_toArray, List.set_cons_zero, List.set_cons_succ, List.getElem_toArray, List.getElem_cons_succ, List.getElem_cons_zero]
        refine wpAnyH_ready (rs := [5]) (by kernel_rfl) (by simp) ?_
        refine AllReadyH.cons (o := _) rfl (fun K hK => ?_) AllReadyH.nil
        go_simp
        go_at_call 40
        refine (plan_spec aR lR cR r0 A B _ (ints_up HRI3.out hHeld.2) hlc HVV.out).mono ?_
        rintro e wp ⟨a4, l4, c4, rfl, h4, h5, hb4⟩
        have HBW := Lib.hid (hHeld.2.trans (hb4.mono hHeld.2.size))
        have HL4 := Lib.hid (show IntsAt wp (· < wp.heap.size) a4 l4 _ from h4.to fun b hb => ⟨hb.2, rfl⟩)
        clear h4 hb4 hHeld
        refine hK.out _ _ ⟨cell_up hcr HBR.out HBW.out, HBW.out⟩ (fun hHeld => ?_)
        clear hK K
        try simp only [Act.put, List.setIfInBounds_toArray, List.set_cons_zero, List.set_cons_succ, List.getElem_toArray, List.getElem_cons_succ, List.getElem_cons_zero]
        refine wpAnyH_ready (rs := [6]) (by kernel_rfl) (by simp) ?_
        refine AllReadyH.cons (o := _) rfl (fun K hK => ?_) AllReadyH.nil
        go_simp
        go_at_call 19
        refine (listText_any _ a4 l4 c4 _ _ HL4.out (fun x hx => by have := HBD.out.2.1 x hx; omega) (by have := HL4.out.lenEq; have := HBD.out.1; omega)).mono ?_
        rintro e wl ⟨rfl, rfl⟩
        rw [HLB.out]
        refine hK.out _ _ hHeld (fun hHeld => ?_)
        clear hK K
        try simp only [Act.put, List.setIfInBounds_toArray, List.set_cons_zero, List.set_cons_succ, List.getElem_toArray, List.getElem_cons_succ, List.getElem_cons_zero]
        refine wpAnyH_take (i := 7) (v := .string (LB ++ (⟨#[32]⟩ : ByteArray))) rfl (by kernel_rfl) (by kernel_rfl) (by kernel_rfl) (fun _ _ _ h => h) (Or.inl ⟨by rfl, ?_⟩) hHeld ?_
        · rintro w' ⟨k0, k1⟩; go_simp
        try simp only [Act.put, List.setIfInBounds_toArray, List.set_cons_zero, List.set_cons_succ, List.getElem_toArray, List.getElem_cons_succ, List.getElem_cons_zero]
        refine wpAnyH_ready (rs := [13]) (by kernel_rfl) (by simp) ?_
        refine AllReadyH.cons (o := _) rfl (fun K hK => ?_) AllReadyH.nil
        go_simp
        go_at_call 41
        refine (bestFrom_at (ints_up HRI3.out hHeld.2) hlc HVV.out).mono ?_
        rintro e wb ⟨g, rfl, hgl, hcb, hbb⟩
        have HBW := Lib.hid (hHeld.2.trans (hbb.mono hHeld.2.size))
        rw [HCB.out] at hcb
        have HCW := Lib.hid hgl
        clear hgl hbb hHeld
        refine hK.out _ _ ⟨cell_up hcr HBR.out HBW.out, HBW.out⟩ (fun hHeld => ?_)
        clear hK K
        try simp only [Act.put, List.setIfInBounds_toArray, List.set_cons_zero, List.set_cons_succ, List.getElem_toArray, List.getElem_cons_succ, List.getElem_cons_zero]
        refine wpAnyH_take (i := 14) (v := .pointer (some ⟨g, 0, none⟩)) rfl (by kernel_rfl) (by kernel_rfl) (by kernel_rfl) (fun _ _ _ h => h) (Or.inl ⟨by rfl, ?_⟩) hHeld ?_
        · rintro w' ⟨k0, k1⟩; go_simp
        try simp only [Act.put, List.setIfInBounds_toArray, List.set_cons_zero, List.set_cons_succ, List.getElem_toArray, List.getElem_cons_succ, List.getElem_cons_zero]
        refine wpAnyH_ready (rs := [15]) (by kernel_rfl) (by simp) ?_
        refine AllReadyH.cons (o := _) rfl (fun K hK => ?_) AllReadyH.nil
        go_simp
        refine hK.out _ _ hHeld (fun hHeld => ?_)
        clear hK K
        try simp only [Act.put, List.setIfInBounds_toArray, List.set_cons_zero, List.set_cons_succ, List.getElem_toArray, List.getElem_cons_succ, List.getElem_cons_zero]
        refine wpAnyH_ready (rs := [16]) (by kernel_rfl) (by simp) ?_
        refine AllReadyH.cons (o := _) rfl (fun K hK => ?_) AllReadyH.nil
        go_simp
        go_at_call 18
        refine (number_any CB _ (by have := HBD.out.2.2; omega) (by have := HBD.out.2.2; omega)).mono ?_
        rintro e wn ⟨rfl, rfl⟩
        refine hK.out _ _ hHeld (fun hHeld => ?_)
        clear hK K
        try simp only [Act.put, List.setIfInBounds_toArray, List.set_cons_zero, List.set_cons_succ, List.getElem_toArray, List.getElem_cons_succ, List.getElem_cons_zero]
        refine wpAnyH_take (i := 17) (v := .string (LB ++ (⟨#[32]⟩ : ByteArray) ++ numB CB)) rfl (by kernel_rfl) (by kernel_rfl) (by kernel_rfl) (fun _ _ _ h => h) (Or.inl ⟨by rfl, ?_⟩) hHeld ?_
        · rintro w' ⟨k0, k1⟩; go_simp
        try simp only [Act.put, List.setIfInBounds_toArray, List.set_cons_zero, List.set_cons_succ, List.getElem_toArray, List.getElem_cons_succ, List.getElem_cons_zero]
        refine wpAnyH_take (i := 18) (v := .string (LB ++ (⟨#[32]⟩ : ByteArray) ++ numB CB)) rfl (by kernel_rfl) (by kernel_rfl) (by kernel_rfl) (fun _ _ _ h => h) (Or.inl ⟨by rfl, ?_⟩) hHeld ?_
        · rintro w' ⟨k0, k1⟩; go_simp
        try simp only [Act.put, List.setIfInBounds_toArray, List.set_cons_zero, List.set_cons_succ, List.getElem_toArray, List.getElem_cons_succ, List.getElem_cons_zero]
        refine wpAnyH_done (by kernel_rfl) ?_ _
        go_wp2_with fail
        go_ret
        exact ⟨ret_str HE.out.symm, HB3.out.trans (hHeld.2.mono HB3.out.size)⟩
      · have h1t : ((nR : Int) == 1) = false := by rw [beq_eq_false_iff_ne]; omega
        go_quiet (first | (go_at_call 39; first | (with_reducible exact Calls.quiet_of_same (HC1.out _)) | (with_reducible exact Calls.quiet_of_same (HC2.out _))) | (go_at_call 38; exact Calls.quiet_of_same ((HV.out _).mono fun _ _ h => ⟨h.1, h.2.symm⟩)))
        go_wp2_with fail
        go_ret
        exact ⟨ret_str (by rw [HANS.out, if_neg (by omega)]; rfl), below_dn HB2.out _⟩
  · have hne : ((m : Int) + 1 == 4) = false := by rw [beq_eq_false_iff_ne]; omega
    have HANS := Lib.hid (show ansB line = sWrong by
      unfold ansB wordsB
      rw [if_neg (by rw [HK.out]; decide), if_neg (by rw [HK.out]; decide), if_pos HK.out]
      exact if_neg (by rw [HNL.out]; omega))
    clear hrl
    go_wp2_with fail
    go_quiet (fail)
    go_wp2_with fail
    go_ret
    exact ⟨ret_str HANS.out.symm, below_dn HB2.out _⟩
set_option maxRecDepth 100000 in
set_option maxHeartbeats 8000000 in
/-- the model's answer to a line of cuts -/
theorem answer_rolls (line : ByteArray) (w : World) (hs : line.size ≤ 1048575) (hk : (splitB line 32).getD 0 ByteArray.empty = kRolls) :
    Calls Tryz.prog 26 #[.string line] w (fun e w' => e = .returned (.string (ansB line)) ∧ Below w.heap.size w w') := by
  have hlen := splitB_pos line 32
  have HSZ := Lib.hid (splitB_size line 32)
  have HK := Lib.hid hk
  clear hk
  go_enter Tryz.func26, Tryz.ntmps26
  go_wp2_with fail
  refine (splitAt_any line 32 _ hs).mono ?_
  rintro e w1 ⟨a, n, c, rfl, hn, hlo, hb⟩
  have hnl := strs_len hlo
  have HNL := Lib.hid hnl
  obtain ⟨m, hm⟩ : ∃ m : Nat, n = m + 1 := ⟨n - 1, by omega⟩
  subst hm
  have HLO := Lib.hid hlo
  have HB := Lib.hid hb
  obtain ⟨b0, of0, x0, e0, hx0, hc0⟩ := (own_strsAt hlo hn).get (k := 0) (by omega)
  have hb0 : b0 < w1.heap.size := by
    obtain ⟨b', o', e', hS, _⟩ := (own_strsAt hlo hn).cells (by omega)
    rw [e0] at e'; injection e' with e'; injection e' with e' _; subst e'; exact hS.2
  obtain ⟨b1, of1, x1, e1, hx1, hc1⟩ := (own_strsAt hlo hn).get (k := m) (by omega)
  rw [e0] at e1
  injection e1 with e1
  injection e1 with q1 q2
  subst q1 q2 e0
  have hl1 : x1.size ≤ 1048575 := Nat.le_trans (HSZ.out x1 (List.mem_of_getElem? hx1)) hs
  obtain rfl : x0 = ⟨#[114, 111, 108, 108, 115]⟩ := (getD_some hx0).symm.trans HK.out
  have HX1 := Lib.hid (getD_some hx1)
  have hwm : IntKind.i64.wrap ((m : Int) + 1 - 1) = (m : Int) := by rw [Int.add_sub_cancel]; exact IntWalk.i64_in _ (by omega)
  have hm1 : (m : Int) < (m : Int) + 1 := by omega
  have hm2 : (0 : Int) < (m : Int) + 1 := by omega
  rw [Nat.add_zero] at hc0
  clear hlo hb hx0 hx1 hnl hlen
  go_wp2_with fail
  refine (readRows_any x1 w1 hl1).mono ?_
  rintro e w2 ⟨a2, c2, rfl, hc2, hpt, hb2⟩
  have hc02 : w2.cell? ⟨b0, of0, none⟩ = some (.string ⟨#[114, 111, 108, 108, 115]⟩) := by rw [World.cell?_of_block (w := w1) (hb2.block b0 hb0)]; exact hc0
  have hrl := rowsB_len x1
  have hra := (hpt.rowsAt rfl (by omega)).to (w' := w2) (S' := (· < w2.heap.size)) fun b hb => ⟨hb.2, rfl⟩
  have HRA := Lib.hid hra
  have HB2 := Lib.hid (HB.out.trans (hb2.mono HB.out.size))
  have HB12 := Lib.hid hb2
  have HS12 := Lib.hid hb2.size
  clear hc0 hc1 hpt hb2 hra
  by_cases hm : m + 1 = 3
  · obtain rfl : m = 2 := by omega
    obtain ⟨p1, of1, y1, ey1, hy1, hcy1⟩ := (own_strsAt HLO.out hn).get (k := 1) (by omega)
    injection ey1 with ey1
    injection ey1 with q1 q2
    subst q1 q2
    have hcy1 : w2.cell? ⟨b0, of0 + 1, none⟩ = some (.string y1) := cell_up hcy1 hb0 HB12.out
    have HY1 := Lib.hid (getD_some hy1)
    have hyl1 : y1.size ≤ 1048576 := by have := HSZ.out y1 (List.mem_of_getElem? hy1); omega
    clear hy1
    obtain ⟨bR, oR, r0, aR, lR, cR, rfl, hr0, hcr, hlc, hri⟩ := HRA.out.get (k := 0) (by omega)
    have hbR : bR < w2.heap.size := by
      obtain ⟨b', o', e', hS, _⟩ := HRA.out.cells (by omega)
      injection e' with e'; injection e' with e' _; subst e'; exact hS
    have HR0 := Lib.hid (row_zero hr0)
    have HRI := Lib.hid hri
    rw [Nat.add_zero] at hcr
    have hn1 : (0 : Int) < ((rowsB x1).length : Int) := by omega
    have hn2 : 0 < (rowsB x1).length := by omega
    clear hr0 hri
    have HANS := Lib.hid (show ansB line = (if (rowsB x1).length = 1 ∧ cutsM r0 (readB y1) = true then rollsB r0 (readB y1) else sWrong) by
      unfold ansB wordsB
      rw [if_neg (by rw [HK.out]; decide), if_neg (by rw [HK.out]; decide), if_neg (by rw [HK.out]; decide), if_pos HK.out]
      rw [HNL.out, show 2 + 1 - 1 = 2 from rfl, HX1.out, HY1.out, HR0.out]
      by_cases e : (rowsB x1).length = 1 ∧ cutsM r0 (readB y1) = true
      · rw [if_pos e, if_pos ⟨rfl, e⟩]
      · rw [if_neg e, if_neg fun e' => e e'.2])
    have HC1 := Lib.hid (fun W => readNumber_any y1 W hyl1)
    have HV := Lib.hid (fun q => vCuts_spec _ aR lR cR r0 (readB y1) (w2.drewN q) (HRI.out.to (w' := w2.drewN q) fun b hb => ⟨hb, rfl⟩))
    generalize readB y1 = A at *
    generalize (rowsB x1).length = nR at *
    clear hyl1 hrl
    go_wp2_with fail
    by_cases h1 : nR = 1
    · have h1t : ((nR : Int) == 1) = true := by rw [beq_iff_eq]; omega
      cases hv : cutsM r0 A
      · rw [hv] at HV
        go_quiet (first | (go_at_call 39; exact Calls.quiet_of_same (HC1.out _)) | (go_at_call 42; exact Calls.quiet_of_same ((HV.out _).mono fun _ _ h => ⟨h.1, h.2.symm⟩)))
        go_wp2_with fail
        go_ret
        exact ⟨ret_str (by rw [HANS.out, if_neg (by rw [hv]; simp)]; rfl), below_dn HB2.out _⟩
      · rw [hv] at HV
        have HBD := Lib.hid (rollsK_bd hv)
        have HE := Lib.hid (show ansB line = numB (rollsRes r0 A) ++ sgnB 32 ++ listB (rollRes r0 A kLong) by rw [HANS.out, if_pos ⟨h1, hv⟩]; rfl)
        have HS1 := Lib.hid (listB_size (xs := rollRes r0 A kLong) fun x hx => by have := HBD.out.2.2 x hx; omega)
        have HS2 := Lib.hid (numB_size (n := rollsRes r0 A) (by have := HBD.out.1; omega) (by have := HBD.out.1; omega))
        clear hv h1
        go_quiet (first | (go_at_call 39; exact Calls.quiet_of_same (HC1.out _)) | (go_at_call 42; exact Calls.quiet_of_same ((HV.out _).mono fun _ _ h => ⟨h.1, h.2.symm⟩)))
        obtain ⟨w3, hw3⟩ : ∃ w3 : World, w3 = w2.drewN nq := ⟨_, rfl⟩
        rw [← hw3]
        have HB3 := Lib.hid (show Below w.heap.size w w3 by rw [hw3]; exact below_dn HB2.out _)
        have HRI3 := Lib.hid (show IntsAt w3 (· < w3.heap.size) aR lR r0 by rw [hw3]; exact HRI.out.to fun b hb => ⟨hb, rfl⟩)
        have hcy1 : w3.cell? ⟨b0, of0 + 1, none⟩ = some (.string y1) := by rw [hw3]; exact hcy1
        have hcr : w3.cell? ⟨bR, oR, none⟩ = some (.slice aR lR cR) := by rw [hw3]; exact hcr
        have HBR := Lib.hid (show bR < w3.heap.size by rw [hw3]; exact hbR)
        have HBY := Lib.hid (show b0 < w3.heap.size by rw [hw3]; exact Nat.lt_of_lt_of_le hb0 HS12.out)
        clear hw3 hc02 hbR
        generalize hLB : listB (rollRes r0 A kLong) = LB at *
        generalize hCB : rollsRes r0 A = CB at *
        have HLB := Lib.hid hLB
        have HCB := Lib.hid hCB
        have s1 := HS1.out
        have s2 := HS2.out
        have s3 := HBD.out.2.1
        have t0 : ¬ 9223372036854775807 < (numB CB).size + 1 := by omega
        have t1 : ¬ 9223372036854775807 < (numB CB).size + (⟨#[32]⟩ : ByteArray).size := by show ¬ _ < _ + 1; omega
        have t2 : ¬ 9223372036854775807 < ((numB CB) ++ (⟨#[32]⟩ : ByteArray)).size + LB.size := by rw [ByteArray.size_append]; show ¬ _ < _ + 1 + _; omega
        have t3 : ¬ 9223372036854775807 < (numB CB).size + 1 + LB.size := by omega
        have HBW := Lib.hid ((Below.refl w3.heap.size w3).drew)
        clear s1 s2 s3 hLB hCB
        go_wp2_with fail
        go_region_held3 (fun W => W.cell? ⟨bR, oR, none⟩ = some (.slice aR lR cR) ∧ W.cell? ⟨b0, of0 + 1, none⟩ = some (.string y1)) (first | go_keep | exact kS) (first
          | (go_at_call 39; refine (HC1.out _).mono ?_; rintro e wn ⟨rfl, rfl⟩; have kS := And.intro (cell_up hcr HBR.out HBW.out) (cell_up hcy1 HBY.out HBW.out))
          | (go_at_call 43; refine (fewestRolls_spec aR lR cR r0 A _ (ints_up HRI3.out HBW.out)).mono ?_; rintro e wp ⟨rfl, hb4⟩; rw [HCB.out]; have HBW := Lib.hid (HBW.out.trans (hb4.mono HBW.out.size)); have kS := And.intro (cell_up hcr HBR.out HBW.out) (cell_up hcy1 HBY.out HBW.out); clear hb4)
          | (go_at_call 18; refine (number_any CB _ (by have := HBD.out.1; omega) (by have := HBD.out.1; omega)).mono ?_; rintro e wn ⟨rfl, rfl⟩; have kS := And.intro (cell_up hcr HBR.out HBW.out) (cell_up hcy1 HBY.out HBW.out))
          | (go_at_call 44; refine (rollsBy_own aR lR cR r0 A kLong _ (ints_up HRI3.out HBW.out)).mono ?_; rintro e wp ⟨a4, l4, c4, rfl, h4, h5, hb4⟩; have HBW := Lib.hid (HBW.out.trans (hb4.mono HBW.out.size)); have HL4 := Lib.hid (show IntsAt wp (· < wp.heap.size) a4 l4 _ from h4.to fun b hb => ⟨hb.2, rfl⟩); have kS := And.intro (cell_up hcr HBR.out HBW.out) (cell_up hcy1 HBY.out HBW.out); clear h4 hb4)
          | (go_at_call 19; refine (listText_any _ a4 l4 c4 _ _ HL4.out (fun x hx => by have := HBD.out.2.2 x hx; omega) (by have := HL4.out.lenEq; have := HBD.out.2.1; omega)).mono ?_; rintro e wl ⟨rfl, rfl⟩; rw [HLB.out]; have kS := And.intro (cell_up hcr HBR.out HBW.out) (cell_up hcy1 HBY.out HBW.out)))
        all_goals (go_wp2_with fail; go_ret; exact ⟨ret_str HE.out.symm, HB3.out.trans (HBW.out.mono HB3.out.size)⟩)
    · have h1t : ((nR : Int) == 1) = false := by rw [beq_eq_false_iff_ne]; omega
      go_quiet (fail)
      go_wp2_with fail
      go_ret
      exact ⟨ret_str (by rw [HANS.out, if_neg (by omega)]; rfl), below_dn HB2.out _⟩
  · have hne : ((m : Int) + 1 == 3) = false := by rw [beq_eq_false_iff_ne]; omega
    have HANS := Lib.hid (show ansB line = sWrong by
      unfold ansB wordsB
      rw [if_neg (by rw [HK.out]; decide), if_neg (by rw [HK.out]; decide), if_neg (by rw [HK.out]; decide), if_pos HK.out]
      exact if_neg (by rw [HNL.out]; omega))
    clear hrl
    go_wp2_with fail
    go_quiet (fail)
    go_wp2_with fail
    go_ret
    exact ⟨ret_str HANS.out.symm, below_dn HB2.out _⟩
/-- the model's answer to a line -/
theorem answer_any (line : ByteArray) (w : World) (hs : line.size ≤ 1048575) :
    Calls Tryz.prog 26 #[.string line] w (fun e w' => e = .returned (.string (ansB line)) ∧ Below w.heap.size w w') := by
  by_cases k1 : (splitB line 32).getD 0 ByteArray.empty = kTwo
  · exact answer_two line w hs k1
  by_cases k2 : (splitB line 32).getD 0 ByteArray.empty = kKept
  · exact answer_kept line w hs k2
  by_cases k3 : (splitB line 32).getD 0 ByteArray.empty = kLots
  · exact answer_lots line w hs k3
  by_cases k4 : (splitB line 32).getD 0 ByteArray.empty = kRolls
  · exact answer_rolls line w hs k4
  by_cases k5 : (splitB line 32).getD 0 ByteArray.empty = kStock
  · exact answer_stock line w hs k5
  exact answer_what line w hs k1 k2 k3 k4 k5
/-- the model's desk -/
theorem runDesk_spec (S : Nat → Prop) (a : Option Addr) (len cap : Nat) (ls : List ByteArray) (w : World) (hS : ∀ b, S b → b < w.heap.size) (h : StrsAt w S a len ls) (hl : ∀ l ∈ ls, l.size ≤ 1048575) :
    Calls Tryz.prog 7 #[.slice a len cap] w (fun e w' => e = .returned (.string (deskRes ls)) ∧ Below w.heap.size w w') :=
  runDesk_of 400 (by omega) ans_size S a len cap ls w hS h hl answer_any
end Go.Proofs.YtjcbpnffmebihaaGreatDoor
