import Derived.Test.YtldncfkkeeinjacRows
import Derived.WalkKit
import Derived.LoopTactic
import Derived.Outline
import Derived.WalkSpells
import Derived.WalkLawsBesides
import Derived.ProofKit
import Derived.Lib.Hide
import Derived.Deep.QuietTactic
import Derived.BigQuiet
import Derived.IntWalk
import Derived.Test.YtldncfkkeeinjacLib
import Derived.Test.YtldncfkkeeinjacGen
import Derived.Test.YtldncfkkeeinjacMark
import Derived.Test.YtldncfkkeeinjacArr
import Derived.Test.YtldncfkkeeinjacOwn1
import Derived.Test.YtldncfkkeeinjacUp
import Derived.Test.YtldncfkkeeinjacLaws
import Derived.Test.YtldncfkkeeinjacNetM
import Derived.Test.YtldncfkkeeinjacVal2
import Derived.Test.YtldncfkkeeinjacEx
import Derived.Test.YtldncfkkeeinjacPlanM
import Derived.Test.YtldncfkkeeinjacBlockM
import Derived.Test.YtldncfkkeeinjacLotSpec
namespace Go.Proofs.Ytldncfkkeeinjac
open Go.RowKit Go.WideShapes

/-- the last one up to k of which P holds -/
def lastFrom (P : Nat → Bool) : Nat → Nat
  | 0 => 0
  | k + 1 => if P (k + 1) then k + 1 else lastFrom P k
theorem lastFrom_spec {P : Nat → Bool} {n k : Nat} (hk : 0 < k) (hkn : k ≤ n) (hP : P k = true) : P (lastFrom P n) = true ∧ k ≤ lastFrom P n ∧ lastFrom P n ≤ n ∧ ∀ j, lastFrom P n < j → j ≤ n → P j = false := by
  induction n with
  | zero => omega
  | succ n ih =>
    cases e : P (n + 1)
    · have hne : k ≠ n + 1 := fun h => by rw [h, e] at hP; cases hP
      obtain ⟨h1, h2, h3, h4⟩ := ih (by omega)
      rw [lastFrom, e]
      refine ⟨h1, h2, by simp only [Bool.false_eq_true, if_false]; omega, fun j hj1 hj2 => ?_⟩
      by_cases e2 : j = n + 1
      · subst e2; exact e
      · exact h4 j hj1 (by omega)
    · rw [lastFrom, e]
      exact ⟨e, hkn, Nat.le_refl _, fun j h1 h2 => by simp only [if_true] at h1; omega⟩
/-- the days behind a lot of the best lots -/
def nxB (xs : List Int) (s h : Int) (i : Nat) : Nat := lastFrom (fun k => decide (i < k) && decide (runD xs s h i (k - i) + bst xs s h k = bst xs s h i)) xs.length
theorem nxB_spec {xs : List Int} {s h : Int} {i : Nat} (hi : i < xs.length) : (i < nxB xs s h i ∧ nxB xs s h i ≤ xs.length) ∧ runD xs s h i (nxB xs s h i - i) + bst xs s h (nxB xs s h i) = bst xs s h i ∧
    ∀ j, nxB xs s h i < j → j ≤ xs.length → runD xs s h i (j - i) + bst xs s h j ≠ bst xs s h i := by
  obtain ⟨d, hd, e⟩ := minTo_at (fun d => runD xs s h i (d + 1) + bst xs s h (i + (d + 1))) (xs.length - 1 - i)
  have hk : (fun k => decide (i < k) && decide (runD xs s h i (k - i) + bst xs s h k = bst xs s h i)) (i + (d + 1)) = true := by
    rw [Bool.and_eq_true]
    exact ⟨decide_eq_true (by omega), decide_eq_true (by rw [bst_rec hi, e, show i + (d + 1) - i = d + 1 by omega])⟩
  obtain ⟨h1, h2, h3, h4⟩ := lastFrom_spec (P := fun k => decide (i < k) && decide (runD xs s h i (k - i) + bst xs s h k = bst xs s h i)) (n := xs.length) (k := i + (d + 1)) (by omega) (by omega) hk
  simp only [Bool.and_eq_true, decide_eq_true_eq] at h1
  refine ⟨⟨by have := h1.1; exact this, h3⟩, h1.2, fun j hj1 hj2 => ?_⟩
  have := h4 j hj1 hj2
  simp only [Bool.and_eq_false_iff, decide_eq_false_iff_not] at this
  rcases this with h | h
  · have := h1.1; exact absurd (show i < j by unfold nxB at hj1; omega) h
  · exact h
theorem nxB_nexts (xs : List Int) (s h : Int) : Nexts (nxB xs s h) xs.length := fun i hi => (nxB_spec hi).1
def bestLotsM (xs : List Int) (s h : Int) : List Int := madeM (nxB xs s h) xs
/-- what is made on the days ahead of i -/
def madeTo (nx : Nat → Nat) (xs : List Int) (i q : Nat) : Int := if q < i then madeAt nx xs q else 0
theorem madeTo_next {nx : Nat → Nat} {xs : List Int} {i : Nat} (hn : Nexts nx xs.length) (hi : i < xs.length) (ho : owner nx i = i) (q : Nat) : (if q = i then sumN xs (nx i) - sumN xs i else madeTo nx xs i q) = madeTo nx xs (nx i) q := by
  have h1 := hn i hi
  unfold madeTo
  by_cases e : q = i
  · subst e; rw [if_pos rfl, if_pos h1.1, madeAt, if_pos ho]
  · rw [if_neg e]
    by_cases h2 : q < i
    · rw [if_pos h2, if_pos (by omega)]
    · rw [if_neg h2]
      by_cases h3 : q < nx i
      · obtain ⟨d, rfl⟩ : ∃ d, q = i + d := ⟨q - i, by omega⟩
        have := owner_run ho d h3
        rw [if_pos h3, madeAt, this, if_neg (by omega)]
      · rw [if_neg h3]
theorem made_part {xs : List Int} {i k : Nat} (hik : i ≤ k) (hk : k ≤ xs.length) : totalM ((xs.drop i).take (k - i)) = sumN xs k - sumN xs i := by
  rw [totalM_part xs i (k - i) (by omega), show i + (k - i) = k by omega]

set_option maxRecDepth 100000 in
set_option maxHeartbeats 4000000 in
theorem plan_spec (a : Option Addr) (len cap : Nat) (xs : List Int) (s h : Int) (w : World) (hx : IntsAt w (· < w.heap.size) a len xs) (hcap : len ≤ cap) (hv : validLotsM xs s h = true) :
    Calls Try.prog 39 #[.slice a len cap, .int .i64 s, .int .i64 h] w (NewInts w (bestLotsM xs s h)) := by
  obtain ⟨hvd, hs', hh'⟩ := validLots_get hv
  have HL := Lib.hid hx.lenEq
  have hl8 : len ≤ 8 := by have := validDays_len hvd; have := HL.out; omega
  have HAT := Lib.hid (validDays_at hvd)
  have HBD := Lib.hid (fun i (hi : i ≤ xs.length) => bst_bd (s := s) (h := h) (validDays_len hvd) (validDays_at hvd) (by omega) (by omega) hi)
  have hmk := fun w => run_make_row' (P := Try.prog) 23 3 (.int .i64 0) 8 Try.underlying23 Try.infoIntP rfl .i64 .i64 len (by omega) (by omega) w
  have HO0 := Lib.hid ((OwnF.start w len (by omega)).congr (g := madeTo (nxB xs s h) xs 0) (fun q _ => by unfold madeTo; rw [if_neg (by omega)]))
  have hs1 : (w.alloc (.cells (madeCells #[.int .i64 0] len) 3)).heap.size = w.heap.size + 1 := by simp
  go_enter Try.func39, Try.ntmps39
  go_wp2_with fail
  clear hmk
  obtain ⟨W1, hW1⟩ : ∃ W1, (w.alloc (.cells (madeCells #[.int .i64 0] len) 3)) = W1 := ⟨_, rfl⟩
  rw [hW1] at HO0 hs1 ⊢
  clear hW1
  have hsz := hs1
  have HS1 := Lib.hid hs1
  clear hs1
  refine (bestFrom_spec a len cap xs s h W1 ((hx.below HO0.out.below).to (fun b hb => ⟨by omega, rfl⟩)) hcap hv).mono ?_
  rintro e W2 ⟨rfl, hbest⟩
  have HB2 := Lib.hid (HO0.out.below.trans (hbest.below.mono HO0.out.below.size))
  have HO2 := Lib.hid (show OwnF w W2 len (madeTo (nxB xs s h) xs 0) from ⟨HO0.out.own.kept (row := none) ⟨hbest.below.os, hbest.below.tape, hbest.below.output, hbest.below.size, fun b hb _ => hbest.below.block b hb⟩ (.inr (by simp [Value.ownBlock])), HB2.out⟩)
  have hb2 : ∀ q, q ≤ len → W2.cell? ⟨w.heap.size + 1, q, none⟩ = some (.int .i64 (bst xs s h q)) := fun q hq => by
    rw [← HS1.out]; exact (hbest.cell (q := q) (by omega)).1
  have HBC := Lib.hid hb2
  rw [HS1.out]
  clear hb2 hbest hvd hsz
  go_wp2_with fail
  go_loopw [9] (fun i wr => ∃ v : Nat, v ≤ len ∧ (v < len → owner (nxB xs s h) v = v) ∧ i = .int .i64 v ∧ OwnF w wr len (madeTo (nxB xs s h) xs v) ∧ (∀ q, q ≤ len → wr.cell? ⟨w.heap.size + 1, q, none⟩ = some (.int .i64 (bst xs s h q)))) (fun i _ => len - (intOf i).toNat)
  case atStart => exact ⟨0, Nat.zero_le _, fun _ => rfl, rfl, HO2.out, HBC.out⟩
  case round =>
    clear HO2 HBC
    obtain ⟨i, hi, ho, rfl, hC, hbc⟩ := hrel
    obtain ⟨wo, rfl⟩ : ∃ wo : World, wo = wr := ⟨_, rfl⟩
    have HC := Lib.hid hC
    have HBC := Lib.hid hbc
    clear hC hbc
    by_cases hil : i < len
    · have HOW := Lib.hid (ho hil)
      have hilx : i < xs.length := by rw [HL.out]; exact hil
      obtain ⟨⟨hn1, hn2⟩, hn3, hn4⟩ := nxB_spec (xs := xs) (s := s) (h := h) hilx
      have HNX := Lib.hid (madeTo_next (nxB_nexts xs s h) hilx (ho hil))
      have HNO := Lib.hid (fun hlt => owner_next (ho hil) hn1 : nxB xs s h i < len → _)
      rw [HL.out] at hn2 hn4
      have HN3 := Lib.hid hn3
      have HN4 := Lib.hid hn4
      have HNP := Lib.hid (made_part (xs := xs) (i := i) (k := nxB xs s h i) (by omega) (by rw [HL.out]; exact hn2))
      clear hn3 hn4 ho
      generalize nxB xs s h i = nx at *
      go_wp2_with fail
      go_loopw [10] (fun k wr => ∃ q : Nat, nx ≤ q ∧ q ≤ len ∧ k = .int .i64 q ∧ Drew wo wr) (fun k _ => (intOf k).toNat)
      case atStart => exact ⟨len, hn2, Nat.le_refl _, rfl, Drew.refl _⟩
      case round =>
        obtain ⟨q, hq1, hq2, rfl, hdw⟩ := hrel
        have hxw := Drew.ints (hx.below HC.out.below) hdw
        have hc1 : wr.cell? ⟨w.heap.size + 1, q, none⟩ = some (.int .i64 (bst xs s h q)) := by obtain ⟨z, rfl⟩ := hdw; exact HBC.out q hq2
        have hc2 : wr.cell? ⟨w.heap.size + 1, i, none⟩ = some (.int .i64 (bst xs s h i)) := by obtain ⟨z, rfl⟩ := hdw; exact HBC.out i (by omega)
        have hrb := runD_bd HAT.out (s := s) (h := h) (by omega) (by omega) i (q - i) (by omega)
        have hbb := HBD.out q (by rw [HL.out]; omega)
        have HRUN := Lib.hid (show ∀ z, Calls Try.prog 48 #[.slice a len cap, .int .i64 i, .int .i64 q, .int .i64 s, .int .i64 h] (wr.drewN z) (fun e w' => e = .returned (.int .i64 (runD xs s h i (q - i))) ∧ ∃ q, w' = (wr.drewN z).drewN q) from fun z =>
          (run_any _ a len cap xs i q s h (wr.drewN z) (Drew.ints hxw ⟨z, rfl⟩) hcap hl8 HAT.out (by omega) hq2 (by omega) (by omega)).mono (fun e w' he => ⟨he.1, 0, by rw [← he.2]; rfl⟩))
        have HEQ := Lib.hid (fun (e : q = nx) => by rw [e]; exact HN3.out : q = nx → runD xs s h i (q - i) + bst xs s h q = bst xs s h i)
        have HNE := Lib.hid (fun (e : nx < q) => HN4.out q e hq2 : nx < q → runD xs s h i (q - i) + bst xs s h q ≠ bst xs s h i)
        clear hxw
        generalize runD xs s h i (q - i) = r at hrb HRUN HEQ HNE
        generalize bst xs s h q = bq at hbb hc1 HEQ HNE
        generalize bst xs s h i = bi at hc2 HEQ HNE
        have hw1 : IntKind.i64.wrap (r + bq) = r + bq := IntWalk.i64_in _ (by omega)
        have hq3 : (q : Int) < (len : Int) + 1 := by omega
        have hq4 : q < len + 1 := by omega
        have hi3 : (i : Int) < (len : Int) + 1 := by omega
        have hi4 : i < len + 1 := by omega
        by_cases hqn : nx < q
        · have hne : (r + bq != bi) = true := by simpa using HNE.out hqn
          go_wp2_with fail
          go_quiet ((go_at_call 48; exact Calls.quiet_of (HRUN.out _)))
          clear hw1
          go_wp2_with fail
          go_roundw
          case rel => exact ⟨q - 1, by omega, by omega, by congr 1; omega, hdw.drew _⟩
          case measure => simp [intOf] <;> omega
        · have hqe : q = nx := by omega
          have hne : (r + bq != bi) = false := by simpa using HEQ.out hqe
          have HQE := Lib.hid hqe
          clear hqe
          go_wp2_with fail
          go_quiet ((go_at_call 48; exact Calls.quiet_of (HRUN.out _)))
          clear hw1 hc1 hc2
          have HDW := Lib.hid (hdw.drew nq)
          generalize wr.drewN nq = wd at *
          have HCD := Lib.hid (show OwnF w wd len (madeTo (nxB xs s h) xs i) by obtain ⟨z, rfl⟩ := HDW.out; exact HC.out.drew z)
          have hxd := hx.below HCD.out.below
          obtain ⟨bb, oo, hae, _, _⟩ := hxd.cells (by omega)
          have HXD := Lib.hid hxd
          subst hae
          have hpart := ints_part HXD.out i q (by omega) hq2
          have hne2 : ¬ cap = i := by omega
          have hiq : i ≤ q := by omega
          have hqc : q ≤ cap := by omega
          obtain ⟨e1, f1⟩ := HCD.out.cell hil
          have hil3 : (i : Int) < (len : Int) := by omega
          have HNP2 := Lib.hid (show totalM ((xs.drop i).take (q - i)) = sumN xs nx - sumN xs i by rw [HQE.out]; exact HNP.out)
          clear hxd
          go_wp2_with fail
          refine (specSum_any _ _ (q - i) (cap - i) _ wd hpart (fun y hy => days_mem HAT.out y (List.mem_of_mem_drop (List.mem_of_mem_take hy))) (by omega)).mono ?_
          rintro e w' ⟨rfl, rfl⟩
          rw [HNP2.out]
          go_wp2_with fail
          go_roundw
          case rel => exact ⟨q, hq2, fun hlt => by rw [HQE.out] at hlt ⊢; exact HNO.out hlt, rfl, by rw [HQE.out]; exact (HCD.out.put i _).congr (fun z _ => HNX.out z), fun z hz => by
            rw [World.cell?_setCell_other _ _ _ _ (by intro e; injection e; omega)]
            obtain ⟨y, hy⟩ := HDW.out
            rw [hy]; exact HBC.out z hz⟩
          case measure => simp [intOf] <;> omega
    · obtain rfl : i = len := by omega
      have e : bestLotsM xs s h = tab (madeTo (nxB xs s h) xs i) i := by
        unfold bestLotsM madeM
        rw [HL.out]
        exact tab_congr (fun q hq => by unfold madeTo; rw [if_pos hq])
      have HE := Lib.hid e
      clear e
      go_wp2_with fail
      go_ret
      rw [HE.out]
      exact (HC.out.done (by omega)).ints
def bestRes (xs : List Int) (s h : Int) : List Int := if validLotsM xs s h then bestLotsM xs s h else []
theorem bestRes_no {xs : List Int} {s h : Int} (e : validLotsM xs s h = false) : bestRes xs s h = [] := by unfold bestRes; rw [e]; rfl
theorem bestRes_yes {xs : List Int} {s h : Int} (e : validLotsM xs s h = true) : bestRes xs s h = bestLotsM xs s h := by unfold bestRes; rw [e]; rfl
theorem bestRes_len (xs : List Int) (s h : Int) : (bestRes xs s h).length ≤ 1048576 := by
  cases e : validLotsM xs s h
  · rw [bestRes_no e]; simp
  · rw [bestRes_yes e, bestLotsM, madeM_length]; have := validDays_len (validLots_get e).1; omega
theorem bestLots_spec (a : Option Addr) (len cap : Nat) (xs : List Int) (s h : Int) (w : World) (hx : IntsAt w (· < w.heap.size) a len xs) (hcap : len ≤ cap) :
    Calls Try.prog 20 #[.slice a len cap, .int .i64 s, .int .i64 h] w (NewInts w (bestRes xs s h)) := by
  cases hv : validLotsM xs s h
  · rw [bestRes_no hv]
    go_enter Try.func20, Try.ntmps20
    go_wp2_with (go_at_call 29; refine (validLots_any _ _ _ _ xs s h _ hx).mono ?_; rintro e w' ⟨rfl, rfl⟩)
    go_ret
    exact newInts_nil w
  · rw [bestRes_yes hv]
    go_enter Try.func20, Try.ntmps20
    go_wp2_with (first | (go_at_call 29; refine (validLots_any _ _ _ _ xs s h _ hx).mono ?_; rintro e w' ⟨rfl, rfl⟩) | (go_at_call 39; refine (plan_spec _ _ _ xs s h _ hx hcap hv).mono ?_; rintro e w' ⟨a3, l3, c3, rfl, h1, h2, h3⟩))
    go_ret
    exact ⟨a3, l3, c3, rfl, h1, h2, h3⟩
end Go.Proofs.Ytldncfkkeeinjac
