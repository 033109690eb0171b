import Derived.Test.YtldncfkkeeinjacRows
import Derived.WalkKit
import Derived.LoopTactic
import Derived.Outline
import Derived.WalkSpells
import Derived.WalkLawsBesides
import Derived.ProofKit
import Derived.Lib.Hide
import Derived.Deep.QuietTactic
import Derived.BigQuiet
import Derived.RegionTactic
import Derived.BigRegion
import Derived.IntWalk
import Derived.Test.YtldncfkkeeinjacLib
import Derived.Test.YtldncfkkeeinjacGen
import Derived.Test.YtldncfkkeeinjacMark
import Derived.Test.YtldncfkkeeinjacArr
import Derived.Test.YtldncfkkeeinjacOwn1
import Derived.Test.YtldncfkkeeinjacUp
import Derived.Test.YtldncfkkeeinjacLaws
import Derived.Test.YtldncfkkeeinjacNetM
import Derived.Test.YtldncfkkeeinjacVal2
import Derived.Test.YtldncfkkeeinjacEx
import Derived.Test.YtldncfkkeeinjacStocks
import Derived.Test.YtldncfkkeeinjacPlanM
namespace Go.Proofs.Ytldncfkkeeinjac
open Go.RowKit Go.WideShapes

theorem Try.infoIntP : (Try.prog.info? 3).map (fun i => (i.zero, i.size, i.bytes)) = some (some (.int .i64 0), 1, 8) := by kernel_rfl
def validLotsM (xs : List Int) (s h : Int) : Bool := validDaysM xs && inB 0 30 s && inB 0 30 h
theorem validLots_get {xs : List Int} {s h : Int} (hv : validLotsM xs s h = true) : validDaysM xs = true ∧ (0 ≤ s ∧ s ≤ 30) ∧ (0 ≤ h ∧ h ≤ 30) := by
  simp only [validLotsM, Bool.and_eq_true] at hv
  have h1 : 0 ≤ s ∧ s ≤ 30 := by simpa [inB] using hv.1.2
  have h2 : 0 ≤ h ∧ h ≤ 30 := by simpa [inB] using hv.2
  exact ⟨hv.1.1, h1, h2⟩
theorem validLots_any (S : Nat → Prop) (a : Option Addr) (len cap : Nat) (xs : List Int) (s h : Int) (w : World) (hx : IntsAt w S a len xs) :
    Calls Try.prog 29 #[.slice a len cap, .int .i64 s, .int .i64 h] w fun e w' => e = .returned (.bool (validLotsM xs s h)) ∧ w = w' := by
  cases hv : validDaysM xs
  · go_enter Try.func29, Try.ntmps29
    go_wp2_with (go_at_call 43; refine (validDays_spec0 _ _ _ _ xs _ hx).mono ?_; rintro e w' ⟨rfl, rfl⟩)
    go_ret
    exact ⟨ret_bool (by unfold validLotsM; rw [hv]; rfl), rfl⟩
  · cases hs : inB 0 30 s
    · go_enter Try.func29, Try.ntmps29
      go_wp2_with (first | (go_at_call 43; refine (validDays_spec0 _ _ _ _ xs _ hx).mono ?_; rintro e w' ⟨rfl, rfl⟩) | (go_at_call 44; refine (inRange_any _ _ _ _).mono ?_; rintro e w' ⟨rfl, rfl⟩))
      go_ret
      exact ⟨ret_bool (by unfold validLotsM; rw [hv, hs]; rfl), rfl⟩
    · go_enter Try.func29, Try.ntmps29
      go_wp2_with (first | (go_at_call 43; refine (validDays_spec0 _ _ _ _ xs _ hx).mono ?_; rintro e w' ⟨rfl, rfl⟩) | (go_at_call 44; refine (inRange_any _ _ _ _).mono ?_; rintro e w' ⟨rfl, rfl⟩))
      go_ret
      exact ⟨ret_bool (by unfold validLotsM; rw [hv, hs]; rfl), rfl⟩
theorem specSum_any (S : Nat → Prop) (a : Option Addr) (len cap : Nat) (xs : List Int) (w : World) (h : IntsAt w S a len xs) (hb : ∀ x ∈ xs, -1099511627776 ≤ x ∧ x ≤ 1099511627776) (hl : len ≤ 1048576) :
    Calls Try.prog 31 #[.slice a len cap] w fun e w' => e = .returned (.int .i64 (totalM xs)) ∧ w = w' := by
  go_enter Try.func31, Try.ntmps31
  go_wp2
  go_loop [3, 4] (fun n i => ∃ k : Nat, k ≤ len ∧ i = .int .i64 k ∧ n = .int .i64 (totalM (xs.take k))) (fun _ i => len - (intOf i).toNat)
  case atStart => exact ⟨0, Nat.zero_le _, rfl, rfl⟩
  case round =>
    obtain ⟨k, hk, rfl, rfl⟩ := hrel
    by_cases hlt : k < len
    · obtain ⟨b, off, x, rfl, hx, hc⟩ := h.get hlt
      have hx1 := hb x (List.mem_of_getElem? hx)
      have hx2 := totalM_bd (B := 1099511627776) (by omega) (fun y hy => hb y (take_mem (k := k) hy))
      have hll : ((xs.take k).length : Int) ≤ 1048576 := by rw [List.length_take]; omega
      have HX := Lib.hid hx
      clear hx
      generalize hT : totalM (xs.take k) = t at hx2 ⊢
      have HT := Lib.hid hT
      clear hT
      have ht1 : -1152921504606846976 ≤ t := by omega
      have ht2 : t ≤ 1152921504606846976 := by omega
      clear hx2 hll
      go_wp2
      go_round
      case rel => exact ⟨k + 1, by omega, by go_num, by rw [take_get HX.out, totalM_snoc, HT.out]⟩
      case measure => simp [intOf]; omega
    · have hle := h.lenEq
      have HL := Lib.hid hle
      clear hle
      go_wp2
      go_ret
      exact ⟨ret_int (by rw [List.take_of_length_le (by rw [HL.out]; omega)]), rfl⟩
theorem mul_box3 {a b A B : Int} (ha : 0 ≤ a) (ha' : a ≤ A) (hb : 0 ≤ b) (hb' : b ≤ B) : 0 ≤ a * b ∧ a * b ≤ A * B :=
  ⟨Int.mul_nonneg ha hb, Int.mul_le_mul ha' hb' hb (by omega)⟩
theorem ints_part {w : World} {S : Nat → Prop} {b off len : Nat} {xs : List Int} (h : IntsAt w S (some ⟨b, off, none⟩) len xs) (i k : Nat) (hi : i < k) (hk : k ≤ len) : IntsAt w S (some ⟨b, off + i, none⟩) (k - i) ((xs.drop i).take (k - i)) := by
  have hl := h.lenEq
  have hs := h.small
  obtain ⟨b', off', e, hS, hc⟩ := h.cells (by omega)
  cases e
  refine ⟨by simp; omega, by omega, fun _ => ⟨b, off + i, rfl, hS, fun j x hx => ?_⟩⟩
  rw [List.getElem?_take] at hx
  split at hx
  · rw [List.getElem?_drop] at hx
    rw [Nat.add_assoc]
    exact hc _ _ hx
  · cases hx
theorem days_mem {xs : List Int} (hx : ∀ k, 0 ≤ xs.getD k 0 ∧ xs.getD k 0 ≤ 20) : ∀ x ∈ xs, -1099511627776 ≤ x ∧ x ≤ 1099511627776 := by
  intro x hx'
  obtain ⟨k, hk, rfl⟩ := List.mem_iff_getElem.1 hx'
  have := hx k
  rw [List.getD_eq_getElem?_getD, List.getElem?_eq_getElem hk] at this
  simp at this
  omega
set_option maxRecDepth 100000 in
set_option maxHeartbeats 2000000 in
theorem run_any (S : Nat → Prop) (a : Option Addr) (len cap : Nat) (xs : List Int) (i k : Nat) (s h : Int) (w : World) (hx : IntsAt w S a len xs) (hcap : len ≤ cap) (hl : len ≤ 8) (hv : ∀ k, 0 ≤ xs.getD k 0 ∧ xs.getD k 0 ≤ 20) (hik : i < k) (hk : k ≤ len) (hs : 0 ≤ s ∧ s ≤ 31) (hh : 0 ≤ h ∧ h ≤ 31) :
    Calls Try.prog 48 #[.slice a len cap, .int .i64 i, .int .i64 k, .int .i64 s, .int .i64 h] w fun e w' => e = .returned (.int .i64 (runD xs s h i (k - i))) ∧ w = w' := by
  obtain ⟨hs0, hs1⟩ := hs
  obtain ⟨hh0, hh1⟩ := hh
  have HL := Lib.hid hx.lenEq
  have HV := Lib.hid hv
  obtain ⟨b, off, rfl, hS, hcell⟩ := hx.cells (by omega)
  have HX := Lib.hid hx
  clear hv hx
  go_enter Try.func48, Try.ntmps48
  go_wp2
  go_loop [11, 12] (fun n v => ∃ q : Nat, i ≤ q ∧ q ≤ k ∧ v = .int .i64 q ∧ n = .int .i64 (h * hsum xs i (q - i))) (fun _ q => k - (intOf q).toNat)
  case atStart => exact ⟨i, by omega, by omega, rfl, by simp [hsum]⟩
  case round =>
    obtain ⟨q, hq1, hq2, rfl, rfl⟩ := hrel
    by_cases hlt : q < k
    · obtain ⟨b', off', x, e, hxx, hc⟩ := HX.out.get (k := q) (by omega)
      cases e
      have hxb := HV.out q
      rw [getD_of hxx] at hxb
      have h1 := hsum_bd HV.out i (q - i) (by omega)
      have h2 := hsum_nonneg (fun k => (HV.out k).1) i (q - i)
      have HN := Lib.hid (show h * hsum xs i (q + 1 - i) = h * hsum xs i (q - i) + h * ((q : Int) - (i : Int)) * x by
        rw [show q + 1 - i = (q - i) + 1 by omega, hsum, show i + (q - i) = q by omega, getD_of hxx, show ((q - i : Nat) : Int) = (q : Int) - (i : Int) by omega, Int.mul_add, Int.mul_assoc])
      have h3 := mul_box3 hh0 hh1 h2 (show hsum xs i (q - i) ≤ 1280 by omega)
      have h4 := mul_box3 hh0 hh1 (show (0 : Int) ≤ (q : Int) - (i : Int) by omega) (show (q : Int) - (i : Int) ≤ 8 by omega)
      clear hxx h1 h2 hcell
      generalize h * hsum xs i (q - i) = o at h3 HN ⊢
      generalize hp : h * ((q : Int) - (i : Int)) = p at h4 HN
      have h5 := mul_box3 h4.1 h4.2 hxb.1 hxb.2
      have hlt2 : (q : Int) < (k : Int) := by omega
      have hlt3 : (q : Int) < (len : Int) := by omega
      have hlt4 : q < len := by omega
      go_wp2
      go_round
      case rel => exact ⟨q + 1, by omega, by omega, by go_num, by rw [HN.out]⟩
      case measure => simp [intOf]; omega
    · obtain rfl : q = k := by omega
      have hpart := ints_part HX.out i q hik hk
      have HS := Lib.hid (totalM_part xs i (q - i) (by rw [HL.out]; omega))
      have h1 := hsum_bd HV.out i (q - i) (by omega)
      have h2 := hsum_nonneg (fun k => (HV.out k).1) i (q - i)
      have h3 := mul_box3 hh0 hh1 h2 (show hsum xs i (q - i) ≤ 1280 by omega)
      have HR := Lib.hid (show runD xs s h i (q - i) = h * hsum xs i (q - i) + (if 0 < sumN xs (i + (q - i)) - sumN xs i then s else 0) from rfl)
      clear h1 h2 hcell
      generalize h * hsum xs i (q - i) = o at h3 HR ⊢
      have hne : ¬ cap = i := by omega
      have hiq : i ≤ q := by omega
      have hqc : q ≤ cap := by omega
      go_wp2_with fail
      refine (specSum_any S _ (q - i) (cap - i) _ w hpart (fun y hy => days_mem HV.out y (List.mem_of_mem_drop (List.mem_of_mem_take hy))) (by omega)).mono ?_
      rintro e w' ⟨rfl, rfl⟩
      rw [HS.out]
      generalize sumN xs (i + (q - i)) - sumN xs i = t at HR ⊢
      by_cases ht : 0 < t
      · rw [if_pos ht] at HR
        go_wp2
        go_ret
        exact ⟨ret_int HR.out.symm, rfl⟩
      · rw [if_neg ht, Int.add_zero] at HR
        go_wp2
        go_ret
        exact ⟨ret_int HR.out.symm, rfl⟩

-- LotCost
def lotFine (ms xs : List Int) (s h : Int) : Bool := validLotsM xs s h && stocksFine 0 ms xs
/-- what LotCost answers -/
def lotCostM (ms xs : List Int) (s h : Int) : Int := if lotFine ms xs s h then planTo ms xs s h xs.length else -1
def IntBool (w : World) (n : Int) (b : Bool) (e : Ending) (w' : World) : Prop := e = .returned (.tuple #[.int .i64 n, .bool b]) ∧ Below w.heap.size w w'
theorem lotCost_no {ms xs : List Int} {s h : Int} (e : lotFine ms xs s h = false) : lotCostM ms xs s h = -1 := by unfold lotCostM; rw [e]; rfl
theorem lotCost_yes {ms xs : List Int} {s h : Int} (e : lotFine ms xs s h = true) : lotCostM ms xs s h = planTo ms xs s h xs.length := by unfold lotCostM; rw [e]; rfl
theorem dayC_bd {ms xs : List Int} {s h : Int} (hm : validMadeM ms = true) (hx : validDaysM xs = true) (hok : ∀ q, q < xs.length → 0 ≤ stockTo ms xs 0 (q + 1)) (hs : 0 ≤ s ∧ s ≤ 31) (hh : 0 ≤ h ∧ h ≤ 31) {q : Nat} (hq : q < xs.length) : 0 ≤ dayC ms xs s h q ∧ dayC ms xs s h q ≤ 50000 := by
  have h1 := hok q hq
  have h2 := stockTo_bd (s := 0) (by omega) (by omega) hm hx (q + 1)
  have hl := validDays_len hx
  have e : stockTo ms xs 0 (q + 1) = sumN ms (q + 1) - sumN xs (q + 1) := by rw [stockTo_closed]; omega
  rw [e] at h1 h2
  have h3 := mul_box3 hh.1 hh.2 h1 (show _ ≤ (1400 : Int) by omega)
  unfold dayC; split <;> omega
theorem planTo_bd {ms xs : List Int} {s h : Int} (hm : validMadeM ms = true) (hx : validDaysM xs = true) (hok : ∀ q, q < xs.length → 0 ≤ stockTo ms xs 0 (q + 1)) (hs : 0 ≤ s ∧ s ≤ 31) (hh : 0 ≤ h ∧ h ≤ 31) : ∀ q, q ≤ xs.length → 0 ≤ planTo ms xs s h q ∧ planTo ms xs s h q ≤ 50000 * (q : Int) := by
  intro q
  induction q with
  | zero => intro _; simp [planTo]
  | succ q ih => intro hq; have := ih (by omega); have := dayC_bd hm hx hok hs hh (q := q) (by omega); rw [planTo]; omega
/-- of the days behind i, so many lots are tried: the least cost, -1 ahead of the first -/
def curM (xs : List Int) (s h : Int) (i : Nat) : Nat → Int
  | 0 => -1
  | m + 1 => minTo (fun d => runD xs s h i (d + 1) + bst xs s h (i + (d + 1))) m
def doneB (xs : List Int) (s h : Int) (m q : Nat) : Int := if m ≤ q then bst xs s h q else 0
def bestNow (xs : List Int) (s h : Int) (i : Nat) (c : Int) (q : Nat) : Int := if q = i then c else if i < q then bst xs s h q else 0
set_option maxRecDepth 100000 in
set_option maxHeartbeats 4000000 in
theorem bestFrom_spec (a : Option Addr) (len cap : Nat) (xs : List Int) (s h : Int) (w : World) (hx : IntsAt w (· < w.heap.size) a len xs) (hcap : len ≤ cap) (hv : validLotsM xs s h = true) :
    Calls Try.prog 47 #[.slice a len cap, .int .i64 s, .int .i64 h] w fun e w' => e = .returned (.slice (some ⟨w.heap.size, 0, none⟩) (len + 1) (len + 1)) ∧ OwnF w w' (len + 1) (bst xs s h) := by
  obtain ⟨hvd, hs', hh'⟩ := validLots_get hv
  have HL := Lib.hid hx.lenEq
  have hl8 : len ≤ 8 := by have := validDays_len hvd; have := HL.out; omega
  have HAT := Lib.hid (validDays_at hvd)
  have HBD := Lib.hid (fun i (hi : i ≤ xs.length) => bst_bd (s := s) (h := h) (validDays_len hvd) (validDays_at hvd) (by omega) (by omega) hi)
  have HEND := Lib.hid (bst_end xs s h)
  have hmk := fun w => run_make_row' (P := Try.prog) 23 3 (.int .i64 0) 8 Try.underlying23 Try.infoIntP rfl .i64 .i64 (len + 1) (by omega) (by omega) w
  have hpc : (((len + 1 : Nat) : Int)) = (len : Int) + 1 := by omega
  rw [hpc] at hmk
  clear hpc
  have hO0 := (OwnF.start w (len + 1) (by omega)).congr (g := doneB xs s h len) (fun q hq => by unfold doneB; split; rw [show q = xs.length by rw [HL.out]; omega, HEND.out]; rfl)
  have HO0 := Lib.hid hO0
  obtain ⟨hs0, hs1⟩ := hs'
  obtain ⟨hh0, hh1⟩ := hh'
  clear hO0 hv hvd
  go_enter Try.func47, Try.ntmps47
  go_wp2
  clear hmk
  go_loopw [9] (fun i wr => ∃ v : Int, -1 ≤ v ∧ v < len ∧ i = .int .i64 v ∧ OwnF w wr (len + 1) (doneB xs s h (v + 1).toNat)) (fun i _ => (intOf i + 1).toNat)
  case atStart => exact ⟨(len : Int) - 1, by omega, by omega, rfl, by rw [show ((len : Int) - 1 + 1).toNat = len by omega]; exact HO0.out⟩
  case round =>
    obtain ⟨v, hv1, hv2, rfl, hC⟩ := hrel
    clear HO0
    obtain ⟨wo, rfl⟩ : ∃ wo : World, wo = wr := ⟨_, rfl⟩
    by_cases h0v : 0 ≤ v
    · obtain ⟨i, rfl⟩ : ∃ i : Nat, v = (i : Int) := ⟨v.toNat, by omega⟩
      rw [show ((i : Int) + 1).toNat = i + 1 by omega] at hC
      have hil : i < len := by omega
      obtain ⟨e1, f1⟩ := hC.cell (q := i) (by omega)
      have HC1 := Lib.hid ((hC.put i (-1)).congr (g := bestNow xs s h i (curM xs s h i 0)) (fun q _ => by unfold bestNow doneB curM; by_cases e : q = i; rw [if_pos e, if_pos e]; rw [if_neg e, if_neg e]; (repeat' split) <;> first | rfl | omega))
      have hil2 : (i : Int) < (len : Int) + 1 := by omega
      have hil3 : i < len + 1 := by omega
      clear hC
      go_wp2
      go_loopw [10] (fun k wr => ∃ m : Nat, i + m ≤ len ∧ k = .int .i64 ((i + 1 + m : Nat) : Int) ∧ OwnF w wr (len + 1) (bestNow xs s h i (curM xs s h i m))) (fun k _ => len + 1 - (intOf k).toNat)
      case atStart => exact ⟨0, by omega, by go_num, HC1.out⟩
      case round =>
        clear HC1
        obtain ⟨m, hm, rfl, hC⟩ := hrel
        obtain ⟨wi, rfl⟩ : ∃ wi : World, wi = wr := ⟨_, rfl⟩
        by_cases hml : i + 1 + m ≤ len
        · obtain ⟨kk, hkk⟩ : ∃ kk, kk = i + 1 + m := ⟨_, rfl⟩
          rw [← hkk] at hml ⊢
          obtain ⟨e1, f1⟩ := hC.cell (q := i) (by omega)
          obtain ⟨e2, f2⟩ := hC.cell (q := kk) (by omega)
          have v1 : bestNow xs s h i (curM xs s h i m) i = curM xs s h i m := by unfold bestNow; rw [if_pos rfl]
          have v2 : bestNow xs s h i (curM xs s h i m) kk = bst xs s h kk := by unfold bestNow; rw [if_neg (by omega), if_pos (by omega)]
          rw [v1] at e1
          rw [v2] at e2
          have hxw := hx.below hC.below
          have hrb := runD_bd HAT.out (s := s) (h := h) (by omega) (by omega) i (kk - i) (by omega)
          have hbb := HBD.out kk (by rw [HL.out]; omega)
          have HC := Lib.hid hC
          have HKK := Lib.hid hkk
          have HRUN := Lib.hid (show ∀ z, Calls Try.prog 48 #[.slice a len cap, .int .i64 i, .int .i64 kk, .int .i64 s, .int .i64 h] (wi.drewN z) (fun e w' => e = .returned (.int .i64 (runD xs s h i (kk - i))) ∧ ∃ q, w' = (wi.drewN z).drewN q) from fun z =>
            (run_any _ a len cap xs i kk s h (wi.drewN z) (Drew.ints hxw ⟨z, rfl⟩) hcap hl8 HAT.out (by omega) hml (by omega) (by omega)).mono (fun e w' he => ⟨he.1, 0, by rw [← he.2]; rfl⟩))
          have HG := Lib.hid (show curM xs s h i (m + 1) = if m = 0 then runD xs s h i (kk - i) + bst xs s h kk else min (curM xs s h i m) (runD xs s h i (kk - i) + bst xs s h kk) by
            rw [hkk, show i + 1 + m - i = m + 1 by omega]
            cases m with
            | zero => rfl
            | succ m => rw [if_neg (by omega), curM, minTo, curM, show i + 1 + (m + 1) = i + (m + 1 + 1) by omega])
          have hcb : m = 0 ∧ curM xs s h i m = -1 ∨ 0 < m ∧ 0 ≤ curM xs s h i m ∧ curM xs s h i m ≤ 1000000 := by
            cases m with
            | zero => exact Or.inl ⟨rfl, rfl⟩
            | succ m =>
              right
              obtain ⟨d, hd, e⟩ := minTo_at (fun d => runD xs s h i (d + 1) + bst xs s h (i + (d + 1))) m
              have := runD_bd HAT.out (s := s) (h := h) (by omega) (by omega) i (d + 1) (by omega)
              have := HBD.out (i + (d + 1)) (by rw [HL.out]; omega)
              rw [curM, e]; omega
          clear hC hkk v1 v2 hxw
          generalize runD xs s h i (kk - i) = r at hrb HRUN HG
          generalize bst xs s h kk = bk at hbb e2 HG
          generalize curM xs s h i m = cu at e1 hcb HG HC ⊢
          have hkl : (kk : Int) < (len : Int) + 1 := by omega
          have hkl3 : (kk : Int) ≤ (len : Int) := by omega
          have hkl2 : kk < len + 1 := by omega
          have hw1 : IntKind.i64.wrap (r + bk) = r + bk := IntWalk.i64_in _ (by omega)
          go_wp2_with fail
          go_quiet ((go_at_call 48; exact Calls.quiet_of (HRUN.out _)))
          clear hw1
          have HCD := Lib.hid (HC.out.drew nq)
          have e1' : (wi.drewN nq).cell? ⟨w.heap.size, i, none⟩ = some (.int .i64 cu) := e1
          have f1' : (wi.drewN nq).frozen? ⟨w.heap.size, i, none⟩ = false := f1
          clear e1 f1 e2 f2 HC
          generalize wi.drewN nq = wd at *
          have hrel : ∀ c', curM xs s h i (m + 1) = c' → ∀ q, q < len + 1 → (if q = i then c' else bestNow xs s h i cu q) = bestNow xs s h i (curM xs s h i (m + 1)) q := fun c' e q _ => by
            unfold bestNow; rw [e]; by_cases e' : q = i; rw [if_pos e', if_pos e']; rw [if_neg e', if_neg e', if_neg e']
          have HREL := Lib.hid hrel
          clear hrel
          rcases hcb with ⟨hm0, hcu⟩ | ⟨hm0, hcu0, hcu1⟩
          · have HG0 := Lib.hid (HG.out.trans (if_pos hm0))
            have HCU := Lib.hid hcu
            subst hcu
            clear hm0
            go_wp2
            go_roundw
            case rel => exact ⟨m + 1, by have := HKK.out; omega, by have := HKK.out; subst this; go_num, (HCD.out.put i _).congr (fun q hq => HREL.out _ HG0.out q hq)⟩
            case measure => simp [intOf]; omega
          · have HG0 := Lib.hid (HG.out.trans (if_neg (by omega)))
            by_cases hlt : r + bk < cu
            · have HG1 := Lib.hid (HG0.out.trans (by omega : min cu (r + bk) = r + bk))
              go_wp2
              go_roundw
              case rel => exact ⟨m + 1, by have := HKK.out; omega, by have := HKK.out; subst this; go_num, (HCD.out.put i _).congr (fun q hq => HREL.out _ HG1.out q hq)⟩
              case measure => simp [intOf]; omega
            · have HG1 := Lib.hid (HG0.out.trans (by omega : min cu (r + bk) = cu))
              go_wp2
              go_roundw
              case rel => exact ⟨m + 1, by have := HKK.out; omega, by have := HKK.out; subst this; go_num, by rw [HG1.out]; exact HCD.out⟩
              case measure => simp [intOf]; omega
        · have hmz : m = len - i := by omega
          have HC := Lib.hid (hC.congr (g := doneB xs s h i) (fun q _ => by
            have e : curM xs s h i m = bst xs s h i := by
              rw [bst_rec (by rw [HL.out]; exact hil), HL.out, show m = len - 1 - i + 1 by omega]; rfl
            unfold bestNow doneB
            rw [e]
            by_cases e1 : q = i
            · subst e1; rw [if_pos rfl, if_pos (by omega)]
            · rw [if_neg e1]; by_cases e2 : i < q
              · rw [if_pos e2, if_pos (by omega)]
              · rw [if_neg e2, if_neg (by omega)]))
          have hkl : (len : Int) < ((i + 1 + m : Nat) : Int) := by omega
          clear hC hmz
          generalize i + 1 + m = kk at *
          go_wp2
          go_roundw
          case rel => exact ⟨(i : Int) - 1, by omega, by omega, rfl, by rw [show ((i : Int) - 1 + 1).toNat = i by omega]; exact HC.out⟩
          case measure => simp [intOf] <;> omega
    · obtain rfl : v = -1 := by omega
      have HC := Lib.hid (hC.congr (g := bst xs s h) (fun q _ => by unfold doneB; rw [if_pos (by omega)]))
      clear hC
      go_wp2
      go_ret
      exact ⟨rfl, HC.out⟩
def leastRes (xs : List Int) (s h : Int) : Int := if validLotsM xs s h then bst xs s h 0 else -1
theorem leastRes_no {xs : List Int} {s h : Int} (e : validLotsM xs s h = false) : leastRes xs s h = -1 := by unfold leastRes; rw [e]; rfl
theorem leastRes_yes {xs : List Int} {s h : Int} (e : validLotsM xs s h = true) : leastRes xs s h = bst xs s h 0 := by unfold leastRes; rw [e]; rfl
def IntVal (w : World) (n : Int) (e : Ending) (w' : World) : Prop := e = .returned (.int .i64 n) ∧ Below w.heap.size w w'
end Go.Proofs.Ytldncfkkeeinjac
