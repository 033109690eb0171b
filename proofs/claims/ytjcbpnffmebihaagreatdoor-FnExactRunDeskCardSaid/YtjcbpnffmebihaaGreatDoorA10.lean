import Derived.Test.YtjcbpnffmebihaaGreatDoorA9
import Derived.Test.YtjcbpnffmebihaaGreatDoorRows
import Derived.WalkKit
import Derived.LoopTactic
import Derived.Outline
import Derived.WalkSpells
import Derived.WalkLawsBesides
import Derived.ProofKit
import Derived.Lib.Hide
import Derived.Deep.QuietTactic
import Derived.BigQuiet
import Derived.RegionTactic
import Derived.BigRegion
import Derived.IntWalk
namespace Go.Proofs.YtjcbpnffmebihaaGreatDoor
open Go.RowKit Go.WideShapes

theorem Tryz.infoIntP : (Tryz.prog.info? 3).map (fun i => (i.zero, i.size, i.bytes)) = some (some (.int .i64 0), 1, 8) := by kernel_rfl
def validLotsM (xs : List Int) (s h : Int) : Bool := validDaysM xs && inB 0 30 s && inB 0 30 h
theorem validLots_get {xs : List Int} {s h : Int} (hv : validLotsM xs s h = true) : validDaysM xs = true ∧ (0 ≤ s ∧ s ≤ 30) ∧ (0 ≤ h ∧ h ≤ 30) := by
  simp only [validLotsM, Bool.and_eq_true] at hv
  have h1 : 0 ≤ s ∧ s ≤ 30 := by simpa [inB] using hv.1.2
  have h2 : 0 ≤ h ∧ h ≤ 30 := by simpa [inB] using hv.2
  exact ⟨hv.1.1, h1, h2⟩
theorem validLots_any (S : Nat → Prop) (a : Option Addr) (len cap : Nat) (xs : List Int) (s h : Int) (w : World) (hx : IntsAt w S a len xs) :
    Calls Tryz.prog 38 #[.slice a len cap, .int .i64 s, .int .i64 h] w fun e w' => e = .returned (.bool (validLotsM xs s h)) ∧ w = w' := by
  cases hv : validDaysM xs
  · go_enter Tryz.func38, Tryz.ntmps38
    go_wp2_with (go_at_call 57; refine (validDays_spec0 _ _ _ _ xs _ hx).mono ?_; rintro e w' ⟨rfl, rfl⟩)
    go_ret
    exact ⟨ret_bool (by unfold validLotsM; rw [hv]; rfl), rfl⟩
  · cases hs : inB 0 30 s
    · go_enter Tryz.func38, Tryz.ntmps38
      go_wp2_with (first | (go_at_call 57; refine (validDays_spec0 _ _ _ _ xs _ hx).mono ?_; rintro e w' ⟨rfl, rfl⟩) | (go_at_call 54; refine (inRange_any _ _ _ _).mono ?_; rintro e w' ⟨rfl, rfl⟩))
      go_ret
      exact ⟨ret_bool (by unfold validLotsM; rw [hv, hs]; rfl), rfl⟩
    · go_enter Tryz.func38, Tryz.ntmps38
      go_wp2_with (first | (go_at_call 57; refine (validDays_spec0 _ _ _ _ xs _ hx).mono ?_; rintro e w' ⟨rfl, rfl⟩) | (go_at_call 54; refine (inRange_any _ _ _ _).mono ?_; rintro e w' ⟨rfl, rfl⟩))
      go_ret
      exact ⟨ret_bool (by unfold validLotsM; rw [hv, hs]; rfl), rfl⟩
theorem specSum_any (S : Nat → Prop) (a : Option Addr) (len cap : Nat) (xs : List Int) (w : World) (h : IntsAt w S a len xs) (hb : ∀ x ∈ xs, -1099511627776 ≤ x ∧ x ≤ 1099511627776) (hl : len ≤ 1048576) :
    Calls Tryz.prog 28 #[.slice a len cap] w fun e w' => e = .returned (.int .i64 (totalM xs)) ∧ w = w' := by
  go_enter Tryz.func28, Tryz.ntmps28
  go_wp2
  go_loop [3, 4] (fun n i => ∃ k : Nat, k ≤ len ∧ i = .int .i64 k ∧ n = .int .i64 (totalM (xs.take k))) (fun _ i => len - (intOf i).toNat)
  case atStart => exact ⟨0, Nat.zero_le _, rfl, rfl⟩
  case round =>
    obtain ⟨k, hk, rfl, rfl⟩ := hrel
    by_cases hlt : k < len
    · obtain ⟨b, off, x, rfl, hx, hc⟩ := h.get hlt
      have hx1 := hb x (List.mem_of_getElem? hx)
      have hx2 := totalM_bd (B := 1099511627776) (by omega) (fun y hy => hb y (take_mem (k := k) hy))
      have hll : ((xs.take k).length : Int) ≤ 1048576 := by rw [List.length_take]; omega
      have HX := Lib.hid hx
      clear hx
      generalize hT : totalM (xs.take k) = t at hx2 ⊢
      have HT := Lib.hid hT
      clear hT
      have ht1 : -1152921504606846976 ≤ t := by omega
      have ht2 : t ≤ 1152921504606846976 := by omega
      clear hx2 hll
      go_wp2
      go_round
      case rel => exact ⟨k + 1, by omega, by go_num, by rw [take_get HX.out, totalM_snoc, HT.out]⟩
      case measure => simp [intOf]; omega
    · have hle := h.lenEq
      have HL := Lib.hid hle
      clear hle
      go_wp2
      go_ret
      exact ⟨ret_int (by rw [List.take_of_length_le (by rw [HL.out]; omega)]), rfl⟩
theorem mul_box3 {a b A B : Int} (ha : 0 ≤ a) (ha' : a ≤ A) (hb : 0 ≤ b) (hb' : b ≤ B) : 0 ≤ a * b ∧ a * b ≤ A * B :=
  ⟨Int.mul_nonneg ha hb, Int.mul_le_mul ha' hb' hb (by omega)⟩
theorem ints_part {w : World} {S : Nat → Prop} {b off len : Nat} {xs : List Int} (h : IntsAt w S (some ⟨b, off, none⟩) len xs) (i k : Nat) (hi : i < k) (hk : k ≤ len) : IntsAt w S (some ⟨b, off + i, none⟩) (k - i) ((xs.drop i).take (k - i)) := by
  have hl := h.lenEq
  have hs := h.small
  obtain ⟨b', off', e, hS, hc⟩ := h.cells (by omega)
  cases e
  refine ⟨by simp; omega, by omega, fun _ => ⟨b, off + i, rfl, hS, fun j x hx => ?_⟩⟩
  rw [List.getElem?_take] at hx
  split at hx
  · rw [List.getElem?_drop] at hx
    rw [Nat.add_assoc]
    exact hc _ _ hx
  · cases hx
theorem days_mem {xs : List Int} (hx : ∀ k, 0 ≤ xs.getD k 0 ∧ xs.getD k 0 ≤ 20) : ∀ x ∈ xs, -1099511627776 ≤ x ∧ x ≤ 1099511627776 := by
  intro x hx'
  obtain ⟨k, hk, rfl⟩ := List.mem_iff_getElem.1 hx'
  have := hx k
  rw [List.getD_eq_getElem?_getD, List.getElem?_eq_getElem hk] at this
  simp at this
  omega
set_option maxRecDepth 100000 in
set_option maxHeartbeats 2000000 in
theorem run_any (S : Nat → Prop) (a : Option Addr) (len cap : Nat) (xs : List Int) (i k : Nat) (s h : Int) (w : World) (hx : IntsAt w S a len xs) (hcap : len ≤ cap) (hl : len ≤ 8) (hv : ∀ k, 0 ≤ xs.getD k 0 ∧ xs.getD k 0 ≤ 20) (hik : i < k) (hk : k ≤ len) (hs : 0 ≤ s ∧ s ≤ 31) (hh : 0 ≤ h ∧ h ≤ 31) :
    Calls Tryz.prog 58 #[.slice a len cap, .int .i64 i, .int .i64 k, .int .i64 s, .int .i64 h] w fun e w' => e = .returned (.int .i64 (runD xs s h i (k - i))) ∧ w = w' := by
  obtain ⟨hs0, hs1⟩ := hs
  obtain ⟨hh0, hh1⟩ := hh
  have HL := Lib.hid hx.lenEq
  have HV := Lib.hid hv
  obtain ⟨b, off, rfl, hS, hcell⟩ := hx.cells (by omega)
  have HX := Lib.hid hx
  clear hv hx
  go_enter Tryz.func58, Tryz.ntmps58
  go_wp2
  go_loop [11, 12] (fun n v => ∃ q : Nat, i ≤ q ∧ q ≤ k ∧ v = .int .i64 q ∧ n = .int .i64 (h * hsum xs i (q - i))) (fun _ q => k - (intOf q).toNat)
  case atStart => exact ⟨i, by omega, by omega, rfl, by simp [hsum]⟩
  case round =>
    obtain ⟨q, hq1, hq2, rfl, rfl⟩ := hrel
    by_cases hlt : q < k
    · obtain ⟨b', off', x, e, hxx, hc⟩ := HX.out.get (k := q) (by omega)
      cases e
      have hxb := HV.out q
      rw [getD_of hxx] at hxb
      have h1 := hsum_bd HV.out i (q - i) (by omega)
      have h2 := hsum_nonneg (fun k => (HV.out k).1) i (q - i)
      have HN := Lib.hid (show h * hsum xs i (q + 1 - i) = h * hsum xs i (q - i) + h * ((q : Int) - (i : Int)) * x by
        rw [show q + 1 - i = (q - i) + 1 by omega, hsum, show i + (q - i) = q by omega, getD_of hxx, show ((q - i : Nat) : Int) = (q : Int) - (i : Int) by omega, Int.mul_add, Int.mul_assoc])
      have h3 := mul_box3 hh0 hh1 h2 (show hsum xs i (q - i) ≤ 1280 by omega)
      have h4 := mul_box3 hh0 hh1 (show (0 : Int) ≤ (q : Int) - (i : Int) by omega) (show (q : Int) - (i : Int) ≤ 8 by omega)
      clear hxx h1 h2 hcell
      generalize h * hsum xs i (q - i) = o at h3 HN ⊢
      generalize hp : h * ((q : Int) - (i : Int)) = p at h4 HN
      have h5 := mul_box3 h4.1 h4.2 hxb.1 hxb.2
      have hlt2 : (q : Int) < (k : Int) := by omega
      have hlt3 : (q : Int) < (len : Int) := by omega
      have hlt4 : q < len := by omega
      go_wp2
      go_round
      case rel => exact ⟨q + 1, by omega, by omega, by go_num, by rw [HN.out]⟩
      case measure => simp [intOf]; omega
    · obtain rfl : q = k := by omega
      have hpart := ints_part HX.out i q hik hk
      have HS := Lib.hid (totalM_part xs i (q - i) (by rw [HL.out]; omega))
      have h1 := hsum_bd HV.out i (q - i) (by omega)
      have h2 := hsum_nonneg (fun k => (HV.out k).1) i (q - i)
      have h3 := mul_box3 hh0 hh1 h2 (show hsum xs i (q - i) ≤ 1280 by omega)
      have HR := Lib.hid (show runD xs s h i (q - i) = h * hsum xs i (q - i) + (if 0 < sumN xs (i + (q - i)) - sumN xs i then s else 0) from rfl)
      clear h1 h2 hcell
      generalize h * hsum xs i (q - i) = o at h3 HR ⊢
      have hne : ¬ cap = i := by omega
      have hiq : i ≤ q := by omega
      have hqc : q ≤ cap := by omega
      go_wp2_with fail
      refine (specSum_any S _ (q - i) (cap - i) _ w hpart (fun y hy => days_mem HV.out y (List.mem_of_mem_drop (List.mem_of_mem_take hy))) (by omega)).mono ?_
      rintro e w' ⟨rfl, rfl⟩
      rw [HS.out]
      generalize sumN xs (i + (q - i)) - sumN xs i = t at HR ⊢
      by_cases ht : 0 < t
      · rw [if_pos ht] at HR
        go_wp2
        go_ret
        exact ⟨ret_int HR.out.symm, rfl⟩
      · rw [if_neg ht, Int.add_zero] at HR
        go_wp2
        go_ret
        exact ⟨ret_int HR.out.symm, rfl⟩

-- LotCost
/-- of the days behind i, so many lots are tried: the least cost, -1 ahead of the first -/
def curM (xs : List Int) (s h : Int) (i : Nat) : Nat → Int
  | 0 => -1
  | m + 1 => minTo (fun d => runD xs s h i (d + 1) + bst xs s h (i + (d + 1))) m
def doneB (xs : List Int) (s h : Int) (m q : Nat) : Int := if m ≤ q then bst xs s h q else 0
def bestNow (xs : List Int) (s h : Int) (i : Nat) (c : Int) (q : Nat) : Int := if q = i then c else if i < q then bst xs s h q else 0
set_option maxRecDepth 100000 in
set_option maxHeartbeats 4000000 in
theorem bestFrom_spec (a : Option Addr) (len cap : Nat) (xs : List Int) (s h : Int) (w : World) (hx : IntsAt w (· < w.heap.size) a len xs) (hcap : len ≤ cap) (hv : validLotsM xs s h = true) :
    Calls Tryz.prog 41 #[.slice a len cap, .int .i64 s, .int .i64 h] w fun e w' => e = .returned (.slice (some ⟨w.heap.size, 0, none⟩) (len + 1) (len + 1)) ∧ OwnF w w' (len + 1) (bst xs s h) := by
  obtain ⟨hvd, hs', hh'⟩ := validLots_get hv
  have HL := Lib.hid hx.lenEq
  have hl8 : len ≤ 8 := by have := validDays_len hvd; have := HL.out; omega
  have HAT := Lib.hid (validDays_at hvd)
  have HBD := Lib.hid (fun i (hi : i ≤ xs.length) => bst_bd (s := s) (h := h) (validDays_len hvd) (validDays_at hvd) (by omega) (by omega) hi)
  have HEND := Lib.hid (bst_end xs s h)
  have hmk := fun w => run_make_row' (P := Tryz.prog) 35 3 (.int .i64 0) 8 Tryz.underlying35 Tryz.infoIntP rfl .i64 .i64 (len + 1) (by omega) (by omega) w
  have hpc : (((len + 1 : Nat) : Int)) = (len : Int) + 1 := by omega
  rw [hpc] at hmk
  clear hpc
  have hO0 := (OwnF.start w (len + 1) (by omega)).congr (g := doneB xs s h len) (fun q hq => by unfold doneB; split; rw [show q = xs.length by rw [HL.out]; omega, HEND.out]; rfl)
  have HO0 := Lib.hid hO0
  obtain ⟨hs0, hs1⟩ := hs'
  obtain ⟨hh0, hh1⟩ := hh'
  clear hO0 hv hvd
  go_enter Tryz.func41, Tryz.ntmps41
  go_wp2
  clear hmk
  go_loopw [9] (fun i wr => ∃ v : Int, -1 ≤ v ∧ v < len ∧ i = .int .i64 v ∧ OwnF w wr (len + 1) (doneB xs s h (v + 1).toNat)) (fun i _ => (intOf i + 1).toNat)
  case atStart => exact ⟨(len : Int) - 1, by omega, by omega, rfl, by rw [show ((len : Int) - 1 + 1).toNat = len by omega]; exact HO0.out⟩
  case round =>
    obtain ⟨v, hv1, hv2, rfl, hC⟩ := hrel
    clear HO0
    obtain ⟨wo, rfl⟩ : ∃ wo : World, wo = wr := ⟨_, rfl⟩
    by_cases h0v : 0 ≤ v
    · obtain ⟨i, rfl⟩ : ∃ i : Nat, v = (i : Int) := ⟨v.toNat, by omega⟩
      rw [show ((i : Int) + 1).toNat = i + 1 by omega] at hC
      have hil : i < len := by omega
      obtain ⟨e1, f1⟩ := hC.cell (q := i) (by omega)
      have HC1 := Lib.hid ((hC.put i (-1)).congr (g := bestNow xs s h i (curM xs s h i 0)) (fun q _ => by unfold bestNow doneB curM; by_cases e : q = i; rw [if_pos e, if_pos e]; rw [if_neg e, if_neg e]; (repeat' split) <;> first | rfl | omega))
      have hil2 : (i : Int) < (len : Int) + 1 := by omega
      have hil3 : i < len + 1 := by omega
      clear hC
      go_wp2
      go_loopw [10] (fun k wr => ∃ m : Nat, i + m ≤ len ∧ k = .int .i64 ((i + 1 + m : Nat) : Int) ∧ OwnF w wr (len + 1) (bestNow xs s h i (curM xs s h i m))) (fun k _ => len + 1 - (intOf k).toNat)
      case atStart => exact ⟨0, by omega, by go_num, HC1.out⟩
      case round =>
        clear HC1
        obtain ⟨m, hm, rfl, hC⟩ := hrel
        obtain ⟨wi, rfl⟩ : ∃ wi : World, wi = wr := ⟨_, rfl⟩
        by_cases hml : i + 1 + m ≤ len
        · obtain ⟨kk, hkk⟩ : ∃ kk, kk = i + 1 + m := ⟨_, rfl⟩
          rw [← hkk] at hml ⊢
          obtain ⟨e1, f1⟩ := hC.cell (q := i) (by omega)
          obtain ⟨e2, f2⟩ := hC.cell (q := kk) (by omega)
          have v1 : bestNow xs s h i (curM xs s h i m) i = curM xs s h i m := by unfold bestNow; rw [if_pos rfl]
          have v2 : bestNow xs s h i (curM xs s h i m) kk = bst xs s h kk := by unfold bestNow; rw [if_neg (by omega), if_pos (by omega)]
          rw [v1] at e1
          rw [v2] at e2
          have hxw := hx.below hC.below
          have hrb := runD_bd HAT.out (s := s) (h := h) (by omega) (by omega) i (kk - i) (by omega)
          have hbb := HBD.out kk (by rw [HL.out]; omega)
          have HC := Lib.hid hC
          have HKK := Lib.hid hkk
          have HRUN := Lib.hid (show ∀ z, Calls Tryz.prog 58 #[.slice a len cap, .int .i64 i, .int .i64 kk, .int .i64 s, .int .i64 h] (wi.drewN z) (fun e w' => e = .returned (.int .i64 (runD xs s h i (kk - i))) ∧ ∃ q, w' = (wi.drewN z).drewN q) from fun z =>
            (run_any _ a len cap xs i kk s h (wi.drewN z) (Drew.ints hxw ⟨z, rfl⟩) hcap hl8 HAT.out (by omega) hml (by omega) (by omega)).mono (fun e w' he => ⟨he.1, 0, by rw [← he.2]; rfl⟩))
          have HG := Lib.hid (show curM xs s h i (m + 1) = if m = 0 then runD xs s h i (kk - i) + bst xs s h kk else min (curM xs s h i m) (runD xs s h i (kk - i) + bst xs s h kk) by
            rw [hkk, show i + 1 + m - i = m + 1 by omega]
            cases m with
            | zero => rfl
            | succ m => rw [if_neg (by omega), curM, minTo, curM, show i + 1 + (m + 1) = i + (m + 1 + 1) by omega])
          have hcb : m = 0 ∧ curM xs s h i m = -1 ∨ 0 < m ∧ 0 ≤ curM xs s h i m ∧ curM xs s h i m ≤ 1000000 := by
            cases m with
            | zero => exact Or.inl ⟨rfl, rfl⟩
            | succ m =>
              right
              obtain ⟨d, hd, e⟩ := minTo_at (fun d => runD xs s h i (d + 1) + bst xs s h (i + (d + 1))) m
              have := runD_bd HAT.out (s := s) (h := h) (by omega) (by omega) i (d + 1) (by omega)
              have := HBD.out (i + (d + 1)) (by rw [HL.out]; omega)
              rw [curM, e]; omega
          clear hC hkk v1 v2 hxw
          generalize runD xs s h i (kk - i) = r at hrb HRUN HG
          generalize bst xs s h kk = bk at hbb e2 HG
          generalize curM xs s h i m = cu at e1 hcb HG HC ⊢
          have hkl : (kk : Int) < (len : Int) + 1 := by omega
          have hkl3 : (kk : Int) ≤ (len : Int) := by omega
          have hkl2 : kk < len + 1 := by omega
          have hw1 : IntKind.i64.wrap (r + bk) = r + bk := IntWalk.i64_in _ (by omega)
          go_wp2_with fail
          go_quiet ((go_at_call 58; exact Calls.quiet_of (HRUN.out _)))
          clear hw1
          have HCD := Lib.hid (HC.out.drew nq)
          have e1' : (wi.drewN nq).cell? ⟨w.heap.size, i, none⟩ = some (.int .i64 cu) := e1
          have f1' : (wi.drewN nq).frozen? ⟨w.heap.size, i, none⟩ = false := f1
          clear e1 f1 e2 f2 HC
          generalize wi.drewN nq = wd at *
          have hrel : ∀ c', curM xs s h i (m + 1) = c' → ∀ q, q < len + 1 → (if q = i then c' else bestNow xs s h i cu q) = bestNow xs s h i (curM xs s h i (m + 1)) q := fun c' e q _ => by
            unfold bestNow; rw [e]; by_cases e' : q = i; rw [if_pos e', if_pos e']; rw [if_neg e', if_neg e', if_neg e']
          have HREL := Lib.hid hrel
          clear hrel
          rcases hcb with ⟨hm0, hcu⟩ | ⟨hm0, hcu0, hcu1⟩
          · have HG0 := Lib.hid (HG.out.trans (if_pos hm0))
            have HCU := Lib.hid hcu
            subst hcu
            clear hm0
            go_wp2
            go_roundw
            case rel => exact ⟨m + 1, by have := HKK.out; omega, by have := HKK.out; subst this; go_num, (HCD.out.put i _).congr (fun q hq => HREL.out _ HG0.out q hq)⟩
            case measure => simp [intOf]; omega
          · have HG0 := Lib.hid (HG.out.trans (if_neg (by omega)))
            by_cases hlt : r + bk < cu
            · have HG1 := Lib.hid (HG0.out.trans (by omega : min cu (r + bk) = r + bk))
              go_wp2
              go_roundw
              case rel => exact ⟨m + 1, by have := HKK.out; omega, by have := HKK.out; subst this; go_num, (HCD.out.put i _).congr (fun q hq => HREL.out _ HG1.out q hq)⟩
              case measure => simp [intOf]; omega
            · have HG1 := Lib.hid (HG0.out.trans (by omega : min cu (r + bk) = cu))
              go_wp2
              go_roundw
              case rel => exact ⟨m + 1, by have := HKK.out; omega, by have := HKK.out; subst this; go_num, by rw [HG1.out]; exact HCD.out⟩
              case measure => simp [intOf]; omega
        · have hmz : m = len - i := by omega
          have HC := Lib.hid (hC.congr (g := doneB xs s h i) (fun q _ => by
            have e : curM xs s h i m = bst xs s h i := by
              rw [bst_rec (by rw [HL.out]; exact hil), HL.out, show m = len - 1 - i + 1 by omega]; rfl
            unfold bestNow doneB
            rw [e]
            by_cases e1 : q = i
            · subst e1; rw [if_pos rfl, if_pos (by omega)]
            · rw [if_neg e1]; by_cases e2 : i < q
              · rw [if_pos e2, if_pos (by omega)]
              · rw [if_neg e2, if_neg (by omega)]))
          have hkl : (len : Int) < ((i + 1 + m : Nat) : Int) := by omega
          clear hC hmz
          generalize i + 1 + m = kk at *
          go_wp2
          go_roundw
          case rel => exact ⟨(i : Int) - 1, by omega, by omega, rfl, by rw [show ((i : Int) - 1 + 1).toNat = i by omega]; exact HC.out⟩
          case measure => simp [intOf] <;> omega
    · obtain rfl : v = -1 := by omega
      have HC := Lib.hid (hC.congr (g := bst xs s h) (fun q _ => by unfold doneB; rw [if_pos (by omega)]))
      clear hC
      go_wp2
      go_ret
      exact ⟨rfl, HC.out⟩
def leastRes (xs : List Int) (s h : Int) : Int := if validLotsM xs s h then bst xs s h 0 else -1
theorem leastRes_no {xs : List Int} {s h : Int} (e : validLotsM xs s h = false) : leastRes xs s h = -1 := by unfold leastRes; rw [e]; rfl
theorem leastRes_yes {xs : List Int} {s h : Int} (e : validLotsM xs s h = true) : leastRes xs s h = bst xs s h 0 := by unfold leastRes; rw [e]; rfl
def IntVal (w : World) (n : Int) (e : Ending) (w' : World) : Prop := e = .returned (.int .i64 n) ∧ Below w.heap.size w w'
end Go.Proofs.YtjcbpnffmebihaaGreatDoor
namespace Go.Proofs.YtjcbpnffmebihaaGreatDoor

/-- the first day of the lot of day q, when the lot of day i ends ahead of day nx i -/
def owner (nx : Nat → Nat) : Nat → Nat
  | 0 => 0
  | q + 1 => if nx (owner nx q) = q + 1 then q + 1 else owner nx q
def Nexts (nx : Nat → Nat) (n : Nat) : Prop := ∀ i, i < n → i < nx i ∧ nx i ≤ n
/-- within a lot -/
theorem owner_run {nx : Nat → Nat} {i : Nat} (hi : owner nx i = i) : ∀ d, i + d < nx i → owner nx (i + d) = i := by
  intro d
  induction d with
  | zero => intro _; exact hi
  | succ d ih =>
    intro h
    rw [← Nat.add_assoc, owner, ih (by omega), if_neg (by omega)]
/-- the next lot begins -/
theorem owner_next {nx : Nat → Nat} {i : Nat} (hi : owner nx i = i) (h : i < nx i) : owner nx (nx i) = nx i := by
  obtain ⟨d, hd⟩ : ∃ d, nx i = i + d + 1 := ⟨nx i - i - 1, by omega⟩
  rw [hd, owner, owner_run hi d (by omega), if_pos hd]
/-- what is made on day q -/
def madeAt (nx : Nat → Nat) (xs : List Int) (q : Nat) : Int := if owner nx q = q then sumN xs (nx q) - sumN xs q else 0
def madeM (nx : Nat → Nat) (xs : List Int) : List Int := tab (madeAt nx xs) xs.length
theorem madeM_length (nx : Nat → Nat) (xs : List Int) : (madeM nx xs).length = xs.length := tab_length _ _
theorem madeAt_bd {nx : Nat → Nat} {xs : List Int} {B : Int} (hx : ∀ k, 0 ≤ xs.getD k 0 ∧ xs.getD k 0 ≤ B) (h : Nexts nx xs.length) {q : Nat} (hq : q < xs.length) : 0 ≤ madeAt nx xs q ∧ madeAt nx xs q ≤ B * xs.length := by
  have h1 := h q hq
  have h2 := sumN_le (fun k => (hx k).1) (show q ≤ nx q by omega)
  have h3 := sumN_bd hx (nx q)
  have h4 := sumN_bd hx q
  have hB : 0 ≤ B := by have := hx 0; omega
  have h5 : B * ((nx q : Nat) : Int) ≤ B * xs.length := Int.mul_le_mul_of_nonneg_left (by omega) hB
  unfold madeAt; split <;> omega
end Go.Proofs.YtjcbpnffmebihaaGreatDoor
namespace Go.Proofs.YtjcbpnffmebihaaGreatDoor
open Go.RowKit Go.WideShapes

/-- the last one up to k of which P holds -/
def lastFrom (P : Nat → Bool) : Nat → Nat
  | 0 => 0
  | k + 1 => if P (k + 1) then k + 1 else lastFrom P k
theorem lastFrom_spec {P : Nat → Bool} {n k : Nat} (hk : 0 < k) (hkn : k ≤ n) (hP : P k = true) : P (lastFrom P n) = true ∧ k ≤ lastFrom P n ∧ lastFrom P n ≤ n ∧ ∀ j, lastFrom P n < j → j ≤ n → P j = false := by
  induction n with
  | zero => omega
  | succ n ih =>
    cases e : P (n + 1)
    · have hne : k ≠ n + 1 := fun h => by rw [h, e] at hP; cases hP
      obtain ⟨h1, h2, h3, h4⟩ := ih (by omega)
      rw [lastFrom, e]
      refine ⟨h1, h2, by simp only [Bool.false_eq_true, if_false]; omega, fun j hj1 hj2 => ?_⟩
      by_cases e2 : j = n + 1
      · subst e2; exact e
      · exact h4 j hj1 (by omega)
    · rw [lastFrom, e]
      exact ⟨e, hkn, Nat.le_refl _, fun j h1 h2 => by simp only [if_true] at h1; omega⟩
/-- the days behind a lot of the best lots -/
def nxB (xs : List Int) (s h : Int) (i : Nat) : Nat := lastFrom (fun k => decide (i < k) && decide (runD xs s h i (k - i) + bst xs s h k = bst xs s h i)) xs.length
theorem nxB_spec {xs : List Int} {s h : Int} {i : Nat} (hi : i < xs.length) : (i < nxB xs s h i ∧ nxB xs s h i ≤ xs.length) ∧ runD xs s h i (nxB xs s h i - i) + bst xs s h (nxB xs s h i) = bst xs s h i ∧
    ∀ j, nxB xs s h i < j → j ≤ xs.length → runD xs s h i (j - i) + bst xs s h j ≠ bst xs s h i := by
  obtain ⟨d, hd, e⟩ := minTo_at (fun d => runD xs s h i (d + 1) + bst xs s h (i + (d + 1))) (xs.length - 1 - i)
  have hk : (fun k => decide (i < k) && decide (runD xs s h i (k - i) + bst xs s h k = bst xs s h i)) (i + (d + 1)) = true := by
    rw [Bool.and_eq_true]
    exact ⟨decide_eq_true (by omega), decide_eq_true (by rw [bst_rec hi, e, show i + (d + 1) - i = d + 1 by omega])⟩
  obtain ⟨h1, h2, h3, h4⟩ := lastFrom_spec (P := fun k => decide (i < k) && decide (runD xs s h i (k - i) + bst xs s h k = bst xs s h i)) (n := xs.length) (k := i + (d + 1)) (by omega) (by omega) hk
  simp only [Bool.and_eq_true, decide_eq_true_eq] at h1
  refine ⟨⟨by have := h1.1; exact this, h3⟩, h1.2, fun j hj1 hj2 => ?_⟩
  have := h4 j hj1 hj2
  simp only [Bool.and_eq_false_iff, decide_eq_false_iff_not] at this
  rcases this with h | h
  · have := h1.1; exact absurd (show i < j by unfold nxB at hj1; omega) h
  · exact h
theorem nxB_nexts (xs : List Int) (s h : Int) : Nexts (nxB xs s h) xs.length := fun i hi => (nxB_spec hi).1
def bestLotsM (xs : List Int) (s h : Int) : List Int := madeM (nxB xs s h) xs
/-- what is made on the days ahead of i -/
def madeTo (nx : Nat → Nat) (xs : List Int) (i q : Nat) : Int := if q < i then madeAt nx xs q else 0
theorem madeTo_next {nx : Nat → Nat} {xs : List Int} {i : Nat} (hn : Nexts nx xs.length) (hi : i < xs.length) (ho : owner nx i = i) (q : Nat) : (if q = i then sumN xs (nx i) - sumN xs i else madeTo nx xs i q) = madeTo nx xs (nx i) q := by
  have h1 := hn i hi
  unfold madeTo
  by_cases e : q = i
  · subst e; rw [if_pos rfl, if_pos h1.1, madeAt, if_pos ho]
  · rw [if_neg e]
    by_cases h2 : q < i
    · rw [if_pos h2, if_pos (by omega)]
    · rw [if_neg h2]
      by_cases h3 : q < nx i
      · obtain ⟨d, rfl⟩ : ∃ d, q = i + d := ⟨q - i, by omega⟩
        have := owner_run ho d h3
        rw [if_pos h3, madeAt, this, if_neg (by omega)]
      · rw [if_neg h3]
theorem made_part {xs : List Int} {i k : Nat} (hik : i ≤ k) (hk : k ≤ xs.length) : totalM ((xs.drop i).take (k - i)) = sumN xs k - sumN xs i := by
  rw [totalM_part xs i (k - i) (by omega), show i + (k - i) = k by omega]

set_option maxRecDepth 100000 in
set_option maxHeartbeats 4000000 in
theorem plan_spec (a : Option Addr) (len cap : Nat) (xs : List Int) (s h : Int) (w : World) (hx : IntsAt w (· < w.heap.size) a len xs) (hcap : len ≤ cap) (hv : validLotsM xs s h = true) :
    Calls Tryz.prog 40 #[.slice a len cap, .int .i64 s, .int .i64 h] w (NewInts w (bestLotsM xs s h)) := by
  obtain ⟨hvd, hs', hh'⟩ := validLots_get hv
  have HL := Lib.hid hx.lenEq
  have hl8 : len ≤ 8 := by have := validDays_len hvd; have := HL.out; omega
  have HAT := Lib.hid (validDays_at hvd)
  have HBD := Lib.hid (fun i (hi : i ≤ xs.length) => bst_bd (s := s) (h := h) (validDays_len hvd) (validDays_at hvd) (by omega) (by omega) hi)
  have hmk := fun w => run_make_row' (P := Tryz.prog) 35 3 (.int .i64 0) 8 Tryz.underlying35 Tryz.infoIntP rfl .i64 .i64 len (by omega) (by omega) w
  have HO0 := Lib.hid ((OwnF.start w len (by omega)).congr (g := madeTo (nxB xs s h) xs 0) (fun q _ => by unfold madeTo; rw [if_neg (by omega)]))
  have hs1 : (w.alloc (.cells (madeCells #[.int .i64 0] len) 3)).heap.size = w.heap.size + 1 := by simp
  go_enter Tryz.func40, Tryz.ntmps40
  go_wp2_with fail
  clear hmk
  obtain ⟨W1, hW1⟩ : ∃ W1, (w.alloc (.cells (madeCells #[.int .i64 0] len) 3)) = W1 := ⟨_, rfl⟩
  rw [hW1] at HO0 hs1 ⊢
  clear hW1
  have hsz := hs1
  have HS1 := Lib.hid hs1
  clear hs1
  refine (bestFrom_spec a len cap xs s h W1 ((hx.below HO0.out.below).to (fun b hb => ⟨by omega, rfl⟩)) hcap hv).mono ?_
  rintro e W2 ⟨rfl, hbest⟩
  have HB2 := Lib.hid (HO0.out.below.trans (hbest.below.mono HO0.out.below.size))
  have HO2 := Lib.hid (show OwnF w W2 len (madeTo (nxB xs s h) xs 0) from ⟨HO0.out.own.kept (row := none) ⟨hbest.below.os, hbest.below.tape, hbest.below.output, hbest.below.size, fun b hb _ => hbest.below.block b hb⟩ (.inr (by simp [Value.ownBlock])), HB2.out⟩)
  have hb2 : ∀ q, q ≤ len → W2.cell? ⟨w.heap.size + 1, q, none⟩ = some (.int .i64 (bst xs s h q)) := fun q hq => by
    rw [← HS1.out]; exact (hbest.cell (q := q) (by omega)).1
  have HBC := Lib.hid hb2
  rw [HS1.out]
  clear hb2 hbest hvd hsz
  go_wp2_with fail
  go_loopw [9] (fun i wr => ∃ v : Nat, v ≤ len ∧ (v < len → owner (nxB xs s h) v = v) ∧ i = .int .i64 v ∧ OwnF w wr len (madeTo (nxB xs s h) xs v) ∧ (∀ q, q ≤ len → wr.cell? ⟨w.heap.size + 1, q, none⟩ = some (.int .i64 (bst xs s h q)))) (fun i _ => len - (intOf i).toNat)
  case atStart => exact ⟨0, Nat.zero_le _, fun _ => rfl, rfl, HO2.out, HBC.out⟩
  case round =>
    clear HO2 HBC
    obtain ⟨i, hi, ho, rfl, hC, hbc⟩ := hrel
    obtain ⟨wo, rfl⟩ : ∃ wo : World, wo = wr := ⟨_, rfl⟩
    have HC := Lib.hid hC
    have HBC := Lib.hid hbc
    clear hC hbc
    by_cases hil : i < len
    · have HOW := Lib.hid (ho hil)
      have hilx : i < xs.length := by rw [HL.out]; exact hil
      obtain ⟨⟨hn1, hn2⟩, hn3, hn4⟩ := nxB_spec (xs := xs) (s := s) (h := h) hilx
      have HNX := Lib.hid (madeTo_next (nxB_nexts xs s h) hilx (ho hil))
      have HNO := Lib.hid (fun hlt => owner_next (ho hil) hn1 : nxB xs s h i < len → _)
      rw [HL.out] at hn2 hn4
      have HN3 := Lib.hid hn3
      have HN4 := Lib.hid hn4
      have HNP := Lib.hid (made_part (xs := xs) (i := i) (k := nxB xs s h i) (by omega) (by rw [HL.out]; exact hn2))
      clear hn3 hn4 ho
      generalize nxB xs s h i = nx at *
      go_wp2_with fail
      go_loopw [10] (fun k wr => ∃ q : Nat, nx ≤ q ∧ q ≤ len ∧ k = .int .i64 q ∧ Drew wo wr) (fun k _ => (intOf k).toNat)
      case atStart => exact ⟨len, hn2, Nat.le_refl _, rfl, Drew.refl _⟩
      case round =>
        obtain ⟨q, hq1, hq2, rfl, hdw⟩ := hrel
        have hxw := Drew.ints (hx.below HC.out.below) hdw
        have hc1 : wr.cell? ⟨w.heap.size + 1, q, none⟩ = some (.int .i64 (bst xs s h q)) := by obtain ⟨z, rfl⟩ := hdw; exact HBC.out q hq2
        have hc2 : wr.cell? ⟨w.heap.size + 1, i, none⟩ = some (.int .i64 (bst xs s h i)) := by obtain ⟨z, rfl⟩ := hdw; exact HBC.out i (by omega)
        have hrb := runD_bd HAT.out (s := s) (h := h) (by omega) (by omega) i (q - i) (by omega)
        have hbb := HBD.out q (by rw [HL.out]; omega)
        have HRUN := Lib.hid (show ∀ z, Calls Tryz.prog 58 #[.slice a len cap, .int .i64 i, .int .i64 q, .int .i64 s, .int .i64 h] (wr.drewN z) (fun e w' => e = .returned (.int .i64 (runD xs s h i (q - i))) ∧ ∃ q, w' = (wr.drewN z).drewN q) from fun z =>
          (run_any _ a len cap xs i q s h (wr.drewN z) (Drew.ints hxw ⟨z, rfl⟩) hcap hl8 HAT.out (by omega) hq2 (by omega) (by omega)).mono (fun e w' he => ⟨he.1, 0, by rw [← he.2]; rfl⟩))
        have HEQ := Lib.hid (fun (e : q = nx) => by rw [e]; exact HN3.out : q = nx → runD xs s h i (q - i) + bst xs s h q = bst xs s h i)
        have HNE := Lib.hid (fun (e : nx < q) => HN4.out q e hq2 : nx < q → runD xs s h i (q - i) + bst xs s h q ≠ bst xs s h i)
        clear hxw
        generalize runD xs s h i (q - i) = r at hrb HRUN HEQ HNE
        generalize bst xs s h q = bq at hbb hc1 HEQ HNE
        generalize bst xs s h i = bi at hc2 HEQ HNE
        have hw1 : IntKind.i64.wrap (r + bq) = r + bq := IntWalk.i64_in _ (by omega)
        have hq3 : (q : Int) < (len : Int) + 1 := by omega
        have hq4 : q < len + 1 := by omega
        have hi3 : (i : Int) < (len : Int) + 1 := by omega
        have hi4 : i < len + 1 := by omega
        by_cases hqn : nx < q
        · have hne : (r + bq != bi) = true := by simpa using HNE.out hqn
          go_wp2_with fail
          go_quiet ((go_at_call 58; exact Calls.quiet_of (HRUN.out _)))
          clear hw1
          go_wp2_with fail
          go_roundw
          case rel => exact ⟨q - 1, by omega, by omega, by congr 1; omega, hdw.drew _⟩
          case measure => simp [intOf] <;> omega
        · have hqe : q = nx := by omega
          have hne : (r + bq != bi) = false := by simpa using HEQ.out hqe
          have HQE := Lib.hid hqe
          clear hqe
          go_wp2_with fail
          go_quiet ((go_at_call 58; exact Calls.quiet_of (HRUN.out _)))
          clear hw1 hc1 hc2
          have HDW := Lib.hid (hdw.drew nq)
          generalize wr.drewN nq = wd at *
          have HCD := Lib.hid (show OwnF w wd len (madeTo (nxB xs s h) xs i) by obtain ⟨z, rfl⟩ := HDW.out; exact HC.out.drew z)
          have hxd := hx.below HCD.out.below
          obtain ⟨bb, oo, hae, _, _⟩ := hxd.cells (by omega)
          have HXD := Lib.hid hxd
          subst hae
          have hpart := ints_part HXD.out i q (by omega) hq2
          have hne2 : ¬ cap = i := by omega
          have hiq : i ≤ q := by omega
          have hqc : q ≤ cap := by omega
          obtain ⟨e1, f1⟩ := HCD.out.cell hil
          have hil3 : (i : Int) < (len : Int) := by omega
          have HNP2 := Lib.hid (show totalM ((xs.drop i).take (q - i)) = sumN xs nx - sumN xs i by rw [HQE.out]; exact HNP.out)
          clear hxd
          go_wp2_with fail
          refine (specSum_any _ _ (q - i) (cap - i) _ wd hpart (fun y hy => days_mem HAT.out y (List.mem_of_mem_drop (List.mem_of_mem_take hy))) (by omega)).mono ?_
          rintro e w' ⟨rfl, rfl⟩
          rw [HNP2.out]
          go_wp2_with fail
          go_roundw
          case rel => exact ⟨q, hq2, fun hlt => by rw [HQE.out] at hlt ⊢; exact HNO.out hlt, rfl, by rw [HQE.out]; exact (HCD.out.put i _).congr (fun z _ => HNX.out z), fun z hz => by
            rw [World.cell?_setCell_other _ _ _ _ (by intro e; injection e; omega)]
            obtain ⟨y, hy⟩ := HDW.out
            rw [hy]; exact HBC.out z hz⟩
          case measure => simp [intOf] <;> omega
    · obtain rfl : i = len := by omega
      have e : bestLotsM xs s h = tab (madeTo (nxB xs s h) xs i) i := by
        unfold bestLotsM madeM
        rw [HL.out]
        exact tab_congr (fun q hq => by unfold madeTo; rw [if_pos hq])
      have HE := Lib.hid e
      clear e
      go_wp2_with fail
      go_ret
      rw [HE.out]
      exact (HC.out.done (by omega)).ints
def bestRes (xs : List Int) (s h : Int) : List Int := if validLotsM xs s h then bestLotsM xs s h else []
theorem bestRes_no {xs : List Int} {s h : Int} (e : validLotsM xs s h = false) : bestRes xs s h = [] := by unfold bestRes; rw [e]; rfl
theorem bestRes_yes {xs : List Int} {s h : Int} (e : validLotsM xs s h = true) : bestRes xs s h = bestLotsM xs s h := by unfold bestRes; rw [e]; rfl
end Go.Proofs.YtjcbpnffmebihaaGreatDoor
namespace Go.Proofs.YtjcbpnffmebihaaGreatDoor

-- chapter 11, plain: cuts on rolls; first fit, and first fit by falling lengths
def wsum (f : Nat → Int) (P : Nat → Bool) : Nat → Int
  | 0 => 0
  | k + 1 => wsum f P k + if P k then f k else 0
def card (P : Nat → Bool) : Nat → Nat
  | 0 => 0
  | k + 1 => card P k + if P k then 1 else 0
def bsumN (f : Nat → Nat) : Nat → Nat
  | 0 => 0
  | k + 1 => bsumN f k + f k
theorem csum_w (T : List Int) (P : Nat → Bool) : ∀ n, csum T P n = wsum (fun i => T.getD i 0) P n
  | 0 => rfl
  | n + 1 => by rw [csum, wsum, csum_w T P n]
theorem wsum_congr {f g : Nat → Int} {P Q : Nat → Bool} : ∀ n, (∀ i, i < n → P i = Q i) → (∀ i, i < n → P i = true → f i = g i) → wsum f P n = wsum g Q n
  | 0, _, _ => rfl
  | n + 1, h, h2 => by
    rw [wsum, wsum, wsum_congr n (fun i hi => h i (by omega)) (fun i hi => h2 i (by omega)), ← h n (by omega)]
    cases e : P n
    · rfl
    · rw [h2 n (by omega) e]
theorem wsum_none {f : Nat → Int} {P : Nat → Bool} : ∀ n, (∀ i, i < n → P i = false) → wsum f P n = 0
  | 0, _ => rfl
  | n + 1, h => by rw [wsum, wsum_none n (fun i hi => h i (by omega)), h n (by omega)]; rfl
theorem wsum_mono {f : Nat → Int} {P Q : Nat → Bool} : ∀ n, (∀ i, i < n → 0 ≤ f i) → (∀ i, i < n → P i = true → Q i = true) → wsum f P n ≤ wsum f Q n
  | 0, _, _ => Int.le_refl _
  | n + 1, h0, h => by
    have ih := wsum_mono n (fun i hi => h0 i (by omega)) (fun i hi => h i (by omega))
    have h1 := h0 n (by omega)
    have h2 := h n (by omega)
    rw [wsum, wsum]
    cases e : P n
    · cases Q n <;> simp <;> omega
    · rw [h2 e]; simp; omega
theorem wsum_nn {f : Nat → Int} {P : Nat → Bool} (n : Nat) (h : ∀ i, i < n → 0 ≤ f i) : 0 ≤ wsum f P n := by
  have := wsum_mono (P := fun _ => false) (Q := P) n h (fun i _ e => by cases e)
  rwa [wsum_none n (fun _ _ => rfl)] at this
theorem wsum_only {f : Nat → Int} {P : Nat → Bool} {a : Nat} : ∀ n, a < n → P a = true → (∀ i, i < n → P i = true → i = a) → wsum f P n = f a
  | 0, h, _, _ => by omega
  | n + 1, h, ha, hu => by
    rw [wsum]
    by_cases e : a = n
    · subst e
      rw [wsum_none a (fun i hi => by
        cases e : P i
        · rfl
        · have := hu i (by omega) e; omega), ha]
      simp
    · rw [wsum_only n (by omega) ha (fun i hi => hu i (by omega))]
      cases e2 : P n
      · simp
      · have := hu n (by omega) e2; omega
theorem wsum_split {f : Nat → Int} {P : Nat → Bool} {q : Nat → Nat} (m : Nat) : ∀ n, wsum f (fun i => P i && decide (q i < m + 1)) n = wsum f (fun i => P i && decide (q i < m)) n + wsum f (fun i => P i && q i == m) n
  | 0 => rfl
  | n + 1 => by
    rw [wsum, wsum, wsum, wsum_split m n]
    cases P n
    · simp
    · by_cases h1 : q n < m
      · rw [show decide (q n < m + 1) = true by simp; omega, show decide (q n < m) = true by simp [h1], show (q n == m) = false by simp; omega]; simp; omega
      · by_cases h2 : q n = m
        · rw [show decide (q n < m + 1) = true by simp; omega, show decide (q n < m) = false by simp; omega, show (q n == m) = true by simp [h2]]; simp; omega
        · rw [show decide (q n < m + 1) = false by simp; omega, show decide (q n < m) = false by simp; omega, show (q n == m) = false by simp [h2]]; simp
theorem card_w (P : Nat → Bool) : ∀ n, (card P n : Int) = wsum (fun _ => 1) P n
  | 0 => rfl
  | n + 1 => by rw [card, wsum, ← card_w P n]; cases P n <;> simp
theorem card_split {P : Nat → Bool} {p : Nat → Nat} {n : Nat} : ∀ v : Nat, card (fun i => P i && decide (p i < v)) n = bsumN (fun b => card (fun i => P i && p i == b) n) v
  | 0 => by
    have := card_w (fun i => P i && decide (p i < 0)) n
    rw [wsum_none n (fun i _ => by simp)] at this
    rw [bsumN]; omega
  | v + 1 => by
    have h := wsum_split (f := fun _ => 1) (P := P) (q := p) v n
    rw [← card_w, ← card_w, ← card_w] at h
    rw [bsumN, ← card_split v]; omega
theorem card_bins {P : Nat → Bool} {p : Nat → Nat} {n v : Nat} (hp : ∀ i, i < n → P i = true → p i < v) : card P n = bsumN (fun b => card (fun i => P i && p i == b) n) v := by
  rw [← card_split]
  have h := wsum_congr (f := fun _ => 1) (g := fun _ => 1) (P := P) (Q := fun i => P i && decide (p i < v)) n (fun i hi => by
    cases e : P i
    · rfl
    · simp [hp i hi e]) (fun _ _ _ => rfl)
  rw [← card_w, ← card_w] at h
  omega
end Go.Proofs.YtjcbpnffmebihaaGreatDoor
namespace Go.Proofs.YtjcbpnffmebihaaGreatDoor

-- chapter 11, plain: first fit in any order, and what no plan goes below
theorem card_all (n : Nat) : card (fun _ => true) n = n := by
  induction n with
  | zero => rfl
  | succ n ih => rw [card, ih]; simp
end Go.Proofs.YtjcbpnffmebihaaGreatDoor
namespace Go.Proofs.YtjcbpnffmebihaaGreatDoor

-- chapter 11, plain: the fewest rolls (the fewest places of tasks that need not wait)
def zerosN (n : Nat) : List Nat := List.replicate n 0
theorem zeros_bit (n i k : Nat) : ((zerosN n).getD i 0).testBit k = false := by
  have : (zerosN n).getD i 0 = 0 := by
    unfold zerosN
    rw [List.getD_eq_getElem?_getD, List.getElem?_replicate]
    split <;> rfl
  rw [this]; simp
def fewRl (xs : List Int) (R : Int) : Int := fewM xs (zerosN xs.length) R
def lenT (xs : List Int) (i : Nat) : Int := xs.getD i 0
def cutsM (xs : List Int) (R : Int) : Bool := allIn 1 R xs && (inB 1 20 R && decide (xs.length ≤ 7))
theorem cuts_get {xs : List Int} {R : Int} (h : cutsM xs R = true) : 1 ≤ R ∧ R ≤ 20 ∧ xs.length ≤ 7 ∧ ∀ i, i < xs.length → 1 ≤ lenT xs i ∧ lenT xs i ≤ R := by
  unfold cutsM inB at h
  simp only [Bool.and_eq_true, decide_eq_true_eq] at h
  exact ⟨h.2.1.1, h.2.1.2, h.2.2, fun i hi => allIn_get h.1 (get_getD hi)⟩
theorem few_min {xs : List Int} {R : Int} {m : Nat} {q : Nat → Nat} (hq : ∀ i, i < xs.length → q i < m) (hql : ∀ j, wsum (lenT xs) (fun i => q i == j) xs.length ≤ R) : 0 ≤ fewRl xs R ∧ fewRl xs R ≤ m :=
  few_le (by simp [zerosN]) (fun i k h => by rw [zeros_bit] at h; cases h) ⟨hq, fun i hi k h => (by rw [zeros_bit] at h; cases h), fun j => by rw [csum_w]; exact hql j⟩
theorem few_each {xs : List Int} {R : Int} (hR : 0 ≤ R) (h : ∀ i, i < xs.length → lenT xs i ≤ R) : 0 ≤ fewRl xs R ∧ fewRl xs R ≤ xs.length :=
  few_nn (by simp [zerosN]) (fun i k h => by rw [zeros_bit] at h; cases h) hR h
theorem few_plan {xs : List Int} {R : Int} (hR : 0 ≤ R) (h : ∀ i, i < xs.length → lenT xs i ≤ R) : ∃ (m : Nat) (q : Nat → Nat), fewRl xs R = (m : Int) ∧ (∀ i, i < xs.length → q i < m) ∧ ∀ j, wsum (lenT xs) (fun i => q i == j) xs.length ≤ R := by
  have h0 := (few_each hR h).1
  obtain ⟨q, hq⟩ := few_get (T := xs) (A := zerosN xs.length) (c := R) (by simp [zerosN]) hR (fun i k h => by rw [zeros_bit] at h; cases h) h0
  exact ⟨(fewRl xs R).toNat, q, by omega, hq.low, fun j => by have := hq.load j; rwa [csum_w] at this⟩
/-- every set of valid cuts has its fewest -/
theorem zeros_clo (n s : Nat) : ∀ k, cloM (zerosN n) s k = true := fun k => (cloM_iff k).2 (fun i _ _ j h => by rw [zeros_bit] at h; cases h)
theorem st_nn {T : List Int} {n : Nat} {c : Int} (hc : 0 ≤ c) (hT : ∀ k, k < T.length → T.getD k 0 ≤ c) : ∀ N s, s ≤ N → 0 ≤ stP T (zerosN n) c s
  | _, 0, _ => Int.le_refl _
  | 0, s + 1, h => by omega
  | N + 1, s + 1, h => by
    have hne : s + 1 ≠ 0 := by omega
    obtain ⟨i, hi⟩ := Nat.exists_testBit_of_ne_zero hne
    obtain ⟨r, hr⟩ : ∃ r, dif (s + 1) (2 ^ i) = r := ⟨_, rfl⟩
    have hb : ∀ j, r.testBit j = ((s + 1).testBit j && !decide (i = j)) := fun j => by rw [← hr, dif_bit, Nat.testBit_two_pow]
    have hsub : r &&& (s + 1) = r := sub_iff.2 (fun j hj => by rw [hb] at hj; simp only [Bool.and_eq_true] at hj; exact hj.1)
    have hle : r ≤ s + 1 := by rw [← hsub]; exact Nat.and_le_right
    have hlt : r < s + 1 := by
      rcases Nat.lt_or_eq_of_le hle with g | g
      · exact g
      · have := hb i
        rw [g, hi] at this; simp at this
    rw [stP_succ]
    unfold nxtP
    rw [if_pos (zeros_clo _ _ _)]
    refine (scanP_le (s + 1) r hlt ((okR_tab (by omega)).2 ⟨hsub, st_nn hc hT N r (by omega), ?_⟩)).1
    rw [csum_congr (Q := fun j => j == i) T.length (fun j _ => by
      rw [dif_bit, hb]
      by_cases e : i = j
      · subst e; simp [hi]
      · rw [show (j == i) = false by simp [Ne.symm e]]
        cases (s + 1).testBit j <;> simp [e]), csum_one]
    split
    · rename_i g; exact hT i g
    · exact hc
end Go.Proofs.YtjcbpnffmebihaaGreatDoor
