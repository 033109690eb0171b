import Derived.Test.YtldncfkkeeinjacRows
import Derived.WalkKit
import Derived.LoopTactic
import Derived.Outline
import Derived.WalkSpells
import Derived.WalkLawsBesides
import Derived.ProofKit
import Derived.Lib.Hide
import Derived.Deep.QuietTactic
import Derived.BigQuiet
import Derived.IntWalk
import Derived.Test.YtldncfkkeeinjacLib
import Derived.Test.YtldncfkkeeinjacGen
import Derived.Test.YtldncfkkeeinjacMark
import Derived.Test.YtldncfkkeeinjacArr
import Derived.Test.YtldncfkkeeinjacOwn1
import Derived.Test.YtldncfkkeeinjacUp
import Derived.Test.YtldncfkkeeinjacLaws
import Derived.Test.YtldncfkkeeinjacNetM
import Derived.Test.YtldncfkkeeinjacVal2
import Derived.Test.YtldncfkkeeinjacEx
import Derived.Test.YtldncfkkeeinjacLots
import Derived.Test.YtldncfkkeeinjacPlanM
import Derived.Test.YtldncfkkeeinjacBlockM
import Derived.Test.YtldncfkkeeinjacLotSpec
import Derived.Test.YtldncfkkeeinjacBestSpec
import Derived.Test.YtldncfkkeeinjacMeanSpec
import Derived.Test.YtldncfkkeeinjacLotA
import Derived.Test.YtldncfkkeeinjacLeastBy
import Derived.Test.YtldncfkkeeinjacResC
namespace Go.Proofs.Ytldncfkkeeinjac
open Go.RowKit Go.WideShapes

theorem Try.infoIntMB : (Try.prog.info? 3).map (fun i => (i.zero, i.size, i.bytes)) = some (some (.int .i64 0), 1, 8) := by kernel_rfl
theorem bst_le_run {xs : List Int} {s h : Int} {i d : Nat} (hd : 0 < d) (hi : i + d ≤ xs.length) : bst xs s h i ≤ runD xs s h i d + bst xs s h (i + d) := by
  have h1 := (bst_is (s := s) (h := h) (show i + d ≤ xs.length from hi)).1
  obtain ⟨e, rfl⟩ : ∃ e, d = e + 1 := ⟨d - 1, by omega⟩
  exact (bst_is (show i ≤ xs.length by omega)).2 _ (PC.lot i e _ hi h1)
set_option maxHeartbeats 1000000 in
theorem daysFrom_at (S : Nat → Prop) (b off len cap : Nat) (xs : List Int) (n m : Int) (first days l : Nat) (w : World) (h : IntsAt w S (some ⟨b, off, none⟩) len xs) (hc : len ≤ cap) (hl8 : len ≤ 8) (hn : n = (first : Int)) (hm : m = (days : Int)) (hf : first < len) (hd : 1 ≤ days) (hd9 : days ≤ 9) (hl : l = min days (len - first)) :
    Calls Try.prog 38 #[.slice (some ⟨b, off, none⟩) len cap, .int .i64 n, .int .i64 m] w (fun e w' => e = .returned (.slice (some ⟨b, off + first, none⟩) l l) ∧ w' = w) := by
  subst hn hm
  by_cases hmin : first + days ≤ len
  · obtain rfl : l = days := by omega
    have e1 : (first : Int) + (l : Int) ≤ (len : Int) := by omega
    clear hl
    go_enter Try.func38, Try.ntmps38
    go_wp2
    go_ret
    exact ⟨ret_slice (by omega) (by omega), rfl⟩
  · have e1 : ¬ (first : Int) + (days : Int) ≤ (len : Int) := by omega
    obtain rfl : l = len - first := by omega
    clear hl
    go_enter Try.func38, Try.ntmps38
    go_wp2
    go_ret
    exact ⟨ret_slice (by omega) (by omega), rfl⟩
/-- the boxes of a closure over the list and the costs -/
structure LotBox (wr : World) (n : Nat) (a : Option Addr) (len cap : Nat) (s h : Int) : Prop where
  list : wr.cell? ⟨n, 0, none⟩ = some (.slice a len cap)
  set : wr.cell? ⟨n + 1, 0, none⟩ = some (.int .i64 s)
  hold : wr.cell? ⟨n + 2, 0, none⟩ = some (.int .i64 h)
theorem LotBox.below {wr w' : World} {n m : Nat} {a : Option Addr} {len cap : Nat} {s h : Int} (d : LotBox wr n a len cap s h) (hb : Below m wr w') (hm : n + 2 < m) : LotBox w' n a len cap s h :=
  ⟨(hb.cell (p := ⟨n, 0, none⟩) (by show n < m; omega)).trans d.list, (hb.cell (p := ⟨n + 1, 0, none⟩) (by show n + 1 < m; omega)).trans d.set, (hb.cell (p := ⟨n + 2, 0, none⟩) (by show n + 2 < m; omega)).trans d.hold⟩
set_option maxRecDepth 100000 in
set_option maxHeartbeats 4000000 in
theorem bestDays_any (S : Nat → Prop) (n bl b off len cap : Nat) (xs : List Int) (s h : Int) (f : Nat → Int) (i : Nat) (w : World) (hx : IntsAt w S (some ⟨b, off, none⟩) len xs) (hcap : len ≤ cap) (hl8 : len ≤ 8) (hv : ∀ k, 0 ≤ xs.getD k 0 ∧ xs.getD k 0 ≤ 20) (hs : 0 ≤ s ∧ s ≤ 30) (hh : 0 ≤ h ∧ h ≤ 30)
    (hB : LotBox w n (some ⟨b, off, none⟩) len cap s h) (hA : Arr9 w bl f) (hf : ∀ q, q ≤ len → f q = bst xs s h q) (hi : i < len) :
    Calls Try.prog 36 #[.int .i64 i, .pointer (some ⟨n, 0, none⟩), .pointer (some ⟨n + 1, 0, none⟩), .pointer (some ⟨n + 2, 0, none⟩), .pointer (some ⟨bl, 0, none⟩)] w (fun e w' => e = .returned (.int .i64 ((nxB xs s h i - i : Nat) : Int)) ∧ ∃ q, w' = w.drewN q) := by
  have HL := Lib.hid hx.lenEq
  obtain ⟨⟨hn1, hn2⟩, hn3, hn4⟩ := nxB_spec (xs := xs) (s := s) (h := h) (i := i) (by rw [HL.out]; exact hi)
  rw [HL.out] at hn2 hn4
  have HV := Lib.hid hv
  have HN3 := Lib.hid hn3
  have HN4 := Lib.hid hn4
  have HA := Lib.hid hA
  have HF := Lib.hid hf
  have HBX := Lib.hid hB
  have c1 := hB.list
  have hil : (i : Int) ≤ (len : Int) := by omega
  clear hn3 hn4 hA hf hB hv
  generalize nxB xs s h i = nx at *
  go_enter Try.func36, Try.ntmps36
  go_wp2_with fail
  go_loopw [7] (fun v wr => ∃ d : Nat, nx - i ≤ d ∧ d ≤ len - i ∧ v = .int .i64 (d : Int) ∧ Drew w wr) (fun v _ => (intOf v).toNat)
  case atStart => exact ⟨len - i, by omega, by omega, by congr 1; omega, Drew.refl _⟩
  case round =>
    obtain ⟨d, hd1, hd2, rfl, hdw⟩ := hrel
    have hd0 : 1 ≤ d := by omega
    have HDW := Lib.hid hdw
    have hAr : Arr9 wr bl f := by obtain ⟨z, rfl⟩ := hdw; exact HA.out
    have hBr : LotBox wr n (some ⟨b, off, none⟩) len cap s h := by obtain ⟨z, rfl⟩ := hdw; exact ⟨HBX.out.list, HBX.out.set, HBX.out.hold⟩
    have b1 := hBr.list
    have b2 := hBr.set
    have b3 := hBr.hold
    have e1 := (hAr i (by omega)).1
    have e2 := (hAr (i + d) (by omega)).1
    rw [HF.out i (by omega)] at e1
    rw [HF.out (i + d) (by omega)] at e2
    have hle := bst_le_run (s := s) (h := h) (xs := xs) (i := i) (d := d) hd0 (by rw [HL.out]; omega)
    have hrb := runD_bd HV.out (s := s) (h := h) (by omega) (by omega) i d (by omega)
    have hbb := bst_bd (s := s) (h := h) (i := i + d) (by rw [HL.out]; exact hl8) HV.out (by omega) (by omega) (by rw [HL.out]; omega)
    have hbi := bst_bd (s := s) (h := h) (i := i) (by rw [HL.out]; exact hl8) HV.out (by omega) (by omega) (by rw [HL.out]; omega)
    have HDF := Lib.hid (fun z => daysFrom_at S b off len cap xs i d i d d (wr.drewN z) (Drew.ints hx (by obtain ⟨y, rfl⟩ := HDW.out; exact ⟨y + z, World.drewN_drewN _ _ _⟩)) hcap hl8 rfl rfl hi hd0 (by omega) (by omega))
    have HCO := Lib.hid (fun z => costPart_any S b off len d xs s h i (i + d) d (wr.drewN z) (Drew.ints hx (by obtain ⟨y, rfl⟩ := HDW.out; exact ⟨y + z, World.drewN_drewN _ _ _⟩)) hl8 HV.out hs hh (by omega) (by omega) (by omega))
    have HEQ := Lib.hid (show d = nx - i → runD xs s h i d + bst xs s h (i + d) = bst xs s h i from fun e => by
      have := HN3.out; rw [e, show i + (nx - i) = nx by omega]; exact this)
    have HNE := Lib.hid (show nx - i < d → runD xs s h i d + bst xs s h (i + d) ≠ bst xs s h i from fun e => by
      have := HN4.out (i + d) (by omega) (by omega); rwa [show i + d - i = d by omega] at this)
    clear hBr hAr hdw c1
    generalize runD xs s h i d = r at *
    generalize bst xs s h (i + d) = bd at *
    generalize bst xs s h i = bi at *
    have hw1 : IntKind.i64.wrap (r + bd) = r + bd := IntWalk.i64_in _ (by omega)
    have hid9 : i + d < 9 := by omega
    have hid9' : (i : Int) + (d : Int) < 9 := by omega
    have hi9 : i < 9 := by omega
    have hi9' : (i : Int) < 9 := by omega
    by_cases hnx : nx - i < d
    · have hgt : bi < r + bd := by have := HNE.out hnx; omega
      go_wp2_with fail
      go_quiet (first | (go_at_call 38; with_reducible exact Calls.quiet_of_same (HDF.out _)) | (go_at_call 37; with_reducible exact Calls.quiet_of_same (HCO.out _)))
      clear hw1 e1 e2 b1 b2 b3
      go_wp2_with fail
      go_roundw
      case rel => exact ⟨d - 1, by omega, by omega, by congr 1; omega, HDW.out.drew _⟩
      case measure => simp [intOf] <;> omega
    · have hde : d = nx - i := by omega
      have hgt : ¬ bi < r + bd := by have := HEQ.out hde; omega
      have HDE := Lib.hid hde
      clear hde
      go_wp2_with fail
      go_quiet (first | (go_at_call 38; with_reducible exact Calls.quiet_of_same (HDF.out _)) | (go_at_call 37; with_reducible exact Calls.quiet_of_same (HCO.out _)))
      clear hw1 e1 e2 b1 b2 b3
      go_wp2_with fail
      go_ret
      obtain ⟨y, rfl⟩ := HDW.out
      exact ⟨ret_int (by rw [HDE.out]), y + nq, World.drewN_drewN _ _ _⟩
set_option maxRecDepth 100000 in
set_option maxHeartbeats 4000000 in
theorem daysByMean_any (S : Nat → Prop) (b off len c : Nat) (xs : List Int) (s h : Int) (i l : Nat) (w : World) (hx : IntsAt w S (some ⟨b, off, none⟩) len xs) (hl8 : len ≤ 8) (hv : ∀ k, 0 ≤ xs.getD k 0 ∧ xs.getD k 0 ≤ 20) (hs : 0 ≤ s ∧ s ≤ 30) (hh : 0 ≤ h ∧ h ≤ 30) (hi : i < len) (hl : l = len - i) :
    Calls Try.prog 28 #[.slice (some ⟨b, off + i, none⟩) l c, .int .i64 s, .int .i64 h] w (fun e w' => e = .returned (.int .i64 ((nxM xs s h i - i : Nat) : Int)) ∧ w' = w) := by
  subst hl
  have HL := Lib.hid hx.lenEq
  have HV := Lib.hid hv
  obtain ⟨hs0, hs1⟩ := hs
  obtain ⟨hh0, hh1⟩ := hh
  have hpart := ints_part hx i len hi (Nat.le_refl _)
  have HDEF := Lib.hid (show mup xs s h i (len - (i + 1)) (i + 1) = nxM xs s h i by unfold nxM; rw [HL.out])
  clear hv
  generalize nxM xs s h i = nx at *
  go_enter Try.func28, Try.ntmps28
  go_wp2_with fail
  go_loop [7, 8] (fun dv cv => ∃ d : Nat, 1 ≤ d ∧ d ≤ len - i ∧ dv = .int .i64 (d : Int) ∧ cv = .int .i64 (raM xs s h i d) ∧ mup xs s h i (len - (i + d)) (i + d) = nx) (fun dv _ => len - i - (intOf dv).toNat)
  case atStart => exact ⟨1, Nat.le_refl _, by omega, rfl, by simp [raM, hsum], HDEF.out⟩
  case round =>
    obtain ⟨d, hd1, hd2, rfl, rfl, hm⟩ := hrel
    have HM := Lib.hid hm
    clear hm
    by_cases hlt : d < len - i
    · obtain ⟨b', off', x, e, hxx, hc⟩ := hpart.get (k := d) hlt
      cases e
      have hxv : x = xs.getD (i + d) 0 := by
        rw [List.getElem?_take, if_pos hlt, List.getElem?_drop] at hxx
        exact (getD_of hxx).symm
      have hxb := HV.out (i + d)
      rw [← hxv] at hxb
      have HN := Lib.hid (show raM xs s h i (d + 1) = raM xs s h i d + h * (d : Int) * x by
        unfold raM
        rw [hsum, ← hxv, Int.mul_add, Int.mul_assoc]; omega)
      have h3 := raM_bd HV.out (s := s) (h := h) ⟨hs0, by omega⟩ ⟨hh0, by omega⟩ i d (by omega)
      have h3b := raM_bd HV.out (s := s) (h := h) ⟨hs0, by omega⟩ ⟨hh0, by omega⟩ i (d + 1) (by omega)
      have h4 := mul_box3 hh0 hh1 (show (0 : Int) ≤ (d : Int) by omega) (show (d : Int) ≤ 8 by omega)
      have HMB := Lib.hid (show meanB xs s h i (i + d) = decide (raM xs s h i (d + 1) * (d : Int) ≤ raM xs s h i d * ((d : Int) + 1)) by
        unfold meanB
        rw [show i + d + 1 - i = d + 1 by omega, show i + d - i = d by omega, show ((i + d : Nat) : Int) - (i : Int) = (d : Int) by omega, show ((i + d : Nat) : Int) + 1 - (i : Int) = (d : Int) + 1 by omega])
      have HM2 := Lib.hid (show (if meanB xs s h i (i + d) then mup xs s h i (len - (i + (d + 1))) (i + (d + 1)) else i + d) = nx by
        rw [← HM.out, show len - (i + d) = (len - (i + (d + 1))) + 1 by omega]; rfl)
      have hlt3 : (d : Int) < ((len - i : Nat) : Int) := by omega
      clear hxx hxv
      generalize hC2 : raM xs s h i (d + 1) = c2 at h3b HN HMB
      have HC2 := Lib.hid hC2
      clear hC2
      generalize raM xs s h i d = c1 at h3 HN HMB ⊢
      generalize hp : h * (d : Int) = p at h4 HN
      have h5 := mul_box3 h4.1 h4.2 hxb.1 hxb.2
      have hc2 : c1 + p * x = c2 := HN.out.symm
      have h6 := mul_box3 h3b.1 h3b.2 (show (0 : Int) ≤ (d : Int) by omega) (show (d : Int) ≤ 8 by omega)
      have h7 := mul_box3 h3.1 h3.2 (show (0 : Int) ≤ (d : Int) + 1 by omega) (show (d : Int) + 1 ≤ 9 by omega)
      have hw1 : IntKind.i64.wrap (c1 + p * x) = c2 := by rw [hc2]; exact IntWalk.i64_in _ (by omega)
      clear hc2
      by_cases hle : c2 * (d : Int) ≤ c1 * ((d : Int) + 1)
      · have HM3 := Lib.hid (show mup xs s h i (len - (i + (d + 1))) (i + (d + 1)) = nx by rw [← HM2.out, HMB.out, decide_eq_true hle]; rfl)
        go_wp2_with fail
        go_round
        case rel => exact ⟨d + 1, by omega, by omega, by go_num, by rw [HC2.out, HN.out], HM3.out⟩
        case measure => simp [intOf] <;> omega
      · have HQ := Lib.hid (show i + d = nx by rw [← HM2.out, HMB.out, decide_eq_false hle]; rfl)
        go_wp2_with fail
        go_ret
        exact ⟨ret_int (by have := HQ.out; omega), rfl⟩
    · obtain rfl : d = len - i := by omega
      have HQ := Lib.hid (show i + (len - i) = nx by rw [← HM.out, show len - (i + (len - i)) = 0 by omega]; rfl)
      go_wp2_with fail
      go_ret
      exact ⟨ret_int (by have := HQ.out; omega), rfl⟩
theorem meanDays_any (S : Nat → Prop) (n b off len cap : Nat) (xs : List Int) (s h : Int) (i : Nat) (w : World) (hx : IntsAt w S (some ⟨b, off, none⟩) len xs) (hcap : len ≤ cap) (hl8 : len ≤ 8) (hv : ∀ k, 0 ≤ xs.getD k 0 ∧ xs.getD k 0 ≤ 20) (hs : 0 ≤ s ∧ s ≤ 30) (hh : 0 ≤ h ∧ h ≤ 30)
    (hB : LotBox w n (some ⟨b, off, none⟩) len cap s h) (hi : i < len) :
    Calls Try.prog 27 #[.int .i64 i, .pointer (some ⟨n, 0, none⟩), .pointer (some ⟨n + 1, 0, none⟩), .pointer (some ⟨n + 2, 0, none⟩)] w (fun e w' => e = .returned (.int .i64 ((nxM xs s h i - i : Nat) : Int)) ∧ ∃ q, w' = w.drewN q) := by
  have b1 := hB.list
  have b2 := hB.set
  have b3 := hB.hold
  have hne : ¬ cap = i := by omega
  have hile : i ≤ len := by omega
  have HME := Lib.hid (fun z => daysByMean_any S b off len (cap - i) xs s h i (len - i) (w.drewN z) (Drew.ints hx ⟨z, rfl⟩) hl8 hv hs hh hi rfl)
  go_enter Try.func27, Try.ntmps27
  go_wp2_with fail
  go_quiet ((go_at_call 28; exact Calls.quiet_of_same (HME.out _)))
  clear b1 b2 b3
  go_wp2_with fail
  go_ret
  exact ⟨rfl, nq, rfl⟩
set_option maxRecDepth 100000 in
set_option maxHeartbeats 4000000 in
theorem madeByBest_any (n bl : Nat) (a : Option Addr) (len cap : Nat) (xs : List Int) (s h : Int) (f : Nat → Int) (w : World) (hx : IntsAt w (· < w.heap.size) a len xs) (hcap : len ≤ cap) (hl8 : len ≤ 8) (hv : ∀ k, 0 ≤ xs.getD k 0 ∧ xs.getD k 0 ≤ 20) (hs : 0 ≤ s ∧ s ≤ 30) (hh : 0 ≤ h ∧ h ≤ 30)
    (hB : LotBox w n a len cap s h) (hA : Arr9 w bl f) (hf : ∀ q, q ≤ len → f q = bst xs s h q) (hn : n + 2 < w.heap.size) (hbl : bl < w.heap.size) :
    Calls Try.prog 26 #[.slice a len cap, .func (.func 36) #[] #[.pointer (some ⟨n, 0, none⟩), .pointer (some ⟨n + 1, 0, none⟩), .pointer (some ⟨n + 2, 0, none⟩), .pointer (some ⟨bl, 0, none⟩)]] w (ResPostC w (bestLotsM xs s h)) := by
  have HL := Lib.hid hx.lenEq
  have HV := Lib.hid hv
  have HBX := Lib.hid hB
  have HA := Lib.hid hA
  have HF := Lib.hid hf
  have hmk := fun w => run_make_row' (P := Try.prog) 23 3 (.int .i64 0) 8 Try.underlying23 Try.infoIntMB rfl .i64 .i64 len (by omega) (by omega) w
  have HO0 := Lib.hid ((OwnF.start w len (by omega)).congr (g := madeTo (nxB xs s h) xs 0) (fun q _ => by unfold madeTo; rw [if_neg (by omega)]))
  clear hB hA hf hv
  go_enter Try.func26, Try.ntmps26
  go_wp2_with fail
  clear hmk
  go_loopw [6] (fun iv wr => ∃ v : Nat, v ≤ len ∧ (v < len → owner (nxB xs s h) v = v) ∧ iv = .int .i64 (v : Int) ∧ OwnF w wr len (madeTo (nxB xs s h) xs v)) (fun iv _ => len - (intOf iv).toNat)
  case atStart => exact ⟨0, Nat.zero_le _, fun _ => rfl, rfl, HO0.out⟩
  case round =>
    clear HO0
    obtain ⟨i, hi, ho, rfl, hC⟩ := hrel
    have HC := Lib.hid hC
    clear hC
    by_cases hil : i < len
    · have hilx : i < xs.length := by rw [HL.out]; exact hil
      have hnn := nxB_nexts xs s h i hilx
      rw [HL.out] at hnn
      obtain ⟨hn1, hn2⟩ := hnn
      have HNX := Lib.hid (madeTo_next (nxB_nexts xs s h) hilx (ho hil))
      have HNO := Lib.hid (fun hlt => owner_next (ho hil) hn1 : nxB xs s h i < len → _)
      have HNP := Lib.hid (made_part (xs := xs) (i := i) (k := nxB xs s h i) (by omega) (by rw [HL.out]; exact hn2))
      have hxw := hx.below HC.out.below
      obtain ⟨b, off, hab, hbS, _⟩ := hx.cells (by omega)
      subst hab
      have HCL := Lib.hid (bestDays_any _ n bl b off len cap xs s h f i wr hxw hcap hl8 HV.out hs hh (HBX.out.below HC.out.below hn) (HA.out.below HC.out.below hbl) HF.out hil)
      clear ho
      generalize nxB xs s h i = nx at *
      obtain ⟨d, hd⟩ : ∃ d, nx - i = d := ⟨_, rfl⟩
      rw [hd] at HCL
      have hd2 : nx = i + d := by omega
      subst hd2
      clear hd
      have hd1 : 1 ≤ d := by omega
      have hd9 : d ≤ 9 := by omega
      go_wp2_with fail
      refine HCL.out.mono ?_
      rintro e w2 ⟨rfl, z, rfl⟩
      have HC2 := Lib.hid (HC.out.drew z)
      have hx2 := hx.below HC2.out.below
      obtain ⟨wd, hwd⟩ : ∃ wd, wr.drewN z = wd := ⟨_, rfl⟩
      rw [hwd] at HC2 hx2 ⊢
      clear hwd hxw
      go_wp2_with fail
      refine (daysFrom_at _ b off len cap xs _ _ i d d _ hx2 hcap hl8 rfl rfl hil hd1 hd9 (by omega)).mono ?_
      rintro e w' ⟨rfl, rfl⟩
      have hpart := ints_part hx2 i (i + d) (by omega) hn2
      rw [show i + d - i = d by omega] at hpart
      have HNP2 := Lib.hid (show totalM ((xs.drop i).take d) = sumN xs (i + d) - sumN xs i by have := HNP.out; rwa [show i + d - i = d by omega] at this)
      have hil3 : (i : Int) < (len : Int) := by omega
      obtain ⟨e1, f1⟩ := HC2.out.cell hil
      go_wp2_with fail
      refine (sumOf_any _ _ d d _ w' hpart (fun y hy => days_mem HV.out y (List.mem_of_mem_drop (List.mem_of_mem_take hy))) (by omega)).mono ?_
      rintro e w'' ⟨rfl, rfl⟩
      rw [HNP2.out]
      go_wp2_with fail
      go_roundw
      case rel => exact ⟨i + d, hn2, fun hlt => HNO.out hlt, by go_num, (HC2.out.put i _).congr (fun z _ => HNX.out z)⟩
      case measure => simp [intOf] <;> omega
    · obtain rfl : i = len := by omega
      have HE := Lib.hid (show bestLotsM xs s h = tab (madeTo (nxB xs s h) xs i) i by
        unfold bestLotsM madeM
        rw [HL.out]
        exact tab_congr (fun q hq => by unfold madeTo; rw [if_pos hq]))
      go_wp2_with fail
      go_ret
      rw [HE.out]
      exact resPostC_of (resPost_block (tab_length _ _) (by omega) (fun q x hx => by
        obtain ⟨rfl, hq⟩ := tab_get hx
        exact HC.out.cell hq) HC.out.below) (Nat.le_refl _)
set_option maxRecDepth 100000 in
set_option maxHeartbeats 2000000 in
theorem bestLots_impl (a : Option Addr) (len cap : Nat) (xs : List Int) (s h : Int) (w : World) (hx : IntsAt w (· < w.heap.size) a len xs) (hcap : len ≤ cap) :
    Calls Try.prog 19 #[.slice a len cap, .int .i64 s, .int .i64 h] w (ResPostC w (bestRes xs s h)) := by
  have HL := Lib.hid hx.lenEq
  have z4 := cell_new_l w (.slice a len cap) 23
  have z5 := cell_new_l (w.alloc (.cells #[.slice a len cap] 23)) (.int .i64 s) 3
  have z6 := cell_new_l ((w.alloc (.cells #[.slice a len cap] 23)).alloc (.cells #[.int .i64 s] 3)) (.int .i64 h) 3
  simp only [World.size_alloc] at z5 z6
  obtain ⟨w0, hw0⟩ : ∃ w0, (((w.alloc (.cells #[.slice a len cap] 23)).alloc (.cells #[.int .i64 s] 3)).alloc (.cells #[.int .i64 h] 3)) = w0 := ⟨_, rfl⟩
  have hB0 : LotBox w0 w.heap.size a len cap s h := by rw [← hw0]; exact ⟨cell_alloc_l _ (cell_alloc_l _ z4.1), cell_alloc_l _ z5.1, z6.1⟩
  have hb0 : Below w.heap.size w w0 := by rw [← hw0]; exact ((((Below.refl w.heap.size w).alloc (by simp) _).alloc (by simp <;> omega) _).alloc (by simp <;> omega) _)
  have hsz0 : w0.heap.size = w.heap.size + 3 := by rw [← hw0]; simp
  have hx0 : IntsAt w0 (· < w0.heap.size) a len xs := ints_lift hx hb0
  have HW0 := Lib.hid hw0
  have HB0 := Lib.hid hb0
  have HSZ := Lib.hid hsz0
  have HBX := Lib.hid hB0
  have b1 := hB0.list
  have b2 := hB0.set
  have b3 := hB0.hold
  rw [show w.heap.size + 1 = w.heap.size + 1 from rfl] at b2
  clear z4 z5 z6 hw0 hb0 hsz0 hB0
  cases hvd : validDaysM xs
  · have hv : validLotsM xs s h = false := by unfold validLotsM; rw [hvd]; rfl
    rw [bestRes_no hv]
    have HVD := Lib.hid hvd
    clear hv hvd
    go_enter Try.func19, Try.ntmps19
    go_wp2_with fail
    rw [HW0.out]
    refine (validDays_impl _ _ _ _ xs _ hx0).mono ?_
    rintro e w' ⟨rfl, rfl⟩
    rw [HVD.out]
    go_wp2_with fail
    go_ret
    exact ⟨none, 0, 0, rfl, ⟨rfl, Nat.zero_le _, fun h => absurd h (by omega)⟩, ⟨Nat.zero_le _, fun h => absurd h (by omega)⟩, Nat.le_refl _, HB0.out⟩
  · have HVD := Lib.hid hvd
    cases hc : (inB 0 30 s && inB 0 30 h)
    · have hv : validLotsM xs s h = false := by unfold validLotsM; rw [Bool.and_assoc, hc]; simp
      rw [bestRes_no hv]
      have HC := Lib.hid hc
      clear hv hvd hc
      go_enter Try.func19, Try.ntmps19
      go_wp2_with fail
      rw [HW0.out]
      refine (validDays_impl _ _ _ _ xs _ hx0).mono ?_
      rintro e w' ⟨rfl, rfl⟩
      rw [HVD.out]
      go_wp2_with fail
      refine (areCosts_any _ _ _).mono ?_
      rintro e w' ⟨rfl, rfl⟩
      rw [HC.out]
      go_wp2_with fail
      go_ret
      exact ⟨none, 0, 0, rfl, ⟨rfl, Nat.zero_le _, fun h => absurd h (by omega)⟩, ⟨Nat.zero_le _, fun h => absurd h (by omega)⟩, Nat.le_refl _, HB0.out⟩
    · have hv : validLotsM xs s h = true := by unfold validLotsM; rw [Bool.and_assoc, hc, hvd]; rfl
      have HC := Lib.hid hc
      have hl8 : len ≤ 8 := by have := validDays_len hvd; have := HL.out; omega
      have HAT := Lib.hid (validDays_at hvd)
      obtain ⟨_, hs, hh⟩ := validLots_get hv
      rw [bestRes_yes hv]
      clear hv hvd hc
      go_enter Try.func19, Try.ntmps19
      go_wp2_with fail
      rw [HW0.out]
      refine (validDays_impl _ _ _ _ xs _ hx0).mono ?_
      rintro e w' ⟨rfl, rfl⟩
      rw [HVD.out]
      go_wp2_with fail
      refine (areCosts_any _ _ _).mono ?_
      rintro e w' ⟨rfl, rfl⟩
      rw [HC.out]
      go_wp2_with fail
      refine (leastByDay_any a len cap xs s h _ hx0 hcap hl8 HAT.out hs hh).mono ?_
      rintro e w1 ⟨⟨f, rfl, hf⟩, hb1⟩
      have HF := Lib.hid hf
      unfold agg9
      have hA2 := Arr9.new w1 f 48
      have hb12 := (Below.refl w1.heap.size w1).alloc (Nat.le_refl _) (.cells #[.int .i64 (f 0), .int .i64 (f 1), .int .i64 (f 2), .int .i64 (f 3), .int .i64 (f 4), .int .i64 (f 5), .int .i64 (f 6), .int .i64 (f 7), .int .i64 (f 8)] 48)
      have hsz2 : (w1.alloc (.cells #[.int .i64 (f 0), .int .i64 (f 1), .int .i64 (f 2), .int .i64 (f 3), .int .i64 (f 4), .int .i64 (f 5), .int .i64 (f 6), .int .i64 (f 7), .int .i64 (f 8)] 48)).heap.size = w1.heap.size + 1 := by simp
      obtain ⟨w2, hw2⟩ : ∃ w2, (w1.alloc (.cells #[.int .i64 (f 0), .int .i64 (f 1), .int .i64 (f 2), .int .i64 (f 3), .int .i64 (f 4), .int .i64 (f 5), .int .i64 (f 6), .int .i64 (f 7), .int .i64 (f 8)] 48)) = w2 := ⟨_, rfl⟩
      rw [hw2] at hA2 hb12 hsz2
      have HW2 := Lib.hid hw2
      have hsz1 := hb1.size
      have HB1 := Lib.hid hb1
      have hb02 := hb1.trans (hb12.mono hsz1)
      have hx2 := ints_lift hx0 hb02
      have HBX2 := Lib.hid (HBX.out.below hb02 (by have := HSZ.out; omega))
      have b4 := HBX2.out.list
      rw [← hw2] at b4
      have b5 := (HBX.out.below hb1 (by have := HSZ.out; omega)).list
      have hlt1 : w.heap.size < w1.heap.size := by have := HSZ.out; omega
      have HA2 := Lib.hid hA2
      have HB02 := Lib.hid hb02
      have HS2 := Lib.hid hsz2
      have HS1 := Lib.hid hsz1
      clear b1 b2 b3 hw2 hA2 hb12 hb1 hf hsz2 hb02 hsz1
      go_wp2_with fail
      rw [HW2.out]
      refine (madeByBest_any w.heap.size w1.heap.size a len cap xs s h f w2 hx2 hcap hl8 HAT.out hs hh HBX2.out HA2.out HF.out (by have := HSZ.out; have := HS2.out; have := HS1.out; omega) (by have := HS2.out; omega)).mono ?_
      rintro e w3 ⟨a3, l3, c3, rfl, h3, g3, hc3, hb3⟩
      have hfin : w.heap.size ≤ w2.heap.size := by have := HSZ.out; have := HS2.out; have := HS1.out; omega
      have hbz := HB0.out.trans ((HB02.out.mono (show w.heap.size ≤ w0.heap.size by have := HSZ.out; omega)).trans (hb3.mono hfin))
      go_wp2_with fail
      go_ret
      exact ⟨a3, l3, c3, rfl, h3.to (fun b hb => ⟨⟨Nat.le_trans hfin hb.1, hb.2⟩, rfl⟩), g3.to (fun b hb => ⟨⟨Nat.le_trans hfin hb.1, hb.2⟩, rfl⟩), hc3, hbz⟩
set_option maxRecDepth 100000 in
set_option maxHeartbeats 4000000 in
theorem madeByMean_any (n : Nat) (a : Option Addr) (len cap : Nat) (xs : List Int) (s h : Int) (w : World) (hx : IntsAt w (· < w.heap.size) a len xs) (hcap : len ≤ cap) (hl8 : len ≤ 8) (hv : ∀ k, 0 ≤ xs.getD k 0 ∧ xs.getD k 0 ≤ 20) (hs : 0 ≤ s ∧ s ≤ 30) (hh : 0 ≤ h ∧ h ≤ 30)
    (hB : LotBox w n a len cap s h) (hn : n + 2 < w.heap.size) :
    Calls Try.prog 26 #[.slice a len cap, .func (.func 27) #[] #[.pointer (some ⟨n, 0, none⟩), .pointer (some ⟨n + 1, 0, none⟩), .pointer (some ⟨n + 2, 0, none⟩)]] w (ResPostC w (meanLotsM xs s h)) := by
  have HL := Lib.hid hx.lenEq
  have HV := Lib.hid hv
  have HBX := Lib.hid hB
  have hmk := fun w => run_make_row' (P := Try.prog) 23 3 (.int .i64 0) 8 Try.underlying23 Try.infoIntMB rfl .i64 .i64 len (by omega) (by omega) w
  have HO0 := Lib.hid ((OwnF.start w len (by omega)).congr (g := madeTo (nxM xs s h) xs 0) (fun q _ => by unfold madeTo; rw [if_neg (by omega)]))
  clear hB hv
  go_enter Try.func26, Try.ntmps26
  go_wp2_with fail
  clear hmk
  go_loopw [6] (fun iv wr => ∃ v : Nat, v ≤ len ∧ (v < len → owner (nxM xs s h) v = v) ∧ iv = .int .i64 (v : Int) ∧ OwnF w wr len (madeTo (nxM xs s h) xs v)) (fun iv _ => len - (intOf iv).toNat)
  case atStart => exact ⟨0, Nat.zero_le _, fun _ => rfl, rfl, HO0.out⟩
  case round =>
    clear HO0
    obtain ⟨i, hi, ho, rfl, hC⟩ := hrel
    have HC := Lib.hid hC
    clear hC
    by_cases hil : i < len
    · have hilx : i < xs.length := by rw [HL.out]; exact hil
      have hnn := nxM_nexts xs s h i hilx
      rw [HL.out] at hnn
      obtain ⟨hn1, hn2⟩ := hnn
      have HNX := Lib.hid (madeTo_next (nxM_nexts xs s h) hilx (ho hil))
      have HNO := Lib.hid (fun hlt => owner_next (ho hil) hn1 : nxM xs s h i < len → _)
      have HNP := Lib.hid (made_part (xs := xs) (i := i) (k := nxM xs s h i) (by omega) (by rw [HL.out]; exact hn2))
      have hxw := hx.below HC.out.below
      obtain ⟨b, off, hab, hbS, _⟩ := hx.cells (by omega)
      subst hab
      have HCL := Lib.hid (meanDays_any _ n b off len cap xs s h i wr hxw hcap hl8 HV.out hs hh (HBX.out.below HC.out.below hn) hil)
      clear ho
      generalize nxM xs s h i = nx at *
      obtain ⟨d, hd⟩ : ∃ d, nx - i = d := ⟨_, rfl⟩
      rw [hd] at HCL
      have hd2 : nx = i + d := by omega
      subst hd2
      clear hd
      have hd1 : 1 ≤ d := by omega
      have hd9 : d ≤ 9 := by omega
      go_wp2_with fail
      refine HCL.out.mono ?_
      rintro e w2 ⟨rfl, z, rfl⟩
      have HC2 := Lib.hid (HC.out.drew z)
      have hx2 := hx.below HC2.out.below
      obtain ⟨wd, hwd⟩ : ∃ wd, wr.drewN z = wd := ⟨_, rfl⟩
      rw [hwd] at HC2 hx2 ⊢
      clear hwd hxw
      go_wp2_with fail
      refine (daysFrom_at _ b off len cap xs _ _ i d d _ hx2 hcap hl8 rfl rfl hil hd1 hd9 (by omega)).mono ?_
      rintro e w' ⟨rfl, rfl⟩
      have hpart := ints_part hx2 i (i + d) (by omega) hn2
      rw [show i + d - i = d by omega] at hpart
      have HNP2 := Lib.hid (show totalM ((xs.drop i).take d) = sumN xs (i + d) - sumN xs i by have := HNP.out; rwa [show i + d - i = d by omega] at this)
      have hil3 : (i : Int) < (len : Int) := by omega
      obtain ⟨e1, f1⟩ := HC2.out.cell hil
      go_wp2_with fail
      refine (sumOf_any _ _ d d _ w' hpart (fun y hy => days_mem HV.out y (List.mem_of_mem_drop (List.mem_of_mem_take hy))) (by omega)).mono ?_
      rintro e w'' ⟨rfl, rfl⟩
      rw [HNP2.out]
      go_wp2_with fail
      go_roundw
      case rel => exact ⟨i + d, hn2, fun hlt => HNO.out hlt, by go_num, (HC2.out.put i _).congr (fun z _ => HNX.out z)⟩
      case measure => simp [intOf] <;> omega
    · obtain rfl : i = len := by omega
      have HE := Lib.hid (show meanLotsM xs s h = tab (madeTo (nxM xs s h) xs i) i by
        unfold meanLotsM madeM
        rw [HL.out]
        exact tab_congr (fun q hq => by unfold madeTo; rw [if_pos hq]))
      go_wp2_with fail
      go_ret
      rw [HE.out]
      exact resPostC_of (resPost_block (tab_length _ _) (by omega) (fun q x hx => by
        obtain ⟨rfl, hq⟩ := tab_get hx
        exact HC.out.cell hq) HC.out.below) (Nat.le_refl _)
set_option maxRecDepth 100000 in
set_option maxHeartbeats 2000000 in
theorem meanLots_impl (a : Option Addr) (len cap : Nat) (xs : List Int) (s h : Int) (w : World) (hx : IntsAt w (· < w.heap.size) a len xs) (hcap : len ≤ cap) :
    Calls Try.prog 8 #[.slice a len cap, .int .i64 s, .int .i64 h] w (ResPostC w (meanRes xs s h)) := by
  have HL := Lib.hid hx.lenEq
  have z4 := cell_new_l w (.slice a len cap) 23
  have z5 := cell_new_l (w.alloc (.cells #[.slice a len cap] 23)) (.int .i64 s) 3
  have z6 := cell_new_l ((w.alloc (.cells #[.slice a len cap] 23)).alloc (.cells #[.int .i64 s] 3)) (.int .i64 h) 3
  simp only [World.size_alloc] at z5 z6
  obtain ⟨w0, hw0⟩ : ∃ w0, (((w.alloc (.cells #[.slice a len cap] 23)).alloc (.cells #[.int .i64 s] 3)).alloc (.cells #[.int .i64 h] 3)) = w0 := ⟨_, rfl⟩
  have hB0 : LotBox w0 w.heap.size a len cap s h := by rw [← hw0]; exact ⟨cell_alloc_l _ (cell_alloc_l _ z4.1), cell_alloc_l _ z5.1, z6.1⟩
  have hb0 : Below w.heap.size w w0 := by rw [← hw0]; exact ((((Below.refl w.heap.size w).alloc (by simp) _).alloc (by simp <;> omega) _).alloc (by simp <;> omega) _)
  have hsz0 : w0.heap.size = w.heap.size + 3 := by rw [← hw0]; simp
  have hx0 : IntsAt w0 (· < w0.heap.size) a len xs := ints_lift hx hb0
  have HW0 := Lib.hid hw0
  have HB0 := Lib.hid hb0
  have HSZ := Lib.hid hsz0
  have HBX := Lib.hid hB0
  have b1 := hB0.list
  have b2 := hB0.set
  have b3 := hB0.hold
  rw [show w.heap.size + 1 = w.heap.size + 1 from rfl] at b2
  clear z4 z5 z6 hw0 hb0 hsz0 hB0
  cases hvd : validDaysM xs
  · have hv : validLotsM xs s h = false := by unfold validLotsM; rw [hvd]; rfl
    rw [meanRes_no hv]
    have HVD := Lib.hid hvd
    clear hv hvd
    go_enter Try.func8, Try.ntmps8
    go_wp2_with fail
    rw [HW0.out]
    refine (validDays_impl _ _ _ _ xs _ hx0).mono ?_
    rintro e w' ⟨rfl, rfl⟩
    rw [HVD.out]
    go_wp2_with fail
    go_ret
    exact ⟨none, 0, 0, rfl, ⟨rfl, Nat.zero_le _, fun h => absurd h (by omega)⟩, ⟨Nat.zero_le _, fun h => absurd h (by omega)⟩, Nat.le_refl _, HB0.out⟩
  · have HVD := Lib.hid hvd
    cases hc : (inB 0 30 s && inB 0 30 h)
    · have hv : validLotsM xs s h = false := by unfold validLotsM; rw [Bool.and_assoc, hc]; simp
      rw [meanRes_no hv]
      have HC := Lib.hid hc
      clear hv hvd hc
      go_enter Try.func8, Try.ntmps8
      go_wp2_with fail
      rw [HW0.out]
      refine (validDays_impl _ _ _ _ xs _ hx0).mono ?_
      rintro e w' ⟨rfl, rfl⟩
      rw [HVD.out]
      go_wp2_with fail
      refine (areCosts_any _ _ _).mono ?_
      rintro e w' ⟨rfl, rfl⟩
      rw [HC.out]
      go_wp2_with fail
      go_ret
      exact ⟨none, 0, 0, rfl, ⟨rfl, Nat.zero_le _, fun h => absurd h (by omega)⟩, ⟨Nat.zero_le _, fun h => absurd h (by omega)⟩, Nat.le_refl _, HB0.out⟩
    · have hv : validLotsM xs s h = true := by unfold validLotsM; rw [Bool.and_assoc, hc, hvd]; rfl
      have HC := Lib.hid hc
      have hl8 : len ≤ 8 := by have := validDays_len hvd; have := HL.out; omega
      have HAT := Lib.hid (validDays_at hvd)
      obtain ⟨_, hs, hh⟩ := validLots_get hv
      rw [meanRes_yes hv]
      clear hv hvd hc
      go_enter Try.func8, Try.ntmps8
      go_wp2_with fail
      rw [HW0.out]
      refine (validDays_impl _ _ _ _ xs _ hx0).mono ?_
      rintro e w' ⟨rfl, rfl⟩
      rw [HVD.out]
      go_wp2_with fail
      refine (areCosts_any _ _ _).mono ?_
      rintro e w' ⟨rfl, rfl⟩
      rw [HC.out]
      go_wp2_with fail
      refine (madeByMean_any w.heap.size a len cap xs s h w0 hx0 hcap hl8 HAT.out hs hh HBX.out (by have := HSZ.out; omega)).mono ?_
      rintro e w3 ⟨a3, l3, c3, rfl, h3, g3, hc3, hb3⟩
      have hfin : w.heap.size ≤ w0.heap.size := by have := HSZ.out; omega
      have hbz := HB0.out.trans (hb3.mono hfin)
      go_wp2_with fail
      go_ret
      exact ⟨a3, l3, c3, rfl, h3.to (fun b hb => ⟨⟨Nat.le_trans hfin hb.1, hb.2⟩, rfl⟩), g3.to (fun b hb => ⟨⟨Nat.le_trans hfin hb.1, hb.2⟩, rfl⟩), hc3, hbz⟩
end Go.Proofs.Ytldncfkkeeinjac
