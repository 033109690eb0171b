import Derived.Test.YtjcbpnffmebihaaGreatDoorA24
import Derived.Test.YtjcbpnffmebihaaGreatDoorRows
import Derived.WalkKit
import Derived.LoopTactic
import Derived.Outline
import Derived.WalkSpells
import Derived.WalkLawsBesides
import Derived.ProofKit
import Derived.Lib.Hide
import Derived.Deep.QuietTactic
import Derived.BigQuiet
import Derived.IntWalk
namespace Go.Proofs.YtjcbpnffmebihaaGreatDoor
open Go.RowKit Go.WideShapes

theorem Tryz.infoIntMB : (Tryz.prog.info? 3).map (fun i => (i.zero, i.size, i.bytes)) = some (some (.int .i64 0), 1, 8) := by kernel_rfl
theorem bst_le_run {xs : List Int} {s h : Int} {i d : Nat} (hd : 0 < d) (hi : i + d ≤ xs.length) : bst xs s h i ≤ runD xs s h i d + bst xs s h (i + d) := by
  have h1 := (bst_is (s := s) (h := h) (show i + d ≤ xs.length from hi)).1
  obtain ⟨e, rfl⟩ : ∃ e, d = e + 1 := ⟨d - 1, by omega⟩
  exact (bst_is (show i ≤ xs.length by omega)).2 _ (PC.lot i e _ hi h1)
set_option maxHeartbeats 1000000 in
theorem daysFrom_at (S : Nat → Prop) (b off len cap : Nat) (xs : List Int) (n m : Int) (first days l : Nat) (w : World) (h : IntsAt w S (some ⟨b, off, none⟩) len xs) (hc : len ≤ cap) (hl8 : len ≤ 8) (hn : n = (first : Int)) (hm : m = (days : Int)) (hf : first < len) (hd : 1 ≤ days) (hd9 : days ≤ 9) (hl : l = min days (len - first)) :
    Calls Tryz.prog 124 #[.slice (some ⟨b, off, none⟩) len cap, .int .i64 n, .int .i64 m] w (fun e w' => e = .returned (.slice (some ⟨b, off + first, none⟩) l l) ∧ w' = w) := by
  subst hn hm
  by_cases hmin : first + days ≤ len
  · obtain rfl : l = days := by omega
    have e1 : (first : Int) + (l : Int) ≤ (len : Int) := by omega
    clear hl
    go_enter Tryz.func124, Tryz.ntmps124
    go_wp2
    go_ret
    exact ⟨ret_slice (by omega) (by omega), rfl⟩
  · have e1 : ¬ (first : Int) + (days : Int) ≤ (len : Int) := by omega
    obtain rfl : l = len - first := by omega
    clear hl
    go_enter Tryz.func124, Tryz.ntmps124
    go_wp2
    go_ret
    exact ⟨ret_slice (by omega) (by omega), rfl⟩
/-- the boxes of a closure over the list and the costs -/
structure LotBox (wr : World) (n : Nat) (a : Option Addr) (len cap : Nat) (s h : Int) : Prop where
  list : wr.cell? ⟨n, 0, none⟩ = some (.slice a len cap)
  set : wr.cell? ⟨n + 1, 0, none⟩ = some (.int .i64 s)
  hold : wr.cell? ⟨n + 2, 0, none⟩ = some (.int .i64 h)
theorem LotBox.below {wr w' : World} {n m : Nat} {a : Option Addr} {len cap : Nat} {s h : Int} (d : LotBox wr n a len cap s h) (hb : Below m wr w') (hm : n + 2 < m) : LotBox w' n a len cap s h :=
  ⟨(hb.cell (p := ⟨n, 0, none⟩) (by show n < m; omega)).trans d.list, (hb.cell (p := ⟨n + 1, 0, none⟩) (by show n + 1 < m; omega)).trans d.set, (hb.cell (p := ⟨n + 2, 0, none⟩) (by show n + 2 < m; omega)).trans d.hold⟩
set_option maxRecDepth 100000 in
set_option maxHeartbeats 4000000 in
theorem bestDays_any (S : Nat → Prop) (n bl b off len cap : Nat) (xs : List Int) (s h : Int) (f : Nat → Int) (i : Nat) (w : World) (hx : IntsAt w S (some ⟨b, off, none⟩) len xs) (hcap : len ≤ cap) (hl8 : len ≤ 8) (hv : ∀ k, 0 ≤ xs.getD k 0 ∧ xs.getD k 0 ≤ 20) (hs : 0 ≤ s ∧ s ≤ 30) (hh : 0 ≤ h ∧ h ≤ 30)
    (hB : LotBox w n (some ⟨b, off, none⟩) len cap s h) (hA : Arr9 w bl f) (hf : ∀ q, q ≤ len → f q = bst xs s h q) (hi : i < len) :
    Calls Tryz.prog 122 #[.int .i64 i, .pointer (some ⟨n, 0, none⟩), .pointer (some ⟨n + 1, 0, none⟩), .pointer (some ⟨n + 2, 0, none⟩), .pointer (some ⟨bl, 0, none⟩)] w (fun e w' => e = .returned (.int .i64 ((nxB xs s h i - i : Nat) : Int)) ∧ ∃ q, w' = w.drewN q) := by
  have HL := Lib.hid hx.lenEq
  obtain ⟨⟨hn1, hn2⟩, hn3, hn4⟩ := nxB_spec (xs := xs) (s := s) (h := h) (i := i) (by rw [HL.out]; exact hi)
  rw [HL.out] at hn2 hn4
  have HV := Lib.hid hv
  have HN3 := Lib.hid hn3
  have HN4 := Lib.hid hn4
  have HA := Lib.hid hA
  have HF := Lib.hid hf
  have HBX := Lib.hid hB
  have c1 := hB.list
  have hil : (i : Int) ≤ (len : Int) := by omega
  clear hn3 hn4 hA hf hB hv
  generalize nxB xs s h i = nx at *
  go_enter Tryz.func122, Tryz.ntmps122
  go_wp2_with fail
  go_loopw [7] (fun v wr => ∃ d : Nat, nx - i ≤ d ∧ d ≤ len - i ∧ v = .int .i64 (d : Int) ∧ Drew w wr) (fun v _ => (intOf v).toNat)
  case atStart => exact ⟨len - i, by omega, by omega, by congr 1; omega, Drew.refl _⟩
  case round =>
    obtain ⟨d, hd1, hd2, rfl, hdw⟩ := hrel
    have hd0 : 1 ≤ d := by omega
    have HDW := Lib.hid hdw
    have hAr : Arr9 wr bl f := by obtain ⟨z, rfl⟩ := hdw; exact HA.out
    have hBr : LotBox wr n (some ⟨b, off, none⟩) len cap s h := by obtain ⟨z, rfl⟩ := hdw; exact ⟨HBX.out.list, HBX.out.set, HBX.out.hold⟩
    have b1 := hBr.list
    have b2 := hBr.set
    have b3 := hBr.hold
    have e1 := (hAr i (by omega)).1
    have e2 := (hAr (i + d) (by omega)).1
    rw [HF.out i (by omega)] at e1
    rw [HF.out (i + d) (by omega)] at e2
    have hle := bst_le_run (s := s) (h := h) (xs := xs) (i := i) (d := d) hd0 (by rw [HL.out]; omega)
    have hrb := runD_bd HV.out (s := s) (h := h) (by omega) (by omega) i d (by omega)
    have hbb := bst_bd (s := s) (h := h) (i := i + d) (by rw [HL.out]; exact hl8) HV.out (by omega) (by omega) (by rw [HL.out]; omega)
    have hbi := bst_bd (s := s) (h := h) (i := i) (by rw [HL.out]; exact hl8) HV.out (by omega) (by omega) (by rw [HL.out]; omega)
    have HDF := Lib.hid (fun z => daysFrom_at S b off len cap xs i d i d d (wr.drewN z) (Drew.ints hx (by obtain ⟨y, rfl⟩ := HDW.out; exact ⟨y + z, World.drewN_drewN _ _ _⟩)) hcap hl8 rfl rfl hi hd0 (by omega) (by omega))
    have HCO := Lib.hid (fun z => costPart_any S b off len d xs s h i (i + d) d (wr.drewN z) (Drew.ints hx (by obtain ⟨y, rfl⟩ := HDW.out; exact ⟨y + z, World.drewN_drewN _ _ _⟩)) hl8 HV.out hs hh (by omega) (by omega) (by omega))
    have HEQ := Lib.hid (show d = nx - i → runD xs s h i d + bst xs s h (i + d) = bst xs s h i from fun e => by
      have := HN3.out; rw [e, show i + (nx - i) = nx by omega]; exact this)
    have HNE := Lib.hid (show nx - i < d → runD xs s h i d + bst xs s h (i + d) ≠ bst xs s h i from fun e => by
      have := HN4.out (i + d) (by omega) (by omega); rwa [show i + d - i = d by omega] at this)
    clear hBr hAr hdw c1
    generalize runD xs s h i d = r at *
    generalize bst xs s h (i + d) = bd at *
    generalize bst xs s h i = bi at *
    have hw1 : IntKind.i64.wrap (r + bd) = r + bd := IntWalk.i64_in _ (by omega)
    have hid9 : i + d < 9 := by omega
    have hid9' : (i : Int) + (d : Int) < 9 := by omega
    have hi9 : i < 9 := by omega
    have hi9' : (i : Int) < 9 := by omega
    by_cases hnx : nx - i < d
    · have hgt : bi < r + bd := by have := HNE.out hnx; omega
      go_wp2_with fail
      go_quiet (first | (go_at_call 124; with_reducible exact Calls.quiet_of_same (HDF.out _)) | (go_at_call 123; with_reducible exact Calls.quiet_of_same (HCO.out _)))
      clear hw1 e1 e2 b1 b2 b3
      go_wp2_with fail
      go_roundw
      case rel => exact ⟨d - 1, by omega, by omega, by congr 1; omega, HDW.out.drew _⟩
      case measure => simp [intOf] <;> omega
    · have hde : d = nx - i := by omega
      have hgt : ¬ bi < r + bd := by have := HEQ.out hde; omega
      have HDE := Lib.hid hde
      clear hde
      go_wp2_with fail
      go_quiet (first | (go_at_call 124; with_reducible exact Calls.quiet_of_same (HDF.out _)) | (go_at_call 123; with_reducible exact Calls.quiet_of_same (HCO.out _)))
      clear hw1 e1 e2 b1 b2 b3
      go_wp2_with fail
      go_ret
      obtain ⟨y, rfl⟩ := HDW.out
      exact ⟨ret_int (by rw [HDE.out]), y + nq, World.drewN_drewN _ _ _⟩
set_option maxRecDepth 100000 in
set_option maxHeartbeats 4000000 in
theorem madeByBest_any (n bl : Nat) (a : Option Addr) (len cap : Nat) (xs : List Int) (s h : Int) (f : Nat → Int) (w : World) (hx : IntsAt w (· < w.heap.size) a len xs) (hcap : len ≤ cap) (hl8 : len ≤ 8) (hv : ∀ k, 0 ≤ xs.getD k 0 ∧ xs.getD k 0 ≤ 20) (hs : 0 ≤ s ∧ s ≤ 30) (hh : 0 ≤ h ∧ h ≤ 30)
    (hB : LotBox w n a len cap s h) (hA : Arr9 w bl f) (hf : ∀ q, q ≤ len → f q = bst xs s h q) (hn : n + 2 < w.heap.size) (hbl : bl < w.heap.size) :
    Calls Tryz.prog 121 #[.slice a len cap, .func (.func 122) #[] #[.pointer (some ⟨n, 0, none⟩), .pointer (some ⟨n + 1, 0, none⟩), .pointer (some ⟨n + 2, 0, none⟩), .pointer (some ⟨bl, 0, none⟩)]] w (ResPostC w (bestLotsM xs s h)) := by
  have HL := Lib.hid hx.lenEq
  have HV := Lib.hid hv
  have HBX := Lib.hid hB
  have HA := Lib.hid hA
  have HF := Lib.hid hf
  have hmk := fun w => run_make_row' (P := Tryz.prog) 35 3 (.int .i64 0) 8 Tryz.underlying35 Tryz.infoIntMB rfl .i64 .i64 len (by omega) (by omega) w
  have HO0 := Lib.hid ((OwnF.start w len (by omega)).congr (g := madeTo (nxB xs s h) xs 0) (fun q _ => by unfold madeTo; rw [if_neg (by omega)]))
  clear hB hA hf hv
  go_enter Tryz.func121, Tryz.ntmps121
  go_wp2_with fail
  clear hmk
  go_loopw [6] (fun iv wr => ∃ v : Nat, v ≤ len ∧ (v < len → owner (nxB xs s h) v = v) ∧ iv = .int .i64 (v : Int) ∧ OwnF w wr len (madeTo (nxB xs s h) xs v)) (fun iv _ => len - (intOf iv).toNat)
  case atStart => exact ⟨0, Nat.zero_le _, fun _ => rfl, rfl, HO0.out⟩
  case round =>
    clear HO0
    obtain ⟨i, hi, ho, rfl, hC⟩ := hrel
    have HC := Lib.hid hC
    clear hC
    by_cases hil : i < len
    · have hilx : i < xs.length := by rw [HL.out]; exact hil
      have hnn := nxB_nexts xs s h i hilx
      rw [HL.out] at hnn
      obtain ⟨hn1, hn2⟩ := hnn
      have HNX := Lib.hid (madeTo_next (nxB_nexts xs s h) hilx (ho hil))
      have HNO := Lib.hid (fun hlt => owner_next (ho hil) hn1 : nxB xs s h i < len → _)
      have HNP := Lib.hid (made_part (xs := xs) (i := i) (k := nxB xs s h i) (by omega) (by rw [HL.out]; exact hn2))
      have hxw := hx.below HC.out.below
      obtain ⟨b, off, hab, hbS, _⟩ := hx.cells (by omega)
      subst hab
      have HCL := Lib.hid (bestDays_any _ n bl b off len cap xs s h f i wr hxw hcap hl8 HV.out hs hh (HBX.out.below HC.out.below hn) (HA.out.below HC.out.below hbl) HF.out hil)
      clear ho
      generalize nxB xs s h i = nx at *
      obtain ⟨d, hd⟩ : ∃ d, nx - i = d := ⟨_, rfl⟩
      rw [hd] at HCL
      have hd2 : nx = i + d := by omega
      subst hd2
      clear hd
      have hd1 : 1 ≤ d := by omega
      have hd9 : d ≤ 9 := by omega
      go_wp2_with fail
      refine HCL.out.mono ?_
      rintro e w2 ⟨rfl, z, rfl⟩
      have HC2 := Lib.hid (HC.out.drew z)
      have hx2 := hx.below HC2.out.below
      obtain ⟨wd, hwd⟩ : ∃ wd, wr.drewN z = wd := ⟨_, rfl⟩
      rw [hwd] at HC2 hx2 ⊢
      clear hwd hxw
      go_wp2_with fail
      refine (daysFrom_at _ b off len cap xs _ _ i d d _ hx2 hcap hl8 rfl rfl hil hd1 hd9 (by omega)).mono ?_
      rintro e w' ⟨rfl, rfl⟩
      have hpart := ints_part hx2 i (i + d) (by omega) hn2
      rw [show i + d - i = d by omega] at hpart
      have HNP2 := Lib.hid (show totalM ((xs.drop i).take d) = sumN xs (i + d) - sumN xs i by have := HNP.out; rwa [show i + d - i = d by omega] at this)
      have hil3 : (i : Int) < (len : Int) := by omega
      obtain ⟨e1, f1⟩ := HC2.out.cell hil
      go_wp2_with fail
      refine (sumOf_any _ _ d d _ w' hpart (fun y hy => days_mem HV.out y (List.mem_of_mem_drop (List.mem_of_mem_take hy))) (by omega)).mono ?_
      rintro e w'' ⟨rfl, rfl⟩
      rw [HNP2.out]
      go_wp2_with fail
      go_roundw
      case rel => exact ⟨i + d, hn2, fun hlt => HNO.out hlt, by go_num, (HC2.out.put i _).congr (fun z _ => HNX.out z)⟩
      case measure => simp [intOf] <;> omega
    · obtain rfl : i = len := by omega
      have HE := Lib.hid (show bestLotsM xs s h = tab (madeTo (nxB xs s h) xs i) i by
        unfold bestLotsM madeM
        rw [HL.out]
        exact tab_congr (fun q hq => by unfold madeTo; rw [if_pos hq]))
      go_wp2_with fail
      go_ret
      rw [HE.out]
      exact resPostC_of (resPost_block (tab_length _ _) (by omega) (fun q x hx => by
        obtain ⟨rfl, hq⟩ := tab_get hx
        exact HC.out.cell hq) HC.out.below) (Nat.le_refl _)
set_option maxRecDepth 100000 in
set_option maxHeartbeats 2000000 in
theorem bestLots_impl (a : Option Addr) (len cap : Nat) (xs : List Int) (s h : Int) (w : World) (hx : IntsAt w (· < w.heap.size) a len xs) (hcap : len ≤ cap) :
    Calls Tryz.prog 92 #[.slice a len cap, .int .i64 s, .int .i64 h] w (ResPostC w (bestRes xs s h)) := by
  have HL := Lib.hid hx.lenEq
  have z4 := cell_new_l w (.slice a len cap) 35
  have z5 := cell_new_l (w.alloc (.cells #[.slice a len cap] 35)) (.int .i64 s) 3
  have z6 := cell_new_l ((w.alloc (.cells #[.slice a len cap] 35)).alloc (.cells #[.int .i64 s] 3)) (.int .i64 h) 3
  simp only [World.size_alloc] at z5 z6
  obtain ⟨w0, hw0⟩ : ∃ w0, (((w.alloc (.cells #[.slice a len cap] 35)).alloc (.cells #[.int .i64 s] 3)).alloc (.cells #[.int .i64 h] 3)) = w0 := ⟨_, rfl⟩
  have hB0 : LotBox w0 w.heap.size a len cap s h := by rw [← hw0]; exact ⟨cell_alloc_l _ (cell_alloc_l _ z4.1), cell_alloc_l _ z5.1, z6.1⟩
  have hb0 : Below w.heap.size w w0 := by rw [← hw0]; exact ((((Below.refl w.heap.size w).alloc (by simp) _).alloc (by simp <;> omega) _).alloc (by simp <;> omega) _)
  have hsz0 : w0.heap.size = w.heap.size + 3 := by rw [← hw0]; simp
  have hx0 : IntsAt w0 (· < w0.heap.size) a len xs := ints_lift hx hb0
  have HW0 := Lib.hid hw0
  have HB0 := Lib.hid hb0
  have HSZ := Lib.hid hsz0
  have HBX := Lib.hid hB0
  have b1 := hB0.list
  have b2 := hB0.set
  have b3 := hB0.hold
  rw [show w.heap.size + 1 = w.heap.size + 1 from rfl] at b2
  clear z4 z5 z6 hw0 hb0 hsz0 hB0
  cases hvd : validDaysM xs
  · have hv : validLotsM xs s h = false := by unfold validLotsM; rw [hvd]; rfl
    rw [bestRes_no hv]
    have HVD := Lib.hid hvd
    clear hv hvd
    go_enter Tryz.func92, Tryz.ntmps92
    go_wp2_with fail
    rw [HW0.out]
    refine (validDays_impl _ _ _ _ xs _ hx0).mono ?_
    rintro e w' ⟨rfl, rfl⟩
    rw [HVD.out]
    go_wp2_with fail
    go_ret
    exact ⟨none, 0, 0, rfl, ⟨rfl, Nat.zero_le _, fun h => absurd h (by omega)⟩, ⟨Nat.zero_le _, fun h => absurd h (by omega)⟩, Nat.le_refl _, HB0.out⟩
  · have HVD := Lib.hid hvd
    cases hc : (inB 0 30 s && inB 0 30 h)
    · have hv : validLotsM xs s h = false := by unfold validLotsM; rw [Bool.and_assoc, hc]; simp
      rw [bestRes_no hv]
      have HC := Lib.hid hc
      clear hv hvd hc
      go_enter Tryz.func92, Tryz.ntmps92
      go_wp2_with fail
      rw [HW0.out]
      refine (validDays_impl _ _ _ _ xs _ hx0).mono ?_
      rintro e w' ⟨rfl, rfl⟩
      rw [HVD.out]
      go_wp2_with fail
      refine (areCosts_any _ _ _).mono ?_
      rintro e w' ⟨rfl, rfl⟩
      rw [HC.out]
      go_wp2_with fail
      go_ret
      exact ⟨none, 0, 0, rfl, ⟨rfl, Nat.zero_le _, fun h => absurd h (by omega)⟩, ⟨Nat.zero_le _, fun h => absurd h (by omega)⟩, Nat.le_refl _, HB0.out⟩
    · have hv : validLotsM xs s h = true := by unfold validLotsM; rw [Bool.and_assoc, hc, hvd]; rfl
      have HC := Lib.hid hc
      have hl8 : len ≤ 8 := by have := validDays_len hvd; have := HL.out; omega
      have HAT := Lib.hid (validDays_at hvd)
      obtain ⟨_, hs, hh⟩ := validLots_get hv
      rw [bestRes_yes hv]
      clear hv hvd hc
      go_enter Tryz.func92, Tryz.ntmps92
      go_wp2_with fail
      rw [HW0.out]
      refine (validDays_impl _ _ _ _ xs _ hx0).mono ?_
      rintro e w' ⟨rfl, rfl⟩
      rw [HVD.out]
      go_wp2_with fail
      refine (areCosts_any _ _ _).mono ?_
      rintro e w' ⟨rfl, rfl⟩
      rw [HC.out]
      go_wp2_with fail
      refine (leastByDay_any a len cap xs s h _ hx0 hcap hl8 HAT.out hs hh).mono ?_
      rintro e w1 ⟨⟨f, rfl, hf⟩, hb1⟩
      have HF := Lib.hid hf
      unfold agg9
      have hA2 := Arr9.new w1 f 147
      have hb12 := (Below.refl w1.heap.size w1).alloc (Nat.le_refl _) (.cells #[.int .i64 (f 0), .int .i64 (f 1), .int .i64 (f 2), .int .i64 (f 3), .int .i64 (f 4), .int .i64 (f 5), .int .i64 (f 6), .int .i64 (f 7), .int .i64 (f 8)] 147)
      have hsz2 : (w1.alloc (.cells #[.int .i64 (f 0), .int .i64 (f 1), .int .i64 (f 2), .int .i64 (f 3), .int .i64 (f 4), .int .i64 (f 5), .int .i64 (f 6), .int .i64 (f 7), .int .i64 (f 8)] 147)).heap.size = w1.heap.size + 1 := by simp
      obtain ⟨w2, hw2⟩ : ∃ w2, (w1.alloc (.cells #[.int .i64 (f 0), .int .i64 (f 1), .int .i64 (f 2), .int .i64 (f 3), .int .i64 (f 4), .int .i64 (f 5), .int .i64 (f 6), .int .i64 (f 7), .int .i64 (f 8)] 147)) = w2 := ⟨_, rfl⟩
      rw [hw2] at hA2 hb12 hsz2
      have HW2 := Lib.hid hw2
      have hsz1 := hb1.size
      have HB1 := Lib.hid hb1
      have hb02 := hb1.trans (hb12.mono hsz1)
      have hx2 := ints_lift hx0 hb02
      have HBX2 := Lib.hid (HBX.out.below hb02 (by have := HSZ.out; omega))
      have b4 := HBX2.out.list
      rw [← hw2] at b4
      have b5 := (HBX.out.below hb1 (by have := HSZ.out; omega)).list
      have hlt1 : w.heap.size < w1.heap.size := by have := HSZ.out; omega
      have HA2 := Lib.hid hA2
      have HB02 := Lib.hid hb02
      have HS2 := Lib.hid hsz2
      have HS1 := Lib.hid hsz1
      clear b1 b2 b3 hw2 hA2 hb12 hb1 hf hsz2 hb02 hsz1
      go_wp2_with fail
      rw [HW2.out]
      refine (madeByBest_any w.heap.size w1.heap.size a len cap xs s h f w2 hx2 hcap hl8 HAT.out hs hh HBX2.out HA2.out HF.out (by have := HSZ.out; have := HS2.out; have := HS1.out; omega) (by have := HS2.out; omega)).mono ?_
      rintro e w3 ⟨a3, l3, c3, rfl, h3, g3, hc3, hb3⟩
      have hfin : w.heap.size ≤ w2.heap.size := by have := HSZ.out; have := HS2.out; have := HS1.out; omega
      have hbz := HB0.out.trans ((HB02.out.mono (show w.heap.size ≤ w0.heap.size by have := HSZ.out; omega)).trans (hb3.mono hfin))
      go_wp2_with fail
      go_ret
      exact ⟨a3, l3, c3, rfl, h3.to (fun b hb => ⟨⟨Nat.le_trans hfin hb.1, hb.2⟩, rfl⟩), g3.to (fun b hb => ⟨⟨Nat.le_trans hfin hb.1, hb.2⟩, rfl⟩), hc3, hbz⟩
end Go.Proofs.YtjcbpnffmebihaaGreatDoor
namespace Go.Proofs.YtjcbpnffmebihaaGreatDoor
open Go.RowKit Go.WideShapes

-- chapter 11's code: ValidCuts, LeastRolls
theorem fromOne11 (n hi : Int) (w : World) {b : Bool} (hb : inB 1 hi n = b) :
    Calls Tryz.prog 125 #[.int .i64 n, .int .i64 hi] w fun e w' => e = .returned (.bool b) ∧ w' = w := by
  subst hb
  by_cases h1 : 1 ≤ n
  · by_cases h2 : n ≤ hi
    · go_enter Tryz.func125, Tryz.ntmps125
      go_wp2
      go_ret
      exact ⟨ret_bool (inB_true h1 h2).symm, rfl⟩
    · go_enter Tryz.func125, Tryz.ntmps125
      go_wp2
      go_ret
      exact ⟨ret_bool (inB_hi (by omega)).symm, rfl⟩
  · go_enter Tryz.func125, Tryz.ntmps125
    go_wp2
    go_ret
    exact ⟨ret_bool (inB_lo (by omega)).symm, rfl⟩
set_option maxRecDepth 100000 in
set_option maxHeartbeats 2000000 in
theorem vCuts_impl (S : Nat → Prop) (a : Option Addr) (len cap : Nat) (xs : List Int) (R : Int) (w : World) (h : IntsAt w S a len xs) :
    Calls Tryz.prog 94 #[.slice a len cap, .int .i64 R] w fun e w' => e = .returned (.bool (cutsM xs R)) ∧ w' = w := by
  have hs := h.small
  have HL := Lib.hid h.lenEq
  by_cases h7 : (len : Int) > 7
  · have HF := Lib.hid (show cutsM xs R = false by unfold cutsM; rw [HL.out, decide_eq_false (by omega)]; simp)
    go_enter Tryz.func94, Tryz.ntmps94
    go_wp2_with fail
    go_ret
    exact ⟨ret_bool HF.out.symm, rfl⟩
  · cases hR : inB 1 20 R
    · have HF := Lib.hid (show cutsM xs R = false by unfold cutsM; rw [hR]; simp)
      go_enter Tryz.func94, Tryz.ntmps94
      go_wp2_with (go_at_call 125; refine (fromOne11 _ _ _ hR).mono ?_; rintro e w' ⟨rfl, rfl⟩)
      go_ret
      exact ⟨ret_bool HF.out.symm, rfl⟩
    · have HC := Lib.hid (show cutsM xs R = allIn 1 R xs by unfold cutsM; rw [hR, HL.out, decide_eq_true (by omega)]; simp)
      go_enter Tryz.func94, Tryz.ntmps94
      go_wp2_with (go_at_call 125; refine (fromOne11 _ _ _ hR).mono ?_; rintro e w' ⟨rfl, rfl⟩)
      clear hR
      go_loop [17] (fun i => ∃ k : Nat, k ≤ len ∧ i = .int .i64 k ∧ allIn 1 R (xs.take k) = true) (fun i => len - (intOf i).toNat)
      case atStart => exact ⟨0, Nat.zero_le _, rfl, rfl⟩
      case round =>
        obtain ⟨k, hk, rfl, ha⟩ := hrel
        have HA := Lib.hid ha
        clear ha
        by_cases hlt : k < len
        · have hkI : (k : Int) < (len : Int) := by omega
          obtain ⟨b, off, x, rfl, hx, hc⟩ := h.get hlt
          have HX := Lib.hid hx
          clear hx
          cases hq : inB 1 R x
          · have HF := Lib.hid (show cutsM xs R = false by rw [HC.out, allIn_false HX.out hq])
            go_wp2_with (go_at_call 125; refine (fromOne11 _ _ _ hq).mono ?_; rintro e w' ⟨rfl, rfl⟩)
            go_ret
            exact ⟨ret_bool HF.out.symm, rfl⟩
          · go_wp2_with (go_at_call 125; refine (fromOne11 _ _ _ hq).mono ?_; rintro e w' ⟨rfl, rfl⟩)
            go_round
            case rel => exact ⟨k + 1, by omega, by go_num, allIn_step HX.out HA.out hq⟩
            case measure => simp [intOf]; omega
        · obtain rfl : k = len := by omega
          have hkI : ¬ (k : Int) < (k : Int) := by omega
          have ha := HA.out
          rw [List.take_of_length_le (by rw [HL.out]; omega)] at ha
          have HT := Lib.hid (show cutsM xs R = true by rw [HC.out, ha])
          clear ha
          go_wp2_with fail
          go_ret
          exact ⟨ret_bool HT.out.symm, rfl⟩
theorem vcutsI {S : Nat → Prop} {a : Option Addr} {len cap : Nat} {xs : List Int} {R : Int} {b : Bool} (hb : cutsM xs R = b) (w : World) (h : IntsAt w S a len xs) : Calls Tryz.prog 94 #[.slice a len cap, .int .i64 R] w fun e w' => e = .returned (.bool b) ∧ w' = w := by
  subst hb; exact vCuts_impl S a len cap xs R w h
end Go.Proofs.YtjcbpnffmebihaaGreatDoor
namespace Go.Proofs.YtjcbpnffmebihaaGreatDoor
open Go.RowKit Go.WideShapes

-- chapter 11's code: rolls of plain cuts
def encP (y : Int) : List Value := [.int .i64 y]
def RollsP (w : World) (B r : Nat) (R : Int) (v : Value) (vs : List Value) (rows : List (List Int)) : Prop := RollsW encP 1 154 150 151 w B r R v vs rows
theorem encP_flat (l : List Int) : l.flatMap encP = l.map (.int .i64) := by
  induction l with
  | nil => rfl
  | cons a l ih => rw [List.flatMap_cons, ih]; rfl
theorem own_intsP {w : World} {B : Nat} {e : TypeId} {u : Value} {n : Nat} {l : List Int} (h : w.ownsRow B e 1 u n (l.map (.int .i64))) : ∃ a c, u = .slice a n c ∧ n ≤ c ∧ IntsAt w (fun b => B ≤ b ∧ b < w.heap.size) a n l := by
  obtain ⟨a, c, rfl, hc⟩ := own_slice h
  have hl : l.length = n := by have := h.1; simpa using this
  refine ⟨a, c, rfl, hc, hl, ?_, fun h0 => ?_⟩
  · rcases h.2 with ⟨_, rfl⟩ | ⟨g, cap, cur, _, _, _, h1, h2, _⟩
    · omega
    · unfold maxLen at h2; omega
  · obtain ⟨g, cap, e, hb, hlt⟩ := h.form h0
    injection e with e1 e2 e3
    refine ⟨g, 0, e1, ⟨hb, hlt⟩, fun i x hx => ?_⟩
    have hx' : (l.map (Value.int .i64))[i]? = some (.int .i64 x) := by rw [List.getElem?_map, hx]; rfl
    have := h.cells (g := g) (by rw [e1]; rfl) i _ hx'
    rwa [add_plain] at this
theorem lenP_meth (y : Int) : ∀ (k : Nat) (w : World), (method (k + 1) 151 (.int .i64 y) "loop.example/shopsthatmake/impl.length").run Tryz.prog w = .ok (157, (.int .i64 y)) w := fun _ _ => by kernel_rfl
set_option maxRecDepth 100000 in
theorem lenP_any (y : Int) (w : World) : Calls Tryz.prog 157 #[.int .i64 y] w fun e w' => e = .returned (.int .i64 y) ∧ w' = w := by
  go_enter Tryz.func157, Tryz.ntmps157
  go_wp2
  go_ret
  exact ⟨rfl, rfl⟩
set_option maxRecDepth 100000 in
set_option maxHeartbeats 2000000 in
theorem hasRoomP_any {w : World} {B r : Nat} {R : Int} {v : Value} {vs : List Value} {rows : List (List Int)} {n : Nat} (h : RollsP w B r R v vs rows) (hok : RowsOk id rows n) (hn : n ≤ 20) (hR : 0 ≤ R ∧ R ≤ 20) {k : Nat} (hk : k ≤ rows.length) (y : Int) :
    Calls Tryz.prog 152 #[.pointer (some ⟨r, 0, none⟩), .int .i64 k, .int .i64 y] w fun e w' => e = .returned (.bool (hasR R (loadsOf id rows) k y)) ∧ w' = w := by
  obtain ⟨c0, c1, _⟩ := h.cells
  have hlen := hok.len
  obtain ⟨av, cv, hv, hcv⟩ := own_slice h.outer
  rw [hv] at c1
  by_cases hkn : k = rows.length
  · have HF := Lib.hid (show hasR R (loadsOf id rows) k y = true by unfold hasR; rw [loads_len, decide_eq_true hkn]; rfl)
    subst hkn
    clear hv hok h
    go_enter Tryz.func152, Tryz.ntmps152
    go_wp2_with fail
    go_ret
    exact ⟨ret_bool HF.out.symm, rfl⟩
  · have hkl : k < rows.length := by omega
    have HF := Lib.hid (show hasR R (loadsOf id rows) k y = decide (y ≤ R - sumI (rows.getD k [])) by unfold hasR; rw [loads_len, decide_eq_false hkn, loads_get]; simp)
    obtain ⟨g, cap, hv2, _, _⟩ := h.outer.form (by omega)
    have ho := h.outer
    rw [hv2] at ho hv
    injection hv with hv1 _ hv3
    subst hv1 hv3
    obtain ⟨u, hu⟩ : ∃ u, vs[k]? = some u := ⟨vs[k]'(by rw [h.lenV]; exact hkl), List.getElem?_eq_getElem _⟩
    have cr := (ho.cellAt k (by omega)).trans hu
    have hrow := h.row k u hu
    rw [encP_flat] at hrow
    obtain ⟨au, cu, rfl, hcu, hints⟩ := own_intsP hrow
    have hrl := hok.row k
    have hrv := hok.val k
    obtain ⟨l, hl⟩ : ∃ l, rows.getD k [] = l := ⟨_, rfl⟩
    rw [hl] at hints hrl hrv HF cr
    have hbd := fun j hj => sumI_bd hrv j hj
    have HB := Lib.hid hbd
    obtain ⟨m, hm⟩ : ∃ m, l.length = m := ⟨_, rfl⟩
    rw [hm] at hints cr hrl
    have HM := Lib.hid hm
    have HI := Lib.hid hints
    have hknI : ¬ (k : Int) = (rows.length : Int) := by omega
    have hklI : (k : Int) < (rows.length : Int) := by omega
    obtain ⟨N, hN⟩ : ∃ N, rows.length = N := ⟨_, rfl⟩
    rw [hN] at c1 hkl hknI hklI hlen
    have hmeth := lenP_meth
    clear hok h ho hu hrow hints hrv hbd hv2 hl hm hN hkn hcv hcu
    go_enter Tryz.func152, Tryz.ntmps152
    go_wp2_with fail
    go_loop [7, 29] (fun s i => ∃ j : Nat, j ≤ m ∧ i = .int .i64 j ∧ s = .int .i64 (R - wsum (lenT l) (fun _ => true) j)) (fun _ i => m - (intOf i).toNat)
    case atStart => exact ⟨0, Nat.zero_le _, rfl, by simp [wsum]⟩
    case round =>
      obtain ⟨j, hj, rfl, rfl⟩ := hrel
      have hsb := HB.out j (by rw [HM.out]; exact hj)
      by_cases hlt : j < m
      · have hjI : (j : Int) < (m : Int) := by omega
        obtain ⟨b, off, x, rfl, hx, hc⟩ := HI.out.get hlt
        have HST := Lib.hid (show wsum (lenT l) (fun _ => true) (j + 1) = wsum (lenT l) (fun _ => true) j + x by rw [sumI_pre l j (by rw [HM.out]; exact hlt), getD_of hx])
        have hxb := HB.out (j + 1) (by rw [HM.out]; exact hlt)
        rw [HST.out] at hxb
        obtain ⟨s, hs⟩ : ∃ s, wsum (lenT l) (fun _ => true) j = s := ⟨_, rfl⟩
        rw [hs] at hsb hxb HST ⊢
        push_cast at hxb
        clear hs hx
        go_wp2_with (first | (go_at_call 157; refine (lenP_any _ _).mono ?_; rintro e w' ⟨rfl, rfl⟩) | fail)
        go_round
        case rel => exact ⟨j + 1, by omega, by go_num, by rw [HST.out]; simp; omega⟩
        case measure => simp [intOf]; omega
      · obtain rfl : j = m := by omega
        have hjI : ¬ (j : Int) < (j : Int) := by omega
        have HS := Lib.hid (show sumI l = wsum (lenT l) (fun _ => true) j by unfold sumI; rw [HM.out])
        obtain ⟨s, hs⟩ : ∃ s, wsum (lenT l) (fun _ => true) j = s := ⟨_, rfl⟩
        rw [hs] at HS ⊢
        clear hs
        go_wp2_with (first | (go_at_call 157; refine (lenP_any _ _).mono ?_; rintro e w' ⟨rfl, rfl⟩) | fail)
        go_ret
        exact ⟨ret_bool (by rw [HF.out, HS.out]), rfl⟩
end Go.Proofs.YtjcbpnffmebihaaGreatDoor
