import Derived.Test.YtkebdelfklmigadRows
import Derived.WalkKit
import Derived.LoopTactic
import Derived.Outline
import Derived.WalkSpells
import Derived.WalkLawsBesides
import Derived.ProofKit
import Derived.Test.YtkebdelfklmigadM0
import Derived.Test.YtkebdelfklmigadM1
import Derived.Test.YtkebdelfklmigadM2
import Derived.Test.YtkebdelfklmigadM3
import Derived.Test.YtkebdelfklmigadM4
import Derived.Test.YtkebdelfklmigadM5
import Derived.Lib.Hide
import Derived.IntWalk
import Derived.Deep.QuietTactic
import Derived.BigQuiet
namespace Go.Proofs.Ytkebdelfklmigad
open Go.RowKit Go.WideShapes

/-- a drawn net -/
def DrawnN (w : World) (e : Ending) (w' : World) : Prop := ∃ (d : NV) (ts : List Int) (rows : List (List Int)), e = .returned (.agg #[.slice d.aT d.lT d.cT, .slice d.aW d.lW d.cW]) ∧ NetAt w' (· < w'.heap.size) d ts rows ∧ d.lT ≤ 4 ∧ d.lW ≤ 8 ∧ Below w.heap.size w w'
/-- and rounds -/
def DrawnNR (w : World) (e : Ending) (w' : World) : Prop := ∃ (d : NV) (ts : List Int) (rows : List (List Int)) (n : Nat), e = .returned (.tuple #[.agg #[.slice d.aT d.lT d.cT, .slice d.aW d.lW d.cW], .int .i64 n]) ∧ NetAt w' (· < w'.heap.size) d ts rows ∧ d.lT ≤ 4 ∧ d.lW ≤ 8 ∧ n ≤ 41 ∧ Below w.heap.size w w'
theorem bytes_up {w w' : World} {a : Option Addr} {n : Nat} (h : BytesAt w w.heap.size a n) (hb : Below w.heap.size w w') : BytesAt w' w'.heap.size a n := by
  intro h0
  obtain ⟨b, off, e, hlt, hc⟩ := h h0
  refine ⟨b, off, e, Nat.lt_of_lt_of_le hlt hb.size, fun i hi => ?_⟩
  obtain ⟨x, hx, hcx⟩ := hc i hi
  exact ⟨x, hx, (hb.cell (p := ⟨b, off + i, none⟩) hlt).trans hcx⟩
theorem below_set2 {w w' : World} (h : Below w.heap.size w w') (x y : Value) : Below w.heap.size w ((w'.setCell ⟨w.heap.size, 0, none⟩ x).setCell ⟨w.heap.size, 1, none⟩ y) := (h.setCell (Nat.le_refl _) _).setCell (Nat.le_refl _) _
theorem drawPaceOf_any (a : Option Addr) (len cap : Nat) (w : World) (hb : BytesAt w w.heap.size a len) (hl : len ≤ cap) (hs : len ≤ 9223372036854775807) :
    Calls Try.prog 22 #[.slice a len cap] w (DrawnN w) := by
  have hb0 := (Below.refl w.heap.size w).alloc (Nat.le_refl _) (.cells #[.slice none 0 0, .slice none 0 0] 26)
  have ht0 := two_new w (.slice none 0 0) (.slice none 0 0) 26
  obtain ⟨w0, hw0⟩ : ∃ w0, w.alloc (.cells #[.slice none 0 0, .slice none 0 0] 26) = w0 := ⟨_, rfl⟩
  rw [hw0] at hb0 ht0
  have HW0 := Lib.hid hw0
  clear hw0
  go_enter Try.func22, Try.ntmps22
  go_wp2_with fail
  rw [HW0.out]
  refine (newReader_any a len cap w0 (bytes_up hb hb0) hl hs).mono ?_
  rintro e w1 ⟨rfl, hr, hb1⟩
  go_wp2_with fail
  refine (someNet_any w0.heap.size 0 w1 hr (by omega)).mono ?_
  rintro e w2 ⟨d, ts, rows, p2, rfl, h1, h2, h3, hr2, hp2, hg⟩
  have hlt0 := ht0.lt
  have hbb : Below w.heap.size w w2 := hb0.trans (hb1.mono hb0.size |>.trans (grown_below hg (Below.refl _ _) (by have := hb1.size; omega) |>.mono hb0.size))
  have ht2 : Two w2 w.heap.size (.slice none 0 0) (.slice none 0 0) := (ht0.block (hb1.block _ hlt0)).grown hg (by simp; omega)
  obtain ⟨⟨r0, z0⟩, r1, z1⟩ := ht2
  have hfin : DrawnN w (.returned (.agg #[.slice d.aT d.lT d.cT, .slice d.aW d.lW d.cW])) ((w2.setCell ⟨w.heap.size, 0, none⟩ (.slice d.aT d.lT d.cT)).setCell ⟨w.heap.size, 1, none⟩ (.slice d.aW d.lW d.cW)) := by
    refine ⟨d, ts, rows, rfl, h1.to fun b hb => ?_, h2, h3, below_set2 hbb _ _⟩
    have := hb1.size
    refine ⟨by simp only [World.size_setCell]; exact hb.2, ?_⟩
    rw [Below.heap_setCell _ _ _ _ (by show b ≠ w.heap.size; omega), Below.heap_setCell _ _ _ _ (by show b ≠ w.heap.size; omega)]
  have v0 : ((w2.setCell ⟨w.heap.size, 0, none⟩ (.slice d.aT d.lT d.cT)).setCell ⟨w.heap.size, 1, none⟩ (.slice d.aW d.lW d.cW)).cell? ⟨w.heap.size, 0, none⟩ = some (.slice d.aT d.lT d.cT) := ((Two.set0 ⟨⟨r0, z0⟩, r1, z1⟩ _).set1 _).1.1
  have v1 : ((w2.setCell ⟨w.heap.size, 0, none⟩ (.slice d.aT d.lT d.cT)).setCell ⟨w.heap.size, 1, none⟩ (.slice d.aW d.lW d.cW)).cell? ⟨w.heap.size, 1, none⟩ = some (.slice d.aW d.lW d.cW) := ((Two.set0 ⟨⟨r0, z0⟩, r1, z1⟩ _).set1 _).2.1
  have HFIN := Lib.hid hfin
  clear hfin h1 hbb hg hr2 hr hb1 hb0 hb ht0
  go_wp2_with fail
  refine bodyPost_ret (v := .agg #[.slice d.aT d.lT d.cT, .slice d.aW d.lW d.cW]) ?_ rfl HFIN.out
  simp [results, Try.results22, go_sem, v0, v1]
theorem rounds_n {n : Int} (h : n ∈ [5, 8, 3, 12, 0, 1, 40, 41]) : ∃ m : Nat, n = (m : Int) ∧ m ≤ 41 := by
  simp at h
  exact ⟨n.toNat, by omega, by omega⟩
set_option maxHeartbeats 1000000 in
theorem drawBeginsAt_any (a : Option Addr) (len cap : Nat) (w : World) (hb : BytesAt w w.heap.size a len) (hl : len ≤ cap) (hs : len ≤ 9223372036854775807) :
    Calls Try.prog 7 #[.slice a len cap] w (DrawnNR w) := by
  have hb0 := (Below.refl w.heap.size w).alloc (Nat.le_refl _) (.cells #[.slice none 0 0, .slice none 0 0] 26)
  have ht0 := two_new w (.slice none 0 0) (.slice none 0 0) 26
  obtain ⟨w0, hw0⟩ : ∃ w0, w.alloc (.cells #[.slice none 0 0, .slice none 0 0] 26) = w0 := ⟨_, rfl⟩
  rw [hw0] at hb0 ht0
  have HW0 := Lib.hid hw0
  clear hw0
  go_enter Try.func7, Try.ntmps7
  go_wp2_with fail
  rw [HW0.out]
  refine (newReader_any a len cap w0 (bytes_up hb hb0) hl hs).mono ?_
  rintro e w1 ⟨rfl, hr, hb1⟩
  go_wp2_with fail
  refine (someNet_any w0.heap.size 0 w1 hr (by omega)).mono ?_
  rintro e w2 ⟨d, ts, rows, p2, rfl, h1, h2, h3, hr2, hp2, hg⟩
  have hlt0 := ht0.lt
  have hw1s := hb1.size
  have hw2s := hg.size
  have hbb : Below w.heap.size w w2 := hb0.trans (hb1.mono hb0.size |>.trans (grown_below hg (Below.refl _ _) (by omega) |>.mono hb0.size))
  have ht2 : Two w2 w.heap.size (.slice none 0 0) (.slice none 0 0) := (ht0.block (hb1.block _ hlt0)).grown hg (by simp; omega)
  go_wp2_with fail
  refine (one_any (fun b => b = w2.heap.size) w0.heap.size p2 _ 8 8 [5, 8, 3, 12, 0, 1, 40, 41] _ (hr2.alloc _) (IntsAt.lit rfl rfl rfl (by omega)) (by intro b hb; have := hr2.lt; simp; omega) (by omega) (by omega)).mono ?_
  rintro e w3 ⟨n, hn, rfl, hr3, hg3⟩
  obtain ⟨m, rfl, hm⟩ := rounds_n hn
  clear hn
  have hgx : w2.grownBy w3 (some w0.heap.size) := grown_r (World.grownBy_alloc w2 _ _) hg3
  have hw3s := hgx.size
  have ht3 := ht2.grown hgx (by simp; omega)
  have hb3 : Below w.heap.size w w3 := hbb.trans (grown_below hgx (Below.refl _ _) (by omega) |>.mono (by omega))
  obtain ⟨⟨r0, z0⟩, r1, z1⟩ := ht3
  have hfin : DrawnNR w (.returned (.tuple #[.agg #[.slice d.aT d.lT d.cT, .slice d.aW d.lW d.cW], .int .i64 m])) ((w3.setCell ⟨w.heap.size, 0, none⟩ (.slice d.aT d.lT d.cT)).setCell ⟨w.heap.size, 1, none⟩ (.slice d.aW d.lW d.cW)) := by
    refine ⟨d, ts, rows, m, rfl, h1.to fun b hb => ?_, h2, h3, hm, below_set2 hb3 _ _⟩
    refine ⟨by simp only [World.size_setCell]; have h5 := hb.2; omega, ?_⟩
    rw [Below.heap_setCell _ _ _ _ (by show b ≠ w.heap.size; omega), Below.heap_setCell _ _ _ _ (by show b ≠ w.heap.size; omega)]
    exact hgx.block b hb.2 (by have h6 := hr.lt; have h7 := hb.1; simp; omega)
  have v0 : ((w3.setCell ⟨w.heap.size, 0, none⟩ (.slice d.aT d.lT d.cT)).setCell ⟨w.heap.size, 1, none⟩ (.slice d.aW d.lW d.cW)).cell? ⟨w.heap.size, 0, none⟩ = some (.slice d.aT d.lT d.cT) := ((Two.set0 ⟨⟨r0, z0⟩, r1, z1⟩ _).set1 _).1.1
  have v1 : ((w3.setCell ⟨w.heap.size, 0, none⟩ (.slice d.aT d.lT d.cT)).setCell ⟨w.heap.size, 1, none⟩ (.slice d.aW d.lW d.cW)).cell? ⟨w.heap.size, 1, none⟩ = some (.slice d.aW d.lW d.cW) := ((Two.set0 ⟨⟨r0, z0⟩, r1, z1⟩ _).set1 _).2.1
  have HFIN := Lib.hid hfin
  clear hfin h1 hbb hg hr2 hr hb1 hb0 hb ht0 ht2 hb3 hg3 hgx hr3
  go_wp2_with fail
  refine bodyPost_ret (v := .tuple #[.agg #[.slice d.aT d.lT d.cT, .slice d.aW d.lW d.cW], .int .i64 m]) ?_ rfl HFIN.out
  simp [results, Try.results7, go_sem, v0, v1]
end Go.Proofs.Ytkebdelfklmigad
namespace Go.Proofs.Ytkebdelfklmigad
open Go.RowKit

theorem inRange_any (n lo hi : Int) (w : World) :
    Calls Try.prog 37 #[.int .i64 n, .int .i64 lo, .int .i64 hi] w fun e w' => e = .returned (.bool (inB lo hi n)) ∧ w = w' := by
  by_cases h1 : lo ≤ n
  · by_cases h2 : n ≤ hi
    · go_enter Try.func37, Try.ntmps37
      go_wp2
      go_ret
      exact ⟨ret_bool (inB_true h1 h2).symm, rfl⟩
    · go_enter Try.func37, Try.ntmps37
      go_wp2
      go_ret
      exact ⟨ret_bool (inB_hi (by omega)).symm, rfl⟩
  · go_enter Try.func37, Try.ntmps37
    go_wp2
    go_ret
    exact ⟨ret_bool (inB_lo (by omega)).symm, rfl⟩
theorem isUpTo_any (n hi : Int) (w : World) :
    Calls Try.prog 30 #[.int .i64 n, .int .i64 hi] w fun e w' => e = .returned (.bool (inB 0 hi n)) ∧ w = w' := by
  by_cases h1 : 0 ≤ n
  · by_cases h2 : n ≤ hi
    · go_enter Try.func30, Try.ntmps30
      go_wp2
      go_ret
      exact ⟨ret_bool (inB_true h1 h2).symm, rfl⟩
    · go_enter Try.func30, Try.ntmps30
      go_wp2
      go_ret
      exact ⟨ret_bool (inB_hi (by omega)).symm, rfl⟩
  · go_enter Try.func30, Try.ntmps30
    go_wp2
    go_ret
    exact ⟨ret_bool (inB_lo (by omega)).symm, rfl⟩
theorem allUpTo_any (S : Nat → Prop) (a : Option Addr) (len cap : Nat) (xs : List Int) (lim : Int) (w : World) (h : IntsAt w S a len xs) :
    Calls Try.prog 50 #[.slice a len cap, .int .i64 lim] w fun e w' => e = .returned (.bool (allIn 0 lim xs)) ∧ w = w' := by
  have hs := h.small
  go_enter Try.func50, Try.ntmps50
  go_wp2
  go_loop [9] (fun i => ∃ k : Nat, k ≤ len ∧ i = .int .i64 k ∧ allIn 0 lim (xs.take k) = true) (fun i => len - (intOf i).toNat)
  case atStart => exact ⟨0, Nat.zero_le _, rfl, rfl⟩
  case round =>
    obtain ⟨k, hk, rfl, ha⟩ := hrel
    have HA := Lib.hid ha
    clear ha
    by_cases hlt : k < len
    · obtain ⟨b, off, x, rfl, hx, hc⟩ := h.get hlt
      have HX := Lib.hid hx
      clear hx
      cases hq : inB 0 lim x
      · go_wp2_with (go_at_call 30; refine (isUpTo_any _ _ _).mono ?_; rintro e w' ⟨rfl, rfl⟩)
        go_ret
        exact ⟨ret_bool (allIn_false HX.out hq).symm, rfl⟩
      · go_wp2_with (go_at_call 30; refine (isUpTo_any _ _ _).mono ?_; rintro e w' ⟨rfl, rfl⟩)
        go_round
        case rel => exact ⟨k + 1, by omega, by go_num, allIn_step HX.out HA.out hq⟩
        case measure => simp [intOf]; omega
    · go_wp2
      go_ret
      have ha := HA.out
      have hl := h.lenEq
      rw [List.take_of_length_le (by omega)] at ha
      exact ⟨ret_bool ha.symm, rfl⟩
end Go.Proofs.Ytkebdelfklmigad
namespace Go.Proofs.Ytkebdelfklmigad
open Go.RowKit Go.WideShapes

theorem inR {lo hi n : Int} {b : Bool} (h : inB lo hi n = b) (w : World) : Calls Try.prog 37 #[.int .i64 n, .int .i64 lo, .int .i64 hi] w fun e w' => e = .returned (.bool b) ∧ w' = w := by
  subst h; exact (inRange_any n lo hi w).mono fun _ _ h => ⟨h.1, h.2.symm⟩
set_option maxRecDepth 100000 in
set_option maxHeartbeats 4000000 in
theorem validNet_any (d : NV) (ts : List Int) (rows : List (List Int)) (w : World) (h : NetAt w (· < w.heap.size) d ts rows) :
    Calls Try.prog 35 #[.agg #[.slice d.aT d.lT d.cT, .slice d.aW d.lW d.cW]] w (valN w (.bool (tokM ts rows))) := by
  obtain ⟨aT, lT, cT, aW, lW, cW⟩ := d
  obtain ⟨ht, hr, hct, hcw⟩ := h
  dsimp only at ht hr hct hcw ⊢
  have hst := ht.small
  have hsw := hr.small
  have HTL := Lib.hid ht.lenEq
  have HWL := Lib.hid hr.lenEq
  have HH := Lib.hid (show ∀ w', Below w.heap.size w w' → IntsAt w' (· < w.heap.size) aT lT ts ∧ RowsAt w' (· < w.heap.size) aW lW rows from fun w' hb => ⟨ht.below hb, hr.below hb⟩)
  clear ht hr
  go_enter Try.func35, Try.ntmps35
  go_wp2_with fail
  have hb0 := (Below.refl w.heap.size w).alloc (Nat.le_refl _) (.cells #[.slice aT lT cT, .slice aW lW cW] 26)
  have hn0 := netB_new w aT lT cT aW lW cW 26
  go_loopw [3] (fun i wr => ∃ k : Nat, k ≤ lT ∧ i = .int .i64 k ∧ allIn 0 9 (ts.take k) = true ∧ Below w.heap.size w wr ∧ NetB wr w.heap.size ⟨aT, lT, cT, aW, lW, cW⟩) (fun i _ => lT - (intOf i).toNat)
  case atStart => exact ⟨0, Nat.zero_le _, rfl, rfl, hb0, hn0⟩
  case round =>
    clear hb0 hn0
    obtain ⟨k, hk, rfl, ha, hb, hn⟩ := hrel
    obtain ⟨n0, n1⟩ := id hn
    have HB := Lib.hid hb
    have HN := Lib.hid hn
    have HA := Lib.hid ha
    clear hb hn ha
    dsimp only at n0 n1
    by_cases hlt : k < lT
    · obtain ⟨b, off, x, rfl, hx, hc⟩ := (HH.out wr HB.out).1.get hlt
      have HX := Lib.hid hx
      have hkI : (k : Int) < (lT : Int) := by omega
      clear hx
      cases hq : inB 0 9 x
      · go_wp2_with (go_at_call 37; refine (inRange_any _ _ _ _).mono ?_; rintro e w' ⟨rfl, rfl⟩)
        go_ret
        exact ⟨ret_bool (tok_time_false (allIn_false HX.out hq)).symm, HB.out⟩
      · go_wp2_with (go_at_call 37; refine (inRange_any _ _ _ _).mono ?_; rintro e w' ⟨rfl, rfl⟩)
        go_roundw
        case rel => exact ⟨k + 1, by omega, by go_num, allIn_step HX.out HA.out hq, HB.out, HN.out⟩
        case measure => simp [intOf]; omega
    · obtain rfl : k = lT := by omega
      have hkI : ¬ (k : Int) < (k : Int) := by omega
      have HA9 : Hid (allIn 0 9 ts = true) := Lib.hid (by have := HA.out; rwa [List.take_of_length_le (by rw [HTL.out]; omega)] at this)
      go_wp2_with fail
      go_loopw [4] (fun i wr => ∃ q : Nat, q ≤ lW ∧ i = .int .i64 q ∧ (rows.take q).all (wayB k) = true ∧ Below w.heap.size w wr ∧ NetB wr w.heap.size ⟨aT, k, cT, aW, lW, cW⟩) (fun i _ => lW - (intOf i).toNat)
      case atStart => exact ⟨0, Nat.zero_le _, rfl, rfl, HB.out, HN.out⟩
      case round =>
        clear n0 n1
        obtain ⟨q, hq, rfl, ha, hb, hn⟩ := hrel
        obtain ⟨wo, rfl⟩ : ∃ wo : World, wo = wr := ⟨_, rfl⟩
        obtain ⟨n0, n1⟩ := id hn
        have HB := Lib.hid hb
        have HN := Lib.hid hn
        have HA := Lib.hid ha
        clear hb hn ha
        dsimp only at n0 n1
        by_cases hlq : q < lW
        · obtain ⟨b, off, r, a', l, c, rfl, hx, hc, _, hri⟩ := (HH.out wo HB.out).2.get hlq
          have HX := Lib.hid hx
          have HRL := Lib.hid hri.lenEq
          have hrs := hri.small
          have hqI : (q : Int) < (lW : Int) := by omega
          clear hx
          have HF := Lib.hid (fun h : wayB k r = false => tok_way_false (ts := ts) HX.out (by rw [HTL.out]; exact h))
          by_cases hl3 : l = 3
          · subst hl3
            obtain ⟨b', off', x, rfl, hy, hd⟩ := hri.get (k := 0) (by omega)
            obtain ⟨b2, off2, y, e2, hy2, hd2⟩ := hri.get (k := 1) (by omega)
            cases e2
            obtain ⟨b3, off3, z, e3, hy3, hd3⟩ := hri.get (k := 2) (by omega)
            cases e3
            rw [Nat.add_zero] at hd
            have HWB : Hid (wayB k r = (inB 0 ((k : Int) - 1) x && (inB 0 ((k : Int) - 1) y && inB 0 3 z))) := Lib.hid (by unfold wayB; rw [HRL.out, getD_of hy, getD_of hy2, getD_of hy3]; rfl)
            clear hy hy2 hy3
            have hwr : IntKind.i64.wrap ((k : Int) - 1) = (k : Int) - 1 := IntWalk.i64_in _ (by omega)
            cases h0 : inB 0 ((k : Int) - 1) x
            · have C0 := Lib.hid (fun w => inR h0 w)
              rw [h0] at HWB
              go_wp2_with fail
              go_quiet ((go_at_call 37; exact Calls.quiet_of_same (C0.out _)))
              go_wp2_with fail
              go_ret
              exact ⟨ret_bool (HF.out (by rw [HWB.out]; rfl)).symm, below_drewN HB.out _⟩
            · cases h1 : inB 0 ((k : Int) - 1) y
              · have C0 := Lib.hid (fun w => inR h0 w)
                have C1 := Lib.hid (fun w => inR h1 w)
                rw [h0, h1] at HWB
                go_wp2_with fail
                go_quiet ((go_at_call 37; first | (with_reducible exact Calls.quiet_of_same (C0.out _)) | (with_reducible exact Calls.quiet_of_same (C1.out _))))
                go_wp2_with fail
                go_ret
                exact ⟨ret_bool (HF.out (by rw [HWB.out]; rfl)).symm, below_drewN HB.out _⟩
              · cases h2 : inB 0 3 z
                all_goals
                  have C0 := Lib.hid (fun w => inR h0 w)
                  have C1 := Lib.hid (fun w => inR h1 w)
                  have C2 := Lib.hid (fun w => inR h2 w)
                  rw [h0, h1, h2] at HWB
                  go_wp2_with fail
                  go_quiet ((go_at_call 37; first | (with_reducible exact Calls.quiet_of_same (C0.out _)) | (with_reducible exact Calls.quiet_of_same (C1.out _)) | (with_reducible exact Calls.quiet_of_same (C2.out _))))
                  go_wp2_with fail
                · go_ret
                  exact ⟨ret_bool (HF.out (by rw [HWB.out]; rfl)).symm, below_drewN HB.out _⟩
                · go_roundw
                  case rel => exact ⟨q + 1, by omega, by go_num, by rw [take_get HX.out, List.all_append, HA.out]; simp only [List.all_cons, List.all_nil, Bool.and_true, Bool.true_and]; exact HWB.out, below_drewN HB.out _, HN.out.drewN _⟩
                  case measure => simp [intOf]; omega
          · have hle : ((l : Int) != 3) = true := by simp; omega
            go_wp2_with fail
            go_quiet (fail)
            go_wp2_with fail
            go_ret
            exact ⟨ret_bool (HF.out (by unfold wayB; rw [HRL.out, beq_eq_false_iff_ne.2 hl3]; rfl)).symm, below_drewN HB.out _⟩
        · obtain rfl : q = lW := by omega
          have HA8 : Hid (rows.all (wayB k) = true) := Lib.hid (by have := HA.out; rwa [List.take_of_length_le (by rw [HWL.out]; omega)] at this)
          have HM : Hid (tokM ts rows = (decide (k ≤ 4) && decide (q ≤ 7))) := Lib.hid (by unfold tokM; rw [HTL.out, HWL.out, HA9.out, HA8.out, Bool.true_and, Bool.and_true])
          have hqI : ¬ (q : Int) < (q : Int) := by omega
          by_cases h4 : k ≤ 4
          · by_cases h7 : q ≤ 7
            · have h4I : (k : Int) ≤ 4 := by omega
              have h7I : (q : Int) ≤ 7 := by omega
              go_wp2_with fail
              go_ret
              exact ⟨ret_bool (by rw [HM.out, decide_eq_true h4, decide_eq_true h7]; rfl), HB.out⟩
            · have h4I : (k : Int) ≤ 4 := by omega
              have h7I : ¬ (q : Int) ≤ 7 := by omega
              go_wp2_with fail
              go_ret
              exact ⟨ret_bool (by rw [HM.out, decide_eq_true h4, decide_eq_false h7]; rfl), HB.out⟩
          · have h4I : ¬ (k : Int) ≤ 4 := by omega
            go_wp2_with fail
            go_ret
            exact ⟨ret_bool (by rw [HM.out, decide_eq_false h4]; rfl), HB.out⟩
end Go.Proofs.Ytkebdelfklmigad
