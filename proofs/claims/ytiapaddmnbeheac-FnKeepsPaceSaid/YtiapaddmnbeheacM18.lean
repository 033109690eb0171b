import Derived.Test.YtiapaddmnbeheacRows
import Derived.WalkKit
import Derived.LoopTactic
import Derived.Outline
import Derived.WalkSpells
import Derived.WalkLawsBesides
import Derived.ProofKit
import Derived.Lib.Hide
import Derived.IntWalk
import Derived.Test.YtiapaddmnbeheacM0
import Derived.Test.YtiapaddmnbeheacM4
import Derived.Test.YtiapaddmnbeheacM5
import Derived.Test.YtiapaddmnbeheacM6
import Derived.Test.YtiapaddmnbeheacM7
import Derived.Test.YtiapaddmnbeheacM11
import Derived.Test.YtiapaddmnbeheacM12
import Derived.Test.YtiapaddmnbeheacM17
import Derived.Deep.RegionHeld3
import Derived.Test.YtiapaddmnbeheacM1
import Derived.Test.YtiapaddmnbeheacM2
import Derived.Test.YtiapaddmnbeheacM3
namespace Go.Proofs.Ytiapaddmnbeheac
open Go.RowKit Go.WideShapes

set_option maxRecDepth 100000 in
set_option maxHeartbeats 4000000 in
theorem pace_any (d : NV) (ts : List Int) (rows : List (List Int)) (w : World) (h : NetAt w (· < w.heap.size) d ts rows) (hal : aliveB ts rows = true) :
    Calls Try.prog 29 #[.agg #[.slice d.aT d.lT d.cT, .slice d.aW d.lW d.cW]] w fun e w' => ∃ U D : Nat, e = .returned (.agg #[.int .i64 U, .int .i64 D]) ∧ IsPace (grOf ts rows) U D ∧ Below w.heap.size w w' := by
  obtain ⟨hv, hnd⟩ := alive_get hal
  have hok := gr_ok hv
  obtain ⟨rk, hrk⟩ := rank_of hok hnd
  have HPF := Lib.hid (fun w' (hb : Below w.heap.size w w') s X aP cP T0 C0 => paceFrom_any d ts rows hv rk hrk s _ X aP cP T0 C0 w' rfl)
  have HA := Lib.hid (fun w' (hb : Below w.heap.size w w') => net_lift h hb)
  obtain ⟨aT, lT, cT, aW, lW, cW⟩ := d
  have hn : (grOf ts rows).n = lT := h.t.lenEq
  clear h
  dsimp only at HPF HA ⊢
  obtain ⟨g, hg⟩ : ∃ g, grOf ts rows = g := ⟨_, rfl⟩
  rw [hg] at hok hrk HPF hn ⊢
  have h4 := hok.n4
  rw [hn] at h4
  have HOK := Lib.hid hok
  have HRK := Lib.hid hrk
  have HN := Lib.hid hn
  have HF01 : Hid (fU 0 1 = 0 ∧ fD 0 1 = 1) := Lib.hid (by decide)
  have HFR := Lib.hid (frac_any 0 1 (by omega) (by omega) (by omega))
  rw [HF01.out.1, HF01.out.2] at HFR
  clear hv hnd hg hok hrk hn hal HF01
  have hb1 := (Below.refl w.heap.size w).alloc (Nat.le_refl _) (.cells #[.slice aT lT cT, .slice aW lW cW] 26)
  have hn1 := netB_new w aT lT cT aW lW cW 26
  have hz1 : (w.alloc (.cells #[.slice aT lT cT, .slice aW lW cW] 26)).heap.size = w.heap.size + 1 := by simp
  obtain ⟨w1, hw1⟩ : ∃ w1, (w.alloc (.cells #[.slice aT lT cT, .slice aW lW cW] 26)) = w1 := ⟨_, rfl⟩
  rw [hw1] at hb1 hn1 hz1
  have ht2 := two_new w1 (.int .i64 0) (.int .i64 0) 29
  have hb2 := hb1.alloc (by omega) (.cells #[.int .i64 0, .int .i64 0] 29)
  have hn2 : NetB (w1.alloc (.cells #[.int .i64 0, .int .i64 0] 29)) w.heap.size ⟨aT, lT, cT, aW, lW, cW⟩ := hn1.block (Below.heap_alloc _ _ _ (by omega))
  have hz2 : (w1.alloc (.cells #[.int .i64 0, .int .i64 0] 29)).heap.size = w.heap.size + 2 := by simp; omega
  rw [hz1] at ht2
  obtain ⟨w2, hw2⟩ : ∃ w2, (w1.alloc (.cells #[.int .i64 0, .int .i64 0] 29)) = w2 := ⟨_, rfl⟩
  rw [hw2] at ht2 hb2 hn2 hz2
  have HW1 := Lib.hid hw1
  have HW2 := Lib.hid hw2
  have HS2 := Lib.hid (And.intro ht2 (And.intro hb2 hn2))
  have HZ2 := Lib.hid hz2
  clear hw1 hw2 ht2 hb1 hb2 hn1 hn2 hz1 hz2
  go_enter Try.func29, Try.ntmps29
  go_wp2_with fail
  rw [HW1.out, HW2.out]
  refine (HFR.out w2).mono ?_
  rintro e w3 ⟨rfl, hb3⟩
  have hz2 := HZ2.out
  have hs3 := hb3.size
  obtain ⟨BB, hBB⟩ : ∃ BB, w3.heap.size = BB := ⟨_, rfl⟩
  have HR3 := Lib.hid ((HS2.out.1.block (hb3.block (w.heap.size + 1) (by omega))).grown (World.grownBy_alloc w3 (.cells #[.int .i64 0, .int .i64 1] 29) none) (by simp))
  have HT3 := Lib.hid (two_new w3 (.int .i64 0) (.int .i64 1) 29)
  have HB3 := Lib.hid ((HS2.out.2.1.trans (hb3.mono (by omega))).alloc (by omega) (.cells #[.int .i64 0, .int .i64 1] 29))
  have HN3 : Hid (NetB (w3.alloc (.cells #[.int .i64 0, .int .i64 1] 29)) w.heap.size ⟨aT, lT, cT, aW, lW, cW⟩) := Lib.hid ((HS2.out.2.2.below hb3 (by omega)).block (Below.heap_alloc _ _ _ (by omega)))
  have HZ3 : Hid ((w3.alloc (.cells #[.int .i64 0, .int .i64 1] 29)).heap.size = w3.heap.size + 1) := Lib.hid (by simp)
  have hw3 : w.heap.size + 2 ≤ w3.heap.size := by omega
  clear hb3 hs3 hz2 hBB
  go_wp2_with fail
  go_loopw [4] (fun iv wr => ∃ (k U D : Nat), iv = .int .i64 k ∧ k ≤ lT ∧ IsGr U D (g.Upto k (fun s v => s < v)) ∧ Two wr w3.heap.size (.int .i64 U) (.int .i64 D) ∧ Two wr (w.heap.size + 1) (.int .i64 0) (.int .i64 0) ∧ Below w.heap.size w wr ∧ NetB wr w.heap.size ⟨aT, lT, cT, aW, lW, cW⟩ ∧ w3.heap.size < wr.heap.size) (fun iv _ => lT - (intOf iv).toNat)
  case atStart => exact ⟨0, 0, 1, rfl, Nat.zero_le _, gr_zero (fun T C ⟨s, hs, _⟩ => by omega), HT3.out, HR3.out, HB3.out, HN3.out, by have := HZ3.out; omega⟩
  case round =>
    clear HT3 HR3 HB3 HN3 HZ3
    obtain ⟨k, U, D, rfl, hk, hgr, ht, hr, hb, hn, hsz⟩ := hrel
    obtain ⟨wi, rfl⟩ : ∃ wi : World, wi = wr := ⟨_, rfl⟩
    have HGR := Lib.hid hgr
    have HT := Lib.hid ht
    have HR := Lib.hid hr
    have HB := Lib.hid hb
    have HNB := Lib.hid hn
    have hub := hgr.u36
    have hdb := hgr.d12
    clear hgr ht hr hb hn
    obtain ⟨n0, n1⟩ := HNB.out
    dsimp only at n0 n1
    by_cases hlt : k < lT
    · have hkI : (k : Int) < (lT : Int) := by omega
      have HPO : Hid (PathOk g rk [k] k 0 0) := Lib.hid ⟨rfl, by simp, fun v hv => by simp at hv; subst hv; rw [HN.out]; exact hlt, by simp, by simp, fun _ => Nat.le_refl _⟩
      have HLIT : Hid (IntsAt (wi.alloc (.cells #[.int .i64 (k : Int)] 3)) (· < (wi.alloc (.cells #[.int .i64 (k : Int)] 3)).heap.size) (some ⟨wi.heap.size, 0, none⟩) 1 (natD [k])) := Lib.hid ((IntsAt.lit (W := wi) (cs := #[.int .i64 (k : Int)]) (t := 3) (xs := [(k : Int)]) (len := 1) rfl rfl rfl (by omega)).to (fun b hb => ⟨by subst hb; simp, rfl⟩))
      have HB1 := Lib.hid (HB.out.alloc (by omega) (.cells #[.int .i64 (k : Int)] 3))
      have HCALL := Lib.hid (HPF.out _ HB1.out k [k] (some ⟨wi.heap.size, 0, none⟩) 1 0 0 HPO.out (HA.out _ HB1.out) HLIT.out (Nat.le_refl _))
      have hz1 : (wi.alloc (.cells #[.int .i64 (k : Int)] 3)).heap.size = wi.heap.size + 1 := by simp
      have HZ1 := Lib.hid hz1
      clear hz1
      go_wp2_with fail
      refine HCALL.out.mono ?_
      rintro e w5 ⟨U', D', rfl, hop, hb5⟩
      have hsz5 : wi.heap.size < w5.heap.size := by have := hb5.size; have := HZ1.out; omega
      have HBX := Lib.hid (((Below.refl wi.heap.size wi).alloc (Nat.le_refl _) (.cells #[.int .i64 (k : Int)] 3)).trans (hb5.mono (by have := HZ1.out; omega)) |>.alloc (by omega) (.cells #[.int .i64 (U' : Int), .int .i64 (D' : Int)] 29))
      have HOP := Lib.hid hop
      have HT5 := Lib.hid (two_new w5 (.int .i64 (U' : Int)) (.int .i64 (D' : Int)) 29)
      have HZ5 : Hid ((w5.alloc (.cells #[.int .i64 (U' : Int), .int .i64 (D' : Int)] 29)).heap.size = w5.heap.size + 1) := Lib.hid (by simp)
      have HE6 := Lib.hid (HT.out.block (HBX.out.block _ HT.out.lt))
      have HR6 := Lib.hid (HR.out.block (HBX.out.block _ HR.out.lt))
      have HN6 := Lib.hid (HNB.out.block (HBX.out.block _ HNB.out.lt))
      have HB6 := Lib.hid (HB.out.trans (HBX.out.mono HB.out.size))
      obtain ⟨hu8, hd8⟩ := opt_bd hop
      have HUP := Lib.hid (fun T C => upto_succ (g := g) (k := k) (ok := fun s v => s < v) T C)
      clear hop hb5 n0 n1
      obtain ⟨⟨t0, tz0⟩, t1, tz1⟩ := HT5.out
      obtain ⟨⟨b0, bz0⟩, b1, bz1⟩ := HE6.out
      by_cases hD0 : D' = 0
      · have hDI : ¬ (0 : Int) < (D' : Int) := by omega
        have HGN := Lib.hid (gr_orR HGR.out (opt_none HOP.out hD0) HUP.out)
        clear hD0
        go_wp2_with fail
        go_roundw
        case rel => exact ⟨k + 1, U, D, by go_num, by omega, HGN.out, HE6.out, HR6.out, HB6.out, HN6.out, by have := HZ5.out; omega⟩
        case measure => simp [intOf]; omega
      · have hDI : (0 : Int) < (D' : Int) := by omega
        have HG2 := Lib.hid (opt_gr HOP.out hD0)
        have HLE := Lib.hid (less_any U D U' D' (by omega) (w5.alloc (.cells #[.int .i64 (U' : Int), .int .i64 (D' : Int)] 29)))
        clear hD0
        by_cases hlt2 : (U : Int) * D' < (U' : Int) * D
        · rw [decide_eq_true hlt2] at HLE
          have HGN := Lib.hid (gr_right HGR.out HG2.out hlt2 HUP.out)
          clear hlt2
          go_wp2_with fail
          refine HLE.out.mono ?_
          rintro e w9 ⟨rfl, hb9⟩
          have hs9 := hb9.size
          have HT9 := Lib.hid (HT5.out.block (hb9.block _ HT5.out.lt))
          have HE9 := Lib.hid (HE6.out.block (hb9.block _ HE6.out.lt))
          have HR9 := Lib.hid (HR6.out.block (hb9.block _ HR6.out.lt))
          have HN9 := Lib.hid (HN6.out.block (hb9.block _ HN6.out.lt))
          have HB9 := Lib.hid (HB6.out.trans (hb9.mono HB6.out.size))
          have hz9 : w3.heap.size < w9.heap.size := by have := HZ5.out; omega
          clear t0 tz0 t1 tz1 b0 bz0 b1 bz1 hb9 hs9
          obtain ⟨⟨t0, tz0⟩, t1, tz1⟩ := HT9.out
          obtain ⟨⟨b0, bz0⟩, b1, bz1⟩ := HE9.out
          have hgs : ∀ x y : Value, w9.grownBy ((w9.setCell ⟨w3.heap.size, 0, none⟩ x).setCell ⟨w3.heap.size, 1, none⟩ y) (some w3.heap.size) := fun x y => grown_comp (grownBy_setCell _ _ _) (grownBy_setCell _ _ _)
          have HGS := Lib.hid hgs
          clear hgs
          go_wp2_with fail
          go_roundw
          case rel => exact ⟨k + 1, U', D', by go_num, by omega, HGN.out, (HE9.out.set0 _).set1 _, HR9.out.grown (HGS.out _ _) (by simp; omega), (HB9.out.setCell (p := ⟨w3.heap.size, 0, none⟩) (by show w.heap.size ≤ w3.heap.size; omega) _).setCell (p := ⟨w3.heap.size, 1, none⟩) (by show w.heap.size ≤ w3.heap.size; omega) _, HN9.out.block ((HGS.out _ _).block _ HN9.out.lt (by simp; omega)), by simpa [World.setCell] using hz9⟩
          case measure => simp [intOf]; omega
        · rw [decide_eq_false hlt2] at HLE
          have HGN := Lib.hid (gr_left HGR.out HG2.out hlt2 HUP.out)
          clear hlt2
          go_wp2_with fail
          refine HLE.out.mono ?_
          rintro e w9 ⟨rfl, hb9⟩
          have hs9 := hb9.size
          have HE9 := Lib.hid (HE6.out.block (hb9.block _ HE6.out.lt))
          have HR9 := Lib.hid (HR6.out.block (hb9.block _ HR6.out.lt))
          have HN9 := Lib.hid (HN6.out.block (hb9.block _ HN6.out.lt))
          have HB9 := Lib.hid (HB6.out.trans (hb9.mono HB6.out.size))
          have hz9 : w3.heap.size < w9.heap.size := by have := HZ5.out; omega
          clear t0 tz0 t1 tz1 b0 bz0 b1 bz1 hb9 hs9
          go_wp2_with fail
          go_roundw
          case rel => exact ⟨k + 1, U, D, by go_num, by omega, HGN.out, HE9.out, HR9.out, HB9.out, HN9.out, hz9⟩
          case measure => simp [intOf]; omega
    · obtain rfl : k = lT := by omega
      have hkI : ¬ (k : Int) < (k : Int) := by omega
      have HPC := Lib.hid (pace_of HOK.out HRK.out HGR.out (fun T C ⟨s, hs, hb⟩ => ⟨s, by rw [← HN.out]; exact hs, hb⟩) (fun T C ⟨s, hs, hb⟩ => ⟨s, by rw [HN.out]; exact hs, back_mono (fun _ _ => trivial) hb⟩))
      obtain ⟨⟨b0, bz0⟩, b1, bz1⟩ := HT.out
      obtain ⟨⟨r0, z0⟩, r1, z1⟩ := HR.out
      have v0 := ((HR.out.set0 (.int .i64 U)).set1 (.int .i64 D)).1.1
      have v1 := ((HR.out.set0 (.int .i64 U)).set1 (.int .i64 D)).2.1
      have HVV := Lib.hid (And.intro v0 v1)
      clear v0 v1
      go_wp2_with fail
      obtain ⟨v0, v1⟩ := HVV.out
      refine bodyPost_ret (v := .agg #[.int .i64 U, .int .i64 D]) (by simp [results, Try.results29, go_sem, v0, v1]) rfl ⟨U, D, rfl, HPC.out, (HB.out.setCell (p := ⟨w.heap.size + 1, 0, none⟩) (Nat.le_succ _) _).setCell (p := ⟨w.heap.size + 1, 1, none⟩) (Nat.le_succ _) _⟩
set_option maxRecDepth 100000 in
set_option maxHeartbeats 4000000 in
theorem paceOf_spec (d : NV) (ts : List Int) (rows : List (List Int)) (w : World) (h : NetAt w (· < w.heap.size) d ts rows) :
    Calls Try.prog 9 #[.agg #[.slice d.aT d.lT d.cT, .slice d.aW d.lW d.cW]] w (PacePostR w ts rows) := by
  have HV := Lib.hid (fun w' (hb : Below w.heap.size w w') => validNet_any d ts rows w' (net_lift h hb))
  have HD := Lib.hid (fun w' (hb : Below w.heap.size w w') hv => dead_any d ts rows w' (net_lift h hb) hv)
  have HP := Lib.hid (fun w' (hb : Below w.heap.size w w') hal => pace_any d ts rows w' (net_lift h hb) hal)
  obtain ⟨aT, lT, cT, aW, lW, cW⟩ := d
  clear h
  dsimp only at HV HD HP
  have HAL : Hid (aliveB ts rows = (tokM ts rows && !(grOf ts rows).deadB)) := Lib.hid rfl
  have hb1 := (Below.refl w.heap.size w).alloc (Nat.le_refl _) (.cells #[.slice aT lT cT, .slice aW lW cW] 26)
  have hn1 := netB_new w aT lT cT aW lW cW 26
  have hz1 : (w.alloc (.cells #[.slice aT lT cT, .slice aW lW cW] 26)).heap.size = w.heap.size + 1 := by simp
  obtain ⟨w1, hw1⟩ : ∃ w1, (w.alloc (.cells #[.slice aT lT cT, .slice aW lW cW] 26)) = w1 := ⟨_, rfl⟩
  rw [hw1] at hb1 hn1 hz1
  have ht2 := two_new w1 (.int .i64 0) (.int .i64 0) 29
  have hb2 := hb1.alloc (by omega) (.cells #[.int .i64 0, .int .i64 0] 29)
  have hn2 : NetB (w1.alloc (.cells #[.int .i64 0, .int .i64 0] 29)) w.heap.size ⟨aT, lT, cT, aW, lW, cW⟩ := hn1.block (Below.heap_alloc _ _ _ (by omega))
  have hz2 : (w1.alloc (.cells #[.int .i64 0, .int .i64 0] 29)).heap.size = w.heap.size + 2 := by simp; omega
  rw [hz1] at ht2
  obtain ⟨w2, hw2⟩ : ∃ w2, (w1.alloc (.cells #[.int .i64 0, .int .i64 0] 29)) = w2 := ⟨_, rfl⟩
  rw [hw2] at ht2 hb2 hn2 hz2
  have HW1 := Lib.hid hw1
  have HW2 := Lib.hid hw2
  have HT2 := Lib.hid ht2
  have HB2 := Lib.hid hb2
  have HN2 := Lib.hid hn2
  have HZ2 := Lib.hid hz2
  clear hw1 hw2 ht2 hb1 hb2 hn1 hn2 hz1 hz2
  have HNO := Lib.hid (show ∀ w', Below w2.heap.size w2 w' → aliveB ts rows = false → PacePostR w ts rows (.returned (.tuple #[.agg #[.int .i64 0, .int .i64 0], .bool false])) ((w'.setCell ⟨w.heap.size + 1, 0, none⟩ (.int .i64 0)).setCell ⟨w.heap.size + 1, 1, none⟩ (.int .i64 0)) from fun w' hb ha => ⟨0, 0, false, rfl, .inr ⟨ha, rfl, rfl, rfl⟩, ((HB2.out.trans (hb.mono HB2.out.size)).setCell (p := ⟨w.heap.size + 1, 0, none⟩) (Nat.le_succ _) _).setCell (p := ⟨w.heap.size + 1, 1, none⟩) (Nat.le_succ _) _⟩)
  cases hv : tokM ts rows
  · rw [hv] at HV HAL
    clear hv HD HP
    go_enter Try.func9, Try.ntmps9
    obtain ⟨n0, n1⟩ := HN2.out
    dsimp only at n0 n1
    go_wp2_with fail
    rw [HW1.out, HW2.out]
    refine (HV.out w2 HB2.out).mono ?_
    rintro e w3 ⟨rfl, hb3⟩
    have HT3 := Lib.hid (HT2.out.block (hb3.block _ HT2.out.lt))
    have HF := Lib.hid (HNO.out w3 hb3 HAL.out)
    obtain ⟨⟨r0, z0⟩, r1, z1⟩ := HT3.out
    have HVV := Lib.hid (And.intro ((HT3.out.set0 (.int .i64 0)).set1 (.int .i64 0)).1.1 ((HT3.out.set0 (.int .i64 0)).set1 (.int .i64 0)).2.1)
    clear hb3
    go_wp2_with fail
    obtain ⟨v0, v1⟩ := HVV.out
    exact bodyPost_ret (v := .tuple #[.agg #[.int .i64 0, .int .i64 0], .bool false]) (by simp [results, Try.results9, go_sem, v0, v1]) rfl HF.out
  · rw [hv] at HV HAL
    have HD2 := Lib.hid (fun w' hb => HD.out w' hb hv)
    clear hv HD
    cases hdd : (grOf ts rows).deadB
    · rw [hdd] at HD2 HAL
      have HP2 := Lib.hid (fun w' hb => HP.out w' hb HAL.out)
      clear hdd HP
      go_enter Try.func9, Try.ntmps9
      obtain ⟨n0, n1⟩ := HN2.out
      dsimp only at n0 n1
      go_wp2_with fail
      rw [HW1.out, HW2.out]
      refine (HV.out w2 HB2.out).mono ?_
      rintro e w3 ⟨rfl, hb3⟩
      have HB3 := Lib.hid (HB2.out.trans (hb3.mono HB2.out.size))
      have HN3 := Lib.hid (HN2.out.block (hb3.block _ HN2.out.lt))
      have HT3 := Lib.hid (HT2.out.block (hb3.block _ HT2.out.lt))
      clear n0 n1 hb3
      obtain ⟨n0, n1⟩ := HN3.out
      dsimp only at n0 n1
      go_wp2_with fail
      refine (HD2.out w3 HB3.out).mono ?_
      rintro e w4 ⟨rfl, hb4⟩
      have HB4 := Lib.hid (HB3.out.trans (hb4.mono HB3.out.size))
      have HN4 := Lib.hid (HN3.out.block (hb4.block _ HN3.out.lt))
      have HT4 := Lib.hid (HT3.out.block (hb4.block _ HT3.out.lt))
      clear n0 n1 hb4
      obtain ⟨n0, n1⟩ := HN4.out
      dsimp only at n0 n1
      go_wp2_with fail
      refine (HP2.out w4 HB4.out).mono ?_
      rintro e w5 ⟨U, D, rfl, hp, hb5⟩
      have HB5 := Lib.hid (HB4.out.trans (hb5.mono HB4.out.size))
      have HT5 := Lib.hid (HT4.out.block (hb5.block _ HT4.out.lt))
      have HPC := Lib.hid hp
      clear n0 n1 hb5 hp
      obtain ⟨⟨r0, z0⟩, r1, z1⟩ := HT5.out
      have HVV := Lib.hid (And.intro ((HT5.out.set0 (.int .i64 U)).set1 (.int .i64 D)).1.1 ((HT5.out.set0 (.int .i64 U)).set1 (.int .i64 D)).2.1)
      go_wp2_with fail
      obtain ⟨v0, v1⟩ := HVV.out
      exact bodyPost_ret (v := .tuple #[.agg #[.int .i64 U, .int .i64 D], .bool true]) (by simp [results, Try.results9, go_sem, v0, v1]) rfl ⟨U, D, true, rfl, .inl ⟨HAL.out, rfl, HPC.out⟩, (HB5.out.setCell (p := ⟨w.heap.size + 1, 0, none⟩) (Nat.le_succ _) _).setCell (p := ⟨w.heap.size + 1, 1, none⟩) (Nat.le_succ _) _⟩
    · rw [hdd] at HD2 HAL
      clear hdd HP
      go_enter Try.func9, Try.ntmps9
      obtain ⟨n0, n1⟩ := HN2.out
      dsimp only at n0 n1
      go_wp2_with fail
      rw [HW1.out, HW2.out]
      refine (HV.out w2 HB2.out).mono ?_
      rintro e w3 ⟨rfl, hb3⟩
      have HB3 := Lib.hid (HB2.out.trans (hb3.mono HB2.out.size))
      have HN3 := Lib.hid (HN2.out.block (hb3.block _ HN2.out.lt))
      have HB23 := Lib.hid hb3
      clear n0 n1 hb3
      obtain ⟨n0, n1⟩ := HN3.out
      dsimp only at n0 n1
      go_wp2_with fail
      refine (HD2.out w3 HB3.out).mono ?_
      rintro e w4 ⟨rfl, hb4⟩
      have HB24 := Lib.hid (HB23.out.trans (hb4.mono HB23.out.size))
      have HT4 := Lib.hid (HT2.out.block (HB24.out.block _ HT2.out.lt))
      have HF := Lib.hid (HNO.out w4 HB24.out HAL.out)
      clear n0 n1 hb4
      obtain ⟨⟨r0, z0⟩, r1, z1⟩ := HT4.out
      have HVV := Lib.hid (And.intro ((HT4.out.set0 (.int .i64 0)).set1 (.int .i64 0)).1.1 ((HT4.out.set0 (.int .i64 0)).set1 (.int .i64 0)).2.1)
      go_wp2_with fail
      obtain ⟨v0, v1⟩ := HVV.out
      exact bodyPost_ret (v := .tuple #[.agg #[.int .i64 0, .int .i64 0], .bool false]) (by simp [results, Try.results9, go_sem, v0, v1]) rfl HF.out
end Go.Proofs.Ytiapaddmnbeheac
namespace Go.Proofs.Ytiapaddmnbeheac
open Go.RowKit Go.WideShapes
/-- a drawn net and two numbers -/
def DrawnNUD (w : World) (e : Ending) (w' : World) : Prop := ∃ (d : NV) (ts : List Int) (rows : List (List Int)) (up down : Nat), e = .returned (.tuple #[.agg #[.slice d.aT d.lT d.cT, .slice d.aW d.lW d.cW], .int .i64 up, .int .i64 down]) ∧ NetAt w' (· < w'.heap.size) d ts rows ∧ d.lT ≤ 4 ∧ d.lW ≤ 8 ∧ up ≤ 41 ∧ down ≤ 40 ∧ Below w.heap.size w w'
/-- what lay at A lies, but for two blocks -/
def Lie (A : World) (R T : Nat) (w : World) : Prop := A.heap.size ≤ w.heap.size ∧ ∀ b, b < A.heap.size → b ≠ R → b ≠ T → w.heap[b]? = A.heap[b]?
theorem Lie.refl (A : World) (R T : Nat) : Lie A R T A := ⟨Nat.le_refl _, fun _ _ _ _ => rfl⟩
theorem Lie.grown {A w w' : World} {R T : Nat} (h : Lie A R T w) (g : w.grownBy w' (some R)) : Lie A R T w' :=
  ⟨Nat.le_trans h.1 g.size, fun b hb h1 h2 => (g.block b (Nat.lt_of_lt_of_le hb h.1) (fun e => h1 (Option.some.inj e))).trans (h.2 b hb h1 h2)⟩
theorem Lie.below {A w w' : World} {R T : Nat} (h : Lie A R T w) (g : Below w.heap.size w w') : Lie A R T w' :=
  ⟨Nat.le_trans h.1 g.size, fun b hb h1 h2 => (g.block b (Nat.lt_of_lt_of_le hb h.1)).trans (h.2 b hb h1 h2)⟩
theorem Lie.alloc {A w : World} {R T : Nat} (h : Lie A R T w) (o : Obj) : Lie A R T (w.alloc o) := h.below ((Below.refl _ _).alloc (Nat.le_refl _) _)
theorem Lie.drew {A w : World} {R T : Nat} (h : Lie A R T w) : Lie A R T w.drew := h.below (Below.refl _ _).drew
theorem Lie.set {A w : World} {R T : Nat} (h : Lie A R T w) (i : Nat) (x : Value) : Lie A R T (w.setCell ⟨T, i, none⟩ x) :=
  ⟨by simp only [World.size_setCell]; exact h.1, fun b hb h1 h2 => (Below.heap_setCell _ _ _ _ (by show b ≠ T; exact h2)).trans (h.2 b hb h1 h2)⟩
theorem Lie.trans {A B w : World} {R T : Nat} (h : Lie A R T B) (g : Lie B R T w) : Lie A R T w :=
  ⟨Nat.le_trans h.1 g.1, fun b hb h1 h2 => (g.2 b (Nat.lt_of_lt_of_le hb h.1) h1 h2).trans (h.2 b hb h1 h2)⟩
theorem below_g {w w1 w2 : World} {R : Nat} (h : Below w.heap.size w w1) (g : w1.grownBy w2 (some R)) (hR : w.heap.size ≤ R) : Below w.heap.size w w2 :=
  h.trans ⟨g.os, g.tape, g.output, g.size, fun k hk => g.block k (Nat.lt_of_lt_of_le hk h.size) (by simp; omega)⟩
theorem ud_n {n : Int} (h : n ∈ [5, 8, 3, 12, 0, 1, 40, 41]) : ∃ m : Nat, n = (m : Int) ∧ m ≤ 41 := by
  simp at h
  exact ⟨n.toNat, by omega, by omega⟩
theorem dn_n {n : Int} (h : n ∈ [1, 2, 3, 1, 40, 0]) : ∃ m : Nat, n = (m : Int) ∧ m ≤ 40 := by
  simp at h
  exact ⟨n.toNat, by omega, by omega⟩
set_option maxRecDepth 100000 in
set_option maxHeartbeats 4000000 in
theorem drawKeepsPace_any (a : Option Addr) (len cap : Nat) (w : World) (hb : BytesAt w w.heap.size a len) (hl : len ≤ cap) (hs : len ≤ 9223372036854775807) :
    Calls Try.prog 16 #[.slice a len cap] w (DrawnNUD w) := by
  have hb0 := (Below.refl w.heap.size w).alloc (Nat.le_refl _) (.cells #[.slice none 0 0, .slice none 0 0] 26)
  have ht0 := two_new w (.slice none 0 0) (.slice none 0 0) 26
  obtain ⟨w0, hw0⟩ : ∃ w0, w.alloc (.cells #[.slice none 0 0, .slice none 0 0] 26) = w0 := ⟨_, rfl⟩
  rw [hw0] at hb0 ht0
  have HW0 := Lib.hid hw0
  clear hw0
  go_enter Try.func16, Try.ntmps16
  go_wp2_with fail
  rw [HW0.out]
  refine (newReader_any a len cap w0 (bytes_up hb hb0) hl hs).mono ?_
  rintro e w1 ⟨rfl, hr, hb1⟩
  go_wp2_with fail
  refine (someNet_any w0.heap.size 0 w1 hr (by omega)).mono ?_
  rintro e w2 ⟨⟨aT, lT, cT, aW, lW, cW⟩, ts, rows, p2, rfl, h1, h2, h3, hr2, hp2, hg⟩
  dsimp only at h2 h3
  have hlt0 := ht0.lt
  have hw1s := hb1.size
  have hw2s := hg.size
  have hltR := hr.lt
  have hbb : Below w.heap.size w w2 := hb0.trans (hb1.mono hb0.size |>.trans (grown_below hg (Below.refl _ _) (by omega) |>.mono hb0.size))
  have ht2 : Two w2 w.heap.size (.slice none 0 0) (.slice none 0 0) := (ht0.block (hb1.block _ hlt0)).grown hg (by simp; omega)
  obtain ⟨R, hR⟩ : ∃ R, w0.heap.size = R := ⟨_, rfl⟩
  rw [hR] at hr2 hltR hlt0
  have nb3 := netB_new w2 aT lT cT aW lW cW 26
  have hb3 := hbb.alloc (by omega) (.cells #[.slice aT lT cT, .slice aW lW cW] 26)
  have ht3 : Two (w2.alloc (.cells #[.slice aT lT cT, .slice aW lW cW] 26)) w.heap.size (.slice none 0 0) (.slice none 0 0) := ht2.block (Below.heap_alloc _ _ _ ht2.lt)
  have hr3 := hr2.alloc (.cells #[.slice aT lT cT, .slice aW lW cW] 26)
  have hz3 : (w2.alloc (.cells #[.slice aT lT cT, .slice aW lW cW] 26)).heap.size = w2.heap.size + 1 := by simp
  have hn3 : NetAt (w2.alloc (.cells #[.slice aT lT cT, .slice aW lW cW] 26)) (fun b => b < w2.heap.size ∧ b ≠ R ∧ b ≠ w.heap.size) ⟨aT, lT, cT, aW, lW, cW⟩ ts rows := h1.to fun b hb => ⟨⟨hb.2, by have := hb.1; omega, by have := hb.1; omega⟩, Below.heap_alloc _ _ _ hb.2⟩
  obtain ⟨w3, hw3⟩ : ∃ w3, w2.alloc (.cells #[.slice aT lT cT, .slice aW lW cW] 26) = w3 := ⟨_, rfl⟩
  rw [hw3] at nb3 hb3 ht3 hr3 hz3 hn3
  have HW3 := Lib.hid hw3
  have HLR : Hid (w.heap.size < R ∧ R < w2.heap.size) := Lib.hid (by rw [← hR]; have := hr2.lt; have := ht0.lt; omega)
  have HRE := Lib.hid hR
  have NB3 := Lib.hid nb3
  have NA3 := Lib.hid hn3
  have TT3 := Lib.hid ht3
  have HZ3 := Lib.hid hz3
  clear hw3 hbb ht2 nb3 ht3 hz3 hn3 hR hg h1 hr2 hr hb1 hb0 ht0 hw1s hw2s hltR hlt0 hb
  go_wp2_with fail
  rw [HRE.out, HW3.out, ← HZ3.out]
  refine (one_any (fun b => b = w3.heap.size) R p2 _ 8 8 [5, 8, 3, 12, 0, 1, 40, 41] _ (hr3.alloc _) (IntsAt.lit rfl rfl rfl (by omega)) (by intro b hb; have := hr3.lt; simp; omega) (by omega) (by omega)).mono ?_
  rintro e w4 ⟨n, hn, rfl, hr4, hg4⟩
  obtain ⟨up, rfl, hup⟩ := ud_n hn
  have hx4 : w3.grownBy w4 (some R) := grown_r (World.grownBy_alloc w3 _ _) hg4
  have ht4 := TT3.out.grown hx4 (by have := HLR.out; simp; omega)
  have hl4 := (Lie.refl w3 R w.heap.size).grown hx4
  have hb4 : Below w.heap.size w w4 := below_g hb3 hx4 (by have := HLR.out; omega)
  clear hn hg4 hx4 hr3 hb3
  go_wp2_with fail
  refine (one_any (fun b => b = w4.heap.size) R (p2 + 1) _ 6 6 [1, 2, 3, 1, 40, 0] _ (hr4.alloc _) (IntsAt.lit rfl rfl rfl (by omega)) (by intro b hb; have := hr4.lt; simp; omega) (by omega) (by omega)).mono ?_
  rintro e w5 ⟨n, hn, rfl, hr5, hg5⟩
  obtain ⟨down, rfl, hdn⟩ := dn_n hn
  have hx5 : w4.grownBy w5 (some R) := grown_r (World.grownBy_alloc w4 _ _) hg5
  have ht5 := ht4.grown hx5 (by have := HLR.out; simp; omega)
  have hl5 := hl4.grown hx5
  have hb5 : Below w.heap.size w w5 := below_g hb4 hx5 (by have := HLR.out; omega)
  clear hn hg5 hx5 hr4 hb4 hl4
  go_wp2_with fail
  refine (pick_any R (p2 + 1 + 1) 2 w5 hr5 (by omega)).mono ?_
  rintro e w6 ⟨k, rfl, hk, hr6, hg6⟩
  have ht6 := ht5.grown hg6 (by have := HLR.out; simp; omega)
  have hl6 := hl5.grown hg6
  have hb6 : Below w.heap.size w w6 := below_g hb5 hg6 (by have := HLR.out; omega)
  clear hg6 hr5 hb5 hl5
  have HFIN := Lib.hid (fun (w' : World) (u v : Nat) (hl : Lie w3 R w.heap.size w') (hb : Below w.heap.size w w') (hu : u ≤ 41) (hv : v ≤ 40) => (show DrawnNUD w (.returned (.tuple #[.agg #[.slice aT lT cT, .slice aW lW cW], .int .i64 u, .int .i64 v])) w' from ⟨⟨aT, lT, cT, aW, lW, cW⟩, ts, rows, u, v, rfl, NA3.out.to fun b hb => ⟨Nat.lt_of_lt_of_le (by have := HZ3.out; omega) hl.1, hl.2 b (by have := HZ3.out; omega) hb.2.1 hb.2.2⟩, h2, h3, hu, hv, hb⟩))
  have NB6 := Lib.hid (NB3.out.block (hl6.2 _ (by have := HZ3.out; omega) (by have := HLR.out; omega) (by have := HLR.out; omega)))
  have TT6 : Hid (Two w6 w.heap.size (.slice none 0 0) (.slice none 0 0)) := Lib.hid ht6
  clear ht4 ht5 ht6
  obtain ⟨c0, c1⟩ := NB6.out
  obtain ⟨⟨t0, z0⟩, t1, z1⟩ := TT6.out
  dsimp only at c0 c1
  by_cases hk0 : k = 0
  · subst hk0
    have HLT : Hid (R < w6.heap.size ∧ w2.heap.size < w6.heap.size) := Lib.hid ⟨by have := hr6.lt; omega, by have := hl6.1; have := HZ3.out; omega⟩
    have HN6 := Lib.hid (show NetAt w6 (· < w6.heap.size) ⟨aT, lT, cT, aW, lW, cW⟩ ts rows from NA3.out.to fun b hb => ⟨by have := HLT.out; omega, hl6.2 b (by have := HZ3.out; omega) hb.2.1 hb.2.2⟩)
    go_wp2_with fail
    refine (paceOf_spec ⟨aT, lT, cT, aW, lW, cW⟩ ts rows w6 HN6.out).mono ?_
    rintro e w7 ⟨U, D, pb, rfl, hpr, hb7⟩
    have hl7 := hl6.below hb7
    have hbb7 := hb6.trans (hb7.mono hb6.size)
    have hrd7 := hr6.step hb7
    have NB7 := NB6.out.block (hb7.block _ HLT.out.2)
    have TT7 := TT6.out.block (hb7.block _ TT6.out.lt)
    have hw7 := hb7.size
    have HSZ := Lib.hid hw7
    have TF := two_new w7 (.int .i64 (U : Int)) (.int .i64 (D : Int)) 29
    have hb8 := hbb7.alloc hbb7.size (.cells #[.int .i64 (U : Int), .int .i64 (D : Int)] 29)
    have hl8 := hl7.alloc (.cells #[.int .i64 (U : Int), .int .i64 (D : Int)] 29)
    have hr8 := hrd7.alloc (.cells #[.int .i64 (U : Int), .int .i64 (D : Int)] 29)
    have NB8 := NB7.block (w' := w7.alloc (.cells #[.int .i64 (U : Int), .int .i64 (D : Int)] 29)) (Below.heap_alloc _ _ _ NB7.lt)
    have TT8 := TT7.block (w' := w7.alloc (.cells #[.int .i64 (U : Int), .int .i64 (D : Int)] 29)) (Below.heap_alloc _ _ _ TT7.lt)
    have hz8 : (w7.alloc (.cells #[.int .i64 (U : Int), .int .i64 (D : Int)] 29)).heap.size = w7.heap.size + 1 := by simp
    obtain ⟨w8, hw8⟩ : ∃ wx, w7.alloc (.cells #[.int .i64 (U : Int), .int .i64 (D : Int)] 29) = wx := ⟨_, rfl⟩
    rw [hw8] at TF hb8 hl8 hr8 NB8 TT8 hz8
    have HW8 := Lib.hid hw8
    have HPR := Lib.hid hpr
    clear hw8 hl7 hbb7 hrd7 NB7 TT7 hr6 hl6 hb6 hb7 c0 c1 t0 z0 t1 z1 hpr hw7
    cases pb
    · obtain ⟨c0, c1⟩ := NB8
      have TT8' := TT8
      obtain ⟨⟨t0, z0⟩, t1, z1⟩ := TT8
      dsimp only at c0 c1
      rw [← HW8.out] at c0 c1 t0 z0 t1 z1
      have HSET := Lib.hid ((TT8'.set0 (.slice aT lT cT)).set1 (.slice aW lW cW))
      have HF := Lib.hid (HFIN.out ((w8.setCell ⟨w.heap.size, 0, none⟩ (.slice aT lT cT)).setCell ⟨w.heap.size, 1, none⟩ (.slice aW lW cW)) up down ((hl8.set 0 _).set 1 _) (below_set2 hb8 _ _) hup hdn)
      obtain ⟨⟨v0, _⟩, v1, _⟩ := HSET.out
      go_wp2_with fail
      rw [HW8.out]
      refine bodyPost_ret (v := .tuple #[.agg #[.slice aT lT cT, .slice aW lW cW], .int .i64 up, .int .i64 down]) ?_ rfl HF.out
      simp [results, Try.results16, go_sem, v0, v1]
    · have NB8' := NB8
      have TT8' := TT8
      have TF' := TF
      have hw67 : w6.heap.size ≤ w7.heap.size := HSZ.out
      obtain ⟨c0, c1⟩ := NB8
      obtain ⟨⟨t0, z0⟩, t1, z1⟩ := TT8
      obtain ⟨⟨f0, _⟩, f1, _⟩ := TF
      dsimp only at c0 c1
      rw [← HW8.out] at c0 c1 t0 z0 t1 z1 f0 f1
      go_wp2_with fail
      rw [HW8.out]
      have HS0 := Lib.hid (And.intro (Lie.refl w8 R w.heap.size) hb8)
      have HQ := Lib.hid (fun (w' : World) (hS : Lie w8 R w.heap.size w') => And.intro (show NetB w' w2.heap.size ⟨aT, lT, cT, aW, lW, cW⟩ from NB8'.block (hS.2 _ (by have := HLT.out; omega) (by have := HLR.out; omega) (by have := HLR.out; omega))) (show Two w' w7.heap.size (.int .i64 (U : Int)) (.int .i64 (D : Int)) from TF'.block (hS.2 _ (by omega) (by have := HLT.out; omega) (by have := HLR.out; have := HLT.out; omega))))
      obtain ⟨hal, hpc⟩ : aliveB ts rows = true ∧ IsPace (grOf ts rows) U D := by
        rcases HPR.out with ⟨h1, _, h3⟩ | ⟨_, h2, _⟩
        · exact ⟨h1, h3⟩
        · cases h2
      have hu36 := hpc.u36
      have hd12 := hpc.d12
      clear hal hpc
      have hrd : Rd w8.drew R (p2 + 1 + 1 + 1) := hr8.step (Below.refl _ _).drew
      have HRD := Lib.hid hrd
      clear hr8 hrd
      refine wp_region_held_drew (S := (fun w' => Lie w8 R w.heap.size w' ∧ Below w.heap.size w w')) (by kernel_rfl) ⟨HS0.out.1.drew, HS0.out.2.drew⟩ (fun hHeld => ?_)
      refine wpAnyH_take (i := 0) (v := .agg #[.slice aT lT cT, .slice aW lW cW]) rfl (by kernel_rfl) (by kernel_rfl) (by kernel_rfl) (fun _ _ _ h => h) (Or.inl ⟨by rfl, ?_⟩) hHeld ?_
      · rintro w' ⟨hS, _⟩; obtain ⟨⟨k0, k1⟩, ⟨k2, _⟩, k3, _⟩ := HQ.out w' hS; dsimp only at k0 k1; go_simp
      try simp only [Act.put, List.setIfInBounds_toArray, List.set_cons_zero, List.set_cons_succ, List.getElem_toArray, List.getElem_cons_succ, List.getElem_cons_zero]
      refine wpAnyH_take (i := 1) (v := .pointer (some ⟨w7.heap.size, 0, none⟩)) rfl (by kernel_rfl) (by kernel_rfl) (by kernel_rfl) (fun _ _ _ h => h) (Or.inl ⟨by rfl, ?_⟩) hHeld ?_
      · rintro w' ⟨hS, _⟩; obtain ⟨⟨k0, k1⟩, ⟨k2, _⟩, k3, _⟩ := HQ.out w' hS; dsimp only at k0 k1; go_simp
      try simp only [Act.put, List.setIfInBounds_toArray, List.set_cons_zero, List.set_cons_succ, List.getElem_toArray, List.getElem_cons_succ, List.getElem_cons_zero]
      refine wpAnyH_take (i := 2) (v := .int .i64 (U : Int)) rfl (by kernel_rfl) (by kernel_rfl) (by kernel_rfl) (fun _ _ _ h => h) (Or.inl ⟨by rfl, ?_⟩) hHeld ?_
      · rintro w' ⟨hS, _⟩; obtain ⟨⟨k0, k1⟩, ⟨k2, _⟩, k3, _⟩ := HQ.out w' hS; dsimp only at k0 k1; go_simp
      try simp only [Act.put, List.setIfInBounds_toArray, List.set_cons_zero, List.set_cons_succ, List.getElem_toArray, List.getElem_cons_succ, List.getElem_cons_zero]
      refine wpAnyH_take (i := 3) (v := .pointer (some ⟨R, 0, none⟩)) rfl (by kernel_rfl) (by kernel_rfl) (by kernel_rfl) (fun _ _ _ h => h) (Or.inl ⟨by rfl, ?_⟩) hHeld ?_
      · rintro w' ⟨hS, _⟩; obtain ⟨⟨k0, k1⟩, ⟨k2, _⟩, k3, _⟩ := HQ.out w' hS; dsimp only at k0 k1; go_simp
      try simp only [Act.put, List.setIfInBounds_toArray, List.set_cons_zero, List.set_cons_succ, List.getElem_toArray, List.getElem_cons_succ, List.getElem_cons_zero]
      refine wpAnyH_take (i := 7) (v := .pointer (some ⟨w7.heap.size, 1, none⟩)) rfl (by kernel_rfl) (by kernel_rfl) (by kernel_rfl) (fun _ _ _ h => h) (Or.inl ⟨by rfl, ?_⟩) hHeld ?_
      · rintro w' ⟨hS, _⟩; obtain ⟨⟨k0, k1⟩, ⟨k2, _⟩, k3, _⟩ := HQ.out w' hS; dsimp only at k0 k1; go_simp
      try simp only [Act.put, List.setIfInBounds_toArray, List.set_cons_zero, List.set_cons_succ, List.getElem_toArray, List.getElem_cons_succ, List.getElem_cons_zero]
      refine wpAnyH_take (i := 8) (v := .int .i64 (D : Int)) rfl (by kernel_rfl) (by kernel_rfl) (by kernel_rfl) (fun _ _ _ h => h) (Or.inl ⟨by rfl, ?_⟩) hHeld ?_
      · rintro w' ⟨hS, _⟩; obtain ⟨⟨k0, k1⟩, ⟨k2, _⟩, k3, _⟩ := HQ.out w' hS; dsimp only at k0 k1; go_simp
      try simp only [Act.put, List.setIfInBounds_toArray, List.set_cons_zero, List.set_cons_succ, List.getElem_toArray, List.getElem_cons_succ, List.getElem_cons_zero]
      refine wpAnyH_ready (rs := [4]) (by kernel_rfl) (by simp) ?_
      refine AllReadyH.cons (o := _) rfl (fun K hK => ?_) AllReadyH.nil
      go_simp
      go_at_call 40
      refine (pick_any R (p2 + 1 + 1 + 1) 2 _ HRD.out (by omega)).mono ?_
      rintro e w9 ⟨k, rfl, hk, hr9, hg9⟩
      refine hK.out _ _ ⟨HS0.out.1.drew.grown hg9, below_g HS0.out.2.drew hg9 (by have := HLR.out; omega)⟩ (fun hHeld => ?_)
      clear hK K
      try simp only [Act.put, List.setIfInBounds_toArray, List.set_cons_zero, List.set_cons_succ, List.getElem_toArray, List.getElem_cons_succ, List.getElem_cons_zero]
      have hk2 : k ≤ 1 := by omega
      have hwr : IntKind.i64.wrap ((U : Int) - (k : Int)) = (U : Int) - (k : Int) := IntWalk.i64_in _ (by omega)
      have hmx : max ((U : Int) - (k : Int)) 0 = ((U - k : Nat) : Int) := by omega
      refine wpAnyH_take (i := 5) (v := .int .i64 ((U : Int) - (k : Int))) rfl (by kernel_rfl) (by kernel_rfl) (by kernel_rfl) (fun _ _ _ h => h) (Or.inl ⟨by rfl, ?_⟩) hHeld ?_
      · rintro w' ⟨hS, _⟩; go_simp
      try simp only [Act.put, List.setIfInBounds_toArray, List.set_cons_zero, List.set_cons_succ, List.getElem_toArray, List.getElem_cons_succ, List.getElem_cons_zero]
      refine wpAnyH_take (i := 6) (v := .int .i64 ((U - k : Nat) : Int)) rfl (by kernel_rfl) (by kernel_rfl) (by kernel_rfl) (fun _ _ _ h => h) (Or.inl ⟨by rfl, ?_⟩) hHeld ?_
      · rintro w' ⟨hS, _⟩; go_simp; split <;> omega
      try simp only [Act.put, List.setIfInBounds_toArray, List.set_cons_zero, List.set_cons_succ, List.getElem_toArray, List.getElem_cons_succ, List.getElem_cons_zero]
      have hl9 := HS0.out.1.drew.grown hg9
      have hb9 := below_g HS0.out.2.drew hg9 (by have := HLR.out; omega)
      have ht9 : Two w9 w.heap.size (.slice none 0 0) (.slice none 0 0) := (TT8'.block (w' := w8.drew) rfl).grown hg9 (by have := HLR.out; simp; omega)
      have HSET := Lib.hid ((ht9.set0 (.slice aT lT cT)).set1 (.slice aW lW cW))
      have HF := Lib.hid (HFIN.out ((w9.setCell ⟨w.heap.size, 0, none⟩ (.slice aT lT cT)).setCell ⟨w.heap.size, 1, none⟩ (.slice aW lW cW)) (U - k) D ((hl8.trans hl9).set 0 _ |>.set 1 _) (below_set2 hb9 _ _) (by omega) (by omega))
      obtain ⟨⟨u0, y0⟩, u1, y1⟩ := ht9
      refine wpAnyH_ready (rs := [9]) (by kernel_rfl) (by simp) ?_
      refine AllReadyH.cons (o := _) rfl (fun K hK => ?_) AllReadyH.nil
      go_simp
      refine hK.out _ _ ⟨(hl9.set 0 _).set 1 _, below_set2 hb9 _ _⟩ (fun hHeld => ?_)
      clear hK K
      try simp only [Act.put, List.setIfInBounds_toArray, List.set_cons_zero, List.set_cons_succ, List.getElem_toArray, List.getElem_cons_succ, List.getElem_cons_zero]
      refine wpAnyH_take (i := 10) (v := .int .i64 ((U - k : Nat) : Int)) rfl (by kernel_rfl) (by kernel_rfl) (by kernel_rfl) (fun _ _ _ h => h) (Or.inl ⟨by rfl, ?_⟩) hHeld ?_
      · rintro w' ⟨hS, _⟩; go_simp
      try simp only [Act.put, List.setIfInBounds_toArray, List.set_cons_zero, List.set_cons_succ, List.getElem_toArray, List.getElem_cons_succ, List.getElem_cons_zero]
      refine wpAnyH_take (i := 11) (v := .int .i64 (D : Int)) rfl (by kernel_rfl) (by kernel_rfl) (by kernel_rfl) (fun _ _ _ h => h) (Or.inl ⟨by rfl, ?_⟩) hHeld ?_
      · rintro w' ⟨hS, _⟩; go_simp
      try simp only [Act.put, List.setIfInBounds_toArray, List.set_cons_zero, List.set_cons_succ, List.getElem_toArray, List.getElem_cons_succ, List.getElem_cons_zero]
      refine wpAnyH_done (by kernel_rfl) ?_ _
      obtain ⟨⟨v0, _⟩, v1, _⟩ := HSET.out
      go_wp2_with fail
      refine bodyPost_ret (v := .tuple #[.agg #[.slice aT lT cT, .slice aW lW cW], .int .i64 ((U - k : Nat) : Int), .int .i64 D]) ?_ rfl HF.out
      simp [results, Try.results16, go_sem, v0, v1]
  · have hkI : ((k : Int) == 0) = false := by simp; omega
    have HSET := Lib.hid ((show Two w6 w.heap.size (.slice none 0 0) (.slice none 0 0) from ⟨⟨t0, z0⟩, t1, z1⟩).set0 (.slice aT lT cT) |>.set1 (.slice aW lW cW))
    have HF := Lib.hid (HFIN.out ((w6.setCell ⟨w.heap.size, 0, none⟩ (.slice aT lT cT)).setCell ⟨w.heap.size, 1, none⟩ (.slice aW lW cW)) up down ((hl6.set 0 _).set 1 _) (below_set2 hb6 _ _) hup hdn)
    obtain ⟨⟨v0, _⟩, v1, _⟩ := HSET.out
    go_wp2_with fail
    refine bodyPost_ret (v := .tuple #[.agg #[.slice aT lT cT, .slice aW lW cW], .int .i64 up, .int .i64 down]) ?_ rfl HF.out
    simp [results, Try.results16, go_sem, v0, v1]
end Go.Proofs.Ytiapaddmnbeheac
