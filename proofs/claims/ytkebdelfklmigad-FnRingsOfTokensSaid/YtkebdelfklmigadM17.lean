import Derived.Test.YtkebdelfklmigadRows
import Derived.WalkKit
import Derived.LoopTactic
import Derived.Outline
import Derived.WalkSpells
import Derived.WalkLawsBesides
import Derived.ProofKit
import Derived.Lib.Hide
import Derived.IntWalk
import Derived.Test.YtkebdelfklmigadM0
import Derived.Test.YtkebdelfklmigadM4
import Derived.Test.YtkebdelfklmigadM5
import Derived.Test.YtkebdelfklmigadM6
import Derived.Test.YtkebdelfklmigadM8
import Derived.Test.YtkebdelfklmigadM12
import Derived.Test.YtkebdelfklmigadM15
import Derived.Test.YtkebdelfklmigadM16
import Derived.Test.YtkebdelfklmigadM14
namespace Go.Proofs.Ytkebdelfklmigad
open Go.RowKit Go.WideShapes

set_option maxRecDepth 100000 in
set_option maxHeartbeats 4000000 in
theorem pace_any (d : NV) (ts : List Int) (rows : List (List Int)) (w : World) (h : NetAt w (· < w.heap.size) d ts rows) (hal : aliveB ts rows = true) :
    Calls Try.prog 49 #[.agg #[.slice d.aT d.lT d.cT, .slice d.aW d.lW d.cW]] w fun e w' => ∃ U D : Nat, e = .returned (.agg #[.int .i64 U, .int .i64 D]) ∧ IsPace (grOf ts rows) U D ∧ Below w.heap.size w w' := by
  obtain ⟨hv, hnd⟩ := alive_get hal
  have hok := gr_ok hv
  obtain ⟨rk, hrk⟩ := rank_of hok hnd
  have HPF := Lib.hid (fun w' (hb : Below w.heap.size w w') s X aP cP T0 C0 => paceFrom_any d ts rows hv rk hrk s _ X aP cP T0 C0 w' rfl)
  have HA := Lib.hid (fun w' (hb : Below w.heap.size w w') => net_lift h hb)
  obtain ⟨aT, lT, cT, aW, lW, cW⟩ := d
  have hn : (grOf ts rows).n = lT := h.t.lenEq
  clear h
  dsimp only at HPF HA ⊢
  obtain ⟨g, hg⟩ : ∃ g, grOf ts rows = g := ⟨_, rfl⟩
  rw [hg] at hok hrk HPF hn ⊢
  have h4 := hok.n4
  rw [hn] at h4
  have HOK := Lib.hid hok
  have HRK := Lib.hid hrk
  have HN := Lib.hid hn
  have HF01 : Hid (fU 0 1 = 0 ∧ fD 0 1 = 1) := Lib.hid (by decide)
  have HFR := Lib.hid (frac_any 0 1 (by omega) (by omega) (by omega))
  rw [HF01.out.1, HF01.out.2] at HFR
  clear hv hnd hg hok hrk hn hal HF01
  have hb1 := (Below.refl w.heap.size w).alloc (Nat.le_refl _) (.cells #[.slice aT lT cT, .slice aW lW cW] 26)
  have hn1 := netB_new w aT lT cT aW lW cW 26
  have hz1 : (w.alloc (.cells #[.slice aT lT cT, .slice aW lW cW] 26)).heap.size = w.heap.size + 1 := by simp
  obtain ⟨w1, hw1⟩ : ∃ w1, (w.alloc (.cells #[.slice aT lT cT, .slice aW lW cW] 26)) = w1 := ⟨_, rfl⟩
  rw [hw1] at hb1 hn1 hz1
  have ht2 := two_new w1 (.int .i64 0) (.int .i64 0) 32
  have hb2 := hb1.alloc (by omega) (.cells #[.int .i64 0, .int .i64 0] 32)
  have hn2 : NetB (w1.alloc (.cells #[.int .i64 0, .int .i64 0] 32)) w.heap.size ⟨aT, lT, cT, aW, lW, cW⟩ := hn1.block (Below.heap_alloc _ _ _ (by omega))
  have hz2 : (w1.alloc (.cells #[.int .i64 0, .int .i64 0] 32)).heap.size = w.heap.size + 2 := by simp; omega
  rw [hz1] at ht2
  obtain ⟨w2, hw2⟩ : ∃ w2, (w1.alloc (.cells #[.int .i64 0, .int .i64 0] 32)) = w2 := ⟨_, rfl⟩
  rw [hw2] at ht2 hb2 hn2 hz2
  have HW1 := Lib.hid hw1
  have HW2 := Lib.hid hw2
  have HS2 := Lib.hid (And.intro ht2 (And.intro hb2 hn2))
  have HZ2 := Lib.hid hz2
  clear hw1 hw2 ht2 hb1 hb2 hn1 hn2 hz1 hz2
  go_enter Try.func49, Try.ntmps49
  go_wp2_with fail
  rw [HW1.out, HW2.out]
  refine (HFR.out w2).mono ?_
  rintro e w3 ⟨rfl, hb3⟩
  have hz2 := HZ2.out
  have hs3 := hb3.size
  obtain ⟨BB, hBB⟩ : ∃ BB, w3.heap.size = BB := ⟨_, rfl⟩
  have HR3 := Lib.hid ((HS2.out.1.block (hb3.block (w.heap.size + 1) (by omega))).grown (World.grownBy_alloc w3 (.cells #[.int .i64 0, .int .i64 1] 32) none) (by simp))
  have HT3 := Lib.hid (two_new w3 (.int .i64 0) (.int .i64 1) 32)
  have HB3 := Lib.hid ((HS2.out.2.1.trans (hb3.mono (by omega))).alloc (by omega) (.cells #[.int .i64 0, .int .i64 1] 32))
  have HN3 : Hid (NetB (w3.alloc (.cells #[.int .i64 0, .int .i64 1] 32)) w.heap.size ⟨aT, lT, cT, aW, lW, cW⟩) := Lib.hid ((HS2.out.2.2.below hb3 (by omega)).block (Below.heap_alloc _ _ _ (by omega)))
  have HZ3 : Hid ((w3.alloc (.cells #[.int .i64 0, .int .i64 1] 32)).heap.size = w3.heap.size + 1) := Lib.hid (by simp)
  have hw3 : w.heap.size + 2 ≤ w3.heap.size := by omega
  clear hb3 hs3 hz2 hBB
  go_wp2_with fail
  go_loopw [4] (fun iv wr => ∃ (k U D : Nat), iv = .int .i64 k ∧ k ≤ lT ∧ IsGr U D (g.Upto k (fun s v => s < v)) ∧ Two wr w3.heap.size (.int .i64 U) (.int .i64 D) ∧ Two wr (w.heap.size + 1) (.int .i64 0) (.int .i64 0) ∧ Below w.heap.size w wr ∧ NetB wr w.heap.size ⟨aT, lT, cT, aW, lW, cW⟩ ∧ w3.heap.size < wr.heap.size) (fun iv _ => lT - (intOf iv).toNat)
  case atStart => exact ⟨0, 0, 1, rfl, Nat.zero_le _, gr_zero (fun T C ⟨s, hs, _⟩ => by omega), HT3.out, HR3.out, HB3.out, HN3.out, by have := HZ3.out; omega⟩
  case round =>
    clear HT3 HR3 HB3 HN3 HZ3
    obtain ⟨k, U, D, rfl, hk, hgr, ht, hr, hb, hn, hsz⟩ := hrel
    obtain ⟨wi, rfl⟩ : ∃ wi : World, wi = wr := ⟨_, rfl⟩
    have HGR := Lib.hid hgr
    have HT := Lib.hid ht
    have HR := Lib.hid hr
    have HB := Lib.hid hb
    have HNB := Lib.hid hn
    have hub := hgr.u36
    have hdb := hgr.d12
    clear hgr ht hr hb hn
    obtain ⟨n0, n1⟩ := HNB.out
    dsimp only at n0 n1
    by_cases hlt : k < lT
    · have hkI : (k : Int) < (lT : Int) := by omega
      have HPO : Hid (PathOk g rk [k] k 0 0) := Lib.hid ⟨rfl, by simp, fun v hv => by simp at hv; subst hv; rw [HN.out]; exact hlt, by simp, by simp, fun _ => Nat.le_refl _⟩
      have HLIT : Hid (IntsAt (wi.alloc (.cells #[.int .i64 (k : Int)] 3)) (· < (wi.alloc (.cells #[.int .i64 (k : Int)] 3)).heap.size) (some ⟨wi.heap.size, 0, none⟩) 1 (natD [k])) := Lib.hid ((IntsAt.lit (W := wi) (cs := #[.int .i64 (k : Int)]) (t := 3) (xs := [(k : Int)]) (len := 1) rfl rfl rfl (by omega)).to (fun b hb => ⟨by subst hb; simp, rfl⟩))
      have HB1 := Lib.hid (HB.out.alloc (by omega) (.cells #[.int .i64 (k : Int)] 3))
      have HCALL := Lib.hid (HPF.out _ HB1.out k [k] (some ⟨wi.heap.size, 0, none⟩) 1 0 0 HPO.out (HA.out _ HB1.out) HLIT.out (Nat.le_refl _))
      have hz1 : (wi.alloc (.cells #[.int .i64 (k : Int)] 3)).heap.size = wi.heap.size + 1 := by simp
      have HZ1 := Lib.hid hz1
      clear hz1
      go_wp2_with fail
      refine HCALL.out.mono ?_
      rintro e w5 ⟨U', D', rfl, hop, hb5⟩
      have hsz5 : wi.heap.size < w5.heap.size := by have := hb5.size; have := HZ1.out; omega
      have HBX := Lib.hid (((Below.refl wi.heap.size wi).alloc (Nat.le_refl _) (.cells #[.int .i64 (k : Int)] 3)).trans (hb5.mono (by have := HZ1.out; omega)) |>.alloc (by omega) (.cells #[.int .i64 (U' : Int), .int .i64 (D' : Int)] 32))
      have HOP := Lib.hid hop
      have HT5 := Lib.hid (two_new w5 (.int .i64 (U' : Int)) (.int .i64 (D' : Int)) 32)
      have HZ5 : Hid ((w5.alloc (.cells #[.int .i64 (U' : Int), .int .i64 (D' : Int)] 32)).heap.size = w5.heap.size + 1) := Lib.hid (by simp)
      have HE6 := Lib.hid (HT.out.block (HBX.out.block _ HT.out.lt))
      have HR6 := Lib.hid (HR.out.block (HBX.out.block _ HR.out.lt))
      have HN6 := Lib.hid (HNB.out.block (HBX.out.block _ HNB.out.lt))
      have HB6 := Lib.hid (HB.out.trans (HBX.out.mono HB.out.size))
      obtain ⟨hu8, hd8⟩ := opt_bd hop
      have HUP := Lib.hid (fun T C => upto_succ (g := g) (k := k) (ok := fun s v => s < v) T C)
      clear hop hb5 n0 n1
      obtain ⟨⟨t0, tz0⟩, t1, tz1⟩ := HT5.out
      obtain ⟨⟨b0, bz0⟩, b1, bz1⟩ := HE6.out
      by_cases hD0 : D' = 0
      · have hDI : ¬ (0 : Int) < (D' : Int) := by omega
        have HGN := Lib.hid (gr_orR HGR.out (opt_none HOP.out hD0) HUP.out)
        clear hD0
        go_wp2_with fail
        go_roundw
        case rel => exact ⟨k + 1, U, D, by go_num, by omega, HGN.out, HE6.out, HR6.out, HB6.out, HN6.out, by have := HZ5.out; omega⟩
        case measure => simp [intOf]; omega
      · have hDI : (0 : Int) < (D' : Int) := by omega
        have HG2 := Lib.hid (opt_gr HOP.out hD0)
        have HLE := Lib.hid (less_any U D U' D' (by omega) (w5.alloc (.cells #[.int .i64 (U' : Int), .int .i64 (D' : Int)] 32)))
        clear hD0
        by_cases hlt2 : (U : Int) * D' < (U' : Int) * D
        · rw [decide_eq_true hlt2] at HLE
          have HGN := Lib.hid (gr_right HGR.out HG2.out hlt2 HUP.out)
          clear hlt2
          go_wp2_with fail
          refine HLE.out.mono ?_
          rintro e w9 ⟨rfl, hb9⟩
          have hs9 := hb9.size
          have HT9 := Lib.hid (HT5.out.block (hb9.block _ HT5.out.lt))
          have HE9 := Lib.hid (HE6.out.block (hb9.block _ HE6.out.lt))
          have HR9 := Lib.hid (HR6.out.block (hb9.block _ HR6.out.lt))
          have HN9 := Lib.hid (HN6.out.block (hb9.block _ HN6.out.lt))
          have HB9 := Lib.hid (HB6.out.trans (hb9.mono HB6.out.size))
          have hz9 : w3.heap.size < w9.heap.size := by have := HZ5.out; omega
          clear t0 tz0 t1 tz1 b0 bz0 b1 bz1 hb9 hs9
          obtain ⟨⟨t0, tz0⟩, t1, tz1⟩ := HT9.out
          obtain ⟨⟨b0, bz0⟩, b1, bz1⟩ := HE9.out
          have hgs : ∀ x y : Value, w9.grownBy ((w9.setCell ⟨w3.heap.size, 0, none⟩ x).setCell ⟨w3.heap.size, 1, none⟩ y) (some w3.heap.size) := fun x y => grown_comp (grownBy_setCell _ _ _) (grownBy_setCell _ _ _)
          have HGS := Lib.hid hgs
          clear hgs
          go_wp2_with fail
          go_roundw
          case rel => exact ⟨k + 1, U', D', by go_num, by omega, HGN.out, (HE9.out.set0 _).set1 _, HR9.out.grown (HGS.out _ _) (by simp; omega), (HB9.out.setCell (p := ⟨w3.heap.size, 0, none⟩) (by show w.heap.size ≤ w3.heap.size; omega) _).setCell (p := ⟨w3.heap.size, 1, none⟩) (by show w.heap.size ≤ w3.heap.size; omega) _, HN9.out.block ((HGS.out _ _).block _ HN9.out.lt (by simp; omega)), by simpa [World.setCell] using hz9⟩
          case measure => simp [intOf]; omega
        · rw [decide_eq_false hlt2] at HLE
          have HGN := Lib.hid (gr_left HGR.out HG2.out hlt2 HUP.out)
          clear hlt2
          go_wp2_with fail
          refine HLE.out.mono ?_
          rintro e w9 ⟨rfl, hb9⟩
          have hs9 := hb9.size
          have HE9 := Lib.hid (HE6.out.block (hb9.block _ HE6.out.lt))
          have HR9 := Lib.hid (HR6.out.block (hb9.block _ HR6.out.lt))
          have HN9 := Lib.hid (HN6.out.block (hb9.block _ HN6.out.lt))
          have HB9 := Lib.hid (HB6.out.trans (hb9.mono HB6.out.size))
          have hz9 : w3.heap.size < w9.heap.size := by have := HZ5.out; omega
          clear t0 tz0 t1 tz1 b0 bz0 b1 bz1 hb9 hs9
          go_wp2_with fail
          go_roundw
          case rel => exact ⟨k + 1, U, D, by go_num, by omega, HGN.out, HE9.out, HR9.out, HB9.out, HN9.out, hz9⟩
          case measure => simp [intOf]; omega
    · obtain rfl : k = lT := by omega
      have hkI : ¬ (k : Int) < (k : Int) := by omega
      have HPC := Lib.hid (pace_of HOK.out HRK.out HGR.out (fun T C ⟨s, hs, hb⟩ => ⟨s, by rw [← HN.out]; exact hs, hb⟩) (fun T C ⟨s, hs, hb⟩ => ⟨s, by rw [HN.out]; exact hs, back_mono (fun _ _ => trivial) hb⟩))
      obtain ⟨⟨b0, bz0⟩, b1, bz1⟩ := HT.out
      obtain ⟨⟨r0, z0⟩, r1, z1⟩ := HR.out
      have v0 := ((HR.out.set0 (.int .i64 U)).set1 (.int .i64 D)).1.1
      have v1 := ((HR.out.set0 (.int .i64 U)).set1 (.int .i64 D)).2.1
      have HVV := Lib.hid (And.intro v0 v1)
      clear v0 v1
      go_wp2_with fail
      obtain ⟨v0, v1⟩ := HVV.out
      refine bodyPost_ret (v := .agg #[.int .i64 U, .int .i64 D]) (by simp [results, Try.results49, go_sem, v0, v1]) rfl ⟨U, D, rfl, HPC.out, (HB.out.setCell (p := ⟨w.heap.size + 1, 0, none⟩) (Nat.le_succ _) _).setCell (p := ⟨w.heap.size + 1, 1, none⟩) (Nat.le_succ _) _⟩
set_option maxRecDepth 100000 in
set_option maxHeartbeats 4000000 in
theorem paceOf_spec (d : NV) (ts : List Int) (rows : List (List Int)) (w : World) (h : NetAt w (· < w.heap.size) d ts rows) :
    Calls Try.prog 23 #[.agg #[.slice d.aT d.lT d.cT, .slice d.aW d.lW d.cW]] w (PacePostR w ts rows) := by
  have HV := Lib.hid (fun w' (hb : Below w.heap.size w w') => validNet_any d ts rows w' (net_lift h hb))
  have HD := Lib.hid (fun w' (hb : Below w.heap.size w w') hv => dead_any d ts rows w' (net_lift h hb) hv)
  have HP := Lib.hid (fun w' (hb : Below w.heap.size w w') hal => pace_any d ts rows w' (net_lift h hb) hal)
  obtain ⟨aT, lT, cT, aW, lW, cW⟩ := d
  clear h
  dsimp only at HV HD HP
  have HAL : Hid (aliveB ts rows = (tokM ts rows && !(grOf ts rows).deadB)) := Lib.hid rfl
  have hb1 := (Below.refl w.heap.size w).alloc (Nat.le_refl _) (.cells #[.slice aT lT cT, .slice aW lW cW] 26)
  have hn1 := netB_new w aT lT cT aW lW cW 26
  have hz1 : (w.alloc (.cells #[.slice aT lT cT, .slice aW lW cW] 26)).heap.size = w.heap.size + 1 := by simp
  obtain ⟨w1, hw1⟩ : ∃ w1, (w.alloc (.cells #[.slice aT lT cT, .slice aW lW cW] 26)) = w1 := ⟨_, rfl⟩
  rw [hw1] at hb1 hn1 hz1
  have ht2 := two_new w1 (.int .i64 0) (.int .i64 0) 32
  have hb2 := hb1.alloc (by omega) (.cells #[.int .i64 0, .int .i64 0] 32)
  have hn2 : NetB (w1.alloc (.cells #[.int .i64 0, .int .i64 0] 32)) w.heap.size ⟨aT, lT, cT, aW, lW, cW⟩ := hn1.block (Below.heap_alloc _ _ _ (by omega))
  have hz2 : (w1.alloc (.cells #[.int .i64 0, .int .i64 0] 32)).heap.size = w.heap.size + 2 := by simp; omega
  rw [hz1] at ht2
  obtain ⟨w2, hw2⟩ : ∃ w2, (w1.alloc (.cells #[.int .i64 0, .int .i64 0] 32)) = w2 := ⟨_, rfl⟩
  rw [hw2] at ht2 hb2 hn2 hz2
  have HW1 := Lib.hid hw1
  have HW2 := Lib.hid hw2
  have HT2 := Lib.hid ht2
  have HB2 := Lib.hid hb2
  have HN2 := Lib.hid hn2
  have HZ2 := Lib.hid hz2
  clear hw1 hw2 ht2 hb1 hb2 hn1 hn2 hz1 hz2
  have HNO := Lib.hid (show ∀ w', Below w2.heap.size w2 w' → aliveB ts rows = false → PacePostR w ts rows (.returned (.tuple #[.agg #[.int .i64 0, .int .i64 0], .bool false])) ((w'.setCell ⟨w.heap.size + 1, 0, none⟩ (.int .i64 0)).setCell ⟨w.heap.size + 1, 1, none⟩ (.int .i64 0)) from fun w' hb ha => ⟨0, 0, false, rfl, .inr ⟨ha, rfl, rfl, rfl⟩, ((HB2.out.trans (hb.mono HB2.out.size)).setCell (p := ⟨w.heap.size + 1, 0, none⟩) (Nat.le_succ _) _).setCell (p := ⟨w.heap.size + 1, 1, none⟩) (Nat.le_succ _) _⟩)
  cases hv : tokM ts rows
  · rw [hv] at HV HAL
    clear hv HD HP
    go_enter Try.func23, Try.ntmps23
    obtain ⟨n0, n1⟩ := HN2.out
    dsimp only at n0 n1
    go_wp2_with fail
    rw [HW1.out, HW2.out]
    refine (HV.out w2 HB2.out).mono ?_
    rintro e w3 ⟨rfl, hb3⟩
    have HT3 := Lib.hid (HT2.out.block (hb3.block _ HT2.out.lt))
    have HF := Lib.hid (HNO.out w3 hb3 HAL.out)
    obtain ⟨⟨r0, z0⟩, r1, z1⟩ := HT3.out
    have HVV := Lib.hid (And.intro ((HT3.out.set0 (.int .i64 0)).set1 (.int .i64 0)).1.1 ((HT3.out.set0 (.int .i64 0)).set1 (.int .i64 0)).2.1)
    clear hb3
    go_wp2_with fail
    obtain ⟨v0, v1⟩ := HVV.out
    exact bodyPost_ret (v := .tuple #[.agg #[.int .i64 0, .int .i64 0], .bool false]) (by simp [results, Try.results23, go_sem, v0, v1]) rfl HF.out
  · rw [hv] at HV HAL
    have HD2 := Lib.hid (fun w' hb => HD.out w' hb hv)
    clear hv HD
    cases hdd : (grOf ts rows).deadB
    · rw [hdd] at HD2 HAL
      have HP2 := Lib.hid (fun w' hb => HP.out w' hb HAL.out)
      clear hdd HP
      go_enter Try.func23, Try.ntmps23
      obtain ⟨n0, n1⟩ := HN2.out
      dsimp only at n0 n1
      go_wp2_with fail
      rw [HW1.out, HW2.out]
      refine (HV.out w2 HB2.out).mono ?_
      rintro e w3 ⟨rfl, hb3⟩
      have HB3 := Lib.hid (HB2.out.trans (hb3.mono HB2.out.size))
      have HN3 := Lib.hid (HN2.out.block (hb3.block _ HN2.out.lt))
      have HT3 := Lib.hid (HT2.out.block (hb3.block _ HT2.out.lt))
      clear n0 n1 hb3
      obtain ⟨n0, n1⟩ := HN3.out
      dsimp only at n0 n1
      go_wp2_with fail
      refine (HD2.out w3 HB3.out).mono ?_
      rintro e w4 ⟨rfl, hb4⟩
      have HB4 := Lib.hid (HB3.out.trans (hb4.mono HB3.out.size))
      have HN4 := Lib.hid (HN3.out.block (hb4.block _ HN3.out.lt))
      have HT4 := Lib.hid (HT3.out.block (hb4.block _ HT3.out.lt))
      clear n0 n1 hb4
      obtain ⟨n0, n1⟩ := HN4.out
      dsimp only at n0 n1
      go_wp2_with fail
      refine (HP2.out w4 HB4.out).mono ?_
      rintro e w5 ⟨U, D, rfl, hp, hb5⟩
      have HB5 := Lib.hid (HB4.out.trans (hb5.mono HB4.out.size))
      have HT5 := Lib.hid (HT4.out.block (hb5.block _ HT4.out.lt))
      have HPC := Lib.hid hp
      clear n0 n1 hb5 hp
      obtain ⟨⟨r0, z0⟩, r1, z1⟩ := HT5.out
      have HVV := Lib.hid (And.intro ((HT5.out.set0 (.int .i64 U)).set1 (.int .i64 D)).1.1 ((HT5.out.set0 (.int .i64 U)).set1 (.int .i64 D)).2.1)
      go_wp2_with fail
      obtain ⟨v0, v1⟩ := HVV.out
      exact bodyPost_ret (v := .tuple #[.agg #[.int .i64 U, .int .i64 D], .bool true]) (by simp [results, Try.results23, go_sem, v0, v1]) rfl ⟨U, D, true, rfl, .inl ⟨HAL.out, rfl, HPC.out⟩, (HB5.out.setCell (p := ⟨w.heap.size + 1, 0, none⟩) (Nat.le_succ _) _).setCell (p := ⟨w.heap.size + 1, 1, none⟩) (Nat.le_succ _) _⟩
    · rw [hdd] at HD2 HAL
      clear hdd HP
      go_enter Try.func23, Try.ntmps23
      obtain ⟨n0, n1⟩ := HN2.out
      dsimp only at n0 n1
      go_wp2_with fail
      rw [HW1.out, HW2.out]
      refine (HV.out w2 HB2.out).mono ?_
      rintro e w3 ⟨rfl, hb3⟩
      have HB3 := Lib.hid (HB2.out.trans (hb3.mono HB2.out.size))
      have HN3 := Lib.hid (HN2.out.block (hb3.block _ HN2.out.lt))
      have HB23 := Lib.hid hb3
      clear n0 n1 hb3
      obtain ⟨n0, n1⟩ := HN3.out
      dsimp only at n0 n1
      go_wp2_with fail
      refine (HD2.out w3 HB3.out).mono ?_
      rintro e w4 ⟨rfl, hb4⟩
      have HB24 := Lib.hid (HB23.out.trans (hb4.mono HB23.out.size))
      have HT4 := Lib.hid (HT2.out.block (HB24.out.block _ HT2.out.lt))
      have HF := Lib.hid (HNO.out w4 HB24.out HAL.out)
      clear n0 n1 hb4
      obtain ⟨⟨r0, z0⟩, r1, z1⟩ := HT4.out
      have HVV := Lib.hid (And.intro ((HT4.out.set0 (.int .i64 0)).set1 (.int .i64 0)).1.1 ((HT4.out.set0 (.int .i64 0)).set1 (.int .i64 0)).2.1)
      go_wp2_with fail
      obtain ⟨v0, v1⟩ := HVV.out
      exact bodyPost_ret (v := .tuple #[.agg #[.int .i64 0, .int .i64 0], .bool false]) (by simp [results, Try.results23, go_sem, v0, v1]) rfl HF.out
end Go.Proofs.Ytkebdelfklmigad
