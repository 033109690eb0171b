/- The law FnBadOut returns true at every code, and the code reads behind the call as it read before. No condition. -/
import Derived.Test.YtkebdelfklmigabRows
import Derived.WalkKit
import Derived.LoopTactic
import Derived.Outline
import Derived.WalkSpells
import Derived.WalkLawsBesides
import Derived.ProofKit
import Derived.Deep.QuietTactic
import Derived.BigQuiet
import Derived.IntWalk
import Derived.Test.YtkebdelfklmigabM0
import Derived.Test.YtkebdelfklmigabM1
import Derived.Test.YtkebdelfklmigabM2
import Derived.Test.YtkebdelfklmigabM3
import Derived.Test.YtkebdelfklmigabM5
import Derived.Test.YtkebdelfklmigabM6
import Derived.Test.YtkebdelfklmigabM7
import Derived.Test.YtkebdelfklmigabM10
import Derived.Test.YtkebdelfklmigabM11
import Derived.Test.YtkebdelfklmigabM12
import Derived.Test.YtkebdelfklmigabM13
namespace Go.Proofs.Ytkebdelfklmigab
open Go.RowKit Go.WideShapes

set_option maxRecDepth 100000 in
set_option maxHeartbeats 2000000 in
theorem fnBadOut_any (a : Option Addr) (len cap : Nat) (w : World) (hb : BytesAt w w.heap.size a len) (hl : len ≤ cap) (hs : len ≤ 9223372036854775807) :
    Calls Try.prog 5 #[.slice a len cap] w (LawPost w) := by
  by_cases h20 : len ≤ 1048576
  · go_enter Try.func5, Try.ntmps5
    have hB0 := Below.refl w.heap.size w
    go_wp2_with fail
    refine (drawBadOut_any a len cap w hb hl hs).mono ?_
    rintro e w1 ⟨x0, x1, x2, x3, rfl, r0a, r0b, r1a, r1b, r2a, r2b, r3a, r3b, hb1⟩
    have hB1 : Below w.heap.size w w1 := hB0.trans (hb1.mono hB0.size)
    clear hB0
    clear hb hb1
    go_wp2_with fail
    refine (badOut_impl x0 x1 x2 x3 w1).mono ?_
    rintro e w2 ⟨rfl, hb2⟩
    have hB2 : Below w.heap.size w w2 := hB1.trans (hb2.mono hB1.size)
    clear hB1
    clear hb2
    obtain ⟨U, hU⟩ : ∃ u, badU x0 x1 x2 x3 = u := ⟨_, rfl⟩
    obtain ⟨D, hD⟩ : ∃ u, badD x0 x1 x2 x3 = u := ⟨_, rfl⟩
    obtain ⟨B, hB⟩ : ∃ u, planB x0 x1 x2 x3 = u := ⟨_, rfl⟩
    rw [hU, hD, hB]
    have HU := Lib.hid hU
    have HD := Lib.hid hD
    have HB := Lib.hid hB
    clear hU hD hB
    have frx_n := two_new w2 (.int .i64 (U : Int)) (.int .i64 (D : Int)) 26
    have hbx := (Below.refl w2.heap.size w2).alloc (Nat.le_refl _) (.cells #[.int .i64 (U : Int), .int .i64 (D : Int)] 26)
    obtain ⟨w3, hw3⟩ : ∃ wx, w2.alloc (.cells #[.int .i64 (U : Int), .int .i64 (D : Int)] 26) = wx := ⟨_, rfl⟩
    rw [hw3] at frx_n hbx
    have HW3 := Lib.hid hw3
    clear hw3
    have hB3 : Below w.heap.size w w3 := hB2.trans (hbx.mono hB2.size)
    clear hB2
    clear hbx
    have frx_3 := frx_n
    clear frx_n
    have cx0 := frx_3.1.1
    have cx1 := frx_3.2.1
    rw [← HW3.out] at cx0 cx1
    go_wp2_with fail
    rw [HW3.out]
    refine (badOut_spec x0 x1 x2 x3 w3).mono ?_
    rintro e w4 ⟨rfl, hb3⟩
    clear cx0 cx1
    have frx_4 := frx_3.block (hb3.block _ frx_3.lt)
    clear frx_3
    have hB4 : Below w.heap.size w w4 := hB3.trans (hb3.mono hB3.size)
    clear hB3
    clear hb3
    rw [HU.out, HD.out, HB.out]
    have fru_n := two_new w4 (.int .i64 (U : Int)) (.int .i64 (D : Int)) 26
    have hbx := (Below.refl w4.heap.size w4).alloc (Nat.le_refl _) (.cells #[.int .i64 (U : Int), .int .i64 (D : Int)] 26)
    obtain ⟨w5, hw5⟩ : ∃ wx, w4.alloc (.cells #[.int .i64 (U : Int), .int .i64 (D : Int)] 26) = wx := ⟨_, rfl⟩
    rw [hw5] at fru_n hbx
    have HW5 := Lib.hid hw5
    clear hw5
    have frx_5 := frx_4.block (hbx.block _ frx_4.lt)
    clear frx_4
    have hB5 : Below w.heap.size w w5 := hB4.trans (hbx.mono hB4.size)
    clear hB4
    clear hbx
    have fru_5 := fru_n
    clear fru_n
    have hne := run_neq_frac U D
    have heq := run_eq_frac U D
    have hq := @pass_bd x0 x1 x2 x3
    rw [HU.out, HD.out] at hq
    cases B
    · have cx0 := frx_5.1.1
      have cx1 := frx_5.2.1
      have cu0 := fru_5.1.1
      have cu1 := fru_5.2.1
      rw [← HW5.out] at cx0 cx1 cu0 cu1
      go_wp2_with fail
      rw [HW5.out]
      go_ret
      exact ⟨rfl, hB5⟩
    · obtain ⟨l, b, s, m, rfl, rfl, rfl, rfl, h1, h12, hbl, hsl, hm⟩ := plan_get HB.out
      have HV := Lib.hid HB.out
      obtain ⟨_, _, n1, n2⟩ := pass_none HV.out
      have n3 := plan_none HV.out
      have cx0 := frx_5.1.1
      have cx1 := frx_5.2.1
      have cu0 := fru_5.1.1
      have cu1 := fru_5.2.1
      rw [← HW5.out] at cx0 cx1 cu0 cu1
      go_wp2_with fail
      rw [HW5.out]
      refine (passChance_impl l b s m w5).mono ?_
      rintro e w6 ⟨rfl, hby⟩
      clear cx0 cx1
      clear cu0 cu1
      have frx_6 := frx_5.block (hby.block _ frx_5.lt)
      clear frx_5
      have fru_6 := fru_5.block (hby.block _ fru_5.lt)
      clear fru_5
      have hB6 : Below w.heap.size w w6 := hB5.trans (hby.mono hB5.size)
      clear hB5
      clear hby
      obtain ⟨U1, hU1⟩ : ∃ u, passU l b s m = u := ⟨_, rfl⟩
      obtain ⟨D1, hD1⟩ : ∃ u, passD l b s m = u := ⟨_, rfl⟩
      rw [hU1, hD1] at hq
      rw [hU1, hD1, HB.out]
      have HU1 := Lib.hid hU1
      have HD1 := Lib.hid hD1
      clear hU1 hD1
      have frp_n := two_new w6 (.int .i64 (U1 : Int)) (.int .i64 (D1 : Int)) 26
      have hbx := (Below.refl w6.heap.size w6).alloc (Nat.le_refl _) (.cells #[.int .i64 (U1 : Int), .int .i64 (D1 : Int)] 26)
      obtain ⟨w7, hw7⟩ : ∃ wx, w6.alloc (.cells #[.int .i64 (U1 : Int), .int .i64 (D1 : Int)] 26) = wx := ⟨_, rfl⟩
      rw [hw7] at frp_n hbx
      have HW7 := Lib.hid hw7
      clear hw7
      have frx_7 := frx_6.block (hbx.block _ frx_6.lt)
      clear frx_6
      have fru_7 := fru_6.block (hbx.block _ fru_6.lt)
      clear fru_6
      have hB7 : Below w.heap.size w w7 := hB6.trans (hbx.mono hB6.size)
      clear hB6
      clear hbx
      have frp_7 := frp_n
      clear frp_n
      have cx0 := frx_7.1.1
      have cx1 := frx_7.2.1
      have cu0 := fru_7.1.1
      have cu1 := fru_7.2.1
      have cp0 := frp_7.1.1
      have cp1 := frp_7.2.1
      rw [← HW7.out] at cx0 cx1 cu0 cu1 cp0 cp1
      go_wp2_with fail
      rw [HW7.out]
      refine (badOut_impl l b 0 m w7).mono ?_
      rintro e w8 ⟨rfl, hby⟩
      clear cx0 cx1
      clear cu0 cu1
      clear cp0 cp1
      have frx_8 := frx_7.block (hby.block _ frx_7.lt)
      clear frx_7
      have fru_8 := fru_7.block (hby.block _ fru_7.lt)
      clear fru_7
      have frp_8 := frp_7.block (hby.block _ frp_7.lt)
      clear frp_7
      have hB8 : Below w.heap.size w w8 := hB7.trans (hby.mono hB7.size)
      clear hB7
      clear hby
      rw [n1, n2, n3]
      clear n1 n2 n3
      have frn_n := two_new w8 (.int .i64 (b : Int)) (.int .i64 (1 : Int)) 26
      have hbx := (Below.refl w8.heap.size w8).alloc (Nat.le_refl _) (.cells #[.int .i64 (b : Int), .int .i64 (1 : Int)] 26)
      obtain ⟨w9, hw9⟩ : ∃ wx, w8.alloc (.cells #[.int .i64 (b : Int), .int .i64 (1 : Int)] 26) = wx := ⟨_, rfl⟩
      rw [hw9] at frn_n hbx
      have HW9 := Lib.hid hw9
      clear hw9
      have frx_9 := frx_8.block (hbx.block _ frx_8.lt)
      clear frx_8
      have fru_9 := fru_8.block (hbx.block _ fru_8.lt)
      clear fru_8
      have frp_9 := frp_8.block (hbx.block _ frp_8.lt)
      clear frp_8
      have hB9 : Below w.heap.size w w9 := hB8.trans (hbx.mono hB8.size)
      clear hB8
      clear hbx
      have frn_9 := frn_n
      clear frn_n
      have HLE := Lib.hid (bad_le HV.out)
      rw [HU.out, HD.out, HU1.out, HD1.out] at HLE
      have hbu : b * U1 ≤ 12 * 924 := Nat.mul_le_mul (by omega) (by omega)
      have HBU : Hid ((b : Int) * (U1 : Int) = ((b * U1 : Nat) : Int)) := Lib.hid (by push_cast; rfl)
      rw [HBU.out] at HLE
      have HBW : Hid (IntKind.i64.wrap ((b : Int) * (U1 : Int)) = ((b * U1 : Nat) : Int)) := Lib.hid (by rw [HBU.out]; exact IntWalk.i64_in _ (by omega))
      obtain ⟨bu, hbu2⟩ : ∃ bu, b * U1 = bu := ⟨_, rfl⟩
      rw [hbu2] at HLE HBW hbu
      have HLS := Lib.hid (lless_any bu D1 U D (by omega))
      rw [decide_eq_false HLE.out] at HLS
      have HF := Lib.hid (lfrac_any b 1 (by omega) (by omega) (by omega))
      rw [f_int.1, f_int.2] at HF
      unfold FracP at HF
      clear hq hbu hbu2 hne heq HBU
      have cx0 := frx_9.1.1
      have cx1 := frx_9.2.1
      have cu0 := fru_9.1.1
      have cu1 := fru_9.2.1
      have cp0 := frp_9.1.1
      have cp1 := frp_9.2.1
      have cn0 := frn_9.1.1
      have cn1 := frn_9.2.1
      rw [← HW9.out] at cx0 cx1 cu0 cu1 cp0 cp1 cn0 cn1
      go_wp2_with fail
      rw [HW9.out]
      clear cx0 cx1
      clear cu0 cu1
      clear cp0 cp1
      clear cn0 cn1
      have HL := Lib.hid (fun w' (hS : Below w9.heap.size w9 w') => And.intro (frx_9.lift hS) <| And.intro (frp_9.lift hS) <| And.intro (frn_9.lift hS) <| True.intro)
      have HY0 : Hid (Below w9.heap.size w9 w9.drew) := Lib.hid (Below.refl _ _).drew
      have hB9 := hB9
      refine wp_region_held_drew (S := (fun w' => Below w9.heap.size w9 w')) (by kernel_rfl) HY0.out (fun hHeld => ?_)
      refine wpAnyH_take (i := 0) (v := .bool true) rfl (by kernel_rfl) (by kernel_rfl) (by kernel_rfl) (fun _ _ _ h => h) (Or.inl ⟨by rfl, ?_⟩) hHeld ?_
      · rintro w' hS; go_simp
      try simp only [Act.put, List.setIfInBounds_toArray, List.set_cons_zero, List.set_cons_succ, List.getElem_toArray, List.getElem_cons_succ, List.getElem_cons_zero]
      refine wpAnyH_take (i := 1) (v := .bool true) rfl (by kernel_rfl) (by kernel_rfl) (by kernel_rfl) (fun _ _ _ h => h) (Or.inl ⟨by rfl, ?_⟩) hHeld ?_
      · rintro w' hS; go_simp
      try simp only [Act.put, List.setIfInBounds_toArray, List.set_cons_zero, List.set_cons_succ, List.getElem_toArray, List.getElem_cons_succ, List.getElem_cons_zero]
      refine wpAnyH_take (i := 2) (v := .int .i64 b) rfl (by kernel_rfl) (by kernel_rfl) (by kernel_rfl) (fun _ _ _ h => h) (Or.inl ⟨by rfl, ?_⟩) hHeld ?_
      · rintro w' hS; go_simp
      try simp only [Act.put, List.setIfInBounds_toArray, List.set_cons_zero, List.set_cons_succ, List.getElem_toArray, List.getElem_cons_succ, List.getElem_cons_zero]
      refine wpAnyH_take (i := 3) (v := .pointer (some ⟨w6.heap.size, 0, none⟩)) rfl (by kernel_rfl) (by kernel_rfl) (by kernel_rfl) (fun _ _ _ h => h) (Or.inl ⟨by rfl, ?_⟩) hHeld ?_
      · rintro w' hS; go_simp
      try simp only [Act.put, List.setIfInBounds_toArray, List.set_cons_zero, List.set_cons_succ, List.getElem_toArray, List.getElem_cons_succ, List.getElem_cons_zero]
      refine wpAnyH_take (i := 4) (v := .int .i64 U1) rfl (by kernel_rfl) (by kernel_rfl) (by kernel_rfl) (fun _ _ _ h => h) (Or.inl ⟨by rfl, ?_⟩) hHeld ?_
      · rintro w' hS; have k0 := (HL.out w' hS).2.1.1.1; have k1 := (HL.out w' hS).2.1.2.1; go_simp
      try simp only [Act.put, List.setIfInBounds_toArray, List.set_cons_zero, List.set_cons_succ, List.getElem_toArray, List.getElem_cons_succ, List.getElem_cons_zero]
      refine wpAnyH_take (i := 5) (v := .int .i64 bu) rfl (by kernel_rfl) (by kernel_rfl) (by kernel_rfl) (fun _ _ _ h => h) (Or.inl ⟨by rfl, ?_⟩) hHeld ?_
      · rintro w' hS; go_simp; rw [← HBW.out, IntWalk.i64_left]
      try simp only [Act.put, List.setIfInBounds_toArray, List.set_cons_zero, List.set_cons_succ, List.getElem_toArray, List.getElem_cons_succ, List.getElem_cons_zero]
      refine wpAnyH_take (i := 6) (v := .pointer (some ⟨w6.heap.size, 1, none⟩)) rfl (by kernel_rfl) (by kernel_rfl) (by kernel_rfl) (fun _ _ _ h => h) (Or.inl ⟨by rfl, ?_⟩) hHeld ?_
      · rintro w' hS; go_simp
      try simp only [Act.put, List.setIfInBounds_toArray, List.set_cons_zero, List.set_cons_succ, List.getElem_toArray, List.getElem_cons_succ, List.getElem_cons_zero]
      refine wpAnyH_take (i := 7) (v := .int .i64 D1) rfl (by kernel_rfl) (by kernel_rfl) (by kernel_rfl) (fun _ _ _ h => h) (Or.inl ⟨by rfl, ?_⟩) hHeld ?_
      · rintro w' hS; have k0 := (HL.out w' hS).2.1.1.1; have k1 := (HL.out w' hS).2.1.2.1; go_simp
      try simp only [Act.put, List.setIfInBounds_toArray, List.set_cons_zero, List.set_cons_succ, List.getElem_toArray, List.getElem_cons_succ, List.getElem_cons_zero]
      refine wpAnyH_take (i := 8) (v := .agg #[.int .i64 bu, .int .i64 D1]) rfl (by kernel_rfl) (by kernel_rfl) (by kernel_rfl) (fun _ _ _ h => h) (Or.inl ⟨by rfl, ?_⟩) hHeld ?_
      · rintro w' hS; go_simp
      try simp only [Act.put, List.setIfInBounds_toArray, List.set_cons_zero, List.set_cons_succ, List.getElem_toArray, List.getElem_cons_succ, List.getElem_cons_zero]
      refine wpAnyH_take (i := 9) (v := .agg #[.int .i64 U, .int .i64 D]) rfl (by kernel_rfl) (by kernel_rfl) (by kernel_rfl) (fun _ _ _ h => h) (Or.inl ⟨by rfl, ?_⟩) hHeld ?_
      · rintro w' hS; have k0 := (HL.out w' hS).1.1.1; have k1 := (HL.out w' hS).1.2.1; go_simp
      try simp only [Act.put, List.setIfInBounds_toArray, List.set_cons_zero, List.set_cons_succ, List.getElem_toArray, List.getElem_cons_succ, List.getElem_cons_zero]
      refine wpAnyH_ready (rs := [10]) (by kernel_rfl) (by simp) ?_
      refine AllReadyH.cons (o := _) rfl (fun K hK => ?_) AllReadyH.nil
      go_simp
      go_at_call 11
      refine (HLS.out _).mono ?_
      rintro e wy1 ⟨rfl, hy⟩
      have HY1 := Lib.hid (HY0.out.trans (hy.mono HY0.out.size))
      clear hy
      refine hK.out _ _ HY1.out (fun hHeld => ?_)
      clear hK K
      try simp only [Act.put, List.setIfInBounds_toArray, List.set_cons_zero, List.set_cons_succ, List.getElem_toArray, List.getElem_cons_succ, List.getElem_cons_zero]
      refine wpAnyH_take (i := 11) (v := .bool true) rfl (by kernel_rfl) (by kernel_rfl) (by kernel_rfl) (fun _ _ _ h => h) (Or.inl ⟨by rfl, ?_⟩) hHeld ?_
      · rintro w' hS; go_simp
      try simp only [Act.put, List.setIfInBounds_toArray, List.set_cons_zero, List.set_cons_succ, List.getElem_toArray, List.getElem_cons_succ, List.getElem_cons_zero]
      refine wpAnyH_take (i := 12) (v := .bool true) rfl (by kernel_rfl) (by kernel_rfl) (by kernel_rfl) (fun _ _ _ h => h) (Or.inl ⟨by rfl, ?_⟩) hHeld ?_
      · rintro w' hS; go_simp
      try simp only [Act.put, List.setIfInBounds_toArray, List.set_cons_zero, List.set_cons_succ, List.getElem_toArray, List.getElem_cons_succ, List.getElem_cons_zero]
      refine wpAnyH_take (i := 13) (v := .bool true) rfl (by kernel_rfl) (by kernel_rfl) (by kernel_rfl) (fun _ _ _ h => h) (Or.inl ⟨by rfl, ?_⟩) hHeld ?_
      · rintro w' hS; go_simp
      try simp only [Act.put, List.setIfInBounds_toArray, List.set_cons_zero, List.set_cons_succ, List.getElem_toArray, List.getElem_cons_succ, List.getElem_cons_zero]
      refine wpAnyH_take (i := 14) (v := .agg #[.int .i64 b, .int .i64 1]) rfl (by kernel_rfl) (by kernel_rfl) (by kernel_rfl) (fun _ _ _ h => h) (Or.inl ⟨by rfl, ?_⟩) hHeld ?_
      · rintro w' hS; have k0 := (HL.out w' hS).2.2.1.1.1; have k1 := (HL.out w' hS).2.2.1.2.1; go_simp
      try simp only [Act.put, List.setIfInBounds_toArray, List.set_cons_zero, List.set_cons_succ, List.getElem_toArray, List.getElem_cons_succ, List.getElem_cons_zero]
      refine wpAnyH_take (i := 15) (v := .int .i64 b) rfl (by kernel_rfl) (by kernel_rfl) (by kernel_rfl) (fun _ _ _ h => h) (Or.inl ⟨by rfl, ?_⟩) hHeld ?_
      · rintro w' hS; go_simp
      try simp only [Act.put, List.setIfInBounds_toArray, List.set_cons_zero, List.set_cons_succ, List.getElem_toArray, List.getElem_cons_succ, List.getElem_cons_zero]
      refine wpAnyH_ready (rs := [16]) (by kernel_rfl) (by simp) ?_
      refine AllReadyH.cons (o := _) rfl (fun K hK => ?_) AllReadyH.nil
      go_simp
      go_at_call 12
      refine (HF.out _).mono ?_
      rintro e wy2 ⟨rfl, hy⟩
      have HY2 := Lib.hid (HY1.out.trans (hy.mono HY1.out.size))
      clear hy
      refine hK.out _ _ HY2.out (fun hHeld => ?_)
      clear hK K
      try simp only [Act.put, List.setIfInBounds_toArray, List.set_cons_zero, List.set_cons_succ, List.getElem_toArray, List.getElem_cons_succ, List.getElem_cons_zero]
      refine wpAnyH_take (i := 17) (v := .bool true) rfl (by kernel_rfl) (by kernel_rfl) (by kernel_rfl) (fun _ _ _ h => h) (Or.inl ⟨by rfl, ?_⟩) hHeld ?_
      · rintro w' hS; have h := run_eq_frac b 1 w'; go_simp
      try simp only [Act.put, List.setIfInBounds_toArray, List.set_cons_zero, List.set_cons_succ, List.getElem_toArray, List.getElem_cons_succ, List.getElem_cons_zero]
      refine wpAnyH_take (i := 18) (v := .bool true) rfl (by kernel_rfl) (by kernel_rfl) (by kernel_rfl) (fun _ _ _ h => h) (Or.inl ⟨by rfl, ?_⟩) hHeld ?_
      · rintro w' hS; go_simp
      try simp only [Act.put, List.setIfInBounds_toArray, List.set_cons_zero, List.set_cons_succ, List.getElem_toArray, List.getElem_cons_succ, List.getElem_cons_zero]
      refine wpAnyH_take (i := 19) (v := .bool true) rfl (by kernel_rfl) (by kernel_rfl) (by kernel_rfl) (fun _ _ _ h => h) (Or.inl ⟨by rfl, ?_⟩) hHeld ?_
      · rintro w' hS; go_simp
      try simp only [Act.put, List.setIfInBounds_toArray, List.set_cons_zero, List.set_cons_succ, List.getElem_toArray, List.getElem_cons_succ, List.getElem_cons_zero]
      refine wpAnyH_done (by kernel_rfl) ?_ _
      clear hHeld
      go_wp2_with fail
      go_ret
      exact ⟨rfl, hB9.trans (HY2.out.mono hB9.size)⟩
  · go_enter Try.func5, Try.ntmps5
    go_wp2
    go_ret
    exact ⟨rfl, Below.refl _ _⟩
end Go.Proofs.Ytkebdelfklmigab
