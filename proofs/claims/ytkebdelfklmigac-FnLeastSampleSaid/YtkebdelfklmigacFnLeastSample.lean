/- The law FnLeastSample returns true at every code, and the code reads behind the call as it read before. No condition. -/
import Derived.Test.YtkebdelfklmigacRows
import Derived.WalkKit
import Derived.LoopTactic
import Derived.Outline
import Derived.WalkSpells
import Derived.WalkLawsBesides
import Derived.ProofKit
import Derived.Deep.QuietTactic
import Derived.BigQuiet
import Derived.IntWalk
import Derived.Test.YtkebdelfklmigacM0
import Derived.Test.YtkebdelfklmigacM1
import Derived.Test.YtkebdelfklmigacM2
import Derived.Test.YtkebdelfklmigacM3
import Derived.Test.YtkebdelfklmigacM5
import Derived.Test.YtkebdelfklmigacM6
import Derived.Test.YtkebdelfklmigacM7
import Derived.Test.YtkebdelfklmigacM11
import Derived.Test.YtkebdelfklmigacM12
import Derived.Test.YtkebdelfklmigacM13
namespace Go.Proofs.Ytkebdelfklmigac
open Go.RowKit Go.WideShapes

set_option maxRecDepth 100000 in
set_option maxHeartbeats 2000000 in
theorem fnLeastSample_any (a : Option Addr) (len cap : Nat) (w : World) (hb : BytesAt w w.heap.size a len) (hl : len ≤ cap) (hs : len ≤ 9223372036854775807) :
    Calls Try.prog 3 #[.slice a len cap] w (LawPost w) := by
  by_cases h20 : len ≤ 1048576
  · go_enter Try.func3, Try.ntmps3
    have hB0 := Below.refl w.heap.size w
    go_wp2_with fail
    refine (drawLeastSample_any a len cap w hb hl hs).mono ?_
    rintro e w1 ⟨x0, x1, x2, x3, x4, rfl, r0a, r0b, r1a, r1b, r2a, r2b, r3a, r3b, r4a, r4b, hb1⟩
    have hB1 : Below w.heap.size w w1 := hB0.trans (hb1.mono hB0.size)
    clear hB0
    clear hb hb1
    go_wp2_with fail
    refine (leastSample_impl x0 x1 x2 x3 x4 w1).mono ?_
    rintro e w2 ⟨rfl, hb2⟩
    have hB2 : Below w.heap.size w w2 := hB1.trans (hb2.mono hB1.size)
    clear hB1
    clear hb2
    obtain ⟨c, hc⟩ : ∃ c, leastS x0 x1 x2 x3 x4 = c := ⟨_, rfl⟩
    rw [hc]
    have HC := Lib.hid hc
    have hne : (c != c) = false := by simp
    have heq : (c == c) = true := by simp
    clear hc
    go_wp2_with fail
    refine (leastSample_spec x0 x1 x2 x3 x4 w2).mono ?_
    rintro e w' ⟨rfl, he⟩
    obtain rfl := he.symm
    rw [HC.out]
    by_cases hc0 : c < 0
    · go_wp2_with fail
      refine (leastSample_spec x0 x1 x2 x3 x4 w2).mono ?_
      rintro e w' ⟨rfl, he⟩
      obtain rfl := he.symm
      rw [HC.out]
      go_wp2_with fail
      go_ret
      exact ⟨rfl, hB2⟩
    · obtain ⟨l, b, m, u, d, q, rfl, rfl, rfl, rfl, rfl, hq, hpl, hu40, hd1, hd40, hnl, hls⟩ := least_get (show 0 ≤ leastS x0 x1 x2 x3 x4 by rw [HC.out]; omega)
      rw [HC.out] at hq
      subst hq
      have HV := Lib.hid hpl
      have HNL := Lib.hid hnl
      have HLS := Lib.hid hls
      have hq12 : q ≤ 12 := by have := plan_nat hpl; omega
      clear hpl hnl hls
      go_wp2_with fail
      refine (passChance_impl l b q m w2).mono ?_
      rintro e w3 ⟨rfl, hby⟩
      have hB3 : Below w.heap.size w w3 := hB2.trans (hby.mono hB2.size)
      clear hB2
      clear hby
      obtain ⟨U1, hU1⟩ : ∃ u, passU l b q m = u := ⟨_, rfl⟩
      obtain ⟨D1, hD1⟩ : ∃ u, passD l b q m = u := ⟨_, rfl⟩
      have hq1 := @pass_bd l b q m
      rw [hU1, hD1] at hq1 HNL
      rw [hU1, hD1, HV.out]
      clear hU1 hD1
      have frn_n := two_new w3 (.int .i64 (U1 : Int)) (.int .i64 (D1 : Int)) 27
      have hbx := (Below.refl w3.heap.size w3).alloc (Nat.le_refl _) (.cells #[.int .i64 (U1 : Int), .int .i64 (D1 : Int)] 27)
      obtain ⟨w4, hw4⟩ : ∃ wx, w3.alloc (.cells #[.int .i64 (U1 : Int), .int .i64 (D1 : Int)] 27) = wx := ⟨_, rfl⟩
      rw [hw4] at frn_n hbx
      have HW4 := Lib.hid hw4
      clear hw4
      have hB4 : Below w.heap.size w w4 := hB3.trans (hbx.mono hB3.size)
      clear hB3
      clear hbx
      have frn_4 := frn_n
      clear frn_n
      have cn0 := frn_4.1.1
      have cn1 := frn_4.2.1
      rw [← HW4.out] at cn0 cn1
      go_wp2_with fail
      rw [HW4.out]
      refine (passChance_impl l b ((q : Int) - 1) m w4).mono ?_
      rintro e w5 ⟨rfl, hbm⟩
      clear cn0 cn1
      have frn_5 := frn_4.block (hbm.block _ frn_4.lt)
      clear frn_4
      have hB5 : Below w.heap.size w w5 := hB4.trans (hbm.mono hB4.size)
      clear hB4
      clear hbm
      obtain ⟨U2, hU2⟩ : ∃ u, passU l b ((q : Int) - 1) m = u := ⟨_, rfl⟩
      obtain ⟨D2, hD2⟩ : ∃ u, passD l b ((q : Int) - 1) m = u := ⟨_, rfl⟩
      obtain ⟨B2, hB2⟩ : ∃ u, planB l b ((q : Int) - 1) m = u := ⟨_, rfl⟩
      rw [hU2, hD2, hB2]
      have HU2 := Lib.hid hU2
      have HD2 := Lib.hid hD2
      have HB2 := Lib.hid hB2
      clear hU2 hD2 hB2
      have frk_n := two_new w5 (.int .i64 (U2 : Int)) (.int .i64 (D2 : Int)) 27
      have hbx := (Below.refl w5.heap.size w5).alloc (Nat.le_refl _) (.cells #[.int .i64 (U2 : Int), .int .i64 (D2 : Int)] 27)
      obtain ⟨w6, hw6⟩ : ∃ wx, w5.alloc (.cells #[.int .i64 (U2 : Int), .int .i64 (D2 : Int)] 27) = wx := ⟨_, rfl⟩
      rw [hw6] at frk_n hbx
      have HW6 := Lib.hid hw6
      clear hw6
      have frn_6 := frn_5.block (hbx.block _ frn_5.lt)
      clear frn_5
      have hB6 : Below w.heap.size w w6 := hB5.trans (hbx.mono hB5.size)
      clear hB5
      clear hbx
      have frk_6 := frk_n
      clear frk_n
      have hq2 := @pass_bd l b ((q : Int) - 1) m
      rw [HU2.out, HD2.out] at hq2 HLS
      rw [HB2.out] at HLS
      have HF := Lib.hid (lfrac_any u d (by omega) hd1 (by omega))
      unfold FracP at HF
      obtain ⟨f1, f2, f3⟩ := f_bd (T := u) (C := d) hd1
      obtain ⟨X, hX⟩ : ∃ X, fU u d = X := ⟨_, rfl⟩
      obtain ⟨Y, hY⟩ : ∃ Y, fD u d = Y := ⟨_, rfl⟩
      rw [hX, hY] at HF HNL HLS
      rw [hX] at f1
      rw [hY] at f2 f3
      clear hX hY
      have HL1 := Lib.hid (lless_any X Y U1 D1 (by omega))
      rw [decide_eq_false (show ¬ ((X : Int) * D1 < (U1 : Int) * Y) by have := HNL.out; omega)] at HL1
      have HL2 := Lib.hid (lless_any X Y U2 D2 (by omega))
      have HQ0 : Hid (B2 = true → 1 ≤ q) := Lib.hid (fun h => by
        have e := HB2.out
        rw [h] at e
        simp only [planB, inB, Bool.and_eq_true, decide_eq_true_eq] at e
        omega)
      clear hq1 hq2 hne heq
      cases B2
      · have cn0 := frn_6.1.1
        have cn1 := frn_6.2.1
        have ck0 := frk_6.1.1
        have ck1 := frk_6.2.1
        rw [← HW6.out] at cn0 cn1 ck0 ck1
        go_wp2_with fail
        rw [HW6.out]
        clear cn0 cn1
        clear ck0 ck1
        have HL := Lib.hid (fun w' (hS : Below w6.heap.size w6 w') => And.intro (frn_6.lift hS) <| And.intro (frk_6.lift hS) <| True.intro)
        have HY0 : Hid (Below w6.heap.size w6 w6.drew) := Lib.hid (Below.refl _ _).drew
        have hB9 := hB6
        refine wp_region_held_drew (S := (fun w' => Below w6.heap.size w6 w')) (by kernel_rfl) HY0.out (fun hHeld => ?_)
        refine wpAnyH_take (i := 0) (v := .bool true) rfl (by kernel_rfl) (by kernel_rfl) (by kernel_rfl) (fun _ _ _ h => h) (Or.inl ⟨by rfl, ?_⟩) hHeld ?_
        · rintro w' hS; go_simp
        try simp only [Act.put, List.setIfInBounds_toArray, List.set_cons_zero, List.set_cons_succ, List.getElem_toArray, List.getElem_cons_succ, List.getElem_cons_zero]
        refine wpAnyH_take (i := 1) (v := .bool true) rfl (by kernel_rfl) (by kernel_rfl) (by kernel_rfl) (fun _ _ _ h => h) (Or.inl ⟨by rfl, ?_⟩) hHeld ?_
        · rintro w' hS; go_simp
        try simp only [Act.put, List.setIfInBounds_toArray, List.set_cons_zero, List.set_cons_succ, List.getElem_toArray, List.getElem_cons_succ, List.getElem_cons_zero]
        refine wpAnyH_take (i := 2) (v := .int .i64 u) rfl (by kernel_rfl) (by kernel_rfl) (by kernel_rfl) (fun _ _ _ h => h) (Or.inl ⟨by rfl, ?_⟩) hHeld ?_
        · rintro w' hS; go_simp
        try simp only [Act.put, List.setIfInBounds_toArray, List.set_cons_zero, List.set_cons_succ, List.getElem_toArray, List.getElem_cons_succ, List.getElem_cons_zero]
        refine wpAnyH_take (i := 3) (v := .int .i64 d) rfl (by kernel_rfl) (by kernel_rfl) (by kernel_rfl) (fun _ _ _ h => h) (Or.inl ⟨by rfl, ?_⟩) hHeld ?_
        · rintro w' hS; go_simp
        try simp only [Act.put, List.setIfInBounds_toArray, List.set_cons_zero, List.set_cons_succ, List.getElem_toArray, List.getElem_cons_succ, List.getElem_cons_zero]
        refine wpAnyH_take (i := 5) (v := .agg #[.int .i64 U1, .int .i64 D1]) rfl (by kernel_rfl) (by kernel_rfl) (by kernel_rfl) (fun _ _ _ h => h) (Or.inl ⟨by rfl, ?_⟩) hHeld ?_
        · rintro w' hS; have k0 := (HL.out w' hS).1.1.1; have k1 := (HL.out w' hS).1.2.1; go_simp
        try simp only [Act.put, List.setIfInBounds_toArray, List.set_cons_zero, List.set_cons_succ, List.getElem_toArray, List.getElem_cons_succ, List.getElem_cons_zero]
        refine wpAnyH_ready (rs := [4]) (by kernel_rfl) (by simp) ?_
        refine AllReadyH.cons (o := _) rfl (fun K hK => ?_) AllReadyH.nil
        go_simp
        go_at_call 12
        refine (HF.out _).mono ?_
        rintro e wy1 ⟨rfl, hy⟩
        have HY1 := Lib.hid (HY0.out.trans (hy.mono HY0.out.size))
        clear hy
        refine hK.out _ _ HY1.out (fun hHeld => ?_)
        clear hK K
        try simp only [Act.put, List.setIfInBounds_toArray, List.set_cons_zero, List.set_cons_succ, List.getElem_toArray, List.getElem_cons_succ, List.getElem_cons_zero]
        refine wpAnyH_ready (rs := [6]) (by kernel_rfl) (by simp) ?_
        refine AllReadyH.cons (o := _) rfl (fun K hK => ?_) AllReadyH.nil
        go_simp
        go_at_call 11
        refine (HL1.out _).mono ?_
        rintro e wy2 ⟨rfl, hy⟩
        have HY2 := Lib.hid (HY1.out.trans (hy.mono HY1.out.size))
        clear hy
        refine hK.out _ _ HY2.out (fun hHeld => ?_)
        clear hK K
        try simp only [Act.put, List.setIfInBounds_toArray, List.set_cons_zero, List.set_cons_succ, List.getElem_toArray, List.getElem_cons_succ, List.getElem_cons_zero]
        refine wpAnyH_take (i := 7) (v := .bool true) rfl (by kernel_rfl) (by kernel_rfl) (by kernel_rfl) (fun _ _ _ h => h) (Or.inl ⟨by rfl, ?_⟩) hHeld ?_
        · rintro w' hS; go_simp
        try simp only [Act.put, List.setIfInBounds_toArray, List.set_cons_zero, List.set_cons_succ, List.getElem_toArray, List.getElem_cons_succ, List.getElem_cons_zero]
        refine wpAnyH_take (i := 8) (v := .bool true) rfl (by kernel_rfl) (by kernel_rfl) (by kernel_rfl) (fun _ _ _ h => h) (Or.inl ⟨by rfl, ?_⟩) hHeld ?_
        · rintro w' hS; go_simp
        try simp only [Act.put, List.setIfInBounds_toArray, List.set_cons_zero, List.set_cons_succ, List.getElem_toArray, List.getElem_cons_succ, List.getElem_cons_zero]
        refine wpAnyH_take (i := 9) (v := .bool true) rfl (by kernel_rfl) (by kernel_rfl) (by kernel_rfl) (fun _ _ _ h => h) (Or.inl ⟨by rfl, ?_⟩) hHeld ?_
        · rintro w' hS; go_simp
        try simp only [Act.put, List.setIfInBounds_toArray, List.set_cons_zero, List.set_cons_succ, List.getElem_toArray, List.getElem_cons_succ, List.getElem_cons_zero]
        refine wpAnyH_take (i := 10) (v := .bool false) rfl (by kernel_rfl) (by kernel_rfl) (by kernel_rfl) (fun _ _ _ h => h) (Or.inl ⟨by rfl, ?_⟩) hHeld ?_
        · rintro w' hS; go_simp
        try simp only [Act.put, List.setIfInBounds_toArray, List.set_cons_zero, List.set_cons_succ, List.getElem_toArray, List.getElem_cons_succ, List.getElem_cons_zero]
        refine wpAnyH_take (i := 11) (v := .bool true) rfl (by kernel_rfl) (by kernel_rfl) (by kernel_rfl) (fun _ _ _ h => h) (Or.inl ⟨by rfl, ?_⟩) hHeld ?_
        · rintro w' hS; go_simp
        try simp only [Act.put, List.setIfInBounds_toArray, List.set_cons_zero, List.set_cons_succ, List.getElem_toArray, List.getElem_cons_succ, List.getElem_cons_zero]
        refine wpAnyH_take (i := 12) (v := .bool true) rfl (by kernel_rfl) (by kernel_rfl) (by kernel_rfl) (fun _ _ _ h => h) (Or.inl ⟨by rfl, ?_⟩) hHeld ?_
        · rintro w' hS; go_simp
        try simp only [Act.put, List.setIfInBounds_toArray, List.set_cons_zero, List.set_cons_succ, List.getElem_toArray, List.getElem_cons_succ, List.getElem_cons_zero]
        refine wpAnyH_take (i := 13) (v := undef) rfl (by kernel_rfl) (by kernel_rfl) (by kernel_rfl) (fun _ _ _ h => h) (Or.inr ⟨by rfl, rfl⟩) hHeld ?_
        try simp only [Act.put, List.setIfInBounds_toArray, List.set_cons_zero, List.set_cons_succ, List.getElem_toArray, List.getElem_cons_succ, List.getElem_cons_zero]
        refine wpAnyH_take (i := 14) (v := undef) rfl (by kernel_rfl) (by kernel_rfl) (by kernel_rfl) (fun _ _ _ h => h) (Or.inr ⟨by rfl, rfl⟩) hHeld ?_
        try simp only [Act.put, List.setIfInBounds_toArray, List.set_cons_zero, List.set_cons_succ, List.getElem_toArray, List.getElem_cons_succ, List.getElem_cons_zero]
        refine wpAnyH_take (i := 15) (v := undef) rfl (by kernel_rfl) (by kernel_rfl) (by kernel_rfl) (fun _ _ _ h => h) (Or.inr ⟨by rfl, rfl⟩) hHeld ?_
        try simp only [Act.put, List.setIfInBounds_toArray, List.set_cons_zero, List.set_cons_succ, List.getElem_toArray, List.getElem_cons_succ, List.getElem_cons_zero]
        refine wpAnyH_take (i := 16) (v := undef) rfl (by kernel_rfl) (by kernel_rfl) (by kernel_rfl) (fun _ _ _ h => h) (Or.inr ⟨by rfl, rfl⟩) hHeld ?_
        try simp only [Act.put, List.setIfInBounds_toArray, List.set_cons_zero, List.set_cons_succ, List.getElem_toArray, List.getElem_cons_succ, List.getElem_cons_zero]
        refine wpAnyH_take (i := 17) (v := undef) rfl (by kernel_rfl) (by kernel_rfl) (by kernel_rfl) (fun _ _ _ h => h) (Or.inr ⟨by rfl, rfl⟩) hHeld ?_
        try simp only [Act.put, List.setIfInBounds_toArray, List.set_cons_zero, List.set_cons_succ, List.getElem_toArray, List.getElem_cons_succ, List.getElem_cons_zero]
        refine wpAnyH_take (i := 18) (v := .bool true) rfl (by kernel_rfl) (by kernel_rfl) (by kernel_rfl) (fun _ _ _ h => h) (Or.inl ⟨by rfl, ?_⟩) hHeld ?_
        · rintro w' hS; go_simp
        try simp only [Act.put, List.setIfInBounds_toArray, List.set_cons_zero, List.set_cons_succ, List.getElem_toArray, List.getElem_cons_succ, List.getElem_cons_zero]
        refine wpAnyH_take (i := 19) (v := .bool true) rfl (by kernel_rfl) (by kernel_rfl) (by kernel_rfl) (fun _ _ _ h => h) (Or.inl ⟨by rfl, ?_⟩) hHeld ?_
        · rintro w' hS; go_simp
        try simp only [Act.put, List.setIfInBounds_toArray, List.set_cons_zero, List.set_cons_succ, List.getElem_toArray, List.getElem_cons_succ, List.getElem_cons_zero]
        refine wpAnyH_take (i := 20) (v := .bool true) rfl (by kernel_rfl) (by kernel_rfl) (by kernel_rfl) (fun _ _ _ h => h) (Or.inl ⟨by rfl, ?_⟩) hHeld ?_
        · rintro w' hS; go_simp
        try simp only [Act.put, List.setIfInBounds_toArray, List.set_cons_zero, List.set_cons_succ, List.getElem_toArray, List.getElem_cons_succ, List.getElem_cons_zero]
        refine wpAnyH_done (by kernel_rfl) ?_ _
        clear hHeld
        go_wp2_with fail
        go_ret
        exact ⟨rfl, hB9.trans (HY2.out.mono hB9.size)⟩
      · rw [decide_eq_true (show (X : Int) * D2 < (U2 : Int) * Y by have := (HLS.out (HQ0.out rfl)).2; omega)] at HL2
        have cn0 := frn_6.1.1
        have cn1 := frn_6.2.1
        have ck0 := frk_6.1.1
        have ck1 := frk_6.2.1
        rw [← HW6.out] at cn0 cn1 ck0 ck1
        go_wp2_with fail
        rw [HW6.out]
        clear cn0 cn1
        clear ck0 ck1
        have HL := Lib.hid (fun w' (hS : Below w6.heap.size w6 w') => And.intro (frn_6.lift hS) <| And.intro (frk_6.lift hS) <| True.intro)
        have HY0 : Hid (Below w6.heap.size w6 w6.drew) := Lib.hid (Below.refl _ _).drew
        have hB9 := hB6
        refine wp_region_held_drew (S := (fun w' => Below w6.heap.size w6 w')) (by kernel_rfl) HY0.out (fun hHeld => ?_)
        refine wpAnyH_take (i := 0) (v := .bool true) rfl (by kernel_rfl) (by kernel_rfl) (by kernel_rfl) (fun _ _ _ h => h) (Or.inl ⟨by rfl, ?_⟩) hHeld ?_
        · rintro w' hS; go_simp
        try simp only [Act.put, List.setIfInBounds_toArray, List.set_cons_zero, List.set_cons_succ, List.getElem_toArray, List.getElem_cons_succ, List.getElem_cons_zero]
        refine wpAnyH_take (i := 1) (v := .bool true) rfl (by kernel_rfl) (by kernel_rfl) (by kernel_rfl) (fun _ _ _ h => h) (Or.inl ⟨by rfl, ?_⟩) hHeld ?_
        · rintro w' hS; go_simp
        try simp only [Act.put, List.setIfInBounds_toArray, List.set_cons_zero, List.set_cons_succ, List.getElem_toArray, List.getElem_cons_succ, List.getElem_cons_zero]
        refine wpAnyH_take (i := 2) (v := .int .i64 u) rfl (by kernel_rfl) (by kernel_rfl) (by kernel_rfl) (fun _ _ _ h => h) (Or.inl ⟨by rfl, ?_⟩) hHeld ?_
        · rintro w' hS; go_simp
        try simp only [Act.put, List.setIfInBounds_toArray, List.set_cons_zero, List.set_cons_succ, List.getElem_toArray, List.getElem_cons_succ, List.getElem_cons_zero]
        refine wpAnyH_take (i := 3) (v := .int .i64 d) rfl (by kernel_rfl) (by kernel_rfl) (by kernel_rfl) (fun _ _ _ h => h) (Or.inl ⟨by rfl, ?_⟩) hHeld ?_
        · rintro w' hS; go_simp
        try simp only [Act.put, List.setIfInBounds_toArray, List.set_cons_zero, List.set_cons_succ, List.getElem_toArray, List.getElem_cons_succ, List.getElem_cons_zero]
        refine wpAnyH_take (i := 5) (v := .agg #[.int .i64 U1, .int .i64 D1]) rfl (by kernel_rfl) (by kernel_rfl) (by kernel_rfl) (fun _ _ _ h => h) (Or.inl ⟨by rfl, ?_⟩) hHeld ?_
        · rintro w' hS; have k0 := (HL.out w' hS).1.1.1; have k1 := (HL.out w' hS).1.2.1; go_simp
        try simp only [Act.put, List.setIfInBounds_toArray, List.set_cons_zero, List.set_cons_succ, List.getElem_toArray, List.getElem_cons_succ, List.getElem_cons_zero]
        refine wpAnyH_ready (rs := [4]) (by kernel_rfl) (by simp) ?_
        refine AllReadyH.cons (o := _) rfl (fun K hK => ?_) AllReadyH.nil
        go_simp
        go_at_call 12
        refine (HF.out _).mono ?_
        rintro e wy1 ⟨rfl, hy⟩
        have HY1 := Lib.hid (HY0.out.trans (hy.mono HY0.out.size))
        clear hy
        refine hK.out _ _ HY1.out (fun hHeld => ?_)
        clear hK K
        try simp only [Act.put, List.setIfInBounds_toArray, List.set_cons_zero, List.set_cons_succ, List.getElem_toArray, List.getElem_cons_succ, List.getElem_cons_zero]
        refine wpAnyH_ready (rs := [6]) (by kernel_rfl) (by simp) ?_
        refine AllReadyH.cons (o := _) rfl (fun K hK => ?_) AllReadyH.nil
        go_simp
        go_at_call 11
        refine (HL1.out _).mono ?_
        rintro e wy2 ⟨rfl, hy⟩
        have HY2 := Lib.hid (HY1.out.trans (hy.mono HY1.out.size))
        clear hy
        refine hK.out _ _ HY2.out (fun hHeld => ?_)
        clear hK K
        try simp only [Act.put, List.setIfInBounds_toArray, List.set_cons_zero, List.set_cons_succ, List.getElem_toArray, List.getElem_cons_succ, List.getElem_cons_zero]
        refine wpAnyH_take (i := 7) (v := .bool true) rfl (by kernel_rfl) (by kernel_rfl) (by kernel_rfl) (fun _ _ _ h => h) (Or.inl ⟨by rfl, ?_⟩) hHeld ?_
        · rintro w' hS; go_simp
        try simp only [Act.put, List.setIfInBounds_toArray, List.set_cons_zero, List.set_cons_succ, List.getElem_toArray, List.getElem_cons_succ, List.getElem_cons_zero]
        refine wpAnyH_take (i := 8) (v := .bool true) rfl (by kernel_rfl) (by kernel_rfl) (by kernel_rfl) (fun _ _ _ h => h) (Or.inl ⟨by rfl, ?_⟩) hHeld ?_
        · rintro w' hS; go_simp
        try simp only [Act.put, List.setIfInBounds_toArray, List.set_cons_zero, List.set_cons_succ, List.getElem_toArray, List.getElem_cons_succ, List.getElem_cons_zero]
        refine wpAnyH_take (i := 9) (v := .bool true) rfl (by kernel_rfl) (by kernel_rfl) (by kernel_rfl) (fun _ _ _ h => h) (Or.inl ⟨by rfl, ?_⟩) hHeld ?_
        · rintro w' hS; go_simp
        try simp only [Act.put, List.setIfInBounds_toArray, List.set_cons_zero, List.set_cons_succ, List.getElem_toArray, List.getElem_cons_succ, List.getElem_cons_zero]
        refine wpAnyH_take (i := 10) (v := .bool true) rfl (by kernel_rfl) (by kernel_rfl) (by kernel_rfl) (fun _ _ _ h => h) (Or.inl ⟨by rfl, ?_⟩) hHeld ?_
        · rintro w' hS; go_simp
        try simp only [Act.put, List.setIfInBounds_toArray, List.set_cons_zero, List.set_cons_succ, List.getElem_toArray, List.getElem_cons_succ, List.getElem_cons_zero]
        refine wpAnyH_take (i := 11) (v := .bool false) rfl (by kernel_rfl) (by kernel_rfl) (by kernel_rfl) (fun _ _ _ h => h) (Or.inl ⟨by rfl, ?_⟩) hHeld ?_
        · rintro w' hS; go_simp
        try simp only [Act.put, List.setIfInBounds_toArray, List.set_cons_zero, List.set_cons_succ, List.getElem_toArray, List.getElem_cons_succ, List.getElem_cons_zero]
        refine wpAnyH_take (i := 12) (v := .bool false) rfl (by kernel_rfl) (by kernel_rfl) (by kernel_rfl) (fun _ _ _ h => h) (Or.inl ⟨by rfl, ?_⟩) hHeld ?_
        · rintro w' hS; go_simp
        try simp only [Act.put, List.setIfInBounds_toArray, List.set_cons_zero, List.set_cons_succ, List.getElem_toArray, List.getElem_cons_succ, List.getElem_cons_zero]
        refine wpAnyH_take (i := 13) (v := .int .i64 u) rfl (by kernel_rfl) (by kernel_rfl) (by kernel_rfl) (fun _ _ _ h => h) (Or.inl ⟨by rfl, ?_⟩) hHeld ?_
        · rintro w' hS; go_simp
        try simp only [Act.put, List.setIfInBounds_toArray, List.set_cons_zero, List.set_cons_succ, List.getElem_toArray, List.getElem_cons_succ, List.getElem_cons_zero]
        refine wpAnyH_take (i := 14) (v := .int .i64 d) rfl (by kernel_rfl) (by kernel_rfl) (by kernel_rfl) (fun _ _ _ h => h) (Or.inl ⟨by rfl, ?_⟩) hHeld ?_
        · rintro w' hS; go_simp
        try simp only [Act.put, List.setIfInBounds_toArray, List.set_cons_zero, List.set_cons_succ, List.getElem_toArray, List.getElem_cons_succ, List.getElem_cons_zero]
        refine wpAnyH_take (i := 16) (v := .agg #[.int .i64 U2, .int .i64 D2]) rfl (by kernel_rfl) (by kernel_rfl) (by kernel_rfl) (fun _ _ _ h => h) (Or.inl ⟨by rfl, ?_⟩) hHeld ?_
        · rintro w' hS; have k0 := (HL.out w' hS).2.1.1.1; have k1 := (HL.out w' hS).2.1.2.1; go_simp
        try simp only [Act.put, List.setIfInBounds_toArray, List.set_cons_zero, List.set_cons_succ, List.getElem_toArray, List.getElem_cons_succ, List.getElem_cons_zero]
        refine wpAnyH_ready (rs := [15]) (by kernel_rfl) (by simp) ?_
        refine AllReadyH.cons (o := _) rfl (fun K hK => ?_) AllReadyH.nil
        go_simp
        go_at_call 12
        refine (HF.out _).mono ?_
        rintro e wy3 ⟨rfl, hy⟩
        have HY3 := Lib.hid (HY2.out.trans (hy.mono HY2.out.size))
        clear hy
        refine hK.out _ _ HY3.out (fun hHeld => ?_)
        clear hK K
        try simp only [Act.put, List.setIfInBounds_toArray, List.set_cons_zero, List.set_cons_succ, List.getElem_toArray, List.getElem_cons_succ, List.getElem_cons_zero]
        refine wpAnyH_ready (rs := [17]) (by kernel_rfl) (by simp) ?_
        refine AllReadyH.cons (o := _) rfl (fun K hK => ?_) AllReadyH.nil
        go_simp
        go_at_call 11
        refine (HL2.out _).mono ?_
        rintro e wy4 ⟨rfl, hy⟩
        have HY4 := Lib.hid (HY3.out.trans (hy.mono HY3.out.size))
        clear hy
        refine hK.out _ _ HY4.out (fun hHeld => ?_)
        clear hK K
        try simp only [Act.put, List.setIfInBounds_toArray, List.set_cons_zero, List.set_cons_succ, List.getElem_toArray, List.getElem_cons_succ, List.getElem_cons_zero]
        refine wpAnyH_take (i := 18) (v := .bool true) rfl (by kernel_rfl) (by kernel_rfl) (by kernel_rfl) (fun _ _ _ h => h) (Or.inl ⟨by rfl, ?_⟩) hHeld ?_
        · rintro w' hS; go_simp
        try simp only [Act.put, List.setIfInBounds_toArray, List.set_cons_zero, List.set_cons_succ, List.getElem_toArray, List.getElem_cons_succ, List.getElem_cons_zero]
        refine wpAnyH_take (i := 19) (v := .bool true) rfl (by kernel_rfl) (by kernel_rfl) (by kernel_rfl) (fun _ _ _ h => h) (Or.inl ⟨by rfl, ?_⟩) hHeld ?_
        · rintro w' hS; go_simp
        try simp only [Act.put, List.setIfInBounds_toArray, List.set_cons_zero, List.set_cons_succ, List.getElem_toArray, List.getElem_cons_succ, List.getElem_cons_zero]
        refine wpAnyH_take (i := 20) (v := .bool true) rfl (by kernel_rfl) (by kernel_rfl) (by kernel_rfl) (fun _ _ _ h => h) (Or.inl ⟨by rfl, ?_⟩) hHeld ?_
        · rintro w' hS; go_simp
        try simp only [Act.put, List.setIfInBounds_toArray, List.set_cons_zero, List.set_cons_succ, List.getElem_toArray, List.getElem_cons_succ, List.getElem_cons_zero]
        refine wpAnyH_done (by kernel_rfl) ?_ _
        clear hHeld
        go_wp2_with fail
        go_ret
        exact ⟨rfl, hB9.trans (HY4.out.mono hB9.size)⟩
  · go_enter Try.func3, Try.ntmps3
    go_wp2
    go_ret
    exact ⟨rfl, Below.refl _ _⟩
end Go.Proofs.Ytkebdelfklmigac
