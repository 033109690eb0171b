/- The law FnSamplesTurned returns true at every code, and the code reads behind the call as it read before. No condition. -/
import Derived.Test.YtkebdelfklmigacRows
import Derived.WalkKit
import Derived.LoopTactic
import Derived.Outline
import Derived.WalkSpells
import Derived.WalkLawsBesides
import Derived.ProofKit
import Derived.Deep.QuietTactic
import Derived.BigQuiet
import Derived.IntWalk
import Derived.Test.YtkebdelfklmigacM0
import Derived.Test.YtkebdelfklmigacM1
import Derived.Test.YtkebdelfklmigacM2
import Derived.Test.YtkebdelfklmigacM3
import Derived.Test.YtkebdelfklmigacM5
import Derived.Test.YtkebdelfklmigacM6
import Derived.Test.YtkebdelfklmigacM7
import Derived.Test.YtkebdelfklmigacM11
import Derived.Test.YtkebdelfklmigacM12
import Derived.Test.YtkebdelfklmigacM13
import Derived.Test.YtkebdelfklmigacM14
namespace Go.Proofs.Ytkebdelfklmigac
open Go.RowKit Go.WideShapes

set_option maxRecDepth 100000 in
set_option maxHeartbeats 2000000 in
theorem fnSamplesTurned_any (a : Option Addr) (len cap : Nat) (w : World) (hb : BytesAt w w.heap.size a len) (hl : len ≤ cap) (hs : len ≤ 9223372036854775807) :
    Calls Try.prog 6 #[.slice a len cap] w (LawPost w) := by
  by_cases h20 : len ≤ 1048576
  · go_enter Try.func6, Try.ntmps6
    have hB0 := Below.refl w.heap.size w
    go_wp2_with fail
    refine (drawPassByDraws_any a len cap w hb hl hs).mono ?_
    rintro e w1 ⟨x0, x1, x2, x3, rfl, r0a, r0b, r1a, r1b, r2a, r2b, r3a, r3b, hb1⟩
    have hB1 : Below w.heap.size w w1 := hB0.trans (hb1.mono hB0.size)
    clear hB0
    clear hb hb1
    go_wp2_with fail
    refine (passByDraws_impl x0 x1 x2 x3 w1).mono ?_
    rintro e w2 ⟨rfl, hb2⟩
    have hB2 : Below w.heap.size w w2 := hB1.trans (hb2.mono hB1.size)
    clear hB1
    clear hb2
    obtain ⟨U, hU⟩ : ∃ u, passU x0 x1 x2 x3 = u := ⟨_, rfl⟩
    obtain ⟨D, hD⟩ : ∃ u, passD x0 x1 x2 x3 = u := ⟨_, rfl⟩
    obtain ⟨B, hB⟩ : ∃ u, planB x0 x1 x2 x3 = u := ⟨_, rfl⟩
    rw [hU, hD, hB]
    have HU := Lib.hid hU
    have HD := Lib.hid hD
    have HB := Lib.hid hB
    clear hU hD hB
    have frx_n := two_new w2 (.int .i64 (U : Int)) (.int .i64 (D : Int)) 27
    have hbx := (Below.refl w2.heap.size w2).alloc (Nat.le_refl _) (.cells #[.int .i64 (U : Int), .int .i64 (D : Int)] 27)
    obtain ⟨w3, hw3⟩ : ∃ wx, w2.alloc (.cells #[.int .i64 (U : Int), .int .i64 (D : Int)] 27) = wx := ⟨_, rfl⟩
    rw [hw3] at frx_n hbx
    have HW3 := Lib.hid hw3
    clear hw3
    have hB3 : Below w.heap.size w w3 := hB2.trans (hbx.mono hB2.size)
    clear hB2
    clear hbx
    have frx_3 := frx_n
    clear frx_n
    have cx0 := frx_3.1.1
    have cx1 := frx_3.2.1
    rw [← HW3.out] at cx0 cx1
    go_wp2_with fail
    rw [HW3.out]
    refine (passByDraws_spec x0 x1 x2 x3 w3).mono ?_
    rintro e w4 ⟨rfl, hb3⟩
    clear cx0 cx1
    have frx_4 := frx_3.block (hb3.block _ frx_3.lt)
    clear frx_3
    have hB4 : Below w.heap.size w w4 := hB3.trans (hb3.mono hB3.size)
    clear hB3
    clear hb3
    rw [HU.out, HD.out, HB.out]
    have fru_n := two_new w4 (.int .i64 (U : Int)) (.int .i64 (D : Int)) 27
    have hbx := (Below.refl w4.heap.size w4).alloc (Nat.le_refl _) (.cells #[.int .i64 (U : Int), .int .i64 (D : Int)] 27)
    obtain ⟨w5, hw5⟩ : ∃ wx, w4.alloc (.cells #[.int .i64 (U : Int), .int .i64 (D : Int)] 27) = wx := ⟨_, rfl⟩
    rw [hw5] at fru_n hbx
    have HW5 := Lib.hid hw5
    clear hw5
    have frx_5 := frx_4.block (hbx.block _ frx_4.lt)
    clear frx_4
    have hB5 : Below w.heap.size w w5 := hB4.trans (hbx.mono hB4.size)
    clear hB4
    clear hbx
    have fru_5 := fru_n
    clear fru_n
    have hne := run_neq_frac U D
    have heq := run_eq_frac U D
    cases B
    · have HP := Lib.hid (pass_no HB.out)
      have cx0 := frx_5.1.1
      have cx1 := frx_5.2.1
      have cu0 := fru_5.1.1
      have cu1 := fru_5.2.1
      rw [← HW5.out] at cx0 cx1 cu0 cu1
      go_wp2_with fail
      rw [HW5.out]
      refine (passChance_impl x0 x1 x2 x3 w5).mono ?_
      rintro e w6 ⟨rfl, hby⟩
      clear cx0 cx1
      clear cu0 cu1
      have frx_6 := frx_5.block (hby.block _ frx_5.lt)
      clear frx_5
      have fru_6 := fru_5.block (hby.block _ fru_5.lt)
      clear fru_5
      have hB6 : Below w.heap.size w w6 := hB5.trans (hby.mono hB5.size)
      clear hB5
      clear hby
      rw [HP.out.1, HP.out.2.1, HB.out]
      clear hne heq
      have hne := run_neq_frac U D
      have fry_n := two_new w6 (.int .i64 (0 : Int)) (.int .i64 (0 : Int)) 27
      have hbx := (Below.refl w6.heap.size w6).alloc (Nat.le_refl _) (.cells #[.int .i64 (0 : Int), .int .i64 (0 : Int)] 27)
      obtain ⟨w7, hw7⟩ : ∃ wx, w6.alloc (.cells #[.int .i64 (0 : Int), .int .i64 (0 : Int)] 27) = wx := ⟨_, rfl⟩
      rw [hw7] at fry_n hbx
      have HW7 := Lib.hid hw7
      clear hw7
      have frx_7 := frx_6.block (hbx.block _ frx_6.lt)
      clear frx_6
      have fru_7 := fru_6.block (hbx.block _ fru_6.lt)
      clear fru_6
      have hB7 : Below w.heap.size w w7 := hB6.trans (hbx.mono hB6.size)
      clear hB6
      clear hbx
      have fry_7 := fry_n
      clear fry_n
      have cx0 := frx_7.1.1
      have cx1 := frx_7.2.1
      have cu0 := fru_7.1.1
      have cu1 := fru_7.2.1
      have cy0 := fry_7.1.1
      have cy1 := fry_7.2.1
      rw [← HW7.out] at cx0 cx1 cu0 cu1 cy0 cy1
      go_wp2_with fail
      rw [HW7.out]
      go_wp2_with fail
      go_ret
      exact ⟨rfl, hB7⟩
    · obtain ⟨l, b, s, m, rfl, rfl, rfl, rfl, h1, h12, hbl, hsl, hm⟩ := plan_get HB.out
      have HV := Lib.hid HB.out
      obtain ⟨t1, t2, t3⟩ := pass_turn HV.out
      rw [HU.out] at t2
      rw [HD.out] at t3
      have HT := Lib.hid (And.intro t1 (And.intro t2 t3))
      clear t1 t2 t3
      have cx0 := frx_5.1.1
      have cx1 := frx_5.2.1
      have cu0 := fru_5.1.1
      have cu1 := fru_5.2.1
      rw [← HW5.out] at cx0 cx1 cu0 cu1
      go_wp2_with fail
      rw [HW5.out]
      refine (passChance_impl l b s m w5).mono ?_
      rintro e w6 ⟨rfl, hby⟩
      clear cx0 cx1
      clear cu0 cu1
      have frx_6 := frx_5.block (hby.block _ frx_5.lt)
      clear frx_5
      have fru_6 := fru_5.block (hby.block _ fru_5.lt)
      clear fru_5
      have hB6 : Below w.heap.size w w6 := hB5.trans (hby.mono hB5.size)
      clear hB5
      clear hby
      rw [HU.out, HD.out, HB.out]
      have fry_n := two_new w6 (.int .i64 (U : Int)) (.int .i64 (D : Int)) 27
      have hbx := (Below.refl w6.heap.size w6).alloc (Nat.le_refl _) (.cells #[.int .i64 (U : Int), .int .i64 (D : Int)] 27)
      obtain ⟨w7, hw7⟩ : ∃ wx, w6.alloc (.cells #[.int .i64 (U : Int), .int .i64 (D : Int)] 27) = wx := ⟨_, rfl⟩
      rw [hw7] at fry_n hbx
      have HW7 := Lib.hid hw7
      clear hw7
      have frx_7 := frx_6.block (hbx.block _ frx_6.lt)
      clear frx_6
      have fru_7 := fru_6.block (hbx.block _ fru_6.lt)
      clear fru_6
      have hB7 : Below w.heap.size w w7 := hB6.trans (hbx.mono hB6.size)
      clear hB6
      clear hbx
      have fry_7 := fry_n
      clear fry_n
      have cx0 := frx_7.1.1
      have cx1 := frx_7.2.1
      have cu0 := fru_7.1.1
      have cu1 := fru_7.2.1
      have cy0 := fry_7.1.1
      have cy1 := fry_7.2.1
      rw [← HW7.out] at cx0 cx1 cu0 cu1 cy0 cy1
      go_wp2_with fail
      rw [HW7.out]
      refine (passChance_impl l s b m w7).mono ?_
      rintro e w8 ⟨rfl, hby⟩
      clear cx0 cx1
      clear cu0 cu1
      clear cy0 cy1
      have frx_8 := frx_7.block (hby.block _ frx_7.lt)
      clear frx_7
      have fru_8 := fru_7.block (hby.block _ fru_7.lt)
      clear fru_7
      have fry_8 := fry_7.block (hby.block _ fry_7.lt)
      clear fry_7
      have hB8 : Below w.heap.size w w8 := hB7.trans (hby.mono hB7.size)
      clear hB7
      clear hby
      rw [HT.out.1, HT.out.2.1, HT.out.2.2]
      have frz_n := two_new w8 (.int .i64 (U : Int)) (.int .i64 (D : Int)) 27
      have hbx := (Below.refl w8.heap.size w8).alloc (Nat.le_refl _) (.cells #[.int .i64 (U : Int), .int .i64 (D : Int)] 27)
      obtain ⟨w9, hw9⟩ : ∃ wx, w8.alloc (.cells #[.int .i64 (U : Int), .int .i64 (D : Int)] 27) = wx := ⟨_, rfl⟩
      rw [hw9] at frz_n hbx
      have HW9 := Lib.hid hw9
      clear hw9
      have frx_9 := frx_8.block (hbx.block _ frx_8.lt)
      clear frx_8
      have fru_9 := fru_8.block (hbx.block _ fru_8.lt)
      clear fru_8
      have fry_9 := fry_8.block (hbx.block _ fry_8.lt)
      clear fry_8
      have hB9 : Below w.heap.size w w9 := hB8.trans (hbx.mono hB8.size)
      clear hB8
      clear hbx
      have frz_9 := frz_n
      clear frz_n
      have cx0 := frx_9.1.1
      have cx1 := frx_9.2.1
      have cu0 := fru_9.1.1
      have cu1 := fru_9.2.1
      have cy0 := fry_9.1.1
      have cy1 := fry_9.2.1
      have cz0 := frz_9.1.1
      have cz1 := frz_9.2.1
      rw [← HW9.out] at cx0 cx1 cu0 cu1 cy0 cy1 cz0 cz1
      go_wp2_with fail
      rw [HW9.out]
      go_wp2_with fail
      go_ret
      exact ⟨rfl, hB9⟩
  · go_enter Try.func6, Try.ntmps6
    go_wp2
    go_ret
    exact ⟨rfl, Below.refl _ _⟩
end Go.Proofs.Ytkebdelfklmigac
