/- The law FnPaceOf returns true at every code, and the code reads behind the call as it read before. No condition. -/
import Derived.Test.YtkebdelfklmigaeRows
import Derived.WalkKit
import Derived.LoopTactic
import Derived.Outline
import Derived.WalkSpells
import Derived.WalkLawsBesides
import Derived.ProofKit
import Derived.Deep.QuietTactic
import Derived.BigQuiet
import Derived.IntWalk
import Derived.Test.YtkebdelfklmigaeM0
import Derived.Test.YtkebdelfklmigaeM1
import Derived.Test.YtkebdelfklmigaeM2
import Derived.Test.YtkebdelfklmigaeM5
import Derived.Test.YtkebdelfklmigaeM4
import Derived.Test.YtkebdelfklmigaeM11
import Derived.Test.YtkebdelfklmigaeM15
import Derived.Test.YtkebdelfklmigaeM17
import Derived.Test.YtkebdelfklmigaeM18
import Derived.Test.YtkebdelfklmigaeM13
import Derived.Test.YtkebdelfklmigaeM12
namespace Go.Proofs.Ytkebdelfklmigae
open Go.RowKit Go.WideShapes

set_option maxRecDepth 100000 in
set_option maxHeartbeats 2000000 in
theorem fnPaceOf_any (a : Option Addr) (len cap : Nat) (w : World) (hb : BytesAt w w.heap.size a len) (hl : len ≤ cap) (hs : len ≤ 9223372036854775807) :
    Calls Try.prog 3 #[.slice a len cap] w (LawPost w) := by
  by_cases h20 : len ≤ 1048576
  · go_enter Try.func3, Try.ntmps3
    have hB0 := Below.refl w.heap.size w
    go_wp2_with fail
    refine (drawPaceOf_any a len cap w hb hl hs).mono ?_
    rintro e w1 ⟨d, ts, rows, rfl, n_n, hT4, hW8, hb1⟩
    have hB1 : Below w.heap.size w w1 := hB0.trans (hb1.mono hB0.size)
    clear hB0
    obtain ⟨aT, lT, cT, aW, lW, cW⟩ := d
    clear hb hb1
    have ona_n := netOn_new n_n 26
    have hbx := (Below.refl w1.heap.size w1).alloc (Nat.le_refl _) (.cells #[.slice aT lT cT, .slice aW lW cW] 26)
    obtain ⟨w2, hw2⟩ : ∃ wx, w1.alloc (.cells #[.slice aT lT cT, .slice aW lW cW] 26) = wx := ⟨_, rfl⟩
    rw [hw2] at ona_n hbx
    have HW2 := Lib.hid hw2
    clear hw2
    have hB2 : Below w.heap.size w w2 := hB1.trans (hbx.mono hB1.size)
    clear hB1
    clear hbx
    have ona_2 := ona_n
    clear ona_n
    clear n_n
    dsimp only at hT4 hW8
    obtain ⟨ca0, ca1⟩ := ona_2.box
    dsimp only at ca0 ca1
    go_wp2_with fail
    rw [HW2.out]
    refine (paceOf_impl ⟨aT, lT, cT, aW, lW, cW⟩ ts rows w2 ona_2.at').mono ?_
    rintro e w3 ⟨U, D, pb, rfl, hpr, hb3⟩
    clear ca0 ca1
    have ona_3 := ona_2.lift hb3
    have hB3 : Below w.heap.size w w3 := hB2.trans (hb3.mono hB2.size)
    clear hB2
    clear ona_2
    clear hb3
    have HPR := Lib.hid hpr
    clear hpr
    have frx_n := two_new w3 (.int .i64 (U : Int)) (.int .i64 (D : Int)) 29
    have hbx := (Below.refl w3.heap.size w3).alloc (Nat.le_refl _) (.cells #[.int .i64 (U : Int), .int .i64 (D : Int)] 29)
    obtain ⟨w4, hw4⟩ : ∃ wx, w3.alloc (.cells #[.int .i64 (U : Int), .int .i64 (D : Int)] 29) = wx := ⟨_, rfl⟩
    rw [hw4] at frx_n hbx
    have HW4 := Lib.hid hw4
    clear hw4
    have ona_4 := ona_3.lift hbx
    have hB4 : Below w.heap.size w w4 := hB3.trans (hbx.mono hB3.size)
    clear hB3
    clear ona_3
    clear hbx
    have frx_4 := frx_n
    clear frx_n
    obtain ⟨ca0, ca1⟩ := ona_4.box
    dsimp only at ca0 ca1
    have cx0 := frx_4.1.1
    have cx1 := frx_4.2.1
    rw [← HW4.out] at ca0 ca1 cx0 cx1
    go_wp2_with fail
    rw [HW4.out]
    refine (paceOf_spec ⟨aT, lT, cT, aW, lW, cW⟩ ts rows w4 ona_4.at').mono ?_
    rintro e w5 ⟨U2, D2, pb2, rfl, hpr2, hb4⟩
    clear ca0 ca1
    clear cx0 cx1
    have frx_5 := frx_4.block (hb4.block _ frx_4.lt)
    clear frx_4
    have ona_5 := ona_4.lift hb4
    have hB5 : Below w.heap.size w w5 := hB4.trans (hb4.mono hB4.size)
    clear hB4
    clear ona_4
    clear hb4
    obtain ⟨eU, eD, eb⟩ := paceRes_unique hpr2 HPR.out
    subst eU
    subst eD
    subst eb
    clear hpr2
    have fru_n := two_new w5 (.int .i64 (U2 : Int)) (.int .i64 (D2 : Int)) 29
    have hbx := (Below.refl w5.heap.size w5).alloc (Nat.le_refl _) (.cells #[.int .i64 (U2 : Int), .int .i64 (D2 : Int)] 29)
    obtain ⟨w6, hw6⟩ : ∃ wx, w5.alloc (.cells #[.int .i64 (U2 : Int), .int .i64 (D2 : Int)] 29) = wx := ⟨_, rfl⟩
    rw [hw6] at fru_n hbx
    have HW6 := Lib.hid hw6
    clear hw6
    have frx_6 := frx_5.block (hbx.block _ frx_5.lt)
    clear frx_5
    have ona_6 := ona_5.lift hbx
    have hB6 : Below w.heap.size w w6 := hB5.trans (hbx.mono hB5.size)
    clear hB5
    clear ona_5
    clear hbx
    have fru_6 := fru_n
    clear fru_n
    have hne := run_neq_frac U2 D2
    have heq := run_eq_frac U2 D2
    have hbb : (pb2 != pb2) = false := by simp
    have hbe : (pb2 == pb2) = true := by simp
    cases pb2
    · obtain ⟨ca0, ca1⟩ := ona_6.box
      dsimp only at ca0 ca1
      have cx0 := frx_6.1.1
      have cx1 := frx_6.2.1
      have cu0 := fru_6.1.1
      have cu1 := fru_6.2.1
      rw [← HW6.out] at ca0 ca1 cx0 cx1 cu0 cu1
      go_wp2_with fail
      rw [HW6.out]
      go_ret
      exact ⟨rfl, hB6⟩
    · obtain ⟨hal, hpc⟩ : aliveB ts rows = true ∧ IsPace (grOf ts rows) U2 D2 := by
        rcases HPR.out with ⟨h1, _, h3⟩ | ⟨_, h2, _⟩
        · exact ⟨h1, h3⟩
        · cases h2
      obtain ⟨hv, hnd⟩ := alive_get hal
      have hok := gr_ok hv
      have hu36 := hpc.u36
      have hd12 := hpc.d12
      have hd1 := hpc.d1
      have HK1 := Lib.hid (keepRes_pace hv hok hpc)
      have HK0 := Lib.hid (fun h => keepRes_less hv hok hpc h)
      have HCOP := Lib.hid hpc.cop
      have HK2 := Lib.hid (fun h0 => keepRes_zero hv hok hpc h0)
      clear hv hnd hok hal hpc
      by_cases hU0 : U2 = 0
      · subst hU0
        have HK3 := Lib.hid (HK2.out rfl)
        have hz := HW6.out
        rw [show ((0 : Nat) : Int) = 0 from rfl] at hz
        have HZ := Lib.hid hz
        clear hz
        obtain ⟨ca0, ca1⟩ := ona_6.box
        dsimp only at ca0 ca1
        have cx0 := frx_6.1.1
        have cx1 := frx_6.2.1
        have cu0 := fru_6.1.1
        have cu1 := fru_6.2.1
        rw [← HZ.out] at ca0 ca1 cx0 cx1 cu0 cu1
        go_wp2_with fail
        rw [HZ.out]
        refine (keepsPace_impl ⟨aT, lT, cT, aW, lW, cW⟩ ts rows 0 1 w6 ona_6.at').mono ?_
        rintro e w7 ⟨rfl, hb9⟩
        clear ca0 ca1
        clear cx0 cx1
        clear cu0 cu1
        have frx_7 := frx_6.block (hb9.block _ frx_6.lt)
        clear frx_6
        have fru_7 := fru_6.block (hb9.block _ fru_6.lt)
        clear fru_6
        have ona_7 := ona_6.lift hb9
        have hB7 : Below w.heap.size w w7 := hB6.trans (hb9.mono hB6.size)
        clear hB6
        clear ona_6
        clear hb9
        rw [HK3.out]
        obtain ⟨ca0, ca1⟩ := ona_7.box
        dsimp only at ca0 ca1
        have cx0 := frx_7.1.1
        have cx1 := frx_7.2.1
        have cu0 := fru_7.1.1
        have cu1 := fru_7.2.1
        go_wp2_with fail
        go_ret
        exact ⟨rfl, hB7⟩
      · have hU0I : (((U2 : Nat) : Int) == 0) = false := by simp; omega
        have HK4 := Lib.hid (HK0.out (by omega))
        have hwu : IntKind.i64.wrap ((U2 : Int) - 1) = (U2 : Int) - 1 := IntWalk.i64_in _ (by omega)
        obtain ⟨ca0, ca1⟩ := ona_6.box
        dsimp only at ca0 ca1
        have cx0 := frx_6.1.1
        have cx1 := frx_6.2.1
        have cu0 := fru_6.1.1
        have cu1 := fru_6.2.1
        rw [← HW6.out] at ca0 ca1 cx0 cx1 cu0 cu1
        go_wp2_with fail
        rw [HW6.out]
        refine (keepsPace_impl ⟨aT, lT, cT, aW, lW, cW⟩ ts rows (U2 : Int) (D2 : Int) w6 ona_6.at').mono ?_
        rintro e w7 ⟨rfl, hb9⟩
        clear ca0 ca1
        clear cx0 cx1
        clear cu0 cu1
        have frx_7 := frx_6.block (hb9.block _ frx_6.lt)
        clear frx_6
        have fru_7 := fru_6.block (hb9.block _ fru_6.lt)
        clear fru_6
        have ona_7 := ona_6.lift hb9
        have hB7 : Below w.heap.size w w7 := hB6.trans (hb9.mono hB6.size)
        clear hB6
        clear ona_6
        clear hb9
        rw [HK1.out]
        obtain ⟨ca0, ca1⟩ := ona_7.box
        dsimp only at ca0 ca1
        have cx0 := frx_7.1.1
        have cx1 := frx_7.2.1
        have cu0 := fru_7.1.1
        have cu1 := fru_7.2.1
        go_wp2_with fail
        refine (keepsPace_impl ⟨aT, lT, cT, aW, lW, cW⟩ ts rows ((U2 : Int) - 1) (D2 : Int) w7 ona_7.at').mono ?_
        rintro e w8 ⟨rfl, hb10⟩
        clear ca0 ca1
        clear cx0 cx1
        clear cu0 cu1
        have frx_8 := frx_7.block (hb10.block _ frx_7.lt)
        clear frx_7
        have fru_8 := fru_7.block (hb10.block _ fru_7.lt)
        clear fru_7
        have ona_8 := ona_7.lift hb10
        have hB8 : Below w.heap.size w w8 := hB7.trans (hb10.mono hB7.size)
        clear hB7
        clear ona_7
        clear hb10
        rw [HK4.out]
        obtain ⟨ca0, ca1⟩ := ona_8.box
        dsimp only at ca0 ca1
        have cx0 := frx_8.1.1
        have cx1 := frx_8.2.1
        have cu0 := fru_8.1.1
        have cu1 := fru_8.2.1
        go_wp2_with fail
        refine (divisor_any U2 D2 (by omega) (by omega) (by omega) w8).mono ?_
        rintro e w' ⟨rfl, rfl⟩
        clear ca0 ca1
        clear cx0 cx1
        clear cu0 cu1
        rw [HCOP.out]
        obtain ⟨ca0, ca1⟩ := ona_8.box
        dsimp only at ca0 ca1
        have cx0 := frx_8.1.1
        have cx1 := frx_8.2.1
        have cu0 := fru_8.1.1
        have cu1 := fru_8.2.1
        go_wp2_with fail
        go_ret
        exact ⟨rfl, hB8⟩
  · go_enter Try.func3, Try.ntmps3
    go_wp2
    go_ret
    exact ⟨rfl, Below.refl _ _⟩
end Go.Proofs.Ytkebdelfklmigae
