/- The law FnKeepsPace returns true at every code, and the code reads behind the call as it read before. No condition. -/
import Derived.Test.YtkebdelfklmigaeRows
import Derived.WalkKit
import Derived.LoopTactic
import Derived.Outline
import Derived.WalkSpells
import Derived.WalkLawsBesides
import Derived.ProofKit
import Derived.Deep.QuietTactic
import Derived.BigQuiet
import Derived.IntWalk
import Derived.Deep.RegionHeld3
import Derived.Test.YtkebdelfklmigaeM0
import Derived.Test.YtkebdelfklmigaeM1
import Derived.Test.YtkebdelfklmigaeM2
import Derived.Test.YtkebdelfklmigaeM5
import Derived.Test.YtkebdelfklmigaeM4
import Derived.Test.YtkebdelfklmigaeM11
import Derived.Test.YtkebdelfklmigaeM9
import Derived.Test.YtkebdelfklmigaeM6
import Derived.Test.YtkebdelfklmigaeM17
import Derived.Test.YtkebdelfklmigaeM18
import Derived.Test.YtkebdelfklmigaeM13
import Derived.Test.YtkebdelfklmigaeM12
import Derived.Test.YtkebdelfklmigaeM19
namespace Go.Proofs.Ytkebdelfklmigae
open Go.RowKit Go.WideShapes

set_option maxRecDepth 100000 in
set_option maxHeartbeats 2000000 in
theorem fnKeepsPace_any (a : Option Addr) (len cap : Nat) (w : World) (hb : BytesAt w w.heap.size a len) (hl : len ≤ cap) (hs : len ≤ 9223372036854775807) :
    Calls Try.prog 5 #[.slice a len cap] w (LawPost w) := by
  by_cases h20 : len ≤ 1048576
  · go_enter Try.func5, Try.ntmps5
    have hB0 := Below.refl w.heap.size w
    go_wp2_with fail
    refine (drawKeepsPace_any a len cap w hb hl hs).mono ?_
    rintro e w1 ⟨d, ts, rows, up, down, rfl, n_n, hT4, hW8, hup, hdn, hb1⟩
    have hB1 : Below w.heap.size w w1 := hB0.trans (hb1.mono hB0.size)
    clear hB0
    obtain ⟨aT, lT, cT, aW, lW, cW⟩ := d
    clear hb hb1
    have ona_n := netOn_new n_n 26
    have hbx := (Below.refl w1.heap.size w1).alloc (Nat.le_refl _) (.cells #[.slice aT lT cT, .slice aW lW cW] 26)
    obtain ⟨w2, hw2⟩ : ∃ wx, w1.alloc (.cells #[.slice aT lT cT, .slice aW lW cW] 26) = wx := ⟨_, rfl⟩
    rw [hw2] at ona_n hbx
    have HW2 := Lib.hid hw2
    clear hw2
    have hB2 : Below w.heap.size w w2 := hB1.trans (hbx.mono hB1.size)
    clear hB1
    clear hbx
    have ona_2 := ona_n
    clear ona_n
    clear n_n
    dsimp only at hT4 hW8
    obtain ⟨ca0, ca1⟩ := ona_2.box
    dsimp only at ca0 ca1
    go_wp2_with fail
    rw [HW2.out]
    refine (keepsPace_impl ⟨aT, lT, cT, aW, lW, cW⟩ ts rows (up : Int) (down : Int) w2 ona_2.at').mono ?_
    rintro e w3 ⟨rfl, hb3⟩
    clear ca0 ca1
    have ona_3 := ona_2.lift hb3
    have hB3 : Below w.heap.size w w3 := hB2.trans (hb3.mono hB2.size)
    clear hB2
    clear ona_2
    clear hb3
    obtain ⟨bq, hq⟩ : ∃ bq, keepRes ts rows (up : Int) (down : Int) = bq := ⟨_, rfl⟩
    rw [hq]
    have HQ := Lib.hid hq
    clear hq
    have hbb : (bq != bq) = false := by simp
    have hbe : (bq == bq) = true := by simp
    obtain ⟨ca0, ca1⟩ := ona_3.box
    dsimp only at ca0 ca1
    go_wp2_with fail
    refine (keepsPace_spec ⟨aT, lT, cT, aW, lW, cW⟩ ts rows (up : Int) (down : Int) w3 ona_3.at').mono ?_
    rintro e w4 ⟨rfl, hbs⟩
    clear ca0 ca1
    have ona_4 := ona_3.lift hbs
    have hB4 : Below w.heap.size w w4 := hB3.trans (hbs.mono hB3.size)
    clear hB3
    clear ona_3
    clear hbs
    rw [HQ.out]
    obtain ⟨ca0, ca1⟩ := ona_4.box
    dsimp only at ca0 ca1
    go_wp2_with fail
    refine (validNet_impl ⟨aT, lT, cT, aW, lW, cW⟩ ts rows w4 ona_4.at').mono ?_
    rintro e w5 ⟨rfl, hb5⟩
    clear ca0 ca1
    have ona_5 := ona_4.lift hb5
    have hB5 : Below w.heap.size w w5 := hB4.trans (hb5.mono hB4.size)
    clear hB4
    clear ona_4
    clear hb5
    have hu0 : ¬ (up : Int) < 0 := by omega
    have hd40 : ¬ (40 : Int) < (down : Int) := by omega
    cases hv : tokM ts rows
    · obtain ⟨ca0, ca1⟩ := ona_5.box
      dsimp only at ca0 ca1
      go_wp2_with fail
      refine (keepsPace_spec ⟨aT, lT, cT, aW, lW, cW⟩ ts rows (up : Int) (down : Int) w5 ona_5.at').mono ?_
      rintro e w6 ⟨rfl, hbs⟩
      clear ca0 ca1
      have ona_6 := ona_5.lift hbs
      have hB6 : Below w.heap.size w w6 := hB5.trans (hbs.mono hB5.size)
      clear hB5
      clear ona_5
      clear hbs
      rw [HQ.out]
      obtain ⟨ca0, ca1⟩ := ona_6.box
      dsimp only at ca0 ca1
      go_wp2_with fail
      go_ret
      exact ⟨rfl, hB6⟩
    · have HV := Lib.hid hv
      clear hv
      by_cases hu40 : up ≤ 40
      · have hu40I : ¬ (40 : Int) < (up : Int) := by omega
        by_cases hd1 : 1 ≤ down
        · have hd1I : ¬ (down : Int) < 1 := by omega
          obtain ⟨ca0, ca1⟩ := ona_5.box
          dsimp only at ca0 ca1
          go_wp2_with fail
          refine (paceOf_impl ⟨aT, lT, cT, aW, lW, cW⟩ ts rows w5 ona_5.at').mono ?_
          rintro e w6 ⟨U, D, pb, rfl, hpr, hb6⟩
          clear ca0 ca1
          have ona_6 := ona_5.lift hb6
          have hB6 : Below w.heap.size w w6 := hB5.trans (hb6.mono hB5.size)
          clear hB5
          clear ona_5
          clear hb6
          have HPR := Lib.hid hpr
          clear hpr
          have frx_n := two_new w6 (.int .i64 (U : Int)) (.int .i64 (D : Int)) 29
          have hbx := (Below.refl w6.heap.size w6).alloc (Nat.le_refl _) (.cells #[.int .i64 (U : Int), .int .i64 (D : Int)] 29)
          obtain ⟨w7, hw7⟩ : ∃ wx, w6.alloc (.cells #[.int .i64 (U : Int), .int .i64 (D : Int)] 29) = wx := ⟨_, rfl⟩
          rw [hw7] at frx_n hbx
          have HW7 := Lib.hid hw7
          clear hw7
          have ona_7 := ona_6.lift hbx
          have hB7 : Below w.heap.size w w7 := hB6.trans (hbx.mono hB6.size)
          clear hB6
          clear ona_6
          clear hbx
          have frx_7 := frx_n
          clear frx_n
          cases pb
          · obtain ⟨ca0, ca1⟩ := ona_7.box
            dsimp only at ca0 ca1
            have cx0 := frx_7.1.1
            have cx1 := frx_7.2.1
            rw [← HW7.out] at ca0 ca1 cx0 cx1
            go_wp2_with fail
            rw [HW7.out]
            go_quiet (fail)
            go_wp2_with fail
            go_ret
            exact ⟨rfl, below_drewN hB7 _⟩
          · obtain ⟨hal, hpc⟩ : aliveB ts rows = true ∧ IsPace (grOf ts rows) U D := by
              rcases HPR.out with ⟨h1, _, h3⟩ | ⟨_, h2, _⟩
              · exact ⟨h1, h3⟩
              · cases h2
            have hu36 := hpc.u36
            have hd12 := hpc.d12
            have hkl := keep_less HV.out (gr_ok HV.out) hpc hu40 hd1 hdn
            rw [HQ.out] at hkl
            have HLS := Lib.hid (fun w' => lless_any (fU up down) (fD up down) U D (by have := fU_le up down; have := fD_le up down; omega) w')
            obtain ⟨cq, hcq⟩ : ∃ cq, decide ((fU up down : Int) * D < (U : Int) * fD up down) = cq := ⟨_, rfl⟩
            rw [hcq] at hkl HLS
            subst hkl
            clear hcq hal hpc hbb
            have HFO := Lib.hid (fun w' => lfrac_any up down (by omega) hd1 (by omega) w')
            have HX := Lib.hid frx_7
            have HBX := Lib.hid hB7
            clear hB7 frx_7
            have k9 := HX.out.1.1
            have k8 := HX.out.2.1
            rw [← HW7.out] at k9 k8
            go_wp2_with fail
            rw [HW7.out]
            rw [HW7.out] at k9 k8
            have HXD := Lib.hid (show Below w7.heap.size w7 w7.drew from (Below.refl _ _).drew)
            have HXL := HX.out.lt
            have HK := Lib.hid (fun w' (hb : Below w7.heap.size w7 w') => (show Two w' w6.heap.size (.int .i64 (U : Int)) (.int .i64 (D : Int)) from HX.out.block (hb.block _ HX.out.lt)))
            go_region_held3 (fun w' => w'.cell? ⟨w6.heap.size, 0, none⟩ = some (.int .i64 (U : Int)) ∧ w'.cell? ⟨w6.heap.size, 1, none⟩ = some (.int .i64 (D : Int))) (first | go_keep | exact k1 | exact k0) (first | (go_at_call 19; refine (HLS.out w18).mono ?_; rintro e w19 ⟨rfl, hb19⟩; have HB19 := Lib.hid (HB18.out.trans (hb19.mono HB18.out.size)); have k1 := And.intro (HK.out w19 HB19.out).1.1 (HK.out w19 HB19.out).2.1) | (go_at_call 20; refine (HFO.out _).mono ?_; rintro e w18 ⟨rfl, hb18⟩; have HB18 := Lib.hid (HXD.out.trans (hb18.mono HXD.out.size)); have k0 := And.intro (HK.out w18 HB18.out).1.1 (HK.out w18 HB18.out).2.1))
            have HBZ := Lib.hid (HBX.out.trans (HB19.out.mono HBX.out.size))
            clear k0 k1 hb18 hb19
            have hcc : ((!cq) == (!cq)) = true := by simp
            go_wp2_with fail
            go_ret
            exact ⟨rfl, HBZ.out⟩
        · have hd1I : (down : Int) < 1 := by omega
          obtain ⟨ca0, ca1⟩ := ona_5.box
          dsimp only at ca0 ca1
          go_wp2_with fail
          refine (keepsPace_spec ⟨aT, lT, cT, aW, lW, cW⟩ ts rows (up : Int) (down : Int) w5 ona_5.at').mono ?_
          rintro e w6 ⟨rfl, hbs⟩
          clear ca0 ca1
          have ona_6 := ona_5.lift hbs
          have hB6 : Below w.heap.size w w6 := hB5.trans (hbs.mono hB5.size)
          clear hB5
          clear ona_5
          clear hbs
          rw [HQ.out]
          obtain ⟨ca0, ca1⟩ := ona_6.box
          dsimp only at ca0 ca1
          go_wp2_with fail
          go_ret
          exact ⟨rfl, hB6⟩
      · have hu40I : (40 : Int) < (up : Int) := by omega
        obtain ⟨ca0, ca1⟩ := ona_5.box
        dsimp only at ca0 ca1
        go_wp2_with fail
        refine (keepsPace_spec ⟨aT, lT, cT, aW, lW, cW⟩ ts rows (up : Int) (down : Int) w5 ona_5.at').mono ?_
        rintro e w6 ⟨rfl, hbs⟩
        clear ca0 ca1
        have ona_6 := ona_5.lift hbs
        have hB6 : Below w.heap.size w w6 := hB5.trans (hbs.mono hB5.size)
        clear hB5
        clear ona_5
        clear hbs
        rw [HQ.out]
        obtain ⟨ca0, ca1⟩ := ona_6.box
        dsimp only at ca0 ca1
        go_wp2_with fail
        go_ret
        exact ⟨rfl, hB6⟩
  · go_enter Try.func5, Try.ntmps5
    go_wp2
    go_ret
    exact ⟨rfl, Below.refl _ _⟩
end Go.Proofs.Ytkebdelfklmigae
