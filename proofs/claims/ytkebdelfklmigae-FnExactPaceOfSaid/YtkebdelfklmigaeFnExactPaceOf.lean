/- The walk of the law FnExactPaceOf: it returns true at all arguments, and what was there reads as it read before. No condition. -/
import Derived.Test.YtkebdelfklmigaeRows
import Derived.WalkKit
import Derived.Outline
import Derived.WalkSpells
import Derived.WalkLawsBesides
import Derived.ProofKit
import Derived.Deep.RegionHeld3
import Derived.Test.YtkebdelfklmigaeM0
import Derived.Test.YtkebdelfklmigaeM4
import Derived.Test.YtkebdelfklmigaeM5
import Derived.Test.YtkebdelfklmigaeM19
import Derived.Test.YtkebdelfklmigaeM11
import Derived.Test.YtkebdelfklmigaeM15
import Derived.Test.YtkebdelfklmigaeM17
namespace Go.Proofs.Ytkebdelfklmigae
open Go.RowKit Go.WideShapes

set_option maxHeartbeats 1000000 in
theorem eqFrac_any (U D : Nat) (w : World) : Calls Try.prog 14 #[.agg #[.int .i64 U, .int .i64 D], .agg #[.int .i64 U, .int .i64 D]] w (valN w (.bool true)) := by
  have e1 : ((U : Int) != (U : Int)) = false := by simp
  have e2 : ((D : Int) != (D : Int)) = false := by simp
  go_enter Try.func14, Try.ntmps14
  go_wp2_with fail
  go_ret
  exact ⟨rfl, ((Below.refl _ w).alloc (Nat.le_refl _) _).alloc (by simp) _⟩
set_option maxRecDepth 100000 in
set_option maxHeartbeats 4000000 in
theorem fnExactPaceOf_any (d : NV) (ts : List Int) (rows : List (List Int)) (w : World) (h : NetAt w (· < w.heap.size) d ts rows) :
    Calls Try.prog 4 #[.agg #[.slice d.aT d.lT d.cT, .slice d.aW d.lW d.cW]] w (LawPost w) := by
  obtain ⟨aT, lT, cT, aW, lW, cW⟩ := d
  have on1 := netOn_new h 35
  have hb1 := (Below.refl w.heap.size w).alloc (Nat.le_refl _) (.cells #[.slice aT lT cT, .slice aW lW cW] 35)
  obtain ⟨w1, hw1⟩ : ∃ wx, w.alloc (.cells #[.slice aT lT cT, .slice aW lW cW] 35) = wx := ⟨_, rfl⟩
  rw [hw1] at on1 hb1
  have HW1 := Lib.hid hw1
  clear hw1 h
  obtain ⟨c0, c1⟩ := on1.box
  dsimp only at c0 c1
  go_enter Try.func4, Try.ntmps4
  go_wp2_with fail
  rw [HW1.out]
  refine (szNet_any ⟨aT, lT, cT, aW, lW, cW⟩ ts rows w1 on1.at').mono ?_
  rintro e w2 ⟨q, rfl, hsm, hb⟩
  have on2 := on1.lift hb
  have hb2 := hb1.trans (hb.mono hb1.size)
  clear on1 hb1 hb c0 c1
  by_cases hq : 0 ≤ q
  · have hs := hsm hq
    have hq0 : ¬ q < 0 := by omega
    have HS := Lib.hid hs
    clear hsm hs
    -- the model's answer
    obtain ⟨c0, c1⟩ := on2.box
    dsimp only at c0 c1
    go_wp2_with fail
    refine (toNet_new ⟨aT, lT, cT, aW, lW, cW⟩ ts rows w2 on2.at' HS.out).mono ?_
    rintro e w3 ⟨⟨aT3, lT3, cT3, aW3, lW3, cW3⟩, rfl, at3, _, hb⟩
    have on3 := on2.lift hb
    have hb3 := hb2.trans (hb.mono hb2.size)
    clear on2 hb2 hb c0 c1
    go_wp2_with fail
    refine (paceOf_spec ⟨aT3, lT3, cT3, aW3, lW3, cW3⟩ ts rows w3 (at3.to (fun b hb => ⟨hb.2, rfl⟩))).mono ?_
    rintro e w4 ⟨U, D, pb, rfl, hpr, hb⟩
    have HPR := Lib.hid hpr
    have on4 := on3.lift hb
    have hb4 := hb3.trans (hb.mono hb3.size)
    clear on3 hb3 hb at3 hpr
    have fr5 := two_new w4 (.int .i64 (U : Int)) (.int .i64 (D : Int)) 29
    have hb := (Below.refl w4.heap.size w4).alloc (Nat.le_refl _) (.cells #[.int .i64 (U : Int), .int .i64 (D : Int)] 29)
    obtain ⟨w5, hw5⟩ : ∃ wx, w4.alloc (.cells #[.int .i64 (U : Int), .int .i64 (D : Int)] 29) = wx := ⟨_, rfl⟩
    rw [hw5] at fr5 hb
    have HW5 := Lib.hid hw5
    have on5 := on4.lift hb
    have hb5 := hb4.trans (hb.mono hb4.size)
    clear hw5 on4 hb4 hb
    -- the code's answer
    obtain ⟨c0, c1⟩ := on5.box
    dsimp only at c0 c1
    rw [← HW5.out] at c0 c1
    go_wp2_with fail
    rw [HW5.out]
    refine (toNet_new ⟨aT, lT, cT, aW, lW, cW⟩ ts rows w5 on5.at' HS.out).mono ?_
    rintro e w6 ⟨⟨aT6, lT6, cT6, aW6, lW6, cW6⟩, rfl, at6, _, hb⟩
    have on6 := on5.lift hb
    have fr6 := fr5.block (hb.block _ fr5.lt)
    have hb6 := hb5.trans (hb.mono hb5.size)
    clear on5 fr5 hb5 hb c0 c1
    have ox7 := netOn_new (at6.to (fun b hb => ⟨hb.2, rfl⟩)) 26
    have hb := (Below.refl w6.heap.size w6).alloc (Nat.le_refl _) (.cells #[.slice aT6 lT6 cT6, .slice aW6 lW6 cW6] 26)
    obtain ⟨w7, hw7⟩ : ∃ wx, w6.alloc (.cells #[.slice aT6 lT6 cT6, .slice aW6 lW6 cW6] 26) = wx := ⟨_, rfl⟩
    rw [hw7] at ox7 hb
    have HW7 := Lib.hid hw7
    have on7 := on6.lift hb
    have fr7 := fr6.block (hb.block _ fr6.lt)
    have hb7 := hb6.trans (hb.mono hb6.size)
    clear hw7 on6 fr6 hb6 hb at6
    obtain ⟨c0, c1⟩ := on7.box
    obtain ⟨d0, d1⟩ := ox7.box
    dsimp only at c0 c1 d0 d1
    go_wp2_with fail
    rw [HW7.out]
    refine (paceOf_impl ⟨aT6, lT6, cT6, aW6, lW6, cW6⟩ ts rows w7 ox7.at').mono ?_
    rintro e w8 ⟨U2, D2, pb2, rfl, hpr2, hb⟩
    obtain ⟨eU, eD, eb⟩ := paceRes_unique hpr2 HPR.out
    subst eU
    subst eD
    subst eb
    have on8 := on7.lift hb
    have ox8 := ox7.lift hb
    have fr8 := fr7.block (hb.block _ fr7.lt)
    have hb8 := hb7.trans (hb.mono hb7.size)
    clear on7 ox7 fr7 hb7 hb c0 c1 d0 d1 hpr2
    have fg9 := two_new w8 (.int .i64 (U2 : Int)) (.int .i64 (D2 : Int)) 29
    have hb := (Below.refl w8.heap.size w8).alloc (Nat.le_refl _) (.cells #[.int .i64 (U2 : Int), .int .i64 (D2 : Int)] 29)
    obtain ⟨w9, hw9⟩ : ∃ wx, w8.alloc (.cells #[.int .i64 (U2 : Int), .int .i64 (D2 : Int)] 29) = wx := ⟨_, rfl⟩
    rw [hw9] at fg9 hb
    have HW9 := Lib.hid hw9
    have on9 := on8.lift hb
    have ox9 := ox8.lift hb
    have fr9 := fr8.block (hb.block _ fr8.lt)
    have hb9 := hb8.trans (hb.mono hb8.size)
    clear hw9 on8 ox8 fr8 hb8 hb
    obtain ⟨⟨f0, _⟩, f1, _⟩ := fr9
    obtain ⟨⟨g0, _⟩, g1, _⟩ := fg9
    rw [← HW9.out] at f0 f1 g0 g1
    have hbb : (pb2 != pb2) = false := by simp
    go_wp2_with fail
    rw [HW9.out]
    refine (eqFrac_any U2 D2 w9).mono ?_
    rintro e w10 ⟨rfl, hb⟩
    have on10 := on9.lift hb
    have ox10 := ox9.lift hb
    have hb10 := hb9.trans (hb.mono hb9.size)
    clear on9 ox9 hb9 hb f0 f1 g0 g1
    obtain ⟨c0, c1⟩ := on10.box
    obtain ⟨d0, d1⟩ := ox10.box
    dsimp only at c0 c1 d0 d1
    have HB7 := Lib.hid hb10
    have HD7 := Lib.hid (show Below w10.heap.size w10 w10.drew from (Below.refl _ _).drew)
    have HO7 := Lib.hid (fun w' (hb : Below w10.heap.size w10 w') => And.intro (on10.lift hb) (ox10.lift hb))
    clear on10 ox10 hb10
    go_wp2_with fail
    go_region_held3 (fun w' => (w'.cell? ⟨w.heap.size, 0, none⟩ = some (.slice aT lT cT) ∧ w'.cell? ⟨w.heap.size, 1, none⟩ = some (.slice aW lW cW)) ∧ w'.cell? ⟨w6.heap.size, 0, none⟩ = some (.slice aT6 lT6 cT6) ∧ w'.cell? ⟨w6.heap.size, 1, none⟩ = some (.slice aW6 lW6 cW6)) (first | go_keep | exact k9 | exact k8) (first | (go_at_call 15; refine (eqNet_any ⟨aT6, lT6, cT6, aW6, lW6, cW6⟩ ⟨aT8, lT8, cT8, aW8, lW8, cW8⟩ ts rows w18 (HO7.out w18 HB8.out).2.at' (at8.to (fun b hb => ⟨hb.2, rfl⟩))).mono ?_; rintro e w19 ⟨rfl, hb9⟩; have HB9 := Lib.hid (HB8.out.trans (hb9.mono HB8.out.size)); have k9 := And.intro (HO7.out w19 HB9.out).1.box (HO7.out w19 HB9.out).2.box) | (go_at_call 13; refine (toNet_new ⟨aT, lT, cT, aW, lW, cW⟩ ts rows _ (HO7.out _ HD7.out).1.at' HS.out).mono ?_; rintro e w18 ⟨⟨aT8, lT8, cT8, aW8, lW8, cW8⟩, rfl, at8, _, hb8⟩; have HB8 := Lib.hid (HD7.out.trans (hb8.mono HD7.out.size)); have k8 := And.intro (HO7.out w18 HB8.out).1.box (HO7.out w18 HB8.out).2.box))
    have HBZ := Lib.hid (HB7.out.trans (HB9.out.mono HB7.out.size))
    clear k8 k9 hb9 at8 hb8
    go_wp2_with fail
    go_ret
    exact ⟨rfl, HBZ.out⟩
  · have hq0 : q < 0 := by omega
    go_wp2_with fail
    go_ret
    exact ⟨rfl, hb2⟩
end Go.Proofs.Ytkebdelfklmigae
