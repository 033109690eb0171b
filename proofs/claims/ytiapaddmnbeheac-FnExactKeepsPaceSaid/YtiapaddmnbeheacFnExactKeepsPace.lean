/- The walk of the law FnExactKeepsPace: it returns true at all arguments, and what was there reads as it read before. No condition. -/
import Derived.Test.YtiapaddmnbeheacRows
import Derived.WalkKit
import Derived.Outline
import Derived.WalkSpells
import Derived.WalkLawsBesides
import Derived.ProofKit
import Derived.Deep.RegionHeld3
import Derived.Test.YtiapaddmnbeheacLib
import Derived.Test.YtiapaddmnbeheacNetAt
import Derived.Test.YtiapaddmnbeheacEx8
import Derived.Test.YtiapaddmnbeheacTokK
import Derived.Test.YtiapaddmnbeheacKeep8
namespace Go.Proofs.Ytiapaddmnbeheac
open Go.RowKit Go.WideShapes

set_option maxRecDepth 100000 in
set_option maxHeartbeats 2000000 in
theorem fnExactKeepsPace_any (d : NV) (ts : List Int) (rows : List (List Int)) (n0 : Int) (n1 : Int) (w : World) (h : NetAt w (· < w.heap.size) d ts rows) :
    Calls Try.prog 6 #[.agg #[.slice d.aT d.lT d.cT, .slice d.aW d.lW d.cW], .int .i64 n0, .int .i64 n1] w (LawPost w) := by
  obtain ⟨aT, lT, cT, aW, lW, cW⟩ := d
  have on1 := netOn_new h 35
  have hb1 := (Below.refl w.heap.size w).alloc (Nat.le_refl _) (.cells #[.slice aT lT cT, .slice aW lW cW] 35)
  obtain ⟨w1, hw1⟩ : ∃ wx, w.alloc (.cells #[.slice aT lT cT, .slice aW lW cW] 35) = wx := ⟨_, rfl⟩
  rw [hw1] at on1 hb1
  have HW1 := Lib.hid hw1
  clear hw1 h
  obtain ⟨c0, c1⟩ := on1.box
  dsimp only at c0 c1
  go_enter Try.func6, Try.ntmps6
  go_wp2_with fail
  rw [HW1.out]
  refine (szNet_any ⟨aT, lT, cT, aW, lW, cW⟩ ts rows w1 on1.at').mono ?_
  rintro e w2 ⟨q, rfl, hsm, hb⟩
  have on2 := on1.lift hb
  have hb2 := hb1.trans (hb.mono hb1.size)
  clear on1 hb1 hb c0 c1
  by_cases hq : 0 ≤ q
  · have hs := hsm hq
    have hq0 : ¬ q < 0 := by omega
    have HS := Lib.hid hs
    clear hsm hs
    generalize hRES : (keepRes ts rows n0 n1) = ys
    have HRES := Lib.hid hRES
    clear hRES
    have heq0 : (ys == ys) = true := by simp
    -- the model's answer
    obtain ⟨c0, c1⟩ := on2.box
    dsimp only at c0 c1
    go_wp2_with fail
    refine (toNet_new ⟨aT, lT, cT, aW, lW, cW⟩ ts rows w2 on2.at' HS.out).mono ?_
    rintro e w3 ⟨⟨aT3, lT3, cT3, aW3, lW3, cW3⟩, rfl, at3, _, hb⟩
    have on3 := on2.lift hb
    have hb3 := hb2.trans (hb.mono hb2.size)
    clear on2 hb2 hb c0 c1
    go_wp2_with fail
    refine (keepsPace_spec ⟨aT3, lT3, cT3, aW3, lW3, cW3⟩ ts rows n0 n1 w3 (at3.to (fun b hb => ⟨hb.2, rfl⟩))).mono ?_
    rintro e w4 ⟨rfl, hb⟩
    rw [HRES.out]
    have on4 := on3.lift hb
    have hb4 := hb3.trans (hb.mono hb3.size)
    clear on3 hb3 hb at3
    -- the code's answer
    obtain ⟨c0, c1⟩ := on4.box
    dsimp only at c0 c1
    go_wp2_with fail
    refine (toNet_new ⟨aT, lT, cT, aW, lW, cW⟩ ts rows w4 on4.at' HS.out).mono ?_
    rintro e w5 ⟨⟨aT5, lT5, cT5, aW5, lW5, cW5⟩, rfl, at5, _, hb⟩
    have on5 := on4.lift hb
    have hb5 := hb4.trans (hb.mono hb4.size)
    clear on4 hb4 hb c0 c1
    have ox6 := netOn_new (at5.to (fun b hb => ⟨hb.2, rfl⟩)) 26
    have hb := (Below.refl w5.heap.size w5).alloc (Nat.le_refl _) (.cells #[.slice aT5 lT5 cT5, .slice aW5 lW5 cW5] 26)
    obtain ⟨w6, hw6⟩ : ∃ wx, w5.alloc (.cells #[.slice aT5 lT5 cT5, .slice aW5 lW5 cW5] 26) = wx := ⟨_, rfl⟩
    rw [hw6] at ox6 hb
    have HW6 := Lib.hid hw6
    have on6 := on5.lift hb
    have hb6 := hb5.trans (hb.mono hb5.size)
    clear hw6 on5 hb5 hb at5
    obtain ⟨c0, c1⟩ := on6.box
    obtain ⟨d0, d1⟩ := ox6.box
    dsimp only at c0 c1 d0 d1
    go_wp2_with fail
    rw [HW6.out]
    refine (keepsPace_impl ⟨aT5, lT5, cT5, aW5, lW5, cW5⟩ ts rows n0 n1 w6 ox6.at').mono ?_
    rintro e w7 ⟨rfl, hb⟩
    rw [HRES.out]
    have on7 := on6.lift hb
    have ox7 := ox6.lift hb
    have hb7 := hb6.trans (hb.mono hb6.size)
    clear on6 ox6 hb6 hb c0 c1 d0 d1
    have hl7 := on7.box.lt
    have hx7 := ox7.box.lt
    obtain ⟨c0, c1⟩ := on7.box
    obtain ⟨d0, d1⟩ := ox7.box
    dsimp only at c0 c1 d0 d1
    have HB7 := Lib.hid hb7
    have HD7 := Lib.hid (show Below w7.heap.size w7 w7.drew from (Below.refl _ _).drew)
    have HO7 := Lib.hid (fun w' (hb : Below w7.heap.size w7 w') => And.intro (on7.lift hb) (ox7.lift hb))
    clear on7 ox7 hb7
    go_wp2_with fail
    go_region_held3 (fun w' => (w'.cell? ⟨w.heap.size, 0, none⟩ = some (.slice aT lT cT) ∧ w'.cell? ⟨w.heap.size, 1, none⟩ = some (.slice aW lW cW)) ∧ w'.cell? ⟨w5.heap.size, 0, none⟩ = some (.slice aT5 lT5 cT5) ∧ w'.cell? ⟨w5.heap.size, 1, none⟩ = some (.slice aW5 lW5 cW5)) (first | go_keep | exact k9 | exact k8) (first | (go_at_call 15; refine (eqNet_any ⟨aT5, lT5, cT5, aW5, lW5, cW5⟩ ⟨aT8, lT8, cT8, aW8, lW8, cW8⟩ ts rows w8 (HO7.out w8 HB8.out).2.at' (at8.to (fun b hb => ⟨hb.2, rfl⟩))).mono ?_; rintro e w9 ⟨rfl, hb9⟩; have HB9 := Lib.hid (HB8.out.trans (hb9.mono HB8.out.size)); have k9 := And.intro (HO7.out w9 HB9.out).1.box (HO7.out w9 HB9.out).2.box) | (go_at_call 13; refine (toNet_new ⟨aT, lT, cT, aW, lW, cW⟩ ts rows _ (HO7.out _ HD7.out).1.at' HS.out).mono ?_; rintro e w8 ⟨⟨aT8, lT8, cT8, aW8, lW8, cW8⟩, rfl, at8, _, hb8⟩; have HB8 := Lib.hid (HD7.out.trans (hb8.mono HD7.out.size)); have k8 := And.intro (HO7.out w8 HB8.out).1.box (HO7.out w8 HB8.out).2.box))
    have HBZ := Lib.hid (HB7.out.trans (HB9.out.mono HB7.out.size))
    clear k8 k9 hb9 at8 hb8
    go_wp2_with fail
    go_ret
    exact ⟨rfl, HBZ.out⟩
  · have hq0 : q < 0 := by omega
    go_wp2_with fail
    go_ret
    exact ⟨rfl, hb2⟩
end Go.Proofs.Ytiapaddmnbeheac
