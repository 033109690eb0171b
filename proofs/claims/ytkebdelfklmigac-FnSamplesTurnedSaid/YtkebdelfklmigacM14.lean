import Derived.Test.YtkebdelfklmigacRows
import Derived.WalkKit
import Derived.LoopTactic
import Derived.Outline
import Derived.WalkSpells
import Derived.WalkLawsBesides
import Derived.ProofKit
import Derived.Lib.Hide
import Derived.IntWalk
import Derived.Deep.QuietTactic
import Derived.BigQuiet
import Derived.Deep.RegionHeld3
import Derived.Test.YtkebdelfklmigacM11
import Derived.Test.YtkebdelfklmigacM12
import Derived.Test.YtkebdelfklmigacM13
namespace Go.Proofs.Ytkebdelfklmigac
open Go.RowKit Go.WideShapes
set_option maxRecDepth 100000 in
set_option maxHeartbeats 4000000 in
theorem passByDraws_impl (lot bad size most : Int) (w : World) :
    Calls Try.prog 17 #[.int .i64 lot, .int .i64 bad, .int .i64 size, .int .i64 most] w (FracBP w (passU lot bad size most) (passD lot bad size most) (planB lot bad size most)) := by
  have HV := Lib.hid (fun w' => isValid_any lot bad size most w')
  have ht1 := two_new w (.int .i64 0) (.int .i64 0) 27
  have hb1 := below_alloc w (.cells #[.int .i64 0, .int .i64 0] 27)
  have hz1 : (w.alloc (.cells #[.int .i64 0, .int .i64 0] 27)).heap.size = w.heap.size + 1 := by simp
  obtain ⟨w1, hw1⟩ : ∃ w1, (w.alloc (.cells #[.int .i64 0, .int .i64 0] 27)) = w1 := ⟨_, rfl⟩
  rw [hw1] at ht1 hb1 hz1
  have hf2 := four_new w1 lot bad size most 43
  have ht2 := ht1.lift (below_alloc w1 (.cells #[.int .i64 lot, .int .i64 bad, .int .i64 size, .int .i64 most] 43))
  have hb2 := hb1.alloc (by omega) (.cells #[.int .i64 lot, .int .i64 bad, .int .i64 size, .int .i64 most] 43)
  have hz2 : (w1.alloc (.cells #[.int .i64 lot, .int .i64 bad, .int .i64 size, .int .i64 most] 43)).heap.size = w.heap.size + 2 := by simp; omega
  obtain ⟨w2, hw2⟩ : ∃ w2, (w1.alloc (.cells #[.int .i64 lot, .int .i64 bad, .int .i64 size, .int .i64 most] 43)) = w2 := ⟨_, rfl⟩
  rw [hw2] at hf2 ht2 hb2 hz2
  rw [hz1] at hf2
  have HW1 := Lib.hid hw1
  have HW2 := Lib.hid hw2
  have HT2 := Lib.hid ht2
  have HF2 := Lib.hid hf2
  have HB2 := Lib.hid hb2
  have HS2 := Lib.hid hz2
  clear hw1 hw2 ht1 hb1 hz1 hf2 ht2 hb2 hz2
  have HEND := Lib.hid (fun w' (h : Below w2.heap.size w2 w') (U D : Nat) => And.intro ((((HT2.out.lift h).set0 (.int .i64 U)).set1 (.int .i64 D))) (((HB2.out.trans (h.mono HB2.out.size)).setCell (p := ⟨w.heap.size, 0, none⟩) (Nat.le_refl _) (.int .i64 U)).setCell (p := ⟨w.heap.size, 1, none⟩) (Nat.le_refl _) (.int .i64 D)))
  cases hv : planB lot bad size most
  · obtain ⟨p1, p2, p3, p4⟩ := pass_no hv
    rw [p1, p2]
    rw [hv] at HV
    clear p1 p2 p3 p4 hv
    go_enter Try.func17, Try.ntmps17
    go_wp2_with fail
    rw [HW1.out, HW2.out]
    obtain ⟨a0, a1, a2, a3⟩ := HF2.out
    go_wp2_with fail
    refine (HV.out w2).mono ?_
    rintro e w3 ⟨rfl, hb3⟩
    have HE := Lib.hid (HEND.out w3 hb3 0 0)
    obtain ⟨⟨r0, z0⟩, r1, z1⟩ := HT2.out.lift hb3
    clear a0 a1 a2 a3 hb3
    go_wp2_with fail
    have v0 := HE.out.1.1.1
    have v1 := HE.out.1.2.1
    exact bodyPost_ret (v := .tuple #[.agg #[.int .i64 0, .int .i64 0], .bool false]) (by simp [results, Try.results17, go_sem] at v0 v1 ⊢; simp [go_sem, v0, v1]) rfl ⟨rfl, HE.out.2⟩
  · obtain ⟨l, b, s, m, rfl, rfl, rfl, rfl, h1, h12, hbl, hsl, hm⟩ := plan_get hv
    obtain ⟨p1, p2, p3, p4⟩ := pass_yes hv
    rw [p1, p2]
    obtain ⟨c1, c2⟩ := ch_1 h12 hsl
    obtain ⟨d1, d2, d3, d4, d5⟩ := draws_eq hv
    rw [← p1, ← p2, ← d1, ← d2]
    have HP := Lib.hid (fun w' => passingDraws_nat s l b (m + 1) w' h12 hbl hsl (by omega))
    rw [show (((m + 1 : Nat) : Int) - 1) = (m : Int) by omega] at HP
    have HDF := Lib.hid (downFrom_any l s h12 (by omega))
    have HPR := Lib.hid (fun S a w' (h : IntsAt w' S a s (tab (fun i => (l : Int) - (i : Int)) s)) => product_any S a s s _ (fun k => ((fall l k : Nat) : Int)) w' h rfl (fun k x hx => by obtain ⟨rfl, hk⟩ := tab_get hx; exact fall_step9 (by omega)) (fun k hk => by have := fall_bd l (by omega) k (by omega); omega))
    have HF := Lib.hid (ifrac_any (drw l b s (m + 1)) (fall l s) (by omega) (by omega) (by omega))
    obtain ⟨x, hx⟩ : ∃ x, drw l b s (m + 1) = x := ⟨_, rfl⟩
    obtain ⟨y, hy⟩ : ∃ y, fall l s = y := ⟨_, rfl⟩
    rw [hx] at HP HF d3 ⊢
    rw [hy] at HF d4 d5 ⊢
    obtain ⟨U, hU⟩ : ∃ U, fU x y = U := ⟨_, rfl⟩
    obtain ⟨D, hD⟩ : ∃ D, fD x y = D := ⟨_, rfl⟩
    rw [hU, hD] at HF ⊢
    have HY := Lib.hid hy
    clear hU hD hx hy d1 d2
    rw [hv] at HV
    clear hv p1 p2 p3 p4
    go_enter Try.func17, Try.ntmps17
    go_wp2_with fail
    rw [HW1.out, HW2.out]
    obtain ⟨a0, a1, a2, a3⟩ := HF2.out
    go_wp2_with fail
    refine (HV.out w2).mono ?_
    rintro e w3 ⟨rfl, hb3⟩
    have HB3 := Lib.hid hb3
    clear a0 a1 a2 a3 hb3
    obtain ⟨a0, a1, a2, a3⟩ := HF2.out.lift HB3.out
    go_wp2_with fail
    refine (HP.out w3).mono ?_
    rintro e w4 ⟨rfl, hb4⟩
    have HB4 := Lib.hid (HB3.out.trans (hb4.mono HB3.out.size))
    clear a0 a1 a2 a3 hb4
    go_wp2_with fail
    refine (HDF.out w4).mono ?_
    rintro e w5 ⟨rfl, hi5, hb5⟩
    have HI5 := Lib.hid hi5
    have HB5 := Lib.hid (HB4.out.trans (hb5.mono HB4.out.size))
    clear hi5 hb5
    go_wp2_with fail
    refine (HPR.out _ _ w5 HI5.out).mono ?_
    rintro e w' ⟨rfl, rfl⟩
    rw [HY.out]
    go_wp2_with fail
    refine (HF.out w').mono ?_
    rintro e w6 ⟨rfl, hb6⟩
    have HB6 := Lib.hid (HB5.out.trans (hb6.mono HB5.out.size))
    clear hb6
    have HE := Lib.hid (HEND.out w6 HB6.out U D)
    obtain ⟨⟨r0, z0⟩, r1, z1⟩ := HT2.out.lift HB6.out
    go_wp2_with fail
    have v0 := HE.out.1.1.1
    have v1 := HE.out.1.2.1
    exact bodyPost_ret (v := .tuple #[.agg #[.int .i64 U, .int .i64 D], .bool true]) (by simp [results, Try.results17, go_sem, v0, v1]) rfl ⟨rfl, HE.out.2⟩
end Go.Proofs.Ytkebdelfklmigac
