import Derived.Test.YtkebdelfklmigacRows
import Derived.WalkKit
import Derived.LoopTactic
import Derived.Outline
import Derived.WalkSpells
import Derived.WalkLawsBesides
import Derived.ProofKit
import Derived.Lib.Hide
import Derived.IntWalk
import Derived.Deep.QuietTactic
import Derived.BigQuiet
import Derived.Test.YtkebdelfklmigacM0
import Derived.Test.YtkebdelfklmigacM5
import Derived.Test.YtkebdelfklmigacM2
import Derived.Test.YtkebdelfklmigacM6
import Derived.Test.YtkebdelfklmigacM3
import Derived.Test.YtkebdelfklmigacM1
namespace Go.Proofs.Ytkebdelfklmigac
open Go.RowKit Go.WideShapes

/-- the chance that a lot passes -/
def passU (lot bad size most : Int) : Nat := if planB lot bad size most then fU (psum lot.toNat bad.toNat size.toNat (most.toNat + 1)) (ch lot.toNat size.toNat) else 0
def passD (lot bad size most : Int) : Nat := if planB lot bad size most then fD (psum lot.toNat bad.toNat size.toNat (most.toNat + 1)) (ch lot.toNat size.toNat) else 0
/-- what is left -/
def badU (lot bad size most : Int) : Nat := if planB lot bad size most then fU (bsum lot.toNat bad.toNat size.toNat (most.toNat + 1)) (ch lot.toNat size.toNat) else 0
def badD (lot bad size most : Int) : Nat := if planB lot bad size most then fD (bsum lot.toNat bad.toNat size.toNat (most.toNat + 1)) (ch lot.toNat size.toNat) else 0
theorem pass_no {lot bad size most : Int} (h : planB lot bad size most = false) : passU lot bad size most = 0 ∧ passD lot bad size most = 0 ∧ badU lot bad size most = 0 ∧ badD lot bad size most = 0 := by
  simp [passU, passD, badU, badD, h]
theorem pass_yes {l b s m : Nat} (h : planB l b s m = true) : passU l b s m = fU (psum l b s (m + 1)) (ch l s) ∧ passD l b s m = fD (psum l b s (m + 1)) (ch l s) ∧ badU l b s m = fU (bsum l b s (m + 1)) (ch l s) ∧ badD l b s m = fD (bsum l b s (m + 1)) (ch l s) := by
  simp [passU, passD, badU, badD, h]
theorem plan_nat {l b s m : Nat} (h : planB l b s m = true) : 1 ≤ l ∧ l ≤ 12 ∧ b ≤ l ∧ s ≤ l ∧ m ≤ 12 := by
  simp only [planB, inB, Bool.and_eq_true, decide_eq_true_eq] at h
  omega
/-- by draws the same -/
theorem draws_eq {l b s m : Nat} (h : planB l b s m = true) : fU (drw l b s (m + 1)) (fall l s) = passU l b s m ∧ fD (drw l b s (m + 1)) (fall l s) = passD l b s m ∧ drw l b s (m + 1) ≤ 479001600 ∧ 1 ≤ fall l s ∧ fall l s ≤ 479001600 := by
  obtain ⟨h1, h2, h3, h4, h5⟩ := plan_nat h
  obtain ⟨f1, f2, f3⟩ := fall_ch l (by omega) s (by omega)
  obtain ⟨p1, p2, _⟩ := pass_yes h
  have hf := (fa_bd s (by omega)).1
  have hp := psum_le (m := m + 1) h2 h3 h4 (by omega)
  have hb := fall_bd l (by omega) s (by omega)
  have hd : drw l b s (m + 1) ≤ fall l s := by unfold drw; rw [f2]; exact Nat.mul_le_mul_right _ hp
  obtain ⟨e1, e2⟩ := f_scale (g := fa s) (T := psum l b s (m + 1)) (C := ch l s) hf
  rw [p1, p2]
  refine ⟨?_, ?_, by omega, f3, hb⟩
  · unfold drw; rw [f2, Nat.mul_comm, Nat.mul_comm (ch l s)]; exact e1
  · unfold drw; rw [f2, Nat.mul_comm, Nat.mul_comm (ch l s)]; exact e2
def FracBP (w : World) (U D : Nat) (b : Bool) (e : Ending) (w' : World) : Prop := e = .returned (.tuple #[.agg #[.int .i64 U, .int .i64 D], .bool b]) ∧ Below w.heap.size w w'
theorem ch_1 {l s : Nat} (hl : l ≤ 12) (hs : s ≤ l) : 1 ≤ ch l s ∧ ch l s ≤ 924 := ⟨ch_pos l (by omega) s (by omega), ch_bd l (by omega) s (by omega)⟩
set_option maxRecDepth 100000 in
set_option maxHeartbeats 2000000 in
theorem passChance_spec (lot bad size most : Int) (w : World) :
    Calls Try.prog 14 #[.int .i64 lot, .int .i64 bad, .int .i64 size, .int .i64 most] w (FracBP w (passU lot bad size most) (passD lot bad size most) (planB lot bad size most)) := by
  have HV := Lib.hid (fun w' => validPlan_any lot bad size most w')
  have ht1 := two_new w (.int .i64 0) (.int .i64 0) 27
  have hb1 := (Below.refl w.heap.size w).alloc (Nat.le_refl _) (.cells #[.int .i64 0, .int .i64 0] 27)
  obtain ⟨w1, hw1⟩ : ∃ w1, (w.alloc (.cells #[.int .i64 0, .int .i64 0] 27)) = w1 := ⟨_, rfl⟩
  rw [hw1] at ht1 hb1
  have HW1 := Lib.hid hw1
  have HT1 := Lib.hid ht1
  have HB1 := Lib.hid hb1
  clear hw1 ht1 hb1
  cases hv : planB lot bad size most
  · obtain ⟨p1, p2, p3, p4⟩ := pass_no hv
    rw [p1, p2]
    clear p1 p2 p3 p4
    rw [hv] at HV
    clear hv
    go_enter Try.func14, Try.ntmps14
    go_wp2_with fail
    rw [HW1.out]
    refine (HV.out w1).mono ?_
    rintro e w' ⟨rfl, rfl⟩
    obtain ⟨⟨r0, z0⟩, r1, z1⟩ := HT1.out
    have HVV := Lib.hid (And.intro ((HT1.out.set0 (.int .i64 0)).set1 (.int .i64 0)).1.1 ((HT1.out.set0 (.int .i64 0)).set1 (.int .i64 0)).2.1)
    go_wp2_with fail
    obtain ⟨v0, v1⟩ := HVV.out
    exact bodyPost_ret (v := .tuple #[.agg #[.int .i64 0, .int .i64 0], .bool false]) (by simp [results, Try.results14, go_sem, v0, v1]) rfl ⟨rfl, (HB1.out.setCell (p := ⟨w.heap.size, 0, none⟩) (Nat.le_refl _) _).setCell (p := ⟨w.heap.size, 1, none⟩) (Nat.le_refl _) _⟩
  · obtain ⟨l, b, s, m, rfl, rfl, rfl, rfl, h1, h12, hbl, hsl, hm⟩ := plan_get hv
    obtain ⟨p1, p2, p3, p4⟩ := pass_yes hv
    rw [p1, p2]
    obtain ⟨c1, c2⟩ := ch_1 h12 hsl
    have HP := Lib.hid (passes_any l b s m h12 hbl hsl hm)
    have HC := Lib.hid (choose_any l (s : Int) h12)
    rw [chI_nat h12 (by omega)] at HC
    have hpl := psum_le (m := m + 1) h12 hbl hsl (by omega)
    obtain ⟨x, hx⟩ : ∃ x, psum l b s (m + 1) = x := ⟨_, rfl⟩
    obtain ⟨y, hy⟩ : ∃ y, ch l s = y := ⟨_, rfl⟩
    rw [hx] at HP hpl ⊢
    rw [hy] at HC hpl c1 c2 ⊢
    have HF := Lib.hid (frac_any x y (by omega) (by omega) (by omega))
    clear hx hy
    obtain ⟨U, hU⟩ : ∃ U, fU x y = U := ⟨_, rfl⟩
    obtain ⟨D, hD⟩ : ∃ D, fD x y = D := ⟨_, rfl⟩
    rw [hU, hD] at HF ⊢
    clear hU hD
    rw [hv] at HV
    clear hv p1 p2 p3 p4
    go_enter Try.func14, Try.ntmps14
    go_wp2_with fail
    rw [HW1.out]
    refine (HV.out w1).mono ?_
    rintro e w' ⟨rfl, rfl⟩
    go_wp2_with fail
    refine (HP.out w').mono ?_
    rintro e w' ⟨rfl, rfl⟩
    go_wp2_with fail
    refine (HC.out w').mono ?_
    rintro e w' ⟨rfl, rfl⟩
    go_wp2_with fail
    refine (HF.out w').mono ?_
    rintro e w2 ⟨rfl, hb2⟩
    have HT2 := Lib.hid (HT1.out.block (hb2.block _ HT1.out.lt))
    have HB2 := Lib.hid (HB1.out.trans (hb2.mono HB1.out.size))
    clear hb2
    obtain ⟨⟨r0, z0⟩, r1, z1⟩ := HT2.out
    have HVV := Lib.hid (And.intro ((HT2.out.set0 (.int .i64 U)).set1 (.int .i64 D)).1.1 ((HT2.out.set0 (.int .i64 U)).set1 (.int .i64 D)).2.1)
    go_wp2_with fail
    obtain ⟨v0, v1⟩ := HVV.out
    exact bodyPost_ret (v := .tuple #[.agg #[.int .i64 U, .int .i64 D], .bool true]) (by simp [results, Try.results14, go_sem, v0, v1]) rfl ⟨rfl, (HB2.out.setCell (p := ⟨w.heap.size, 0, none⟩) (Nat.le_refl _) _).setCell (p := ⟨w.heap.size, 1, none⟩) (Nat.le_refl _) _⟩
set_option maxRecDepth 100000 in
set_option maxHeartbeats 2000000 in
theorem oneByOne_any : ∀ (s g b m : Nat) (w : World), b + g ≤ 12 → s ≤ g + b → m ≤ 13 →
    Calls Try.prog 37 #[.int .i64 g, .int .i64 b, .int .i64 s, .int .i64 ((m : Int) - 1)] w fun e w' => e = .returned (.int .i64 (drw (g + b) b s m : Nat)) ∧ w' = w := by
  intro s
  induction s with
  | zero =>
    intro g b m w hgb hs hm
    have HD : Hid (drw (g + b) b 0 m = if m = 0 then 0 else 1) := Lib.hid (by
      unfold drw
      cases m with
      | zero => simp [psum]
      | succ m => rw [(psum_none (by omega) (by omega) m).1]; simp [fa])
    by_cases h0 : m = 0
    · subst h0
      rw [HD.out, if_pos rfl]
      have hd : ((0 : Nat) : Int) - 1 < 0 := by omega
      go_enter Try.func37, Try.ntmps37
      go_wp2
      go_ret
      exact ⟨rfl, rfl⟩
    · rw [HD.out, if_neg h0]
      have hd : ¬ (m : Int) - 1 < 0 := by omega
      go_enter Try.func37, Try.ntmps37
      go_wp2
      go_ret
      exact ⟨rfl, rfl⟩
  | succ s ih =>
    intro g b m w hgb hs hm
    have IH := Lib.hid ih
    clear ih
    have hs0 : (((s + 1 : Nat) : Int) == 0) = false := by simp; omega
    have hsw : (((s + 1 : Nat) : Int)) - 1 = (s : Int) := by omega
    have HSW := Lib.hid hsw
    clear hsw
    by_cases h0 : m = 0
    · subst h0
      have hr : drw (g + b) b (s + 1) 0 = 0 := by unfold drw; simp [psum]
      rw [hr]
      have hd : ((0 : Nat) : Int) - 1 < 0 := by omega
      go_enter Try.func37, Try.ntmps37
      go_wp2
      go_ret
      exact ⟨rfl, rfl⟩
    · obtain ⟨m, rfl⟩ : ∃ q, m = q + 1 := ⟨m - 1, by omega⟩
      have HST := Lib.hid (drw_step (m := m + 1) hgb (show s < g + b by omega) (by omega))
      have hd : ¬ ((m + 1 : Nat) : Int) - 1 < 0 := by omega
      have HM1 : Hid (((m + 1 : Nat) : Int) - 1 - 1 = (m : Int) - 1) := Lib.hid (by omega)
      have HBD := Lib.hid (show ∀ G B M, B + G ≤ 12 → s ≤ G + B → M ≤ 13 → drw (G + B) B s M ≤ 479001600 from fun G B M h1 h2 h3 => by
        unfold drw
        have a1 := psum_le (lot := G + B) (bad := B) (size := s) (m := M) (by omega) (by omega) h2 h3
        have a2 := fall_ch (G + B) (by omega) s (by omega)
        have a3 := fall_bd (G + B) (by omega) s (by omega)
        exact Nat.le_trans (Nat.mul_le_mul_right _ a1) (by rw [← a2.2.1]; exact a3))
      have h0m : ¬ ((m : Int) + 1) - 1 < 0 := by omega
      by_cases hg : g = 0
      · subst hg
        by_cases hb : b = 0
        · omega
        · obtain ⟨b, rfl⟩ : ∃ q, b = q + 1 := ⟨b - 1, by omega⟩
          have hbI : (0 : Int) < ((b + 1 : Nat) : Int) := by omega
          have HB1 : Hid (((b + 1 : Nat) : Int) - 1 = (b : Int)) := Lib.hid (by omega)
          have HCB := Lib.hid (IH.out 0 b m)
          have hbd := HBD.out 0 b m (by omega) (by omega) (by omega)
          have HST2 : Hid (drw (0 + (b + 1)) (b + 1) (s + 1) (m + 1) = (b + 1) * drw (0 + b) b s m) := Lib.hid (by rw [HST.out, Nat.zero_mul, Nat.zero_add]; rw [show 0 + (b + 1) - 1 = 0 + b by omega]; simp only [Nat.add_sub_cancel])
          rw [HST2.out]
          clear HST HST2 HBD
          obtain ⟨x, hx⟩ : ∃ x, drw (0 + b) b s m = x := ⟨_, rfl⟩
          rw [hx] at hbd ⊢
          have HXE := Lib.hid hx
          clear hx
          have hx1 : 0 ≤ ((b + 1 : Nat) : Int) * (x : Int) ∧ ((b + 1 : Nat) : Int) * (x : Int) ≤ 13 * 479001600 := ⟨Int.mul_nonneg (by omega) (by omega), Int.mul_le_mul (by omega) (by omega) (by omega) (by omega)⟩
          have HX1 : Hid ((((b + 1) * x : Nat) : Int) = (((b : Int) + 1) * (x : Int))) := Lib.hid (by push_cast; rfl)
          have hz1 : 0 ≤ (((b : Int) + 1) * (x : Int)) ∧ (((b : Int) + 1) * (x : Int)) ≤ 13 * 479001600 := by rw [← HX1.out]; push_cast at hx1 ⊢; exact hx1
          clear hx1
          rw [HX1.out]
          go_enter Try.func37, Try.ntmps37
          go_wp2_with fail
          refine (HCB.out w (by omega) (by omega) (by omega)).mono ?_
          rintro e w' ⟨rfl, rfl⟩
          rw [HXE.out]
          go_wp2
          go_ret
          exact ⟨by simp, rfl⟩
      · obtain ⟨g, rfl⟩ : ∃ q, g = q + 1 := ⟨g - 1, by omega⟩
        have hgI : (0 : Int) < ((g + 1 : Nat) : Int) := by omega
        have HG1 : Hid (((g + 1 : Nat) : Int) - 1 = (g : Int)) := Lib.hid (by omega)
        have HCG := Lib.hid (fun b w' => IH.out g b (m + 1) w')
        rw [show (((m + 1 : Nat) : Int) - 1) = (m : Int) by omega] at HCG
        by_cases hb : b = 0
        · subst hb
          have hbd := HBD.out g 0 (m + 1) (by omega) (by omega) (by omega)
          have HST2 : Hid (drw (g + 1 + 0) 0 (s + 1) (m + 1) = (g + 1) * drw (g + 0) 0 s (m + 1)) := Lib.hid (by rw [HST.out, Nat.zero_mul, Nat.add_zero]; rfl)
          rw [HST2.out]
          clear HST HST2 HBD
          obtain ⟨x, hx⟩ : ∃ x, drw (g + 0) 0 s (m + 1) = x := ⟨_, rfl⟩
          rw [hx] at hbd ⊢
          have HXE := Lib.hid hx
          clear hx
          have hx1 : 0 ≤ ((g + 1 : Nat) : Int) * (x : Int) ∧ ((g + 1 : Nat) : Int) * (x : Int) ≤ 13 * 479001600 := ⟨Int.mul_nonneg (by omega) (by omega), Int.mul_le_mul (by omega) (by omega) (by omega) (by omega)⟩
          have HX1 : Hid ((((g + 1) * x : Nat) : Int) = (((g : Int) + 1) * (x : Int))) := Lib.hid (by push_cast; rfl)
          have hz1 : 0 ≤ (((g : Int) + 1) * (x : Int)) ∧ (((g : Int) + 1) * (x : Int)) ≤ 13 * 479001600 := by rw [← HX1.out]; push_cast at hx1 ⊢; exact hx1
          clear hx1
          rw [HX1.out]
          go_enter Try.func37, Try.ntmps37
          go_wp2_with fail
          refine (HCG.out 0 w (by omega) (by omega) (by omega)).mono ?_
          rintro e w' ⟨rfl, rfl⟩
          rw [HXE.out]
          go_wp2
          go_ret
          exact ⟨by simp, rfl⟩
        · obtain ⟨b, rfl⟩ : ∃ q, b = q + 1 := ⟨b - 1, by omega⟩
          have hbI : (0 : Int) < ((b + 1 : Nat) : Int) := by omega
          have HB1 : Hid (((b + 1 : Nat) : Int) - 1 = (b : Int)) := Lib.hid (by omega)
          have HCB := Lib.hid (IH.out (g + 1) b m)
          have hbd := HBD.out g (b + 1) (m + 1) (by omega) (by omega) (by omega)
          have hbd2 := HBD.out (g + 1) b m (by omega) (by omega) (by omega)
          have HST2 : Hid (drw (g + 1 + (b + 1)) (b + 1) (s + 1) (m + 1) = (g + 1) * drw (g + (b + 1)) (b + 1) s (m + 1) + (b + 1) * drw (g + 1 + b) b s m) := Lib.hid (by rw [HST.out, show g + 1 + (b + 1) - 1 = g + (b + 1) by omega, show g + 1 + b = g + (b + 1) by omega]; rfl)
          rw [HST2.out]
          clear HST HST2 HBD
          obtain ⟨x, hx⟩ : ∃ x, drw (g + (b + 1)) (b + 1) s (m + 1) = x := ⟨_, rfl⟩
          obtain ⟨y, hy⟩ : ∃ y, drw (g + 1 + b) b s m = y := ⟨_, rfl⟩
          rw [hx] at hbd ⊢
          rw [hy] at hbd2 ⊢
          have HXE := Lib.hid hx
          have HYE := Lib.hid hy
          clear hx hy
          have hx1 : 0 ≤ ((g + 1 : Nat) : Int) * (x : Int) ∧ ((g + 1 : Nat) : Int) * (x : Int) ≤ 13 * 479001600 := ⟨Int.mul_nonneg (by omega) (by omega), Int.mul_le_mul (by omega) (by omega) (by omega) (by omega)⟩
          have HX1 : Hid ((((g + 1) * x : Nat) : Int) = (((g : Int) + 1) * (x : Int))) := Lib.hid (by push_cast; rfl)
          have hz1 : 0 ≤ (((g : Int) + 1) * (x : Int)) ∧ (((g : Int) + 1) * (x : Int)) ≤ 13 * 479001600 := by rw [← HX1.out]; push_cast at hx1 ⊢; exact hx1
          clear hx1
          have hx2 : 0 ≤ ((b + 1 : Nat) : Int) * (y : Int) ∧ ((b + 1 : Nat) : Int) * (y : Int) ≤ 13 * 479001600 := ⟨Int.mul_nonneg (by omega) (by omega), Int.mul_le_mul (by omega) (by omega) (by omega) (by omega)⟩
          have HX2 : Hid ((((b + 1) * y : Nat) : Int) = (((b : Int) + 1) * (y : Int))) := Lib.hid (by push_cast; rfl)
          have hz2 : 0 ≤ (((b : Int) + 1) * (y : Int)) ∧ (((b : Int) + 1) * (y : Int)) ≤ 13 * 479001600 := by rw [← HX2.out]; push_cast at hx2 ⊢; exact hx2
          clear hx2
          have HPL : Hid ((((g + 1) * x + (b + 1) * y : Nat) : Int) = (((g : Int) + 1) * (x : Int)) + (((b : Int) + 1) * (y : Int))) := Lib.hid (by push_cast; rfl)
          rw [HPL.out]
          go_enter Try.func37, Try.ntmps37
          go_wp2_with fail
          refine (HCG.out (b + 1) w (by omega) (by omega) (by omega)).mono ?_
          rintro e w' ⟨rfl, rfl⟩
          rw [HXE.out]
          go_wp2_with fail
          refine (HCB.out w' (by omega) (by omega) (by omega)).mono ?_
          rintro e w' ⟨rfl, rfl⟩
          rw [HYE.out]
          go_wp2
          go_ret
          exact ⟨by simp, rfl⟩
set_option maxRecDepth 100000 in
set_option maxHeartbeats 2000000 in
theorem passByDraws_spec (lot bad size most : Int) (w : World) :
    Calls Try.prog 18 #[.int .i64 lot, .int .i64 bad, .int .i64 size, .int .i64 most] w (FracBP w (passU lot bad size most) (passD lot bad size most) (planB lot bad size most)) := by
  have HV := Lib.hid (fun w' => validPlan_any lot bad size most w')
  have ht1 := two_new w (.int .i64 0) (.int .i64 0) 27
  have hb1 := (Below.refl w.heap.size w).alloc (Nat.le_refl _) (.cells #[.int .i64 0, .int .i64 0] 27)
  obtain ⟨w1, hw1⟩ : ∃ w1, (w.alloc (.cells #[.int .i64 0, .int .i64 0] 27)) = w1 := ⟨_, rfl⟩
  rw [hw1] at ht1 hb1
  have HW1 := Lib.hid hw1
  have HT1 := Lib.hid ht1
  have HB1 := Lib.hid hb1
  clear hw1 ht1 hb1
  cases hv : planB lot bad size most
  · obtain ⟨p1, p2, p3, p4⟩ := pass_no hv
    rw [p1, p2]
    clear p1 p2 p3 p4
    rw [hv] at HV
    clear hv
    go_enter Try.func18, Try.ntmps18
    go_wp2_with fail
    rw [HW1.out]
    refine (HV.out w1).mono ?_
    rintro e w' ⟨rfl, rfl⟩
    obtain ⟨⟨r0, z0⟩, r1, z1⟩ := HT1.out
    have HVV := Lib.hid (And.intro ((HT1.out.set0 (.int .i64 0)).set1 (.int .i64 0)).1.1 ((HT1.out.set0 (.int .i64 0)).set1 (.int .i64 0)).2.1)
    go_wp2_with fail
    obtain ⟨v0, v1⟩ := HVV.out
    exact bodyPost_ret (v := .tuple #[.agg #[.int .i64 0, .int .i64 0], .bool false]) (by simp [results, Try.results18, go_sem, v0, v1]) rfl ⟨rfl, (HB1.out.setCell (p := ⟨w.heap.size, 0, none⟩) (Nat.le_refl _) _).setCell (p := ⟨w.heap.size, 1, none⟩) (Nat.le_refl _) _⟩
  · obtain ⟨l, b, s, m, rfl, rfl, rfl, rfl, h1, h12, hbl, hsl, hm⟩ := plan_get hv
    obtain ⟨p1, p2, p3, p4⟩ := pass_yes hv
    rw [p1, p2]
    obtain ⟨c1, c2⟩ := ch_1 h12 hsl
    obtain ⟨d1, d2, d3, d4, d5⟩ := draws_eq hv
    rw [← p1, ← p2, ← d1, ← d2]
    have HP := Lib.hid (fun w' => oneByOne_any s (l - b) b (m + 1) w' (by omega) (by omega) (by omega))
    rw [show l - b + b = l by omega, show (((m + 1 : Nat) : Int) - 1) = (m : Int) by omega, show ((l - b : Nat) : Int) = (l : Int) - (b : Int) by omega] at HP
    have HFL := Lib.hid (show ∀ i, i ≤ s → fall l i ≤ 479001600 from fun i hi => fall_bd l (by omega) i (by omega))
    have HFS : Hid (∀ i, i < s → ((fall l (i + 1) : Nat) : Int) = (fall l i : Int) * ((l : Int) - (i : Int))) := Lib.hid (fun i hi => by rw [show fall l (i + 1) = fall l i * (l - i) from rfl, show ((l : Int) - (i : Int)) = ((l - i : Nat) : Int) by omega]; push_cast; rfl)
    obtain ⟨x, hx⟩ : ∃ x, drw l b s (m + 1) = x := ⟨_, rfl⟩
    rw [hx] at HP d3 ⊢
    have HF := Lib.hid (frac_any x (fall l s) (by omega) (by omega) (by omega))
    clear hx d1 d2
    obtain ⟨U, hU⟩ : ∃ U, fU x (fall l s) = U := ⟨_, rfl⟩
    obtain ⟨D, hD⟩ : ∃ D, fD x (fall l s) = D := ⟨_, rfl⟩
    rw [hU, hD] at HF ⊢
    clear hU hD
    rw [hv] at HV
    clear hv p1 p2 p3 p4
    go_enter Try.func18, Try.ntmps18
    go_wp2_with fail
    rw [HW1.out]
    refine (HV.out w1).mono ?_
    rintro e w' ⟨rfl, rfl⟩
    go_wp2_with fail
    go_loop [10, 11] (fun x y => ∃ j c : Nat, x = .int .i64 c ∧ y = .int .i64 (j : Int) ∧ j ≤ s ∧ c = fall l j) (fun _ y => s - (intOf y).toNat)
    case atStart => exact ⟨0, 1, rfl, rfl, by omega, rfl⟩
    case round =>
      obtain ⟨j, c, rfl, rfl, hj, hc⟩ := hrel
      have HCC := Lib.hid hc
      clear hc
      by_cases hjs : j < s
      · have hlt : (j : Int) < (s : Int) := by omega
        have hf1 := HFL.out (j + 1) (by omega)
        have hf2 := HFS.out j hjs
        rw [← HCC.out] at hf2
        obtain ⟨p, hp⟩ : ∃ p, fall l (j + 1) = p := ⟨_, rfl⟩
        rw [hp] at hf1 hf2
        have HPP := Lib.hid hp
        clear hp
        have hpb : 0 ≤ (c : Int) * ((l : Int) - (j : Int)) ∧ (c : Int) * ((l : Int) - (j : Int)) ≤ 479001600 := by rw [← hf2]; omega
        have HF2 := Lib.hid hf2
        clear hf2
        go_wp2
        go_round
        case rel => exact ⟨j + 1, p, by rw [HF2.out], by go_num, by omega, HPP.out.symm⟩
        case measure => simp [intOf]; omega
      · have hjq : j = s := by omega
        subst hjq
        have hlt : ¬ (j : Int) < (j : Int) := by omega
        go_wp2_with fail
        refine (HP.out w').mono ?_
        rintro e w' ⟨rfl, rfl⟩
        go_wp2_with fail
        rw [HCC.out]
        refine (HF.out w').mono ?_
        rintro e w2 ⟨rfl, hb2⟩
        have HT2 := Lib.hid (HT1.out.block (hb2.block _ HT1.out.lt))
        have HB2 := Lib.hid (HB1.out.trans (hb2.mono HB1.out.size))
        clear hb2
        obtain ⟨⟨r0, z0⟩, r1, z1⟩ := HT2.out
        have HVV := Lib.hid (And.intro ((HT2.out.set0 (.int .i64 U)).set1 (.int .i64 D)).1.1 ((HT2.out.set0 (.int .i64 U)).set1 (.int .i64 D)).2.1)
        go_wp2_with fail
        obtain ⟨v0, v1⟩ := HVV.out
        exact bodyPost_ret (v := .tuple #[.agg #[.int .i64 U, .int .i64 D], .bool true]) (by simp [results, Try.results18, go_sem, v0, v1]) rfl ⟨rfl, (HB2.out.setCell (p := ⟨w.heap.size, 0, none⟩) (Nat.le_refl _) _).setCell (p := ⟨w.heap.size, 1, none⟩) (Nat.le_refl _) _⟩
/-- the first size from s on for which the chance is small enough -/
def lsF (P : Nat → Bool) : Nat → Nat → Int
  | 0, _ => -1
  | f + 1, s => if P s then (s : Int) else lsF P f (s + 1)
def shareB (l b m u d s : Nat) : Bool := decide (psum l b s (m + 1) * d ≤ u * ch l s)
def leastS (lot bad most up down : Int) : Int :=
  if planB lot bad 0 most && (inB 0 40 up && inB 1 40 down) then lsF (shareB lot.toNat bad.toNat most.toNat up.toNat down.toNat) (lot.toNat + 1) 0 else -1
theorem lsF_least {P : Nat → Bool} : ∀ {f s : Nat} {r : Int}, lsF P f s = r → r = -1 ∨ ∃ q : Nat, r = (q : Int) ∧ s ≤ q ∧ q < s + f ∧ P q = true ∧ ∀ k, s ≤ k → k < q → P k = false := by
  intro f
  induction f with
  | zero => intro s r h; exact .inl h.symm
  | succ f ih =>
    intro s r h
    simp only [lsF] at h
    by_cases hp : P s = true
    · rw [if_pos hp] at h
      exact .inr ⟨s, h.symm, Nat.le_refl _, by omega, hp, fun k h1 h2 => by omega⟩
    · rw [if_neg hp] at h
      rcases ih h with e | ⟨q, h1, h2, h3, h4, h5⟩
      · exact .inl e
      · refine .inr ⟨q, h1, by omega, by omega, h4, fun k a1 a2 => ?_⟩
        by_cases hk : k = s
        · subst hk; simpa using hp
        · exact h5 k (by omega) a2
theorem leastS_no {lot bad most up down : Int} (h : planB lot bad 0 most = false ∨ inB 0 40 up = false ∨ inB 1 40 down = false) : leastS lot bad most up down = -1 := by
  unfold leastS
  rcases h with h | h | h <;> simp [h]
set_option maxRecDepth 100000 in
set_option maxHeartbeats 2000000 in
theorem leastSample_spec (lot bad most up down : Int) (w : World) :
    Calls Try.prog 9 #[.int .i64 lot, .int .i64 bad, .int .i64 most, .int .i64 up, .int .i64 down] w fun e w' => e = .returned (.int .i64 (leastS lot bad most up down)) ∧ w' = w := by
  have HV := Lib.hid (validPlan_any lot bad 0 most w)
  cases hv : planB lot bad 0 most
  · rw [leastS_no (.inl hv)]
    rw [hv] at HV
    clear hv
    go_enter Try.func9, Try.ntmps9
    go_wp2_with fail
    refine (HV.out).mono ?_
    rintro e w' ⟨rfl, rfl⟩
    go_wp2
    go_ret
    exact ⟨rfl, rfl⟩
  · rw [hv] at HV
    cases hu : inB 0 40 up
    · rw [leastS_no (.inr (.inl hu))]
      clear hv
      go_enter Try.func9, Try.ntmps9
      go_wp2_with fail
      refine (HV.out).mono ?_
      rintro e w' ⟨rfl, rfl⟩
      go_wp2_with fail
      refine (inR hu w').mono ?_
      rintro e w' ⟨rfl, rfl⟩
      clear hu
      go_wp2
      go_ret
      exact ⟨rfl, rfl⟩
    · cases hd : inB 1 40 down
      · rw [leastS_no (.inr (.inr hd))]
        clear hv
        go_enter Try.func9, Try.ntmps9
        go_wp2_with fail
        refine (HV.out).mono ?_
        rintro e w' ⟨rfl, rfl⟩
        go_wp2_with fail
        refine (inR hu w').mono ?_
        rintro e w' ⟨rfl, rfl⟩
        clear hu
        go_wp2_with fail
        refine (inR hd w').mono ?_
        rintro e w' ⟨rfl, rfl⟩
        clear hd
        go_wp2
        go_ret
        exact ⟨rfl, rfl⟩
      · have hle : leastS lot bad most up down = lsF (shareB lot.toNat bad.toNat most.toNat up.toNat down.toNat) (lot.toNat + 1) 0 := by unfold leastS; rw [hv, hu, hd]; rfl
        obtain ⟨l, b, s0, m, rfl, rfl, hs1, rfl, h1, h12, hbl, hs2, hm⟩ := plan_get hv
        have hub : 0 ≤ up ∧ up ≤ 40 := by simpa [inB] using hu
        have hdb : 1 ≤ down ∧ down ≤ 40 := by simpa [inB] using hd
        obtain ⟨u, rfl⟩ : ∃ u : Nat, up = (u : Int) := ⟨up.toNat, by omega⟩
        obtain ⟨d, rfl⟩ : ∃ d : Nat, down = (d : Int) := ⟨down.toNat, by omega⟩
        simp only [Int.toNat_natCast] at hle
        have HU := Lib.hid (inR hu)
        have HD := Lib.hid (inR hd)
        have HLE := Lib.hid hle
        have HP := Lib.hid (fun k (hk : k ≤ l) => passes_any l b k m h12 hbl hk hm)
        have HC := Lib.hid (fun k (hk : k ≤ l) => (show ∀ w', Calls Try.prog 31 #[.int .i64 l, .int .i64 (k : Int)] w' fun e w'' => e = .returned (.int .i64 (ch l k : Nat)) ∧ w'' = w' from fun w' => by have := choose_any l (k : Int) h12 w'; rwa [chI_nat h12 (by omega)] at this))
        have HB := Lib.hid (fun k (hk : k ≤ l) => And.intro (Nat.le_trans (psum_le (m := m + 1) h12 hbl hk (by omega)) (ch_1 h12 hk).2) (ch_1 h12 hk).2)
        clear hv hu hd hle hs1 hs2 s0
        go_enter Try.func9, Try.ntmps9
        go_wp2_with fail
        refine (HV.out).mono ?_
        rintro e w' ⟨rfl, rfl⟩
        go_wp2_with fail
        refine (HU.out w').mono ?_
        rintro e w' ⟨rfl, rfl⟩
        go_wp2_with fail
        refine (HD.out w').mono ?_
        rintro e w' ⟨rfl, rfl⟩
        go_wp2_with fail
        go_loop [11] (fun y => ∃ j : Nat, y = .int .i64 (j : Int) ∧ j ≤ l + 1 ∧ lsF (shareB l b m u d) (l + 1 - j) j = leastS l b m u d) (fun y => l + 1 - (intOf y).toNat)
        case atStart => exact ⟨0, rfl, by omega, HLE.out.symm⟩
        case round =>
          obtain ⟨j, rfl, hj, hr⟩ := hrel
          have HR := Lib.hid hr
          clear hr
          by_cases hjl : j ≤ l
          · have hle : (j : Int) ≤ (l : Int) := by omega
            obtain ⟨b1, b2⟩ := HB.out j hjl
            have HPJ := Lib.hid (HP.out j hjl w')
            have HCJ := Lib.hid (HC.out j hjl w')
            have HSH : Hid (shareB l b m u d j = decide ((psum l b j (m + 1) : Int) * (d : Int) ≤ (u : Int) * (ch l j : Int))) := Lib.hid (by unfold shareB; refine decide_eq_decide.2 ⟨fun h => by exact_mod_cast h, fun h => by exact_mod_cast h⟩)
            have HSS : Hid (lsF (shareB l b m u d) (l + 1 - j) j = if shareB l b m u d j then (j : Int) else lsF (shareB l b m u d) (l + 1 - (j + 1)) (j + 1)) := Lib.hid (by rw [show l + 1 - j = (l + 1 - (j + 1)) + 1 by omega]; rfl)
            rw [HR.out, HSH.out] at HSS
            obtain ⟨x, hx⟩ : ∃ x, psum l b j (m + 1) = x := ⟨_, rfl⟩
            obtain ⟨y, hy⟩ : ∃ y, ch l j = y := ⟨_, rfl⟩
            rw [hx] at HPJ b1 HSS
            rw [hy] at HCJ b2 HSS
            clear hx hy HSH
            have q1 : 0 ≤ (x : Int) * (d : Int) ∧ (x : Int) * (d : Int) ≤ 924 * 40 := ⟨Int.mul_nonneg (by omega) (by omega), Int.mul_le_mul (by omega) (by omega) (by omega) (by omega)⟩
            have q2 : 0 ≤ (u : Int) * (y : Int) ∧ (u : Int) * (y : Int) ≤ 40 * 924 := ⟨Int.mul_nonneg (by omega) (by omega), Int.mul_le_mul (by omega) (by omega) (by omega) (by omega)⟩
            by_cases hxy : (x : Int) * (d : Int) ≤ (u : Int) * (y : Int)
            · rw [decide_eq_true hxy, if_pos rfl] at HSS
              go_wp2_with fail
              refine (HPJ.out).mono ?_
              rintro e w' ⟨rfl, rfl⟩
              go_wp2_with fail
              refine (HCJ.out).mono ?_
              rintro e w' ⟨rfl, rfl⟩
              go_wp2
              go_ret
              exact ⟨ret_int HSS.out.symm, rfl⟩
            · rw [decide_eq_false hxy, if_neg (by decide)] at HSS
              go_wp2_with fail
              refine (HPJ.out).mono ?_
              rintro e w' ⟨rfl, rfl⟩
              go_wp2_with fail
              refine (HCJ.out).mono ?_
              rintro e w' ⟨rfl, rfl⟩
              go_wp2
              go_round
              case rel => exact ⟨j + 1, by go_num, by omega, HSS.out.symm⟩
              case measure => simp [intOf]; omega
          · have hjq : j = l + 1 := by omega
            subst hjq
            have hle : ¬ ((l : Int) + 1) ≤ (l : Int) := by omega
            have HSS : Hid (leastS l b m u d = -1) := Lib.hid (by rw [← HR.out, Nat.sub_self]; rfl)
            go_wp2
            go_ret
            exact ⟨ret_int HSS.out.symm, rfl⟩
end Go.Proofs.Ytkebdelfklmigac
namespace Go.Proofs.Ytkebdelfklmigac
open Go.RowKit

theorem small8 {len : Nat} {xs : List Int} (hl : xs.length = len) (h : ¬ len ≤ 8) (b : Bool) : (decide (xs.length ≤ 8) && b) = false := by
  rw [decide_eq_false (by omega)]; rfl
theorem small8' {len : Nat} {xs : List Int} (hl : xs.length = len) (h : len ≤ 8) (b : Bool) : (decide (xs.length ≤ 8) && b) = b := by
  rw [decide_eq_true (by omega)]; rfl
def wantsM (n : Int) (xs : List Int) : Bool := allIn 0 20 xs && decide ((xs.length : Int) = n)
theorem wantsM_false {n : Int} {xs : List Int} {k : Nat} {x : Int} (h : xs[k]? = some x) (hx : inB 0 20 x = false) : wantsM n xs = false := by rw [wantsM, allIn_false h hx]; rfl
theorem wantsM_of {n : Int} {len : Nat} {xs : List Int} (hl : xs.length = len) (ha : allIn 0 20 (xs.take len) = true) : wantsM n xs = ((len : Int) == n) := by
  rw [List.take_of_length_le (by omega)] at ha
  rw [wantsM, ha, hl]; simp; rfl
theorem wantsM_len (xs : List Int) : wantsM xs.length xs = allIn 0 20 xs := by simp [wantsM]
end Go.Proofs.Ytkebdelfklmigac
namespace Go.Proofs.Ytkebdelfklmigac
open Go.RowKit Go.WideShapes

theorem Try.infoIntN : (Try.prog.info? 3).map (fun i => (i.zero, i.size, i.bytes)) = some (some (.int .i64 0), 1, 8) := by kernel_rfl

/-- what NetOf answers -/
def netRes (xs : List Int) (s : Int) : List Int := if (validDaysM xs && inB 0 20 s) = true then netM xs s else []
theorem netRes_len (xs : List Int) (s : Int) : (netRes xs s).length ≤ 1048576 := by
  unfold netRes
  split
  · rename_i h; simp only [Bool.and_eq_true] at h; have := validDays_len h.1; rw [netM_length]; omega
  · simp
theorem netRes_no {xs : List Int} {s : Int} (h : (validDaysM xs && inB 0 20 s) = false) : netRes xs s = [] := by unfold netRes; rw [h]; rfl
theorem netRes_yes {xs : List Int} {s : Int} (h : (validDaysM xs && inB 0 20 s) = true) : netRes xs s = netM xs s := by unfold netRes; rw [h]; rfl
theorem inB_of {lo hi x : Int} (h : inB lo hi x = true) : lo ≤ x ∧ x ≤ hi := by simpa [inB] using h

end Go.Proofs.Ytkebdelfklmigac
