import Derived.Test.YtkebdelfklmigabRows
import Derived.WalkKit
import Derived.ProofKit
import Derived.Lib.Hide
import Derived.Test.YtkebdelfklmigabM0
import Derived.Test.YtkebdelfklmigabM5
import Derived.Test.YtkebdelfklmigabM6
import Derived.Test.YtkebdelfklmigabM7
import Derived.LoopTactic
import Derived.Outline
import Derived.WalkSpells
import Derived.WalkLawsBesides
import Derived.IntWalk
import Derived.Deep.QuietTactic
import Derived.BigQuiet
import Derived.Deep.RegionHeld3
import Derived.Test.YtkebdelfklmigabM10
namespace Go.Proofs.Ytkebdelfklmigab
open Go.RowKit

-- what chapter 9's laws ask (plain)
theorem chI_pas {m : Nat} {k : Int} (hm : m + 1 ≤ 12) : chI (m + 1) k = chI m (k - 1) + chI m k := by
  by_cases h0 : k < 0
  · rw [chI_neg h0, chI_neg (k := k - 1) (by omega), chI_neg h0]
  · obtain ⟨q, rfl⟩ : ∃ q : Nat, k = (q : Int) := ⟨k.toNat, by omega⟩
    by_cases hq : q ≤ 12
    · rw [chI_nat hm hq, chI_nat (by omega) hq]
      cases q with
      | zero => rw [chI_neg (k := ((0 : Nat) : Int) - 1) (by omega), ch_zero _ (by omega), ch_zero _ (by omega)]
      | succ q => rw [show ((q + 1 : Nat) : Int) - 1 = (q : Int) by omega, chI_nat (by omega) (by omega), ch_pas m (by omega) q (by omega)]
    · unfold chI
      rw [if_neg (by omega), if_neg (by omega), if_neg (by omega)]
theorem chI_sym {n : Nat} {k : Int} (hn : n ≤ 12) : chI n ((n : Int) - k) = chI n k := by
  unfold chI
  by_cases h : 0 ≤ k ∧ k ≤ n
  · rw [if_pos h, if_pos (by omega), show ((n : Int) - k).toNat = n - k.toNat by omega, ch_sym n (by omega) _ (by omega)]
  · rw [if_neg h, if_neg (by omega)]
theorem chI_none {k : Int} : chI 0 k = if k = 0 then 1 else 0 := by
  unfold chI
  by_cases h : k = 0
  · subst h; decide
  · rw [if_neg h, if_neg (by omega)]
theorem pass_bd {x0 x1 x2 x3 : Int} : passU x0 x1 x2 x3 ≤ 924 ∧ passD x0 x1 x2 x3 ≤ 924 ∧ badU x0 x1 x2 x3 ≤ 11088 ∧ badD x0 x1 x2 x3 ≤ 924 := by
  cases h : planB x0 x1 x2 x3
  · obtain ⟨a, b, c, d⟩ := pass_no h
    rw [a, b, c, d]; omega
  · obtain ⟨l, b, s, m, rfl, rfl, rfl, rfl, h1, h12, hb, hs, hm⟩ := plan_get h
    obtain ⟨a, b', c, d⟩ := pass_yes h
    obtain ⟨c1, c2⟩ := ch_1 h12 hs
    have p := psum_le (m := m + 1) h12 hb hs (by omega)
    have q := bsum_le (lot := l) (bad := b) (size := s) (m + 1)
    have q2 : b * psum l b s (m + 1) ≤ 12 * 924 := Nat.mul_le_mul (by omega) (by omega)
    obtain ⟨f1, f2, _⟩ := f_bd (T := psum l b s (m + 1)) c1
    obtain ⟨f3, f4, _⟩ := f_bd (T := bsum l b s (m + 1)) c1
    rw [a, b', c, d]
    omega
theorem not_less {T C T' C' : Nat} (hC : 1 ≤ C) (hC' : 1 ≤ C') (h : T * C' ≤ T' * C) : ¬ ((fU T' C' : Int) * (fD T C : Int) < (fU T C : Int) * (fD T' C' : Int)) := by
  have := (f_le hC hC').2 h
  have h2 : (fU T C : Int) * (fD T' C' : Int) ≤ (fU T' C' : Int) * (fD T C : Int) := by exact_mod_cast this
  omega
theorem pass_worse {l b s m : Nat} (h : planB l b s m = true) (h' : planB l ((b : Int) + 1) s m = true) : ¬ ((passU l b s m : Int) * (passD l ((b : Int) + 1) s m : Int) < (passU l ((b : Int) + 1) s m : Int) * (passD l b s m : Int)) := by
  have e : (b : Int) + 1 = ((b + 1 : Nat) : Int) := by omega
  rw [e] at h' ⊢
  obtain ⟨a1, a2, _⟩ := pass_yes h
  obtain ⟨b1, b2, _⟩ := pass_yes h'
  obtain ⟨h1, h12, hb, hs, hm⟩ := plan_nat h'
  rw [a1, a2, b1, b2]
  exact not_less (ch_1 h12 hs).1 (ch_1 h12 hs).1 (Nat.mul_le_mul_right _ (psum_worse l (by omega) b (by omega) s (by omega) (m + 1) (by have := plan_nat h; omega)))
theorem pass_loose {l b s m : Nat} (h : planB l b s m = true) (h' : planB l b s ((m : Int) + 1) = true) : ¬ ((passU l b s ((m : Int) + 1) : Int) * (passD l b s m : Int) < (passU l b s m : Int) * (passD l b s ((m : Int) + 1) : Int)) := by
  have e : (m : Int) + 1 = ((m + 1 : Nat) : Int) := by omega
  rw [e] at h' ⊢
  obtain ⟨a1, a2, _⟩ := pass_yes h
  obtain ⟨b1, b2, _⟩ := pass_yes h'
  obtain ⟨h1, h12, hb, hs, hm⟩ := plan_nat h'
  rw [a1, a2, b1, b2]
  exact not_less (ch_1 h12 hs).1 (ch_1 h12 hs).1 (Nat.mul_le_mul_right _ (by rw [show m + 1 + 1 = (m + 1) + 1 from rfl]; exact psum_mono (d := 1)))
theorem pass_1 {l b s m : Nat} (h : planB l b s m = true) : ¬ ((1 : Int) * (passD l b s m : Int) < (passU l b s m : Int) * 1) := by
  obtain ⟨a1, a2, _⟩ := pass_yes h
  obtain ⟨h1, h12, hb, hs, hm⟩ := plan_nat h
  have c1 := (ch_1 h12 hs).1
  rw [a1, a2]
  have := not_less c1 c1 (T := psum l b s (m + 1)) (T' := ch l s) (Nat.mul_le_mul_right _ (psum_le h12 hb hs (by omega)))
  obtain ⟨o1, o2⟩ := f_one c1
  rw [o1, o2] at this
  exact this
theorem plan_none {l b s m : Nat} (h : planB l b s m = true) : planB l b 0 m = true := by
  obtain ⟨h1, h12, hb, hs, hm⟩ := plan_nat h
  simp only [planB, inB, Bool.and_eq_true, decide_eq_true_eq]
  omega
theorem pass_none {l b s m : Nat} (h : planB l b s m = true) : passU l b 0 m = 1 ∧ passD l b 0 m = 1 ∧ badU l b 0 m = b ∧ badD l b 0 m = 1 := by
  obtain ⟨h1, h12, hb, hs, hm⟩ := plan_nat h
  obtain ⟨a1, a2, a3, a4⟩ := pass_yes (s := 0) (plan_none h)
  obtain ⟨p1, p2⟩ := psum_none h12 hb m
  simp only [Int.natCast_zero] at a1 a2 a3 a4
  rw [a1, a2, a3, a4, p1, p2, ch_zero l (by omega)]
  exact ⟨f_int.1, f_int.2, f_int.1, f_int.2⟩
theorem pass_all {l b s m : Nat} (h : planB l b s m = true) (hm : b ≤ m) : passU l b s m = 1 ∧ passD l b s m = 1 := by
  obtain ⟨h1, h12, hb, hs, hm2⟩ := plan_nat h
  obtain ⟨a1, a2, _⟩ := pass_yes h
  rw [a1, a2, psum_over h12 hb hs hm2 hm]
  exact f_one (ch_1 h12 hs).1
theorem bad_le {l b s m : Nat} (h : planB l b s m = true) : ¬ (((b : Int) * (passU l b s m : Int)) * (badD l b s m : Int) < (badU l b s m : Int) * (passD l b s m : Int)) := by
  obtain ⟨h1, h12, hb, hs, hm⟩ := plan_nat h
  obtain ⟨a1, a2, a3, a4⟩ := pass_yes h
  rw [a1, a2, a3, a4]
  have c1 := (ch_1 h12 hs).1
  obtain ⟨g, hg, e1, e2⟩ := f_mul (T := psum l b s (m + 1)) c1
  obtain ⟨g', hg', e3, e4⟩ := f_mul (T := bsum l b s (m + 1)) c1
  have key : fU (bsum l b s (m + 1)) (ch l s) * fD (psum l b s (m + 1)) (ch l s) ≤ b * fU (psum l b s (m + 1)) (ch l s) * fD (bsum l b s (m + 1)) (ch l s) := by
    refine Nat.le_of_mul_le_mul_left ?_ (Nat.mul_pos hg hg')
    calc g * g' * (fU (bsum l b s (m + 1)) (ch l s) * fD (psum l b s (m + 1)) (ch l s)) = (g' * fU (bsum l b s (m + 1)) (ch l s)) * (g * fD (psum l b s (m + 1)) (ch l s)) := by ac_rfl
      _ = bsum l b s (m + 1) * ch l s := by rw [e3, e2]
      _ ≤ (b * psum l b s (m + 1)) * ch l s := Nat.mul_le_mul_right _ (bsum_le (m + 1))
      _ = b * (g * fU (psum l b s (m + 1)) (ch l s)) * (g' * fD (bsum l b s (m + 1)) (ch l s)) := by rw [e1, e4]
      _ = g * g' * (b * fU (psum l b s (m + 1)) (ch l s) * fD (bsum l b s (m + 1)) (ch l s)) := by ac_rfl
  have h2 : (fU (bsum l b s (m + 1)) (ch l s) : Int) * (fD (psum l b s (m + 1)) (ch l s) : Int) ≤ (b : Int) * (fU (psum l b s (m + 1)) (ch l s) : Int) * (fD (bsum l b s (m + 1)) (ch l s) : Int) := by exact_mod_cast key
  omega
theorem pass_turn {l b s m : Nat} (h : planB l b s m = true) : planB l s b m = true ∧ passU l s b m = passU l b s m ∧ passD l s b m = passD l b s m := by
  obtain ⟨h1, h12, hb, hs, hm⟩ := plan_nat h
  have h' : planB l s b m = true := by
    simp only [planB, inB, Bool.and_eq_true, decide_eq_true_eq]
    omega
  obtain ⟨a1, a2, _⟩ := pass_yes h
  obtain ⟨b1, b2, _⟩ := pass_yes h'
  rw [a1, a2, b1, b2]
  have := psum_turn h12 hb hs (m + 1) (by omega)
  obtain ⟨x, y⟩ := f_eq (T := psum l s b (m + 1)) (T' := psum l b s (m + 1)) (ch_1 h12 hb).1 (ch_1 h12 hs).1 this.symm
  exact ⟨h', x, y⟩
theorem least_get {x0 x1 x2 x3 x4 : Int} (h : 0 ≤ leastS x0 x1 x2 x3 x4) : ∃ l b m u d q : Nat, x0 = l ∧ x1 = b ∧ x2 = m ∧ x3 = u ∧ x4 = d ∧ leastS x0 x1 x2 x3 x4 = q ∧ planB l b q m = true ∧ u ≤ 40 ∧ 1 ≤ d ∧ d ≤ 40 ∧
    ¬ ((fU u d : Int) * (passD l b q m : Int) < (passU l b q m : Int) * (fD u d : Int)) ∧ (1 ≤ q → planB l b ((q : Int) - 1) m = true ∧ (fU u d : Int) * (passD l b ((q : Int) - 1) m : Int) < (passU l b ((q : Int) - 1) m : Int) * (fD u d : Int)) := by
  unfold leastS at h ⊢
  by_cases hv : (planB x0 x1 0 x2 && (inB 0 40 x3 && inB 1 40 x4)) = true
  · rw [if_pos hv] at h ⊢
    simp only [Bool.and_eq_true] at hv
    obtain ⟨hp, hu, hd⟩ := hv
    obtain ⟨l, b, s0, m, rfl, rfl, hs0, rfl, h1, h12, hb, _, hm⟩ := plan_get hp
    obtain ⟨hu1, hu2⟩ : 0 ≤ x3 ∧ x3 ≤ 40 := by simpa [inB] using hu
    obtain ⟨hd1, hd2⟩ : 1 ≤ x4 ∧ x4 ≤ 40 := by simpa [inB] using hd
    obtain ⟨u, rfl⟩ : ∃ u : Nat, x3 = (u : Int) := ⟨x3.toNat, by omega⟩
    obtain ⟨d, rfl⟩ : ∃ d : Nat, x4 = (d : Int) := ⟨x4.toNat, by omega⟩
    simp only [Int.toNat_natCast] at h ⊢
    rcases lsF_least (P := shareB l b m u d) (f := l + 1) (s := 0) rfl with e | ⟨q, e, _, hq, hP, hN⟩
    · rw [e] at h; omega
    · have hpl : ∀ k : Nat, k ≤ l → planB l b k m = true := fun k hk => by
        simp only [planB, inB, Bool.and_eq_true, decide_eq_true_eq]
        omega
      refine ⟨l, b, m, u, d, q, rfl, rfl, rfl, rfl, rfl, e, hpl q (by omega), by omega, by omega, by omega, ?_, fun hq1 => ?_⟩
      · obtain ⟨a1, a2, _⟩ := pass_yes (hpl q (by omega))
        rw [a1, a2]
        exact not_less (ch_1 h12 (by omega)).1 (by omega) (of_decide_eq_true hP)
      · have ek : (q : Int) - 1 = ((q - 1 : Nat) : Int) := by omega
        rw [ek]
        refine ⟨hpl (q - 1) (by omega), ?_⟩
        obtain ⟨a1, a2, _⟩ := pass_yes (hpl (q - 1) (by omega))
        rw [a1, a2]
        have hn := of_decide_eq_false (hN (q - 1) (by omega) (by omega))
        have := (not_congr (f_le (T := psum l b (q - 1) (m + 1)) (C := ch l (q - 1)) (T' := u) (C' := d) (ch_1 h12 (by omega)).1 (by omega))).2 hn
        have h3 : (fU u d : Int) * (fD (psum l b (q - 1) (m + 1)) (ch l (q - 1)) : Int) < (fU (psum l b (q - 1) (m + 1)) (ch l (q - 1)) : Int) * (fD u d : Int) := by
          have h4 := Nat.lt_of_not_le this
          exact_mod_cast h4
        exact h3
  · rw [if_neg hv] at h; omega
theorem least_none {l b m u d : Nat} (h : planB l b 0 m = true) : planB l b (-1) m = false := by
  simp [planB, inB]
theorem msum_le {l b s : Nat} : ∀ m, m ≤ 13 → msum l b s m ≤ 12 * psum l b s m := by
  intro m
  induction m with
  | zero => intro _; simp [msum, psum]
  | succ m ih =>
    intro h
    simp only [msum, psum, Nat.mul_add]
    have a := ih (by omega)
    have b' : m * trm l b s m ≤ 12 * trm l b s m := Nat.mul_le_mul_right _ (by omega)
    omega
end Go.Proofs.Ytkebdelfklmigab
namespace Go.Proofs.Ytkebdelfklmigab
open Go.RowKit Go.WideShapes

set_option maxRecDepth 100000 in
set_option maxHeartbeats 1000000 in
theorem times_any (U D : Nat) (n : Nat) (hU : U ≤ 924) (hD : 1 ≤ D ∧ D ≤ 924) (hn : n ≤ 12) (w : World) :
    Calls Try.prog 33 #[.agg #[.int .i64 U, .int .i64 D], .int .i64 n] w (FracP w (fU (U * n) D) (fD (U * n) D)) := by
  have hm : U * n ≤ 924 * 12 := Nat.mul_le_mul hU hn
  have HF := Lib.hid (ifrac_any (U * n) D (by omega) (by omega) (by omega))
  have HUN : Hid (((U * n : Nat) : Int) = (U : Int) * (n : Int)) := Lib.hid (by push_cast; rfl)
  have hb := HUN.out
  rw [HUN.out] at HF
  obtain ⟨x, hx⟩ : ∃ x, U * n = x := ⟨_, rfl⟩
  have hxb : 0 ≤ (U : Int) * (n : Int) ∧ (U : Int) * (n : Int) ≤ 11088 := by rw [← hb]; omega
  clear hb hm
  unfold FracP at HF ⊢
  obtain ⟨V, hV⟩ : ∃ V, fU (U * n) D = V := ⟨_, rfl⟩
  obtain ⟨E, hE⟩ : ∃ E, fD (U * n) D = E := ⟨_, rfl⟩
  rw [hV, hE] at HF ⊢
  clear hV hE hx HUN
  obtain ⟨p, hp⟩ : ∃ p, (U : Int) * (n : Int) = p := ⟨_, rfl⟩
  rw [hp] at HF hxb
  have hA1 := two_new w (.int .i64 U) (.int .i64 D) 26
  have hb1 := below_alloc w (.cells #[.int .i64 (U : Int), .int .i64 (D : Int)] 26)
  have hz1 : (w.alloc (.cells #[.int .i64 (U : Int), .int .i64 (D : Int)] 26)).heap.size = w.heap.size + 1 := by simp
  obtain ⟨w1, hw1⟩ : ∃ w1, (w.alloc (.cells #[.int .i64 (U : Int), .int .i64 (D : Int)] 26)) = w1 := ⟨_, rfl⟩
  rw [hw1] at hA1 hb1 hz1
  have hZ2 := two_new w1 (.int .i64 0) (.int .i64 0) 26
  have hA2 := hA1.lift (below_alloc w1 (.cells #[.int .i64 0, .int .i64 0] 26))
  have hb2 := hb1.alloc (by omega) (.cells #[.int .i64 0, .int .i64 0] 26)
  obtain ⟨w2, hw2⟩ : ∃ w2, (w1.alloc (.cells #[.int .i64 0, .int .i64 0] 26)) = w2 := ⟨_, rfl⟩
  rw [hw2] at hZ2 hA2 hb2
  rw [hz1] at hZ2
  have HW1 := Lib.hid hw1
  have HW2 := Lib.hid hw2
  have HA := Lib.hid hA2
  have HZ := Lib.hid hZ2
  have HB := Lib.hid hb2
  clear hw1 hw2 hA1 hA2 hZ2 hb1 hb2 hz1
  go_enter Try.func33, Try.ntmps33
  go_wp2_with fail
  rw [HW1.out, HW2.out]
  have a0 := HA.out.1.1
  have a1 := HA.out.2.1
  go_wp2_with fail
  refine (HF.out w2).mono ?_
  rintro e w4 ⟨rfl, hb4⟩
  clear a0 a1
  have HZ4 := Lib.hid (HZ.out.lift hb4)
  have HBB := Lib.hid (HB.out.trans (hb4.mono HB.out.size))
  clear hb4
  obtain ⟨⟨z0, z1⟩, z2, z3⟩ := HZ4.out
  have HVV := Lib.hid (And.intro ((HZ4.out.set0 (.int .i64 V)).set1 (.int .i64 E)).1.1 ((HZ4.out.set0 (.int .i64 V)).set1 (.int .i64 E)).2.1)
  go_wp2_with fail
  obtain ⟨v0, v1⟩ := HVV.out
  exact bodyPost_ret (v := .agg #[.int .i64 V, .int .i64 E]) (by simp [results, Try.results33, go_sem, v0, v1]) rfl ⟨rfl, (HBB.out.setCell (p := ⟨w.heap.size + 1, 0, none⟩) (Nat.le_add_right _ _) _).setCell (p := ⟨w.heap.size + 1, 1, none⟩) (Nat.le_add_right _ _) _⟩
set_option maxRecDepth 100000 in
set_option maxHeartbeats 2000000 in
theorem plus_any (U D U' D' : Nat) (hU : U ≤ 11088) (hD : 1 ≤ D ∧ D ≤ 924) (hU' : U' ≤ 11088) (hD' : 1 ≤ D' ∧ D' ≤ 924) (w : World) :
    Calls Try.prog 31 #[.agg #[.int .i64 U, .int .i64 D], .agg #[.int .i64 U', .int .i64 D']] w (FracP w (fU (U * D' + U' * D) (D * D')) (fD (U * D' + U' * D) (D * D'))) := by
  have m1 : U * D' ≤ 11088 * 924 := Nat.mul_le_mul hU hD'.2
  have m2 : U' * D ≤ 11088 * 924 := Nat.mul_le_mul hU' hD.2
  have m3 : D * D' ≤ 924 * 924 := Nat.mul_le_mul hD.2 hD'.2
  have m4 : 1 ≤ D * D' := Nat.mul_pos hD.1 hD'.1
  have HF := Lib.hid (ifrac_any (U * D' + U' * D) (D * D') (by omega) (by omega) (by omega))
  have e1 : ((U * D' + U' * D : Nat) : Int) = (U : Int) * (D' : Int) + (U' : Int) * (D : Int) := by push_cast; rfl
  have e2 : ((D * D' : Nat) : Int) = (D : Int) * (D' : Int) := by push_cast; rfl
  have e3 : ((U * D' : Nat) : Int) = (U : Int) * (D' : Int) := by push_cast; rfl
  have e4 : ((U' * D : Nat) : Int) = (U' : Int) * (D : Int) := by push_cast; rfl
  rw [e1, e2] at HF
  have n1 : 0 ≤ (U : Int) * (D' : Int) ∧ (U : Int) * (D' : Int) ≤ 11088 * 924 := by rw [← e3]; omega
  have n2 : 0 ≤ (U' : Int) * (D : Int) ∧ (U' : Int) * (D : Int) ≤ 11088 * 924 := by rw [← e4]; omega
  have n3 : 0 ≤ (D : Int) * (D' : Int) ∧ (D : Int) * (D' : Int) ≤ 924 * 924 := by rw [← e2]; omega
  clear e1 e2 e3 e4 m1 m2 m3 m4
  unfold FracP at HF ⊢
  obtain ⟨V, hV⟩ : ∃ V, fU (U * D' + U' * D) (D * D') = V := ⟨_, rfl⟩
  obtain ⟨E, hE⟩ : ∃ E, fD (U * D' + U' * D) (D * D') = E := ⟨_, rfl⟩
  rw [hV, hE] at HF ⊢
  clear hV hE
  obtain ⟨p, hp⟩ : ∃ p, (U : Int) * (D' : Int) = p := ⟨_, rfl⟩
  obtain ⟨q, hq⟩ : ∃ q, (U' : Int) * (D : Int) = q := ⟨_, rfl⟩
  obtain ⟨r, hr⟩ : ∃ r, (D : Int) * (D' : Int) = r := ⟨_, rfl⟩
  rw [hp, hq, hr] at HF
  rw [hp] at n1
  rw [hq] at n2
  rw [hr] at n3
  have hA1 := two_new w (.int .i64 U) (.int .i64 D) 26
  have hb1 := below_alloc w (.cells #[.int .i64 (U : Int), .int .i64 (D : Int)] 26)
  have hz1 : (w.alloc (.cells #[.int .i64 (U : Int), .int .i64 (D : Int)] 26)).heap.size = w.heap.size + 1 := by simp
  obtain ⟨w1, hw1⟩ : ∃ w1, (w.alloc (.cells #[.int .i64 (U : Int), .int .i64 (D : Int)] 26)) = w1 := ⟨_, rfl⟩
  rw [hw1] at hA1 hb1 hz1
  have hB2 := two_new w1 (.int .i64 U') (.int .i64 D') 26
  have hA2 := hA1.lift (below_alloc w1 (.cells #[.int .i64 (U' : Int), .int .i64 (D' : Int)] 26))
  have hb2 := hb1.alloc (by omega) (.cells #[.int .i64 (U' : Int), .int .i64 (D' : Int)] 26)
  have hz2 : (w1.alloc (.cells #[.int .i64 (U' : Int), .int .i64 (D' : Int)] 26)).heap.size = w.heap.size + 2 := by simp; omega
  obtain ⟨w2, hw2⟩ : ∃ w2, (w1.alloc (.cells #[.int .i64 (U' : Int), .int .i64 (D' : Int)] 26)) = w2 := ⟨_, rfl⟩
  rw [hw2] at hB2 hA2 hb2 hz2
  have hZ3 := two_new w2 (.int .i64 0) (.int .i64 0) 26
  have hA3 := hA2.lift (below_alloc w2 (.cells #[.int .i64 0, .int .i64 0] 26))
  have hB3 := hB2.lift (below_alloc w2 (.cells #[.int .i64 0, .int .i64 0] 26))
  have hb3 := hb2.alloc (by omega) (.cells #[.int .i64 0, .int .i64 0] 26)
  obtain ⟨w3, hw3⟩ : ∃ w3, (w2.alloc (.cells #[.int .i64 0, .int .i64 0] 26)) = w3 := ⟨_, rfl⟩
  rw [hw3] at hZ3 hA3 hB3 hb3
  rw [hz1] at hB3
  rw [hz2] at hZ3
  have HW1 := Lib.hid hw1
  have HW2 := Lib.hid hw2
  have HW3 := Lib.hid hw3
  have HA := Lib.hid hA3
  have HB := Lib.hid hB3
  have HZ := Lib.hid hZ3
  have HBW := Lib.hid hb3
  clear hw1 hw2 hw3 hA1 hA2 hA3 hB2 hB3 hZ3 hb1 hb2 hb3 hz1 hz2
  go_enter Try.func31, Try.ntmps31
  go_wp2_with fail
  rw [HW1.out, HW2.out, HW3.out]
  have a0 := HA.out.1.1
  have a1 := HA.out.2.1
  have b0 := HB.out.1.1
  have b1 := HB.out.2.1
  go_wp2_with fail
  refine (HF.out w3).mono ?_
  rintro e w4 ⟨rfl, hb4⟩
  clear a0 a1 b0 b1
  have HZ4 := Lib.hid (HZ.out.lift hb4)
  have HBB := Lib.hid (HBW.out.trans (hb4.mono HBW.out.size))
  clear hb4
  obtain ⟨⟨z0, z1⟩, z2, z3⟩ := HZ4.out
  have HVV := Lib.hid (And.intro ((HZ4.out.set0 (.int .i64 V)).set1 (.int .i64 E)).1.1 ((HZ4.out.set0 (.int .i64 V)).set1 (.int .i64 E)).2.1)
  go_wp2_with fail
  obtain ⟨v0, v1⟩ := HVV.out
  exact bodyPost_ret (v := .agg #[.int .i64 V, .int .i64 E]) (by simp [results, Try.results31, go_sem, v0, v1]) rfl ⟨rfl, (HBB.out.setCell (p := ⟨w.heap.size + 2, 0, none⟩) (Nat.le_add_right _ _) _).setCell (p := ⟨w.heap.size + 2, 1, none⟩) (Nat.le_add_right _ _) _⟩
set_option maxRecDepth 100000 in
set_option maxHeartbeats 4000000 in
theorem chanceOf_any (l b s k : Nat) (m : Int) (h12 : l ≤ 12) (hb : b ≤ l) (hs : s ≤ l) (hk : k ≤ 12) (w : World) :
    Calls Try.prog 32 #[.agg #[.int .i64 l, .int .i64 b, .int .i64 s, .int .i64 m], .int .i64 k] w (FracP w (fU (trm l b s k) (ch l s)) (fD (trm l b s k) (ch l s))) := by
  obtain ⟨c1, c2⟩ := ch_1 h12 hs
  have HC := Lib.hid (fun n k => chooseOf_impl n k)
  have HT := Lib.hid (trm_chI h12 hb hs hk)
  have ht9 : trm l b s k ≤ 924 := by
    have h1 := psum_le (m := k + 1) h12 hb hs (by omega)
    rw [psum] at h1
    omega
  have HE1 : Hid (chooseM (b : Int) (k : Int) = (chI b k : Nat)) := Lib.hid (by unfold chooseM; rw [inB_true (by omega) (by omega), if_pos rfl, Int.toNat_natCast])
  have HE2 : Hid (chooseM ((l : Int) - (b : Int)) ((s : Int) - (k : Int)) = (chI (l - b) ((s : Int) - (k : Int)) : Nat)) := Lib.hid (by unfold chooseM; rw [inB_true (by omega) (by omega), if_pos rfl, show ((l : Int) - (b : Int)).toNat = l - b by omega])
  have HE3 : Hid (chooseM (l : Int) (s : Int) = (ch l s : Nat)) := Lib.hid (by unfold chooseM; rw [inB_true (by omega) (by omega), if_pos rfl, Int.toNat_natCast, chI_nat h12 (by omega)])
  have hx9 := chI_bd (n := b) (k := (k : Int)) (by omega)
  obtain ⟨x, hx⟩ : ∃ x, chI b (k : Int) = x := ⟨_, rfl⟩
  obtain ⟨y, hy⟩ : ∃ y, chI (l - b) ((s : Int) - (k : Int)) = y := ⟨_, rfl⟩
  obtain ⟨z, hz⟩ : ∃ z, ch l s = z := ⟨_, rfl⟩
  rw [hx] at HE1 HT hx9
  rw [hy] at HE2 HT
  rw [hz] at HE3 c1 c2 ⊢
  have HXY : Hid ((x : Int) * (y : Int) = ((trm l b s k : Nat) : Int)) := Lib.hid (by rw [HT.out]; push_cast; rfl)
  obtain ⟨t, htt⟩ : ∃ t, trm l b s k = t := ⟨_, rfl⟩
  rw [htt] at HXY ht9 ⊢
  have HF := Lib.hid (ifrac_any t z (by omega) (by omega) (by omega))
  unfold FracP at HF ⊢
  obtain ⟨V, hV⟩ : ∃ V, fU t z = V := ⟨_, rfl⟩
  obtain ⟨E, hE⟩ : ∃ E, fD t z = E := ⟨_, rfl⟩
  rw [hV, hE] at HF ⊢
  clear hV hE hx hy hz htt HT
  have HWA : Hid (IntKind.i64.wrap ((l : Int) - (b : Int)) = (l : Int) - (b : Int)) := Lib.hid (IntWalk.i64_in _ (by omega))
  have HWB : Hid (IntKind.i64.wrap ((s : Int) - (k : Int)) = (s : Int) - (k : Int)) := Lib.hid (IntWalk.i64_in _ (by omega))
  have hA1 := four_new w l b s m 39
  have hb1 := below_alloc w (.cells #[.int .i64 (l : Int), .int .i64 (b : Int), .int .i64 (s : Int), .int .i64 m] 39)
  have hz1 : (w.alloc (.cells #[.int .i64 (l : Int), .int .i64 (b : Int), .int .i64 (s : Int), .int .i64 m] 39)).heap.size = w.heap.size + 1 := by simp
  obtain ⟨w1, hw1⟩ : ∃ w1, (w.alloc (.cells #[.int .i64 (l : Int), .int .i64 (b : Int), .int .i64 (s : Int), .int .i64 m] 39)) = w1 := ⟨_, rfl⟩
  rw [hw1] at hA1 hb1 hz1
  have hZ2 := two_new w1 (.int .i64 0) (.int .i64 0) 26
  have hA2 := hA1.lift (below_alloc w1 (.cells #[.int .i64 0, .int .i64 0] 26))
  have hb2 := hb1.alloc (by omega) (.cells #[.int .i64 0, .int .i64 0] 26)
  obtain ⟨w2, hw2⟩ : ∃ w2, (w1.alloc (.cells #[.int .i64 0, .int .i64 0] 26)) = w2 := ⟨_, rfl⟩
  rw [hw2] at hZ2 hA2 hb2
  rw [hz1] at hZ2
  have HW1 := Lib.hid hw1
  have HW2 := Lib.hid hw2
  have HA := Lib.hid hA2
  have HZ := Lib.hid hZ2
  have HB := Lib.hid hb2
  clear hw1 hw2 hA1 hA2 hZ2 hb1 hb2 hz1
  have HAL := Lib.hid (fun w' (hb : Below w2.drew.heap.size w2.drew w') => (show Four w' w.heap.size l b s m from (show Four w2.drew w.heap.size l b s m from HA.out).lift hb))
  go_enter Try.func32, Try.ntmps32
  go_wp2_with fail
  rw [HW1.out, HW2.out]
  obtain ⟨a0, a1, a2, a3⟩ := HA.out
  go_wp2_with fail
  go_region_held3 (fun w' => w'.cell? ⟨w.heap.size, 0, none⟩ = some (.int .i64 l) ∧ w'.cell? ⟨w.heap.size, 1, none⟩ = some (.int .i64 b) ∧ w'.cell? ⟨w.heap.size, 2, none⟩ = some (.int .i64 s)) (first | go_keep | exact k5 | exact k4)
    (first | (go_at_call 28; refine (product2_any _ _ _ _ _ _ (lit2 w5 _ _ _) (by omega) (by rw [HXY.out]; omega)).mono ?_; rintro e w6 ⟨rfl, rfl⟩; rw [HXY.out]) | (go_at_call 38; rw [HWA.out, HWB.out]; refine (HC.out _ _ w4).mono ?_; rintro e w5 ⟨rfl, hb5⟩; rw [HE2.out]; have HB5 := Lib.hid (HB4.out.trans (hb5.mono HB4.out.size)); have k5 := And.intro (HAL.out w5 HB5.out).1 (And.intro (HAL.out w5 HB5.out).2.1 (HAL.out w5 HB5.out).2.2.1)) | (go_at_call 38; refine (HC.out _ _ w2.drew).mono ?_; rintro e w4 ⟨rfl, hb4⟩; rw [HE1.out]; have HB4 := Lib.hid hb4; have k4 := And.intro (HAL.out w4 HB4.out).1 (And.intro (HAL.out w4 HB4.out).2.1 (HAL.out w4 HB4.out).2.2.1)))
  have hb6 := (HB5.out).trans ((below_alloc w5 (.cells #[.int .i64 x, .int .i64 y] 3)).mono HB5.out.size)
  have HA6 := Lib.hid (HAL.out _ hb6)
  have HZ6 := Lib.hid ((show Two w2.drew (w.heap.size + 1) (.int .i64 0) (.int .i64 0) from HZ.out).lift hb6)
  have HB6 := Lib.hid (HB.out.trans (((Below.refl _ w2).drew.trans hb6).mono HB.out.size))
  clear hb6 k4 k5 hb4 hb5 a0 a1 a2 a3
  obtain ⟨w6, hw6⟩ : ∃ w6, w5.alloc (.cells #[.int .i64 x, .int .i64 y] 3) = w6 := ⟨_, rfl⟩
  rw [hw6] at HA6 HZ6 HB6 ⊢
  clear hw6
  obtain ⟨a0, a1, a2, a3⟩ := HA6.out
  go_wp2_with fail
  refine (HC.out _ _ w6).mono ?_
  rintro e w7 ⟨rfl, hb7⟩
  rw [HE3.out]
  clear a0 a1 a2 a3
  have HZ7 := Lib.hid (HZ6.out.lift hb7)
  have HB7 := Lib.hid (HB6.out.trans (hb7.mono HB6.out.size))
  clear hb7
  go_wp2_with fail
  refine (HF.out w7).mono ?_
  rintro e w8 ⟨rfl, hb8⟩
  have HZ8 := Lib.hid (HZ7.out.lift hb8)
  have HB8 := Lib.hid (HB7.out.trans (hb8.mono HB7.out.size))
  clear hb8
  obtain ⟨⟨z0, z1⟩, z2, z3⟩ := HZ8.out
  have HVV := Lib.hid (And.intro ((HZ8.out.set0 (.int .i64 V)).set1 (.int .i64 E)).1.1 ((HZ8.out.set0 (.int .i64 V)).set1 (.int .i64 E)).2.1)
  go_wp2_with fail
  obtain ⟨v0, v1⟩ := HVV.out
  exact bodyPost_ret (v := .agg #[.int .i64 V, .int .i64 E]) (by simp [results, Try.results32, go_sem, v0, v1]) rfl ⟨rfl, (HB8.out.setCell (p := ⟨w.heap.size + 1, 0, none⟩) (Nat.le_add_right _ _) _).setCell (p := ⟨w.heap.size + 1, 1, none⟩) (Nat.le_add_right _ _) _⟩
end Go.Proofs.Ytkebdelfklmigab
namespace Go.Proofs.Ytkebdelfklmigab
open Go.RowKit Go.WideShapes
theorem grown_of9 {w w' : World} (h : Below w.heap.size w w') (B : Nat) : w.grownBy w' (some B) := ⟨h.os, h.tape, h.output, h.size, fun b hb _ => h.block b hb⟩
theorem below_of9 {w w' : World} {B lo : Nat} (h : w.grownBy w' (some B)) (h1 : lo ≤ B) (h2 : lo ≤ w.heap.size) : Below lo w w' := (Below.refl lo w).grown h h2 (fun k e => by cases e; exact h1)
set_option maxRecDepth 100000 in
set_option maxHeartbeats 4000000 in
theorem passChance_any (l b s m : Nat) (h1 : 1 ≤ l) (h12 : l ≤ 12) (hbl : b ≤ l) (hsl : s ≤ l) (hm : m ≤ 12) (w : World) :
    Calls Try.prog 21 #[.agg #[.int .i64 l, .int .i64 b, .int .i64 s, .int .i64 m]] w (FracP w (fU (psum l b s (m + 1)) (ch l s)) (fD (psum l b s (m + 1)) (ch l s))) := by
  obtain ⟨c1, c2⟩ := ch_1 h12 hsl
  have HMIN := Lib.hid (psum_min (size := s) h12 hbl hm).1
  have HCH := Lib.hid (fun k (hk : k ≤ 12) => chanceOf_any l b s k (m : Int) h12 hbl hsl hk)
  have HB := Lib.hid (show ∀ k, k ≤ 13 → psum l b s k ≤ 924 from fun k hk => Nat.le_trans (psum_le h12 hbl hsl hk) c2)
  have HTB := Lib.hid (show ∀ k, k ≤ 12 → trm l b s k ≤ 924 from fun k hk => by have := HB.out (k + 1) (by omega); rw [psum] at this; omega)
  obtain ⟨z, hz⟩ : ∃ z, ch l s = z := ⟨_, rfl⟩
  rw [hz] at HCH c1 c2 ⊢
  clear hz
  rw [← HMIN.out]
  clear HMIN
  have HF0 := Lib.hid (ifrac_any 0 1 (by omega) (by omega) (by omega))
  rw [show fU 0 1 = 0 from rfl, show fD 0 1 = 1 from rfl] at HF0
  have HZ0 := Lib.hid (f_zero (C := z) c1)
  have hA1 := four_new w l b s m 39
  have hb1 := below_alloc w (.cells #[.int .i64 (l : Int), .int .i64 (b : Int), .int .i64 (s : Int), .int .i64 (m : Int)] 39)
  have hz1 : (w.alloc (.cells #[.int .i64 (l : Int), .int .i64 (b : Int), .int .i64 (s : Int), .int .i64 (m : Int)] 39)).heap.size = w.heap.size + 1 := by simp
  obtain ⟨w1, hw1⟩ : ∃ w1, (w.alloc (.cells #[.int .i64 (l : Int), .int .i64 (b : Int), .int .i64 (s : Int), .int .i64 (m : Int)] 39)) = w1 := ⟨_, rfl⟩
  rw [hw1] at hA1 hb1 hz1
  have hZ2 := two_new w1 (.int .i64 0) (.int .i64 0) 26
  have hA2 := hA1.lift (below_alloc w1 (.cells #[.int .i64 0, .int .i64 0] 26))
  have hb2 := hb1.alloc (by omega) (.cells #[.int .i64 0, .int .i64 0] 26)
  have hz2 : (w1.alloc (.cells #[.int .i64 0, .int .i64 0] 26)).heap.size = w.heap.size + 2 := by simp; omega
  obtain ⟨w2, hw2⟩ : ∃ w2, (w1.alloc (.cells #[.int .i64 0, .int .i64 0] 26)) = w2 := ⟨_, rfl⟩
  rw [hw2] at hZ2 hA2 hb2 hz2
  rw [hz1] at hZ2
  have HW1 := Lib.hid hw1
  have HW2 := Lib.hid hw2
  have HA := Lib.hid hA2
  have HZ := Lib.hid hZ2
  have HBW := Lib.hid hb2
  have HS2 := Lib.hid hz2
  clear hw1 hw2 hA1 hA2 hZ2 hb1 hb2 hz1 hz2
  obtain ⟨q, hq⟩ : ∃ q, min m b = q := ⟨_, rfl⟩
  rw [hq]
  have hqm : q ≤ 12 ∧ q ≤ b := by omega
  have hNI : (if b < m then (b : Int) else (m : Int)) = (q : Int) := by split <;> omega
  have hNV : (if b < m then Value.int .i64 (b : Int) else Value.int .i64 (m : Int)) = Value.int .i64 (q : Int) := by split <;> (congr 1; omega)
  clear hq
  go_enter Try.func21, Try.ntmps21
  go_wp2_with fail
  rw [HW1.out, HW2.out]
  refine (HF0.out w2).mono ?_
  rintro e w3 ⟨rfl, hb3⟩
  have hs2 := HS2.out
  have hs3 := hb3.size
  have HA3 := Lib.hid ((HA.out.lift hb3).lift (below_alloc w3 (.cells #[.int .i64 0, .int .i64 1] 26)))
  have HZ3 := Lib.hid ((HZ.out.lift hb3).lift (below_alloc w3 (.cells #[.int .i64 0, .int .i64 1] 26)))
  have HE3 := Lib.hid (two_new w3 (.int .i64 0) (.int .i64 1) 26)
  have HB3 := Lib.hid ((HBW.out.trans (hb3.mono HBW.out.size)).alloc (by omega) (.cells #[.int .i64 0, .int .i64 1] 26))
  have hPB : w.heap.size + 2 ≤ w3.heap.size := by omega
  clear hb3 hs2 hs3
  obtain ⟨a0, a1, a2, a3⟩ := HA3.out
  go_wp2_with fail
  clear a0 a1 a2 a3 hNI hNV
  have hwb := HE3.out.lt
  go_loopw [12] (fun i wr => ∃ (k U D : Nat), i = .int .i64 k ∧ k ≤ q + 1 ∧ U = fU (psum l b s k) z ∧ D = fD (psum l b s k) z ∧ Two wr w3.heap.size (.int .i64 U) (.int .i64 D) ∧ Four wr w.heap.size l b s m ∧ Two wr (w.heap.size + 1) (.int .i64 0) (.int .i64 0) ∧ Below w.heap.size w wr) (fun i _ => q + 1 - (intOf i).toNat)
  case atStart => exact ⟨0, 0, 1, rfl, by omega, HZ0.out.1.symm, HZ0.out.2.symm, HE3.out, HA3.out, HZ3.out, HB3.out⟩
  case round =>
    clear HE3 HA3 HZ3 HB3 hwb
    obtain ⟨k, U, D, rfl, hk, hU, hD, ht, hf, hr, hb⟩ := hrel
    obtain ⟨wi, rfl⟩ : ∃ wi : World, wi = wr := ⟨_, rfl⟩
    obtain ⟨u1, u2, u3⟩ := f_bd (T := psum l b s k) c1
    have u4 := HB.out k (by omega)
    rw [← hU] at u1
    rw [← hD] at u2 u3
    have HU := Lib.hid hU
    have HD := Lib.hid hD
    clear hU hD
    have hwb := ht.lt
    have HQ := Lib.hid (show ∀ w', Below wi.heap.size wi w' → Two w' w3.heap.size (.int .i64 U) (.int .i64 D) ∧ Four w' w.heap.size l b s m ∧ Two w' (w.heap.size + 1) (.int .i64 0) (.int .i64 0) ∧ Below w.heap.size w w' from fun w' h => ⟨ht.lift h, hf.lift h, hr.lift h, hb.trans (h.mono hb.size)⟩)
    clear ht hf hr hb
    by_cases hkq : k < q + 1
    · have hkI : (k : Int) < (q : Int) + 1 := by omega
      have ht9 := HTB.out k (by omega)
      obtain ⟨v1, v2, v3⟩ := f_bd (T := trm l b s k) c1
      have HC := Lib.hid (HCH.out k (by omega))
      have HPL := Lib.hid (plus_any U D (fU (trm l b s k) z) (fD (trm l b s k) z) (by omega) (by omega) (by omega) (by omega))
      have HEQ := Lib.hid (f_plus (T := psum l b s k) (T' := trm l b s k) c1)
      rw [← HU.out, ← HD.out] at HEQ
      rw [HEQ.out.1, HEQ.out.2] at HPL
      obtain ⟨V, hV⟩ : ∃ V, fU (trm l b s k) z = V := ⟨_, rfl⟩
      obtain ⟨E, hE⟩ : ∃ E, fD (trm l b s k) z = E := ⟨_, rfl⟩
      rw [hV, hE] at HC HPL
      rw [hV] at v1
      rw [hE] at v2 v3
      obtain ⟨U2, hU2⟩ : ∃ U2, fU (psum l b s k + trm l b s k) z = U2 := ⟨_, rfl⟩
      obtain ⟨D2, hD2⟩ : ∃ D2, fD (psum l b s k + trm l b s k) z = D2 := ⟨_, rfl⟩
      rw [hU2, hD2] at HPL
      have HU2 := Lib.hid hU2
      have HD2 := Lib.hid hD2
      clear hV hE hU2 hD2 HEQ
      unfold FracP at HC HPL
      have HD0 : Hid (Below wi.heap.size wi wi.drew) := Lib.hid (Below.refl _ _).drew
      obtain ⟨f0, f1, f2, f3⟩ := (HQ.out _ (Below.refl _ _)).2.1
      have hp0 : w3.heap.size ≠ w.heap.size := by omega
      go_wp2_with fail
      refine wp_region_held_drew (S := (fun w' => wi.drew.grownBy w' (some w3.heap.size))) (by kernel_rfl) (grown_refl _ _) (fun hHeld => ?_)
      refine wpAnyH_take (i := 1) (v := .agg #[.int .i64 l, .int .i64 b, .int .i64 s, .int .i64 m]) rfl (by kernel_rfl) (by kernel_rfl) (by kernel_rfl) (fun _ _ _ h => h) (Or.inl ⟨by rfl, ?_⟩) hHeld ?_
      · intro w' hS; have k0 := hS.cell (show wi.drew.cell? ⟨w.heap.size, 0, none⟩ = _ from f0) (by simp; omega); have k1 := hS.cell (show wi.drew.cell? ⟨w.heap.size, 1, none⟩ = _ from f1) (by simp; omega); have k2 := hS.cell (show wi.drew.cell? ⟨w.heap.size, 2, none⟩ = _ from f2) (by simp; omega); have k3 := hS.cell (show wi.drew.cell? ⟨w.heap.size, 3, none⟩ = _ from f3) (by simp; omega); go_simp
      try simp only [Act.put, List.setIfInBounds_toArray, List.set_cons_zero, List.set_cons_succ, List.getElem_toArray, List.getElem_cons_succ, List.getElem_cons_zero]
      refine wpAnyH_take (i := 2) (v := .int .i64 k) rfl (by kernel_rfl) (by kernel_rfl) (by kernel_rfl) (fun _ _ _ h => h) (Or.inl ⟨by rfl, ?_⟩) hHeld ?_
      · intro w' hS; go_simp
      try simp only [Act.put, List.setIfInBounds_toArray, List.set_cons_zero, List.set_cons_succ, List.getElem_toArray, List.getElem_cons_succ, List.getElem_cons_zero]
      clear f0 f1 f2 f3
      refine wpAnyH_ready (rs := [0, 3]) (by kernel_rfl) (by simp) ?_
      refine (AllReadyH.cons (o := _) rfl (fun K hK => ?_) (AllReadyH.cons (o := _) rfl (fun K hK => ?_) AllReadyH.nil))
      · obtain ⟨⟨b0, bz0⟩, b1, bz1⟩ := (HQ.out _ (HD0.out)).1
        go_simp
        refine hK.out _ _ (grown_of9 (Below.refl wi.drew.heap.size wi.drew) w3.heap.size) (fun hHeld => ?_)
        clear hK K b0 bz0 b1 bz1
        try simp only [Act.put, List.setIfInBounds_toArray, List.set_cons_zero, List.set_cons_succ, List.getElem_toArray, List.getElem_cons_succ, List.getElem_cons_zero]
        refine wpAnyH_ready (rs := [3]) (by kernel_rfl) (by simp) ?_
        refine (AllReadyH.cons (o := _) rfl (fun K hK => ?_) AllReadyH.nil)
        go_simp
        refine (HC.out _).mono ?_
        rintro e wx ⟨rfl, hbx⟩
        have Hwx := Lib.hid (hbx)
        clear hbx
        refine hK.out _ _ (grown_of9 Hwx.out w3.heap.size) (fun hHeld => ?_)
        clear hK K
        try simp only [Act.put, List.setIfInBounds_toArray, List.set_cons_zero, List.set_cons_succ, List.getElem_toArray, List.getElem_cons_succ, List.getElem_cons_zero]
        refine wpAnyH_ready (rs := [4]) (by kernel_rfl) (by simp) ?_
        refine (AllReadyH.cons (o := _) rfl (fun K hK => ?_) AllReadyH.nil)
        go_simp
        refine (HPL.out _).mono ?_
        rintro e wy ⟨rfl, hbx⟩
        have Hwy := Lib.hid (Hwx.out.trans (hbx.mono Hwx.out.size))
        clear hbx
        refine hK.out _ _ (grown_of9 Hwy.out w3.heap.size) (fun hHeld => ?_)
        clear hK K
        try simp only [Act.put, List.setIfInBounds_toArray, List.set_cons_zero, List.set_cons_succ, List.getElem_toArray, List.getElem_cons_succ, List.getElem_cons_zero]
        refine wpAnyH_ready (rs := [5]) (by kernel_rfl) (by simp) ?_
        refine (AllReadyH.cons (o := _) rfl (fun K hK => ?_) AllReadyH.nil)
        obtain ⟨⟨z0, zf0⟩, z1, zf1⟩ := (HQ.out _ (HD0.out.trans (Hwy.out.mono HD0.out.size))).1
        go_simp
        refine hK.out _ _ (grown_comp (grown_of9 Hwy.out w3.heap.size) (grown_comp (grownBy_setCell _ ⟨w3.heap.size, 0, none⟩ _) (grownBy_setCell _ ⟨w3.heap.size, 1, none⟩ _))) (fun hHeld => ?_)
        clear hK K z0 zf0 z1 zf1
        try simp only [Act.put, List.setIfInBounds_toArray, List.set_cons_zero, List.set_cons_succ, List.getElem_toArray, List.getElem_cons_succ, List.getElem_cons_zero]
        refine wpAnyH_done (by kernel_rfl) ?_ _
        clear hHeld
        have hgs : wy.grownBy ((wy.setCell ⟨w3.heap.size, 0, none⟩ (.int .i64 (U2 : Int))).setCell ⟨w3.heap.size, 1, none⟩ (.int .i64 (D2 : Int))) (some w3.heap.size) := grown_comp (grownBy_setCell _ _ _) (grownBy_setCell _ _ _)
        have HGS := Lib.hid hgs
        have HQZ := Lib.hid (HQ.out _ (HD0.out.trans (Hwy.out.mono HD0.out.size)))
        clear hgs
        have hp1 : w3.heap.size ≠ w.heap.size + 1 := by omega
        go_wp2_with fail
        go_roundw
        case rel => exact ⟨k + 1, U2, D2, by go_num, by omega, HU2.out.symm, HD2.out.symm, (HQZ.out.1.set0 _).set1 _, HQZ.out.2.1.block (HGS.out.block _ HQZ.out.2.1.lt (by simp; omega)), HQZ.out.2.2.1.grown HGS.out (by simp; omega), HQZ.out.2.2.2.trans (below_of9 HGS.out (by omega) HQZ.out.2.2.2.size)⟩
        case measure => simp [intOf]; omega
      · go_simp
        refine (HC.out _).mono ?_
        rintro e wx ⟨rfl, hbx⟩
        have Hwx := Lib.hid (hbx)
        clear hbx
        refine hK.out _ _ (grown_of9 Hwx.out w3.heap.size) (fun hHeld => ?_)
        clear hK K
        try simp only [Act.put, List.setIfInBounds_toArray, List.set_cons_zero, List.set_cons_succ, List.getElem_toArray, List.getElem_cons_succ, List.getElem_cons_zero]
        refine wpAnyH_ready (rs := [0]) (by kernel_rfl) (by simp) ?_
        refine (AllReadyH.cons (o := _) rfl (fun K hK => ?_) AllReadyH.nil)
        obtain ⟨⟨b0, bz0⟩, b1, bz1⟩ := (HQ.out _ (HD0.out.trans (Hwx.out.mono HD0.out.size))).1
        go_simp
        refine hK.out _ _ (grown_of9 Hwx.out w3.heap.size) (fun hHeld => ?_)
        clear hK K b0 bz0 b1 bz1
        try simp only [Act.put, List.setIfInBounds_toArray, List.set_cons_zero, List.set_cons_succ, List.getElem_toArray, List.getElem_cons_succ, List.getElem_cons_zero]
        refine wpAnyH_ready (rs := [4]) (by kernel_rfl) (by simp) ?_
        refine (AllReadyH.cons (o := _) rfl (fun K hK => ?_) AllReadyH.nil)
        go_simp
        refine (HPL.out _).mono ?_
        rintro e wy ⟨rfl, hbx⟩
        have Hwy := Lib.hid (Hwx.out.trans (hbx.mono Hwx.out.size))
        clear hbx
        refine hK.out _ _ (grown_of9 Hwy.out w3.heap.size) (fun hHeld => ?_)
        clear hK K
        try simp only [Act.put, List.setIfInBounds_toArray, List.set_cons_zero, List.set_cons_succ, List.getElem_toArray, List.getElem_cons_succ, List.getElem_cons_zero]
        refine wpAnyH_ready (rs := [5]) (by kernel_rfl) (by simp) ?_
        refine (AllReadyH.cons (o := _) rfl (fun K hK => ?_) AllReadyH.nil)
        obtain ⟨⟨z0, zf0⟩, z1, zf1⟩ := (HQ.out _ (HD0.out.trans (Hwy.out.mono HD0.out.size))).1
        go_simp
        refine hK.out _ _ (grown_comp (grown_of9 Hwy.out w3.heap.size) (grown_comp (grownBy_setCell _ ⟨w3.heap.size, 0, none⟩ _) (grownBy_setCell _ ⟨w3.heap.size, 1, none⟩ _))) (fun hHeld => ?_)
        clear hK K z0 zf0 z1 zf1
        try simp only [Act.put, List.setIfInBounds_toArray, List.set_cons_zero, List.set_cons_succ, List.getElem_toArray, List.getElem_cons_succ, List.getElem_cons_zero]
        refine wpAnyH_done (by kernel_rfl) ?_ _
        clear hHeld
        have hgs : wy.grownBy ((wy.setCell ⟨w3.heap.size, 0, none⟩ (.int .i64 (U2 : Int))).setCell ⟨w3.heap.size, 1, none⟩ (.int .i64 (D2 : Int))) (some w3.heap.size) := grown_comp (grownBy_setCell _ _ _) (grownBy_setCell _ _ _)
        have HGS := Lib.hid hgs
        have HQZ := Lib.hid (HQ.out _ (HD0.out.trans (Hwy.out.mono HD0.out.size)))
        clear hgs
        have hp1 : w3.heap.size ≠ w.heap.size + 1 := by omega
        go_wp2_with fail
        go_roundw
        case rel => exact ⟨k + 1, U2, D2, by go_num, by omega, HU2.out.symm, HD2.out.symm, (HQZ.out.1.set0 _).set1 _, HQZ.out.2.1.block (HGS.out.block _ HQZ.out.2.1.lt (by simp; omega)), HQZ.out.2.2.1.grown HGS.out (by simp; omega), HQZ.out.2.2.2.trans (below_of9 HGS.out (by omega) HQZ.out.2.2.2.size)⟩
        case measure => simp [intOf]; omega
    · have hkq2 : k = q + 1 := by omega
      subst hkq2
      have hkI : ¬ ((q : Int) + 1) < (q : Int) + 1 := by omega
      obtain ⟨⟨e0, ez0⟩, e1, ez1⟩ := (HQ.out _ (Below.refl _ _)).1
      have HR := Lib.hid (HQ.out _ (Below.refl _ _)).2.2.1
      have HBB := Lib.hid (HQ.out _ (Below.refl _ _)).2.2.2
      obtain ⟨⟨r0, rz0⟩, r1, rz1⟩ := HR.out
      have HVV := Lib.hid (And.intro ((HR.out.set0 (.int .i64 U)).set1 (.int .i64 D)).1.1 ((HR.out.set0 (.int .i64 U)).set1 (.int .i64 D)).2.1)
      go_wp2_with fail
      obtain ⟨v0, v1⟩ := HVV.out
      exact bodyPost_ret (v := .agg #[.int .i64 U, .int .i64 D]) (by simp [results, Try.results21, go_sem, v0, v1]) rfl ⟨by rw [HU.out, HD.out], (HBB.out.setCell (p := ⟨w.heap.size + 1, 0, none⟩) (Nat.le_add_right _ _) _).setCell (p := ⟨w.heap.size + 1, 1, none⟩) (Nat.le_add_right _ _) _⟩
end Go.Proofs.Ytkebdelfklmigab
