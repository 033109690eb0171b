import Derived.Test.YtkebdelfklmigaaRows
import Derived.WalkKit
import Derived.ProofKit
import Derived.Lib.Hide
import Derived.Test.YtkebdelfklmigaaM0
import Derived.Test.YtkebdelfklmigaaM5
import Derived.Test.YtkebdelfklmigaaM6
import Derived.Test.YtkebdelfklmigaaM7
import Derived.LoopTactic
import Derived.Outline
import Derived.WalkSpells
import Derived.WalkLawsBesides
import Derived.IntWalk
import Derived.Deep.QuietTactic
import Derived.BigQuiet
import Derived.Deep.RegionHeld3
import Derived.Test.YtkebdelfklmigaaM10
namespace Go.Proofs.Ytkebdelfklmigaa
open Go.RowKit

-- what chapter 9's laws ask (plain)
theorem chI_pas {m : Nat} {k : Int} (hm : m + 1 ≤ 12) : chI (m + 1) k = chI m (k - 1) + chI m k := by
  by_cases h0 : k < 0
  · rw [chI_neg h0, chI_neg (k := k - 1) (by omega), chI_neg h0]
  · obtain ⟨q, rfl⟩ : ∃ q : Nat, k = (q : Int) := ⟨k.toNat, by omega⟩
    by_cases hq : q ≤ 12
    · rw [chI_nat hm hq, chI_nat (by omega) hq]
      cases q with
      | zero => rw [chI_neg (k := ((0 : Nat) : Int) - 1) (by omega), ch_zero _ (by omega), ch_zero _ (by omega)]
      | succ q => rw [show ((q + 1 : Nat) : Int) - 1 = (q : Int) by omega, chI_nat (by omega) (by omega), ch_pas m (by omega) q (by omega)]
    · unfold chI
      rw [if_neg (by omega), if_neg (by omega), if_neg (by omega)]
theorem chI_sym {n : Nat} {k : Int} (hn : n ≤ 12) : chI n ((n : Int) - k) = chI n k := by
  unfold chI
  by_cases h : 0 ≤ k ∧ k ≤ n
  · rw [if_pos h, if_pos (by omega), show ((n : Int) - k).toNat = n - k.toNat by omega, ch_sym n (by omega) _ (by omega)]
  · rw [if_neg h, if_neg (by omega)]
theorem chI_none {k : Int} : chI 0 k = if k = 0 then 1 else 0 := by
  unfold chI
  by_cases h : k = 0
  · subst h; decide
  · rw [if_neg h, if_neg (by omega)]
theorem pass_bd {x0 x1 x2 x3 : Int} : passU x0 x1 x2 x3 ≤ 924 ∧ passD x0 x1 x2 x3 ≤ 924 ∧ badU x0 x1 x2 x3 ≤ 11088 ∧ badD x0 x1 x2 x3 ≤ 924 := by
  cases h : planB x0 x1 x2 x3
  · obtain ⟨a, b, c, d⟩ := pass_no h
    rw [a, b, c, d]; omega
  · obtain ⟨l, b, s, m, rfl, rfl, rfl, rfl, h1, h12, hb, hs, hm⟩ := plan_get h
    obtain ⟨a, b', c, d⟩ := pass_yes h
    obtain ⟨c1, c2⟩ := ch_1 h12 hs
    have p := psum_le (m := m + 1) h12 hb hs (by omega)
    have q := bsum_le (lot := l) (bad := b) (size := s) (m + 1)
    have q2 : b * psum l b s (m + 1) ≤ 12 * 924 := Nat.mul_le_mul (by omega) (by omega)
    obtain ⟨f1, f2, _⟩ := f_bd (T := psum l b s (m + 1)) c1
    obtain ⟨f3, f4, _⟩ := f_bd (T := bsum l b s (m + 1)) c1
    rw [a, b', c, d]
    omega
theorem not_less {T C T' C' : Nat} (hC : 1 ≤ C) (hC' : 1 ≤ C') (h : T * C' ≤ T' * C) : ¬ ((fU T' C' : Int) * (fD T C : Int) < (fU T C : Int) * (fD T' C' : Int)) := by
  have := (f_le hC hC').2 h
  have h2 : (fU T C : Int) * (fD T' C' : Int) ≤ (fU T' C' : Int) * (fD T C : Int) := by exact_mod_cast this
  omega
theorem pass_worse {l b s m : Nat} (h : planB l b s m = true) (h' : planB l ((b : Int) + 1) s m = true) : ¬ ((passU l b s m : Int) * (passD l ((b : Int) + 1) s m : Int) < (passU l ((b : Int) + 1) s m : Int) * (passD l b s m : Int)) := by
  have e : (b : Int) + 1 = ((b + 1 : Nat) : Int) := by omega
  rw [e] at h' ⊢
  obtain ⟨a1, a2, _⟩ := pass_yes h
  obtain ⟨b1, b2, _⟩ := pass_yes h'
  obtain ⟨h1, h12, hb, hs, hm⟩ := plan_nat h'
  rw [a1, a2, b1, b2]
  exact not_less (ch_1 h12 hs).1 (ch_1 h12 hs).1 (Nat.mul_le_mul_right _ (psum_worse l (by omega) b (by omega) s (by omega) (m + 1) (by have := plan_nat h; omega)))
theorem pass_loose {l b s m : Nat} (h : planB l b s m = true) (h' : planB l b s ((m : Int) + 1) = true) : ¬ ((passU l b s ((m : Int) + 1) : Int) * (passD l b s m : Int) < (passU l b s m : Int) * (passD l b s ((m : Int) + 1) : Int)) := by
  have e : (m : Int) + 1 = ((m + 1 : Nat) : Int) := by omega
  rw [e] at h' ⊢
  obtain ⟨a1, a2, _⟩ := pass_yes h
  obtain ⟨b1, b2, _⟩ := pass_yes h'
  obtain ⟨h1, h12, hb, hs, hm⟩ := plan_nat h'
  rw [a1, a2, b1, b2]
  exact not_less (ch_1 h12 hs).1 (ch_1 h12 hs).1 (Nat.mul_le_mul_right _ (by rw [show m + 1 + 1 = (m + 1) + 1 from rfl]; exact psum_mono (d := 1)))
theorem pass_1 {l b s m : Nat} (h : planB l b s m = true) : ¬ ((1 : Int) * (passD l b s m : Int) < (passU l b s m : Int) * 1) := by
  obtain ⟨a1, a2, _⟩ := pass_yes h
  obtain ⟨h1, h12, hb, hs, hm⟩ := plan_nat h
  have c1 := (ch_1 h12 hs).1
  rw [a1, a2]
  have := not_less c1 c1 (T := psum l b s (m + 1)) (T' := ch l s) (Nat.mul_le_mul_right _ (psum_le h12 hb hs (by omega)))
  obtain ⟨o1, o2⟩ := f_one c1
  rw [o1, o2] at this
  exact this
theorem plan_none {l b s m : Nat} (h : planB l b s m = true) : planB l b 0 m = true := by
  obtain ⟨h1, h12, hb, hs, hm⟩ := plan_nat h
  simp only [planB, inB, Bool.and_eq_true, decide_eq_true_eq]
  omega
theorem pass_none {l b s m : Nat} (h : planB l b s m = true) : passU l b 0 m = 1 ∧ passD l b 0 m = 1 ∧ badU l b 0 m = b ∧ badD l b 0 m = 1 := by
  obtain ⟨h1, h12, hb, hs, hm⟩ := plan_nat h
  obtain ⟨a1, a2, a3, a4⟩ := pass_yes (s := 0) (plan_none h)
  obtain ⟨p1, p2⟩ := psum_none h12 hb m
  simp only [Int.natCast_zero] at a1 a2 a3 a4
  rw [a1, a2, a3, a4, p1, p2, ch_zero l (by omega)]
  exact ⟨f_int.1, f_int.2, f_int.1, f_int.2⟩
theorem pass_all {l b s m : Nat} (h : planB l b s m = true) (hm : b ≤ m) : passU l b s m = 1 ∧ passD l b s m = 1 := by
  obtain ⟨h1, h12, hb, hs, hm2⟩ := plan_nat h
  obtain ⟨a1, a2, _⟩ := pass_yes h
  rw [a1, a2, psum_over h12 hb hs hm2 hm]
  exact f_one (ch_1 h12 hs).1
theorem bad_le {l b s m : Nat} (h : planB l b s m = true) : ¬ (((b : Int) * (passU l b s m : Int)) * (badD l b s m : Int) < (badU l b s m : Int) * (passD l b s m : Int)) := by
  obtain ⟨h1, h12, hb, hs, hm⟩ := plan_nat h
  obtain ⟨a1, a2, a3, a4⟩ := pass_yes h
  rw [a1, a2, a3, a4]
  have c1 := (ch_1 h12 hs).1
  obtain ⟨g, hg, e1, e2⟩ := f_mul (T := psum l b s (m + 1)) c1
  obtain ⟨g', hg', e3, e4⟩ := f_mul (T := bsum l b s (m + 1)) c1
  have key : fU (bsum l b s (m + 1)) (ch l s) * fD (psum l b s (m + 1)) (ch l s) ≤ b * fU (psum l b s (m + 1)) (ch l s) * fD (bsum l b s (m + 1)) (ch l s) := by
    refine Nat.le_of_mul_le_mul_left ?_ (Nat.mul_pos hg hg')
    calc g * g' * (fU (bsum l b s (m + 1)) (ch l s) * fD (psum l b s (m + 1)) (ch l s)) = (g' * fU (bsum l b s (m + 1)) (ch l s)) * (g * fD (psum l b s (m + 1)) (ch l s)) := by ac_rfl
      _ = bsum l b s (m + 1) * ch l s := by rw [e3, e2]
      _ ≤ (b * psum l b s (m + 1)) * ch l s := Nat.mul_le_mul_right _ (bsum_le (m + 1))
      _ = b * (g * fU (psum l b s (m + 1)) (ch l s)) * (g' * fD (bsum l b s (m + 1)) (ch l s)) := by rw [e1, e4]
      _ = g * g' * (b * fU (psum l b s (m + 1)) (ch l s) * fD (bsum l b s (m + 1)) (ch l s)) := by ac_rfl
  have h2 : (fU (bsum l b s (m + 1)) (ch l s) : Int) * (fD (psum l b s (m + 1)) (ch l s) : Int) ≤ (b : Int) * (fU (psum l b s (m + 1)) (ch l s) : Int) * (fD (bsum l b s (m + 1)) (ch l s) : Int) := by exact_mod_cast key
  omega
theorem pass_turn {l b s m : Nat} (h : planB l b s m = true) : planB l s b m = true ∧ passU l s b m = passU l b s m ∧ passD l s b m = passD l b s m := by
  obtain ⟨h1, h12, hb, hs, hm⟩ := plan_nat h
  have h' : planB l s b m = true := by
    simp only [planB, inB, Bool.and_eq_true, decide_eq_true_eq]
    omega
  obtain ⟨a1, a2, _⟩ := pass_yes h
  obtain ⟨b1, b2, _⟩ := pass_yes h'
  rw [a1, a2, b1, b2]
  have := psum_turn h12 hb hs (m + 1) (by omega)
  obtain ⟨x, y⟩ := f_eq (T := psum l s b (m + 1)) (T' := psum l b s (m + 1)) (ch_1 h12 hb).1 (ch_1 h12 hs).1 this.symm
  exact ⟨h', x, y⟩
theorem least_get {x0 x1 x2 x3 x4 : Int} (h : 0 ≤ leastS x0 x1 x2 x3 x4) : ∃ l b m u d q : Nat, x0 = l ∧ x1 = b ∧ x2 = m ∧ x3 = u ∧ x4 = d ∧ leastS x0 x1 x2 x3 x4 = q ∧ planB l b q m = true ∧ u ≤ 40 ∧ 1 ≤ d ∧ d ≤ 40 ∧
    ¬ ((fU u d : Int) * (passD l b q m : Int) < (passU l b q m : Int) * (fD u d : Int)) ∧ (1 ≤ q → planB l b ((q : Int) - 1) m = true ∧ (fU u d : Int) * (passD l b ((q : Int) - 1) m : Int) < (passU l b ((q : Int) - 1) m : Int) * (fD u d : Int)) := by
  unfold leastS at h ⊢
  by_cases hv : (planB x0 x1 0 x2 && (inB 0 40 x3 && inB 1 40 x4)) = true
  · rw [if_pos hv] at h ⊢
    simp only [Bool.and_eq_true] at hv
    obtain ⟨hp, hu, hd⟩ := hv
    obtain ⟨l, b, s0, m, rfl, rfl, hs0, rfl, h1, h12, hb, _, hm⟩ := plan_get hp
    obtain ⟨hu1, hu2⟩ : 0 ≤ x3 ∧ x3 ≤ 40 := by simpa [inB] using hu
    obtain ⟨hd1, hd2⟩ : 1 ≤ x4 ∧ x4 ≤ 40 := by simpa [inB] using hd
    obtain ⟨u, rfl⟩ : ∃ u : Nat, x3 = (u : Int) := ⟨x3.toNat, by omega⟩
    obtain ⟨d, rfl⟩ : ∃ d : Nat, x4 = (d : Int) := ⟨x4.toNat, by omega⟩
    simp only [Int.toNat_natCast] at h ⊢
    rcases lsF_least (P := shareB l b m u d) (f := l + 1) (s := 0) rfl with e | ⟨q, e, _, hq, hP, hN⟩
    · rw [e] at h; omega
    · have hpl : ∀ k : Nat, k ≤ l → planB l b k m = true := fun k hk => by
        simp only [planB, inB, Bool.and_eq_true, decide_eq_true_eq]
        omega
      refine ⟨l, b, m, u, d, q, rfl, rfl, rfl, rfl, rfl, e, hpl q (by omega), by omega, by omega, by omega, ?_, fun hq1 => ?_⟩
      · obtain ⟨a1, a2, _⟩ := pass_yes (hpl q (by omega))
        rw [a1, a2]
        exact not_less (ch_1 h12 (by omega)).1 (by omega) (of_decide_eq_true hP)
      · have ek : (q : Int) - 1 = ((q - 1 : Nat) : Int) := by omega
        rw [ek]
        refine ⟨hpl (q - 1) (by omega), ?_⟩
        obtain ⟨a1, a2, _⟩ := pass_yes (hpl (q - 1) (by omega))
        rw [a1, a2]
        have hn := of_decide_eq_false (hN (q - 1) (by omega) (by omega))
        have := (not_congr (f_le (T := psum l b (q - 1) (m + 1)) (C := ch l (q - 1)) (T' := u) (C' := d) (ch_1 h12 (by omega)).1 (by omega))).2 hn
        have h3 : (fU u d : Int) * (fD (psum l b (q - 1) (m + 1)) (ch l (q - 1)) : Int) < (fU (psum l b (q - 1) (m + 1)) (ch l (q - 1)) : Int) * (fD u d : Int) := by
          have h4 := Nat.lt_of_not_le this
          exact_mod_cast h4
        exact h3
  · rw [if_neg hv] at h; omega
theorem least_none {l b m u d : Nat} (h : planB l b 0 m = true) : planB l b (-1) m = false := by
  simp [planB, inB]
theorem msum_le {l b s : Nat} : ∀ m, m ≤ 13 → msum l b s m ≤ 12 * psum l b s m := by
  intro m
  induction m with
  | zero => intro _; simp [msum, psum]
  | succ m ih =>
    intro h
    simp only [msum, psum, Nat.mul_add]
    have a := ih (by omega)
    have b' : m * trm l b s m ≤ 12 * trm l b s m := Nat.mul_le_mul_right _ (by omega)
    omega
end Go.Proofs.Ytkebdelfklmigaa
namespace Go.Proofs.Ytkebdelfklmigaa
open Go.RowKit Go.WideShapes

end Go.Proofs.Ytkebdelfklmigaa
namespace Go.Proofs.Ytkebdelfklmigaa
open Go.RowKit Go.WideShapes
theorem grown_of9 {w w' : World} (h : Below w.heap.size w w') (B : Nat) : w.grownBy w' (some B) := ⟨h.os, h.tape, h.output, h.size, fun b hb _ => h.block b hb⟩
theorem below_of9 {w w' : World} {B lo : Nat} (h : w.grownBy w' (some B)) (h1 : lo ≤ B) (h2 : lo ≤ w.heap.size) : Below lo w w' := (Below.refl lo w).grown h h2 (fun k e => by cases e; exact h1)
end Go.Proofs.Ytkebdelfklmigaa
namespace Go.Proofs.Ytkebdelfklmigaa
open Go.RowKit Go.WideShapes
theorem fall_step9 {n k : Nat} (hn : k < n) : ((fall n (k + 1) : Nat) : Int) = (fall n k : Int) * ((n : Int) - (k : Int)) := by
  rw [show fall n (k + 1) = fall n k * (n - k) from rfl, show ((n : Int) - (k : Int)) = ((n - k : Nat) : Int) by omega]; push_cast; rfl
end Go.Proofs.Ytkebdelfklmigaa
namespace Go.Proofs.Ytkebdelfklmigaa
open Go.RowKit Go.WideShapes

/-- orders of draws; 0 where a bad one too many was drawn, or one that is not there -/
def drwI (l : Nat) (b : Int) (s : Nat) (m : Nat) : Nat := if 0 ≤ b ∧ b ≤ l then drw l b.toNat s m else 0
theorem drw_zero {l b s : Nat} : drw l b s 0 = 0 := by unfold drw; simp [psum]
theorem drwI_zero {l s : Nat} {b : Int} : drwI l b s 0 = 0 := by unfold drwI; rw [drw_zero]; simp
theorem drwI_bd {l s m : Nat} {b : Int} (hl : l ≤ 12) (hs : s ≤ l) (hm : m ≤ 13) : drwI l b s m ≤ 479001600 := by
  unfold drwI
  split
  · have a1 := psum_le (lot := l) (bad := b.toNat) (size := s) (m := m) hl (by omega) hs hm
    have a2 := fall_ch l (by omega) s (by omega)
    have a3 := fall_bd l (by omega) s (by omega)
    unfold drw
    exact Nat.le_trans (Nat.mul_le_mul_right _ a1) (by rw [← a2.2.1]; exact a3)
  · omega
theorem drwI_step {l b s m : Nat} (hl : l + 1 ≤ 12) (hb : b ≤ l + 1) (hs : s ≤ l) (hm : m + 1 ≤ 13) : drw (l + 1) b (s + 1) (m + 1) = (l + 1 - b) * drwI l b s (m + 1) + b * drwI l ((b : Int) - 1) s m := by
  obtain ⟨g, hg⟩ : ∃ g, l + 1 = g + b := ⟨l + 1 - b, by omega⟩
  have h := drw_step (b := b) (g := g) (s := s) (m := m + 1) (by omega) (by omega) hm
  have hgl : g + b - 1 = l := by omega
  rw [hgl, Nat.add_sub_cancel] at h
  rw [hg, h, Nat.add_sub_cancel]
  congr 1
  · unfold drwI
    by_cases hbl : b ≤ l
    · rw [if_pos (by omega), Int.toNat_natCast]
    · have : g = 0 := by omega
      subst this; simp
  · unfold drwI
    by_cases hb0 : b = 0
    · subst hb0; simp
    · rw [if_pos (by omega), show ((b : Int) - 1).toNat = b - 1 by omega]
theorem four_sub {w : World} {b : Nat} {x0 x1 x2 x3 : Int} (h : Four w b x0 x1 x2 x3) (u v : Int) : Four ((w.setCell ⟨b, 1, none⟩ (.int .i64 u)).setCell ⟨b, 3, none⟩ (.int .i64 v)) b x0 u x2 v := by
  have ne : ∀ i j : Nat, i ≠ j → (⟨b, i, none⟩ : Addr) ≠ ⟨b, j, none⟩ := fun i j hij e => by injection e with _ e2; exact hij e2
  have h3 : (w.setCell ⟨b, 1, none⟩ (.int .i64 u)).cell? ⟨b, 3, none⟩ = some (.int .i64 x3) := by rw [World.cell?_setCell_other _ _ _ _ (ne 1 3 (by omega))]; exact h.2.2.2
  have h1 : (w.setCell ⟨b, 1, none⟩ (.int .i64 u)).cell? ⟨b, 1, none⟩ = some (.int .i64 u) := World.cell?_setCell_same _ _ _ h.2.1
  refine ⟨?_, ?_, ?_, World.cell?_setCell_same _ _ _ h3⟩
  · rw [World.cell?_setCell_other _ _ _ _ (ne 3 0 (by omega)), World.cell?_setCell_other _ _ _ _ (ne 1 0 (by omega))]; exact h.1
  · rw [World.cell?_setCell_other _ _ _ _ (ne 3 1 (by omega))]; exact h1
  · rw [World.cell?_setCell_other _ _ _ _ (ne 3 2 (by omega)), World.cell?_setCell_other _ _ _ _ (ne 1 2 (by omega))]; exact h.2.2.1
theorem four_off {w : World} {b c : Nat} {x0 x1 x2 x3 : Int} (h : Four w b x0 x1 x2 x3) (hne : b ≠ c) (x y : Value) : Four ((w.setCell ⟨c, 1, none⟩ x).setCell ⟨c, 3, none⟩ y) b x0 x1 x2 x3 :=
  h.block ((Below.heap_setCell _ _ _ _ (by show b ≠ c; exact hne)).trans (Below.heap_setCell _ _ _ _ (by show b ≠ c; exact hne)))
theorem upTo_no {b l : Int} (h : ¬ (0 ≤ b ∧ b ≤ l)) : inB 0 l b = false := decide_eq_false h
set_option maxRecDepth 100000 in
set_option maxHeartbeats 4000000 in
theorem passingDraws_any : ∀ (s l : Nat) (b : Int) (m : Nat) (w : World), l ≤ 12 → s ≤ l → m ≤ 13 → -1 ≤ b → b ≤ 12 →
    Calls Try.prog 25 #[.agg #[.int .i64 l, .int .i64 b, .int .i64 s, .int .i64 ((m : Int) - 1)]] w (valN w (.int .i64 (drwI l b s m : Nat))) := by
  intro s
  induction s with
  | zero =>
    intro l b m w hl hs hm hb1 hb2
    by_cases h0 : m = 0
    · subst h0
      rw [drwI_zero]
      have hd : ((0 : Nat) : Int) - 1 < 0 := by omega
      go_enter Try.func25, Try.ntmps25
      go_wp2
      go_ret
      exact ⟨rfl, below_alloc _ _⟩
    · obtain ⟨m, rfl⟩ : ∃ q, m = q + 1 := ⟨m - 1, by omega⟩
      have hd : ¬ ((m + 1 : Nat) : Int) - 1 < 0 := by omega
      by_cases hbl : 0 ≤ b ∧ b ≤ l
      · have HU := Lib.hid (fun w' => isUp8 b l w' (inB_true hbl.1 hbl.2))
        have hr : drwI l b 0 (m + 1) = 1 := by
          unfold drwI; rw [if_pos hbl]
          unfold drw; rw [(psum_none hl (by omega) m).1]; rfl
        rw [hr]
        go_enter Try.func25, Try.ntmps25
        go_wp2_with fail
        refine (HU.out _).mono ?_
        rintro e w' ⟨rfl, rfl⟩
        go_wp2
        go_ret
        exact ⟨rfl, below_alloc _ _⟩
      · have HU := Lib.hid (fun w' => isUp8 b l w' (upTo_no hbl))
        have hr : drwI l b 0 (m + 1) = 0 := if_neg hbl
        rw [hr]
        clear hbl
        go_enter Try.func25, Try.ntmps25
        go_wp2_with fail
        refine (HU.out _).mono ?_
        rintro e w' ⟨rfl, rfl⟩
        go_wp2
        go_ret
        exact ⟨rfl, below_alloc _ _⟩
  | succ s ih =>
    intro l b m w hl hs hm hb1 hb2
    have IH := Lib.hid ih
    clear ih
    by_cases h0 : m = 0
    · subst h0
      rw [drwI_zero]
      have hd : ((0 : Nat) : Int) - 1 < 0 := by omega
      go_enter Try.func25, Try.ntmps25
      go_wp2
      go_ret
      exact ⟨rfl, below_alloc _ _⟩
    · obtain ⟨m, rfl⟩ : ∃ q, m = q + 1 := ⟨m - 1, by omega⟩
      have hmm : ((m + 1 : Nat) : Int) - 1 = (m : Int) := by omega
      rw [hmm]
      clear hmm
      have hd : ¬ (m : Int) < 0 := by omega
      by_cases hbl : 0 ≤ b ∧ b ≤ l
      · obtain ⟨q, rfl⟩ : ∃ q : Nat, b = (q : Int) := ⟨b.toNat, by omega⟩
        obtain ⟨l, rfl⟩ : ∃ r, l = r + 1 := ⟨l - 1, by omega⟩
        have HU := Lib.hid (fun w' => isUp8 (q : Int) ((l : Int) + 1) w' (inB_true hbl.1 (by have := hbl.2; omega)))
        have HST : Hid (drwI (l + 1) (q : Int) (s + 1) (m + 1) = (l + 1 - q) * drwI l q s (m + 1) + q * drwI l ((q : Int) - 1) s m) := Lib.hid (by
          rw [← drwI_step (by omega) (by omega) (by omega) (by omega)]
          unfold drwI; rw [if_pos hbl, Int.toNat_natCast])
        rw [HST.out]
        have HC1 := Lib.hid (fun w' => IH.out l (q : Int) (m + 1) w' (by omega) (by omega) (by omega) (by omega) (by omega))
        have HC2 := Lib.hid (fun w' => IH.out l ((q : Int) - 1) m w' (by omega) (by omega) (by omega) (by omega) (by omega))
        rw [show ((m + 1 : Nat) : Int) - 1 = (m : Int) by omega] at HC1
        have b1 := drwI_bd (l := l) (b := (q : Int)) (s := s) (m := m + 1) (by omega) (by omega) (by omega)
        have b2 := drwI_bd (l := l) (b := (q : Int) - 1) (s := s) (m := m) (by omega) (by omega) (by omega)
        obtain ⟨x, hx⟩ : ∃ x, drwI l (q : Int) s (m + 1) = x := ⟨_, rfl⟩
        obtain ⟨y, hy⟩ : ∃ y, drwI l ((q : Int) - 1) s m = y := ⟨_, rfl⟩
        rw [hx] at HC1 b1 ⊢
        rw [hy] at HC2 b2 ⊢
        clear hx hy HST IH
        have hql : q ≤ l + 1 := by omega
        have P1 : Hid (0 ≤ (((l : Int) + 1 - (q : Int)) * (x : Int)) ∧ (((l : Int) + 1 - (q : Int)) * (x : Int)) ≤ 12 * 479001600) := Lib.hid ⟨Int.mul_nonneg (by omega) (by omega), Int.mul_le_mul (by omega) (by omega) (by omega) (by omega)⟩
        have P2 : Hid (0 ≤ ((q : Int) * (y : Int)) ∧ ((q : Int) * (y : Int)) ≤ 12 * 479001600) := Lib.hid ⟨Int.mul_nonneg (by omega) (by omega), Int.mul_le_mul (by omega) (by omega) (by omega) (by omega)⟩
        have PE : Hid ((((l + 1 - q) * x + q * y : Nat) : Int) = (((l : Int) + 1 - (q : Int)) * (x : Int)) + ((q : Int) * (y : Int))) := Lib.hid (by rw [show ((l : Int) + 1 - (q : Int)) = ((l + 1 - q : Nat) : Int) by omega]; push_cast; rfl)
        rw [PE.out]
        obtain ⟨p1, hp1⟩ : ∃ p1, (((l : Int) + 1 - (q : Int)) * (x : Int)) = p1 := ⟨_, rfl⟩
        obtain ⟨p2, hp2⟩ : ∃ p2, ((q : Int) * (y : Int)) = p2 := ⟨_, rfl⟩
        rw [hp1] at P1 ⊢
        rw [hp2] at P2 ⊢
        have HP1 := Lib.hid hp1
        have HP2 := Lib.hid hp2
        clear hp1 hp2 PE
        have HW : Hid (IntKind.i64.wrap ((l : Int) + 1 - (q : Int)) = (l : Int) + 1 - (q : Int)) := Lib.hid (IntWalk.i64_in _ (by omega))
        have hs0 : ((s : Int) + 1 == 0) = false := by simp; omega
        have hf := four_new w ((l : Int) + 1) (q : Int) ((s : Int) + 1) (m : Int) 46
        have hb := below_alloc w (.cells #[.int .i64 ((l : Int) + 1), .int .i64 (q : Int), .int .i64 ((s : Int) + 1), .int .i64 (m : Int)] 46)
        have hz1 : (w.alloc (.cells #[.int .i64 ((l : Int) + 1), .int .i64 (q : Int), .int .i64 ((s : Int) + 1), .int .i64 (m : Int)] 46)).heap.size = w.heap.size + 1 := by simp
        obtain ⟨w1, hw1⟩ : ∃ w1, (w.alloc (.cells #[.int .i64 ((l : Int) + 1), .int .i64 (q : Int), .int .i64 ((s : Int) + 1), .int .i64 (m : Int)] 46)) = w1 := ⟨_, rfl⟩
        rw [hw1] at hf hb hz1
        have HW1 := Lib.hid hw1
        have HF := Lib.hid hf
        have HZ1 := Lib.hid hz1
        clear hw1
        have hf2 := four_new w1 l q s m 46
        have hb2' := hb.alloc (by omega) (.cells #[.int .i64 (l : Int), .int .i64 (q : Int), .int .i64 (s : Int), .int .i64 (m : Int)] 46)
        have hf12 := hf.lift (below_alloc w1 (.cells #[.int .i64 (l : Int), .int .i64 (q : Int), .int .i64 (s : Int), .int .i64 (m : Int)] 46))
        have hfz : ∀ i, (w1.alloc (.cells #[.int .i64 (l : Int), .int .i64 (q : Int), .int .i64 (s : Int), .int .i64 (m : Int)] 46)).frozen? ⟨w1.heap.size, i, none⟩ = false := fun i => World.frozen?_alloc_new w1 _ _ _
        obtain ⟨w2, hw2⟩ : ∃ w2, (w1.alloc (.cells #[.int .i64 (l : Int), .int .i64 (q : Int), .int .i64 (s : Int), .int .i64 (m : Int)] 46)) = w2 := ⟨_, rfl⟩
        rw [hw2] at hf2 hb2' hf12 hfz
        rw [hz1] at hf2 hfz
        have HW2 := Lib.hid hw2
        have HA := Lib.hid hf12
        have HN := Lib.hid hf2
        have HB2 := Lib.hid hb2'
        have HFZ := Lib.hid hfz
        clear hw2 hf hb hz1 hf2 hb2' hf12 hfz
        have HAL := Lib.hid (fun w' (hb : Below w2.drew.heap.size w2.drew w') => And.intro ((show Four w2.drew w.heap.size ((l : Int) + 1) q ((s : Int) + 1) m from HA.out).lift hb) ((show Four w2.drew (w.heap.size + 1) l q s m from HN.out).lift hb))
        have HFA := Lib.hid (fun w' (hb : Below w2.drew.heap.size w2.drew w') => (show ∀ i, w'.frozen? ⟨w.heap.size + 1, i, none⟩ = false from fun i => by rw [World.frozen?_of_block (w := w2.drew) (hb.block _ HN.out.lt)]; exact HFZ.out i))
        go_enter Try.func25, Try.ntmps25
        go_wp2_with fail
        rw [HW1.out]
        refine (HU.out w1).mono ?_
        rintro e w' ⟨rfl, hw'⟩
        rw [hw']
        clear hw'
        obtain ⟨a0, a1, a2, a3⟩ := HF.out
        go_wp2_with fail
        rw [HW2.out, HZ1.out]
        clear a0 a1 a2 a3
        obtain ⟨a0, a1, _, _⟩ := HA.out
        obtain ⟨n0, n1, n2, n3⟩ := HN.out
        go_region_held3 (fun w' => w'.cell? ⟨w.heap.size, 0, none⟩ = some (.int .i64 ((l : Int) + 1)) ∧ w'.cell? ⟨w.heap.size, 1, none⟩ = some (.int .i64 q) ∧ w'.cell? ⟨w.heap.size + 1, 0, none⟩ = some (.int .i64 l) ∧ w'.cell? ⟨w.heap.size + 1, 1, none⟩ = some (.int .i64 q) ∧ w'.cell? ⟨w.heap.size + 1, 2, none⟩ = some (.int .i64 s) ∧ w'.cell? ⟨w.heap.size + 1, 3, none⟩ = some (.int .i64 m)) (first | go_keep | exact k3) (first | (go_at_call 19; (try rw [HW.out]); refine (product2_any _ _ _ _ _ _ (lit2 w3 _ _ _) (by omega) (by rw [HP1.out]; have := P1.out; omega)).mono ?_; rintro e w6 ⟨rfl, rfl⟩; rw [HP1.out]) | (go_at_call 25; refine (HC1.out w2.drew).mono ?_; rintro e w3 ⟨rfl, hb3⟩; have HB3 := Lib.hid hb3; have k3 := And.intro (HAL.out w3 HB3.out).1.1 (And.intro (HAL.out w3 HB3.out).1.2.1 (And.intro (HAL.out w3 HB3.out).2.1 (And.intro (HAL.out w3 HB3.out).2.2.1 (And.intro (HAL.out w3 HB3.out).2.2.2.1 (HAL.out w3 HB3.out).2.2.2.2))))))
        have hb4 := (HB3.out).trans ((below_alloc w3 (.cells #[.int .i64 ((l : Int) + 1 - (q : Int)), .int .i64 x] 3)).mono HB3.out.size)
        have HA4 := Lib.hid (HAL.out _ hb4)
        have HF4 := Lib.hid (HFA.out _ hb4)
        have HB4 := Lib.hid (HB2.out.trans (((Below.refl _ w2).drew.trans hb4).mono HB2.out.size))
        clear hb4 k3 hb3 a0 a1 n0 n1 n2 n3
        obtain ⟨w4, hw4⟩ : ∃ w4, w3.alloc (.cells #[.int .i64 ((l : Int) + 1 - (q : Int)), .int .i64 x] 3) = w4 := ⟨_, rfl⟩
        rw [hw4] at HA4 HB4 HF4 ⊢
        clear hw4
        obtain ⟨n0, n1, n2, n3⟩ := HA4.out.2
        have z1 := HF4.out 1
        have z3 := HF4.out 3
        have HN5 := Lib.hid (four_sub HA4.out.2 ((q : Int) - 1) ((m : Int) - 1))
        have HA5 := Lib.hid (four_off (c := w.heap.size + 1) HA4.out.1 (by omega) (.int .i64 ((q : Int) - 1)) (.int .i64 ((m : Int) - 1)))
        have HB5 := Lib.hid ((HB4.out.setCell (p := ⟨w.heap.size + 1, 1, none⟩) (Nat.le_add_right _ _) (.int .i64 ((q : Int) - 1))).setCell (p := ⟨w.heap.size + 1, 3, none⟩) (Nat.le_add_right _ _) (.int .i64 ((m : Int) - 1)))
        go_wp2_with fail
        obtain ⟨w5, hw5⟩ : ∃ w5, (w4.setCell ⟨w.heap.size + 1, 1, none⟩ (.int .i64 ((q : Int) - 1))).setCell ⟨w.heap.size + 1, 3, none⟩ (.int .i64 ((m : Int) - 1)) = w5 := ⟨_, rfl⟩
        rw [hw5] at HN5 HA5 HB5 ⊢
        clear hw5 n0 n1 n2 n3 z1 z3
        obtain ⟨_, a1, _, _⟩ := HA5.out
        obtain ⟨n0, n1, n2, n3⟩ := HN5.out
        have HAL5 := Lib.hid (fun w' (hb : Below w5.drew.heap.size w5.drew w') => And.intro ((show Four w5.drew w.heap.size ((l : Int) + 1) q ((s : Int) + 1) m from HA5.out).lift hb) ((show Four w5.drew (w.heap.size + 1) l ((q : Int) - 1) s ((m : Int) - 1) from HN5.out).lift hb))
        go_region_held3 (fun w' => w'.cell? ⟨w.heap.size, 1, none⟩ = some (.int .i64 q) ∧ w'.cell? ⟨w.heap.size + 1, 0, none⟩ = some (.int .i64 l) ∧ w'.cell? ⟨w.heap.size + 1, 1, none⟩ = some (.int .i64 ((q : Int) - 1)) ∧ w'.cell? ⟨w.heap.size + 1, 2, none⟩ = some (.int .i64 s) ∧ w'.cell? ⟨w.heap.size + 1, 3, none⟩ = some (.int .i64 ((m : Int) - 1))) (first | go_keep | exact k6) (first | (go_at_call 19; refine (product2_any _ _ _ _ _ _ (lit2 w6 _ _ _) (by omega) (by rw [HP2.out]; have := P2.out; omega)).mono ?_; rintro e w7 ⟨rfl, rfl⟩; rw [HP2.out]) | (go_at_call 25; refine (HC2.out w5.drew).mono ?_; rintro e w6 ⟨rfl, hb6⟩; have HB6 := Lib.hid hb6; have k6 := And.intro (HAL5.out w6 HB6.out).1.2.1 (And.intro (HAL5.out w6 HB6.out).2.1 (And.intro (HAL5.out w6 HB6.out).2.2.1 (And.intro (HAL5.out w6 HB6.out).2.2.2.1 (HAL5.out w6 HB6.out).2.2.2.2)))))
        have HB7 := Lib.hid (HB5.out.trans (((Below.refl _ w5).drew.trans ((HB6.out).trans ((below_alloc w6 (.cells #[.int .i64 (q : Int), .int .i64 y] 3)).mono HB6.out.size))).mono HB5.out.size))
        have q1 := P1.out
        have q2 := P2.out
        clear k6 hb6 a1 n0 n1 n2 n3
        go_wp2
        go_ret
        exact ⟨ret_int (IntWalk.i64_in (p1 + p2) (by omega)), HB7.out⟩
      · have HU := Lib.hid (fun w' => isUp8 b l w' (upTo_no hbl))
        have hr : drwI l b (s + 1) (m + 1) = 0 := if_neg hbl
        rw [hr]
        clear hbl
        go_enter Try.func25, Try.ntmps25
        go_wp2_with fail
        refine (HU.out _).mono ?_
        rintro e w' ⟨rfl, rfl⟩
        go_wp2
        go_ret
        exact ⟨rfl, below_alloc _ _⟩
theorem passingDraws_nat (s l b m : Nat) (w : World) (hl : l ≤ 12) (hb : b ≤ l) (hs : s ≤ l) (hm : m ≤ 13) :
    Calls Try.prog 25 #[.agg #[.int .i64 l, .int .i64 b, .int .i64 s, .int .i64 ((m : Int) - 1)]] w (valN w (.int .i64 (drw l b s m : Nat))) := by
  have h := passingDraws_any s l b m w hl hs hm (by omega) (by omega)
  rw [show drwI l (b : Int) s m = drw l b s m by unfold drwI; rw [if_pos (by omega), Int.toNat_natCast]] at h
  exact h
end Go.Proofs.Ytkebdelfklmigaa
namespace Go.Proofs.Ytkebdelfklmigaa
open Go.RowKit Go.WideShapes
set_option maxRecDepth 100000 in
set_option maxHeartbeats 4000000 in
theorem passByDraws_impl (lot bad size most : Int) (w : World) :
    Calls Try.prog 11 #[.int .i64 lot, .int .i64 bad, .int .i64 size, .int .i64 most] w (FracBP w (passU lot bad size most) (passD lot bad size most) (planB lot bad size most)) := by
  have HV := Lib.hid (fun w' => isValid_any lot bad size most w')
  have ht1 := two_new w (.int .i64 0) (.int .i64 0) 31
  have hb1 := below_alloc w (.cells #[.int .i64 0, .int .i64 0] 31)
  have hz1 : (w.alloc (.cells #[.int .i64 0, .int .i64 0] 31)).heap.size = w.heap.size + 1 := by simp
  obtain ⟨w1, hw1⟩ : ∃ w1, (w.alloc (.cells #[.int .i64 0, .int .i64 0] 31)) = w1 := ⟨_, rfl⟩
  rw [hw1] at ht1 hb1 hz1
  have hf2 := four_new w1 lot bad size most 46
  have ht2 := ht1.lift (below_alloc w1 (.cells #[.int .i64 lot, .int .i64 bad, .int .i64 size, .int .i64 most] 46))
  have hb2 := hb1.alloc (by omega) (.cells #[.int .i64 lot, .int .i64 bad, .int .i64 size, .int .i64 most] 46)
  have hz2 : (w1.alloc (.cells #[.int .i64 lot, .int .i64 bad, .int .i64 size, .int .i64 most] 46)).heap.size = w.heap.size + 2 := by simp; omega
  obtain ⟨w2, hw2⟩ : ∃ w2, (w1.alloc (.cells #[.int .i64 lot, .int .i64 bad, .int .i64 size, .int .i64 most] 46)) = w2 := ⟨_, rfl⟩
  rw [hw2] at hf2 ht2 hb2 hz2
  rw [hz1] at hf2
  have HW1 := Lib.hid hw1
  have HW2 := Lib.hid hw2
  have HT2 := Lib.hid ht2
  have HF2 := Lib.hid hf2
  have HB2 := Lib.hid hb2
  have HS2 := Lib.hid hz2
  clear hw1 hw2 ht1 hb1 hz1 hf2 ht2 hb2 hz2
  have HEND := Lib.hid (fun w' (h : Below w2.heap.size w2 w') (U D : Nat) => And.intro ((((HT2.out.lift h).set0 (.int .i64 U)).set1 (.int .i64 D))) (((HB2.out.trans (h.mono HB2.out.size)).setCell (p := ⟨w.heap.size, 0, none⟩) (Nat.le_refl _) (.int .i64 U)).setCell (p := ⟨w.heap.size, 1, none⟩) (Nat.le_refl _) (.int .i64 D)))
  cases hv : planB lot bad size most
  · obtain ⟨p1, p2, p3, p4⟩ := pass_no hv
    rw [p1, p2]
    rw [hv] at HV
    clear p1 p2 p3 p4 hv
    go_enter Try.func11, Try.ntmps11
    go_wp2_with fail
    rw [HW1.out, HW2.out]
    obtain ⟨a0, a1, a2, a3⟩ := HF2.out
    go_wp2_with fail
    refine (HV.out w2).mono ?_
    rintro e w3 ⟨rfl, hb3⟩
    have HE := Lib.hid (HEND.out w3 hb3 0 0)
    obtain ⟨⟨r0, z0⟩, r1, z1⟩ := HT2.out.lift hb3
    clear a0 a1 a2 a3 hb3
    go_wp2_with fail
    have v0 := HE.out.1.1.1
    have v1 := HE.out.1.2.1
    exact bodyPost_ret (v := .tuple #[.agg #[.int .i64 0, .int .i64 0], .bool false]) (by simp [results, Try.results11, go_sem] at v0 v1 ⊢; simp [go_sem, v0, v1]) rfl ⟨rfl, HE.out.2⟩
  · obtain ⟨l, b, s, m, rfl, rfl, rfl, rfl, h1, h12, hbl, hsl, hm⟩ := plan_get hv
    obtain ⟨p1, p2, p3, p4⟩ := pass_yes hv
    rw [p1, p2]
    obtain ⟨c1, c2⟩ := ch_1 h12 hsl
    obtain ⟨d1, d2, d3, d4, d5⟩ := draws_eq hv
    rw [← p1, ← p2, ← d1, ← d2]
    have HP := Lib.hid (fun w' => passingDraws_nat s l b (m + 1) w' h12 hbl hsl (by omega))
    rw [show (((m + 1 : Nat) : Int) - 1) = (m : Int) by omega] at HP
    have HDF := Lib.hid (downFrom_any l s h12 (by omega))
    have HPR := Lib.hid (fun S a w' (h : IntsAt w' S a s (tab (fun i => (l : Int) - (i : Int)) s)) => product_any S a s s _ (fun k => ((fall l k : Nat) : Int)) w' h rfl (fun k x hx => by obtain ⟨rfl, hk⟩ := tab_get hx; exact fall_step9 (by omega)) (fun k hk => by have := fall_bd l (by omega) k (by omega); omega))
    have HF := Lib.hid (ifrac_any (drw l b s (m + 1)) (fall l s) (by omega) (by omega) (by omega))
    obtain ⟨x, hx⟩ : ∃ x, drw l b s (m + 1) = x := ⟨_, rfl⟩
    obtain ⟨y, hy⟩ : ∃ y, fall l s = y := ⟨_, rfl⟩
    rw [hx] at HP HF d3 ⊢
    rw [hy] at HF d4 d5 ⊢
    obtain ⟨U, hU⟩ : ∃ U, fU x y = U := ⟨_, rfl⟩
    obtain ⟨D, hD⟩ : ∃ D, fD x y = D := ⟨_, rfl⟩
    rw [hU, hD] at HF ⊢
    have HY := Lib.hid hy
    clear hU hD hx hy d1 d2
    rw [hv] at HV
    clear hv p1 p2 p3 p4
    go_enter Try.func11, Try.ntmps11
    go_wp2_with fail
    rw [HW1.out, HW2.out]
    obtain ⟨a0, a1, a2, a3⟩ := HF2.out
    go_wp2_with fail
    refine (HV.out w2).mono ?_
    rintro e w3 ⟨rfl, hb3⟩
    have HB3 := Lib.hid hb3
    clear a0 a1 a2 a3 hb3
    obtain ⟨a0, a1, a2, a3⟩ := HF2.out.lift HB3.out
    go_wp2_with fail
    refine (HP.out w3).mono ?_
    rintro e w4 ⟨rfl, hb4⟩
    have HB4 := Lib.hid (HB3.out.trans (hb4.mono HB3.out.size))
    clear a0 a1 a2 a3 hb4
    go_wp2_with fail
    refine (HDF.out w4).mono ?_
    rintro e w5 ⟨rfl, hi5, hb5⟩
    have HI5 := Lib.hid hi5
    have HB5 := Lib.hid (HB4.out.trans (hb5.mono HB4.out.size))
    clear hi5 hb5
    go_wp2_with fail
    refine (HPR.out _ _ w5 HI5.out).mono ?_
    rintro e w' ⟨rfl, rfl⟩
    rw [HY.out]
    go_wp2_with fail
    refine (HF.out w').mono ?_
    rintro e w6 ⟨rfl, hb6⟩
    have HB6 := Lib.hid (HB5.out.trans (hb6.mono HB5.out.size))
    clear hb6
    have HE := Lib.hid (HEND.out w6 HB6.out U D)
    obtain ⟨⟨r0, z0⟩, r1, z1⟩ := HT2.out.lift HB6.out
    go_wp2_with fail
    have v0 := HE.out.1.1.1
    have v1 := HE.out.1.2.1
    exact bodyPost_ret (v := .tuple #[.agg #[.int .i64 U, .int .i64 D], .bool true]) (by simp [results, Try.results11, go_sem, v0, v1]) rfl ⟨rfl, HE.out.2⟩
end Go.Proofs.Ytkebdelfklmigaa
