import Derived.Test.YtkjmpkincaainabRows
import Derived.Test.YtkjmpkincaainabSampM
import Derived.Test.YtkjmpkincaainabFrac8
namespace Go.Proofs.Ytkjmpkincaainab

theorem psum_draw {b g s : Nat} (hb : b + g ≤ 12) (hs : s < g + b) : ∀ m, m ≤ 13 → psum (g + b) b (s + 1) m * (s + 1) = g * psum (g + b - 1) b s m + b * psum (g + b - 1) (b - 1) s (m - 1) := by
  intro m
  induction m with
  | zero => intro _; simp [psum]
  | succ m ih =>
    intro hm
    have h1 := ih (by omega)
    have h2 := trm_draw b (by omega) g (by omega) s hs m (by omega)
    show (psum (g + b) b (s + 1) m + trm (g + b) b (s + 1) m) * (s + 1) = g * (psum (g + b - 1) b s m + trm (g + b - 1) b s m) + b * psum (g + b - 1) (b - 1) s m
    rw [Nat.add_mul, h1, h2, Nat.mul_add]
    cases m with
    | zero => simp [psum]
    | succ j =>
      rw [if_neg (Nat.succ_ne_zero j), Nat.add_sub_cancel, show psum (g + b - 1) (b - 1) s (j + 1) = psum (g + b - 1) (b - 1) s j + trm (g + b - 1) (b - 1) s j from rfl, Nat.mul_add]
      omega
/-- orders of draws with less than m bad ones -/
def drw (lot bad size m : Nat) : Nat := psum lot bad size m * fa size
theorem drw_step {b g s m : Nat} (hb : b + g ≤ 12) (hs : s < g + b) (hm : m ≤ 13) : drw (g + b) b (s + 1) m = g * drw (g + b - 1) b s m + b * drw (g + b - 1) (b - 1) s (m - 1) := by
  unfold drw
  rw [show fa (s + 1) = (s + 1) * fa s from rfl, ← Nat.mul_assoc, psum_draw hb hs m hm, Nat.add_mul, Nat.mul_assoc, Nat.mul_assoc]
theorem trm_over {lot bad size k : Nat} (hl : lot ≤ 12) (hb : bad ≤ lot) (hk : bad < k) (hk2 : k ≤ 12) : trm lot bad size k = 0 := by
  unfold trm
  split
  · rw [ch_over bad (by omega) k (by omega) hk, Nat.zero_mul]
  · rfl
theorem psum_mono {lot bad size : Nat} : ∀ {d m : Nat}, psum lot bad size m ≤ psum lot bad size (m + d) := by
  intro d
  induction d with
  | zero => intro m; exact Nat.le_refl _
  | succ d ih => intro m; exact Nat.le_trans ih (by rw [← Nat.add_assoc]; exact Nat.le_add_right _ _)
theorem psum_past {lot bad size : Nat} (hl : lot ≤ 12) (hb : bad ≤ lot) : ∀ d, bad + 1 + d ≤ 13 → psum lot bad size (bad + 1 + d) = psum lot bad size (bad + 1) ∧ bsum lot bad size (bad + 1 + d) = bsum lot bad size (bad + 1) := by
  intro d
  induction d with
  | zero => intro _; exact ⟨rfl, rfl⟩
  | succ d ih =>
    intro h
    obtain ⟨h1, h2⟩ := ih (by omega)
    have e : trm lot bad size (bad + 1 + d) = 0 := trm_over hl hb (by omega) (by omega)
    rw [← Nat.add_assoc]
    simp only [psum, bsum, e, h1, h2, Nat.zero_mul, Nat.add_zero, and_self]
theorem psum_min {lot bad size most : Nat} (hl : lot ≤ 12) (hb : bad ≤ lot) (hm : most ≤ 12) : psum lot bad size (min most bad + 1) = psum lot bad size (most + 1) ∧ bsum lot bad size (min most bad + 1) = bsum lot bad size (most + 1) := by
  rcases Nat.le_total most bad with h | h
  · rw [Nat.min_eq_left h]; exact ⟨rfl, rfl⟩
  · rw [Nat.min_eq_right h]
    obtain ⟨h1, h2⟩ := psum_past (size := size) hl hb (most - bad) (by omega)
    rw [show most + 1 = bad + 1 + (most - bad) by omega, h1, h2]; exact ⟨rfl, rfl⟩
theorem psum_le {lot bad size m : Nat} (hl : lot ≤ 12) (hb : bad ≤ lot) (hs : size ≤ lot) (hm : m ≤ 13) : psum lot bad size m ≤ ch lot size := by
  have h1 := (psum_past (size := size) hl hb (12 - bad) (by omega)).1
  rw [show bad + 1 + (12 - bad) = 13 by omega] at h1
  have h2 := (psum_all lot (by omega) bad (by omega) size (by omega)).1
  have h3 := @psum_mono lot bad size (13 - m) m
  rw [show m + (13 - m) = 13 by omega] at h3
  omega
theorem psum_over {lot bad size most : Nat} (hl : lot ≤ 12) (hb : bad ≤ lot) (hs : size ≤ lot) (hm : most ≤ 12) (hbm : bad ≤ most) : psum lot bad size (most + 1) = ch lot size := by
  have h1 := (psum_past (size := size) hl hb (most - bad) (by omega)).1
  rw [show bad + 1 + (most - bad) = most + 1 by omega] at h1
  rw [h1]; exact (psum_all lot (by omega) bad (by omega) size (by omega)).1
theorem bsum_le {lot bad size : Nat} : ∀ m, bsum lot bad size m ≤ bad * psum lot bad size m := by
  intro m
  induction m with
  | zero => simp [bsum, psum]
  | succ m ih =>
    simp only [bsum, psum, Nat.mul_add]
    have : trm lot bad size m * (bad - m) ≤ bad * trm lot bad size m := by rw [Nat.mul_comm]; exact Nat.mul_le_mul_right _ (Nat.sub_le _ _)
    omega
theorem psum_turn {lot bad size : Nat} (hl : lot ≤ 12) (hb : bad ≤ lot) (hs : size ≤ lot) : ∀ m, m ≤ 13 → psum lot bad size m * ch lot bad = psum lot size bad m * ch lot size := by
  intro m
  induction m with
  | zero => intro _; simp [psum]
  | succ m ih => intro h; simp only [psum, Nat.add_mul, ih (by omega), trm_turn lot (by omega) bad (by omega) size (by omega) m (by omega)]
theorem trm_none {lot bad k : Nat} (hl : lot ≤ 12) (hb : bad ≤ lot) : trm lot bad 0 k = if k = 0 then 1 else 0 := by
  unfold trm
  by_cases h : k = 0
  · subst h
    rw [if_pos (Nat.le_refl _), if_pos rfl, ch_zero bad (by omega), Nat.sub_zero, ch_zero _ (by omega)]
  · rw [if_neg (by omega), if_neg h]
theorem psum_none {lot bad : Nat} (hl : lot ≤ 12) (hb : bad ≤ lot) : ∀ m, psum lot bad 0 (m + 1) = 1 ∧ bsum lot bad 0 (m + 1) = bad := by
  intro m
  induction m with
  | zero => simp [psum, bsum, trm_none hl hb]
  | succ m ih =>
    have e : trm lot bad 0 (m + 1) = 0 := by rw [trm_none hl hb]; simp
    exact ⟨by rw [psum, ih.1, e], by rw [bsum, ih.2, e, Nat.zero_mul, Nat.add_zero]⟩

-- fractions
theorem f_scale {g T C : Nat} (hg : 1 ≤ g) : fU (g * T) (g * C) = fU T C ∧ fD (g * T) (g * C) = fD T C := by
  unfold fU fD
  rw [Nat.gcd_mul_left, Nat.mul_div_mul_left _ _ hg, Nat.mul_div_mul_left _ _ hg]
  exact ⟨rfl, rfl⟩
theorem f_mul {T C : Nat} (hC : 1 ≤ C) : ∃ g, 1 ≤ g ∧ g * fU T C = T ∧ g * fD T C = C := by
  refine ⟨Nat.gcd T C, (gcd_le8 hC).1, ?_, ?_⟩
  · exact Nat.mul_div_cancel' (Nat.gcd_dvd_left T C)
  · exact Nat.mul_div_cancel' (Nat.gcd_dvd_right T C)
theorem f_bd {T C : Nat} (hC : 1 ≤ C) : fU T C ≤ T ∧ fD T C ≤ C ∧ 1 ≤ fD T C := ⟨Nat.div_le_self _ _, Nat.div_le_self _ _, (gcd_div hC).1⟩
theorem f_eq {T C T' C' : Nat} (hC : 1 ≤ C) (hC' : 1 ≤ C') (h : T * C' = T' * C) : fU T C = fU T' C' ∧ fD T C = fD T' C' := by
  have a := @f_scale C' T C hC'
  have b := @f_scale C T' C' hC
  rw [show C' * T = C * T' by rw [Nat.mul_comm C', h, Nat.mul_comm], Nat.mul_comm C' C] at a
  exact ⟨a.1.symm.trans b.1, a.2.symm.trans b.2⟩
theorem f_plus {T T' C : Nat} (hC : 1 ≤ C) : fU (fU T C * fD T' C + fU T' C * fD T C) (fD T C * fD T' C) = fU (T + T') C ∧ fD (fU T C * fD T' C + fU T' C * fD T C) (fD T C * fD T' C) = fD (T + T') C := by
  obtain ⟨g, hg, e1, e2⟩ := @f_mul T C hC
  obtain ⟨g', hg', e3, e4⟩ := @f_mul T' C hC
  have h0 := @f_scale (g * g') (fU T C * fD T' C + fU T' C * fD T C) (fD T C * fD T' C) (Nat.mul_pos hg hg')
  have x1 : g * g' * (fU T C * fD T' C + fU T' C * fD T C) = C * (T + T') := by
    calc g * g' * (fU T C * fD T' C + fU T' C * fD T C) = (g * fU T C) * (g' * fD T' C) + (g' * fU T' C) * (g * fD T C) := by
          rw [Nat.mul_add]
          congr 1
          · ac_rfl
          · ac_rfl
      _ = C * (T + T') := by rw [e1, e2, e3, e4, Nat.mul_add, Nat.mul_comm T, Nat.mul_comm T']
  have x2 : g * g' * (fD T C * fD T' C) = C * C := by
    calc g * g' * (fD T C * fD T' C) = (g * fD T C) * (g' * fD T' C) := by ac_rfl
      _ = C * C := by rw [e2, e4]
  rw [x1, x2] at h0
  have h1 := @f_scale C (T + T') C hC
  exact ⟨h0.1.symm.trans h1.1, h0.2.symm.trans h1.2⟩
theorem f_times {T C n : Nat} (hC : 1 ≤ C) : fU (fU T C * n) (fD T C) = fU (T * n) C ∧ fD (fU T C * n) (fD T C) = fD (T * n) C := by
  obtain ⟨g, hg, e1, e2⟩ := @f_mul T C hC
  have h0 := @f_scale g (fU T C * n) (fD T C) hg
  rw [← Nat.mul_assoc, e1, e2] at h0
  exact ⟨h0.1.symm, h0.2.symm⟩
theorem f_le {T C T' C' : Nat} (hC : 1 ≤ C) (hC' : 1 ≤ C') : fU T C * fD T' C' ≤ fU T' C' * fD T C ↔ T * C' ≤ T' * C := by
  obtain ⟨g, hg, e1, e2⟩ := @f_mul T C hC
  obtain ⟨g', hg', e3, e4⟩ := @f_mul T' C' hC'
  have x1 : (g * g') * (fU T C * fD T' C') = T * C' := by
    calc (g * g') * (fU T C * fD T' C') = (g * fU T C) * (g' * fD T' C') := by ac_rfl
      _ = _ := by rw [e1, e4]
  have x2 : (g * g') * (fU T' C' * fD T C) = T' * C := by
    calc (g * g') * (fU T' C' * fD T C) = (g' * fU T' C') * (g * fD T C) := by ac_rfl
      _ = _ := by rw [e2, e3]
  rw [← x1, ← x2]
  exact ⟨fun h => Nat.mul_le_mul_left _ h, fun h => Nat.le_of_mul_le_mul_left h (Nat.mul_pos hg hg')⟩
theorem f_one {C : Nat} (hC : 1 ≤ C) : fU C C = 1 ∧ fD C C = 1 := by
  unfold fU fD
  rw [Nat.gcd_self, Nat.div_self hC]; exact ⟨rfl, rfl⟩
theorem f_zero {C : Nat} (hC : 1 ≤ C) : fU 0 C = 0 ∧ fD 0 C = 1 := by
  unfold fU fD
  rw [Nat.gcd_zero_left, Nat.div_self hC, Nat.zero_div]; exact ⟨rfl, rfl⟩
theorem f_int {n : Nat} : fU n 1 = n ∧ fD n 1 = 1 := by
  unfold fU fD
  rw [Nat.gcd_one_right, Nat.div_one]; exact ⟨rfl, rfl⟩
end Go.Proofs.Ytkjmpkincaainab
