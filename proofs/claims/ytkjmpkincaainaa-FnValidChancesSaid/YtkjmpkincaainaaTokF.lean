import Derived.Test.YtkjmpkincaainaaTokP
namespace Go.Proofs.Ytkjmpkincaainaa

-- the pace (plain)
/-- U by D is the greatest of the pairs, 0 by 1 if all are 0 -/
structure IsGr (U D : Nat) (Q : Int → Nat → Prop) : Prop where
  d1 : 1 ≤ D
  u36 : U ≤ 36
  d12 : D ≤ 12
  cop : Nat.gcd U D = 1
  all : ∀ T C, Q T C → T * (D : Int) ≤ (U : Int) * (C : Int)
  one : (U = 0 ∧ D = 1) ∨ ∃ T C, Q T C ∧ 1 ≤ C ∧ T * (D : Int) = (U : Int) * (C : Int)
theorem frac_trans {T U1 D1 C U2 D2 : Int} (h1 : T * D1 ≤ U1 * C) (h2 : U1 * D2 ≤ U2 * D1) (hC : 0 ≤ C) (hD1 : 0 < D1) (hD2 : 0 ≤ D2) : T * D2 ≤ U2 * C := by
  have a1 : T * D1 * D2 ≤ U1 * C * D2 := Int.mul_le_mul_of_nonneg_right h1 hD2
  have a2 : U1 * D2 * C ≤ U2 * D1 * C := Int.mul_le_mul_of_nonneg_right h2 hC
  refine Int.le_of_mul_le_mul_right ?_ hD1
  calc T * D2 * D1 = T * D1 * D2 := by rw [Int.mul_assoc, Int.mul_comm D2, ← Int.mul_assoc]
    _ ≤ U1 * C * D2 := a1
    _ = U1 * D2 * C := by rw [Int.mul_assoc, Int.mul_comm C, ← Int.mul_assoc]
    _ ≤ U2 * D1 * C := a2
    _ = U2 * C * D1 := by rw [Int.mul_assoc, Int.mul_comm D1, ← Int.mul_assoc]
theorem gr_zero {Q : Int → Nat → Prop} (h : ∀ T C, ¬ Q T C) : IsGr 0 1 Q := ⟨by omega, by omega, by omega, by decide, fun T C hq => absurd hq (h T C), .inl ⟨rfl, rfl⟩⟩
theorem gr_left {U D U' D' : Nat} {Q Q' R : Int → Nat → Prop} (h : IsGr U D Q) (h' : IsGr U' D' Q') (hl : ¬ (U : Int) * D' < (U' : Int) * D) (hR : ∀ T C, R T C ↔ Q T C ∨ Q' T C) : IsGr U D R := by
  refine ⟨h.d1, h.u36, h.d12, h.cop, fun T C hq => ?_, ?_⟩
  · rcases (hR T C).1 hq with hq | hq
    · exact h.all T C hq
    · exact frac_trans (h'.all T C hq) (by omega) (by omega) (by have := h'.d1; omega) (by omega)
  · rcases h.one with e | ⟨T, C, hq, e⟩
    · exact .inl e
    · exact .inr ⟨T, C, (hR T C).2 (.inl hq), e⟩
theorem gr_right {U D U' D' : Nat} {Q Q' R : Int → Nat → Prop} (h : IsGr U D Q) (h' : IsGr U' D' Q') (hl : (U : Int) * D' < (U' : Int) * D) (hR : ∀ T C, R T C ↔ Q T C ∨ Q' T C) : IsGr U' D' R := by
  refine ⟨h'.d1, h'.u36, h'.d12, h'.cop, fun T C hq => ?_, ?_⟩
  · rcases (hR T C).1 hq with hq | hq
    · exact frac_trans (h.all T C hq) (by omega) (by omega) (by have := h.d1; omega) (by omega)
    · exact h'.all T C hq
  · rcases h'.one with e | ⟨T, C, hq, e⟩
    · exact .inl e
    · exact .inr ⟨T, C, (hR T C).2 (.inr hq), e⟩
theorem gr_congr {U D : Nat} {Q R : Int → Nat → Prop} (h : IsGr U D Q) (hR : ∀ T C, R T C ↔ Q T C) : IsGr U D R := by
  refine ⟨h.d1, h.u36, h.d12, h.cop, fun T C hq => h.all T C ((hR T C).1 hq), ?_⟩
  rcases h.one with e | ⟨T, C, hq, e⟩
  · exact .inl e
  · exact .inr ⟨T, C, (hR T C).2 hq, e⟩
theorem gcd_div {T C : Nat} (hC : 1 ≤ C) : 1 ≤ C / Nat.gcd T C ∧ Nat.gcd (T / Nat.gcd T C) (C / Nat.gcd T C) = 1 ∧ T * (C / Nat.gcd T C) = T / Nat.gcd T C * C := by
  have hg : 0 < Nat.gcd T C := Nat.gcd_pos_of_pos_right _ hC
  obtain ⟨a, ha⟩ := Nat.gcd_dvd_left T C
  obtain ⟨b, hb⟩ := Nat.gcd_dvd_right T C
  refine ⟨?_, ?_, ?_⟩
  · exact Nat.div_pos (Nat.le_of_dvd hC (Nat.gcd_dvd_right T C)) hg
  · exact Nat.coprime_div_gcd_div_gcd hg
  · have e1 : T / Nat.gcd T C = a := Nat.div_eq_of_eq_mul_right hg ha
    have e2 : C / Nat.gcd T C = b := Nat.div_eq_of_eq_mul_right hg hb
    rw [e1, e2]
    calc T * b = Nat.gcd T C * a * b := by rw [← ha]
      _ = a * (Nat.gcd T C * b) := by rw [Nat.mul_comm (Nat.gcd T C) a, Nat.mul_assoc]
      _ = a * C := by rw [← hb]
theorem gr_one {T C : Nat} (hT : T ≤ 36) (hC : 1 ≤ C) (hC2 : C ≤ 12) : IsGr (T / Nat.gcd T C) (C / Nat.gcd T C) (fun t c => t = (T : Int) ∧ c = C) := by
  obtain ⟨h1, h2, h3⟩ := gcd_div (T := T) hC
  have h4 : (T : Int) * ((C / Nat.gcd T C : Nat) : Int) = ((T / Nat.gcd T C : Nat) : Int) * (C : Int) := by exact_mod_cast h3
  refine ⟨h1, Nat.le_trans (Nat.div_le_self _ _) hT, Nat.le_trans (Nat.div_le_self _ _) hC2, h2, ?_, .inr ⟨T, C, ⟨rfl, rfl⟩, hC, h4⟩⟩
  rintro t c ⟨rfl, rfl⟩
  exact Int.le_of_eq h4
/-- the pace of a net: in lowest terms, kept, and nothing less is kept -/
structure IsPace (g : Gr) (U D : Nat) : Prop where
  d1 : 1 ≤ D
  u36 : U ≤ 36
  d12 : D ≤ 12
  cop : Nat.gcd U D = 1
  kept : g.keeps U D
  least : ∀ up down : Int, 0 ≤ up → 1 ≤ down → g.keeps up down → (U : Int) * down ≤ up * (D : Int)
theorem pace_of {g : Gr} (hg : g.Ok) {rk : Nat → Nat} (hr : g.Rank rk) {U D : Nat} {Q : Int → Nat → Prop} (h : IsGr U D Q) (h1 : ∀ T C, g.Rounds T C → Q T C) (h2 : ∀ T C, Q T C → g.RoundsA T C) : IsPace g U D := by
  refine ⟨h.d1, h.u36, h.d12, h.cop, ?_, fun up down hu hd hk => ?_⟩
  · refine Classical.byContradiction fun hn => ?_
    obtain ⟨T, C, hq, hp⟩ := rounds_of_not hg hn
    have := h.all T C (h1 T C hq)
    rw [Int.mul_comm T] at this
    omega
  · rcases h.one with ⟨rfl, rfl⟩ | ⟨T, C, hq, hC, e⟩
    · simp; exact hu
    · obtain ⟨s, _, hb⟩ := h2 T C hq
      obtain ⟨p, hp⟩ := hk
      have h3 := back_pot hp hb
      have h4 : T * down ≤ up * (C : Int) := by rw [Int.mul_comm T]; omega
      have hC0 : (0 : Int) < (C : Int) := by omega
      refine Int.le_of_mul_le_mul_right ?_ hC0
      calc (U : Int) * down * C = (U : Int) * C * down := by rw [Int.mul_assoc, Int.mul_comm down, ← Int.mul_assoc]
        _ = T * (D : Int) * down := by rw [e]
        _ = T * down * (D : Int) := by rw [Int.mul_assoc, Int.mul_comm (D : Int), ← Int.mul_assoc]
        _ ≤ up * (C : Int) * (D : Int) := Int.mul_le_mul_of_nonneg_right h4 (by omega)
        _ = up * (D : Int) * (C : Int) := by rw [Int.mul_assoc, Int.mul_comm (C : Int), ← Int.mul_assoc]
theorem rounds_pos {g : Gr} {rk : Nat → Nat} (hr : g.Rank rk) {T : Int} {C : Nat} (h : g.RoundsA T C) : 1 ≤ C := by
  obtain ⟨s, _, hb⟩ := h
  rcases Nat.eq_zero_or_pos C with e | e
  · have := back_rank hr hb e; omega
  · exact e
theorem cop_unique {U D U' D' : Nat} (h1 : Nat.gcd U D = 1) (h2 : Nat.gcd U' D' = 1) (hD : 1 ≤ D) (he : U * D' = U' * D) : U = U' ∧ D = D' := by
  have a1 : D ∣ D' := Nat.Coprime.dvd_of_dvd_mul_left (k := D) (m := U) (by rw [Nat.Coprime, Nat.gcd_comm]; exact h1) ⟨U', by rw [he, Nat.mul_comm]⟩
  have a2 : D' ∣ D := Nat.Coprime.dvd_of_dvd_mul_left (k := D') (m := U') (by rw [Nat.Coprime, Nat.gcd_comm]; exact h2) ⟨U, by rw [← he, Nat.mul_comm]⟩
  have e : D = D' := Nat.dvd_antisymm a1 a2
  subst e
  exact ⟨Nat.eq_of_mul_eq_mul_right (by omega) he, rfl⟩
theorem pace_unique {g : Gr} {U D U' D' : Nat} (h : IsPace g U D) (h' : IsPace g U' D') : U = U' ∧ D = D' := by
  have a1 := h.least _ _ (by omega) (by have := h'.d1; omega) h'.kept
  have a2 := h'.least _ _ (by omega) (by have := h.d1; omega) h.kept
  refine cop_unique h.cop h'.cop h.d1 ?_
  have : (U : Int) * (D' : Int) = (U' : Int) * (D : Int) := by omega
  exact_mod_cast this
/-- a pace is kept at any scale -/
theorem keeps_scale {g : Gr} {up down k : Int} (hk : 0 < k) : g.keeps (k * up) (k * down) ↔ g.keeps up down := by
  constructor
  · rintro ⟨p, hp⟩
    refine ⟨fun v => p v / k, fun q hq => ?_⟩
    have h := hp q hq
    have e : g.w (k * up) (k * down) q = g.w up down q * k := by
      unfold Gr.w
      rw [Int.sub_mul, Int.mul_assoc, Int.mul_assoc, Int.mul_comm k, Int.mul_comm k]
    rw [e] at h
    have h2 := Int.ediv_le_ediv hk h
    rw [Int.add_mul_ediv_right _ _ (by omega)] at h2
    exact h2
  · rintro ⟨p, hp⟩
    refine ⟨fun v => k * p v, fun q hq => ?_⟩
    have h := Int.mul_le_mul_of_nonneg_left (hp q hq) (Int.le_of_lt hk)
    have e : g.w (k * up) (k * down) q = k * g.w up down q := by
      unfold Gr.w
      rw [Int.mul_sub, Int.mul_assoc, Int.mul_assoc]
    rw [e, ← Int.mul_add]
    exact h
theorem keeps_slower {g : Gr} {up up' down : Int} (h : g.keeps up down) (hu : up ≤ up') : g.keeps up' down := by
  obtain ⟨p, hp⟩ := h
  refine ⟨p, fun k hk => ?_⟩
  have := hp k hk
  have h2 : up * (g.c k : Int) ≤ up' * (g.c k : Int) := Int.mul_le_mul_of_nonneg_right hu (by omega)
  unfold Gr.w at this ⊢
  omega
/-- kept exactly if the pace is at most it -/
theorem pace_keeps {g : Gr} {U D : Nat} (h : IsPace g U D) {up down : Int} (hu : 0 ≤ up) (hd : 1 ≤ down) : g.keeps up down ↔ (U : Int) * down ≤ up * (D : Int) := by
  refine ⟨h.least up down hu hd, fun hle => ?_⟩
  have hD : (0 : Int) < (D : Int) := by have := h.d1; omega
  refine (keeps_scale hD).1 ?_
  have h1 := (keeps_scale (g := g) (up := (U : Int)) (down := (D : Int)) (k := down) (by omega)).2 h.kept
  rw [Int.mul_comm (D : Int) down]
  refine keeps_slower h1 ?_
  rw [Int.mul_comm down, Int.mul_comm (D : Int)]
  exact hle
/-- nothing less is kept -/
theorem pace_less {g : Gr} (hg : g.Ok) {U D : Nat} (h : IsPace g U D) (hU : 1 ≤ U) : g.keepB ((U : Int) - 1) D = false := by
  refine Bool.eq_false_iff.2 fun hk => ?_
  have h1 := h.least _ _ (by omega) (by have := h.d1; omega) ((keepB_iff hg).1 hk)
  have h2 := h.d1
  rw [Int.sub_mul] at h1
  omega
theorem pace_kept {g : Gr} (hg : g.Ok) {U D : Nat} (h : IsPace g U D) : g.keepB U D = true := (keepB_iff hg).2 h.kept
/-- with more tokens the pace is no more -/
theorem pace_more {g h : Gr} (em : h.m = g.m) (ef : ∀ k, k < g.m → h.f k = g.f k ∧ h.t k = g.t k ∧ g.c k ≤ h.c k) (et : ∀ v, h.tm v = g.tm v) {U D U' D' : Nat} (hp : IsPace g U D) (hp' : IsPace h U' D') : (U' : Int) * D ≤ (U : Int) * D' := by
  refine hp'.least U D (by omega) (by have := hp.d1; omega) ?_
  obtain ⟨p, hq⟩ := hp.kept
  refine ⟨p, fun k hk => ?_⟩
  rw [em] at hk
  obtain ⟨e1, e2, e3⟩ := ef k hk
  have h1 := hq k hk
  have h2 : (U : Int) * (g.c k : Int) ≤ (U : Int) * (h.c k : Int) := Int.mul_le_mul_of_nonneg_left (by omega) (by omega)
  unfold Gr.w at h1 ⊢
  rw [e1, e2, et]
  omega
/-- by the pace none begins too late -/
theorem b_pace {g : Gr} (hg : g.Ok) {rk : Nat → Nat} (hr : g.Rank rk) {U D : Nat} (h : IsPace g U D) : ∀ r v, r ≤ 40 → v < g.n → g.b r v * (D : Int) ≤ (U : Int) * (r : Int) + (D : Int) * sm g.tm g.n := by
  intro r v h40 hv
  have hk := h.kept
  have hD : (1 : Int) ≤ (D : Int) := by have := h.d1; omega
  have key : g.b r v ≤ ((U : Int) * (r : Int) + g.D U D g.n v) / (D : Int) := by
    refine b_le hg hr (fun r v => ((U : Int) * (r : Int) + g.D U D g.n v) / (D : Int)) (R := 41) (by omega) (fun r v _ _ => ?_) (fun r k hrR hkm hc hi => ?_) r v (by omega) hv
    · refine Int.ediv_nonneg ?_ (by omega)
      have := D_nn (g := g) (up := U) (down := D) g.n v
      have : 0 ≤ (U : Int) * (r : Int) := Int.mul_nonneg (by omega) (by omega)
      omega
    · have h1 := pot_D hg hk k hkm
      have h2 := (Int.le_ediv_iff_mul_le (by omega : (0 : Int) < (D : Int))).1 hi
      refine (Int.le_ediv_iff_mul_le (by omega : (0 : Int) < (D : Int))).2 ?_
      unfold Gr.w at h1
      have e : (((r - g.c k : Nat) : Int)) = (r : Int) - (g.c k : Int) := by omega
      rw [e, Int.mul_sub] at h2
      rw [Int.add_mul, Int.mul_comm (g.tm (g.f k))]
      omega
  have h1 := (Int.le_ediv_iff_mul_le (by omega : (0 : Int) < (D : Int))).1 key
  have h2 := D_total hg hk (by omega) (by omega) hv g.n
  omega
/-- a ring: its pace -/
theorem pace_ring {g : Gr} {n c : Nat} (hn : 0 < n) (hc : 1 ≤ c) (en : g.n = n) (em : g.m = n) (ef : ∀ k, k < n → g.f k = k ∧ g.t k = (k + 1) % n ∧ g.c k = if k = n - 1 then c else 0) {U D : Nat} (hd : 1 ≤ D) (hu : U ≤ 36) (hd2 : D ≤ 12) (hcop : Nat.gcd U D = 1) (he : sm g.tm n * (D : Int) = (U : Int) * (c : Int)) : IsPace g U D := by
  have eq1 : ∀ k, k < n → k ≠ n - 1 → (k + 1) % n = k + 1 := fun k hk hne => Nat.mod_eq_of_lt (by omega)
  have eq2 : (n - 1 + 1) % n = 0 := by rw [Nat.sub_add_cancel hn, Nat.mod_self]
  refine ⟨hd, hu, hd2, hcop, ⟨fun v => (D : Int) * sm g.tm v, fun k hk => ?_⟩, fun up down h0 h1 hk => ?_⟩
  · rw [em] at hk
    obtain ⟨e1, e2, e3⟩ := ef k hk
    unfold Gr.w
    rw [e1, e2, e3]
    by_cases hkn : k = n - 1
    · subst hkn
      rw [eq2, if_pos rfl]
      have : sm g.tm n = sm g.tm (n - 1) + g.tm (n - 1) := by
        obtain ⟨q, rfl⟩ : ∃ q, n = q + 1 := ⟨n - 1, by omega⟩
        rfl
      rw [this, Int.add_mul, Int.mul_comm (sm g.tm (n - 1)), Int.mul_comm (g.tm (n - 1))] at he
      simp only [sm]
      omega
    · rw [eq1 k hk hkn, if_neg hkn]
      simp only [sm, Int.mul_add]
      omega
  · obtain ⟨p, hp⟩ := hk
    have key : ∀ q, q < n → down * sm g.tm q ≤ p q - p 0 := by
      intro q
      induction q with
      | zero => intro _; simp only [sm]; omega
      | succ q ih =>
        intro hq
        have h2 := hp q (by omega)
        obtain ⟨e1, e2, e3⟩ := ef q (by omega)
        unfold Gr.w at h2
        rw [e1, e2, e3, eq1 q (by omega) (by omega), if_neg (by omega)] at h2
        have := ih (by omega)
        simp only [sm, Int.mul_add]
        omega
    have h2 := hp (n - 1) (by omega)
    obtain ⟨e1, e2, e3⟩ := ef (n - 1) (by omega)
    unfold Gr.w at h2
    rw [e1, e2, e3, eq2, if_pos rfl] at h2
    have h3 := key (n - 1) (by omega)
    have h4 : down * sm g.tm n ≤ up * (c : Int) := by
      obtain ⟨q, rfl⟩ : ∃ q, n = q + 1 := ⟨n - 1, by omega⟩
      simp only [Nat.add_sub_cancel] at h2 h3
      simp only [sm, Int.mul_add]
      omega
    have hC0 : (0 : Int) < (c : Int) := by omega
    refine Int.le_of_mul_le_mul_right ?_ hC0
    calc (U : Int) * down * c = (U : Int) * c * down := by rw [Int.mul_assoc, Int.mul_comm down, ← Int.mul_assoc]
      _ = sm g.tm n * (D : Int) * down := by rw [he]
      _ = down * sm g.tm n * (D : Int) := by rw [Int.mul_assoc, Int.mul_comm (D : Int), ← Int.mul_assoc, Int.mul_comm (sm g.tm n)]
      _ ≤ up * (c : Int) * (D : Int) := Int.mul_le_mul_of_nonneg_right h4 (by omega)
      _ = up * (D : Int) * (c : Int) := by rw [Int.mul_assoc, Int.mul_comm (c : Int), ← Int.mul_assoc]
theorem rank_ring {g : Gr} {n c : Nat} (hn : 0 < n) (hc : 1 ≤ c) (en : g.n = n) (em : g.m = n) (ef : ∀ k, k < n → g.f k = k ∧ g.t k = (k + 1) % n ∧ g.c k = if k = n - 1 then c else 0) : g.Rank (fun v => v) := by
  refine ⟨fun v hv => hv, fun k hk h0 => ?_⟩
  show g.f k < g.t k
  rw [em] at hk
  obtain ⟨e1, e2, e3⟩ := ef k hk
  by_cases hkn : k = n - 1
  · rw [e3, if_pos hkn] at h0; omega
  · rw [e1, e2, Nat.mod_eq_of_lt (by omega)]; omega
theorem sm_total (ts : List Int) : sm (fun v => ts.getD v 0) ts.length = ts.foldl (· + ·) 0 := by
  have key : ∀ (n : Nat), n ≤ ts.length → sm (fun v => ts.getD v 0) n = (ts.take n).foldl (· + ·) 0 := by
    intro n
    induction n with
    | zero => intro _; simp [sm]
    | succ n ih =>
      intro h
      have hx : ts[n]? = some (ts.getD n 0) := get_getD (by omega)
      rw [List.take_add_one, hx, List.foldl_append, ← ih (by omega)]
      rfl
  have := key ts.length (Nat.le_refl _)
  rwa [List.take_length] at this
end Go.Proofs.Ytkjmpkincaainaa
