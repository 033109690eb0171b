import Derived.Test.YtkjmpkincaainadM3
import Derived.Test.YtkjmpkincaainadRows
import Derived.WalkKit
import Derived.LoopTactic
import Derived.Outline
import Derived.WalkSpells
import Derived.WalkLawsBesides
import Derived.Deep.QuietTactic
import Derived.BigQuiet
import Derived.IntWalk
import Derived.Test.YtkjmpkincaainadM0
import Derived.ProofKit
import Derived.Test.YtkjmpkincaainadM1
import Derived.Lib.Hide
import Derived.Test.YtkjmpkincaainadM2
namespace Go.Proofs.Ytkjmpkincaainad

-- the pace (plain)
/-- U by D is the greatest of the pairs, 0 by 1 if all are 0 -/
structure IsGr (U D : Nat) (Q : Int → Nat → Prop) : Prop where
  d1 : 1 ≤ D
  u36 : U ≤ 36
  d12 : D ≤ 12
  cop : Nat.gcd U D = 1
  all : ∀ T C, Q T C → T * (D : Int) ≤ (U : Int) * (C : Int)
  one : (U = 0 ∧ D = 1) ∨ ∃ T C, Q T C ∧ 1 ≤ C ∧ T * (D : Int) = (U : Int) * (C : Int)
theorem frac_trans {T U1 D1 C U2 D2 : Int} (h1 : T * D1 ≤ U1 * C) (h2 : U1 * D2 ≤ U2 * D1) (hC : 0 ≤ C) (hD1 : 0 < D1) (hD2 : 0 ≤ D2) : T * D2 ≤ U2 * C := by
  have a1 : T * D1 * D2 ≤ U1 * C * D2 := Int.mul_le_mul_of_nonneg_right h1 hD2
  have a2 : U1 * D2 * C ≤ U2 * D1 * C := Int.mul_le_mul_of_nonneg_right h2 hC
  refine Int.le_of_mul_le_mul_right ?_ hD1
  calc T * D2 * D1 = T * D1 * D2 := by rw [Int.mul_assoc, Int.mul_comm D2, ← Int.mul_assoc]
    _ ≤ U1 * C * D2 := a1
    _ = U1 * D2 * C := by rw [Int.mul_assoc, Int.mul_comm C, ← Int.mul_assoc]
    _ ≤ U2 * D1 * C := a2
    _ = U2 * C * D1 := by rw [Int.mul_assoc, Int.mul_comm D1, ← Int.mul_assoc]
theorem gr_zero {Q : Int → Nat → Prop} (h : ∀ T C, ¬ Q T C) : IsGr 0 1 Q := ⟨by omega, by omega, by omega, by decide, fun T C hq => absurd hq (h T C), .inl ⟨rfl, rfl⟩⟩
theorem gr_left {U D U' D' : Nat} {Q Q' R : Int → Nat → Prop} (h : IsGr U D Q) (h' : IsGr U' D' Q') (hl : ¬ (U : Int) * D' < (U' : Int) * D) (hR : ∀ T C, R T C ↔ Q T C ∨ Q' T C) : IsGr U D R := by
  refine ⟨h.d1, h.u36, h.d12, h.cop, fun T C hq => ?_, ?_⟩
  · rcases (hR T C).1 hq with hq | hq
    · exact h.all T C hq
    · exact frac_trans (h'.all T C hq) (by omega) (by omega) (by have := h'.d1; omega) (by omega)
  · rcases h.one with e | ⟨T, C, hq, e⟩
    · exact .inl e
    · exact .inr ⟨T, C, (hR T C).2 (.inl hq), e⟩
theorem gr_right {U D U' D' : Nat} {Q Q' R : Int → Nat → Prop} (h : IsGr U D Q) (h' : IsGr U' D' Q') (hl : (U : Int) * D' < (U' : Int) * D) (hR : ∀ T C, R T C ↔ Q T C ∨ Q' T C) : IsGr U' D' R := by
  refine ⟨h'.d1, h'.u36, h'.d12, h'.cop, fun T C hq => ?_, ?_⟩
  · rcases (hR T C).1 hq with hq | hq
    · exact frac_trans (h.all T C hq) (by omega) (by omega) (by have := h.d1; omega) (by omega)
    · exact h'.all T C hq
  · rcases h'.one with e | ⟨T, C, hq, e⟩
    · exact .inl e
    · exact .inr ⟨T, C, (hR T C).2 (.inr hq), e⟩
theorem gr_congr {U D : Nat} {Q R : Int → Nat → Prop} (h : IsGr U D Q) (hR : ∀ T C, R T C ↔ Q T C) : IsGr U D R := by
  refine ⟨h.d1, h.u36, h.d12, h.cop, fun T C hq => h.all T C ((hR T C).1 hq), ?_⟩
  rcases h.one with e | ⟨T, C, hq, e⟩
  · exact .inl e
  · exact .inr ⟨T, C, (hR T C).2 hq, e⟩
theorem gcd_div {T C : Nat} (hC : 1 ≤ C) : 1 ≤ C / Nat.gcd T C ∧ Nat.gcd (T / Nat.gcd T C) (C / Nat.gcd T C) = 1 ∧ T * (C / Nat.gcd T C) = T / Nat.gcd T C * C := by
  have hg : 0 < Nat.gcd T C := Nat.gcd_pos_of_pos_right _ hC
  obtain ⟨a, ha⟩ := Nat.gcd_dvd_left T C
  obtain ⟨b, hb⟩ := Nat.gcd_dvd_right T C
  refine ⟨?_, ?_, ?_⟩
  · exact Nat.div_pos (Nat.le_of_dvd hC (Nat.gcd_dvd_right T C)) hg
  · exact Nat.coprime_div_gcd_div_gcd hg
  · have e1 : T / Nat.gcd T C = a := Nat.div_eq_of_eq_mul_right hg ha
    have e2 : C / Nat.gcd T C = b := Nat.div_eq_of_eq_mul_right hg hb
    rw [e1, e2]
    calc T * b = Nat.gcd T C * a * b := by rw [← ha]
      _ = a * (Nat.gcd T C * b) := by rw [Nat.mul_comm (Nat.gcd T C) a, Nat.mul_assoc]
      _ = a * C := by rw [← hb]
theorem gr_one {T C : Nat} (hT : T ≤ 36) (hC : 1 ≤ C) (hC2 : C ≤ 12) : IsGr (T / Nat.gcd T C) (C / Nat.gcd T C) (fun t c => t = (T : Int) ∧ c = C) := by
  obtain ⟨h1, h2, h3⟩ := gcd_div (T := T) hC
  have h4 : (T : Int) * ((C / Nat.gcd T C : Nat) : Int) = ((T / Nat.gcd T C : Nat) : Int) * (C : Int) := by exact_mod_cast h3
  refine ⟨h1, Nat.le_trans (Nat.div_le_self _ _) hT, Nat.le_trans (Nat.div_le_self _ _) hC2, h2, ?_, .inr ⟨T, C, ⟨rfl, rfl⟩, hC, h4⟩⟩
  rintro t c ⟨rfl, rfl⟩
  exact Int.le_of_eq h4
/-- the pace of a net: in lowest terms, kept, and nothing less is kept -/
structure IsPace (g : Gr) (U D : Nat) : Prop where
  d1 : 1 ≤ D
  u36 : U ≤ 36
  d12 : D ≤ 12
  cop : Nat.gcd U D = 1
  kept : g.keeps U D
  least : ∀ up down : Int, 0 ≤ up → 1 ≤ down → g.keeps up down → (U : Int) * down ≤ up * (D : Int)
theorem pace_of {g : Gr} (hg : g.Ok) {rk : Nat → Nat} (hr : g.Rank rk) {U D : Nat} {Q : Int → Nat → Prop} (h : IsGr U D Q) (h1 : ∀ T C, g.Rounds T C → Q T C) (h2 : ∀ T C, Q T C → g.RoundsA T C) : IsPace g U D := by
  refine ⟨h.d1, h.u36, h.d12, h.cop, ?_, fun up down hu hd hk => ?_⟩
  · refine Classical.byContradiction fun hn => ?_
    obtain ⟨T, C, hq, hp⟩ := rounds_of_not hg hn
    have := h.all T C (h1 T C hq)
    rw [Int.mul_comm T] at this
    omega
  · rcases h.one with ⟨rfl, rfl⟩ | ⟨T, C, hq, hC, e⟩
    · simp; exact hu
    · obtain ⟨s, _, hb⟩ := h2 T C hq
      obtain ⟨p, hp⟩ := hk
      have h3 := back_pot hp hb
      have h4 : T * down ≤ up * (C : Int) := by rw [Int.mul_comm T]; omega
      have hC0 : (0 : Int) < (C : Int) := by omega
      refine Int.le_of_mul_le_mul_right ?_ hC0
      calc (U : Int) * down * C = (U : Int) * C * down := by rw [Int.mul_assoc, Int.mul_comm down, ← Int.mul_assoc]
        _ = T * (D : Int) * down := by rw [e]
        _ = T * down * (D : Int) := by rw [Int.mul_assoc, Int.mul_comm (D : Int), ← Int.mul_assoc]
        _ ≤ up * (C : Int) * (D : Int) := Int.mul_le_mul_of_nonneg_right h4 (by omega)
        _ = up * (D : Int) * (C : Int) := by rw [Int.mul_assoc, Int.mul_comm (C : Int), ← Int.mul_assoc]
theorem rounds_pos {g : Gr} {rk : Nat → Nat} (hr : g.Rank rk) {T : Int} {C : Nat} (h : g.RoundsA T C) : 1 ≤ C := by
  obtain ⟨s, _, hb⟩ := h
  rcases Nat.eq_zero_or_pos C with e | e
  · have := back_rank hr hb e; omega
  · exact e
theorem cop_unique {U D U' D' : Nat} (h1 : Nat.gcd U D = 1) (h2 : Nat.gcd U' D' = 1) (hD : 1 ≤ D) (he : U * D' = U' * D) : U = U' ∧ D = D' := by
  have a1 : D ∣ D' := Nat.Coprime.dvd_of_dvd_mul_left (k := D) (m := U) (by rw [Nat.Coprime, Nat.gcd_comm]; exact h1) ⟨U', by rw [he, Nat.mul_comm]⟩
  have a2 : D' ∣ D := Nat.Coprime.dvd_of_dvd_mul_left (k := D') (m := U') (by rw [Nat.Coprime, Nat.gcd_comm]; exact h2) ⟨U, by rw [← he, Nat.mul_comm]⟩
  have e : D = D' := Nat.dvd_antisymm a1 a2
  subst e
  exact ⟨Nat.eq_of_mul_eq_mul_right (by omega) he, rfl⟩
theorem pace_unique {g : Gr} {U D U' D' : Nat} (h : IsPace g U D) (h' : IsPace g U' D') : U = U' ∧ D = D' := by
  have a1 := h.least _ _ (by omega) (by have := h'.d1; omega) h'.kept
  have a2 := h'.least _ _ (by omega) (by have := h.d1; omega) h.kept
  refine cop_unique h.cop h'.cop h.d1 ?_
  have : (U : Int) * (D' : Int) = (U' : Int) * (D : Int) := by omega
  exact_mod_cast this
/-- a pace is kept at any scale -/
theorem keeps_scale {g : Gr} {up down k : Int} (hk : 0 < k) : g.keeps (k * up) (k * down) ↔ g.keeps up down := by
  constructor
  · rintro ⟨p, hp⟩
    refine ⟨fun v => p v / k, fun q hq => ?_⟩
    have h := hp q hq
    have e : g.w (k * up) (k * down) q = g.w up down q * k := by
      unfold Gr.w
      rw [Int.sub_mul, Int.mul_assoc, Int.mul_assoc, Int.mul_comm k, Int.mul_comm k]
    rw [e] at h
    have h2 := Int.ediv_le_ediv hk h
    rw [Int.add_mul_ediv_right _ _ (by omega)] at h2
    exact h2
  · rintro ⟨p, hp⟩
    refine ⟨fun v => k * p v, fun q hq => ?_⟩
    have h := Int.mul_le_mul_of_nonneg_left (hp q hq) (Int.le_of_lt hk)
    have e : g.w (k * up) (k * down) q = k * g.w up down q := by
      unfold Gr.w
      rw [Int.mul_sub, Int.mul_assoc, Int.mul_assoc]
    rw [e, ← Int.mul_add]
    exact h
theorem keeps_slower {g : Gr} {up up' down : Int} (h : g.keeps up down) (hu : up ≤ up') : g.keeps up' down := by
  obtain ⟨p, hp⟩ := h
  refine ⟨p, fun k hk => ?_⟩
  have := hp k hk
  have h2 : up * (g.c k : Int) ≤ up' * (g.c k : Int) := Int.mul_le_mul_of_nonneg_right hu (by omega)
  unfold Gr.w at this ⊢
  omega
/-- kept exactly if the pace is at most it -/
theorem pace_keeps {g : Gr} {U D : Nat} (h : IsPace g U D) {up down : Int} (hu : 0 ≤ up) (hd : 1 ≤ down) : g.keeps up down ↔ (U : Int) * down ≤ up * (D : Int) := by
  refine ⟨h.least up down hu hd, fun hle => ?_⟩
  have hD : (0 : Int) < (D : Int) := by have := h.d1; omega
  refine (keeps_scale hD).1 ?_
  have h1 := (keeps_scale (g := g) (up := (U : Int)) (down := (D : Int)) (k := down) (by omega)).2 h.kept
  rw [Int.mul_comm (D : Int) down]
  refine keeps_slower h1 ?_
  rw [Int.mul_comm down, Int.mul_comm (D : Int)]
  exact hle
/-- nothing less is kept -/
theorem pace_less {g : Gr} (hg : g.Ok) {U D : Nat} (h : IsPace g U D) (hU : 1 ≤ U) : g.keepB ((U : Int) - 1) D = false := by
  refine Bool.eq_false_iff.2 fun hk => ?_
  have h1 := h.least _ _ (by omega) (by have := h.d1; omega) ((keepB_iff hg).1 hk)
  have h2 := h.d1
  rw [Int.sub_mul] at h1
  omega
theorem pace_kept {g : Gr} (hg : g.Ok) {U D : Nat} (h : IsPace g U D) : g.keepB U D = true := (keepB_iff hg).2 h.kept
/-- with more tokens the pace is no more -/
theorem pace_more {g h : Gr} (em : h.m = g.m) (ef : ∀ k, k < g.m → h.f k = g.f k ∧ h.t k = g.t k ∧ g.c k ≤ h.c k) (et : ∀ v, h.tm v = g.tm v) {U D U' D' : Nat} (hp : IsPace g U D) (hp' : IsPace h U' D') : (U' : Int) * D ≤ (U : Int) * D' := by
  refine hp'.least U D (by omega) (by have := hp.d1; omega) ?_
  obtain ⟨p, hq⟩ := hp.kept
  refine ⟨p, fun k hk => ?_⟩
  rw [em] at hk
  obtain ⟨e1, e2, e3⟩ := ef k hk
  have h1 := hq k hk
  have h2 : (U : Int) * (g.c k : Int) ≤ (U : Int) * (h.c k : Int) := Int.mul_le_mul_of_nonneg_left (by omega) (by omega)
  unfold Gr.w at h1 ⊢
  rw [e1, e2, et]
  omega
/-- by the pace none begins too late -/
theorem b_pace {g : Gr} (hg : g.Ok) {rk : Nat → Nat} (hr : g.Rank rk) {U D : Nat} (h : IsPace g U D) : ∀ r v, r ≤ 40 → v < g.n → g.b r v * (D : Int) ≤ (U : Int) * (r : Int) + (D : Int) * sm g.tm g.n := by
  intro r v h40 hv
  have hk := h.kept
  have hD : (1 : Int) ≤ (D : Int) := by have := h.d1; omega
  have key : g.b r v ≤ ((U : Int) * (r : Int) + g.D U D g.n v) / (D : Int) := by
    refine b_le hg hr (fun r v => ((U : Int) * (r : Int) + g.D U D g.n v) / (D : Int)) (R := 41) (by omega) (fun r v _ _ => ?_) (fun r k hrR hkm hc hi => ?_) r v (by omega) hv
    · refine Int.ediv_nonneg ?_ (by omega)
      have := D_nn (g := g) (up := U) (down := D) g.n v
      have : 0 ≤ (U : Int) * (r : Int) := Int.mul_nonneg (by omega) (by omega)
      omega
    · have h1 := pot_D hg hk k hkm
      have h2 := (Int.le_ediv_iff_mul_le (by omega : (0 : Int) < (D : Int))).1 hi
      refine (Int.le_ediv_iff_mul_le (by omega : (0 : Int) < (D : Int))).2 ?_
      unfold Gr.w at h1
      have e : (((r - g.c k : Nat) : Int)) = (r : Int) - (g.c k : Int) := by omega
      rw [e, Int.mul_sub] at h2
      rw [Int.add_mul, Int.mul_comm (g.tm (g.f k))]
      omega
  have h1 := (Int.le_ediv_iff_mul_le (by omega : (0 : Int) < (D : Int))).1 key
  have h2 := D_total hg hk (by omega) (by omega) hv g.n
  omega
/-- a ring: its pace -/
theorem pace_ring {g : Gr} {n c : Nat} (hn : 0 < n) (hc : 1 ≤ c) (en : g.n = n) (em : g.m = n) (ef : ∀ k, k < n → g.f k = k ∧ g.t k = (k + 1) % n ∧ g.c k = if k = n - 1 then c else 0) {U D : Nat} (hd : 1 ≤ D) (hu : U ≤ 36) (hd2 : D ≤ 12) (hcop : Nat.gcd U D = 1) (he : sm g.tm n * (D : Int) = (U : Int) * (c : Int)) : IsPace g U D := by
  have eq1 : ∀ k, k < n → k ≠ n - 1 → (k + 1) % n = k + 1 := fun k hk hne => Nat.mod_eq_of_lt (by omega)
  have eq2 : (n - 1 + 1) % n = 0 := by rw [Nat.sub_add_cancel hn, Nat.mod_self]
  refine ⟨hd, hu, hd2, hcop, ⟨fun v => (D : Int) * sm g.tm v, fun k hk => ?_⟩, fun up down h0 h1 hk => ?_⟩
  · rw [em] at hk
    obtain ⟨e1, e2, e3⟩ := ef k hk
    unfold Gr.w
    rw [e1, e2, e3]
    by_cases hkn : k = n - 1
    · subst hkn
      rw [eq2, if_pos rfl]
      have : sm g.tm n = sm g.tm (n - 1) + g.tm (n - 1) := by
        obtain ⟨q, rfl⟩ : ∃ q, n = q + 1 := ⟨n - 1, by omega⟩
        rfl
      rw [this, Int.add_mul, Int.mul_comm (sm g.tm (n - 1)), Int.mul_comm (g.tm (n - 1))] at he
      simp only [sm]
      omega
    · rw [eq1 k hk hkn, if_neg hkn]
      simp only [sm, Int.mul_add]
      omega
  · obtain ⟨p, hp⟩ := hk
    have key : ∀ q, q < n → down * sm g.tm q ≤ p q - p 0 := by
      intro q
      induction q with
      | zero => intro _; simp only [sm]; omega
      | succ q ih =>
        intro hq
        have h2 := hp q (by omega)
        obtain ⟨e1, e2, e3⟩ := ef q (by omega)
        unfold Gr.w at h2
        rw [e1, e2, e3, eq1 q (by omega) (by omega), if_neg (by omega)] at h2
        have := ih (by omega)
        simp only [sm, Int.mul_add]
        omega
    have h2 := hp (n - 1) (by omega)
    obtain ⟨e1, e2, e3⟩ := ef (n - 1) (by omega)
    unfold Gr.w at h2
    rw [e1, e2, e3, eq2, if_pos rfl] at h2
    have h3 := key (n - 1) (by omega)
    have h4 : down * sm g.tm n ≤ up * (c : Int) := by
      obtain ⟨q, rfl⟩ : ∃ q, n = q + 1 := ⟨n - 1, by omega⟩
      simp only [Nat.add_sub_cancel] at h2 h3
      simp only [sm, Int.mul_add]
      omega
    have hC0 : (0 : Int) < (c : Int) := by omega
    refine Int.le_of_mul_le_mul_right ?_ hC0
    calc (U : Int) * down * c = (U : Int) * c * down := by rw [Int.mul_assoc, Int.mul_comm down, ← Int.mul_assoc]
      _ = sm g.tm n * (D : Int) * down := by rw [he]
      _ = down * sm g.tm n * (D : Int) := by rw [Int.mul_assoc, Int.mul_comm (D : Int), ← Int.mul_assoc, Int.mul_comm (sm g.tm n)]
      _ ≤ up * (c : Int) * (D : Int) := Int.mul_le_mul_of_nonneg_right h4 (by omega)
      _ = up * (D : Int) * (c : Int) := by rw [Int.mul_assoc, Int.mul_comm (c : Int), ← Int.mul_assoc]
theorem rank_ring {g : Gr} {n c : Nat} (hn : 0 < n) (hc : 1 ≤ c) (en : g.n = n) (em : g.m = n) (ef : ∀ k, k < n → g.f k = k ∧ g.t k = (k + 1) % n ∧ g.c k = if k = n - 1 then c else 0) : g.Rank (fun v => v) := by
  refine ⟨fun v hv => hv, fun k hk h0 => ?_⟩
  show g.f k < g.t k
  rw [em] at hk
  obtain ⟨e1, e2, e3⟩ := ef k hk
  by_cases hkn : k = n - 1
  · rw [e3, if_pos hkn] at h0; omega
  · rw [e1, e2, Nat.mod_eq_of_lt (by omega)]; omega
theorem sm_total (ts : List Int) : sm (fun v => ts.getD v 0) ts.length = ts.foldl (· + ·) 0 := by
  have key : ∀ (n : Nat), n ≤ ts.length → sm (fun v => ts.getD v 0) n = (ts.take n).foldl (· + ·) 0 := by
    intro n
    induction n with
    | zero => intro _; simp [sm]
    | succ n ih =>
      intro h
      have hx : ts[n]? = some (ts.getD n 0) := get_getD (by omega)
      rw [List.take_add_one, hx, List.foldl_append, ← ih (by omega)]
      rfl
  have := key ts.length (Nat.le_refl _)
  rwa [List.take_length] at this
end Go.Proofs.Ytkjmpkincaainad
namespace Go.Proofs.Ytkjmpkincaainad
open Go.RowKit

set_option maxRecDepth 100000 in
set_option maxHeartbeats 1000000 in
theorem pick_any (R p : Nat) (n : Int) (w : World) (h : Rd w R p) (hp : p ≤ 1099511627776) :
    Calls Try.prog 46 #[.pointer (some ⟨R, 0, none⟩), .int .i64 n] w fun e w' => ∃ k : Nat, e = .returned (.int .i64 k) ∧ (k : Int) < max n 1 ∧ Rd w' R (p + 1) ∧ w.grownBy w' (some R) := by
  have HR := Lib.hid h
  obtain ⟨h1, hf, a, m, cap, h0, hm, hb⟩ := h
  by_cases hn : n < 1
  · go_enter Try.func46, Try.ntmps46
    go_wp2
    go_ret
    exact ⟨0, rfl, by omega, HR.out.stored0⟩
  · by_cases hm0 : m = 0
    · subst hm0
      go_enter Try.func46, Try.ntmps46
      go_wp2
      go_ret
      exact ⟨0, rfl, by omega, HR.out.stored0⟩
    · obtain ⟨b, off, rfl, hbR, hby⟩ := hb (by omega)
      by_cases hlt : p < m
      · obtain ⟨x, hx, hc⟩ := hby p hlt
        have hc' : (w.setCell ⟨R, 1, none⟩ (.int .i64 ((p : Int) + 1))).cell? ⟨b, off + p, none⟩ = some (.int .u8 x) := by
          rw [World.cell?_setCell_other _ _ _ _ (by intro e; injection e; omega)]; exact hc
        clear hby hb
        go_enter Try.func46, Try.ntmps46
        go_wp2
        go_ret
        have e1 : 0 ≤ (x : Int) % n := Int.emod_nonneg _ (by omega)
        have e2 : (x : Int) % n < n := Int.emod_lt_of_pos _ (by omega)
        exact ⟨((x : Int) % n).toNat, ret_int (by omega), by omega, HR.out.stored0⟩
      · have hm1 : 1 ≤ m := by omega
        obtain ⟨x1, hx1, hc1⟩ := hby (p % m) (Nat.mod_lt _ (by omega))
        obtain ⟨x2, hx2, hc2⟩ := hby ((p * 7 + 3) % m) (Nat.mod_lt _ (by omega))
        have hd1 : (w.setCell ⟨R, 1, none⟩ (.int .i64 ((p : Int) + 1))).cell? ⟨b, off + p % m, none⟩ = some (.int .u8 x1) := by
          rw [World.cell?_setCell_other _ _ _ _ (by intro e; injection e; omega)]; exact hc1
        have hd2 : (w.setCell ⟨R, 1, none⟩ (.int .i64 ((p : Int) + 1))).cell? ⟨b, off + (p * 7 + 3) % m, none⟩ = some (.int .u8 x2) := by
          rw [World.cell?_setCell_other _ _ _ _ (by intro e; injection e; omega)]; exact hc2
        clear hc1 hc2 hby hb
        have b1 : p % m < m := Nat.mod_lt _ (by omega)
        have b2 : (p * 7 + 3) % m < m := Nat.mod_lt _ (by omega)
        have g1 : 0 ≤ ((p : Int) * 7 + 3) % (m : Int) := Int.emod_nonneg _ (by omega)
        have g2 : ((p : Int) * 7 + 3) % (m : Int) < (m : Int) := Int.emod_lt_of_pos _ (by omega)
        have g3 : 0 ≤ (p : Int) / (m : Int) := Int.ediv_nonneg (by omega) (by omega)
        have g4 : (p : Int) / (m : Int) ≤ p := Int.ediv_le_self _ (by omega)
        go_enter Try.func46, Try.ntmps46
        go_wp2
        go_quiet (fail)
        go_wp2
        go_ret
        obtain ⟨k, hk, hk'⟩ := mixed ((x1 : Int) * 131 + x2 * 1117 + p * 29 + (p : Int) / (m : Int) * 53) n (by omega) (by omega) hn
        exact ⟨k, ret_int hk, by omega, HR.out.stored _⟩

theorem one_any (S : Nat → Prop) (R p : Nat) (a : Option Addr) (len cap : Nat) (xs : List Int) (w : World) (h : Rd w R p) (hx : IntsAt w S a len xs) (hne : ∀ b, S b → b ≠ R ∧ b < w.heap.size) (hl : 1 ≤ len) (hp : p ≤ 1099511627776) :
    Calls Try.prog 22 #[.pointer (some ⟨R, 0, none⟩), .slice a len cap] w fun e w' => ∃ x, x ∈ xs ∧ e = .returned (.int .i64 x) ∧ Rd w' R (p + 1) ∧ w.grownBy w' (some R) := by
  have hs := hx.small
  go_enter Try.func22, Try.ntmps22
  go_wp2_with fail
  refine (pick_any R p (len : Int) w h hp).mono ?_
  rintro e w' ⟨k, rfl, hk, hr, hg⟩
  obtain ⟨b, off, x, rfl, hx1, hx2⟩ := (hx.to (S' := S) (w' := w') fun b hb => ⟨hb, hg.block b (hne b hb).2 (by have := (hne b hb).1; simpa using this)⟩).get (k := k) (by omega)
  have HX := Lib.hid hx1
  clear hx1
  have hk' : k < len := by omega
  go_wp2
  go_ret
  exact ⟨x, List.mem_of_getElem? HX.out, rfl, hr, hg⟩
end Go.Proofs.Ytkjmpkincaainad
namespace Go.Proofs.Ytkjmpkincaainad
open Go.RowKit Go.WideShapes

theorem rd_new (w : World) (a : Option Addr) (n cap : Nat) (t : TypeId) (hn : n ≤ 2000) (hb : BytesAt w w.heap.size a n) : Rd (w.alloc (.cells #[.slice a n cap, .int .i64 0] t)) w.heap.size 0 := by
  refine ⟨by rw [World.cell?_alloc_new]; rfl, World.frozen?_alloc_new w _ _ _, a, n, cap, by rw [World.cell?_alloc_new]; rfl, hn, fun h0 => ?_⟩
  obtain ⟨b, off, ha, hb', hc⟩ := hb h0
  refine ⟨b, off, ha, hb', fun i hi => ?_⟩
  obtain ⟨x, hx, hx'⟩ := hc i hi
  exact ⟨x, hx, by rw [World.cell?_alloc_lt _ _ _ hb']; exact hx'⟩

def ReaderPost (w : World) (e : Ending) (w' : World) : Prop := e = .returned (.pointer (some ⟨w.heap.size, 0, none⟩)) ∧ Rd w' w.heap.size 0 ∧ Below w.heap.size w w'

theorem newReader_any (a : Option Addr) (len cap : Nat) (w : World) (hb : BytesAt w w.heap.size a len) (hl : len ≤ cap) (hs : len ≤ 9223372036854775807) :
    Calls Try.prog 20 #[.slice a len cap] w (ReaderPost w) := by
  by_cases h : len ≤ 2000
  · go_enter Try.func20, Try.ntmps20
    go_wp2
    go_ret
    exact ⟨rfl, rd_new w a len cap _ h hb, (Below.refl _ _).alloc (Nat.le_refl _) _⟩
  · obtain ⟨b, off, rfl, hb1, hc⟩ := hb (by omega)
    have h2 : BytesAt w w.heap.size (some ⟨b, off, none⟩) 2000 := fun _ => ⟨b, off, rfl, hb1, fun i hi => hc i (by omega)⟩
    clear hc
    go_enter Try.func20, Try.ntmps20
    go_wp2
    go_ret
    exact ⟨rfl, rd_new w _ 2000 cap _ (by omega) h2, (Below.refl _ _).alloc (Nat.le_refl _) _⟩
end Go.Proofs.Ytkjmpkincaainad
namespace Go.Proofs.Ytkjmpkincaainad
open Go.RowKit Go.WideShapes

/-- append of one int to a list of the call's own -/
theorem wpApp1 {ops : Array Oper} {rest : List Oper} {o : Oper} {a : Act} {Q : Exit → Act → World → Prop} {wo : World} (hgd : o.guard = none) (s x : Operand)
    (ho : o.op = .call { callee := .builtin .append, args := #[s, x], argTypes := #[23, 23] })
    (base k cp : Nat) (ax : Option Addr) (xs : List Int) (v : Int) (hs : a.eval s = .slice ax k cp)
    (hown : wo.ownsRow base 3 1 (.slice ax k cp) k (xs.map (.int .i64))) (hx : a.eval x = .slice (some ⟨wo.heap.size, 0, none⟩) 1 1)
    (hbase : base ≤ wo.heap.size) (hk : k ≤ 1048576)
    (h : ∀ (a6 : Option Addr) (c6 : Nat) (w' : World), w'.ownsRow base 3 1 (.slice a6 (k + 1) c6) (k + 1) (xs.map (.int .i64) ++ [.int .i64 v]) → k + 1 ≤ c6 → wo.grownBy w' (Value.slice ax k cp).ownBlock →
      wpList Try.prog ops Q rest (a.put o.dst (.slice a6 (k + 1) c6)) w') :
    wpList Try.prog ops Q (o :: rest) a (wo.alloc (.cells #[.int .i64 v] 3)) := by
  obtain ⟨i0, hi, hz0, hz1, hz2⟩ := info_parts Try.infoIntO
  refine wpList_append_own _ hgd s x 23 ho base 3 i0 (.int .i64 0) 1 8 Try.underlying23 hi hz0 hz1 hz2 rfl (by decide) _ k _ hs (hown.alloc _) ⟨wo.heap.size, 0, none⟩ 1 1 [.int .i64 v] hx rfl (one_new _ _ _) (one_cell_int _ _) (by unfold maxLen; omega) (by omega) (by simp; omega) ?_
  intro v' w6 hown6 hgrow _
  obtain ⟨a6, c6, rfl, hc⟩ := own_slice hown6
  exact h a6 c6 w6 hown6 hc (grown_comp (World.grownBy_alloc wo _ _) hgrow)
/-- append of a list to a list of the call's own -/
theorem wpAppN {ops : Array Oper} {rest : List Oper} {o : Oper} {a : Act} {Q : Exit → Act → World → Prop} {wo : World} (hgd : o.guard = none) (s x : Operand)
    (ho : o.op = .call { callee := .builtin .append, args := #[s, x], argTypes := #[23, 23] })
    (base k cp : Nat) (ax : Option Addr) (xs : List Int) (S : Nat → Prop) (b off m c : Nat) (ys : List Int) (hs : a.eval s = .slice ax k cp)
    (hown : wo.ownsRow base 3 1 (.slice ax k cp) k (xs.map (.int .i64))) (hx : a.eval x = .slice (some ⟨b, off, none⟩) m c) (hy : IntsAt wo S (some ⟨b, off, none⟩) m ys)
    (hbase : base ≤ wo.heap.size) (hk : k + m ≤ 1048576)
    (h : ∀ (a6 : Option Addr) (c6 : Nat) (w' : World), w'.ownsRow base 3 1 (.slice a6 (k + m) c6) (k + m) (xs.map (.int .i64) ++ ys.map (.int .i64)) → k + m ≤ c6 → wo.grownBy w' (Value.slice ax k cp).ownBlock →
      wpList Try.prog ops Q rest (a.put o.dst (.slice a6 (k + m) c6)) w') :
    wpList Try.prog ops Q (o :: rest) a wo := by
  obtain ⟨i0, hi, hz0, hz1, hz2⟩ := info_parts Try.infoIntO
  refine wpList_append_own _ hgd s x 23 ho base 3 i0 (.int .i64 0) 1 8 Try.underlying23 hi hz0 hz1 hz2 rfl (by decide) _ k _ hs hown ⟨b, off, none⟩ m c (ys.map (.int .i64)) hx (by simp [hy.lenEq]) ?_ ?_ (by unfold maxLen; omega) (by omega) hbase ?_
  · intro j u hj
    rw [List.getElem?_map] at hj
    cases hq : ys[j]? with
    | none => rw [hq] at hj; cases hj
    | some z =>
      rw [hq] at hj
      simp only [Option.map_some, Option.some.injEq] at hj
      have hlt : j < ys.length := (List.getElem?_eq_some_iff.1 hq).1
      obtain ⟨b', off', e, _, hc⟩ := hy.cells (by have := hy.lenEq; omega)
      cases e
      rw [add_plain, hc _ _ hq, ← hj]
  · intro u hu
    obtain ⟨x, _, rfl⟩ := List.mem_map.1 hu
    rfl
  intro v' w6 hown6 hgrow _
  obtain ⟨a6, c6, rfl, hc⟩ := own_slice hown6
  exact h a6 c6 w6 hown6 hc hgrow
theorem own_block {w : World} {B e s n : Nat} {v : Value} {xs : List Value} (h : w.ownsRow B e s v n xs) : ∀ k, v.ownBlock = some k → B ≤ k := fun k e => (h.lt k e).1
theorem own_snoc {w : World} {B n : Nat} {u : Value} {xs : List Int} {x : Int} (h : w.ownsRow B 3 1 u n (xs.map (.int .i64) ++ [.int .i64 x])) : w.ownsRow B 3 1 u n ((xs ++ [x]).map (.int .i64)) := by
  rw [List.map_append]; exact h
end Go.Proofs.Ytkjmpkincaainad
namespace Go.Proofs.Ytkjmpkincaainad
open Go.RowKit Go.WideShapes

/-- a list made behind the reader R, ahead of block B -/
def LAt (w : World) (R B : Nat) (a : Option Addr) (l : Nat) (xs : List Int) : Prop := IntsAt w (fun b => R < b ∧ b < B) a l xs ∧ B ≤ w.heap.size
theorem LAt.step {w w' : World} {R B l : Nat} {a : Option Addr} {xs : List Int} (h : LAt w R B a l xs) (hg : w.grownBy w' (some R)) : LAt w' R B a l xs :=
  ⟨h.1.to (fun b hb => ⟨hb, hg.block b (Nat.lt_of_lt_of_le hb.2 h.2) (by intro e; injection e; omega)⟩), Nat.le_trans h.2 hg.size⟩
theorem LAt.stepR {w w' : World} {R B l : Nat} {a : Option Addr} {xs : List Int} {r : Option Nat} (h : LAt w R B a l xs) (hg : w.grownBy w' r) (hr : ∀ k, r = some k → B ≤ k) : LAt w' R B a l xs :=
  ⟨h.1.to (fun b hb => ⟨hb, hg.block b (Nat.lt_of_lt_of_le hb.2 h.2) (by intro e; have := hr b e.symm; omega)⟩), Nat.le_trans h.2 hg.size⟩
theorem LAt.alloc {w : World} {R B l : Nat} {a : Option Addr} {xs : List Int} (h : LAt w R B a l xs) (o : Obj) : LAt (w.alloc o) R B a l xs := h.step (World.grownBy_alloc _ _ _)
theorem LAt.low {w : World} {R B l : Nat} {a : Option Addr} {xs : List Int} (h : LAt w R B a l xs) : IntsAt w (· < w.heap.size) a l xs := h.1.to (fun _ hb => ⟨Nat.lt_of_lt_of_le hb.2 h.2, rfl⟩)
theorem lat_new {w w' : World} {R l : Nat} {a : Option Addr} {xs : List Int} (h : IntsAt w' (fun b => w.heap.size ≤ b ∧ b < w'.heap.size) a l xs) (hR : R < w.heap.size) : LAt w' R w'.heap.size a l xs :=
  ⟨h.to (fun _ hb => ⟨⟨by omega, hb.2⟩, rfl⟩), Nat.le_refl _⟩
theorem lat_own {w w' : World} {R l cp : Nat} {a : Option Addr} {xs : List Int} (h : w'.ownsRow w.heap.size 3 1 (.slice a l cp) l (xs.map (.int .i64))) (hR : R < w.heap.size) (hl : l ≤ 9223372036854775807) : LAt w' R w'.heap.size a l xs := by
  obtain ⟨ay, cy, hve, _, hints⟩ := own_ints h hl
  simp only [Value.slice.injEq] at hve
  obtain ⟨rfl, _, rfl⟩ := hve
  exact lat_new hints hR
theorem own_low {w : World} {B l cp : Nat} {a : Option Addr} {xs : List Int} (h : w.ownsRow B 3 1 (.slice a l cp) l (xs.map (.int .i64))) (hl : l ≤ 9223372036854775807) : IntsAt w (· < w.heap.size) a l xs := by
  obtain ⟨ay, cy, hve, _, hints⟩ := own_ints h hl
  simp only [Value.slice.injEq] at hve
  obtain ⟨rfl, _, rfl⟩ := hve
  exact hints.to (fun _ hb => ⟨hb.2, rfl⟩)
theorem grown_of_below {w w' : World} (h : Below w.heap.size w w') (r : Option Nat) : w.grownBy w' r := ⟨h.os, h.tape, h.output, h.size, fun b hb _ => h.block b hb⟩
theorem Rd.step {w w' : World} {R p : Nat} (h : Rd w R p) (hb : Below w.heap.size w w') : Rd w' R p :=
  h.grown (r := none) (grown_of_below hb none) (fun k e => by cases e)
theorem own_step {w w' : World} {B R l : Nat} {v : Value} {xs : List Value} (h : w.ownsRow B 3 1 v l xs) (hg : w.grownBy w' (some R)) (hR : R < B) : w'.ownsRow B 3 1 v l xs := h.kept hg (ne_low h hR)
end Go.Proofs.Ytkjmpkincaainad
namespace Go.Proofs.Ytkjmpkincaainad
open Go.RowKit Go.WideShapes

theorem Try.infoIntD : (Try.prog.info? 3).map (fun i => (i.zero, i.size, i.bytes)) = some (some (.int .i64 0), 1, 8) := by kernel_rfl

/-- the days that are drawn -/
def DaysOk (xs : List Int) : Prop := xs.length ≤ 9 ∧ (∀ k, -1 ≤ xs.getD k 0) ∧ (∀ k, xs.getD k 0 ≤ if k = 0 then 21 else 12)
theorem daysOk_of {xs : List Int} (hl : xs.length ≤ 9) (h : ∀ x ∈ xs, 0 ≤ x ∧ x ≤ 12) : DaysOk xs := by
  have key : ∀ k, 0 ≤ xs.getD k 0 ∧ xs.getD k 0 ≤ 12 := by
    intro k
    rcases Nat.lt_or_ge k xs.length with h' | h'
    · exact h _ (List.mem_of_getElem? (get_getD h'))
    · rw [getD_past h']; omega
  exact ⟨hl, fun k => by have := key k; omega, fun k => by have := key k; split <;> omega⟩
theorem daysOk_set {xs : List Int} {x : Int} (hl : xs.length ≤ 9) (h : ∀ x ∈ xs, 0 ≤ x ∧ x ≤ 12) (hx : x = -1 ∨ x = 21) : DaysOk (xs.set 0 x) := by
  have key : ∀ k, 0 ≤ xs.getD k 0 ∧ xs.getD k 0 ≤ 12 := by
    intro k
    rcases Nat.lt_or_ge k xs.length with h' | h'
    · exact h _ (List.mem_of_getElem? (get_getD h'))
    · rw [getD_past h']; omega
  have e : ∀ k, (xs.set 0 x).getD k 0 = if k = 0 ∧ 0 < xs.length then x else xs.getD k 0 := by
    intro k
    rw [List.getD_eq_getElem?_getD, List.getD_eq_getElem?_getD, List.getElem?_set]
    by_cases hk : 0 = k
    · subst hk
      by_cases hp : 0 < xs.length
      · rw [if_pos rfl, if_pos hp, if_pos ⟨rfl, hp⟩]; rfl
      · rw [if_pos rfl, if_neg hp, if_neg (by omega), List.getElem?_eq_none (by omega)]
    · rw [if_neg hk, if_neg (by omega)]
  refine ⟨by rw [List.length_set]; exact hl, fun k => ?_, fun k => ?_⟩
  · rw [e]; have := key k; split <;> omega
  · rw [e]; have := key k; split <;> split <;> omega

def DaysPost (w : World) (R p : Nat) (e : Ending) (w' : World) : Prop := ∃ (a : Option Addr) (len cap : Nat) (xs : List Int) (p' : Nat), e = .returned (.slice a len cap) ∧
  w'.ownsRow w.heap.size 3 1 (.slice a len cap) len (xs.map (.int .i64)) ∧ len ≤ cap ∧ len ≤ 9 ∧ DaysOk xs ∧ Rd w' R p' ∧ p' ≤ p + 100 ∧ w.grownBy w' (some R)
theorem DaysPost.mk {w w' : World} {R p p' : Nat} {a : Option Addr} {len cap : Nat} {xs : List Int} (h : w'.ownsRow w.heap.size 3 1 (.slice a len cap) len (xs.map (.int .i64))) (hl : len ≤ 9) (hd : DaysOk xs) (hr : Rd w' R p') (hp : p' ≤ p + 100) (hg : w.grownBy w' (some R)) :
    DaysPost w R p (.returned (.slice a len cap)) w' := by
  obtain ⟨a', cap', e, hc⟩ := own_slice h
  simp only [Value.slice.injEq] at e
  obtain ⟨rfl, _, rfl⟩ := e
  exact ⟨_, _, _, xs, p', rfl, h, hc, hl, hd, hr, hp, hg⟩
theorem ro {R : Nat} : ∀ k, some R = some k → k = R ∨ False := by intro k e; cases e; exact Or.inl rfl

theorem most_n {n : Int} (h : n ∈ [6, 12, 3]) : 3 ≤ n ∧ n ≤ 12 := by simp at h; omega
theorem days_n {n : Int} (h : n ∈ [5, 6, 4, 8, 3, 2, 1, 0, 9]) : ∃ m : Nat, n = (m : Int) ∧ m ≤ 9 := by simp at h; exact ⟨n.toNat, by omega, by omega⟩
theorem grown_r {a b c : World} {R : Nat} (h : a.grownBy b (some R)) (g : b.grownBy c (some R)) : a.grownBy c (some R) := grown_trans h g (fun k e => by cases e; exact Or.inl rfl)

end Go.Proofs.Ytkjmpkincaainad
namespace Go.Proofs.Ytkjmpkincaainad
open Go.RowKit Go.WideShapes

/-- a list that is drawn: numbers in lo..hi -/
def ListPost (w : World) (R p n : Nat) (lo hi : Int) (e : Ending) (w' : World) : Prop := ∃ (a : Option Addr) (cap : Nat) (xs : List Int), e = .returned (.slice a n cap) ∧
  w'.ownsRow w.heap.size 3 1 (.slice a n cap) n (xs.map (.int .i64)) ∧ n ≤ cap ∧ xs.length = n ∧ (∀ x ∈ xs, lo ≤ x ∧ x ≤ hi) ∧ Rd w' R (p + n) ∧ w.grownBy w' (some R)

set_option maxRecDepth 100000 in
set_option maxHeartbeats 2000000 in
theorem listOf_any (R p n : Nat) (lo hi : Int) (w : World) (h : Rd w R p) (hp : p ≤ 1000000) (hn : n ≤ 1000) (hlo : -1000 ≤ lo) (hlh : lo ≤ hi) (hhi : hi ≤ 1000) :
    Calls Try.prog 45 #[.pointer (some ⟨R, 0, none⟩), .int .i64 n, .int .i64 lo, .int .i64 hi] w (ListPost w R p n lo hi) := by
  have hR := h.lt
  obtain ⟨i0, hi0, hz0, hz1, hz2⟩ := info_parts Try.infoIntD
  have ho0 := World.ownsRow_made (base := w.heap.size) (size := 1) (e := 3) w #[] 0 (Nat.le_refl _) (Nat.zero_le _) rfl
  go_enter Try.func45, Try.ntmps45
  go_wp2_with fail
  go_loopw [9] (fun v wr => ∃ (k cap : Nat) (a : Option Addr) (xs : List Int), v = .slice a k cap ∧ wr.ownsRow w.heap.size 3 1 v k (xs.map (.int .i64)) ∧ k ≤ n ∧ (∀ x ∈ xs, lo ≤ x ∧ x ≤ hi) ∧ Rd wr R (p + k) ∧ w.grownBy wr (some R)) (fun v _ => n - capOf v)
  case atStart => exact ⟨0, _, _, [], rfl, ho0, Nat.zero_le _, (fun x hx => by cases hx), h.alloc _, World.grownBy_alloc _ _ _⟩
  case round =>
    obtain ⟨k, cap, a, xs, rfl, hown, hkm, hall, hr, hg⟩ := hrel
    obtain ⟨wo, rfl⟩ : ∃ wo : World, wo = wr := ⟨_, rfl⟩
    have hsz := hg.size
    have HOWN := Lib.hid hown
    have HALL := Lib.hid hall
    clear hown hall
    by_cases hlt : k < n
    · go_wp2_with fail
      refine (pick_any R (p + k) (hi - lo + 1) wo hr (by omega)).mono ?_
      rintro e w5 ⟨q1, rfl, hq1, hr5, hgw⟩
      have HO5 := Lib.hid (HOWN.out.kept hgw (ne_low HOWN.out hR))
      have hg6 := grown_r hg hgw
      have hxb : lo ≤ lo + (q1 : Int) ∧ lo + (q1 : Int) ≤ hi := by omega
      go_wp2_with (at_builtin; refine wpList_append_own _ rfl _ _ 23 rfl w.heap.size 3 i0 (.int .i64 0) 1 8 Try.underlying23 hi0 hz0 hz1 hz2 rfl (by decide) _ _ _ rfl (HO5.out.alloc _) ⟨w5.heap.size, 0, none⟩ 1 1 [.int .i64 (lo + (q1 : Int))] rfl rfl ?c1 ?c2 ?c3 ?c4 ?c5 ?_)
      case c1 => exact one_new _ _ _
      case c2 => exact one_cell_int _ _
      case c3 => unfold maxLen; omega
      case c4 => omega
      case c5 => have := hgw.size; simp; omega
      intro v' w6 hown hgrow _
      obtain ⟨a6, c6, rfl, _⟩ := own_slice hown
      have hgr : w5.grownBy w6 (Value.slice a k cap).ownBlock := grown_comp (World.grownBy_alloc w5 _ _) hgrow
      have HO6 := Lib.hid hown
      have HG6 := Lib.hid hgr
      clear hown hgr hgrow
      go_wp2
      go_roundw
      case rel => exact ⟨k + 1, c6, a6, xs ++ [lo + (q1 : Int)], rfl, by rw [List.map_append]; exact HO6.out, by omega, (fun y hy => by
        rcases List.mem_append.1 hy with h' | h'
        · exact HALL.out y h'
        · simp only [List.mem_singleton] at h'; rw [h']; exact hxb), hr5.grown HG6.out (by intro b hb; have := (HO5.out.lt b hb).1; omega), grown_trans hg6 HG6.out (by intro b hb; have := (HO5.out.lt b hb).1; omega)⟩
      case measure => simp [capOf]; omega
    · obtain rfl : k = n := by omega
      go_wp2
      go_ret
      obtain ⟨a', c', e, hc⟩ := own_slice HOWN.out
      simp only [Value.slice.injEq] at e
      obtain ⟨rfl, _, rfl⟩ := e
      have hl := HOWN.out.1
      exact ⟨_, _, xs, rfl, HOWN.out, hc, by simpa using hl, HALL.out, hr, hg⟩
end Go.Proofs.Ytkjmpkincaainad
namespace Go.Proofs.Ytkjmpkincaainad
open Go.RowKit Go.WideShapes

theorem Try.infoInt : (Try.prog.info? 3).map (fun i => (i.zero, i.size, i.bytes)) = some (some (.int .i64 0), 1, 8) := by kernel_rfl
theorem Try.infoInts : (Try.prog.info? 23).map (fun i => (i.zero, i.size, i.bytes)) = some (some (.slice none 0 0), 1, 24) := by kernel_rfl

theorem bill_n {n : Int} (h : n ∈ [4, 5, 3, 6, 2, 1, 0]) : ∃ m : Nat, n = (m : Int) ∧ m ≤ 6 := by
  simp at h
  exact ⟨n.toNat, by omega, by omega⟩

def BillPost (w : World) (R p : Nat) (e : Ending) (w' : World) : Prop := ∃ (a : Option Addr) (len cap : Nat) (rows : List (List Int)) (p' : Nat), e = .returned (.slice a len cap) ∧
      RowsAt w' (fun b => w.heap.size ≤ b ∧ b < w'.heap.size) a len rows ∧ len ≤ cap ∧ len ≤ 6 ∧ Rd w' R p' ∧ p' ≤ p + 1000 ∧ w.grownBy w' (some R)
theorem billPost_mk {w w' : World} {R p p' len cap M : Nat} {a : Option Addr} (h : OwnRows w' w.heap.size M (.slice a len cap) len) (hl : len ≤ cap) (h6 : len ≤ 6) (hr : Rd w' R p') (hp : p' ≤ p + 1000)
    (hg : w.grownBy w' (some R)) : BillPost w R p (.returned (.slice a len cap)) w' := by
  obtain ⟨a', cap', rows, hv, _, hrows⟩ := h.rows (by omega)
  simp only [Value.slice.injEq] at hv
  obtain ⟨rfl, _, rfl⟩ := hv
  exact ⟨_, _, _, rows, p', rfl, hrows, hl, h6, hr, hp, hg⟩

end Go.Proofs.Ytkjmpkincaainad
