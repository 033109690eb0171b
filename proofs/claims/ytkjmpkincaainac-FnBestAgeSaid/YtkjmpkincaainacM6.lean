import Derived.Test.YtkjmpkincaainacM5
import Derived.Test.YtkjmpkincaainacRows
import Derived.WalkKit
import Derived.LoopTactic
import Derived.Outline
import Derived.WalkSpells
import Derived.WalkLawsBesides
import Derived.ProofKit
import Derived.Lib.Hide
import Derived.IntWalk
import Derived.Deep.QuietTactic
import Derived.BigQuiet
import Derived.Shelf.RegionOpenPlain
import Derived.Test.YtkjmpkincaainacM0
import Derived.Test.YtkjmpkincaainacM4
import Derived.Test.YtkjmpkincaainacM1
import Derived.Test.YtkjmpkincaainacM2
import Derived.Test.YtkjmpkincaainacM3
namespace Go.Proofs.Ytkjmpkincaainac

-- the pace (plain)
/-- U by D is the greatest of the pairs, 0 by 1 if all are 0 -/
structure IsGr (U D : Nat) (Q : Int → Nat → Prop) : Prop where
  d1 : 1 ≤ D
  u36 : U ≤ 36
  d12 : D ≤ 12
  cop : Nat.gcd U D = 1
  all : ∀ T C, Q T C → T * (D : Int) ≤ (U : Int) * (C : Int)
  one : (U = 0 ∧ D = 1) ∨ ∃ T C, Q T C ∧ 1 ≤ C ∧ T * (D : Int) = (U : Int) * (C : Int)
theorem frac_trans {T U1 D1 C U2 D2 : Int} (h1 : T * D1 ≤ U1 * C) (h2 : U1 * D2 ≤ U2 * D1) (hC : 0 ≤ C) (hD1 : 0 < D1) (hD2 : 0 ≤ D2) : T * D2 ≤ U2 * C := by
  have a1 : T * D1 * D2 ≤ U1 * C * D2 := Int.mul_le_mul_of_nonneg_right h1 hD2
  have a2 : U1 * D2 * C ≤ U2 * D1 * C := Int.mul_le_mul_of_nonneg_right h2 hC
  refine Int.le_of_mul_le_mul_right ?_ hD1
  calc T * D2 * D1 = T * D1 * D2 := by rw [Int.mul_assoc, Int.mul_comm D2, ← Int.mul_assoc]
    _ ≤ U1 * C * D2 := a1
    _ = U1 * D2 * C := by rw [Int.mul_assoc, Int.mul_comm C, ← Int.mul_assoc]
    _ ≤ U2 * D1 * C := a2
    _ = U2 * C * D1 := by rw [Int.mul_assoc, Int.mul_comm D1, ← Int.mul_assoc]
theorem gr_zero {Q : Int → Nat → Prop} (h : ∀ T C, ¬ Q T C) : IsGr 0 1 Q := ⟨by omega, by omega, by omega, by decide, fun T C hq => absurd hq (h T C), .inl ⟨rfl, rfl⟩⟩
theorem gr_left {U D U' D' : Nat} {Q Q' R : Int → Nat → Prop} (h : IsGr U D Q) (h' : IsGr U' D' Q') (hl : ¬ (U : Int) * D' < (U' : Int) * D) (hR : ∀ T C, R T C ↔ Q T C ∨ Q' T C) : IsGr U D R := by
  refine ⟨h.d1, h.u36, h.d12, h.cop, fun T C hq => ?_, ?_⟩
  · rcases (hR T C).1 hq with hq | hq
    · exact h.all T C hq
    · exact frac_trans (h'.all T C hq) (by omega) (by omega) (by have := h'.d1; omega) (by omega)
  · rcases h.one with e | ⟨T, C, hq, e⟩
    · exact .inl e
    · exact .inr ⟨T, C, (hR T C).2 (.inl hq), e⟩
theorem gr_right {U D U' D' : Nat} {Q Q' R : Int → Nat → Prop} (h : IsGr U D Q) (h' : IsGr U' D' Q') (hl : (U : Int) * D' < (U' : Int) * D) (hR : ∀ T C, R T C ↔ Q T C ∨ Q' T C) : IsGr U' D' R := by
  refine ⟨h'.d1, h'.u36, h'.d12, h'.cop, fun T C hq => ?_, ?_⟩
  · rcases (hR T C).1 hq with hq | hq
    · exact frac_trans (h.all T C hq) (by omega) (by omega) (by have := h.d1; omega) (by omega)
    · exact h'.all T C hq
  · rcases h'.one with e | ⟨T, C, hq, e⟩
    · exact .inl e
    · exact .inr ⟨T, C, (hR T C).2 (.inr hq), e⟩
theorem gr_congr {U D : Nat} {Q R : Int → Nat → Prop} (h : IsGr U D Q) (hR : ∀ T C, R T C ↔ Q T C) : IsGr U D R := by
  refine ⟨h.d1, h.u36, h.d12, h.cop, fun T C hq => h.all T C ((hR T C).1 hq), ?_⟩
  rcases h.one with e | ⟨T, C, hq, e⟩
  · exact .inl e
  · exact .inr ⟨T, C, (hR T C).2 hq, e⟩
theorem gcd_div {T C : Nat} (hC : 1 ≤ C) : 1 ≤ C / Nat.gcd T C ∧ Nat.gcd (T / Nat.gcd T C) (C / Nat.gcd T C) = 1 ∧ T * (C / Nat.gcd T C) = T / Nat.gcd T C * C := by
  have hg : 0 < Nat.gcd T C := Nat.gcd_pos_of_pos_right _ hC
  obtain ⟨a, ha⟩ := Nat.gcd_dvd_left T C
  obtain ⟨b, hb⟩ := Nat.gcd_dvd_right T C
  refine ⟨?_, ?_, ?_⟩
  · exact Nat.div_pos (Nat.le_of_dvd hC (Nat.gcd_dvd_right T C)) hg
  · exact Nat.coprime_div_gcd_div_gcd hg
  · have e1 : T / Nat.gcd T C = a := Nat.div_eq_of_eq_mul_right hg ha
    have e2 : C / Nat.gcd T C = b := Nat.div_eq_of_eq_mul_right hg hb
    rw [e1, e2]
    calc T * b = Nat.gcd T C * a * b := by rw [← ha]
      _ = a * (Nat.gcd T C * b) := by rw [Nat.mul_comm (Nat.gcd T C) a, Nat.mul_assoc]
      _ = a * C := by rw [← hb]
theorem gr_one {T C : Nat} (hT : T ≤ 36) (hC : 1 ≤ C) (hC2 : C ≤ 12) : IsGr (T / Nat.gcd T C) (C / Nat.gcd T C) (fun t c => t = (T : Int) ∧ c = C) := by
  obtain ⟨h1, h2, h3⟩ := gcd_div (T := T) hC
  have h4 : (T : Int) * ((C / Nat.gcd T C : Nat) : Int) = ((T / Nat.gcd T C : Nat) : Int) * (C : Int) := by exact_mod_cast h3
  refine ⟨h1, Nat.le_trans (Nat.div_le_self _ _) hT, Nat.le_trans (Nat.div_le_self _ _) hC2, h2, ?_, .inr ⟨T, C, ⟨rfl, rfl⟩, hC, h4⟩⟩
  rintro t c ⟨rfl, rfl⟩
  exact Int.le_of_eq h4
/-- the pace of a net: in lowest terms, kept, and nothing less is kept -/
structure IsPace (g : Gr) (U D : Nat) : Prop where
  d1 : 1 ≤ D
  u36 : U ≤ 36
  d12 : D ≤ 12
  cop : Nat.gcd U D = 1
  kept : g.keeps U D
  least : ∀ up down : Int, 0 ≤ up → 1 ≤ down → g.keeps up down → (U : Int) * down ≤ up * (D : Int)
theorem pace_of {g : Gr} (hg : g.Ok) {rk : Nat → Nat} (hr : g.Rank rk) {U D : Nat} {Q : Int → Nat → Prop} (h : IsGr U D Q) (h1 : ∀ T C, g.Rounds T C → Q T C) (h2 : ∀ T C, Q T C → g.RoundsA T C) : IsPace g U D := by
  refine ⟨h.d1, h.u36, h.d12, h.cop, ?_, fun up down hu hd hk => ?_⟩
  · refine Classical.byContradiction fun hn => ?_
    obtain ⟨T, C, hq, hp⟩ := rounds_of_not hg hn
    have := h.all T C (h1 T C hq)
    rw [Int.mul_comm T] at this
    omega
  · rcases h.one with ⟨rfl, rfl⟩ | ⟨T, C, hq, hC, e⟩
    · simp; exact hu
    · obtain ⟨s, _, hb⟩ := h2 T C hq
      obtain ⟨p, hp⟩ := hk
      have h3 := back_pot hp hb
      have h4 : T * down ≤ up * (C : Int) := by rw [Int.mul_comm T]; omega
      have hC0 : (0 : Int) < (C : Int) := by omega
      refine Int.le_of_mul_le_mul_right ?_ hC0
      calc (U : Int) * down * C = (U : Int) * C * down := by rw [Int.mul_assoc, Int.mul_comm down, ← Int.mul_assoc]
        _ = T * (D : Int) * down := by rw [e]
        _ = T * down * (D : Int) := by rw [Int.mul_assoc, Int.mul_comm (D : Int), ← Int.mul_assoc]
        _ ≤ up * (C : Int) * (D : Int) := Int.mul_le_mul_of_nonneg_right h4 (by omega)
        _ = up * (D : Int) * (C : Int) := by rw [Int.mul_assoc, Int.mul_comm (C : Int), ← Int.mul_assoc]
theorem rounds_pos {g : Gr} {rk : Nat → Nat} (hr : g.Rank rk) {T : Int} {C : Nat} (h : g.RoundsA T C) : 1 ≤ C := by
  obtain ⟨s, _, hb⟩ := h
  rcases Nat.eq_zero_or_pos C with e | e
  · have := back_rank hr hb e; omega
  · exact e
theorem cop_unique {U D U' D' : Nat} (h1 : Nat.gcd U D = 1) (h2 : Nat.gcd U' D' = 1) (hD : 1 ≤ D) (he : U * D' = U' * D) : U = U' ∧ D = D' := by
  have a1 : D ∣ D' := Nat.Coprime.dvd_of_dvd_mul_left (k := D) (m := U) (by rw [Nat.Coprime, Nat.gcd_comm]; exact h1) ⟨U', by rw [he, Nat.mul_comm]⟩
  have a2 : D' ∣ D := Nat.Coprime.dvd_of_dvd_mul_left (k := D') (m := U') (by rw [Nat.Coprime, Nat.gcd_comm]; exact h2) ⟨U, by rw [← he, Nat.mul_comm]⟩
  have e : D = D' := Nat.dvd_antisymm a1 a2
  subst e
  exact ⟨Nat.eq_of_mul_eq_mul_right (by omega) he, rfl⟩
theorem pace_unique {g : Gr} {U D U' D' : Nat} (h : IsPace g U D) (h' : IsPace g U' D') : U = U' ∧ D = D' := by
  have a1 := h.least _ _ (by omega) (by have := h'.d1; omega) h'.kept
  have a2 := h'.least _ _ (by omega) (by have := h.d1; omega) h.kept
  refine cop_unique h.cop h'.cop h.d1 ?_
  have : (U : Int) * (D' : Int) = (U' : Int) * (D : Int) := by omega
  exact_mod_cast this
/-- a pace is kept at any scale -/
theorem keeps_scale {g : Gr} {up down k : Int} (hk : 0 < k) : g.keeps (k * up) (k * down) ↔ g.keeps up down := by
  constructor
  · rintro ⟨p, hp⟩
    refine ⟨fun v => p v / k, fun q hq => ?_⟩
    have h := hp q hq
    have e : g.w (k * up) (k * down) q = g.w up down q * k := by
      unfold Gr.w
      rw [Int.sub_mul, Int.mul_assoc, Int.mul_assoc, Int.mul_comm k, Int.mul_comm k]
    rw [e] at h
    have h2 := Int.ediv_le_ediv hk h
    rw [Int.add_mul_ediv_right _ _ (by omega)] at h2
    exact h2
  · rintro ⟨p, hp⟩
    refine ⟨fun v => k * p v, fun q hq => ?_⟩
    have h := Int.mul_le_mul_of_nonneg_left (hp q hq) (Int.le_of_lt hk)
    have e : g.w (k * up) (k * down) q = k * g.w up down q := by
      unfold Gr.w
      rw [Int.mul_sub, Int.mul_assoc, Int.mul_assoc]
    rw [e, ← Int.mul_add]
    exact h
theorem keeps_slower {g : Gr} {up up' down : Int} (h : g.keeps up down) (hu : up ≤ up') : g.keeps up' down := by
  obtain ⟨p, hp⟩ := h
  refine ⟨p, fun k hk => ?_⟩
  have := hp k hk
  have h2 : up * (g.c k : Int) ≤ up' * (g.c k : Int) := Int.mul_le_mul_of_nonneg_right hu (by omega)
  unfold Gr.w at this ⊢
  omega
/-- kept exactly if the pace is at most it -/
theorem pace_keeps {g : Gr} {U D : Nat} (h : IsPace g U D) {up down : Int} (hu : 0 ≤ up) (hd : 1 ≤ down) : g.keeps up down ↔ (U : Int) * down ≤ up * (D : Int) := by
  refine ⟨h.least up down hu hd, fun hle => ?_⟩
  have hD : (0 : Int) < (D : Int) := by have := h.d1; omega
  refine (keeps_scale hD).1 ?_
  have h1 := (keeps_scale (g := g) (up := (U : Int)) (down := (D : Int)) (k := down) (by omega)).2 h.kept
  rw [Int.mul_comm (D : Int) down]
  refine keeps_slower h1 ?_
  rw [Int.mul_comm down, Int.mul_comm (D : Int)]
  exact hle
/-- nothing less is kept -/
theorem pace_less {g : Gr} (hg : g.Ok) {U D : Nat} (h : IsPace g U D) (hU : 1 ≤ U) : g.keepB ((U : Int) - 1) D = false := by
  refine Bool.eq_false_iff.2 fun hk => ?_
  have h1 := h.least _ _ (by omega) (by have := h.d1; omega) ((keepB_iff hg).1 hk)
  have h2 := h.d1
  rw [Int.sub_mul] at h1
  omega
theorem pace_kept {g : Gr} (hg : g.Ok) {U D : Nat} (h : IsPace g U D) : g.keepB U D = true := (keepB_iff hg).2 h.kept
/-- with more tokens the pace is no more -/
theorem pace_more {g h : Gr} (em : h.m = g.m) (ef : ∀ k, k < g.m → h.f k = g.f k ∧ h.t k = g.t k ∧ g.c k ≤ h.c k) (et : ∀ v, h.tm v = g.tm v) {U D U' D' : Nat} (hp : IsPace g U D) (hp' : IsPace h U' D') : (U' : Int) * D ≤ (U : Int) * D' := by
  refine hp'.least U D (by omega) (by have := hp.d1; omega) ?_
  obtain ⟨p, hq⟩ := hp.kept
  refine ⟨p, fun k hk => ?_⟩
  rw [em] at hk
  obtain ⟨e1, e2, e3⟩ := ef k hk
  have h1 := hq k hk
  have h2 : (U : Int) * (g.c k : Int) ≤ (U : Int) * (h.c k : Int) := Int.mul_le_mul_of_nonneg_left (by omega) (by omega)
  unfold Gr.w at h1 ⊢
  rw [e1, e2, et]
  omega
/-- by the pace none begins too late -/
theorem b_pace {g : Gr} (hg : g.Ok) {rk : Nat → Nat} (hr : g.Rank rk) {U D : Nat} (h : IsPace g U D) : ∀ r v, r ≤ 40 → v < g.n → g.b r v * (D : Int) ≤ (U : Int) * (r : Int) + (D : Int) * sm g.tm g.n := by
  intro r v h40 hv
  have hk := h.kept
  have hD : (1 : Int) ≤ (D : Int) := by have := h.d1; omega
  have key : g.b r v ≤ ((U : Int) * (r : Int) + g.D U D g.n v) / (D : Int) := by
    refine b_le hg hr (fun r v => ((U : Int) * (r : Int) + g.D U D g.n v) / (D : Int)) (R := 41) (by omega) (fun r v _ _ => ?_) (fun r k hrR hkm hc hi => ?_) r v (by omega) hv
    · refine Int.ediv_nonneg ?_ (by omega)
      have := D_nn (g := g) (up := U) (down := D) g.n v
      have : 0 ≤ (U : Int) * (r : Int) := Int.mul_nonneg (by omega) (by omega)
      omega
    · have h1 := pot_D hg hk k hkm
      have h2 := (Int.le_ediv_iff_mul_le (by omega : (0 : Int) < (D : Int))).1 hi
      refine (Int.le_ediv_iff_mul_le (by omega : (0 : Int) < (D : Int))).2 ?_
      unfold Gr.w at h1
      have e : (((r - g.c k : Nat) : Int)) = (r : Int) - (g.c k : Int) := by omega
      rw [e, Int.mul_sub] at h2
      rw [Int.add_mul, Int.mul_comm (g.tm (g.f k))]
      omega
  have h1 := (Int.le_ediv_iff_mul_le (by omega : (0 : Int) < (D : Int))).1 key
  have h2 := D_total hg hk (by omega) (by omega) hv g.n
  omega
/-- a ring: its pace -/
theorem pace_ring {g : Gr} {n c : Nat} (hn : 0 < n) (hc : 1 ≤ c) (en : g.n = n) (em : g.m = n) (ef : ∀ k, k < n → g.f k = k ∧ g.t k = (k + 1) % n ∧ g.c k = if k = n - 1 then c else 0) {U D : Nat} (hd : 1 ≤ D) (hu : U ≤ 36) (hd2 : D ≤ 12) (hcop : Nat.gcd U D = 1) (he : sm g.tm n * (D : Int) = (U : Int) * (c : Int)) : IsPace g U D := by
  have eq1 : ∀ k, k < n → k ≠ n - 1 → (k + 1) % n = k + 1 := fun k hk hne => Nat.mod_eq_of_lt (by omega)
  have eq2 : (n - 1 + 1) % n = 0 := by rw [Nat.sub_add_cancel hn, Nat.mod_self]
  refine ⟨hd, hu, hd2, hcop, ⟨fun v => (D : Int) * sm g.tm v, fun k hk => ?_⟩, fun up down h0 h1 hk => ?_⟩
  · rw [em] at hk
    obtain ⟨e1, e2, e3⟩ := ef k hk
    unfold Gr.w
    rw [e1, e2, e3]
    by_cases hkn : k = n - 1
    · subst hkn
      rw [eq2, if_pos rfl]
      have : sm g.tm n = sm g.tm (n - 1) + g.tm (n - 1) := by
        obtain ⟨q, rfl⟩ : ∃ q, n = q + 1 := ⟨n - 1, by omega⟩
        rfl
      rw [this, Int.add_mul, Int.mul_comm (sm g.tm (n - 1)), Int.mul_comm (g.tm (n - 1))] at he
      simp only [sm]
      omega
    · rw [eq1 k hk hkn, if_neg hkn]
      simp only [sm, Int.mul_add]
      omega
  · obtain ⟨p, hp⟩ := hk
    have key : ∀ q, q < n → down * sm g.tm q ≤ p q - p 0 := by
      intro q
      induction q with
      | zero => intro _; simp only [sm]; omega
      | succ q ih =>
        intro hq
        have h2 := hp q (by omega)
        obtain ⟨e1, e2, e3⟩ := ef q (by omega)
        unfold Gr.w at h2
        rw [e1, e2, e3, eq1 q (by omega) (by omega), if_neg (by omega)] at h2
        have := ih (by omega)
        simp only [sm, Int.mul_add]
        omega
    have h2 := hp (n - 1) (by omega)
    obtain ⟨e1, e2, e3⟩ := ef (n - 1) (by omega)
    unfold Gr.w at h2
    rw [e1, e2, e3, eq2, if_pos rfl] at h2
    have h3 := key (n - 1) (by omega)
    have h4 : down * sm g.tm n ≤ up * (c : Int) := by
      obtain ⟨q, rfl⟩ : ∃ q, n = q + 1 := ⟨n - 1, by omega⟩
      simp only [Nat.add_sub_cancel] at h2 h3
      simp only [sm, Int.mul_add]
      omega
    have hC0 : (0 : Int) < (c : Int) := by omega
    refine Int.le_of_mul_le_mul_right ?_ hC0
    calc (U : Int) * down * c = (U : Int) * c * down := by rw [Int.mul_assoc, Int.mul_comm down, ← Int.mul_assoc]
      _ = sm g.tm n * (D : Int) * down := by rw [he]
      _ = down * sm g.tm n * (D : Int) := by rw [Int.mul_assoc, Int.mul_comm (D : Int), ← Int.mul_assoc, Int.mul_comm (sm g.tm n)]
      _ ≤ up * (c : Int) * (D : Int) := Int.mul_le_mul_of_nonneg_right h4 (by omega)
      _ = up * (D : Int) * (c : Int) := by rw [Int.mul_assoc, Int.mul_comm (c : Int), ← Int.mul_assoc]
theorem rank_ring {g : Gr} {n c : Nat} (hn : 0 < n) (hc : 1 ≤ c) (en : g.n = n) (em : g.m = n) (ef : ∀ k, k < n → g.f k = k ∧ g.t k = (k + 1) % n ∧ g.c k = if k = n - 1 then c else 0) : g.Rank (fun v => v) := by
  refine ⟨fun v hv => hv, fun k hk h0 => ?_⟩
  show g.f k < g.t k
  rw [em] at hk
  obtain ⟨e1, e2, e3⟩ := ef k hk
  by_cases hkn : k = n - 1
  · rw [e3, if_pos hkn] at h0; omega
  · rw [e1, e2, Nat.mod_eq_of_lt (by omega)]; omega
theorem sm_total (ts : List Int) : sm (fun v => ts.getD v 0) ts.length = ts.foldl (· + ·) 0 := by
  have key : ∀ (n : Nat), n ≤ ts.length → sm (fun v => ts.getD v 0) n = (ts.take n).foldl (· + ·) 0 := by
    intro n
    induction n with
    | zero => intro _; simp [sm]
    | succ n ih =>
      intro h
      have hx : ts[n]? = some (ts.getD n 0) := get_getD (by omega)
      rw [List.take_add_one, hx, List.foldl_append, ← ih (by omega)]
      rfl
  have := key ts.length (Nat.le_refl _)
  rwa [List.take_length] at this
end Go.Proofs.Ytkjmpkincaainac
namespace Go.Proofs.Ytkjmpkincaainac
open Go.RowKit Go.WideShapes

def fU (T C : Nat) : Nat := T / Nat.gcd T C
def fD (T C : Nat) : Nat := C / Nat.gcd T C
theorem gcd_step {a b : Nat} : Nat.gcd a b = Nat.gcd b (a % b) := by rw [Nat.gcd_comm b, Nat.gcd_comm a b, ← Nat.gcd_rec, Nat.gcd_comm]
theorem gcd_le8 {T C : Nat} (hC : 1 ≤ C) : 1 ≤ Nat.gcd T C ∧ Nat.gcd T C ≤ C := ⟨Nat.gcd_pos_of_pos_right _ hC, Nat.le_of_dvd hC (Nat.gcd_dvd_right _ _)⟩
set_option maxRecDepth 100000 in
theorem gcd_any (T C : Nat) (hT : T ≤ 1000000000) (hC : 1 ≤ C) (hC2 : C ≤ 1000000000) (w : World) :
    Calls Try.prog 42 #[.int .i64 T, .int .i64 C] w fun e w' => e = .returned (.int .i64 (Nat.gcd T C : Nat)) ∧ w' = w := by
  go_enter Try.func42, Try.ntmps42
  go_wp2
  go_loop [0, 1, 5] (fun x y _ => ∃ a b : Nat, x = .int .i64 a ∧ y = .int .i64 b ∧ a ≤ 1000000000 ∧ b ≤ 1000000000 ∧ Nat.gcd a b = Nat.gcd T C) (fun _ y _ => (intOf y).toNat)
  case atStart => exact ⟨T, C, rfl, rfl, hT, hC2, rfl⟩
  case round =>
    obtain ⟨a, b, rfl, rfl, ha, hb, hg⟩ := hrel
    by_cases hb0 : b = 0
    · subst hb0
      have h0 : (((0 : Nat) : Int) != 0) = false := rfl
      rw [Nat.gcd_zero_right] at hg
      have HG := Lib.hid hg
      clear hg
      have hm : ¬ (a : Int) < -(a : Int) := by omega
      have hm2 : max (a : Int) (-(a : Int)) = (a : Int) := by omega
      go_wp2
      go_ret
      exact ⟨ret_int (by rw [← HG.out]), rfl⟩
    · have h0 : ((b : Int) != 0) = true := by simp; omega
      have HG := Lib.hid hg
      have e1 : 0 ≤ (a : Int) % (b : Int) := Int.emod_nonneg _ (by omega)
      have e2 : (a : Int) % (b : Int) < (b : Int) := Int.emod_lt_of_pos _ (by omega)
      have e3 : a % b < b := Nat.mod_lt _ (by omega)
      clear hg
      go_wp2
      go_round
      case rel => exact ⟨b, a % b, rfl, by go_num, hb, by omega, by rw [← HG.out]; exact gcd_step.symm⟩
      case measure => simp [intOf] <;> omega
set_option maxRecDepth 100000 in
theorem divisor_any (T C : Nat) (hT : T ≤ 1000000000) (hC : 1 ≤ C) (hC2 : C ≤ 1000000000) (w : World) :
    Calls Try.prog 31 #[.int .i64 T, .int .i64 C] w fun e w' => e = .returned (.int .i64 (Nat.gcd T C : Nat)) ∧ w' = w := by
  go_enter Try.func31, Try.ntmps31
  go_wp2
  go_loop [0, 1, 5] (fun x y _ => ∃ a b : Nat, x = .int .i64 a ∧ y = .int .i64 b ∧ a ≤ 1000000000 ∧ b ≤ 1000000000 ∧ Nat.gcd a b = Nat.gcd T C) (fun _ y _ => (intOf y).toNat)
  case atStart => exact ⟨T, C, rfl, rfl, hT, hC2, rfl⟩
  case round =>
    obtain ⟨a, b, rfl, rfl, ha, hb, hg⟩ := hrel
    by_cases hb0 : b = 0
    · subst hb0
      have h0 : (((0 : Nat) : Int) != 0) = false := rfl
      rw [Nat.gcd_zero_right] at hg
      have HG := Lib.hid hg
      clear hg
      have hm : ¬ (a : Int) < -(a : Int) := by omega
      have hm2 : max (a : Int) (-(a : Int)) = (a : Int) := by omega
      go_wp2
      go_ret
      exact ⟨ret_int (by rw [← HG.out]), rfl⟩
    · have h0 : ((b : Int) != 0) = true := by simp; omega
      have HG := Lib.hid hg
      have e1 : 0 ≤ (a : Int) % (b : Int) := Int.emod_nonneg _ (by omega)
      have e2 : (a : Int) % (b : Int) < (b : Int) := Int.emod_lt_of_pos _ (by omega)
      have e3 : a % b < b := Nat.mod_lt _ (by omega)
      clear hg
      go_wp2
      go_round
      case rel => exact ⟨b, a % b, rfl, by go_num, hb, by omega, by rw [← HG.out]; exact gcd_step.symm⟩
      case measure => simp [intOf] <;> omega
/-- what a call of fractions hands back -/
def FracP (w : World) (U D : Nat) (e : Ending) (w' : World) : Prop := e = .returned (.agg #[.int .i64 U, .int .i64 D]) ∧ Below w.heap.size w w'
set_option maxRecDepth 100000 in
set_option maxHeartbeats 1000000 in
theorem frac_any (T C : Nat) (hT : T ≤ 1000000000) (hC : 1 ≤ C) (hC2 : C ≤ 1000000000) (w : World) :
    Calls Try.prog 35 #[.int .i64 T, .int .i64 C] w (FracP w (fU T C) (fD T C)) := by
  have HG := Lib.hid (gcd_any T C hT hC hC2)
  obtain ⟨g0, g1⟩ := gcd_le8 (T := T) hC
  have HU : Hid (((fU T C : Nat) : Int) = (T : Int) / ((Nat.gcd T C : Nat) : Int)) := Lib.hid (by unfold fU; push_cast; rfl)
  have HD : Hid (((fD T C : Nat) : Int) = (C : Int) / ((Nat.gcd T C : Nat) : Int)) := Lib.hid (by unfold fD; push_cast; rfl)
  unfold FracP
  generalize hgg : Nat.gcd T C = G at HG HU HD g0 g1
  clear hgg
  rw [HU.out, HD.out]
  have a1 : 0 ≤ (T : Int) / (G : Int) := Int.ediv_nonneg (by omega) (by omega)
  have a2 : (T : Int) / (G : Int) ≤ T := Int.ediv_le_self _ (by omega)
  have a3 : 0 ≤ (C : Int) / (G : Int) := Int.ediv_nonneg (by omega) (by omega)
  have a4 : (C : Int) / (G : Int) ≤ C := Int.ediv_le_self _ (by omega)
  have hg0 : ¬ (G : Int) = 0 := by omega
  have hgz : ¬ G = 0 := by omega
  have hC0 : ¬ (C : Int) < 0 := by omega
  go_enter Try.func35, Try.ntmps35
  go_wp2_with fail
  refine (HG.out _).mono ?_
  rintro e w' ⟨rfl, rfl⟩
  go_wp2_with fail
  have mixed : Try.prog.follows .mixedOrders = true := by kernel_rfl
  go_region_o
  clear mixed
  go_wp2_with fail
  refine bodyPost_ret (v := .agg #[.int .i64 ((T : Int) / (G : Int)), .int .i64 ((C : Int) / (G : Int))]) (by simp [results, Try.results35, go_sem]) rfl ⟨rfl, ?_⟩
  exact ((Below.refl _ w).alloc (Nat.le_refl _) _).drew
set_option maxRecDepth 100000 in
set_option maxHeartbeats 1000000 in
theorem lfrac_any (T C : Nat) (hT : T ≤ 1000000000) (hC : 1 ≤ C) (hC2 : C ≤ 1000000000) (w : World) :
    Calls Try.prog 13 #[.int .i64 T, .int .i64 C] w (FracP w (fU T C) (fD T C)) := by
  have HG := Lib.hid (divisor_any T C hT hC hC2)
  obtain ⟨g0, g1⟩ := gcd_le8 (T := T) hC
  have HU : Hid (((fU T C : Nat) : Int) = (T : Int) / ((Nat.gcd T C : Nat) : Int)) := Lib.hid (by unfold fU; push_cast; rfl)
  have HD : Hid (((fD T C : Nat) : Int) = (C : Int) / ((Nat.gcd T C : Nat) : Int)) := Lib.hid (by unfold fD; push_cast; rfl)
  unfold FracP
  generalize hgg : Nat.gcd T C = G at HG HU HD g0 g1
  clear hgg
  rw [HU.out, HD.out]
  have a1 : 0 ≤ (T : Int) / (G : Int) := Int.ediv_nonneg (by omega) (by omega)
  have a2 : (T : Int) / (G : Int) ≤ T := Int.ediv_le_self _ (by omega)
  have a3 : 0 ≤ (C : Int) / (G : Int) := Int.ediv_nonneg (by omega) (by omega)
  have a4 : (C : Int) / (G : Int) ≤ C := Int.ediv_le_self _ (by omega)
  have hg0 : ¬ (G : Int) = 0 := by omega
  have hgz : ¬ G = 0 := by omega
  have hC0 : ¬ (C : Int) < 0 := by omega
  go_enter Try.func13, Try.ntmps13
  go_wp2_with fail
  refine (HG.out _).mono ?_
  rintro e w' ⟨rfl, rfl⟩
  go_wp2_with fail
  have mixed : Try.prog.follows .mixedOrders = true := by kernel_rfl
  go_region_o
  clear mixed
  go_wp2_with fail
  refine bodyPost_ret (v := .agg #[.int .i64 ((T : Int) / (G : Int)), .int .i64 ((C : Int) / (G : Int))]) (by simp [results, Try.results13, go_sem]) rfl ⟨rfl, ?_⟩
  exact ((Below.refl _ w).alloc (Nat.le_refl _) _).drew
set_option maxRecDepth 100000 in
set_option maxHeartbeats 1000000 in
theorem less_any (U D U' D' : Nat) (h : U ≤ 100000 ∧ D ≤ 100000 ∧ U' ≤ 100000 ∧ D' ≤ 100000) (w : World) :
    Calls Try.prog 32 #[.agg #[.int .i64 U, .int .i64 D], .agg #[.int .i64 U', .int .i64 D']] w (valN w (.bool (decide ((U : Int) * D' < (U' : Int) * D)))) := by
  have b1 : 0 ≤ (U : Int) * D' ∧ (U : Int) * D' ≤ 100000 * 100000 := ⟨Int.mul_nonneg (by omega) (by omega), Int.mul_le_mul (by omega) (by omega) (by omega) (by omega)⟩
  have b2 : 0 ≤ (U' : Int) * D ∧ (U' : Int) * D ≤ 100000 * 100000 := ⟨Int.mul_nonneg (by omega) (by omega), Int.mul_le_mul (by omega) (by omega) (by omega) (by omega)⟩
  obtain ⟨x, hx⟩ : ∃ x, (U : Int) * D' = x := ⟨_, rfl⟩
  obtain ⟨y, hy⟩ : ∃ y, (U' : Int) * D = y := ⟨_, rfl⟩
  go_enter Try.func32, Try.ntmps32
  go_wp2_with fail
  go_ret
  subst hx
  subst hy
  exact ⟨rfl, ((Below.refl _ w).alloc (Nat.le_refl _) _).alloc (by simp) _⟩
set_option maxRecDepth 100000 in
set_option maxHeartbeats 1000000 in
theorem lless_any (U D U' D' : Nat) (h : U ≤ 100000 ∧ D ≤ 100000 ∧ U' ≤ 100000 ∧ D' ≤ 100000) (w : World) :
    Calls Try.prog 18 #[.agg #[.int .i64 U, .int .i64 D], .agg #[.int .i64 U', .int .i64 D']] w (valN w (.bool (decide ((U : Int) * D' < (U' : Int) * D)))) := by
  have b1 : 0 ≤ (U : Int) * D' ∧ (U : Int) * D' ≤ 100000 * 100000 := ⟨Int.mul_nonneg (by omega) (by omega), Int.mul_le_mul (by omega) (by omega) (by omega) (by omega)⟩
  have b2 : 0 ≤ (U' : Int) * D ∧ (U' : Int) * D ≤ 100000 * 100000 := ⟨Int.mul_nonneg (by omega) (by omega), Int.mul_le_mul (by omega) (by omega) (by omega) (by omega)⟩
  obtain ⟨x, hx⟩ : ∃ x, (U : Int) * D' = x := ⟨_, rfl⟩
  obtain ⟨y, hy⟩ : ∃ y, (U' : Int) * D = y := ⟨_, rfl⟩
  go_enter Try.func18, Try.ntmps18
  go_wp2_with fail
  go_ret
  subst hx
  subst hy
  exact ⟨rfl, ((Below.refl _ w).alloc (Nat.le_refl _) _).alloc (by simp) _⟩
set_option maxRecDepth 100000 in
set_option maxHeartbeats 1000000 in
theorem ifrac_any (T C : Nat) (hT : T ≤ 1000000000) (hC : 1 ≤ C) (hC2 : C ≤ 1000000000) (w : World) :
    Calls Try.prog 27 #[.int .i64 T, .int .i64 C] w (FracP w (fU T C) (fD T C)) := by
  obtain ⟨g0, g1⟩ := gcd_le8 (T := T) hC
  have HU : Hid (((fU T C : Nat) : Int) = (T : Int) / ((Nat.gcd T C : Nat) : Int)) := Lib.hid (by unfold fU; push_cast; rfl)
  have HD : Hid (((fD T C : Nat) : Int) = (C : Int) / ((Nat.gcd T C : Nat) : Int)) := Lib.hid (by unfold fD; push_cast; rfl)
  unfold FracP
  rw [HU.out, HD.out]
  obtain ⟨G, hG⟩ : ∃ G, Nat.gcd T C = G := ⟨_, rfl⟩
  rw [hG] at HU HD g0 g1 ⊢
  have HGG := Lib.hid hG
  clear hG
  go_enter Try.func27, Try.ntmps27
  go_wp2_with fail
  have cz : (w.alloc (.cells #[.int .i64 0, .int .i64 0] 24)).cell? ⟨w.heap.size, 0, none⟩ = some (.int .i64 0) ∧ (w.alloc (.cells #[.int .i64 0, .int .i64 0] 24)).cell? ⟨w.heap.size, 1, none⟩ = some (.int .i64 0) := ⟨by rw [World.cell?_alloc_new]; rfl, by rw [World.cell?_alloc_new]; rfl⟩
  have fz : ∀ q, (w.alloc (.cells #[.int .i64 0, .int .i64 0] 24)).frozen? ⟨w.heap.size, q, none⟩ = false := fun q => World.frozen?_alloc_new w _ _ _
  have hb0 := (Below.refl w.heap.size w).alloc (Nat.le_refl _) (.cells #[.int .i64 0, .int .i64 0] 24)
  generalize (w.alloc (.cells #[.int .i64 0, .int .i64 0] 24)) = w1 at *
  go_loopw [5, 6] (fun x y wr => ∃ a b : Nat, x = .int .i64 a ∧ y = .int .i64 b ∧ 1 ≤ a ∧ a ≤ 1000000000 ∧ b ≤ 1000000000 ∧ Nat.gcd a b = G ∧ Drew w1 wr) (fun _ y _ => (intOf y).toNat)
  case atStart => exact ⟨C, T, rfl, rfl, hC, hC2, hT, by rw [← HGG.out]; exact Nat.gcd_comm _ _, Drew.refl _⟩
  case round =>
    obtain ⟨a, b, rfl, rfl, ha1, ha, hb, hg, hd⟩ := hrel
    by_cases hb0 : b = 0
    · subst hb0
      have h0 : ¬ (0 : Int) < ((0 : Nat) : Int) := by omega
      rw [Nat.gcd_zero_right] at hg
      subst hg
      obtain ⟨q, rfl⟩ := hd
      have c0 : (w1.drewN q).cell? ⟨w.heap.size, 0, none⟩ = some (.int .i64 0) := cz.1
      have c1 : (w1.drewN q).cell? ⟨w.heap.size, 1, none⟩ = some (.int .i64 0) := cz.2
      have f0 : (w1.drewN q).frozen? ⟨w.heap.size, 0, none⟩ = false := fz 0
      have f1 : (w1.drewN q).frozen? ⟨w.heap.size, 1, none⟩ = false := fz 1
      have HB := Lib.hid (below_drewN hb0 q)
      clear cz fz hb0
      generalize w1.drewN q = w2 at *
      have a1 : 0 ≤ (T : Int) / (a : Int) := Int.ediv_nonneg (by omega) (by omega)
      have a2 : (T : Int) / (a : Int) ≤ T := Int.ediv_le_self _ (by omega)
      have a3 : 0 ≤ (C : Int) / (a : Int) := Int.ediv_nonneg (by omega) (by omega)
      have a4 : (C : Int) / (a : Int) ≤ C := Int.ediv_le_self _ (by omega)
      have hg0 : ¬ (a : Int) = 0 := by omega
      have hgz : ¬ a = 0 := by omega
      go_wp2_with fail
      have mixed : Try.prog.follows .mixedOrders = true := by kernel_rfl
      go_region_o
      clear mixed
      go_wp2_with fail
      refine bodyPost_ret (v := .agg #[.int .i64 ((T : Int) / (a : Int)), .int .i64 ((C : Int) / (a : Int))]) (by simp [results, Try.results27, go_sem, c0, c1]) rfl ⟨rfl, ?_⟩
      exact ((HB.out.setCell (Nat.le_refl _) _).setCell (Nat.le_refl _) _).drew
    · have h0 : (0 : Int) < (b : Int) := by omega
      have HG := Lib.hid hg
      have e1 : 0 ≤ (a : Int) % (b : Int) := Int.emod_nonneg _ (by omega)
      have e2 : (a : Int) % (b : Int) < (b : Int) := Int.emod_lt_of_pos _ (by omega)
      have e3 : a % b < b := Nat.mod_lt _ (by omega)
      clear hg
      go_wp2_with fail
      go_quiet (fail)
      go_wp2_with fail
      go_roundw
      case rel => exact ⟨b, a % b, rfl, by go_num, by omega, hb, by omega, by rw [← HG.out]; exact gcd_step.symm, hd.drew _⟩
      case measure => simp [intOf] <;> omega
end Go.Proofs.Ytkjmpkincaainac
namespace Go.Proofs.Ytkjmpkincaainac
open Go.RowKit Go.WideShapes

theorem Try.infoIntN : (Try.prog.info? 3).map (fun i => (i.zero, i.size, i.bytes)) = some (some (.int .i64 0), 1, 8) := by kernel_rfl

/-- what NetOf answers -/
def netRes (xs : List Int) (s : Int) : List Int := if (validDaysM xs && inB 0 20 s) = true then netM xs s else []
theorem netRes_len (xs : List Int) (s : Int) : (netRes xs s).length ≤ 1048576 := by
  unfold netRes
  split
  · rename_i h; simp only [Bool.and_eq_true] at h; have := validDays_len h.1; rw [netM_length]; omega
  · simp
theorem netRes_no {xs : List Int} {s : Int} (h : (validDaysM xs && inB 0 20 s) = false) : netRes xs s = [] := by unfold netRes; rw [h]; rfl
theorem netRes_yes {xs : List Int} {s : Int} (h : (validDaysM xs && inB 0 20 s) = true) : netRes xs s = netM xs s := by unfold netRes; rw [h]; rfl
theorem inB_of {lo hi x : Int} (h : inB lo hi x = true) : lo ≤ x ∧ x ≤ hi := by simpa [inB] using h

end Go.Proofs.Ytkjmpkincaainac
namespace Go.Proofs.Ytkjmpkincaainac

def bitN (x j : Nat) : Nat := x / 2 ^ j % 2
theorem bit_add_low {a m j : Nat} (h : j < m) : bitN (a + 2 ^ m) j = bitN a j := by
  unfold bitN
  obtain ⟨d, rfl⟩ : ∃ d, m = j + (d + 1) := ⟨m - j - 1, by omega⟩
  rw [Nat.pow_add, Nat.add_mul_div_left _ _ (Nat.pow_pos (by omega)), Nat.pow_succ, Nat.mul_comm (2 ^ d) 2, Nat.add_mul_mod_self_left]
theorem bit_add_at {a m : Nat} (h : a < 2 ^ m) : bitN (a + 2 ^ m) m = 1 := by
  unfold bitN
  rw [Nat.add_div_right _ (Nat.pow_pos (by omega)), Nat.div_eq_of_lt h]
theorem bit_high {a m j : Nat} (h : a < 2 ^ m) (hj : m ≤ j) : bitN a j = 0 := by
  unfold bitN
  rw [Nat.div_eq_of_lt (Nat.lt_of_lt_of_le h (Nat.pow_le_pow_right (by omega) hj))]
/-- the lots ahead of day i, cut where the mask says: their cost, and the first day of the last one -/
def scanM (xs : List Int) (s h : Int) (mask : Nat) : Nat → Int × Nat
  | 0 => (0, 0)
  | i + 1 => if bitN mask (i + 1) = 1 then ((scanM xs s h mask i).1 + runD xs s h (scanM xs s h mask i).2 (i + 1 - (scanM xs s h mask i).2), i + 1) else scanM xs s h mask i
def triedM (xs : List Int) (s h : Int) (mask : Nat) : Int := (scanM xs s h mask (xs.length - 1)).1 + runD xs s h (scanM xs s h mask (xs.length - 1)).2 (xs.length - (scanM xs s h mask (xs.length - 1)).2)
inductive PF (xs : List Int) (s h : Int) : Nat → Int → Prop where
  | none : PF xs s h 0 0
  | lot (i d : Nat) (c : Int) (hd : i + (d + 1) ≤ xs.length) (hc : PF xs s h i c) : PF xs s h (i + (d + 1)) (c + runD xs s h i (d + 1))
theorem PF.pc {xs : List Int} {s h : Int} {i : Nat} {c : Int} (p : PF xs s h i c) : ∀ c', PC xs s h i c' → PC xs s h 0 (c + c') := by
  induction p with
  | none => intro c' h'; rw [Int.zero_add]; exact h'
  | lot i d c hd _ ih =>
    intro c' h'
    have := ih _ (PC.lot i d c' hd h')
    rwa [← Int.add_assoc] at this
theorem PC.pf {xs : List Int} {s h : Int} {i : Nat} {c : Int} (p : PC xs s h i c) : ∀ c0, PF xs s h i c0 → PF xs s h xs.length (c0 + c) := by
  induction p with
  | done => intro c0 h'; rw [Int.add_zero]; exact h'
  | lot i d c hd _ ih =>
    intro c0 h'
    have := ih _ (PF.lot i d c0 hd h')
    rwa [Int.add_assoc] at this
theorem scan_pf (xs : List Int) (s h : Int) (mask : Nat) : ∀ i, i < xs.length → PF xs s h (scanM xs s h mask i).2 (scanM xs s h mask i).1 ∧ (scanM xs s h mask i).2 ≤ i := by
  intro i
  induction i with
  | zero => intro _; exact ⟨PF.none, Nat.le_refl _⟩
  | succ i ih =>
    intro hi
    obtain ⟨h1, h2⟩ := ih (by omega)
    rw [scanM]
    split
    · refine ⟨?_, Nat.le_refl _⟩
      have := PF.lot (scanM xs s h mask i).2 (i - (scanM xs s h mask i).2) _ (by omega) h1
      rw [show (scanM xs s h mask i).2 + (i - (scanM xs s h mask i).2 + 1) = i + 1 by omega, show i - (scanM xs s h mask i).2 + 1 = i + 1 - (scanM xs s h mask i).2 by omega] at this
      exact this
    · exact ⟨h1, by omega⟩
theorem tried_pc {xs : List Int} (s h : Int) (h0 : 0 < xs.length) (mask : Nat) : PC xs s h 0 (triedM xs s h mask) := by
  obtain ⟨h1, h2⟩ := scan_pf xs s h mask (xs.length - 1) (by omega)
  have := h1.pc _ (PC.lot (scanM xs s h mask (xs.length - 1)).2 (xs.length - (scanM xs s h mask (xs.length - 1)).2 - 1) 0 (by omega) (by
    rw [show (scanM xs s h mask (xs.length - 1)).2 + (xs.length - (scanM xs s h mask (xs.length - 1)).2 - 1 + 1) = xs.length by omega]; exact PC.done))
  rw [Int.add_zero, show xs.length - (scanM xs s h mask (xs.length - 1)).2 - 1 + 1 = xs.length - (scanM xs s h mask (xs.length - 1)).2 by omega] at this
  exact this
theorem scan_congr {xs : List Int} {s h : Int} {a b : Nat} : ∀ i, (∀ j, 1 ≤ j → j ≤ i → bitN a j = bitN b j) → scanM xs s h a i = scanM xs s h b i := by
  intro i
  induction i with
  | zero => intro _; rfl
  | succ i ih => intro hb; rw [scanM, scanM, ih (fun j h1 h2 => hb j h1 (by omega)), hb (i + 1) (by omega) (Nat.le_refl _)]
theorem scan_skip {xs : List Int} {s h : Int} {a i : Nat} : ∀ d, (∀ j, i < j → j ≤ i + d → bitN a j = 0) → scanM xs s h a (i + d) = scanM xs s h a i := by
  intro d
  induction d with
  | zero => intro _; rfl
  | succ d ih => intro hb; rw [← Nat.add_assoc, scanM, if_neg (by rw [hb (i + d + 1) (by omega) (by omega)]; omega), ih (fun j h1 h2 => hb j h1 (by omega))]
theorem scan_mask {xs : List Int} {s h : Int} {i : Nat} {c : Int} (p : PF xs s h i c) : i < xs.length → ∃ mask, mask % 2 = 1 ∧ mask < 2 ^ (i + 1) ∧ scanM xs s h mask i = (c, i) := by
  induction p with
  | none => intro _; exact ⟨1, rfl, by decide, rfl⟩
  | lot i d c hd _ ih =>
    intro hi
    obtain ⟨mask, h1, h2, h3⟩ := ih (by omega)
    refine ⟨mask + 2 ^ (i + (d + 1)), ?_, ?_, ?_⟩
    · rw [show i + (d + 1) = (i + d) + 1 by omega, Nat.pow_succ, Nat.mul_comm, Nat.add_mul_mod_self_left]; exact h1
    · have : 2 ^ (i + 1) ≤ 2 ^ (i + (d + 1)) := Nat.pow_le_pow_right (by omega) (by omega)
      rw [Nat.pow_succ 2 (i + (d + 1))]; omega
    · have hlt : mask < 2 ^ (i + (d + 1)) := Nat.lt_of_lt_of_le h2 (Nat.pow_le_pow_right (by omega) (by omega))
      have e1 : scanM xs s h (mask + 2 ^ (i + (d + 1))) i = (c, i) := by rw [← h3]; exact scan_congr i (fun j _ hj => bit_add_low (by omega))
      have e2 : scanM xs s h (mask + 2 ^ (i + (d + 1))) (i + d) = (c, i) := by
        rw [← e1]; exact scan_skip d (fun j hj1 hj2 => by rw [bit_add_low (by omega)]; exact bit_high h2 (by omega))
      rw [show i + (d + 1) = (i + d) + 1 by omega] at hlt e2 ⊢
      rw [scanM, if_pos (bit_add_at hlt), e2]
      show (c + runD xs s h i (i + d + 1 - i), i + d + 1) = _
      rw [show i + d + 1 - i = d + 1 by omega]
theorem tried_all {xs : List Int} {s h : Int} (h0 : 0 < xs.length) {c : Int} (p : PC xs s h 0 c) : ∃ t, 2 * t + 1 < 2 ^ xs.length ∧ triedM xs s h (2 * t + 1) = c := by
  have q := p.pf 0 PF.none
  rw [Int.zero_add] at q
  generalize hn : xs.length = n at q
  cases q with
  | none => omega
  | lot i d c' hd hc =>
    obtain ⟨mask, h1, h2, h3⟩ := scan_mask hc (by omega)
    refine ⟨mask / 2, ?_, ?_⟩
    · have : 2 ^ (i + 1) ≤ 2 ^ (i + (d + 1)) := Nat.pow_le_pow_right (by omega) (by omega)
      omega
    · rw [show 2 * (mask / 2) + 1 = mask by omega]
      have e : scanM xs s h mask (xs.length - 1) = (c', i) := by
        rw [← h3, show xs.length - 1 = i + d by omega]
        exact scan_skip d (fun j hj1 hj2 => bit_high h2 (by omega))
      unfold triedM
      rw [e]
      show c' + runD xs s h i (xs.length - i) = _
      rw [show xs.length - i = d + 1 by omega]
/-- the least by sets is the least by days -/
theorem tried_least {xs : List Int} (s h : Int) (h0 : 0 < xs.length) : minTo (fun t => triedM xs s h (2 * t + 1)) (2 ^ (xs.length - 1) - 1) = bst xs s h 0 := by
  have hb := bst_is (xs := xs) (s := s) (h := h) (Nat.zero_le _)
  have hp : 2 ^ xs.length = 2 * 2 ^ (xs.length - 1) := by
    obtain ⟨m, hm⟩ : ∃ m, xs.length = m + 1 := ⟨xs.length - 1, by omega⟩
    rw [hm, Nat.pow_succ, Nat.add_sub_cancel, Nat.mul_comm]
  refine LeastC.uniq (i := 0) ⟨?_, fun c hc => ?_⟩ hb
  · obtain ⟨t, _, e⟩ := minTo_at (fun t => triedM xs s h (2 * t + 1)) (2 ^ (xs.length - 1) - 1)
    rw [e]; exact tried_pc s h h0 _
  · obtain ⟨t, ht, e⟩ := tried_all h0 hc
    rw [← e]
    exact minTo_le (f := fun t => triedM xs s h (2 * t + 1)) (by omega)

-- more set, more hold; fewer days
theorem runD_up {xs : List Int} (hx : ∀ k, 0 ≤ xs.getD k 0) {s h s' h' : Int} (hs : s ≤ s') (hh : h ≤ h') (i d : Nat) : runD xs s h i d ≤ runD xs s' h' i d := by
  have := Int.mul_le_mul_of_nonneg_right hh (hsum_nonneg hx i d)
  unfold runD; split <;> omega
theorem PC.up {xs : List Int} (hx : ∀ k, 0 ≤ xs.getD k 0) {s h s' h' : Int} (hs : s ≤ s') (hh : h ≤ h') {i : Nat} {c : Int} (p : PC xs s' h' i c) : ∃ c', PC xs s h i c' ∧ c' ≤ c := by
  induction p with
  | done => exact ⟨0, PC.done, Int.le_refl _⟩
  | lot i d c hd _ ih =>
    obtain ⟨c', h1, h2⟩ := ih
    exact ⟨_, PC.lot i d c' hd h1, by have := runD_up hx hs hh i (d + 1); omega⟩
theorem bst_up {xs : List Int} (hx : ∀ k, 0 ≤ xs.getD k 0) {s h s' h' : Int} (hs : s ≤ s') (hh : h ≤ h') : bst xs s h 0 ≤ bst xs s' h' 0 := by
  obtain ⟨c, h1, h2⟩ := (bst_is (xs := xs) (s := s') (h := h') (Nat.zero_le _)).1.up hx hs hh
  have := (bst_is (xs := xs) (s := s) (h := h) (Nat.zero_le _)).2 c h1
  omega
end Go.Proofs.Ytkjmpkincaainac
