import Derived.Test.YtiapaddmnbeheaaTokF
namespace Go.Proofs.Ytiapaddmnbeheaa

-- the greatest pace, way by way (plain)
/-- 0 by 0 if there are none -/
def IsOpt (U D : Nat) (Q : Int → Nat → Prop) : Prop := (U = 0 ∧ D = 0 ∧ ∀ T C, ¬ Q T C) ∨ IsGr U D Q
theorem opt_bd {U D : Nat} {Q : Int → Nat → Prop} (h : IsOpt U D Q) : U ≤ 36 ∧ D ≤ 12 := by
  rcases h with ⟨rfl, rfl, _⟩ | h
  · omega
  · exact ⟨h.u36, h.d12⟩
theorem opt_gr {U D : Nat} {Q : Int → Nat → Prop} (h : IsOpt U D Q) (hd : D ≠ 0) : IsGr U D Q := by
  rcases h with ⟨_, e, _⟩ | h
  · exact absurd e hd
  · exact h
theorem opt_none {U D : Nat} {Q : Int → Nat → Prop} (h : IsOpt U D Q) (hd : D = 0) : ∀ T C, ¬ Q T C := by
  rcases h with ⟨_, _, h⟩ | h
  · exact h
  · have := h.d1; omega
theorem gr_orR {U D : Nat} {Q Q' R : Int → Nat → Prop} (h : IsGr U D Q) (h' : ∀ T C, ¬ Q' T C) (hR : ∀ T C, R T C ↔ Q T C ∨ Q' T C) : IsGr U D R :=
  gr_congr h fun T C => (hR T C).trans ⟨fun h => h.elim id (fun h2 => absurd h2 (h' T C)), .inl⟩
theorem gr_orL {U D : Nat} {Q Q' R : Int → Nat → Prop} (h : IsGr U D Q') (h' : ∀ T C, ¬ Q T C) (hR : ∀ T C, R T C ↔ Q T C ∨ Q' T C) : IsGr U D R :=
  gr_congr h fun T C => (hR T C).trans ⟨fun h => h.elim (fun h2 => absurd h2 (h' T C)) id, .inr⟩
theorem opt_none2 {U D : Nat} {Q Q' R : Int → Nat → Prop} (h : IsOpt U D Q) (h' : ∀ T C, ¬ Q' T C) (hR : ∀ T C, R T C ↔ Q T C ∨ Q' T C) : IsOpt U D R := by
  rcases h with ⟨e1, e2, h⟩ | h
  · exact .inl ⟨e1, e2, fun T C hr => ((hR T C).1 hr).elim (h T C) (h' T C)⟩
  · exact .inr (gr_orR h h' hR)
/-- what begins with way j -/
def Gr.Way (g : Gr) (s : Nat) (ok : Nat → Prop) (P : List Nat) (v : Nat) (T0 : Int) (C0 j : Nat) (T : Int) (C : Nat) : Prop :=
  g.f j = v ∧ ((g.t j = s ∧ T = T0 + g.tm v ∧ C = C0 + g.c j) ∨ (g.t j ≠ s ∧ ¬ g.t j ∈ P ∧ ok (g.t j) ∧ ∃ T' C', g.Back s ok (g.t j :: P) (g.t j) T' C' ∧ T = T0 + g.tm v + T' ∧ C = C0 + g.c j + C'))
def Gr.Ways (g : Gr) (s : Nat) (ok : Nat → Prop) (P : List Nat) (v : Nat) (T0 : Int) (C0 k : Nat) (T : Int) (C : Nat) : Prop := ∃ j, j < k ∧ g.Way s ok P v T0 C0 j T C
theorem ways_succ {g : Gr} {s : Nat} {ok : Nat → Prop} {P : List Nat} {v : Nat} {T0 : Int} {C0 k : Nat} (T : Int) (C : Nat) : g.Ways s ok P v T0 C0 (k + 1) T C ↔ g.Ways s ok P v T0 C0 k T C ∨ g.Way s ok P v T0 C0 k T C := by
  constructor
  · rintro ⟨j, hj, h⟩
    rcases Nat.lt_or_eq_of_le (Nat.le_of_lt_succ hj) with h1 | rfl
    · exact .inl ⟨j, h1, h⟩
    · exact .inr h
  · rintro (⟨j, hj, h⟩ | h)
    · exact ⟨j, by omega, h⟩
    · exact ⟨k, by omega, h⟩
theorem ways_zero {g : Gr} {s : Nat} {ok : Nat → Prop} {P : List Nat} {v : Nat} {T0 : Int} {C0 : Nat} (T : Int) (C : Nat) : ¬ g.Ways s ok P v T0 C0 0 T C := fun ⟨j, hj, _⟩ => by omega
/-- all that go on from v -/
def Gr.On (g : Gr) (s : Nat) (ok : Nat → Prop) (P : List Nat) (v : Nat) (T0 : Int) (C0 : Nat) (T : Int) (C : Nat) : Prop := ∃ T' C', g.Back s ok P v T' C' ∧ T = T0 + T' ∧ C = C0 + C'
theorem back_inv {g : Gr} {s : Nat} {ok : Nat → Prop} {P : List Nat} {v : Nat} {T : Int} {C : Nat} (h : g.Back s ok P v T C) : ∃ j, j < g.m ∧ g.f j = v ∧ ((g.t j = s ∧ T = g.tm v ∧ C = g.c j) ∨ (g.t j ≠ s ∧ ¬ g.t j ∈ P ∧ ok (g.t j) ∧ ∃ T' C', g.Back s ok (g.t j :: P) (g.t j) T' C' ∧ T = g.tm v + T' ∧ C = g.c j + C')) := by
  cases h with
  | close hk ht => exact ⟨_, hk, rfl, .inl ⟨ht, rfl, rfl⟩⟩
  | step hk h1 h2 h3 h4 => exact ⟨_, hk, rfl, .inr ⟨h1, h2, h3, _, _, h4, rfl, rfl⟩⟩
theorem on_ways {g : Gr} {s : Nat} {ok : Nat → Prop} {P : List Nat} {v : Nat} {T0 : Int} {C0 : Nat} (T : Int) (C : Nat) : g.On s ok P v T0 C0 T C ↔ g.Ways s ok P v T0 C0 g.m T C := by
  constructor
  · rintro ⟨T', C', hb, rfl, rfl⟩
    obtain ⟨j, hj, hf, h⟩ := back_inv hb
    refine ⟨j, hj, hf, ?_⟩
    rcases h with ⟨h1, rfl, rfl⟩ | ⟨h1, h2, h3, T2, C2, h4, rfl, rfl⟩
    · exact .inl ⟨h1, rfl, rfl⟩
    · exact .inr ⟨h1, h2, h3, T2, C2, h4, by omega, by omega⟩
  · rintro ⟨j, hj, rfl, h⟩
    rcases h with ⟨h1, rfl, rfl⟩ | ⟨h1, h2, h3, T2, C2, h4, rfl, rfl⟩
    · exact ⟨_, _, .close hj h1, rfl, rfl⟩
    · exact ⟨_, _, .step hj h1 h2 h3 h4, by omega, by omega⟩
theorem back_mem {g : Gr} {s : Nat} {ok : Nat → Prop} {P : List Nat} {v : Nat} {T : Int} {C : Nat} (h : g.Back s ok P v T C) : ∀ {P' : List Nat}, (∀ x, x ∈ P' ↔ x ∈ P) → g.Back s ok P' v T C := by
  induction h with
  | close hk ht => intro P' _; exact .close hk ht
  | step hk h1 h2 h3 _ ih =>
    intro P' hP
    exact .step hk h1 (fun h => h2 ((hP _).1 h)) h3 (ih (fun x => by rw [List.mem_cons, List.mem_cons, hP x]))
/-- a way that goes on, by what goes on from its end -/
theorem way_on {g : Gr} {s : Nat} {ok : Nat → Prop} {P P' : List Nat} {v j : Nat} {T0 : Int} {C0 : Nat} (hf : g.f j = v) (h1 : g.t j ≠ s) (h2 : ¬ g.t j ∈ P) (h3 : ok (g.t j)) (hP : ∀ x, x ∈ P' ↔ x = g.t j ∨ x ∈ P) (T : Int) (C : Nat) :
    g.Way s ok P v T0 C0 j T C ↔ g.On s ok P' (g.t j) (T0 + g.tm v) (C0 + g.c j) T C := by
  constructor
  · rintro ⟨_, ⟨h, _⟩ | ⟨_, _, _, T2, C2, h4, e1, e2⟩⟩
    · exact absurd h h1
    · exact ⟨T2, C2, back_mem h4 (fun x => by rw [hP x, List.mem_cons]), e1, e2⟩
  · rintro ⟨T2, C2, h4, e1, e2⟩
    exact ⟨hf, .inr ⟨h1, h2, h3, T2, C2, back_mem h4 (fun x => by rw [hP x, List.mem_cons]), e1, e2⟩⟩
theorem way_close {g : Gr} {s : Nat} {ok : Nat → Prop} {P : List Nat} {v j : Nat} {T0 : Int} {C0 : Nat} (hf : g.f j = v) (h1 : g.t j = s) (T : Int) (C : Nat) :
    g.Way s ok P v T0 C0 j T C ↔ (T = T0 + g.tm v ∧ C = C0 + g.c j) := by
  constructor
  · rintro ⟨_, ⟨_, h⟩ | ⟨h, _⟩⟩
    · exact h
    · exact absurd h1 h
  · rintro h
    exact ⟨hf, .inl ⟨h1, h⟩⟩
theorem way_none {g : Gr} {s : Nat} {ok : Nat → Prop} {P : List Nat} {v j : Nat} {T0 : Int} {C0 : Nat} (h : g.f j ≠ v ∨ (g.t j ≠ s ∧ (g.t j ∈ P ∨ ¬ ok (g.t j)))) (T : Int) (C : Nat) : ¬ g.Way s ok P v T0 C0 j T C := by
  rintro ⟨hf, ⟨h1, _⟩ | ⟨h1, h2, h3, _⟩⟩
  · rcases h with h | ⟨h, _⟩
    · exact h hf
    · exact h h1
  · rcases h with h | ⟨_, h | h⟩
    · exact h hf
    · exact h2 h
    · exact h h3
/-- the pace that is put beside another one -/
def pairU (U D U' D' : Nat) : Nat := if D' ≠ 0 ∧ (D = 0 ∨ (U : Int) * D' < (U' : Int) * D) then U' else U
def pairD (U D U' D' : Nat) : Nat := if D' ≠ 0 ∧ (D = 0 ∨ (U : Int) * D' < (U' : Int) * D) then D' else D
theorem opt_join {U D U' D' : Nat} {Q Q' R : Int → Nat → Prop} (h : IsOpt U D Q) (h' : IsOpt U' D' Q') (hR : ∀ T C, R T C ↔ Q T C ∨ Q' T C) : IsOpt (pairU U D U' D') (pairD U D U' D') R := by
  unfold pairU pairD
  split
  · rename_i hc
    obtain ⟨h1, h2⟩ := hc
    have g' := opt_gr h' h1
    by_cases hD : D = 0
    · exact .inr (gr_orL g' (opt_none h hD) hR)
    · rcases h2 with h2 | h2
      · exact absurd h2 hD
      · exact .inr (gr_right (opt_gr h hD) g' h2 hR)
  · rename_i hc
    by_cases hD' : D' = 0
    · exact opt_none2 h (opt_none h' hD') hR
    · have hD : D ≠ 0 := fun e => hc ⟨hD', .inl e⟩
      exact .inr (gr_left (opt_gr h hD) (opt_gr h' hD') (fun e => hc ⟨hD', .inr e⟩) hR)
theorem opt_one {T C : Nat} (hT : T ≤ 36) (hC : 1 ≤ C) (hC2 : C ≤ 12) {Q : Int → Nat → Prop} (hQ : ∀ t c, Q t c ↔ (t = (T : Int) ∧ c = C)) : IsGr (T / Nat.gcd T C) (C / Nat.gcd T C) Q := gr_congr (gr_one hT hC hC2) hQ
/-- the rounds from s on, of those before k -/
def Gr.Upto (g : Gr) (k : Nat) (ok : Nat → Nat → Prop) (T : Int) (C : Nat) : Prop := ∃ s, s < k ∧ g.Back s (ok s) [s] s T C
theorem upto_succ {g : Gr} {k : Nat} {ok : Nat → Nat → Prop} (T : Int) (C : Nat) : g.Upto (k + 1) ok T C ↔ g.Upto k ok T C ∨ g.On k (ok k) [k] k 0 0 T C := by
  constructor
  · rintro ⟨s, hs, h⟩
    rcases Nat.lt_or_eq_of_le (Nat.le_of_lt_succ hs) with h1 | rfl
    · exact .inl ⟨s, h1, h⟩
    · exact .inr ⟨T, C, h, by omega, by omega⟩
  · rintro (⟨s, hs, h⟩ | ⟨T', C', h, e1, e2⟩)
    · exact ⟨s, by omega, h⟩
    · have e3 : T = T' := by omega
      have e4 : C = C' := by omega
      subst e3
      subst e4
      exact ⟨k, by omega, h⟩
end Go.Proofs.Ytiapaddmnbeheaa
