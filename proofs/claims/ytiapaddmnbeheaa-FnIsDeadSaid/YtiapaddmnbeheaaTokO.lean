import Derived.Test.YtiapaddmnbeheaaTokP
namespace Go.Proofs.Ytiapaddmnbeheaa

-- orders in which workers begin (plain)
structure OrdQ (g : Gr) (L : List Nat) : Prop where
  nodup : L.Nodup
  lt : ∀ v ∈ L, v < g.n
  pre : ∀ L1 v L2, L = L1 ++ v :: L2 → ∀ k, k < g.m → g.t k = v → g.c k = 0 → g.f k ∈ L1
theorem ordQ_nil (g : Gr) : OrdQ g [] := ⟨List.nodup_nil, fun v hv => (by cases hv), fun L1 v L2 e => (by cases L1 <;> simp at e)⟩
theorem ordQ_snoc {g : Gr} {L : List Nat} (h : OrdQ g L) {v : Nat} (hv : v < g.n) (hn : ¬ v ∈ L) (hc : ∀ k, k < g.m → g.t k = v → g.c k = 0 → g.f k ∈ L) : OrdQ g (L ++ [v]) := by
  refine ⟨?_, fun u hu => ?_, fun L1 u L2 e k hk h1 h2 => ?_⟩
  · exact (List.perm_append_singleton _ _).symm.nodup (List.nodup_cons.2 ⟨hn, h.nodup⟩)
  · rcases List.mem_append.1 hu with hu | hu
    · exact h.lt u hu
    · simp only [List.mem_singleton] at hu; subst hu; exact hv
  · rcases List.eq_nil_or_concat L2 with rfl | ⟨L3, z, rfl⟩
    · have e2 := List.append_inj' e (by simp)
      obtain ⟨rfl, e3⟩ := e2
      simp only [List.cons.injEq, and_true] at e3
      subst e3
      exact hc k hk h1 h2
    · rw [List.concat_eq_append, ← List.cons_append, ← List.append_assoc] at e
      have e2 := List.append_inj' e (by simp)
      exact h.pre L1 u L3 e2.1 k hk h1 h2
theorem ordQ_free {g : Gr} {L : List Nat} (h : OrdQ g L) {S : Nat → Prop} (hS : g.Stuck S) : ∀ v ∈ L, ¬ S v := by
  have key : ∀ (L1 L2 : List Nat), L = L1 ++ L2 → ∀ v ∈ L1, ¬ S v := by
    intro L1
    induction hq : L1.length using Nat.strongRecOn generalizing L1 with
    | _ q ih =>
      intro L2 e v hv hs
      obtain ⟨A, B, rfl⟩ := List.append_of_mem hv
      obtain ⟨_, k, hk, h1, h2, h3⟩ := hS v hs
      have hm := h.pre A v (B ++ L2) (by rw [e]; simp) k hk h1 h2
      exact ih A.length (by rw [← hq]; simp) A rfl (v :: B ++ L2) (by rw [e]; simp) _ hm h3
  exact key L [] (by simp)
theorem ordQ_dead {g : Gr} {L : List Nat} (h : OrdQ g L) (hd : g.Dead) : L.length < g.n := by
  obtain ⟨S, hS, v, hv⟩ := hd
  have hn : ¬ v ∈ L := fun hm => ordQ_free h hS v hm hv
  have := nodup_short g.n (v :: L) (List.nodup_cons.2 ⟨hn, h.nodup⟩) (fun x hx => by
    rcases List.mem_cons.1 hx with rfl | hx
    · exact (hS x hv).1
    · exact h.lt x hx)
  rw [List.length_cons] at this
  exact this
theorem ordQ_len {g : Gr} {L : List Nat} (h : OrdQ g L) : L.length ≤ g.n := nodup_short g.n L h.nodup h.lt
theorem ord_next {g : Gr} (hd : ¬ g.Dead) {L : List Nat} (h : OrdQ g L) (hl : L.length < g.n) : ∃ u, u < g.n ∧ ¬ u ∈ L ∧ ∀ k, k < g.m → g.t k = u → g.c k = 0 → g.f k ∈ L ∨ ¬ g.f k < g.n := by
  refine Classical.byContradiction fun hno => ?_
  refine hd ⟨fun v => v < g.n ∧ ¬ v ∈ L, fun v hv => ⟨hv.1, ?_⟩, ?_⟩
  · refine Classical.byContradiction fun h2 => hno ⟨v, hv.1, hv.2, fun k hk e1 e2 => ?_⟩
    refine Classical.byContradiction fun h3 => h2 ⟨k, hk, e1, e2, ?_⟩
    simp only [not_or, Classical.not_not] at h3
    exact ⟨h3.2, h3.1⟩
  · refine Classical.byContradiction fun h2 => ?_
    have : ∀ v, v < g.n → v ∈ L := fun v hv => Classical.byContradiction fun h3 => h2 ⟨v, hv, h3⟩
    have hr := (List.nodup_range (n := g.n))
    have key : ∀ (n : Nat) (A B : List Nat), A.Nodup → (∀ x ∈ A, x ∈ B) → A.length = n → n ≤ B.length := by
      intro n
      induction n with
      | zero => intros; omega
      | succ n ih =>
        intro A B hA hAB hl
        cases A with
        | nil => cases hl
        | cons a A =>
          rw [List.nodup_cons] at hA
          have h5 := ih A (B.erase a) hA.2 (fun x hx => (List.mem_erase_of_ne (fun e => hA.1 (by subst e; exact hx))).2 (hAB x (by simp [hx]))) (by simpa using hl)
          rw [List.length_erase_of_mem (hAB a (by simp))] at h5
          have := List.length_pos_of_mem (hAB a (by simp))
          omega
    have := key g.n (List.range g.n) L hr (fun x hx => this x (List.mem_range.1 hx)) (by simp)
    omega
end Go.Proofs.Ytiapaddmnbeheaa
