import Derived.Test.YtiapaddmnbeheaaTokO
import Derived.Test.YtiapaddmnbeheaaPaceM
namespace Go.Proofs.Ytiapaddmnbeheaa

-- paths (plain)
def lastD (X : List Nat) : Nat := X.getLastD 0
theorem last_get {X : List Nat} (h : X ≠ []) : X[X.length - 1]? = some (X.getLastD 0) := by
  rw [← List.getLast?_eq_getElem?, List.getLastD_eq_getLast?]
  cases hx : X.getLast? with
  | none => exact absurd (List.getLast?_eq_none_iff.1 hx) h
  | some a => rfl
theorem last_snoc (X : List Nat) (a : Nat) : (X ++ [a]).getLastD 0 = a := by simp
/-- what is known of a path -/
structure PathOk (g : Gr) (rk : Nat → Nat) (X : List Nat) (s : Nat) (T0 C0 : Nat) : Prop where
  head : X[0]? = some s
  nodup : X.Nodup
  lt : ∀ v ∈ X, v < g.n
  t : T0 ≤ 9 * (X.length - 1)
  c : C0 ≤ 3 * (X.length - 1)
  rank : C0 = 0 → rk s ≤ rk (X.getLastD 0)
theorem PathOk.len {g : Gr} {rk : Nat → Nat} {X : List Nat} {s T0 C0 : Nat} (h : PathOk g rk X s T0 C0) : 1 ≤ X.length ∧ X.length ≤ g.n ∧ X ≠ [] ∧ X.getLastD 0 ∈ X ∧ s ∈ X := by
  have h1 := (List.getElem?_eq_some_iff.1 h.head).1
  have hne : X ≠ [] := by rintro rfl; simp at h1
  exact ⟨h1, nodup_short g.n X h.nodup h.lt, hne, List.mem_of_getElem? (last_get hne), List.mem_of_getElem? h.head⟩
theorem path_step {g : Gr} (hg : g.Ok) {rk : Nat → Nat} (hr : g.Rank rk) {X : List Nat} {s T0 C0 j tmv : Nat} (h : PathOk g rk X s T0 C0) (hj : j < g.m) (hf : g.f j = X.getLastD 0) (hn : ¬ g.t j ∈ X) (htm : g.tm (X.getLastD 0) = (tmv : Int)) : PathOk g rk (X ++ [g.t j]) s (T0 + tmv) (C0 + g.c j) := by
  obtain ⟨h1, h2, h3, h4, h5⟩ := h.len
  have hw := hg.ways j hj
  have ht := hg.times (X.getLastD 0)
  have hT := h.t
  have hC := h.c
  refine ⟨by rw [List.getElem?_append_left h1]; exact h.head, (List.perm_append_singleton _ _).symm.nodup (List.nodup_cons.2 ⟨hn, h.nodup⟩), fun v hv => ?_, by rw [List.length_append]; simp; omega, by rw [List.length_append]; simp; omega, fun h0 => ?_⟩
  · rcases List.mem_append.1 hv with hv | hv
    · exact h.lt v hv
    · simp only [List.mem_singleton] at hv; subst hv; exact hw.2.1
  · rw [last_snoc]
    have a1 := h.rank (by omega)
    have a2 := hr.2 j hj (by omega)
    rw [hf] at a2
    omega
theorem path_close {g : Gr} {rk : Nat → Nat} (hr : g.Rank rk) {X : List Nat} {s T0 C0 j : Nat} (h : PathOk g rk X s T0 C0) (hj : j < g.m) (hf : g.f j = X.getLastD 0) (ht : g.t j = s) : 1 ≤ C0 + g.c j := by
  rcases Nat.eq_zero_or_pos (C0 + g.c j) with e | e
  · have a1 := h.rank (by omega)
    have a2 := hr.2 j hj (by omega)
    rw [hf, ht] at a2
    omega
  · exact e
end Go.Proofs.Ytiapaddmnbeheaa
