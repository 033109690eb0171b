import Derived.Test.YtkpokcddefoklabCountM
namespace Go.Proofs.Ytkpokcddefoklab

/-- the greatest one of f of the parts, and 1 more; 0 without parts -/
def levOver (f : Nat → Int) (l : List (Nat × Int)) : Int := l.foldl (fun m p => max m (f p.1 + 1)) 0
theorem levOver_snoc (f : Nat → Int) (l : List (Nat × Int)) (p : Nat × Int) : levOver f (l ++ [p]) = max (levOver f l) (f p.1 + 1) := by simp [levOver]
theorem levOver_congr {f g : Nat → Int} {l : List (Nat × Int)} (h : ∀ p ∈ l, f p.1 = g p.1) : levOver f l = levOver g l := by
  unfold levOver
  have key : ∀ (l : List (Nat × Int)) (m : Int), (∀ p ∈ l, f p.1 = g p.1) → l.foldl (fun m p => max m (f p.1 + 1)) m = l.foldl (fun m p => max m (g p.1 + 1)) m := by
    intro l
    induction l with
    | nil => intro m _; rfl
    | cons p l ih => intro m h; simp only [List.foldl_cons]; rw [h p List.mem_cons_self, ih _ (fun q hq => h q (List.mem_cons_of_mem _ hq))]
  exact key l 0 h
theorem levOver_bd {f : Nat → Int} {B : Int} (hB : 0 ≤ B) {l : List (Nat × Int)} (h : ∀ p ∈ l, 0 ≤ f p.1 ∧ f p.1 + 1 ≤ B) : 0 ≤ levOver f l ∧ levOver f l ≤ B := by
  have key : ∀ (l : List (Nat × Int)) (m : Int), 0 ≤ m → m ≤ B → (∀ p ∈ l, 0 ≤ f p.1 ∧ f p.1 + 1 ≤ B) → 0 ≤ l.foldl (fun m p => max m (f p.1 + 1)) m ∧ l.foldl (fun m p => max m (f p.1 + 1)) m ≤ B := by
    intro l
    induction l with
    | nil => intro m h0 h1 _; exact ⟨h0, h1⟩
    | cons p l ih =>
      intro m h0 h1 h
      have hp := h p List.mem_cons_self
      exact ih (max m (f p.1 + 1)) (by omega) (by omega) (fun q hq => h q (List.mem_cons_of_mem _ hq))
  exact key l 0 (Int.le_refl _) hB h
def levM (rows : List (List Int)) : Nat → Nat → Int
  | 0, _ => 0
  | d + 1, i => levOver (fun p => levM rows d p) (pairsTo (rows.getD i []) (rows.getD i []).length)
theorem pairsTo_lt {xs : List Int} {p : Nat × Int} {k : Nat} (h : p ∈ pairsTo xs k) : p.1 < xs.length := by
  obtain ⟨h1, _⟩ := mem_pairsTo h
  rcases Nat.lt_or_ge p.1 xs.length with h' | h'
  · exact h'
  · simp [List.getElem?_eq_none h'] at h1
theorem levM_bd (rows : List (List Int)) : ∀ (d i : Nat), 0 ≤ levM rows d i ∧ levM rows d i ≤ d := by
  intro d
  induction d with
  | zero => intro i; simp [levM]
  | succ d ih => intro i; exact levOver_bd (by omega) (fun p _ => by have := ih p.1; omega)
theorem levM_fuel {rows : List (List Int)} (hv : validBillM rows = true) : ∀ (d d' i : Nat), i < d → i < d' → levM rows d i = levM rows d' i := by
  intro d
  induction d with
  | zero => intro d' i h; omega
  | succ d ih =>
    intro d' i h h'
    cases d' with
    | zero => omega
    | succ d' =>
      cases hr : rows[i]? with
      | none => simp only [levM, List.getD_eq_getElem?_getD, hr, Option.getD_none, List.length_nil, pairsTo]; rfl
      | some r =>
        obtain ⟨h1, _, _⟩ := okRows_get hv hr
        simp only [levM, List.getD_eq_getElem?_getD, hr, Option.getD_some]
        exact levOver_congr (fun p hp => by have := pairsTo_lt hp; exact ih d' p.1 (by omega) (by omega))
/-- the level of a part -/
def lev (rows : List (List Int)) (i : Nat) : Int := levM rows 6 i
theorem lev_eq {rows : List (List Int)} (hv : validBillM rows = true) {i : Nat} {r : List Int} (hr : rows[i]? = some r) : lev rows i = levOver (lev rows) (pairsTo r r.length) := by
  obtain ⟨h1, _, h3⟩ := okRows_get hv hr
  unfold lev
  show levM rows (5 + 1) i = _
  simp only [levM, List.getD_eq_getElem?_getD, hr, Option.getD_some]
  exact levOver_congr (fun p hp => by have := pairsTo_lt hp; exact levM_fuel hv 5 6 p.1 (by omega) (by omega))
theorem lev_bd (rows : List (List Int)) (i : Nat) : 0 ≤ lev rows i ∧ lev rows i ≤ 6 := levM_bd rows 6 i
theorem lev_part {rows : List (List Int)} {r : List Int} {k : Nat} : 0 ≤ levOver (lev rows) (pairsTo r k) ∧ levOver (lev rows) (pairsTo r k) ≤ 7 := levOver_bd (by omega) (fun p _ => by have := lev_bd rows p.1; omega)
/-- what LevelsOf answers for a bill -/
def levelsM (rows : List (List Int)) : List Int := (List.range rows.length).map (lev rows)
theorem levelsM_get {rows : List (List Int)} {i : Nat} {x : Int} (h : (levelsM rows)[i]? = some x) : x = lev rows i ∧ i < rows.length := by
  simp only [levelsM, List.getElem?_map, Option.map_eq_some_iff] at h
  obtain ⟨j, hj, rfl⟩ := h
  obtain ⟨h1, h2⟩ := List.getElem?_eq_some_iff.1 hj
  simp at h1 h2
  subst h2
  exact ⟨rfl, h1⟩
theorem levOver_ge {f : Nat → Int} {l : List (Nat × Int)} {p : Nat × Int} (h : p ∈ l) : f p.1 + 1 ≤ levOver f l := by
  have mono : ∀ (l : List (Nat × Int)) (m : Int), m ≤ l.foldl (fun m p => max m (f p.1 + 1)) m := by
    intro l
    induction l with
    | nil => intro m; exact Int.le_refl _
    | cons q l ih => intro m; have := ih (max m (f q.1 + 1)); simp only [List.foldl_cons]; omega
  have key : ∀ (l : List (Nat × Int)) (m : Int), p ∈ l → f p.1 + 1 ≤ l.foldl (fun m p => max m (f p.1 + 1)) m := by
    intro l
    induction l with
    | nil => intro m h; cases h
    | cons q l ih =>
      intro m h
      simp only [List.foldl_cons]
      rcases List.mem_cons.1 h with rfl | h
      · have := mono l (max m (f p.1 + 1)); omega
      · exact ih _ h
  exact key l 0 h
theorem mem_pairs {xs : List Int} {k : Nat} {x : Int} (hx : xs[k]? = some x) (h0 : 0 < x) : ∀ {n : Nat}, k < n → (k, x) ∈ pairsTo xs n := by
  intro n
  induction n with
  | zero => intro h; omega
  | succ n ih =>
    intro h
    simp only [pairsTo, List.mem_append]
    by_cases e : k = n
    · subst e; right; rw [pairAt_yes hx h0]; exact List.mem_singleton.2 rfl
    · exact Or.inl (ih (by omega))
theorem lev_up {rows : List (List Int)} (hv : validBillM rows = true) {i j : Nat} {r : List Int} {x : Int} (hr : rows[i]? = some r) (hx : r[j]? = some x) (h0 : 0 < x) : lev rows j < lev rows i := by
  have hj : j < r.length := by
    rcases Nat.lt_or_ge j r.length with h' | h'
    · exact h'
    · simp [List.getElem?_eq_none h'] at hx
  have h1 : lev rows j + 1 ≤ levOver (lev rows) (pairsTo r r.length) := levOver_ge (f := lev rows) (mem_pairs hx h0 hj)
  rw [lev_eq hv hr]
  omega
theorem lev_le {rows : List (List Int)} (hv : validBillM rows = true) : ∀ (n i : Nat), i < n → i < rows.length → lev rows i ≤ i := by
  intro n
  induction n with
  | zero => intro i h; omega
  | succ n ih =>
    intro i hi hil
    have hr : rows[i]? = some rows[i] := List.getElem?_eq_getElem hil
    obtain ⟨h1, _, _⟩ := okRows_get hv hr
    rw [lev_eq hv hr]
    exact (levOver_bd (f := lev rows) (B := (i : Int)) (by omega) (fun p hp => by
      have hlt := pairsTo_lt hp
      have := ih p.1 (by omega) (by omega)
      have := (lev_bd rows p.1).1
      omega)).2
theorem lev_zero {rows : List (List Int)} (hv : validBillM rows = true) {i : Nat} {r : List Int} (hr : rows[i]? = some r) : lev rows i = 0 ↔ ∀ x ∈ r, x = 0 := by
  obtain ⟨_, h2, _⟩ := okRows_get hv hr
  constructor
  · intro h x hx
    obtain ⟨j, hj⟩ := List.getElem?_of_mem hx
    have hb := h2 x hx
    by_cases h0 : 0 < x
    · have := lev_up hv hr hj h0
      have := (lev_bd rows j).1
      omega
    · omega
  · intro h
    rw [lev_eq hv hr]
    have hp : ∀ n, pairsTo r n = [] := by
      intro n
      induction n with
      | zero => rfl
      | succ n ih =>
        simp only [pairsTo, ih, List.nil_append]
        cases hx : r[n]? with
        | none => simp [pairAt, hx]
        | some x => exact pairAt_no hx (by rw [h x (List.mem_of_getElem? hx)]; omega)
    rw [hp]; rfl
end Go.Proofs.Ytkpokcddefoklab
