import Derived.Test.YtegemejfamegnabCountM
namespace Go.Proofs.Ytegemejfamegnab

/-- the greatest one of f of the parts, and 1 more; 0 without parts -/
def levOver (f : Nat → Int) (l : List (Nat × Int)) : Int := l.foldl (fun m p => max m (f p.1 + 1)) 0
theorem levOver_snoc (f : Nat → Int) (l : List (Nat × Int)) (p : Nat × Int) : levOver f (l ++ [p]) = max (levOver f l) (f p.1 + 1) := by simp [levOver]
theorem levOver_congr {f g : Nat → Int} {l : List (Nat × Int)} (h : ∀ p ∈ l, f p.1 = g p.1) : levOver f l = levOver g l := by
  unfold levOver
  have key : ∀ (l : List (Nat × Int)) (m : Int), (∀ p ∈ l, f p.1 = g p.1) → l.foldl (fun m p => max m (f p.1 + 1)) m = l.foldl (fun m p => max m (g p.1 + 1)) m := by
    intro l
    induction l with
    | nil => intro m _; rfl
    | cons p l ih => intro m h; simp only [List.foldl_cons]; rw [h p List.mem_cons_self, ih _ (fun q hq => h q (List.mem_cons_of_mem _ hq))]
  exact key l 0 h
theorem levOver_bd {f : Nat → Int} {B : Int} (hB : 0 ≤ B) {l : List (Nat × Int)} (h : ∀ p ∈ l, 0 ≤ f p.1 ∧ f p.1 + 1 ≤ B) : 0 ≤ levOver f l ∧ levOver f l ≤ B := by
  have key : ∀ (l : List (Nat × Int)) (m : Int), 0 ≤ m → m ≤ B → (∀ p ∈ l, 0 ≤ f p.1 ∧ f p.1 + 1 ≤ B) → 0 ≤ l.foldl (fun m p => max m (f p.1 + 1)) m ∧ l.foldl (fun m p => max m (f p.1 + 1)) m ≤ B := by
    intro l
    induction l with
    | nil => intro m h0 h1 _; exact ⟨h0, h1⟩
    | cons p l ih =>
      intro m h0 h1 h
      have hp := h p List.mem_cons_self
      exact ih (max m (f p.1 + 1)) (by omega) (by omega) (fun q hq => h q (List.mem_cons_of_mem _ hq))
  exact key l 0 (Int.le_refl _) hB h
def levM (rows : List (List Int)) : Nat → Nat → Int
  | 0, _ => 0
  | d + 1, i => levOver (fun p => levM rows d p) (pairsTo (rows.getD i []) (rows.getD i []).length)
theorem pairsTo_lt {xs : List Int} {p : Nat × Int} {k : Nat} (h : p ∈ pairsTo xs k) : p.1 < xs.length := by
  obtain ⟨h1, _⟩ := mem_pairsTo h
  rcases Nat.lt_or_ge p.1 xs.length with h' | h'
  · exact h'
  · simp [List.getElem?_eq_none h'] at h1
theorem levM_bd (rows : List (List Int)) : ∀ (d i : Nat), 0 ≤ levM rows d i ∧ levM rows d i ≤ d := by
  intro d
  induction d with
  | zero => intro i; simp [levM]
  | succ d ih => intro i; exact levOver_bd (by omega) (fun p _ => by have := ih p.1; omega)
theorem levM_fuel {rows : List (List Int)} (hv : validBillM rows = true) : ∀ (d d' i : Nat), i < d → i < d' → levM rows d i = levM rows d' i := by
  intro d
  induction d with
  | zero => intro d' i h; omega
  | succ d ih =>
    intro d' i h h'
    cases d' with
    | zero => omega
    | succ d' =>
      cases hr : rows[i]? with
      | none => simp only [levM, List.getD_eq_getElem?_getD, hr, Option.getD_none, List.length_nil, pairsTo]; rfl
      | some r =>
        obtain ⟨h1, _, _⟩ := okRows_get hv hr
        simp only [levM, List.getD_eq_getElem?_getD, hr, Option.getD_some]
        exact levOver_congr (fun p hp => by have := pairsTo_lt hp; exact ih d' p.1 (by omega) (by omega))
/-- the level of a part -/
def lev (rows : List (List Int)) (i : Nat) : Int := levM rows 6 i
theorem lev_eq {rows : List (List Int)} (hv : validBillM rows = true) {i : Nat} {r : List Int} (hr : rows[i]? = some r) : lev rows i = levOver (lev rows) (pairsTo r r.length) := by
  obtain ⟨h1, _, h3⟩ := okRows_get hv hr
  unfold lev
  show levM rows (5 + 1) i = _
  simp only [levM, List.getD_eq_getElem?_getD, hr, Option.getD_some]
  exact levOver_congr (fun p hp => by have := pairsTo_lt hp; exact levM_fuel hv 5 6 p.1 (by omega) (by omega))
theorem lev_bd (rows : List (List Int)) (i : Nat) : 0 ≤ lev rows i ∧ lev rows i ≤ 6 := levM_bd rows 6 i
theorem lev_part {rows : List (List Int)} {r : List Int} {k : Nat} : 0 ≤ levOver (lev rows) (pairsTo r k) ∧ levOver (lev rows) (pairsTo r k) ≤ 7 := levOver_bd (by omega) (fun p _ => by have := lev_bd rows p.1; omega)
/-- what LevelsOf answers for a bill -/
def levelsM (rows : List (List Int)) : List Int := (List.range rows.length).map (lev rows)
theorem levelsM_get {rows : List (List Int)} {i : Nat} {x : Int} (h : (levelsM rows)[i]? = some x) : x = lev rows i ∧ i < rows.length := by
  simp only [levelsM, List.getElem?_map, Option.map_eq_some_iff] at h
  obtain ⟨j, hj, rfl⟩ := h
  obtain ⟨h1, h2⟩ := List.getElem?_eq_some_iff.1 hj
  simp at h1 h2
  subst h2
  exact ⟨rfl, h1⟩
end Go.Proofs.Ytegemejfamegnab
