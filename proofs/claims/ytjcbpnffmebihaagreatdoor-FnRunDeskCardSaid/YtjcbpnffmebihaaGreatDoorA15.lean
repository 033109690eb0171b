import Derived.Test.YtjcbpnffmebihaaGreatDoorA14
import Derived.Test.YtjcbpnffmebihaaGreatDoorRows
set_option linter.unusedVariables false
set_option linter.unusedSimpArgs false
namespace Go.Proofs.YtjcbpnffmebihaaGreatDoor

-- chapter 11, plain: what RollsBy takes, against any plan
def wsumL (f : Nat → Int) (P : Nat → Bool) : List Nat → Int
  | [] => 0
  | x :: l => (if P x then f x else 0) + wsumL f P l
theorem wsumL_perm {f : Nat → Int} {P : Nat → Bool} {l l' : List Nat} (h : l.Perm l') : wsumL f P l = wsumL f P l' := by
  induction h with
  | nil => rfl
  | cons x _ ih => rw [wsumL, wsumL, ih]
  | swap x y l => simp only [wsumL]; omega
  | trans _ _ ih1 ih2 => rw [ih1, ih2]
theorem wsumL_snoc (f : Nat → Int) (P : Nat → Bool) (x : Nat) : ∀ l : List Nat, wsumL f P (l ++ [x]) = wsumL f P l + if P x then f x else 0
  | [] => by simp [wsumL]
  | y :: l => by rw [List.cons_append, wsumL, wsumL, wsumL_snoc f P x l]; omega
theorem wsumL_range (f : Nat → Int) (P : Nat → Bool) : ∀ n, wsumL f P (List.range n) = wsum f P n
  | 0 => rfl
  | n + 1 => by rw [List.range_succ, wsumL_snoc, wsumL_range f P n, wsum]
theorem wsumL_at (f : Nat → Int) (P : Nat → Bool) (l : List Nat) : ∀ k, k ≤ l.length → wsumL f P (l.take k) = wsum (fun j => f (l.getD j 0)) (fun j => P (l.getD j 0)) k
  | 0, _ => rfl
  | k + 1, h => by
    have e : l.take (k + 1) = l.take k ++ [l.getD k 0] := by
      rw [List.take_add_one, List.getD_eq_getElem?_getD, List.getElem?_eq_getElem (show k < l.length by omega)]; rfl
    rw [e, wsumL_snoc, wsumL_at f P l k (by omega), wsum]
theorem wsum_perm {f : Nat → Int} {P : Nat → Bool} {l : List Nat} {n : Nat} (h : l.Perm (List.range n)) : wsum (fun j => f (l.getD j 0)) (fun j => P (l.getD j 0)) n = wsum f P n := by
  have hl : l.length = n := by simpa using h.length_eq
  have := wsumL_at f P l n (by omega)
  rw [← this, List.take_of_length_le (by omega), wsumL_perm h, wsumL_range]
theorem perm_lt {l : List Nat} {n : Nat} (h : l.Perm (List.range n)) {j : Nat} (hj : j < n) : l.getD j 0 < n := by
  have hl : l.length = n := by simpa using h.length_eq
  have := h.mem_iff.1 (getD_mem (l := l) (k := j) (by omega))
  simpa using this
theorem perm_inj {l : List Nat} {n : Nat} (h : l.Perm (List.range n)) {i j : Nat} (hi : i < n) (hj : j < n) (e : l.getD i 0 = l.getD j 0) : i = j := by
  have hl : l.length = n := by simpa using h.length_eq
  have hn : l.Nodup := h.symm.nodup List.nodup_range
  have key : ∀ a b, a < b → b < n → l.getD a 0 ≠ l.getD b 0 := fun a b hab hb => by
    have := List.pairwise_iff_getElem.1 hn a b (by omega) (by omega) hab
    rw [List.getD_eq_getElem?_getD, List.getD_eq_getElem?_getD, List.getElem?_eq_getElem (by omega), List.getElem?_eq_getElem (by omega)]
    exact this
  rcases Nat.lt_trichotomy i j with g | g | g
  · exact absurd e (key i j g hj)
  · exact g
  · exact absurd e.symm (key j i g hi)
theorem perm_on {l : List Nat} {n : Nat} (h : l.Perm (List.range n)) {i : Nat} (hi : i < n) : ∃ j, j < n ∧ l.getD j 0 = i := by
  have hl : l.length = n := by simpa using h.length_eq
  have hm : i ∈ l := h.mem_iff.2 (by simpa using hi)
  obtain ⟨j, hj, e⟩ := List.mem_iff_getElem.1 hm
  exact ⟨j, by omega, by rw [List.getD_eq_getElem?_getD, List.getElem?_eq_getElem hj]; exact e⟩
section
variable {T : Nat → Int} {R : Int} {n : Nat} {l : List Nat}
def ordO (l : List Nat) (j : Nat) : Nat := l.getD j 0
/-- each one's roll, and how many -/
def rollP (T : Nat → Int) (R : Int) (l : List Nat) (n : Nat) : Nat → Nat := (fitS T R (ordO l) n).2
def rollU (T : Nat → Int) (R : Int) (l : List Nat) (n : Nat) : Nat := usedM T R (ordO l) n
theorem roll_inv (hT : ∀ i, i < n → 1 ≤ T i ∧ T i ≤ R) (h : l.Perm (List.range n)) {t : Nat} (ht : t ≤ n) : FitI T R n (ordO l) t (fitS T R (ordO l) t).1 (fitS T R (ordO l) t).2 :=
  fit_inv hT (fun _ hj => perm_lt h hj) (fun _ _ hi hj e => perm_inj h hi hj e) t ht
/-- the rolls hold what is cut from them; each one is begun -/
theorem roll_plan (hT : ∀ i, i < n → 1 ≤ T i ∧ T i ≤ R) (h : l.Perm (List.range n)) : (∀ i, i < n → rollP T R l n i < rollU T R l n) ∧ (∀ b, b < rollU T R l n → ∃ i, i < n ∧ rollP T R l n i = b) ∧
    (∀ b, b < rollU T R l n → wsum T (fun i => rollP T R l n i == b) n ≤ R) ∧ (∀ i, i < n → ∀ b, b < rollP T R l n i → R < wsum T (fun i => rollP T R l n i == b) n + T i) := by
  obtain ⟨i1, i2, i3, i4, i5⟩ := roll_inv hT h (Nat.le_refl n)
  have hw : ∀ b, wsum (fun j => T (ordO l j)) (fun j => rollP T R l n (ordO l j) == b) n = wsum T (fun i => rollP T R l n i == b) n := fun b => wsum_perm (f := T) (P := fun i => rollP T R l n i == b) h
  refine ⟨fun i hi => ?_, fun b hb => ?_, fun b hb => ?_, fun i hi b hb => ?_⟩
  · obtain ⟨j, hj, rfl⟩ := perm_on h hi
    exact i1 j hj
  · obtain ⟨j, hj, e⟩ := i2 b hb
    exact ⟨_, perm_lt h hj, e⟩
  · have e1 := i3 b hb
    have e2 := i4 b hb
    have e3 := hw b
    unfold rollP at e3 ⊢
    omega
  · obtain ⟨j, hj, rfl⟩ := perm_on h hi
    have hj1 := i1 j hj
    have hb' : b < (fitS T R (ordO l) n).2 (ordO l j) := hb
    have e1 := i3 b (by omega)
    have e2 := i5 j hj b hb
    have e3 := hw b
    have e4 : ordO l j = l.getD j 0 := rfl
    unfold rollP at e3 ⊢
    rw [e4] at e2
    omega
end
end Go.Proofs.YtjcbpnffmebihaaGreatDoor
namespace Go.Proofs.YtjcbpnffmebihaaGreatDoor

-- chapter 11, plain: each cut is tried on each roll that has room, or on a new one
def tryTo (f : Nat → Int) (P : Nat → Bool) (b : Int) : Nat → Int
  | 0 => b
  | k + 1 => if P k then min (tryTo f P b k) (f k) else tryTo f P b k
theorem tryTo_le {f : Nat → Int} {P : Nat → Bool} {b : Int} : ∀ k, tryTo f P b k ≤ b ∧ ∀ j, j < k → P j = true → tryTo f P b k ≤ f j
  | 0 => ⟨Int.le_refl _, fun j hj => by omega⟩
  | k + 1 => by
    have ih := tryTo_le (f := f) (P := P) (b := b) k
    rw [tryTo]
    cases e : P k
    · refine ⟨ih.1, fun j hj hp => ?_⟩
      by_cases e2 : j = k
      · subst e2; rw [e] at hp; cases hp
      · exact ih.2 j (by omega) hp
    · simp only [if_true]
      refine ⟨by omega, fun j hj hp => ?_⟩
      by_cases e2 : j = k
      · subst e2; omega
      · have := ih.2 j (by omega) hp; omega
theorem tryTo_get {f : Nat → Int} {P : Nat → Bool} {b : Int} : ∀ k, tryTo f P b k = b ∨ ∃ j, j < k ∧ P j = true ∧ tryTo f P b k = f j
  | 0 => .inl rfl
  | k + 1 => by
    rw [tryTo]
    rcases tryTo_get (f := f) (P := P) (b := b) k with h | ⟨j, h1, h2, h3⟩
    · cases e : P k
      · exact .inl h
      · simp only [if_true]
        by_cases g : tryTo f P b k ≤ f k
        · exact .inl (by omega)
        · exact .inr ⟨k, by omega, e, by omega⟩
    · cases e : P k
      · exact .inr ⟨j, by omega, h2, h3⟩
      · simp only [if_true]
        by_cases g : tryTo f P b k ≤ f k
        · exact .inr ⟨j, by omega, h2, by omega⟩
        · exact .inr ⟨k, by omega, e, by omega⟩
/-- roll r, which may be a new one, has room -/
def hasR (R : Int) (L : List Int) (r : Nat) (y : Int) : Bool := decide (r = L.length) || decide (y ≤ R - L.getD r 0)
def putR (L : List Int) (r : Nat) (y : Int) : List Int := if r = L.length then L ++ [y] else L.set r (L.getD r 0 + y)
def goL (R : Int) : List Int → List Int → Int
  | [], L => (L.length : Nat)
  | y :: ys, L => tryTo (fun r => goL R ys (putR L r y)) (fun r => hasR R L r y) ((L.length + (ys.length + 1) : Nat) : Int) (L.length + 1)
theorem putR_len (L : List Int) (r : Nat) (y : Int) : (putR L r y).length = if r = L.length then L.length + 1 else L.length := by
  unfold putR; split <;> simp
theorem go_bd (R : Int) : ∀ (ys L : List Int), 0 ≤ goL R ys L ∧ goL R ys L ≤ ((L.length + ys.length : Nat) : Int)
  | [], L => by rw [goL]; simp only [List.length_nil]; omega
  | y :: ys, L => by
    rw [goL]
    refine ⟨?_, (tryTo_le _).1⟩
    rcases tryTo_get (f := fun r => goL R ys (putR L r y)) (P := fun r => hasR R L r y) (b := ((L.length + (ys.length + 1) : Nat) : Int)) (L.length + 1) with h | ⟨j, _, _, h⟩
    · rw [h]; omega
    · rw [h]; exact (go_bd R ys _).1
section
variable {xs : List Int} {R : Int}
/-- k cuts lie on the rolls whose loads are L -/
structure Pl (xs : List Int) (R : Int) (k : Nat) (L : List Int) (p : Nat → Nat) : Prop where
  on : ∀ i, i < k → p i < L.length
  load : ∀ j, j < L.length → L.getD j 0 = wsum (lenT xs) (fun i => p i == j) k
  fits : ∀ j, j < L.length → L.getD j 0 ≤ R
theorem wsum_pre {f : Nat → Int} {P : Nat → Bool} : ∀ (d k : Nat), (∀ i, i < k + d → 0 ≤ f i) → wsum f P k ≤ wsum f P (k + d)
  | 0, k, _ => Int.le_refl _
  | d + 1, k, h => by
    have ih := wsum_pre (P := P) d k (fun i hi => h i (by omega))
    have := h (k + d) (by omega)
    show _ ≤ wsum f P (k + d) + (if P (k + d) then f (k + d) else 0)
    split <;> omega
theorem getD_snocI {L : List Int} {y : Int} {j : Nat} : (L ++ [y]).getD j 0 = if j < L.length then L.getD j 0 else if j = L.length then y else 0 := by
  rw [List.getD_eq_getElem?_getD, List.getD_eq_getElem?_getD]
  by_cases h : j < L.length
  · rw [if_pos h, List.getElem?_append_left h]
  · rw [if_neg h, List.getElem?_append_right (by omega)]
    by_cases h2 : j = L.length
    · rw [if_pos h2, h2, Nat.sub_self]; rfl
    · rw [if_neg h2, List.getElem?_eq_none (by simp; omega)]; rfl
theorem getD_setI {L : List Int} {x : Int} {r j : Nat} (hr : r < L.length) : (L.set r x).getD j 0 = if j = r then x else L.getD j 0 := by
  rw [List.getD_eq_getElem?_getD, List.getD_eq_getElem?_getD, List.getElem?_set]
  by_cases h : r = j
  · subst h; rw [if_pos rfl, if_pos rfl, if_pos hr]; rfl
  · rw [if_neg h, if_neg (fun e => h e.symm)]
theorem Pl.put {k : Nat} {L : List Int} {p : Nat → Nat} (h : Pl xs R k L p) {r : Nat} (hr : r ≤ L.length) (hx : lenT xs k ≤ R) (hroom : hasR R L r (lenT xs k) = true) : Pl xs R (k + 1) (putR L r (lenT xs k)) (fun i => if i = k then r else p i) := by
  have hpre : ∀ j, wsum (lenT xs) (fun i => (if i = k then r else p i) == j) k = wsum (lenT xs) (fun i => p i == j) k := fun j =>
    wsum_congr k (fun i hi => by rw [if_neg (by omega)]) (fun _ _ _ => rfl)
  have hlen := putR_len L r (lenT xs k)
  refine ⟨fun i hi => ?_, fun j hj => ?_, fun j hj => ?_⟩
  · rw [hlen]
    by_cases e : i = k
    · rw [if_pos e]; split <;> omega
    · rw [if_neg e]
      have := h.on i (by omega)
      split <;> omega
  · rw [wsum, hpre]
    simp only [if_true]
    unfold putR
    by_cases e : r = L.length
    · rw [if_pos e, getD_snocI]
      by_cases e2 : j < L.length
      · rw [if_pos e2, h.load j e2, if_neg (by simp; omega)]; omega
      · rw [hlen, if_pos e] at hj
        rw [if_neg e2, if_pos (by omega), if_pos (by simp; omega), wsum_none k (fun i hi => by have := h.on i hi; simp; omega)]; omega
    · rw [if_neg e, getD_setI (by omega)]
      rw [hlen, if_neg e] at hj
      by_cases e2 : j = r
      · subst e2; rw [if_pos rfl, if_pos (by simp), h.load j hj]
      · rw [if_neg e2, if_neg (by simp; omega), h.load j hj]; omega
  · unfold putR
    rw [hlen] at hj
    by_cases e : r = L.length
    · rw [if_pos e, getD_snocI]
      rw [if_pos e] at hj
      by_cases e2 : j < L.length
      · rw [if_pos e2]; exact h.fits j e2
      · rw [if_neg e2, if_pos (by omega)]; exact hx
    · rw [if_neg e, getD_setI (by omega)]
      rw [if_neg e] at hj
      by_cases e2 : j = r
      · rw [if_pos e2]
        unfold hasR at hroom
        rw [decide_eq_false e, Bool.false_or, decide_eq_true_eq] at hroom
        omega
      · rw [if_neg e2]; exact h.fits j hj
theorem drop_cons {k : Nat} {y : Int} {ys : List Int} (e : xs.drop k = y :: ys) : k < xs.length ∧ lenT xs k = y ∧ xs.drop (k + 1) = ys ∧ xs.length = k + (ys.length + 1) := by
  have hl := congrArg List.length e
  rw [List.length_drop, List.length_cons] at hl
  have hk : k < xs.length := by omega
  rw [List.drop_eq_getElem_cons hk] at e
  injection e with e1 e2
  refine ⟨hk, ?_, e2, by omega⟩
  unfold lenT
  rw [List.getD_eq_getElem?_getD, List.getElem?_eq_getElem hk, e1]; rfl
/-- what is found are rolls on which all lies -/
theorem go_lower (hR : 0 ≤ R) (hx : ∀ i, i < xs.length → 1 ≤ lenT xs i ∧ lenT xs i ≤ R) : ∀ (ys : List Int) (k : Nat) (L : List Int) (p : Nat → Nat), xs.drop k = ys → k ≤ xs.length → Pl xs R k L p →
    ∃ (m : Nat) (q : Nat → Nat), goL R ys L = (m : Int) ∧ (∀ i, i < xs.length → q i < m) ∧ ∀ j, wsum (lenT xs) (fun i => q i == j) xs.length ≤ R
  | [], k, L, p, e, hk, h => by
    have hl := congrArg List.length e
    rw [List.length_drop, List.length_nil] at hl
    obtain rfl : k = xs.length := by omega
    refine ⟨L.length, p, rfl, h.on, fun j => ?_⟩
    by_cases hj : j < L.length
    · rw [← h.load j hj]; exact h.fits j hj
    · rw [wsum_none _ (fun i hi => by have := h.on i hi; simp; omega)]; exact hR
  | y :: ys, k, L, p, e, hk, h => by
    obtain ⟨h1, h2, h3, h4⟩ := drop_cons e
    subst h2
    have hnew : hasR R L L.length (lenT xs k) = true := by unfold hasR; rw [decide_eq_true rfl, Bool.true_or]
    have hput := fun r (hr : r ≤ L.length) (hroom : hasR R L r (lenT xs k) = true) => go_lower hR hx ys (k + 1) _ _ h3 (by omega) (h.put hr (hx k h1).2 hroom)
    rw [goL]
    rcases tryTo_get (f := fun r => goL R ys (putR L r (lenT xs k))) (P := fun r => hasR R L r (lenT xs k)) (b := ((L.length + (ys.length + 1) : Nat) : Int)) (L.length + 1) with g | ⟨j, g1, g2, g3⟩
    · have hle := (tryTo_le (f := fun r => goL R ys (putR L r (lenT xs k))) (P := fun r => hasR R L r (lenT xs k)) (b := ((L.length + (ys.length + 1) : Nat) : Int)) (L.length + 1)).2 L.length (by omega) hnew
      have hb := (go_bd R ys (putR L L.length (lenT xs k))).2
      rw [putR_len, if_pos rfl] at hb
      have he : goL R ys (putR L L.length (lenT xs k)) = ((L.length + (ys.length + 1) : Nat) : Int) := by
        have hle' : tryTo (fun r => goL R ys (putR L r (lenT xs k))) (fun r => hasR R L r (lenT xs k)) ((L.length + (ys.length + 1) : Nat) : Int) (L.length + 1) ≤ goL R ys (putR L L.length (lenT xs k)) := hle
        rw [g] at hle'
        omega
      rw [g, ← he]
      exact hput L.length (Nat.le_refl _) hnew
    · rw [g3]
      exact hput j (by omega) g2
theorem inj_le {u m : Nat} {s : Nat → Nat} (h1 : ∀ j, j < u → s j < m) (h2 : ∀ i j, i < u → j < u → s i = s j → i = j) : u ≤ m := by
  have e := card_bins (P := fun _ => true) (p := s) (n := u) (v := m) (fun i hi _ => h1 i hi)
  rw [card_all] at e
  have hb : ∀ v, bsumN (fun b => card (fun i => true && s i == b) u) v ≤ v := by
    intro v
    induction v with
    | zero => exact Nat.le_refl _
    | succ v ih =>
      rw [bsumN]
      have : card (fun i => true && s i == v) u ≤ 1 := by
        rw [← Int.ofNat_le, card_w]
        by_cases hz : ∃ a, a < u ∧ s a = v
        · obtain ⟨a, ha, hsa⟩ := hz
          rw [wsum_only u ha (by simp [hsa]) (fun i hi hp => h2 i a hi ha (by simp at hp; omega))]; decide
        · rw [wsum_none u (fun i hi => by simp; exact fun h => hz ⟨i, hi, h⟩)]; decide
      omega
  have := hb m
  omega
/-- no plan has fewer -/
theorem go_upper {m : Nat} {q : Nat → Nat} (hx : ∀ i, i < xs.length → 1 ≤ lenT xs i ∧ lenT xs i ≤ R) (hq : ∀ i, i < xs.length → q i < m) (hql : ∀ j, wsum (lenT xs) (fun i => q i == j) xs.length ≤ R) :
    ∀ (ys : List Int) (k : Nat) (L : List Int) (p s : Nat → Nat), xs.drop k = ys → k ≤ xs.length → Pl xs R k L p → (∀ i, i < k → s (p i) = q i) → (∀ j, j < L.length → s j < m) → (∀ i j, i < L.length → j < L.length → s i = s j → i = j) →
    goL R ys L ≤ (m : Int)
  | [], k, L, p, s, _, _, _, _, h2, h3 => by rw [goL]; have := inj_le h2 h3; omega
  | y :: ys, k, L, p, s, e, hk, h, h1, h2, h3 => by
    obtain ⟨g1, g2, g3, g4⟩ := drop_cons e
    subst g2
    have hpre : ∀ v, wsum (lenT xs) (fun i => q i == v) (k + 1) ≤ R := fun v => by
      have := wsum_pre (f := lenT xs) (P := fun i => q i == v) (xs.length - (k + 1)) (k + 1) (fun i hi => by have := (hx i (by omega)).1; omega)
      rw [show k + 1 + (xs.length - (k + 1)) = xs.length by omega] at this
      exact Int.le_trans this (hql v)
    have step : ∀ (r : Nat) (s' : Nat → Nat), r ≤ L.length → hasR R L r (lenT xs k) = true → (∀ i, i < k + 1 → s' (if i = k then r else p i) = q i) → (∀ j, j < (putR L r (lenT xs k)).length → s' j < m) → (∀ i j, i < (putR L r (lenT xs k)).length → j < (putR L r (lenT xs k)).length → s' i = s' j → i = j) → goL R (lenT xs k :: ys) L ≤ (m : Int) := fun r s' hr hroom a1 a2 a3 => by
      rw [goL]
      exact Int.le_trans ((tryTo_le _).2 r (by omega) hroom) (go_upper hx hq hql ys (k + 1) _ _ s' g3 (by omega) (h.put hr (hx k g1).2 hroom) a1 a2 a3)
    by_cases hz : ∃ j, j < L.length ∧ s j = q k
    · obtain ⟨j, hj, hsj⟩ := hz
      have hroom : hasR R L j (lenT xs k) = true := by
        unfold hasR
        have hw := hpre (s j)
        rw [wsum, if_pos (by simp [hsj])] at hw
        have hl : L.getD j 0 = wsum (lenT xs) (fun i => q i == s j) k := by
          rw [h.load j hj]
          refine wsum_congr k (fun i hi => ?_) (fun _ _ _ => rfl)
          by_cases e2 : p i = j
          · rw [show (p i == j) = true by simp [e2], ← h1 i hi, e2]; simp
          · rw [show (p i == j) = false by simp [e2]]
            have hne : ¬ q i = s j := fun e3 => e2 (h3 (p i) j (h.on i hi) hj ((h1 i hi).trans e3))
            rw [show (q i == s j) = false by simp [hne]]
        rw [decide_eq_true (p := lenT xs k ≤ R - L.getD j 0) (by omega), Bool.or_true]
      have hlen : (putR L j (lenT xs k)).length = L.length := by rw [putR_len, if_neg (by omega)]
      refine step j s (by omega) hroom (fun i hi => ?_) (fun i hi => h2 i (by omega)) (fun i i' hi hi' => h3 i i' (by omega) (by omega))
      by_cases e2 : i = k
      · rw [if_pos e2, hsj, e2]
      · rw [if_neg e2]; exact h1 i (by omega)
    · have hroom : hasR R L L.length (lenT xs k) = true := by unfold hasR; rw [decide_eq_true rfl, Bool.true_or]
      have hlen : (putR L L.length (lenT xs k)).length = L.length + 1 := by rw [putR_len, if_pos rfl]
      refine step L.length (fun j => if j = L.length then q k else s j) (Nat.le_refl _) hroom (fun i hi => ?_) (fun i hi => ?_) (fun i i' hi hi' => ?_)
      · by_cases e2 : i = k
        · subst e2; rw [if_pos rfl, if_pos rfl]
        · rw [if_neg e2]
          have := h.on i (by omega)
          rw [if_neg (by omega)]; exact h1 i (by omega)
      · by_cases e2 : i = L.length
        · rw [if_pos e2]; exact hq k g1
        · rw [if_neg e2]; exact h2 i (by omega)
      · by_cases e2 : i = L.length <;> by_cases e3 : i' = L.length
        · intro _; omega
        · rw [if_pos e2, if_neg e3]; exact fun e4 => absurd ⟨i', by omega, e4.symm⟩ hz
        · rw [if_neg e2, if_pos e3]; exact fun e4 => absurd ⟨i, by omega, e4⟩ hz
        · rw [if_neg e2, if_neg e3]; exact h3 i i' (by omega) (by omega)
/-- all that is tried is the fewest -/
theorem go_few (hv : cutsM xs R = true) : goL R xs [] = fewRl xs R := by
  obtain ⟨hR, _, _, hx⟩ := cuts_get hv
  have h0 : Pl xs R 0 [] (fun _ => 0) := ⟨fun i hi => by omega, fun j hj => by simp at hj, fun j hj => by simp at hj⟩
  obtain ⟨m, q, e, h1, h2⟩ := go_lower (by omega) hx xs 0 [] (fun _ => 0) rfl (Nat.zero_le _) h0
  obtain ⟨m', q', e', h1', h2'⟩ := few_plan (xs := xs) (R := R) (by omega) (fun i hi => (hx i hi).2)
  have a := (few_min h1 h2).2
  have b := go_upper hx h1' h2' xs 0 [] (fun _ => 0) (fun _ => 0) rfl (Nat.zero_le _) h0 (fun i hi => by omega) (fun j hj => by simp at hj) (fun i j hi => by simp at hi)
  omega
end
end Go.Proofs.YtjcbpnffmebihaaGreatDoor
