import Derived.Test.YthmifadnfaajbabRows
import Derived.Test.YthmifadnfaajbabM0
import Derived.Test.YthmifadnfaajbabM1
import Derived.Test.YthmifadnfaajbabM3
import Derived.Test.YthmifadnfaajbabM6
import Derived.WalkKit
import Derived.LoopTactic
import Derived.Outline
import Derived.WalkSpells
import Derived.WalkLawsBesides
import Derived.ProofKit
import Derived.Lib.Hide
import Derived.IntWalk
import Derived.Test.YthmifadnfaajbabM12
namespace Go.Proofs.Ythmifadnfaajbab

-- chapter 11, plain: each cut is tried on each roll that has room, or on a new one
def tryTo (f : Nat → Int) (P : Nat → Bool) (b : Int) : Nat → Int
  | 0 => b
  | k + 1 => if P k then min (tryTo f P b k) (f k) else tryTo f P b k
theorem tryTo_le {f : Nat → Int} {P : Nat → Bool} {b : Int} : ∀ k, tryTo f P b k ≤ b ∧ ∀ j, j < k → P j = true → tryTo f P b k ≤ f j
  | 0 => ⟨Int.le_refl _, fun j hj => by omega⟩
  | k + 1 => by
    have ih := tryTo_le (f := f) (P := P) (b := b) k
    rw [tryTo]
    cases e : P k
    · refine ⟨ih.1, fun j hj hp => ?_⟩
      by_cases e2 : j = k
      · subst e2; rw [e] at hp; cases hp
      · exact ih.2 j (by omega) hp
    · simp only [if_true]
      refine ⟨by omega, fun j hj hp => ?_⟩
      by_cases e2 : j = k
      · subst e2; omega
      · have := ih.2 j (by omega) hp; omega
theorem tryTo_get {f : Nat → Int} {P : Nat → Bool} {b : Int} : ∀ k, tryTo f P b k = b ∨ ∃ j, j < k ∧ P j = true ∧ tryTo f P b k = f j
  | 0 => .inl rfl
  | k + 1 => by
    rw [tryTo]
    rcases tryTo_get (f := f) (P := P) (b := b) k with h | ⟨j, h1, h2, h3⟩
    · cases e : P k
      · exact .inl h
      · simp only [if_true]
        by_cases g : tryTo f P b k ≤ f k
        · exact .inl (by omega)
        · exact .inr ⟨k, by omega, e, by omega⟩
    · cases e : P k
      · exact .inr ⟨j, by omega, h2, h3⟩
      · simp only [if_true]
        by_cases g : tryTo f P b k ≤ f k
        · exact .inr ⟨j, by omega, h2, by omega⟩
        · exact .inr ⟨k, by omega, e, by omega⟩
theorem tryTo_congr {f g : Nat → Int} {P Q : Nat → Bool} {b : Int} : ∀ k, (∀ j, j < k → P j = Q j) → (∀ j, j < k → P j = true → f j = g j) → tryTo f P b k = tryTo g Q b k
  | 0, _, _ => rfl
  | k + 1, h1, h2 => by
    rw [tryTo, tryTo, tryTo_congr k (fun j hj => h1 j (by omega)) (fun j hj => h2 j (by omega)), ← h1 k (by omega)]
    cases e : P k
    · rfl
    · rw [h2 k (by omega) e]
/-- roll r, which may be a new one, has room -/
def hasR (R : Int) (L : List Int) (r : Nat) (y : Int) : Bool := decide (r = L.length) || decide (y ≤ R - L.getD r 0)
def putR (L : List Int) (r : Nat) (y : Int) : List Int := if r = L.length then L ++ [y] else L.set r (L.getD r 0 + y)
def goL (R : Int) : List Int → List Int → Int
  | [], L => (L.length : Nat)
  | y :: ys, L => tryTo (fun r => goL R ys (putR L r y)) (fun r => hasR R L r y) ((L.length + (ys.length + 1) : Nat) : Int) (L.length + 1)
theorem putR_len (L : List Int) (r : Nat) (y : Int) : (putR L r y).length = if r = L.length then L.length + 1 else L.length := by
  unfold putR; split <;> simp
theorem go_bd (R : Int) : ∀ (ys L : List Int), 0 ≤ goL R ys L ∧ goL R ys L ≤ ((L.length + ys.length : Nat) : Int)
  | [], L => by rw [goL]; simp only [List.length_nil]; omega
  | y :: ys, L => by
    rw [goL]
    refine ⟨?_, (tryTo_le _).1⟩
    rcases tryTo_get (f := fun r => goL R ys (putR L r y)) (P := fun r => hasR R L r y) (b := ((L.length + (ys.length + 1) : Nat) : Int)) (L.length + 1) with h | ⟨j, _, _, h⟩
    · rw [h]; omega
    · rw [h]; exact (go_bd R ys _).1
section
variable {xs : List Int} {R : Int}
/-- k cuts lie on the rolls whose loads are L -/
structure Pl (xs : List Int) (R : Int) (k : Nat) (L : List Int) (p : Nat → Nat) : Prop where
  on : ∀ i, i < k → p i < L.length
  load : ∀ j, j < L.length → L.getD j 0 = wsum (lenT xs) (fun i => p i == j) k
  fits : ∀ j, j < L.length → L.getD j 0 ≤ R
theorem wsum_pre {f : Nat → Int} {P : Nat → Bool} : ∀ (d k : Nat), (∀ i, i < k + d → 0 ≤ f i) → wsum f P k ≤ wsum f P (k + d)
  | 0, k, _ => Int.le_refl _
  | d + 1, k, h => by
    have ih := wsum_pre (P := P) d k (fun i hi => h i (by omega))
    have := h (k + d) (by omega)
    show _ ≤ wsum f P (k + d) + (if P (k + d) then f (k + d) else 0)
    split <;> omega
theorem getD_snocI {L : List Int} {y : Int} {j : Nat} : (L ++ [y]).getD j 0 = if j < L.length then L.getD j 0 else if j = L.length then y else 0 := by
  rw [List.getD_eq_getElem?_getD, List.getD_eq_getElem?_getD]
  by_cases h : j < L.length
  · rw [if_pos h, List.getElem?_append_left h]
  · rw [if_neg h, List.getElem?_append_right (by omega)]
    by_cases h2 : j = L.length
    · rw [if_pos h2, h2, Nat.sub_self]; rfl
    · rw [if_neg h2, List.getElem?_eq_none (by simp; omega)]; rfl
theorem getD_setI {L : List Int} {x : Int} {r j : Nat} (hr : r < L.length) : (L.set r x).getD j 0 = if j = r then x else L.getD j 0 := by
  rw [List.getD_eq_getElem?_getD, List.getD_eq_getElem?_getD, List.getElem?_set]
  by_cases h : r = j
  · subst h; rw [if_pos rfl, if_pos rfl, if_pos hr]; rfl
  · rw [if_neg h, if_neg (fun e => h e.symm)]
theorem Pl.put {k : Nat} {L : List Int} {p : Nat → Nat} (h : Pl xs R k L p) {r : Nat} (hr : r ≤ L.length) (hx : lenT xs k ≤ R) (hroom : hasR R L r (lenT xs k) = true) : Pl xs R (k + 1) (putR L r (lenT xs k)) (fun i => if i = k then r else p i) := by
  have hpre : ∀ j, wsum (lenT xs) (fun i => (if i = k then r else p i) == j) k = wsum (lenT xs) (fun i => p i == j) k := fun j =>
    wsum_congr k (fun i hi => by rw [if_neg (by omega)]) (fun _ _ _ => rfl)
  have hlen := putR_len L r (lenT xs k)
  refine ⟨fun i hi => ?_, fun j hj => ?_, fun j hj => ?_⟩
  · rw [hlen]
    by_cases e : i = k
    · rw [if_pos e]; split <;> omega
    · rw [if_neg e]
      have := h.on i (by omega)
      split <;> omega
  · rw [wsum, hpre]
    simp only [if_true]
    unfold putR
    by_cases e : r = L.length
    · rw [if_pos e, getD_snocI]
      by_cases e2 : j < L.length
      · rw [if_pos e2, h.load j e2, if_neg (by simp; omega)]; omega
      · rw [hlen, if_pos e] at hj
        rw [if_neg e2, if_pos (by omega), if_pos (by simp; omega), wsum_none k (fun i hi => by have := h.on i hi; simp; omega)]; omega
    · rw [if_neg e, getD_setI (by omega)]
      rw [hlen, if_neg e] at hj
      by_cases e2 : j = r
      · subst e2; rw [if_pos rfl, if_pos (by simp), h.load j hj]
      · rw [if_neg e2, if_neg (by simp; omega), h.load j hj]; omega
  · unfold putR
    rw [hlen] at hj
    by_cases e : r = L.length
    · rw [if_pos e, getD_snocI]
      rw [if_pos e] at hj
      by_cases e2 : j < L.length
      · rw [if_pos e2]; exact h.fits j e2
      · rw [if_neg e2, if_pos (by omega)]; exact hx
    · rw [if_neg e, getD_setI (by omega)]
      rw [if_neg e] at hj
      by_cases e2 : j = r
      · rw [if_pos e2]
        unfold hasR at hroom
        rw [decide_eq_false e, Bool.false_or, decide_eq_true_eq] at hroom
        omega
      · rw [if_neg e2]; exact h.fits j hj
theorem drop_cons {k : Nat} {y : Int} {ys : List Int} (e : xs.drop k = y :: ys) : k < xs.length ∧ lenT xs k = y ∧ xs.drop (k + 1) = ys ∧ xs.length = k + (ys.length + 1) := by
  have hl := congrArg List.length e
  rw [List.length_drop, List.length_cons] at hl
  have hk : k < xs.length := by omega
  rw [List.drop_eq_getElem_cons hk] at e
  injection e with e1 e2
  refine ⟨hk, ?_, e2, by omega⟩
  unfold lenT
  rw [List.getD_eq_getElem?_getD, List.getElem?_eq_getElem hk, e1]; rfl
/-- what is found are rolls on which all lies -/
theorem go_lower (hR : 0 ≤ R) (hx : ∀ i, i < xs.length → 1 ≤ lenT xs i ∧ lenT xs i ≤ R) : ∀ (ys : List Int) (k : Nat) (L : List Int) (p : Nat → Nat), xs.drop k = ys → k ≤ xs.length → Pl xs R k L p →
    ∃ (m : Nat) (q : Nat → Nat), goL R ys L = (m : Int) ∧ (∀ i, i < xs.length → q i < m) ∧ ∀ j, wsum (lenT xs) (fun i => q i == j) xs.length ≤ R
  | [], k, L, p, e, hk, h => by
    have hl := congrArg List.length e
    rw [List.length_drop, List.length_nil] at hl
    obtain rfl : k = xs.length := by omega
    refine ⟨L.length, p, rfl, h.on, fun j => ?_⟩
    by_cases hj : j < L.length
    · rw [← h.load j hj]; exact h.fits j hj
    · rw [wsum_none _ (fun i hi => by have := h.on i hi; simp; omega)]; exact hR
  | y :: ys, k, L, p, e, hk, h => by
    obtain ⟨h1, h2, h3, h4⟩ := drop_cons e
    subst h2
    have hnew : hasR R L L.length (lenT xs k) = true := by unfold hasR; rw [decide_eq_true rfl, Bool.true_or]
    have hput := fun r (hr : r ≤ L.length) (hroom : hasR R L r (lenT xs k) = true) => go_lower hR hx ys (k + 1) _ _ h3 (by omega) (h.put hr (hx k h1).2 hroom)
    rw [goL]
    rcases tryTo_get (f := fun r => goL R ys (putR L r (lenT xs k))) (P := fun r => hasR R L r (lenT xs k)) (b := ((L.length + (ys.length + 1) : Nat) : Int)) (L.length + 1) with g | ⟨j, g1, g2, g3⟩
    · have hle := (tryTo_le (f := fun r => goL R ys (putR L r (lenT xs k))) (P := fun r => hasR R L r (lenT xs k)) (b := ((L.length + (ys.length + 1) : Nat) : Int)) (L.length + 1)).2 L.length (by omega) hnew
      have hb := (go_bd R ys (putR L L.length (lenT xs k))).2
      rw [putR_len, if_pos rfl] at hb
      have he : goL R ys (putR L L.length (lenT xs k)) = ((L.length + (ys.length + 1) : Nat) : Int) := by
        have hle' : tryTo (fun r => goL R ys (putR L r (lenT xs k))) (fun r => hasR R L r (lenT xs k)) ((L.length + (ys.length + 1) : Nat) : Int) (L.length + 1) ≤ goL R ys (putR L L.length (lenT xs k)) := hle
        rw [g] at hle'
        omega
      rw [g, ← he]
      exact hput L.length (Nat.le_refl _) hnew
    · rw [g3]
      exact hput j (by omega) g2
theorem inj_le {u m : Nat} {s : Nat → Nat} (h1 : ∀ j, j < u → s j < m) (h2 : ∀ i j, i < u → j < u → s i = s j → i = j) : u ≤ m := by
  have e := card_bins (P := fun _ => true) (p := s) (n := u) (v := m) (fun i hi _ => h1 i hi)
  rw [card_all] at e
  have hb : ∀ v, bsumN (fun b => card (fun i => true && s i == b) u) v ≤ v := by
    intro v
    induction v with
    | zero => exact Nat.le_refl _
    | succ v ih =>
      rw [bsumN]
      have : card (fun i => true && s i == v) u ≤ 1 := by
        rw [← Int.ofNat_le, card_w]
        by_cases hz : ∃ a, a < u ∧ s a = v
        · obtain ⟨a, ha, hsa⟩ := hz
          rw [wsum_only u ha (by simp [hsa]) (fun i hi hp => h2 i a hi ha (by simp at hp; omega))]; decide
        · rw [wsum_none u (fun i hi => by simp; exact fun h => hz ⟨i, hi, h⟩)]; decide
      omega
  have := hb m
  omega
/-- no plan has fewer -/
theorem go_upper {m : Nat} {q : Nat → Nat} (hx : ∀ i, i < xs.length → 1 ≤ lenT xs i ∧ lenT xs i ≤ R) (hq : ∀ i, i < xs.length → q i < m) (hql : ∀ j, wsum (lenT xs) (fun i => q i == j) xs.length ≤ R) :
    ∀ (ys : List Int) (k : Nat) (L : List Int) (p s : Nat → Nat), xs.drop k = ys → k ≤ xs.length → Pl xs R k L p → (∀ i, i < k → s (p i) = q i) → (∀ j, j < L.length → s j < m) → (∀ i j, i < L.length → j < L.length → s i = s j → i = j) →
    goL R ys L ≤ (m : Int)
  | [], k, L, p, s, _, _, _, _, h2, h3 => by rw [goL]; have := inj_le h2 h3; omega
  | y :: ys, k, L, p, s, e, hk, h, h1, h2, h3 => by
    obtain ⟨g1, g2, g3, g4⟩ := drop_cons e
    subst g2
    have hpre : ∀ v, wsum (lenT xs) (fun i => q i == v) (k + 1) ≤ R := fun v => by
      have := wsum_pre (f := lenT xs) (P := fun i => q i == v) (xs.length - (k + 1)) (k + 1) (fun i hi => by have := (hx i (by omega)).1; omega)
      rw [show k + 1 + (xs.length - (k + 1)) = xs.length by omega] at this
      exact Int.le_trans this (hql v)
    have step : ∀ (r : Nat) (s' : Nat → Nat), r ≤ L.length → hasR R L r (lenT xs k) = true → (∀ i, i < k + 1 → s' (if i = k then r else p i) = q i) → (∀ j, j < (putR L r (lenT xs k)).length → s' j < m) → (∀ i j, i < (putR L r (lenT xs k)).length → j < (putR L r (lenT xs k)).length → s' i = s' j → i = j) → goL R (lenT xs k :: ys) L ≤ (m : Int) := fun r s' hr hroom a1 a2 a3 => by
      rw [goL]
      exact Int.le_trans ((tryTo_le _).2 r (by omega) hroom) (go_upper hx hq hql ys (k + 1) _ _ s' g3 (by omega) (h.put hr (hx k g1).2 hroom) a1 a2 a3)
    by_cases hz : ∃ j, j < L.length ∧ s j = q k
    · obtain ⟨j, hj, hsj⟩ := hz
      have hroom : hasR R L j (lenT xs k) = true := by
        unfold hasR
        have hw := hpre (s j)
        rw [wsum, if_pos (by simp [hsj])] at hw
        have hl : L.getD j 0 = wsum (lenT xs) (fun i => q i == s j) k := by
          rw [h.load j hj]
          refine wsum_congr k (fun i hi => ?_) (fun _ _ _ => rfl)
          by_cases e2 : p i = j
          · rw [show (p i == j) = true by simp [e2], ← h1 i hi, e2]; simp
          · rw [show (p i == j) = false by simp [e2]]
            have hne : ¬ q i = s j := fun e3 => e2 (h3 (p i) j (h.on i hi) hj ((h1 i hi).trans e3))
            rw [show (q i == s j) = false by simp [hne]]
        rw [decide_eq_true (p := lenT xs k ≤ R - L.getD j 0) (by omega), Bool.or_true]
      have hlen : (putR L j (lenT xs k)).length = L.length := by rw [putR_len, if_neg (by omega)]
      refine step j s (by omega) hroom (fun i hi => ?_) (fun i hi => h2 i (by omega)) (fun i i' hi hi' => h3 i i' (by omega) (by omega))
      by_cases e2 : i = k
      · rw [if_pos e2, hsj, e2]
      · rw [if_neg e2]; exact h1 i (by omega)
    · have hroom : hasR R L L.length (lenT xs k) = true := by unfold hasR; rw [decide_eq_true rfl, Bool.true_or]
      have hlen : (putR L L.length (lenT xs k)).length = L.length + 1 := by rw [putR_len, if_pos rfl]
      refine step L.length (fun j => if j = L.length then q k else s j) (Nat.le_refl _) hroom (fun i hi => ?_) (fun i hi => ?_) (fun i i' hi hi' => ?_)
      · by_cases e2 : i = k
        · subst e2; rw [if_pos rfl, if_pos rfl]
        · rw [if_neg e2]
          have := h.on i (by omega)
          rw [if_neg (by omega)]; exact h1 i (by omega)
      · by_cases e2 : i = L.length
        · rw [if_pos e2]; exact hq k g1
        · rw [if_neg e2]; exact h2 i (by omega)
      · by_cases e2 : i = L.length <;> by_cases e3 : i' = L.length
        · intro _; omega
        · rw [if_pos e2, if_neg e3]; exact fun e4 => absurd ⟨i', by omega, e4.symm⟩ hz
        · rw [if_neg e2, if_pos e3]; exact fun e4 => absurd ⟨i, by omega, e4⟩ hz
        · rw [if_neg e2, if_neg e3]; exact h3 i i' (by omega) (by omega)
/-- all that is tried is the fewest -/
theorem go_few (hv : cutsM xs R = true) : goL R xs [] = fewRl xs R := by
  obtain ⟨hR, _, _, hx⟩ := cuts_get hv
  have h0 : Pl xs R 0 [] (fun _ => 0) := ⟨fun i hi => by omega, fun j hj => by simp at hj, fun j hj => by simp at hj⟩
  obtain ⟨m, q, e, h1, h2⟩ := go_lower (by omega) hx xs 0 [] (fun _ => 0) rfl (Nat.zero_le _) h0
  obtain ⟨m', q', e', h1', h2'⟩ := few_plan (xs := xs) (R := R) (by omega) (fun i hi => (hx i hi).2)
  have a := (few_min h1 h2).2
  have b := go_upper hx h1' h2' xs 0 [] (fun _ => 0) (fun _ => 0) rfl (Nat.zero_le _) h0 (fun i hi => by omega) (fun j hj => by simp at hj) (fun i j hi => by simp at hi)
  omega
end
end Go.Proofs.Ythmifadnfaajbab
namespace Go.Proofs.Ythmifadnfaajbab

-- plain: what is cut from each roll, and its loads
section
variable {α : Type} {f : α → Int}
def sumI (l : List Int) : Int := wsum (lenT l) (fun _ => true) l.length
theorem wsum_all1 {f g : Nat → Int} (n : Nat) (h : ∀ i, i < n → f i = g i) : wsum f (fun _ => true) n = wsum g (fun _ => true) n := wsum_congr n (fun _ _ => rfl) (fun i hi _ => h i hi)
theorem sumI_snoc (l : List Int) (y : Int) : sumI (l ++ [y]) = sumI l + y := by
  unfold sumI
  rw [List.length_append, List.length_singleton, wsum, if_pos rfl, wsum_all1 (g := lenT l) l.length (fun i hi => by unfold lenT; rw [getD_snocI, if_pos hi])]
  unfold lenT
  rw [getD_snocI, if_neg (by omega), if_pos rfl]
theorem sumI_pre (l : List Int) (j : Nat) (hj : j < l.length) : wsum (lenT l) (fun _ => true) (j + 1) = wsum (lenT l) (fun _ => true) j + l.getD j 0 := by
  rw [wsum, if_pos rfl]; rfl
theorem sumI_bd {l : List Int} (h : ∀ x ∈ l, 0 ≤ x ∧ x ≤ 20) : ∀ j : Nat, j ≤ l.length → 0 ≤ wsum (lenT l) (fun _ => true) j ∧ wsum (lenT l) (fun _ => true) j ≤ 20 * (j : Int)
  | 0, _ => by simp [wsum]
  | j + 1, hj => by
    have ih := sumI_bd h j (by omega)
    have := h (l.getD j 0) (by rw [List.getD_eq_getElem?_getD, List.getElem?_eq_getElem (by omega)]; exact List.getElem_mem _)
    rw [sumI_pre l j (by omega)]
    push_cast; omega
def putRow (rows : List (List α)) (k : Nat) (y : α) : List (List α) := if k = rows.length then rows ++ [[y]] else rows.set k (rows.getD k [] ++ [y])
def loadsOf (f : α → Int) (rows : List (List α)) : List Int := rows.map (fun row => sumI (row.map f))
theorem loads_len (rows : List (List α)) : (loadsOf f rows).length = rows.length := by simp [loadsOf]
theorem loads_get (rows : List (List α)) (k : Nat) : (loadsOf f rows).getD k 0 = sumI ((rows.getD k []).map f) := by
  unfold loadsOf
  rw [List.getD_eq_getElem?_getD, List.getD_eq_getElem?_getD, List.getElem?_map]
  cases rows[k]? <;> rfl
theorem loads_put {rows : List (List α)} {k : Nat} (y : α) : loadsOf f (putRow rows k y) = putR (loadsOf f rows) k (f y) := by
  unfold putRow putR
  rw [loads_len]
  by_cases e : k = rows.length
  · rw [if_pos e, if_pos e]
    unfold loadsOf
    rw [List.map_append]
    simp [sumI, wsum, lenT]
  · rw [if_neg e, if_neg e, loads_get]
    unfold loadsOf
    rw [List.map_set, List.map_append, List.map_singleton, sumI_snoc]
structure RowsOk (f : α → Int) (rows : List (List α)) (n : Nat) : Prop where
  len : rows.length ≤ n
  row : ∀ i, (rows.getD i []).length ≤ n
  val : ∀ i, ∀ x ∈ rows.getD i [], 0 ≤ f x ∧ f x ≤ 20
theorem RowsOk.nil : RowsOk f ([] : List (List α)) 0 := ⟨Nat.le_refl _, fun i => by simp, fun i x hx => by simp at hx⟩
theorem putRow_get {rows : List (List α)} {k : Nat} {y : α} (hk : k ≤ rows.length) (i : Nat) : (putRow rows k y).getD i [] = if i = k then rows.getD k [] ++ [y] else rows.getD i [] := by
  unfold putRow
  by_cases e : k = rows.length
  · rw [if_pos e, List.getD_eq_getElem?_getD]
    by_cases h : i < rows.length
    · rw [if_neg (by omega), List.getElem?_append_left h, List.getD_eq_getElem?_getD]
    · rw [List.getElem?_append_right (by omega)]
      by_cases h2 : i = k
      · rw [if_pos h2, h2, e, Nat.sub_self, List.getD_eq_getElem?_getD, List.getElem?_eq_none (Nat.le_refl _)]; rfl
      · rw [if_neg h2, List.getElem?_eq_none (by simp; omega), List.getD_eq_getElem?_getD, List.getElem?_eq_none (by omega)]
  · rw [if_neg e, List.getD_eq_getElem?_getD, List.getElem?_set]
    by_cases h2 : k = i
    · subst h2; rw [if_pos rfl, if_pos rfl, if_pos (by omega)]; rfl
    · rw [if_neg h2, if_neg (fun e => h2 e.symm), List.getD_eq_getElem?_getD]
theorem putRow_len (rows : List (List α)) (k : Nat) (y : α) : (putRow rows k y).length = if k = rows.length then rows.length + 1 else rows.length := by
  unfold putRow; split <;> simp
theorem RowsOk.put {rows : List (List α)} {n k : Nat} {y : α} (h : RowsOk f rows n) (hk : k ≤ rows.length) (hy : 0 ≤ f y ∧ f y ≤ 20) : RowsOk f (putRow rows k y) (n + 1) := by
  have hl := h.len
  refine ⟨by rw [putRow_len]; split <;> omega, fun i => ?_, fun i x hx => ?_⟩
  · rw [putRow_get hk]
    split
    · have := h.row k
      rw [List.length_append, List.length_singleton]; omega
    · have := h.row i; omega
  · rw [putRow_get hk] at hx
    split at hx
    · rcases List.mem_append.1 hx with g | g
      · exact h.val k x g
      · rw [List.mem_singleton.1 g]; exact hy
    · exact h.val i x hx
/-- the last cut of a roll put back, and the roll, if nothing else is cut from it -/
theorem putRow_back {rows : List (List α)} {k : Nat} {y : α} (hk : k ≤ rows.length) (hne : k < rows.length → rows.getD k [] ≠ []) :
    (k = rows.length → (putRow rows k y).take k = rows ∧ ((putRow rows k y).getD k []).length = 1) ∧ (k < rows.length → (putRow rows k y).set k (((putRow rows k y).getD k []).take ((rows.getD k []).length)) = rows ∧ ((putRow rows k y).getD k []).length = (rows.getD k []).length + 1 ∧ 0 < (rows.getD k []).length) := by
  refine ⟨fun e => ⟨?_, ?_⟩, fun h => ⟨?_, ?_, ?_⟩⟩
  · unfold putRow
    rw [if_pos e, e, List.take_left]
  · rw [putRow_get hk, if_pos rfl, e, List.getD_eq_getElem?_getD, List.getElem?_eq_none (Nat.le_refl _)]; rfl
  · rw [putRow_get hk, if_pos rfl, List.take_left]
    unfold putRow
    rw [if_neg (by omega), List.set_set]
    rw [List.getD_eq_getElem?_getD, List.getElem?_eq_getElem h]
    exact List.set_getElem_self h
  · rw [putRow_get hk, if_pos rfl]; simp
  · have := hne h
    cases e : rows.getD k [] with
    | nil => exact absurd e this
    | cons a b => simp
def NoEmpty (rows : List (List α)) : Prop := ∀ k, k < rows.length → rows.getD k [] ≠ []
theorem NoEmpty.put {rows : List (List α)} {k : Nat} {y : α} (h : NoEmpty rows) (hk : k ≤ rows.length) : NoEmpty (putRow rows k y) := fun i hi => by
  rw [putRow_get hk]
  rw [putRow_len] at hi
  by_cases e : i = k
  · rw [if_pos e]; simp
  · rw [if_neg e]
    refine h i ?_
    split at hi <;> omega
end
end Go.Proofs.Ythmifadnfaajbab
namespace Go.Proofs.Ythmifadnfaajbab
open Go.RowKit Go.WideShapes

-- chapter 11's code: rolls of plain cuts
def encP (y : Int) : List Value := [.int .i64 y]
def RollsP (w : World) (B r : Nat) (R : Int) (v : Value) (vs : List Value) (rows : List (List Int)) : Prop := RollsW encP 1 39 35 36 w B r R v vs rows
theorem encP_flat (l : List Int) : l.flatMap encP = l.map (.int .i64) := by
  induction l with
  | nil => rfl
  | cons a l ih => rw [List.flatMap_cons, ih]; rfl
theorem own_intsP {w : World} {B : Nat} {e : TypeId} {u : Value} {n : Nat} {l : List Int} (h : w.ownsRow B e 1 u n (l.map (.int .i64))) : ∃ a c, u = .slice a n c ∧ n ≤ c ∧ IntsAt w (fun b => B ≤ b ∧ b < w.heap.size) a n l := by
  obtain ⟨a, c, rfl, hc⟩ := own_slice h
  have hl : l.length = n := by have := h.1; simpa using this
  refine ⟨a, c, rfl, hc, hl, ?_, fun h0 => ?_⟩
  · rcases h.2 with ⟨_, rfl⟩ | ⟨g, cap, cur, _, _, _, h1, h2, _⟩
    · omega
    · unfold maxLen at h2; omega
  · obtain ⟨g, cap, e, hb, hlt⟩ := h.form h0
    injection e with e1 e2 e3
    refine ⟨g, 0, e1, ⟨hb, hlt⟩, fun i x hx => ?_⟩
    have hx' : (l.map (Value.int .i64))[i]? = some (.int .i64 x) := by rw [List.getElem?_map, hx]; rfl
    have := h.cells (g := g) (by rw [e1]; rfl) i _ hx'
    rwa [add_plain] at this
theorem lenP_meth (y : Int) : ∀ (k : Nat) (w : World), (method (k + 1) 36 (.int .i64 y) "loop.example/shopsthatmake/impl.length").run Try.prog w = .ok (69, (.int .i64 y)) w := fun _ _ => by kernel_rfl
set_option maxRecDepth 100000 in
theorem lenP_any (y : Int) (w : World) : Calls Try.prog 69 #[.int .i64 y] w fun e w' => e = .returned (.int .i64 y) ∧ w' = w := by
  go_enter Try.func69, Try.ntmps69
  go_wp2
  go_ret
  exact ⟨rfl, rfl⟩
set_option maxRecDepth 100000 in
set_option maxHeartbeats 2000000 in
theorem hasRoomP_any {w : World} {B r : Nat} {R : Int} {v : Value} {vs : List Value} {rows : List (List Int)} {n : Nat} (h : RollsP w B r R v vs rows) (hok : RowsOk id rows n) (hn : n ≤ 20) (hR : 0 ≤ R ∧ R ≤ 20) {k : Nat} (hk : k ≤ rows.length) (y : Int) :
    Calls Try.prog 39 #[.pointer (some ⟨r, 0, none⟩), .int .i64 k, .int .i64 y] w fun e w' => e = .returned (.bool (hasR R (loadsOf id rows) k y)) ∧ w' = w := by
  obtain ⟨c0, c1, _⟩ := h.cells
  have hlen := hok.len
  obtain ⟨av, cv, hv, hcv⟩ := own_slice h.outer
  rw [hv] at c1
  by_cases hkn : k = rows.length
  · have HF := Lib.hid (show hasR R (loadsOf id rows) k y = true by unfold hasR; rw [loads_len, decide_eq_true hkn]; rfl)
    subst hkn
    clear hv hok h
    go_enter Try.func39, Try.ntmps39
    go_wp2_with fail
    go_ret
    exact ⟨ret_bool HF.out.symm, rfl⟩
  · have hkl : k < rows.length := by omega
    have HF := Lib.hid (show hasR R (loadsOf id rows) k y = decide (y ≤ R - sumI (rows.getD k [])) by unfold hasR; rw [loads_len, decide_eq_false hkn, loads_get]; simp)
    obtain ⟨g, cap, hv2, _, _⟩ := h.outer.form (by omega)
    have ho := h.outer
    rw [hv2] at ho hv
    injection hv with hv1 _ hv3
    subst hv1 hv3
    obtain ⟨u, hu⟩ : ∃ u, vs[k]? = some u := ⟨vs[k]'(by rw [h.lenV]; exact hkl), List.getElem?_eq_getElem _⟩
    have cr := (ho.cellAt k (by omega)).trans hu
    have hrow := h.row k u hu
    rw [encP_flat] at hrow
    obtain ⟨au, cu, rfl, hcu, hints⟩ := own_intsP hrow
    have hrl := hok.row k
    have hrv := hok.val k
    obtain ⟨l, hl⟩ : ∃ l, rows.getD k [] = l := ⟨_, rfl⟩
    rw [hl] at hints hrl hrv HF cr
    have hbd := fun j hj => sumI_bd hrv j hj
    have HB := Lib.hid hbd
    obtain ⟨m, hm⟩ : ∃ m, l.length = m := ⟨_, rfl⟩
    rw [hm] at hints cr hrl
    have HM := Lib.hid hm
    have HI := Lib.hid hints
    have hknI : ¬ (k : Int) = (rows.length : Int) := by omega
    have hklI : (k : Int) < (rows.length : Int) := by omega
    obtain ⟨N, hN⟩ : ∃ N, rows.length = N := ⟨_, rfl⟩
    rw [hN] at c1 hkl hknI hklI hlen
    have hmeth := lenP_meth
    clear hok h ho hu hrow hints hrv hbd hv2 hl hm hN hkn hcv hcu
    go_enter Try.func39, Try.ntmps39
    go_wp2_with fail
    go_loop [7, 29] (fun s i => ∃ j : Nat, j ≤ m ∧ i = .int .i64 j ∧ s = .int .i64 (R - wsum (lenT l) (fun _ => true) j)) (fun _ i => m - (intOf i).toNat)
    case atStart => exact ⟨0, Nat.zero_le _, rfl, by simp [wsum]⟩
    case round =>
      obtain ⟨j, hj, rfl, rfl⟩ := hrel
      have hsb := HB.out j (by rw [HM.out]; exact hj)
      by_cases hlt : j < m
      · have hjI : (j : Int) < (m : Int) := by omega
        obtain ⟨b, off, x, rfl, hx, hc⟩ := HI.out.get hlt
        have HST := Lib.hid (show wsum (lenT l) (fun _ => true) (j + 1) = wsum (lenT l) (fun _ => true) j + x by rw [sumI_pre l j (by rw [HM.out]; exact hlt), getD_of hx])
        have hxb := HB.out (j + 1) (by rw [HM.out]; exact hlt)
        rw [HST.out] at hxb
        obtain ⟨s, hs⟩ : ∃ s, wsum (lenT l) (fun _ => true) j = s := ⟨_, rfl⟩
        rw [hs] at hsb hxb HST ⊢
        push_cast at hxb
        clear hs hx
        go_wp2_with (first | (go_at_call 69; refine (lenP_any _ _).mono ?_; rintro e w' ⟨rfl, rfl⟩) | fail)
        go_round
        case rel => exact ⟨j + 1, by omega, by go_num, by rw [HST.out]; simp; omega⟩
        case measure => simp [intOf]; omega
      · obtain rfl : j = m := by omega
        have hjI : ¬ (j : Int) < (j : Int) := by omega
        have HS := Lib.hid (show sumI l = wsum (lenT l) (fun _ => true) j by unfold sumI; rw [HM.out])
        obtain ⟨s, hs⟩ : ∃ s, wsum (lenT l) (fun _ => true) j = s := ⟨_, rfl⟩
        rw [hs] at HS ⊢
        clear hs
        go_wp2_with (first | (go_at_call 69; refine (lenP_any _ _).mono ?_; rintro e w' ⟨rfl, rfl⟩) | fail)
        go_ret
        exact ⟨ret_bool (by rw [HF.out, HS.out]), rfl⟩
end Go.Proofs.Ythmifadnfaajbab
