import Derived.Test.YtjcbpnffmebihaaGreatDoorA1
import Derived.Test.YtjcbpnffmebihaaGreatDoorRows
import Derived.WalkKit
import Derived.ProofKit
set_option linter.unusedVariables false
set_option linter.unusedSimpArgs false
namespace Go.Proofs.YtjcbpnffmebihaaGreatDoor

-- one machine: t, w, d the times, weights and due times of the jobs
/-- each job is done at most L behind its due time -/
def allLe (t d : Nat → Int) (L s : Int) : List Nat → Prop
  | [] => True
  | x :: l => s + t x - d x ≤ L ∧ allLe t d L (s + t x) l
theorem allLe_snoc {t d : Nat → Int} {L : Int} {x : Nat} : ∀ (l : List Nat) (s : Int), allLe t d L s (l ++ [x]) ↔ allLe t d L s l ∧ s + sumL t l + t x - d x ≤ L
  | [], s => by simp [allLe, sumL]
  | y :: l, s => by
    rw [List.cons_append, allLe, allLe, allLe_snoc l, sumL, and_assoc, show s + t y + sumL t l + t x = s + (t y + sumL t l) + t x by omega]
theorem allLe_append {t d : Nat → Int} {L : Int} : ∀ (l m : List Nat) (s : Int), allLe t d L s (l ++ m) ↔ allLe t d L s l ∧ allLe t d L (s + sumL t l) m
  | [], m, s => by simp [allLe, sumL]
  | y :: l, m, s => by
    rw [List.cons_append, allLe, allLe, allLe_append l, sumL, and_assoc, show s + t y + sumL t l = s + (t y + sumL t l) by omega]

-- how many are late
/-- the index of the last one of the greatest -/
def bigAt (t : Nat → Int) (K : List Nat) : Nat → Nat
  | 0 => 0
  | k + 1 => if t (K.getD (bigAt t K k) 0) ≤ t (K.getD k 0) then k else bigAt t K k
theorem bigAt_lt (t : Nat → Int) (K : List Nat) : ∀ k, 0 < k → bigAt t K k < k
  | k + 1, _ => by
    rw [bigAt]
    split
    · omega
    · cases k with
      | zero => simp [bigAt]
      | succ k => have := bigAt_lt t K (k + 1) (by omega); omega
theorem bigAt_ge (t : Nat → Int) (K : List Nat) : ∀ k j, j < k → t (K.getD j 0) ≤ t (K.getD (bigAt t K k) 0)
  | k + 1, j, h => by
    rw [bigAt]
    rcases Nat.lt_or_eq_of_le (Nat.le_of_lt_succ h) with h1 | rfl
    · have := bigAt_ge t K k j h1
      split
      · rename_i h2; omega
      · exact this
    · split
      · exact Int.le_refl _
      · rename_i h2; omega
/-- one job more is put to those that are kept -/
def keepS (t d : Nat → Int) (K : List Nat) (j : Nat) : List Nat :=
  if sumL t (K ++ [j]) ≤ d j then K ++ [j] else (K ++ [j]).eraseIdx (bigAt t (K ++ [j]) (K ++ [j]).length)
def keepL (t d : Nat → Int) (l : List Nat) : List Nat := l.foldl (keepS t d) []
theorem keepL_snoc (t d : Nat → Int) (l : List Nat) (j : Nat) : keepL t d (l ++ [j]) = keepS t d (keepL t d l) j := by simp [keepL]
/-- the step, over the job that falls out -/
theorem keepS_is {t d : Nat → Int} {K : List Nat} {j : Nat} (hn : (K ++ [j]).Nodup) : (sumL t (K ++ [j]) ≤ d j ∧ keepS t d K j = K ++ [j]) ∨
    (d j < sumL t (K ++ [j]) ∧ ∃ x, x ∈ K ++ [j] ∧ (∀ y ∈ K ++ [j], t y ≤ t x) ∧ keepS t d K j = (K ++ [j]).erase x) := by
  unfold keepS
  by_cases h : sumL t (K ++ [j]) ≤ d j
  · exact .inl ⟨h, if_pos h⟩
  · right
    rw [if_neg h]
    have hM : 0 < (K ++ [j]).length := by simp
    generalize K ++ [j] = M at hn h hM
    have hb := bigAt_lt t M M.length hM
    have hg := bigAt_ge t M M.length
    generalize bigAt t M M.length = b at hb hg
    refine ⟨by omega, M[b], List.getElem_mem hb, fun y hy => ?_, (List.erase_eq_eraseIdx_of_idxOf (hn.idxOf_getElem b hb)).symm⟩
    obtain ⟨i, hi, rfl⟩ := List.getElem_of_mem hy
    have := hg i hi
    simpa [List.getD_eq_getElem?_getD, hi, hb] using this
theorem sub_one {l : List Nat} {a : Nat} (h : l.Sublist [a]) : l = [] ∨ l = [a] := by
  cases h with
  | cons _ h => exact .inl (List.sublist_nil.1 h)
  | cons_cons _ h => exact .inr (by rw [List.sublist_nil.1 h])
theorem snoc_ind {P : List Nat → Prop} (h0 : P []) (h1 : ∀ l x, P l → P (l ++ [x])) (l : List Nat) : P l := by
  have key : ∀ m : List Nat, P m.reverse := fun m => by
    induction m with
    | nil => exact h0
    | cons x m ih => rw [List.reverse_cons]; exact h1 _ _ ih
  have := key l.reverse
  rwa [List.reverse_reverse] at this
theorem sumL_erase {f : Nat → Int} {x : Nat} {l : List Nat} (h : x ∈ l) : sumL f (l.erase x) = sumL f l - f x := by
  have := sumL_perm (f := f) (List.perm_cons_erase h)
  rw [sumL] at this; omega
theorem allLe_sub {t d : Nat → Int} {L : Int} (ht : ∀ x, 0 ≤ t x) {l' l : List Nat} (h : l'.Sublist l) : ∀ s s', s' ≤ s → allLe t d L s l → allLe t d L s' l' := by
  induction h with
  | slnil => intro _ _ _ _; trivial
  | cons a _ ih => intro s s' h hl; have := ht a; exact ih (s + t a) s' (by omega) hl.2
  | cons_cons a _ ih => intro s s' h hl; exact ⟨by have := hl.1; omega, ih (s + t a) (s' + t a) (by omega) hl.2⟩
theorem allLe_last {t d : Nat → Int} {L : Int} {K : List Nat} (hK : K ≠ []) (h : allLe t d L 0 K) : ∃ z ∈ K, sumL t K - d z ≤ L := by
  rcases List.eq_nil_or_concat K with rfl | ⟨M, z, rfl⟩
  · exact absurd rfl hK
  · rw [List.concat_eq_append] at h ⊢
    have := ((allLe_snoc M 0).mp h).2
    exact ⟨z, by simp, by rw [sumL_append, sumL, sumL]; omega⟩
/-- what holds of those that are kept -/
structure Kept (t d : Nat → Int) (p K : List Nat) : Prop where
  sub : K.Sublist p
  time : allLe t d 0 0 K
  best : ∀ F, F.Sublist p → allLe t d 0 0 F → ∃ G : List Nat, G.Nodup ∧ (∀ z ∈ G, z ∈ K) ∧ G.length = F.length ∧ sumL t G ≤ sumL t F
  out : ∀ x ∈ p, x ∉ K → d x < t x + sumL t (K.filter (fun y => decide (t y ≤ t x)))
theorem filter_all {p : Nat → Bool} {l : List Nat} (h : ∀ x ∈ l, p x = true) : l.filter p = l := List.filter_eq_self.2 h
theorem Kept.step {t d : Nat → Int} (ht : ∀ x, 0 ≤ t x) {p K : List Nat} {j : Nat} (h : Kept t d p K) (hn : (p ++ [j]).Nodup) (hd : ∀ x ∈ p, d x ≤ d j) : Kept t d (p ++ [j]) (keepS t d K j) := by
  have hnd := List.nodup_append.1 hn
  have hjp : j ∉ p := fun hj => hnd.2.2 j hj j (by simp) rfl
  have hKn : K.Nodup := hnd.1.sublist h.sub
  have hjK : j ∉ K := fun hj => hjp (h.sub.subset hj)
  have hs1 : (K ++ [j]).Sublist (p ++ [j]) := h.sub.append (List.Sublist.refl _)
  have hn1 : (K ++ [j]).Nodup := hn.sublist hs1
  have hsum : sumL t (K ++ [j]) = sumL t K + t j := by rw [sumL_append, sumL, sumL]; omega
  rcases keepS_is (t := t) (d := d) hn1 with ⟨hle, e⟩ | ⟨hgt, x, hx, hmax, e⟩
  · rw [e]
    refine ⟨hs1, (allLe_snoc K 0).mpr ⟨h.time, by omega⟩, fun F hF hFt => ?_, fun x hx hxK => ?_⟩
    · obtain ⟨F1, F2, rfl, h1, h2⟩ := List.sublist_append_iff.1 hF
      obtain ⟨G, g1, g2, g3, g4⟩ := h.best F1 h1 ((allLe_append F1 F2 0).mp hFt).1
      rcases sub_one h2 with rfl | rfl
      · exact ⟨G, g1, fun z hz => List.mem_append_left _ (g2 z hz), by simpa using g3, by simpa using g4⟩
      · refine ⟨j :: G, List.nodup_cons.2 ⟨fun hj => hjK (g2 j hj), g1⟩, fun z hz => ?_, by simp [g3], by rw [sumL, sumL_append, sumL, sumL]; omega⟩
        rcases List.mem_cons.1 hz with rfl | hz
        · simp
        · exact List.mem_append_left _ (g2 z hz)
    · have hxp : x ∈ p := by
        rcases List.mem_append.1 hx with h1 | h1
        · exact h1
        · rw [List.mem_singleton.1 h1] at hxK; exact absurd (by simp) hxK
      have := h.out x hxp (fun h1 => hxK (List.mem_append_left _ h1))
      rw [List.filter_append, sumL_append]
      have := sumL_nn ht ([j].filter (fun y => decide (t y ≤ t x)))
      omega
  · rw [e]
    have hxs := sumL_erase (f := t) hx
    have hn2 : ((K ++ [j]).erase x).Nodup := hn1.erase x
    have hsub2 : ((K ++ [j]).erase x).Sublist (p ++ [j]) := List.erase_sublist.trans hs1
    refine ⟨hsub2, ?_, fun F hF hFt => ?_, fun y hy hyK => ?_⟩
    · by_cases hxK : x ∈ K
      · rw [List.erase_append_left _ hxK]
        have h1 := sumL_erase (f := t) hxK
        have h2 := hmax j (by simp)
        obtain ⟨z, hz, h3⟩ := allLe_last (List.ne_nil_of_mem hxK) h.time
        have h4 := hd z (h.sub.subset hz)
        exact (allLe_snoc _ 0).mpr ⟨allLe_sub ht List.erase_sublist 0 0 (Int.le_refl _) h.time, by omega⟩
      · have hxj : x = j := by
          rcases List.mem_append.1 hx with h1 | h1
          · exact absurd h1 hxK
          · exact List.mem_singleton.1 h1
        subst hxj
        rw [List.erase_append_right _ hxK, List.erase_cons_head, List.append_nil]
        exact h.time
    · -- a set of K ++ [j], not more in sum
      obtain ⟨G, g1, g2, g3, g4, g5⟩ : ∃ G : List Nat, G.Nodup ∧ (∀ z ∈ G, z ∈ K ++ [j]) ∧ G.length = F.length ∧ sumL t G ≤ sumL t F ∧ (x ∈ G → ∃ y, y ∈ K ++ [j] ∧ y ∉ G) := by
        obtain ⟨F1, F2, rfl, h1, h2⟩ := List.sublist_append_iff.1 hF
        obtain ⟨G, g1, g2, g3, g4⟩ := h.best F1 h1 ((allLe_append F1 F2 0).mp hFt).1
        rcases sub_one h2 with rfl | rfl
        · exact ⟨G, g1, fun z hz => List.mem_append_left _ (g2 z hz), by simpa using g3, by simpa using g4, fun _ => ⟨j, by simp, fun hj => hjK (g2 j hj)⟩⟩
        · have hjG : j ∉ G := fun hj => hjK (g2 j hj)
          have hF2 := ((allLe_snoc F1 0).mp hFt).2
          refine ⟨j :: G, List.nodup_cons.2 ⟨hjG, g1⟩, fun z hz => ?_, by simp [g3], by rw [sumL, sumL_append, sumL, sumL]; omega, fun _ => ?_⟩
          · rcases List.mem_cons.1 hz with rfl | hz
            · simp
            · exact List.mem_append_left _ (g2 z hz)
          · by_cases hall : ∀ y ∈ K ++ [j], y ∈ j :: G
            · exfalso
              have hp : (K ++ [j]).Perm (j :: G) := (List.perm_ext_iff_of_nodup hn1 (List.nodup_cons.2 ⟨hjG, g1⟩)).2 fun y => ⟨hall y, fun hy => by
                rcases List.mem_cons.1 hy with rfl | hz
                · simp
                · exact List.mem_append_left _ (g2 y hz)⟩
              have := sumL_perm (f := t) hp
              rw [sumL] at this
              omega
            · obtain ⟨y, hy⟩ := Classical.not_forall.1 hall
              exact ⟨y, (Classical.not_imp.1 hy).1, (Classical.not_imp.1 hy).2⟩
      by_cases hxG : x ∈ G
      · obtain ⟨y, hy, hyG⟩ := g5 hxG
        have hyx : y ≠ x := fun e => hyG (e ▸ hxG)
        have h1 := sumL_erase (f := t) hxG
        have h2 := hmax y hy
        refine ⟨y :: G.erase x, List.nodup_cons.2 ⟨fun hm => hyG (List.mem_of_mem_erase hm), g1.erase x⟩, fun z hz => ?_, ?_, by rw [sumL]; omega⟩
        · rcases List.mem_cons.1 hz with rfl | hz
          · exact (hn1.mem_erase_iff).2 ⟨hyx, hy⟩
          · have := (g1.mem_erase_iff).1 hz
            exact (hn1.mem_erase_iff).2 ⟨this.1, g2 z this.2⟩
        · rw [List.length_cons, List.length_erase_of_mem hxG, g3]
          have := List.length_pos_of_mem hxG
          omega
      · exact ⟨G, g1, fun z hz => (hn1.mem_erase_iff).2 ⟨fun e => hxG (e ▸ hz), g2 z hz⟩, g3, g4⟩
    · -- those that are out stay late
      have hall : ∀ v : Int, t x ≤ v → ((K ++ [j]).erase x).filter (fun z => decide (t z ≤ v)) = (K ++ [j]).erase x := fun v hv =>
        filter_all fun z hz => by have := hmax z (List.mem_of_mem_erase hz); simp; omega
      by_cases hyx : y = x
      · subst hyx
        rw [hall _ (Int.le_refl _)]
        have hdy : d y ≤ d j := by
          rcases List.mem_append.1 hx with h1 | h1
          · exact hd y (h.sub.subset h1)
          · rw [List.mem_singleton.1 h1]; exact Int.le_refl _
        omega
      · have hyK1 : y ∉ K ++ [j] := fun hm => hyK ((hn1.mem_erase_iff).2 ⟨hyx, hm⟩)
        have hyp : y ∈ p := by
          rcases List.mem_append.1 hy with h1 | h1
          · exact h1
          · rw [List.mem_singleton.1 h1] at hyK1; exact absurd (by simp) hyK1
        by_cases hxy : t x ≤ t y
        · rw [hall _ hxy]
          have := hd y hyp
          omega
        · have h1 := h.out y hyp (fun hm => hyK1 (List.mem_append_left _ hm))
          have h2 : sumL t (K.filter (fun z => decide (t z ≤ t y))) ≤ sumL t (((K ++ [j]).erase x).filter (fun z => decide (t z ≤ t y))) := by
            have h3 : ((K ++ [j]).erase x).filter (fun z => decide (t z ≤ t y)) = ((K ++ [j]).filter (fun z => decide (t z ≤ t y))).erase x := by
              rw [List.erase_filter]
            rw [h3, List.erase_of_not_mem (fun hm => by have := (List.mem_filter.1 hm).2; simp at this; omega), List.filter_append, sumL_append]
            have := sumL_nn ht ([j].filter (fun z => decide (t z ≤ t y)))
            omega
          omega
theorem kept_all {t d : Nat → Int} (ht : ∀ x, 0 ≤ t x) (l : List Nat) : l.Nodup → l.Pairwise (fun x y => d x ≤ d y) → Kept t d l (keepL t d l) := by
  refine snoc_ind (P := fun l => l.Nodup → l.Pairwise (fun x y => d x ≤ d y) → Kept t d l (keepL t d l)) ?_ ?_ l
  · intro _ _
    exact ⟨List.Sublist.refl _, trivial, fun F hF _ => by rw [List.sublist_nil.1 hF]; exact ⟨[], List.nodup_nil, fun z hz => (by cases hz), rfl, Int.le_refl _⟩, fun x hx => (by cases hx)⟩
  · intro l j ih hn hp
    have h1 := List.nodup_append.1 hn
    have h2 := List.pairwise_append.1 hp
    rw [keepL_snoc]
    exact (ih h1.1 h2.1).step ht hn (fun x hx => h2.2.2 x hx j (by simp))
end Go.Proofs.YtjcbpnffmebihaaGreatDoor
namespace Go.Proofs.YtjcbpnffmebihaaGreatDoor
open Go.RowKit

/-- a new slice of these ints that may be written, not longer than its array -/
def ResPostC (w : World) (xs : List Int) (e : Ending) (w' : World) : Prop := ∃ (a : Option Addr) (len cap : Nat), e = .returned (.slice a len cap) ∧ IntsAt w' (fun b => w.heap.size ≤ b ∧ b < w'.heap.size) a len xs ∧
  Free w' (fun b => w.heap.size ≤ b ∧ b < w'.heap.size) a len ∧ len ≤ cap ∧ Below w.heap.size w w'
theorem resPostC_nil (w : World) : ResPostC w [] (.returned (.slice none 0 0)) w :=
  ⟨none, 0, 0, rfl, ⟨rfl, Nat.zero_le _, fun h => absurd h (by omega)⟩, ⟨Nat.zero_le _, fun h => absurd h (by omega)⟩, Nat.le_refl _, Below.refl _ _⟩
theorem resPostC_of {w w' : World} {xs : List Int} {a : Option Addr} {len cap : Nat} (h : ResPost w xs (.returned (.slice a len cap)) w') (hc : len ≤ cap) : ResPostC w xs (.returned (.slice a len cap)) w' := by
  obtain ⟨a', l', c', e, h1, h2, h3⟩ := h
  simp only [Ending.returned.injEq, Value.slice.injEq] at e
  obtain ⟨rfl, rfl, rfl⟩ := e
  exact ⟨_, _, _, rfl, h1, h2, hc, h3⟩
theorem ResPostC.res {w w' : World} {xs : List Int} {e : Ending} (h : ResPostC w xs e w') : ResPost w xs e w' := by
  obtain ⟨a', l', c', e1, h1, h2, _, h3⟩ := h
  exact ⟨a', l', c', e1, h1, h2, h3⟩
end Go.Proofs.YtjcbpnffmebihaaGreatDoor
namespace Go.Proofs.YtjcbpnffmebihaaGreatDoor

-- orders, one after the other (plain)
def swN (xs : List Nat) (i j : Nat) : List Nat := (xs.set i (xs.getD j 0)).set j (xs.getD i 0)
def revK (xs : List Nat) (lo hi : Nat) : Nat → List Nat
  | 0 => xs
  | f + 1 => if lo < hi then revK (swN xs lo hi) (lo + 1) (hi - 1) f else xs
/-- the last place below k whose number is less than the next one -/
def riseAt (xs : List Nat) : Nat → Option Nat
  | 0 => none
  | k + 1 => if xs.getD (k + 1) 0 ≤ xs.getD k 0 then riseAt xs k else some k
/-- the last place up to k whose number is greater than x -/
def overAt (xs : List Nat) (x : Nat) : Nat → Nat
  | 0 => 0
  | k + 1 => if xs.getD (k + 1) 0 ≤ x then overAt xs x k else k + 1
def nextP (xs : List Nat) : Option (List Nat) :=
  match riseAt xs (xs.length - 1) with
  | none => none
  | some a => some (revK (swN xs a (overAt xs (xs.getD a 0) (xs.length - 1))) (a + 1) (xs.length - 1) xs.length)
def ordK : Nat → List Nat → List (List Nat)
  | 0, _ => []
  | f + 1, xs => xs :: match nextP xs with
    | none => []
    | some ys => ordK f ys
def ordL (n : Nat) : List (List Nat) := ordK 125 (List.range n)
structure OrdIs (n : Nat) : Prop where
  all : ∀ l : List Nat, l.Perm (List.range n) → l ∈ ordL n
  first : (ordL n)[0]? = some (List.range n)
  len : ∀ l ∈ ordL n, l.length = n ∧ (∀ x ∈ l, x < n) ∧ l.Perm (List.range n)
  next : ∀ k, k < (ordL n).length → nextP ((ordL n).getD k []) = (ordL n)[k + 1]?
/-- the least so far of k spans, -1: of none -/
def lstT (sp : Nat → Int) : Nat → Int
  | 0 => -1
  | k + 1 => if lstT sp k < 0 ∨ sp k < lstT sp k then sp k else lstT sp k
end Go.Proofs.YtjcbpnffmebihaaGreatDoor
