import Derived.Test.YtjcbpnffmebihaaGreatDoorA4
import Derived.Test.YtjcbpnffmebihaaGreatDoorA5
import Derived.Test.YtjcbpnffmebihaaGreatDoorA6
import Derived.Test.YtjcbpnffmebihaaGreatDoorRows
import Derived.WalkKit
import Derived.LoopTactic
import Derived.Outline
import Derived.WalkSpells
import Derived.WalkLawsBesides
import Derived.ProofKit
import Derived.Deep.OwnRows
import Derived.Deep.QuietTactic
import Derived.BigQuiet
import Derived.Lib.Hide
import Derived.Deep.AppendLies
set_option linter.unusedVariables false
set_option linter.unusedSimpArgs false
namespace Go.Proofs.YtjcbpnffmebihaaGreatDoor
open Go.RowKit Go.WideShapes Go.Deep

/-- the copies of ints -/
def cellsOf (xs : List Int) : Array Value := (xs.map (Value.int .i64)).toArray
theorem cellsOf_eq {xs : List Int} {C : Array Value} (hs : C.size = xs.length) (h : ∀ (i : Nat) (x : Int), xs[i]? = some x → C[i]? = some (.int .i64 x)) : C = cellsOf xs := by
  apply Array.ext_getElem?
  intro i
  simp only [cellsOf, List.getElem?_toArray, List.getElem?_map]
  cases hx : xs[i]? with
  | none => rw [Array.getElem?_eq_none (by rw [hs]; simpa using hx)]; rfl
  | some x => rw [h i x hx]; rfl

end Go.Proofs.YtjcbpnffmebihaaGreatDoor
namespace Go.Proofs.YtjcbpnffmebihaaGreatDoor
open Go.RowKit Go.WideShapes

-- blocks, whole
theorem heap_set {w : World} {b i : Nat} {cs : Array Value} {t : TypeId} {fr : Nat × Nat} (h : w.heap[b]? = some (.cells cs t fr)) (v : Value) :
    (w.setCell ⟨b, i, none⟩ v).heap[b]? = some (.cells (cs.setIfInBounds i v) t fr) := by
  simp [World.setCell, Array.getElem?_modify, h]
theorem heap_set_ne {w : World} {b c i : Nat} (h : c ≠ b) (v : Value) : (w.setCell ⟨b, i, none⟩ v).heap[c]? = w.heap[c]? := Below.heap_setCell _ _ _ _ h
theorem frozen_row {w : World} {b : Nat} {cs : Array Value} {t : TypeId} (h : w.heap[b]? = some (.cells cs t (0, 0))) (i : Nat) : w.frozen? ⟨b, i, none⟩ = false := by
  simp [World.frozen?, h]
theorem ne_type {w : World} {b c : Nat} {cs ds : Array Value} {t u : TypeId} {fr gr : Nat × Nat} (h : w.heap[b]? = some (.cells cs t fr)) (g : w.heap[c]? = some (.cells ds u gr)) (hn : t ≠ u) : b ≠ c := by
  rintro rfl
  rw [h] at g
  simp only [Option.some.injEq, Obj.cells.injEq] at g
  exact hn g.2.1
theorem lt_heap {w : World} {b : Nat} {o : Obj} (h : w.heap[b]? = some o) : b < w.heap.size := (Array.getElem?_eq_some_iff.1 h).1

def tabV (f : Nat → Value) (n : Nat) : Array Value := ((List.range n).map f).toArray
theorem tabV_get (f : Nat → Value) {n j : Nat} (h : j < n) : (tabV f n)[j]? = some (f j) := by simp [tabV, h]
theorem tabV_congr {f g : Nat → Value} {n : Nat} (h : ∀ j, j < n → f j = g j) : tabV f n = tabV g n := by
  unfold tabV
  rw [List.map_congr_left fun j hj => h j (List.mem_range.1 hj)]
theorem tabV_set (f : Nat → Value) (n j : Nat) (v : Value) : (tabV f n).setIfInBounds j v = tabV (setN f j v) n := by
  apply Array.ext_getElem?
  intro i
  rw [Array.getElem?_setIfInBounds]
  by_cases hi : i < n
  · rw [tabV_get _ hi, tabV_get _ hi]
    by_cases e : j = i
    · subst e; rw [if_pos rfl, setN_at, if_pos (by simp [tabV, hi])]
    · rw [if_neg e, setN_ne _ _ (fun h => e h.symm)]
  · have h1 : (tabV f n)[i]? = none := by simp [tabV]; omega
    have h2 : (tabV (setN f j v) n)[i]? = none := by simp [tabV]; omega
    rw [h1, h2]
    split
    · rw [if_neg (by simp [tabV]; omega)]
    · rfl
end Go.Proofs.YtjcbpnffmebihaaGreatDoor
namespace Go.Proofs.YtjcbpnffmebihaaGreatDoor

-- put in its place from the end
def backK (p : Nat → Bool) (l : List Nat) : Nat → Nat
  | 0 => 0
  | k + 1 => if p (l.getD k 0) = true then backK p l k else k + 1
theorem backK_le (p : Nat → Bool) (l : List Nat) : ∀ k, backK p l k ≤ k
  | 0 => Nat.le_refl _
  | k + 1 => by rw [backK]; have := backK_le p l k; split <;> omega
theorem backK_in (p : Nat → Bool) (l : List Nat) : ∀ k m, backK p l k ≤ m → m < k → p (l.getD m 0) = true
  | k + 1, m, h1, h2 => by
    rw [backK] at h1
    split at h1
    · rename_i hp
      rcases Nat.lt_or_eq_of_le (Nat.le_of_lt_succ h2) with h | rfl
      · exact backK_in p l k m h1 h
      · exact hp
    · omega
theorem backK_out (p : Nat → Bool) (l : List Nat) : ∀ k, 0 < backK p l k → p (l.getD (backK p l k - 1) 0) = false
  | 0, h => by simp [backK] at h
  | k + 1, h => by
    rw [backK] at h ⊢
    split at h
    · rename_i hp; rw [if_pos hp]; exact backK_out p l k h
    · rename_i hp; rw [if_neg hp]; simpa using hp
/-- the place is told by what holds at it -/
theorem backK_is {p : Nat → Bool} {l : List Nat} : ∀ {n k : Nat}, k ≤ n → (∀ m, k ≤ m → m < n → p (l.getD m 0) = true) → (0 < k → p (l.getD (k - 1) 0) = false) → backK p l n = k
  | 0, k, hk, _, _ => by rw [backK]; omega
  | n + 1, k, hk, h1, h2 => by
    rw [backK]
    rcases Nat.lt_or_eq_of_le hk with h | rfl
    · rw [if_pos (h1 n (by omega) (by omega))]
      exact backK_is (by omega) (fun m hm hm2 => h1 m hm (by omega)) h2
    · rw [if_neg (by have := h2 (by omega); simp at this ⊢; exact this)]
def insE (ah : Nat → Nat → Bool) (x : Nat) (l : List Nat) : List Nat := l.take (backK (ah x) l l.length) ++ [x] ++ l.drop (backK (ah x) l l.length)
theorem insE_perm (ah : Nat → Nat → Bool) (x : Nat) (l : List Nat) : (insE ah x l).Perm (x :: l) := by
  unfold insE
  generalize backK (ah x) l l.length = k
  have h : (l.take k ++ [x] ++ l.drop k).Perm ([x] ++ l.take k ++ l.drop k) := (List.perm_append_comm (l₁ := l.take k) (l₂ := [x])).append_right _
  refine h.trans ?_
  rw [List.append_assoc, List.take_append_drop]
  exact .refl _
def sortE (ah : Nat → Nat → Bool) : Nat → List Nat
  | 0 => []
  | n + 1 => insE ah n (sortE ah n)
theorem sortE_perm (ah : Nat → Nat → Bool) : ∀ n, (sortE ah n).Perm (List.range n)
  | 0 => .refl _
  | n + 1 => by
    rw [List.range_succ]
    exact (insE_perm ah n _).trans (((sortE_perm ah n).cons n).trans (List.perm_append_singleton n _).symm)
theorem sortE_len (ah : Nat → Nat → Bool) (n : Nat) : (sortE ah n).length = n := by have := (sortE_perm ah n).length_eq; simpa using this
theorem sortE_mem {ah : Nat → Nat → Bool} {n x : Nat} : x ∈ sortE ah n ↔ x < n := by rw [(sortE_perm ah n).mem_iff, List.mem_range]
theorem sortE_nodup (ah : Nat → Nat → Bool) (n : Nat) : (sortE ah n).Nodup := (sortE_perm ah n).symm.nodup List.nodup_range
theorem getD_mem {l : List Nat} {k : Nat} (h : k < l.length) : l.getD k 0 ∈ l := by
  rw [List.getD_eq_getElem?_getD, List.getElem?_eq_getElem h]; exact List.getElem_mem h
theorem insE_sorted {ah : Nat → Nat → Bool} {N x : Nat} (hx : x < N) (ht : ∀ i j k, i < N → j < N → k < N → ah j i = false → ah k j = false → ah k i = false) (hs : ∀ i k, ah i k = true → ah k i = false) {l : List Nat} (hl : ∀ y ∈ l, y < N) (hp : l.Pairwise (fun i k => ah k i = false)) : (insE ah x l).Pairwise (fun i k => ah k i = false) := by
  unfold insE
  have h1 := backK_le (ah x) l l.length
  have h2 := backK_in (ah x) l l.length
  have h3 := backK_out (ah x) l l.length
  generalize backK (ah x) l l.length = k at h1 h2 h3
  have hd : ∀ y ∈ l.drop k, ah y x = false := fun y hy => by
    obtain ⟨i, hi, rfl⟩ := List.getElem_of_mem hy
    rw [List.length_drop] at hi
    have := h2 (k + i) (by omega) (by omega)
    rw [List.getD_eq_getElem?_getD, List.getElem?_eq_getElem (by omega)] at this
    rw [List.getElem_drop]
    exact hs _ _ (by simpa using this)
  have htk : ∀ y ∈ l.take k, ah x y = false := fun y hy => by
    obtain ⟨i, hi, rfl⟩ := List.getElem_of_mem hy
    rw [List.length_take] at hi
    rw [List.getElem_take]
    have h4 := h3 (by omega)
    rw [List.getD_eq_getElem?_getD, List.getElem?_eq_getElem (by omega)] at h4
    simp only [Option.getD_some] at h4
    rcases Nat.lt_or_eq_of_le (show i ≤ k - 1 by omega) with h | h
    · have := List.pairwise_iff_getElem.1 hp i (k - 1) (by omega) (by omega) h
      exact ht _ _ _ (hl _ (List.getElem_mem _)) (hl _ (List.getElem_mem _)) hx this h4
    · subst h; exact h4
  rw [List.append_assoc]
  refine List.pairwise_append.2 ⟨hp.sublist (List.take_sublist _ _), ?_, fun y hy z hz => ?_⟩
  · exact List.pairwise_cons.2 ⟨hd, hp.sublist (List.drop_sublist _ _)⟩
  · rcases List.mem_cons.1 hz with rfl | hz
    · exact htk y hy
    · have := List.pairwise_append.1 (show (l.take k ++ l.drop k).Pairwise _ by rw [List.take_append_drop]; exact hp)
      exact this.2.2 y hy z hz
theorem sortE_sorted {ah : Nat → Nat → Bool} {N : Nat} (ht : ∀ i j k, i < N → j < N → k < N → ah j i = false → ah k j = false → ah k i = false) (hs : ∀ i k, ah i k = true → ah k i = false) : ∀ n, n ≤ N → (sortE ah n).Pairwise (fun i k => ah k i = false)
  | 0, _ => List.Pairwise.nil
  | n + 1, h => insE_sorted (by omega) ht hs (fun y hy => by have := sortE_mem.1 hy; omega) (sortE_sorted ht hs n (by omega))
-- both rules
def ahD (d : Nat → Int) (i k : Nat) : Bool := decide (d i < d k)
theorem ahD_trans {d : Nat → Int} {i j k : Nat} (h : ahD d j i = false) (g : ahD d k j = false) : ahD d k i = false := by
  simp only [ahD, decide_eq_false_iff_not] at h g ⊢; omega
theorem ahD_asymm {d : Nat → Int} {i k : Nat} (h : ahD d i k = true) : ahD d k i = false := by
  simp only [ahD, decide_eq_true_eq, decide_eq_false_iff_not] at h ⊢; omega
theorem sortD (d : Nat → Int) (n : Nat) : (sortE (ahD d) n).Pairwise (fun x y => d x ≤ d y) := by
  refine (sortE_sorted (ah := ahD d) (N := n) (fun i j k _ _ _ => ahD_trans) (fun i k => ahD_asymm) n (Nat.le_refl _)).imp (fun {x y} h => ?_)
  simp only [ahD, decide_eq_false_iff_not, Int.not_lt] at h; exact h
end Go.Proofs.YtjcbpnffmebihaaGreatDoor
namespace Go.Proofs.YtjcbpnffmebihaaGreatDoor

-- the rule by comparing (plain)
def cc (p q : Int) : Int := if p < q then -1 else if q < p then 1 else 0
def cmp4 (x0 x1 y0 y1 : Int) : Int := if x0 < x1 then (if y0 < y1 then cc x0 y0 else -1) else (if y0 < y1 then 1 else cc y1 x1)
def cmpV (a b : Nat → Int) (x y : Nat) : Int := cmp4 (a x) (b x) (a y) (b y)
theorem cmpV_lt {a b : Nat → Int} {x y : Nat} (h : y < x) : cmpV a b x y < 0 ↔ ¬ btr a b y x := by
  unfold cmpV cmp4 cc btr
  by_cases h1 : a x < b x <;> by_cases h2 : a y < b y <;> simp only [h1, h2, if_true, if_false, not_true, not_false_eq_true]
  · constructor
    · intro h3; split at h3
      · omega
      · split at h3 <;> omega
    · intro h3; rw [if_pos (by omega)]; omega
  · exact ⟨fun _ => trivial, fun _ => by omega⟩
  · exact ⟨fun h3 => by omega, fun h3 => h3.elim⟩
  · constructor
    · intro h3; split at h3
      · omega
      · split at h3 <;> omega
    · intro h3; rw [if_pos (by omega)]; omega
theorem insR_split {a b : Nat → Int} {x : Nat} : ∀ (l1 l2 : List Nat), (∀ y ∈ l1, btr a b y x) → (∀ y ∈ l2, ¬ btr a b y x) → insR a b x (l1 ++ l2) = l1 ++ x :: l2 := by
  intro l1
  induction l1 with
  | nil =>
    intro l2 _ h2
    cases l2 with
    | nil => rfl
    | cons y l2 => rw [List.nil_append, insR, if_neg (h2 y (by simp))]; rfl
  | cons y l1 ih =>
    intro l2 h1 h2
    rw [List.cons_append, insR, if_pos (h1 y (by simp)), ih l2 (fun z hz => h1 z (by simp [hz])) h2]; rfl
/-- what lies there while job i is put in its place: l1 ahead of it, l2 behind it, and those that are still to come -/
def insAt (l1 : List Nat) (i : Nat) (l2 : List Nat) (n : Nat) : List Nat := l1 ++ i :: (l2 ++ List.range' (i + 1) (n - (i + 1)))
theorem insAt_length {l1 l2 : List Nat} {i n : Nat} (h : l1.length + l2.length = i) (hi : i < n) : (insAt l1 i l2 n).length = n := by
  simp only [insAt, List.length_append, List.length_cons, List.length_range']; omega
theorem insAt_here (l1 l2 : List Nat) (i n : Nat) : (insAt l1 i l2 n).getD l1.length 0 = i := by
  simp [insAt, List.getD_eq_getElem?_getD]
theorem insAt_ahead (l1 l2 : List Nat) (y i n : Nat) : (insAt (l1 ++ [y]) i l2 n).getD l1.length 0 = y := by
  simp [insAt, List.getD_eq_getElem?_getD]
theorem insAt_swap (l1 l2 : List Nat) (y i n : Nat) : swN (insAt (l1 ++ [y]) i l2 n) (l1.length + 1) l1.length = insAt l1 i (y :: l2) n := by
  have h1 : (insAt (l1 ++ [y]) i l2 n).getD (l1.length + 1) 0 = i := by have := insAt_here (l1 ++ [y]) l2 i n; simpa using this
  unfold swN
  rw [h1, insAt_ahead]
  unfold insAt
  rw [List.append_assoc, List.singleton_append]
  rw [List.set_append, if_neg (by omega), Nat.add_sub_cancel_left, List.set_cons_succ, List.set_cons_zero, List.set_append, if_neg (by omega), Nat.sub_self, List.set_cons_zero]
  simp
theorem insAt_next {a b : Nat → Int} {l1 l2 : List Nat} {i n : Nat} (hi : i + 1 < n) (h : l1 ++ i :: l2 = ruleT a b (i + 1)) : insAt l1 i l2 n = insAt (ruleT a b (i + 1)) (i + 1) [] n := by
  unfold insAt
  rw [← h]
  have : List.range' (i + 1) (n - (i + 1)) = (i + 1) :: List.range' (i + 1 + 1) (n - (i + 1 + 1)) := by
    obtain ⟨m, hm⟩ : ∃ m, n - (i + 1) = m + 1 := ⟨n - (i + 1) - 1, by omega⟩
    rw [hm, List.range'_succ, show n - (i + 1 + 1) = m by omega]
  rw [this]; simp
theorem insAt_last {a b : Nat → Int} {l1 l2 : List Nat} {i : Nat} (h : l1 ++ i :: l2 = ruleT a b (i + 1)) : insAt l1 i l2 (i + 1) = ruleT a b (i + 1) := by
  unfold insAt; rw [Nat.sub_self, List.range'_zero, List.append_nil, h]
theorem insAt_first {a b : Nat → Int} {n : Nat} (hn : 1 < n) : List.range n = insAt (ruleT a b 1) 1 [] n := by
  unfold insAt
  obtain ⟨m, rfl⟩ : ∃ m, n = m + 2 := ⟨n - 2, by omega⟩
  rw [List.range_eq_range', List.range'_succ, List.range'_succ]
  rfl
theorem ruleT_lenN (a b : Nat → Int) (n : Nat) : (ruleT a b n).length = n := by have := (ruleT_perm a b n).length_eq; simpa using this
/-- the loop's end: what is ahead is better, what is behind is not -/
theorem ins_done {a b : Nat → Int} {l1 l2 : List Nat} {i : Nat} (h : l1 ++ l2 = ruleT a b i) (h1 : ∀ y, l1.getLast? = some y → btr a b y i) (h2 : ∀ y ∈ l2, ¬ btr a b y i) : l1 ++ i :: l2 = ruleT a b (i + 1) := by
  rw [ruleT, ← h]
  refine (insR_split l1 l2 (fun y hy => ?_) h2).symm
  have hs : l1.Pairwise (btr a b) := by
    have := ruleT_sorted a b i
    rw [← h] at this
    exact (List.pairwise_append.1 this).1
  rcases List.eq_nil_or_concat l1 with rfl | ⟨l, z, rfl⟩
  · cases hy
  · have hz := h1 z (by simp)
    rw [List.concat_eq_append] at hy hs
    rcases List.mem_append.1 hy with hy | hy
    · exact btr_trans ((List.pairwise_append.1 hs).2.2 y hy z (by simp)) hz
    · simp only [List.mem_singleton] at hy; subst hy; exact hz
end Go.Proofs.YtjcbpnffmebihaaGreatDoor
namespace Go.Proofs.YtjcbpnffmebihaaGreatDoor
open Go.RowKit Go.WideShapes

/-- the first n values of f -/
def tab (f : Nat → Int) (n : Nat) : List Int := (List.range n).map f
theorem tab_length (f : Nat → Int) (n : Nat) : (tab f n).length = n := by simp [tab]
theorem tab_get {f : Nat → Int} {n i : Nat} {x : Int} (h : (tab f n)[i]? = some x) : x = f i ∧ i < n := by
  simp only [tab, List.getElem?_map, Option.map_eq_some_iff] at h
  obtain ⟨j, hj, rfl⟩ := h
  obtain ⟨h1, h2⟩ := List.getElem?_eq_some_iff.1 hj
  simp at h1 h2
  subst h2
  exact ⟨rfl, h1⟩
theorem tab_at (f : Nat → Int) {n i : Nat} (h : i < n) : (tab f n)[i]? = some (f i) := by
  simp [tab, h]
theorem tab_congr {f g : Nat → Int} {n : Nat} (h : ∀ q, q < n → f q = g q) : tab f n = tab g n := by
  apply List.map_congr_left
  intro q hq
  exact h q (by simpa using hq)
theorem getD_of {xs : List Int} {k : Nat} {x : Int} (h : xs[k]? = some x) : xs.getD k 0 = x := by rw [List.getD_eq_getElem?_getD, h]; rfl
theorem getD_past {xs : List Int} {k : Nat} (h : xs.length ≤ k) : xs.getD k 0 = 0 := by rw [List.getD_eq_getElem?_getD, List.getElem?_eq_none h]; rfl
theorem get_getD {xs : List Int} {k : Nat} (h : k < xs.length) : xs[k]? = some (xs.getD k 0) := by rw [List.getD_eq_getElem?_getD, List.getElem?_eq_getElem h]; rfl
/-- the cells of an array are ints, told by their place -/
structure ArrIs (C : Array Value) (len : Nat) (f : Nat → Int) : Prop where
  size : C.size = len
  get : ∀ q, q < len → C[q]? = some (.int .i64 (f q))
theorem ArrIs.made (len : Nat) : ArrIs (madeCells #[.int .i64 0] len) len (fun _ => 0) :=
  ⟨size_madeCells _ _, fun q hq => by simp [madeCells, hq, Nat.mod_one]⟩
theorem ArrIs.congr {C : Array Value} {len : Nat} {f g : Nat → Int} (h : ArrIs C len f) (e : ∀ q, q < len → f q = g q) : ArrIs C len g :=
  ⟨h.size, fun q hq => by rw [h.get q hq, e q hq]⟩
theorem ArrIs.set {C : Array Value} {len : Nat} {f : Nat → Int} (h : ArrIs C len f) (k : Nat) (v : Int) : ArrIs (C.setIfInBounds k (.int .i64 v)) len (fun q => if q = k then v else f q) := by
  refine ⟨by simpa using h.size, fun q hq => ?_⟩
  rw [Array.getElem?_setIfInBounds]
  by_cases e : k = q
  · subst e
    rw [if_pos rfl, if_pos (by rw [h.size]; exact hq)]
    simp
  · rw [if_neg e, h.get q hq, if_neg (fun e' => e e'.symm)]
theorem ArrIs.cells {C : Array Value} {xs : List Int} {len : Nat} {f : Nat → Int} (h : ArrIs C len f) (hl : xs.length = len) (e : ∀ q x, xs[q]? = some x → f q = x) : C = cellsOf xs := by
  refine cellsOf_eq (by rw [h.size, hl]) (fun i x hx => ?_)
  have hi : i < len := by
    rcases Nat.lt_or_ge i xs.length with h' | h'
    · omega
    · simp [List.getElem?_eq_none h'] at hx
  rw [h.get i hi, e i x hx]
theorem ArrIs.tab {C : Array Value} {len : Nat} {f : Nat → Int} (h : ArrIs C len f) : C = cellsOf (tab f len) :=
  h.cells (tab_length f len) (fun _ _ hx => (tab_get hx).1.symm)
theorem ArrIs.at {C : Array Value} {len : Nat} {f : Nat → Int} (h : ArrIs C len f) (w : World) (t : TypeId) {q : Nat} (hq : q < len) :
    (w.alloc (.cells C t)).cell? ⟨w.heap.size, q, none⟩ = some (.int .i64 (f q)) := by
  rw [World.cell?_alloc_new]; exact h.get q hq

end Go.Proofs.YtjcbpnffmebihaaGreatDoor
namespace Go.Proofs.YtjcbpnffmebihaaGreatDoor
open Go.RowKit Go.WideShapes

-- rolls in memory: a box with their length and what is cut from each, all of it in blocks from B on
structure RollsW {α : Type} (enc : α → List Value) (sz : Nat) (TR TS TC : TypeId) (w : World) (B r : Nat) (R : Int) (v : Value) (vs : List Value) (rows : List (List α)) : Prop where
  box : w.heap[r]? = some (.cells #[.int .i64 R, v] TR (0, 0))
  outer : w.ownsRow B TS 1 v rows.length vs
  row : ∀ i u, vs[i]? = some u → w.ownsRow B TC sz u (rows.getD i []).length ((rows.getD i []).flatMap enc)
  sep : ∀ (i j : Nat) (u u' : Value), vs[i]? = some u → vs[j]? = some u' → i ≠ j → u.ownBlock = none ∨ u.ownBlock ≠ u'.ownBlock
/-- all blocks below H are as they were, but for those of Q -/
structure BelowQ (Q : Nat → Prop) (H : Nat) (w w' : World) : Prop where
  os : w'.os = w.os
  tape : w'.tape = w.tape
  output : w'.output = w.output
  size : w.heap.size ≤ w'.heap.size
  block : ∀ k, k < H → ¬ Q k → w'.heap[k]? = w.heap[k]?
theorem BelowQ.refl (Q : Nat → Prop) (H : Nat) (w : World) : BelowQ Q H w w := ⟨rfl, rfl, rfl, Nat.le_refl _, fun _ _ _ => rfl⟩
theorem BelowQ.trans {Q : Nat → Prop} {H : Nat} {a b c : World} (h : BelowQ Q H a b) (k : BelowQ Q H b c) : BelowQ Q H a c :=
  ⟨k.os.trans h.os, k.tape.trans h.tape, k.output.trans h.output, Nat.le_trans h.size k.size, fun i hi hr => (k.block i hi hr).trans (h.block i hi hr)⟩
theorem BelowQ.alloc {Q : Nat → Prop} {H : Nat} {a w : World} (h : BelowQ Q H a w) (hB : H ≤ w.heap.size) (o : Obj) : BelowQ Q H a (w.alloc o) :=
  h.trans ⟨rfl, rfl, rfl, by simp, fun k hk _ => Below.heap_alloc _ _ _ (by omega)⟩
theorem BelowQ.grown {Q : Nat → Prop} {H : Nat} {a w w' : World} {row : Option Nat} (h : BelowQ Q H a w) (hg : w.grownBy w' row) (hB : H ≤ w.heap.size) (hr : ∀ k, row = some k → Q k ∨ H ≤ k) : BelowQ Q H a w' :=
  h.trans ⟨hg.os, hg.tape, hg.output, hg.size, fun k hk hq => hg.block k (by omega) (fun e => by rcases hr k e.symm with g | g; exact hq g; omega)⟩
theorem BelowQ.setCell {Q : Nat → Prop} {H : Nat} {a w : World} (h : BelowQ Q H a w) {p : Addr} (hp : Q p.block ∨ H ≤ p.block) (u : Value) : BelowQ Q H a (w.setCell p u) :=
  h.trans ⟨rfl, rfl, rfl, by simp [World.setCell], fun k hk hq => Below.heap_setCell _ _ _ _ (fun e => by rcases hp with g | g; exact hq (e ▸ g); omega)⟩
theorem own_keep {w w' : World} {B : Nat} {e : TypeId} {size : Nat} {v : Value} {n : Nat} {xs : List Value} (h : w.ownsRow B e size v n xs) (hg : ∀ b, v.ownBlock = some b → B ≤ b → b < w.heap.size → w'.heap[b]? = w.heap[b]?) : w'.ownsRow B e size v n xs := by
  refine ⟨h.1, ?_⟩
  rcases h.2 with hn | ⟨g, cap, cur, rfl, hb, hgg, rest⟩
  · exact .inl hn
  · exact .inr ⟨g, cap, cur, rfl, hb, (hg g rfl hb (Array.getElem?_eq_some_iff.1 hgg).1).trans hgg, rest⟩
theorem own_kind {w : World} {B : Nat} {e : TypeId} {size : Nat} {v : Value} {n : Nat} {xs : List Value} (h : w.ownsRow B e size v n xs) {g : Nat} (hg : v.ownBlock = some g) : ∃ c, w.heap[g]? = some (.cells c e (0, 0)) := by
  rcases h.2 with ⟨rfl, _⟩ | ⟨g', cap, cur, rfl, _, hgg, _⟩
  · simp [Value.ownBlock] at hg
  · simp [Value.ownBlock] at hg
    subst hg
    exact ⟨cur, hgg⟩
theorem own_cut {w : World} {B : Nat} {e : TypeId} {size : Nat} {a : Option Addr} {n c : Nat} {xs : List Value} (h : w.ownsRow B e size (.slice a n c) n xs) {k : Nat} (hk : k ≤ n) : w.ownsRow B e size (.slice a k c) k (xs.take (k * size)) := by
  have hle : k * size ≤ n * size := Nat.mul_le_mul_right _ hk
  refine ⟨by rw [List.length_take, h.1]; omega, ?_⟩
  rcases h.2 with ⟨hv, rfl⟩ | ⟨g, cap, cur, hv, hb, hgg, hnc, hcm, hcs, htake⟩
  · injection hv with h1 h2 h3
    exact .inl ⟨by rw [h1, h3, Nat.le_zero.1 hk], by omega⟩
  · injection hv with h1 h2 h3
    exact .inr ⟨g, cap, cur, by rw [h1, h3], hb, hgg, by omega, hcm, hcs, by rw [← htake, List.take_take, Nat.min_eq_left hle]⟩
theorem getD_set_row {α : Type} {rows : List (List α)} {i j : Nat} {x : List α} (hi : i < rows.length) : (rows.set i x).getD j [] = if j = i then x else rows.getD j [] := by
  rw [List.getD_eq_getElem?_getD, List.getD_eq_getElem?_getD, List.getElem?_set]
  by_cases h : i = j
  · subst h; rw [if_pos rfl, if_pos rfl, if_pos hi]; rfl
  · rw [if_neg h, if_neg (fun e => h e.symm)]
section
variable {α : Type} {enc : α → List Value} {sz : Nat} {TR TS TC : TypeId} {w w' : World} {B r : Nat} {R : Int} {v : Value} {vs : List Value} {rows : List (List α)}
theorem RollsW.keep (h : RollsW enc sz TR TS TC w B r R v vs rows) (hg : ∀ b, (B ≤ b ∨ b = r) → b < w.heap.size → w'.heap[b]? = w.heap[b]?) : RollsW enc sz TR TS TC w' B r R v vs rows :=
  ⟨(hg _ (.inr rfl) (lt_heap h.box)).trans h.box, own_keep h.outer fun b _ h1 h2 => hg b (.inl h1) h2, fun i u hu => own_keep (h.row i u hu) fun b _ h1 h2 => hg b (.inl h1) h2, h.sep⟩
theorem RollsW.lenV (h : RollsW enc sz TR TS TC w B r R v vs rows) : vs.length = rows.length := by simpa using h.outer.1
theorem RollsW.cells (h : RollsW enc sz TR TS TC w B r R v vs rows) : w.cell? ⟨r, 0, none⟩ = some (.int .i64 R) ∧ w.cell? ⟨r, 1, none⟩ = some v ∧ ∀ i, w.frozen? ⟨r, i, none⟩ = false := by
  refine ⟨?_, ?_, frozen_row h.box⟩ <;> rw [cell_of_row _ _ _ _ _ _ h.box] <;> rfl
theorem RollsW.box_ne_outer (h : RollsW enc sz TR TS TC w B r R v vs rows) (h1 : TR ≠ TS) : v.ownBlock ≠ some r := fun e => by
  obtain ⟨c, hc⟩ := own_kind h.outer e
  exact ne_type h.box hc h1 rfl
theorem RollsW.box_ne_row (h : RollsW enc sz TR TS TC w B r R v vs rows) (h1 : TR ≠ TC) {i : Nat} {u : Value} (hu : vs[i]? = some u) : u.ownBlock ≠ some r := fun e => by
  obtain ⟨c, hc⟩ := own_kind (h.row i u hu) e
  exact ne_type h.box hc h1 rfl
theorem RollsW.row_ne_outer (h : RollsW enc sz TR TS TC w B r R v vs rows) (h1 : TS ≠ TC) {i : Nat} {u : Value} (hu : vs[i]? = some u) : u.ownBlock = none ∨ u.ownBlock ≠ v.ownBlock := by
  cases e : u.ownBlock with
  | none => exact .inl rfl
  | some b =>
    refine .inr fun e2 => ?_
    obtain ⟨c, hc⟩ := own_kind (h.row i u hu) e
    obtain ⟨d, hd⟩ := own_kind h.outer e2.symm
    exact ne_type hd hc h1 rfl
/-- a new roll behind the others -/
theorem RollsW.pushNil (h : RollsW enc sz TR TS TC w B r R v vs rows) (h1 : TR ≠ TS) (h2 : TR ≠ TC) (h3 : TS ≠ TC) {v' : Value} (hown : w'.ownsRow B TS 1 v' (rows.length + 1) (vs ++ [.slice none 0 0])) (hgr : w.grownBy w' v.ownBlock) :
    RollsW enc sz TR TS TC (w'.setCell ⟨r, 1, none⟩ v') B r R v' (vs ++ [.slice none 0 0]) (rows ++ [[]]) := by
  have hbox : w'.heap[r]? = some (.cells #[.int .i64 R, v] TR (0, 0)) := (hgr.block r (lt_heap h.box) (fun e => h.box_ne_outer h1 e.symm)).trans h.box
  have hl := h.lenV
  refine ⟨by rw [heap_set hbox]; rfl, ?_, fun i u hu => ?_, fun i j u u' hu hu' hij => ?_⟩
  · rw [List.length_append, List.length_singleton]
    refine own_keep hown fun b hb _ _ => heap_set_ne (fun e => ?_) _
    obtain ⟨c, hc⟩ := own_kind hown hb
    exact ne_type hbox hc h1 e.symm
  · by_cases hi : i < vs.length
    · rw [List.getElem?_append_left hi] at hu
      rw [show (rows ++ [[]] : List (List α)).getD i [] = rows.getD i [] by rw [List.getD_eq_getElem?_getD, List.getD_eq_getElem?_getD, List.getElem?_append_left (by omega)]]
      refine own_keep (h.row i u hu) fun b hb _ hlt => ?_
      rw [heap_set_ne (fun e => h.box_ne_row h2 hu (by rw [hb, e]))]
      refine hgr.block b hlt (fun e => ?_)
      rcases h.row_ne_outer h3 hu with g | g
      · rw [g] at hb; cases hb
      · exact g (hb.trans e)
    · rw [List.getElem?_append_right (by omega)] at hu
      have hi2 : i = rows.length := by
        have := (List.getElem?_eq_some_iff.1 hu).1
        simp at this; omega
      subst hi2
      rw [← hl, Nat.sub_self] at hu
      injection hu with hu
      subst hu
      rw [show (rows ++ [[]] : List (List α)).getD rows.length [] = [] by rw [List.getD_eq_getElem?_getD, List.getElem?_append_right (Nat.le_refl _), Nat.sub_self]; rfl]
      exact World.ownsRow_nil _ _ _ _
  · have hn : ∀ k z, (vs ++ [Value.slice none 0 0])[k]? = some z → ¬ k < vs.length → z = .slice none 0 0 := fun k z hz hk => by
      rw [List.getElem?_append_right (by omega)] at hz
      have := (List.getElem?_eq_some_iff.1 hz).1
      simp at this
      rw [this] at hz
      injection hz with hz
      exact hz.symm
    by_cases hi : i < vs.length
    · by_cases hj : j < vs.length
      · rw [List.getElem?_append_left hi] at hu
        rw [List.getElem?_append_left hj] at hu'
        exact h.sep i j u u' hu hu' hij
      · rw [hn j u' hu' hj]
        cases u.ownBlock
        · exact .inl rfl
        · exact .inr (fun e => by cases e)
    · rw [hn i u hu hi]
      exact .inl rfl
/-- a roll changed: its new list lies where the elder one lay, or in a new block, or nowhere -/
theorem RollsW.setRow (h : RollsW enc sz TR TS TC w B r R v vs rows) (h1 : TR ≠ TS) (h2 : TR ≠ TC) (h3 : TS ≠ TC) {i g cap n : Nat} (hv : v = .slice (some ⟨g, 0, none⟩) n cap) {u u' : Value} (hu : vs[i]? = some u) {nrow : List α}
    (hown : w'.ownsRow B TC sz u' nrow.length (nrow.flatMap enc)) (hgr : w.grownBy w' u.ownBlock) (hat : ∀ b, u'.ownBlock = some b → u.ownBlock = some b ∨ w.heap.size ≤ b) :
    RollsW enc sz TR TS TC (w'.setCell ⟨g, i, none⟩ u') B r R v (vs.set i u') (rows.set i nrow) := by
  have hbox : w'.heap[r]? = some (.cells #[.int .i64 R, v] TR (0, 0)) := (hgr.block r (lt_heap h.box) (fun e => h.box_ne_row h2 hu e.symm)).trans h.box
  have hl := h.lenV
  have hi : i < vs.length := (List.getElem?_eq_some_iff.1 hu).1
  have ho : w'.ownsRow B TS 1 v rows.length vs := by
    refine own_keep h.outer fun b hb _ hlt => hgr.block b hlt fun e => ?_
    rcases h.row_ne_outer h3 hu with g | g
    · rw [g] at e; cases e
    · exact g (e.symm.trans hb.symm)
  have hn : n = rows.length := by
    rcases ho.2 with ⟨e, _⟩ | ⟨_, _, _, e, _⟩
    · rw [hv] at e; cases e
    · rw [hv] at e; injection e
  subst hn
  have hgk : v.ownBlock = some g := by rw [hv]; rfl
  obtain ⟨cg, hcg⟩ := own_kind ho hgk
  refine ⟨by rw [heap_set_ne (ne_type hbox hcg h1)]; exact hbox, ?_, fun j z hz => ?_, fun j k z z' hz hz' hjk => ?_⟩
  · rw [List.length_set]
    rw [hv] at ho ⊢
    exact (ho.stored i u').1
  · rw [getD_set_row (by omega)]
    by_cases e : j = i
    · subst e
      rw [List.getElem?_set, if_pos rfl, if_pos hi] at hz
      injection hz with hz
      subst hz
      rw [if_pos rfl]
      refine own_keep hown fun b hb _ _ => heap_set_ne (fun e => ?_) _
      obtain ⟨c, hc⟩ := own_kind hown hb
      exact ne_type hcg hc h3 e.symm
    · rw [List.getElem?_set, if_neg (fun e2 => e e2.symm)] at hz
      rw [if_neg e]
      refine own_keep (h.row j z hz) fun b hb _ hlt => ?_
      rw [heap_set_ne (fun e2 => ?_)]
      · refine hgr.block b hlt (fun e2 => ?_)
        rcases h.sep j i z u hz hu e with g | g
        · rw [g] at hb; cases hb
        · exact g (hb.trans e2)
      · rcases h.row_ne_outer h3 hz with g' | g'
        · rw [g'] at hb; cases hb
        · exact g' (by rw [hb, hgk, e2])
  · have hlt : ∀ (j : Nat) (z : Value) (b : Nat), vs[j]? = some z → z.ownBlock = some b → b < w.heap.size := fun j z b hz hb => ((h.row j z hz).lt b hb).2
    by_cases e : j = i
    · have e2 : k ≠ i := fun e2 => hjk (e.trans e2.symm)
      subst e
      rw [List.getElem?_set, if_pos rfl, if_pos hi] at hz
      rw [List.getElem?_set, if_neg (fun e3 => e2 e3.symm)] at hz'
      injection hz with hz
      subst hz
      cases hb : u'.ownBlock with
      | none => exact .inl rfl
      | some b =>
        refine .inr (fun e4 => ?_)
        rcases hat b hb with g | g
        · rcases h.sep j k u z' hu hz' hjk with g2 | g2
          · rw [g] at g2; cases g2
          · exact g2 (g.trans e4)
        · have := hlt k z' b hz' e4.symm; omega
    · rw [List.getElem?_set, if_neg (fun e3 => e e3.symm)] at hz
      by_cases e2 : k = i
      · subst e2
        rw [List.getElem?_set, if_pos rfl, if_pos hi] at hz'
        injection hz' with hz'
        subst hz'
        cases hb : z.ownBlock with
        | none => exact .inl rfl
        | some b =>
          refine .inr (fun e4 => ?_)
          rcases hat b e4.symm with g | g
          · rcases h.sep j k z u hz hu hjk with g2 | g2
            · rw [hb] at g2; cases g2
            · exact g2 (hb.trans g.symm)
          · have := hlt j z b hz hb; omega
      · rw [List.getElem?_set, if_neg (fun e3 => e2 e3.symm)] at hz'
        exact h.sep j k z z' hz hz' hjk
/-- the last rolls taken away -/
theorem RollsW.cutOuter (h : RollsW enc sz TR TS TC w B r R v vs rows) (h1 : TR ≠ TS) (h2 : TR ≠ TC) {a : Option Addr} {cap n k : Nat} (hv : v = .slice a n cap) (hk : k ≤ rows.length) :
    RollsW enc sz TR TS TC (w.setCell ⟨r, 1, none⟩ (.slice a k cap)) B r R (.slice a k cap) (vs.take k) (rows.take k) := by
  have hl := h.lenV
  have hn : n = rows.length := by
    rcases h.outer.2 with ⟨e, e2⟩ | ⟨_, _, _, e, _⟩
    · rw [hv] at e; injection e with _ e; omega
    · rw [hv] at e; injection e
  subst hn
  have ho := h.outer
  rw [hv] at ho
  have hc := own_cut ho hk
  rw [Nat.mul_one] at hc
  have hlt : (rows.take k).length = k := by rw [List.length_take]; omega
  refine ⟨by rw [heap_set h.box]; rfl, ?_, fun i u hu => ?_, fun i j u u' hu hu' hij => ?_⟩
  · rw [hlt]
    refine own_keep hc fun b hb _ _ => heap_set_ne (fun e => h.box_ne_outer h1 ?_) _
    rw [hv, ← e, ← hb]
    cases a <;> rfl
  · have hi : i < k := by
      have := (List.getElem?_eq_some_iff.1 hu).1
      rw [List.length_take] at this; omega
    rw [List.getElem?_take, if_pos hi] at hu
    rw [show (rows.take k).getD i [] = rows.getD i [] by rw [List.getD_eq_getElem?_getD, List.getD_eq_getElem?_getD, List.getElem?_take, if_pos hi]]
    exact own_keep (h.row i u hu) fun b hb _ _ => heap_set_ne (fun e => h.box_ne_row h2 hu (by rw [hb, e])) _
  · have hlk : ∀ i u, (vs.take k)[i]? = some u → vs[i]? = some u := fun i u hu => by
      have := (List.getElem?_eq_some_iff.1 hu).1
      rw [List.length_take] at this
      rwa [List.getElem?_take, if_pos (by omega)] at hu
    exact h.sep i j u u' (hlk i u hu) (hlk j u' hu') hij
end
end Go.Proofs.YtjcbpnffmebihaaGreatDoor
namespace Go.Proofs.YtjcbpnffmebihaaGreatDoor
open Go.RowKit Go.WideShapes

/-- the blocks lo ≤ b < hi are as they were -/
def SameOn (lo hi : Nat) (w w' : World) : Prop := ∀ b, lo ≤ b → b < hi → w'.heap[b]? = w.heap[b]?
theorem SameOn.refl (lo hi : Nat) (w : World) : SameOn lo hi w w := fun _ _ _ => rfl
theorem SameOn.below {lo hi B : Nat} {a b c : World} (h : SameOn lo hi a b) (g : Below B b c) (hB : hi ≤ B) : SameOn lo hi a c :=
  fun k h1 h2 => (g.block k (by omega)).trans (h k h1 h2)
theorem SameOn.kept {lo hi : Nat} {S : Nat → Prop} {a b c : World} (h : SameOn lo hi a b) (g : KeptBut S b c) (hd : ∀ k, S k → k < lo ∨ hi ≤ k) : SameOn lo hi a c :=
  fun k h1 h2 => (g.block k (fun e => by have := hd k e; omega)).trans (h k h1 h2)
theorem SameOn.ints {lo hi : Nat} {a b : World} {p : Option Addr} {len : Nat} {xs : List Int} (h : SameOn lo hi a b) (x : IntsAt a (fun b => lo ≤ b ∧ b < hi) p len xs) : IntsAt b (fun b => lo ≤ b ∧ b < hi) p len xs :=
  x.to (fun k hk => ⟨hk, h k hk.1 hk.2⟩)
theorem SameOn.rows {lo hi : Nat} {a b : World} {p : Option Addr} {len : Nat} {xs : List (List Int)} (h : SameOn lo hi a b) (x : RowsAt a (fun b => lo ≤ b ∧ b < hi) p len xs) : RowsAt b (fun b => lo ≤ b ∧ b < hi) p len xs :=
  x.to (fun k hk => ⟨hk, h k hk.1 hk.2⟩)
theorem SameOn.free {lo hi : Nat} {a b : World} {p : Option Addr} {len : Nat} (h : SameOn lo hi a b) (x : Free a (fun b => lo ≤ b ∧ b < hi) p len) : Free b (fun b => lo ≤ b ∧ b < hi) p len :=
  x.to (fun k hk => ⟨hk, h k hk.1 hk.2⟩)
theorem ints_lift {w w1 : World} {a : Option Addr} {len : Nat} {xs : List Int} (h : IntsAt w (· < w.heap.size) a len xs) (hb : Below w.heap.size w w1) : IntsAt w1 (· < w1.heap.size) a len xs :=
  (h.below hb).to (fun _ hb' => ⟨Nat.lt_of_lt_of_le hb' hb.size, rfl⟩)
/-- a value, and nothing below written -/
def ValPost (w : World) (v : Value) (e : Ending) (w' : World) : Prop := e = .returned v ∧ Below w.heap.size w w'
end Go.Proofs.YtjcbpnffmebihaaGreatDoor
namespace Go.Proofs.YtjcbpnffmebihaaGreatDoor
open Go.RowKit

/-- the sum of numbers -/
def totalM (xs : List Int) : Int := xs.foldl (· + ·) 0
theorem totalM_snoc (xs : List Int) (x : Int) : totalM (xs ++ [x]) = totalM xs + x := by simp [totalM]
theorem totalM_bd {B : Int} (hB : 0 ≤ B) : ∀ {xs : List Int}, (∀ x ∈ xs, -B ≤ x ∧ x ≤ B) → -(B * xs.length) ≤ totalM xs ∧ totalM xs ≤ B * xs.length := by
  have key : ∀ (xs : List Int) (s : Int), (∀ x ∈ xs, -B ≤ x ∧ x ≤ B) → s - B * xs.length ≤ xs.foldl (· + ·) s ∧ xs.foldl (· + ·) s ≤ s + B * xs.length := by
    intro xs
    induction xs with
    | nil => intro s _; simp
    | cons x xs ih =>
      intro s h
      have h1 := h x List.mem_cons_self
      have h2 := ih (s + x) (fun y hy => h y (List.mem_cons_of_mem _ hy))
      have e : B * ((x :: xs).length : Int) = B * (xs.length : Int) + B := by rw [List.length_cons]; push_cast; rw [Int.mul_add, Int.mul_one]
      simp only [List.foldl_cons]
      rw [e]
      omega
  intro xs h
  have := key xs 0 h
  unfold totalM
  omega
theorem take_mem {α : Type} {xs : List α} {k : Nat} {x : α} (h : x ∈ xs.take k) : x ∈ xs := List.mem_of_mem_take h

end Go.Proofs.YtjcbpnffmebihaaGreatDoor
namespace Go.Proofs.YtjcbpnffmebihaaGreatDoor

-- insertion in place, told by sortE (plain)
theorem ins_next {s l1 l2 : List Nat} {i n : Nat} (hi : i + 1 < n) (h : l1 ++ i :: l2 = s) : insAt l1 i l2 n = insAt s (i + 1) [] n := by
  unfold insAt
  rw [← h]
  have : List.range' (i + 1) (n - (i + 1)) = (i + 1) :: List.range' (i + 1 + 1) (n - (i + 1 + 1)) := by
    obtain ⟨m, hm⟩ : ∃ m, n - (i + 1) = m + 1 := ⟨n - (i + 1) - 1, by omega⟩
    rw [hm, List.range'_succ, show n - (i + 1 + 1) = m by omega]
  rw [this]; simp
theorem ins_last {s l1 l2 : List Nat} {i : Nat} (h : l1 ++ i :: l2 = s) : insAt l1 i l2 (i + 1) = s := by
  unfold insAt; rw [Nat.sub_self, List.range'_zero, List.append_nil, h]
theorem sortE_one (ah : Nat → Nat → Bool) : sortE ah 1 = [0] := by
  simp [sortE, insE, backK]
theorem ins_first (ah : Nat → Nat → Bool) {n : Nat} (hn : 1 < n) : List.range n = insAt (sortE ah 1) 1 [] n := by
  unfold insAt
  obtain ⟨m, rfl⟩ : ∃ m, n = m + 2 := ⟨n - 2, by omega⟩
  rw [List.range_eq_range', List.range'_succ, List.range'_succ, sortE_one]
  rfl
/-- the loop's end: what is behind comes behind, the last one ahead does not -/
theorem insE_done {ah : Nat → Nat → Bool} {l1 l2 : List Nat} {i : Nat} (h : l1 ++ l2 = sortE ah i) (h1 : ∀ l z, l1 = l ++ [z] → ah i z = false) (h2 : ∀ y ∈ l2, ah i y = true) : l1 ++ i :: l2 = sortE ah (i + 1) := by
  have hk : backK (ah i) (sortE ah i) (sortE ah i).length = l1.length := by
    refine backK_is (by rw [← h, List.length_append]; omega) (fun m hm hm2 => ?_) (fun hp => ?_)
    · rw [← h, List.getD_eq_getElem?_getD, List.getElem?_append_right hm]
      rw [← h, List.length_append] at hm2
      rw [List.getElem?_eq_getElem (by omega)]
      exact h2 _ (List.getElem_mem _)
    · rcases List.eq_nil_or_concat l1 with rfl | ⟨l, z, rfl⟩
      · simp at hp
      · have := h1 l z (by rw [List.concat_eq_append])
        rw [← h, List.getD_eq_getElem?_getD]
        simpa using this
  show _ = insE ah i (sortE ah i)
  unfold insE
  rw [hk, ← h]
  simp
end Go.Proofs.YtjcbpnffmebihaaGreatDoor
