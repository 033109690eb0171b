import Derived.Test.YtldncfkkeeinjacLib
import Derived.Test.YtldncfkkeeinjacExact
import Derived.Test.YtldncfkkeeinjacMark
namespace Go.Proofs.Ytldncfkkeeinjac
open Go.RowKit Go.WideShapes

/-- the first n values of f -/
def tab (f : Nat → Int) (n : Nat) : List Int := (List.range n).map f
theorem tab_succ (f : Nat → Int) (n : Nat) : tab f (n + 1) = tab f n ++ [f n] := by simp [tab, List.range_succ]
theorem tab_length (f : Nat → Int) (n : Nat) : (tab f n).length = n := by simp [tab]
theorem tab_get {f : Nat → Int} {n i : Nat} {x : Int} (h : (tab f n)[i]? = some x) : x = f i ∧ i < n := by
  simp only [tab, List.getElem?_map, Option.map_eq_some_iff] at h
  obtain ⟨j, hj, rfl⟩ := h
  obtain ⟨h1, h2⟩ := List.getElem?_eq_some_iff.1 hj
  simp at h1 h2
  subst h2
  exact ⟨rfl, h1⟩
theorem tab_at (f : Nat → Int) {n i : Nat} (h : i < n) : (tab f n)[i]? = some (f i) := by
  simp [tab, h]
theorem tab_getD (f : Nat → Int) {n i : Nat} (h : i < n) : (tab f n).getD i 0 = f i := by
  rw [List.getD_eq_getElem?_getD, tab_at f h]; rfl
theorem tab_congr {f g : Nat → Int} {n : Nat} (h : ∀ q, q < n → f q = g q) : tab f n = tab g n := by
  apply List.map_congr_left
  intro q hq
  exact h q (by simpa using hq)
theorem getD_of {xs : List Int} {k : Nat} {x : Int} (h : xs[k]? = some x) : xs.getD k 0 = x := by rw [List.getD_eq_getElem?_getD, h]; rfl
theorem getD_past {xs : List Int} {k : Nat} (h : xs.length ≤ k) : xs.getD k 0 = 0 := by rw [List.getD_eq_getElem?_getD, List.getElem?_eq_none h]; rfl
theorem get_getD {xs : List Int} {k : Nat} (h : k < xs.length) : xs[k]? = some (xs.getD k 0) := by rw [List.getD_eq_getElem?_getD, List.getElem?_eq_getElem h]; rfl
theorem tab_self (xs : List Int) : tab (fun q => xs.getD q 0) xs.length = xs := by
  apply List.ext_getElem?
  intro i
  rcases Nat.lt_or_ge i xs.length with h | h
  · rw [tab_at _ h, get_getD h]
  · rw [List.getElem?_eq_none h, List.getElem?_eq_none (by rw [tab_length]; exact h)]

/-- the cells of an array are ints, told by their place -/
structure ArrIs (C : Array Value) (len : Nat) (f : Nat → Int) : Prop where
  size : C.size = len
  get : ∀ q, q < len → C[q]? = some (.int .i64 (f q))
theorem ArrIs.made (len : Nat) : ArrIs (madeCells #[.int .i64 0] len) len (fun _ => 0) :=
  ⟨size_madeCells _ _, fun q hq => by simp [madeCells, hq, Nat.mod_one]⟩
theorem ArrIs.congr {C : Array Value} {len : Nat} {f g : Nat → Int} (h : ArrIs C len f) (e : ∀ q, q < len → f q = g q) : ArrIs C len g :=
  ⟨h.size, fun q hq => by rw [h.get q hq, e q hq]⟩
theorem ArrIs.set {C : Array Value} {len : Nat} {f : Nat → Int} (h : ArrIs C len f) (k : Nat) (v : Int) : ArrIs (C.setIfInBounds k (.int .i64 v)) len (fun q => if q = k then v else f q) := by
  refine ⟨by simpa using h.size, fun q hq => ?_⟩
  rw [Array.getElem?_setIfInBounds]
  by_cases e : k = q
  · subst e
    rw [if_pos rfl, if_pos (by rw [h.size]; exact hq)]
    simp
  · rw [if_neg e, h.get q hq, if_neg (fun e' => e e'.symm)]
theorem ArrIs.cells {C : Array Value} {xs : List Int} {len : Nat} {f : Nat → Int} (h : ArrIs C len f) (hl : xs.length = len) (e : ∀ q x, xs[q]? = some x → f q = x) : C = cellsOf xs := by
  refine cellsOf_eq (by rw [h.size, hl]) (fun i x hx => ?_)
  have hi : i < len := by
    rcases Nat.lt_or_ge i xs.length with h' | h'
    · omega
    · simp [List.getElem?_eq_none h'] at hx
  rw [h.get i hi, e i x hx]
theorem ArrIs.tab {C : Array Value} {len : Nat} {f : Nat → Int} (h : ArrIs C len f) : C = cellsOf (tab f len) :=
  h.cells (tab_length f len) (fun _ _ hx => (tab_get hx).1.symm)
theorem ArrIs.at {C : Array Value} {len : Nat} {f : Nat → Int} (h : ArrIs C len f) (w : World) (t : TypeId) {q : Nat} (hq : q < len) :
    (w.alloc (.cells C t)).cell? ⟨w.heap.size, q, none⟩ = some (.int .i64 (f q)) := by
  rw [World.cell?_alloc_new]; exact h.get q hq

/-- what is returned is the one new block -/
theorem resPost_alloc {w : World} {xs : List Int} {len : Nat} {t : TypeId} (hl : xs.length = len) (hs : len ≤ 1048576) :
    ResPost w xs (.returned (.slice (some ⟨w.heap.size, 0, none⟩) len len)) (w.alloc (.cells (cellsOf xs) t)) :=
  resPost_block hl hs (fun q x hx => ⟨by
    rw [World.cell?_alloc_new]
    simp only [cellsOf, List.getElem?_toArray, List.getElem?_map, hx]; rfl, World.frozen?_alloc_new w _ _ _⟩) ((Below.refl _ _).alloc (Nat.le_refl _) _)
end Go.Proofs.Ytldncfkkeeinjac
