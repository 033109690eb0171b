import Derived.Test.YtjcbpnffmebihaaGreatDoorA10
import Derived.Test.YtjcbpnffmebihaaGreatDoorRows
import Derived.RangeFuncNested
import Derived.RangeFuncBound
import Derived.RangeFuncCalls
import Derived.RangeFuncLeaves
import Derived.RangeFuncWrites
import Derived.Shelf.Abstract
import Derived.Shelf.RegionOpen
import Derived.WalkKit
import Derived.Outline
import Derived.OwnWalkIn
import Derived.TacticsInMore
import Derived.LoopNIn
import Derived.LoopIn
import Derived.IntWalk
import Derived.StillTailTactics
import Derived.Deep.OwnRows
set_option linter.unusedVariables false
set_option linter.unusedSimpArgs false
namespace Go.Proofs.YtjcbpnffmebihaaGreatDoor
open Go.RowKit Go.Shelf Go.Deep

attribute [local go_sem] Oper.semAt_some

/-- nine ints in block b -/
def Arr9 (w : World) (b : Nat) (f : Nat → Int) : Prop := ∀ q, q < 9 → w.cell? ⟨b, q, none⟩ = some (.int .i64 (f q)) ∧ w.frozen? ⟨b, q, none⟩ = false
theorem Arr9.kept {a b : World} {g : Nat} {f : Nat → Int} (h : Arr9 a g f) {row : Option Nat} (hg : a.grownBy b row) (hr : ∀ r, row = some r → ∃ o : Obj, a.heap[r]? = some o ∧ o.isCells = false) : Arr9 b g f :=
  fun q hq => ⟨cell_kept (h q hq).1 hg hr, (frozen_kept (h q hq).1 hg hr).trans (h q hq).2⟩
theorem Arr9.put {w : World} {b : Nat} {f : Nat → Int} (h : Arr9 w b f) {k : Nat} (hk : k < 9) (v : Int) : Arr9 (w.setCell ⟨b, k, none⟩ (.int .i64 v)) b (fun q => if q = k then v else f q) := by
  intro q hq
  obtain ⟨h1, h2⟩ := h q hq
  by_cases e : q = k
  · subst e
    exact ⟨by rw [World.cell?_setCell_same _ _ _ h1]; simp, by rw [World.frozen?_setCell]; exact h2⟩
  · exact ⟨by rw [World.cell?_setCell_other _ _ _ _ (by intro e'; injection e'; omega)]; simp [e, h1], by rw [World.frozen?_setCell]; exact h2⟩
theorem Arr9.other {w : World} {b b' : Nat} {f : Nat → Int} (h : Arr9 w b f) (k : Nat) (v : Value) (hb : b' ≠ b) : Arr9 (w.setCell ⟨b', k, none⟩ v) b f := by
  intro q hq
  obtain ⟨h1, h2⟩ := h q hq
  exact ⟨by rw [World.cell?_setCell_other _ _ _ _ (by intro e'; injection e'; omega)]; exact h1, by rw [World.frozen?_setCell]; exact h2⟩
def agg9 (f : Nat → Int) : Value := .agg #[.int .i64 (f 0), .int .i64 (f 1), .int .i64 (f 2), .int .i64 (f 3), .int .i64 (f 4), .int .i64 (f 5), .int .i64 (f 6), .int .i64 (f 7), .int .i64 (f 8)]
theorem nine {q : Nat} (h : q < 9) : q = 0 ∨ q = 1 ∨ q = 2 ∨ q = 3 ∨ q = 4 ∨ q = 5 ∨ q = 6 ∨ q = 7 ∨ q = 8 := by omega
theorem stored9 {w : World} {r : Nat} {h0 f : Nat → Int} (h : Arr9 w r h0) :
    Arr9 (((((((((w.setCell ⟨r, 0, none⟩ (.int .i64 (f 0))).setCell ⟨r, 1, none⟩ (.int .i64 (f 1))).setCell ⟨r, 2, none⟩ (.int .i64 (f 2))).setCell ⟨r, 3, none⟩ (.int .i64 (f 3))).setCell ⟨r, 4, none⟩ (.int .i64 (f 4))).setCell ⟨r, 5, none⟩ (.int .i64 (f 5))).setCell ⟨r, 6, none⟩ (.int .i64 (f 6))).setCell ⟨r, 7, none⟩ (.int .i64 (f 7))).setCell ⟨r, 8, none⟩ (.int .i64 (f 8))) r f := by
  have := ((((((((h.put (k := 0) (by omega) (f 0)).put (k := 1) (by omega) (f 1)).put (k := 2) (by omega) (f 2)).put (k := 3) (by omega) (f 3)).put (k := 4) (by omega) (f 4)).put (k := 5) (by omega) (f 5)).put (k := 6) (by omega) (f 6)).put (k := 7) (by omega) (f 7)).put (k := 8) (by omega) (f 8)
  intro q hq
  have h2 := this q hq
  refine ⟨?_, h2.2⟩
  rw [h2.1]
  rcases nine hq with rfl | rfl | rfl | rfl | rfl | rfl | rfl | rfl | rfl <;> simp
theorem below9 {n : Nat} {w0 w : World} {r : Nat} {f : Nat → Int} (h : Below n w0 w) (hr : n ≤ r) : Below n w0 (((((((((w.setCell ⟨r, 0, none⟩ (.int .i64 (f 0))).setCell ⟨r, 1, none⟩ (.int .i64 (f 1))).setCell ⟨r, 2, none⟩ (.int .i64 (f 2))).setCell ⟨r, 3, none⟩ (.int .i64 (f 3))).setCell ⟨r, 4, none⟩ (.int .i64 (f 4))).setCell ⟨r, 5, none⟩ (.int .i64 (f 5))).setCell ⟨r, 6, none⟩ (.int .i64 (f 6))).setCell ⟨r, 7, none⟩ (.int .i64 (f 7))).setCell ⟨r, 8, none⟩ (.int .i64 (f 8))) :=
  ((((((((h.setCell hr _).setCell hr _).setCell hr _).setCell hr _).setCell hr _).setCell hr _).setCell hr _).setCell hr _).setCell hr _
theorem heap9 {w : World} {r D : Nat} {f : Nat → Int} (h : D ≠ r) : (((((((((w.setCell ⟨r, 0, none⟩ (.int .i64 (f 0))).setCell ⟨r, 1, none⟩ (.int .i64 (f 1))).setCell ⟨r, 2, none⟩ (.int .i64 (f 2))).setCell ⟨r, 3, none⟩ (.int .i64 (f 3))).setCell ⟨r, 4, none⟩ (.int .i64 (f 4))).setCell ⟨r, 5, none⟩ (.int .i64 (f 5))).setCell ⟨r, 6, none⟩ (.int .i64 (f 6))).setCell ⟨r, 7, none⟩ (.int .i64 (f 7))).setCell ⟨r, 8, none⟩ (.int .i64 (f 8))).heap[D]? = w.heap[D]? := by
  rw [Below.heap_setCell _ _ _ _ h, Below.heap_setCell _ _ _ _ h, Below.heap_setCell _ _ _ _ h, Below.heap_setCell _ _ _ _ h, Below.heap_setCell _ _ _ _ h, Below.heap_setCell _ _ _ _ h, Below.heap_setCell _ _ _ _ h, Below.heap_setCell _ _ _ _ h, Below.heap_setCell _ _ _ _ h]
theorem Arr9.new (w : World) (f : Nat → Int) (t : TypeId) : Arr9 (w.alloc (.cells #[.int .i64 (f 0), .int .i64 (f 1), .int .i64 (f 2), .int .i64 (f 3), .int .i64 (f 4), .int .i64 (f 5), .int .i64 (f 6), .int .i64 (f 7), .int .i64 (f 8)] t)) w.heap.size f := by
  intro q hq
  refine ⟨?_, World.frozen?_alloc_new w _ _ _⟩
  rw [World.cell?_alloc_new]
  rcases nine hq with rfl | rfl | rfl | rfl | rfl | rfl | rfl | rfl | rfl <;> rfl
theorem Arr9.block {w w' : World} {b : Nat} {f : Nat → Int} (h : Arr9 w b f) (e : w'.heap[b]? = w.heap[b]?) : Arr9 w' b f := by
  intro q hq
  obtain ⟨h1, h2⟩ := h q hq
  exact ⟨by rw [World.cell?_of_block (w := w) e]; exact h1, by rw [World.frozen?_of_block (w := w) e]; exact h2⟩
theorem Arr9.lt {w : World} {b : Nat} {f : Nat → Int} (h : Arr9 w b f) : b < w.heap.size := World.block_lt_of_cell? w _ (h 0 (by omega)).1
theorem Arr9.alloc {w : World} {b : Nat} {f : Nat → Int} (h : Arr9 w b f) (o : Obj) : Arr9 (w.alloc o) b f := h.block (Below.heap_alloc _ _ _ h.lt)
theorem Arr9.below {w w' : World} {b n : Nat} {f : Nat → Int} (h : Arr9 w b f) (hb : Below n w w') (hlt : b < n) : Arr9 w' b f := h.block (hb.block b hlt)
/-- the boxes of leastByDay, from block n on -/
structure ByDay (n : Nat) (wr : World) (a : Option Addr) (len cap : Nat) (s h : Int) (f : Nat → Int) : Prop where
  list : wr.cell? ⟨n, 0, none⟩ = some (.slice a len cap)
  set : wr.cell? ⟨n + 1, 0, none⟩ = some (.int .i64 s)
  hold : wr.cell? ⟨n + 2, 0, none⟩ = some (.int .i64 h)
  res : Arr9 wr (n + 3) (fun _ => 0)
  least : Arr9 wr (n + 4) f
  back : wr.cell? ⟨n + 5, 0, none⟩ = some (.slice a len cap)
theorem ByDay.kept {n : Nat} {A B : World} {a : Option Addr} {len cap : Nat} {s h : Int} {f : Nat → Int} (d : ByDay n A a len cap s h f) {row : Option Nat} (hg : A.grownBy B row) (hr : ∀ r, row = some r → ∃ o : Obj, A.heap[r]? = some o ∧ o.isCells = false) : ByDay n B a len cap s h f :=
  ⟨cell_kept d.list hg hr, cell_kept d.set hg hr, cell_kept d.hold hg hr, d.res.kept hg hr, d.least.kept hg hr, cell_kept d.back hg hr⟩
theorem ByDay.put {n : Nat} {A : World} {a : Option Addr} {len cap : Nat} {s h : Int} {f : Nat → Int} (d : ByDay n A a len cap s h f) {k : Nat} (hk : k < 9) (v : Int) : ByDay n (A.setCell ⟨n + 4, k, none⟩ (.int .i64 v)) a len cap s h (fun q => if q = k then v else f q) :=
  ⟨by rw [World.cell?_setCell_other _ _ _ _ (by intro e'; injection e'; omega)]; exact d.list, by rw [World.cell?_setCell_other _ _ _ _ (by intro e'; injection e'; omega)]; exact d.set,
   by rw [World.cell?_setCell_other _ _ _ _ (by intro e'; injection e'; omega)]; exact d.hold, d.res.other _ _ (by omega), d.least.put hk v, by rw [World.cell?_setCell_other _ _ _ _ (by intro e'; injection e'; omega)]; exact d.back⟩
/-- the least cost of the days from i on, when j days are tried as the first one of the next lot -/
def lmM (xs : List Int) (s h : Int) (f : Nat → Int) (i : Nat) : Nat → Int
  | 0 => runD xs s h i (xs.length - i)
  | j + 1 => min (lmM xs s h f i j) (runD xs s h i (j + 1) + f (i + 1 + j))
theorem lmM_bd {xs : List Int} {s h : Int} {f : Nat → Int} (hl : xs.length ≤ 8) (hx : ∀ k, 0 ≤ xs.getD k 0 ∧ xs.getD k 0 ≤ 20) (hs : 0 ≤ s ∧ s ≤ 30) (hh : 0 ≤ h ∧ h ≤ 30) (hf : ∀ q, 0 ≤ f q ∧ f q ≤ 40000) (i : Nat) : ∀ j, j ≤ 8 → 0 ≤ lmM xs s h f i j ∧ lmM xs s h f i j ≤ 40000 := by
  intro j
  induction j with
  | zero => intro _; exact runD_bd hx (by omega) (by omega) i _ (by omega)
  | succ j ih => intro hj; have := ih (by omega); have h1 := runD_bd hx (s := s) (h := h) (by omega) (by omega) i (j + 1) (by omega); have h2 := hf (i + 1 + j); rw [lmM]; omega
theorem lmM_bst {xs : List Int} {s h : Int} {f : Nat → Int} {i : Nat} (hi : i < xs.length) (hf : ∀ q, i < q → q ≤ xs.length → f q = bst xs s h q) : lmM xs s h f i (xs.length - (i + 1)) = bst xs s h i := by
  have key : ∀ j, j + 1 < xs.length - i → lmM xs s h f i (j + 1) = min (runD xs s h i (xs.length - i)) (minTo (fun d => runD xs s h i (d + 1) + bst xs s h (i + (d + 1))) j) := by
    intro j
    induction j with
    | zero => intro _; rw [lmM, lmM, minTo, hf (i + 1 + 0) (by omega) (by omega)]
    | succ j ih => intro hj; rw [lmM, ih (by omega), minTo, hf (i + 1 + (j + 1)) (by omega) (by omega), show i + 1 + (j + 1) = i + (j + 1 + 1) by omega]; omega
  have e := bst_end xs s h
  rw [bst_rec hi]
  obtain ⟨m, hm⟩ : ∃ m, xs.length - (i + 1) = m := ⟨_, rfl⟩
  rw [show xs.length - 1 - i = m by omega, hm]
  cases m with
  | zero =>
    rw [lmM, minTo]
    have e2 : i + (0 + 1) = xs.length := by omega
    have e3 : xs.length - i = 0 + 1 := by omega
    simp only [e2, e3, e]
    omega
  | succ m =>
    rw [key m (by omega), minTo]
    have e2 : i + (m + 1 + 1) = xs.length := by omega
    have e3 : xs.length - i = m + 1 + 1 := by omega
    simp only [e2, e3, e]
    omega
theorem costPart_any (S : Nat → Prop) (b off len c : Nat) (xs : List Int) (s h : Int) (i k l : Nat) (w : World) (hx : IntsAt w S (some ⟨b, off, none⟩) len xs) (hl : len ≤ 8) (hv : ∀ k, 0 ≤ xs.getD k 0 ∧ xs.getD k 0 ≤ 20) (hs : 0 ≤ s ∧ s ≤ 30) (hh : 0 ≤ h ∧ h ≤ 30) (hik : i < k) (hk : k ≤ len) (hlk : l = k - i) :
    Calls Tryz.prog 123 #[.slice (some ⟨b, off + i, none⟩) l c, .int .i64 s, .int .i64 h] w fun e w' => e = .returned (.int .i64 (runD xs s h i l)) ∧ w' = w := by
  subst hlk
  refine (costOfLot_any S _ (k - i) c _ s h w (ints_part hx i k hik hk) (by omega) (fun q => ?_) hs hh).mono ?_
  · rw [List.getD_eq_getElem?_getD, List.getElem?_take]
    split
    · rw [List.getElem?_drop, ← List.getD_eq_getElem?_getD]; exact hv _
    · simp
  · rintro e w' ⟨rfl, rfl⟩
    rw [runD_part (by rw [hx.lenEq]; omega)]
    exact ⟨rfl, rfl⟩
/-- what holds ahead of each round -/
def DayI (w : World) (a : Option Addr) (len cap : Nat) (xs : List Int) (s h : Int) (pre : List (IRow xs)) (W : World) : Prop :=
  ∃ f, ByDay w.heap.size W a len cap s h f ∧ Below w.heap.size w W ∧ (∀ q, 0 ≤ f q ∧ f q ≤ 40000) ∧ (pre.map (·.1.1) = downI len pre.length → ∀ q, len - pre.length ≤ q → q ≤ len → f q = bst xs s h q)
set_option maxRecDepth 100000 in
set_option maxHeartbeats 4000000 in
theorem leastByDay_any (a : Option Addr) (len cap : Nat) (xs : List Int) (s h : Int) (w : World) (hx : IntsAt w (· < w.heap.size) a len xs) (hcap : len ≤ cap) (hl8 : len ≤ 8) (hv : ∀ k, 0 ≤ xs.getD k 0 ∧ xs.getD k 0 ≤ 20) (hs : 0 ≤ s ∧ s ≤ 30) (hh : 0 ≤ h ∧ h ≤ 30) :
    Calls Tryz.prog 120 #[.slice a len cap, .int .i64 s, .int .i64 h] w fun e w' => (∃ f, e = .returned (agg9 f) ∧ ∀ q, q ≤ len → f q = bst xs s h q) ∧ Below w.heap.size w w' := by
  have HL := Lib.hid hx.lenEq
  have HV := Lib.hid hv
  refine (callsIn_wide (n := 9)).1 ?_
  refine callsIn_of_wp_marks Tryz.func120 rfl trivial ?_ rfl
  simp only [Tryz.ntmps120, List.size_toArray, List.length_cons, List.length_nil, Nat.reduceAdd, Nat.reduceSub, Array.replicate_succ, Array.replicate_zero, List.push_toArray, List.append_toArray, List.nil_append, List.cons_append]
  gi_wp2_with (refine ⟨trivial, ?_⟩; gi_at_call 150; refine (backwardI_any _ _ _ _ _).mono ?_; rintro e w' ⟨rfl, rfl⟩)
  obtain ⟨W0, hW0⟩ : ∃ W0, ((((((w.alloc (Obj.cells #[Value.slice a len cap] 35)).alloc (Obj.cells #[Value.int IntKind.i64 s] 3)).alloc
                  (Obj.cells #[Value.int IntKind.i64 h] 3)).alloc
              (Obj.cells
                #[Value.int IntKind.i64 0, Value.int IntKind.i64 0, Value.int IntKind.i64 0, Value.int IntKind.i64 0,
                  Value.int IntKind.i64 0, Value.int IntKind.i64 0, Value.int IntKind.i64 0, Value.int IntKind.i64 0,
                  Value.int IntKind.i64 0]
                147)).alloc
          (Obj.cells
            #[Value.int IntKind.i64 0, Value.int IntKind.i64 0, Value.int IntKind.i64 0, Value.int IntKind.i64 0,
              Value.int IntKind.i64 0, Value.int IntKind.i64 0, Value.int IntKind.i64 0, Value.int IntKind.i64 0,
              Value.int IntKind.i64 0]
            147)).alloc
      (Obj.cells #[Value.slice a len cap] 35)) = W0 := ⟨_, rfl⟩
  have hby : ByDay w.heap.size W0 a len cap s h (fun _ => 0) := by
    rw [← hW0]
    have z4 := cell_new_l w (.slice a len cap) 35
    have z5 := cell_new_l (w.alloc (.cells #[.slice a len cap] 35)) (.int .i64 s) 3
    have z6 := cell_new_l ((w.alloc (.cells #[.slice a len cap] 35)).alloc (.cells #[.int .i64 s] 3)) (.int .i64 h) 3
    have z7 := Arr9.new (((w.alloc (.cells #[.slice a len cap] 35)).alloc (.cells #[.int .i64 s] 3)).alloc (.cells #[.int .i64 h] 3)) (fun _ => 0) 147
    have z8 := Arr9.new ((((w.alloc (.cells #[.slice a len cap] 35)).alloc (.cells #[.int .i64 s] 3)).alloc (.cells #[.int .i64 h] 3)).alloc (.cells #[.int .i64 0, .int .i64 0, .int .i64 0, .int .i64 0, .int .i64 0, .int .i64 0, .int .i64 0, .int .i64 0, .int .i64 0] 147)) (fun _ => 0) 147
    have z9 := cell_new_l (((((w.alloc (.cells #[.slice a len cap] 35)).alloc (.cells #[.int .i64 s] 3)).alloc (.cells #[.int .i64 h] 3)).alloc (.cells #[.int .i64 0, .int .i64 0, .int .i64 0, .int .i64 0, .int .i64 0, .int .i64 0, .int .i64 0, .int .i64 0, .int .i64 0] 147)).alloc (.cells #[.int .i64 0, .int .i64 0, .int .i64 0, .int .i64 0, .int .i64 0, .int .i64 0, .int .i64 0, .int .i64 0, .int .i64 0] 147)) (.slice a len cap) 35
    simp only [World.size_alloc, Nat.add_assoc, Nat.reduceAdd] at z4 z5 z6 z7 z8 z9
    exact ⟨cell_alloc_l _ (cell_alloc_l _ (cell_alloc_l _ (cell_alloc_l _ (cell_alloc_l _ z4.1)))), cell_alloc_l _ (cell_alloc_l _ (cell_alloc_l _ (cell_alloc_l _ z5.1))), cell_alloc_l _ (cell_alloc_l _ (cell_alloc_l _ z6.1)), (z7.alloc _).alloc _, z8.alloc _, z9.1⟩
  have hbl : Below w.heap.size w W0 := by
    rw [← hW0]
    exact ((((((Below.refl w.heap.size w).alloc (by simp) _).alloc (by simp <;> omega) _).alloc (by simp <;> omega) _).alloc (by simp <;> omega) _).alloc (by simp <;> omega) _).alloc (by simp <;> omega) _
  have hsz : W0.heap.size = w.heap.size + 6 := by rw [← hW0]; simp
  rw [hW0]
  clear hW0
  simp only [Nat.add_assoc, Nat.reduceAdd]
  refine wpIn_rangeFunc_ownF rfl (by omega) (gf := 177) (lb := #[.pointer (some ⟨w.heap.size + 5, 0, none⟩)]) rfl trivial (enters_of Tryz.func177 (by kernel_rfl) rfl)
    (backI_stops _ (by omega) (w.heap.size + 5) w.heap.size a len cap xs W0 (by omega) (by omega) hby.back (hx.below hbl)) (fun h1 h2 => KeepI.trans h1 h2)
    (fun W l o o' h1 h2 h3 h4 => ⟨belowK_b (w := W0) (n₀ := w.heap.size) (by omega) W l o o' h1 h2 h3 h4, (grownBy_putObj' W l o').block (w.heap.size + 5) (by have := (Array.getElem?_eq_some_iff.1 h2).1; omega) (fun e => by injection e; omega)⟩) (Below.refl _ _) (fun _ => rfl)
    (DayI w a len cap xs s h)
    (fun _ _ _ => False)
    (by rintro s1 A B row ⟨f, h1, h2, h3, h4⟩ hg hr; exact ⟨f, h1.kept hg (fun r e => (hr r e).2), h2.grown hg h2.size (fun k e => by have := (hr k e).1; omega), h3, h4⟩)
    (fun _ _ _ _ _ hs _ _ => hs)
    ⟨_, hby, hbl, fun _ => ⟨by omega, by omega⟩, fun _ q hq1 hq2 => by
      have e : q = xs.length := by rw [HL.out]; simp at hq1; omega
      rw [e, bst_end]⟩
    (fun x1 => { tmps := #[.slice a len cap, .int .i64 s, .int .i64 h, .pointer (some ⟨w.heap.size, 0, none⟩), .pointer (some ⟨w.heap.size + 1, 0, none⟩), .pointer (some ⟨w.heap.size + 2, 0, none⟩), .pointer (some ⟨w.heap.size + 3, 0, none⟩), .pointer (some ⟨w.heap.size + 4, 0, none⟩),
      .int .i64 (x1.1.1 : Int), undef, .slice a len cap, .func (.func 177) #[] #[.pointer (some ⟨w.heap.size + 5, 0, none⟩)], .int .i64 (x1.1.1 : Int), .int .i64 x1.1.2,
      undef, undef, undef, undef, undef, undef, undef, undef, undef, undef, undef, undef, undef, undef, undef, undef, undef, undef, undef, undef, undef, undef, undef, undef, undef, undef, undef, undef, undef, undef, undef, undef, undef, undef], defers := [] })
    ?assign ?body ?done ?stop
  case assign =>
    intro l x W K hK
    dsimp only [backIArgs]
    gi_wp2
    exact hK
  case body =>
    rintro l pre ⟨⟨i, x⟩, hxi⟩ W ⟨f, hby1, hbl1, hfb, hord⟩ hplt
    have hil : i < len := by have := (List.getElem?_eq_some_iff.1 hxi).1; have := HL.out; omega
    obtain ⟨b, off, hab, hbS, _⟩ := hx.cells (by omega)
    subst hab
    have hix9 : i < 9 := by omega
    have hix9' : (i : Int) < 9 := by omega
    have hilI : (i : Int) < (len : Int) := by omega
    have c1 := hby1.list
    have c2 := hby1.set
    have c3 := hby1.hold
    have c4 := hby1.least i hix9
    have hmx : Tryz.prog.follows .mixedOrders = true := by kernel_rfl
    have hne : ¬ cap = i := by omega
    have hile : i ≤ len := by omega
    have hxW := hx.below hbl1
    have HBY := Lib.hid hby1
    have HFB := Lib.hid hfb
    have HORD := Lib.hid hord
    clear hfb hord hby1
    dsimp only
    gi_wp2
    refine region_round_tail l _ 8 (by kernel_rfl) (fun _ _ h => h) hmx (by kernel_rfl) ?_
    simp only [List.take_succ_cons, List.take_zero, List.drop_succ_cons, List.drop_zero]
    repeat still_step
    still_call (costPart_any _ b off len _ xs s h i len _ _ (hxW.to (w' := W.drew) (fun b hb => ⟨hb, rfl⟩)) hl8 HV.out hs hh hil (Nat.le_refl _) rfl)
    repeat still_step
    (try refine wpStill_nil ?_)
    obtain ⟨r0, hr0⟩ : ∃ r0, runD xs s h i (len - i) = r0 := ⟨_, rfl⟩
    rw [hr0]
    have HR0 := Lib.hid hr0
    clear hr0
    go_wp2
    gi_wp2
    have HX1 := Lib.hid hxi
    have HRB := Lib.hid (show 0 ≤ r0 ∧ r0 ≤ 40000 by rw [← HR0.out]; exact runD_bd HV.out (by omega) (by omega) i _ (by omega))
    have HB1 := Lib.hid (show ByDay w.heap.size (W.setCell ⟨w.heap.size + 4, i, none⟩ (.int .i64 r0)).drew (some ⟨b, off, none⟩) len cap s h (fun q => if q = i then r0 else f q) from
      (HBY.out.put hix9 r0).kept (row := none) ⟨rfl, rfl, rfl, Nat.le_refl _, fun _ _ _ => rfl⟩ (fun r e => by cases e))
    have HK1 := Lib.hid (show KeepsOthers W (W.setCell ⟨w.heap.size + 4, i, none⟩ (.int .i64 r0)).drew from (KeepsOthers.setCell _ _ _).trans (KeepsOthers.drew _))
    have HW1 := Lib.hid (show KeepI w.heap.size (w.heap.size + 5) W (W.setCell ⟨w.heap.size + 4, i, none⟩ (.int .i64 r0)).drew from
      ⟨((Below.refl w.heap.size W).setCell (p := ⟨w.heap.size + 4, i, none⟩) (by simp) _).drew, Below.heap_setCell _ _ _ _ (by simp)⟩)
    obtain ⟨W1, hW1⟩ : ∃ W1, (W.setCell ⟨w.heap.size + 4, i, none⟩ (.int .i64 r0)).drew = W1 := ⟨_, rfl⟩
    rw [hW1] at HB1 HK1 HW1 ⊢
    clear hW1 c1 c2 c3 c4 hne hile hxW
    gi_loopw [9] (fun v wr => ∃ (k : Nat) (f' : Nat → Int), i + 1 ≤ k ∧ k ≤ len ∧ v = .int .i64 (k : Int) ∧ ByDay w.heap.size wr (some ⟨b, off, none⟩) len cap s h f' ∧ KeepsOthers W wr ∧ KeepI w.heap.size (w.heap.size + 5) W wr ∧ (∀ q, q ≠ i → f' q = f q) ∧ f' i = lmM xs s h f i (k - (i + 1)))
      (fun v _ => len - (intOf v).toNat)
    case atStart => exact ⟨i + 1, _, Nat.le_refl _, by omega, by go_num, HB1.out, HK1.out, HW1.out, fun q hq => if_neg hq, by rw [if_pos rfl, Nat.sub_self, lmM, ← HR0.out, HL.out]⟩
    case round =>
      clear HB1 HK1 HW1
      obtain ⟨k, f', hk1, hk2, rfl, hB, hK, hKI, hfo, hfi⟩ := hrel
      have HB := Lib.hid hB
      have HK := Lib.hid hK
      have HKI := Lib.hid hKI
      have HFO := Lib.hid hfo
      have HFI := Lib.hid hfi
      have c1 := hB.list
      by_cases hkl : k < len
      · have c2 := hB.set
        have c3 := hB.hold
        have c4 := hB.least i hix9
        have c5 := hB.least k (by omega)
        rw [hfi] at c4
        rw [hfo k (by omega)] at c5
        have hk9 : k < 9 := by omega
        have hk9' : (k : Int) < 9 := by omega
        have hkl' : (k : Int) < (len : Int) := by omega
        have hne : ¬ cap = i := by omega
        have hik : i ≤ k := by omega
        have hkc : k ≤ cap := by omega
        have hik' : (i : Int) ≤ (k : Int) := by omega
        have hlb := lmM_bd (s := s) (h := h) (by rw [HL.out]; exact hl8) HV.out hs hh HFB.out i (k - (i + 1)) (by omega)
        have hfk := HFB.out k
        have hrb := runD_bd HV.out (s := s) (h := h) (by omega) (by omega) i (k - i) (by omega)
        have HLN := Lib.hid (show lmM xs s h f i (k + 1 - (i + 1)) = min (lmM xs s h f i (k - (i + 1))) (runD xs s h i (k - i) + f k) by
          rw [show k + 1 - (i + 1) = (k - (i + 1)) + 1 by omega, lmM, show k - (i + 1) + 1 = k - i by omega, show i + 1 + (k - (i + 1)) = k by omega])
        have HCOST := Lib.hid (fun c W' (e : W'.heap = wr.heap) => costPart_any _ b off len c xs s h i k (k - i) W' (((hx.below hbl1).below HKI.out.1).to (w' := W') (fun b hb => ⟨hb, by rw [e]⟩)) hl8 HV.out hs hh (by omega) (by omega) rfl)
        clear hB hK hKI hfo hfi
        generalize lmM xs s h f i (k - (i + 1)) = lm at *
        generalize f k = fk at c5 hfk HLN
        generalize runD xs s h i (k - i) = r at hrb HLN HCOST
        have hw1 : IntKind.i64.wrap (r + fk) = r + fk := IntWalk.i64_in _ (by omega)
        gi_wp2
        refine region_round_tail l _ 17 (by kernel_rfl) (fun _ _ h => h) hmx (by kernel_rfl) ?_
        simp only [List.take_succ_cons, List.take_zero, List.drop_succ_cons, List.drop_zero]
        repeat still_step
        still_call (HCOST.out _ _ rfl)
        repeat still_step
        (try refine wpStill_nil ?_)
        obtain ⟨mn, hmn⟩ : ∃ mn, (if r + fk < lm then r + fk else lm) = mn := ⟨_, rfl⟩
        rw [hmn]
        have HMN := Lib.hid (show min lm (r + fk) = mn by rw [← hmn]; split <;> omega)
        clear hmn
        go_wp2
        gi_wp2
        go_roundw
        case rel =>
          exact ⟨k + 1, _, by omega, by omega, by go_num, (HB.out.put hix9 mn).kept (row := none) ⟨rfl, rfl, rfl, Nat.le_refl _, fun _ _ _ => rfl⟩ (fun r e => by cases e),
            HK.out.trans ((KeepsOthers.setCell _ _ _).trans (KeepsOthers.drew _)),
            HKI.out.trans ⟨((Below.refl w.heap.size wr).setCell (p := ⟨w.heap.size + 4, i, none⟩) (by simp) _).drew, Below.heap_setCell _ _ _ _ (by simp)⟩,
            fun q hq => by simp only [hq, if_false]; exact HFO.out q hq, by simp only [if_true]; rw [HLN.out, HMN.out]⟩
        case measure => simp [intOf] <;> omega
      · obtain rfl : k = len := by omega
        clear hB hK hKI hfo hfi
        gi_wp2
        refine ⟨HK.out, HKI.out, f', HB.out, hbl1.trans HKI.out.1, fun q => ?_, fun e q hq1 hq2 => ?_⟩
        · by_cases e : q = i
          · rw [e, HFI.out]; exact lmM_bd (by rw [HL.out]; exact hl8) HV.out hs hh HFB.out i _ (by omega)
          · rw [HFO.out q e]; exact HFB.out q
        · rw [List.length_append, List.length_singleton, downI_succ, List.map_append] at e
          obtain ⟨e1, e2⟩ := List.append_inj e (by simp [downI])
          simp only [List.map_cons, List.map_nil, List.cons.injEq, and_true] at e2
          rw [List.length_append, List.length_singleton] at hq1
          by_cases e3 : q = i
          · have := lmM_bst (s := s) (h := h) (f := f) (i := i) (by rw [HL.out]; exact hil) (fun q hq hq2 => HORD.out e1 q (by omega) (by rw [← HL.out]; exact hq2))
            rw [HL.out] at this
            rw [e3, HFI.out, this]
          · rw [HFO.out q e3]; exact HORD.out e1 q (by omega) hq2
  case done =>
    rintro D ys W hD hys ⟨f, hby1, hbl1, hfb, hord⟩ hK
    have hyl : ys.length = len := by
      have := congrArg List.length hys
      simpa [downI] using this
    have HF := Lib.hid (fun q (hq : q ≤ len) => hord (by rw [hyl]; exact hys) q (by omega) hq)
    have HBL := Lib.hid hbl1
    have HBY := Lib.hid hby1
    have HK := Lib.hid hK
    have k0 := hby1.least 0 (by omega)
    have k1 := hby1.least 1 (by omega)
    have k2 := hby1.least 2 (by omega)
    have k3 := hby1.least 3 (by omega)
    have k4 := hby1.least 4 (by omega)
    have k5 := hby1.least 5 (by omega)
    have k6 := hby1.least 6 (by omega)
    have k7 := hby1.least 7 (by omega)
    have k8 := hby1.least 8 (by omega)
    have r0 := hby1.res 0 (by omega)
    have r1 := hby1.res 1 (by omega)
    have r2 := hby1.res 2 (by omega)
    have r3 := hby1.res 3 (by omega)
    have r4 := hby1.res 4 (by omega)
    have r5 := hby1.res 5 (by omega)
    have r6 := hby1.res 6 (by omega)
    have r7 := hby1.res 7 (by omega)
    have r8 := hby1.res 8 (by omega)
    clear hord hys hfb hbl1 hby1 hK
    gi_wp2
    have HS := Lib.hid (stored9 (f := f) HBY.out.res)
    have HBZ := Lib.hid (below9 (f := f) HBL.out (show w.heap.size ≤ w.heap.size + 3 by omega))
    refine leaves_marksC (v := agg9 f) [D] _ ⟨⟨(heap9 (by omega)).trans HK.out, by omega, fun x hx => by cases hx⟩, trivial⟩ (fun w' hw' => ?_) (fun w' hw' => ⟨⟨f, rfl, HF.out⟩, HBZ.out.trans hw'.below⟩)
    have e0 := (hw'.cell _).trans (HS.out 0 (by omega)).1
    have e1 := (hw'.cell _).trans (HS.out 1 (by omega)).1
    have e2 := (hw'.cell _).trans (HS.out 2 (by omega)).1
    have e3 := (hw'.cell _).trans (HS.out 3 (by omega)).1
    have e4 := (hw'.cell _).trans (HS.out 4 (by omega)).1
    have e5 := (hw'.cell _).trans (HS.out 5 (by omega)).1
    have e6 := (hw'.cell _).trans (HS.out 6 (by omega)).1
    have e7 := (hw'.cell _).trans (HS.out 7 (by omega)).1
    have e8 := (hw'.cell _).trans (HS.out 8 (by omega)).1
    unfold agg9
    simp only [results, Tryz.results120, go_sem]
    simp [e0, e1, e2, e3, e4, e5, e6, e7, e8, go_sem]
  case stop =>
    rintro D c pre W _ _ h _
    exact h.elim
theorem leastLots_impl (a : Option Addr) (len cap : Nat) (xs : List Int) (s h : Int) (w : World) (hx : IntsAt w (· < w.heap.size) a len xs) (hcap : len ≤ cap) :
    Calls Tryz.prog 93 #[.slice a len cap, .int .i64 s, .int .i64 h] w (IntVal w (leastRes xs s h)) := by
  have HL := Lib.hid hx.lenEq
  cases hvd : validDaysM xs
  · have hv : validLotsM xs s h = false := by unfold validLotsM; rw [hvd]; rfl
    rw [leastRes_no hv]
    have HVD := Lib.hid hvd
    clear hv hvd
    go_enter Tryz.func93, Tryz.ntmps93
    go_wp2_with fail
    refine (validDays_impl _ _ _ _ xs _ hx).mono ?_
    rintro e w' ⟨rfl, rfl⟩
    rw [HVD.out]
    go_wp2_with fail
    go_ret
    exact ⟨rfl, Below.refl _ _⟩
  · have HVD := Lib.hid hvd
    cases hc : (inB 0 30 s && inB 0 30 h)
    · have hv : validLotsM xs s h = false := by unfold validLotsM; rw [Bool.and_assoc, hc]; simp
      rw [leastRes_no hv]
      have HC := Lib.hid hc
      clear hv hvd hc
      go_enter Tryz.func93, Tryz.ntmps93
      go_wp2_with fail
      refine (validDays_impl _ _ _ _ xs _ hx).mono ?_
      rintro e w' ⟨rfl, rfl⟩
      rw [HVD.out]
      go_wp2_with fail
      refine (areCosts_any _ _ _).mono ?_
      rintro e w' ⟨rfl, rfl⟩
      rw [HC.out]
      go_wp2_with fail
      go_ret
      exact ⟨rfl, Below.refl _ _⟩
    · have hv : validLotsM xs s h = true := by unfold validLotsM; rw [Bool.and_assoc, hc, hvd]; rfl
      have HC := Lib.hid hc
      have hl8 : len ≤ 8 := by have := validDays_len hvd; have := HL.out; omega
      have HAT := Lib.hid (validDays_at hvd)
      obtain ⟨_, hs, hh⟩ := validLots_get hv
      rw [leastRes_yes hv]
      clear hv hvd hc
      go_enter Tryz.func93, Tryz.ntmps93
      go_wp2_with fail
      refine (validDays_impl _ _ _ _ xs _ hx).mono ?_
      rintro e w' ⟨rfl, rfl⟩
      rw [HVD.out]
      go_wp2_with fail
      refine (areCosts_any _ _ _).mono ?_
      rintro e w' ⟨rfl, rfl⟩
      rw [HC.out]
      go_wp2_with fail
      refine (leastByDay_any a len cap xs s h _ hx hcap hl8 HAT.out hs hh).mono ?_
      rintro e w1 ⟨⟨f, rfl, hf⟩, hb1⟩
      have HF0 := Lib.hid (hf 0 (Nat.zero_le _))
      clear hf
      unfold agg9
      have i0 : ∀ w : World, (Instr.index 147 (.agg #[.int .i64 (f 0), .int .i64 (f 1), .int .i64 (f 2), .int .i64 (f 3), .int .i64 (f 4), .int .i64 (f 5), .int .i64 (f 6), .int .i64 (f 7), .int .i64 (f 8)]) (.int .i64 0)).run Tryz.prog w = .ok (.int .i64 (f 0)) w := fun _ => by kernel_rfl
      go_wp2_with fail
      go_ret
      exact ⟨ret_int HF0.out, hb1⟩
end Go.Proofs.YtjcbpnffmebihaaGreatDoor
