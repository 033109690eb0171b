import Derived.Test.YtkebdelfklmigaeM0
import Derived.Test.YtkebdelfklmigaeM1
import Derived.Test.YtkebdelfklmigaeRows
import Derived.WalkKit
import Derived.ProofKit
import Derived.LoopTactic
import Derived.Outline
import Derived.WalkSpells
import Derived.WalkLawsBesides
import Derived.Deep.QuietTactic
import Derived.BigQuiet
import Derived.IntWalk
import Derived.Lib.Hide
namespace Go.Proofs.Ytkebdelfklmigae
open Go.RowKit Go.WideShapes

/-- the first n values of f -/
def tab (f : Nat → Int) (n : Nat) : List Int := (List.range n).map f
theorem tab_succ (f : Nat → Int) (n : Nat) : tab f (n + 1) = tab f n ++ [f n] := by simp [tab, List.range_succ]
theorem tab_length (f : Nat → Int) (n : Nat) : (tab f n).length = n := by simp [tab]
theorem tab_get {f : Nat → Int} {n i : Nat} {x : Int} (h : (tab f n)[i]? = some x) : x = f i ∧ i < n := by
  simp only [tab, List.getElem?_map, Option.map_eq_some_iff] at h
  obtain ⟨j, hj, rfl⟩ := h
  obtain ⟨h1, h2⟩ := List.getElem?_eq_some_iff.1 hj
  simp at h1 h2
  subst h2
  exact ⟨rfl, h1⟩
theorem tab_at (f : Nat → Int) {n i : Nat} (h : i < n) : (tab f n)[i]? = some (f i) := by
  simp [tab, h]
theorem tab_getD (f : Nat → Int) {n i : Nat} (h : i < n) : (tab f n).getD i 0 = f i := by
  rw [List.getD_eq_getElem?_getD, tab_at f h]; rfl
theorem tab_congr {f g : Nat → Int} {n : Nat} (h : ∀ q, q < n → f q = g q) : tab f n = tab g n := by
  apply List.map_congr_left
  intro q hq
  exact h q (by simpa using hq)
theorem getD_of {xs : List Int} {k : Nat} {x : Int} (h : xs[k]? = some x) : xs.getD k 0 = x := by rw [List.getD_eq_getElem?_getD, h]; rfl
theorem getD_past {xs : List Int} {k : Nat} (h : xs.length ≤ k) : xs.getD k 0 = 0 := by rw [List.getD_eq_getElem?_getD, List.getElem?_eq_none h]; rfl
theorem get_getD {xs : List Int} {k : Nat} (h : k < xs.length) : xs[k]? = some (xs.getD k 0) := by rw [List.getD_eq_getElem?_getD, List.getElem?_eq_getElem h]; rfl
theorem tab_self (xs : List Int) : tab (fun q => xs.getD q 0) xs.length = xs := by
  apply List.ext_getElem?
  intro i
  rcases Nat.lt_or_ge i xs.length with h | h
  · rw [tab_at _ h, get_getD h]
  · rw [List.getElem?_eq_none h, List.getElem?_eq_none (by rw [tab_length]; exact h)]

/-- the cells of an array are ints, told by their place -/
structure ArrIs (C : Array Value) (len : Nat) (f : Nat → Int) : Prop where
  size : C.size = len
  get : ∀ q, q < len → C[q]? = some (.int .i64 (f q))
theorem ArrIs.made (len : Nat) : ArrIs (madeCells #[.int .i64 0] len) len (fun _ => 0) :=
  ⟨size_madeCells _ _, fun q hq => by simp [madeCells, hq, Nat.mod_one]⟩
theorem ArrIs.congr {C : Array Value} {len : Nat} {f g : Nat → Int} (h : ArrIs C len f) (e : ∀ q, q < len → f q = g q) : ArrIs C len g :=
  ⟨h.size, fun q hq => by rw [h.get q hq, e q hq]⟩
theorem ArrIs.set {C : Array Value} {len : Nat} {f : Nat → Int} (h : ArrIs C len f) (k : Nat) (v : Int) : ArrIs (C.setIfInBounds k (.int .i64 v)) len (fun q => if q = k then v else f q) := by
  refine ⟨by simpa using h.size, fun q hq => ?_⟩
  rw [Array.getElem?_setIfInBounds]
  by_cases e : k = q
  · subst e
    rw [if_pos rfl, if_pos (by rw [h.size]; exact hq)]
    simp
  · rw [if_neg e, h.get q hq, if_neg (fun e' => e e'.symm)]
theorem ArrIs.cells {C : Array Value} {xs : List Int} {len : Nat} {f : Nat → Int} (h : ArrIs C len f) (hl : xs.length = len) (e : ∀ q x, xs[q]? = some x → f q = x) : C = cellsOf xs := by
  refine cellsOf_eq (by rw [h.size, hl]) (fun i x hx => ?_)
  have hi : i < len := by
    rcases Nat.lt_or_ge i xs.length with h' | h'
    · omega
    · simp [List.getElem?_eq_none h'] at hx
  rw [h.get i hi, e i x hx]
theorem ArrIs.tab {C : Array Value} {len : Nat} {f : Nat → Int} (h : ArrIs C len f) : C = cellsOf (tab f len) :=
  h.cells (tab_length f len) (fun _ _ hx => (tab_get hx).1.symm)
theorem ArrIs.at {C : Array Value} {len : Nat} {f : Nat → Int} (h : ArrIs C len f) (w : World) (t : TypeId) {q : Nat} (hq : q < len) :
    (w.alloc (.cells C t)).cell? ⟨w.heap.size, q, none⟩ = some (.int .i64 (f q)) := by
  rw [World.cell?_alloc_new]; exact h.get q hq

/-- what is returned is the one new block -/
theorem resPost_alloc {w : World} {xs : List Int} {len : Nat} {t : TypeId} (hl : xs.length = len) (hs : len ≤ 1048576) :
    ResPost w xs (.returned (.slice (some ⟨w.heap.size, 0, none⟩) len len)) (w.alloc (.cells (cellsOf xs) t)) :=
  resPost_block hl hs (fun q x hx => ⟨by
    rw [World.cell?_alloc_new]
    simp only [cellsOf, List.getElem?_toArray, List.getElem?_map, hx]; rfl, World.frozen?_alloc_new w _ _ _⟩) ((Below.refl _ _).alloc (Nat.le_refl _) _)
end Go.Proofs.Ytkebdelfklmigae
namespace Go.Proofs.Ytkebdelfklmigae
open Go.RowKit Go.WideShapes

theorem Try.infoIntO : (Try.prog.info? 3).map (fun i => (i.zero, i.size, i.bytes)) = some (some (.int .i64 0), 1, 8) := by kernel_rfl
/-- a new slice of these ints -/
def NewInts (w : World) (xs : List Int) (e : Ending) (w' : World) : Prop := ∃ (a : Option Addr) (len cap : Nat), e = .returned (.slice a len cap) ∧ IntsAt w' (fun b => w.heap.size ≤ b ∧ b < w'.heap.size) a len xs ∧ len ≤ cap ∧ Below w.heap.size w w'
theorem newInts_nil (w : World) : NewInts w [] (.returned (.slice none 0 0)) w :=
  ⟨none, 0, 0, rfl, ⟨rfl, Nat.zero_le _, fun h => absurd h (by omega)⟩, Nat.le_refl _, Below.refl _ _⟩
theorem newInts_own {w wr : World} {k cp : Nat} {ax : Option Addr} {xs : List Int} (h : wr.ownsRow w.heap.size 3 1 (.slice ax k cp) k (xs.map (.int .i64))) (hb : Below w.heap.size w wr) (hk : k ≤ 9223372036854775807) :
    NewInts w xs (.returned (.slice ax k cp)) wr := by
  obtain ⟨ay, cy, hve, hcc, hints⟩ := own_ints h hk
  simp only [Value.slice.injEq] at hve
  obtain ⟨rfl, _, rfl⟩ := hve
  exact ⟨_, _, _, rfl, hints, hcc, hb⟩
/-- a new slice of these ints, that is the call's own -/
def NewOwn (w : World) (xs : List Int) (e : Ending) (w' : World) : Prop := ∃ (a : Option Addr) (len cap : Nat), e = .returned (.slice a len cap) ∧ len ≤ 9223372036854775807 ∧
  w'.ownsRow w.heap.size 3 1 (.slice a len cap) len (xs.map (.int .i64)) ∧ Below w.heap.size w w'
theorem NewOwn.ints {w w' : World} {xs : List Int} {e : Ending} (h : NewOwn w xs e w') : NewInts w xs e w' := by
  obtain ⟨a, len, cap, rfl, hs, h1, h2⟩ := h
  exact newInts_own h1 h2 hs
theorem newOwn_alloc {w : World} {xs : List Int} {len : Nat} (hl : xs.length = len) (hs : len ≤ 1048576) :
    NewOwn w xs (.returned (.slice (some ⟨w.heap.size, 0, none⟩) len len)) (w.alloc (.cells (cellsOf xs) 3)) :=
  ⟨_, _, _, rfl, by omega, ⟨by simp [hl], .inr ⟨w.heap.size, len, cellsOf xs, rfl, Nat.le_refl _, heap_alloc_new w _, Nat.le_refl _, by unfold maxLen; omega, by simp [cellsOf, hl], by simp [cellsOf]; exact List.take_of_length_le (by simp [hl])⟩⟩, (Below.refl _ _).alloc (Nat.le_refl _) _⟩
theorem own_drewN {w : World} {B e s n : Nat} {v : Value} {xs : List Value} (h : w.ownsRow B e s v n xs) (q : Nat) : (w.drewN q).ownsRow B e s v n xs :=
  h.kept (grownBy_drewN w q none) (by cases v.ownBlock <;> simp)
/-- the call's own block of ints, told by their place -/
structure OwnF (w wr : World) (len : Nat) (f : Nat → Int) : Prop where
  own : wr.ownsRow w.heap.size 3 1 (.slice (some ⟨w.heap.size, 0, none⟩) len len) len ((tab f len).map (.int .i64))
  below : Below w.heap.size w wr
theorem OwnF.start (w : World) (len : Nat) (hs : len ≤ 1048576) : OwnF w (w.alloc (.cells (madeCells #[.int .i64 0] len) 3)) len (fun _ => 0) := by
  have e : madeCells #[.int .i64 0] len = cellsOf (tab (fun _ => 0) len) := (ArrIs.made len).tab
  rw [e]
  obtain ⟨a, l, c, e1, _, h1, h2⟩ := newOwn_alloc (w := w) (tab_length (fun _ => 0) len) hs
  simp only [Ending.returned.injEq, Value.slice.injEq] at e1
  obtain ⟨rfl, rfl, rfl⟩ := e1
  exact ⟨h1, h2⟩
theorem OwnF.congr {w wr : World} {len : Nat} {f g : Nat → Int} (h : OwnF w wr len f) (e : ∀ q, q < len → f q = g q) : OwnF w wr len g := ⟨by rw [← tab_congr e]; exact h.own, h.below⟩
theorem OwnF.cell {w wr : World} {len q : Nat} {f : Nat → Int} (h : OwnF w wr len f) (hq : q < len) : wr.cell? ⟨w.heap.size, q, none⟩ = some (.int .i64 (f q)) ∧ wr.frozen? ⟨w.heap.size, q, none⟩ = false := by
  refine ⟨?_, h.own.frozenAt q⟩
  rw [h.own.cellAt q (by simpa [tab_length] using hq), List.getElem?_map, tab_at f hq]; rfl
theorem OwnF.heap {w wr : World} {len : Nat} {f : Nat → Int} (h : OwnF w wr len f) : wr.heap[w.heap.size]? = some (.cells ((tab f len).map (.int .i64)).toArray 3 (0, 0)) := by
  rcases h.own.2 with ⟨e, _⟩ | ⟨k, cap, cur, e, _, hh, _, _, hz, ht⟩
  · cases e
  · simp only [Value.slice.injEq, Option.some.injEq, Addr.mk.injEq] at e
    obtain ⟨⟨rfl, _⟩, _, rfl⟩ := e
    rw [hh, ← ht]
    have : cur.toList.take (len * 1) = cur.toList := List.take_of_length_le (by simp at hz ⊢; omega)
    simp [List.take_of_length_le (show cur.toList.length ≤ len by simpa using Nat.le_of_eq hz)]
theorem OwnF.drew {w wr : World} {len : Nat} {f : Nat → Int} (h : OwnF w wr len f) (n : Nat) : OwnF w (wr.drewN n) len f :=
  ⟨h.own.kept (grownBy_drewN wr n none) (by simp [Value.ownBlock]), h.below.trans (Drew.below (w := wr) (wr := wr.drewN n) ⟨n, rfl⟩ _)⟩
theorem OwnF.drew1 {w wr : World} {len : Nat} {f : Nat → Int} (h : OwnF w wr len f) : OwnF w wr.drew len f := h.drew 1
theorem tab_set (f : Nat → Int) (len k : Nat) (v : Int) : (tab f len).set k v = tab (fun q => if q = k then v else f q) len := by
  apply List.ext_getElem?
  intro i
  rw [List.getElem?_set]
  by_cases hi : i < len
  · by_cases e : k = i
    · subst e; rw [if_pos rfl, if_pos (by rw [tab_length]; exact hi), tab_at _ hi, if_pos rfl]
    · rw [if_neg e, tab_at _ hi, tab_at _ hi, if_neg (fun e' => e e'.symm)]
  · have h1 : (tab f len)[i]? = none := List.getElem?_eq_none (by rw [tab_length]; omega)
    have h2 : (tab (fun q => if q = k then v else f q) len)[i]? = none := List.getElem?_eq_none (by rw [tab_length]; omega)
    rw [h2]
    by_cases e : k = i
    · subst e; rw [if_pos rfl, if_neg (by rw [tab_length]; exact hi)]
    · rw [if_neg e, h1]
theorem OwnF.put {w wr : World} {len : Nat} {f : Nat → Int} (h : OwnF w wr len f) (k : Nat) (v : Int) : OwnF w (wr.setCell ⟨w.heap.size, k, none⟩ (.int .i64 v)) len (fun q => if q = k then v else f q) := by
  obtain ⟨h1, h2⟩ := h.own.stored k (.int .i64 v)
  refine ⟨?_, h.below.setCell (Nat.le_refl _) _⟩
  rw [← tab_set, List.map_set]; exact h1
theorem OwnF.done {w wr : World} {len : Nat} {f : Nat → Int} (h : OwnF w wr len f) (hs : len ≤ 1048576) : NewOwn w (tab f len) (.returned (.slice (some ⟨w.heap.size, 0, none⟩) len len)) wr :=
  ⟨_, _, _, rfl, by omega, h.own, h.below⟩
/-- a place of a row of ints that is the call's own -/
theorem own_place {w : World} {B n cap : Nat} {a : Option Addr} {xs : List Int} (h : w.ownsRow B 3 1 (.slice a n cap) n (xs.map (.int .i64))) {j : Nat} (hj : j < n) :
    ∃ g v, a = some ⟨g, 0, none⟩ ∧ B ≤ g ∧ w.cell? ⟨g, j, none⟩ = some v ∧ w.frozen? ⟨g, j, none⟩ = false := by
  have hl := h.1
  have h' := h
  rcases h'.2 with ⟨h1, h2⟩ | ⟨g, c, cur, h1, h2, _⟩
  · omega
  · simp only [Value.slice.injEq] at h1
    obtain ⟨rfl, _, rfl⟩ := h1
    refine ⟨g, (xs.map (Value.int .i64))[j]'(by omega), rfl, h2, ?_, h.frozenAt j⟩
    rw [h.cellAt j (by omega)]
    exact List.getElem?_eq_getElem _
theorem newInts_alloc {w : World} {xs : List Int} {len : Nat} (hl : xs.length = len) (hs : len ≤ 1048576) :
    NewInts w xs (.returned (.slice (some ⟨w.heap.size, 0, none⟩) len len)) (w.alloc (.cells (cellsOf xs) 3)) := by
  obtain ⟨a, l, c, e, h1, _, h3⟩ := resPost_alloc (w := w) (t := 3) hl hs
  simp only [Ending.returned.injEq, Value.slice.injEq] at e
  obtain ⟨rfl, rfl, rfl⟩ := e
  exact ⟨_, _, _, rfl, h1, Nat.le_refl _, h3⟩
end Go.Proofs.Ytkebdelfklmigae
namespace Go.Proofs.Ytkebdelfklmigae
open Go.RowKit

set_option maxRecDepth 100000 in
set_option maxHeartbeats 1000000 in
theorem pick_any (R p : Nat) (n : Int) (w : World) (h : Rd w R p) (hp : p ≤ 1099511627776) :
    Calls Try.prog 45 #[.pointer (some ⟨R, 0, none⟩), .int .i64 n] w fun e w' => ∃ k : Nat, e = .returned (.int .i64 k) ∧ (k : Int) < max n 1 ∧ Rd w' R (p + 1) ∧ w.grownBy w' (some R) := by
  have HR := Lib.hid h
  obtain ⟨h1, hf, a, m, cap, h0, hm, hb⟩ := h
  by_cases hn : n < 1
  · go_enter Try.func45, Try.ntmps45
    go_wp2
    go_ret
    exact ⟨0, rfl, by omega, HR.out.stored0⟩
  · by_cases hm0 : m = 0
    · subst hm0
      go_enter Try.func45, Try.ntmps45
      go_wp2
      go_ret
      exact ⟨0, rfl, by omega, HR.out.stored0⟩
    · obtain ⟨b, off, rfl, hbR, hby⟩ := hb (by omega)
      by_cases hlt : p < m
      · obtain ⟨x, hx, hc⟩ := hby p hlt
        have hc' : (w.setCell ⟨R, 1, none⟩ (.int .i64 ((p : Int) + 1))).cell? ⟨b, off + p, none⟩ = some (.int .u8 x) := by
          rw [World.cell?_setCell_other _ _ _ _ (by intro e; injection e; omega)]; exact hc
        clear hby hb
        go_enter Try.func45, Try.ntmps45
        go_wp2
        go_ret
        have e1 : 0 ≤ (x : Int) % n := Int.emod_nonneg _ (by omega)
        have e2 : (x : Int) % n < n := Int.emod_lt_of_pos _ (by omega)
        exact ⟨((x : Int) % n).toNat, ret_int (by omega), by omega, HR.out.stored0⟩
      · have hm1 : 1 ≤ m := by omega
        obtain ⟨x1, hx1, hc1⟩ := hby (p % m) (Nat.mod_lt _ (by omega))
        obtain ⟨x2, hx2, hc2⟩ := hby ((p * 7 + 3) % m) (Nat.mod_lt _ (by omega))
        have hd1 : (w.setCell ⟨R, 1, none⟩ (.int .i64 ((p : Int) + 1))).cell? ⟨b, off + p % m, none⟩ = some (.int .u8 x1) := by
          rw [World.cell?_setCell_other _ _ _ _ (by intro e; injection e; omega)]; exact hc1
        have hd2 : (w.setCell ⟨R, 1, none⟩ (.int .i64 ((p : Int) + 1))).cell? ⟨b, off + (p * 7 + 3) % m, none⟩ = some (.int .u8 x2) := by
          rw [World.cell?_setCell_other _ _ _ _ (by intro e; injection e; omega)]; exact hc2
        clear hc1 hc2 hby hb
        have b1 : p % m < m := Nat.mod_lt _ (by omega)
        have b2 : (p * 7 + 3) % m < m := Nat.mod_lt _ (by omega)
        have g1 : 0 ≤ ((p : Int) * 7 + 3) % (m : Int) := Int.emod_nonneg _ (by omega)
        have g2 : ((p : Int) * 7 + 3) % (m : Int) < (m : Int) := Int.emod_lt_of_pos _ (by omega)
        have g3 : 0 ≤ (p : Int) / (m : Int) := Int.ediv_nonneg (by omega) (by omega)
        have g4 : (p : Int) / (m : Int) ≤ p := Int.ediv_le_self _ (by omega)
        go_enter Try.func45, Try.ntmps45
        go_wp2
        go_quiet (fail)
        go_wp2
        go_ret
        obtain ⟨k, hk, hk'⟩ := mixed ((x1 : Int) * 131 + x2 * 1117 + p * 29 + (p : Int) / (m : Int) * 53) n (by omega) (by omega) hn
        exact ⟨k, ret_int hk, by omega, HR.out.stored _⟩

theorem one_any (S : Nat → Prop) (R p : Nat) (a : Option Addr) (len cap : Nat) (xs : List Int) (w : World) (h : Rd w R p) (hx : IntsAt w S a len xs) (hne : ∀ b, S b → b ≠ R ∧ b < w.heap.size) (hl : 1 ≤ len) (hp : p ≤ 1099511627776) :
    Calls Try.prog 44 #[.pointer (some ⟨R, 0, none⟩), .slice a len cap] w fun e w' => ∃ x, x ∈ xs ∧ e = .returned (.int .i64 x) ∧ Rd w' R (p + 1) ∧ w.grownBy w' (some R) := by
  have hs := hx.small
  go_enter Try.func44, Try.ntmps44
  go_wp2_with fail
  refine (pick_any R p (len : Int) w h hp).mono ?_
  rintro e w' ⟨k, rfl, hk, hr, hg⟩
  obtain ⟨b, off, x, rfl, hx1, hx2⟩ := (hx.to (S' := S) (w' := w') fun b hb => ⟨hb, hg.block b (hne b hb).2 (by have := (hne b hb).1; simpa using this)⟩).get (k := k) (by omega)
  have HX := Lib.hid hx1
  clear hx1
  have hk' : k < len := by omega
  go_wp2
  go_ret
  exact ⟨x, List.mem_of_getElem? HX.out, rfl, hr, hg⟩
end Go.Proofs.Ytkebdelfklmigae
namespace Go.Proofs.Ytkebdelfklmigae
open Go.RowKit Go.WideShapes

theorem Try.infoInt : (Try.prog.info? 3).map (fun i => (i.zero, i.size, i.bytes)) = some (some (.int .i64 0), 1, 8) := by kernel_rfl
theorem Try.infoInts : (Try.prog.info? 23).map (fun i => (i.zero, i.size, i.bytes)) = some (some (.slice none 0 0), 1, 24) := by kernel_rfl

theorem bill_n {n : Int} (h : n ∈ [4, 5, 3, 6, 2, 1, 0]) : ∃ m : Nat, n = (m : Int) ∧ m ≤ 6 := by
  simp at h
  exact ⟨n.toNat, by omega, by omega⟩

def BillPost (w : World) (R p : Nat) (e : Ending) (w' : World) : Prop := ∃ (a : Option Addr) (len cap : Nat) (rows : List (List Int)) (p' : Nat), e = .returned (.slice a len cap) ∧
      RowsAt w' (fun b => w.heap.size ≤ b ∧ b < w'.heap.size) a len rows ∧ len ≤ cap ∧ len ≤ 6 ∧ Rd w' R p' ∧ p' ≤ p + 1000 ∧ w.grownBy w' (some R)
theorem billPost_mk {w w' : World} {R p p' len cap M : Nat} {a : Option Addr} (h : OwnRows w' w.heap.size M (.slice a len cap) len) (hl : len ≤ cap) (h6 : len ≤ 6) (hr : Rd w' R p') (hp : p' ≤ p + 1000)
    (hg : w.grownBy w' (some R)) : BillPost w R p (.returned (.slice a len cap)) w' := by
  obtain ⟨a', cap', rows, hv, _, hrows⟩ := h.rows (by omega)
  simp only [Value.slice.injEq] at hv
  obtain ⟨rfl, _, rfl⟩ := hv
  exact ⟨_, _, _, rows, p', rfl, hrows, hl, h6, hr, hp, hg⟩

end Go.Proofs.Ytkebdelfklmigae
namespace Go.Proofs.Ytkebdelfklmigae
open Go.RowKit

/-- the sum of numbers -/
def totalM (xs : List Int) : Int := xs.foldl (· + ·) 0
theorem totalM_snoc (xs : List Int) (x : Int) : totalM (xs ++ [x]) = totalM xs + x := by simp [totalM]
theorem totalM_bd {B : Int} (hB : 0 ≤ B) : ∀ {xs : List Int}, (∀ x ∈ xs, -B ≤ x ∧ x ≤ B) → -(B * xs.length) ≤ totalM xs ∧ totalM xs ≤ B * xs.length := by
  have key : ∀ (xs : List Int) (s : Int), (∀ x ∈ xs, -B ≤ x ∧ x ≤ B) → s - B * xs.length ≤ xs.foldl (· + ·) s ∧ xs.foldl (· + ·) s ≤ s + B * xs.length := by
    intro xs
    induction xs with
    | nil => intro s _; simp
    | cons x xs ih =>
      intro s h
      have h1 := h x List.mem_cons_self
      have h2 := ih (s + x) (fun y hy => h y (List.mem_cons_of_mem _ hy))
      have e : B * ((x :: xs).length : Int) = B * (xs.length : Int) + B := by rw [List.length_cons]; push_cast; rw [Int.mul_add, Int.mul_one]
      simp only [List.foldl_cons]
      rw [e]
      omega
  intro xs h
  have := key xs 0 h
  unfold totalM
  omega
theorem totalM_zero : ∀ {xs : List Int}, (∀ x ∈ xs, 0 ≤ x) → (totalM xs = 0 ↔ ∀ x ∈ xs, x = 0) := by
  have key : ∀ (xs : List Int) (s : Int), 0 ≤ s → (∀ x ∈ xs, 0 ≤ x) → (0 ≤ xs.foldl (· + ·) s ∧ (xs.foldl (· + ·) s = 0 ↔ s = 0 ∧ ∀ x ∈ xs, x = 0)) := by
    intro xs
    induction xs with
    | nil => intro s hs _; simp; exact hs
    | cons x xs ih =>
      intro s hs h
      have h1 := h x List.mem_cons_self
      obtain ⟨i1, i2⟩ := ih (s + x) (by omega) (fun y hy => h y (List.mem_cons_of_mem _ hy))
      simp only [List.foldl_cons]
      refine ⟨i1, ?_⟩
      rw [i2]
      simp only [List.mem_cons, forall_eq_or_imp]
      constructor
      · rintro ⟨e1, e2⟩; exact ⟨by omega, by omega, e2⟩
      · rintro ⟨e1, e2, e3⟩; exact ⟨by omega, e3⟩
  intro xs h
  have := (key xs 0 (Int.le_refl _) h).2
  unfold totalM
  rw [this]; simp
theorem take_mem {α : Type} {xs : List α} {k : Nat} {x : α} (h : x ∈ xs.take k) : x ∈ xs := List.mem_of_mem_take h

end Go.Proofs.Ytkebdelfklmigae
namespace Go.Proofs.Ytkebdelfklmigae
open Go.RowKit

/-- a new slice of these ints that may be written, not longer than its array -/
def ResPostC (w : World) (xs : List Int) (e : Ending) (w' : World) : Prop := ∃ (a : Option Addr) (len cap : Nat), e = .returned (.slice a len cap) ∧ IntsAt w' (fun b => w.heap.size ≤ b ∧ b < w'.heap.size) a len xs ∧
  Free w' (fun b => w.heap.size ≤ b ∧ b < w'.heap.size) a len ∧ len ≤ cap ∧ Below w.heap.size w w'
theorem resPostC_nil (w : World) : ResPostC w [] (.returned (.slice none 0 0)) w :=
  ⟨none, 0, 0, rfl, ⟨rfl, Nat.zero_le _, fun h => absurd h (by omega)⟩, ⟨Nat.zero_le _, fun h => absurd h (by omega)⟩, Nat.le_refl _, Below.refl _ _⟩
theorem resPostC_of {w w' : World} {xs : List Int} {a : Option Addr} {len cap : Nat} (h : ResPost w xs (.returned (.slice a len cap)) w') (hc : len ≤ cap) : ResPostC w xs (.returned (.slice a len cap)) w' := by
  obtain ⟨a', l', c', e, h1, h2, h3⟩ := h
  simp only [Ending.returned.injEq, Value.slice.injEq] at e
  obtain ⟨rfl, rfl, rfl⟩ := e
  exact ⟨_, _, _, rfl, h1, h2, hc, h3⟩
theorem ResPostC.res {w w' : World} {xs : List Int} {e : Ending} (h : ResPostC w xs e w') : ResPost w xs e w' := by
  obtain ⟨a', l', c', e1, h1, h2, _, h3⟩ := h
  exact ⟨a', l', c', e1, h1, h2, h3⟩
end Go.Proofs.Ytkebdelfklmigae
namespace Go.Proofs.Ytkebdelfklmigae
open Go.RowKit Go.WideShapes

theorem rd_new (w : World) (a : Option Addr) (n cap : Nat) (t : TypeId) (hn : n ≤ 2000) (hb : BytesAt w w.heap.size a n) : Rd (w.alloc (.cells #[.slice a n cap, .int .i64 0] t)) w.heap.size 0 := by
  refine ⟨by rw [World.cell?_alloc_new]; rfl, World.frozen?_alloc_new w _ _ _, a, n, cap, by rw [World.cell?_alloc_new]; rfl, hn, fun h0 => ?_⟩
  obtain ⟨b, off, ha, hb', hc⟩ := hb h0
  refine ⟨b, off, ha, hb', fun i hi => ?_⟩
  obtain ⟨x, hx, hx'⟩ := hc i hi
  exact ⟨x, hx, by rw [World.cell?_alloc_lt _ _ _ hb']; exact hx'⟩

def ReaderPost (w : World) (e : Ending) (w' : World) : Prop := e = .returned (.pointer (some ⟨w.heap.size, 0, none⟩)) ∧ Rd w' w.heap.size 0 ∧ Below w.heap.size w w'

theorem newReader_any (a : Option Addr) (len cap : Nat) (w : World) (hb : BytesAt w w.heap.size a len) (hl : len ≤ cap) (hs : len ≤ 9223372036854775807) :
    Calls Try.prog 27 #[.slice a len cap] w (ReaderPost w) := by
  by_cases h : len ≤ 2000
  · go_enter Try.func27, Try.ntmps27
    go_wp2
    go_ret
    exact ⟨rfl, rd_new w a len cap _ h hb, (Below.refl _ _).alloc (Nat.le_refl _) _⟩
  · obtain ⟨b, off, rfl, hb1, hc⟩ := hb (by omega)
    have h2 : BytesAt w w.heap.size (some ⟨b, off, none⟩) 2000 := fun _ => ⟨b, off, rfl, hb1, fun i hi => hc i (by omega)⟩
    clear hc
    go_enter Try.func27, Try.ntmps27
    go_wp2
    go_ret
    exact ⟨rfl, rd_new w _ 2000 cap _ (by omega) h2, (Below.refl _ _).alloc (Nat.le_refl _) _⟩
end Go.Proofs.Ytkebdelfklmigae
namespace Go.Proofs.Ytkebdelfklmigae
open Go.RowKit Go.WideShapes

/-- append of one int to a list of the call's own -/
theorem wpApp1 {ops : Array Oper} {rest : List Oper} {o : Oper} {a : Act} {Q : Exit → Act → World → Prop} {wo : World} (hgd : o.guard = none) (s x : Operand)
    (ho : o.op = .call { callee := .builtin .append, args := #[s, x], argTypes := #[23, 23] })
    (base k cp : Nat) (ax : Option Addr) (xs : List Int) (v : Int) (hs : a.eval s = .slice ax k cp)
    (hown : wo.ownsRow base 3 1 (.slice ax k cp) k (xs.map (.int .i64))) (hx : a.eval x = .slice (some ⟨wo.heap.size, 0, none⟩) 1 1)
    (hbase : base ≤ wo.heap.size) (hk : k ≤ 1048576)
    (h : ∀ (a6 : Option Addr) (c6 : Nat) (w' : World), w'.ownsRow base 3 1 (.slice a6 (k + 1) c6) (k + 1) (xs.map (.int .i64) ++ [.int .i64 v]) → k + 1 ≤ c6 → wo.grownBy w' (Value.slice ax k cp).ownBlock →
      wpList Try.prog ops Q rest (a.put o.dst (.slice a6 (k + 1) c6)) w') :
    wpList Try.prog ops Q (o :: rest) a (wo.alloc (.cells #[.int .i64 v] 3)) := by
  obtain ⟨i0, hi, hz0, hz1, hz2⟩ := info_parts Try.infoIntO
  refine wpList_append_own _ hgd s x 23 ho base 3 i0 (.int .i64 0) 1 8 Try.underlying23 hi hz0 hz1 hz2 rfl (by decide) _ k _ hs (hown.alloc _) ⟨wo.heap.size, 0, none⟩ 1 1 [.int .i64 v] hx rfl (one_new _ _ _) (one_cell_int _ _) (by unfold maxLen; omega) (by omega) (by simp; omega) ?_
  intro v' w6 hown6 hgrow _
  obtain ⟨a6, c6, rfl, hc⟩ := own_slice hown6
  exact h a6 c6 w6 hown6 hc (grown_comp (World.grownBy_alloc wo _ _) hgrow)
/-- append of a list to a list of the call's own -/
theorem wpAppN {ops : Array Oper} {rest : List Oper} {o : Oper} {a : Act} {Q : Exit → Act → World → Prop} {wo : World} (hgd : o.guard = none) (s x : Operand)
    (ho : o.op = .call { callee := .builtin .append, args := #[s, x], argTypes := #[23, 23] })
    (base k cp : Nat) (ax : Option Addr) (xs : List Int) (S : Nat → Prop) (b off m c : Nat) (ys : List Int) (hs : a.eval s = .slice ax k cp)
    (hown : wo.ownsRow base 3 1 (.slice ax k cp) k (xs.map (.int .i64))) (hx : a.eval x = .slice (some ⟨b, off, none⟩) m c) (hy : IntsAt wo S (some ⟨b, off, none⟩) m ys)
    (hbase : base ≤ wo.heap.size) (hk : k + m ≤ 1048576)
    (h : ∀ (a6 : Option Addr) (c6 : Nat) (w' : World), w'.ownsRow base 3 1 (.slice a6 (k + m) c6) (k + m) (xs.map (.int .i64) ++ ys.map (.int .i64)) → k + m ≤ c6 → wo.grownBy w' (Value.slice ax k cp).ownBlock →
      wpList Try.prog ops Q rest (a.put o.dst (.slice a6 (k + m) c6)) w') :
    wpList Try.prog ops Q (o :: rest) a wo := by
  obtain ⟨i0, hi, hz0, hz1, hz2⟩ := info_parts Try.infoIntO
  refine wpList_append_own _ hgd s x 23 ho base 3 i0 (.int .i64 0) 1 8 Try.underlying23 hi hz0 hz1 hz2 rfl (by decide) _ k _ hs hown ⟨b, off, none⟩ m c (ys.map (.int .i64)) hx (by simp [hy.lenEq]) ?_ ?_ (by unfold maxLen; omega) (by omega) hbase ?_
  · intro j u hj
    rw [List.getElem?_map] at hj
    cases hq : ys[j]? with
    | none => rw [hq] at hj; cases hj
    | some z =>
      rw [hq] at hj
      simp only [Option.map_some, Option.some.injEq] at hj
      have hlt : j < ys.length := (List.getElem?_eq_some_iff.1 hq).1
      obtain ⟨b', off', e, _, hc⟩ := hy.cells (by have := hy.lenEq; omega)
      cases e
      rw [add_plain, hc _ _ hq, ← hj]
  · intro u hu
    obtain ⟨x, _, rfl⟩ := List.mem_map.1 hu
    rfl
  intro v' w6 hown6 hgrow _
  obtain ⟨a6, c6, rfl, hc⟩ := own_slice hown6
  exact h a6 c6 w6 hown6 hc hgrow
theorem clone_any (S : Nat → Prop) (b off len cap : Nat) (xs : List Int) (w : World) (h : IntsAt w S (some ⟨b, off, none⟩) len xs) (hS : ∀ b, S b → b < w.heap.size) (hl : len ≤ 1048576) :
    Calls Try.prog 70 #[.slice (some ⟨b, off, none⟩) len cap] w (NewOwn w xs) := by
  have hx := h.to (w' := w.alloc (.cells #[] 3)) (S' := S) (fun k hk => ⟨hk, Below.heap_alloc _ _ _ (by have := hS k hk; omega)⟩)
  have HX := Lib.hid hx
  have q22 : ∀ (w : World) (a : Option Addr) (n c n' c' : Nat), (binOp .eql 23 (.slice a n c) (.slice none n' c')).run Try.prog w = .ok (.bool a.isNone) w := fun w a n c n' c' => Lib.run_eql_slice_nil w _ _ a n c n' c' Try.underlying23
  clear hx
  go_enter Try.func70, Try.ntmps70
  go_wp2_with (at_builtin; refine wpAppN rfl _ _ rfl w.heap.size 0 _ _ [] S b off len cap xs rfl (World.ownsRow_made w #[] 0 (Nat.le_refl _) (Nat.zero_le _) rfl) rfl HX.out (by simp) (by omega) ?_)
  intro a6 c6 w6 hown hc6 hgr
  have HO := Lib.hid hown
  have HG := Lib.hid hgr
  clear hown hgr
  go_wp2
  go_ret
  exact ⟨a6, len, c6, rfl, by omega, by simpa using HO.out, ((Below.refl _ w).alloc (Nat.le_refl _) _).grown HG.out (by simp) (by intro k hk; simp [Value.ownBlock] at hk; omega)⟩
theorem own_block {w : World} {B e s n : Nat} {v : Value} {xs : List Value} (h : w.ownsRow B e s v n xs) : ∀ k, v.ownBlock = some k → B ≤ k := fun k e => (h.lt k e).1
theorem own_snoc {w : World} {B n : Nat} {u : Value} {xs : List Int} {x : Int} (h : w.ownsRow B 3 1 u n (xs.map (.int .i64) ++ [.int .i64 x])) : w.ownsRow B 3 1 u n ((xs ++ [x]).map (.int .i64)) := by
  rw [List.map_append]; exact h
end Go.Proofs.Ytkebdelfklmigae
namespace Go.Proofs.Ytkebdelfklmigae
open Go.RowKit Go.WideShapes

/-- a list made behind the reader R, ahead of block B -/
def LAt (w : World) (R B : Nat) (a : Option Addr) (l : Nat) (xs : List Int) : Prop := IntsAt w (fun b => R < b ∧ b < B) a l xs ∧ B ≤ w.heap.size
theorem LAt.step {w w' : World} {R B l : Nat} {a : Option Addr} {xs : List Int} (h : LAt w R B a l xs) (hg : w.grownBy w' (some R)) : LAt w' R B a l xs :=
  ⟨h.1.to (fun b hb => ⟨hb, hg.block b (Nat.lt_of_lt_of_le hb.2 h.2) (by intro e; injection e; omega)⟩), Nat.le_trans h.2 hg.size⟩
theorem LAt.stepR {w w' : World} {R B l : Nat} {a : Option Addr} {xs : List Int} {r : Option Nat} (h : LAt w R B a l xs) (hg : w.grownBy w' r) (hr : ∀ k, r = some k → B ≤ k) : LAt w' R B a l xs :=
  ⟨h.1.to (fun b hb => ⟨hb, hg.block b (Nat.lt_of_lt_of_le hb.2 h.2) (by intro e; have := hr b e.symm; omega)⟩), Nat.le_trans h.2 hg.size⟩
theorem LAt.alloc {w : World} {R B l : Nat} {a : Option Addr} {xs : List Int} (h : LAt w R B a l xs) (o : Obj) : LAt (w.alloc o) R B a l xs := h.step (World.grownBy_alloc _ _ _)
theorem LAt.low {w : World} {R B l : Nat} {a : Option Addr} {xs : List Int} (h : LAt w R B a l xs) : IntsAt w (· < w.heap.size) a l xs := h.1.to (fun _ hb => ⟨Nat.lt_of_lt_of_le hb.2 h.2, rfl⟩)
theorem lat_new {w w' : World} {R l : Nat} {a : Option Addr} {xs : List Int} (h : IntsAt w' (fun b => w.heap.size ≤ b ∧ b < w'.heap.size) a l xs) (hR : R < w.heap.size) : LAt w' R w'.heap.size a l xs :=
  ⟨h.to (fun _ hb => ⟨⟨by omega, hb.2⟩, rfl⟩), Nat.le_refl _⟩
theorem lat_own {w w' : World} {R l cp : Nat} {a : Option Addr} {xs : List Int} (h : w'.ownsRow w.heap.size 3 1 (.slice a l cp) l (xs.map (.int .i64))) (hR : R < w.heap.size) (hl : l ≤ 9223372036854775807) : LAt w' R w'.heap.size a l xs := by
  obtain ⟨ay, cy, hve, _, hints⟩ := own_ints h hl
  simp only [Value.slice.injEq] at hve
  obtain ⟨rfl, _, rfl⟩ := hve
  exact lat_new hints hR
theorem own_low {w : World} {B l cp : Nat} {a : Option Addr} {xs : List Int} (h : w.ownsRow B 3 1 (.slice a l cp) l (xs.map (.int .i64))) (hl : l ≤ 9223372036854775807) : IntsAt w (· < w.heap.size) a l xs := by
  obtain ⟨ay, cy, hve, _, hints⟩ := own_ints h hl
  simp only [Value.slice.injEq] at hve
  obtain ⟨rfl, _, rfl⟩ := hve
  exact hints.to (fun _ hb => ⟨hb.2, rfl⟩)
theorem grown_of_below {w w' : World} (h : Below w.heap.size w w') (r : Option Nat) : w.grownBy w' r := ⟨h.os, h.tape, h.output, h.size, fun b hb _ => h.block b hb⟩
theorem Rd.step {w w' : World} {R p : Nat} (h : Rd w R p) (hb : Below w.heap.size w w') : Rd w' R p :=
  h.grown (r := none) (grown_of_below hb none) (fun k e => by cases e)
theorem own_step {w w' : World} {B R l : Nat} {v : Value} {xs : List Value} (h : w.ownsRow B 3 1 v l xs) (hg : w.grownBy w' (some R)) (hR : R < B) : w'.ownsRow B 3 1 v l xs := h.kept hg (ne_low h hR)
end Go.Proofs.Ytkebdelfklmigae
