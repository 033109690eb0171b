import Derived.Test.YthmlgicjedhgfabRows
import Derived.WalkKit
import Derived.LoopTactic
import Derived.Outline
import Derived.WalkSpells
import Derived.WalkLawsBesides
import Derived.ProofKit
import Derived.Deep.OwnRows
import Derived.Deep.QuietTactic
import Derived.BigQuiet
import Derived.Test.YthmlgicjedhgfabM0
import Derived.Test.YthmlgicjedhgfabM1
import Derived.Lib.Hide
namespace Go.Proofs.Ythmlgicjedhgfab
open Go.RowKit Go.WideShapes Go.Deep

theorem Try.infoIntE : (Try.prog.info? 3).map (fun i => (i.zero, i.size, i.bytes)) = some (some (.int .i64 0), 1, 8) := by kernel_rfl

/-- the copies of ints -/
def cellsOf (xs : List Int) : Array Value := (xs.map (Value.int .i64)).toArray
theorem cellsOf_eq {xs : List Int} {C : Array Value} (hs : C.size = xs.length) (h : ∀ (i : Nat) (x : Int), xs[i]? = some x → C[i]? = some (.int .i64 x)) : C = cellsOf xs := by
  apply Array.ext_getElem?
  intro i
  simp only [cellsOf, List.getElem?_toArray, List.getElem?_map]
  cases hx : xs[i]? with
  | none => rw [Array.getElem?_eq_none (by rw [hs]; simpa using hx)]; rfl
  | some x => rw [h i x hx]; rfl

set_option maxHeartbeats 400000 in
theorem toIntS_any (S : Nat → Prop) (a : Option Addr) (len cap : Nat) (xs : List Int) (w : World) (h : IntsAt w S a len xs) (hS : ∀ b, S b → b < w.heap.size) (hl : len ≤ 1048576) :
    Calls Try.prog 14 #[.slice a len cap] w fun e w' => e = .returned (.slice (some ⟨w.heap.size, 0, none⟩) len len) ∧ w.alloc (.cells (cellsOf xs) 3) = w' := by
  have HL := Lib.hid h.lenEq
  have hmk := fun w => run_make_row' (P := Try.prog) 24 3 (.int .i64 0) 8 Try.underlying24 Try.infoIntE rfl .i64 .i64 len (by omega) (by omega) w
  go_enter Try.func14, Try.ntmps14
  go_wp2
  clear hmk
  go_loopw [4] (fun i wr => ∃ (k : Nat) (C : Array Value), k ≤ len ∧ i = .int .i64 k ∧ wr = w.alloc (.cells C 3) ∧ C.size = len ∧ ∀ (i : Nat) (x : Int), i < k → xs[i]? = some x → C[i]? = some (.int .i64 x)) (fun i _ => len - (intOf i).toNat)
  case atStart => exact ⟨0, _, Nat.zero_le _, rfl, rfl, size_madeCells _ _, fun i x hi => absurd hi (by omega)⟩
  case round =>
    obtain ⟨k, C, hk, rfl, rfl, hC, hx⟩ := hrel
    have HC := Lib.hid hC
    have HX := Lib.hid hx
    clear hC hx
    by_cases hlt : k < len
    · obtain ⟨b, off, x, rfl, hx, hc⟩ := h.get hlt
      obtain ⟨b', off', hb1, hb2, _⟩ := h.cells (by omega)
      have hb : b < w.heap.size := hS b (by cases hb1; exact hb2)
      clear hb1 hb2
      have H := Lib.hid hx
      clear hx
      have hck : C[k]? = some (C[k]'(by rw [HC.out]; exact hlt)) := Array.getElem?_eq_getElem _
      generalize C[k]'(by rw [HC.out]; exact hlt) = c0 at hck
      go_wp2
      go_roundw
      case rel =>
        refine ⟨k + 1, C.setIfInBounds k (.int .i64 x), by omega, by go_num, rfl, by simp [HC.out], fun i y hi hy => ?_⟩
        rw [Array.getElem?_setIfInBounds]
        by_cases hik : k = i
        · subst hik
          rw [if_pos rfl, if_pos (by rw [HC.out]; exact hlt)]
          have e := H.out.symm.trans hy
          simp only [Option.some.injEq] at e
          rw [e]
        · rw [if_neg hik]
          exact HX.out i y (by omega) hy
      case measure => simp [intOf]; omega
    · go_wp2
      go_ret
      have hl := HL.out
      refine ⟨rfl, ?_⟩
      rw [cellsOf_eq (xs := xs) (C := C) (by rw [HC.out, hl]) (fun i x hx => HX.out i x (by
        rcases Nat.lt_or_ge i xs.length with h' | h'
        · omega
        · simp [List.getElem?_eq_none h'] at hx) hx)]
/-- block B holds the slices of k copied rows, and block B + 1 + j the ints of row j -/
structure Copying (w wr : World) (len k : Nat) (rows : List (List Int)) : Prop where
  size : wr.heap.size = w.heap.size + 1 + k
  below : Below w.heap.size w wr
  top : ∃ C : Array Value, wr.heap[w.heap.size]? = some (.cells C 24 (0, 0)) ∧ C.size = len ∧
    ∀ (j : Nat) (r : List Int), j < k → rows[j]? = some r → C[j]? = some (.slice (some ⟨w.heap.size + 1 + j, 0, none⟩) r.length r.length)
  rows : ∀ (j : Nat) (r : List Int), j < k → rows[j]? = some r → wr.heap[w.heap.size + 1 + j]? = some (.cells (cellsOf r) 3 (0, 0))

theorem copying_start (w : World) (len : Nat) (rows : List (List Int)) : Copying w (w.alloc (.cells (madeCells #[.slice none 0 0] len) 24)) len 0 rows :=
  ⟨by simp, (Below.refl _ _).alloc (Nat.le_refl _) _, ⟨_, heap_alloc_new w _, size_madeCells _ _, fun j r h => absurd h (by omega)⟩, fun j r h => absurd h (by omega)⟩

theorem Copying.cell {w wr : World} {len k : Nat} {rows : List (List Int)} (h : Copying w wr len k rows) {j : Nat} (hj : j < len) : ∃ c, wr.cell? ⟨w.heap.size, j, none⟩ = some c ∧ wr.frozen? ⟨w.heap.size, j, none⟩ = false := by
  obtain ⟨C, h1, h2, _⟩ := h.top
  refine ⟨C[j]'(by omega), ?_, ?_⟩
  · simp only [World.cell?, h1]; exact Array.getElem?_eq_getElem _
  · simp [World.frozen?, h1]

theorem Copying.step {w wr : World} {len k : Nat} {rows : List (List Int)} {r : List Int} (h : Copying w wr len k rows) (hk : k < len) (hr : rows[k]? = some r) :
    Copying w ((wr.setCell ⟨w.heap.size, k, none⟩ (.slice (some ⟨wr.heap.size, 0, none⟩) r.length r.length)).alloc (.cells (cellsOf r) 3)) len (k + 1) rows := by
  have hs := h.size
  obtain ⟨C, h1, h2, h3⟩ := h.top
  have hsz : (wr.setCell ⟨w.heap.size, k, none⟩ (.slice (some ⟨wr.heap.size, 0, none⟩) r.length r.length)).heap.size = wr.heap.size := by simp [World.setCell]
  refine ⟨by simp [hsz]; omega, (h.below.setCell (Nat.le_refl _) _).alloc (by rw [hsz]; omega) _, ⟨C.setIfInBounds k (.slice (some ⟨wr.heap.size, 0, none⟩) r.length r.length), ?_, by simpa using h2, fun j r' hj hr' => ?_⟩, fun j r' hj hr' => ?_⟩
  · rw [Below.heap_alloc _ _ _ (by rw [hsz]; omega)]
    exact heap_setCell_same wr w.heap.size k C _ _ h1
  · rw [Array.getElem?_setIfInBounds]
    by_cases e : k = j
    · subst e
      rw [if_pos rfl, if_pos (by omega)]
      have e' := hr.symm.trans hr'
      simp only [Option.some.injEq] at e'
      rw [← e', hs]
    · rw [if_neg e]; exact h3 j r' (by omega) hr'
  · by_cases e : k = j
    · subst e
      have e' := hr.symm.trans hr'
      simp only [Option.some.injEq] at e'
      rw [← e', show w.heap.size + 1 + k = (wr.setCell ⟨w.heap.size, k, none⟩ (.slice (some ⟨wr.heap.size, 0, none⟩) r.length r.length)).heap.size by rw [hsz]; omega]
      exact heap_alloc_new _ _
    · rw [Below.heap_alloc _ _ _ (by rw [hsz]; omega), Below.heap_setCell _ _ _ _ (by show _ ≠ w.heap.size; omega)]
      exact h.rows j r' (by omega) hr'

theorem cell_cellsOf {w : World} {b i : Nat} {r : List Int} {x : Int} {t : TypeId} (h : w.heap[b]? = some (.cells (cellsOf r) t (0, 0))) (hx : r[i]? = some x) : w.cell? ⟨b, i, none⟩ = some (.int .i64 x) := by
  simp only [World.cell?, h]
  show (cellsOf r)[i]? = _
  simp only [cellsOf, List.getElem?_toArray, List.getElem?_map, hx]; rfl

theorem Copying.rowsAt {w wr : World} {len : Nat} {rows : List (List Int)} (h : Copying w wr len len rows) (hl : rows.length = len) (hs : len ≤ 9223372036854775807) (hr : ∀ r ∈ rows, r.length ≤ 9223372036854775807) :
    RowsAt wr (fun b => w.heap.size ≤ b ∧ b < wr.heap.size) (some ⟨w.heap.size, 0, none⟩) len rows := by
  obtain ⟨C, h1, h2, h3⟩ := h.top
  have hz := h.size
  refine ⟨hl, hs, fun h0 => ⟨w.heap.size, 0, rfl, ⟨Nat.le_refl _, by omega⟩, fun i r hi => ?_⟩⟩
  have hil : i < len := by
    rcases Nat.lt_or_ge i rows.length with h' | h'
    · omega
    · simp [List.getElem?_eq_none h'] at hi
  refine ⟨some ⟨w.heap.size + 1 + i, 0, none⟩, r.length, r.length, ?_, Nat.le_refl _, rfl, hr r (List.mem_of_getElem? hi), fun _ => ⟨_, 0, rfl, ⟨by omega, by omega⟩, fun j x hx => ?_⟩⟩
  · rw [Nat.zero_add]
    simp only [World.cell?, h1]
    exact h3 i r hil hi
  · rw [Nat.zero_add]
    exact cell_cellsOf (h.rows i r hil hi) hx

theorem Try.infoIntsE : (Try.prog.info? 24).map (fun i => (i.zero, i.size, i.bytes)) = some (some (.slice none 0 0), 1, 24) := by kernel_rfl

def CopyPost (w : World) (len : Nat) (rows : List (List Int)) (e : Ending) (w' : World) : Prop := e = .returned (.slice (some ⟨w.heap.size, 0, none⟩) len len) ∧ Copying w w' len len rows

set_option maxHeartbeats 400000 in
theorem toIntSS_any (S : Nat → Prop) (a : Option Addr) (len cap : Nat) (rows : List (List Int)) (w : World) (h : RowsAt w S a len rows) (hS : ∀ b, S b → b < w.heap.size) (hl : len ≤ 1048576) (hr : ∀ r ∈ rows, r.length ≤ 1048576) :
    Calls Try.prog 40 #[.slice a len cap] w (CopyPost w len rows) := by
  have HL := Lib.hid h.lenEq
  have hmk := fun w => run_make_row' (P := Try.prog) 27 24 (.slice none 0 0) 24 Try.underlying27 Try.infoIntsE rfl .i64 .i64 len (by omega) (by omega) w
  go_enter Try.func40, Try.ntmps40
  go_wp2
  clear hmk
  go_loopw [4] (fun i wr => ∃ (k : Nat), k ≤ len ∧ i = .int .i64 k ∧ Copying w wr len k rows) (fun i _ => len - (intOf i).toNat)
  case atStart => exact ⟨0, Nat.zero_le _, rfl, copying_start w len rows⟩
  case round =>
    obtain ⟨k, hk, rfl, hco⟩ := hrel
    by_cases hlt : k < len
    · have hB := hco.below
      have hw : RowsAt wr (fun b => b < w.heap.size) a len rows := h.to (fun b hb => ⟨hS b hb, hB.block b (hS b hb)⟩)
      obtain ⟨b, off, r, a', l, c, rfl, hx, hc, _, hri⟩ := hw.get hlt
      have hl' : l ≤ 1048576 := by rw [← hri.lenEq]; exact hr r (List.mem_of_getElem? hx)
      have HX := Lib.hid hx
      have HRL := Lib.hid hri.lenEq
      clear hx
      have hsz := hco.size
      have hws : w.heap.size < wr.heap.size := by omega
      obtain ⟨c0, hc1, hf1⟩ := hco.cell hlt
      have HS := Lib.hid hsz
      clear hsz
      go_wp2_with fail
      refine (toIntS_any _ a' l c r _ hri (fun b hb => by omega) hl').mono ?_
      rintro e w3 ⟨rfl, rfl⟩
      go_wp2
      go_roundw
      case rel => exact ⟨k + 1, by omega, by go_num, by have := hco.step hlt HX.out; rw [HRL.out] at this; exact this⟩
      case measure => simp [intOf]; omega
    · go_wp2
      go_ret
      have : k = len := by omega
      subst this
      exact ⟨rfl, hco⟩
theorem szIntS_any (a : Option Addr) (len cap : Nat) (left : Int) (w : World) (h0 : 0 ≤ left) (h1 : left ≤ 1048576) (hs : len ≤ 9223372036854775807) :
    Calls Try.prog 54 #[.slice a len cap, .int .i64 left] w fun e w' => ∃ q : Int, e = .returned (.int .i64 q) ∧ q ≤ left ∧ (0 ≤ q → (len : Int) ≤ left) ∧ w = w' := by
  by_cases h : (len : Int) ≤ left
  · go_enter Try.func54, Try.ntmps54
    go_wp2
    go_ret
    exact ⟨_, rfl, by omega, fun _ => h, rfl⟩
  · go_enter Try.func54, Try.ntmps54
    go_wp2
    go_ret
    exact ⟨_, rfl, by omega, fun h => absurd h (by omega), rfl⟩

def SizePost (w : World) (left : Int) (len : Nat) (rows : List (List Int)) (e : Ending) (w' : World) : Prop := ∃ q : Int, e = .returned (.int .i64 q) ∧ q ≤ left ∧ (0 ≤ q → (len : Int) ≤ left ∧ ∀ r ∈ rows, (r.length : Int) ≤ left) ∧ w = w'
theorem szIntSS_any (S : Nat → Prop) (a : Option Addr) (len cap : Nat) (rows : List (List Int)) (left : Int) (w : World) (h : RowsAt w S a len rows) (h0 : 0 ≤ left) (h1 : left ≤ 1048576) :
    Calls Try.prog 39 #[.slice a len cap, .int .i64 left] w (SizePost w left len rows) := by
  have hs := h.small
  by_cases hl : (len : Int) ≤ left
  · have HL := Lib.hid h.lenEq
    go_enter Try.func39, Try.ntmps39
    go_wp2
    go_loop [1, 5] (fun q i => ∃ (k : Nat) (n : Int), k ≤ len ∧ i = .int .i64 k ∧ q = .int .i64 n ∧ 0 ≤ n ∧ n ≤ left ∧ ∀ r ∈ rows.take k, (r.length : Int) ≤ left) (fun _ i => len - (intOf i).toNat)
    case atStart => exact ⟨0, _, Nat.zero_le _, rfl, rfl, by omega, by omega, fun r hr => by simp at hr⟩
    case round =>
      obtain ⟨k, n, hk, rfl, rfl, hn0, hn1, hr⟩ := hrel
      have HR := Lib.hid hr
      clear hr
      by_cases hlt : k < len
      · obtain ⟨b, off, r, a', l, c, rfl, hx, hc, _, hri⟩ := h.get hlt
        have hsl := hri.small
        have HX := Lib.hid hx
        have HRL := Lib.hid hri.lenEq
        clear hx
        go_wp2_with fail
        refine (szIntS_any a' l c n _ hn0 (by omega) hsl).mono ?_
        rintro e w2 ⟨q, rfl, hq1, hq2, rfl⟩
        by_cases hq0 : 0 ≤ q
        · have hq2' := hq2 hq0
          go_wp2
          go_round
          case rel =>
            refine ⟨k + 1, q, by omega, by go_num, rfl, hq0, by omega, fun r' hr' => ?_⟩
            rw [take_get HX.out] at hr'
            rcases List.mem_append.1 hr' with h' | h'
            · exact HR.out r' h'
            · simp only [List.mem_singleton] at h'; rw [h', HRL.out]; omega
          case measure => simp [intOf]; omega
        · go_wp2
          go_ret
          exact ⟨_, rfl, by omega, fun h => absurd h (by omega), rfl⟩
      · go_wp2
        go_ret
        have hl' := HL.out
        have hr := HR.out
        rw [List.take_of_length_le (by omega)] at hr
        exact ⟨_, rfl, by omega, fun _ => ⟨hl, hr⟩, rfl⟩
  · go_enter Try.func39, Try.ntmps39
    go_wp2
    go_ret
    exact ⟨_, rfl, by omega, fun h => absurd h (by omega), rfl⟩

theorem ne_of_get {α : Type} {xs ys : List α} {k : Nat} {x y : α} (hx : xs[k]? = some x) (hy : ys[k]? = some y) (h : x ≠ y) : xs ≠ ys := by
  rintro rfl
  rw [hx] at hy
  exact h (by simpa using hy)
theorem take_eq_step {α : Type} {xs ys : List α} {k : Nat} {x : α} (hx : xs[k]? = some x) (hy : ys[k]? = some x) (h : xs.take k = ys.take k) : xs.take (k + 1) = ys.take (k + 1) := by
  rw [take_get hx, take_get hy, h]

def EqPost (w : World) (b : Bool) (e : Ending) (w' : World) : Prop := e = .returned (.bool b) ∧ Drew w w'
def eqB (xs ys : List Int) : Bool := decide (xs = ys)
def eqRB (xs ys : List (List Int)) : Bool := decide (xs = ys)

set_option maxHeartbeats 400000 in
theorem eqIntS_any (S T : Nat → Prop) (a a2 : Option Addr) (len cap len2 cap2 : Nat) (xs ys : List Int) (w : World) (h : IntsAt w S a len xs) (g : IntsAt w T a2 len2 ys) :
    Calls Try.prog 17 #[.slice a len cap, .slice a2 len2 cap2] w (EqPost w (eqB xs ys)) := by
  have hs := h.small
  have hs2 := g.small
  by_cases hll : len = len2
  · subst hll
    go_enter Try.func17, Try.ntmps17
    go_wp2
    go_loopw [5] (fun i wr => ∃ k : Nat, k ≤ len ∧ i = .int .i64 k ∧ xs.take k = ys.take k ∧ Drew w wr) (fun i _ => len - (intOf i).toNat)
    case atStart => exact ⟨0, Nat.zero_le _, rfl, rfl, Drew.refl w⟩
    case round =>
      obtain ⟨k, hk, rfl, ht, hd⟩ := hrel
      have HT := Lib.hid ht
      clear ht
      by_cases hlt : k < len
      · obtain ⟨b, off, x, rfl, hx, hc⟩ := (Drew.ints h hd).get hlt
        obtain ⟨b2, off2, y, rfl, hy, hc2⟩ := (Drew.ints g hd).get hlt
        have HX := Lib.hid hx
        have HY := Lib.hid hy
        clear hx hy
        by_cases hxy : x = y
        · subst hxy
          go_wp2
          go_quiet (fail)
          go_wp2
          go_roundw
          case rel => exact ⟨k + 1, by omega, by go_num, take_eq_step HX.out HY.out HT.out, hd.drew _⟩
          case measure => simp [intOf]; omega
        · go_wp2
          go_quiet (fail)
          go_wp2
          go_ret
          exact ⟨ret_bool (decide_eq_false (ne_of_get HX.out HY.out hxy)).symm, hd.drew _⟩
      · go_wp2
        go_ret
        have e1 := h.lenEq
        have e2 := g.lenEq
        have ht := HT.out
        rw [List.take_of_length_le (by omega), List.take_of_length_le (by omega)] at ht
        exact ⟨ret_bool (decide_eq_true ht).symm, hd⟩
  · have hne : xs ≠ ys := by rintro rfl; exact hll (h.lenEq.symm.trans g.lenEq)
    go_enter Try.func17, Try.ntmps17
    go_wp2
    go_ret
    exact ⟨ret_bool (decide_eq_false hne).symm, Drew.refl w⟩

set_option maxHeartbeats 400000 in
theorem eqIntSS_any (S T : Nat → Prop) (a a2 : Option Addr) (len cap len2 cap2 : Nat) (xs ys : List (List Int)) (w : World) (h : RowsAt w S a len xs) (g : RowsAt w T a2 len2 ys) :
    Calls Try.prog 15 #[.slice a len cap, .slice a2 len2 cap2] w (EqPost w (eqRB xs ys)) := by
  have hs := h.small
  have hs2 := g.small
  by_cases hll : len = len2
  · subst hll
    go_enter Try.func15, Try.ntmps15
    go_wp2
    go_loopw [5] (fun i wr => ∃ k : Nat, k ≤ len ∧ i = .int .i64 k ∧ xs.take k = ys.take k ∧ Drew w wr) (fun i _ => len - (intOf i).toNat)
    case atStart => exact ⟨0, Nat.zero_le _, rfl, rfl, Drew.refl w⟩
    case round =>
      obtain ⟨k, hk, rfl, ht, hd⟩ := hrel
      have HT := Lib.hid ht
      clear ht
      by_cases hlt : k < len
      · obtain ⟨b, off, x, a3, l3, c3, rfl, hx, hc, _, hi⟩ := (Drew.rows h hd).get hlt
        obtain ⟨b2, off2, y, a4, l4, c4, rfl, hy, hc2, _, hi2⟩ := (Drew.rows g hd).get hlt
        have HX := Lib.hid hx
        have HY := Lib.hid hy
        clear hx hy
        have hcall : ∀ n, Calls Try.prog 17 #[.slice a3 l3 c3, .slice a4 l4 c4] (wr.drewN n) (fun e w' => e = .returned (.bool (eqB x y)) ∧ ∃ m, w' = (wr.drewN n).drewN m) :=
          fun n => eqIntS_any S T a3 a4 l3 c3 l4 c4 x y _ (Drew.ints hi ⟨n, rfl⟩) (Drew.ints hi2 ⟨n, rfl⟩)
        have HCALL := Lib.hid hcall
        clear hcall
        by_cases hxy : x = y
        · have hb : eqB x y = true := decide_eq_true hxy
          have HXY := Lib.hid hxy
          clear hxy
          go_wp2
          go_quiet ((go_at_call 17; exact Calls.quiet_of (HCALL.out _)))
          go_wp2
          go_roundw
          case rel => exact ⟨k + 1, by omega, by go_num, take_eq_step HX.out (by rw [HXY.out]; exact HY.out) HT.out, hd.drew _⟩
          case measure => simp [intOf]; omega
        · have hb : eqB x y = false := decide_eq_false hxy
          go_wp2
          go_quiet ((go_at_call 17; exact Calls.quiet_of (HCALL.out _)))
          go_wp2
          go_ret
          exact ⟨ret_bool (decide_eq_false (ne_of_get HX.out HY.out hxy)).symm, hd.drew _⟩
      · go_wp2
        go_ret
        have e1 := h.lenEq
        have e2 := g.lenEq
        have ht := HT.out
        rw [List.take_of_length_le (by omega), List.take_of_length_le (by omega)] at ht
        exact ⟨ret_bool (decide_eq_true ht).symm, hd⟩
  · have hne : xs ≠ ys := by rintro rfl; exact hll (h.lenEq.symm.trans g.lenEq)
    go_enter Try.func15, Try.ntmps15
    go_wp2
    go_ret
    exact ⟨ret_bool (decide_eq_false hne).symm, Drew.refl w⟩
theorem Copying.free {w wr : World} {len : Nat} {rows : List (List Int)} (h : Copying w wr len len rows) (hl : rows.length = len) (hs : len ≤ 1048576) (hr : ∀ r ∈ rows, r.length ≤ 1048576) :
    RowsFree wr (fun b => b = w.heap.size) (fun b => w.heap.size < b ∧ b < wr.heap.size) (some ⟨w.heap.size, 0, none⟩) len := by
  obtain ⟨C, h1, h2, h3⟩ := h.top
  have hz := h.size
  refine ⟨hs, fun h0 => ⟨w.heap.size, 0, rfl, rfl, fun i hi => ?_⟩⟩
  have hri : rows[i]? = some rows[i] := List.getElem?_eq_getElem (by omega)
  have hlen := hr rows[i] (List.getElem_mem _)
  refine ⟨some ⟨w.heap.size + 1 + i, 0, none⟩, rows[i].length, rows[i].length, ?_, hlen, by omega, fun _ => ⟨_, 0, rfl, ⟨by omega, by omega⟩, fun j hj => ?_⟩⟩
  · rw [Nat.zero_add]; simp only [World.cell?, h1]; exact h3 i _ hi hri
  · rw [Nat.zero_add]
    have hb := h.rows i _ hi hri
    exact ⟨⟨_, cell_cellsOf hb (List.getElem?_eq_getElem hj)⟩, by simp [World.frozen?, hb]⟩
end Go.Proofs.Ythmlgicjedhgfab
namespace Go.Proofs.Ythmlgicjedhgfab
open Go.RowKit Go.WideShapes

/-- the blocks lo ≤ b < hi are as they were -/
def SameOn (lo hi : Nat) (w w' : World) : Prop := ∀ b, lo ≤ b → b < hi → w'.heap[b]? = w.heap[b]?
theorem SameOn.refl (lo hi : Nat) (w : World) : SameOn lo hi w w := fun _ _ _ => rfl
theorem SameOn.below {lo hi B : Nat} {a b c : World} (h : SameOn lo hi a b) (g : Below B b c) (hB : hi ≤ B) : SameOn lo hi a c :=
  fun k h1 h2 => (g.block k (by omega)).trans (h k h1 h2)
theorem SameOn.kept {lo hi : Nat} {S : Nat → Prop} {a b c : World} (h : SameOn lo hi a b) (g : KeptBut S b c) (hd : ∀ k, S k → k < lo ∨ hi ≤ k) : SameOn lo hi a c :=
  fun k h1 h2 => (g.block k (fun e => by have := hd k e; omega)).trans (h k h1 h2)
theorem SameOn.ints {lo hi : Nat} {a b : World} {p : Option Addr} {len : Nat} {xs : List Int} (h : SameOn lo hi a b) (x : IntsAt a (fun b => lo ≤ b ∧ b < hi) p len xs) : IntsAt b (fun b => lo ≤ b ∧ b < hi) p len xs :=
  x.to (fun k hk => ⟨hk, h k hk.1 hk.2⟩)
theorem SameOn.rows {lo hi : Nat} {a b : World} {p : Option Addr} {len : Nat} {xs : List (List Int)} (h : SameOn lo hi a b) (x : RowsAt a (fun b => lo ≤ b ∧ b < hi) p len xs) : RowsAt b (fun b => lo ≤ b ∧ b < hi) p len xs :=
  x.to (fun k hk => ⟨hk, h k hk.1 hk.2⟩)
theorem SameOn.free {lo hi : Nat} {a b : World} {p : Option Addr} {len : Nat} (h : SameOn lo hi a b) (x : Free a (fun b => lo ≤ b ∧ b < hi) p len) : Free b (fun b => lo ≤ b ∧ b < hi) p len :=
  x.to (fun k hk => ⟨hk, h k hk.1 hk.2⟩)
theorem ints_lift {w w1 : World} {a : Option Addr} {len : Nat} {xs : List Int} (h : IntsAt w (· < w.heap.size) a len xs) (hb : Below w.heap.size w w1) : IntsAt w1 (· < w1.heap.size) a len xs :=
  (h.below hb).to (fun _ hb' => ⟨Nat.lt_of_lt_of_le hb' hb.size, rfl⟩)
theorem rows_lift {w w1 : World} {a : Option Addr} {len : Nat} {rows : List (List Int)} (h : RowsAt w (· < w.heap.size) a len rows) (hb : Below w.heap.size w w1) : RowsAt w1 (· < w1.heap.size) a len rows :=
  (h.below hb).to (fun _ hb' => ⟨Nat.lt_of_lt_of_le hb' hb.size, rfl⟩)
theorem ints_in {lo hi : Nat} {w : World} {a : Option Addr} {len : Nat} {xs : List Int} (h : IntsAt w (fun b => lo ≤ b ∧ b < hi) a len xs) (hh : hi ≤ w.heap.size) : IntsAt w (· < w.heap.size) a len xs :=
  h.to (fun _ hb => ⟨Nat.lt_of_lt_of_le hb.2 hh, rfl⟩)
theorem rows_in {lo hi : Nat} {w : World} {a : Option Addr} {len : Nat} {xs : List (List Int)} (h : RowsAt w (fun b => lo ≤ b ∧ b < hi) a len xs) (hh : hi ≤ w.heap.size) : RowsAt w (· < w.heap.size) a len xs :=
  h.to (fun _ hb => ⟨Nat.lt_of_lt_of_le hb.2 hh, rfl⟩)

/-- a copy of ints, in a new block -/
def CopyI (w : World) (len : Nat) (xs : List Int) (e : Ending) (w' : World) : Prop := e = .returned (.slice (some ⟨w.heap.size, 0, none⟩) len len) ∧
  IntsAt w' (fun b => w.heap.size ≤ b ∧ b < w'.heap.size) (some ⟨w.heap.size, 0, none⟩) len xs ∧ Free w' (fun b => w.heap.size ≤ b ∧ b < w'.heap.size) (some ⟨w.heap.size, 0, none⟩) len ∧ Below w.heap.size w w'
theorem toInts_new (a : Option Addr) (len cap : Nat) (xs : List Int) (w : World) (h : IntsAt w (· < w.heap.size) a len xs) (hl : len ≤ 1048576) :
    Calls Try.prog 14 #[.slice a len cap] w (CopyI w len xs) := by
  refine (toIntS_any _ a len cap xs w h (fun b hb => hb) hl).mono ?_
  rintro e w' ⟨rfl, rfl⟩
  have hle := h.lenEq
  refine ⟨rfl, (IntsAt.lit (W := w) (t := 3) (cs := cellsOf xs) (xs := xs) (by simp [cellsOf]) hle rfl (by omega)).to (fun b hb => ⟨⟨Nat.le_of_eq hb.symm, by rw [hb]; simp⟩, rfl⟩), ⟨by omega, fun _ => ⟨_, 0, rfl, ⟨Nat.le_refl _, by simp⟩, fun i hi => ?_⟩⟩, (Below.refl _ _).alloc (Nat.le_refl _) _⟩
  refine ⟨⟨.int .i64 (xs[i]'(by omega)), ?_⟩, World.frozen?_alloc_new w _ _ _⟩
  rw [Nat.zero_add, World.cell?_alloc_new]
  simp only [cellsOf, List.getElem?_toArray, List.getElem?_map, List.getElem?_eq_getElem (show i < xs.length by omega)]; rfl
/-- a copy of rows, in new blocks -/
def CopyR (w : World) (len : Nat) (rows : List (List Int)) (e : Ending) (w' : World) : Prop := e = .returned (.slice (some ⟨w.heap.size, 0, none⟩) len len) ∧
  RowsAt w' (fun b => w.heap.size ≤ b ∧ b < w'.heap.size) (some ⟨w.heap.size, 0, none⟩) len rows ∧ w.heap.size < w'.heap.size ∧ Below w.heap.size w w'
  ∧ RowsFree w' (fun b => b = w.heap.size) (fun b => w.heap.size < b ∧ b < w'.heap.size) (some ⟨w.heap.size, 0, none⟩) len
theorem toRows_new (a : Option Addr) (len cap : Nat) (rows : List (List Int)) (w : World) (h : RowsAt w (· < w.heap.size) a len rows) (hl : len ≤ 1048576) (hr : ∀ r ∈ rows, r.length ≤ 1048576) :
    Calls Try.prog 40 #[.slice a len cap] w (CopyR w len rows) := by
  refine (toIntSS_any _ a len cap rows w h (fun b hb => hb) hl hr).mono ?_
  rintro e w' ⟨rfl, hc⟩
  have hs := hc.size
  exact ⟨rfl, hc.rowsAt h.lenEq (by omega) (fun r hr0 => by have := hr r hr0; omega), by omega, hc.below
    , hc.free h.lenEq hl hr
    ⟩
theorem SameOn.rfree {lo hi : Nat} {a b : World} {p : Option Addr} {len : Nat} (h : SameOn lo hi a b) (hlt : lo < hi) (x : RowsFree a (fun b => b = lo) (fun b => lo < b ∧ b < hi) p len) : RowsFree b (fun b => b = lo) (fun b => lo < b ∧ b < hi) p len := by
  refine ⟨x.small, fun hp => ?_⟩
  obtain ⟨k, off, hab, hk, hc⟩ := x.cells hp
  refine ⟨k, off, hab, hk, fun i hi => ?_⟩
  obtain ⟨a', l, c, e1, e2, e3⟩ := hc i hi
  exact ⟨a', l, c, by rw [World.cell?_of_block (w := a) (h k (by omega) (by omega))]; exact e1, e2, e3.to (fun q hq => ⟨hq, h q (by omega) hq.2⟩)⟩
/-- a slice of new ints that may be written, and whether -/
def ResPostB (w : World) (xs : List Int) (b : Bool) (e : Ending) (w' : World) : Prop := ∃ (a : Option Addr) (len cap : Nat), e = .returned (.tuple #[.slice a len cap, .bool b]) ∧ IntsAt w' (fun b => w.heap.size ≤ b ∧ b < w'.heap.size) a len xs ∧
  Free w' (fun b => w.heap.size ≤ b ∧ b < w'.heap.size) a len ∧ Below w.heap.size w w'
theorem resPostB_of {w w' : World} {xs : List Int} {b : Bool} {a : Option Addr} {len cap : Nat} (h : ResPost w xs (.returned (.slice a len cap)) w') : ResPostB w xs b (.returned (.tuple #[.slice a len cap, .bool b])) w' := by
  obtain ⟨a', l', c', e, h1, h2, h3⟩ := h
  simp only [Ending.returned.injEq, Value.slice.injEq] at e
  obtain ⟨rfl, rfl, rfl⟩ := e
  exact ⟨_, _, _, rfl, h1, h2, h3⟩
/-- a new slice of these ints, and whether -/
def NewIntsB (w : World) (xs : List Int) (b : Bool) (e : Ending) (w' : World) : Prop := ∃ (a : Option Addr) (len cap : Nat), e = .returned (.tuple #[.slice a len cap, .bool b]) ∧ IntsAt w' (fun b => w.heap.size ≤ b ∧ b < w'.heap.size) a len xs ∧ len ≤ cap ∧ Below w.heap.size w w'
/-- a value, and nothing below written -/
def ValPost (w : World) (v : Value) (e : Ending) (w' : World) : Prop := e = .returned v ∧ Below w.heap.size w w'
end Go.Proofs.Ythmlgicjedhgfab
namespace Go.Proofs.Ythmlgicjedhgfab
open Go.RowKit

/-- a new slice of these ints that may be written, not longer than its array -/
def ResPostC (w : World) (xs : List Int) (e : Ending) (w' : World) : Prop := ∃ (a : Option Addr) (len cap : Nat), e = .returned (.slice a len cap) ∧ IntsAt w' (fun b => w.heap.size ≤ b ∧ b < w'.heap.size) a len xs ∧
  Free w' (fun b => w.heap.size ≤ b ∧ b < w'.heap.size) a len ∧ len ≤ cap ∧ Below w.heap.size w w'
theorem resPostC_nil (w : World) : ResPostC w [] (.returned (.slice none 0 0)) w :=
  ⟨none, 0, 0, rfl, ⟨rfl, Nat.zero_le _, fun h => absurd h (by omega)⟩, ⟨Nat.zero_le _, fun h => absurd h (by omega)⟩, Nat.le_refl _, Below.refl _ _⟩
theorem resPostC_of {w w' : World} {xs : List Int} {a : Option Addr} {len cap : Nat} (h : ResPost w xs (.returned (.slice a len cap)) w') (hc : len ≤ cap) : ResPostC w xs (.returned (.slice a len cap)) w' := by
  obtain ⟨a', l', c', e, h1, h2, h3⟩ := h
  simp only [Ending.returned.injEq, Value.slice.injEq] at e
  obtain ⟨rfl, rfl, rfl⟩ := e
  exact ⟨_, _, _, rfl, h1, h2, hc, h3⟩
theorem ResPostC.res {w w' : World} {xs : List Int} {e : Ending} (h : ResPostC w xs e w') : ResPost w xs e w' := by
  obtain ⟨a', l', c', e1, h1, h2, _, h3⟩ := h
  exact ⟨a', l', c', e1, h1, h2, h3⟩
end Go.Proofs.Ythmlgicjedhgfab
namespace Go.Proofs.Ythmlgicjedhgfab
open Go.RowKit Go.WideShapes

/-- the first n values of f -/
def tab (f : Nat → Int) (n : Nat) : List Int := (List.range n).map f
theorem tab_succ (f : Nat → Int) (n : Nat) : tab f (n + 1) = tab f n ++ [f n] := by simp [tab, List.range_succ]
theorem tab_length (f : Nat → Int) (n : Nat) : (tab f n).length = n := by simp [tab]
theorem tab_get {f : Nat → Int} {n i : Nat} {x : Int} (h : (tab f n)[i]? = some x) : x = f i ∧ i < n := by
  simp only [tab, List.getElem?_map, Option.map_eq_some_iff] at h
  obtain ⟨j, hj, rfl⟩ := h
  obtain ⟨h1, h2⟩ := List.getElem?_eq_some_iff.1 hj
  simp at h1 h2
  subst h2
  exact ⟨rfl, h1⟩
theorem tab_at (f : Nat → Int) {n i : Nat} (h : i < n) : (tab f n)[i]? = some (f i) := by
  simp [tab, h]
theorem tab_getD (f : Nat → Int) {n i : Nat} (h : i < n) : (tab f n).getD i 0 = f i := by
  rw [List.getD_eq_getElem?_getD, tab_at f h]; rfl
theorem tab_congr {f g : Nat → Int} {n : Nat} (h : ∀ q, q < n → f q = g q) : tab f n = tab g n := by
  apply List.map_congr_left
  intro q hq
  exact h q (by simpa using hq)
theorem getD_of {xs : List Int} {k : Nat} {x : Int} (h : xs[k]? = some x) : xs.getD k 0 = x := by rw [List.getD_eq_getElem?_getD, h]; rfl
theorem getD_past {xs : List Int} {k : Nat} (h : xs.length ≤ k) : xs.getD k 0 = 0 := by rw [List.getD_eq_getElem?_getD, List.getElem?_eq_none h]; rfl
theorem get_getD {xs : List Int} {k : Nat} (h : k < xs.length) : xs[k]? = some (xs.getD k 0) := by rw [List.getD_eq_getElem?_getD, List.getElem?_eq_getElem h]; rfl
theorem tab_self (xs : List Int) : tab (fun q => xs.getD q 0) xs.length = xs := by
  apply List.ext_getElem?
  intro i
  rcases Nat.lt_or_ge i xs.length with h | h
  · rw [tab_at _ h, get_getD h]
  · rw [List.getElem?_eq_none h, List.getElem?_eq_none (by rw [tab_length]; exact h)]

/-- the cells of an array are ints, told by their place -/
structure ArrIs (C : Array Value) (len : Nat) (f : Nat → Int) : Prop where
  size : C.size = len
  get : ∀ q, q < len → C[q]? = some (.int .i64 (f q))
theorem ArrIs.made (len : Nat) : ArrIs (madeCells #[.int .i64 0] len) len (fun _ => 0) :=
  ⟨size_madeCells _ _, fun q hq => by simp [madeCells, hq, Nat.mod_one]⟩
theorem ArrIs.congr {C : Array Value} {len : Nat} {f g : Nat → Int} (h : ArrIs C len f) (e : ∀ q, q < len → f q = g q) : ArrIs C len g :=
  ⟨h.size, fun q hq => by rw [h.get q hq, e q hq]⟩
theorem ArrIs.set {C : Array Value} {len : Nat} {f : Nat → Int} (h : ArrIs C len f) (k : Nat) (v : Int) : ArrIs (C.setIfInBounds k (.int .i64 v)) len (fun q => if q = k then v else f q) := by
  refine ⟨by simpa using h.size, fun q hq => ?_⟩
  rw [Array.getElem?_setIfInBounds]
  by_cases e : k = q
  · subst e
    rw [if_pos rfl, if_pos (by rw [h.size]; exact hq)]
    simp
  · rw [if_neg e, h.get q hq, if_neg (fun e' => e e'.symm)]
theorem ArrIs.cells {C : Array Value} {xs : List Int} {len : Nat} {f : Nat → Int} (h : ArrIs C len f) (hl : xs.length = len) (e : ∀ q x, xs[q]? = some x → f q = x) : C = cellsOf xs := by
  refine cellsOf_eq (by rw [h.size, hl]) (fun i x hx => ?_)
  have hi : i < len := by
    rcases Nat.lt_or_ge i xs.length with h' | h'
    · omega
    · simp [List.getElem?_eq_none h'] at hx
  rw [h.get i hi, e i x hx]
theorem ArrIs.tab {C : Array Value} {len : Nat} {f : Nat → Int} (h : ArrIs C len f) : C = cellsOf (tab f len) :=
  h.cells (tab_length f len) (fun _ _ hx => (tab_get hx).1.symm)
theorem ArrIs.at {C : Array Value} {len : Nat} {f : Nat → Int} (h : ArrIs C len f) (w : World) (t : TypeId) {q : Nat} (hq : q < len) :
    (w.alloc (.cells C t)).cell? ⟨w.heap.size, q, none⟩ = some (.int .i64 (f q)) := by
  rw [World.cell?_alloc_new]; exact h.get q hq

/-- what is returned is the one new block -/
theorem resPost_alloc {w : World} {xs : List Int} {len : Nat} {t : TypeId} (hl : xs.length = len) (hs : len ≤ 1048576) :
    ResPost w xs (.returned (.slice (some ⟨w.heap.size, 0, none⟩) len len)) (w.alloc (.cells (cellsOf xs) t)) :=
  resPost_block hl hs (fun q x hx => ⟨by
    rw [World.cell?_alloc_new]
    simp only [cellsOf, List.getElem?_toArray, List.getElem?_map, hx]; rfl, World.frozen?_alloc_new w _ _ _⟩) ((Below.refl _ _).alloc (Nat.le_refl _) _)
end Go.Proofs.Ythmlgicjedhgfab
namespace Go.Proofs.Ythmlgicjedhgfab
open Go.RowKit

theorem inRange_any (n lo hi : Int) (w : World) :
    Calls Try.prog 51 #[.int .i64 n, .int .i64 lo, .int .i64 hi] w fun e w' => e = .returned (.bool (inB lo hi n)) ∧ w = w' := by
  by_cases h1 : lo ≤ n
  · by_cases h2 : n ≤ hi
    · go_enter Try.func51, Try.ntmps51
      go_wp2
      go_ret
      exact ⟨ret_bool (inB_true h1 h2).symm, rfl⟩
    · go_enter Try.func51, Try.ntmps51
      go_wp2
      go_ret
      exact ⟨ret_bool (inB_hi (by omega)).symm, rfl⟩
  · go_enter Try.func51, Try.ntmps51
    go_wp2
    go_ret
    exact ⟨ret_bool (inB_lo (by omega)).symm, rfl⟩
theorem isUpTo_any (n hi : Int) (w : World) :
    Calls Try.prog 49 #[.int .i64 n, .int .i64 hi] w fun e w' => e = .returned (.bool (inB 0 hi n)) ∧ w = w' := by
  by_cases h1 : 0 ≤ n
  · by_cases h2 : n ≤ hi
    · go_enter Try.func49, Try.ntmps49
      go_wp2
      go_ret
      exact ⟨ret_bool (inB_true h1 h2).symm, rfl⟩
    · go_enter Try.func49, Try.ntmps49
      go_wp2
      go_ret
      exact ⟨ret_bool (inB_hi (by omega)).symm, rfl⟩
  · go_enter Try.func49, Try.ntmps49
    go_wp2
    go_ret
    exact ⟨ret_bool (inB_lo (by omega)).symm, rfl⟩
end Go.Proofs.Ythmlgicjedhgfab
