import Derived.Test.YtiapaddmnbeheaaRows
import Derived.WalkKit
import Derived.LoopTactic
import Derived.Outline
import Derived.WalkSpells
import Derived.WalkLawsBesides
import Derived.ProofKit
import Derived.Deep.OwnRows
import Derived.Deep.QuietTactic
import Derived.BigQuiet
import Derived.Test.YtiapaddmnbeheaaLib
import Derived.Test.YtiapaddmnbeheaaGen
namespace Go.Proofs.Ytiapaddmnbeheaa
open Go.RowKit Go.WideShapes Go.Deep

theorem Try.infoIntE : (Try.prog.info? 3).map (fun i => (i.zero, i.size, i.bytes)) = some (some (.int .i64 0), 1, 8) := by kernel_rfl

/-- the copies of ints -/
def cellsOf (xs : List Int) : Array Value := (xs.map (Value.int .i64)).toArray
theorem cellsOf_eq {xs : List Int} {C : Array Value} (hs : C.size = xs.length) (h : ∀ (i : Nat) (x : Int), xs[i]? = some x → C[i]? = some (.int .i64 x)) : C = cellsOf xs := by
  apply Array.ext_getElem?
  intro i
  simp only [cellsOf, List.getElem?_toArray, List.getElem?_map]
  cases hx : xs[i]? with
  | none => rw [Array.getElem?_eq_none (by rw [hs]; simpa using hx)]; rfl
  | some x => rw [h i x hx]; rfl

set_option maxHeartbeats 400000 in
theorem toIntS_any (S : Nat → Prop) (a : Option Addr) (len cap : Nat) (xs : List Int) (w : World) (h : IntsAt w S a len xs) (hS : ∀ b, S b → b < w.heap.size) (hl : len ≤ 1048576) :
    Calls Try.prog 23 #[.slice a len cap] w fun e w' => e = .returned (.slice (some ⟨w.heap.size, 0, none⟩) len len) ∧ w.alloc (.cells (cellsOf xs) 3) = w' := by
  have HL := Lib.hid h.lenEq
  have hmk := fun w => run_make_row' (P := Try.prog) 23 3 (.int .i64 0) 8 Try.underlying23 Try.infoIntE rfl .i64 .i64 len (by omega) (by omega) w
  go_enter Try.func23, Try.ntmps23
  go_wp2
  clear hmk
  go_loopw [4] (fun i wr => ∃ (k : Nat) (C : Array Value), k ≤ len ∧ i = .int .i64 k ∧ wr = w.alloc (.cells C 3) ∧ C.size = len ∧ ∀ (i : Nat) (x : Int), i < k → xs[i]? = some x → C[i]? = some (.int .i64 x)) (fun i _ => len - (intOf i).toNat)
  case atStart => exact ⟨0, _, Nat.zero_le _, rfl, rfl, size_madeCells _ _, fun i x hi => absurd hi (by omega)⟩
  case round =>
    obtain ⟨k, C, hk, rfl, rfl, hC, hx⟩ := hrel
    have HC := Lib.hid hC
    have HX := Lib.hid hx
    clear hC hx
    by_cases hlt : k < len
    · obtain ⟨b, off, x, rfl, hx, hc⟩ := h.get hlt
      obtain ⟨b', off', hb1, hb2, _⟩ := h.cells (by omega)
      have hb : b < w.heap.size := hS b (by cases hb1; exact hb2)
      clear hb1 hb2
      have H := Lib.hid hx
      clear hx
      have hck : C[k]? = some (C[k]'(by rw [HC.out]; exact hlt)) := Array.getElem?_eq_getElem _
      generalize C[k]'(by rw [HC.out]; exact hlt) = c0 at hck
      go_wp2
      go_roundw
      case rel =>
        refine ⟨k + 1, C.setIfInBounds k (.int .i64 x), by omega, by go_num, rfl, by simp [HC.out], fun i y hi hy => ?_⟩
        rw [Array.getElem?_setIfInBounds]
        by_cases hik : k = i
        · subst hik
          rw [if_pos rfl, if_pos (by rw [HC.out]; exact hlt)]
          have e := H.out.symm.trans hy
          simp only [Option.some.injEq] at e
          rw [e]
        · rw [if_neg hik]
          exact HX.out i y (by omega) hy
      case measure => simp [intOf]; omega
    · go_wp2
      go_ret
      have hl := HL.out
      refine ⟨rfl, ?_⟩
      rw [cellsOf_eq (xs := xs) (C := C) (by rw [HC.out, hl]) (fun i x hx => HX.out i x (by
        rcases Nat.lt_or_ge i xs.length with h' | h'
        · omega
        · simp [List.getElem?_eq_none h'] at hx) hx)]
/-- block B holds the slices of k copied rows, and block B + 1 + j the ints of row j -/
structure Copying (w wr : World) (len k : Nat) (rows : List (List Int)) : Prop where
  size : wr.heap.size = w.heap.size + 1 + k
  below : Below w.heap.size w wr
  top : ∃ C : Array Value, wr.heap[w.heap.size]? = some (.cells C 23 (0, 0)) ∧ C.size = len ∧
    ∀ (j : Nat) (r : List Int), j < k → rows[j]? = some r → C[j]? = some (.slice (some ⟨w.heap.size + 1 + j, 0, none⟩) r.length r.length)
  rows : ∀ (j : Nat) (r : List Int), j < k → rows[j]? = some r → wr.heap[w.heap.size + 1 + j]? = some (.cells (cellsOf r) 3 (0, 0))

theorem copying_start (w : World) (len : Nat) (rows : List (List Int)) : Copying w (w.alloc (.cells (madeCells #[.slice none 0 0] len) 23)) len 0 rows :=
  ⟨by simp, (Below.refl _ _).alloc (Nat.le_refl _) _, ⟨_, heap_alloc_new w _, size_madeCells _ _, fun j r h => absurd h (by omega)⟩, fun j r h => absurd h (by omega)⟩

theorem Copying.cell {w wr : World} {len k : Nat} {rows : List (List Int)} (h : Copying w wr len k rows) {j : Nat} (hj : j < len) : ∃ c, wr.cell? ⟨w.heap.size, j, none⟩ = some c ∧ wr.frozen? ⟨w.heap.size, j, none⟩ = false := by
  obtain ⟨C, h1, h2, _⟩ := h.top
  refine ⟨C[j]'(by omega), ?_, ?_⟩
  · simp only [World.cell?, h1]; exact Array.getElem?_eq_getElem _
  · simp [World.frozen?, h1]

theorem Copying.step {w wr : World} {len k : Nat} {rows : List (List Int)} {r : List Int} (h : Copying w wr len k rows) (hk : k < len) (hr : rows[k]? = some r) :
    Copying w ((wr.setCell ⟨w.heap.size, k, none⟩ (.slice (some ⟨wr.heap.size, 0, none⟩) r.length r.length)).alloc (.cells (cellsOf r) 3)) len (k + 1) rows := by
  have hs := h.size
  obtain ⟨C, h1, h2, h3⟩ := h.top
  have hsz : (wr.setCell ⟨w.heap.size, k, none⟩ (.slice (some ⟨wr.heap.size, 0, none⟩) r.length r.length)).heap.size = wr.heap.size := by simp [World.setCell]
  refine ⟨by simp [hsz]; omega, (h.below.setCell (Nat.le_refl _) _).alloc (by rw [hsz]; omega) _, ⟨C.setIfInBounds k (.slice (some ⟨wr.heap.size, 0, none⟩) r.length r.length), ?_, by simpa using h2, fun j r' hj hr' => ?_⟩, fun j r' hj hr' => ?_⟩
  · rw [Below.heap_alloc _ _ _ (by rw [hsz]; omega)]
    exact heap_setCell_same wr w.heap.size k C _ _ h1
  · rw [Array.getElem?_setIfInBounds]
    by_cases e : k = j
    · subst e
      rw [if_pos rfl, if_pos (by omega)]
      have e' := hr.symm.trans hr'
      simp only [Option.some.injEq] at e'
      rw [← e', hs]
    · rw [if_neg e]; exact h3 j r' (by omega) hr'
  · by_cases e : k = j
    · subst e
      have e' := hr.symm.trans hr'
      simp only [Option.some.injEq] at e'
      rw [← e', show w.heap.size + 1 + k = (wr.setCell ⟨w.heap.size, k, none⟩ (.slice (some ⟨wr.heap.size, 0, none⟩) r.length r.length)).heap.size by rw [hsz]; omega]
      exact heap_alloc_new _ _
    · rw [Below.heap_alloc _ _ _ (by rw [hsz]; omega), Below.heap_setCell _ _ _ _ (by show _ ≠ w.heap.size; omega)]
      exact h.rows j r' (by omega) hr'

theorem cell_cellsOf {w : World} {b i : Nat} {r : List Int} {x : Int} {t : TypeId} (h : w.heap[b]? = some (.cells (cellsOf r) t (0, 0))) (hx : r[i]? = some x) : w.cell? ⟨b, i, none⟩ = some (.int .i64 x) := by
  simp only [World.cell?, h]
  show (cellsOf r)[i]? = _
  simp only [cellsOf, List.getElem?_toArray, List.getElem?_map, hx]; rfl

theorem Copying.rowsAt {w wr : World} {len : Nat} {rows : List (List Int)} (h : Copying w wr len len rows) (hl : rows.length = len) (hs : len ≤ 9223372036854775807) (hr : ∀ r ∈ rows, r.length ≤ 9223372036854775807) :
    RowsAt wr (fun b => w.heap.size ≤ b ∧ b < wr.heap.size) (some ⟨w.heap.size, 0, none⟩) len rows := by
  obtain ⟨C, h1, h2, h3⟩ := h.top
  have hz := h.size
  refine ⟨hl, hs, fun h0 => ⟨w.heap.size, 0, rfl, ⟨Nat.le_refl _, by omega⟩, fun i r hi => ?_⟩⟩
  have hil : i < len := by
    rcases Nat.lt_or_ge i rows.length with h' | h'
    · omega
    · simp [List.getElem?_eq_none h'] at hi
  refine ⟨some ⟨w.heap.size + 1 + i, 0, none⟩, r.length, r.length, ?_, Nat.le_refl _, rfl, hr r (List.mem_of_getElem? hi), fun _ => ⟨_, 0, rfl, ⟨by omega, by omega⟩, fun j x hx => ?_⟩⟩
  · rw [Nat.zero_add]
    simp only [World.cell?, h1]
    exact h3 i r hil hi
  · rw [Nat.zero_add]
    exact cell_cellsOf (h.rows i r hil hi) hx

theorem Try.infoIntsE : (Try.prog.info? 23).map (fun i => (i.zero, i.size, i.bytes)) = some (some (.slice none 0 0), 1, 24) := by kernel_rfl

def CopyPost (w : World) (len : Nat) (rows : List (List Int)) (e : Ending) (w' : World) : Prop := e = .returned (.slice (some ⟨w.heap.size, 0, none⟩) len len) ∧ Copying w w' len len rows

set_option maxHeartbeats 400000 in
theorem toIntSS_any (S : Nat → Prop) (a : Option Addr) (len cap : Nat) (rows : List (List Int)) (w : World) (h : RowsAt w S a len rows) (hS : ∀ b, S b → b < w.heap.size) (hl : len ≤ 1048576) (hr : ∀ r ∈ rows, r.length ≤ 1048576) :
    Calls Try.prog 24 #[.slice a len cap] w (CopyPost w len rows) := by
  have HL := Lib.hid h.lenEq
  have hmk := fun w => run_make_row' (P := Try.prog) 24 23 (.slice none 0 0) 24 Try.underlying24 Try.infoIntsE rfl .i64 .i64 len (by omega) (by omega) w
  go_enter Try.func24, Try.ntmps24
  go_wp2
  clear hmk
  go_loopw [4] (fun i wr => ∃ (k : Nat), k ≤ len ∧ i = .int .i64 k ∧ Copying w wr len k rows) (fun i _ => len - (intOf i).toNat)
  case atStart => exact ⟨0, Nat.zero_le _, rfl, copying_start w len rows⟩
  case round =>
    obtain ⟨k, hk, rfl, hco⟩ := hrel
    by_cases hlt : k < len
    · have hB := hco.below
      have hw : RowsAt wr (fun b => b < w.heap.size) a len rows := h.to (fun b hb => ⟨hS b hb, hB.block b (hS b hb)⟩)
      obtain ⟨b, off, r, a', l, c, rfl, hx, hc, _, hri⟩ := hw.get hlt
      have hl' : l ≤ 1048576 := by rw [← hri.lenEq]; exact hr r (List.mem_of_getElem? hx)
      have HX := Lib.hid hx
      have HRL := Lib.hid hri.lenEq
      clear hx
      have hsz := hco.size
      have hws : w.heap.size < wr.heap.size := by omega
      obtain ⟨c0, hc1, hf1⟩ := hco.cell hlt
      have HS := Lib.hid hsz
      clear hsz
      go_wp2_with fail
      refine (toIntS_any _ a' l c r _ hri (fun b hb => by omega) hl').mono ?_
      rintro e w3 ⟨rfl, rfl⟩
      go_wp2
      go_roundw
      case rel => exact ⟨k + 1, by omega, by go_num, by have := hco.step hlt HX.out; rw [HRL.out] at this; exact this⟩
      case measure => simp [intOf]; omega
    · go_wp2
      go_ret
      have : k = len := by omega
      subst this
      exact ⟨rfl, hco⟩
theorem szIntS_any (a : Option Addr) (len cap : Nat) (left : Int) (w : World) (h0 : 0 ≤ left) (h1 : left ≤ 1048576) (hs : len ≤ 9223372036854775807) :
    Calls Try.prog 21 #[.slice a len cap, .int .i64 left] w fun e w' => ∃ q : Int, e = .returned (.int .i64 q) ∧ q ≤ left ∧ (0 ≤ q → (len : Int) ≤ left) ∧ w = w' := by
  by_cases h : (len : Int) ≤ left
  · go_enter Try.func21, Try.ntmps21
    go_wp2
    go_ret
    exact ⟨_, rfl, by omega, fun _ => h, rfl⟩
  · go_enter Try.func21, Try.ntmps21
    go_wp2
    go_ret
    exact ⟨_, rfl, by omega, fun h => absurd h (by omega), rfl⟩

def SizePost (w : World) (left : Int) (len : Nat) (rows : List (List Int)) (e : Ending) (w' : World) : Prop := ∃ q : Int, e = .returned (.int .i64 q) ∧ q ≤ left ∧ (0 ≤ q → (len : Int) ≤ left ∧ ∀ r ∈ rows, (r.length : Int) ≤ left) ∧ w = w'
theorem szIntSS_any (S : Nat → Prop) (a : Option Addr) (len cap : Nat) (rows : List (List Int)) (left : Int) (w : World) (h : RowsAt w S a len rows) (h0 : 0 ≤ left) (h1 : left ≤ 1048576) :
    Calls Try.prog 22 #[.slice a len cap, .int .i64 left] w (SizePost w left len rows) := by
  have hs := h.small
  by_cases hl : (len : Int) ≤ left
  · have HL := Lib.hid h.lenEq
    go_enter Try.func22, Try.ntmps22
    go_wp2
    go_loop [1, 5] (fun q i => ∃ (k : Nat) (n : Int), k ≤ len ∧ i = .int .i64 k ∧ q = .int .i64 n ∧ 0 ≤ n ∧ n ≤ left ∧ ∀ r ∈ rows.take k, (r.length : Int) ≤ left) (fun _ i => len - (intOf i).toNat)
    case atStart => exact ⟨0, _, Nat.zero_le _, rfl, rfl, by omega, by omega, fun r hr => by simp at hr⟩
    case round =>
      obtain ⟨k, n, hk, rfl, rfl, hn0, hn1, hr⟩ := hrel
      have HR := Lib.hid hr
      clear hr
      by_cases hlt : k < len
      · obtain ⟨b, off, r, a', l, c, rfl, hx, hc, _, hri⟩ := h.get hlt
        have hsl := hri.small
        have HX := Lib.hid hx
        have HRL := Lib.hid hri.lenEq
        clear hx
        go_wp2_with fail
        refine (szIntS_any a' l c n _ hn0 (by omega) hsl).mono ?_
        rintro e w2 ⟨q, rfl, hq1, hq2, rfl⟩
        by_cases hq0 : 0 ≤ q
        · have hq2' := hq2 hq0
          go_wp2
          go_round
          case rel =>
            refine ⟨k + 1, q, by omega, by go_num, rfl, hq0, by omega, fun r' hr' => ?_⟩
            rw [take_get HX.out] at hr'
            rcases List.mem_append.1 hr' with h' | h'
            · exact HR.out r' h'
            · simp only [List.mem_singleton] at h'; rw [h', HRL.out]; omega
          case measure => simp [intOf]; omega
        · go_wp2
          go_ret
          exact ⟨_, rfl, by omega, fun h => absurd h (by omega), rfl⟩
      · go_wp2
        go_ret
        have hl' := HL.out
        have hr := HR.out
        rw [List.take_of_length_le (by omega)] at hr
        exact ⟨_, rfl, by omega, fun _ => ⟨hl, hr⟩, rfl⟩
  · go_enter Try.func22, Try.ntmps22
    go_wp2
    go_ret
    exact ⟨_, rfl, by omega, fun h => absurd h (by omega), rfl⟩

theorem ne_of_get {α : Type} {xs ys : List α} {k : Nat} {x y : α} (hx : xs[k]? = some x) (hy : ys[k]? = some y) (h : x ≠ y) : xs ≠ ys := by
  rintro rfl
  rw [hx] at hy
  exact h (by simpa using hy)
theorem take_eq_step {α : Type} {xs ys : List α} {k : Nat} {x : α} (hx : xs[k]? = some x) (hy : ys[k]? = some x) (h : xs.take k = ys.take k) : xs.take (k + 1) = ys.take (k + 1) := by
  rw [take_get hx, take_get hy, h]

def EqPost (w : World) (b : Bool) (e : Ending) (w' : World) : Prop := e = .returned (.bool b) ∧ Drew w w'
def eqB (xs ys : List Int) : Bool := decide (xs = ys)
def eqRB (xs ys : List (List Int)) : Bool := decide (xs = ys)

set_option maxHeartbeats 400000 in
theorem eqIntS_any (S T : Nat → Prop) (a a2 : Option Addr) (len cap len2 cap2 : Nat) (xs ys : List Int) (w : World) (h : IntsAt w S a len xs) (g : IntsAt w T a2 len2 ys) :
    Calls Try.prog 25 #[.slice a len cap, .slice a2 len2 cap2] w (EqPost w (eqB xs ys)) := by
  have hs := h.small
  have hs2 := g.small
  by_cases hll : len = len2
  · subst hll
    go_enter Try.func25, Try.ntmps25
    go_wp2
    go_loopw [5] (fun i wr => ∃ k : Nat, k ≤ len ∧ i = .int .i64 k ∧ xs.take k = ys.take k ∧ Drew w wr) (fun i _ => len - (intOf i).toNat)
    case atStart => exact ⟨0, Nat.zero_le _, rfl, rfl, Drew.refl w⟩
    case round =>
      obtain ⟨k, hk, rfl, ht, hd⟩ := hrel
      have HT := Lib.hid ht
      clear ht
      by_cases hlt : k < len
      · obtain ⟨b, off, x, rfl, hx, hc⟩ := (Drew.ints h hd).get hlt
        obtain ⟨b2, off2, y, rfl, hy, hc2⟩ := (Drew.ints g hd).get hlt
        have HX := Lib.hid hx
        have HY := Lib.hid hy
        clear hx hy
        by_cases hxy : x = y
        · subst hxy
          go_wp2
          go_quiet (fail)
          go_wp2
          go_roundw
          case rel => exact ⟨k + 1, by omega, by go_num, take_eq_step HX.out HY.out HT.out, hd.drew _⟩
          case measure => simp [intOf]; omega
        · go_wp2
          go_quiet (fail)
          go_wp2
          go_ret
          exact ⟨ret_bool (decide_eq_false (ne_of_get HX.out HY.out hxy)).symm, hd.drew _⟩
      · go_wp2
        go_ret
        have e1 := h.lenEq
        have e2 := g.lenEq
        have ht := HT.out
        rw [List.take_of_length_le (by omega), List.take_of_length_le (by omega)] at ht
        exact ⟨ret_bool (decide_eq_true ht).symm, hd⟩
  · have hne : xs ≠ ys := by rintro rfl; exact hll (h.lenEq.symm.trans g.lenEq)
    go_enter Try.func25, Try.ntmps25
    go_wp2
    go_ret
    exact ⟨ret_bool (decide_eq_false hne).symm, Drew.refl w⟩

set_option maxHeartbeats 400000 in
theorem eqIntSS_any (S T : Nat → Prop) (a a2 : Option Addr) (len cap len2 cap2 : Nat) (xs ys : List (List Int)) (w : World) (h : RowsAt w S a len xs) (g : RowsAt w T a2 len2 ys) :
    Calls Try.prog 26 #[.slice a len cap, .slice a2 len2 cap2] w (EqPost w (eqRB xs ys)) := by
  have hs := h.small
  have hs2 := g.small
  by_cases hll : len = len2
  · subst hll
    go_enter Try.func26, Try.ntmps26
    go_wp2
    go_loopw [5] (fun i wr => ∃ k : Nat, k ≤ len ∧ i = .int .i64 k ∧ xs.take k = ys.take k ∧ Drew w wr) (fun i _ => len - (intOf i).toNat)
    case atStart => exact ⟨0, Nat.zero_le _, rfl, rfl, Drew.refl w⟩
    case round =>
      obtain ⟨k, hk, rfl, ht, hd⟩ := hrel
      have HT := Lib.hid ht
      clear ht
      by_cases hlt : k < len
      · obtain ⟨b, off, x, a3, l3, c3, rfl, hx, hc, _, hi⟩ := (Drew.rows h hd).get hlt
        obtain ⟨b2, off2, y, a4, l4, c4, rfl, hy, hc2, _, hi2⟩ := (Drew.rows g hd).get hlt
        have HX := Lib.hid hx
        have HY := Lib.hid hy
        clear hx hy
        have hcall : ∀ n, Calls Try.prog 25 #[.slice a3 l3 c3, .slice a4 l4 c4] (wr.drewN n) (fun e w' => e = .returned (.bool (eqB x y)) ∧ ∃ m, w' = (wr.drewN n).drewN m) :=
          fun n => eqIntS_any S T a3 a4 l3 c3 l4 c4 x y _ (Drew.ints hi ⟨n, rfl⟩) (Drew.ints hi2 ⟨n, rfl⟩)
        have HCALL := Lib.hid hcall
        clear hcall
        by_cases hxy : x = y
        · have hb : eqB x y = true := decide_eq_true hxy
          have HXY := Lib.hid hxy
          clear hxy
          go_wp2
          go_quiet ((go_at_call 25; exact Calls.quiet_of (HCALL.out _)))
          go_wp2
          go_roundw
          case rel => exact ⟨k + 1, by omega, by go_num, take_eq_step HX.out (by rw [HXY.out]; exact HY.out) HT.out, hd.drew _⟩
          case measure => simp [intOf]; omega
        · have hb : eqB x y = false := decide_eq_false hxy
          go_wp2
          go_quiet ((go_at_call 25; exact Calls.quiet_of (HCALL.out _)))
          go_wp2
          go_ret
          exact ⟨ret_bool (decide_eq_false (ne_of_get HX.out HY.out hxy)).symm, hd.drew _⟩
      · go_wp2
        go_ret
        have e1 := h.lenEq
        have e2 := g.lenEq
        have ht := HT.out
        rw [List.take_of_length_le (by omega), List.take_of_length_le (by omega)] at ht
        exact ⟨ret_bool (decide_eq_true ht).symm, hd⟩
  · have hne : xs ≠ ys := by rintro rfl; exact hll (h.lenEq.symm.trans g.lenEq)
    go_enter Try.func26, Try.ntmps26
    go_wp2
    go_ret
    exact ⟨ret_bool (decide_eq_false hne).symm, Drew.refl w⟩
end Go.Proofs.Ytiapaddmnbeheaa
