import Derived.WalkKit
import Derived.Lib.Hide
import Derived.Below
import Derived.Deep.Draws
import Derived.ProofKit
import Derived.Deep.Matrix
import Derived.Laws.Bits64
import Derived.Test.YthmifadnfaajbadRows
import Derived.LoopTactic
import Derived.Outline
import Derived.WalkSpells
import Derived.WalkLawsBesides
namespace Go.Proofs.Ythmifadnfaajbad
open Go.RowKit

/-- the slice (a, len) of ints reads as xs, in a block of S -/
structure IntsAt (w : World) (S : Nat → Prop) (a : Option Addr) (len : Nat) (xs : List Int) : Prop where
  lenEq : xs.length = len
  small : len ≤ 9223372036854775807
  cells : 0 < len → ∃ b off, a = some ⟨b, off, none⟩ ∧ S b ∧ ∀ i x, xs[i]? = some x → w.cell? ⟨b, off + i, none⟩ = some (.int .i64 x)

theorem IntsAt.get {w : World} {S : Nat → Prop} {a : Option Addr} {len : Nat} {xs : List Int} (h : IntsAt w S a len xs) {k : Nat} (hk : k < len) :
    ∃ b off x, a = some ⟨b, off, none⟩ ∧ xs[k]? = some x ∧ w.cell? ⟨b, off + k, none⟩ = some (.int .i64 x) := by
  obtain ⟨b, off, ha, _, hc⟩ := h.cells (by omega)
  have hl := h.lenEq
  have hx : xs[k]? = some xs[k] := List.getElem?_eq_getElem (by omega)
  exact ⟨b, off, _, ha, hx, hc _ _ hx⟩

theorem take_get {α : Type} {xs : List α} {k : Nat} {x : α} (h : xs[k]? = some x) : xs.take (k + 1) = xs.take k ++ [x] := by
  rw [List.take_add_one, h]; rfl

theorem ret_bool {a b : Bool} (h : a = b) : Ending.returned (.bool a) = Ending.returned (.bool b) := by rw [h]
theorem ret_int {k : IntKind} {a b : Int} (h : a = b) : Ending.returned (.int k a) = Ending.returned (.int k b) := by rw [h]

/-- how each law ends -/
def LawPost (w : World) (e : Ending) (w' : World) : Prop := e = .returned (.bool true) ∧ Below w.heap.size w w'

def inB (lo hi : Int) (x : Int) : Bool := decide (lo ≤ x ∧ x ≤ hi)
def allIn (lo hi : Int) (xs : List Int) : Bool := xs.all (inB lo hi)
theorem inB_true {lo hi x : Int} (h1 : lo ≤ x) (h2 : x ≤ hi) : inB lo hi x = true := decide_eq_true ⟨h1, h2⟩
theorem inB_lo {lo hi x : Int} (h1 : x < lo) : inB lo hi x = false := decide_eq_false (by omega)
theorem inB_hi {lo hi x : Int} (h1 : hi < x) : inB lo hi x = false := decide_eq_false (by omega)
theorem allIn_snoc (lo hi : Int) (xs : List Int) (x : Int) : allIn lo hi (xs ++ [x]) = (allIn lo hi xs && inB lo hi x) := by
  simp [allIn]
theorem allIn_false {lo hi : Int} {xs : List Int} {k : Nat} {x : Int} (h : xs[k]? = some x) (hx : inB lo hi x = false) : allIn lo hi xs = false := by
  unfold allIn
  rw [List.all_eq_false]
  exact ⟨x, List.mem_of_getElem? h, by simp [hx]⟩

/-- the slice (a, len) of slices of ints reads as rows, in blocks of S -/
structure RowsAt (w : World) (S : Nat → Prop) (a : Option Addr) (len : Nat) (rows : List (List Int)) : Prop where
  lenEq : rows.length = len
  small : len ≤ 9223372036854775807
  cells : 0 < len → ∃ b off, a = some ⟨b, off, none⟩ ∧ S b ∧ ∀ i r, rows[i]? = some r → ∃ a' l c, w.cell? ⟨b, off + i, none⟩ = some (.slice a' l c) ∧ l ≤ c ∧ IntsAt w S a' l r

theorem RowsAt.get {w : World} {S : Nat → Prop} {a : Option Addr} {len : Nat} {rows : List (List Int)} (h : RowsAt w S a len rows) {k : Nat} (hk : k < len) :
    ∃ b off r a' l c, a = some ⟨b, off, none⟩ ∧ rows[k]? = some r ∧ w.cell? ⟨b, off + k, none⟩ = some (.slice a' l c) ∧ l ≤ c ∧ IntsAt w S a' l r := by
  obtain ⟨b, off, ha, _, hc⟩ := h.cells (by omega)
  have hl := h.lenEq
  have hx : rows[k]? = some rows[k] := List.getElem?_eq_getElem (by omega)
  obtain ⟨a', l, c, h1, h2, h3⟩ := hc _ _ hx
  exact ⟨b, off, _, a', l, c, ha, hx, h1, h2, h3⟩

def rowOk (i : Nat) (r : List Int) : Bool := r.length == i && allIn 0 3 r
def okRows : Nat → List (List Int) → Bool
  | _, [] => true
  | i, r :: rs => rowOk i r && okRows (i + 1) rs
theorem okRows_snoc (rs : List (List Int)) (r : List Int) : ∀ i, okRows i (rs ++ [r]) = (okRows i rs && rowOk (i + rs.length) r) := by
  induction rs with
  | nil => intro i; simp [okRows]
  | cons a l ih => intro i; simp only [List.cons_append, okRows, ih, List.length_cons, Bool.and_assoc]; rw [show i + 1 + l.length = i + (l.length + 1) by omega]
theorem okRows_false {rs : List (List Int)} {r : List Int} {k : Nat} (h : rs[k]? = some r) (hr : rowOk k r = false) : okRows 0 rs = false := by
  have hk : k < rs.length := by
    rcases Nat.lt_or_ge k rs.length with h' | h'
    · exact h'
    · simp [List.getElem?_eq_none h'] at h
  have key : ∀ (rs : List (List Int)) (k i : Nat), rs[k]? = some r → rowOk (i + k) r = false → okRows i rs = false := by
    intro rs
    induction rs with
    | nil => intro k i h _; simp at h
    | cons a l ih =>
      intro k i h hr
      cases k with
      | zero => simp at h; subst h; simp at hr; simp [okRows, hr]
      | succ k => simp at h; rw [okRows, ih k (i + 1) h (by rw [show i + 1 + k = i + (k + 1) by omega]; exact hr)]; simp
  exact key rs k 0 h (by simpa using hr)
theorem rowOk_len {i : Nat} {r : List Int} (h : r.length ≠ i) : rowOk i r = false := by simp [rowOk, h]
theorem rowOk_all {i : Nat} {r : List Int} (h : allIn 0 3 r = false) : rowOk i r = false := by simp [rowOk, h]
theorem rowOk_mk {i : Nat} {r : List Int} (h : r.length = i) (h' : allIn 0 3 r = true) : rowOk i r = true := by simp [rowOk, h, h']
theorem okRows_step {rows : List (List Int)} {r : List Int} {k : Nat} (h : rows[k]? = some r) (ha : okRows 0 (rows.take k) = true) (hr : rowOk k r = true) : okRows 0 (rows.take (k + 1)) = true := by
  have hk : k < rows.length := by
    rcases Nat.lt_or_ge k rows.length with h' | h'
    · exact h'
    · simp [List.getElem?_eq_none h'] at h
  rw [take_get h, okRows_snoc, ha, List.length_take_of_le (by omega), Nat.zero_add, hr]; rfl
theorem allIn_step {lo hi : Int} {xs : List Int} {x : Int} {k : Nat} (h : xs[k]? = some x) (ha : allIn lo hi (xs.take k) = true) (hr : inB lo hi x = true) : allIn lo hi (xs.take (k + 1)) = true := by
  rw [take_get h, allIn_snoc, ha, hr]; rfl
def validBillM (rows : List (List Int)) : Bool := inB 1 6 rows.length && okRows 0 rows


theorem IntsAt.to {w w' : World} {S S' : Nat → Prop} {a : Option Addr} {len : Nat} {xs : List Int} (h : IntsAt w S a len xs)
    (hg : ∀ b, S b → S' b ∧ w'.heap[b]? = w.heap[b]?) : IntsAt w' S' a len xs := by
  refine ⟨h.lenEq, h.small, fun hl => ?_⟩
  obtain ⟨b, off, ha, hs, hc⟩ := h.cells hl
  exact ⟨b, off, ha, (hg b hs).1, fun i x hx => by rw [World.cell?_of_block (w := w) (hg b hs).2]; exact hc i x hx⟩
theorem RowsAt.to {w w' : World} {S S' : Nat → Prop} {a : Option Addr} {len : Nat} {rows : List (List Int)} (h : RowsAt w S a len rows)
    (hg : ∀ b, S b → S' b ∧ w'.heap[b]? = w.heap[b]?) : RowsAt w' S' a len rows := by
  refine ⟨h.lenEq, h.small, fun hl => ?_⟩
  obtain ⟨b, off, ha, hs, hc⟩ := h.cells hl
  refine ⟨b, off, ha, (hg b hs).1, fun i r hr => ?_⟩
  obtain ⟨a', l, c, h1, h2, h3⟩ := hc i r hr
  exact ⟨a', l, c, by rw [World.cell?_of_block (w := w) (hg b hs).2]; exact h1, h2, h3.to hg⟩
theorem IntsAt.below {w w' : World} {n : Nat} {a : Option Addr} {len : Nat} {xs : List Int} (h : IntsAt w (· < n) a len xs) (hb : Below n w w') : IntsAt w' (· < n) a len xs :=
  h.to fun b hb' => ⟨hb', hb.block b hb'⟩
theorem RowsAt.below {w w' : World} {n : Nat} {a : Option Addr} {len : Nat} {rows : List (List Int)} (h : RowsAt w (· < n) a len rows) (hb : Below n w w') : RowsAt w' (· < n) a len rows :=
  h.to fun b hb' => ⟨hb', hb.block b hb'⟩
theorem IntsAt.lit {W : World} {cs : Array Value} {t : TypeId} {xs : List Int} {b len : Nat} (hcs : cs.toList = xs.map (.int .i64)) (hlen : xs.length = len) (hb : b = W.heap.size) (hs : len ≤ 9223372036854775807) :
    IntsAt (W.alloc (.cells cs t)) (fun k => k = b) (some ⟨b, 0, none⟩) len xs := by
  subst hb
  refine ⟨hlen, hs, fun _ => ⟨_, _, rfl, rfl, fun i x hx => ?_⟩⟩
  rw [Nat.zero_add, World.cell?_alloc_new, ← Array.getElem?_toList, hcs, List.getElem?_map, hx]; rfl
theorem RowsAt.mem {w : World} {S : Nat → Prop} {b off len : Nat} {rows : List (List Int)} (h : RowsAt w S (some ⟨b, off, none⟩) len rows) (h0 : 0 < len) : S b := by
  obtain ⟨b', off', e, hs, _⟩ := h.cells h0
  cases e
  exact hs
theorem IntsAt.mem {w : World} {S : Nat → Prop} {b off len : Nat} {xs : List Int} (h : IntsAt w S (some ⟨b, off, none⟩) len xs) (h0 : 0 < len) : S b := by
  obtain ⟨b', off', e, hs, _⟩ := h.cells h0
  cases e
  exact hs
theorem RowsAt.take {w : World} {S : Nat → Prop} {a : Option Addr} {len : Nat} {rows : List (List Int)} (h : RowsAt w S a len rows) (k : Nat) (hk : k ≤ len) : RowsAt w S a k (rows.take k) := by
  have hl := h.lenEq
  have hs := h.small
  refine ⟨by simp; omega, by omega, fun h0 => ?_⟩
  obtain ⟨b, off, ha, hs, hc⟩ := h.cells (by omega)
  refine ⟨b, off, ha, hs, fun i r hr => hc i r ?_⟩
  rw [List.getElem?_take] at hr
  split at hr
  · exact hr
  · cases hr
/-- nothing but draws -/
def Drew (w w' : World) : Prop := ∃ q, w' = w.drewN q
theorem Drew.refl (w : World) : Drew w w := ⟨0, rfl⟩
theorem Drew.drew {w wr : World} (h : Drew w wr) (q : Nat) : Drew w (wr.drewN q) := by
  obtain ⟨p, rfl⟩ := h
  exact ⟨p + q, World.drewN_drewN _ _ _⟩
theorem Drew.rows {w wr : World} {S : Nat → Prop} {a : Option Addr} {len : Nat} {rows : List (List Int)} (h : RowsAt w S a len rows) (d : Drew w wr) : RowsAt wr S a len rows := by
  obtain ⟨q, rfl⟩ := d
  exact h.to (fun b hb => ⟨hb, rfl⟩)
theorem Drew.ints {w wr : World} {S : Nat → Prop} {a : Option Addr} {len : Nat} {xs : List Int} (h : IntsAt w S a len xs) (d : Drew w wr) : IntsAt wr S a len xs := by
  obtain ⟨q, rfl⟩ := d
  exact h.to (fun b hb => ⟨hb, rfl⟩)
theorem Drew.below {w wr : World} (d : Drew w wr) (B : Nat) : Below B w wr := by
  obtain ⟨q, rfl⟩ := d
  exact ⟨rfl, rfl, rfl, Nat.le_refl _, fun _ _ => rfl⟩
theorem Drew.size {w wr : World} (d : Drew w wr) : wr.heap.size = w.heap.size := by
  obtain ⟨q, rfl⟩ := d
  rfl
end Go.Proofs.Ythmifadnfaajbad
namespace Go.Proofs.Ythmifadnfaajbad
open Go.RowKit Go.ChangeShapes Go.WideShapes Go.Deep

theorem lt_of_cell {W : World} {b o : Nat} {v : Value} (h : W.cell? ⟨b, o, none⟩ = some v) : b < W.heap.size := by
  rcases Nat.lt_or_ge b W.heap.size with h' | h'
  · exact h'
  · simp [World.cell?, Array.getElem?_eq_none h'] at h

theorem intsAt_of {W : World} {a : Option Addr} {len cap : Nat} {zs : List Int} (hl : len ≤ cap) (hm : cap ≤ maxLen) (hz : zs.length = cap) (hn : a = none → cap = 0)
    (hc : ∀ a', a = some a' → ∀ c, c < cap → W.cell? (a'.add c) = some (.int .i64 (zs.getD c 0))) : IntsAt W (· < W.heap.size) a len (zs.take len) := by
  refine ⟨by simp; omega, by unfold maxLen at hm; omega, fun h0 => ?_⟩
  cases a with
  | none => have := hn rfl; omega
  | some a =>
    obtain ⟨b, off, spot⟩ := a
    have hspot : spot = none := by simpa [Addr.add] using World.cell?_spot (hc _ rfl 0 (by omega))
    subst hspot
    have hb : ∀ c, c < cap → W.cell? ⟨b, off + c, none⟩ = some (.int .i64 (zs.getD c 0)) := fun c hc' => by rw [← add_plain]; exact hc _ rfl c hc'
    refine ⟨b, off, rfl, lt_of_cell (hb 0 (by omega)), fun i x hx => ?_⟩
    rw [List.getElem?_take] at hx
    split at hx
    · rw [hb i (by omega), List.getD_eq_getElem?_getD, hx]; rfl
    · cases hx

theorem rowsAt_of {W : World} {a : Addr} {len cap : Nat} {A : Nat → Option Addr} {L C : Nat → Nat} {Z : Nat → List Int} {B : Nat} (hl : len ≤ cap) (hm : cap ≤ maxLen)
    (hx : ∀ r, r < cap → W.cell? (a.add r) = some (.slice (A r) (L r) (C r)) ∧ L r ≤ C r ∧ C r ≤ maxLen ∧ (Z r).length = C r ∧ (∀ n ∈ Z r, (Lit.int .i64 n).wf = true) ∧ (A r = none → C r = 0) ∧
        ∀ a', A r = some a' → B ≤ a'.block ∧ ∀ c, c < C r → W.cell? (a'.add c) = some (.int .i64 ((Z r).getD c 0))) :
    RowsAt W (· < W.heap.size) (some a) len ((List.range len).map fun r => (Z r).take (L r)) := by
  refine ⟨by simp, by unfold maxLen at hm; omega, fun h0 => ?_⟩
  obtain ⟨b, off, spot⟩ := a
  have hspot : spot = none := by simpa [Addr.add] using World.cell?_spot (hx 0 (by omega)).1
  subst hspot
  refine ⟨b, off, rfl, lt_of_cell (o := off + 0) (by rw [← add_plain]; exact (hx 0 (by omega)).1), fun i r hr => ?_⟩
  rw [List.getElem?_map] at hr
  obtain ⟨j, hj, rfl⟩ := Option.map_eq_some_iff.1 hr
  obtain ⟨hj1, hj2⟩ := List.getElem?_eq_some_iff.1 hj
  simp at hj1 hj2
  subst hj2
  obtain ⟨e1, e2, e3, e4, _, e6, e7⟩ := hx i (by omega)
  exact ⟨A i, L i, C i, by rw [← add_plain]; exact e1, e2, intsAt_of e2 e3 e4 e6 (fun a' ha c hc => (e7 a' ha).2 c hc)⟩
section
variable {H : Type} {enc : TypeId × Value → H} {P : Program} {W : World}
theorem open_rows_arg {t e q : TypeId} {a : Option Addr} {len cap : Nat} {d : DataW H} {p : List MemPlace} (ht : P.underlying t = some (.slice e)) (he : P.underlying e = some (.slice q)) (hq : P.underlying q = some (.int .i64))
    (ce : P.cellsOf e = 1) (cq : P.cellsOf q = 1) (h : DataW.Trod enc P W 0 (fun _ => true) true t (.slice a len cap) d p) : ∃ rows, RowsAt W (· < W.heap.size) a len rows := by
  obtain ⟨fuel, hf⟩ := h
  rcases open_int_rows ht he hq ce cq hf with ⟨hcs, _⟩ | ⟨a, len', cap', A, L, C, Z, hcs, _, hl, hmx, _, hx⟩
  · simp [Value.cells] at hcs
    obtain ⟨rfl, rfl, rfl⟩ := hcs
    exact ⟨[], rfl, Nat.zero_le _, fun h => absurd h (by omega)⟩
  · simp [Value.cells] at hcs
    obtain ⟨rfl, rfl, rfl⟩ := hcs
    exact ⟨_, rowsAt_of hl hmx hx⟩
theorem open_ints_arg {t e : TypeId} {a : Option Addr} {len cap : Nat} {d : DataW H} {p : List MemPlace} (ht : P.underlying t = some (.slice e)) (he : P.underlying e = some (.int .i64))
    (ce : P.cellsOf e = 1) (h : DataW.Trod enc P W 0 (fun _ => true) true t (.slice a len cap) d p) : ∃ xs, IntsAt W (· < W.heap.size) a len xs := by
  obtain ⟨fuel, hf⟩ := h
  rcases open_ints ht he ce hf with ⟨hcs, _⟩ | ⟨a, len', cap', zs, hcs, _, hl, hmx, hz, _, hcell, _⟩
  · simp [Value.cells] at hcs
    obtain ⟨rfl, rfl, rfl⟩ := hcs
    exact ⟨[], rfl, Nat.zero_le _, fun h => absurd h (by omega)⟩
  · simp [Value.cells] at hcs
    obtain ⟨rfl, rfl, rfl⟩ := hcs
    simp only [if_true] at hz
    exact ⟨_, intsAt_of hl hmx hz (fun h => by cases h) (fun a' ha c hc => by cases ha; exact hcell c (by omega))⟩
end
theorem rowsAt_nil (W : World) : RowsAt W (· < W.heap.size) none 0 [] := ⟨rfl, Nat.zero_le _, fun h => absurd h (by omega)⟩
theorem intsAt_nil (W : World) : IntsAt W (· < W.heap.size) none 0 [] := ⟨rfl, Nat.zero_le _, fun h => absurd h (by omega)⟩
end Go.Proofs.Ythmifadnfaajbad
namespace Go.Proofs.Ythmifadnfaajbad
open Go.RowKit

/-- the byte slice (a, n) can be read; its bytes lie below block B -/
def BytesAt (w : World) (B : Nat) (a : Option Addr) (n : Nat) : Prop :=
  0 < n → ∃ b off, a = some ⟨b, off, none⟩ ∧ b < B ∧ ∀ i, i < n → ∃ x : Nat, x < 256 ∧ w.cell? ⟨b, off + i, none⟩ = some (.int .u8 x)

/-- block R is a reader of code at position p -/
structure Rd (w : World) (R p : Nat) : Prop where
  pos : w.cell? ⟨R, 1, none⟩ = some (.int .i64 p)
  free : w.frozen? ⟨R, 1, none⟩ = false
  code : ∃ (a : Option Addr) (n cap : Nat), w.cell? ⟨R, 0, none⟩ = some (.slice a n cap) ∧ n ≤ 2000 ∧ BytesAt w R a n

theorem Rd.lt {w : World} {R p : Nat} (h : Rd w R p) : R < w.heap.size := by
  have h1 := h.pos
  rcases Nat.lt_or_ge R w.heap.size with h' | h'
  · exact h'
  · simp [World.cell?, Array.getElem?_eq_none h'] at h1

/-- all blocks but R are as they were -/
theorem grownBy_setCell (w : World) (a : Addr) (v : Value) : w.grownBy (w.setCell a v) (some a.block) :=
  ⟨rfl, rfl, rfl, by simp [World.setCell], fun k _ hk => Below.heap_setCell _ _ _ _ (fun e => hk (by rw [e]))⟩

theorem grownBy_drewN (w : World) (q : Nat) (r : Option Nat) : w.grownBy (w.drewN q) r :=
  ⟨rfl, rfl, rfl, Nat.le_refl _, fun _ _ _ => rfl⟩

theorem Rd.keep {w w' : World} {R p : Nat} (h : Rd w R p) (hg : w.grownBy w' (some R)) (hp : w'.cell? ⟨R, 1, none⟩ = some (.int .i64 ((p + 1 : Nat) : Int)))
    (hf : w'.frozen? ⟨R, 1, none⟩ = false) (hs : w'.cell? ⟨R, 0, none⟩ = w.cell? ⟨R, 0, none⟩) : Rd w' R (p + 1) := by
  obtain ⟨a, n, cap, h1, h2, h3⟩ := h.code
  refine ⟨hp, hf, a, n, cap, hs.trans h1, h2, fun hn => ?_⟩
  obtain ⟨b, off, ha, hb, hc⟩ := h3 hn
  refine ⟨b, off, ha, hb, fun i hi => ?_⟩
  obtain ⟨x, hx, hx'⟩ := hc i hi
  exact ⟨x, hx, hg.cell hx' (by simp; omega)⟩
theorem Rd.stored {w : World} {R p : Nat} (h : Rd w R p) (q : Nat) :
    Rd ((w.setCell ⟨R, 1, none⟩ (.int .i64 ((p : Int) + 1))).drewN q) R (p + 1) ∧ w.grownBy ((w.setCell ⟨R, 1, none⟩ (.int .i64 ((p : Int) + 1))).drewN q) (some R) := by
  have hg : w.grownBy ((w.setCell ⟨R, 1, none⟩ (.int .i64 ((p : Int) + 1))).drewN q) (some R) := by
    have h0 := grownBy_setCell w ⟨R, 1, none⟩ (.int .i64 ((p : Int) + 1))
    exact ⟨h0.os, h0.tape, h0.output, h0.size, h0.block⟩
  have hc : (w.setCell ⟨R, 1, none⟩ (.int .i64 ((p : Int) + 1))).cell? ⟨R, 1, none⟩ = some (.int .i64 ((p + 1 : Nat) : Int)) := by
    rw [World.cell?_setCell_same' _ _ _ (by rw [h.pos]; rfl)]; rfl
  refine ⟨h.keep hg hc ?_ ?_, hg⟩
  · show (w.setCell ⟨R, 1, none⟩ (.int .i64 ((p : Int) + 1))).frozen? ⟨R, 1, none⟩ = false
    rw [World.frozen?_setCell]; exact h.free
  · show (w.setCell ⟨R, 1, none⟩ (.int .i64 ((p : Int) + 1))).cell? ⟨R, 0, none⟩ = _
    rw [World.cell?_setCell_other _ _ _ _ (by simp)]
theorem Rd.stored0 {w : World} {R p : Nat} (h : Rd w R p) :
    Rd (w.setCell ⟨R, 1, none⟩ (.int .i64 ((p : Int) + 1))) R (p + 1) ∧ w.grownBy (w.setCell ⟨R, 1, none⟩ (.int .i64 ((p : Int) + 1))) (some R) := h.stored 0
theorem xor_i64_nat (a b : Nat) (ha : a < 9223372036854775808) (hb : b < 9223372036854775808) :
    bits .xor .i64 (a : Int) (b : Int) = ((a ^^^ b : Nat) : Int) := by
  have hx : a ^^^ b < 2 ^ 63 := Nat.xor_lt_two_pow (by omega) (by omega)
  have h1 : (BitVec.ofInt 64 (a : Int)).toNat = a := by
    rw [BitVec.ofInt_natCast, BitVec.toNat_ofNat]; exact Nat.mod_eq_of_lt (by omega)
  have h2 : (BitVec.ofInt 64 (b : Int)).toNat = b := by
    rw [BitVec.ofInt_natCast, BitVec.toNat_ofNat]; exact Nat.mod_eq_of_lt (by omega)
  show IntKind.i64.wrap ((BitVec.ofInt 64 (a : Int) ^^^ BitVec.ofInt 64 (b : Int)).toNat : Int) = _
  rw [BitVec.toNat_xor, h1, h2, IntKind.wrap_i64]
  omega

theorem mixed (S n : Int) (h0 : 0 ≤ S) (h1 : S < 4611686018427387904) (hn : 1 ≤ n) : ∃ k : Nat, (bits .xor .i64 S (S / 64)).tmod n = (k : Int) ∧ (k : Int) < n := by
  obtain ⟨s, rfl⟩ := Int.eq_ofNat_of_zero_le h0
  have e : ((s : Int) / 64) = ((s / 64 : Nat) : Int) := by omega
  rw [e, xor_i64_nat s (s / 64) (by omega) (by omega), Int.tmod_eq_emod_of_nonneg (by omega)]
  have e1 : 0 ≤ (((s ^^^ s / 64 : Nat) : Int)) % n := Int.emod_nonneg _ (by omega)
  have e2 : (((s ^^^ s / 64 : Nat) : Int)) % n < n := Int.emod_lt_of_pos _ (by omega)
  exact ⟨((((s ^^^ s / 64 : Nat) : Int)) % n).toNat, by omega, by omega⟩
end Go.Proofs.Ythmifadnfaajbad
namespace Go.Proofs.Ythmifadnfaajbad
open Go.RowKit Go.ChangeShapes Go.WideShapes

theorem byte_wf {x : Int} (h : (Lit.int .u8 x).wf = true) : 0 ≤ x ∧ x < 256 := by
  have h1 : IntKind.u8.min = 0 := rfl
  have h2 : IntKind.u8.max = 255 := rfl
  simp only [Lit.wf, Bool.and_eq_true, decide_eq_true_eq] at h
  omega
theorem open_bytes_arg {H : Type} {enc : TypeId × Value → H} {P : Program} {W : World} {t e : TypeId} {a : Option Addr} {len cap : Nat} {d : DataW H} {p : List MemPlace} (ht : P.underlying t = some (.slice e)) (he : P.underlying e = some (.int .u8))
    (ce : P.cellsOf e = 1) (h : DataW.Trod enc P W 0 (fun _ => true) true t (.slice a len cap) d p) : BytesAt W W.heap.size a len ∧ len ≤ cap ∧ len ≤ 9223372036854775807 := by
  obtain ⟨fuel, hf⟩ := h
  rcases open_ints ht he ce hf with ⟨hcs, _⟩ | ⟨a, len', cap', zs, hcs, _, hl, hmx, hz, _, hcell, hwz⟩
  · simp [Value.cells] at hcs
    obtain ⟨rfl, rfl, rfl⟩ := hcs
    exact ⟨fun h => absurd h (by omega), Nat.le_refl _, Nat.zero_le _⟩
  · simp [Value.cells] at hcs
    obtain ⟨rfl, rfl, rfl⟩ := hcs
    simp only [if_true] at hz
    refine ⟨fun h0 => ?_, hl, by unfold maxLen at hmx; omega⟩
    obtain ⟨b, off, spot⟩ := a
    have hspot : spot = none := by simpa [Addr.add] using World.cell?_spot (hcell 0 (by omega))
    subst hspot
    have hb : ∀ i, i < len → W.cell? ⟨b, off + i, none⟩ = some (.int .u8 (zs.getD i 0)) := fun i hi => by rw [← add_plain]; exact hcell i (by omega)
    refine ⟨b, off, rfl, ?_, fun i hi => ?_⟩
    · rcases Nat.lt_or_ge b W.heap.size with h' | h'
      · exact h'
      · have := hb 0 h0
        simp [World.cell?, Array.getElem?_eq_none h'] at this
    · have hmem : zs.getD i 0 ∈ zs := by
        rw [List.getD_eq_getElem?_getD, List.getElem?_eq_getElem (by omega)]
        exact List.getElem_mem _
      have hx := byte_wf (hwz _ hmem)
      refine ⟨(zs.getD i 0).toNat, by omega, ?_⟩
      rw [hb i hi]
      congr 2
      omega
end Go.Proofs.Ythmifadnfaajbad
namespace Go.Proofs.Ythmifadnfaajbad
open Go.RowKit

/-- nothing but blocks of S has been written, and nothing made -/
structure KeptBut (S : Nat → Prop) (w w' : World) : Prop where
  os : w'.os = w.os
  tape : w'.tape = w.tape
  output : w'.output = w.output
  size : w'.heap.size = w.heap.size
  block : ∀ k, ¬ S k → w'.heap[k]? = w.heap[k]?
  there : ∀ p v, w.cell? p = some v → ∃ v', w'.cell? p = some v'
  frozen : ∀ p, w'.frozen? p = w.frozen? p
theorem KeptBut.refl (S : Nat → Prop) (w : World) : KeptBut S w w := ⟨rfl, rfl, rfl, rfl, fun _ _ => rfl, fun _ v h => ⟨v, h⟩, fun _ => rfl⟩
theorem KeptBut.trans {S : Nat → Prop} {a b c : World} (h : KeptBut S a b) (g : KeptBut S b c) : KeptBut S a c :=
  ⟨g.os.trans h.os, g.tape.trans h.tape, g.output.trans h.output, g.size.trans h.size, fun k hk => (g.block k hk).trans (h.block k hk), fun p v e => by obtain ⟨v', e'⟩ := h.there p v e; exact g.there p v' e', fun p => (g.frozen p).trans (h.frozen p)⟩
theorem KeptBut.wide {S T : Nat → Prop} {a b : World} (h : KeptBut S a b) (hs : ∀ k, S k → T k) : KeptBut T a b :=
  ⟨h.os, h.tape, h.output, h.size, fun k hk => h.block k (fun e => hk (hs k e)), h.there, h.frozen⟩
theorem KeptBut.set {S : Nat → Prop} {a b : World} (h : KeptBut S a b) {p : Addr} (hp : S p.block) (v : Value) : KeptBut S a (b.setCell p v) :=
  ⟨h.os, h.tape, h.output, by simpa [World.setCell] using h.size, fun k hk => (Below.heap_setCell _ _ _ _ (fun e => hk (by rw [e]; exact hp))).trans (h.block k hk), fun q u e => by
    obtain ⟨u', e'⟩ := h.there q u e
    by_cases hq : p = q
    · subst hq; exact ⟨v, World.cell?_setCell_same _ _ _ e'⟩
    · exact ⟨u', by rw [World.cell?_setCell_other _ _ _ _ hq]; exact e'⟩, fun q => by rw [World.frozen?_setCell]; exact h.frozen q⟩
theorem KeptBut.below {S : Nat → Prop} {a b : World} (h : KeptBut S a b) {B : Nat} (hs : ∀ k, S k → B ≤ k) : Below B a b :=
  ⟨h.os, h.tape, h.output, by rw [h.size]; exact Nat.le_refl _, fun k hk => h.block k (fun e => by have := hs k e; omega)⟩
theorem KeptBut.ints {S T : Nat → Prop} {a b : World} (h : KeptBut S a b) {x : Option Addr} {len : Nat} {xs : List Int} (hi : IntsAt a T x len xs) (hs : ∀ k, T k → ¬ S k) : IntsAt b T x len xs :=
  hi.to (fun k hk => ⟨hk, h.block k (hs k hk)⟩)
theorem KeptBut.rows {S T : Nat → Prop} {a b : World} (h : KeptBut S a b) {x : Option Addr} {len : Nat} {xs : List (List Int)} (hi : RowsAt a T x len xs) (hs : ∀ k, T k → ¬ S k) : RowsAt b T x len xs :=
  hi.to (fun k hk => ⟨hk, h.block k (hs k hk)⟩)

/-- the cells of a slice may be written; they lie in a block of S -/
structure Free (w : World) (S : Nat → Prop) (a : Option Addr) (len : Nat) : Prop where
  small : len ≤ 4611686018427387904
  cells : 0 < len → ∃ b off, a = some ⟨b, off, none⟩ ∧ S b ∧ ∀ i, i < len → (∃ v, w.cell? ⟨b, off + i, none⟩ = some v) ∧ w.frozen? ⟨b, off + i, none⟩ = false
theorem Free.to {w w' : World} {S S' : Nat → Prop} {a : Option Addr} {len : Nat} (h : Free w S a len) (hg : ∀ b, S b → S' b ∧ w'.heap[b]? = w.heap[b]?) : Free w' S' a len := by
  refine ⟨h.small, fun h0 => ?_⟩
  obtain ⟨b, off, ha, hs, hc⟩ := h.cells h0
  refine ⟨b, off, ha, (hg b hs).1, fun i hi => ?_⟩
  obtain ⟨⟨v, h1⟩, h2⟩ := hc i hi
  exact ⟨⟨v, by rw [World.cell?_of_block (w := w) (hg b hs).2]; exact h1⟩, by rw [World.frozen?_of_block (w := w) (hg b hs).2]; exact h2⟩
theorem Free.kept {w w' : World} {S T : Nat → Prop} {a : Option Addr} {len : Nat} (h : Free w T a len) (g : KeptBut S w w') : Free w' T a len := by
  refine ⟨h.small, fun h0 => ?_⟩
  obtain ⟨b, off, ha, hs, hc⟩ := h.cells h0
  refine ⟨b, off, ha, hs, fun i hi => ?_⟩
  obtain ⟨⟨v, h1⟩, h2⟩ := hc i hi
  exact ⟨g.there _ _ h1, (g.frozen _).trans h2⟩
theorem Free.get {w : World} {S : Nat → Prop} {a : Option Addr} {len k : Nat} (h : Free w S a len) (hk : k < len) :
    ∃ b off v, a = some ⟨b, off, none⟩ ∧ S b ∧ w.cell? ⟨b, off + k, none⟩ = some v ∧ w.frozen? ⟨b, off + k, none⟩ = false := by
  obtain ⟨b, off, ha, hs, hc⟩ := h.cells (by omega)
  obtain ⟨⟨v, h1⟩, h2⟩ := hc k hk
  exact ⟨b, off, v, ha, hs, h1, h2⟩
theorem Free.set {w : World} {S : Nat → Prop} {b off len k : Nat} {v u : Value} (h : Free w S (some ⟨b, off, none⟩) len) (hv : w.cell? ⟨b, off + k, none⟩ = some v) : Free (w.setCell ⟨b, off + k, none⟩ u) S (some ⟨b, off, none⟩) len := by
  refine ⟨h.small, fun h0 => ?_⟩
  obtain ⟨b', off', ha, hs, hc⟩ := h.cells h0
  cases ha
  refine ⟨b, off, rfl, hs, fun i hi => ?_⟩
  obtain ⟨⟨v', h1⟩, h2⟩ := hc i hi
  refine ⟨?_, by rw [World.frozen?_setCell]; exact h2⟩
  by_cases e : i = k
  · subst e; exact ⟨u, World.cell?_setCell_same _ _ _ hv⟩
  · exact ⟨v', by rw [World.cell?_setCell_other _ _ _ _ (by intro e'; injection e'; omega)]; exact h1⟩

/-- a new slice of these ints, which may be written -/
def ResPost (w : World) (xs : List Int) (e : Ending) (w' : World) : Prop := ∃ (a : Option Addr) (len cap : Nat), e = .returned (.slice a len cap) ∧ IntsAt w' (fun b => w.heap.size ≤ b ∧ b < w'.heap.size) a len xs ∧
  Free w' (fun b => w.heap.size ≤ b ∧ b < w'.heap.size) a len ∧ Below w.heap.size w w'
theorem resPost_nil (w : World) : ResPost w [] (.returned (.slice none 0 0)) w :=
  ⟨none, 0, 0, rfl, ⟨rfl, Nat.zero_le _, fun h => absurd h (by omega)⟩, ⟨Nat.zero_le _, fun h => absurd h (by omega)⟩, Below.refl _ _⟩
theorem resPost_block {w w' : World} {len cap : Nat} {xs : List Int} (hl : xs.length = len) (hs : len ≤ 1048576) (hc : ∀ q x, xs[q]? = some x → w'.cell? ⟨w.heap.size, q, none⟩ = some (.int .i64 x) ∧ w'.frozen? ⟨w.heap.size, q, none⟩ = false) (hb : Below w.heap.size w w') :
    ResPost w xs (.returned (.slice (some ⟨w.heap.size, 0, none⟩) len cap)) w' := by
  have hlt : 0 < len → w.heap.size < w'.heap.size := fun h0 => by
    have := (hc 0 xs[0] (List.getElem?_eq_getElem (by omega))).1
    rcases Nat.lt_or_ge w.heap.size w'.heap.size with h' | h'
    · exact h'
    · simp [World.cell?, Array.getElem?_eq_none h'] at this
  refine ⟨_, _, _, rfl, ⟨hl, by omega, fun h0 => ⟨_, 0, rfl, ⟨Nat.le_refl _, hlt h0⟩, fun i x hx => ?_⟩⟩, ⟨by omega, fun h0 => ⟨_, 0, rfl, ⟨Nat.le_refl _, hlt h0⟩, fun i hi => ?_⟩⟩, hb⟩
  · rw [Nat.zero_add]; exact (hc i x hx).1
  · have := hc i xs[i] (List.getElem?_eq_getElem (by omega))
    rw [Nat.zero_add]
    exact ⟨⟨_, this.1⟩, this.2⟩

/-- k, k + 1, .. -/
def upFrom (k : Int) (n : Nat) : List Int := (List.range n).map (fun (i : Nat) => k + (i : Int))
theorem upFrom_length (k : Int) (n : Nat) : (upFrom k n).length = n := by simp [upFrom]
theorem upFrom_get {k x : Int} {n i : Nat} (h : (upFrom k n)[i]? = some x) : x = k + (i : Int) ∧ i < n := by
  simp only [upFrom, List.getElem?_map, Option.map_eq_some_iff] at h
  obtain ⟨j, hj, rfl⟩ := h
  obtain ⟨h1, h2⟩ := List.getElem?_eq_some_iff.1 hj
  simp at h1 h2
  subst h2
  exact ⟨rfl, h1⟩

def MarkPost (w : World) (S : Nat → Prop) (a : Option Addr) (len : Nat) (k : Int) (e : Ending) (w' : World) : Prop :=
  e = .returned (.int .i64 (k + (len : Int))) ∧ IntsAt w' S a len (upFrom k len) ∧ KeptBut S w w'

end Go.Proofs.Ythmifadnfaajbad
