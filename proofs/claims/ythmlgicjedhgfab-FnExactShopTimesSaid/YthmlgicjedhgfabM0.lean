import Derived.WalkKit
import Derived.Lib.Hide
import Derived.Below
import Derived.Deep.Draws
import Derived.ProofKit
import Derived.Deep.Matrix
import Derived.Deep.Slices
namespace Go.Proofs.Ythmlgicjedhgfab
open Go.RowKit

/-- the slice (a, len) of ints reads as xs, in a block of S -/
structure IntsAt (w : World) (S : Nat → Prop) (a : Option Addr) (len : Nat) (xs : List Int) : Prop where
  lenEq : xs.length = len
  small : len ≤ 9223372036854775807
  cells : 0 < len → ∃ b off, a = some ⟨b, off, none⟩ ∧ S b ∧ ∀ i x, xs[i]? = some x → w.cell? ⟨b, off + i, none⟩ = some (.int .i64 x)

theorem IntsAt.get {w : World} {S : Nat → Prop} {a : Option Addr} {len : Nat} {xs : List Int} (h : IntsAt w S a len xs) {k : Nat} (hk : k < len) :
    ∃ b off x, a = some ⟨b, off, none⟩ ∧ xs[k]? = some x ∧ w.cell? ⟨b, off + k, none⟩ = some (.int .i64 x) := by
  obtain ⟨b, off, ha, _, hc⟩ := h.cells (by omega)
  have hl := h.lenEq
  have hx : xs[k]? = some xs[k] := List.getElem?_eq_getElem (by omega)
  exact ⟨b, off, _, ha, hx, hc _ _ hx⟩

theorem take_get {α : Type} {xs : List α} {k : Nat} {x : α} (h : xs[k]? = some x) : xs.take (k + 1) = xs.take k ++ [x] := by
  rw [List.take_add_one, h]; rfl

theorem ret_bool {a b : Bool} (h : a = b) : Ending.returned (.bool a) = Ending.returned (.bool b) := by rw [h]
theorem ret_int {k : IntKind} {a b : Int} (h : a = b) : Ending.returned (.int k a) = Ending.returned (.int k b) := by rw [h]

/-- how each law ends -/
def LawPost (w : World) (e : Ending) (w' : World) : Prop := e = .returned (.bool true) ∧ Below w.heap.size w w'

def inB (lo hi : Int) (x : Int) : Bool := decide (lo ≤ x ∧ x ≤ hi)
def allIn (lo hi : Int) (xs : List Int) : Bool := xs.all (inB lo hi)
theorem inB_true {lo hi x : Int} (h1 : lo ≤ x) (h2 : x ≤ hi) : inB lo hi x = true := decide_eq_true ⟨h1, h2⟩
theorem inB_lo {lo hi x : Int} (h1 : x < lo) : inB lo hi x = false := decide_eq_false (by omega)
theorem inB_hi {lo hi x : Int} (h1 : hi < x) : inB lo hi x = false := decide_eq_false (by omega)
theorem allIn_snoc (lo hi : Int) (xs : List Int) (x : Int) : allIn lo hi (xs ++ [x]) = (allIn lo hi xs && inB lo hi x) := by
  simp [allIn]
theorem allIn_false {lo hi : Int} {xs : List Int} {k : Nat} {x : Int} (h : xs[k]? = some x) (hx : inB lo hi x = false) : allIn lo hi xs = false := by
  unfold allIn
  rw [List.all_eq_false]
  exact ⟨x, List.mem_of_getElem? h, by simp [hx]⟩

/-- the slice (a, len) of slices of ints reads as rows, in blocks of S -/
structure RowsAt (w : World) (S : Nat → Prop) (a : Option Addr) (len : Nat) (rows : List (List Int)) : Prop where
  lenEq : rows.length = len
  small : len ≤ 9223372036854775807
  cells : 0 < len → ∃ b off, a = some ⟨b, off, none⟩ ∧ S b ∧ ∀ i r, rows[i]? = some r → ∃ a' l c, w.cell? ⟨b, off + i, none⟩ = some (.slice a' l c) ∧ l ≤ c ∧ IntsAt w S a' l r

theorem RowsAt.get {w : World} {S : Nat → Prop} {a : Option Addr} {len : Nat} {rows : List (List Int)} (h : RowsAt w S a len rows) {k : Nat} (hk : k < len) :
    ∃ b off r a' l c, a = some ⟨b, off, none⟩ ∧ rows[k]? = some r ∧ w.cell? ⟨b, off + k, none⟩ = some (.slice a' l c) ∧ l ≤ c ∧ IntsAt w S a' l r := by
  obtain ⟨b, off, ha, _, hc⟩ := h.cells (by omega)
  have hl := h.lenEq
  have hx : rows[k]? = some rows[k] := List.getElem?_eq_getElem (by omega)
  obtain ⟨a', l, c, h1, h2, h3⟩ := hc _ _ hx
  exact ⟨b, off, _, a', l, c, ha, hx, h1, h2, h3⟩

def rowOk (i : Nat) (r : List Int) : Bool := r.length == i && allIn 0 3 r
def okRows : Nat → List (List Int) → Bool
  | _, [] => true
  | i, r :: rs => rowOk i r && okRows (i + 1) rs
theorem okRows_snoc (rs : List (List Int)) (r : List Int) : ∀ i, okRows i (rs ++ [r]) = (okRows i rs && rowOk (i + rs.length) r) := by
  induction rs with
  | nil => intro i; simp [okRows]
  | cons a l ih => intro i; simp only [List.cons_append, okRows, ih, List.length_cons, Bool.and_assoc]; rw [show i + 1 + l.length = i + (l.length + 1) by omega]
theorem okRows_false {rs : List (List Int)} {r : List Int} {k : Nat} (h : rs[k]? = some r) (hr : rowOk k r = false) : okRows 0 rs = false := by
  have hk : k < rs.length := by
    rcases Nat.lt_or_ge k rs.length with h' | h'
    · exact h'
    · simp [List.getElem?_eq_none h'] at h
  have key : ∀ (rs : List (List Int)) (k i : Nat), rs[k]? = some r → rowOk (i + k) r = false → okRows i rs = false := by
    intro rs
    induction rs with
    | nil => intro k i h _; simp at h
    | cons a l ih =>
      intro k i h hr
      cases k with
      | zero => simp at h; subst h; simp at hr; simp [okRows, hr]
      | succ k => simp at h; rw [okRows, ih k (i + 1) h (by rw [show i + 1 + k = i + (k + 1) by omega]; exact hr)]; simp
  exact key rs k 0 h (by simpa using hr)
theorem rowOk_len {i : Nat} {r : List Int} (h : r.length ≠ i) : rowOk i r = false := by simp [rowOk, h]
theorem rowOk_all {i : Nat} {r : List Int} (h : allIn 0 3 r = false) : rowOk i r = false := by simp [rowOk, h]
theorem rowOk_mk {i : Nat} {r : List Int} (h : r.length = i) (h' : allIn 0 3 r = true) : rowOk i r = true := by simp [rowOk, h, h']
theorem okRows_step {rows : List (List Int)} {r : List Int} {k : Nat} (h : rows[k]? = some r) (ha : okRows 0 (rows.take k) = true) (hr : rowOk k r = true) : okRows 0 (rows.take (k + 1)) = true := by
  have hk : k < rows.length := by
    rcases Nat.lt_or_ge k rows.length with h' | h'
    · exact h'
    · simp [List.getElem?_eq_none h'] at h
  rw [take_get h, okRows_snoc, ha, List.length_take_of_le (by omega), Nat.zero_add, hr]; rfl
theorem allIn_step {lo hi : Int} {xs : List Int} {x : Int} {k : Nat} (h : xs[k]? = some x) (ha : allIn lo hi (xs.take k) = true) (hr : inB lo hi x = true) : allIn lo hi (xs.take (k + 1)) = true := by
  rw [take_get h, allIn_snoc, ha, hr]; rfl
def validBillM (rows : List (List Int)) : Bool := inB 1 6 rows.length && okRows 0 rows


theorem IntsAt.to {w w' : World} {S S' : Nat → Prop} {a : Option Addr} {len : Nat} {xs : List Int} (h : IntsAt w S a len xs)
    (hg : ∀ b, S b → S' b ∧ w'.heap[b]? = w.heap[b]?) : IntsAt w' S' a len xs := by
  refine ⟨h.lenEq, h.small, fun hl => ?_⟩
  obtain ⟨b, off, ha, hs, hc⟩ := h.cells hl
  exact ⟨b, off, ha, (hg b hs).1, fun i x hx => by rw [World.cell?_of_block (w := w) (hg b hs).2]; exact hc i x hx⟩
theorem RowsAt.to {w w' : World} {S S' : Nat → Prop} {a : Option Addr} {len : Nat} {rows : List (List Int)} (h : RowsAt w S a len rows)
    (hg : ∀ b, S b → S' b ∧ w'.heap[b]? = w.heap[b]?) : RowsAt w' S' a len rows := by
  refine ⟨h.lenEq, h.small, fun hl => ?_⟩
  obtain ⟨b, off, ha, hs, hc⟩ := h.cells hl
  refine ⟨b, off, ha, (hg b hs).1, fun i r hr => ?_⟩
  obtain ⟨a', l, c, h1, h2, h3⟩ := hc i r hr
  exact ⟨a', l, c, by rw [World.cell?_of_block (w := w) (hg b hs).2]; exact h1, h2, h3.to hg⟩
theorem IntsAt.below {w w' : World} {n : Nat} {a : Option Addr} {len : Nat} {xs : List Int} (h : IntsAt w (· < n) a len xs) (hb : Below n w w') : IntsAt w' (· < n) a len xs :=
  h.to fun b hb' => ⟨hb', hb.block b hb'⟩
theorem RowsAt.below {w w' : World} {n : Nat} {a : Option Addr} {len : Nat} {rows : List (List Int)} (h : RowsAt w (· < n) a len rows) (hb : Below n w w') : RowsAt w' (· < n) a len rows :=
  h.to fun b hb' => ⟨hb', hb.block b hb'⟩
theorem IntsAt.lit {W : World} {cs : Array Value} {t : TypeId} {xs : List Int} {b len : Nat} (hcs : cs.toList = xs.map (.int .i64)) (hlen : xs.length = len) (hb : b = W.heap.size) (hs : len ≤ 9223372036854775807) :
    IntsAt (W.alloc (.cells cs t)) (fun k => k = b) (some ⟨b, 0, none⟩) len xs := by
  subst hb
  refine ⟨hlen, hs, fun _ => ⟨_, _, rfl, rfl, fun i x hx => ?_⟩⟩
  rw [Nat.zero_add, World.cell?_alloc_new, ← Array.getElem?_toList, hcs, List.getElem?_map, hx]; rfl
theorem RowsAt.mem {w : World} {S : Nat → Prop} {b off len : Nat} {rows : List (List Int)} (h : RowsAt w S (some ⟨b, off, none⟩) len rows) (h0 : 0 < len) : S b := by
  obtain ⟨b', off', e, hs, _⟩ := h.cells h0
  cases e
  exact hs
theorem IntsAt.mem {w : World} {S : Nat → Prop} {b off len : Nat} {xs : List Int} (h : IntsAt w S (some ⟨b, off, none⟩) len xs) (h0 : 0 < len) : S b := by
  obtain ⟨b', off', e, hs, _⟩ := h.cells h0
  cases e
  exact hs
theorem RowsAt.take {w : World} {S : Nat → Prop} {a : Option Addr} {len : Nat} {rows : List (List Int)} (h : RowsAt w S a len rows) (k : Nat) (hk : k ≤ len) : RowsAt w S a k (rows.take k) := by
  have hl := h.lenEq
  have hs := h.small
  refine ⟨by simp; omega, by omega, fun h0 => ?_⟩
  obtain ⟨b, off, ha, hs, hc⟩ := h.cells (by omega)
  refine ⟨b, off, ha, hs, fun i r hr => hc i r ?_⟩
  rw [List.getElem?_take] at hr
  split at hr
  · exact hr
  · cases hr
/-- nothing but draws -/
def Drew (w w' : World) : Prop := ∃ q, w' = w.drewN q
theorem Drew.refl (w : World) : Drew w w := ⟨0, rfl⟩
theorem Drew.drew {w wr : World} (h : Drew w wr) (q : Nat) : Drew w (wr.drewN q) := by
  obtain ⟨p, rfl⟩ := h
  exact ⟨p + q, World.drewN_drewN _ _ _⟩
theorem Drew.rows {w wr : World} {S : Nat → Prop} {a : Option Addr} {len : Nat} {rows : List (List Int)} (h : RowsAt w S a len rows) (d : Drew w wr) : RowsAt wr S a len rows := by
  obtain ⟨q, rfl⟩ := d
  exact h.to (fun b hb => ⟨hb, rfl⟩)
theorem Drew.ints {w wr : World} {S : Nat → Prop} {a : Option Addr} {len : Nat} {xs : List Int} (h : IntsAt w S a len xs) (d : Drew w wr) : IntsAt wr S a len xs := by
  obtain ⟨q, rfl⟩ := d
  exact h.to (fun b hb => ⟨hb, rfl⟩)
theorem Drew.below {w wr : World} (d : Drew w wr) (B : Nat) : Below B w wr := by
  obtain ⟨q, rfl⟩ := d
  exact ⟨rfl, rfl, rfl, Nat.le_refl _, fun _ _ => rfl⟩
theorem Drew.size {w wr : World} (d : Drew w wr) : wr.heap.size = w.heap.size := by
  obtain ⟨q, rfl⟩ := d
  rfl
end Go.Proofs.Ythmlgicjedhgfab
namespace Go.Proofs.Ythmlgicjedhgfab
open Go.RowKit Go.ChangeShapes Go.WideShapes Go.Deep

theorem lt_of_cell {W : World} {b o : Nat} {v : Value} (h : W.cell? ⟨b, o, none⟩ = some v) : b < W.heap.size := by
  rcases Nat.lt_or_ge b W.heap.size with h' | h'
  · exact h'
  · simp [World.cell?, Array.getElem?_eq_none h'] at h

theorem intsAt_of {W : World} {a : Option Addr} {len cap : Nat} {zs : List Int} (hl : len ≤ cap) (hm : cap ≤ maxLen) (hz : zs.length = cap) (hn : a = none → cap = 0)
    (hc : ∀ a', a = some a' → ∀ c, c < cap → W.cell? (a'.add c) = some (.int .i64 (zs.getD c 0))) : IntsAt W (· < W.heap.size) a len (zs.take len) := by
  refine ⟨by simp; omega, by unfold maxLen at hm; omega, fun h0 => ?_⟩
  cases a with
  | none => have := hn rfl; omega
  | some a =>
    obtain ⟨b, off, spot⟩ := a
    have hspot : spot = none := by simpa [Addr.add] using World.cell?_spot (hc _ rfl 0 (by omega))
    subst hspot
    have hb : ∀ c, c < cap → W.cell? ⟨b, off + c, none⟩ = some (.int .i64 (zs.getD c 0)) := fun c hc' => by rw [← add_plain]; exact hc _ rfl c hc'
    refine ⟨b, off, rfl, lt_of_cell (hb 0 (by omega)), fun i x hx => ?_⟩
    rw [List.getElem?_take] at hx
    split at hx
    · rw [hb i (by omega), List.getD_eq_getElem?_getD, hx]; rfl
    · cases hx

theorem rowsAt_of {W : World} {a : Addr} {len cap : Nat} {A : Nat → Option Addr} {L C : Nat → Nat} {Z : Nat → List Int} {B : Nat} (hl : len ≤ cap) (hm : cap ≤ maxLen)
    (hx : ∀ r, r < cap → W.cell? (a.add r) = some (.slice (A r) (L r) (C r)) ∧ L r ≤ C r ∧ C r ≤ maxLen ∧ (Z r).length = C r ∧ (∀ n ∈ Z r, (Lit.int .i64 n).wf = true) ∧ (A r = none → C r = 0) ∧
        ∀ a', A r = some a' → B ≤ a'.block ∧ ∀ c, c < C r → W.cell? (a'.add c) = some (.int .i64 ((Z r).getD c 0))) :
    RowsAt W (· < W.heap.size) (some a) len ((List.range len).map fun r => (Z r).take (L r)) := by
  refine ⟨by simp, by unfold maxLen at hm; omega, fun h0 => ?_⟩
  obtain ⟨b, off, spot⟩ := a
  have hspot : spot = none := by simpa [Addr.add] using World.cell?_spot (hx 0 (by omega)).1
  subst hspot
  refine ⟨b, off, rfl, lt_of_cell (o := off + 0) (by rw [← add_plain]; exact (hx 0 (by omega)).1), fun i r hr => ?_⟩
  rw [List.getElem?_map] at hr
  obtain ⟨j, hj, rfl⟩ := Option.map_eq_some_iff.1 hr
  obtain ⟨hj1, hj2⟩ := List.getElem?_eq_some_iff.1 hj
  simp at hj1 hj2
  subst hj2
  obtain ⟨e1, e2, e3, e4, _, e6, e7⟩ := hx i (by omega)
  exact ⟨A i, L i, C i, by rw [← add_plain]; exact e1, e2, intsAt_of e2 e3 e4 e6 (fun a' ha c hc => (e7 a' ha).2 c hc)⟩
section
variable {H : Type} {enc : TypeId × Value → H} {P : Program} {W : World}
theorem open_rows_arg {t e q : TypeId} {a : Option Addr} {len cap : Nat} {d : DataW H} {p : List MemPlace} (ht : P.underlying t = some (.slice e)) (he : P.underlying e = some (.slice q)) (hq : P.underlying q = some (.int .i64))
    (ce : P.cellsOf e = 1) (cq : P.cellsOf q = 1) (h : DataW.Trod enc P W 0 (fun _ => true) true t (.slice a len cap) d p) : ∃ rows, RowsAt W (· < W.heap.size) a len rows := by
  obtain ⟨fuel, hf⟩ := h
  rcases open_int_rows ht he hq ce cq hf with ⟨hcs, _⟩ | ⟨a, len', cap', A, L, C, Z, hcs, _, hl, hmx, _, hx⟩
  · simp [Value.cells] at hcs
    obtain ⟨rfl, rfl, rfl⟩ := hcs
    exact ⟨[], rfl, Nat.zero_le _, fun h => absurd h (by omega)⟩
  · simp [Value.cells] at hcs
    obtain ⟨rfl, rfl, rfl⟩ := hcs
    exact ⟨_, rowsAt_of hl hmx hx⟩
theorem open_ints_arg {t e : TypeId} {a : Option Addr} {len cap : Nat} {d : DataW H} {p : List MemPlace} (ht : P.underlying t = some (.slice e)) (he : P.underlying e = some (.int .i64))
    (ce : P.cellsOf e = 1) (h : DataW.Trod enc P W 0 (fun _ => true) true t (.slice a len cap) d p) : ∃ xs, IntsAt W (· < W.heap.size) a len xs := by
  obtain ⟨fuel, hf⟩ := h
  rcases open_ints ht he ce hf with ⟨hcs, _⟩ | ⟨a, len', cap', zs, hcs, _, hl, hmx, hz, _, hcell, _⟩
  · simp [Value.cells] at hcs
    obtain ⟨rfl, rfl, rfl⟩ := hcs
    exact ⟨[], rfl, Nat.zero_le _, fun h => absurd h (by omega)⟩
  · simp [Value.cells] at hcs
    obtain ⟨rfl, rfl, rfl⟩ := hcs
    simp only [if_true] at hz
    exact ⟨_, intsAt_of hl hmx hz (fun h => by cases h) (fun a' ha c hc => by cases ha; exact hcell c (by omega))⟩
end
theorem rowsAt_nil (W : World) : RowsAt W (· < W.heap.size) none 0 [] := ⟨rfl, Nat.zero_le _, fun h => absurd h (by omega)⟩
theorem intsAt_nil (W : World) : IntsAt W (· < W.heap.size) none 0 [] := ⟨rfl, Nat.zero_le _, fun h => absurd h (by omega)⟩
end Go.Proofs.Ythmlgicjedhgfab
namespace Go.Proofs.Ythmlgicjedhgfab
open Go.RowKit

/-- the slice (a, len) of slices of slices of ints reads as shop, in blocks of S -/
structure ShopAt (w : World) (S : Nat → Prop) (a : Option Addr) (len : Nat) (shop : List (List (List Int))) : Prop where
  lenEq : shop.length = len
  small : len ≤ 9223372036854775807
  cells : 0 < len → ∃ b off, a = some ⟨b, off, none⟩ ∧ S b ∧ ∀ i job, shop[i]? = some job → ∃ a' l c, w.cell? ⟨b, off + i, none⟩ = some (.slice a' l c) ∧ l ≤ c ∧ RowsAt w S a' l job

theorem ShopAt.get {w : World} {S : Nat → Prop} {a : Option Addr} {len : Nat} {shop : List (List (List Int))} (h : ShopAt w S a len shop) {k : Nat} (hk : k < len) :
    ∃ b off job a' l c, a = some ⟨b, off, none⟩ ∧ shop[k]? = some job ∧ w.cell? ⟨b, off + k, none⟩ = some (.slice a' l c) ∧ l ≤ c ∧ RowsAt w S a' l job := by
  obtain ⟨b, off, ha, _, hc⟩ := h.cells (by omega)
  have hl := h.lenEq
  have hx : shop[k]? = some shop[k] := List.getElem?_eq_getElem (by omega)
  obtain ⟨a', l, c, h1, h2, h3⟩ := hc _ _ hx
  exact ⟨b, off, _, a', l, c, ha, hx, h1, h2, h3⟩
theorem ShopAt.to {w w' : World} {S S' : Nat → Prop} {a : Option Addr} {len : Nat} {shop : List (List (List Int))} (h : ShopAt w S a len shop)
    (hg : ∀ b, S b → S' b ∧ w'.heap[b]? = w.heap[b]?) : ShopAt w' S' a len shop := by
  refine ⟨h.lenEq, h.small, fun hl => ?_⟩
  obtain ⟨b, off, ha, hs, hc⟩ := h.cells hl
  refine ⟨b, off, ha, (hg b hs).1, fun i r hr => ?_⟩
  obtain ⟨a', l, c, h1, h2, h3⟩ := hc i r hr
  exact ⟨a', l, c, by rw [World.cell?_of_block (w := w) (hg b hs).2]; exact h1, h2, h3.to hg⟩
theorem ShopAt.below {w w' : World} {n : Nat} {a : Option Addr} {len : Nat} {shop : List (List (List Int))} (h : ShopAt w (· < n) a len shop) (hb : Below n w w') : ShopAt w' (· < n) a len shop :=
  h.to fun b hb' => ⟨hb', hb.block b hb'⟩
theorem ShopAt.mem {w : World} {S : Nat → Prop} {b off len : Nat} {shop : List (List (List Int))} (h : ShopAt w S (some ⟨b, off, none⟩) len shop) (h0 : 0 < len) : S b := by
  obtain ⟨b', off', e, hs, _⟩ := h.cells h0
  cases e
  exact hs
theorem ShopAt.take {w : World} {S : Nat → Prop} {a : Option Addr} {len : Nat} {shop : List (List (List Int))} (h : ShopAt w S a len shop) (k : Nat) (hk : k ≤ len) : ShopAt w S a k (shop.take k) := by
  have hl := h.lenEq
  have hs := h.small
  refine ⟨by simp; omega, by omega, fun h0 => ?_⟩
  obtain ⟨b, off, ha, hs, hc⟩ := h.cells (by omega)
  refine ⟨b, off, ha, hs, fun i r hr => hc i r ?_⟩
  rw [List.getElem?_take] at hr
  split at hr
  · exact hr
  · cases hr
theorem Drew.shop {w wr : World} {S : Nat → Prop} {a : Option Addr} {len : Nat} {shop : List (List (List Int))} (h : ShopAt w S a len shop) (d : Drew w wr) : ShopAt wr S a len shop := by
  obtain ⟨q, rfl⟩ := d
  exact h.to (fun b hb => ⟨hb, rfl⟩)

-- shops
def stepB (r : List Int) : Bool := r.length == 2 && (inB 0 2 (r.getD 0 0) && inB 1 9 (r.getD 1 0))
def machsOf (job : List (List Int)) : List Int := job.map (fun r => r.getD 0 0)
def sjobB (job : List (List Int)) : Bool := job.all stepB && decide (machsOf job).Nodup
def shopM (shop : List (List (List Int))) : Bool := shop.all sjobB && decide (shop.length ≤ 3)
theorem shop_false {shop : List (List (List Int))} {k : Nat} {job : List (List Int)} (h : shop[k]? = some job) (hr : sjobB job = false) : shopM shop = false := by
  unfold shopM
  rw [List.all_eq_false.2 ⟨job, List.mem_of_getElem? h, by rw [hr]; simp⟩]; rfl
theorem sjob_step {job : List (List Int)} {k : Nat} {r : List Int} (h : job[k]? = some r) (hr : stepB r = false) : sjobB job = false := by
  unfold sjobB
  rw [List.all_eq_false.2 ⟨r, List.mem_of_getElem? h, by rw [hr]; simp⟩]; rfl
theorem sjob_twice {job : List (List Int)} {k : Nat} {r : List Int} (h : job[k]? = some r) (hr : r.getD 0 0 ∈ machsOf (job.take k)) : sjobB job = false := by
  unfold sjobB
  rw [decide_eq_false, Bool.and_false]
  intro hn
  have h2 : (machsOf (job.take (k + 1))).Nodup := hn.sublist ((List.take_sublist _ _).map _)
  rw [take_get h] at h2
  simp only [machsOf, List.map_append, List.map_cons, List.map_nil] at h2
  exact (List.nodup_append.1 h2).2.2 _ hr _ (by simp) rfl
/-- the machine and the time of a step -/
def smach (shop : List (List (List Int))) (j k : Nat) : Nat := (((shop.getD j []).getD k []).getD 0 0).toNat
def stime (shop : List (List (List Int))) (j k : Nat) : Int := ((shop.getD j []).getD k []).getD 1 0
def slen (shop : List (List (List Int))) (j : Nat) : Nat := (shop.getD j []).length
theorem shop_get {shop : List (List (List Int))} (h : shopM shop = true) : shop.length ≤ 3 ∧ ∀ job ∈ shop, job.length ≤ 3 ∧ (machsOf job).Nodup ∧ ∀ r ∈ job, r.length = 2 ∧ (0 ≤ r.getD 0 0 ∧ r.getD 0 0 ≤ 2) ∧ (1 ≤ r.getD 1 0 ∧ r.getD 1 0 ≤ 9) := by
  simp only [shopM, Bool.and_eq_true, decide_eq_true_eq, List.all_eq_true] at h
  refine ⟨h.2, fun job hj => ?_⟩
  have h1 := h.1 job hj
  simp only [sjobB, Bool.and_eq_true, decide_eq_true_eq, List.all_eq_true] at h1
  have h2 : ∀ r ∈ job, r.length = 2 ∧ (0 ≤ r.getD 0 0 ∧ r.getD 0 0 ≤ 2) ∧ (1 ≤ r.getD 1 0 ∧ r.getD 1 0 ≤ 9) := fun r hr => by
    have := h1.1 r hr
    simp only [stepB, Bool.and_eq_true, beq_iff_eq] at this
    exact ⟨this.1, by simpa [inB] using this.2.1, by simpa [inB] using this.2.2⟩
  refine ⟨?_, h1.2, h2⟩
  have hsub : machsOf job ⊆ [0, 1, 2] := fun x hx => by
    obtain ⟨r, hr, rfl⟩ := List.mem_map.1 hx
    have := (h2 r hr).2.1
    simp only [List.mem_cons, List.not_mem_nil, or_false]
    omega
  have := h1.2.length_le_of_subset hsub
  simpa [machsOf] using this
theorem smach_lt {shop : List (List (List Int))} (h : shopM shop = true) (j k : Nat) : smach shop j k < 3 := by
  unfold smach
  rcases Nat.lt_or_ge j shop.length with hj | hj
  · rw [List.getD_eq_getElem?_getD (l := shop), List.getElem?_eq_getElem hj]
    rcases Nat.lt_or_ge k shop[j].length with hk | hk
    · have := ((shop_get h).2 shop[j] (List.getElem_mem hj)).2.2 shop[j][k] (List.getElem_mem hk)
      rw [Option.getD_some, List.getD_eq_getElem?_getD (l := shop[j]), List.getElem?_eq_getElem hk, Option.getD_some]
      omega
    · rw [Option.getD_some, List.getD_eq_getElem?_getD (l := shop[j]), List.getElem?_eq_none hk]; simp
  · rw [List.getD_eq_getElem?_getD (l := shop), List.getElem?_eq_none hj]; simp
theorem stime_bd {shop : List (List (List Int))} (h : shopM shop = true) (j k : Nat) : 0 ≤ stime shop j k ∧ stime shop j k ≤ 9 := by
  unfold stime
  rcases Nat.lt_or_ge j shop.length with hj | hj
  · rw [List.getD_eq_getElem?_getD (l := shop), List.getElem?_eq_getElem hj]
    rcases Nat.lt_or_ge k shop[j].length with hk | hk
    · have := ((shop_get h).2 shop[j] (List.getElem_mem hj)).2.2 shop[j][k] (List.getElem_mem hk)
      rw [Option.getD_some, List.getD_eq_getElem?_getD (l := shop[j]), List.getElem?_eq_getElem hk, Option.getD_some]
      omega
    · rw [Option.getD_some, List.getD_eq_getElem?_getD (l := shop[j]), List.getElem?_eq_none hk]; simp
  · rw [List.getD_eq_getElem?_getD (l := shop), List.getElem?_eq_none hj]; simp
theorem slen_le {shop : List (List (List Int))} (h : shopM shop = true) (j : Nat) : slen shop j ≤ 3 := by
  unfold slen
  rcases Nat.lt_or_ge j shop.length with hj | hj
  · rw [List.getD_eq_getElem?_getD (l := shop), List.getElem?_eq_getElem hj]
    exact ((shop_get h).2 shop[j] (List.getElem_mem hj)).1
  · rw [List.getD_eq_getElem?_getD (l := shop), List.getElem?_eq_none hj]; simp
/-- where a step stands -/
theorem step_at {w : World} {S : Nat → Prop} {a : Option Addr} {len : Nat} {shop : List (List (List Int))} (h : ShopAt w S a len shop) (hv : shopM shop = true) {j k : Nat} (hj : j < len) (hk : k < slen shop j) :
    ∃ (b off b1 off1 c1 b2 off2 c2 : Nat), a = some ⟨b, off, none⟩ ∧ w.cell? ⟨b, off + j, none⟩ = some (.slice (some ⟨b1, off1, none⟩) (slen shop j) c1) ∧ slen shop j ≤ c1 ∧ w.cell? ⟨b1, off1 + k, none⟩ = some (.slice (some ⟨b2, off2, none⟩) 2 c2) ∧ 2 ≤ c2 ∧
      w.cell? ⟨b2, off2, none⟩ = some (.int .i64 (smach shop j k : Nat)) ∧ w.cell? ⟨b2, off2 + 1, none⟩ = some (.int .i64 (stime shop j k)) := by
  obtain ⟨b, off, job, a', l, c1, rfl, hjob, hc1, hl1, hr⟩ := h.get hj
  have e1 : shop.getD j [] = job := by rw [List.getD_eq_getElem?_getD, hjob]; rfl
  unfold slen smach stime at *
  rw [e1] at hk ⊢
  have hl := hr.lenEq
  subst hl
  obtain ⟨b1, off1, r, a2, l2, c2, rfl, hrr, hc2, hl2, hi⟩ := hr.get hk
  have e2 : job.getD k [] = r := by rw [List.getD_eq_getElem?_getD, hrr]; rfl
  rw [e2]
  have hb := ((shop_get hv).2 job (List.mem_of_getElem? hjob)).2.2 r (List.mem_of_getElem? hrr)
  have hl22 : l2 = 2 := by rw [← hi.lenEq]; exact hb.1
  subst hl22
  obtain ⟨b2, off2, x, rfl, hx, hcx⟩ := hi.get (k := 0) (by omega)
  obtain ⟨b3, off3, y, e3, hy, hcy⟩ := hi.get (k := 1) (by omega)
  cases e3
  have ex : r.getD 0 0 = x := by rw [List.getD_eq_getElem?_getD, hx]; rfl
  have ey : r.getD 1 0 = y := by rw [List.getD_eq_getElem?_getD, hy]; rfl
  rw [ex, ey]
  rw [Nat.add_zero] at hcx
  exact ⟨b, off, b1, off1, c1, b2, off2, c2, rfl, hc1, hl1, hc2, hl2, by rw [Int.toNat_of_nonneg (by rw [← ex]; exact hb.2.1.1)]; exact hcx, hcy⟩
end Go.Proofs.Ythmlgicjedhgfab
namespace Go.Proofs.Ythmlgicjedhgfab
open Go.RowKit Go.ChangeShapes Go.WideShapes Go.Deep

section
variable {H : Type} {enc : TypeId × Value → H} {P : Program} {W : World}
theorem open_rows_cs {t e q : TypeId} {fuel : Nat} {cs : List Value} {x : DataW H × List MemPlace} (ht : P.underlying t = some (.slice e)) (he : P.underlying e = some (.slice q)) (hq : P.underlying q = some (.int .i64))
    (ce : P.cellsOf e = 1) (cq : P.cellsOf q = 1) (h : DataW.trod enc P W 0 (fun _ => true) true fuel t cs = some x) : ∃ a len cap rows, cs = [.slice a len cap] ∧ len ≤ cap ∧ RowsAt W (· < W.heap.size) a len rows := by
  rcases open_int_rows ht he hq ce cq h with ⟨hcs, _⟩ | ⟨a, len', cap', A, L, C, Z, hcs, _, hl, hmx, _, hx⟩
  · exact ⟨none, 0, 0, [], hcs, Nat.le_refl _, rfl, Nat.zero_le _, fun h => absurd h (by omega)⟩
  · exact ⟨some a, len', cap', _, hcs, hl, rowsAt_of hl hmx hx⟩
theorem choose_list {Q : Nat → List (List Int) → Prop} : ∀ n, (∀ i, i < n → ∃ r, Q i r) → ∃ shop : List (List (List Int)), shop.length = n ∧ ∀ i r, shop[i]? = some r → Q i r
  | 0, _ => ⟨[], rfl, fun i r h => by simp at h⟩
  | n + 1, h => by
    obtain ⟨l, h1, h2⟩ := choose_list n (fun i hi => h i (by omega))
    obtain ⟨r, hr⟩ := h n (by omega)
    refine ⟨l ++ [r], by simp [h1], fun i x hx => ?_⟩
    rcases Nat.lt_or_ge i l.length with hi | hi
    · rw [List.getElem?_append_left hi] at hx; exact h2 i x hx
    · rw [List.getElem?_append_right hi] at hx
      have h0 : i - l.length = 0 := by have := (List.getElem?_eq_some_iff.1 hx).1; simp at this; omega
      rw [h0] at hx
      simp only [List.getElem?_cons_zero, Option.some.injEq] at hx
      subst hx
      rw [show i = n by omega]; exact hr
theorem open_shop_arg {t e f q : TypeId} {a : Option Addr} {len cap : Nat} {d : DataW H} {p : List MemPlace} (ht : P.underlying t = some (.slice e)) (he : P.underlying e = some (.slice f)) (hf : P.underlying f = some (.slice q)) (hq : P.underlying q = some (.int .i64))
    (ce : P.cellsOf e = 1) (cf : P.cellsOf f = 1) (cq : P.cellsOf q = 1) (h : DataW.Trod enc P W 0 (fun _ => true) true t (.slice a len cap) d p) : ∃ shop, ShopAt W (· < W.heap.size) a len shop := by
  obtain ⟨fuel, hfu⟩ := h
  rcases open_slice1 ht ce hfu with ⟨hcs, _⟩ | ⟨a', len', cap', m, n, V, D, Pl, hcs, _, hl, hmx, hm, _, hx⟩
  · simp [Value.cells] at hcs
    obtain ⟨rfl, rfl, rfl⟩ := hcs
    exact ⟨[], rfl, Nat.zero_le _, fun h => absurd h (by omega)⟩
  · simp [Value.cells] at hcs
    obtain ⟨rfl, rfl, rfl⟩ := hcs
    simp only [if_true] at hm
    subst hm
    obtain ⟨shop, hlen, hshop⟩ := choose_list (Q := fun i r => ∃ a2 l c, V i = .slice a2 l c ∧ l ≤ c ∧ RowsAt W (· < W.heap.size) a2 l r) len (fun i hi => by
      obtain ⟨a2, l, c, rows, h1, h2, h3⟩ := open_rows_cs he hf hq cf cq (hx i (by omega)).2
      simp only [List.cons.injEq, and_true] at h1
      exact ⟨rows, a2, l, c, h1, h2, h3⟩)
    refine ⟨shop, hlen, by unfold maxLen at hmx; omega, fun h0 => ?_⟩
    obtain ⟨b, off, spot⟩ := a'
    have hspot : spot = none := by simpa [Addr.add] using World.cell?_spot (hx 0 (by omega)).1
    subst hspot
    refine ⟨b, off, rfl, lt_of_cell (o := off + 0) (by rw [← add_plain]; exact (hx 0 (by omega)).1), fun i r hr => ?_⟩
    have hi : i < shop.length := (List.getElem?_eq_some_iff.1 hr).1
    obtain ⟨a2, l, c, h1, h2, h3⟩ := hshop i r hr
    exact ⟨a2, l, c, by rw [← add_plain, (hx i (by omega)).1, h1], h2, h3⟩
end
end Go.Proofs.Ythmlgicjedhgfab
