import Derived.WalkKit
import Derived.Lib.Hide
import Derived.Below
import Derived.Deep.Draws
namespace Go.Proofs.Ytldncfkkeeinjac
open Go.RowKit

/-- the slice (a, len) of ints reads as xs, in a block of S -/
structure IntsAt (w : World) (S : Nat → Prop) (a : Option Addr) (len : Nat) (xs : List Int) : Prop where
  lenEq : xs.length = len
  small : len ≤ 9223372036854775807
  cells : 0 < len → ∃ b off, a = some ⟨b, off, none⟩ ∧ S b ∧ ∀ i x, xs[i]? = some x → w.cell? ⟨b, off + i, none⟩ = some (.int .i64 x)

theorem IntsAt.get {w : World} {S : Nat → Prop} {a : Option Addr} {len : Nat} {xs : List Int} (h : IntsAt w S a len xs) {k : Nat} (hk : k < len) :
    ∃ b off x, a = some ⟨b, off, none⟩ ∧ xs[k]? = some x ∧ w.cell? ⟨b, off + k, none⟩ = some (.int .i64 x) := by
  obtain ⟨b, off, ha, _, hc⟩ := h.cells (by omega)
  have hl := h.lenEq
  have hx : xs[k]? = some xs[k] := List.getElem?_eq_getElem (by omega)
  exact ⟨b, off, _, ha, hx, hc _ _ hx⟩

theorem take_get {α : Type} {xs : List α} {k : Nat} {x : α} (h : xs[k]? = some x) : xs.take (k + 1) = xs.take k ++ [x] := by
  rw [List.take_add_one, h]; rfl

theorem ret_bool {a b : Bool} (h : a = b) : Ending.returned (.bool a) = Ending.returned (.bool b) := by rw [h]
theorem ret_int {k : IntKind} {a b : Int} (h : a = b) : Ending.returned (.int k a) = Ending.returned (.int k b) := by rw [h]

/-- how each law ends -/
def LawPost (w : World) (e : Ending) (w' : World) : Prop := e = .returned (.bool true) ∧ Below w.heap.size w w'

def inB (lo hi : Int) (x : Int) : Bool := decide (lo ≤ x ∧ x ≤ hi)
def allIn (lo hi : Int) (xs : List Int) : Bool := xs.all (inB lo hi)
theorem inB_true {lo hi x : Int} (h1 : lo ≤ x) (h2 : x ≤ hi) : inB lo hi x = true := decide_eq_true ⟨h1, h2⟩
theorem inB_lo {lo hi x : Int} (h1 : x < lo) : inB lo hi x = false := decide_eq_false (by omega)
theorem inB_hi {lo hi x : Int} (h1 : hi < x) : inB lo hi x = false := decide_eq_false (by omega)
theorem allIn_snoc (lo hi : Int) (xs : List Int) (x : Int) : allIn lo hi (xs ++ [x]) = (allIn lo hi xs && inB lo hi x) := by
  simp [allIn]
theorem allIn_false {lo hi : Int} {xs : List Int} {k : Nat} {x : Int} (h : xs[k]? = some x) (hx : inB lo hi x = false) : allIn lo hi xs = false := by
  unfold allIn
  rw [List.all_eq_false]
  exact ⟨x, List.mem_of_getElem? h, by simp [hx]⟩

/-- the slice (a, len) of slices of ints reads as rows, in blocks of S -/
structure RowsAt (w : World) (S : Nat → Prop) (a : Option Addr) (len : Nat) (rows : List (List Int)) : Prop where
  lenEq : rows.length = len
  small : len ≤ 9223372036854775807
  cells : 0 < len → ∃ b off, a = some ⟨b, off, none⟩ ∧ S b ∧ ∀ i r, rows[i]? = some r → ∃ a' l c, w.cell? ⟨b, off + i, none⟩ = some (.slice a' l c) ∧ l ≤ c ∧ IntsAt w S a' l r

theorem RowsAt.get {w : World} {S : Nat → Prop} {a : Option Addr} {len : Nat} {rows : List (List Int)} (h : RowsAt w S a len rows) {k : Nat} (hk : k < len) :
    ∃ b off r a' l c, a = some ⟨b, off, none⟩ ∧ rows[k]? = some r ∧ w.cell? ⟨b, off + k, none⟩ = some (.slice a' l c) ∧ l ≤ c ∧ IntsAt w S a' l r := by
  obtain ⟨b, off, ha, _, hc⟩ := h.cells (by omega)
  have hl := h.lenEq
  have hx : rows[k]? = some rows[k] := List.getElem?_eq_getElem (by omega)
  obtain ⟨a', l, c, h1, h2, h3⟩ := hc _ _ hx
  exact ⟨b, off, _, a', l, c, ha, hx, h1, h2, h3⟩

def rowOk (i : Nat) (r : List Int) : Bool := r.length == i && allIn 0 3 r
def okRows : Nat → List (List Int) → Bool
  | _, [] => true
  | i, r :: rs => rowOk i r && okRows (i + 1) rs
theorem okRows_snoc (rs : List (List Int)) (r : List Int) : ∀ i, okRows i (rs ++ [r]) = (okRows i rs && rowOk (i + rs.length) r) := by
  induction rs with
  | nil => intro i; simp [okRows]
  | cons a l ih => intro i; simp only [List.cons_append, okRows, ih, List.length_cons, Bool.and_assoc]; rw [show i + 1 + l.length = i + (l.length + 1) by omega]
theorem okRows_false {rs : List (List Int)} {r : List Int} {k : Nat} (h : rs[k]? = some r) (hr : rowOk k r = false) : okRows 0 rs = false := by
  have hk : k < rs.length := by
    rcases Nat.lt_or_ge k rs.length with h' | h'
    · exact h'
    · simp [List.getElem?_eq_none h'] at h
  have key : ∀ (rs : List (List Int)) (k i : Nat), rs[k]? = some r → rowOk (i + k) r = false → okRows i rs = false := by
    intro rs
    induction rs with
    | nil => intro k i h _; simp at h
    | cons a l ih =>
      intro k i h hr
      cases k with
      | zero => simp at h; subst h; simp at hr; simp [okRows, hr]
      | succ k => simp at h; rw [okRows, ih k (i + 1) h (by rw [show i + 1 + k = i + (k + 1) by omega]; exact hr)]; simp
  exact key rs k 0 h (by simpa using hr)
theorem rowOk_len {i : Nat} {r : List Int} (h : r.length ≠ i) : rowOk i r = false := by simp [rowOk, h]
theorem rowOk_all {i : Nat} {r : List Int} (h : allIn 0 3 r = false) : rowOk i r = false := by simp [rowOk, h]
theorem rowOk_mk {i : Nat} {r : List Int} (h : r.length = i) (h' : allIn 0 3 r = true) : rowOk i r = true := by simp [rowOk, h, h']
theorem okRows_step {rows : List (List Int)} {r : List Int} {k : Nat} (h : rows[k]? = some r) (ha : okRows 0 (rows.take k) = true) (hr : rowOk k r = true) : okRows 0 (rows.take (k + 1)) = true := by
  have hk : k < rows.length := by
    rcases Nat.lt_or_ge k rows.length with h' | h'
    · exact h'
    · simp [List.getElem?_eq_none h'] at h
  rw [take_get h, okRows_snoc, ha, List.length_take_of_le (by omega), Nat.zero_add, hr]; rfl
theorem allIn_step {lo hi : Int} {xs : List Int} {x : Int} {k : Nat} (h : xs[k]? = some x) (ha : allIn lo hi (xs.take k) = true) (hr : inB lo hi x = true) : allIn lo hi (xs.take (k + 1)) = true := by
  rw [take_get h, allIn_snoc, ha, hr]; rfl
def validBillM (rows : List (List Int)) : Bool := inB 1 6 rows.length && okRows 0 rows


theorem IntsAt.to {w w' : World} {S S' : Nat → Prop} {a : Option Addr} {len : Nat} {xs : List Int} (h : IntsAt w S a len xs)
    (hg : ∀ b, S b → S' b ∧ w'.heap[b]? = w.heap[b]?) : IntsAt w' S' a len xs := by
  refine ⟨h.lenEq, h.small, fun hl => ?_⟩
  obtain ⟨b, off, ha, hs, hc⟩ := h.cells hl
  exact ⟨b, off, ha, (hg b hs).1, fun i x hx => by rw [World.cell?_of_block (w := w) (hg b hs).2]; exact hc i x hx⟩
theorem RowsAt.to {w w' : World} {S S' : Nat → Prop} {a : Option Addr} {len : Nat} {rows : List (List Int)} (h : RowsAt w S a len rows)
    (hg : ∀ b, S b → S' b ∧ w'.heap[b]? = w.heap[b]?) : RowsAt w' S' a len rows := by
  refine ⟨h.lenEq, h.small, fun hl => ?_⟩
  obtain ⟨b, off, ha, hs, hc⟩ := h.cells hl
  refine ⟨b, off, ha, (hg b hs).1, fun i r hr => ?_⟩
  obtain ⟨a', l, c, h1, h2, h3⟩ := hc i r hr
  exact ⟨a', l, c, by rw [World.cell?_of_block (w := w) (hg b hs).2]; exact h1, h2, h3.to hg⟩
theorem IntsAt.below {w w' : World} {n : Nat} {a : Option Addr} {len : Nat} {xs : List Int} (h : IntsAt w (· < n) a len xs) (hb : Below n w w') : IntsAt w' (· < n) a len xs :=
  h.to fun b hb' => ⟨hb', hb.block b hb'⟩
theorem RowsAt.below {w w' : World} {n : Nat} {a : Option Addr} {len : Nat} {rows : List (List Int)} (h : RowsAt w (· < n) a len rows) (hb : Below n w w') : RowsAt w' (· < n) a len rows :=
  h.to fun b hb' => ⟨hb', hb.block b hb'⟩
theorem IntsAt.lit {W : World} {cs : Array Value} {t : TypeId} {xs : List Int} {b len : Nat} (hcs : cs.toList = xs.map (.int .i64)) (hlen : xs.length = len) (hb : b = W.heap.size) (hs : len ≤ 9223372036854775807) :
    IntsAt (W.alloc (.cells cs t)) (fun k => k = b) (some ⟨b, 0, none⟩) len xs := by
  subst hb
  refine ⟨hlen, hs, fun _ => ⟨_, _, rfl, rfl, fun i x hx => ?_⟩⟩
  rw [Nat.zero_add, World.cell?_alloc_new, ← Array.getElem?_toList, hcs, List.getElem?_map, hx]; rfl
theorem RowsAt.mem {w : World} {S : Nat → Prop} {b off len : Nat} {rows : List (List Int)} (h : RowsAt w S (some ⟨b, off, none⟩) len rows) (h0 : 0 < len) : S b := by
  obtain ⟨b', off', e, hs, _⟩ := h.cells h0
  cases e
  exact hs
theorem IntsAt.mem {w : World} {S : Nat → Prop} {b off len : Nat} {xs : List Int} (h : IntsAt w S (some ⟨b, off, none⟩) len xs) (h0 : 0 < len) : S b := by
  obtain ⟨b', off', e, hs, _⟩ := h.cells h0
  cases e
  exact hs
theorem RowsAt.take {w : World} {S : Nat → Prop} {a : Option Addr} {len : Nat} {rows : List (List Int)} (h : RowsAt w S a len rows) (k : Nat) (hk : k ≤ len) : RowsAt w S a k (rows.take k) := by
  have hl := h.lenEq
  have hs := h.small
  refine ⟨by simp; omega, by omega, fun h0 => ?_⟩
  obtain ⟨b, off, ha, hs, hc⟩ := h.cells (by omega)
  refine ⟨b, off, ha, hs, fun i r hr => hc i r ?_⟩
  rw [List.getElem?_take] at hr
  split at hr
  · exact hr
  · cases hr
/-- nothing but draws -/
def Drew (w w' : World) : Prop := ∃ q, w' = w.drewN q
theorem Drew.refl (w : World) : Drew w w := ⟨0, rfl⟩
theorem Drew.drew {w wr : World} (h : Drew w wr) (q : Nat) : Drew w (wr.drewN q) := by
  obtain ⟨p, rfl⟩ := h
  exact ⟨p + q, World.drewN_drewN _ _ _⟩
theorem Drew.rows {w wr : World} {S : Nat → Prop} {a : Option Addr} {len : Nat} {rows : List (List Int)} (h : RowsAt w S a len rows) (d : Drew w wr) : RowsAt wr S a len rows := by
  obtain ⟨q, rfl⟩ := d
  exact h.to (fun b hb => ⟨hb, rfl⟩)
theorem Drew.ints {w wr : World} {S : Nat → Prop} {a : Option Addr} {len : Nat} {xs : List Int} (h : IntsAt w S a len xs) (d : Drew w wr) : IntsAt wr S a len xs := by
  obtain ⟨q, rfl⟩ := d
  exact h.to (fun b hb => ⟨hb, rfl⟩)
theorem Drew.below {w wr : World} (d : Drew w wr) (B : Nat) : Below B w wr := by
  obtain ⟨q, rfl⟩ := d
  exact ⟨rfl, rfl, rfl, Nat.le_refl _, fun _ _ => rfl⟩
theorem Drew.size {w wr : World} (d : Drew w wr) : wr.heap.size = w.heap.size := by
  obtain ⟨q, rfl⟩ := d
  rfl
end Go.Proofs.Ytldncfkkeeinjac
