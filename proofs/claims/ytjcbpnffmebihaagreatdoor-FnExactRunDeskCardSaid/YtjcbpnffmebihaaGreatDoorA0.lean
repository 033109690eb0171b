import Derived.WalkKit
import Derived.Lib.Hide
import Derived.Below
import Derived.Deep.Draws
import Derived.ProofKit
import Derived.Deep.Matrix
import Derived.Laws.Bits64
import Derived.Laws.AppendOwn
import Derived.WideShapes
import Derived.Test.YtjcbpnffmebihaaGreatDoorRows
import Derived.LoopTactic
import Derived.Outline
import Derived.WalkSpells
import Derived.WalkLawsBesides
import Derived.Deep.OwnRows
import Derived.Deep.QuietTactic
import Derived.BigQuiet
namespace Go.Proofs.YtjcbpnffmebihaaGreatDoor
open Go.RowKit

/-- the slice (a, len) of ints reads as xs, in a block of S -/
structure IntsAt (w : World) (S : Nat → Prop) (a : Option Addr) (len : Nat) (xs : List Int) : Prop where
  lenEq : xs.length = len
  small : len ≤ 9223372036854775807
  cells : 0 < len → ∃ b off, a = some ⟨b, off, none⟩ ∧ S b ∧ ∀ i x, xs[i]? = some x → w.cell? ⟨b, off + i, none⟩ = some (.int .i64 x)

theorem IntsAt.get {w : World} {S : Nat → Prop} {a : Option Addr} {len : Nat} {xs : List Int} (h : IntsAt w S a len xs) {k : Nat} (hk : k < len) :
    ∃ b off x, a = some ⟨b, off, none⟩ ∧ xs[k]? = some x ∧ w.cell? ⟨b, off + k, none⟩ = some (.int .i64 x) := by
  obtain ⟨b, off, ha, _, hc⟩ := h.cells (by omega)
  have hl := h.lenEq
  have hx : xs[k]? = some xs[k] := List.getElem?_eq_getElem (by omega)
  exact ⟨b, off, _, ha, hx, hc _ _ hx⟩

theorem take_get {α : Type} {xs : List α} {k : Nat} {x : α} (h : xs[k]? = some x) : xs.take (k + 1) = xs.take k ++ [x] := by
  rw [List.take_add_one, h]; rfl

theorem ret_bool {a b : Bool} (h : a = b) : Ending.returned (.bool a) = Ending.returned (.bool b) := by rw [h]
theorem ret_int {k : IntKind} {a b : Int} (h : a = b) : Ending.returned (.int k a) = Ending.returned (.int k b) := by rw [h]

/-- how each law ends -/
def LawPost (w : World) (e : Ending) (w' : World) : Prop := e = .returned (.bool true) ∧ Below w.heap.size w w'

def inB (lo hi : Int) (x : Int) : Bool := decide (lo ≤ x ∧ x ≤ hi)
def allIn (lo hi : Int) (xs : List Int) : Bool := xs.all (inB lo hi)
theorem inB_true {lo hi x : Int} (h1 : lo ≤ x) (h2 : x ≤ hi) : inB lo hi x = true := decide_eq_true ⟨h1, h2⟩
theorem inB_lo {lo hi x : Int} (h1 : x < lo) : inB lo hi x = false := decide_eq_false (by omega)
theorem inB_hi {lo hi x : Int} (h1 : hi < x) : inB lo hi x = false := decide_eq_false (by omega)
theorem allIn_snoc (lo hi : Int) (xs : List Int) (x : Int) : allIn lo hi (xs ++ [x]) = (allIn lo hi xs && inB lo hi x) := by
  simp [allIn]
theorem allIn_false {lo hi : Int} {xs : List Int} {k : Nat} {x : Int} (h : xs[k]? = some x) (hx : inB lo hi x = false) : allIn lo hi xs = false := by
  unfold allIn
  rw [List.all_eq_false]
  exact ⟨x, List.mem_of_getElem? h, by simp [hx]⟩

/-- the slice (a, len) of slices of ints reads as rows, in blocks of S -/
structure RowsAt (w : World) (S : Nat → Prop) (a : Option Addr) (len : Nat) (rows : List (List Int)) : Prop where
  lenEq : rows.length = len
  small : len ≤ 9223372036854775807
  cells : 0 < len → ∃ b off, a = some ⟨b, off, none⟩ ∧ S b ∧ ∀ i r, rows[i]? = some r → ∃ a' l c, w.cell? ⟨b, off + i, none⟩ = some (.slice a' l c) ∧ l ≤ c ∧ IntsAt w S a' l r

theorem RowsAt.get {w : World} {S : Nat → Prop} {a : Option Addr} {len : Nat} {rows : List (List Int)} (h : RowsAt w S a len rows) {k : Nat} (hk : k < len) :
    ∃ b off r a' l c, a = some ⟨b, off, none⟩ ∧ rows[k]? = some r ∧ w.cell? ⟨b, off + k, none⟩ = some (.slice a' l c) ∧ l ≤ c ∧ IntsAt w S a' l r := by
  obtain ⟨b, off, ha, _, hc⟩ := h.cells (by omega)
  have hl := h.lenEq
  have hx : rows[k]? = some rows[k] := List.getElem?_eq_getElem (by omega)
  obtain ⟨a', l, c, h1, h2, h3⟩ := hc _ _ hx
  exact ⟨b, off, _, a', l, c, ha, hx, h1, h2, h3⟩

theorem allIn_step {lo hi : Int} {xs : List Int} {x : Int} {k : Nat} (h : xs[k]? = some x) (ha : allIn lo hi (xs.take k) = true) (hr : inB lo hi x = true) : allIn lo hi (xs.take (k + 1)) = true := by
  rw [take_get h, allIn_snoc, ha, hr]; rfl
theorem IntsAt.to {w w' : World} {S S' : Nat → Prop} {a : Option Addr} {len : Nat} {xs : List Int} (h : IntsAt w S a len xs)
    (hg : ∀ b, S b → S' b ∧ w'.heap[b]? = w.heap[b]?) : IntsAt w' S' a len xs := by
  refine ⟨h.lenEq, h.small, fun hl => ?_⟩
  obtain ⟨b, off, ha, hs, hc⟩ := h.cells hl
  exact ⟨b, off, ha, (hg b hs).1, fun i x hx => by rw [World.cell?_of_block (w := w) (hg b hs).2]; exact hc i x hx⟩
theorem RowsAt.to {w w' : World} {S S' : Nat → Prop} {a : Option Addr} {len : Nat} {rows : List (List Int)} (h : RowsAt w S a len rows)
    (hg : ∀ b, S b → S' b ∧ w'.heap[b]? = w.heap[b]?) : RowsAt w' S' a len rows := by
  refine ⟨h.lenEq, h.small, fun hl => ?_⟩
  obtain ⟨b, off, ha, hs, hc⟩ := h.cells hl
  refine ⟨b, off, ha, (hg b hs).1, fun i r hr => ?_⟩
  obtain ⟨a', l, c, h1, h2, h3⟩ := hc i r hr
  exact ⟨a', l, c, by rw [World.cell?_of_block (w := w) (hg b hs).2]; exact h1, h2, h3.to hg⟩
theorem IntsAt.below {w w' : World} {n : Nat} {a : Option Addr} {len : Nat} {xs : List Int} (h : IntsAt w (· < n) a len xs) (hb : Below n w w') : IntsAt w' (· < n) a len xs :=
  h.to fun b hb' => ⟨hb', hb.block b hb'⟩
theorem RowsAt.below {w w' : World} {n : Nat} {a : Option Addr} {len : Nat} {rows : List (List Int)} (h : RowsAt w (· < n) a len rows) (hb : Below n w w') : RowsAt w' (· < n) a len rows :=
  h.to fun b hb' => ⟨hb', hb.block b hb'⟩
theorem IntsAt.lit {W : World} {cs : Array Value} {t : TypeId} {xs : List Int} {b len : Nat} (hcs : cs.toList = xs.map (.int .i64)) (hlen : xs.length = len) (hb : b = W.heap.size) (hs : len ≤ 9223372036854775807) :
    IntsAt (W.alloc (.cells cs t)) (fun k => k = b) (some ⟨b, 0, none⟩) len xs := by
  subst hb
  refine ⟨hlen, hs, fun _ => ⟨_, _, rfl, rfl, fun i x hx => ?_⟩⟩
  rw [Nat.zero_add, World.cell?_alloc_new, ← Array.getElem?_toList, hcs, List.getElem?_map, hx]; rfl
theorem RowsAt.mem {w : World} {S : Nat → Prop} {b off len : Nat} {rows : List (List Int)} (h : RowsAt w S (some ⟨b, off, none⟩) len rows) (h0 : 0 < len) : S b := by
  obtain ⟨b', off', e, hs, _⟩ := h.cells h0
  cases e
  exact hs
theorem IntsAt.mem {w : World} {S : Nat → Prop} {b off len : Nat} {xs : List Int} (h : IntsAt w S (some ⟨b, off, none⟩) len xs) (h0 : 0 < len) : S b := by
  obtain ⟨b', off', e, hs, _⟩ := h.cells h0
  cases e
  exact hs
theorem RowsAt.take {w : World} {S : Nat → Prop} {a : Option Addr} {len : Nat} {rows : List (List Int)} (h : RowsAt w S a len rows) (k : Nat) (hk : k ≤ len) : RowsAt w S a k (rows.take k) := by
  have hl := h.lenEq
  have hs := h.small
  refine ⟨by simp; omega, by omega, fun h0 => ?_⟩
  obtain ⟨b, off, ha, hs, hc⟩ := h.cells (by omega)
  refine ⟨b, off, ha, hs, fun i r hr => hc i r ?_⟩
  rw [List.getElem?_take] at hr
  split at hr
  · exact hr
  · cases hr
/-- nothing but draws -/
def Drew (w w' : World) : Prop := ∃ q, w' = w.drewN q
theorem Drew.refl (w : World) : Drew w w := ⟨0, rfl⟩
theorem Drew.drew {w wr : World} (h : Drew w wr) (q : Nat) : Drew w (wr.drewN q) := by
  obtain ⟨p, rfl⟩ := h
  exact ⟨p + q, World.drewN_drewN _ _ _⟩
theorem Drew.rows {w wr : World} {S : Nat → Prop} {a : Option Addr} {len : Nat} {rows : List (List Int)} (h : RowsAt w S a len rows) (d : Drew w wr) : RowsAt wr S a len rows := by
  obtain ⟨q, rfl⟩ := d
  exact h.to (fun b hb => ⟨hb, rfl⟩)
theorem Drew.ints {w wr : World} {S : Nat → Prop} {a : Option Addr} {len : Nat} {xs : List Int} (h : IntsAt w S a len xs) (d : Drew w wr) : IntsAt wr S a len xs := by
  obtain ⟨q, rfl⟩ := d
  exact h.to (fun b hb => ⟨hb, rfl⟩)
theorem Drew.below {w wr : World} (d : Drew w wr) (B : Nat) : Below B w wr := by
  obtain ⟨q, rfl⟩ := d
  exact ⟨rfl, rfl, rfl, Nat.le_refl _, fun _ _ => rfl⟩
theorem Drew.size {w wr : World} (d : Drew w wr) : wr.heap.size = w.heap.size := by
  obtain ⟨q, rfl⟩ := d
  rfl
end Go.Proofs.YtjcbpnffmebihaaGreatDoor
namespace Go.Proofs.YtjcbpnffmebihaaGreatDoor
open Go.RowKit Go.ChangeShapes Go.WideShapes Go.Deep

theorem lt_of_cell {W : World} {b o : Nat} {v : Value} (h : W.cell? ⟨b, o, none⟩ = some v) : b < W.heap.size := by
  rcases Nat.lt_or_ge b W.heap.size with h' | h'
  · exact h'
  · simp [World.cell?, Array.getElem?_eq_none h'] at h

section
variable {H : Type} {enc : TypeId × Value → H} {P : Program} {W : World}
end
end Go.Proofs.YtjcbpnffmebihaaGreatDoor
namespace Go.Proofs.YtjcbpnffmebihaaGreatDoor
open Go.RowKit

/-- the byte slice (a, n) can be read; its bytes lie below block B -/
def BytesAt (w : World) (B : Nat) (a : Option Addr) (n : Nat) : Prop :=
  0 < n → ∃ b off, a = some ⟨b, off, none⟩ ∧ b < B ∧ ∀ i, i < n → ∃ x : Nat, x < 256 ∧ w.cell? ⟨b, off + i, none⟩ = some (.int .u8 x)

/-- block R is a reader of code at position p -/
structure Rd (w : World) (R p : Nat) : Prop where
  pos : w.cell? ⟨R, 1, none⟩ = some (.int .i64 p)
  free : w.frozen? ⟨R, 1, none⟩ = false
  code : ∃ (a : Option Addr) (n cap : Nat), w.cell? ⟨R, 0, none⟩ = some (.slice a n cap) ∧ n ≤ 2000 ∧ BytesAt w R a n

theorem Rd.lt {w : World} {R p : Nat} (h : Rd w R p) : R < w.heap.size := by
  have h1 := h.pos
  rcases Nat.lt_or_ge R w.heap.size with h' | h'
  · exact h'
  · simp [World.cell?, Array.getElem?_eq_none h'] at h1

/-- all blocks but R are as they were -/
theorem grownBy_setCell (w : World) (a : Addr) (v : Value) : w.grownBy (w.setCell a v) (some a.block) :=
  ⟨rfl, rfl, rfl, by simp [World.setCell], fun k _ hk => Below.heap_setCell _ _ _ _ (fun e => hk (by rw [e]))⟩

theorem grownBy_drewN (w : World) (q : Nat) (r : Option Nat) : w.grownBy (w.drewN q) r :=
  ⟨rfl, rfl, rfl, Nat.le_refl _, fun _ _ _ => rfl⟩

theorem Rd.keep {w w' : World} {R p : Nat} (h : Rd w R p) (hg : w.grownBy w' (some R)) (hp : w'.cell? ⟨R, 1, none⟩ = some (.int .i64 ((p + 1 : Nat) : Int)))
    (hf : w'.frozen? ⟨R, 1, none⟩ = false) (hs : w'.cell? ⟨R, 0, none⟩ = w.cell? ⟨R, 0, none⟩) : Rd w' R (p + 1) := by
  obtain ⟨a, n, cap, h1, h2, h3⟩ := h.code
  refine ⟨hp, hf, a, n, cap, hs.trans h1, h2, fun hn => ?_⟩
  obtain ⟨b, off, ha, hb, hc⟩ := h3 hn
  refine ⟨b, off, ha, hb, fun i hi => ?_⟩
  obtain ⟨x, hx, hx'⟩ := hc i hi
  exact ⟨x, hx, hg.cell hx' (by simp; omega)⟩
theorem Rd.stored {w : World} {R p : Nat} (h : Rd w R p) (q : Nat) :
    Rd ((w.setCell ⟨R, 1, none⟩ (.int .i64 ((p : Int) + 1))).drewN q) R (p + 1) ∧ w.grownBy ((w.setCell ⟨R, 1, none⟩ (.int .i64 ((p : Int) + 1))).drewN q) (some R) := by
  have hg : w.grownBy ((w.setCell ⟨R, 1, none⟩ (.int .i64 ((p : Int) + 1))).drewN q) (some R) := by
    have h0 := grownBy_setCell w ⟨R, 1, none⟩ (.int .i64 ((p : Int) + 1))
    exact ⟨h0.os, h0.tape, h0.output, h0.size, h0.block⟩
  have hc : (w.setCell ⟨R, 1, none⟩ (.int .i64 ((p : Int) + 1))).cell? ⟨R, 1, none⟩ = some (.int .i64 ((p + 1 : Nat) : Int)) := by
    rw [World.cell?_setCell_same' _ _ _ (by rw [h.pos]; rfl)]; rfl
  refine ⟨h.keep hg hc ?_ ?_, hg⟩
  · show (w.setCell ⟨R, 1, none⟩ (.int .i64 ((p : Int) + 1))).frozen? ⟨R, 1, none⟩ = false
    rw [World.frozen?_setCell]; exact h.free
  · show (w.setCell ⟨R, 1, none⟩ (.int .i64 ((p : Int) + 1))).cell? ⟨R, 0, none⟩ = _
    rw [World.cell?_setCell_other _ _ _ _ (by simp)]
theorem xor_i64_nat (a b : Nat) (ha : a < 9223372036854775808) (hb : b < 9223372036854775808) :
    bits .xor .i64 (a : Int) (b : Int) = ((a ^^^ b : Nat) : Int) := by
  have hx : a ^^^ b < 2 ^ 63 := Nat.xor_lt_two_pow (by omega) (by omega)
  have h1 : (BitVec.ofInt 64 (a : Int)).toNat = a := by
    rw [BitVec.ofInt_natCast, BitVec.toNat_ofNat]; exact Nat.mod_eq_of_lt (by omega)
  have h2 : (BitVec.ofInt 64 (b : Int)).toNat = b := by
    rw [BitVec.ofInt_natCast, BitVec.toNat_ofNat]; exact Nat.mod_eq_of_lt (by omega)
  show IntKind.i64.wrap ((BitVec.ofInt 64 (a : Int) ^^^ BitVec.ofInt 64 (b : Int)).toNat : Int) = _
  rw [BitVec.toNat_xor, h1, h2, IntKind.wrap_i64]
  omega

theorem mixed (S n : Int) (h0 : 0 ≤ S) (h1 : S < 4611686018427387904) (hn : 1 ≤ n) : ∃ k : Nat, (bits .xor .i64 S (S / 64)).tmod n = (k : Int) ∧ (k : Int) < n := by
  obtain ⟨s, rfl⟩ := Int.eq_ofNat_of_zero_le h0
  have e : ((s : Int) / 64) = ((s / 64 : Nat) : Int) := by omega
  rw [e, xor_i64_nat s (s / 64) (by omega) (by omega), Int.tmod_eq_emod_of_nonneg (by omega)]
  have e1 : 0 ≤ (((s ^^^ s / 64 : Nat) : Int)) % n := Int.emod_nonneg _ (by omega)
  have e2 : (((s ^^^ s / 64 : Nat) : Int)) % n < n := Int.emod_lt_of_pos _ (by omega)
  exact ⟨((((s ^^^ s / 64 : Nat) : Int)) % n).toNat, by omega, by omega⟩
end Go.Proofs.YtjcbpnffmebihaaGreatDoor
namespace Go.Proofs.YtjcbpnffmebihaaGreatDoor
open Go.RowKit Go.WideShapes

theorem Rd.grown {w w' : World} {R p : Nat} {r : Option Nat} (h : Rd w R p) (hg : w.grownBy w' r) (hr : ∀ k, r = some k → R < k) : Rd w' R p := by
  have hlt := h.lt
  obtain ⟨a, n, cap, h1, h2, h3⟩ := h.code
  have hR : some R ≠ r := fun e => by have := hr R e.symm; omega
  refine ⟨hg.cell h.pos hR, ?_, a, n, cap, hg.cell h1 hR, h2, fun hn => ?_⟩
  · rw [World.frozen?_of_block (w := w) (hg.block R hlt hR)]; exact h.free
  · obtain ⟨b, off, ha, hb, hc⟩ := h3 hn
    refine ⟨b, off, ha, hb, fun i hi => ?_⟩
    obtain ⟨x, hx, hx'⟩ := hc i hi
    exact ⟨x, hx, hg.cell hx' (fun e => by have := hr b e.symm; omega)⟩
theorem Rd.alloc {w : World} {R p : Nat} (h : Rd w R p) (o : Obj) : Rd (w.alloc o) R p :=
  h.grown (World.grownBy_alloc w o none) (fun k e => by cases e)

theorem grown_comp {a b c : World} {r : Option Nat} (h : a.grownBy b r) (g : b.grownBy c r) : a.grownBy c r :=
  ⟨g.os.trans h.os, g.tape.trans h.tape, g.output.trans h.output, Nat.le_trans h.size g.size, fun k hk hne => by
    rw [g.block k (Nat.lt_of_lt_of_le hk h.size) hne, h.block k hk hne]⟩
theorem grown_refl (w : World) (r : Option Nat) : w.grownBy w r := ⟨rfl, rfl, rfl, Nat.le_refl _, fun _ _ _ => rfl⟩
/-- two rows of different kinds lie in different blocks -/
theorem own_ne {w : World} {B B' e e' s s' n m : Nat} {v u : Value} {xs ys : List Value} (h : w.ownsRow B e s v n xs) (g : w.ownsRow B' e' s' u m ys) (he : e ≠ e') :
    v.ownBlock = none ∨ v.ownBlock ≠ u.ownBlock := by
  rcases h.2 with ⟨rfl, _⟩ | ⟨k, cap, cur, rfl, _, hk, _⟩
  · exact Or.inl rfl
  · right
    rcases g.2 with ⟨rfl, _⟩ | ⟨k', cap', cur', rfl, _, hk', _⟩
    · simp [Value.ownBlock]
    · intro e0
      simp only [Value.ownBlock, Option.some.injEq] at e0
      subst e0
      rw [hk] at hk'
      simp only [Option.some.injEq, Obj.cells.injEq] at hk'
      exact he hk'.2.1

theorem own_base {w : World} {B B' e s n : Nat} {v : Value} {xs : List Value} (h : w.ownsRow B e s v n xs) (hb : B' ≤ B) : w.ownsRow B' e s v n xs := by
  refine ⟨h.1, ?_⟩
  rcases h.2 with h2 | ⟨k, cap, cur, h1, h2, h3⟩
  · exact Or.inl h2
  · exact Or.inr ⟨k, cap, cur, h1, Nat.le_trans hb h2, h3⟩
theorem ne_low {w : World} {B e s n R : Nat} {v : Value} {xs : List Value} (h : w.ownsRow B e s v n xs) (hR : R < B) : v.ownBlock = none ∨ v.ownBlock ≠ some R := by
  cases hv : v.ownBlock with
  | none => exact Or.inl rfl
  | some k => right; have := h.lt k hv; simp; omega

theorem own_slice {w : World} {B e s n : Nat} {v : Value} {xs : List Value} (h : w.ownsRow B e s v n xs) : ∃ a cap, v = .slice a n cap ∧ n ≤ cap := by
  rcases h.2 with ⟨rfl, rfl⟩ | ⟨k, cap, cur, h1, _, _, h3, _⟩
  · exact ⟨none, 0, rfl, Nat.le_refl _⟩
  · exact ⟨_, cap, h1, h3⟩
/-- u is an int slice of the call's own, in a block below M -/
def OwnInts (w : World) (B M : Nat) (u : Value) : Prop := ∃ (l : Nat) (xs : List Int), w.ownsRow B 3 1 u l (xs.map (.int .i64)) ∧ ∀ k, u.ownBlock = some k → k < M
/-- v is a slice of k such -/
def OwnRows (w : World) (B M : Nat) (v : Value) (k : Nat) : Prop := ∃ us : List Value, w.ownsRow B 35 1 v k us ∧ ∀ u ∈ us, OwnInts w B M u

theorem OwnInts.kept {w w' : World} {B M : Nat} {u : Value} {r : Option Nat} (h : OwnInts w B M u) (hg : w.grownBy w' r) (hr : ∀ k, r = some k → k < B ∨ M ≤ k) : OwnInts w' B M u := by
  obtain ⟨l, xs, h, hl⟩ := h
  refine ⟨l, xs, h.kept hg ?_, hl⟩
  cases hv : u.ownBlock with
  | none => exact Or.inl rfl
  | some k => right; intro e; have := h.lt k hv; have := hl k hv; have := hr k e.symm; omega
theorem OwnRows.kept {w w' : World} {B M k : Nat} {v : Value} {r : Option Nat} (h : OwnRows w B M v k) (hg : w.grownBy w' r) (hr : ∀ k, r = some k → k < B ∨ M ≤ k)
    (hv : v.ownBlock = none ∨ v.ownBlock ≠ r) : OwnRows w' B M v k := by
  obtain ⟨us, h, hu⟩ := h
  exact ⟨us, h.kept hg hv, fun u hu' => (hu u hu').kept hg hr⟩
theorem OwnRows.low {w w' : World} {B M k R : Nat} {v : Value} (h : OwnRows w B M v k) (hg : w.grownBy w' (some R)) (hR : R < B) : OwnRows w' B M v k := by
  refine h.kept hg (fun k e => by cases e; exact Or.inl hR) ?_
  obtain ⟨us, h, _⟩ := h
  exact ne_low h hR
theorem OwnRows.alloc {w : World} {B M k : Nat} {v : Value} (h : OwnRows w B M v k) (o : Obj) : OwnRows (w.alloc o) B M v k :=
  h.kept (World.grownBy_alloc w o none) (fun k e => by cases e) (by cases v.ownBlock <;> simp)
/-- an append to a row of ints that is newer than the rows -/
theorem OwnRows.ints {w w' : World} {B M k n : Nat} {v u : Value} {xs : List Value} (h : OwnRows w B M v k) (hu : w.ownsRow M 3 1 u n xs) (hg : w.grownBy w' u.ownBlock) : OwnRows w' B M v k := by
  refine h.kept hg (fun k e => Or.inr (hu.lt k e).1) ?_
  obtain ⟨us, h, _⟩ := h
  exact own_ne h hu (by decide)
/-- the row is done, and put to the rows -/
theorem OwnRows.push {w w' : World} {B M n k : Nat} {v v' u : Value} {xs : List Int} {us : List Value} (hu : w.ownsRow M 3 1 u n (xs.map (.int .i64))) (hM : B ≤ M)
    (hv : w.ownsRow B 35 1 v k us) (hus : ∀ u ∈ us, OwnInts w B M u) (hv' : w'.ownsRow B 35 1 v' (k + 1) (us ++ [u])) (hg : w.grownBy w' v.ownBlock) : OwnRows w' B w'.heap.size v' (k + 1) := by
  refine ⟨us ++ [u], hv', fun x hx => ?_⟩
  have key : ∀ (x : Value) (l : Nat) (ys : List Int), w.ownsRow B 3 1 x l (ys.map (.int .i64)) → OwnInts w' B w'.heap.size x := by
    intro x l ys h
    have h' := h.kept hg (own_ne h hv (by decide))
    exact ⟨l, ys, h', fun k hk => (h'.lt k hk).2⟩
  rcases List.mem_append.1 hx with hx | hx
  · obtain ⟨l, ys, h, _⟩ := hus x hx
    exact key x l ys h
  · simp only [List.mem_singleton] at hx
    subst hx
    exact key x n xs (own_base hu hM)
theorem OwnRows.slice {w : World} {B M k : Nat} {v : Value} (h : OwnRows w B M v k) : ∃ a cap, v = .slice a k cap ∧ k ≤ cap := by
  obtain ⟨us, h, _⟩ := h
  exact own_slice h
theorem OwnRows.nil {w w1 : World} {B M r : Nat} (hB : B = w.heap.size) (hg : (w.alloc (.cells #[] 35)).grownBy w1 (some r)) (hr : r < B) : OwnRows w1 B M (.slice (some ⟨B, 0, none⟩) 0 0) 0 := by
  subst hB
  have h0 := World.ownsRow_made (base := w.heap.size) (size := 1) (e := 35) w #[] 0 (Nat.le_refl _) (Nat.zero_le _) rfl
  refine ⟨[], (h0.kept hg (ne_low h0 hr)), fun u hu => by cases hu⟩
theorem OwnRows.up {w : World} {B M M' k : Nat} {v : Value} (h : OwnRows w B M v k) (hM : M ≤ M') : OwnRows w B M' v k := by
  obtain ⟨us, h, hu⟩ := h
  refine ⟨us, h, fun u hu' => ?_⟩
  obtain ⟨l, xs, h1, h2⟩ := hu u hu'
  exact ⟨l, xs, h1, fun k hk => Nat.lt_of_lt_of_le (h2 k hk) hM⟩

theorem OwnRows.store {w : World} {B M g k cap j l : Nat} {u : Value} {xs : List Int} (h : OwnRows w B M (.slice (some ⟨g, 0, none⟩) k cap) k) (hu : w.ownsRow B 3 1 u l (xs.map (.int .i64))) :
    OwnRows (w.setCell ⟨g, j, none⟩ u) B w.heap.size (.slice (some ⟨g, 0, none⟩) k cap) k ∧ w.grownBy (w.setCell ⟨g, j, none⟩ u) (some g) := by
  obtain ⟨us, hv, hus⟩ := h
  obtain ⟨h1, h2⟩ := hv.stored j u
  have hv0 := hv
  refine ⟨⟨us.set j u, h1, fun y hy => ?_⟩, h2⟩
  have key : ∀ (y : Value) (l : Nat) (ys : List Int), w.ownsRow B 3 1 y l (ys.map (.int .i64)) → OwnInts (w.setCell ⟨g, j, none⟩ u) B w.heap.size y := by
    intro y l ys h
    exact ⟨l, ys, h.kept h2 (own_ne h hv0 (by decide)), fun k hk => (h.lt k hk).2⟩
  rcases List.mem_or_eq_of_mem_set hy with hy | rfl
  · obtain ⟨l, ys, h, _⟩ := hus y hy
    exact key y l ys h
  · exact key _ l xs hu
theorem OwnRows.cell {w : World} {B M g k cap j : Nat} (h : OwnRows w B M (.slice (some ⟨g, 0, none⟩) k cap) k) (hj : j < k) : ∃ v, w.cell? ⟨g, j, none⟩ = some v ∧ w.frozen? ⟨g, j, none⟩ = false := by
  obtain ⟨us, hv, _⟩ := h
  have hl := hv.1
  refine ⟨us[j]'(by omega), ?_, hv.frozenAt j⟩
  rw [hv.cellAt j (by omega)]
  exact List.getElem?_eq_getElem _

theorem own_ints {w : World} {B l : Nat} {u : Value} {xs : List Int} (h : w.ownsRow B 3 1 u l (xs.map (.int .i64))) (hl : l ≤ 9223372036854775807) :
    ∃ a cap, u = .slice a l cap ∧ l ≤ cap ∧ IntsAt w (fun b => B ≤ b ∧ b < w.heap.size) a l xs := by
  have hlen : xs.length = l := by have := h.1; simpa using this
  have hlt := h.lt
  have hc := fun g hg => h.cells (g := g) hg
  rcases h.2 with ⟨rfl, rfl⟩ | ⟨g, cap, cur, rfl, _, _, hcap, _⟩
  · exact ⟨none, 0, rfl, Nat.le_refl _, hlen, hl, fun h0 => absurd h0 (by omega)⟩
  · refine ⟨some ⟨g, 0, none⟩, cap, rfl, hcap, hlen, hl, fun h0 => ⟨g, 0, rfl, hlt g rfl, fun i x hx => ?_⟩⟩
    have := hc g rfl i (.int .i64 x) (by rw [List.getElem?_map, hx]; rfl)
    rw [add_plain] at this
    exact this
theorem one_new (w : World) (x : Value) (t : TypeId) : ∀ (j : Nat) (u : Value), [x][j]? = some u → (w.alloc (.cells #[x] t)).cell? ((⟨w.heap.size, 0, none⟩ : Addr).add j) = some u := by
  intro j u h
  rw [add_plain, Nat.zero_add, World.cell?_alloc_new, ← Array.getElem?_toList]; exact h
theorem one_cell_int (k : IntKind) (x : Int) : ∀ u ∈ [Value.int k x], u.oneCell' = true := by simp [Value.oneCell']
theorem all_choose {α β : Type} {Q : α → β → Prop} : ∀ (us : List α), (∀ u ∈ us, ∃ r, Q u r) → ∃ rows : List β, rows.length = us.length ∧ ∀ (i : Nat) (r : β), rows[i]? = some r → ∃ u, us[i]? = some u ∧ Q u r := by
  intro us
  induction us with
  | nil => exact fun _ => ⟨[], rfl, fun i r h => by simp at h⟩
  | cons a l ih =>
    intro h
    obtain ⟨rows, h1, h2⟩ := ih (fun u hu => h u (List.mem_cons_of_mem _ hu))
    obtain ⟨r0, hr0⟩ := h a List.mem_cons_self
    refine ⟨r0 :: rows, by simp [h1], fun i r hr => ?_⟩
    cases i with
    | zero => simp at hr; subst hr; exact ⟨a, by simp, hr0⟩
    | succ i => simp at hr; obtain ⟨u, hu1, hu2⟩ := h2 i r hr; exact ⟨u, by simpa using hu1, hu2⟩
theorem OwnRows.rows {w : World} {B M k : Nat} {v : Value} (h : OwnRows w B M v k) (hk : k ≤ 9223372036854775807) :
    ∃ a cap rows, v = .slice a k cap ∧ k ≤ cap ∧ RowsAt w (fun b => B ≤ b ∧ b < w.heap.size) a k rows := by
  obtain ⟨us, h, hu⟩ := h
  have hlen : us.length = k := by have := h.1; simpa using this
  have hlt := h.lt
  have hc := fun g hg => h.cells (g := g) hg
  obtain ⟨rows, hr1, hr2⟩ := all_choose (Q := fun (u : Value) (r : List Int) => ∃ a' l c, u = .slice a' l c ∧ l ≤ c ∧ IntsAt w (fun b => B ≤ b ∧ b < w.heap.size) a' l r) us (fun u hu' => by
    obtain ⟨l, xs, h1, h2⟩ := hu u hu'
    have hl : l ≤ 9223372036854775807 := by
      rcases h1.2 with ⟨_, rfl⟩ | ⟨_, cap, _, _, _, _, hcap, hm, _⟩
      · omega
      · unfold maxLen at hm; omega
    obtain ⟨a, cap, h3, h4, h5⟩ := own_ints h1 hl
    exact ⟨xs, a, l, cap, h3, h4, h5⟩)
  rcases h.2 with ⟨rfl, rfl⟩ | ⟨g, cap, cur, rfl, _, _, hcap, _⟩
  · exact ⟨none, 0, rows, rfl, Nat.le_refl _, by omega, hk, fun h0 => absurd h0 (by omega)⟩
  · refine ⟨some ⟨g, 0, none⟩, cap, rows, rfl, hcap, by omega, hk, fun h0 => ⟨g, 0, rfl, hlt g rfl, fun i r hr => ?_⟩⟩
    obtain ⟨u, hu1, a', l, c, rfl, h4, h5⟩ := hr2 i r hr
    have := hc g rfl i _ hu1
    rw [add_plain] at this
    exact ⟨a', l, c, this, h4, h5⟩
end Go.Proofs.YtjcbpnffmebihaaGreatDoor
namespace Go.Proofs.YtjcbpnffmebihaaGreatDoor
open Go.RowKit Go.WideShapes Go.Deep

/-- the copies of ints -/
def cellsOf (xs : List Int) : Array Value := (xs.map (Value.int .i64)).toArray
theorem cellsOf_eq {xs : List Int} {C : Array Value} (hs : C.size = xs.length) (h : ∀ (i : Nat) (x : Int), xs[i]? = some x → C[i]? = some (.int .i64 x)) : C = cellsOf xs := by
  apply Array.ext_getElem?
  intro i
  simp only [cellsOf, List.getElem?_toArray, List.getElem?_map]
  cases hx : xs[i]? with
  | none => rw [Array.getElem?_eq_none (by rw [hs]; simpa using hx)]; rfl
  | some x => rw [h i x hx]; rfl

end Go.Proofs.YtjcbpnffmebihaaGreatDoor
namespace Go.Proofs.YtjcbpnffmebihaaGreatDoor
open Go.RowKit

/-- nothing but blocks of S has been written, and nothing made -/
structure KeptBut (S : Nat → Prop) (w w' : World) : Prop where
  os : w'.os = w.os
  tape : w'.tape = w.tape
  output : w'.output = w.output
  size : w'.heap.size = w.heap.size
  block : ∀ k, ¬ S k → w'.heap[k]? = w.heap[k]?
  there : ∀ p v, w.cell? p = some v → ∃ v', w'.cell? p = some v'
  frozen : ∀ p, w'.frozen? p = w.frozen? p
theorem KeptBut.refl (S : Nat → Prop) (w : World) : KeptBut S w w := ⟨rfl, rfl, rfl, rfl, fun _ _ => rfl, fun _ v h => ⟨v, h⟩, fun _ => rfl⟩
theorem KeptBut.trans {S : Nat → Prop} {a b c : World} (h : KeptBut S a b) (g : KeptBut S b c) : KeptBut S a c :=
  ⟨g.os.trans h.os, g.tape.trans h.tape, g.output.trans h.output, g.size.trans h.size, fun k hk => (g.block k hk).trans (h.block k hk), fun p v e => by obtain ⟨v', e'⟩ := h.there p v e; exact g.there p v' e', fun p => (g.frozen p).trans (h.frozen p)⟩
theorem KeptBut.wide {S T : Nat → Prop} {a b : World} (h : KeptBut S a b) (hs : ∀ k, S k → T k) : KeptBut T a b :=
  ⟨h.os, h.tape, h.output, h.size, fun k hk => h.block k (fun e => hk (hs k e)), h.there, h.frozen⟩
theorem KeptBut.set {S : Nat → Prop} {a b : World} (h : KeptBut S a b) {p : Addr} (hp : S p.block) (v : Value) : KeptBut S a (b.setCell p v) :=
  ⟨h.os, h.tape, h.output, by simpa [World.setCell] using h.size, fun k hk => (Below.heap_setCell _ _ _ _ (fun e => hk (by rw [e]; exact hp))).trans (h.block k hk), fun q u e => by
    obtain ⟨u', e'⟩ := h.there q u e
    by_cases hq : p = q
    · subst hq; exact ⟨v, World.cell?_setCell_same _ _ _ e'⟩
    · exact ⟨u', by rw [World.cell?_setCell_other _ _ _ _ hq]; exact e'⟩, fun q => by rw [World.frozen?_setCell]; exact h.frozen q⟩
theorem KeptBut.below {S : Nat → Prop} {a b : World} (h : KeptBut S a b) {B : Nat} (hs : ∀ k, S k → B ≤ k) : Below B a b :=
  ⟨h.os, h.tape, h.output, by rw [h.size]; exact Nat.le_refl _, fun k hk => h.block k (fun e => by have := hs k e; omega)⟩
theorem KeptBut.ints {S T : Nat → Prop} {a b : World} (h : KeptBut S a b) {x : Option Addr} {len : Nat} {xs : List Int} (hi : IntsAt a T x len xs) (hs : ∀ k, T k → ¬ S k) : IntsAt b T x len xs :=
  hi.to (fun k hk => ⟨hk, h.block k (hs k hk)⟩)
theorem KeptBut.rows {S T : Nat → Prop} {a b : World} (h : KeptBut S a b) {x : Option Addr} {len : Nat} {xs : List (List Int)} (hi : RowsAt a T x len xs) (hs : ∀ k, T k → ¬ S k) : RowsAt b T x len xs :=
  hi.to (fun k hk => ⟨hk, h.block k (hs k hk)⟩)

/-- the cells of a slice may be written; they lie in a block of S -/
structure Free (w : World) (S : Nat → Prop) (a : Option Addr) (len : Nat) : Prop where
  small : len ≤ 4611686018427387904
  cells : 0 < len → ∃ b off, a = some ⟨b, off, none⟩ ∧ S b ∧ ∀ i, i < len → (∃ v, w.cell? ⟨b, off + i, none⟩ = some v) ∧ w.frozen? ⟨b, off + i, none⟩ = false
theorem Free.to {w w' : World} {S S' : Nat → Prop} {a : Option Addr} {len : Nat} (h : Free w S a len) (hg : ∀ b, S b → S' b ∧ w'.heap[b]? = w.heap[b]?) : Free w' S' a len := by
  refine ⟨h.small, fun h0 => ?_⟩
  obtain ⟨b, off, ha, hs, hc⟩ := h.cells h0
  refine ⟨b, off, ha, (hg b hs).1, fun i hi => ?_⟩
  obtain ⟨⟨v, h1⟩, h2⟩ := hc i hi
  exact ⟨⟨v, by rw [World.cell?_of_block (w := w) (hg b hs).2]; exact h1⟩, by rw [World.frozen?_of_block (w := w) (hg b hs).2]; exact h2⟩
theorem Free.kept {w w' : World} {S T : Nat → Prop} {a : Option Addr} {len : Nat} (h : Free w T a len) (g : KeptBut S w w') : Free w' T a len := by
  refine ⟨h.small, fun h0 => ?_⟩
  obtain ⟨b, off, ha, hs, hc⟩ := h.cells h0
  refine ⟨b, off, ha, hs, fun i hi => ?_⟩
  obtain ⟨⟨v, h1⟩, h2⟩ := hc i hi
  exact ⟨g.there _ _ h1, (g.frozen _).trans h2⟩
theorem Free.get {w : World} {S : Nat → Prop} {a : Option Addr} {len k : Nat} (h : Free w S a len) (hk : k < len) :
    ∃ b off v, a = some ⟨b, off, none⟩ ∧ S b ∧ w.cell? ⟨b, off + k, none⟩ = some v ∧ w.frozen? ⟨b, off + k, none⟩ = false := by
  obtain ⟨b, off, ha, hs, hc⟩ := h.cells (by omega)
  obtain ⟨⟨v, h1⟩, h2⟩ := hc k hk
  exact ⟨b, off, v, ha, hs, h1, h2⟩
theorem Free.set {w : World} {S : Nat → Prop} {b off len k : Nat} {v u : Value} (h : Free w S (some ⟨b, off, none⟩) len) (hv : w.cell? ⟨b, off + k, none⟩ = some v) : Free (w.setCell ⟨b, off + k, none⟩ u) S (some ⟨b, off, none⟩) len := by
  refine ⟨h.small, fun h0 => ?_⟩
  obtain ⟨b', off', ha, hs, hc⟩ := h.cells h0
  cases ha
  refine ⟨b, off, rfl, hs, fun i hi => ?_⟩
  obtain ⟨⟨v', h1⟩, h2⟩ := hc i hi
  refine ⟨?_, by rw [World.frozen?_setCell]; exact h2⟩
  by_cases e : i = k
  · subst e; exact ⟨u, World.cell?_setCell_same _ _ _ hv⟩
  · exact ⟨v', by rw [World.cell?_setCell_other _ _ _ _ (by intro e'; injection e'; omega)]; exact h1⟩

/-- a new slice of these ints, which may be written -/
def ResPost (w : World) (xs : List Int) (e : Ending) (w' : World) : Prop := ∃ (a : Option Addr) (len cap : Nat), e = .returned (.slice a len cap) ∧ IntsAt w' (fun b => w.heap.size ≤ b ∧ b < w'.heap.size) a len xs ∧
  Free w' (fun b => w.heap.size ≤ b ∧ b < w'.heap.size) a len ∧ Below w.heap.size w w'
theorem resPost_block {w w' : World} {len cap : Nat} {xs : List Int} (hl : xs.length = len) (hs : len ≤ 1048576) (hc : ∀ q x, xs[q]? = some x → w'.cell? ⟨w.heap.size, q, none⟩ = some (.int .i64 x) ∧ w'.frozen? ⟨w.heap.size, q, none⟩ = false) (hb : Below w.heap.size w w') :
    ResPost w xs (.returned (.slice (some ⟨w.heap.size, 0, none⟩) len cap)) w' := by
  have hlt : 0 < len → w.heap.size < w'.heap.size := fun h0 => by
    have := (hc 0 xs[0] (List.getElem?_eq_getElem (by omega))).1
    rcases Nat.lt_or_ge w.heap.size w'.heap.size with h' | h'
    · exact h'
    · simp [World.cell?, Array.getElem?_eq_none h'] at this
  refine ⟨_, _, _, rfl, ⟨hl, by omega, fun h0 => ⟨_, 0, rfl, ⟨Nat.le_refl _, hlt h0⟩, fun i x hx => ?_⟩⟩, ⟨by omega, fun h0 => ⟨_, 0, rfl, ⟨Nat.le_refl _, hlt h0⟩, fun i hi => ?_⟩⟩, hb⟩
  · rw [Nat.zero_add]; exact (hc i x hx).1
  · have := hc i xs[i] (List.getElem?_eq_getElem (by omega))
    rw [Nat.zero_add]
    exact ⟨⟨_, this.1⟩, this.2⟩

end Go.Proofs.YtjcbpnffmebihaaGreatDoor
namespace Go.Proofs.YtjcbpnffmebihaaGreatDoor
open Go.RowKit Go.WideShapes

/-- the first n values of f -/
def tab (f : Nat → Int) (n : Nat) : List Int := (List.range n).map f
theorem tab_length (f : Nat → Int) (n : Nat) : (tab f n).length = n := by simp [tab]
theorem tab_get {f : Nat → Int} {n i : Nat} {x : Int} (h : (tab f n)[i]? = some x) : x = f i ∧ i < n := by
  simp only [tab, List.getElem?_map, Option.map_eq_some_iff] at h
  obtain ⟨j, hj, rfl⟩ := h
  obtain ⟨h1, h2⟩ := List.getElem?_eq_some_iff.1 hj
  simp at h1 h2
  subst h2
  exact ⟨rfl, h1⟩
theorem tab_at (f : Nat → Int) {n i : Nat} (h : i < n) : (tab f n)[i]? = some (f i) := by
  simp [tab, h]
theorem tab_congr {f g : Nat → Int} {n : Nat} (h : ∀ q, q < n → f q = g q) : tab f n = tab g n := by
  apply List.map_congr_left
  intro q hq
  exact h q (by simpa using hq)
theorem getD_of {xs : List Int} {k : Nat} {x : Int} (h : xs[k]? = some x) : xs.getD k 0 = x := by rw [List.getD_eq_getElem?_getD, h]; rfl
theorem getD_past {xs : List Int} {k : Nat} (h : xs.length ≤ k) : xs.getD k 0 = 0 := by rw [List.getD_eq_getElem?_getD, List.getElem?_eq_none h]; rfl
theorem get_getD {xs : List Int} {k : Nat} (h : k < xs.length) : xs[k]? = some (xs.getD k 0) := by rw [List.getD_eq_getElem?_getD, List.getElem?_eq_getElem h]; rfl
/-- the cells of an array are ints, told by their place -/
structure ArrIs (C : Array Value) (len : Nat) (f : Nat → Int) : Prop where
  size : C.size = len
  get : ∀ q, q < len → C[q]? = some (.int .i64 (f q))
theorem ArrIs.made (len : Nat) : ArrIs (madeCells #[.int .i64 0] len) len (fun _ => 0) :=
  ⟨size_madeCells _ _, fun q hq => by simp [madeCells, hq, Nat.mod_one]⟩
theorem ArrIs.congr {C : Array Value} {len : Nat} {f g : Nat → Int} (h : ArrIs C len f) (e : ∀ q, q < len → f q = g q) : ArrIs C len g :=
  ⟨h.size, fun q hq => by rw [h.get q hq, e q hq]⟩
theorem ArrIs.set {C : Array Value} {len : Nat} {f : Nat → Int} (h : ArrIs C len f) (k : Nat) (v : Int) : ArrIs (C.setIfInBounds k (.int .i64 v)) len (fun q => if q = k then v else f q) := by
  refine ⟨by simpa using h.size, fun q hq => ?_⟩
  rw [Array.getElem?_setIfInBounds]
  by_cases e : k = q
  · subst e
    rw [if_pos rfl, if_pos (by rw [h.size]; exact hq)]
    simp
  · rw [if_neg e, h.get q hq, if_neg (fun e' => e e'.symm)]
theorem ArrIs.cells {C : Array Value} {xs : List Int} {len : Nat} {f : Nat → Int} (h : ArrIs C len f) (hl : xs.length = len) (e : ∀ q x, xs[q]? = some x → f q = x) : C = cellsOf xs := by
  refine cellsOf_eq (by rw [h.size, hl]) (fun i x hx => ?_)
  have hi : i < len := by
    rcases Nat.lt_or_ge i xs.length with h' | h'
    · omega
    · simp [List.getElem?_eq_none h'] at hx
  rw [h.get i hi, e i x hx]
theorem ArrIs.tab {C : Array Value} {len : Nat} {f : Nat → Int} (h : ArrIs C len f) : C = cellsOf (tab f len) :=
  h.cells (tab_length f len) (fun _ _ hx => (tab_get hx).1.symm)
theorem ArrIs.at {C : Array Value} {len : Nat} {f : Nat → Int} (h : ArrIs C len f) (w : World) (t : TypeId) {q : Nat} (hq : q < len) :
    (w.alloc (.cells C t)).cell? ⟨w.heap.size, q, none⟩ = some (.int .i64 (f q)) := by
  rw [World.cell?_alloc_new]; exact h.get q hq

end Go.Proofs.YtjcbpnffmebihaaGreatDoor
namespace Go.Proofs.YtjcbpnffmebihaaGreatDoor
open Go.RowKit Go.WideShapes

theorem Tryz.infoIntO : (Tryz.prog.info? 3).map (fun i => (i.zero, i.size, i.bytes)) = some (some (.int .i64 0), 1, 8) := by kernel_rfl
/-- a new slice of these ints -/
def NewInts (w : World) (xs : List Int) (e : Ending) (w' : World) : Prop := ∃ (a : Option Addr) (len cap : Nat), e = .returned (.slice a len cap) ∧ IntsAt w' (fun b => w.heap.size ≤ b ∧ b < w'.heap.size) a len xs ∧ len ≤ cap ∧ Below w.heap.size w w'
theorem newInts_nil (w : World) : NewInts w [] (.returned (.slice none 0 0)) w :=
  ⟨none, 0, 0, rfl, ⟨rfl, Nat.zero_le _, fun h => absurd h (by omega)⟩, Nat.le_refl _, Below.refl _ _⟩
theorem newInts_own {w wr : World} {k cp : Nat} {ax : Option Addr} {xs : List Int} (h : wr.ownsRow w.heap.size 3 1 (.slice ax k cp) k (xs.map (.int .i64))) (hb : Below w.heap.size w wr) (hk : k ≤ 9223372036854775807) :
    NewInts w xs (.returned (.slice ax k cp)) wr := by
  obtain ⟨ay, cy, hve, hcc, hints⟩ := own_ints h hk
  simp only [Value.slice.injEq] at hve
  obtain ⟨rfl, _, rfl⟩ := hve
  exact ⟨_, _, _, rfl, hints, hcc, hb⟩
/-- a new slice of these ints, that is the call's own -/
def NewOwn (w : World) (xs : List Int) (e : Ending) (w' : World) : Prop := ∃ (a : Option Addr) (len cap : Nat), e = .returned (.slice a len cap) ∧ len ≤ 9223372036854775807 ∧
  w'.ownsRow w.heap.size 3 1 (.slice a len cap) len (xs.map (.int .i64)) ∧ Below w.heap.size w w'
theorem NewOwn.ints {w w' : World} {xs : List Int} {e : Ending} (h : NewOwn w xs e w') : NewInts w xs e w' := by
  obtain ⟨a, len, cap, rfl, hs, h1, h2⟩ := h
  exact newInts_own h1 h2 hs
theorem newOwn_alloc {w : World} {xs : List Int} {len : Nat} (hl : xs.length = len) (hs : len ≤ 1048576) :
    NewOwn w xs (.returned (.slice (some ⟨w.heap.size, 0, none⟩) len len)) (w.alloc (.cells (cellsOf xs) 3)) :=
  ⟨_, _, _, rfl, by omega, ⟨by simp [hl], .inr ⟨w.heap.size, len, cellsOf xs, rfl, Nat.le_refl _, heap_alloc_new w _, Nat.le_refl _, by unfold maxLen; omega, by simp [cellsOf, hl], by simp [cellsOf]; exact List.take_of_length_le (by simp [hl])⟩⟩, (Below.refl _ _).alloc (Nat.le_refl _) _⟩
theorem own_drewN {w : World} {B e s n : Nat} {v : Value} {xs : List Value} (h : w.ownsRow B e s v n xs) (q : Nat) : (w.drewN q).ownsRow B e s v n xs :=
  h.kept (grownBy_drewN w q none) (by cases v.ownBlock <;> simp)
/-- the call's own block of ints, told by their place -/
structure OwnF (w wr : World) (len : Nat) (f : Nat → Int) : Prop where
  own : wr.ownsRow w.heap.size 3 1 (.slice (some ⟨w.heap.size, 0, none⟩) len len) len ((tab f len).map (.int .i64))
  below : Below w.heap.size w wr
theorem OwnF.start (w : World) (len : Nat) (hs : len ≤ 1048576) : OwnF w (w.alloc (.cells (madeCells #[.int .i64 0] len) 3)) len (fun _ => 0) := by
  have e : madeCells #[.int .i64 0] len = cellsOf (tab (fun _ => 0) len) := (ArrIs.made len).tab
  rw [e]
  obtain ⟨a, l, c, e1, _, h1, h2⟩ := newOwn_alloc (w := w) (tab_length (fun _ => 0) len) hs
  simp only [Ending.returned.injEq, Value.slice.injEq] at e1
  obtain ⟨rfl, rfl, rfl⟩ := e1
  exact ⟨h1, h2⟩
theorem OwnF.congr {w wr : World} {len : Nat} {f g : Nat → Int} (h : OwnF w wr len f) (e : ∀ q, q < len → f q = g q) : OwnF w wr len g := ⟨by rw [← tab_congr e]; exact h.own, h.below⟩
theorem OwnF.cell {w wr : World} {len q : Nat} {f : Nat → Int} (h : OwnF w wr len f) (hq : q < len) : wr.cell? ⟨w.heap.size, q, none⟩ = some (.int .i64 (f q)) ∧ wr.frozen? ⟨w.heap.size, q, none⟩ = false := by
  refine ⟨?_, h.own.frozenAt q⟩
  rw [h.own.cellAt q (by simpa [tab_length] using hq), List.getElem?_map, tab_at f hq]; rfl
theorem OwnF.heap {w wr : World} {len : Nat} {f : Nat → Int} (h : OwnF w wr len f) : wr.heap[w.heap.size]? = some (.cells ((tab f len).map (.int .i64)).toArray 3 (0, 0)) := by
  rcases h.own.2 with ⟨e, _⟩ | ⟨k, cap, cur, e, _, hh, _, _, hz, ht⟩
  · cases e
  · simp only [Value.slice.injEq, Option.some.injEq, Addr.mk.injEq] at e
    obtain ⟨⟨rfl, _⟩, _, rfl⟩ := e
    rw [hh, ← ht]
    have : cur.toList.take (len * 1) = cur.toList := List.take_of_length_le (by simp at hz ⊢; omega)
    simp [List.take_of_length_le (show cur.toList.length ≤ len by simpa using Nat.le_of_eq hz)]
theorem OwnF.drew {w wr : World} {len : Nat} {f : Nat → Int} (h : OwnF w wr len f) (n : Nat) : OwnF w (wr.drewN n) len f :=
  ⟨h.own.kept (grownBy_drewN wr n none) (by simp [Value.ownBlock]), h.below.trans (Drew.below (w := wr) (wr := wr.drewN n) ⟨n, rfl⟩ _)⟩
theorem tab_set (f : Nat → Int) (len k : Nat) (v : Int) : (tab f len).set k v = tab (fun q => if q = k then v else f q) len := by
  apply List.ext_getElem?
  intro i
  rw [List.getElem?_set]
  by_cases hi : i < len
  · by_cases e : k = i
    · subst e; rw [if_pos rfl, if_pos (by rw [tab_length]; exact hi), tab_at _ hi, if_pos rfl]
    · rw [if_neg e, tab_at _ hi, tab_at _ hi, if_neg (fun e' => e e'.symm)]
  · have h1 : (tab f len)[i]? = none := List.getElem?_eq_none (by rw [tab_length]; omega)
    have h2 : (tab (fun q => if q = k then v else f q) len)[i]? = none := List.getElem?_eq_none (by rw [tab_length]; omega)
    rw [h2]
    by_cases e : k = i
    · subst e; rw [if_pos rfl, if_neg (by rw [tab_length]; exact hi)]
    · rw [if_neg e, h1]
theorem OwnF.put {w wr : World} {len : Nat} {f : Nat → Int} (h : OwnF w wr len f) (k : Nat) (v : Int) : OwnF w (wr.setCell ⟨w.heap.size, k, none⟩ (.int .i64 v)) len (fun q => if q = k then v else f q) := by
  obtain ⟨h1, h2⟩ := h.own.stored k (.int .i64 v)
  refine ⟨?_, h.below.setCell (Nat.le_refl _) _⟩
  rw [← tab_set, List.map_set]; exact h1
theorem OwnF.done {w wr : World} {len : Nat} {f : Nat → Int} (h : OwnF w wr len f) (hs : len ≤ 1048576) : NewOwn w (tab f len) (.returned (.slice (some ⟨w.heap.size, 0, none⟩) len len)) wr :=
  ⟨_, _, _, rfl, by omega, h.own, h.below⟩
/-- a place of a row of ints that is the call's own -/
theorem own_place {w : World} {B n cap : Nat} {a : Option Addr} {xs : List Int} (h : w.ownsRow B 3 1 (.slice a n cap) n (xs.map (.int .i64))) {j : Nat} (hj : j < n) :
    ∃ g v, a = some ⟨g, 0, none⟩ ∧ B ≤ g ∧ w.cell? ⟨g, j, none⟩ = some v ∧ w.frozen? ⟨g, j, none⟩ = false := by
  have hl := h.1
  have h' := h
  rcases h'.2 with ⟨h1, h2⟩ | ⟨g, c, cur, h1, h2, _⟩
  · omega
  · simp only [Value.slice.injEq] at h1
    obtain ⟨rfl, _, rfl⟩ := h1
    refine ⟨g, (xs.map (Value.int .i64))[j]'(by omega), rfl, h2, ?_, h.frozenAt j⟩
    rw [h.cellAt j (by omega)]
    exact List.getElem?_eq_getElem _
end Go.Proofs.YtjcbpnffmebihaaGreatDoor
