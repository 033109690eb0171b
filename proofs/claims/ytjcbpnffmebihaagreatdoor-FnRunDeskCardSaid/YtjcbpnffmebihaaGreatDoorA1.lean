import Derived.Test.YtjcbpnffmebihaaGreatDoorA0
import Derived.Below
import Derived.Deep.Draws
import Derived.Laws.Bits64
import Derived.Test.YtjcbpnffmebihaaGreatDoorRows
import Derived.WalkKit
import Derived.LoopTactic
import Derived.Outline
import Derived.WalkSpells
import Derived.WalkLawsBesides
set_option linter.unusedVariables false
set_option linter.unusedSimpArgs false
namespace Go.Proofs.YtjcbpnffmebihaaGreatDoor
open Go.RowKit

/-- the byte slice (a, n) can be read; its bytes lie below block B -/
def BytesAt (w : World) (B : Nat) (a : Option Addr) (n : Nat) : Prop :=
  0 < n → ∃ b off, a = some ⟨b, off, none⟩ ∧ b < B ∧ ∀ i, i < n → ∃ x : Nat, x < 256 ∧ w.cell? ⟨b, off + i, none⟩ = some (.int .u8 x)

/-- block R is a reader of code at position p -/
structure Rd (w : World) (R p : Nat) : Prop where
  pos : w.cell? ⟨R, 1, none⟩ = some (.int .i64 p)
  free : w.frozen? ⟨R, 1, none⟩ = false
  code : ∃ (a : Option Addr) (n cap : Nat), w.cell? ⟨R, 0, none⟩ = some (.slice a n cap) ∧ n ≤ 2000 ∧ BytesAt w R a n

theorem Rd.lt {w : World} {R p : Nat} (h : Rd w R p) : R < w.heap.size := by
  have h1 := h.pos
  rcases Nat.lt_or_ge R w.heap.size with h' | h'
  · exact h'
  · simp [World.cell?, Array.getElem?_eq_none h'] at h1

/-- all blocks but R are as they were -/
theorem grownBy_setCell (w : World) (a : Addr) (v : Value) : w.grownBy (w.setCell a v) (some a.block) :=
  ⟨rfl, rfl, rfl, by simp [World.setCell], fun k _ hk => Below.heap_setCell _ _ _ _ (fun e => hk (by rw [e]))⟩

theorem grownBy_drewN (w : World) (q : Nat) (r : Option Nat) : w.grownBy (w.drewN q) r :=
  ⟨rfl, rfl, rfl, Nat.le_refl _, fun _ _ _ => rfl⟩

theorem Rd.keep {w w' : World} {R p : Nat} (h : Rd w R p) (hg : w.grownBy w' (some R)) (hp : w'.cell? ⟨R, 1, none⟩ = some (.int .i64 ((p + 1 : Nat) : Int)))
    (hf : w'.frozen? ⟨R, 1, none⟩ = false) (hs : w'.cell? ⟨R, 0, none⟩ = w.cell? ⟨R, 0, none⟩) : Rd w' R (p + 1) := by
  obtain ⟨a, n, cap, h1, h2, h3⟩ := h.code
  refine ⟨hp, hf, a, n, cap, hs.trans h1, h2, fun hn => ?_⟩
  obtain ⟨b, off, ha, hb, hc⟩ := h3 hn
  refine ⟨b, off, ha, hb, fun i hi => ?_⟩
  obtain ⟨x, hx, hx'⟩ := hc i hi
  exact ⟨x, hx, hg.cell hx' (by simp; omega)⟩
theorem Rd.stored {w : World} {R p : Nat} (h : Rd w R p) (q : Nat) :
    Rd ((w.setCell ⟨R, 1, none⟩ (.int .i64 ((p : Int) + 1))).drewN q) R (p + 1) ∧ w.grownBy ((w.setCell ⟨R, 1, none⟩ (.int .i64 ((p : Int) + 1))).drewN q) (some R) := by
  have hg : w.grownBy ((w.setCell ⟨R, 1, none⟩ (.int .i64 ((p : Int) + 1))).drewN q) (some R) := by
    have h0 := grownBy_setCell w ⟨R, 1, none⟩ (.int .i64 ((p : Int) + 1))
    exact ⟨h0.os, h0.tape, h0.output, h0.size, h0.block⟩
  have hc : (w.setCell ⟨R, 1, none⟩ (.int .i64 ((p : Int) + 1))).cell? ⟨R, 1, none⟩ = some (.int .i64 ((p + 1 : Nat) : Int)) := by
    rw [World.cell?_setCell_same' _ _ _ (by rw [h.pos]; rfl)]; rfl
  refine ⟨h.keep hg hc ?_ ?_, hg⟩
  · show (w.setCell ⟨R, 1, none⟩ (.int .i64 ((p : Int) + 1))).frozen? ⟨R, 1, none⟩ = false
    rw [World.frozen?_setCell]; exact h.free
  · show (w.setCell ⟨R, 1, none⟩ (.int .i64 ((p : Int) + 1))).cell? ⟨R, 0, none⟩ = _
    rw [World.cell?_setCell_other _ _ _ _ (by simp)]
theorem xor_i64_nat (a b : Nat) (ha : a < 9223372036854775808) (hb : b < 9223372036854775808) :
    bits .xor .i64 (a : Int) (b : Int) = ((a ^^^ b : Nat) : Int) := by
  have hx : a ^^^ b < 2 ^ 63 := Nat.xor_lt_two_pow (by omega) (by omega)
  have h1 : (BitVec.ofInt 64 (a : Int)).toNat = a := by
    rw [BitVec.ofInt_natCast, BitVec.toNat_ofNat]; exact Nat.mod_eq_of_lt (by omega)
  have h2 : (BitVec.ofInt 64 (b : Int)).toNat = b := by
    rw [BitVec.ofInt_natCast, BitVec.toNat_ofNat]; exact Nat.mod_eq_of_lt (by omega)
  show IntKind.i64.wrap ((BitVec.ofInt 64 (a : Int) ^^^ BitVec.ofInt 64 (b : Int)).toNat : Int) = _
  rw [BitVec.toNat_xor, h1, h2, IntKind.wrap_i64]
  omega

theorem mixed (S n : Int) (h0 : 0 ≤ S) (h1 : S < 4611686018427387904) (hn : 1 ≤ n) : ∃ k : Nat, (bits .xor .i64 S (S / 64)).tmod n = (k : Int) ∧ (k : Int) < n := by
  obtain ⟨s, rfl⟩ := Int.eq_ofNat_of_zero_le h0
  have e : ((s : Int) / 64) = ((s / 64 : Nat) : Int) := by omega
  rw [e, xor_i64_nat s (s / 64) (by omega) (by omega), Int.tmod_eq_emod_of_nonneg (by omega)]
  have e1 : 0 ≤ (((s ^^^ s / 64 : Nat) : Int)) % n := Int.emod_nonneg _ (by omega)
  have e2 : (((s ^^^ s / 64 : Nat) : Int)) % n < n := Int.emod_lt_of_pos _ (by omega)
  exact ⟨((((s ^^^ s / 64 : Nat) : Int)) % n).toNat, by omega, by omega⟩
end Go.Proofs.YtjcbpnffmebihaaGreatDoor
namespace Go.Proofs.YtjcbpnffmebihaaGreatDoor
open Go.RowKit

/-- nothing but blocks of S has been written, and nothing made -/
structure KeptBut (S : Nat → Prop) (w w' : World) : Prop where
  os : w'.os = w.os
  tape : w'.tape = w.tape
  output : w'.output = w.output
  size : w'.heap.size = w.heap.size
  block : ∀ k, ¬ S k → w'.heap[k]? = w.heap[k]?
  there : ∀ p v, w.cell? p = some v → ∃ v', w'.cell? p = some v'
  frozen : ∀ p, w'.frozen? p = w.frozen? p
theorem KeptBut.refl (S : Nat → Prop) (w : World) : KeptBut S w w := ⟨rfl, rfl, rfl, rfl, fun _ _ => rfl, fun _ v h => ⟨v, h⟩, fun _ => rfl⟩
theorem KeptBut.trans {S : Nat → Prop} {a b c : World} (h : KeptBut S a b) (g : KeptBut S b c) : KeptBut S a c :=
  ⟨g.os.trans h.os, g.tape.trans h.tape, g.output.trans h.output, g.size.trans h.size, fun k hk => (g.block k hk).trans (h.block k hk), fun p v e => by obtain ⟨v', e'⟩ := h.there p v e; exact g.there p v' e', fun p => (g.frozen p).trans (h.frozen p)⟩
theorem KeptBut.wide {S T : Nat → Prop} {a b : World} (h : KeptBut S a b) (hs : ∀ k, S k → T k) : KeptBut T a b :=
  ⟨h.os, h.tape, h.output, h.size, fun k hk => h.block k (fun e => hk (hs k e)), h.there, h.frozen⟩
theorem KeptBut.set {S : Nat → Prop} {a b : World} (h : KeptBut S a b) {p : Addr} (hp : S p.block) (v : Value) : KeptBut S a (b.setCell p v) :=
  ⟨h.os, h.tape, h.output, by simpa [World.setCell] using h.size, fun k hk => (Below.heap_setCell _ _ _ _ (fun e => hk (by rw [e]; exact hp))).trans (h.block k hk), fun q u e => by
    obtain ⟨u', e'⟩ := h.there q u e
    by_cases hq : p = q
    · subst hq; exact ⟨v, World.cell?_setCell_same _ _ _ e'⟩
    · exact ⟨u', by rw [World.cell?_setCell_other _ _ _ _ hq]; exact e'⟩, fun q => by rw [World.frozen?_setCell]; exact h.frozen q⟩
theorem KeptBut.below {S : Nat → Prop} {a b : World} (h : KeptBut S a b) {B : Nat} (hs : ∀ k, S k → B ≤ k) : Below B a b :=
  ⟨h.os, h.tape, h.output, by rw [h.size]; exact Nat.le_refl _, fun k hk => h.block k (fun e => by have := hs k e; omega)⟩
theorem KeptBut.ints {S T : Nat → Prop} {a b : World} (h : KeptBut S a b) {x : Option Addr} {len : Nat} {xs : List Int} (hi : IntsAt a T x len xs) (hs : ∀ k, T k → ¬ S k) : IntsAt b T x len xs :=
  hi.to (fun k hk => ⟨hk, h.block k (hs k hk)⟩)
theorem KeptBut.rows {S T : Nat → Prop} {a b : World} (h : KeptBut S a b) {x : Option Addr} {len : Nat} {xs : List (List Int)} (hi : RowsAt a T x len xs) (hs : ∀ k, T k → ¬ S k) : RowsAt b T x len xs :=
  hi.to (fun k hk => ⟨hk, h.block k (hs k hk)⟩)

/-- the cells of a slice may be written; they lie in a block of S -/
structure Free (w : World) (S : Nat → Prop) (a : Option Addr) (len : Nat) : Prop where
  small : len ≤ 4611686018427387904
  cells : 0 < len → ∃ b off, a = some ⟨b, off, none⟩ ∧ S b ∧ ∀ i, i < len → (∃ v, w.cell? ⟨b, off + i, none⟩ = some v) ∧ w.frozen? ⟨b, off + i, none⟩ = false
theorem Free.to {w w' : World} {S S' : Nat → Prop} {a : Option Addr} {len : Nat} (h : Free w S a len) (hg : ∀ b, S b → S' b ∧ w'.heap[b]? = w.heap[b]?) : Free w' S' a len := by
  refine ⟨h.small, fun h0 => ?_⟩
  obtain ⟨b, off, ha, hs, hc⟩ := h.cells h0
  refine ⟨b, off, ha, (hg b hs).1, fun i hi => ?_⟩
  obtain ⟨⟨v, h1⟩, h2⟩ := hc i hi
  exact ⟨⟨v, by rw [World.cell?_of_block (w := w) (hg b hs).2]; exact h1⟩, by rw [World.frozen?_of_block (w := w) (hg b hs).2]; exact h2⟩
theorem Free.kept {w w' : World} {S T : Nat → Prop} {a : Option Addr} {len : Nat} (h : Free w T a len) (g : KeptBut S w w') : Free w' T a len := by
  refine ⟨h.small, fun h0 => ?_⟩
  obtain ⟨b, off, ha, hs, hc⟩ := h.cells h0
  refine ⟨b, off, ha, hs, fun i hi => ?_⟩
  obtain ⟨⟨v, h1⟩, h2⟩ := hc i hi
  exact ⟨g.there _ _ h1, (g.frozen _).trans h2⟩
theorem Free.get {w : World} {S : Nat → Prop} {a : Option Addr} {len k : Nat} (h : Free w S a len) (hk : k < len) :
    ∃ b off v, a = some ⟨b, off, none⟩ ∧ S b ∧ w.cell? ⟨b, off + k, none⟩ = some v ∧ w.frozen? ⟨b, off + k, none⟩ = false := by
  obtain ⟨b, off, ha, hs, hc⟩ := h.cells (by omega)
  obtain ⟨⟨v, h1⟩, h2⟩ := hc k hk
  exact ⟨b, off, v, ha, hs, h1, h2⟩
theorem Free.set {w : World} {S : Nat → Prop} {b off len k : Nat} {v u : Value} (h : Free w S (some ⟨b, off, none⟩) len) (hv : w.cell? ⟨b, off + k, none⟩ = some v) : Free (w.setCell ⟨b, off + k, none⟩ u) S (some ⟨b, off, none⟩) len := by
  refine ⟨h.small, fun h0 => ?_⟩
  obtain ⟨b', off', ha, hs, hc⟩ := h.cells h0
  cases ha
  refine ⟨b, off, rfl, hs, fun i hi => ?_⟩
  obtain ⟨⟨v', h1⟩, h2⟩ := hc i hi
  refine ⟨?_, by rw [World.frozen?_setCell]; exact h2⟩
  by_cases e : i = k
  · subst e; exact ⟨u, World.cell?_setCell_same _ _ _ hv⟩
  · exact ⟨v', by rw [World.cell?_setCell_other _ _ _ _ (by intro e'; injection e'; omega)]; exact h1⟩

/-- a new slice of these ints, which may be written -/
def ResPost (w : World) (xs : List Int) (e : Ending) (w' : World) : Prop := ∃ (a : Option Addr) (len cap : Nat), e = .returned (.slice a len cap) ∧ IntsAt w' (fun b => w.heap.size ≤ b ∧ b < w'.heap.size) a len xs ∧
  Free w' (fun b => w.heap.size ≤ b ∧ b < w'.heap.size) a len ∧ Below w.heap.size w w'
theorem resPost_block {w w' : World} {len cap : Nat} {xs : List Int} (hl : xs.length = len) (hs : len ≤ 1048576) (hc : ∀ q x, xs[q]? = some x → w'.cell? ⟨w.heap.size, q, none⟩ = some (.int .i64 x) ∧ w'.frozen? ⟨w.heap.size, q, none⟩ = false) (hb : Below w.heap.size w w') :
    ResPost w xs (.returned (.slice (some ⟨w.heap.size, 0, none⟩) len cap)) w' := by
  have hlt : 0 < len → w.heap.size < w'.heap.size := fun h0 => by
    have := (hc 0 xs[0] (List.getElem?_eq_getElem (by omega))).1
    rcases Nat.lt_or_ge w.heap.size w'.heap.size with h' | h'
    · exact h'
    · simp [World.cell?, Array.getElem?_eq_none h'] at this
  refine ⟨_, _, _, rfl, ⟨hl, by omega, fun h0 => ⟨_, 0, rfl, ⟨Nat.le_refl _, hlt h0⟩, fun i x hx => ?_⟩⟩, ⟨by omega, fun h0 => ⟨_, 0, rfl, ⟨Nat.le_refl _, hlt h0⟩, fun i hi => ?_⟩⟩, hb⟩
  · rw [Nat.zero_add]; exact (hc i x hx).1
  · have := hc i xs[i] (List.getElem?_eq_getElem (by omega))
    rw [Nat.zero_add]
    exact ⟨⟨_, this.1⟩, this.2⟩

end Go.Proofs.YtjcbpnffmebihaaGreatDoor
namespace Go.Proofs.YtjcbpnffmebihaaGreatDoor

-- two machines: a, b the times of the jobs
def sumL (f : Nat → Int) : List Nat → Int
  | [] => 0
  | x :: l => f x + sumL f l
theorem sumL_append (f : Nat → Int) (l m : List Nat) : sumL f (l ++ m) = sumL f l + sumL f m := by
  induction l with
  | nil => simp [sumL]
  | cons x l ih => simp only [List.cons_append, sumL, ih]; omega
theorem sumL_nn {f : Nat → Int} (h : ∀ x, 0 ≤ f x) : ∀ l, 0 ≤ sumL f l := by
  intro l
  induction l with
  | nil => exact Int.le_refl _
  | cons x l ih => have := h x; rw [sumL]; omega
theorem sumL_perm {f : Nat → Int} {l m : List Nat} (h : l.Perm m) : sumL f l = sumL f m := by
  induction h with
  | nil => rfl
  | cons x _ ih => rw [sumL, sumL, ih]
  | swap x y l => simp only [sumL]; omega
  | trans _ _ ih1 ih2 => rw [ih1, ih2]
theorem sumL_bd {f : Nat → Int} {B : Int} (h : ∀ x, f x ≤ B) : ∀ l : List Nat, sumL f l ≤ B * (l.length : Int) := by
  intro l
  induction l with
  | nil => simp [sumL]
  | cons x l ih => have := h x; rw [sumL, List.length_cons]; push_cast; rw [Int.mul_add]; omega
/-- one job more: the times at which both machines are done -/
def stT (a b : Nat → Int) (s : Int × Int) (x : Nat) : Int × Int := (s.1 + a x, max (s.1 + a x) s.2 + b x)
def runT (a b : Nat → Int) (s : Int × Int) (l : List Nat) : Int × Int := l.foldl (stT a b) s
def spanT (a b : Nat → Int) (l : List Nat) : Int := (runT a b (0, 0) l).2
theorem runT_snoc (a b : Nat → Int) (s : Int × Int) (l : List Nat) (x : Nat) : runT a b s (l ++ [x]) = stT a b (runT a b s l) x := by simp [runT]
theorem runT_cons (a b : Nat → Int) (s : Int × Int) (l : List Nat) (x : Nat) : runT a b s (x :: l) = runT a b (stT a b s x) l := rfl
theorem runT_fst (a b : Nat → Int) : ∀ (l : List Nat) (s : Int × Int), (runT a b s l).1 = s.1 + sumL a l := by
  intro l
  induction l with
  | nil => intro s; simp [runT, sumL]
  | cons x l ih => intro s; rw [runT_cons, ih, sumL, stT]; simp only; omega
/-- the k-th job is the turn -/
def turnT (a b : Nat → Int) (l : List Nat) (k : Nat) : Int := sumL a (l.take (k + 1)) + sumL b (l.drop k)
theorem turnT_zero (a b : Nat → Int) (x : Nat) (l : List Nat) : turnT a b (x :: l) 0 = a x + b x + sumL b l := by
  simp only [turnT, List.take_succ_cons, List.take_zero, List.drop_zero, sumL]; omega
theorem turnT_succ (a b : Nat → Int) (x : Nat) (l : List Nat) (k : Nat) : turnT a b (x :: l) (k + 1) = a x + turnT a b l k := by
  simp only [turnT, List.take_succ_cons, List.drop_succ_cons, sumL]; omega
theorem runT_ge (a b : Nat → Int) : ∀ (l : List Nat) (s : Int × Int), s.2 + sumL b l ≤ (runT a b s l).2 ∧ ∀ k, k < l.length → s.1 + turnT a b l k ≤ (runT a b s l).2 := by
  intro l
  induction l with
  | nil => intro s; exact ⟨by simp [runT, sumL], fun k hk => by simp at hk⟩
  | cons x l ih =>
    intro s
    obtain ⟨h1, h2⟩ := ih (stT a b s x)
    rw [runT_cons]
    simp only [stT] at h1 h2 ⊢
    refine ⟨by rw [sumL]; omega, fun k hk => ?_⟩
    cases k with
    | zero => rw [turnT_zero]; omega
    | succ k => have := h2 k (by simp at hk; omega); rw [turnT_succ]; omega
theorem runT_is (a b : Nat → Int) : ∀ (l : List Nat) (s : Int × Int), (runT a b s l).2 = s.2 + sumL b l ∨ ∃ k, k < l.length ∧ (runT a b s l).2 = s.1 + turnT a b l k := by
  intro l
  induction l with
  | nil => intro s; left; simp [runT, sumL]
  | cons x l ih =>
    intro s
    rw [runT_cons]
    rcases ih (stT a b s x) with h | ⟨k, hk, h⟩
    · simp only [stT] at h ⊢
      by_cases hm : s.2 ≤ s.1 + a x
      · right; exact ⟨0, by simp, by rw [h, turnT_zero]; omega⟩
      · left; rw [h, sumL]; omega
    · right
      simp only [stT] at h ⊢
      exact ⟨k + 1, by simpa using hk, by rw [h, turnT_succ]; omega⟩
theorem span_ge {a b : Nat → Int} {l : List Nat} {k : Nat} (hk : k < l.length) : turnT a b l k ≤ spanT a b l := by
  have := (runT_ge a b l (0, 0)).2 k hk
  unfold spanT; simp only at this; omega
theorem span_is {a b : Nat → Int} (ha : ∀ x, 0 ≤ a x) {l : List Nat} (hl : l ≠ []) : ∃ k, k < l.length ∧ spanT a b l = turnT a b l k := by
  rcases runT_is a b l (0, 0) with h | ⟨k, hk, h⟩
  · obtain ⟨x, m, rfl⟩ := List.exists_cons_of_ne_nil hl
    refine ⟨0, by simp, ?_⟩
    have h2 := span_ge (a := a) (b := b) (l := x :: m) (k := 0) (by simp)
    unfold spanT at h2 ⊢
    rw [h] at h2 ⊢
    rw [turnT_zero] at h2 ⊢
    rw [sumL] at h2 ⊢
    have := ha x
    simp only at h2 ⊢
    omega
  · exact ⟨k, hk, by unfold spanT; rw [h]; simp⟩
/-- the greatest of the first so many turns -/
def turnsTo (a b : Nat → Int) (l : List Nat) : Nat → Int
  | 0 => 0
  | k + 1 => max (turnsTo a b l k) (turnT a b l k)
theorem turnsTo_ge (a b : Nat → Int) (l : List Nat) : ∀ m k, k < m → turnT a b l k ≤ turnsTo a b l m := by
  intro m
  induction m with
  | zero => intro k hk; omega
  | succ m ih =>
    intro k hk
    rw [turnsTo]
    by_cases e : k = m
    · subst e; omega
    · have := ih k (by omega); omega
theorem turnsTo_is (a b : Nat → Int) (l : List Nat) : ∀ m, turnsTo a b l m = 0 ∨ ∃ k, k < m ∧ turnsTo a b l m = turnT a b l k := by
  intro m
  induction m with
  | zero => left; rfl
  | succ m ih =>
    rw [turnsTo]
    by_cases h : turnsTo a b l m ≤ turnT a b l m
    · right; exact ⟨m, by omega, by omega⟩
    · rcases ih with h2 | ⟨k, hk, h2⟩
      · left; omega
      · right; exact ⟨k, by omega, by omega⟩
theorem turnT_nn {a b : Nat → Int} (ha : ∀ x, 0 ≤ a x) (hb : ∀ x, 0 ≤ b x) (l : List Nat) (k : Nat) : 0 ≤ turnT a b l k := by
  have := sumL_nn ha (l.take (k + 1)); have := sumL_nn hb (l.drop k); unfold turnT; omega
theorem turnsTo_nn (a b : Nat → Int) (l : List Nat) : ∀ m, 0 ≤ turnsTo a b l m := by
  intro m
  induction m with
  | zero => exact Int.le_refl _
  | succ m ih => rw [turnsTo]; omega
theorem turns_span {a b : Nat → Int} (ha : ∀ x, 0 ≤ a x) (hb : ∀ x, 0 ≤ b x) (l : List Nat) : turnsTo a b l l.length = spanT a b l := by
  by_cases hl : l = []
  · subst hl; rfl
  · obtain ⟨k, hk, e⟩ := span_is (b := b) ha hl
    have h1 := turnsTo_ge a b l l.length k hk
    rcases turnsTo_is a b l l.length with h2 | ⟨j, hj, h2⟩
    · have := turnT_nn ha hb l k; omega
    · have := span_ge (a := a) (b := b) hj; omega
theorem span_nn {a b : Nat → Int} (ha : ∀ x, 0 ≤ a x) (hb : ∀ x, 0 ≤ b x) (l : List Nat) : 0 ≤ spanT a b l := by
  rw [← turns_span ha hb]; exact turnsTo_nn _ _ _ _
theorem span_sums {a b : Nat → Int} (ha : ∀ x, 0 ≤ a x) (hb : ∀ x, 0 ≤ b x) (l : List Nat) : sumL a l ≤ spanT a b l ∧ sumL b l ≤ spanT a b l ∧ spanT a b l ≤ sumL a l + sumL b l := by
  by_cases hl : l = []
  · subst hl; exact ⟨Int.le_refl _, Int.le_refl _, Int.le_refl _⟩
  · have hpos : 0 < l.length := List.length_pos_iff.2 hl
    refine ⟨?_, ?_, ?_⟩
    · have h := span_ge (a := a) (b := b) (l := l) (k := l.length - 1) (by omega)
      have := sumL_nn hb (l.drop (l.length - 1))
      unfold turnT at h
      rw [show l.length - 1 + 1 = l.length by omega, List.take_length] at h
      omega
    · have h := span_ge (a := a) (b := b) (l := l) (k := 0) hpos
      have := sumL_nn ha (l.take (0 + 1))
      unfold turnT at h
      rw [List.drop_zero] at h
      omega
    · obtain ⟨k, hk, e⟩ := span_is (b := b) ha hl
      rw [e]
      unfold turnT
      have h1 : sumL a l = sumL a (l.take (k + 1)) + sumL a (l.drop (k + 1)) := by rw [← sumL_append, List.take_append_drop]
      have h2 : sumL b l = sumL b (l.take k) + sumL b (l.drop k) := by rw [← sumL_append, List.take_append_drop]
      have := sumL_nn ha (l.drop (k + 1))
      have := sumL_nn hb (l.take k)
      omega
def LeS (s t : Int × Int) : Prop := s.1 ≤ t.1 ∧ s.2 ≤ t.2
theorem LeS.refl (s : Int × Int) : LeS s s := ⟨Int.le_refl _, Int.le_refl _⟩
theorem LeS.trans {s t u : Int × Int} (h : LeS s t) (g : LeS t u) : LeS s u := ⟨Int.le_trans h.1 g.1, Int.le_trans h.2 g.2⟩
def btr (a b : Nat → Int) (i k : Nat) : Prop :=
  if a i < b i then (if a k < b k then (a i < a k ∨ (a i = a k ∧ i < k)) else True)
  else (if a k < b k then False else (b k < b i ∨ (b i = b k ∧ i < k)))
instance (a b : Nat → Int) (i k : Nat) : Decidable (btr a b i k) := by unfold btr; infer_instance
theorem btr_total {a b : Nat → Int} {i k : Nat} (h : i ≠ k) (hn : ¬ btr a b i k) : btr a b k i := by
  unfold btr at hn ⊢
  by_cases h1 : a i < b i <;> by_cases h3 : a k < b k <;> simp only [h1, h3, if_true, if_false, not_true, not_false_eq_true] at hn ⊢ <;> omega
theorem btr_trans {a b : Nat → Int} {i j k : Nat} (h : btr a b i j) (g : btr a b j k) : btr a b i k := by
  unfold btr at h g ⊢
  by_cases h1 : a i < b i <;> by_cases h2 : a j < b j <;> by_cases h3 : a k < b k <;> simp only [h1, h2, h3, if_true, if_false] at h g ⊢ <;> omega
def insR (a b : Nat → Int) (x : Nat) : List Nat → List Nat
  | [] => [x]
  | y :: l => if btr a b y x then y :: insR a b x l else x :: y :: l
theorem insR_perm (a b : Nat → Int) (x : Nat) : ∀ l, (insR a b x l).Perm (x :: l) := by
  intro l
  induction l with
  | nil => exact .refl _
  | cons y l ih =>
    rw [insR]
    split
    · exact (ih.cons y).trans (.swap x y l)
    · exact .refl _
theorem insR_sorted {a b : Nat → Int} {x : Nat} : ∀ l : List Nat, x ∉ l → l.Pairwise (btr a b) → (insR a b x l).Pairwise (btr a b) := by
  intro l
  induction l with
  | nil => intro _ _; rw [insR]; exact List.pairwise_singleton _ _
  | cons y l ih =>
    intro hx hp
    rw [insR]
    obtain ⟨h1, h2⟩ := List.pairwise_cons.1 hp
    have hxy : x ≠ y ∧ x ∉ l := by simpa using hx
    split
    · rename_i hb
      refine List.pairwise_cons.2 ⟨fun z hz => ?_, ih hxy.2 h2⟩
      rcases List.mem_cons.1 ((insR_perm a b x l).mem_iff.1 hz) with rfl | hz
      · exact hb
      · exact h1 z hz
    · rename_i hb
      have hb2 := btr_total (a := a) (b := b) (i := y) (k := x) (fun e => hxy.1 e.symm) hb
      refine List.pairwise_cons.2 ⟨fun z hz => ?_, hp⟩
      rcases List.mem_cons.1 hz with rfl | hz
      · exact hb2
      · exact btr_trans hb2 (h1 z hz)
/-- the rule: one job after the other put in its place -/
def ruleT (a b : Nat → Int) : Nat → List Nat
  | 0 => []
  | n + 1 => insR a b n (ruleT a b n)
theorem ruleT_perm (a b : Nat → Int) : ∀ n, (ruleT a b n).Perm (List.range n) := by
  intro n
  induction n with
  | zero => exact .refl _
  | succ n ih =>
    rw [List.range_succ]
    exact (insR_perm a b n _).trans ((ih.cons n).trans (List.perm_append_singleton n _).symm)
theorem ruleT_sorted (a b : Nat → Int) : ∀ n, (ruleT a b n).Pairwise (btr a b) := by
  intro n
  induction n with
  | zero => exact List.Pairwise.nil
  | succ n ih => exact insR_sorted _ (fun hm => by have := (ruleT_perm a b n).mem_iff.1 hm; simp at this) ih
def LeastO (a b : Nat → Int) (n : Nat) (v : Int) : Prop := (∃ l : List Nat, l.Perm (List.range n) ∧ spanT a b l = v) ∧ ∀ l : List Nat, l.Perm (List.range n) → v ≤ spanT a b l
end Go.Proofs.YtjcbpnffmebihaaGreatDoor
