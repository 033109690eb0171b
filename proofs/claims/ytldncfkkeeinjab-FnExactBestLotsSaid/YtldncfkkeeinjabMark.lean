import Derived.Test.YtldncfkkeeinjabRows
import Derived.WalkKit
import Derived.LoopTactic
import Derived.Outline
import Derived.WalkSpells
import Derived.WalkLawsBesides
import Derived.Test.YtldncfkkeeinjabLib
namespace Go.Proofs.Ytldncfkkeeinjab
open Go.RowKit

/-- nothing but blocks of S has been written, and nothing made -/
structure KeptBut (S : Nat → Prop) (w w' : World) : Prop where
  os : w'.os = w.os
  tape : w'.tape = w.tape
  output : w'.output = w.output
  size : w'.heap.size = w.heap.size
  block : ∀ k, ¬ S k → w'.heap[k]? = w.heap[k]?
  there : ∀ p v, w.cell? p = some v → ∃ v', w'.cell? p = some v'
  frozen : ∀ p, w'.frozen? p = w.frozen? p
theorem KeptBut.refl (S : Nat → Prop) (w : World) : KeptBut S w w := ⟨rfl, rfl, rfl, rfl, fun _ _ => rfl, fun _ v h => ⟨v, h⟩, fun _ => rfl⟩
theorem KeptBut.trans {S : Nat → Prop} {a b c : World} (h : KeptBut S a b) (g : KeptBut S b c) : KeptBut S a c :=
  ⟨g.os.trans h.os, g.tape.trans h.tape, g.output.trans h.output, g.size.trans h.size, fun k hk => (g.block k hk).trans (h.block k hk), fun p v e => by obtain ⟨v', e'⟩ := h.there p v e; exact g.there p v' e', fun p => (g.frozen p).trans (h.frozen p)⟩
theorem KeptBut.wide {S T : Nat → Prop} {a b : World} (h : KeptBut S a b) (hs : ∀ k, S k → T k) : KeptBut T a b :=
  ⟨h.os, h.tape, h.output, h.size, fun k hk => h.block k (fun e => hk (hs k e)), h.there, h.frozen⟩
theorem KeptBut.set {S : Nat → Prop} {a b : World} (h : KeptBut S a b) {p : Addr} (hp : S p.block) (v : Value) : KeptBut S a (b.setCell p v) :=
  ⟨h.os, h.tape, h.output, by simpa [World.setCell] using h.size, fun k hk => (Below.heap_setCell _ _ _ _ (fun e => hk (by rw [e]; exact hp))).trans (h.block k hk), fun q u e => by
    obtain ⟨u', e'⟩ := h.there q u e
    by_cases hq : p = q
    · subst hq; exact ⟨v, World.cell?_setCell_same _ _ _ e'⟩
    · exact ⟨u', by rw [World.cell?_setCell_other _ _ _ _ hq]; exact e'⟩, fun q => by rw [World.frozen?_setCell]; exact h.frozen q⟩
theorem KeptBut.below {S : Nat → Prop} {a b : World} (h : KeptBut S a b) {B : Nat} (hs : ∀ k, S k → B ≤ k) : Below B a b :=
  ⟨h.os, h.tape, h.output, by rw [h.size]; exact Nat.le_refl _, fun k hk => h.block k (fun e => by have := hs k e; omega)⟩
theorem KeptBut.ints {S T : Nat → Prop} {a b : World} (h : KeptBut S a b) {x : Option Addr} {len : Nat} {xs : List Int} (hi : IntsAt a T x len xs) (hs : ∀ k, T k → ¬ S k) : IntsAt b T x len xs :=
  hi.to (fun k hk => ⟨hk, h.block k (hs k hk)⟩)
theorem KeptBut.rows {S T : Nat → Prop} {a b : World} (h : KeptBut S a b) {x : Option Addr} {len : Nat} {xs : List (List Int)} (hi : RowsAt a T x len xs) (hs : ∀ k, T k → ¬ S k) : RowsAt b T x len xs :=
  hi.to (fun k hk => ⟨hk, h.block k (hs k hk)⟩)

/-- the cells of a slice may be written; they lie in a block of S -/
structure Free (w : World) (S : Nat → Prop) (a : Option Addr) (len : Nat) : Prop where
  small : len ≤ 4611686018427387904
  cells : 0 < len → ∃ b off, a = some ⟨b, off, none⟩ ∧ S b ∧ ∀ i, i < len → (∃ v, w.cell? ⟨b, off + i, none⟩ = some v) ∧ w.frozen? ⟨b, off + i, none⟩ = false
theorem Free.to {w w' : World} {S S' : Nat → Prop} {a : Option Addr} {len : Nat} (h : Free w S a len) (hg : ∀ b, S b → S' b ∧ w'.heap[b]? = w.heap[b]?) : Free w' S' a len := by
  refine ⟨h.small, fun h0 => ?_⟩
  obtain ⟨b, off, ha, hs, hc⟩ := h.cells h0
  refine ⟨b, off, ha, (hg b hs).1, fun i hi => ?_⟩
  obtain ⟨⟨v, h1⟩, h2⟩ := hc i hi
  exact ⟨⟨v, by rw [World.cell?_of_block (w := w) (hg b hs).2]; exact h1⟩, by rw [World.frozen?_of_block (w := w) (hg b hs).2]; exact h2⟩
theorem Free.kept {w w' : World} {S T : Nat → Prop} {a : Option Addr} {len : Nat} (h : Free w T a len) (g : KeptBut S w w') : Free w' T a len := by
  refine ⟨h.small, fun h0 => ?_⟩
  obtain ⟨b, off, ha, hs, hc⟩ := h.cells h0
  refine ⟨b, off, ha, hs, fun i hi => ?_⟩
  obtain ⟨⟨v, h1⟩, h2⟩ := hc i hi
  exact ⟨g.there _ _ h1, (g.frozen _).trans h2⟩
theorem Free.get {w : World} {S : Nat → Prop} {a : Option Addr} {len k : Nat} (h : Free w S a len) (hk : k < len) :
    ∃ b off v, a = some ⟨b, off, none⟩ ∧ S b ∧ w.cell? ⟨b, off + k, none⟩ = some v ∧ w.frozen? ⟨b, off + k, none⟩ = false := by
  obtain ⟨b, off, ha, hs, hc⟩ := h.cells (by omega)
  obtain ⟨⟨v, h1⟩, h2⟩ := hc k hk
  exact ⟨b, off, v, ha, hs, h1, h2⟩
theorem Free.set {w : World} {S : Nat → Prop} {b off len k : Nat} {v u : Value} (h : Free w S (some ⟨b, off, none⟩) len) (hv : w.cell? ⟨b, off + k, none⟩ = some v) : Free (w.setCell ⟨b, off + k, none⟩ u) S (some ⟨b, off, none⟩) len := by
  refine ⟨h.small, fun h0 => ?_⟩
  obtain ⟨b', off', ha, hs, hc⟩ := h.cells h0
  cases ha
  refine ⟨b, off, rfl, hs, fun i hi => ?_⟩
  obtain ⟨⟨v', h1⟩, h2⟩ := hc i hi
  refine ⟨?_, by rw [World.frozen?_setCell]; exact h2⟩
  by_cases e : i = k
  · subst e; exact ⟨u, World.cell?_setCell_same _ _ _ hv⟩
  · exact ⟨v', by rw [World.cell?_setCell_other _ _ _ _ (by intro e'; injection e'; omega)]; exact h1⟩

/-- a new slice of these ints, which may be written -/
def ResPost (w : World) (xs : List Int) (e : Ending) (w' : World) : Prop := ∃ (a : Option Addr) (len cap : Nat), e = .returned (.slice a len cap) ∧ IntsAt w' (fun b => w.heap.size ≤ b ∧ b < w'.heap.size) a len xs ∧
  Free w' (fun b => w.heap.size ≤ b ∧ b < w'.heap.size) a len ∧ Below w.heap.size w w'
theorem resPost_nil (w : World) : ResPost w [] (.returned (.slice none 0 0)) w :=
  ⟨none, 0, 0, rfl, ⟨rfl, Nat.zero_le _, fun h => absurd h (by omega)⟩, ⟨Nat.zero_le _, fun h => absurd h (by omega)⟩, Below.refl _ _⟩
theorem resPost_block {w w' : World} {len cap : Nat} {xs : List Int} (hl : xs.length = len) (hs : len ≤ 1048576) (hc : ∀ q x, xs[q]? = some x → w'.cell? ⟨w.heap.size, q, none⟩ = some (.int .i64 x) ∧ w'.frozen? ⟨w.heap.size, q, none⟩ = false) (hb : Below w.heap.size w w') :
    ResPost w xs (.returned (.slice (some ⟨w.heap.size, 0, none⟩) len cap)) w' := by
  have hlt : 0 < len → w.heap.size < w'.heap.size := fun h0 => by
    have := (hc 0 xs[0] (List.getElem?_eq_getElem (by omega))).1
    rcases Nat.lt_or_ge w.heap.size w'.heap.size with h' | h'
    · exact h'
    · simp [World.cell?, Array.getElem?_eq_none h'] at this
  refine ⟨_, _, _, rfl, ⟨hl, by omega, fun h0 => ⟨_, 0, rfl, ⟨Nat.le_refl _, hlt h0⟩, fun i x hx => ?_⟩⟩, ⟨by omega, fun h0 => ⟨_, 0, rfl, ⟨Nat.le_refl _, hlt h0⟩, fun i hi => ?_⟩⟩, hb⟩
  · rw [Nat.zero_add]; exact (hc i x hx).1
  · have := hc i xs[i] (List.getElem?_eq_getElem (by omega))
    rw [Nat.zero_add]
    exact ⟨⟨_, this.1⟩, this.2⟩

/-- k, k + 1, .. -/
def upFrom (k : Int) (n : Nat) : List Int := (List.range n).map (fun (i : Nat) => k + (i : Int))
theorem upFrom_length (k : Int) (n : Nat) : (upFrom k n).length = n := by simp [upFrom]
theorem upFrom_get {k x : Int} {n i : Nat} (h : (upFrom k n)[i]? = some x) : x = k + (i : Int) ∧ i < n := by
  simp only [upFrom, List.getElem?_map, Option.map_eq_some_iff] at h
  obtain ⟨j, hj, rfl⟩ := h
  obtain ⟨h1, h2⟩ := List.getElem?_eq_some_iff.1 hj
  simp at h1 h2
  subst h2
  exact ⟨rfl, h1⟩

def MarkPost (w : World) (S : Nat → Prop) (a : Option Addr) (len : Nat) (k : Int) (e : Ending) (w' : World) : Prop :=
  e = .returned (.int .i64 (k + (len : Int))) ∧ IntsAt w' S a len (upFrom k len) ∧ KeptBut S w w'

set_option maxHeartbeats 400000 in
theorem markIntS_any (S : Nat → Prop) (a : Option Addr) (len cap : Nat) (k : Int) (w : World) (h : Free w S a len) (h0 : 0 ≤ k) (h1 : k ≤ 2305843009213693952) (hl : len ≤ 2305843009213693952) :
    Calls Try.prog 20 #[.slice a len cap, .int .i64 k] w (MarkPost w S a len k) := by
  go_enter Try.func20, Try.ntmps20
  go_wp2
  go_loopw [1, 5] (fun q i wr => ∃ m : Nat, m ≤ len ∧ i = .int .i64 m ∧ q = .int .i64 (k + (m : Int)) ∧ KeptBut S w wr ∧ Free wr S a len ∧ ∀ b off, a = some ⟨b, off, none⟩ → ∀ i, i < m → wr.cell? ⟨b, off + i, none⟩ = some (.int .i64 (k + (i : Int)))) (fun _ i _ => len - (intOf i).toNat)
  case atStart => exact ⟨0, Nat.zero_le _, rfl, by simp, KeptBut.refl _ _, h, fun _ _ _ i hi => absurd hi (by omega)⟩
  case round =>
    obtain ⟨m, hm, rfl, rfl, hk, hf, hc⟩ := hrel
    have HK := Lib.hid hk
    have HC := Lib.hid hc
    clear hk hc
    by_cases hlt : m < len
    · obtain ⟨b, off, v, rfl, hs, hv, hz⟩ := hf.get hlt
      have HF := Lib.hid hf
      clear hf
      go_wp2
      go_roundw
      case rel =>
        refine ⟨m + 1, by omega, by go_num, by go_num, HK.out.set hs _, HF.out.set hv, fun b' off' e i hi => ?_⟩
        cases e
        by_cases e : i = m
        · subst e; exact World.cell?_setCell_same _ _ _ hv
        · rw [World.cell?_setCell_other _ _ _ _ (by intro e'; injection e'; omega)]; exact HC.out b off rfl i (by omega)
      case measure => simp [intOf]; omega
    · obtain rfl : m = len := by omega
      go_wp2
      go_ret
      refine ⟨rfl, ⟨upFrom_length _ _, by omega, fun hp => ?_⟩, HK.out⟩
      obtain ⟨b, off, ha, hs, _⟩ := hf.cells hp
      refine ⟨b, off, ha, hs, fun i x hx => ?_⟩
      obtain ⟨rfl, hi⟩ := upFrom_get hx
      exact HC.out b off ha i hi

set_option maxHeartbeats 400000 in
theorem heldIntS_any (S : Nat → Prop) (a : Option Addr) (len cap : Nat) (k : Int) (w : World) (h : IntsAt w S a len (upFrom k len)) (h0 : 0 ≤ k) (h1 : k ≤ 2305843009213693952) (hl : len ≤ 2305843009213693952) :
    Calls Try.prog 21 #[.slice a len cap, .int .i64 k] w fun e w' => e = .returned (.int .i64 (k + (len : Int))) ∧ w = w' := by
  go_enter Try.func21, Try.ntmps21
  go_wp2
  go_loop [1, 5] (fun q i => ∃ m : Nat, m ≤ len ∧ i = .int .i64 m ∧ q = .int .i64 (k + (m : Int))) (fun _ i => len - (intOf i).toNat)
  case atStart => exact ⟨0, Nat.zero_le _, rfl, by simp⟩
  case round =>
    obtain ⟨m, hm, rfl, rfl⟩ := hrel
    by_cases hlt : m < len
    · obtain ⟨b, off, x, rfl, hx, hc⟩ := h.get hlt
      obtain ⟨rfl, _⟩ := upFrom_get hx
      clear hx
      go_wp2
      go_round
      case rel => exact ⟨m + 1, by omega, by go_num, by go_num⟩
      case measure => simp [intOf]; omega
    · obtain rfl : m = len := by omega
      go_wp2
      go_ret
      exact ⟨rfl, rfl⟩
end Go.Proofs.Ytldncfkkeeinjab
