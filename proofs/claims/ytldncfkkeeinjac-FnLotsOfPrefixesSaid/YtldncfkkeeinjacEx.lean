import Derived.Test.YtldncfkkeeinjacRows
import Derived.WalkKit
import Derived.Outline
import Derived.WalkSpells
import Derived.WalkLawsBesides
import Derived.ProofKit
import Derived.Test.YtldncfkkeeinjacLib
import Derived.Test.YtldncfkkeeinjacMark
import Derived.Test.YtldncfkkeeinjacExact
namespace Go.Proofs.Ytldncfkkeeinjac
open Go.RowKit Go.WideShapes

/-- the blocks lo ≤ b < hi are as they were -/
def SameOn (lo hi : Nat) (w w' : World) : Prop := ∀ b, lo ≤ b → b < hi → w'.heap[b]? = w.heap[b]?
theorem SameOn.refl (lo hi : Nat) (w : World) : SameOn lo hi w w := fun _ _ _ => rfl
theorem SameOn.below {lo hi B : Nat} {a b c : World} (h : SameOn lo hi a b) (g : Below B b c) (hB : hi ≤ B) : SameOn lo hi a c :=
  fun k h1 h2 => (g.block k (by omega)).trans (h k h1 h2)
theorem SameOn.kept {lo hi : Nat} {S : Nat → Prop} {a b c : World} (h : SameOn lo hi a b) (g : KeptBut S b c) (hd : ∀ k, S k → k < lo ∨ hi ≤ k) : SameOn lo hi a c :=
  fun k h1 h2 => (g.block k (fun e => by have := hd k e; omega)).trans (h k h1 h2)
theorem SameOn.ints {lo hi : Nat} {a b : World} {p : Option Addr} {len : Nat} {xs : List Int} (h : SameOn lo hi a b) (x : IntsAt a (fun b => lo ≤ b ∧ b < hi) p len xs) : IntsAt b (fun b => lo ≤ b ∧ b < hi) p len xs :=
  x.to (fun k hk => ⟨hk, h k hk.1 hk.2⟩)
theorem SameOn.rows {lo hi : Nat} {a b : World} {p : Option Addr} {len : Nat} {xs : List (List Int)} (h : SameOn lo hi a b) (x : RowsAt a (fun b => lo ≤ b ∧ b < hi) p len xs) : RowsAt b (fun b => lo ≤ b ∧ b < hi) p len xs :=
  x.to (fun k hk => ⟨hk, h k hk.1 hk.2⟩)
theorem SameOn.free {lo hi : Nat} {a b : World} {p : Option Addr} {len : Nat} (h : SameOn lo hi a b) (x : Free a (fun b => lo ≤ b ∧ b < hi) p len) : Free b (fun b => lo ≤ b ∧ b < hi) p len :=
  x.to (fun k hk => ⟨hk, h k hk.1 hk.2⟩)
theorem ints_lift {w w1 : World} {a : Option Addr} {len : Nat} {xs : List Int} (h : IntsAt w (· < w.heap.size) a len xs) (hb : Below w.heap.size w w1) : IntsAt w1 (· < w1.heap.size) a len xs :=
  (h.below hb).to (fun _ hb' => ⟨Nat.lt_of_lt_of_le hb' hb.size, rfl⟩)
theorem rows_lift {w w1 : World} {a : Option Addr} {len : Nat} {rows : List (List Int)} (h : RowsAt w (· < w.heap.size) a len rows) (hb : Below w.heap.size w w1) : RowsAt w1 (· < w1.heap.size) a len rows :=
  (h.below hb).to (fun _ hb' => ⟨Nat.lt_of_lt_of_le hb' hb.size, rfl⟩)
theorem ints_in {lo hi : Nat} {w : World} {a : Option Addr} {len : Nat} {xs : List Int} (h : IntsAt w (fun b => lo ≤ b ∧ b < hi) a len xs) (hh : hi ≤ w.heap.size) : IntsAt w (· < w.heap.size) a len xs :=
  h.to (fun _ hb => ⟨Nat.lt_of_lt_of_le hb.2 hh, rfl⟩)
theorem rows_in {lo hi : Nat} {w : World} {a : Option Addr} {len : Nat} {xs : List (List Int)} (h : RowsAt w (fun b => lo ≤ b ∧ b < hi) a len xs) (hh : hi ≤ w.heap.size) : RowsAt w (· < w.heap.size) a len xs :=
  h.to (fun _ hb => ⟨Nat.lt_of_lt_of_le hb.2 hh, rfl⟩)

/-- a copy of ints, in a new block -/
def CopyI (w : World) (len : Nat) (xs : List Int) (e : Ending) (w' : World) : Prop := e = .returned (.slice (some ⟨w.heap.size, 0, none⟩) len len) ∧
  IntsAt w' (fun b => w.heap.size ≤ b ∧ b < w'.heap.size) (some ⟨w.heap.size, 0, none⟩) len xs ∧ Free w' (fun b => w.heap.size ≤ b ∧ b < w'.heap.size) (some ⟨w.heap.size, 0, none⟩) len ∧ Below w.heap.size w w'
theorem toInts_new (a : Option Addr) (len cap : Nat) (xs : List Int) (w : World) (h : IntsAt w (· < w.heap.size) a len xs) (hl : len ≤ 1048576) :
    Calls Try.prog 14 #[.slice a len cap] w (CopyI w len xs) := by
  refine (toIntS_any _ a len cap xs w h (fun b hb => hb) hl).mono ?_
  rintro e w' ⟨rfl, rfl⟩
  have hle := h.lenEq
  refine ⟨rfl, (IntsAt.lit (W := w) (t := 3) (cs := cellsOf xs) (xs := xs) (by simp [cellsOf]) hle rfl (by omega)).to (fun b hb => ⟨⟨Nat.le_of_eq hb.symm, by rw [hb]; simp⟩, rfl⟩), ⟨by omega, fun _ => ⟨_, 0, rfl, ⟨Nat.le_refl _, by simp⟩, fun i hi => ?_⟩⟩, (Below.refl _ _).alloc (Nat.le_refl _) _⟩
  refine ⟨⟨.int .i64 (xs[i]'(by omega)), ?_⟩, World.frozen?_alloc_new w _ _ _⟩
  rw [Nat.zero_add, World.cell?_alloc_new]
  simp only [cellsOf, List.getElem?_toArray, List.getElem?_map, List.getElem?_eq_getElem (show i < xs.length by omega)]; rfl
/-- a slice of new ints that may be written, and whether -/
def ResPostB (w : World) (xs : List Int) (b : Bool) (e : Ending) (w' : World) : Prop := ∃ (a : Option Addr) (len cap : Nat), e = .returned (.tuple #[.slice a len cap, .bool b]) ∧ IntsAt w' (fun b => w.heap.size ≤ b ∧ b < w'.heap.size) a len xs ∧
  Free w' (fun b => w.heap.size ≤ b ∧ b < w'.heap.size) a len ∧ Below w.heap.size w w'
theorem resPostB_of {w w' : World} {xs : List Int} {b : Bool} {a : Option Addr} {len cap : Nat} (h : ResPost w xs (.returned (.slice a len cap)) w') : ResPostB w xs b (.returned (.tuple #[.slice a len cap, .bool b])) w' := by
  obtain ⟨a', l', c', e, h1, h2, h3⟩ := h
  simp only [Ending.returned.injEq, Value.slice.injEq] at e
  obtain ⟨rfl, rfl, rfl⟩ := e
  exact ⟨_, _, _, rfl, h1, h2, h3⟩
/-- a new slice of these ints, and whether -/
def NewIntsB (w : World) (xs : List Int) (b : Bool) (e : Ending) (w' : World) : Prop := ∃ (a : Option Addr) (len cap : Nat), e = .returned (.tuple #[.slice a len cap, .bool b]) ∧ IntsAt w' (fun b => w.heap.size ≤ b ∧ b < w'.heap.size) a len xs ∧ len ≤ cap ∧ Below w.heap.size w w'
/-- a value, and nothing below written -/
def ValPost (w : World) (v : Value) (e : Ending) (w' : World) : Prop := e = .returned v ∧ Below w.heap.size w w'
end Go.Proofs.Ytldncfkkeeinjac
