import Derived.Test.YthmifadnfaajbadM0
import Derived.Laws.AppendOwn
import Derived.WideShapes
import Derived.Test.YthmifadnfaajbadRows
import Derived.WalkKit
import Derived.LoopTactic
import Derived.Outline
import Derived.WalkSpells
import Derived.WalkLawsBesides
import Derived.ProofKit
import Derived.Deep.OwnRows
import Derived.Deep.QuietTactic
import Derived.BigQuiet
namespace Go.Proofs.Ythmifadnfaajbad
open Go.RowKit Go.WideShapes

def capOf : Value → Nat | .slice _ l _ => l | _ => 0
theorem Rd.grown {w w' : World} {R p : Nat} {r : Option Nat} (h : Rd w R p) (hg : w.grownBy w' r) (hr : ∀ k, r = some k → R < k) : Rd w' R p := by
  have hlt := h.lt
  obtain ⟨a, n, cap, h1, h2, h3⟩ := h.code
  have hR : some R ≠ r := fun e => by have := hr R e.symm; omega
  refine ⟨hg.cell h.pos hR, ?_, a, n, cap, hg.cell h1 hR, h2, fun hn => ?_⟩
  · rw [World.frozen?_of_block (w := w) (hg.block R hlt hR)]; exact h.free
  · obtain ⟨b, off, ha, hb, hc⟩ := h3 hn
    refine ⟨b, off, ha, hb, fun i hi => ?_⟩
    obtain ⟨x, hx, hx'⟩ := hc i hi
    exact ⟨x, hx, hg.cell hx' (fun e => by have := hr b e.symm; omega)⟩
theorem Rd.alloc {w : World} {R p : Nat} (h : Rd w R p) (o : Obj) : Rd (w.alloc o) R p :=
  h.grown (World.grownBy_alloc w o none) (fun k e => by cases e)

theorem grown_trans {w w1 w2 : World} {R : Nat} {r : Option Nat} (h : w.grownBy w1 (some R)) (g : w1.grownBy w2 r) (hr : ∀ k, r = some k → k = R ∨ w.heap.size ≤ k) : w.grownBy w2 (some R) :=
  ⟨g.os.trans h.os, g.tape.trans h.tape, g.output.trans h.output, Nat.le_trans h.size g.size, fun k hk hne => by
    rw [g.block k (Nat.lt_of_lt_of_le hk h.size) (fun e => by rcases hr k e.symm with h' | h'; exact hne (by rw [h']); omega), h.block k hk hne]⟩
theorem grown_comp {a b c : World} {r : Option Nat} (h : a.grownBy b r) (g : b.grownBy c r) : a.grownBy c r :=
  ⟨g.os.trans h.os, g.tape.trans h.tape, g.output.trans h.output, Nat.le_trans h.size g.size, fun k hk hne => by
    rw [g.block k (Nat.lt_of_lt_of_le hk h.size) hne, h.block k hk hne]⟩
theorem grown_refl (w : World) (r : Option Nat) : w.grownBy w r := ⟨rfl, rfl, rfl, Nat.le_refl _, fun _ _ _ => rfl⟩
theorem grown_alloc {w w1 : World} {R : Nat} (h : w.grownBy w1 (some R)) (o : Obj) : w.grownBy (w1.alloc o) (some R) :=
  grown_trans h (World.grownBy_alloc w1 o none) (fun k e => by cases e)
theorem grown_below {w w1 w2 : World} {R : Nat} (h : w.grownBy w1 (some R)) (hb : Below R w2 w) (hR : R ≤ w.heap.size) : Below R w2 w1 :=
  hb.trans ⟨h.os, h.tape, h.output, h.size, fun k hk => h.block k (by omega) (by simp; omega)⟩

/-- two rows of different kinds lie in different blocks -/
theorem own_ne {w : World} {B B' e e' s s' n m : Nat} {v u : Value} {xs ys : List Value} (h : w.ownsRow B e s v n xs) (g : w.ownsRow B' e' s' u m ys) (he : e ≠ e') :
    v.ownBlock = none ∨ v.ownBlock ≠ u.ownBlock := by
  rcases h.2 with ⟨rfl, _⟩ | ⟨k, cap, cur, rfl, _, hk, _⟩
  · exact Or.inl rfl
  · right
    rcases g.2 with ⟨rfl, _⟩ | ⟨k', cap', cur', rfl, _, hk', _⟩
    · simp [Value.ownBlock]
    · intro e0
      simp only [Value.ownBlock, Option.some.injEq] at e0
      subst e0
      rw [hk] at hk'
      simp only [Option.some.injEq, Obj.cells.injEq] at hk'
      exact he hk'.2.1

theorem own_base {w : World} {B B' e s n : Nat} {v : Value} {xs : List Value} (h : w.ownsRow B e s v n xs) (hb : B' ≤ B) : w.ownsRow B' e s v n xs := by
  refine ⟨h.1, ?_⟩
  rcases h.2 with h2 | ⟨k, cap, cur, h1, h2, h3⟩
  · exact Or.inl h2
  · exact Or.inr ⟨k, cap, cur, h1, Nat.le_trans hb h2, h3⟩
theorem ne_low {w : World} {B e s n R : Nat} {v : Value} {xs : List Value} (h : w.ownsRow B e s v n xs) (hR : R < B) : v.ownBlock = none ∨ v.ownBlock ≠ some R := by
  cases hv : v.ownBlock with
  | none => exact Or.inl rfl
  | some k => right; have := h.lt k hv; simp; omega

theorem own_slice {w : World} {B e s n : Nat} {v : Value} {xs : List Value} (h : w.ownsRow B e s v n xs) : ∃ a cap, v = .slice a n cap ∧ n ≤ cap := by
  rcases h.2 with ⟨rfl, rfl⟩ | ⟨k, cap, cur, h1, _, _, h3, _⟩
  · exact ⟨none, 0, rfl, Nat.le_refl _⟩
  · exact ⟨_, cap, h1, h3⟩
/-- u is an int slice of the call's own, in a block below M -/
def OwnInts (w : World) (B M : Nat) (u : Value) : Prop := ∃ (l : Nat) (xs : List Int), w.ownsRow B 3 1 u l (xs.map (.int .i64)) ∧ ∀ k, u.ownBlock = some k → k < M
/-- v is a slice of k such -/
def OwnRows (w : World) (B M : Nat) (v : Value) (k : Nat) : Prop := ∃ us : List Value, w.ownsRow B 23 1 v k us ∧ ∀ u ∈ us, OwnInts w B M u

theorem OwnInts.kept {w w' : World} {B M : Nat} {u : Value} {r : Option Nat} (h : OwnInts w B M u) (hg : w.grownBy w' r) (hr : ∀ k, r = some k → k < B ∨ M ≤ k) : OwnInts w' B M u := by
  obtain ⟨l, xs, h, hl⟩ := h
  refine ⟨l, xs, h.kept hg ?_, hl⟩
  cases hv : u.ownBlock with
  | none => exact Or.inl rfl
  | some k => right; intro e; have := h.lt k hv; have := hl k hv; have := hr k e.symm; omega
theorem OwnRows.kept {w w' : World} {B M k : Nat} {v : Value} {r : Option Nat} (h : OwnRows w B M v k) (hg : w.grownBy w' r) (hr : ∀ k, r = some k → k < B ∨ M ≤ k)
    (hv : v.ownBlock = none ∨ v.ownBlock ≠ r) : OwnRows w' B M v k := by
  obtain ⟨us, h, hu⟩ := h
  exact ⟨us, h.kept hg hv, fun u hu' => (hu u hu').kept hg hr⟩
theorem OwnRows.low {w w' : World} {B M k R : Nat} {v : Value} (h : OwnRows w B M v k) (hg : w.grownBy w' (some R)) (hR : R < B) : OwnRows w' B M v k := by
  refine h.kept hg (fun k e => by cases e; exact Or.inl hR) ?_
  obtain ⟨us, h, _⟩ := h
  exact ne_low h hR
theorem OwnRows.alloc {w : World} {B M k : Nat} {v : Value} (h : OwnRows w B M v k) (o : Obj) : OwnRows (w.alloc o) B M v k :=
  h.kept (World.grownBy_alloc w o none) (fun k e => by cases e) (by cases v.ownBlock <;> simp)
/-- an append to a row of ints that is newer than the rows -/
theorem OwnRows.ints {w w' : World} {B M k n : Nat} {v u : Value} {xs : List Value} (h : OwnRows w B M v k) (hu : w.ownsRow M 3 1 u n xs) (hg : w.grownBy w' u.ownBlock) : OwnRows w' B M v k := by
  refine h.kept hg (fun k e => Or.inr (hu.lt k e).1) ?_
  obtain ⟨us, h, _⟩ := h
  exact own_ne h hu (by decide)
/-- the row is done, and put to the rows -/
theorem OwnRows.push {w w' : World} {B M n k : Nat} {v v' u : Value} {xs : List Int} {us : List Value} (hu : w.ownsRow M 3 1 u n (xs.map (.int .i64))) (hM : B ≤ M)
    (hv : w.ownsRow B 23 1 v k us) (hus : ∀ u ∈ us, OwnInts w B M u) (hv' : w'.ownsRow B 23 1 v' (k + 1) (us ++ [u])) (hg : w.grownBy w' v.ownBlock) : OwnRows w' B w'.heap.size v' (k + 1) := by
  refine ⟨us ++ [u], hv', fun x hx => ?_⟩
  have key : ∀ (x : Value) (l : Nat) (ys : List Int), w.ownsRow B 3 1 x l (ys.map (.int .i64)) → OwnInts w' B w'.heap.size x := by
    intro x l ys h
    have h' := h.kept hg (own_ne h hv (by decide))
    exact ⟨l, ys, h', fun k hk => (h'.lt k hk).2⟩
  rcases List.mem_append.1 hx with hx | hx
  · obtain ⟨l, ys, h, _⟩ := hus x hx
    exact key x l ys h
  · simp only [List.mem_singleton] at hx
    subst hx
    exact key x n xs (own_base hu hM)
theorem OwnRows.slice {w : World} {B M k : Nat} {v : Value} (h : OwnRows w B M v k) : ∃ a cap, v = .slice a k cap ∧ k ≤ cap := by
  obtain ⟨us, h, _⟩ := h
  exact own_slice h
theorem OwnRows.nil {w w1 : World} {B M r : Nat} (hB : B = w.heap.size) (hg : (w.alloc (.cells #[] 23)).grownBy w1 (some r)) (hr : r < B) : OwnRows w1 B M (.slice (some ⟨B, 0, none⟩) 0 0) 0 := by
  subst hB
  have h0 := World.ownsRow_made (base := w.heap.size) (size := 1) (e := 23) w #[] 0 (Nat.le_refl _) (Nat.zero_le _) rfl
  refine ⟨[], (h0.kept hg (ne_low h0 hr)), fun u hu => by cases hu⟩
theorem OwnRows.up {w : World} {B M M' k : Nat} {v : Value} (h : OwnRows w B M v k) (hM : M ≤ M') : OwnRows w B M' v k := by
  obtain ⟨us, h, hu⟩ := h
  refine ⟨us, h, fun u hu' => ?_⟩
  obtain ⟨l, xs, h1, h2⟩ := hu u hu'
  exact ⟨l, xs, h1, fun k hk => Nat.lt_of_lt_of_le (h2 k hk) hM⟩

theorem own_one (w : World) {B : Nat} (hB : B ≤ w.heap.size) (x : Int) : (w.alloc (.cells #[.int .i64 x] 3)).ownsRow B 3 1 (.slice (some ⟨w.heap.size, 0, none⟩) 1 1) 1 ([x].map (.int .i64)) :=
  ⟨rfl, .inr ⟨w.heap.size, 1, _, rfl, hB, heap_alloc_new w _, Nat.le_refl _, by unfold maxLen; omega, rfl, rfl⟩⟩
theorem OwnRows.store {w : World} {B M g k cap j l : Nat} {u : Value} {xs : List Int} (h : OwnRows w B M (.slice (some ⟨g, 0, none⟩) k cap) k) (hu : w.ownsRow B 3 1 u l (xs.map (.int .i64))) :
    OwnRows (w.setCell ⟨g, j, none⟩ u) B w.heap.size (.slice (some ⟨g, 0, none⟩) k cap) k ∧ w.grownBy (w.setCell ⟨g, j, none⟩ u) (some g) := by
  obtain ⟨us, hv, hus⟩ := h
  obtain ⟨h1, h2⟩ := hv.stored j u
  have hv0 := hv
  refine ⟨⟨us.set j u, h1, fun y hy => ?_⟩, h2⟩
  have key : ∀ (y : Value) (l : Nat) (ys : List Int), w.ownsRow B 3 1 y l (ys.map (.int .i64)) → OwnInts (w.setCell ⟨g, j, none⟩ u) B w.heap.size y := by
    intro y l ys h
    exact ⟨l, ys, h.kept h2 (own_ne h hv0 (by decide)), fun k hk => (h.lt k hk).2⟩
  rcases List.mem_or_eq_of_mem_set hy with hy | rfl
  · obtain ⟨l, ys, h, _⟩ := hus y hy
    exact key y l ys h
  · exact key _ l xs hu
theorem OwnRows.addr {w : World} {B M k cap : Nat} {a : Option Addr} (h : OwnRows w B M (.slice a k cap) k) (hk : 0 < k) : ∃ g, a = some ⟨g, 0, none⟩ ∧ B ≤ g := by
  obtain ⟨us, hv, _⟩ := h
  rcases hv.2 with ⟨h1, h2⟩ | ⟨g, c, cur, h1, h2, _⟩
  · omega
  · simp only [Value.slice.injEq] at h1
    exact ⟨g, h1.1, h2⟩
theorem OwnRows.cell {w : World} {B M g k cap j : Nat} (h : OwnRows w B M (.slice (some ⟨g, 0, none⟩) k cap) k) (hj : j < k) : ∃ v, w.cell? ⟨g, j, none⟩ = some v ∧ w.frozen? ⟨g, j, none⟩ = false := by
  obtain ⟨us, hv, _⟩ := h
  have hl := hv.1
  refine ⟨us[j]'(by omega), ?_, hv.frozenAt j⟩
  rw [hv.cellAt j (by omega)]
  exact List.getElem?_eq_getElem _

theorem own_ints {w : World} {B l : Nat} {u : Value} {xs : List Int} (h : w.ownsRow B 3 1 u l (xs.map (.int .i64))) (hl : l ≤ 9223372036854775807) :
    ∃ a cap, u = .slice a l cap ∧ l ≤ cap ∧ IntsAt w (fun b => B ≤ b ∧ b < w.heap.size) a l xs := by
  have hlen : xs.length = l := by have := h.1; simpa using this
  have hlt := h.lt
  have hc := fun g hg => h.cells (g := g) hg
  rcases h.2 with ⟨rfl, rfl⟩ | ⟨g, cap, cur, rfl, _, _, hcap, _⟩
  · exact ⟨none, 0, rfl, Nat.le_refl _, hlen, hl, fun h0 => absurd h0 (by omega)⟩
  · refine ⟨some ⟨g, 0, none⟩, cap, rfl, hcap, hlen, hl, fun h0 => ⟨g, 0, rfl, hlt g rfl, fun i x hx => ?_⟩⟩
    have := hc g rfl i (.int .i64 x) (by rw [List.getElem?_map, hx]; rfl)
    rw [add_plain] at this
    exact this
theorem one_new (w : World) (x : Value) (t : TypeId) : ∀ (j : Nat) (u : Value), [x][j]? = some u → (w.alloc (.cells #[x] t)).cell? ((⟨w.heap.size, 0, none⟩ : Addr).add j) = some u := by
  intro j u h
  rw [add_plain, Nat.zero_add, World.cell?_alloc_new, ← Array.getElem?_toList]; exact h
theorem one_cell_int (k : IntKind) (x : Int) : ∀ u ∈ [Value.int k x], u.oneCell' = true := by simp [Value.oneCell']
theorem one_cell_slice (a : Option Addr) (l c : Nat) : ∀ u ∈ [Value.slice a l c], u.oneCell' = true := by simp [Value.oneCell']
theorem all_choose {α β : Type} {Q : α → β → Prop} : ∀ (us : List α), (∀ u ∈ us, ∃ r, Q u r) → ∃ rows : List β, rows.length = us.length ∧ ∀ (i : Nat) (r : β), rows[i]? = some r → ∃ u, us[i]? = some u ∧ Q u r := by
  intro us
  induction us with
  | nil => exact fun _ => ⟨[], rfl, fun i r h => by simp at h⟩
  | cons a l ih =>
    intro h
    obtain ⟨rows, h1, h2⟩ := ih (fun u hu => h u (List.mem_cons_of_mem _ hu))
    obtain ⟨r0, hr0⟩ := h a List.mem_cons_self
    refine ⟨r0 :: rows, by simp [h1], fun i r hr => ?_⟩
    cases i with
    | zero => simp at hr; subst hr; exact ⟨a, by simp, hr0⟩
    | succ i => simp at hr; obtain ⟨u, hu1, hu2⟩ := h2 i r hr; exact ⟨u, by simpa using hu1, hu2⟩
theorem OwnRows.rows {w : World} {B M k : Nat} {v : Value} (h : OwnRows w B M v k) (hk : k ≤ 9223372036854775807) :
    ∃ a cap rows, v = .slice a k cap ∧ k ≤ cap ∧ RowsAt w (fun b => B ≤ b ∧ b < w.heap.size) a k rows := by
  obtain ⟨us, h, hu⟩ := h
  have hlen : us.length = k := by have := h.1; simpa using this
  have hlt := h.lt
  have hc := fun g hg => h.cells (g := g) hg
  obtain ⟨rows, hr1, hr2⟩ := all_choose (Q := fun (u : Value) (r : List Int) => ∃ a' l c, u = .slice a' l c ∧ l ≤ c ∧ IntsAt w (fun b => B ≤ b ∧ b < w.heap.size) a' l r) us (fun u hu' => by
    obtain ⟨l, xs, h1, h2⟩ := hu u hu'
    have hl : l ≤ 9223372036854775807 := by
      rcases h1.2 with ⟨_, rfl⟩ | ⟨_, cap, _, _, _, _, hcap, hm, _⟩
      · omega
      · unfold maxLen at hm; omega
    obtain ⟨a, cap, h3, h4, h5⟩ := own_ints h1 hl
    exact ⟨xs, a, l, cap, h3, h4, h5⟩)
  rcases h.2 with ⟨rfl, rfl⟩ | ⟨g, cap, cur, rfl, _, _, hcap, _⟩
  · exact ⟨none, 0, rows, rfl, Nat.le_refl _, by omega, hk, fun h0 => absurd h0 (by omega)⟩
  · refine ⟨some ⟨g, 0, none⟩, cap, rows, rfl, hcap, by omega, hk, fun h0 => ⟨g, 0, rfl, hlt g rfl, fun i r hr => ?_⟩⟩
    obtain ⟨u, hu1, a', l, c, rfl, h4, h5⟩ := hr2 i r hr
    have := hc g rfl i _ hu1
    rw [add_plain] at this
    exact ⟨a', l, c, this, h4, h5⟩
end Go.Proofs.Ythmifadnfaajbad
namespace Go.Proofs.Ythmifadnfaajbad
open Go.RowKit Go.WideShapes Go.Deep

theorem Try.infoIntE : (Try.prog.info? 3).map (fun i => (i.zero, i.size, i.bytes)) = some (some (.int .i64 0), 1, 8) := by kernel_rfl

/-- the copies of ints -/
def cellsOf (xs : List Int) : Array Value := (xs.map (Value.int .i64)).toArray
theorem cellsOf_eq {xs : List Int} {C : Array Value} (hs : C.size = xs.length) (h : ∀ (i : Nat) (x : Int), xs[i]? = some x → C[i]? = some (.int .i64 x)) : C = cellsOf xs := by
  apply Array.ext_getElem?
  intro i
  simp only [cellsOf, List.getElem?_toArray, List.getElem?_map]
  cases hx : xs[i]? with
  | none => rw [Array.getElem?_eq_none (by rw [hs]; simpa using hx)]; rfl
  | some x => rw [h i x hx]; rfl

theorem ne_of_get {α : Type} {xs ys : List α} {k : Nat} {x y : α} (hx : xs[k]? = some x) (hy : ys[k]? = some y) (h : x ≠ y) : xs ≠ ys := by
  rintro rfl
  rw [hx] at hy
  exact h (by simpa using hy)
theorem take_eq_step {α : Type} {xs ys : List α} {k : Nat} {x : α} (hx : xs[k]? = some x) (hy : ys[k]? = some x) (h : xs.take k = ys.take k) : xs.take (k + 1) = ys.take (k + 1) := by
  rw [take_get hx, take_get hy, h]

def EqPost (w : World) (b : Bool) (e : Ending) (w' : World) : Prop := e = .returned (.bool b) ∧ Drew w w'
def eqB (xs ys : List Int) : Bool := decide (xs = ys)
def eqRB (xs ys : List (List Int)) : Bool := decide (xs = ys)

end Go.Proofs.Ythmifadnfaajbad
namespace Go.Proofs.Ythmifadnfaajbad
open Go.RowKit Go.WideShapes

/-- the blocks lo ≤ b < hi are as they were -/
def SameOn (lo hi : Nat) (w w' : World) : Prop := ∀ b, lo ≤ b → b < hi → w'.heap[b]? = w.heap[b]?
theorem SameOn.refl (lo hi : Nat) (w : World) : SameOn lo hi w w := fun _ _ _ => rfl
theorem SameOn.below {lo hi B : Nat} {a b c : World} (h : SameOn lo hi a b) (g : Below B b c) (hB : hi ≤ B) : SameOn lo hi a c :=
  fun k h1 h2 => (g.block k (by omega)).trans (h k h1 h2)
theorem SameOn.kept {lo hi : Nat} {S : Nat → Prop} {a b c : World} (h : SameOn lo hi a b) (g : KeptBut S b c) (hd : ∀ k, S k → k < lo ∨ hi ≤ k) : SameOn lo hi a c :=
  fun k h1 h2 => (g.block k (fun e => by have := hd k e; omega)).trans (h k h1 h2)
theorem SameOn.ints {lo hi : Nat} {a b : World} {p : Option Addr} {len : Nat} {xs : List Int} (h : SameOn lo hi a b) (x : IntsAt a (fun b => lo ≤ b ∧ b < hi) p len xs) : IntsAt b (fun b => lo ≤ b ∧ b < hi) p len xs :=
  x.to (fun k hk => ⟨hk, h k hk.1 hk.2⟩)
theorem SameOn.rows {lo hi : Nat} {a b : World} {p : Option Addr} {len : Nat} {xs : List (List Int)} (h : SameOn lo hi a b) (x : RowsAt a (fun b => lo ≤ b ∧ b < hi) p len xs) : RowsAt b (fun b => lo ≤ b ∧ b < hi) p len xs :=
  x.to (fun k hk => ⟨hk, h k hk.1 hk.2⟩)
theorem SameOn.free {lo hi : Nat} {a b : World} {p : Option Addr} {len : Nat} (h : SameOn lo hi a b) (x : Free a (fun b => lo ≤ b ∧ b < hi) p len) : Free b (fun b => lo ≤ b ∧ b < hi) p len :=
  x.to (fun k hk => ⟨hk, h k hk.1 hk.2⟩)
theorem ints_lift {w w1 : World} {a : Option Addr} {len : Nat} {xs : List Int} (h : IntsAt w (· < w.heap.size) a len xs) (hb : Below w.heap.size w w1) : IntsAt w1 (· < w1.heap.size) a len xs :=
  (h.below hb).to (fun _ hb' => ⟨Nat.lt_of_lt_of_le hb' hb.size, rfl⟩)
theorem rows_lift {w w1 : World} {a : Option Addr} {len : Nat} {rows : List (List Int)} (h : RowsAt w (· < w.heap.size) a len rows) (hb : Below w.heap.size w w1) : RowsAt w1 (· < w1.heap.size) a len rows :=
  (h.below hb).to (fun _ hb' => ⟨Nat.lt_of_lt_of_le hb' hb.size, rfl⟩)
theorem ints_in {lo hi : Nat} {w : World} {a : Option Addr} {len : Nat} {xs : List Int} (h : IntsAt w (fun b => lo ≤ b ∧ b < hi) a len xs) (hh : hi ≤ w.heap.size) : IntsAt w (· < w.heap.size) a len xs :=
  h.to (fun _ hb => ⟨Nat.lt_of_lt_of_le hb.2 hh, rfl⟩)
theorem rows_in {lo hi : Nat} {w : World} {a : Option Addr} {len : Nat} {xs : List (List Int)} (h : RowsAt w (fun b => lo ≤ b ∧ b < hi) a len xs) (hh : hi ≤ w.heap.size) : RowsAt w (· < w.heap.size) a len xs :=
  h.to (fun _ hb => ⟨Nat.lt_of_lt_of_le hb.2 hh, rfl⟩)

/-- a copy of ints, in a new block -/
def CopyI (w : World) (len : Nat) (xs : List Int) (e : Ending) (w' : World) : Prop := e = .returned (.slice (some ⟨w.heap.size, 0, none⟩) len len) ∧
  IntsAt w' (fun b => w.heap.size ≤ b ∧ b < w'.heap.size) (some ⟨w.heap.size, 0, none⟩) len xs ∧ Free w' (fun b => w.heap.size ≤ b ∧ b < w'.heap.size) (some ⟨w.heap.size, 0, none⟩) len ∧ Below w.heap.size w w'
/-- a slice of new ints that may be written, and whether -/
def ResPostB (w : World) (xs : List Int) (b : Bool) (e : Ending) (w' : World) : Prop := ∃ (a : Option Addr) (len cap : Nat), e = .returned (.tuple #[.slice a len cap, .bool b]) ∧ IntsAt w' (fun b => w.heap.size ≤ b ∧ b < w'.heap.size) a len xs ∧
  Free w' (fun b => w.heap.size ≤ b ∧ b < w'.heap.size) a len ∧ Below w.heap.size w w'
theorem resPostB_of {w w' : World} {xs : List Int} {b : Bool} {a : Option Addr} {len cap : Nat} (h : ResPost w xs (.returned (.slice a len cap)) w') : ResPostB w xs b (.returned (.tuple #[.slice a len cap, .bool b])) w' := by
  obtain ⟨a', l', c', e, h1, h2, h3⟩ := h
  simp only [Ending.returned.injEq, Value.slice.injEq] at e
  obtain ⟨rfl, rfl, rfl⟩ := e
  exact ⟨_, _, _, rfl, h1, h2, h3⟩
/-- a new slice of these ints, and whether -/
def NewIntsB (w : World) (xs : List Int) (b : Bool) (e : Ending) (w' : World) : Prop := ∃ (a : Option Addr) (len cap : Nat), e = .returned (.tuple #[.slice a len cap, .bool b]) ∧ IntsAt w' (fun b => w.heap.size ≤ b ∧ b < w'.heap.size) a len xs ∧ len ≤ cap ∧ Below w.heap.size w w'
/-- a value, and nothing below written -/
def ValPost (w : World) (v : Value) (e : Ending) (w' : World) : Prop := e = .returned v ∧ Below w.heap.size w w'
end Go.Proofs.Ythmifadnfaajbad
namespace Go.Proofs.Ythmifadnfaajbad
open Go.RowKit Go.WideShapes

/-- the first n values of f -/
def tab (f : Nat → Int) (n : Nat) : List Int := (List.range n).map f
theorem tab_succ (f : Nat → Int) (n : Nat) : tab f (n + 1) = tab f n ++ [f n] := by simp [tab, List.range_succ]
theorem tab_length (f : Nat → Int) (n : Nat) : (tab f n).length = n := by simp [tab]
theorem tab_get {f : Nat → Int} {n i : Nat} {x : Int} (h : (tab f n)[i]? = some x) : x = f i ∧ i < n := by
  simp only [tab, List.getElem?_map, Option.map_eq_some_iff] at h
  obtain ⟨j, hj, rfl⟩ := h
  obtain ⟨h1, h2⟩ := List.getElem?_eq_some_iff.1 hj
  simp at h1 h2
  subst h2
  exact ⟨rfl, h1⟩
theorem tab_at (f : Nat → Int) {n i : Nat} (h : i < n) : (tab f n)[i]? = some (f i) := by
  simp [tab, h]
theorem tab_getD (f : Nat → Int) {n i : Nat} (h : i < n) : (tab f n).getD i 0 = f i := by
  rw [List.getD_eq_getElem?_getD, tab_at f h]; rfl
theorem tab_congr {f g : Nat → Int} {n : Nat} (h : ∀ q, q < n → f q = g q) : tab f n = tab g n := by
  apply List.map_congr_left
  intro q hq
  exact h q (by simpa using hq)
theorem getD_of {xs : List Int} {k : Nat} {x : Int} (h : xs[k]? = some x) : xs.getD k 0 = x := by rw [List.getD_eq_getElem?_getD, h]; rfl
theorem getD_past {xs : List Int} {k : Nat} (h : xs.length ≤ k) : xs.getD k 0 = 0 := by rw [List.getD_eq_getElem?_getD, List.getElem?_eq_none h]; rfl
theorem get_getD {xs : List Int} {k : Nat} (h : k < xs.length) : xs[k]? = some (xs.getD k 0) := by rw [List.getD_eq_getElem?_getD, List.getElem?_eq_getElem h]; rfl
theorem tab_self (xs : List Int) : tab (fun q => xs.getD q 0) xs.length = xs := by
  apply List.ext_getElem?
  intro i
  rcases Nat.lt_or_ge i xs.length with h | h
  · rw [tab_at _ h, get_getD h]
  · rw [List.getElem?_eq_none h, List.getElem?_eq_none (by rw [tab_length]; exact h)]

/-- the cells of an array are ints, told by their place -/
structure ArrIs (C : Array Value) (len : Nat) (f : Nat → Int) : Prop where
  size : C.size = len
  get : ∀ q, q < len → C[q]? = some (.int .i64 (f q))
theorem ArrIs.made (len : Nat) : ArrIs (madeCells #[.int .i64 0] len) len (fun _ => 0) :=
  ⟨size_madeCells _ _, fun q hq => by simp [madeCells, hq, Nat.mod_one]⟩
theorem ArrIs.congr {C : Array Value} {len : Nat} {f g : Nat → Int} (h : ArrIs C len f) (e : ∀ q, q < len → f q = g q) : ArrIs C len g :=
  ⟨h.size, fun q hq => by rw [h.get q hq, e q hq]⟩
theorem ArrIs.set {C : Array Value} {len : Nat} {f : Nat → Int} (h : ArrIs C len f) (k : Nat) (v : Int) : ArrIs (C.setIfInBounds k (.int .i64 v)) len (fun q => if q = k then v else f q) := by
  refine ⟨by simpa using h.size, fun q hq => ?_⟩
  rw [Array.getElem?_setIfInBounds]
  by_cases e : k = q
  · subst e
    rw [if_pos rfl, if_pos (by rw [h.size]; exact hq)]
    simp
  · rw [if_neg e, h.get q hq, if_neg (fun e' => e e'.symm)]
theorem ArrIs.cells {C : Array Value} {xs : List Int} {len : Nat} {f : Nat → Int} (h : ArrIs C len f) (hl : xs.length = len) (e : ∀ q x, xs[q]? = some x → f q = x) : C = cellsOf xs := by
  refine cellsOf_eq (by rw [h.size, hl]) (fun i x hx => ?_)
  have hi : i < len := by
    rcases Nat.lt_or_ge i xs.length with h' | h'
    · omega
    · simp [List.getElem?_eq_none h'] at hx
  rw [h.get i hi, e i x hx]
theorem ArrIs.tab {C : Array Value} {len : Nat} {f : Nat → Int} (h : ArrIs C len f) : C = cellsOf (tab f len) :=
  h.cells (tab_length f len) (fun _ _ hx => (tab_get hx).1.symm)
theorem ArrIs.at {C : Array Value} {len : Nat} {f : Nat → Int} (h : ArrIs C len f) (w : World) (t : TypeId) {q : Nat} (hq : q < len) :
    (w.alloc (.cells C t)).cell? ⟨w.heap.size, q, none⟩ = some (.int .i64 (f q)) := by
  rw [World.cell?_alloc_new]; exact h.get q hq

/-- what is returned is the one new block -/
theorem resPost_alloc {w : World} {xs : List Int} {len : Nat} {t : TypeId} (hl : xs.length = len) (hs : len ≤ 1048576) :
    ResPost w xs (.returned (.slice (some ⟨w.heap.size, 0, none⟩) len len)) (w.alloc (.cells (cellsOf xs) t)) :=
  resPost_block hl hs (fun q x hx => ⟨by
    rw [World.cell?_alloc_new]
    simp only [cellsOf, List.getElem?_toArray, List.getElem?_map, hx]; rfl, World.frozen?_alloc_new w _ _ _⟩) ((Below.refl _ _).alloc (Nat.le_refl _) _)
end Go.Proofs.Ythmifadnfaajbad
namespace Go.Proofs.Ythmifadnfaajbad
open Go.RowKit Go.WideShapes

theorem Try.infoIntO : (Try.prog.info? 3).map (fun i => (i.zero, i.size, i.bytes)) = some (some (.int .i64 0), 1, 8) := by kernel_rfl
/-- a new slice of these ints -/
def NewInts (w : World) (xs : List Int) (e : Ending) (w' : World) : Prop := ∃ (a : Option Addr) (len cap : Nat), e = .returned (.slice a len cap) ∧ IntsAt w' (fun b => w.heap.size ≤ b ∧ b < w'.heap.size) a len xs ∧ len ≤ cap ∧ Below w.heap.size w w'
theorem newInts_nil (w : World) : NewInts w [] (.returned (.slice none 0 0)) w :=
  ⟨none, 0, 0, rfl, ⟨rfl, Nat.zero_le _, fun h => absurd h (by omega)⟩, Nat.le_refl _, Below.refl _ _⟩
theorem newInts_own {w wr : World} {k cp : Nat} {ax : Option Addr} {xs : List Int} (h : wr.ownsRow w.heap.size 3 1 (.slice ax k cp) k (xs.map (.int .i64))) (hb : Below w.heap.size w wr) (hk : k ≤ 9223372036854775807) :
    NewInts w xs (.returned (.slice ax k cp)) wr := by
  obtain ⟨ay, cy, hve, hcc, hints⟩ := own_ints h hk
  simp only [Value.slice.injEq] at hve
  obtain ⟨rfl, _, rfl⟩ := hve
  exact ⟨_, _, _, rfl, hints, hcc, hb⟩
/-- a new slice of these ints, that is the call's own -/
def NewOwn (w : World) (xs : List Int) (e : Ending) (w' : World) : Prop := ∃ (a : Option Addr) (len cap : Nat), e = .returned (.slice a len cap) ∧ len ≤ 9223372036854775807 ∧
  w'.ownsRow w.heap.size 3 1 (.slice a len cap) len (xs.map (.int .i64)) ∧ Below w.heap.size w w'
theorem NewOwn.ints {w w' : World} {xs : List Int} {e : Ending} (h : NewOwn w xs e w') : NewInts w xs e w' := by
  obtain ⟨a, len, cap, rfl, hs, h1, h2⟩ := h
  exact newInts_own h1 h2 hs
theorem newOwn_alloc {w : World} {xs : List Int} {len : Nat} (hl : xs.length = len) (hs : len ≤ 1048576) :
    NewOwn w xs (.returned (.slice (some ⟨w.heap.size, 0, none⟩) len len)) (w.alloc (.cells (cellsOf xs) 3)) :=
  ⟨_, _, _, rfl, by omega, ⟨by simp [hl], .inr ⟨w.heap.size, len, cellsOf xs, rfl, Nat.le_refl _, heap_alloc_new w _, Nat.le_refl _, by unfold maxLen; omega, by simp [cellsOf, hl], by simp [cellsOf]; exact List.take_of_length_le (by simp [hl])⟩⟩, (Below.refl _ _).alloc (Nat.le_refl _) _⟩
theorem own_drewN {w : World} {B e s n : Nat} {v : Value} {xs : List Value} (h : w.ownsRow B e s v n xs) (q : Nat) : (w.drewN q).ownsRow B e s v n xs :=
  h.kept (grownBy_drewN w q none) (by cases v.ownBlock <;> simp)
/-- the call's own block of ints, told by their place -/
structure OwnF (w wr : World) (len : Nat) (f : Nat → Int) : Prop where
  own : wr.ownsRow w.heap.size 3 1 (.slice (some ⟨w.heap.size, 0, none⟩) len len) len ((tab f len).map (.int .i64))
  below : Below w.heap.size w wr
theorem OwnF.start (w : World) (len : Nat) (hs : len ≤ 1048576) : OwnF w (w.alloc (.cells (madeCells #[.int .i64 0] len) 3)) len (fun _ => 0) := by
  have e : madeCells #[.int .i64 0] len = cellsOf (tab (fun _ => 0) len) := (ArrIs.made len).tab
  rw [e]
  obtain ⟨a, l, c, e1, _, h1, h2⟩ := newOwn_alloc (w := w) (tab_length (fun _ => 0) len) hs
  simp only [Ending.returned.injEq, Value.slice.injEq] at e1
  obtain ⟨rfl, rfl, rfl⟩ := e1
  exact ⟨h1, h2⟩
theorem OwnF.congr {w wr : World} {len : Nat} {f g : Nat → Int} (h : OwnF w wr len f) (e : ∀ q, q < len → f q = g q) : OwnF w wr len g := ⟨by rw [← tab_congr e]; exact h.own, h.below⟩
theorem OwnF.cell {w wr : World} {len q : Nat} {f : Nat → Int} (h : OwnF w wr len f) (hq : q < len) : wr.cell? ⟨w.heap.size, q, none⟩ = some (.int .i64 (f q)) ∧ wr.frozen? ⟨w.heap.size, q, none⟩ = false := by
  refine ⟨?_, h.own.frozenAt q⟩
  rw [h.own.cellAt q (by simpa [tab_length] using hq), List.getElem?_map, tab_at f hq]; rfl
theorem OwnF.heap {w wr : World} {len : Nat} {f : Nat → Int} (h : OwnF w wr len f) : wr.heap[w.heap.size]? = some (.cells ((tab f len).map (.int .i64)).toArray 3 (0, 0)) := by
  rcases h.own.2 with ⟨e, _⟩ | ⟨k, cap, cur, e, _, hh, _, _, hz, ht⟩
  · cases e
  · simp only [Value.slice.injEq, Option.some.injEq, Addr.mk.injEq] at e
    obtain ⟨⟨rfl, _⟩, _, rfl⟩ := e
    rw [hh, ← ht]
    have : cur.toList.take (len * 1) = cur.toList := List.take_of_length_le (by simp at hz ⊢; omega)
    simp [List.take_of_length_le (show cur.toList.length ≤ len by simpa using Nat.le_of_eq hz)]
theorem OwnF.drew {w wr : World} {len : Nat} {f : Nat → Int} (h : OwnF w wr len f) (n : Nat) : OwnF w (wr.drewN n) len f :=
  ⟨h.own.kept (grownBy_drewN wr n none) (by simp [Value.ownBlock]), h.below.trans (Drew.below (w := wr) (wr := wr.drewN n) ⟨n, rfl⟩ _)⟩
theorem OwnF.drew1 {w wr : World} {len : Nat} {f : Nat → Int} (h : OwnF w wr len f) : OwnF w wr.drew len f := h.drew 1
theorem tab_set (f : Nat → Int) (len k : Nat) (v : Int) : (tab f len).set k v = tab (fun q => if q = k then v else f q) len := by
  apply List.ext_getElem?
  intro i
  rw [List.getElem?_set]
  by_cases hi : i < len
  · by_cases e : k = i
    · subst e; rw [if_pos rfl, if_pos (by rw [tab_length]; exact hi), tab_at _ hi, if_pos rfl]
    · rw [if_neg e, tab_at _ hi, tab_at _ hi, if_neg (fun e' => e e'.symm)]
  · have h1 : (tab f len)[i]? = none := List.getElem?_eq_none (by rw [tab_length]; omega)
    have h2 : (tab (fun q => if q = k then v else f q) len)[i]? = none := List.getElem?_eq_none (by rw [tab_length]; omega)
    rw [h2]
    by_cases e : k = i
    · subst e; rw [if_pos rfl, if_neg (by rw [tab_length]; exact hi)]
    · rw [if_neg e, h1]
theorem OwnF.put {w wr : World} {len : Nat} {f : Nat → Int} (h : OwnF w wr len f) (k : Nat) (v : Int) : OwnF w (wr.setCell ⟨w.heap.size, k, none⟩ (.int .i64 v)) len (fun q => if q = k then v else f q) := by
  obtain ⟨h1, h2⟩ := h.own.stored k (.int .i64 v)
  refine ⟨?_, h.below.setCell (Nat.le_refl _) _⟩
  rw [← tab_set, List.map_set]; exact h1
theorem OwnF.done {w wr : World} {len : Nat} {f : Nat → Int} (h : OwnF w wr len f) (hs : len ≤ 1048576) : NewOwn w (tab f len) (.returned (.slice (some ⟨w.heap.size, 0, none⟩) len len)) wr :=
  ⟨_, _, _, rfl, by omega, h.own, h.below⟩
/-- a place of a row of ints that is the call's own -/
theorem own_place {w : World} {B n cap : Nat} {a : Option Addr} {xs : List Int} (h : w.ownsRow B 3 1 (.slice a n cap) n (xs.map (.int .i64))) {j : Nat} (hj : j < n) :
    ∃ g v, a = some ⟨g, 0, none⟩ ∧ B ≤ g ∧ w.cell? ⟨g, j, none⟩ = some v ∧ w.frozen? ⟨g, j, none⟩ = false := by
  have hl := h.1
  have h' := h
  rcases h'.2 with ⟨h1, h2⟩ | ⟨g, c, cur, h1, h2, _⟩
  · omega
  · simp only [Value.slice.injEq] at h1
    obtain ⟨rfl, _, rfl⟩ := h1
    refine ⟨g, (xs.map (Value.int .i64))[j]'(by omega), rfl, h2, ?_, h.frozenAt j⟩
    rw [h.cellAt j (by omega)]
    exact List.getElem?_eq_getElem _
theorem newInts_alloc {w : World} {xs : List Int} {len : Nat} (hl : xs.length = len) (hs : len ≤ 1048576) :
    NewInts w xs (.returned (.slice (some ⟨w.heap.size, 0, none⟩) len len)) (w.alloc (.cells (cellsOf xs) 3)) := by
  obtain ⟨a, l, c, e, h1, _, h3⟩ := resPost_alloc (w := w) (t := 3) hl hs
  simp only [Ending.returned.injEq, Value.slice.injEq] at e
  obtain ⟨rfl, rfl, rfl⟩ := e
  exact ⟨_, _, _, rfl, h1, Nat.le_refl _, h3⟩
end Go.Proofs.Ythmifadnfaajbad
namespace Go.Proofs.Ythmifadnfaajbad
open Go.RowKit

set_option maxHeartbeats 400000 in
theorem equalInts_any (S T : Nat → Prop) (a a2 : Option Addr) (len cap len2 cap2 : Nat) (xs ys : List Int) (w : World) (h : IntsAt w S a len xs) (g : IntsAt w T a2 len2 ys) :
    Calls Try.prog 12 #[.slice a len cap, .slice a2 len2 cap2] w (EqPost w (eqB xs ys)) := by
  have hs := h.small
  have hs2 := g.small
  by_cases hll : len = len2
  · subst hll
    go_enter Try.func12, Try.ntmps12
    go_wp2
    go_loopw [5] (fun i wr => ∃ k : Nat, k ≤ len ∧ i = .int .i64 k ∧ xs.take k = ys.take k ∧ Drew w wr) (fun i _ => len - (intOf i).toNat)
    case atStart => exact ⟨0, Nat.zero_le _, rfl, rfl, Drew.refl w⟩
    case round =>
      obtain ⟨k, hk, rfl, ht, hd⟩ := hrel
      have HT := Lib.hid ht
      clear ht
      by_cases hlt : k < len
      · obtain ⟨b, off, x, rfl, hx, hc⟩ := (Drew.ints h hd).get hlt
        obtain ⟨b2, off2, y, rfl, hy, hc2⟩ := (Drew.ints g hd).get hlt
        have HX := Lib.hid hx
        have HY := Lib.hid hy
        clear hx hy
        by_cases hxy : x = y
        · subst hxy
          go_wp2
          go_quiet (fail)
          go_wp2
          go_roundw
          case rel => exact ⟨k + 1, by omega, by go_num, take_eq_step HX.out HY.out HT.out, hd.drew _⟩
          case measure => simp [intOf]; omega
        · go_wp2
          go_quiet (fail)
          go_wp2
          go_ret
          exact ⟨ret_bool (decide_eq_false (ne_of_get HX.out HY.out hxy)).symm, hd.drew _⟩
      · go_wp2
        go_ret
        have e1 := h.lenEq
        have e2 := g.lenEq
        have ht := HT.out
        rw [List.take_of_length_le (by omega), List.take_of_length_le (by omega)] at ht
        exact ⟨ret_bool (decide_eq_true ht).symm, hd⟩
  · have hne : xs ≠ ys := by rintro rfl; exact hll (h.lenEq.symm.trans g.lenEq)
    go_enter Try.func12, Try.ntmps12
    go_wp2
    go_ret
    exact ⟨ret_bool (decide_eq_false hne).symm, Drew.refl w⟩
/-- the sum of numbers -/
def totalM (xs : List Int) : Int := xs.foldl (· + ·) 0
theorem totalM_snoc (xs : List Int) (x : Int) : totalM (xs ++ [x]) = totalM xs + x := by simp [totalM]
theorem totalM_bd {B : Int} (hB : 0 ≤ B) : ∀ {xs : List Int}, (∀ x ∈ xs, -B ≤ x ∧ x ≤ B) → -(B * xs.length) ≤ totalM xs ∧ totalM xs ≤ B * xs.length := by
  have key : ∀ (xs : List Int) (s : Int), (∀ x ∈ xs, -B ≤ x ∧ x ≤ B) → s - B * xs.length ≤ xs.foldl (· + ·) s ∧ xs.foldl (· + ·) s ≤ s + B * xs.length := by
    intro xs
    induction xs with
    | nil => intro s _; simp
    | cons x xs ih =>
      intro s h
      have h1 := h x List.mem_cons_self
      have h2 := ih (s + x) (fun y hy => h y (List.mem_cons_of_mem _ hy))
      have e : B * ((x :: xs).length : Int) = B * (xs.length : Int) + B := by rw [List.length_cons]; push_cast; rw [Int.mul_add, Int.mul_one]
      simp only [List.foldl_cons]
      rw [e]
      omega
  intro xs h
  have := key xs 0 h
  unfold totalM
  omega
theorem totalM_zero : ∀ {xs : List Int}, (∀ x ∈ xs, 0 ≤ x) → (totalM xs = 0 ↔ ∀ x ∈ xs, x = 0) := by
  have key : ∀ (xs : List Int) (s : Int), 0 ≤ s → (∀ x ∈ xs, 0 ≤ x) → (0 ≤ xs.foldl (· + ·) s ∧ (xs.foldl (· + ·) s = 0 ↔ s = 0 ∧ ∀ x ∈ xs, x = 0)) := by
    intro xs
    induction xs with
    | nil => intro s hs _; simp; exact hs
    | cons x xs ih =>
      intro s hs h
      have h1 := h x List.mem_cons_self
      obtain ⟨i1, i2⟩ := ih (s + x) (by omega) (fun y hy => h y (List.mem_cons_of_mem _ hy))
      simp only [List.foldl_cons]
      refine ⟨i1, ?_⟩
      rw [i2]
      simp only [List.mem_cons, forall_eq_or_imp]
      constructor
      · rintro ⟨e1, e2⟩; exact ⟨by omega, by omega, e2⟩
      · rintro ⟨e1, e2, e3⟩; exact ⟨by omega, e3⟩
  intro xs h
  have := (key xs 0 (Int.le_refl _) h).2
  unfold totalM
  rw [this]; simp
theorem take_mem {α : Type} {xs : List α} {k : Nat} {x : α} (h : x ∈ xs.take k) : x ∈ xs := List.mem_of_mem_take h

end Go.Proofs.Ythmifadnfaajbad
namespace Go.Proofs.Ythmifadnfaajbad
open Go.RowKit

/-- a new slice of these ints that may be written, not longer than its array -/
def ResPostC (w : World) (xs : List Int) (e : Ending) (w' : World) : Prop := ∃ (a : Option Addr) (len cap : Nat), e = .returned (.slice a len cap) ∧ IntsAt w' (fun b => w.heap.size ≤ b ∧ b < w'.heap.size) a len xs ∧
  Free w' (fun b => w.heap.size ≤ b ∧ b < w'.heap.size) a len ∧ len ≤ cap ∧ Below w.heap.size w w'
theorem resPostC_nil (w : World) : ResPostC w [] (.returned (.slice none 0 0)) w :=
  ⟨none, 0, 0, rfl, ⟨rfl, Nat.zero_le _, fun h => absurd h (by omega)⟩, ⟨Nat.zero_le _, fun h => absurd h (by omega)⟩, Nat.le_refl _, Below.refl _ _⟩
theorem resPostC_of {w w' : World} {xs : List Int} {a : Option Addr} {len cap : Nat} (h : ResPost w xs (.returned (.slice a len cap)) w') (hc : len ≤ cap) : ResPostC w xs (.returned (.slice a len cap)) w' := by
  obtain ⟨a', l', c', e, h1, h2, h3⟩ := h
  simp only [Ending.returned.injEq, Value.slice.injEq] at e
  obtain ⟨rfl, rfl, rfl⟩ := e
  exact ⟨_, _, _, rfl, h1, h2, hc, h3⟩
theorem ResPostC.res {w w' : World} {xs : List Int} {e : Ending} (h : ResPostC w xs e w') : ResPost w xs e w' := by
  obtain ⟨a', l', c', e1, h1, h2, _, h3⟩ := h
  exact ⟨a', l', c', e1, h1, h2, h3⟩
end Go.Proofs.Ythmifadnfaajbad
