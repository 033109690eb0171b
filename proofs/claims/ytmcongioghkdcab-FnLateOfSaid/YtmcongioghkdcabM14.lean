import Derived.Test.YtmcongioghkdcabM6
import Derived.Test.YtmcongioghkdcabM13
import Derived.Test.YtmcongioghkdcabM7
import Derived.Test.YtmcongioghkdcabRows
import Derived.WalkKit
import Derived.LoopTactic
import Derived.Outline
import Derived.WalkSpells
import Derived.WalkLawsBesides
import Derived.ProofKit
import Derived.Test.YtmcongioghkdcabM0
import Derived.Test.YtmcongioghkdcabM1
import Derived.Test.YtmcongioghkdcabM2
import Derived.Deep.AppendLies
import Derived.Lib.Hide
import Derived.Deep.QuietTactic
import Derived.BigQuiet
import Derived.IntWalk
import Derived.Deep.LoopGhost
import Derived.Shelf.RegionOpenPlain
import Derived.Test.YtmcongioghkdcabM11
import Derived.RangeFuncNested
import Derived.RangeFuncBound
import Derived.RangeFuncCalls
import Derived.RangeFuncLeaves
import Derived.Shelf.Abstract
import Derived.Shelf.RegionOpen
import Derived.OwnWalkIn
import Derived.TacticsInMore
import Derived.LoopNIn
import Derived.LoopIn
import Derived.Test.YtmcongioghkdcabM12
import Derived.Test.YtmcongioghkdcabM9
namespace Go.Proofs.Ytmcongioghkdcab

-- the rule by comparing (plain)
def cc (p q : Int) : Int := if p < q then -1 else if q < p then 1 else 0
def cmp4 (x0 x1 y0 y1 : Int) : Int := if x0 < x1 then (if y0 < y1 then cc x0 y0 else -1) else (if y0 < y1 then 1 else cc y1 x1)
def cmpV (a b : Nat → Int) (x y : Nat) : Int := cmp4 (a x) (b x) (a y) (b y)
theorem cmpV_lt {a b : Nat → Int} {x y : Nat} (h : y < x) : cmpV a b x y < 0 ↔ ¬ btr a b y x := by
  unfold cmpV cmp4 cc btr
  by_cases h1 : a x < b x <;> by_cases h2 : a y < b y <;> simp only [h1, h2, if_true, if_false, not_true, not_false_eq_true]
  · constructor
    · intro h3; split at h3
      · omega
      · split at h3 <;> omega
    · intro h3; rw [if_pos (by omega)]; omega
  · exact ⟨fun _ => trivial, fun _ => by omega⟩
  · exact ⟨fun h3 => by omega, fun h3 => h3.elim⟩
  · constructor
    · intro h3; split at h3
      · omega
      · split at h3 <;> omega
    · intro h3; rw [if_pos (by omega)]; omega
theorem insR_split {a b : Nat → Int} {x : Nat} : ∀ (l1 l2 : List Nat), (∀ y ∈ l1, btr a b y x) → (∀ y ∈ l2, ¬ btr a b y x) → insR a b x (l1 ++ l2) = l1 ++ x :: l2 := by
  intro l1
  induction l1 with
  | nil =>
    intro l2 _ h2
    cases l2 with
    | nil => rfl
    | cons y l2 => rw [List.nil_append, insR, if_neg (h2 y (by simp))]; rfl
  | cons y l1 ih =>
    intro l2 h1 h2
    rw [List.cons_append, insR, if_pos (h1 y (by simp)), ih l2 (fun z hz => h1 z (by simp [hz])) h2]; rfl
/-- what lies there while job i is put in its place: l1 ahead of it, l2 behind it, and those that are still to come -/
def insAt (l1 : List Nat) (i : Nat) (l2 : List Nat) (n : Nat) : List Nat := l1 ++ i :: (l2 ++ List.range' (i + 1) (n - (i + 1)))
theorem insAt_length {l1 l2 : List Nat} {i n : Nat} (h : l1.length + l2.length = i) (hi : i < n) : (insAt l1 i l2 n).length = n := by
  simp only [insAt, List.length_append, List.length_cons, List.length_range']; omega
theorem insAt_here (l1 l2 : List Nat) (i n : Nat) : (insAt l1 i l2 n).getD l1.length 0 = i := by
  simp [insAt, List.getD_eq_getElem?_getD]
theorem insAt_ahead (l1 l2 : List Nat) (y i n : Nat) : (insAt (l1 ++ [y]) i l2 n).getD l1.length 0 = y := by
  simp [insAt, List.getD_eq_getElem?_getD]
theorem insAt_swap (l1 l2 : List Nat) (y i n : Nat) : swN (insAt (l1 ++ [y]) i l2 n) (l1.length + 1) l1.length = insAt l1 i (y :: l2) n := by
  have h1 : (insAt (l1 ++ [y]) i l2 n).getD (l1.length + 1) 0 = i := by have := insAt_here (l1 ++ [y]) l2 i n; simpa using this
  unfold swN
  rw [h1, insAt_ahead]
  unfold insAt
  rw [List.append_assoc, List.singleton_append]
  rw [List.set_append, if_neg (by omega), Nat.add_sub_cancel_left, List.set_cons_succ, List.set_cons_zero, List.set_append, if_neg (by omega), Nat.sub_self, List.set_cons_zero]
  simp
theorem insAt_next {a b : Nat → Int} {l1 l2 : List Nat} {i n : Nat} (hi : i + 1 < n) (h : l1 ++ i :: l2 = ruleT a b (i + 1)) : insAt l1 i l2 n = insAt (ruleT a b (i + 1)) (i + 1) [] n := by
  unfold insAt
  rw [← h]
  have : List.range' (i + 1) (n - (i + 1)) = (i + 1) :: List.range' (i + 1 + 1) (n - (i + 1 + 1)) := by
    obtain ⟨m, hm⟩ : ∃ m, n - (i + 1) = m + 1 := ⟨n - (i + 1) - 1, by omega⟩
    rw [hm, List.range'_succ, show n - (i + 1 + 1) = m by omega]
  rw [this]; simp
theorem insAt_last {a b : Nat → Int} {l1 l2 : List Nat} {i : Nat} (h : l1 ++ i :: l2 = ruleT a b (i + 1)) : insAt l1 i l2 (i + 1) = ruleT a b (i + 1) := by
  unfold insAt; rw [Nat.sub_self, List.range'_zero, List.append_nil, h]
theorem insAt_first {a b : Nat → Int} {n : Nat} (hn : 1 < n) : List.range n = insAt (ruleT a b 1) 1 [] n := by
  unfold insAt
  obtain ⟨m, rfl⟩ : ∃ m, n = m + 2 := ⟨n - 2, by omega⟩
  rw [List.range_eq_range', List.range'_succ, List.range'_succ]
  rfl
theorem ruleT_lenN (a b : Nat → Int) (n : Nat) : (ruleT a b n).length = n := by have := (ruleT_perm a b n).length_eq; simpa using this
/-- the loop's end: what is ahead is better, what is behind is not -/
theorem ins_done {a b : Nat → Int} {l1 l2 : List Nat} {i : Nat} (h : l1 ++ l2 = ruleT a b i) (h1 : ∀ y, l1.getLast? = some y → btr a b y i) (h2 : ∀ y ∈ l2, ¬ btr a b y i) : l1 ++ i :: l2 = ruleT a b (i + 1) := by
  rw [ruleT, ← h]
  refine (insR_split l1 l2 (fun y hy => ?_) h2).symm
  have hs : l1.Pairwise (btr a b) := by
    have := ruleT_sorted a b i
    rw [← h] at this
    exact (List.pairwise_append.1 this).1
  rcases List.eq_nil_or_concat l1 with rfl | ⟨l, z, rfl⟩
  · cases hy
  · have hz := h1 z (by simp)
    rw [List.concat_eq_append] at hy hs
    rcases List.mem_append.1 hy with hy | hy
    · exact btr_trans ((List.pairwise_append.1 hs).2.2 y hy z (by simp)) hz
    · simp only [List.mem_singleton] at hy; subst hy; exact hz
end Go.Proofs.Ytmcongioghkdcab
namespace Go.Proofs.Ytmcongioghkdcab

-- insertion in place, told by sortE (plain)
theorem ins_next {s l1 l2 : List Nat} {i n : Nat} (hi : i + 1 < n) (h : l1 ++ i :: l2 = s) : insAt l1 i l2 n = insAt s (i + 1) [] n := by
  unfold insAt
  rw [← h]
  have : List.range' (i + 1) (n - (i + 1)) = (i + 1) :: List.range' (i + 1 + 1) (n - (i + 1 + 1)) := by
    obtain ⟨m, hm⟩ : ∃ m, n - (i + 1) = m + 1 := ⟨n - (i + 1) - 1, by omega⟩
    rw [hm, List.range'_succ, show n - (i + 1 + 1) = m by omega]
  rw [this]; simp
theorem ins_last {s l1 l2 : List Nat} {i : Nat} (h : l1 ++ i :: l2 = s) : insAt l1 i l2 (i + 1) = s := by
  unfold insAt; rw [Nat.sub_self, List.range'_zero, List.append_nil, h]
theorem sortE_one (ah : Nat → Nat → Bool) : sortE ah 1 = [0] := by
  simp [sortE, insE, backK]
theorem ins_first (ah : Nat → Nat → Bool) {n : Nat} (hn : 1 < n) : List.range n = insAt (sortE ah 1) 1 [] n := by
  unfold insAt
  obtain ⟨m, rfl⟩ : ∃ m, n = m + 2 := ⟨n - 2, by omega⟩
  rw [List.range_eq_range', List.range'_succ, List.range'_succ, sortE_one]
  rfl
/-- the loop's end: what is behind comes behind, the last one ahead does not -/
theorem insE_done {ah : Nat → Nat → Bool} {l1 l2 : List Nat} {i : Nat} (h : l1 ++ l2 = sortE ah i) (h1 : ∀ l z, l1 = l ++ [z] → ah i z = false) (h2 : ∀ y ∈ l2, ah i y = true) : l1 ++ i :: l2 = sortE ah (i + 1) := by
  have hk : backK (ah i) (sortE ah i) (sortE ah i).length = l1.length := by
    refine backK_is (by rw [← h, List.length_append]; omega) (fun m hm hm2 => ?_) (fun hp => ?_)
    · rw [← h, List.getD_eq_getElem?_getD, List.getElem?_append_right hm]
      rw [← h, List.length_append] at hm2
      rw [List.getElem?_eq_getElem (by omega)]
      exact h2 _ (List.getElem_mem _)
    · rcases List.eq_nil_or_concat l1 with rfl | ⟨l, z, rfl⟩
      · simp at hp
      · have := h1 l z (by rw [List.concat_eq_append])
        rw [← h, List.getD_eq_getElem?_getD]
        simpa using this
  show _ = insE ah i (sortE ah i)
  unfold insE
  rw [hk, ← h]
  simp
end Go.Proofs.Ytmcongioghkdcab
namespace Go.Proofs.Ytmcongioghkdcab
open Go.RowKit Go.WideShapes

def natI (h : List Nat) : List Int := h.map (fun x : Nat => (x : Int))
theorem natI_get {h : List Nat} {k : Nat} {x : Int} (hx : (natI h)[k]? = some x) : ∃ y : Nat, x = (y : Int) ∧ h[k]? = some y := by
  unfold natI at hx
  rw [List.getElem?_map] at hx
  cases hq : h[k]? with
  | none => rw [hq] at hx; cases hx
  | some y => rw [hq] at hx; simp only [Option.map_some, Option.some.injEq] at hx; exact ⟨y, hx.symm, rfl⟩
theorem nO_natI (h : List Nat) : nO (natI h) = h := by
  unfold nO natI
  rw [List.map_map]
  conv => rhs; rw [← List.map_id h]
  exact List.map_congr_left (fun x _ => by simp)
theorem natI_mem {h : List Nat} {n : Nat} (hh : ∀ x ∈ h, x < n) : ∀ x ∈ natI h, 0 ≤ x ∧ x < (n : Int) := by
  intro x hx
  obtain ⟨y, hy, rfl⟩ := List.mem_map.1 hx
  have := hh y hy; omega
end Go.Proofs.Ytmcongioghkdcab
namespace Go.Proofs.Ytmcongioghkdcab
open Go.RowKit Go.WideShapes

theorem Try.infoIntOB : (Try.prog.info? 3).map (fun i => (i.zero, i.size, i.bytes)) = some (some (.int .i64 0), 1, 8) := by kernel_rfl
/-- the cells of block b, from its first one on, hold these numbers, and may be written -/
def RowB (w : World) (b : Nat) (xs : List Nat) : Prop := ∀ (q x : Nat), xs[q]? = some x → w.cell? ⟨b, q, none⟩ = some (.int .i64 (x : Int)) ∧ w.frozen? ⟨b, q, none⟩ = false
theorem RowB.block {w w' : World} {b : Nat} {xs : List Nat} (h : RowB w b xs) (e : w'.heap[b]? = w.heap[b]?) : RowB w' b xs := by
  intro q x hx
  obtain ⟨h1, h2⟩ := h q x hx
  exact ⟨by rw [World.cell?_of_block (w := w) e]; exact h1, by rw [World.frozen?_of_block (w := w) e]; exact h2⟩
theorem RowB.drew {w : World} {b : Nat} {xs : List Nat} (h : RowB w b xs) : RowB w.drew b xs := h
theorem RowB.drewN {w : World} {b : Nat} {xs : List Nat} (h : RowB w b xs) (n : Nat) : RowB (w.drewN n) b xs := h
theorem RowB.at {w : World} {b q : Nat} {xs : List Nat} (h : RowB w b xs) (hq : q < xs.length) : w.cell? ⟨b, q, none⟩ = some (.int .i64 ((xs.getD q 0 : Nat) : Int)) ∧ w.frozen? ⟨b, q, none⟩ = false := by
  refine h q _ ?_
  rw [List.getD_eq_getElem?_getD, List.getElem?_eq_getElem hq]; rfl
theorem RowB.lt {w : World} {b : Nat} {xs : List Nat} (h : RowB w b xs) (hq : 0 < xs.length) : b < w.heap.size := World.block_lt_of_cell? w _ (h.at hq).1
theorem RowB.put {w : World} {b : Nat} {xs : List Nat} (h : RowB w b xs) {k : Nat} (hk : k < xs.length) (v : Nat) : RowB (w.setCell ⟨b, k, none⟩ (.int .i64 (v : Int))) b (xs.set k v) := by
  intro q x hx
  rw [List.getElem?_set] at hx
  refine ⟨?_, ?_⟩
  · by_cases e : k = q
    · subst e
      rw [if_pos rfl, if_pos hk] at hx
      cases hx
      exact World.cell?_setCell_same _ _ _ (h.at hk).1
    · rw [if_neg e] at hx
      rw [World.cell?_setCell_other _ _ _ _ (by intro e'; injection e' with _ e2; exact e (by omega))]
      exact (h q x hx).1
  · rw [World.frozen?_setCell]
    by_cases e : k = q
    · subst e; exact (h.at hk).2
    · rw [if_neg e] at hx; exact (h q x hx).2
theorem RowB.ints {w : World} {b n : Nat} {xs : List Nat} (h : RowB w b xs) (hl : xs.length = n) (hn : n ≤ 1048576) {S : Nat → Prop} (hS : S b) : IntsAt w S (some ⟨b, 0, none⟩) n (natI xs) :=
  ⟨by simp [natI, hl], by omega, fun _ => ⟨b, 0, rfl, hS, fun i x hx => by
    obtain ⟨y, rfl, hy⟩ := natI_get hx
    have := (h i y hy).1
    simpa using this⟩⟩
theorem getD_set_self {xs : List Nat} {k v : Nat} (h : k < xs.length) : (xs.set k v).getD k 0 = v := by simp [List.getD_eq_getElem?_getD, h]
theorem RowB.swap {w : World} {b : Nat} {xs : List Nat} (h : RowB w b xs) {i j : Nat} (hi : i < xs.length) (hj : j < xs.length) :
    RowB ((w.setCell ⟨b, i, none⟩ (.int .i64 ((xs.getD j 0 : Nat) : Int))).setCell ⟨b, j, none⟩ (.int .i64 ((xs.getD i 0 : Nat) : Int))) b (swN xs i j) :=
  (h.put hi (xs.getD j 0)).put (by simpa using hj) (xs.getD i 0)
end Go.Proofs.Ytmcongioghkdcab
namespace Go.Proofs.Ytmcongioghkdcab
open Go.RowKit Go.WideShapes

end Go.Proofs.Ytmcongioghkdcab
namespace Go.Proofs.Ytmcongioghkdcab
open Go.RowKit

-- A range over a function that writes memory of its own between its rounds, and whose rounds are never left: told by the number of rounds gone.
/-- all blocks from n on that W has are as they were -/
def KeepsUp (n : Nat) (W W' : World) : Prop := W.heap.size ≤ W'.heap.size ∧ ∀ b, n ≤ b → b < W.heap.size → W'.heap[b]? = W.heap[b]?
theorem KeepsUp.refl (n : Nat) (W : World) : KeepsUp n W W := ⟨Nat.le_refl _, fun _ _ _ => rfl⟩
theorem KeepsUp.trans {n : Nat} {A B C : World} (h : KeepsUp n A B) (g : KeepsUp n B C) : KeepsUp n A C :=
  ⟨Nat.le_trans h.1 g.1, fun b hb hlt => (g.2 b hb (Nat.lt_of_lt_of_le hlt h.1)).trans (h.2 b hb hlt)⟩
theorem KeepsUp.mono {n m : Nat} {A B : World} (h : KeepsUp n A B) (hm : n ≤ m) : KeepsUp m A B := ⟨h.1, fun b hb hlt => h.2 b (Nat.le_trans hm hb) hlt⟩
theorem KeepsUp.setCell (n : Nat) (W : World) {p : Addr} (hp : p.block < n) (v : Value) : KeepsUp n W (W.setCell p v) :=
  ⟨by simp [World.setCell], fun b hb _ => Below.heap_setCell _ _ _ _ (by omega)⟩
theorem KeepsUp.drew (n : Nat) (W : World) : KeepsUp n W W.drew := ⟨Nat.le_refl _, fun _ _ _ => rfl⟩
theorem KeepsUp.putObj {n l : Nat} (W : World) (h : l < n) (o : Obj) : KeepsUp n W (W.putObj l o) := ⟨by simp, fun b hb _ => World.putObj_heap_other (by omega)⟩
theorem below_putObj {n l : Nat} (W : World) (h : n ≤ l) (o : Obj) : Below n W (W.putObj l o) := ⟨rfl, rfl, rfl, by simp, fun k hk => World.putObj_heap_other (by omega)⟩

/-- how a round's body ends: what lies from n on is kept, and the invariant is carried on -/
def countPost (n : Nat) (R : World → Prop) (W : World) : Exit → Act → World → Prop
  | .normal, _, W' => KeepsUp n W W' ∧ R W'
  | _, _, _ => False
/-- the contract of a function that yields: S tells how many rounds there are, E what comes with which -/
def SeqCount {α : Type} (F : Fence) (n : Nat) (P : Program) (gf : Nat) (lb : Array Value) (enc : α → Value) (S : Nat → Prop) (E : Nat → Nat → α → World → Prop) (w : World) : Prop :=
  ∀ (l : Nat) (J : Nat → World → Prop) (W1 : World), Below w.heap.size w W1 → W1.heap.size = w.heap.size + 2 →
    (∀ k A B, J k A → Below W1.heap.size A B → J k B) →
    (∀ k x W, J k W → E W1.heap.size k x W → YieldAt F (n - 1) P l #[enc x] W fun e W' => e = .returned (.bool true) ∧ J (k + 1) W' ∧ KeepsUp W1.heap.size W W') →
    J 0 W1 → CallsIn F n P gf (#[.func (.yield l) #[] #[]] ++ lb) W1 fun e W' => (∃ v, e = .returned v) ∧ ∃ k, S k ∧ J k W'
theorem wpIn_rangeFunc_count {α : Type} {F : Fence} {n : Nat} {P : Program} {g : Operand} {ps : Array Tmp} {assign body : Code} {Q : Exit → Act → World → Prop} {a : Act} {w : World}
    (hro : F.round = none) (h1 : 1 ≤ n) {gf : Nat} {lb : Array Value} (hg : a.eval g = .func (.func gf) #[] lb) (hFg : F.fn gf) (eg : ∀ args w, (callFunc gf args).run P w = .ok (.enter gf args) w)
    {enc : α → Value} {S : Nat → Prop} {E : Nat → Nat → α → World → Prop} (hseq : SeqCount F (n - 1) P gf lb enc S E w) (hps : ps.size = 1)
    (hE : ∀ m k x A B, E m k x A → KeepsUp m A B → E m k x B)
    (I : Nat → World → Prop) (hI : ∀ k A B, I k A → Below w.heap.size A B → I k B) (h0 : I 0 w) (a₁ : α → Act)
    (hassign : ∀ (l : Nat) (x : α) (W : World) (K : Act → World → Prop), K (a₁ x) W →
      assign.wpIn (F.inRound l) (n - 1 - 1) P (Exit.then K (fun _ _ _ => False)) { tmps := (ps.zip #[enc x]).foldl (fun t (p, v) => t.setIfInBounds p v) a.tmps, defers := [] } W)
    (hbody : ∀ (l k : Nat) (x : α) (W : World), I k W → E (w.heap.size + 2) k x W → w.heap.size + 2 ≤ W.heap.size → body.wpIn (F.inRound l) (n - 1 - 1) P (countPost w.heap.size (I (k + 1)) W) (a₁ x) W)
    (hdone : ∀ (D k : Nat) (W : World), w.heap.size ≤ D → S k → I k W → W.heap[D]? = some (.deferred (some [])) → Q .normal { a with defers := { target := .collected D, args := #[] } :: a.defers } W) :
    (Code.rangeFunc g ps assign body).wpIn F n P Q a w := by
  refine wpIn_rangeFunc ?_
  intro fn hfn
  rw [hro]
  obtain ⟨rec, hrec⟩ : ∃ rec : LoopState → Loop, rec = fun st => { state := st, pending := none, fn, tmps := a.tmps, params := ps, assign, body, defers := w.heap.size } := ⟨_, rfl⟩
  obtain ⟨W1, hW1⟩ : ∃ W1, (w.alloc (.deferred (some []))).alloc (.loop (rec .ready)) = W1 := ⟨_, rfl⟩
  have hsz : W1.heap.size = w.heap.size + 2 := by rw [← hW1]; simp
  have hb1 : Below w.heap.size w W1 := by rw [← hW1]; exact ((Below.refl _ w).alloc (Nat.le_refl _) _).alloc (by simp) _
  have hL1 : W1.heap[w.heap.size + 1]? = some (.loop (rec .ready)) := by
    rw [← hW1]; have := World.alloc_heap_new (w.alloc (.deferred (some []))) (.loop (rec .ready)); rwa [World.size_alloc] at this
  have hK1 : W1.heap[w.heap.size]? = some (.deferred (some [])) := by
    rw [← hW1]; exact (Below.heap_alloc _ _ _ (by simp)).trans (World.alloc_heap_new w _)
  refine ⟨w.heap.size + 1, [{ target := .collected w.heap.size, args := #[] }], W1, { target := .fn (.func gf) lb, args := #[.func (.yield (w.heap.size + 1)) #[] #[]] }, W1, gf,
    #[.func (.yield (w.heap.size + 1)) #[] #[]] ++ lb, W1, ?_, ?_, ?_, ?_, fun _ => h1, ?_⟩
  · rw [← hW1, hrec]; exact run_enterLoop_outer _ _ _ _ _
  · simp only [resolve, hg]
    simp [go_sem]
  · intro f' hf'; simp [Target.leads] at hf'; subst hf'; exact hFg
  · simp [invoke, go_sem, eg]
  · refine (hseq (w.heap.size + 1)
      (fun k W => I k W ∧ W.heap[w.heap.size + 1]? = some (.loop (rec .ready)) ∧ W.heap[w.heap.size]? = some (.deferred (some [])))
      W1 hb1 hsz
      (fun k A B hs hb => ⟨hI k A B hs.1 (hb.mono (by omega)), (hb.block _ (by omega)).trans hs.2.1, (hb.block _ (by omega)).trans hs.2.2⟩)
      ?_ ⟨hI 0 _ _ h0 hb1, hL1, hK1⟩).mono ?_
    · rintro k x W ⟨hi, hl, hk⟩ he
      have hlt : w.heap.size + 1 < W.heap.size := (Array.getElem?_eq_some_iff.1 hl).1
      have hy := run_yield (P := P) (args := #[enc x]) hl (by rw [hrec]; exact hps.symm)
      rw [hrec] at hy
      refine ⟨fn, _, assign, body, hy, roundIn_of_wpIn hfn (hassign _ x W _ ⟨_, run_beginRound hl (by rw [hrec]), ?_⟩)⟩
      obtain ⟨W2, hW2⟩ : ∃ W2, W.putObj (w.heap.size + 1) (.loop { rec .ready with state := .busy }) = W2 := ⟨_, rfl⟩
      have hl2 : W2.heap[w.heap.size + 1]? = some (.loop { rec .ready with state := .busy }) := by rw [← hW2]; exact World.putObj_heap_same hlt
      have hk2 : W2.heap[w.heap.size]? = some (.deferred (some [])) := by rw [← hW2]; exact (World.putObj_heap_other (by omega)).trans hk
      have hs2 : W2.heap.size = W.heap.size := by rw [← hW2]; simp
      have hu2 : KeepsUp W1.heap.size W W2 := by rw [← hW2]; exact KeepsUp.putObj _ (by omega) _
      have hi2 : I k W2 := by rw [← hW2]; exact hI k _ _ hi (below_putObj _ (by omega) _)
      rw [hW2]
      refine wpIn_mono (hbody _ k x W2 hi2 (by rw [← hsz]; exact hE _ k x _ _ he hu2) (by omega)) ?_
      rintro e a3 W3 hp
      cases e with
      | normal =>
        obtain ⟨hu3, hi3⟩ := hp
        have hl3 := (hu3.2 _ (by omega) (by omega)).trans hl2
        have hr := run_endRound (P := P) none hl3
        have hlt3 : w.heap.size + 1 < W3.heap.size := (Array.getElem?_eq_some_iff.1 hl3).1
        refine ⟨_, _, hr, rfl, ⟨hI _ _ _ hi3 (below_putObj _ (by omega) _), ?_, (World.putObj_heap_other (by omega)).trans ((hu3.2 _ (by omega) (by omega)).trans hk2)⟩, hu2.trans ((hu3.mono (by omega)).trans (KeepsUp.putObj _ (by omega) _))⟩
        rw [World.putObj_heap_same hlt3, hrec]; rfl
      | ret => exact hp.elim
      | exit id => exact hp.elim
      | goto t => exact hp.elim
      | panic ch => exact hp.elim
      | outgrown => exact hp.elim
    · rintro e W2 ⟨⟨v, rfl⟩, k, hS, hi, hl, hk⟩
      exact ⟨none, _, by have := run_endLoop (P := P) hl (by rw [hrec]; simp); rw [hrec] at this; exact this, hdone _ k _ (Nat.le_refl _) hS (hI _ _ _ hi (below_putObj _ (by omega) _)) ((World.putObj_heap_other (by omega)).trans hk)⟩
end Go.Proofs.Ytmcongioghkdcab
namespace Go.Proofs.Ytmcongioghkdcab
open Go.RowKit Go.WideShapes

attribute [local go_sem] Oper.semAt_some

/-- what holds behind k rounds -/
structure LeastI (w : World) (n : Nat) (a : Option Addr) (len cap : Nat) (sp : Nat → Int) (k : Nat) (W : World) : Prop where
  below : Below w.heap.size w W
  jobs : W.cell? ⟨n, 0, none⟩ = some (.slice a len cap)
  least : W.cell? ⟨n + 1, 0, none⟩ = some (.int .i64 (lstT sp k))
  free : W.frozen? ⟨n + 1, 0, none⟩ = false
theorem LeastI.later {w : World} {n : Nat} {a : Option Addr} {len cap : Nat} {sp : Nat → Int} {k m : Nat} {A B : World} (h : LeastI w n a len cap sp k A) (hb : Below m A B) (hm : n + 2 ≤ m) (hw : w.heap.size ≤ n) : LeastI w n a len cap sp k B :=
  ⟨h.below.trans (hb.mono (by omega)), (hb.cell (p := ⟨n, 0, none⟩) (by show n < m; omega)).trans h.jobs, (hb.cell (p := ⟨n + 1, 0, none⟩) (by show n + 1 < m; omega)).trans h.least, by
    rw [World.frozen?_of_block (w := A) (hb.block (n + 1) (by omega))]; exact h.free⟩
def encS (x : Option Addr × Nat × Nat) : Value := .slice x.1 x.2.1 x.2.2
/-- the one order that comes -/
def OneE (a2 : Option Addr) (len2 cap2 : Nat) (T : Nat → Prop) (o : List Int) (_ k : Nat) (x : Option Addr × Nat × Nat) (W : World) : Prop := k = 0 ∧ x = (a2, len2, cap2)
end Go.Proofs.Ytmcongioghkdcab
namespace Go.Proofs.Ytmcongioghkdcab
open Go.RowKit Go.WideShapes

/-- what SpanTried answers -/
def triedFine (rows : List (List Int)) : Bool := pairsM rows && decide (rows.length ≤ 5)
def triedRes (rows : List (List Int)) : Int := if triedFine rows then fromT (ta rows) (tb rows) rows.length rows.length [] else -1
theorem triedRes_no {rows : List (List Int)} (h : triedFine rows = false) : triedRes rows = -1 := by unfold triedRes; rw [h]; rfl
theorem triedRes_yes {rows : List (List Int)} (h : triedFine rows = true) : triedRes rows = fromT (ta rows) (tb rows) rows.length rows.length [] := by unfold triedRes; rw [h]; rfl
end Go.Proofs.Ytmcongioghkdcab
namespace Go.Proofs.Ytmcongioghkdcab
open Go.RowKit Go.WideShapes

attribute [local go_sem] Oper.semAt_some

/-- a loop told by a number that falls, and that no slot holds -/
theorem wpIn_loop_ghost {F : Fence} {n : Nat} {P : Program} {Q : Exit → Act → World → Prop} {c : Code} (J : Nat → Act → World → Prop)
    (round : ∀ k a w, J k a w → c.wpIn F n P (Exit.then (fun a' w' => ∃ k', k' < k ∧ J k' a' w') Q) a w) {m : Nat} {a : Act} {w : World} (h0 : J m a w) : (Code.loop c).wpIn F n P Q a w := by
  refine wpIn_loop_rounds (m + 1) ?_
  have key : ∀ (m k : Nat) (a : Act) (w : World), k < m → J k a w → Code.roundsIn F n P c Q m a w := by
    intro m
    induction m with
    | zero => intro k a w h; omega
    | succ m ih =>
      intro k a w h hJ
      refine wpIn_mono (round k a w hJ) ?_
      intro e a' w' hq
      cases e with
      | normal => obtain ⟨k', hk, hJ'⟩ := hq; exact ih k' a' w' (by omega) hJ'
      | _ => exact hq
  exact key (m + 1) m a w (by omega) h0
set_option maxHeartbeats 1000000 in
theorem firstOrder_any (n : Nat) (w : World) (hn : n ≤ 8) :
    Calls Try.prog 45 #[.int .i64 n] w fun e w' => e = .returned (.slice (some ⟨w.heap.size, 0, none⟩) n n) ∧ OwnF w w' n (fun q => (q : Int)) := by
  have hmk := fun w => run_make_row' (P := Try.prog) 24 3 (.int .i64 0) 8 Try.underlying24 Try.infoIntOB rfl .i64 .i64 n (by omega) (by omega) w
  go_enter Try.func45, Try.ntmps45
  go_wp2_with fail
  clear hmk
  go_loopw [9] (fun i wr => ∃ k : Nat, k ≤ n ∧ i = .int .i64 k ∧ OwnF w wr n (fun q => if q < k then (q : Int) else 0)) (fun i _ => n - (intOf i).toNat)
  case atStart => exact ⟨0, Nat.zero_le _, rfl, (OwnF.start w n (by omega)).congr (fun q _ => by rw [if_neg (by omega)])⟩
  case round =>
    obtain ⟨k, hk, rfl, hC⟩ := hrel
    by_cases hlt : k < n
    · obtain ⟨c1, f1⟩ := hC.cell hlt
      have HC := Lib.hid hC
      have hkn : (k : Int) < (n : Int) := by omega
      clear hC
      go_wp2_with fail
      go_roundw
      case rel => exact ⟨k + 1, by omega, by go_num, (HC.out.put k _).congr (fun q hq => by
        by_cases e : q = k
        · subst e; rw [if_pos rfl, if_pos (by omega)]
        · rw [if_neg e]
          by_cases e2 : q < k
          · rw [if_pos e2, if_pos (by omega)]
          · rw [if_neg e2, if_neg (by omega)])⟩
      case measure => simp [intOf] <;> omega
    · have HC := Lib.hid (hC.congr (g := fun q => (q : Int)) (fun q hq => by rw [if_pos (by omega)]))
      clear hC
      go_wp2_with fail
      go_ret
      exact ⟨rfl, HC.out⟩
theorem OwnF.rowB {w w' : World} {n : Nat} (h : OwnF w w' n (fun q => (q : Int))) : RowB w' w.heap.size (List.range n) := by
  intro q x hx
  have hq : q < n := by have := (List.getElem?_eq_some_iff.1 hx).1; simpa using this
  rw [List.getElem?_range hq] at hx
  cases hx
  exact h.cell hq
end Go.Proofs.Ytmcongioghkdcab
namespace Go.Proofs.Ytmcongioghkdcab
open Go.RowKit Go.WideShapes

theorem resC_low {w w2 w' : World} {xs : List Int} {e : Ending} (hb : Below w.heap.size w w2) (h : ResPostC w2 xs e w') : ResPostC w xs e w' := by
  obtain ⟨a, l, c, h1, h2, h3, h4, h5⟩ := h
  have hz := hb.size
  exact ⟨a, l, c, h1, h2.to (fun b hb => ⟨⟨Nat.le_trans hz hb.1, hb.2⟩, rfl⟩), h3.to (fun b hb => ⟨⟨Nat.le_trans hz hb.1, hb.2⟩, rfl⟩), h4, hb.trans (h5.mono hz)⟩
/-- less, the same, more -/
def cc6 (p q : Int) : Int := if p < q then -1 else if q < p then 1 else 0
theorem cc6_lt {p q : Int} : cc6 p q < 0 ↔ p < q := by
  unfold cc6; split
  · omega
  · split <;> omega
theorem isNaN6_any (p : Int) (w : World) : Calls Try.prog 55 #[.int .i64 p] w fun e w' => e = .returned (.bool false) ∧ w = w' := by
  have h1 : (p != p) = false := by simp
  go_enter Try.func55, Try.ntmps55
  go_wp2_with fail
  go_ret
  exact ⟨rfl, rfl⟩
theorem compare6_any (p q : Int) (w : World) : Calls Try.prog 48 #[.int .i64 p, .int .i64 q] w fun e w' => e = .returned (.int .i64 (cc6 p q)) ∧ w = w' := by
  by_cases h1 : p < q
  · have HC := Lib.hid (show cc6 p q = -1 from if_pos h1)
    go_enter Try.func48, Try.ntmps48
    go_wp2_with (go_at_call 55; refine (isNaN6_any _ _).mono ?_; rintro e w' ⟨rfl, rfl⟩)
    go_ret
    exact ⟨ret_int HC.out.symm, rfl⟩
  · by_cases h2 : q < p
    · have HC := Lib.hid (show cc6 p q = 1 by unfold cc6; rw [if_neg h1, if_pos h2])
      go_enter Try.func48, Try.ntmps48
      go_wp2_with (go_at_call 55; refine (isNaN6_any _ _).mono ?_; rintro e w' ⟨rfl, rfl⟩)
      go_ret
      exact ⟨ret_int HC.out.symm, rfl⟩
    · have HC := Lib.hid (show cc6 p q = 0 by unfold cc6; rw [if_neg h1, if_neg h2])
      go_enter Try.func48, Try.ntmps48
      go_wp2_with (go_at_call 55; refine (isNaN6_any _ _).mono ?_; rintro e w' ⟨rfl, rfl⟩)
      go_ret
      exact ⟨ret_int HC.out.symm, rfl⟩
/-- how a rule compares two jobs -/
def CmpIs (f : Nat) (ah : Int → Int → Int → Int → Int → Int → Bool) : Prop := ∀ (t v d t' v' d' : Int) (w : World), 0 ≤ t ∧ t ≤ 9 → 0 ≤ v ∧ v ≤ 9 → 0 ≤ d ∧ d ≤ 60 → 0 ≤ t' ∧ t' ≤ 9 → 0 ≤ v' ∧ v' ≤ 9 → 0 ≤ d' ∧ d' ≤ 60 →
  ∃ cv : Int, (cv < 0 ↔ ah t v d t' v' d' = true) ∧ Calls Try.prog f #[.agg #[.int .i64 t, .int .i64 v, .int .i64 d], .agg #[.int .i64 t', .int .i64 v', .int .i64 d']] w fun e w' => e = .returned (.int .i64 cv) ∧ Below w.heap.size w w'
theorem byWait_any : CmpIs 44 (fun t v _ t' v' _ => decide (v' * t < v * t')) := by
  intro t v d t' v' d' w ht hv hd ht' hv' hd'
  have p1 : 0 ≤ v' * t ∧ v' * t ≤ 9 * 9 := ⟨Int.mul_nonneg hv'.1 ht.1, Int.mul_le_mul hv'.2 ht.2 ht.1 (by omega)⟩
  have p2 : 0 ≤ v * t' ∧ v * t' ≤ 9 * 9 := ⟨Int.mul_nonneg hv.1 ht'.1, Int.mul_le_mul hv.2 ht'.2 ht'.1 (by omega)⟩
  refine ⟨cc6 (v' * t) (v * t'), by rw [cc6_lt, decide_eq_true_iff], ?_⟩
  have HC := Lib.hid (fun w => compare6_any (v' * t) (v * t') w)
  generalize cc6 (v' * t) (v * t') = cv at *
  go_enter Try.func44, Try.ntmps44
  go_wp2_with fail
  refine (HC.out _).mono ?_
  rintro e w' ⟨rfl, rfl⟩
  go_wp2_with fail
  go_ret
  exact ⟨rfl, ((Below.refl _ w).alloc (Nat.le_refl _) _).alloc (by simp) _⟩
theorem byDue_any : CmpIs 34 (fun _ _ d _ _ d' => decide (d < d')) := by
  intro t v d t' v' d' w ht hv hd ht' hv' hd'
  refine ⟨cc6 d d', by rw [cc6_lt, decide_eq_true_iff], ?_⟩
  have HC := Lib.hid (fun w => compare6_any d d' w)
  generalize cc6 d d' = cv at *
  go_enter Try.func34, Try.ntmps34
  go_wp2_with fail
  refine (HC.out _).mono ?_
  rintro e w' ⟨rfl, rfl⟩
  go_wp2_with fail
  go_ret
  exact ⟨rfl, ((Below.refl _ w).alloc (Nat.le_refl _) _).alloc (by simp) _⟩
end Go.Proofs.Ytmcongioghkdcab
