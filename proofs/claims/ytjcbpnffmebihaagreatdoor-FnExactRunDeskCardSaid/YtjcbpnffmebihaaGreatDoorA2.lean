import Derived.Test.YtjcbpnffmebihaaGreatDoorA1
import Derived.Test.YtjcbpnffmebihaaGreatDoorRows
import Derived.WalkKit
import Derived.ProofKit
import Derived.Lib.Hide
import Derived.Deep.AppendLies
import Derived.Lib.Split
import Derived.Lib.Join
import Derived.Lib.AtoiAll
import Derived.Lib.ItoaNum
import Derived.Lib.ItoaMem
import Derived.Lib.CountLaws
import Derived.Lib.SplitLaws
import Derived.Lib.IndexBytes
import Derived.Lib.IndexLaws
namespace Go.Proofs.YtjcbpnffmebihaaGreatDoor

-- shops (plain): m the machine, p the time of a job's step
def setN {α : Type} (f : Nat → α) (j : Nat) (v : α) : Nat → α := fun i => if i = j then v else f i
theorem setN_at {α : Type} (f : Nat → α) (j : Nat) (v : α) : setN f j v j = v := if_pos rfl
theorem setN_ne {α : Type} (f : Nat → α) {i j : Nat} (v : α) (h : i ≠ j) : setN f j v i = f i := if_neg h
/-- what is known behind some turns: the next step of each job, when steps began, when jobs and machines are free, when all is done, and the steps done, in their order -/
structure ShopS where
  nx : Nat → Nat
  b : Nat → Nat → Int
  rd : Nat → Int
  fr : Nat → Int
  all : Int
  done : List (Nat × Nat)
/-- when the next step of job j begins -/
def beginS (m : Nat → Nat → Nat) (s : ShopS) (j : Nat) : Int := max (s.rd j) (s.fr (m j (s.nx j)))
def turnS (m : Nat → Nat → Nat) (p : Nat → Nat → Int) (s : ShopS) (j : Nat) : ShopS :=
  ⟨setN s.nx j (s.nx j + 1), setN s.b j (setN (s.b j) (s.nx j) (beginS m s j)), setN s.rd j (beginS m s j + p j (s.nx j)), setN s.fr (m j (s.nx j)) (beginS m s j + p j (s.nx j)),
   max s.all (beginS m s j + p j (s.nx j)), s.done ++ [(j, s.nx j)]⟩
/-- the times of some steps on a machine -/
def onM (m : Nat → Nat → Nat) (p : Nat → Nat → Int) (M : Nat) : List (Nat × Nat) → Int
  | [] => 0
  | x :: l => (if m x.1 x.2 = M then p x.1 x.2 else 0) + onM m p M l
theorem onM_append (m : Nat → Nat → Nat) (p : Nat → Nat → Int) (M : Nat) (l k : List (Nat × Nat)) : onM m p M (l ++ k) = onM m p M l + onM m p M k := by
  induction l with
  | nil => simp [onM]
  | cons x l ih => rw [List.cons_append, onM, onM, ih]; omega
/-- the times of the first steps of a job -/
def stepsTo (p : Nat → Nat → Int) (j : Nat) : Nat → Int
  | 0 => 0
  | k + 1 => stepsTo p j k + p j k
structure ShopI (m : Nat → Nat → Nat) (p : Nat → Nat → Int) (s : ShopS) : Prop where
  nn : 0 ≤ s.all ∧ (∀ j, 0 ≤ s.rd j) ∧ (∀ M, 0 ≤ s.fr M)
  pos : ∀ j k, k < s.nx j → 0 ≤ s.b j k
  last : ∀ j k, k < s.nx j → s.b j k + p j k ≤ s.rd j
  work : ∀ j, stepsTo p j (s.nx j) ≤ s.rd j
  chain : ∀ j k, k + 1 < s.nx j → s.b j k + p j k ≤ s.b j (k + 1)
  free : ∀ j k, k < s.nx j → s.b j k + p j k ≤ s.fr (m j k)
  mach : ∀ M, onM m p M s.done ≤ s.fr M
  upR : ∀ j, s.rd j ≤ s.all
  upF : ∀ M, s.fr M ≤ s.all
  is : s.all = 0 ∨ ∃ j k, k < s.nx j ∧ s.all = s.b j k + p j k
  apart : ∀ j k i h, k < s.nx j → h < s.nx i → (j, k) ≠ (i, h) → m j k = m i h → s.b j k + p j k ≤ s.b i h ∨ s.b i h + p i h ≤ s.b j k
  mem : ∀ j k, (j, k) ∈ s.done ↔ k < s.nx j
  nod : s.done.Nodup
theorem ShopI.turn {m : Nat → Nat → Nat} {p : Nat → Nat → Int} (hp : ∀ j k, 0 ≤ p j k) {s : ShopS} (h : ShopI m p s) (j : Nat) : ShopI m p (turnS m p s j) := by
  have ht1 : s.rd j ≤ beginS m s j := by unfold beginS; omega
  have ht2 : s.fr (m j (s.nx j)) ≤ beginS m s j := by unfold beginS; omega
  have ht3 : beginS m s j ≤ s.all := by unfold beginS; have := h.upR j; have := h.upF (m j (s.nx j)); omega
  have ht0 := h.nn.2.1 j
  have hpj := hp j (s.nx j)
  generalize hT : beginS m s j = t at ht1 ht2 ht3
  have e : turnS m p s j = ⟨setN s.nx j (s.nx j + 1), setN s.b j (setN (s.b j) (s.nx j) t), setN s.rd j (t + p j (s.nx j)), setN s.fr (m j (s.nx j)) (t + p j (s.nx j)), max s.all (t + p j (s.nx j)), s.done ++ [(j, s.nx j)]⟩ := by
    unfold turnS; rw [hT]
  rw [e]
  clear e hT
  have hb : ∀ i k, (i = j ∧ k = s.nx j ∧ setN s.b j (setN (s.b j) (s.nx j) t) i k = t) ∨ (¬ (i = j ∧ k = s.nx j) ∧ setN s.b j (setN (s.b j) (s.nx j) t) i k = s.b i k) := by
    intro i k
    by_cases hi : i = j
    · subst hi
      rw [setN_at]
      by_cases hk : k = s.nx i
      · subst hk; exact .inl ⟨rfl, rfl, setN_at _ _ _⟩
      · exact .inr ⟨fun h => hk h.2, setN_ne _ _ hk⟩
    · rw [setN_ne _ _ hi]; exact .inr ⟨fun h => hi h.1, rfl⟩
  have hn : ∀ i k, k < setN s.nx j (s.nx j + 1) i ↔ k < s.nx i ∨ (i = j ∧ k = s.nx j) := by
    intro i k
    by_cases hi : i = j
    · subst hi; rw [setN_at]; constructor
      · intro h; omega
      · rintro (h | h) <;> omega
    · rw [setN_ne _ _ hi]; constructor
      · exact .inl
      · rintro (h | h)
        · exact h
        · exact absurd h.1 hi
  have hr : ∀ i, setN s.rd j (t + p j (s.nx j)) i = if i = j then t + p j (s.nx j) else s.rd i := fun _ => rfl
  have hf : ∀ M, setN s.fr (m j (s.nx j)) (t + p j (s.nx j)) M = if M = m j (s.nx j) then t + p j (s.nx j) else s.fr M := fun _ => rfl
  refine ⟨⟨?_, fun i => ?_, fun M => ?_⟩, fun i k hk => ?_, fun i k hk => ?_, fun i => ?_, fun i k hk => ?_, fun i k hk => ?_, fun M => ?_, fun i => ?_, fun M => ?_, ?_, fun i k i' k' hk hk' hne hm => ?_, fun i k => ?_, ?_⟩
  · show 0 ≤ max s.all _; have := h.nn.1; omega
  · show 0 ≤ setN s.rd j _ i; rw [hr]; split
    · omega
    · exact h.nn.2.1 i
  · show 0 ≤ setN s.fr _ _ M; rw [hf]; split
    · omega
    · exact h.nn.2.2 M
  · show 0 ≤ setN s.b j _ i k
    rcases hb i k with ⟨_, _, e⟩ | ⟨hn', e⟩
    · rw [e]; omega
    · rw [e]; rcases (hn i k).1 hk with h1 | h1
      · exact h.pos i k h1
      · exact absurd h1 hn'
  · show setN s.b j _ i k + p i k ≤ setN s.rd j _ i
    rw [hr]
    rcases hb i k with ⟨e1, e2, e⟩ | ⟨hn', e⟩
    · rw [e, e1, e2, if_pos rfl]; exact Int.le_refl _
    · rw [e]; rcases (hn i k).1 hk with h1 | h1
      · have := h.last i k h1
        split
        · rename_i e3; subst e3; omega
        · exact this
      · exact absurd h1 hn'
  · show stepsTo p i (setN s.nx j _ i) ≤ setN s.rd j _ i
    rw [hr]
    by_cases hi : i = j
    · subst hi; rw [setN_at, if_pos rfl, stepsTo]; have := h.work i; omega
    · rw [setN_ne _ _ hi, if_neg hi]; exact h.work i
  · show setN s.b j _ i k + p i k ≤ setN s.b j _ i (k + 1)
    have hk1 : k < s.nx i := by
      rcases (hn i (k + 1)).1 hk with h1 | ⟨h1, h2⟩
      · omega
      · subst h1; omega
    rcases hb i k with ⟨e1, e2, _⟩ | ⟨_, ek⟩
    · subst e1; omega
    · rw [ek]
      rcases hb i (k + 1) with ⟨e1, e2, e3⟩ | ⟨hn', e3⟩
      · rw [e3]; subst e1; have := h.last i k hk1; omega
      · rw [e3]; rcases (hn i (k + 1)).1 hk with h1 | h1
        · exact h.chain i k h1
        · exact absurd h1 hn'
  · show setN s.b j _ i k + p i k ≤ setN s.fr _ _ (m i k)
    rw [hf]
    rcases hb i k with ⟨e1, e2, e⟩ | ⟨hn', e⟩
    · rw [e, e1, e2, if_pos rfl]; exact Int.le_refl _
    · rw [e]; rcases (hn i k).1 hk with h1 | h1
      · have := h.free i k h1
        split
        · rename_i e3; rw [e3] at this; omega
        · exact this
      · exact absurd h1 hn'
  · show onM m p M (s.done ++ [(j, s.nx j)]) ≤ setN s.fr _ _ M
    rw [hf, onM_append]
    show onM m p M s.done + ((if m j (s.nx j) = M then p j (s.nx j) else 0) + 0) ≤ _
    have := h.mach M
    by_cases e : M = m j (s.nx j)
    · rw [if_pos e, if_pos e.symm]; rw [e] at this ⊢; omega
    · rw [if_neg e, if_neg (fun e' => e e'.symm)]; omega
  · show setN s.rd j _ i ≤ max s.all _
    rw [hr]; have := h.upR i; split <;> omega
  · show setN s.fr _ _ M ≤ max s.all _
    rw [hf]; have := h.upF M; split <;> omega
  · show max s.all (t + p j (s.nx j)) = 0 ∨ ∃ i k, k < setN s.nx j _ i ∧ max s.all (t + p j (s.nx j)) = setN s.b j _ i k + p i k
    by_cases hle : s.all ≤ t + p j (s.nx j)
    · refine .inr ⟨j, s.nx j, (hn j _).2 (.inr ⟨rfl, rfl⟩), ?_⟩
      rcases hb j (s.nx j) with ⟨_, _, e⟩ | ⟨hn', _⟩
      · rw [e]; omega
      · exact absurd ⟨rfl, rfl⟩ hn'
    · rcases h.is with h0 | ⟨i, k, hk, e⟩
      · omega
      · refine .inr ⟨i, k, (hn i k).2 (.inl hk), ?_⟩
        rcases hb i k with ⟨e1, e2, _⟩ | ⟨_, e3⟩
        · subst e1; omega
        · rw [e3]; omega
  · show setN s.b j _ i k + p i k ≤ setN s.b j _ i' k' ∨ setN s.b j _ i' k' + p i' k' ≤ setN s.b j _ i k
    rcases hb i k with ⟨e1, e2, e⟩ | ⟨hn1, e⟩
    · rcases hb i' k' with ⟨f1, f2, f⟩ | ⟨hn2, f⟩
      · exact absurd (by rw [e1, e2, f1, f2]) hne
      · rcases (hn i' k').1 hk' with h1 | h1
        · right; rw [e, f]; have := h.free i' k' h1; rw [← hm, e1, e2] at this; omega
        · exact absurd h1 hn2
    · rcases (hn i k).1 hk with h1 | h1
      · rcases hb i' k' with ⟨f1, f2, f⟩ | ⟨hn2, f⟩
        · left; rw [e, f]; have := h.free i k h1; rw [hm, f1, f2] at this; omega
        · rcases (hn i' k').1 hk' with h2 | h2
          · rw [e, f]; exact h.apart i k i' k' h1 h2 hne hm
          · exact absurd h2 hn2
      · exact absurd h1 hn1
  · show (i, k) ∈ s.done ++ [(j, s.nx j)] ↔ k < setN s.nx j _ i
    rw [hn, List.mem_append, h.mem, List.mem_singleton, Prod.mk.injEq]
  · exact (List.perm_append_singleton _ _).symm.nodup (List.nodup_cons.2 ⟨fun hm => by have := (h.mem j (s.nx j)).1 hm; omega, h.nod⟩)
end Go.Proofs.YtjcbpnffmebihaaGreatDoor
namespace Go.Proofs.YtjcbpnffmebihaaGreatDoor
open Go.RowKit Go.WideShapes

-- blocks, whole
theorem heap_set {w : World} {b i : Nat} {cs : Array Value} {t : TypeId} {fr : Nat × Nat} (h : w.heap[b]? = some (.cells cs t fr)) (v : Value) :
    (w.setCell ⟨b, i, none⟩ v).heap[b]? = some (.cells (cs.setIfInBounds i v) t fr) := by
  simp [World.setCell, Array.getElem?_modify, h]
theorem heap_set_ne {w : World} {b c i : Nat} (h : c ≠ b) (v : Value) : (w.setCell ⟨b, i, none⟩ v).heap[c]? = w.heap[c]? := Below.heap_setCell _ _ _ _ h
theorem frozen_row {w : World} {b : Nat} {cs : Array Value} {t : TypeId} (h : w.heap[b]? = some (.cells cs t (0, 0))) (i : Nat) : w.frozen? ⟨b, i, none⟩ = false := by
  simp [World.frozen?, h]
theorem ne_type {w : World} {b c : Nat} {cs ds : Array Value} {t u : TypeId} {fr gr : Nat × Nat} (h : w.heap[b]? = some (.cells cs t fr)) (g : w.heap[c]? = some (.cells ds u gr)) (hn : t ≠ u) : b ≠ c := by
  rintro rfl
  rw [h] at g
  simp only [Option.some.injEq, Obj.cells.injEq] at g
  exact hn g.2.1
theorem lt_heap {w : World} {b : Nat} {o : Obj} (h : w.heap[b]? = some o) : b < w.heap.size := (Array.getElem?_eq_some_iff.1 h).1

def tabV (f : Nat → Value) (n : Nat) : Array Value := ((List.range n).map f).toArray
theorem tabV_get (f : Nat → Value) {n j : Nat} (h : j < n) : (tabV f n)[j]? = some (f j) := by simp [tabV, h]
theorem tabV_congr {f g : Nat → Value} {n : Nat} (h : ∀ j, j < n → f j = g j) : tabV f n = tabV g n := by
  unfold tabV
  rw [List.map_congr_left fun j hj => h j (List.mem_range.1 hj)]
theorem tabV_set (f : Nat → Value) (n j : Nat) (v : Value) : (tabV f n).setIfInBounds j v = tabV (setN f j v) n := by
  apply Array.ext_getElem?
  intro i
  rw [Array.getElem?_setIfInBounds]
  by_cases hi : i < n
  · rw [tabV_get _ hi, tabV_get _ hi]
    by_cases e : j = i
    · subst e; rw [if_pos rfl, setN_at, if_pos (by simp [tabV, hi])]
    · rw [if_neg e, setN_ne _ _ (fun h => e h.symm)]
  · have h1 : (tabV f n)[i]? = none := by simp [tabV]; omega
    have h2 : (tabV (setN f j v) n)[i]? = none := by simp [tabV]; omega
    rw [h1, h2]
    split
    · rw [if_neg (by simp [tabV]; omega)]
    · rfl
end Go.Proofs.YtjcbpnffmebihaaGreatDoor
namespace Go.Proofs.YtjcbpnffmebihaaGreatDoor
open Go.RowKit Go.WideShapes

-- rolls in memory: a box with their length and what is cut from each, all of it in blocks from B on
structure RollsW {α : Type} (enc : α → List Value) (sz : Nat) (TR TS TC : TypeId) (w : World) (B r : Nat) (R : Int) (v : Value) (vs : List Value) (rows : List (List α)) : Prop where
  box : w.heap[r]? = some (.cells #[.int .i64 R, v] TR (0, 0))
  outer : w.ownsRow B TS 1 v rows.length vs
  row : ∀ i u, vs[i]? = some u → w.ownsRow B TC sz u (rows.getD i []).length ((rows.getD i []).flatMap enc)
  sep : ∀ (i j : Nat) (u u' : Value), vs[i]? = some u → vs[j]? = some u' → i ≠ j → u.ownBlock = none ∨ u.ownBlock ≠ u'.ownBlock
/-- all blocks below H are as they were, but for those of Q -/
structure BelowQ (Q : Nat → Prop) (H : Nat) (w w' : World) : Prop where
  os : w'.os = w.os
  tape : w'.tape = w.tape
  output : w'.output = w.output
  size : w.heap.size ≤ w'.heap.size
  block : ∀ k, k < H → ¬ Q k → w'.heap[k]? = w.heap[k]?
theorem BelowQ.refl (Q : Nat → Prop) (H : Nat) (w : World) : BelowQ Q H w w := ⟨rfl, rfl, rfl, Nat.le_refl _, fun _ _ _ => rfl⟩
theorem BelowQ.trans {Q : Nat → Prop} {H : Nat} {a b c : World} (h : BelowQ Q H a b) (k : BelowQ Q H b c) : BelowQ Q H a c :=
  ⟨k.os.trans h.os, k.tape.trans h.tape, k.output.trans h.output, Nat.le_trans h.size k.size, fun i hi hr => (k.block i hi hr).trans (h.block i hi hr)⟩
theorem BelowQ.alloc {Q : Nat → Prop} {H : Nat} {a w : World} (h : BelowQ Q H a w) (hB : H ≤ w.heap.size) (o : Obj) : BelowQ Q H a (w.alloc o) :=
  h.trans ⟨rfl, rfl, rfl, by simp, fun k hk _ => Below.heap_alloc _ _ _ (by omega)⟩
theorem BelowQ.grown {Q : Nat → Prop} {H : Nat} {a w w' : World} {row : Option Nat} (h : BelowQ Q H a w) (hg : w.grownBy w' row) (hB : H ≤ w.heap.size) (hr : ∀ k, row = some k → Q k ∨ H ≤ k) : BelowQ Q H a w' :=
  h.trans ⟨hg.os, hg.tape, hg.output, hg.size, fun k hk hq => hg.block k (by omega) (fun e => by rcases hr k e.symm with g | g; exact hq g; omega)⟩
theorem BelowQ.setCell {Q : Nat → Prop} {H : Nat} {a w : World} (h : BelowQ Q H a w) {p : Addr} (hp : Q p.block ∨ H ≤ p.block) (u : Value) : BelowQ Q H a (w.setCell p u) :=
  h.trans ⟨rfl, rfl, rfl, by simp [World.setCell], fun k hk hq => Below.heap_setCell _ _ _ _ (fun e => by rcases hp with g | g; exact hq (e ▸ g); omega)⟩
theorem own_keep {w w' : World} {B : Nat} {e : TypeId} {size : Nat} {v : Value} {n : Nat} {xs : List Value} (h : w.ownsRow B e size v n xs) (hg : ∀ b, v.ownBlock = some b → B ≤ b → b < w.heap.size → w'.heap[b]? = w.heap[b]?) : w'.ownsRow B e size v n xs := by
  refine ⟨h.1, ?_⟩
  rcases h.2 with hn | ⟨g, cap, cur, rfl, hb, hgg, rest⟩
  · exact .inl hn
  · exact .inr ⟨g, cap, cur, rfl, hb, (hg g rfl hb (Array.getElem?_eq_some_iff.1 hgg).1).trans hgg, rest⟩
theorem own_kind {w : World} {B : Nat} {e : TypeId} {size : Nat} {v : Value} {n : Nat} {xs : List Value} (h : w.ownsRow B e size v n xs) {g : Nat} (hg : v.ownBlock = some g) : ∃ c, w.heap[g]? = some (.cells c e (0, 0)) := by
  rcases h.2 with ⟨rfl, _⟩ | ⟨g', cap, cur, rfl, _, hgg, _⟩
  · simp [Value.ownBlock] at hg
  · simp [Value.ownBlock] at hg
    subst hg
    exact ⟨cur, hgg⟩
theorem own_cut {w : World} {B : Nat} {e : TypeId} {size : Nat} {a : Option Addr} {n c : Nat} {xs : List Value} (h : w.ownsRow B e size (.slice a n c) n xs) {k : Nat} (hk : k ≤ n) : w.ownsRow B e size (.slice a k c) k (xs.take (k * size)) := by
  have hle : k * size ≤ n * size := Nat.mul_le_mul_right _ hk
  refine ⟨by rw [List.length_take, h.1]; omega, ?_⟩
  rcases h.2 with ⟨hv, rfl⟩ | ⟨g, cap, cur, hv, hb, hgg, hnc, hcm, hcs, htake⟩
  · injection hv with h1 h2 h3
    exact .inl ⟨by rw [h1, h3, Nat.le_zero.1 hk], by omega⟩
  · injection hv with h1 h2 h3
    exact .inr ⟨g, cap, cur, by rw [h1, h3], hb, hgg, by omega, hcm, hcs, by rw [← htake, List.take_take, Nat.min_eq_left hle]⟩
theorem getD_set_row {α : Type} {rows : List (List α)} {i j : Nat} {x : List α} (hi : i < rows.length) : (rows.set i x).getD j [] = if j = i then x else rows.getD j [] := by
  rw [List.getD_eq_getElem?_getD, List.getD_eq_getElem?_getD, List.getElem?_set]
  by_cases h : i = j
  · subst h; rw [if_pos rfl, if_pos rfl, if_pos hi]; rfl
  · rw [if_neg h, if_neg (fun e => h e.symm)]
section
variable {α : Type} {enc : α → List Value} {sz : Nat} {TR TS TC : TypeId} {w w' : World} {B r : Nat} {R : Int} {v : Value} {vs : List Value} {rows : List (List α)}
theorem RollsW.keep (h : RollsW enc sz TR TS TC w B r R v vs rows) (hg : ∀ b, (B ≤ b ∨ b = r) → b < w.heap.size → w'.heap[b]? = w.heap[b]?) : RollsW enc sz TR TS TC w' B r R v vs rows :=
  ⟨(hg _ (.inr rfl) (lt_heap h.box)).trans h.box, own_keep h.outer fun b _ h1 h2 => hg b (.inl h1) h2, fun i u hu => own_keep (h.row i u hu) fun b _ h1 h2 => hg b (.inl h1) h2, h.sep⟩
theorem RollsW.lenV (h : RollsW enc sz TR TS TC w B r R v vs rows) : vs.length = rows.length := by simpa using h.outer.1
theorem RollsW.cells (h : RollsW enc sz TR TS TC w B r R v vs rows) : w.cell? ⟨r, 0, none⟩ = some (.int .i64 R) ∧ w.cell? ⟨r, 1, none⟩ = some v ∧ ∀ i, w.frozen? ⟨r, i, none⟩ = false := by
  refine ⟨?_, ?_, frozen_row h.box⟩ <;> rw [cell_of_row _ _ _ _ _ _ h.box] <;> rfl
theorem RollsW.box_ne_outer (h : RollsW enc sz TR TS TC w B r R v vs rows) (h1 : TR ≠ TS) : v.ownBlock ≠ some r := fun e => by
  obtain ⟨c, hc⟩ := own_kind h.outer e
  exact ne_type h.box hc h1 rfl
theorem RollsW.box_ne_row (h : RollsW enc sz TR TS TC w B r R v vs rows) (h1 : TR ≠ TC) {i : Nat} {u : Value} (hu : vs[i]? = some u) : u.ownBlock ≠ some r := fun e => by
  obtain ⟨c, hc⟩ := own_kind (h.row i u hu) e
  exact ne_type h.box hc h1 rfl
theorem RollsW.row_ne_outer (h : RollsW enc sz TR TS TC w B r R v vs rows) (h1 : TS ≠ TC) {i : Nat} {u : Value} (hu : vs[i]? = some u) : u.ownBlock = none ∨ u.ownBlock ≠ v.ownBlock := by
  cases e : u.ownBlock with
  | none => exact .inl rfl
  | some b =>
    refine .inr fun e2 => ?_
    obtain ⟨c, hc⟩ := own_kind (h.row i u hu) e
    obtain ⟨d, hd⟩ := own_kind h.outer e2.symm
    exact ne_type hd hc h1 rfl
/-- a new roll behind the others -/
theorem RollsW.pushNil (h : RollsW enc sz TR TS TC w B r R v vs rows) (h1 : TR ≠ TS) (h2 : TR ≠ TC) (h3 : TS ≠ TC) {v' : Value} (hown : w'.ownsRow B TS 1 v' (rows.length + 1) (vs ++ [.slice none 0 0])) (hgr : w.grownBy w' v.ownBlock) :
    RollsW enc sz TR TS TC (w'.setCell ⟨r, 1, none⟩ v') B r R v' (vs ++ [.slice none 0 0]) (rows ++ [[]]) := by
  have hbox : w'.heap[r]? = some (.cells #[.int .i64 R, v] TR (0, 0)) := (hgr.block r (lt_heap h.box) (fun e => h.box_ne_outer h1 e.symm)).trans h.box
  have hl := h.lenV
  refine ⟨by rw [heap_set hbox]; rfl, ?_, fun i u hu => ?_, fun i j u u' hu hu' hij => ?_⟩
  · rw [List.length_append, List.length_singleton]
    refine own_keep hown fun b hb _ _ => heap_set_ne (fun e => ?_) _
    obtain ⟨c, hc⟩ := own_kind hown hb
    exact ne_type hbox hc h1 e.symm
  · by_cases hi : i < vs.length
    · rw [List.getElem?_append_left hi] at hu
      rw [show (rows ++ [[]] : List (List α)).getD i [] = rows.getD i [] by rw [List.getD_eq_getElem?_getD, List.getD_eq_getElem?_getD, List.getElem?_append_left (by omega)]]
      refine own_keep (h.row i u hu) fun b hb _ hlt => ?_
      rw [heap_set_ne (fun e => h.box_ne_row h2 hu (by rw [hb, e]))]
      refine hgr.block b hlt (fun e => ?_)
      rcases h.row_ne_outer h3 hu with g | g
      · rw [g] at hb; cases hb
      · exact g (hb.trans e)
    · rw [List.getElem?_append_right (by omega)] at hu
      have hi2 : i = rows.length := by
        have := (List.getElem?_eq_some_iff.1 hu).1
        simp at this; omega
      subst hi2
      rw [← hl, Nat.sub_self] at hu
      injection hu with hu
      subst hu
      rw [show (rows ++ [[]] : List (List α)).getD rows.length [] = [] by rw [List.getD_eq_getElem?_getD, List.getElem?_append_right (Nat.le_refl _), Nat.sub_self]; rfl]
      exact World.ownsRow_nil _ _ _ _
  · have hn : ∀ k z, (vs ++ [Value.slice none 0 0])[k]? = some z → ¬ k < vs.length → z = .slice none 0 0 := fun k z hz hk => by
      rw [List.getElem?_append_right (by omega)] at hz
      have := (List.getElem?_eq_some_iff.1 hz).1
      simp at this
      rw [this] at hz
      injection hz with hz
      exact hz.symm
    by_cases hi : i < vs.length
    · by_cases hj : j < vs.length
      · rw [List.getElem?_append_left hi] at hu
        rw [List.getElem?_append_left hj] at hu'
        exact h.sep i j u u' hu hu' hij
      · rw [hn j u' hu' hj]
        cases u.ownBlock
        · exact .inl rfl
        · exact .inr (fun e => by cases e)
    · rw [hn i u hu hi]
      exact .inl rfl
/-- a roll changed: its new list lies where the elder one lay, or in a new block, or nowhere -/
theorem RollsW.setRow (h : RollsW enc sz TR TS TC w B r R v vs rows) (h1 : TR ≠ TS) (h2 : TR ≠ TC) (h3 : TS ≠ TC) {i g cap n : Nat} (hv : v = .slice (some ⟨g, 0, none⟩) n cap) {u u' : Value} (hu : vs[i]? = some u) {nrow : List α}
    (hown : w'.ownsRow B TC sz u' nrow.length (nrow.flatMap enc)) (hgr : w.grownBy w' u.ownBlock) (hat : ∀ b, u'.ownBlock = some b → u.ownBlock = some b ∨ w.heap.size ≤ b) :
    RollsW enc sz TR TS TC (w'.setCell ⟨g, i, none⟩ u') B r R v (vs.set i u') (rows.set i nrow) := by
  have hbox : w'.heap[r]? = some (.cells #[.int .i64 R, v] TR (0, 0)) := (hgr.block r (lt_heap h.box) (fun e => h.box_ne_row h2 hu e.symm)).trans h.box
  have hl := h.lenV
  have hi : i < vs.length := (List.getElem?_eq_some_iff.1 hu).1
  have ho : w'.ownsRow B TS 1 v rows.length vs := by
    refine own_keep h.outer fun b hb _ hlt => hgr.block b hlt fun e => ?_
    rcases h.row_ne_outer h3 hu with g | g
    · rw [g] at e; cases e
    · exact g (e.symm.trans hb.symm)
  have hn : n = rows.length := by
    rcases ho.2 with ⟨e, _⟩ | ⟨_, _, _, e, _⟩
    · rw [hv] at e; cases e
    · rw [hv] at e; injection e
  subst hn
  have hgk : v.ownBlock = some g := by rw [hv]; rfl
  obtain ⟨cg, hcg⟩ := own_kind ho hgk
  refine ⟨by rw [heap_set_ne (ne_type hbox hcg h1)]; exact hbox, ?_, fun j z hz => ?_, fun j k z z' hz hz' hjk => ?_⟩
  · rw [List.length_set]
    rw [hv] at ho ⊢
    exact (ho.stored i u').1
  · rw [getD_set_row (by omega)]
    by_cases e : j = i
    · subst e
      rw [List.getElem?_set, if_pos rfl, if_pos hi] at hz
      injection hz with hz
      subst hz
      rw [if_pos rfl]
      refine own_keep hown fun b hb _ _ => heap_set_ne (fun e => ?_) _
      obtain ⟨c, hc⟩ := own_kind hown hb
      exact ne_type hcg hc h3 e.symm
    · rw [List.getElem?_set, if_neg (fun e2 => e e2.symm)] at hz
      rw [if_neg e]
      refine own_keep (h.row j z hz) fun b hb _ hlt => ?_
      rw [heap_set_ne (fun e2 => ?_)]
      · refine hgr.block b hlt (fun e2 => ?_)
        rcases h.sep j i z u hz hu e with g | g
        · rw [g] at hb; cases hb
        · exact g (hb.trans e2)
      · rcases h.row_ne_outer h3 hz with g' | g'
        · rw [g'] at hb; cases hb
        · exact g' (by rw [hb, hgk, e2])
  · have hlt : ∀ (j : Nat) (z : Value) (b : Nat), vs[j]? = some z → z.ownBlock = some b → b < w.heap.size := fun j z b hz hb => ((h.row j z hz).lt b hb).2
    by_cases e : j = i
    · have e2 : k ≠ i := fun e2 => hjk (e.trans e2.symm)
      subst e
      rw [List.getElem?_set, if_pos rfl, if_pos hi] at hz
      rw [List.getElem?_set, if_neg (fun e3 => e2 e3.symm)] at hz'
      injection hz with hz
      subst hz
      cases hb : u'.ownBlock with
      | none => exact .inl rfl
      | some b =>
        refine .inr (fun e4 => ?_)
        rcases hat b hb with g | g
        · rcases h.sep j k u z' hu hz' hjk with g2 | g2
          · rw [g] at g2; cases g2
          · exact g2 (g.trans e4)
        · have := hlt k z' b hz' e4.symm; omega
    · rw [List.getElem?_set, if_neg (fun e3 => e e3.symm)] at hz
      by_cases e2 : k = i
      · subst e2
        rw [List.getElem?_set, if_pos rfl, if_pos hi] at hz'
        injection hz' with hz'
        subst hz'
        cases hb : z.ownBlock with
        | none => exact .inl rfl
        | some b =>
          refine .inr (fun e4 => ?_)
          rcases hat b e4.symm with g | g
          · rcases h.sep j k z u hz hu hjk with g2 | g2
            · rw [hb] at g2; cases g2
            · exact g2 (hb.trans g.symm)
          · have := hlt j z b hz hb; omega
      · rw [List.getElem?_set, if_neg (fun e3 => e2 e3.symm)] at hz'
        exact h.sep j k z z' hz hz' hjk
/-- the last rolls taken away -/
theorem RollsW.cutOuter (h : RollsW enc sz TR TS TC w B r R v vs rows) (h1 : TR ≠ TS) (h2 : TR ≠ TC) {a : Option Addr} {cap n k : Nat} (hv : v = .slice a n cap) (hk : k ≤ rows.length) :
    RollsW enc sz TR TS TC (w.setCell ⟨r, 1, none⟩ (.slice a k cap)) B r R (.slice a k cap) (vs.take k) (rows.take k) := by
  have hl := h.lenV
  have hn : n = rows.length := by
    rcases h.outer.2 with ⟨e, e2⟩ | ⟨_, _, _, e, _⟩
    · rw [hv] at e; injection e with _ e; omega
    · rw [hv] at e; injection e
  subst hn
  have ho := h.outer
  rw [hv] at ho
  have hc := own_cut ho hk
  rw [Nat.mul_one] at hc
  have hlt : (rows.take k).length = k := by rw [List.length_take]; omega
  refine ⟨by rw [heap_set h.box]; rfl, ?_, fun i u hu => ?_, fun i j u u' hu hu' hij => ?_⟩
  · rw [hlt]
    refine own_keep hc fun b hb _ _ => heap_set_ne (fun e => h.box_ne_outer h1 ?_) _
    rw [hv, ← e, ← hb]
    cases a <;> rfl
  · have hi : i < k := by
      have := (List.getElem?_eq_some_iff.1 hu).1
      rw [List.length_take] at this; omega
    rw [List.getElem?_take, if_pos hi] at hu
    rw [show (rows.take k).getD i [] = rows.getD i [] by rw [List.getD_eq_getElem?_getD, List.getD_eq_getElem?_getD, List.getElem?_take, if_pos hi]]
    exact own_keep (h.row i u hu) fun b hb _ _ => heap_set_ne (fun e => h.box_ne_row h2 hu (by rw [hb, e])) _
  · have hlk : ∀ i u, (vs.take k)[i]? = some u → vs[i]? = some u := fun i u hu => by
      have := (List.getElem?_eq_some_iff.1 hu).1
      rw [List.length_take] at this
      rwa [List.getElem?_take, if_pos (by omega)] at hu
    exact h.sep i j u u' (hlk i u hu) (hlk j u' hu') hij
end
end Go.Proofs.YtjcbpnffmebihaaGreatDoor
namespace Go.Proofs.YtjcbpnffmebihaaGreatDoor

/-! The library's split, numerals and join, as the desk's. -/
theorem pieces_none {s : ByteArray} {c : UInt8} {f : Nat} : ∀ (n i : Nat), s.size - i = n → (∀ j (h : j < s.size), i ≤ j → s[j] ≠ c) → pieces s c f i = [s.extract f s.size]
  | 0, i, h, _ => pieces_end (by omega)
  | n + 1, i, h, hn => by
    rw [pieces_miss (by omega) (hn i (by omega) (Nat.le_refl _))]
    exact pieces_none n (i + 1) (by omega) fun j hj hij => hn j hj (by omega)
theorem pieces_first {s : ByteArray} {c : UInt8} {f p : Nat} (hp : p < s.size) (hc : s[p] = c) : ∀ (n i : Nat), p - i = n → i ≤ p → (∀ j (h : j < s.size), i ≤ j → j < p → s[j] ≠ c) → pieces s c f i = s.extract f p :: pieces s c (p + 1) (p + 1)
  | 0, i, h, hi, _ => by
    obtain rfl : i = p := by omega
    exact pieces_hit hp hc
  | n + 1, i, h, hi, hn => by
    rw [pieces_miss (by omega) (hn i (by omega) (Nat.le_refl _) (by omega))]
    exact pieces_first hp hc n (i + 1) (by omega) (by omega) fun j hj hij => hn j hj (by omega)
theorem ext_get {s : ByteArray} {m i : Nat} (h : i < (s.extract m s.size).size) (h2 : m + i < s.size) : (s.extract m s.size)[i] = s[m + i] := by
  rw [ByteArray.getElem_extract]
theorem ext_ext {s : ByteArray} {m a b : Nat} (hb : m + b ≤ s.size) : (s.extract m s.size).extract a b = s.extract (m + a) (m + b) := by
  rw [ByteArray.extract_extract]
  congr 1
  omega
theorem pieces_shift {s : ByteArray} {c : UInt8} {m : Nat} (hm : m ≤ s.size) : ∀ (n f i : Nat), s.size - (m + i) = n → f ≤ i → pieces (s.extract m s.size) c f i = pieces s c (m + f) (m + i)
  | 0, f, i, h, hf => by
    have hs : (s.extract m s.size).size = s.size - m := by rw [ByteArray.size_extract]; omega
    rw [pieces_end (by omega), pieces_end (by omega), hs, ext_ext (by omega), show m + (s.size - m) = s.size by omega]
  | n + 1, f, i, h, hf => by
    have hs : (s.extract m s.size).size = s.size - m := by rw [ByteArray.size_extract]; omega
    have hi : i < (s.extract m s.size).size := by omega
    have h2 : m + i < s.size := by omega
    by_cases e : s[m + i] = c
    · rw [pieces_hit hi ((ext_get hi h2).trans e), pieces_hit h2 e, ext_ext (by omega), pieces_shift hm n (i + 1) (i + 1) (by omega) (Nat.le_refl _)]
      rfl
    · rw [pieces_miss hi (fun e' => e ((ext_get hi h2).symm.trans e')), pieces_miss h2 e, pieces_shift hm n f (i + 1) (by omega) (by omega)]
      rfl
theorem get_list {s : ByteArray} {j : Nat} (h : j < s.size) : s.data.toList[j]? = some s[j] := by
  rw [List.getElem?_eq_getElem (by simpa using h)]; rfl
theorem index_sgn (s : ByteArray) (c : UInt8) : Lib.indexB s (sgnB c) = Lib.indexByte s.data.toList c := Lib.index_one _ _
/-- the library's split at one sign -/
theorem split_lib (c : UInt8) : ∀ (n : Nat) (s : ByteArray), s.size ≤ n → Lib.splitB (sgnB c) 0 (Lib.countB s (sgnB c)) s = splitB s c
  | n, s, hn => by
    have hg := Lib.indexByte_ge s.data.toList c
    by_cases h1 : Lib.indexByte s.data.toList c = -1
    · have h2 := (index_sgn s c).trans h1
      rw [Lib.countB_miss _ _ h2, Lib.splitB_zero]
      unfold splitB
      rw [pieces_none s.size 0 (by omega) fun j hj _ e => Lib.indexByte_none h1 j (by rw [get_list hj, e])]
      rw [ByteArray.extract_zero_size]
    · obtain ⟨i, hi⟩ : ∃ i : Nat, Lib.indexByte s.data.toList c = (i : Int) := ⟨(Lib.indexByte s.data.toList c).toNat, by omega⟩
      obtain ⟨h3, h4⟩ := Lib.indexByte_some hi
      have hil : i < s.size := by
        rcases Nat.lt_or_ge i s.size with h | h
        · exact h
        · rw [List.getElem?_eq_none (by simpa using h)] at h3; cases h3
      have e : s[i] = c := by rw [get_list hil] at h3; exact Option.some.inj h3
      have h2 := (index_sgn s c).trans hi
      rw [Lib.countB_hit s (sgnB c) i (Nat.le_refl _) h2, Nat.add_comm 1, Lib.splitB_hit _ _ _ _ i h2]
      have hz : (s.extract (i + (sgnB c).size) s.size).size < s.size := by rw [ByteArray.size_extract, sgnB_size]; omega
      match n, hn with
      | 0, hn => omega
      | n + 1, hn =>
        rw [split_lib c n _ (by omega)]
        unfold splitB
        rw [pieces_first hil e i 0 (by omega) (Nat.zero_le _) fun j hj _ hji e' => h4 j hji (by rw [get_list hj, e']), sgnB_size, pieces_shift (by omega) (s.size - (i + 1)) 0 0 (by omega) (Nat.le_refl _)]
        rfl
theorem count_lib (s : ByteArray) (c : UInt8) : Lib.countB s (sgnB c) + 1 = (splitB s c).length := by
  rw [← split_lib c s.size s (Nat.le_refl _), Lib.splitB_all (sgnB c) (Nat.le_refl _) 0 (Lib.countB s (sgnB c)) s rfl]
/-- the library's numerals -/
theorem dec_nat (n : Nat) : (⟨(Lib.decDigits n).toArray⟩ : ByteArray) = natB n := by
  induction n using Nat.strongRecOn with
  | ind n ih =>
    by_cases h : n < 10
    · rw [natB_lt h, Lib.decDigits_one h]; rfl
    · rw [natB_ge h, Lib.decDigits, dif_neg h, ← ih (n / 10) (by omega), natB_lt (n := n % 10) (by omega)]
      apply ByteArray.ext
      simp [ByteArray.data_append, digB, sgnB]
theorem itoa_num (n : Int) : (⟨(Lib.itoa n).toArray⟩ : ByteArray) = numB n := by
  unfold Lib.itoa numB
  by_cases h : n < 0
  · rw [if_pos h, if_pos h, show (-n).toNat = n.natAbs by omega, ← dec_nat]
    apply ByteArray.ext
    simp [ByteArray.data_append, sgnB]
  · rw [if_neg h, if_neg h, dec_nat]
/-- the library's join of numerals -/
theorem join_tail : ∀ xs : List Int, (⟨(Lib.joinTail [44] ((xs.map numB).map (·.data.toList))).toArray⟩ : ByteArray) = tailB xs
  | [] => rfl
  | x :: xs => by
    rw [tailB, ← join_tail xs]
    apply ByteArray.ext
    simp [Lib.joinTail, ByteArray.data_append, sgnB]
theorem join_list (xs : List Int) : (⟨(Lib.join ((xs.map numB).map (·.data.toList)) (sgnB 44).data.toList).toArray⟩ : ByteArray) = listB xs := by
  cases xs with
  | nil => rfl
  | cons x xs =>
    rw [listB, ← join_tail xs, List.map_cons, List.map_cons, Lib.join_cons]
    apply ByteArray.ext
    simp [ByteArray.data_append, sgnB]
/-- the number of a text as the library reads it, if it is written so -/
def codeN (s : ByteArray) : Option Int := match Lib.atoiAll s.data.toList with
  | .ok v => if numB v = s then some v else none
  | _ => none
def numOk (s : ByteArray) : Bool := (codeN s).isSome
def numV (s : ByteArray) : Int := (codeN s).getD 0
theorem num_yes {s : ByteArray} {v : Int} (h : Lib.atoiAll s.data.toList = .ok v) (e : numB v = s) : numOk s = true ∧ numV s = v := by
  unfold numOk numV codeN; rw [h]; simp [e]
theorem num_no {s : ByteArray} {v : Int} (h : Lib.atoiAll s.data.toList = .ok v) (e : numB v ≠ s) : numOk s = false := by
  unfold numOk codeN; rw [h]; simp [e]
theorem num_bad {s : ByteArray} (h : ∀ v, Lib.atoiAll s.data.toList ≠ .ok v) : numOk s = false := by
  unfold numOk codeN
  split
  · rename_i v hv; exact absurd hv (h v)
  · rfl
/-- a number up to 60 is read by both alike -/
theorem small_dig {v : Nat} (h : v < 10) : numB (v : Int) = ⟨#[UInt8.ofNat (48 + v)]⟩ := by rw [numB_nat, natB_lt h]; rfl
theorem small_two {v : Nat} (h : ¬ v < 10) (h2 : v < 100) : numB (v : Int) = ⟨#[UInt8.ofNat (48 + v / 10), UInt8.ofNat (48 + v % 10)]⟩ := by
  rw [numB_nat, natB_ge h, natB_lt (n := v / 10) (by omega), natB_lt (n := v % 10) (by omega)]
  apply ByteArray.ext
  simp [digB, sgnB, ByteArray.data_append]
theorem atoi_small {v : Nat} (h : v < 100) : Lib.atoiAll (numB (v : Int)).data.toList = .ok (v : Int) := by
  by_cases h1 : v < 10
  · rw [small_dig h1]
    have : ∀ k : Fin 10, Lib.atoiAll [UInt8.ofNat (48 + k.1)] = .ok (k.1 : Int) := by decide
    exact this ⟨v, h1⟩
  · rw [small_two h1 h]
    have : ∀ k : Fin 100, ¬ k.1 < 10 → Lib.atoiAll [UInt8.ofNat (48 + k.1 / 10), UInt8.ofNat (48 + k.1 % 10)] = .ok (k.1 : Int) := by decide +kernel
    exact this ⟨v, h⟩ h1
theorem digit_nat {k : Nat} (h : k < 10) : (UInt8.ofNat (48 + k)).toNat = 48 + k := by
  rw [UInt8.toNat_ofNat_of_lt' (by show 48 + k < 256; omega)]
theorem read_small {v : Nat} (h : v < 100) : readB (numB (v : Int)) = (v : Int) := by
  have key : readFrom (numB (v : Int)) 0 0 = (v : Int) := by
    by_cases h1 : v < 10
    · rw [small_dig h1]
      have hd := digit_nat h1
      have e0 : (⟨#[UInt8.ofNat (48 + v)]⟩ : ByteArray)[0]'(by show 0 < 1; omega) = UInt8.ofNat (48 + v) := rfl
      rw [readFrom_go (by show 0 < 1; omega) (by rw [e0]; omega), readFrom_end (by show ¬ 1 < 1; omega), e0]
      omega
    · rw [small_two h1 h]
      have hd := digit_nat (k := v / 10) (by omega)
      have hm := digit_nat (k := v % 10) (by omega)
      have e0 : (⟨#[UInt8.ofNat (48 + v / 10), UInt8.ofNat (48 + v % 10)]⟩ : ByteArray)[0]'(by show 0 < 2; omega) = UInt8.ofNat (48 + v / 10) := rfl
      have e1 : (⟨#[UInt8.ofNat (48 + v / 10), UInt8.ofNat (48 + v % 10)]⟩ : ByteArray)[1]'(by show 1 < 2; omega) = UInt8.ofNat (48 + v % 10) := rfl
      rw [readFrom_go (by show 0 < 2; omega) (by rw [e0]; omega), readFrom_go (by show 1 < 2; omega) (by rw [e0, e1]; omega), readFrom_end (by show ¬ 2 < 2; omega), e0, e1]
      omega
  have hne : numB (v : Int) ≠ ByteArray.empty := fun e => by have := numB_pos (v : Int); rw [e] at this; exact absurd this (by decide)
  unfold readB
  rw [key, if_neg (by omega), if_neg hne, if_pos rfl]
theorem readB_back {s : ByteArray} (h : readB s ≠ -1) : numB (readB s) = s := by
  unfold readB at h ⊢
  split at h
  · exact absurd rfl h
  · rename_i h1
    rw [if_neg h1]
    split at h
    · exact absurd rfl h
    · rename_i h2
      rw [if_neg h2]
      split at h
      · rename_i h3; rw [if_pos h3]; exact h3
      · exact absurd rfl h
theorem codeN_read {s : ByteArray} {v : Int} (h0 : 0 ≤ v) (h1 : v < 100) : codeN s = some v ↔ readB s = v := by
  obtain ⟨n, rfl⟩ : ∃ n : Nat, v = (n : Int) := ⟨v.toNat, by omega⟩
  constructor
  · intro h
    unfold codeN at h
    split at h
    · split at h
      · rename_i e; rw [Option.some.inj h] at e; rw [← e]; exact read_small (by omega)
      · cases h
    · cases h
  · intro h
    have hb := readB_back (s := s) (by omega)
    rw [h] at hb
    unfold codeN
    rw [← hb, atoi_small (by omega)]
    simp
end Go.Proofs.YtjcbpnffmebihaaGreatDoor
