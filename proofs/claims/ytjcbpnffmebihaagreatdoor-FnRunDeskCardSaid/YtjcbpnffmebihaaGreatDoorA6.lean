import Derived.Test.YtjcbpnffmebihaaGreatDoorA1
import Derived.Test.YtjcbpnffmebihaaGreatDoorA3
import Derived.Test.YtjcbpnffmebihaaGreatDoorRows
import Derived.RangeFuncNested
import Derived.RangeFuncBound
import Derived.RangeFuncCalls
import Derived.RangeFuncLeaves
import Derived.Shelf.Abstract
import Derived.Shelf.RegionOpen
import Derived.WalkKit
import Derived.OwnWalkIn
import Derived.TacticsInMore
import Derived.LoopNIn
import Derived.LoopIn
set_option linter.unusedVariables false
set_option linter.unusedSimpArgs false
namespace Go.Proofs.YtjcbpnffmebihaaGreatDoor

-- shops (plain): m the machine, p the time of a job's step
def setN {α : Type} (f : Nat → α) (j : Nat) (v : α) : Nat → α := fun i => if i = j then v else f i
theorem setN_at {α : Type} (f : Nat → α) (j : Nat) (v : α) : setN f j v j = v := if_pos rfl
theorem setN_ne {α : Type} (f : Nat → α) {i j : Nat} (v : α) (h : i ≠ j) : setN f j v i = f i := if_neg h
/-- what is known behind some turns: the next step of each job, when steps began, when jobs and machines are free, when all is done, and the steps done, in their order -/
structure ShopS where
  nx : Nat → Nat
  b : Nat → Nat → Int
  rd : Nat → Int
  fr : Nat → Int
  all : Int
  done : List (Nat × Nat)
/-- when the next step of job j begins -/
def beginS (m : Nat → Nat → Nat) (s : ShopS) (j : Nat) : Int := max (s.rd j) (s.fr (m j (s.nx j)))
def turnS (m : Nat → Nat → Nat) (p : Nat → Nat → Int) (s : ShopS) (j : Nat) : ShopS :=
  ⟨setN s.nx j (s.nx j + 1), setN s.b j (setN (s.b j) (s.nx j) (beginS m s j)), setN s.rd j (beginS m s j + p j (s.nx j)), setN s.fr (m j (s.nx j)) (beginS m s j + p j (s.nx j)),
   max s.all (beginS m s j + p j (s.nx j)), s.done ++ [(j, s.nx j)]⟩
/-- the times of some steps on a machine -/
def onM (m : Nat → Nat → Nat) (p : Nat → Nat → Int) (M : Nat) : List (Nat × Nat) → Int
  | [] => 0
  | x :: l => (if m x.1 x.2 = M then p x.1 x.2 else 0) + onM m p M l
theorem onM_append (m : Nat → Nat → Nat) (p : Nat → Nat → Int) (M : Nat) (l k : List (Nat × Nat)) : onM m p M (l ++ k) = onM m p M l + onM m p M k := by
  induction l with
  | nil => simp [onM]
  | cons x l ih => rw [List.cons_append, onM, onM, ih]; omega
/-- the times of the first steps of a job -/
def stepsTo (p : Nat → Nat → Int) (j : Nat) : Nat → Int
  | 0 => 0
  | k + 1 => stepsTo p j k + p j k
structure ShopI (m : Nat → Nat → Nat) (p : Nat → Nat → Int) (s : ShopS) : Prop where
  nn : 0 ≤ s.all ∧ (∀ j, 0 ≤ s.rd j) ∧ (∀ M, 0 ≤ s.fr M)
  pos : ∀ j k, k < s.nx j → 0 ≤ s.b j k
  last : ∀ j k, k < s.nx j → s.b j k + p j k ≤ s.rd j
  work : ∀ j, stepsTo p j (s.nx j) ≤ s.rd j
  chain : ∀ j k, k + 1 < s.nx j → s.b j k + p j k ≤ s.b j (k + 1)
  free : ∀ j k, k < s.nx j → s.b j k + p j k ≤ s.fr (m j k)
  mach : ∀ M, onM m p M s.done ≤ s.fr M
  upR : ∀ j, s.rd j ≤ s.all
  upF : ∀ M, s.fr M ≤ s.all
  is : s.all = 0 ∨ ∃ j k, k < s.nx j ∧ s.all = s.b j k + p j k
  apart : ∀ j k i h, k < s.nx j → h < s.nx i → (j, k) ≠ (i, h) → m j k = m i h → s.b j k + p j k ≤ s.b i h ∨ s.b i h + p i h ≤ s.b j k
  mem : ∀ j k, (j, k) ∈ s.done ↔ k < s.nx j
  nod : s.done.Nodup
theorem ShopI.turn {m : Nat → Nat → Nat} {p : Nat → Nat → Int} (hp : ∀ j k, 0 ≤ p j k) {s : ShopS} (h : ShopI m p s) (j : Nat) : ShopI m p (turnS m p s j) := by
  have ht1 : s.rd j ≤ beginS m s j := by unfold beginS; omega
  have ht2 : s.fr (m j (s.nx j)) ≤ beginS m s j := by unfold beginS; omega
  have ht3 : beginS m s j ≤ s.all := by unfold beginS; have := h.upR j; have := h.upF (m j (s.nx j)); omega
  have ht0 := h.nn.2.1 j
  have hpj := hp j (s.nx j)
  generalize hT : beginS m s j = t at ht1 ht2 ht3
  have e : turnS m p s j = ⟨setN s.nx j (s.nx j + 1), setN s.b j (setN (s.b j) (s.nx j) t), setN s.rd j (t + p j (s.nx j)), setN s.fr (m j (s.nx j)) (t + p j (s.nx j)), max s.all (t + p j (s.nx j)), s.done ++ [(j, s.nx j)]⟩ := by
    unfold turnS; rw [hT]
  rw [e]
  clear e hT
  have hb : ∀ i k, (i = j ∧ k = s.nx j ∧ setN s.b j (setN (s.b j) (s.nx j) t) i k = t) ∨ (¬ (i = j ∧ k = s.nx j) ∧ setN s.b j (setN (s.b j) (s.nx j) t) i k = s.b i k) := by
    intro i k
    by_cases hi : i = j
    · subst hi
      rw [setN_at]
      by_cases hk : k = s.nx i
      · subst hk; exact .inl ⟨rfl, rfl, setN_at _ _ _⟩
      · exact .inr ⟨fun h => hk h.2, setN_ne _ _ hk⟩
    · rw [setN_ne _ _ hi]; exact .inr ⟨fun h => hi h.1, rfl⟩
  have hn : ∀ i k, k < setN s.nx j (s.nx j + 1) i ↔ k < s.nx i ∨ (i = j ∧ k = s.nx j) := by
    intro i k
    by_cases hi : i = j
    · subst hi; rw [setN_at]; constructor
      · intro h; omega
      · rintro (h | h) <;> omega
    · rw [setN_ne _ _ hi]; constructor
      · exact .inl
      · rintro (h | h)
        · exact h
        · exact absurd h.1 hi
  have hr : ∀ i, setN s.rd j (t + p j (s.nx j)) i = if i = j then t + p j (s.nx j) else s.rd i := fun _ => rfl
  have hf : ∀ M, setN s.fr (m j (s.nx j)) (t + p j (s.nx j)) M = if M = m j (s.nx j) then t + p j (s.nx j) else s.fr M := fun _ => rfl
  refine ⟨⟨?_, fun i => ?_, fun M => ?_⟩, fun i k hk => ?_, fun i k hk => ?_, fun i => ?_, fun i k hk => ?_, fun i k hk => ?_, fun M => ?_, fun i => ?_, fun M => ?_, ?_, fun i k i' k' hk hk' hne hm => ?_, fun i k => ?_, ?_⟩
  · show 0 ≤ max s.all _; have := h.nn.1; omega
  · show 0 ≤ setN s.rd j _ i; rw [hr]; split
    · omega
    · exact h.nn.2.1 i
  · show 0 ≤ setN s.fr _ _ M; rw [hf]; split
    · omega
    · exact h.nn.2.2 M
  · show 0 ≤ setN s.b j _ i k
    rcases hb i k with ⟨_, _, e⟩ | ⟨hn', e⟩
    · rw [e]; omega
    · rw [e]; rcases (hn i k).1 hk with h1 | h1
      · exact h.pos i k h1
      · exact absurd h1 hn'
  · show setN s.b j _ i k + p i k ≤ setN s.rd j _ i
    rw [hr]
    rcases hb i k with ⟨e1, e2, e⟩ | ⟨hn', e⟩
    · rw [e, e1, e2, if_pos rfl]; exact Int.le_refl _
    · rw [e]; rcases (hn i k).1 hk with h1 | h1
      · have := h.last i k h1
        split
        · rename_i e3; subst e3; omega
        · exact this
      · exact absurd h1 hn'
  · show stepsTo p i (setN s.nx j _ i) ≤ setN s.rd j _ i
    rw [hr]
    by_cases hi : i = j
    · subst hi; rw [setN_at, if_pos rfl, stepsTo]; have := h.work i; omega
    · rw [setN_ne _ _ hi, if_neg hi]; exact h.work i
  · show setN s.b j _ i k + p i k ≤ setN s.b j _ i (k + 1)
    have hk1 : k < s.nx i := by
      rcases (hn i (k + 1)).1 hk with h1 | ⟨h1, h2⟩
      · omega
      · subst h1; omega
    rcases hb i k with ⟨e1, e2, _⟩ | ⟨_, ek⟩
    · subst e1; omega
    · rw [ek]
      rcases hb i (k + 1) with ⟨e1, e2, e3⟩ | ⟨hn', e3⟩
      · rw [e3]; subst e1; have := h.last i k hk1; omega
      · rw [e3]; rcases (hn i (k + 1)).1 hk with h1 | h1
        · exact h.chain i k h1
        · exact absurd h1 hn'
  · show setN s.b j _ i k + p i k ≤ setN s.fr _ _ (m i k)
    rw [hf]
    rcases hb i k with ⟨e1, e2, e⟩ | ⟨hn', e⟩
    · rw [e, e1, e2, if_pos rfl]; exact Int.le_refl _
    · rw [e]; rcases (hn i k).1 hk with h1 | h1
      · have := h.free i k h1
        split
        · rename_i e3; rw [e3] at this; omega
        · exact this
      · exact absurd h1 hn'
  · show onM m p M (s.done ++ [(j, s.nx j)]) ≤ setN s.fr _ _ M
    rw [hf, onM_append]
    show onM m p M s.done + ((if m j (s.nx j) = M then p j (s.nx j) else 0) + 0) ≤ _
    have := h.mach M
    by_cases e : M = m j (s.nx j)
    · rw [if_pos e, if_pos e.symm]; rw [e] at this ⊢; omega
    · rw [if_neg e, if_neg (fun e' => e e'.symm)]; omega
  · show setN s.rd j _ i ≤ max s.all _
    rw [hr]; have := h.upR i; split <;> omega
  · show setN s.fr _ _ M ≤ max s.all _
    rw [hf]; have := h.upF M; split <;> omega
  · show max s.all (t + p j (s.nx j)) = 0 ∨ ∃ i k, k < setN s.nx j _ i ∧ max s.all (t + p j (s.nx j)) = setN s.b j _ i k + p i k
    by_cases hle : s.all ≤ t + p j (s.nx j)
    · refine .inr ⟨j, s.nx j, (hn j _).2 (.inr ⟨rfl, rfl⟩), ?_⟩
      rcases hb j (s.nx j) with ⟨_, _, e⟩ | ⟨hn', _⟩
      · rw [e]; omega
      · exact absurd ⟨rfl, rfl⟩ hn'
    · rcases h.is with h0 | ⟨i, k, hk, e⟩
      · omega
      · refine .inr ⟨i, k, (hn i k).2 (.inl hk), ?_⟩
        rcases hb i k with ⟨e1, e2, _⟩ | ⟨_, e3⟩
        · subst e1; omega
        · rw [e3]; omega
  · show setN s.b j _ i k + p i k ≤ setN s.b j _ i' k' ∨ setN s.b j _ i' k' + p i' k' ≤ setN s.b j _ i k
    rcases hb i k with ⟨e1, e2, e⟩ | ⟨hn1, e⟩
    · rcases hb i' k' with ⟨f1, f2, f⟩ | ⟨hn2, f⟩
      · exact absurd (by rw [e1, e2, f1, f2]) hne
      · rcases (hn i' k').1 hk' with h1 | h1
        · right; rw [e, f]; have := h.free i' k' h1; rw [← hm, e1, e2] at this; omega
        · exact absurd h1 hn2
    · rcases (hn i k).1 hk with h1 | h1
      · rcases hb i' k' with ⟨f1, f2, f⟩ | ⟨hn2, f⟩
        · left; rw [e, f]; have := h.free i k h1; rw [hm, f1, f2] at this; omega
        · rcases (hn i' k').1 hk' with h2 | h2
          · rw [e, f]; exact h.apart i k i' k' h1 h2 hne hm
          · exact absurd h2 hn2
      · exact absurd h1 hn1
  · show (i, k) ∈ s.done ++ [(j, s.nx j)] ↔ k < setN s.nx j _ i
    rw [hn, List.mem_append, h.mem, List.mem_singleton, Prod.mk.injEq]
  · exact (List.perm_append_singleton _ _).symm.nodup (List.nodup_cons.2 ⟨fun hm => by have := (h.mem j (s.nx j)).1 hm; omega, h.nod⟩)
end Go.Proofs.YtjcbpnffmebihaaGreatDoor
namespace Go.Proofs.YtjcbpnffmebihaaGreatDoor
open Go.RowKit Go.Shelf

attribute [local go_sem] Oper.semAt_some

theorem cell_new_l (W : World) (v : Value) (t : TypeId) : (W.alloc (.cells #[v] t)).cell? ⟨W.heap.size, 0, none⟩ = some v ∧ (W.alloc (.cells #[v] t)).frozen? ⟨W.heap.size, 0, none⟩ = false :=
  ⟨by rw [World.cell?_alloc_new]; rfl, World.frozen?_alloc_new W _ _ _⟩
theorem cell_alloc_l {W : World} {a : Addr} {v : Value} (o : Obj) (h : W.cell? a = some v) : (W.alloc o).cell? a = some v := cell_kept h (World.grownBy_alloc W o none) (fun r e => by cases e)
theorem frozen_alloc_l {W : World} {a : Addr} {v : Value} (o : Obj) (h : W.cell? a = some v) (hf : W.frozen? a = false) : (W.alloc o).frozen? a = false := (frozen_kept h (World.grownBy_alloc W o none) (fun r e => by cases e)).trans hf
end Go.Proofs.YtjcbpnffmebihaaGreatDoor
namespace Go.Proofs.YtjcbpnffmebihaaGreatDoor
open Go.RowKit Go.Shelf

attribute [local go_sem] Oper.semAt_some

/-- an element of a list, by its place -/
abbrev IRow (xs : List Int) := { x : Nat × Int // xs[x.1]? = some x.2 }
def backIArgs (xs : List Int) (x : IRow xs) : Array Value := #[.int .i64 (x.1.1 : Int), .int .i64 x.1.2]
/-- all below n and block Bs are as they were -/
def KeepI (n Bs : Nat) (W W' : World) : Prop := Below n W W' ∧ W'.heap[Bs]? = W.heap[Bs]?
theorem KeepI.refl (n Bs : Nat) (W : World) : KeepI n Bs W W := ⟨Below.refl _ _, rfl⟩
theorem KeepI.trans {n Bs : Nat} {A B C : World} (h : KeepI n Bs A B) (g : KeepI n Bs B C) : KeepI n Bs A C := ⟨h.1.trans g.1, g.2.trans h.2⟩
def downI (len j : Nat) : List Nat := (List.range j).map (fun d => len - 1 - d)
theorem downI_succ (len j : Nat) : downI len (j + 1) = downI len j ++ [len - 1 - j] := by simp [downI, List.range_succ]

set_option maxRecDepth 100000 in
set_option maxHeartbeats 2000000 in
theorem backI_walk (n : Nat) (hn : 1 ≤ n) (l Bs n₀ : Nat) (a : Option Addr) (len cap : Nat) (xs : List Int) (w0 : World) (J Jx : List (IRow xs) → World → Prop)
    (hY : ∀ pre x W, J pre W → pre.length < xs.length → YieldAt Fence.wide (n - 1) Tryz.prog l (backIArgs xs x) W fun e W' =>
      (e = .returned (.bool true) ∧ J (pre ++ [x]) W' ∧ KeepI n₀ Bs W W') ∨ (e = .returned (.bool false) ∧ Jx (pre ++ [x]) W'))
    (W : World) (hBs : W.cell? ⟨Bs, 0, none⟩ = some (.slice a len cap)) (hI : IntsAt w0 (· < n₀) a len xs) (hW0 : Below n₀ w0 W) (h0 : J [] W) :
    CallsIn Fence.wide n Tryz.prog 177 #[.func (.yield l) #[] #[], .pointer (some ⟨Bs, 0, none⟩)] W fun e W' => (∃ v, e = .returned v) ∧
      ((∃ ys : List (IRow xs), ys.map (·.1.1) = downI len len ∧ J ys W') ∨ (∃ pre : List (IRow xs), True ∧ Jx pre W')) := by
  have hs := hI.small
  refine callsIn_of_wp Tryz.func177 rfl trivial ?_ rfl
  simp only [Tryz.ntmps177, List.size_toArray, List.length_cons, List.length_nil, Nat.reduceAdd, Nat.reduceSub, Array.replicate_succ, Array.replicate_zero, List.push_toArray, List.append_toArray, List.nil_append, List.cons_append]
  gi_wp2
  gi_loopw [3] (fun i wr => ∃ (v : Int) (pre : List (IRow xs)), -1 ≤ v ∧ v < len ∧ i = .int .i64 v ∧ (pre.length : Int) = (len : Int) - 1 - v ∧ pre.map (·.1.1) = downI len pre.length ∧ J pre wr ∧ KeepI n₀ Bs W wr)
    (fun i _ => (intOf i + 1).toNat)
  case atStart => exact ⟨(len : Int) - 1, [], by omega, by omega, rfl, by simp, rfl, h0, KeepI.refl _ _ _⟩
  case round =>
    obtain ⟨v, pre, hv1, hv2, rfl, hpl, hp, hJs, hnx⟩ := hrel
    have HP := Lib.hid hp
    have HPL := Lib.hid hpl
    have HL := Lib.hid hI.lenEq
    have hbs := hnx.2
    have hbs' : wr.cell? ⟨Bs, 0, none⟩ = some (.slice a len cap) := by rw [World.cell?_of_block (w := W) hbs]; exact hBs
    clear hp hpl hbs
    by_cases h0v : 0 ≤ v
    · obtain ⟨k, rfl⟩ : ∃ k : Nat, v = (k : Int) := ⟨v.toNat, by omega⟩
      have hlt : k < len := by omega
      obtain ⟨b, off, r, rfl, hx, hc⟩ := (hI.below (hW0.trans hnx.1)).get hlt
      have HX := Lib.hid hx
      clear hx
      have hplr : pre.length < xs.length := by have := HL.out; have := HPL.out; omega
      obtain ⟨fn, tmps, assign, body, hy, hR⟩ := hY pre ⟨(k, r), HX.out⟩ wr hJs hplr
      dsimp only [backIArgs] at hy
      have HS := Lib.hid (show (pre ++ [(⟨(k, r), HX.out⟩ : IRow xs)]).map (·.1.1) = downI len (pre ++ [(⟨(k, r), HX.out⟩ : IRow xs)]).length by
        rw [List.map_append, HP.out, List.length_append, List.length_singleton, downI_succ]
        have := HPL.out
        rw [show len - 1 - pre.length = k by omega]; rfl)
      have HPL2 := Lib.hid (show (((pre ++ [(⟨(k, r), HX.out⟩ : IRow xs)]).length : Nat) : Int) = (len : Int) - 1 - ((k : Int) - 1) by
        rw [List.length_append, List.length_singleton]
        have := HPL.out
        push_cast; omega)
      clear hplr
      gi_wp2
      refine hR.mono ?_
      rintro e W3 (⟨rfl, hJ3, hk3⟩ | ⟨rfl, hJx3⟩)
      · gi_wp2
        go_roundw
        case rel => exact ⟨(k : Int) - 1, _, by omega, by omega, rfl, HPL2.out, HS.out, hJ3, hnx.trans hk3⟩
        case measure => simp [intOf] <;> omega
      · gi_wp2
        refine bodyPost_ret (results_none rfl _ _ _) rfl ?_
        exact ⟨⟨_, rfl⟩, .inr ⟨_, trivial, hJx3⟩⟩
    · gi_wp2
      go_end0
      have e : pre.length = len := by have := HPL.out; omega
      exact ⟨⟨_, rfl⟩, .inl ⟨pre, by rw [HP.out, e], hJs⟩⟩

theorem backI_stops (n : Nat) (hn : 1 ≤ n) (Bs n₀ : Nat) (a : Option Addr) (len cap : Nat) (xs : List Int) (w : World) (hBs : Bs < w.heap.size) (hn₀ : n₀ ≤ w.heap.size)
    (hc : w.cell? ⟨Bs, 0, none⟩ = some (.slice a len cap)) (hI : IntsAt w (· < n₀) a len xs) :
    SeqStopsK Fence.wide n Tryz.prog 177 #[.pointer (some ⟨Bs, 0, none⟩)] (backIArgs xs) (KeepI n₀ Bs) (fun ys => ys.map (·.1.1) = downI len len) (fun _ => True) xs.length w := fun l J Jx W hW _ _ hY h0 =>
  backI_walk n hn l Bs n₀ a len cap xs w J Jx hY W ((hW.cell (p := ⟨Bs, 0, none⟩) hBs).trans hc) hI (hW.mono hn₀) h0

set_option maxHeartbeats 1000000 in
theorem backwardI_any (n : Nat) (a : Option Addr) (len cap : Nat) (w : World) :
    CallsIn Fence.wide n Tryz.prog 150 #[.slice a len cap] w fun e w' => e = .returned (.func (.func 177) #[] #[.pointer (some ⟨w.heap.size, 0, none⟩)]) ∧ w.alloc (.cells #[.slice a len cap] 35) = w' := by
  refine callsIn_of_wp Tryz.func150 rfl trivial ?_ rfl
  simp only [Tryz.ntmps150, List.size_toArray, List.length_cons, List.length_nil, Nat.reduceAdd, Nat.reduceSub, Array.replicate_succ, Array.replicate_zero, List.push_toArray, List.append_toArray, List.nil_append, List.cons_append]
  gi_wp2
  go_ret
  exact ⟨rfl, rfl⟩
theorem leaves_marksC {F : Fence} {n B : Nat} {P : Program} {fn : Func} {tmps : Array Value} {R : Ending → World → Prop} {v : Value} : ∀ (Ds : List Nat) (w : World), Marks w B Ds →
    (∀ w', SameCells B w w' → (results fn tmps).run P w' = .ok v w') → (∀ w', SameCells B w w' → R (.returned v) w') → LeavesInM F n P fn tmps R (Ds.map collected) .returning w := by
  intro Ds
  induction Ds with
  | nil => exact fun w _ hres h => ⟨v, hres w (SameCells.refl _ _), h w (SameCells.refl _ _)⟩
  | cons D Ds ih =>
    intro w hm hres h
    have hput := sameCells_put hm.1.1 hm.1.2.1
    refine ⟨by simp, Or.inl ⟨D, _, rfl, run_takeDeferred hm.1.1, ih _ (hm.2.kept (fun x hx hx' => ?_)) (fun w' hw' => hres w' (hput.trans hw')) (fun w' hw' => h w' (hput.trans hw'))⟩⟩
    rw [World.putObj_heap_other (hm.1.2.2 x hx)]
    exact hx'
end Go.Proofs.YtjcbpnffmebihaaGreatDoor
