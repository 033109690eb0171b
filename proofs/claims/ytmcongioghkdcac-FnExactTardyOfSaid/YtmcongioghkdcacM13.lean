import Derived.Test.YtmcongioghkdcacRows
import Derived.RangeFuncNested
import Derived.RangeFuncBound
import Derived.RangeFuncCalls
import Derived.RangeFuncLeaves
import Derived.Shelf.Abstract
import Derived.Shelf.RegionOpen
import Derived.WalkKit
import Derived.OwnWalkIn
import Derived.TacticsInMore
import Derived.LoopNIn
import Derived.LoopIn
import Derived.Test.YtmcongioghkdcacM0
import Derived.Test.YtmcongioghkdcacM12
import Derived.Deep.RegionHeld3
import Derived.Test.YtmcongioghkdcacM1
import Derived.Test.YtmcongioghkdcacM2
import Derived.Test.YtmcongioghkdcacM8
namespace Go.Proofs.Ytmcongioghkdcac
open Go.RowKit Go.Shelf

attribute [local go_sem] Oper.semAt_some

theorem cell_new_l (W : World) (v : Value) (t : TypeId) : (W.alloc (.cells #[v] t)).cell? ⟨W.heap.size, 0, none⟩ = some v ∧ (W.alloc (.cells #[v] t)).frozen? ⟨W.heap.size, 0, none⟩ = false :=
  ⟨by rw [World.cell?_alloc_new]; rfl, World.frozen?_alloc_new W _ _ _⟩
theorem cell_alloc_l {W : World} {a : Addr} {v : Value} (o : Obj) (h : W.cell? a = some v) : (W.alloc o).cell? a = some v := cell_kept h (World.grownBy_alloc W o none) (fun r e => by cases e)
theorem frozen_alloc_l {W : World} {a : Addr} {v : Value} (o : Obj) (h : W.cell? a = some v) (hf : W.frozen? a = false) : (W.alloc o).frozen? a = false := (frozen_kept h (World.grownBy_alloc W o none) (fun r e => by cases e)).trans hf
theorem lt_cell {W : World} {b o : Nat} {v : Value} (h : W.cell? ⟨b, o, none⟩ = some v) : b < W.heap.size := by
  rcases Nat.lt_or_ge b W.heap.size with h' | h'
  · exact h'
  · simp [World.cell?, Array.getElem?_eq_none h'] at h
def partArgs (xs : List Int) (x : Part xs) : Array Value := #[.int .i64 (x.1.1 : Int), .int .i64 x.1.2]

end Go.Proofs.Ytmcongioghkdcac
namespace Go.Proofs.Ytmcongioghkdcac
open Go.RowKit Go.Shelf

attribute [local go_sem] Oper.semAt_some

/-- an element of a list, by its place -/
abbrev IRow (xs : List Int) := { x : Nat × Int // xs[x.1]? = some x.2 }
def backIArgs (xs : List Int) (x : IRow xs) : Array Value := #[.int .i64 (x.1.1 : Int), .int .i64 x.1.2]
/-- all below n and block Bs are as they were -/
def KeepI (n Bs : Nat) (W W' : World) : Prop := Below n W W' ∧ W'.heap[Bs]? = W.heap[Bs]?
theorem KeepI.refl (n Bs : Nat) (W : World) : KeepI n Bs W W := ⟨Below.refl _ _, rfl⟩
theorem KeepI.trans {n Bs : Nat} {A B C : World} (h : KeepI n Bs A B) (g : KeepI n Bs B C) : KeepI n Bs A C := ⟨h.1.trans g.1, g.2.trans h.2⟩
def downI (len j : Nat) : List Nat := (List.range j).map (fun d => len - 1 - d)
theorem downI_succ (len j : Nat) : downI len (j + 1) = downI len j ++ [len - 1 - j] := by simp [downI, List.range_succ]

theorem leaves_marksC {F : Fence} {n B : Nat} {P : Program} {fn : Func} {tmps : Array Value} {R : Ending → World → Prop} {v : Value} : ∀ (Ds : List Nat) (w : World), Marks w B Ds →
    (∀ w', SameCells B w w' → (results fn tmps).run P w' = .ok v w') → (∀ w', SameCells B w w' → R (.returned v) w') → LeavesInM F n P fn tmps R (Ds.map collected) .returning w := by
  intro Ds
  induction Ds with
  | nil => exact fun w _ hres h => ⟨v, hres w (SameCells.refl _ _), h w (SameCells.refl _ _)⟩
  | cons D Ds ih =>
    intro w hm hres h
    have hput := sameCells_put hm.1.1 hm.1.2.1
    refine ⟨by simp, Or.inl ⟨D, _, rfl, run_takeDeferred hm.1.1, ih _ (hm.2.kept (fun x hx hx' => ?_)) (fun w' hw' => hres w' (hput.trans hw')) (fun w' hw' => h w' (hput.trans hw'))⟩⟩
    rw [World.putObj_heap_other (hm.1.2.2 x hx)]
    exact hx'
end Go.Proofs.Ytmcongioghkdcac
namespace Go.Proofs.Ytmcongioghkdcac
open Go.RowKit

-- A range over a function that hands over several values, writes memory of its own between its rounds, and reads older blocks that its rounds keep: told by the number of rounds gone.
/-- the blocks of K that W has are as they were -/
def KeepsP (K : Nat → Prop) (W W' : World) : Prop := W.heap.size ≤ W'.heap.size ∧ ∀ b, K b → b < W.heap.size → W'.heap[b]? = W.heap[b]?
theorem KeepsP.refl (K : Nat → Prop) (W : World) : KeepsP K W W := ⟨Nat.le_refl _, fun _ _ _ => rfl⟩
theorem KeepsP.trans {K : Nat → Prop} {A B C : World} (h : KeepsP K A B) (g : KeepsP K B C) : KeepsP K A C :=
  ⟨Nat.le_trans h.1 g.1, fun b hb hlt => (g.2 b hb (Nat.lt_of_lt_of_le hlt h.1)).trans (h.2 b hb hlt)⟩
theorem KeepsP.wide {K L : Nat → Prop} {A B : World} (h : KeepsP K A B) (hm : ∀ b, L b → K b) : KeepsP L A B := ⟨h.1, fun b hb hlt => h.2 b (hm b hb) hlt⟩
theorem KeepsP.setCell (K : Nat → Prop) (W : World) {p : Addr} (hp : ¬ K p.block) (v : Value) : KeepsP K W (W.setCell p v) :=
  ⟨by simp [World.setCell], fun b hb _ => Below.heap_setCell _ _ _ _ (fun e => hp (e ▸ hb))⟩
theorem KeepsP.below (K : Nat → Prop) {W W' : World} (h : Below W.heap.size W W') : KeepsP K W W' := ⟨h.size, fun b _ hlt => h.block b hlt⟩
theorem KeepsP.putObj {K : Nat → Prop} {l : Nat} (W : World) (h : ¬ K l) (o : Obj) : KeepsP K W (W.putObj l o) := ⟨by simp, fun b hb _ => World.putObj_heap_other (fun e => h (e ▸ hb))⟩
theorem below_putObj2 {n l : Nat} (W : World) (h : n ≤ l) (o : Obj) : Below n W (W.putObj l o) := ⟨rfl, rfl, rfl, by simp, fun k hk => World.putObj_heap_other (by omega)⟩

/-- how a round's body ends: what is to be kept is kept, and the invariant is carried on -/
def countPostP (K : Nat → Prop) (R : World → Prop) (W : World) : Exit → Act → World → Prop
  | .normal, _, W' => KeepsP K W W' ∧ R W'
  | _, _, _ => False
/-- the contract of a function that yields: S tells how many rounds there are, E what comes with which, Pr which older blocks the rounds must keep -/
def SeqCountP {α : Type} (F : Fence) (n : Nat) (P : Program) (gf : Nat) (lb : Array Value) (enc : α → Array Value) (S : Nat → Prop) (E : Nat → Nat → α → World → Prop) (Pr : Nat → Prop) (w : World) : Prop :=
  ∀ (l : Nat) (J : Nat → World → Prop) (W1 : World), Below w.heap.size w W1 → W1.heap.size = w.heap.size + 2 →
    (∀ k A B, J k A → Below W1.heap.size A B → J k B) →
    (∀ k x W, J k W → E W1.heap.size k x W → YieldAt F (n - 1) P l (enc x) W fun e W' => e = .returned (.bool true) ∧ J (k + 1) W' ∧ KeepsP (fun b => W1.heap.size ≤ b ∨ Pr b) W W') →
    J 0 W1 → CallsIn F n P gf (#[.func (.yield l) #[] #[]] ++ lb) W1 fun e W' => (∃ v, e = .returned v) ∧ ∃ k, S k ∧ J k W'
theorem wpIn_rangeFunc_countP {α : Type} {F : Fence} {n : Nat} {P : Program} {g : Operand} {ps : Array Tmp} {assign body : Code} {Q : Exit → Act → World → Prop} {a : Act} {w : World}
    (hro : F.round = none) (h1 : 1 ≤ n) {gf : Nat} {lb : Array Value} (hg : a.eval g = .func (.func gf) #[] lb) (hFg : F.fn gf) (eg : ∀ args w, (callFunc gf args).run P w = .ok (.enter gf args) w)
    {enc : α → Array Value} {S : Nat → Prop} {E : Nat → Nat → α → World → Prop} {Pr : Nat → Prop} (hPr : ∀ b, Pr b → b < w.heap.size) (hseq : SeqCountP F (n - 1) P gf lb enc S E Pr w) (hps : ∀ x, ps.size = (enc x).size)
    (hE : ∀ m k x A B, E m k x A → KeepsP (fun b => m ≤ b ∨ Pr b) A B → E m k x B)
    (I : Nat → World → Prop) (hI : ∀ k A B, I k A → Below w.heap.size A B → I k B) (h0 : I 0 w) (a₁ : α → World → Act) (nx : α → World → World) (hnx : ∀ x W, Below W.heap.size W (nx x W))
    (hassign : ∀ (l : Nat) (x : α) (W : World) (K : Act → World → Prop), K (a₁ x W) (nx x W) →
      assign.wpIn (F.inRound l) (n - 1 - 1) P (Exit.then K (fun _ _ _ => False)) { tmps := (ps.zip (enc x)).foldl (fun t (p, v) => t.setIfInBounds p v) a.tmps, defers := [] } W)
    (hbody : ∀ (l k : Nat) (x : α) (W0 W : World), w.heap.size + 2 ≤ W0.heap.size → (∀ b, w.heap.size + 2 ≤ b → W.heap[b]? = (nx x W0).heap[b]?) → W.heap.size = (nx x W0).heap.size → I k W → E (w.heap.size + 2) k x W →
      body.wpIn (F.inRound l) (n - 1 - 1) P (countPostP (fun b => w.heap.size ≤ b ∨ Pr b) (I (k + 1)) W) (a₁ x W0) W)
    (hdone : ∀ (D k : Nat) (W : World), w.heap.size ≤ D → S k → I k W → W.heap[D]? = some (.deferred (some [])) → Q .normal { a with defers := { target := .collected D, args := #[] } :: a.defers } W) :
    (Code.rangeFunc g ps assign body).wpIn F n P Q a w := by
  refine wpIn_rangeFunc ?_
  intro fn hfn
  rw [hro]
  obtain ⟨rec, hrec⟩ : ∃ rec : LoopState → Loop, rec = fun st => { state := st, pending := none, fn, tmps := a.tmps, params := ps, assign, body, defers := w.heap.size } := ⟨_, rfl⟩
  obtain ⟨W1, hW1⟩ : ∃ W1, (w.alloc (.deferred (some []))).alloc (.loop (rec .ready)) = W1 := ⟨_, rfl⟩
  have hsz : W1.heap.size = w.heap.size + 2 := by rw [← hW1]; simp
  have hb1 : Below w.heap.size w W1 := by rw [← hW1]; exact ((Below.refl _ w).alloc (Nat.le_refl _) _).alloc (by simp) _
  have hL1 : W1.heap[w.heap.size + 1]? = some (.loop (rec .ready)) := by
    rw [← hW1]; have := World.alloc_heap_new (w.alloc (.deferred (some []))) (.loop (rec .ready)); rwa [World.size_alloc] at this
  have hK1 : W1.heap[w.heap.size]? = some (.deferred (some [])) := by
    rw [← hW1]; exact (Below.heap_alloc _ _ _ (by simp)).trans (World.alloc_heap_new w _)
  have hnl : ¬ (fun b => W1.heap.size ≤ b ∨ Pr b) (w.heap.size + 1) := fun h => by
    rcases h with h | h
    · rw [hsz] at h; omega
    · have := hPr _ h; omega
  refine ⟨w.heap.size + 1, [{ target := .collected w.heap.size, args := #[] }], W1, { target := .fn (.func gf) lb, args := #[.func (.yield (w.heap.size + 1)) #[] #[]] }, W1, gf,
    #[.func (.yield (w.heap.size + 1)) #[] #[]] ++ lb, W1, ?_, ?_, ?_, ?_, fun _ => h1, ?_⟩
  · rw [← hW1, hrec]; exact run_enterLoop_outer _ _ _ _ _
  · simp only [resolve, hg]
    simp [go_sem]
  · intro f' hf'; simp [Target.leads] at hf'; subst hf'; exact hFg
  · simp [invoke, go_sem, eg]
  · refine (hseq (w.heap.size + 1)
      (fun k W => I k W ∧ W.heap[w.heap.size + 1]? = some (.loop (rec .ready)) ∧ W.heap[w.heap.size]? = some (.deferred (some [])))
      W1 hb1 hsz
      (fun k A B hs hb => ⟨hI k A B hs.1 (hb.mono (by omega)), (hb.block _ (by omega)).trans hs.2.1, (hb.block _ (by omega)).trans hs.2.2⟩)
      ?_ ⟨hI 0 _ _ h0 hb1, hL1, hK1⟩).mono ?_
    · rintro k x W0 ⟨hi, hl, hk⟩ he
      have hlt0 : w.heap.size + 1 < W0.heap.size := (Array.getElem?_eq_some_iff.1 hl).1
      have hy := run_yield (P := P) (args := enc x) hl (by rw [hrec]; exact (hps x).symm)
      rw [hrec] at hy
      have hnb := hnx x W0
      obtain ⟨W, hW⟩ : ∃ W, nx x W0 = W := ⟨_, rfl⟩
      rw [hW] at hnb
      have hl' := (hnb.block _ hlt0).trans hl
      have hk' := (hnb.block _ (by omega)).trans hk
      have hi' : I k W := hI k _ _ hi (hnb.mono (by omega))
      have he' := hE _ k x _ _ he (KeepsP.below _ hnb)
      have hlt : w.heap.size + 1 < W.heap.size := Nat.lt_of_lt_of_le hlt0 hnb.size
      refine ⟨fn, _, assign, body, hy, roundIn_of_wpIn hfn (hassign _ x W0 _ ?_)⟩
      rw [hW]
      refine ⟨_, run_beginRound hl' (by rw [hrec]), ?_⟩
      obtain ⟨W2, hW2⟩ : ∃ W2, W.putObj (w.heap.size + 1) (.loop { rec .ready with state := .busy }) = W2 := ⟨_, rfl⟩
      have hl2 : W2.heap[w.heap.size + 1]? = some (.loop { rec .ready with state := .busy }) := by rw [← hW2]; exact World.putObj_heap_same hlt
      have hk2 : W2.heap[w.heap.size]? = some (.deferred (some [])) := by rw [← hW2]; exact (World.putObj_heap_other (by omega)).trans hk'
      have hs2 : W2.heap.size = W.heap.size := by rw [← hW2]; simp
      have hu2 : KeepsP (fun b => W1.heap.size ≤ b ∨ Pr b) W0 W2 := (KeepsP.below _ hnb).trans (by rw [← hW2]; exact KeepsP.putObj _ hnl _)
      have hi2 : I k W2 := by rw [← hW2]; exact hI k _ _ hi' (below_putObj2 _ (by omega) _)
      rw [hW2]
      refine wpIn_mono (hbody _ k x W0 W2 (by omega) (fun b hb => by rw [hW, ← hW2]; exact World.putObj_heap_other (by omega)) (by rw [hW, hs2]) hi2 (by rw [← hsz]; exact hE _ k x _ _ he hu2)) ?_
      rintro e a3 W3 hp
      cases e with
      | normal =>
        obtain ⟨hu3, hi3⟩ := hp
        have hl3 := (hu3.2 _ (.inl (by omega)) (by omega)).trans hl2
        have hr := run_endRound (P := P) none hl3
        have hlt3 : w.heap.size + 1 < W3.heap.size := (Array.getElem?_eq_some_iff.1 hl3).1
        refine ⟨_, _, hr, rfl, ⟨hI _ _ _ hi3 (below_putObj2 _ (by omega) _), ?_, (World.putObj_heap_other (by omega)).trans ((hu3.2 _ (.inl (by omega)) (by omega)).trans hk2)⟩, hu2.trans ((hu3.wide fun b hb => by
          rcases hb with h | h
          · exact .inl (by omega)
          · exact .inr h).trans (KeepsP.putObj _ hnl _))⟩
        rw [World.putObj_heap_same hlt3, hrec]; rfl
      | ret => exact hp.elim
      | exit id => exact hp.elim
      | goto t => exact hp.elim
      | panic ch => exact hp.elim
      | outgrown => exact hp.elim
    · rintro e W2 ⟨⟨v, rfl⟩, k, hS, hi, hl, hk⟩
      exact ⟨none, _, by have := run_endLoop (P := P) hl (by rw [hrec]; simp); rw [hrec] at this; exact this, hdone _ k _ (Nat.le_refl _) hS (hI _ _ _ hi (below_putObj2 _ (by omega) _)) ((World.putObj_heap_other (by omega)).trans hk)⟩
end Go.Proofs.Ytmcongioghkdcac
namespace Go.Proofs.Ytmcongioghkdcac
open Go.RowKit Go.WideShapes

attribute [local go_sem] Oper.semAt_some

/-- what a rule counts for a job that is done at the end c -/
def RuleIs (f : Nat) (g : Int → Int → Int → Int → Int) : Prop := ∀ (t v d c : Int) (w : World), 0 ≤ t ∧ t ≤ 9 → 0 ≤ v ∧ v ≤ 9 → 0 ≤ d ∧ d ≤ 60 → 0 ≤ c ∧ c ≤ 72 →
  Calls Try.prog f #[.agg #[.int .i64 t, .int .i64 v, .int .i64 d], .int .i64 c] w fun e w' => e = .returned (.int .i64 (g t v d c)) ∧ Below w.heap.size w w'
def waitR (_ v _ c : Int) : Int := v * c
def lateR (_ _ d c : Int) : Int := if d < c then 1 else 0
def tardR (_ v d c : Int) : Int := v * max (c - d) 0
theorem lateAt_any : RuleIs 31 lateR := by
  intro t v d c w ht hv hd hc
  by_cases h : d < c
  · have HR := Lib.hid (show lateR t v d c = 1 from if_pos h)
    go_enter Try.func31, Try.ntmps31
    go_wp2_with fail
    go_ret
    exact ⟨ret_int HR.out.symm, (Below.refl _ w).alloc (Nat.le_refl _) _⟩
  · have HR := Lib.hid (show lateR t v d c = 0 from if_neg h)
    go_enter Try.func31, Try.ntmps31
    go_wp2_with fail
    go_ret
    exact ⟨ret_int HR.out.symm, (Below.refl _ w).alloc (Nat.le_refl _) _⟩
theorem tardyAt_any : RuleIs 24 tardR := by
  intro t v d c w ht hv hd hc
  by_cases h : 0 < c - d
  · have hpr := mul_boxJ hv.1 hv.2 (show 0 ≤ c - d by omega) (show c - d ≤ 72 by omega)
    have HR := Lib.hid (show tardR t v d c = v * (c - d) by unfold tardR; rw [show max (c - d) 0 = c - d by omega])
    go_enter Try.func24, Try.ntmps24
    go_wp2_with fail
    go_ret
    exact ⟨ret_int HR.out.symm, (Below.refl _ w).alloc (Nat.le_refl _) _⟩
  · have HR := Lib.hid (show tardR t v d c = 0 by unfold tardR; rw [show max (c - d) 0 = 0 by omega, Int.mul_zero])
    go_enter Try.func24, Try.ntmps24
    go_wp2_with fail
    go_ret
    exact ⟨ret_int HR.out.symm, (Below.refl _ w).alloc (Nat.le_refl _) _⟩
theorem endsOf_any (n : Nat) (B len cap : Nat) (w : World) :
    CallsIn Fence.wide n Try.prog 40 #[.slice (some ⟨B, 0, none⟩) len cap] w fun e w' => e = .returned (.func (.func 52) #[] #[.pointer (some ⟨w.heap.size, 0, none⟩)]) ∧ w.alloc (.cells #[.slice (some ⟨B, 0, none⟩) len cap] 46) = w' := by
  refine callsIn_of_wp Try.func40 rfl trivial ?_ rfl
  simp only [Try.ntmps40, List.size_toArray, List.length_cons, List.length_nil, Nat.reduceAdd, Nat.reduceSub, Array.replicate_succ, Array.replicate_zero, List.push_toArray, List.append_toArray, List.nil_append, List.cons_append]
  gi_wp2
  go_ret
  exact ⟨rfl, rfl⟩
/-- when the first k jobs are done -/
def endK (t : Nat → Int) : Nat → Int
  | 0 => 0
  | k + 1 => endK t k + t k
theorem endK_bd {t : Nat → Int} (ht : ∀ x, 0 ≤ t x ∧ t x ≤ 9) : ∀ k, 0 ≤ endK t k ∧ endK t k ≤ 9 * (k : Int)
  | 0 => ⟨Int.le_refl _, Int.le_refl _⟩
  | k + 1 => by have := endK_bd ht k; have := ht k; rw [endK]; push_cast; omega
/-- what comes with round k -/
def encE (t v d : Nat → Int) (k : Nat) : Array Value := #[.agg #[.int .i64 (t k), .int .i64 (v k), .int .i64 (d k)], .int .i64 (endK t (k + 1))]
def EndE (n : Nat) (_ k x : Nat) (_ : World) : Prop := x = k ∧ k < n
set_option maxRecDepth 100000 in
set_option maxHeartbeats 2000000 in
theorem ends_seq (B n Bs : Nat) (t v d : Nat → Int) (w : World) (hn : n ≤ 8) (ht : ∀ x, 0 ≤ t x ∧ t x ≤ 9) (hB : B < w.heap.size) (hBs : Bs < w.heap.size) (hc : w.cell? ⟨Bs, 0, none⟩ = some (.slice (some ⟨B, 0, none⟩) n n)) (hJ : JobsB w B n t v d) :
    SeqCountP Fence.wide 8 Try.prog 52 #[.pointer (some ⟨Bs, 0, none⟩)] (encE t v d) (· = n) (EndE n) (· = B) w := by
  intro l J W1 hW hsz hJJ hY h0
  have hc1 := (hW.cell (p := ⟨Bs, 0, none⟩) hBs).trans hc
  have HJ1 := Lib.hid (hJ.block (hW.block B hB))
  have HJJ := Lib.hid hJJ
  have HY := Lib.hid hY
  have hB1 : B < W1.heap.size := by omega
  clear hJJ hY hJ hsz hW
  refine callsIn_of_wp Try.func52 rfl trivial ?_ rfl
  simp only [Try.ntmps52, List.size_toArray, List.length_cons, List.length_nil, Nat.reduceAdd, Nat.reduceSub, Array.replicate_succ, Array.replicate_zero, List.push_toArray, List.append_toArray, List.nil_append, List.cons_append]
  gi_wp2
  gi_loopw [3, 8] (fun s3 s8 W => ∃ k : Nat, s8 = .int .i64 (k : Int) ∧ s3 = .int .i64 (endK t k) ∧ k ≤ n ∧ J k W ∧ JobsB W B n t v d ∧ B < W.heap.size ∧ W1.heap.size ≤ W.heap.size) (fun _ s8 _ => n - (intOf s8).toNat)
  case atStart => exact ⟨0, rfl, rfl, Nat.zero_le _, h0, HJ1.out, hB1, Nat.le_refl _⟩
  case round =>
    obtain ⟨k, rfl, rfl, hk, hJk, hJB, hBW, hWW⟩ := hrel
    obtain ⟨W, rfl⟩ : ∃ W : World, W = wr := ⟨_, rfl⟩
    have hbe := endK_bd ht k
    by_cases hlt : k < n
    · obtain ⟨g0, g1, g2⟩ := hJB.at hlt
      have HJB := Lib.hid hJB
      have htk := ht k
      have HN := Lib.hid (show endK t (k + 1) = endK t k + t k from rfl)
      have hkl : (k : Int) < (n : Int) := by omega
      have hal := (Below.refl W.heap.size W).alloc (Nat.le_refl _) (.cells #[.int .i64 (t k), .int .i64 (v k), .int .i64 (d k)] 52)
      obtain ⟨fn, tmps, assign, body, hy, hR⟩ := HY.out k k _ (HJJ.out _ _ _ hJk (hal.mono hWW)) ⟨rfl, hlt⟩
      have HJB2 := Lib.hid (HJB.out.block (hal.block B hBW))
      have hsz2 : (W.alloc (.cells #[.int .i64 (t k), .int .i64 (v k), .int .i64 (d k)] 52)).heap.size = W.heap.size + 1 := by simp
      dsimp only [encE] at hy
      rw [HN.out] at hy
      clear hJB hJk hal ht
      generalize endK t k = en at *
      generalize t k = tk at *
      gi_wp2
      refine hR.mono ?_
      rintro e W3 ⟨rfl, hJ3, hk3⟩
      have HJB3 := Lib.hid (HJB2.out.block (hk3.2 B (.inr rfl) (by rw [hsz2]; omega)))
      have hs3 : W.heap.size + 1 ≤ W3.heap.size := by have := hk3.1; omega
      have HJ3 := Lib.hid hJ3
      clear hJ3 hk3 hR hy g0 g1 g2
      gi_wp2
      go_roundw
      case rel => exact ⟨k + 1, by go_num, by rw [HN.out], by omega, HJ3.out, HJB3.out, by omega, by omega⟩
      case measure => simp [intOf] <;> omega
    · obtain rfl : k = n := by omega
      clear hJB
      gi_wp2
      go_end0
      exact ⟨⟨_, rfl⟩, _, rfl, hJk⟩
end Go.Proofs.Ytmcongioghkdcac
