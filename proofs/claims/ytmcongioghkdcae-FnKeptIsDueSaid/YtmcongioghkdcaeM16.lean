import Derived.Test.YtmcongioghkdcaeRows
import Derived.WalkKit
import Derived.LoopTactic
import Derived.Outline
import Derived.WalkSpells
import Derived.WalkLawsBesides
import Derived.ProofKit
import Derived.Lib.Hide
import Derived.Deep.QuietTactic
import Derived.BigQuiet
import Derived.IntWalk
import Derived.Deep.LoopGhost
import Derived.Shelf.RegionOpenPlain
import Derived.Test.YtmcongioghkdcaeM0
import Derived.Test.YtmcongioghkdcaeM1
import Derived.Test.YtmcongioghkdcaeM15
import Derived.Test.YtmcongioghkdcaeM13
import Derived.RangeFuncNested
import Derived.RangeFuncBound
import Derived.RangeFuncCalls
import Derived.RangeFuncLeaves
import Derived.Shelf.Abstract
import Derived.Shelf.RegionOpen
import Derived.OwnWalkIn
import Derived.TacticsInMore
import Derived.LoopNIn
import Derived.LoopIn
import Derived.Test.YtmcongioghkdcaeM14
import Derived.Deep.AppendLies
import Derived.Test.YtmcongioghkdcaeM2
import Derived.Test.YtmcongioghkdcaeM6
import Derived.Test.YtmcongioghkdcaeM10
import Derived.Deep.RegionHeld3
import Derived.StillTailTactics
namespace Go.Proofs.Ytmcongioghkdcae
open Go.RowKit Go.WideShapes

theorem Try.infoIntOB : (Try.prog.info? 3).map (fun i => (i.zero, i.size, i.bytes)) = some (some (.int .i64 0), 1, 8) := by kernel_rfl
/-- the cells of block b, from its first one on, hold these numbers, and may be written -/
def RowB (w : World) (b : Nat) (xs : List Nat) : Prop := ∀ (q x : Nat), xs[q]? = some x → w.cell? ⟨b, q, none⟩ = some (.int .i64 (x : Int)) ∧ w.frozen? ⟨b, q, none⟩ = false
theorem RowB.block {w w' : World} {b : Nat} {xs : List Nat} (h : RowB w b xs) (e : w'.heap[b]? = w.heap[b]?) : RowB w' b xs := by
  intro q x hx
  obtain ⟨h1, h2⟩ := h q x hx
  exact ⟨by rw [World.cell?_of_block (w := w) e]; exact h1, by rw [World.frozen?_of_block (w := w) e]; exact h2⟩
theorem RowB.drew {w : World} {b : Nat} {xs : List Nat} (h : RowB w b xs) : RowB w.drew b xs := h
theorem RowB.drewN {w : World} {b : Nat} {xs : List Nat} (h : RowB w b xs) (n : Nat) : RowB (w.drewN n) b xs := h
theorem RowB.at {w : World} {b q : Nat} {xs : List Nat} (h : RowB w b xs) (hq : q < xs.length) : w.cell? ⟨b, q, none⟩ = some (.int .i64 ((xs.getD q 0 : Nat) : Int)) ∧ w.frozen? ⟨b, q, none⟩ = false := by
  refine h q _ ?_
  rw [List.getD_eq_getElem?_getD, List.getElem?_eq_getElem hq]; rfl
theorem RowB.lt {w : World} {b : Nat} {xs : List Nat} (h : RowB w b xs) (hq : 0 < xs.length) : b < w.heap.size := World.block_lt_of_cell? w _ (h.at hq).1
theorem RowB.put {w : World} {b : Nat} {xs : List Nat} (h : RowB w b xs) {k : Nat} (hk : k < xs.length) (v : Nat) : RowB (w.setCell ⟨b, k, none⟩ (.int .i64 (v : Int))) b (xs.set k v) := by
  intro q x hx
  rw [List.getElem?_set] at hx
  refine ⟨?_, ?_⟩
  · by_cases e : k = q
    · subst e
      rw [if_pos rfl, if_pos hk] at hx
      cases hx
      exact World.cell?_setCell_same _ _ _ (h.at hk).1
    · rw [if_neg e] at hx
      rw [World.cell?_setCell_other _ _ _ _ (by intro e'; injection e' with _ e2; exact e (by omega))]
      exact (h q x hx).1
  · rw [World.frozen?_setCell]
    by_cases e : k = q
    · subst e; exact (h.at hk).2
    · rw [if_neg e] at hx; exact (h q x hx).2
theorem RowB.ints {w : World} {b n : Nat} {xs : List Nat} (h : RowB w b xs) (hl : xs.length = n) (hn : n ≤ 1048576) {S : Nat → Prop} (hS : S b) : IntsAt w S (some ⟨b, 0, none⟩) n (natI xs) :=
  ⟨by simp [natI, hl], by omega, fun _ => ⟨b, 0, rfl, hS, fun i x hx => by
    obtain ⟨y, rfl, hy⟩ := natI_get hx
    have := (h i y hy).1
    simpa using this⟩⟩
theorem getD_set_self {xs : List Nat} {k v : Nat} (h : k < xs.length) : (xs.set k v).getD k 0 = v := by simp [List.getD_eq_getElem?_getD, h]
theorem RowB.swap {w : World} {b : Nat} {xs : List Nat} (h : RowB w b xs) {i j : Nat} (hi : i < xs.length) (hj : j < xs.length) :
    RowB ((w.setCell ⟨b, i, none⟩ (.int .i64 ((xs.getD j 0 : Nat) : Int))).setCell ⟨b, j, none⟩ (.int .i64 ((xs.getD i 0 : Nat) : Int))) b (swN xs i j) :=
  (h.put hi (xs.getD j 0)).put (by simpa using hj) (xs.getD i 0)
end Go.Proofs.Ytmcongioghkdcae
namespace Go.Proofs.Ytmcongioghkdcae
open Go.RowKit Go.WideShapes

end Go.Proofs.Ytmcongioghkdcae
namespace Go.Proofs.Ytmcongioghkdcae
open Go.RowKit

-- A range over a function that writes memory of its own between its rounds, and whose rounds are never left: told by the number of rounds gone.
/-- all blocks from n on that W has are as they were -/
def KeepsUp (n : Nat) (W W' : World) : Prop := W.heap.size ≤ W'.heap.size ∧ ∀ b, n ≤ b → b < W.heap.size → W'.heap[b]? = W.heap[b]?
theorem KeepsUp.refl (n : Nat) (W : World) : KeepsUp n W W := ⟨Nat.le_refl _, fun _ _ _ => rfl⟩
theorem KeepsUp.trans {n : Nat} {A B C : World} (h : KeepsUp n A B) (g : KeepsUp n B C) : KeepsUp n A C :=
  ⟨Nat.le_trans h.1 g.1, fun b hb hlt => (g.2 b hb (Nat.lt_of_lt_of_le hlt h.1)).trans (h.2 b hb hlt)⟩
theorem KeepsUp.mono {n m : Nat} {A B : World} (h : KeepsUp n A B) (hm : n ≤ m) : KeepsUp m A B := ⟨h.1, fun b hb hlt => h.2 b (Nat.le_trans hm hb) hlt⟩
theorem KeepsUp.setCell (n : Nat) (W : World) {p : Addr} (hp : p.block < n) (v : Value) : KeepsUp n W (W.setCell p v) :=
  ⟨by simp [World.setCell], fun b hb _ => Below.heap_setCell _ _ _ _ (by omega)⟩
theorem KeepsUp.drew (n : Nat) (W : World) : KeepsUp n W W.drew := ⟨Nat.le_refl _, fun _ _ _ => rfl⟩
theorem KeepsUp.putObj {n l : Nat} (W : World) (h : l < n) (o : Obj) : KeepsUp n W (W.putObj l o) := ⟨by simp, fun b hb _ => World.putObj_heap_other (by omega)⟩
theorem below_putObj {n l : Nat} (W : World) (h : n ≤ l) (o : Obj) : Below n W (W.putObj l o) := ⟨rfl, rfl, rfl, by simp, fun k hk => World.putObj_heap_other (by omega)⟩

/-- how a round's body ends: what lies from n on is kept, and the invariant is carried on -/
def countPost (n : Nat) (R : World → Prop) (W : World) : Exit → Act → World → Prop
  | .normal, _, W' => KeepsUp n W W' ∧ R W'
  | _, _, _ => False
/-- the contract of a function that yields: S tells how many rounds there are, E what comes with which -/
def SeqCount {α : Type} (F : Fence) (n : Nat) (P : Program) (gf : Nat) (lb : Array Value) (enc : α → Value) (S : Nat → Prop) (E : Nat → Nat → α → World → Prop) (w : World) : Prop :=
  ∀ (l : Nat) (J : Nat → World → Prop) (W1 : World), Below w.heap.size w W1 → W1.heap.size = w.heap.size + 2 →
    (∀ k A B, J k A → Below W1.heap.size A B → J k B) →
    (∀ k x W, J k W → E W1.heap.size k x W → YieldAt F (n - 1) P l #[enc x] W fun e W' => e = .returned (.bool true) ∧ J (k + 1) W' ∧ KeepsUp W1.heap.size W W') →
    J 0 W1 → CallsIn F n P gf (#[.func (.yield l) #[] #[]] ++ lb) W1 fun e W' => (∃ v, e = .returned v) ∧ ∃ k, S k ∧ J k W'
theorem wpIn_rangeFunc_count {α : Type} {F : Fence} {n : Nat} {P : Program} {g : Operand} {ps : Array Tmp} {assign body : Code} {Q : Exit → Act → World → Prop} {a : Act} {w : World}
    (hro : F.round = none) (h1 : 1 ≤ n) {gf : Nat} {lb : Array Value} (hg : a.eval g = .func (.func gf) #[] lb) (hFg : F.fn gf) (eg : ∀ args w, (callFunc gf args).run P w = .ok (.enter gf args) w)
    {enc : α → Value} {S : Nat → Prop} {E : Nat → Nat → α → World → Prop} (hseq : SeqCount F (n - 1) P gf lb enc S E w) (hps : ps.size = 1)
    (hE : ∀ m k x A B, E m k x A → KeepsUp m A B → E m k x B)
    (I : Nat → World → Prop) (hI : ∀ k A B, I k A → Below w.heap.size A B → I k B) (h0 : I 0 w) (a₁ : α → Act)
    (hassign : ∀ (l : Nat) (x : α) (W : World) (K : Act → World → Prop), K (a₁ x) W →
      assign.wpIn (F.inRound l) (n - 1 - 1) P (Exit.then K (fun _ _ _ => False)) { tmps := (ps.zip #[enc x]).foldl (fun t (p, v) => t.setIfInBounds p v) a.tmps, defers := [] } W)
    (hbody : ∀ (l k : Nat) (x : α) (W : World), I k W → E (w.heap.size + 2) k x W → w.heap.size + 2 ≤ W.heap.size → body.wpIn (F.inRound l) (n - 1 - 1) P (countPost w.heap.size (I (k + 1)) W) (a₁ x) W)
    (hdone : ∀ (D k : Nat) (W : World), w.heap.size ≤ D → S k → I k W → W.heap[D]? = some (.deferred (some [])) → Q .normal { a with defers := { target := .collected D, args := #[] } :: a.defers } W) :
    (Code.rangeFunc g ps assign body).wpIn F n P Q a w := by
  refine wpIn_rangeFunc ?_
  intro fn hfn
  rw [hro]
  obtain ⟨rec, hrec⟩ : ∃ rec : LoopState → Loop, rec = fun st => { state := st, pending := none, fn, tmps := a.tmps, params := ps, assign, body, defers := w.heap.size } := ⟨_, rfl⟩
  obtain ⟨W1, hW1⟩ : ∃ W1, (w.alloc (.deferred (some []))).alloc (.loop (rec .ready)) = W1 := ⟨_, rfl⟩
  have hsz : W1.heap.size = w.heap.size + 2 := by rw [← hW1]; simp
  have hb1 : Below w.heap.size w W1 := by rw [← hW1]; exact ((Below.refl _ w).alloc (Nat.le_refl _) _).alloc (by simp) _
  have hL1 : W1.heap[w.heap.size + 1]? = some (.loop (rec .ready)) := by
    rw [← hW1]; have := World.alloc_heap_new (w.alloc (.deferred (some []))) (.loop (rec .ready)); rwa [World.size_alloc] at this
  have hK1 : W1.heap[w.heap.size]? = some (.deferred (some [])) := by
    rw [← hW1]; exact (Below.heap_alloc _ _ _ (by simp)).trans (World.alloc_heap_new w _)
  refine ⟨w.heap.size + 1, [{ target := .collected w.heap.size, args := #[] }], W1, { target := .fn (.func gf) lb, args := #[.func (.yield (w.heap.size + 1)) #[] #[]] }, W1, gf,
    #[.func (.yield (w.heap.size + 1)) #[] #[]] ++ lb, W1, ?_, ?_, ?_, ?_, fun _ => h1, ?_⟩
  · rw [← hW1, hrec]; exact run_enterLoop_outer _ _ _ _ _
  · simp only [resolve, hg]
    simp [go_sem]
  · intro f' hf'; simp [Target.leads] at hf'; subst hf'; exact hFg
  · simp [invoke, go_sem, eg]
  · refine (hseq (w.heap.size + 1)
      (fun k W => I k W ∧ W.heap[w.heap.size + 1]? = some (.loop (rec .ready)) ∧ W.heap[w.heap.size]? = some (.deferred (some [])))
      W1 hb1 hsz
      (fun k A B hs hb => ⟨hI k A B hs.1 (hb.mono (by omega)), (hb.block _ (by omega)).trans hs.2.1, (hb.block _ (by omega)).trans hs.2.2⟩)
      ?_ ⟨hI 0 _ _ h0 hb1, hL1, hK1⟩).mono ?_
    · rintro k x W ⟨hi, hl, hk⟩ he
      have hlt : w.heap.size + 1 < W.heap.size := (Array.getElem?_eq_some_iff.1 hl).1
      have hy := run_yield (P := P) (args := #[enc x]) hl (by rw [hrec]; exact hps.symm)
      rw [hrec] at hy
      refine ⟨fn, _, assign, body, hy, roundIn_of_wpIn hfn (hassign _ x W _ ⟨_, run_beginRound hl (by rw [hrec]), ?_⟩)⟩
      obtain ⟨W2, hW2⟩ : ∃ W2, W.putObj (w.heap.size + 1) (.loop { rec .ready with state := .busy }) = W2 := ⟨_, rfl⟩
      have hl2 : W2.heap[w.heap.size + 1]? = some (.loop { rec .ready with state := .busy }) := by rw [← hW2]; exact World.putObj_heap_same hlt
      have hk2 : W2.heap[w.heap.size]? = some (.deferred (some [])) := by rw [← hW2]; exact (World.putObj_heap_other (by omega)).trans hk
      have hs2 : W2.heap.size = W.heap.size := by rw [← hW2]; simp
      have hu2 : KeepsUp W1.heap.size W W2 := by rw [← hW2]; exact KeepsUp.putObj _ (by omega) _
      have hi2 : I k W2 := by rw [← hW2]; exact hI k _ _ hi (below_putObj _ (by omega) _)
      rw [hW2]
      refine wpIn_mono (hbody _ k x W2 hi2 (by rw [← hsz]; exact hE _ k x _ _ he hu2) (by omega)) ?_
      rintro e a3 W3 hp
      cases e with
      | normal =>
        obtain ⟨hu3, hi3⟩ := hp
        have hl3 := (hu3.2 _ (by omega) (by omega)).trans hl2
        have hr := run_endRound (P := P) none hl3
        have hlt3 : w.heap.size + 1 < W3.heap.size := (Array.getElem?_eq_some_iff.1 hl3).1
        refine ⟨_, _, hr, rfl, ⟨hI _ _ _ hi3 (below_putObj _ (by omega) _), ?_, (World.putObj_heap_other (by omega)).trans ((hu3.2 _ (by omega) (by omega)).trans hk2)⟩, hu2.trans ((hu3.mono (by omega)).trans (KeepsUp.putObj _ (by omega) _))⟩
        rw [World.putObj_heap_same hlt3, hrec]; rfl
      | ret => exact hp.elim
      | exit id => exact hp.elim
      | goto t => exact hp.elim
      | panic ch => exact hp.elim
      | outgrown => exact hp.elim
    · rintro e W2 ⟨⟨v, rfl⟩, k, hS, hi, hl, hk⟩
      exact ⟨none, _, by have := run_endLoop (P := P) hl (by rw [hrec]; simp); rw [hrec] at this; exact this, hdone _ k _ (Nat.le_refl _) hS (hI _ _ _ hi (below_putObj _ (by omega) _)) ((World.putObj_heap_other (by omega)).trans hk)⟩
end Go.Proofs.Ytmcongioghkdcae
namespace Go.Proofs.Ytmcongioghkdcae
open Go.RowKit Go.WideShapes

attribute [local go_sem] Oper.semAt_some

/-- what holds behind k rounds -/
structure LeastI (w : World) (n : Nat) (a : Option Addr) (len cap : Nat) (sp : Nat → Int) (k : Nat) (W : World) : Prop where
  below : Below w.heap.size w W
  jobs : W.cell? ⟨n, 0, none⟩ = some (.slice a len cap)
  least : W.cell? ⟨n + 1, 0, none⟩ = some (.int .i64 (lstT sp k))
  free : W.frozen? ⟨n + 1, 0, none⟩ = false
theorem LeastI.later {w : World} {n : Nat} {a : Option Addr} {len cap : Nat} {sp : Nat → Int} {k m : Nat} {A B : World} (h : LeastI w n a len cap sp k A) (hb : Below m A B) (hm : n + 2 ≤ m) (hw : w.heap.size ≤ n) : LeastI w n a len cap sp k B :=
  ⟨h.below.trans (hb.mono (by omega)), (hb.cell (p := ⟨n, 0, none⟩) (by show n < m; omega)).trans h.jobs, (hb.cell (p := ⟨n + 1, 0, none⟩) (by show n + 1 < m; omega)).trans h.least, by
    rw [World.frozen?_of_block (w := A) (hb.block (n + 1) (by omega))]; exact h.free⟩
def encS (x : Option Addr × Nat × Nat) : Value := .slice x.1 x.2.1 x.2.2
/-- the one order that comes -/
def OneE (a2 : Option Addr) (len2 cap2 : Nat) (T : Nat → Prop) (o : List Int) (_ k : Nat) (x : Option Addr × Nat × Nat) (W : World) : Prop := k = 0 ∧ x = (a2, len2, cap2)
end Go.Proofs.Ytmcongioghkdcae
namespace Go.Proofs.Ytmcongioghkdcae
open Go.RowKit Go.WideShapes

/-- what SpanTried answers -/
def triedFine (rows : List (List Int)) : Bool := pairsM rows && decide (rows.length ≤ 5)
def triedRes (rows : List (List Int)) : Int := if triedFine rows then fromT (ta rows) (tb rows) rows.length rows.length [] else -1
theorem triedRes_no {rows : List (List Int)} (h : triedFine rows = false) : triedRes rows = -1 := by unfold triedRes; rw [h]; rfl
theorem triedRes_yes {rows : List (List Int)} (h : triedFine rows = true) : triedRes rows = fromT (ta rows) (tb rows) rows.length rows.length [] := by unfold triedRes; rw [h]; rfl
end Go.Proofs.Ytmcongioghkdcae
namespace Go.Proofs.Ytmcongioghkdcae
open Go.RowKit Go.WideShapes

attribute [local go_sem] Oper.semAt_some

/-- a loop told by a number that falls, and that no slot holds -/
theorem wpIn_loop_ghost {F : Fence} {n : Nat} {P : Program} {Q : Exit → Act → World → Prop} {c : Code} (J : Nat → Act → World → Prop)
    (round : ∀ k a w, J k a w → c.wpIn F n P (Exit.then (fun a' w' => ∃ k', k' < k ∧ J k' a' w') Q) a w) {m : Nat} {a : Act} {w : World} (h0 : J m a w) : (Code.loop c).wpIn F n P Q a w := by
  refine wpIn_loop_rounds (m + 1) ?_
  have key : ∀ (m k : Nat) (a : Act) (w : World), k < m → J k a w → Code.roundsIn F n P c Q m a w := by
    intro m
    induction m with
    | zero => intro k a w h; omega
    | succ m ih =>
      intro k a w h hJ
      refine wpIn_mono (round k a w hJ) ?_
      intro e a' w' hq
      cases e with
      | normal => obtain ⟨k', hk, hJ'⟩ := hq; exact ih k' a' w' (by omega) hJ'
      | _ => exact hq
  exact key (m + 1) m a w (by omega) h0
set_option maxHeartbeats 1000000 in
theorem firstOrder_any (n : Nat) (w : World) (hn : n ≤ 8) :
    Calls Try.prog 51 #[.int .i64 n] w fun e w' => e = .returned (.slice (some ⟨w.heap.size, 0, none⟩) n n) ∧ OwnF w w' n (fun q => (q : Int)) := by
  have hmk := fun w => run_make_row' (P := Try.prog) 24 3 (.int .i64 0) 8 Try.underlying24 Try.infoIntOB rfl .i64 .i64 n (by omega) (by omega) w
  go_enter Try.func51, Try.ntmps51
  go_wp2_with fail
  clear hmk
  go_loopw [9] (fun i wr => ∃ k : Nat, k ≤ n ∧ i = .int .i64 k ∧ OwnF w wr n (fun q => if q < k then (q : Int) else 0)) (fun i _ => n - (intOf i).toNat)
  case atStart => exact ⟨0, Nat.zero_le _, rfl, (OwnF.start w n (by omega)).congr (fun q _ => by rw [if_neg (by omega)])⟩
  case round =>
    obtain ⟨k, hk, rfl, hC⟩ := hrel
    by_cases hlt : k < n
    · obtain ⟨c1, f1⟩ := hC.cell hlt
      have HC := Lib.hid hC
      have hkn : (k : Int) < (n : Int) := by omega
      clear hC
      go_wp2_with fail
      go_roundw
      case rel => exact ⟨k + 1, by omega, by go_num, (HC.out.put k _).congr (fun q hq => by
        by_cases e : q = k
        · subst e; rw [if_pos rfl, if_pos (by omega)]
        · rw [if_neg e]
          by_cases e2 : q < k
          · rw [if_pos e2, if_pos (by omega)]
          · rw [if_neg e2, if_neg (by omega)])⟩
      case measure => simp [intOf] <;> omega
    · have HC := Lib.hid (hC.congr (g := fun q => (q : Int)) (fun q hq => by rw [if_pos (by omega)]))
      clear hC
      go_wp2_with fail
      go_ret
      exact ⟨rfl, HC.out⟩
theorem OwnF.rowB {w w' : World} {n : Nat} (h : OwnF w w' n (fun q => (q : Int))) : RowB w' w.heap.size (List.range n) := by
  intro q x hx
  have hq : q < n := by have := (List.getElem?_eq_some_iff.1 hx).1; simpa using this
  rw [List.getElem?_range hq] at hx
  cases hx
  exact h.cell hq
end Go.Proofs.Ytmcongioghkdcae
namespace Go.Proofs.Ytmcongioghkdcae
open Go.RowKit Go.WideShapes

theorem resC_low {w w2 w' : World} {xs : List Int} {e : Ending} (hb : Below w.heap.size w w2) (h : ResPostC w2 xs e w') : ResPostC w xs e w' := by
  obtain ⟨a, l, c, h1, h2, h3, h4, h5⟩ := h
  have hz := hb.size
  exact ⟨a, l, c, h1, h2.to (fun b hb => ⟨⟨Nat.le_trans hz hb.1, hb.2⟩, rfl⟩), h3.to (fun b hb => ⟨⟨Nat.le_trans hz hb.1, hb.2⟩, rfl⟩), h4, hb.trans (h5.mono hz)⟩
/-- less, the same, more -/
def cc6 (p q : Int) : Int := if p < q then -1 else if q < p then 1 else 0
theorem cc6_lt {p q : Int} : cc6 p q < 0 ↔ p < q := by
  unfold cc6; split
  · omega
  · split <;> omega
theorem isNaN6_any (p : Int) (w : World) : Calls Try.prog 59 #[.int .i64 p] w fun e w' => e = .returned (.bool false) ∧ w = w' := by
  have h1 : (p != p) = false := by simp
  go_enter Try.func59, Try.ntmps59
  go_wp2_with fail
  go_ret
  exact ⟨rfl, rfl⟩
theorem compare6_any (p q : Int) (w : World) : Calls Try.prog 54 #[.int .i64 p, .int .i64 q] w fun e w' => e = .returned (.int .i64 (cc6 p q)) ∧ w = w' := by
  by_cases h1 : p < q
  · have HC := Lib.hid (show cc6 p q = -1 from if_pos h1)
    go_enter Try.func54, Try.ntmps54
    go_wp2_with (go_at_call 59; refine (isNaN6_any _ _).mono ?_; rintro e w' ⟨rfl, rfl⟩)
    go_ret
    exact ⟨ret_int HC.out.symm, rfl⟩
  · by_cases h2 : q < p
    · have HC := Lib.hid (show cc6 p q = 1 by unfold cc6; rw [if_neg h1, if_pos h2])
      go_enter Try.func54, Try.ntmps54
      go_wp2_with (go_at_call 59; refine (isNaN6_any _ _).mono ?_; rintro e w' ⟨rfl, rfl⟩)
      go_ret
      exact ⟨ret_int HC.out.symm, rfl⟩
    · have HC := Lib.hid (show cc6 p q = 0 by unfold cc6; rw [if_neg h1, if_neg h2])
      go_enter Try.func54, Try.ntmps54
      go_wp2_with (go_at_call 59; refine (isNaN6_any _ _).mono ?_; rintro e w' ⟨rfl, rfl⟩)
      go_ret
      exact ⟨ret_int HC.out.symm, rfl⟩
/-- how a rule compares two jobs -/
def CmpIs (f : Nat) (ah : Int → Int → Int → Int → Int → Int → Bool) : Prop := ∀ (t v d t' v' d' : Int) (w : World), 0 ≤ t ∧ t ≤ 9 → 0 ≤ v ∧ v ≤ 9 → 0 ≤ d ∧ d ≤ 60 → 0 ≤ t' ∧ t' ≤ 9 → 0 ≤ v' ∧ v' ≤ 9 → 0 ≤ d' ∧ d' ≤ 60 →
  ∃ cv : Int, (cv < 0 ↔ ah t v d t' v' d' = true) ∧ Calls Try.prog f #[.agg #[.int .i64 t, .int .i64 v, .int .i64 d], .agg #[.int .i64 t', .int .i64 v', .int .i64 d']] w fun e w' => e = .returned (.int .i64 cv) ∧ Below w.heap.size w w'
theorem byWait_any : CmpIs 50 (fun t v _ t' v' _ => decide (v' * t < v * t')) := by
  intro t v d t' v' d' w ht hv hd ht' hv' hd'
  have p1 : 0 ≤ v' * t ∧ v' * t ≤ 9 * 9 := ⟨Int.mul_nonneg hv'.1 ht.1, Int.mul_le_mul hv'.2 ht.2 ht.1 (by omega)⟩
  have p2 : 0 ≤ v * t' ∧ v * t' ≤ 9 * 9 := ⟨Int.mul_nonneg hv.1 ht'.1, Int.mul_le_mul hv.2 ht'.2 ht'.1 (by omega)⟩
  refine ⟨cc6 (v' * t) (v * t'), by rw [cc6_lt, decide_eq_true_iff], ?_⟩
  have HC := Lib.hid (fun w => compare6_any (v' * t) (v * t') w)
  generalize cc6 (v' * t) (v * t') = cv at *
  go_enter Try.func50, Try.ntmps50
  go_wp2_with fail
  refine (HC.out _).mono ?_
  rintro e w' ⟨rfl, rfl⟩
  go_wp2_with fail
  go_ret
  exact ⟨rfl, ((Below.refl _ w).alloc (Nat.le_refl _) _).alloc (by simp) _⟩
theorem byDue_any : CmpIs 36 (fun _ _ d _ _ d' => decide (d < d')) := by
  intro t v d t' v' d' w ht hv hd ht' hv' hd'
  refine ⟨cc6 d d', by rw [cc6_lt, decide_eq_true_iff], ?_⟩
  have HC := Lib.hid (fun w => compare6_any d d' w)
  generalize cc6 d d' = cv at *
  go_enter Try.func36, Try.ntmps36
  go_wp2_with fail
  refine (HC.out _).mono ?_
  rintro e w' ⟨rfl, rfl⟩
  go_wp2_with fail
  go_ret
  exact ⟨rfl, ((Below.refl _ w).alloc (Nat.le_refl _) _).alloc (by simp) _⟩
end Go.Proofs.Ytmcongioghkdcae
namespace Go.Proofs.Ytmcongioghkdcae
open Go.RowKit Go.WideShapes

set_option maxHeartbeats 1000000 in
theorem byRule1_any (f : Nat) (ah : Int → Int → Int → Int → Int → Int → Bool) (hent : ∀ (args : Array Value) (w : World), (callFunc f args).run Try.prog w = .ok (.enter f args) w) (hf : CmpIs f ah)
    (B1 B2 B n x y : Nat) (t v d : Nat → Int) (w : World) (hbd : ∀ q, (0 ≤ t q ∧ t q ≤ 9) ∧ (0 ≤ v q ∧ v q ≤ 9) ∧ (0 ≤ d q ∧ d q ≤ 60))
    (h1 : w.cell? ⟨B1, 0, none⟩ = some (.func (.func f) #[] #[])) (h2 : w.cell? ⟨B2, 0, none⟩ = some (.slice (some ⟨B, 0, none⟩) n n)) (hJ : JobsB w B n t v d) (hx : x < n) (hy : y < n) (hn : n ≤ 8) :
    ∃ cv : Int, (cv < 0 ↔ ah (t x) (v x) (d x) (t y) (v y) (d y) = true) ∧ Calls Try.prog 53 #[.int .i64 (x : Int), .int .i64 (y : Int), .pointer (some ⟨B1, 0, none⟩), .pointer (some ⟨B2, 0, none⟩)] w fun e w' => e = .returned (.int .i64 cv) ∧ Below w.heap.size w w' := by
  obtain ⟨cv, hcv, hC⟩ := hf (t x) (v x) (d x) (t y) (v y) (d y) w.drew (hbd x).1 (hbd x).2.1 (hbd x).2.2 (hbd y).1 (hbd y).2.1 (hbd y).2.2
  refine ⟨cv, hcv, ?_⟩
  have HC := Lib.hid hC
  obtain ⟨g0, g1, g2⟩ := hJ.at hx
  obtain ⟨k0, k1, k2⟩ := hJ.at hy
  have hxI : (x : Int) < (n : Int) := by omega
  have hyI : (y : Int) < (n : Int) := by omega
  clear hJ hcv hC hbd hf
  go_enter Try.func53, Try.ntmps53
  go_wp2_with fail
  go_still_tail 9, (by kernel_rfl)
  change wpList _ _ _ _ _ w.drew
  go_wp2_with fail
  refine HC.out.mono ?_
  rintro e w' ⟨rfl, hb⟩
  go_wp2_with fail
  go_ret
  exact ⟨rfl, (Below.refl _ w).drew.trans hb⟩
/-- what the closure answers, whenever it is called -/
def CmpAt (cf : Nat) (lb : Array Value) (ah : Nat → Nat → Bool) (n b : Nat) (w : World) : Prop := ∀ (i y : Nat) (W : World), i < n → y < i → Below b w W →
  ∃ cv : Int, (cv < 0 ↔ ah i y = true) ∧ Calls Try.prog cf (#[.int .i64 (i : Int), .int .i64 (y : Int)] ++ lb) W fun e w' => e = .returned (.int .i64 cv) ∧ Below W.heap.size W w'
set_option maxRecDepth 100000 in
set_option maxHeartbeats 4000000 in
/-- Go's insertion sort of a block of numbers, by a closure that makes memory -/
theorem insertion6_any (ah : Nat → Nat → Bool) (B1 B2 b n cp : Nat) (w : World) (hn8 : n ≤ 8) (hb : b < w.heap.size) (hC : CmpAt 53 #[.pointer (some ⟨B1, 0, none⟩), .pointer (some ⟨B2, 0, none⟩)] ah n b w) (hR : RowB w b (List.range n)) :
    Calls Try.prog 62 #[.slice (some ⟨b, 0, none⟩) n cp, .int .i64 0, .int .i64 n, .func (.func 53) #[] #[.pointer (some ⟨B1, 0, none⟩), .pointer (some ⟨B2, 0, none⟩)]] w fun e w' => e = .returned (.tuple #[]) ∧ RowB w' b (sortE ah n) ∧ Below b w w' := by
  have mixed : Try.prog.follows .mixedOrders = true := by kernel_rfl
  have hent := enters_of Try.func53 (by kernel_rfl) rfl
  have HCA := Lib.hid hC
  have HR := Lib.hid hR
  clear hC hR
  go_enter Try.func62, Try.ntmps62
  go_wp2_with fail
  go_loopg [8] n (fun g s8 wr => ∃ i : Nat, s8 = .int .i64 (i : Int) ∧ 1 ≤ i ∧ n - i ≤ g ∧ Below b w wr ∧ (i < n → RowB wr b (insAt (sortE ah i) i [] n)) ∧ (n ≤ i → RowB wr b (sortE ah n)))
  case atStart =>
    refine ⟨1, rfl, by omega, by omega, Below.refl _ _, fun h => ?_, fun h => ?_⟩
    · rw [← ins_first ah h]; exact HR.out
    · have : List.range n = sortE ah n := by
        rcases Nat.eq_zero_or_pos n with e | e
        · rw [e]; rfl
        · rw [show n = 1 by omega, sortE_one]; rfl
      rw [← this]; exact HR.out
  case round =>
    obtain ⟨i, rfl, hi1, hg, hB, h1, h2⟩ := hrel
    have H1 := Lib.hid h1
    have H2 := Lib.hid h2
    have HB := Lib.hid hB
    clear h1 h2 hB
    by_cases hlt : i < n
    · have hin : (i : Int) < (n : Int) := by omega
      have HRL := Lib.hid (sortE_len ah i)
      go_wp2_with fail
      go_loopg [9] i (fun g2 s9 wy => ∃ (l1 l2 : List Nat), s9 = .int .i64 (l1.length : Int) ∧ l1.length ≤ g2 ∧ l1 ++ l2 = sortE ah i ∧ (∀ y ∈ l2, ah i y = true) ∧ RowB wy b (insAt l1 i l2 n) ∧ Below b w wy)
      case atStart => exact ⟨sortE ah i, [], by rw [HRL.out], by rw [HRL.out]; exact Nat.le_refl _, List.append_nil _, (fun y hy => by cases hy), H1.out hlt, HB.out⟩
      case round =>
        obtain ⟨l1, l2, rfl, hg2, hl, h2, hRow, hBy⟩ := hrel
        have H2' := Lib.hid h2
        have HRow := Lib.hid hRow
        have HBy := Lib.hid hBy
        have HLL := Lib.hid hl
        have hll : l1.length + l2.length = i := by have := congrArg List.length hl; simpa [HRL.out] using this
        have hlen := insAt_length (l1 := l1) (l2 := l2) hll hlt
        clear h2 hRow hBy hl
        rcases List.eq_nil_or_concat l1 with rfl | ⟨l, y, rfl⟩
        · have HD := Lib.hid (insE_done HLL.out (fun l z e => by simp at e) H2'.out)
          have hj0 : decide ((0 : Int) < 0) = false := rfl
          rw [List.length_nil]
          go_wp2_with fail
          go_quiet (fail)
          go_wp2_with fail
          go_roundg (n - (i + 1))
          case measure => omega
          case rel => exact ⟨i + 1, by go_num, by omega, by omega, below_drewN HBy.out _, fun h => by
              have := (HRow.out.drewN nq)
              rw [ins_next h HD.out] at this
              exact this, fun h => by
              have := (HRow.out.drewN nq)
              have e : n = i + 1 := by omega
              subst e
              rw [ins_last HD.out] at this
              exact this⟩
        · rw [List.concat_eq_append] at HLL HRow hll hlen ⊢
          rw [List.length_append, List.length_singleton] at hll ⊢
          have c1 := (HRow.out.at (q := l.length + 1) (by omega)).1
          have c2 := (HRow.out.at (q := l.length) (by omega)).1
          have e1 : (insAt (l ++ [y]) i l2 n).getD (l.length + 1) 0 = i := by have := insAt_here (l ++ [y]) l2 i n; simpa using this
          rw [e1] at c1
          rw [insAt_ahead] at c2
          have hyi : y < i := by
            have hm : y ∈ sortE ah i := by rw [← HLL.out]; simp
            exact sortE_mem.1 hm
          obtain ⟨cv, hcv, hcall⟩ := HCA.out i y wr.drew hlt hyi HBy.out.drew
          have HCV := Lib.hid hcv
          have HCM := Lib.hid (show Calls Try.prog 53 #[.int .i64 (i : Int), .int .i64 (y : Int), .pointer (some ⟨B1, 0, none⟩), .pointer (some ⟨B2, 0, none⟩)] wr.drew (fun e w' => e = .returned (.int .i64 cv) ∧ Below wr.drew.heap.size wr.drew w') from hcall)
          have hbw : b < wr.heap.size := Nat.lt_of_lt_of_le hb HBy.out.size
          have e2 : ((l.length + 1 : Nat) : Int) - 1 = (l.length : Int) := by omega
          have e3 : ((l.length + 1 : Nat) : Int) = (l.length : Int) + 1 := by omega
          have hj1 : l.length + 1 < n := by omega
          have hj2 : (l.length : Int) + 1 < (n : Int) := by omega
          have hj3 : (l.length : Int) < (n : Int) := by omega
          have hj4 : (0 : Int) < (l.length : Int) + 1 := by omega
          have hj5 : (0 : Int) ≤ (l.length : Int) + 1 := by omega
          have hj6 : l.length < n := by omega
          rw [e3]
          have HE1 := Lib.hid e1
          have HLEN := Lib.hid hlen
          clear e1 e2 e3 hcall hcv
          have HLL2 := Lib.hid hll
          obtain ⟨j, hj⟩ : ∃ j, l.length = j := ⟨_, rfl⟩
          have HJ := Lib.hid hj
          rw [hj] at c1 c2 hj1 hj2 hj3 hj4 hj5 hj6 ⊢
          clear hj hll hlen
          go_wp2_with fail
          have hw2 : IntKind.i64.wrap (j : Int) = (j : Int) := IntWalk.i64_in _ (by omega)
          have hj7 : (0 : Int) ≤ (j : Int) := by omega
          have hw1 : IntKind.i64.wrap ((j : Int) + 1 - 1) = (j : Int) := by rw [show (j : Int) + 1 - 1 = (j : Int) by omega]; exact IntWalk.i64_in _ (by omega)
          go_region_held3 (fun w' => w'.cell? ⟨b, j + 1, none⟩ = some (.int .i64 (i : Int)) ∧ w'.cell? ⟨b, j, none⟩ = some (.int .i64 (y : Int))) (first | go_keep | exact ⟨k1, k2⟩)
            (first | (go_at_call 53; refine HCM.out.mono ?_; rintro e w3 ⟨rfl, hb3⟩; have k1 := (hb3.cell (p := ⟨b, j + 1, none⟩) hbw).trans c1; have k2 := (hb3.cell (p := ⟨b, j, none⟩) hbw).trans c2))
          have HRow3 := Lib.hid (show RowB w3 b (insAt (l ++ [y]) i l2 n) from (HRow.out.drewN 1).block (hb3.block b hbw))
          have HB3 := Lib.hid (HBy.out.drew.trans (hb3.mono (by show b ≤ wr.heap.size; omega)))
          have f1 := (HRow3.out.at (q := j + 1) (by rw [HLEN.out]; omega)).2
          have f2 := (HRow3.out.at (q := j) (by rw [HLEN.out]; omega)).2
          clear hw1 hw2 c1 c2 hb3
          by_cases hcb : cv < 0
          · go_wp2_with fail
            go_region_o
            go_wp2_with fail
            have hsw := (HRow3.out).swap (i := l.length + 1) (j := l.length) (by rw [HLEN.out]; have := HJ.out; omega) (by rw [HLEN.out]; have := HJ.out; omega)
            rw [HE1.out, insAt_ahead, insAt_swap, HJ.out] at hsw
            go_roundg j
            case measure => have := HJ.out; simp at hg2; omega
            case rel => exact ⟨l, y :: l2, by rw [HJ.out], by rw [HJ.out]; exact Nat.le_refl _, by simpa using HLL.out, fun z hz => by
                rcases List.mem_cons.1 hz with rfl | hz
                · exact HCV.out.1 hcb
                · exact H2'.out z hz, hsw, ((HB3.out.setCell (p := ⟨b, j + 1, none⟩) (Nat.le_refl _) _).setCell (p := ⟨b, j, none⟩) (Nat.le_refl _) _).drew⟩
          · have HD := Lib.hid (insE_done HLL.out (fun l' z e => by
              have : z = y := by have := List.append_inj_right' e rfl; simpa using this.symm
              subst this
              cases hq : ah i z
              · rfl
              · exact absurd (HCV.out.2 hq) hcb) H2'.out)
            go_wp2_with fail
            go_roundg (n - (i + 1))
            case measure => omega
            case rel => exact ⟨i + 1, by go_num, by omega, by omega, HB3.out, fun h => by
                have := HRow3.out
                rw [ins_next h HD.out] at this
                exact this, fun h => by
                have := HRow3.out
                have e : n = i + 1 := by omega
                subst e
                rw [ins_last HD.out] at this
                exact this⟩
    · have hin : ¬ (i : Int) < (n : Int) := by omega
      go_wp2_with fail
      go_end0
      exact ⟨rfl, H2.out (by omega), HB.out⟩
theorem stable6_any (ah : Nat → Nat → Bool) (B1 B2 b n cp : Nat) (w : World) (hn8 : n ≤ 8) (hb : b < w.heap.size) (hC : CmpAt 53 #[.pointer (some ⟨B1, 0, none⟩), .pointer (some ⟨B2, 0, none⟩)] ah n b w) (hR : RowB w b (List.range n)) :
    Calls Try.prog 58 #[.slice (some ⟨b, 0, none⟩) n cp, .int .i64 n, .func (.func 53) #[] #[.pointer (some ⟨B1, 0, none⟩), .pointer (some ⟨B2, 0, none⟩)]] w fun e w' => e = .returned (.tuple #[]) ∧ RowB w' b (sortE ah n) ∧ Below b w w' := by
  have HI := Lib.hid (insertion6_any ah B1 B2 b n cp w hn8 hb hC hR)
  have h20 : ¬ (20 : Int) ≤ (n : Int) := by omega
  have h20' : ¬ (20 : Int) < (n : Int) := by omega
  clear hC hR
  go_enter Try.func58, Try.ntmps58
  go_wp2_with fail
  go_loopw [7, 8] (fun s7 s8 wr => s7 = .int .i64 0 ∧ s8 = .int .i64 20 ∧ wr = w) (fun _ _ _ => 0)
  case atStart => exact ⟨rfl, rfl, rfl⟩
  case round =>
    obtain ⟨rfl, rfl, rfl⟩ := hrel
    go_wp2_with fail
    refine HI.out.mono ?_
    rintro e w2 ⟨rfl, h1, h2⟩
    have H1 := Lib.hid h1
    have H2 := Lib.hid h2
    clear h1 h2
    go_wp2_with fail
    go_loopw [6] (fun s6 wr => s6 = .int .i64 20 ∧ wr = w2) (fun _ _ => 0)
    case atStart => exact ⟨rfl, rfl⟩
    case round =>
      obtain ⟨rfl, rfl⟩ := hrel
      go_wp2_with fail
      go_end0
      exact ⟨rfl, H1.out, H2.out⟩
theorem sortStable6_any (ah : Nat → Nat → Bool) (B1 B2 b n cp : Nat) (w : World) (hn8 : n ≤ 8) (hb : b < w.heap.size) (hC : CmpAt 53 #[.pointer (some ⟨B1, 0, none⟩), .pointer (some ⟨B2, 0, none⟩)] ah n b w) (hR : RowB w b (List.range n)) :
    Calls Try.prog 52 #[.slice (some ⟨b, 0, none⟩) n cp, .func (.func 53) #[] #[.pointer (some ⟨B1, 0, none⟩), .pointer (some ⟨B2, 0, none⟩)]] w fun e w' => e = .returned (.tuple #[]) ∧ RowB w' b (sortE ah n) ∧ Below b w w' := by
  have HI := Lib.hid (stable6_any ah B1 B2 b n cp w hn8 hb hC hR)
  clear hC hR
  go_enter Try.func52, Try.ntmps52
  go_wp2_with fail
  refine HI.out.mono ?_
  rintro e w2 ⟨rfl, h1, h2⟩
  go_wp2_with fail
  go_end0
  exact ⟨rfl, h1, h2⟩
/-- the jobs sorted by a rule, in a block of its own -/
def SortedPost (w : World) (n : Nat) (ah : Nat → Nat → Bool) (e : Ending) (w' : World) : Prop := ∃ b, e = .returned (.slice (some ⟨b, 0, none⟩) n n) ∧ w.heap.size ≤ b ∧ b < w'.heap.size ∧ RowB w' b (sortE ah n) ∧ Below w.heap.size w w'
set_option maxHeartbeats 1000000 in
theorem orderByRule_any (f : Nat) (ah : Int → Int → Int → Int → Int → Int → Bool) (hent : ∀ (args : Array Value) (w : World), (callFunc f args).run Try.prog w = .ok (.enter f args) w) (hf : CmpIs f ah)
    (B n : Nat) (t v d : Nat → Int) (w : World) (hbd : ∀ q, (0 ≤ t q ∧ t q ≤ 9) ∧ (0 ≤ v q ∧ v q ≤ 9) ∧ (0 ≤ d q ∧ d q ≤ 60)) (hB : B < w.heap.size) (hJ : JobsB w B n t v d) (hn : n ≤ 8) :
    Calls Try.prog 35 #[.slice (some ⟨B, 0, none⟩) n n, .func (.func f) #[] #[]] w (SortedPost w n (fun i y => ah (t i) (v i) (d i) (t y) (v y) (d y))) := by
  obtain ⟨w1, hw1⟩ : ∃ w1, (w.alloc (.cells #[.slice (some ⟨B, 0, none⟩) n n] 44)).alloc (.cells #[.func (.func f) #[] #[]] 53) = w1 := ⟨_, rfl⟩
  have hs1 : w1.heap.size = w.heap.size + 2 := by rw [← hw1]; simp
  have hb1 : Below w.heap.size w w1 := by rw [← hw1]; exact ((Below.refl _ w).alloc (Nat.le_refl _) _).alloc (by simp) _
  have k1 : w1.cell? ⟨w.heap.size + 1, 0, none⟩ = some (.func (.func f) #[] #[]) := by
    rw [← hw1]
    have z := cell_new_l (w.alloc (.cells #[.slice (some ⟨B, 0, none⟩) n n] 44)) (.func (.func f) #[] #[]) 53
    simp only [World.size_alloc] at z
    exact z.1
  have k2 : w1.cell? ⟨w.heap.size, 0, none⟩ = some (.slice (some ⟨B, 0, none⟩) n n) := by
    rw [← hw1]; exact cell_alloc_l _ (cell_new_l w (.slice (some ⟨B, 0, none⟩) n n) 44).1
  have hJ1 := hJ.block (hb1.block B hB)
  have HFO := Lib.hid (firstOrder_any n w1 hn)
  have HB1 := Lib.hid hb1
  have HK1 := Lib.hid k1
  have HK2 := Lib.hid k2
  have HJ1 := Lib.hid hJ1
  have HW1 := Lib.hid hw1
  have HS1 := Lib.hid hs1
  clear hw1 hb1 k1 k2 hJ1 hJ hs1
  go_enter Try.func35, Try.ntmps35
  go_wp2_with fail
  rw [HW1.out]
  refine HFO.out.mono ?_
  rintro e w2 ⟨rfl, hown⟩
  have hR2 := hown.rowB
  have hlt2 : w1.heap.size < w2.heap.size := (Array.getElem?_eq_some_iff.1 hown.heap).1
  have hb2 := hown.below
  have hC : CmpAt 53 #[.pointer (some ⟨w.heap.size + 1, 0, none⟩), .pointer (some ⟨w.heap.size, 0, none⟩)] (fun i y => ah (t i) (v i) (d i) (t y) (v y) (d y)) n w1.heap.size w2 := fun i y W hi hy hW => by
    have hs := HS1.out
    have hbW := hb2.trans hW
    exact byRule1_any f ah hent hf (w.heap.size + 1) w.heap.size B n i y t v d W hbd ((hbW.cell (p := ⟨w.heap.size + 1, 0, none⟩) (by show w.heap.size + 1 < _; omega)).trans HK1.out) ((hbW.cell (p := ⟨w.heap.size, 0, none⟩) (by show w.heap.size < _; omega)).trans HK2.out)
      (HJ1.out.block (hbW.block B (by omega))) hi (by omega) hn
  have HST := Lib.hid (sortStable6_any _ (w.heap.size + 1) w.heap.size w1.heap.size n n w2 hn hlt2 hC hR2)
  have HB2 := Lib.hid hb2
  clear hown hR2 hb2 hC
  go_wp2_with fail
  refine HST.out.mono ?_
  rintro e w4 ⟨rfl, h4, hb4⟩
  have H4 := Lib.hid h4
  have HB4 := Lib.hid hb4
  clear h4 hb4
  go_wp2_with fail
  go_ret
  exact ⟨w1.heap.size, rfl, by have := HS1.out; omega, Nat.lt_of_lt_of_le hlt2 HB4.out.size, H4.out, HB1.out.trans ((HB2.out.trans HB4.out).mono (by have := HS1.out; omega))⟩
end Go.Proofs.Ytmcongioghkdcae
