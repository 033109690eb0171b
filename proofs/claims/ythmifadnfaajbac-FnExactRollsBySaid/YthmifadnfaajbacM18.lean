import Derived.Test.YthmifadnfaajbacRows
import Derived.WalkKit
import Derived.LoopTactic
import Derived.Outline
import Derived.WalkSpells
import Derived.WalkLawsBesides
import Derived.ProofKit
import Derived.Lib.Hide
import Derived.IntWalk
import Derived.Test.YthmifadnfaajbacM0
import Derived.Test.YthmifadnfaajbacM1
import Derived.Test.YthmifadnfaajbacM8
import Derived.Test.YthmifadnfaajbacM10
import Derived.Test.YthmifadnfaajbacM2
import Derived.Test.YthmifadnfaajbacM5
import Derived.Test.YthmifadnfaajbacM17
import Derived.RangeFuncNested
import Derived.RangeFuncBound
import Derived.RangeFuncCalls
import Derived.RangeFuncLeaves
import Derived.Shelf.Abstract
import Derived.Shelf.RegionOpen
import Derived.OwnWalkIn
import Derived.TacticsInMore
import Derived.LoopNIn
import Derived.LoopIn
import Derived.Test.YthmifadnfaajbacM16
import Derived.Deep.QuietTactic
import Derived.BigQuiet
import Derived.Deep.LoopGhost
import Derived.Shelf.RegionOpenPlain
import Derived.Deep.AppendLies
import Derived.Test.YthmifadnfaajbacM6
namespace Go.Proofs.Ythmifadnfaajbac
open Go.RowKit Go.WideShapes

/-- where the job that comes at place k stands, and its times -/
theorem job_at {w : World} {S T : Nat → Prop} {a a2 : Option Addr} {len len2 : Nat} {rows : List (List Int)} {o : List Int} (h : RowsAt w S a len rows) (g : IntsAt w T a2 len2 o) (hP : ∀ r ∈ rows, r.length = 2 ∧ (0 ≤ r.getD 0 0 ∧ r.getD 0 0 ≤ 9) ∧ (0 ≤ r.getD 1 0 ∧ r.getD 1 0 ≤ 9))
    (ho : ∀ x ∈ o, 0 ≤ x ∧ x < (len : Int)) {k : Nat} (hk : k < len2) : ∃ (b off q b2 off2 b3 off3 c : Nat), a2 = some ⟨b, off, none⟩ ∧ a = some ⟨b2, off2, none⟩ ∧ o[k]? = some (q : Int) ∧ q < len ∧ w.cell? ⟨b, off + k, none⟩ = some (.int .i64 (q : Int)) ∧
      w.cell? ⟨b2, off2 + q, none⟩ = some (.slice (some ⟨b3, off3, none⟩) 2 c) ∧ w.cell? ⟨b3, off3, none⟩ = some (.int .i64 (ta rows q)) ∧ w.cell? ⟨b3, off3 + 1, none⟩ = some (.int .i64 (tb rows q)) := by
  obtain ⟨b, off, x, rfl, hx, hc⟩ := g.get hk
  have hxb := ho x (List.mem_of_getElem? hx)
  obtain ⟨q, rfl⟩ : ∃ q : Nat, x = (q : Int) := ⟨x.toNat, by omega⟩
  have hql : q < len := by omega
  obtain ⟨b2, off2, r, a', l, c, rfl, hr, hcr, _, hri⟩ := h.get hql
  obtain ⟨hr2, _, _⟩ := hP r (List.mem_of_getElem? hr)
  have hl2 : l = 2 := by rw [← hri.lenEq, hr2]
  subst hl2
  obtain ⟨b3, off3, x3, rfl, h3, hc3⟩ := hri.get (k := 0) (by omega)
  obtain ⟨b4, off4, x4, e4, h4, hc4⟩ := hri.get (k := 1) (by omega)
  cases e4
  have ht := t_at hr
  rw [getD_of h3, getD_of h4] at ht
  rw [Nat.add_zero] at hc3
  exact ⟨b, off, q, b2, off2, b3, off3, c, rfl, rfl, hx, hql, hc, hcr, by rw [ht.1]; exact hc3, by rw [ht.2]; exact hc4⟩
def turnsRes (rows : List (List Int)) (o : List Int) : Int := spanRes rows o
theorem nO_take (o : List Int) (k : Nat) : nO (o.take k) = (nO o).take k := by simp [nO, List.map_take]
theorem nO_length (o : List Int) : (nO o).length = o.length := by simp [nO]
theorem sum_take_snoc {o : List Int} {k q : Nat} (f : Nat → Int) (h : o[k]? = some (q : Int)) : sumL f ((nO o).take (k + 1)) = sumL f ((nO o).take k) + f q := by
  rw [← nO_take, ← nO_take, nO_snoc h, sumL_append, Int.toNat_natCast, sumL, sumL, Int.add_zero]
theorem sum_mid_snoc {o : List Int} {i k q : Nat} (f : Nat → Int) (h : o[i]? = some (q : Int)) (hki : k ≤ i) : sumL f (((nO o).take (i + 1)).drop k) = sumL f (((nO o).take i).drop k) + f q := by
  have hi : i < o.length := (List.getElem?_eq_some_iff.1 h).1
  rw [← nO_take, ← nO_take, nO_snoc h, List.drop_append_of_le_length (by rw [nO_length, List.length_take]; omega), sumL_append, Int.toNat_natCast, sumL, sumL, Int.add_zero]
end Go.Proofs.Ythmifadnfaajbac
namespace Go.Proofs.Ythmifadnfaajbac
open Go.RowKit Go.WideShapes

theorem pair_allIn {r : List Int} (h : r.length = 2) : pairB r = allIn 0 9 r := by
  obtain ⟨x, y, rfl⟩ : ∃ x y, r = [x, y] := by
    cases r with
    | nil => simp at h
    | cons x r => cases r with
      | nil => simp at h
      | cons y r => cases r with
        | nil => exact ⟨x, y, rfl⟩
        | cons z r => simp at h
  simp [pairB, allIn]
theorem nodup_cover {α : Type} [DecidableEq α] : ∀ (l s : List α), s.Nodup → s ⊆ l → l.length ≤ s.length → l.Nodup := by
  intro l
  induction l with
  | nil => intro s _ _ _; exact List.nodup_nil
  | cons x t ih =>
    intro s hn hs hl
    have hx : x ∉ t := by
      intro hm
      have h1 : s ⊆ t := fun y hy => by
        rcases List.mem_cons.1 (hs hy) with rfl | h
        · exact hm
        · exact h
      have := List.Nodup.length_le_of_subset hn h1
      simp at hl; omega
    refine List.nodup_cons.2 ⟨hx, ih (s.erase x) (hn.erase x) (fun y hy => ?_) ?_⟩
    · have h1 := (List.Nodup.mem_erase_iff hn).1 hy
      rcases List.mem_cons.1 (hs h1.2) with h | h
      · exact absurd h h1.1
      · exact h
    · have : s.length - 1 ≤ (s.erase x).length := by rw [List.length_erase]; split <;> omega
      simp at hl; omega
theorem order_full {o : List Int} {n D : Nat} (hr : ∀ x ∈ o, 0 ≤ x ∧ x < (n : Int)) (hl : o.length = n) (hD : ∀ i, D.testBit i = decide ((i : Int) ∈ o)) : orderM o n = decide (D = 2 ^ n - 1) := by
  rw [Bool.eq_iff_iff, decide_eq_true_eq]
  constructor
  · intro h
    have hp := nO_perm (orderM_get h)
    apply Nat.eq_of_testBit_eq
    intro i
    rw [hD, Nat.testBit_two_pow_sub_one]
    refine decide_eq_decide.2 ⟨fun hm => by have := hr _ hm; omega, fun hi => ?_⟩
    have := hp.mem_iff.2 (List.mem_range.2 hi)
    obtain ⟨y, hy, rfl⟩ := List.mem_map.1 this
    have := hr y hy
    rwa [Int.toNat_of_nonneg this.1]
  · intro h
    subst h
    refine decide_eq_true ⟨⟨hr, ?_⟩, hl⟩
    have hn : (nO o).Nodup := nodup_cover (nO o) (List.range n) List.nodup_range (fun i hi => by
      have hi := List.mem_range.1 hi
      have := hD i
      rw [Nat.testBit_two_pow_sub_one, decide_eq_true hi] at this
      have hm := of_decide_eq_true this.symm
      exact List.mem_map.2 ⟨(i : Int), hm, by simp⟩) (by simp [nO, hl])
    exact (List.pairwise_map.1 hn).imp (fun {x y} h e => h (by rw [e]))
end Go.Proofs.Ythmifadnfaajbac
namespace Go.Proofs.Ythmifadnfaajbac
open Go.RowKit Go.WideShapes

end Go.Proofs.Ythmifadnfaajbac
namespace Go.Proofs.Ythmifadnfaajbac
open Go.RowKit

-- A range over a function that writes memory of its own between its rounds, and whose rounds are never left: told by the number of rounds gone.
/-- all blocks from n on that W has are as they were -/
def KeepsUp (n : Nat) (W W' : World) : Prop := W.heap.size ≤ W'.heap.size ∧ ∀ b, n ≤ b → b < W.heap.size → W'.heap[b]? = W.heap[b]?
theorem KeepsUp.refl (n : Nat) (W : World) : KeepsUp n W W := ⟨Nat.le_refl _, fun _ _ _ => rfl⟩
theorem KeepsUp.trans {n : Nat} {A B C : World} (h : KeepsUp n A B) (g : KeepsUp n B C) : KeepsUp n A C :=
  ⟨Nat.le_trans h.1 g.1, fun b hb hlt => (g.2 b hb (Nat.lt_of_lt_of_le hlt h.1)).trans (h.2 b hb hlt)⟩
theorem KeepsUp.mono {n m : Nat} {A B : World} (h : KeepsUp n A B) (hm : n ≤ m) : KeepsUp m A B := ⟨h.1, fun b hb hlt => h.2 b (Nat.le_trans hm hb) hlt⟩
theorem KeepsUp.setCell (n : Nat) (W : World) {p : Addr} (hp : p.block < n) (v : Value) : KeepsUp n W (W.setCell p v) :=
  ⟨by simp [World.setCell], fun b hb _ => Below.heap_setCell _ _ _ _ (by omega)⟩
theorem KeepsUp.drew (n : Nat) (W : World) : KeepsUp n W W.drew := ⟨Nat.le_refl _, fun _ _ _ => rfl⟩
theorem KeepsUp.putObj {n l : Nat} (W : World) (h : l < n) (o : Obj) : KeepsUp n W (W.putObj l o) := ⟨by simp, fun b hb _ => World.putObj_heap_other (by omega)⟩
theorem below_putObj {n l : Nat} (W : World) (h : n ≤ l) (o : Obj) : Below n W (W.putObj l o) := ⟨rfl, rfl, rfl, by simp, fun k hk => World.putObj_heap_other (by omega)⟩

/-- how a round's body ends: what lies from n on is kept, and the invariant is carried on -/
def countPost (n : Nat) (R : World → Prop) (W : World) : Exit → Act → World → Prop
  | .normal, _, W' => KeepsUp n W W' ∧ R W'
  | _, _, _ => False
/-- the contract of a function that yields: S tells how many rounds there are, E what comes with which -/
def SeqCount {α : Type} (F : Fence) (n : Nat) (P : Program) (gf : Nat) (lb : Array Value) (enc : α → Value) (S : Nat → Prop) (E : Nat → Nat → α → World → Prop) (w : World) : Prop :=
  ∀ (l : Nat) (J : Nat → World → Prop) (W1 : World), Below w.heap.size w W1 → W1.heap.size = w.heap.size + 2 →
    (∀ k A B, J k A → Below W1.heap.size A B → J k B) →
    (∀ k x W, J k W → E W1.heap.size k x W → YieldAt F (n - 1) P l #[enc x] W fun e W' => e = .returned (.bool true) ∧ J (k + 1) W' ∧ KeepsUp W1.heap.size W W') →
    J 0 W1 → CallsIn F n P gf (#[.func (.yield l) #[] #[]] ++ lb) W1 fun e W' => (∃ v, e = .returned v) ∧ ∃ k, S k ∧ J k W'
theorem wpIn_rangeFunc_count {α : Type} {F : Fence} {n : Nat} {P : Program} {g : Operand} {ps : Array Tmp} {assign body : Code} {Q : Exit → Act → World → Prop} {a : Act} {w : World}
    (hro : F.round = none) (h1 : 1 ≤ n) {gf : Nat} {lb : Array Value} (hg : a.eval g = .func (.func gf) #[] lb) (hFg : F.fn gf) (eg : ∀ args w, (callFunc gf args).run P w = .ok (.enter gf args) w)
    {enc : α → Value} {S : Nat → Prop} {E : Nat → Nat → α → World → Prop} (hseq : SeqCount F (n - 1) P gf lb enc S E w) (hps : ps.size = 1)
    (hE : ∀ m k x A B, E m k x A → KeepsUp m A B → E m k x B)
    (I : Nat → World → Prop) (hI : ∀ k A B, I k A → Below w.heap.size A B → I k B) (h0 : I 0 w) (a₁ : α → Act)
    (hassign : ∀ (l : Nat) (x : α) (W : World) (K : Act → World → Prop), K (a₁ x) W →
      assign.wpIn (F.inRound l) (n - 1 - 1) P (Exit.then K (fun _ _ _ => False)) { tmps := (ps.zip #[enc x]).foldl (fun t (p, v) => t.setIfInBounds p v) a.tmps, defers := [] } W)
    (hbody : ∀ (l k : Nat) (x : α) (W : World), I k W → E (w.heap.size + 2) k x W → w.heap.size + 2 ≤ W.heap.size → body.wpIn (F.inRound l) (n - 1 - 1) P (countPost w.heap.size (I (k + 1)) W) (a₁ x) W)
    (hdone : ∀ (D k : Nat) (W : World), w.heap.size ≤ D → S k → I k W → W.heap[D]? = some (.deferred (some [])) → Q .normal { a with defers := { target := .collected D, args := #[] } :: a.defers } W) :
    (Code.rangeFunc g ps assign body).wpIn F n P Q a w := by
  refine wpIn_rangeFunc ?_
  intro fn hfn
  rw [hro]
  obtain ⟨rec, hrec⟩ : ∃ rec : LoopState → Loop, rec = fun st => { state := st, pending := none, fn, tmps := a.tmps, params := ps, assign, body, defers := w.heap.size } := ⟨_, rfl⟩
  obtain ⟨W1, hW1⟩ : ∃ W1, (w.alloc (.deferred (some []))).alloc (.loop (rec .ready)) = W1 := ⟨_, rfl⟩
  have hsz : W1.heap.size = w.heap.size + 2 := by rw [← hW1]; simp
  have hb1 : Below w.heap.size w W1 := by rw [← hW1]; exact ((Below.refl _ w).alloc (Nat.le_refl _) _).alloc (by simp) _
  have hL1 : W1.heap[w.heap.size + 1]? = some (.loop (rec .ready)) := by
    rw [← hW1]; have := World.alloc_heap_new (w.alloc (.deferred (some []))) (.loop (rec .ready)); rwa [World.size_alloc] at this
  have hK1 : W1.heap[w.heap.size]? = some (.deferred (some [])) := by
    rw [← hW1]; exact (Below.heap_alloc _ _ _ (by simp)).trans (World.alloc_heap_new w _)
  refine ⟨w.heap.size + 1, [{ target := .collected w.heap.size, args := #[] }], W1, { target := .fn (.func gf) lb, args := #[.func (.yield (w.heap.size + 1)) #[] #[]] }, W1, gf,
    #[.func (.yield (w.heap.size + 1)) #[] #[]] ++ lb, W1, ?_, ?_, ?_, ?_, fun _ => h1, ?_⟩
  · rw [← hW1, hrec]; exact run_enterLoop_outer _ _ _ _ _
  · simp only [resolve, hg]
    simp [go_sem]
  · intro f' hf'; simp [Target.leads] at hf'; subst hf'; exact hFg
  · simp [invoke, go_sem, eg]
  · refine (hseq (w.heap.size + 1)
      (fun k W => I k W ∧ W.heap[w.heap.size + 1]? = some (.loop (rec .ready)) ∧ W.heap[w.heap.size]? = some (.deferred (some [])))
      W1 hb1 hsz
      (fun k A B hs hb => ⟨hI k A B hs.1 (hb.mono (by omega)), (hb.block _ (by omega)).trans hs.2.1, (hb.block _ (by omega)).trans hs.2.2⟩)
      ?_ ⟨hI 0 _ _ h0 hb1, hL1, hK1⟩).mono ?_
    · rintro k x W ⟨hi, hl, hk⟩ he
      have hlt : w.heap.size + 1 < W.heap.size := (Array.getElem?_eq_some_iff.1 hl).1
      have hy := run_yield (P := P) (args := #[enc x]) hl (by rw [hrec]; exact hps.symm)
      rw [hrec] at hy
      refine ⟨fn, _, assign, body, hy, roundIn_of_wpIn hfn (hassign _ x W _ ⟨_, run_beginRound hl (by rw [hrec]), ?_⟩)⟩
      obtain ⟨W2, hW2⟩ : ∃ W2, W.putObj (w.heap.size + 1) (.loop { rec .ready with state := .busy }) = W2 := ⟨_, rfl⟩
      have hl2 : W2.heap[w.heap.size + 1]? = some (.loop { rec .ready with state := .busy }) := by rw [← hW2]; exact World.putObj_heap_same hlt
      have hk2 : W2.heap[w.heap.size]? = some (.deferred (some [])) := by rw [← hW2]; exact (World.putObj_heap_other (by omega)).trans hk
      have hs2 : W2.heap.size = W.heap.size := by rw [← hW2]; simp
      have hu2 : KeepsUp W1.heap.size W W2 := by rw [← hW2]; exact KeepsUp.putObj _ (by omega) _
      have hi2 : I k W2 := by rw [← hW2]; exact hI k _ _ hi (below_putObj _ (by omega) _)
      rw [hW2]
      refine wpIn_mono (hbody _ k x W2 hi2 (by rw [← hsz]; exact hE _ k x _ _ he hu2) (by omega)) ?_
      rintro e a3 W3 hp
      cases e with
      | normal =>
        obtain ⟨hu3, hi3⟩ := hp
        have hl3 := (hu3.2 _ (by omega) (by omega)).trans hl2
        have hr := run_endRound (P := P) none hl3
        have hlt3 : w.heap.size + 1 < W3.heap.size := (Array.getElem?_eq_some_iff.1 hl3).1
        refine ⟨_, _, hr, rfl, ⟨hI _ _ _ hi3 (below_putObj _ (by omega) _), ?_, (World.putObj_heap_other (by omega)).trans ((hu3.2 _ (by omega) (by omega)).trans hk2)⟩, hu2.trans ((hu3.mono (by omega)).trans (KeepsUp.putObj _ (by omega) _))⟩
        rw [World.putObj_heap_same hlt3, hrec]; rfl
      | ret => exact hp.elim
      | exit id => exact hp.elim
      | goto t => exact hp.elim
      | panic ch => exact hp.elim
      | outgrown => exact hp.elim
    · rintro e W2 ⟨⟨v, rfl⟩, k, hS, hi, hl, hk⟩
      exact ⟨none, _, by have := run_endLoop (P := P) hl (by rw [hrec]; simp); rw [hrec] at this; exact this, hdone _ k _ (Nat.le_refl _) hS (hI _ _ _ hi (below_putObj _ (by omega) _)) ((World.putObj_heap_other (by omega)).trans hk)⟩
end Go.Proofs.Ythmifadnfaajbac
namespace Go.Proofs.Ythmifadnfaajbac
open Go.RowKit Go.WideShapes

attribute [local go_sem] Oper.semAt_some

/-- what holds behind k rounds -/
structure LeastI (w : World) (n : Nat) (a : Option Addr) (len cap : Nat) (sp : Nat → Int) (k : Nat) (W : World) : Prop where
  below : Below w.heap.size w W
  jobs : W.cell? ⟨n, 0, none⟩ = some (.slice a len cap)
  least : W.cell? ⟨n + 1, 0, none⟩ = some (.int .i64 (lstT sp k))
  free : W.frozen? ⟨n + 1, 0, none⟩ = false
theorem LeastI.later {w : World} {n : Nat} {a : Option Addr} {len cap : Nat} {sp : Nat → Int} {k m : Nat} {A B : World} (h : LeastI w n a len cap sp k A) (hb : Below m A B) (hm : n + 2 ≤ m) (hw : w.heap.size ≤ n) : LeastI w n a len cap sp k B :=
  ⟨h.below.trans (hb.mono (by omega)), (hb.cell (p := ⟨n, 0, none⟩) (by show n < m; omega)).trans h.jobs, (hb.cell (p := ⟨n + 1, 0, none⟩) (by show n + 1 < m; omega)).trans h.least, by
    rw [World.frozen?_of_block (w := A) (hb.block (n + 1) (by omega))]; exact h.free⟩
def encS (x : Option Addr × Nat × Nat) : Value := .slice x.1 x.2.1 x.2.2
/-- the one order that comes -/
def OneE (a2 : Option Addr) (len2 cap2 : Nat) (T : Nat → Prop) (o : List Int) (_ k : Nat) (x : Option Addr × Nat × Nat) (W : World) : Prop := k = 0 ∧ x = (a2, len2, cap2)
end Go.Proofs.Ythmifadnfaajbac
namespace Go.Proofs.Ythmifadnfaajbac
open Go.RowKit Go.WideShapes

theorem Try.infoIntOB : (Try.prog.info? 3).map (fun i => (i.zero, i.size, i.bytes)) = some (some (.int .i64 0), 1, 8) := by kernel_rfl
/-- the cells of block b, from its first one on, hold these numbers, and may be written -/
def RowB (w : World) (b : Nat) (xs : List Nat) : Prop := ∀ (q x : Nat), xs[q]? = some x → w.cell? ⟨b, q, none⟩ = some (.int .i64 (x : Int)) ∧ w.frozen? ⟨b, q, none⟩ = false
theorem RowB.block {w w' : World} {b : Nat} {xs : List Nat} (h : RowB w b xs) (e : w'.heap[b]? = w.heap[b]?) : RowB w' b xs := by
  intro q x hx
  obtain ⟨h1, h2⟩ := h q x hx
  exact ⟨by rw [World.cell?_of_block (w := w) e]; exact h1, by rw [World.frozen?_of_block (w := w) e]; exact h2⟩
theorem RowB.drew {w : World} {b : Nat} {xs : List Nat} (h : RowB w b xs) : RowB w.drew b xs := h
theorem RowB.drewN {w : World} {b : Nat} {xs : List Nat} (h : RowB w b xs) (n : Nat) : RowB (w.drewN n) b xs := h
theorem RowB.at {w : World} {b q : Nat} {xs : List Nat} (h : RowB w b xs) (hq : q < xs.length) : w.cell? ⟨b, q, none⟩ = some (.int .i64 ((xs.getD q 0 : Nat) : Int)) ∧ w.frozen? ⟨b, q, none⟩ = false := by
  refine h q _ ?_
  rw [List.getD_eq_getElem?_getD, List.getElem?_eq_getElem hq]; rfl
theorem RowB.lt {w : World} {b : Nat} {xs : List Nat} (h : RowB w b xs) (hq : 0 < xs.length) : b < w.heap.size := World.block_lt_of_cell? w _ (h.at hq).1
theorem RowB.put {w : World} {b : Nat} {xs : List Nat} (h : RowB w b xs) {k : Nat} (hk : k < xs.length) (v : Nat) : RowB (w.setCell ⟨b, k, none⟩ (.int .i64 (v : Int))) b (xs.set k v) := by
  intro q x hx
  rw [List.getElem?_set] at hx
  refine ⟨?_, ?_⟩
  · by_cases e : k = q
    · subst e
      rw [if_pos rfl, if_pos hk] at hx
      cases hx
      exact World.cell?_setCell_same _ _ _ (h.at hk).1
    · rw [if_neg e] at hx
      rw [World.cell?_setCell_other _ _ _ _ (by intro e'; injection e' with _ e2; exact e (by omega))]
      exact (h q x hx).1
  · rw [World.frozen?_setCell]
    by_cases e : k = q
    · subst e; exact (h.at hk).2
    · rw [if_neg e] at hx; exact (h q x hx).2
theorem RowB.ints {w : World} {b n : Nat} {xs : List Nat} (h : RowB w b xs) (hl : xs.length = n) (hn : n ≤ 1048576) {S : Nat → Prop} (hS : S b) : IntsAt w S (some ⟨b, 0, none⟩) n (natI xs) :=
  ⟨by simp [natI, hl], by omega, fun _ => ⟨b, 0, rfl, hS, fun i x hx => by
    obtain ⟨y, rfl, hy⟩ := natI_get hx
    have := (h i y hy).1
    simpa using this⟩⟩
theorem getD_set_self {xs : List Nat} {k v : Nat} (h : k < xs.length) : (xs.set k v).getD k 0 = v := by simp [List.getD_eq_getElem?_getD, h]
theorem RowB.swap {w : World} {b : Nat} {xs : List Nat} (h : RowB w b xs) {i j : Nat} (hi : i < xs.length) (hj : j < xs.length) :
    RowB ((w.setCell ⟨b, i, none⟩ (.int .i64 ((xs.getD j 0 : Nat) : Int))).setCell ⟨b, j, none⟩ (.int .i64 ((xs.getD i 0 : Nat) : Int))) b (swN xs i j) :=
  (h.put hi (xs.getD j 0)).put (by simpa using hj) (xs.getD i 0)
end Go.Proofs.Ythmifadnfaajbac
namespace Go.Proofs.Ythmifadnfaajbac
open Go.RowKit Go.WideShapes

/-- what SpanTried answers -/
def triedFine (rows : List (List Int)) : Bool := pairsM rows && decide (rows.length ≤ 5)
def triedRes (rows : List (List Int)) : Int := if triedFine rows then fromT (ta rows) (tb rows) rows.length rows.length [] else -1
theorem triedRes_no {rows : List (List Int)} (h : triedFine rows = false) : triedRes rows = -1 := by unfold triedRes; rw [h]; rfl
theorem triedRes_yes {rows : List (List Int)} (h : triedFine rows = true) : triedRes rows = fromT (ta rows) (tb rows) rows.length rows.length [] := by unfold triedRes; rw [h]; rfl
end Go.Proofs.Ythmifadnfaajbac
namespace Go.Proofs.Ythmifadnfaajbac
open Go.RowKit Go.WideShapes

attribute [local go_sem] Oper.semAt_some

/-- a loop told by a number that falls, and that no slot holds -/
theorem wpIn_loop_ghost {F : Fence} {n : Nat} {P : Program} {Q : Exit → Act → World → Prop} {c : Code} (J : Nat → Act → World → Prop)
    (round : ∀ k a w, J k a w → c.wpIn F n P (Exit.then (fun a' w' => ∃ k', k' < k ∧ J k' a' w') Q) a w) {m : Nat} {a : Act} {w : World} (h0 : J m a w) : (Code.loop c).wpIn F n P Q a w := by
  refine wpIn_loop_rounds (m + 1) ?_
  have key : ∀ (m k : Nat) (a : Act) (w : World), k < m → J k a w → Code.roundsIn F n P c Q m a w := by
    intro m
    induction m with
    | zero => intro k a w h; omega
    | succ m ih =>
      intro k a w h hJ
      refine wpIn_mono (round k a w hJ) ?_
      intro e a' w' hq
      cases e with
      | normal => obtain ⟨k', hk, hJ'⟩ := hq; exact ih k' a' w' (by omega) hJ'
      | _ => exact hq
  exact key (m + 1) m a w (by omega) h0
theorem OwnF.rowB {w w' : World} {n : Nat} (h : OwnF w w' n (fun q => (q : Int))) : RowB w' w.heap.size (List.range n) := by
  intro q x hx
  have hq : q < n := by have := (List.getElem?_eq_some_iff.1 hx).1; simpa using this
  rw [List.getElem?_range hq] at hx
  cases hx
  exact h.cell hq
end Go.Proofs.Ythmifadnfaajbac
