import Derived.RangeFuncNested
import Derived.RangeFuncBound
import Derived.RangeFuncCalls
import Derived.RangeFuncLeaves
import Derived.Test.YtcikgbkehfepdacRows
import Derived.WalkKit
import Derived.Test.YtcikgbkehfepdacM0
import Derived.Test.YtcikgbkehfepdacM3
import Derived.Shelf.Abstract
import Derived.Shelf.RegionOpen
import Derived.OwnWalkIn
import Derived.TacticsInMore
import Derived.LoopNIn
import Derived.LoopIn
import Derived.Test.YtcikgbkehfepdacM10
import Derived.Test.YtcikgbkehfepdacM1
import Derived.Test.YtcikgbkehfepdacM2
import Derived.LoopTactic
import Derived.Outline
import Derived.WalkSpells
import Derived.WalkLawsBesides
import Derived.ProofKit
import Derived.Deep.AppendLies
import Derived.Test.YtcikgbkehfepdacM7
namespace Go.Proofs.Ytcikgbkehfepdac
open Go.RowKit

-- A range over a function that writes memory of its own between its rounds, and whose rounds are never left: told by the number of rounds gone.
/-- all blocks from n on that W has are as they were -/
def KeepsUp (n : Nat) (W W' : World) : Prop := W.heap.size ≤ W'.heap.size ∧ ∀ b, n ≤ b → b < W.heap.size → W'.heap[b]? = W.heap[b]?
theorem KeepsUp.refl (n : Nat) (W : World) : KeepsUp n W W := ⟨Nat.le_refl _, fun _ _ _ => rfl⟩
theorem KeepsUp.trans {n : Nat} {A B C : World} (h : KeepsUp n A B) (g : KeepsUp n B C) : KeepsUp n A C :=
  ⟨Nat.le_trans h.1 g.1, fun b hb hlt => (g.2 b hb (Nat.lt_of_lt_of_le hlt h.1)).trans (h.2 b hb hlt)⟩
theorem KeepsUp.mono {n m : Nat} {A B : World} (h : KeepsUp n A B) (hm : n ≤ m) : KeepsUp m A B := ⟨h.1, fun b hb hlt => h.2 b (Nat.le_trans hm hb) hlt⟩
theorem KeepsUp.setCell (n : Nat) (W : World) {p : Addr} (hp : p.block < n) (v : Value) : KeepsUp n W (W.setCell p v) :=
  ⟨by simp [World.setCell], fun b hb _ => Below.heap_setCell _ _ _ _ (by omega)⟩
theorem KeepsUp.drew (n : Nat) (W : World) : KeepsUp n W W.drew := ⟨Nat.le_refl _, fun _ _ _ => rfl⟩
theorem KeepsUp.putObj {n l : Nat} (W : World) (h : l < n) (o : Obj) : KeepsUp n W (W.putObj l o) := ⟨by simp, fun b hb _ => World.putObj_heap_other (by omega)⟩
theorem below_putObj {n l : Nat} (W : World) (h : n ≤ l) (o : Obj) : Below n W (W.putObj l o) := ⟨rfl, rfl, rfl, by simp, fun k hk => World.putObj_heap_other (by omega)⟩

/-- how a round's body ends: what lies from n on is kept, and the invariant is carried on -/
def countPost (n : Nat) (R : World → Prop) (W : World) : Exit → Act → World → Prop
  | .normal, _, W' => KeepsUp n W W' ∧ R W'
  | _, _, _ => False
/-- the contract of a function that yields: S tells how many rounds there are, E what comes with which -/
def SeqCount {α : Type} (F : Fence) (n : Nat) (P : Program) (gf : Nat) (lb : Array Value) (enc : α → Value) (S : Nat → Prop) (E : Nat → Nat → α → World → Prop) (w : World) : Prop :=
  ∀ (l : Nat) (J : Nat → World → Prop) (W1 : World), Below w.heap.size w W1 → W1.heap.size = w.heap.size + 2 →
    (∀ k A B, J k A → Below W1.heap.size A B → J k B) →
    (∀ k x W, J k W → E W1.heap.size k x W → YieldAt F (n - 1) P l #[enc x] W fun e W' => e = .returned (.bool true) ∧ J (k + 1) W' ∧ KeepsUp W1.heap.size W W') →
    J 0 W1 → CallsIn F n P gf (#[.func (.yield l) #[] #[]] ++ lb) W1 fun e W' => (∃ v, e = .returned v) ∧ ∃ k, S k ∧ J k W'
theorem wpIn_rangeFunc_count {α : Type} {F : Fence} {n : Nat} {P : Program} {g : Operand} {ps : Array Tmp} {assign body : Code} {Q : Exit → Act → World → Prop} {a : Act} {w : World}
    (hro : F.round = none) (h1 : 1 ≤ n) {gf : Nat} {lb : Array Value} (hg : a.eval g = .func (.func gf) #[] lb) (hFg : F.fn gf) (eg : ∀ args w, (callFunc gf args).run P w = .ok (.enter gf args) w)
    {enc : α → Value} {S : Nat → Prop} {E : Nat → Nat → α → World → Prop} (hseq : SeqCount F (n - 1) P gf lb enc S E w) (hps : ps.size = 1)
    (hE : ∀ m k x A B, E m k x A → KeepsUp m A B → E m k x B)
    (I : Nat → World → Prop) (hI : ∀ k A B, I k A → Below w.heap.size A B → I k B) (h0 : I 0 w) (a₁ : α → Act)
    (hassign : ∀ (l : Nat) (x : α) (W : World) (K : Act → World → Prop), K (a₁ x) W →
      assign.wpIn (F.inRound l) (n - 1 - 1) P (Exit.then K (fun _ _ _ => False)) { tmps := (ps.zip #[enc x]).foldl (fun t (p, v) => t.setIfInBounds p v) a.tmps, defers := [] } W)
    (hbody : ∀ (l k : Nat) (x : α) (W : World), I k W → E (w.heap.size + 2) k x W → w.heap.size + 2 ≤ W.heap.size → body.wpIn (F.inRound l) (n - 1 - 1) P (countPost w.heap.size (I (k + 1)) W) (a₁ x) W)
    (hdone : ∀ (D k : Nat) (W : World), w.heap.size ≤ D → S k → I k W → W.heap[D]? = some (.deferred (some [])) → Q .normal { a with defers := { target := .collected D, args := #[] } :: a.defers } W) :
    (Code.rangeFunc g ps assign body).wpIn F n P Q a w := by
  refine wpIn_rangeFunc ?_
  intro fn hfn
  rw [hro]
  obtain ⟨rec, hrec⟩ : ∃ rec : LoopState → Loop, rec = fun st => { state := st, pending := none, fn, tmps := a.tmps, params := ps, assign, body, defers := w.heap.size } := ⟨_, rfl⟩
  obtain ⟨W1, hW1⟩ : ∃ W1, (w.alloc (.deferred (some []))).alloc (.loop (rec .ready)) = W1 := ⟨_, rfl⟩
  have hsz : W1.heap.size = w.heap.size + 2 := by rw [← hW1]; simp
  have hb1 : Below w.heap.size w W1 := by rw [← hW1]; exact ((Below.refl _ w).alloc (Nat.le_refl _) _).alloc (by simp) _
  have hL1 : W1.heap[w.heap.size + 1]? = some (.loop (rec .ready)) := by
    rw [← hW1]; have := World.alloc_heap_new (w.alloc (.deferred (some []))) (.loop (rec .ready)); rwa [World.size_alloc] at this
  have hK1 : W1.heap[w.heap.size]? = some (.deferred (some [])) := by
    rw [← hW1]; exact (Below.heap_alloc _ _ _ (by simp)).trans (World.alloc_heap_new w _)
  refine ⟨w.heap.size + 1, [{ target := .collected w.heap.size, args := #[] }], W1, { target := .fn (.func gf) lb, args := #[.func (.yield (w.heap.size + 1)) #[] #[]] }, W1, gf,
    #[.func (.yield (w.heap.size + 1)) #[] #[]] ++ lb, W1, ?_, ?_, ?_, ?_, fun _ => h1, ?_⟩
  · rw [← hW1, hrec]; exact run_enterLoop_outer _ _ _ _ _
  · simp only [resolve, hg]
    simp [go_sem]
  · intro f' hf'; simp [Target.leads] at hf'; subst hf'; exact hFg
  · simp [invoke, go_sem, eg]
  · refine (hseq (w.heap.size + 1)
      (fun k W => I k W ∧ W.heap[w.heap.size + 1]? = some (.loop (rec .ready)) ∧ W.heap[w.heap.size]? = some (.deferred (some [])))
      W1 hb1 hsz
      (fun k A B hs hb => ⟨hI k A B hs.1 (hb.mono (by omega)), (hb.block _ (by omega)).trans hs.2.1, (hb.block _ (by omega)).trans hs.2.2⟩)
      ?_ ⟨hI 0 _ _ h0 hb1, hL1, hK1⟩).mono ?_
    · rintro k x W ⟨hi, hl, hk⟩ he
      have hlt : w.heap.size + 1 < W.heap.size := (Array.getElem?_eq_some_iff.1 hl).1
      have hy := run_yield (P := P) (args := #[enc x]) hl (by rw [hrec]; exact hps.symm)
      rw [hrec] at hy
      refine ⟨fn, _, assign, body, hy, roundIn_of_wpIn hfn (hassign _ x W _ ⟨_, run_beginRound hl (by rw [hrec]), ?_⟩)⟩
      obtain ⟨W2, hW2⟩ : ∃ W2, W.putObj (w.heap.size + 1) (.loop { rec .ready with state := .busy }) = W2 := ⟨_, rfl⟩
      have hl2 : W2.heap[w.heap.size + 1]? = some (.loop { rec .ready with state := .busy }) := by rw [← hW2]; exact World.putObj_heap_same hlt
      have hk2 : W2.heap[w.heap.size]? = some (.deferred (some [])) := by rw [← hW2]; exact (World.putObj_heap_other (by omega)).trans hk
      have hs2 : W2.heap.size = W.heap.size := by rw [← hW2]; simp
      have hu2 : KeepsUp W1.heap.size W W2 := by rw [← hW2]; exact KeepsUp.putObj _ (by omega) _
      have hi2 : I k W2 := by rw [← hW2]; exact hI k _ _ hi (below_putObj _ (by omega) _)
      rw [hW2]
      refine wpIn_mono (hbody _ k x W2 hi2 (by rw [← hsz]; exact hE _ k x _ _ he hu2) (by omega)) ?_
      rintro e a3 W3 hp
      cases e with
      | normal =>
        obtain ⟨hu3, hi3⟩ := hp
        have hl3 := (hu3.2 _ (by omega) (by omega)).trans hl2
        have hr := run_endRound (P := P) none hl3
        have hlt3 : w.heap.size + 1 < W3.heap.size := (Array.getElem?_eq_some_iff.1 hl3).1
        refine ⟨_, _, hr, rfl, ⟨hI _ _ _ hi3 (below_putObj _ (by omega) _), ?_, (World.putObj_heap_other (by omega)).trans ((hu3.2 _ (by omega) (by omega)).trans hk2)⟩, hu2.trans ((hu3.mono (by omega)).trans (KeepsUp.putObj _ (by omega) _))⟩
        rw [World.putObj_heap_same hlt3, hrec]; rfl
      | ret => exact hp.elim
      | exit id => exact hp.elim
      | goto t => exact hp.elim
      | panic ch => exact hp.elim
      | outgrown => exact hp.elim
    · rintro e W2 ⟨⟨v, rfl⟩, k, hS, hi, hl, hk⟩
      exact ⟨none, _, by have := run_endLoop (P := P) hl (by rw [hrec]; simp); rw [hrec] at this; exact this, hdone _ k _ (Nat.le_refl _) hS (hI _ _ _ hi (below_putObj _ (by omega) _)) ((World.putObj_heap_other (by omega)).trans hk)⟩
end Go.Proofs.Ytcikgbkehfepdac
namespace Go.Proofs.Ytcikgbkehfepdac

-- orders, one after the other (plain)
def swN (xs : List Nat) (i j : Nat) : List Nat := (xs.set i (xs.getD j 0)).set j (xs.getD i 0)
theorem swN_length (xs : List Nat) (i j : Nat) : (swN xs i j).length = xs.length := by simp [swN]
def revK (xs : List Nat) (lo hi : Nat) : Nat → List Nat
  | 0 => xs
  | f + 1 => if lo < hi then revK (swN xs lo hi) (lo + 1) (hi - 1) f else xs
theorem revK_end {xs : List Nat} {lo hi : Nat} (h : ¬ lo < hi) (f : Nat) : revK xs lo hi f = xs := by
  cases f with
  | zero => rfl
  | succ f => rw [revK, if_neg h]
theorem revK_length : ∀ (f : Nat) (xs : List Nat) (lo hi : Nat), (revK xs lo hi f).length = xs.length := by
  intro f
  induction f with
  | zero => intro xs lo hi; rfl
  | succ f ih => intro xs lo hi; rw [revK]; split
                 · rw [ih, swN_length]
                 · rfl
/-- the last place below k whose number is less than the next one -/
def riseAt (xs : List Nat) : Nat → Option Nat
  | 0 => none
  | k + 1 => if xs.getD (k + 1) 0 ≤ xs.getD k 0 then riseAt xs k else some k
/-- the last place up to k whose number is greater than x -/
def overAt (xs : List Nat) (x : Nat) : Nat → Nat
  | 0 => 0
  | k + 1 => if xs.getD (k + 1) 0 ≤ x then overAt xs x k else k + 1
def nextP (xs : List Nat) : Option (List Nat) :=
  match riseAt xs (xs.length - 1) with
  | none => none
  | some a => some (revK (swN xs a (overAt xs (xs.getD a 0) (xs.length - 1))) (a + 1) (xs.length - 1) xs.length)
def ordK : Nat → List Nat → List (List Nat)
  | 0, _ => []
  | f + 1, xs => xs :: match nextP xs with
    | none => []
    | some ys => ordK f ys
def ordL (n : Nat) : List (List Nat) := ordK 125 (List.range n)
/-- all orders that begin with h -/
def ordF (n : Nat) : Nat → List Nat → List (List Nat)
  | 0, h => [h]
  | f + 1, h => (List.range n).flatMap (fun i => if i ∈ h then [] else ordF n f (h ++ [i]))
theorem ordF_mem {n : Nat} : ∀ (t h : List Nat), (h ++ t).Perm (List.range n) → h ++ t ∈ ordF n t.length h := by
  intro t
  induction t with
  | nil => intro h _; rw [List.append_nil, List.length_nil, ordF]; simp
  | cons x t ih =>
    intro h hp
    have hn := hp.symm.nodup List.nodup_range
    have hx : x < n := by have := hp.mem_iff.1 (show x ∈ h ++ x :: t by simp); simpa using this
    have hxh : x ∉ h := fun hm => (List.nodup_append.1 hn).2.2 x hm x (by simp) rfl
    rw [List.length_cons, ordF, List.mem_flatMap]
    refine ⟨x, List.mem_range.2 hx, ?_⟩
    rw [if_neg hxh]
    have := ih (h ++ [x]) (by simpa using hp)
    simpa using this
def ordOk (n : Nat) : Bool := (ordL n == ordF n n []) && (ordL n)[0]? == some (List.range n) && (ordL n).all (fun l => l.length == n && l.all (fun x => decide (x < n)) && l.isPerm (List.range n))
  && (List.range (ordL n).length).all (fun k => nextP ((ordL n).getD k []) == (ordL n)[k + 1]?)
theorem ordOk_all : ((List.range 6).all ordOk) = true := by decide +kernel
structure OrdIs (n : Nat) : Prop where
  all : ∀ l : List Nat, l.Perm (List.range n) → l ∈ ordL n
  first : (ordL n)[0]? = some (List.range n)
  len : ∀ l ∈ ordL n, l.length = n ∧ (∀ x ∈ l, x < n) ∧ l.Perm (List.range n)
  next : ∀ k, k < (ordL n).length → nextP ((ordL n).getD k []) = (ordL n)[k + 1]?
theorem ord_is {n : Nat} (h : n ≤ 5) : OrdIs n := by
  have := List.all_eq_true.1 ordOk_all n (List.mem_range.2 (by omega))
  simp only [ordOk, Bool.and_eq_true, beq_iff_eq, List.all_eq_true] at this
  obtain ⟨⟨⟨h1, h2⟩, h3⟩, h4⟩ := this
  refine ⟨fun l hp => ?_, h2, fun l hl => ?_, fun k hk => h4 k (List.mem_range.2 hk)⟩
  · rw [h1]
    have hl : l.length = n := by have := hp.length_eq; simpa using this
    have := ordF_mem l [] (by simpa using hp)
    rw [hl] at this
    simpa using this
  · obtain ⟨⟨e1, e2⟩, e3⟩ := h3 l hl
    exact ⟨e1, fun x hx => by simpa using e2 x hx, List.isPerm_iff.1 e3⟩
theorem ordL_pos {n : Nat} (h : n ≤ 5) : 0 < (ordL n).length := (List.getElem?_eq_some_iff.1 (ord_is h).first).1
/-- the least so far of k spans, -1: of none -/
def lstT (sp : Nat → Int) : Nat → Int
  | 0 => -1
  | k + 1 => if lstT sp k < 0 ∨ sp k < lstT sp k then sp k else lstT sp k
theorem lstT_is {sp : Nat → Int} (h : ∀ k, 0 ≤ sp k) : ∀ k, (k = 0 → lstT sp k = -1) ∧ (0 < k → 0 ≤ lstT sp k) ∧ (∀ j, j < k → lstT sp k ≤ sp j) ∧ (0 < k → ∃ j, j < k ∧ lstT sp k = sp j) := by
  intro k
  induction k with
  | zero => exact ⟨fun _ => rfl, fun h => absurd h (by omega), fun j hj => absurd hj (by omega), fun h => absurd h (by omega)⟩
  | succ k ih =>
    obtain ⟨h1, h2, h3, h4⟩ := ih
    have hk := h k
    refine ⟨fun e => by omega, fun _ => ?_, fun j hj => ?_, fun _ => ?_⟩
    · rw [lstT]; split
      · exact hk
      · rename_i hc; omega
    · rw [lstT]; split
      · rename_i hc
        by_cases e : j = k
        · subst e; omega
        · have := h3 j (by omega); have := h2 (by omega); omega
      · rename_i hc
        by_cases e : j = k
        · subst e; omega
        · exact h3 j (by omega)
    · rw [lstT]; split
      · exact ⟨k, by omega, rfl⟩
      · rename_i hc
        have : 0 < k := by
          rcases Nat.eq_zero_or_pos k with e | e
          · have := h1 e; omega
          · exact e
        obtain ⟨j, hj, e⟩ := h4 this
        exact ⟨j, by omega, e⟩
theorem ord_least {a b : Nat → Int} (ha : ∀ x, 0 ≤ a x) (hb : ∀ x, 0 ≤ b x) {n : Nat} (h : n ≤ 5) : LeastO a b n (lstT (fun k => spanT a b ((ordL n).getD k [])) (ordL n).length) := by
  have hO := ord_is h
  have hp := ordL_pos h
  obtain ⟨_, _, h3, h4⟩ := lstT_is (sp := fun k => spanT a b ((ordL n).getD k [])) (fun k => span_nn ha hb _) (ordL n).length
  obtain ⟨j, hj, e⟩ := h4 hp
  refine ⟨⟨(ordL n).getD j [], (hO.len _ ?_).2.2, e.symm⟩, fun l hl => ?_⟩
  · rw [List.getD_eq_getElem?_getD, List.getElem?_eq_getElem hj]; exact List.getElem_mem hj
  · obtain ⟨i, hi, rfl⟩ := List.getElem_of_mem (hO.all l hl)
    have := h3 i hi
    simp only [List.getD_eq_getElem?_getD, List.getElem?_eq_getElem hi, Option.getD_some] at this
    exact this
theorem ord_tried {a b : Nat → Int} (ha : ∀ x, 0 ≤ a x) (hb : ∀ x, 0 ≤ b x) {n : Nat} (h : n ≤ 5) : lstT (fun k => spanT a b ((ordL n).getD k [])) (ordL n).length = fromT a b n n [] :=
  (ord_least ha hb h).uniq (tried_is ha hb n)
end Go.Proofs.Ytcikgbkehfepdac
namespace Go.Proofs.Ytcikgbkehfepdac
open Go.RowKit Go.WideShapes

attribute [local go_sem] Oper.semAt_some

/-- what holds behind k rounds -/
structure LeastI (w : World) (n : Nat) (a : Option Addr) (len cap : Nat) (sp : Nat → Int) (k : Nat) (W : World) : Prop where
  below : Below w.heap.size w W
  jobs : W.cell? ⟨n, 0, none⟩ = some (.slice a len cap)
  least : W.cell? ⟨n + 1, 0, none⟩ = some (.int .i64 (lstT sp k))
  free : W.frozen? ⟨n + 1, 0, none⟩ = false
theorem LeastI.later {w : World} {n : Nat} {a : Option Addr} {len cap : Nat} {sp : Nat → Int} {k m : Nat} {A B : World} (h : LeastI w n a len cap sp k A) (hb : Below m A B) (hm : n + 2 ≤ m) (hw : w.heap.size ≤ n) : LeastI w n a len cap sp k B :=
  ⟨h.below.trans (hb.mono (by omega)), (hb.cell (p := ⟨n, 0, none⟩) (by show n < m; omega)).trans h.jobs, (hb.cell (p := ⟨n + 1, 0, none⟩) (by show n + 1 < m; omega)).trans h.least, by
    rw [World.frozen?_of_block (w := A) (hb.block (n + 1) (by omega))]; exact h.free⟩
def encS (x : Option Addr × Nat × Nat) : Value := .slice x.1 x.2.1 x.2.2
set_option maxRecDepth 100000 in
set_option maxHeartbeats 4000000 in
theorem leastSpan_gen (a : Option Addr) (len cap : Nat) (rows : List (List Int)) (T f1 gf : Nat) (v : Value) (t1 : TypeId) (os : Nat → List Int) (m : Nat) (E : Nat → Nat → Option Addr × Nat × Nat → World → Prop) (w : World) (h : RowsAt w (· < w.heap.size) a len rows) (hp : pairsM rows = true)
    (hmeth : ∀ (k : Nat) (w : World), (method (k + 1) T v "loop.example/shopsthatmake/impl.each").run Try.prog w = .ok (f1, v) w)
    (hent : ∀ (args : Array Value) (w : World), (callFunc f1 args).run Try.prog w = .ok (.enter f1 args) w) (hentg : ∀ (args : Array Value) (w : World), (callFunc gf args).run Try.prog w = .ok (.enter gf args) w)
    (hfit : ∀ w', Below w.heap.size w w' → Calls Try.prog 47 #[.slice a len cap, .iface T v] w' fun e w2 => e = .returned (.bool true) ∧ Drew w' w2)
    (heach : ∀ w', CallsIn Fence.wide 8 Try.prog f1 #[v] w' fun e w2 => e = .returned (.func (.func gf) #[] #[.pointer (some ⟨w'.heap.size, 0, none⟩)]) ∧ w'.alloc (.cells #[v] t1) = w2)
    (hseq : ∀ w' : World, w'.heap.size = w.heap.size + 3 → Below w.heap.size w w' → w'.cell? ⟨w.heap.size + 2, 0, none⟩ = some v → SeqCount Fence.wide 8 Try.prog gf #[.pointer (some ⟨w.heap.size + 2, 0, none⟩)] encS (· = m) E w')
    (hE1 : ∀ m k x A B, E m k x A → KeepsUp m A B → E m k x B)
    (hE2 : ∀ m k x W, E m k x W → Below w.heap.size w W → ∃ S, IntsAt W S x.1 x.2.1 (os k) ∧ x.2.1 ≤ 8 ∧ ∀ x ∈ os k, 0 ≤ x ∧ x < (len : Int)) :
    Calls Try.prog 32 #[.slice a len cap, .iface T v] w (ValPost w (.int .i64 (lstT (fun k => spanT (ta rows) (tb rows) (nO (os k))) m))) := by
  refine (callsIn_wide (n := 9)).1 ?_
  refine callsIn_of_wp_marks Try.func32 rfl trivial ?_ rfl
  simp only [Try.ntmps32, List.size_toArray, List.length_cons, List.length_nil, Nat.reduceAdd, Nat.reduceSub, Array.replicate_succ, Array.replicate_zero, List.push_toArray, List.append_toArray, List.nil_append, List.cons_append]
  gi_wp2_with fail
  refine ⟨trivial, (callsIn_wide.2 (hfit _ ((Below.refl _ w).alloc (Nat.le_refl _) _))).mono ?_⟩
  rintro e w2 ⟨rfl, hdw⟩
  obtain ⟨z, rfl⟩ := hdw
  gi_wp2_with fail
  refine ⟨trivial, ?_⟩
  gi_wp2_with fail
  refine (heach _).mono ?_
  rintro e w3 ⟨rfl, rfl⟩
  gi_wp2_with fail
  obtain ⟨W0, hW0⟩ : ∃ W0, ((((w.alloc (Obj.cells #[Value.slice a len cap] 23)).drewN z).alloc (Obj.cells #[Value.int IntKind.i64 (-1)] 3)).alloc (Obj.cells #[v] t1)) = W0 := ⟨_, rfl⟩
  have hsz : W0.heap.size = w.heap.size + 3 := by rw [← hW0]; simp
  have hbl : Below w.heap.size w W0 := by
    rw [← hW0]
    exact ((((Below.refl w.heap.size w).alloc (Nat.le_refl _) _).trans (Drew.below ⟨z, rfl⟩ _)).alloc (by simp) _).alloc (by simp <;> omega) _
  have hI0 : LeastI w w.heap.size a len cap (fun k => spanT (ta rows) (tb rows) (nO (os k))) 0 W0 := by
    refine ⟨hbl, ?_, ?_, ?_⟩
    all_goals rw [← hW0]
    · have z1 := cell_new_l w (.slice a len cap) 23
      exact cell_alloc_l _ (cell_alloc_l _ z1.1)
    · have z2 := cell_new_l ((w.alloc (Obj.cells #[Value.slice a len cap] 23)).drewN z) (.int .i64 (-1)) 3
      simp only [World.heap_drewN, World.size_alloc] at z2
      exact cell_alloc_l _ z2.1
    · have z2 := cell_new_l ((w.alloc (Obj.cells #[Value.slice a len cap] 23)).drewN z) (.int .i64 (-1)) 3
      simp only [World.heap_drewN, World.size_alloc] at z2
      exact frozen_alloc_l _ z2.1 z2.2
  have hv0 : W0.cell? ⟨w.heap.size + 2, 0, none⟩ = some v := by
    rw [← hW0]
    have z3 := cell_new_l (((w.alloc (Obj.cells #[Value.slice a len cap] 23)).drewN z).alloc (Obj.cells #[Value.int IntKind.i64 (-1)] 3)) v t1
    simp only [World.heap_drewN, World.size_alloc] at z3
    exact z3.1
  rw [hW0]
  clear hW0
  simp only [Nat.add_assoc, Nat.reduceAdd]
  have HBD := Lib.hid (show ∀ k, 0 ≤ spanT (ta rows) (tb rows) (nO (os k)) from fun k => span_nn (fun x => (t_bd hp x).1.1) (fun x => (t_bd hp x).2.1) _)
  refine wpIn_rangeFunc_count rfl (by omega) (gf := gf) (lb := #[.pointer (some ⟨w.heap.size + 2, 0, none⟩)]) rfl trivial hentg (hseq W0 hsz hbl hv0) rfl hE1
    (LeastI w w.heap.size a len cap (fun k => spanT (ta rows) (tb rows) (nO (os k)))) (fun k A B hi hb => hi.later hb (by omega) (Nat.le_refl _)) hI0
    (fun x => { tmps := #[.slice a len cap, .iface T v, .pointer (some ⟨w.heap.size, 0, none⟩), undef, .int .i64 0, .pointer (some ⟨w.heap.size + 1, 0, none⟩), .slice x.1 x.2.1 x.2.2, undef,
      .slice a len cap, .iface T v, .bool true, .bool false, .iface T v, .func (.func gf) #[] #[.pointer (some ⟨w.heap.size + 2, 0, none⟩)], .slice x.1 x.2.1 x.2.2, undef, undef, undef, undef, undef, undef, undef, undef, undef, undef, undef, undef], defers := [] })
    ?assign ?body ?done
  case assign =>
    rintro l ⟨a3, l3, c3⟩ W K hK
    dsimp only [encS] at hK ⊢
    gi_wp2
    exact hK
  case body =>
    rintro l k ⟨a3, l3, c3⟩ W hI hE hWs
    obtain ⟨S, hx, hl3, hxo⟩ := hE2 _ _ _ _ hE hI.below
    dsimp only at hx hl3 ⊢
    have HX := Lib.hid hx
    have z1 := hI.jobs
    have z2 := hI.least
    have z3 := hI.free
    have HI := Lib.hid hI
    have HN := Lib.hid (show lstT (fun k => spanT (ta rows) (tb rows) (nO (os k))) (k + 1) = if lstT (fun k => spanT (ta rows) (tb rows) (nO (os k))) k < 0 ∨ spanT (ta rows) (tb rows) (nO (os k)) < lstT (fun k => spanT (ta rows) (tb rows) (nO (os k))) k then spanT (ta rows) (tb rows) (nO (os k)) else lstT (fun k => spanT (ta rows) (tb rows) (nO (os k))) k from rfl)
    have HSP := Lib.hid (spanIn_any _ _ a len cap rows a3 l3 c3 (os k) W (h.below hI.below) hx hp hxo hl3)
    have hlt1 : w.heap.size + 1 < W.heap.size := by omega
    clear hx hE hI
    obtain ⟨sp, hsp⟩ : ∃ sp, spanT (ta rows) (tb rows) (nO (os k)) = sp := ⟨_, rfl⟩
    rw [hsp] at HN HSP
    obtain ⟨ls, hls⟩ : ∃ ls, lstT (fun k => spanT (ta rows) (tb rows) (nO (os k))) k = ls := ⟨_, rfl⟩
    rw [hls] at HN z2
    have hput : ∀ v : Int, lstT (fun k => spanT (ta rows) (tb rows) (nO (os k))) (k + 1) = v → LeastI w w.heap.size a len cap (fun k => spanT (ta rows) (tb rows) (nO (os k))) (k + 1) (W.setCell ⟨w.heap.size + 1, 0, none⟩ (.int .i64 v)) := fun v hv =>
      ⟨HI.out.below.setCell (by show w.heap.size ≤ w.heap.size + 1; omega) _, by rw [World.cell?_setCell_other _ _ _ _ (by intro e'; injection e'; omega)]; exact HI.out.jobs, by rw [hv]; exact World.cell?_setCell_same _ _ _ HI.out.least,
       by rw [World.frozen?_setCell]; exact HI.out.free⟩
    have hkeep : ls = lstT (fun k => spanT (ta rows) (tb rows) (nO (os k))) (k + 1) → LeastI w w.heap.size a len cap (fun k => spanT (ta rows) (tb rows) (nO (os k))) (k + 1) W := fun e =>
      ⟨HI.out.below, HI.out.jobs, by rw [← e, ← hls]; exact HI.out.least, HI.out.free⟩
    have HPUT := Lib.hid hput
    have HKEEP := Lib.hid hkeep
    clear hput hkeep hls hsp
    by_cases hc : ls < 0 ∨ sp < ls
    · have HV := Lib.hid (HN.out.trans (if_pos hc))
      by_cases hn : ls < 0
      · clear hc
        gi_wp2_with (refine ⟨trivial, ?_⟩; gi_at_call 48; refine (CallsIn.inRound l (callsIn_wide.2 HSP.out)).mono ?_; rintro e w' ⟨rfl, rfl⟩)
        exact ⟨KeepsUp.setCell _ _ (by show w.heap.size + 1 < _; omega) _, HPUT.out _ HV.out⟩
      · have hs : sp < ls := by omega
        clear hc
        gi_wp2_with (refine ⟨trivial, ?_⟩; gi_at_call 48; refine (CallsIn.inRound l (callsIn_wide.2 HSP.out)).mono ?_; rintro e w' ⟨rfl, rfl⟩)
        exact ⟨KeepsUp.setCell _ _ (by show w.heap.size + 1 < _; omega) _, HPUT.out _ HV.out⟩
    · have HV := Lib.hid (HN.out.trans (if_neg hc))
      have hn : ¬ ls < 0 := fun h => hc (.inl h)
      have hs : ¬ sp < ls := fun h => hc (.inr h)
      clear hc
      gi_wp2_with (refine ⟨trivial, ?_⟩; gi_at_call 48; refine (CallsIn.inRound l (callsIn_wide.2 HSP.out)).mono ?_; rintro e w' ⟨rfl, rfl⟩)
      exact ⟨KeepsUp.refl _ _, HKEEP.out HV.out.symm⟩
  case done =>
    rintro D k W hD rfl hI hK
    have c2 := hI.least
    have HI := Lib.hid hI
    clear hI
    gi_wp2
    exact leaves_marks (fun _ => results_tmp rfl _ _ _) [D] W ⟨⟨hK, hD, fun x hx => by cases hx⟩, trivial⟩ (fun w' hw' => ⟨rfl, HI.out.below.trans (hw'.below.mono (by omega))⟩)
-- a given order
set_option maxRecDepth 100000 in
theorem eachOne_any (n : Nat) (a2 : Option Addr) (len2 cap2 : Nat) (w : World) :
    CallsIn Fence.wide n Try.prog 73 #[.slice a2 len2 cap2] w fun e w' => e = .returned (.func (.func 74) #[] #[.pointer (some ⟨w.heap.size, 0, none⟩)]) ∧ w.alloc (.cells #[.slice a2 len2 cap2] 48) = w' := by
  refine callsIn_of_wp Try.func73 rfl trivial ?_ rfl
  simp only [Try.ntmps73, List.size_toArray, List.length_cons, List.length_nil, Nat.reduceAdd, Nat.reduceSub, Array.replicate_succ, Array.replicate_zero, List.push_toArray, List.append_toArray, List.nil_append, List.cons_append]
  gi_wp2
  go_ret
  exact ⟨rfl, rfl⟩
/-- the one order that comes -/
def OneE (a2 : Option Addr) (len2 cap2 : Nat) (T : Nat → Prop) (o : List Int) (_ k : Nat) (x : Option Addr × Nat × Nat) (W : World) : Prop := k = 0 ∧ x = (a2, len2, cap2)
theorem one_seq (a2 : Option Addr) (len2 cap2 Bs : Nat) (T : Nat → Prop) (o : List Int) (w : World) (hBs : Bs < w.heap.size) (hc : w.cell? ⟨Bs, 0, none⟩ = some (.slice a2 len2 cap2)) :
    SeqCount Fence.wide 8 Try.prog 74 #[.pointer (some ⟨Bs, 0, none⟩)] encS (· = 1) (OneE a2 len2 cap2 T o) w := by
  intro l J W1 hW hsz hJ hY h0
  have hc1 := (hW.cell (p := ⟨Bs, 0, none⟩) hBs).trans hc
  obtain ⟨fn, tmps, assign, body, hy, hR⟩ := hY 0 (a2, len2, cap2) W1 h0 ⟨rfl, rfl⟩
  dsimp only [encS] at hy
  refine callsIn_of_wp Try.func74 rfl trivial ?_ rfl
  simp only [Try.ntmps74, List.size_toArray, List.length_cons, List.length_nil, Nat.reduceAdd, Nat.reduceSub, Array.replicate_succ, Array.replicate_zero, List.push_toArray, List.append_toArray, List.nil_append, List.cons_append]
  gi_wp2
  refine hR.mono ?_
  rintro e W3 ⟨rfl, hJ3, hk3⟩
  gi_wp2
  go_end0
  exact ⟨⟨_, rfl⟩, 1, rfl, hJ3⟩
end Go.Proofs.Ytcikgbkehfepdac
namespace Go.Proofs.Ytcikgbkehfepdac
open Go.RowKit Go.WideShapes

set_option maxRecDepth 100000 in
theorem leastOne_no (a : Option Addr) (len cap : Nat) (rows : List (List Int)) (a2 : Option Addr) (len2 cap2 : Nat) (o : List Int) (w : World) (h : RowsAt w (· < w.heap.size) a len rows) (g : IntsAt w (· < w.heap.size) a2 len2 o) (hc : len ≤ cap) (hf : spanFine rows o = false) :
    Calls Try.prog 32 #[.slice a len cap, .iface 48 (.slice a2 len2 cap2)] w (ValPost w (.int .i64 (-1))) := by
  have hB := (Below.refl w.heap.size w).alloc (Nat.le_refl _) (.cells #[.slice a len cap] 23)
  have HFIT := Lib.hid (fitOne_any _ _ a len cap rows a2 len2 cap2 o _ (h.below hB) (g.below hB) hc)
  rw [hf] at HFIT
  refine (callsIn_wide (n := 9)).1 ?_
  refine callsIn_of_wp Try.func32 rfl trivial ?_ rfl
  simp only [Try.ntmps32, List.size_toArray, List.length_cons, List.length_nil, Nat.reduceAdd, Nat.reduceSub, Array.replicate_succ, Array.replicate_zero, List.push_toArray, List.append_toArray, List.nil_append, List.cons_append]
  clear hB
  gi_wp2_with fail
  refine ⟨trivial, (callsIn_wide.2 HFIT.out).mono ?_⟩
  rintro e w2 ⟨rfl, hdw⟩
  have HD := Lib.hid (((Below.refl w.heap.size w).alloc (Nat.le_refl _) (.cells #[.slice a len cap] 23)).trans (hdw.below _))
  clear hdw
  gi_wp2_with fail
  go_ret
  exact ⟨rfl, HD.out⟩
theorem spanOf_impl (a : Option Addr) (len cap : Nat) (rows : List (List Int)) (a2 : Option Addr) (len2 cap2 : Nat) (o : List Int) (w : World) (h : RowsAt w (· < w.heap.size) a len rows) (g : IntsAt w (· < w.heap.size) a2 len2 o) (hc : len ≤ cap) (hc2 : len2 ≤ cap2) :
    Calls Try.prog 11 #[.slice a len cap, .slice a2 len2 cap2] w (ValPost w (.int .i64 (spanRes rows o))) := by
  have HL := Lib.hid h.lenEq
  cases hf : spanFine rows o
  · rw [spanRes_no hf]
    go_enter Try.func11, Try.ntmps11
    go_wp2_with fail
    refine (leastOne_no a len cap rows a2 len2 cap2 o w h g hc hf).mono ?_
    rintro e w' ⟨rfl, hb⟩
    go_wp2_with fail
    go_ret
    exact ⟨rfl, hb⟩
  · rw [spanRes_yes hf]
    obtain ⟨hp, hO⟩ := spanFine_get hf
    have hl8 : len ≤ 8 := by have := (pairs_get hp).1; have := HL.out; omega
    have hl2 : len2 = len := by have := hO.2; have := HL.out; have := g.lenEq; omega
    have hG := leastSpan_gen a len cap rows 48 73 74 (.slice a2 len2 cap2) 48 (fun _ => o) 1 (OneE a2 len2 cap2 (· < w.heap.size) o) w h hp
      (fun _ _ => by kernel_rfl) (enters_of Try.func73 (by kernel_rfl) rfl) (enters_of Try.func74 (by kernel_rfl) rfl)
      (fun w' hb => (fitOne_any _ _ a len cap rows a2 len2 cap2 o w' (h.below hb) (g.below hb) hc).mono (by rintro e w2 ⟨rfl, hd⟩; rw [hf]; exact ⟨rfl, hd⟩))
      (fun w' => eachOne_any 8 a2 len2 cap2 w')
      (fun w' hsz _ hcell => one_seq a2 len2 cap2 _ _ o w' (by omega) hcell)
      (fun m k x A B he _ => he)
      (fun m k x W he hb => by
        obtain ⟨rfl, rfl⟩ := he
        exact ⟨_, g.below hb, by dsimp only; omega, fun x hx => by have := hO.1.1 x hx; rw [HL.out] at this; exact this⟩)
    have hv : lstT (fun _ => spanT (ta rows) (tb rows) (nO o)) 1 = spanT (ta rows) (tb rows) (nO o) := by
      rw [lstT, lstT]; simp
    rw [hv] at hG
    generalize spanT (ta rows) (tb rows) (nO o) = v at hG ⊢
    have HG := Lib.hid hG
    clear hv hG hl2
    go_enter Try.func11, Try.ntmps11
    go_wp2_with fail
    refine HG.out.mono ?_
    rintro e w' ⟨rfl, hb⟩
    go_wp2_with fail
    go_ret
    exact ⟨rfl, hb⟩
end Go.Proofs.Ytcikgbkehfepdac
namespace Go.Proofs.Ytcikgbkehfepdac
open Go.RowKit Go.WideShapes

def natI (h : List Nat) : List Int := h.map (fun x : Nat => (x : Int))
theorem natI_get {h : List Nat} {k : Nat} {x : Int} (hx : (natI h)[k]? = some x) : ∃ y : Nat, x = (y : Int) ∧ h[k]? = some y := by
  unfold natI at hx
  rw [List.getElem?_map] at hx
  cases hq : h[k]? with
  | none => rw [hq] at hx; cases hx
  | some y => rw [hq] at hx; simp only [Option.map_some, Option.some.injEq] at hx; exact ⟨y, hx.symm, rfl⟩
theorem nO_natI (h : List Nat) : nO (natI h) = h := by
  unfold nO natI
  rw [List.map_map]
  conv => rhs; rw [← List.map_id h]
  exact List.map_congr_left (fun x _ => by simp)
theorem natI_mem {h : List Nat} {n : Nat} (hh : ∀ x ∈ h, x < n) : ∀ x ∈ natI h, 0 ≤ x ∧ x < (n : Int) := by
  intro x hx
  obtain ⟨y, hy, rfl⟩ := List.mem_map.1 hx
  have := hh y hy; omega
end Go.Proofs.Ytcikgbkehfepdac
