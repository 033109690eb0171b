import Derived.Test.YtmcongioghkdcaeM0
import Derived.RangeFuncCalls
import Derived.RangeFuncWrites
import Derived.TacticsIn
import Derived.StillTail
import Derived.RangeFuncLeaves
import Derived.RangeFuncNested
import Derived.Test.YtmcongioghkdcaeRows
import Derived.RangeFuncBound
import Derived.Shelf.Abstract
import Derived.Shelf.RegionOpen
import Derived.WalkKit
import Derived.OwnWalkIn
import Derived.TacticsInMore
import Derived.LoopNIn
import Derived.LoopIn
import Derived.Deep.RegionHeld3
import Derived.Test.YtmcongioghkdcaeM1
import Derived.Test.YtmcongioghkdcaeM13
import Derived.Test.YtmcongioghkdcaeM8
namespace Go.Proofs.Ytmcongioghkdcae
/-- a part that a row takes, and how many -/
abbrev Part (xs : List Int) := { x : Nat × Int // xs[x.1]? = some x.2 ∧ 0 < x.2 }
def pairAt (xs : List Int) (k : Nat) : List (Nat × Int) :=
  match xs[k]? with
  | some x => if 0 < x then [(k, x)] else []
  | none => []
/-- the parts among the first k -/
def pairsTo (xs : List Int) : Nat → List (Nat × Int)
  | 0 => []
  | k + 1 => pairsTo xs k ++ pairAt xs k
theorem pairAt_yes {xs : List Int} {k : Nat} {x : Int} (h : xs[k]? = some x) (h0 : 0 < x) : pairAt xs k = [(k, x)] := by simp [pairAt, h, h0]
theorem pairAt_no {xs : List Int} {k : Nat} {x : Int} (h : xs[k]? = some x) (h0 : ¬ 0 < x) : pairAt xs k = [] := by simp only [pairAt, h, if_neg h0]
theorem pairsTo_length (xs : List Int) (k : Nat) : (pairsTo xs k).length ≤ k := by
  induction k with
  | zero => simp [pairsTo]
  | succ k ih =>
    have : (pairAt xs k).length ≤ 1 := by
      unfold pairAt
      split
      · split <;> simp
      · simp
    simp only [pairsTo, List.length_append]
    omega
def sumOver (f : Nat → Int → Int) (l : List (Nat × Int)) : Int := l.foldl (fun s p => s + f p.1 p.2) 0
theorem sumOver_snoc (f : Nat → Int → Int) (l : List (Nat × Int)) (p : Nat × Int) : sumOver f (l ++ [p]) = sumOver f l + f p.1 p.2 := by simp [sumOver]
/-- how many of j one of i takes, over d levels -/
def countM (rows : List (List Int)) (j : Nat) : Nat → Nat → Int
  | 0, i => if i = j then 1 else 0
  | d + 1, i => if i = j then 1 else sumOver (fun p c => c * countM rows j d p) (pairsTo (rows.getD i []) (rows.getD i []).length)

theorem pow_le {d : Nat} (h : d ≤ 6) : 18 ^ d ≤ 34012224 := Nat.le_trans (Nat.pow_le_pow_right (by omega) h) (by decide)
theorem mem_pairsTo {xs : List Int} {p : Nat × Int} : ∀ {k : Nat}, p ∈ pairsTo xs k → xs[p.1]? = some p.2 ∧ 0 < p.2 := by
  intro k
  induction k with
  | zero => intro h; simp [pairsTo] at h
  | succ k ih =>
    intro h
    simp only [pairsTo, List.mem_append] at h
    rcases h with h | h
    · exact ih h
    · unfold pairAt at h
      split at h
      · split at h
        · simp only [List.mem_singleton] at h; subst h; exact ⟨by assumption, by assumption⟩
        · cases h
      · cases h
theorem sumOver_bd {f : Nat → Int → Int} {B : Int} : ∀ (l : List (Nat × Int)), (∀ p ∈ l, 0 ≤ f p.1 p.2 ∧ f p.1 p.2 ≤ B) → 0 ≤ sumOver f l ∧ sumOver f l ≤ B * l.length := by
  have key : ∀ (l : List (Nat × Int)) (s : Int), (∀ p ∈ l, 0 ≤ f p.1 p.2 ∧ f p.1 p.2 ≤ B) → s ≤ l.foldl (fun s p => s + f p.1 p.2) s ∧ l.foldl (fun s p => s + f p.1 p.2) s ≤ s + B * l.length := by
    intro l
    induction l with
    | nil => intro s _; simp
    | cons p l ih =>
      intro s h
      have h1 := h p List.mem_cons_self
      have h2 := ih (s + f p.1 p.2) (fun q hq => h q (List.mem_cons_of_mem _ hq))
      have e : B * ((p :: l).length : Int) = B * (l.length : Int) + B := by rw [List.length_cons]; push_cast; rw [Int.mul_add, Int.mul_one]
      simp only [List.foldl_cons]
      rw [e]
      omega
  intro l h
  have := key l 0 h
  unfold sumOver
  omega
/-- what holds of a valid bill's rows -/
theorem okRows_get {rows : List (List Int)} {i : Nat} {r : List Int} (hv : validBillM rows = true) (h : rows[i]? = some r) : r.length = i ∧ (∀ x ∈ r, 0 ≤ x ∧ x ≤ 3) ∧ i < 6 := by
  have hi : i < rows.length := by
    rcases Nat.lt_or_ge i rows.length with h' | h'
    · exact h'
    · simp [List.getElem?_eq_none h'] at h
  simp only [validBillM, Bool.and_eq_true, inB, decide_eq_true_eq] at hv
  have hr : rowOk i r = true := by
    cases hq : rowOk i r with
    | true => rfl
    | false => rw [okRows_false h hq] at hv; cases hv.2
  simp only [rowOk, Bool.and_eq_true, beq_iff_eq, allIn, List.all_eq_true, inB, decide_eq_true_eq] at hr
  exact ⟨hr.1, hr.2, by omega⟩
theorem validBill_len6 {rows : List (List Int)} (hv : validBillM rows = true) : rows.length ≤ 6 := by
  simp only [validBillM, Bool.and_eq_true, inB, decide_eq_true_eq] at hv
  omega
theorem countM_bd {rows : List (List Int)} (hv : validBillM rows = true) (j : Nat) : ∀ (d i : Nat), 0 ≤ countM rows j d i ∧ countM rows j d i ≤ ((18 ^ d : Nat) : Int) := by
  intro d
  induction d with
  | zero => intro i; simp only [countM]; split <;> simp
  | succ d ih =>
    intro i
    have hp : (1 : Nat) ≤ 18 ^ d := Nat.one_le_pow _ _ (by omega)
    have e : (18 ^ (d + 1) : Nat) = 18 * 18 ^ d := by rw [Nat.pow_succ, Nat.mul_comm]
    simp only [countM]
    split
    · omega
    · rw [List.getD_eq_getElem?_getD]
      cases hr : rows[i]? with
      | none => simp only [Option.getD_none, List.length_nil, pairsTo, sumOver, List.foldl_nil]; omega
      | some r =>
        simp only [Option.getD_some]
        obtain ⟨h1, h2, h3⟩ := okRows_get hv hr
        have hb := sumOver_bd (f := fun p c => c * countM rows j d p) (B := 3 * ((18 ^ d : Nat) : Int)) (pairsTo r r.length) (fun p hp => by
          obtain ⟨hp1, hp2⟩ := mem_pairsTo hp
          have hc := h2 p.2 (List.mem_of_getElem? hp1)
          have hq := ih p.1
          refine ⟨Int.mul_nonneg hc.1 hq.1, ?_⟩
          have := Int.mul_le_mul hc.2 hq.2 hq.1 (by omega)
          exact this)
        have hl := pairsTo_length r r.length
        have hm : 3 * ((18 ^ d : Nat) : Int) * ((pairsTo r r.length).length : Int) ≤ 3 * ((18 ^ d : Nat) : Int) * 6 := Int.mul_le_mul_of_nonneg_left (by omega) (by omega)
        refine ⟨hb.1, Int.le_trans hb.2 ?_⟩
        omega

theorem countM_low {rows : List (List Int)} (hv : validBillM rows = true) (j : Nat) : ∀ (d i : Nat), i < j → countM rows j d i = 0 := by
  intro d
  induction d with
  | zero => intro i h; simp only [countM]; rw [if_neg (by omega)]
  | succ d ih =>
    intro i h
    simp only [countM]
    rw [if_neg (by omega), List.getD_eq_getElem?_getD]
    cases hr : rows[i]? with
    | none => rfl
    | some r =>
      simp only [Option.getD_some]
      obtain ⟨h1, _, _⟩ := okRows_get hv hr
      have hb := sumOver_bd (f := fun p c => c * countM rows j d p) (B := 0) (pairsTo r r.length) (fun p hp => by
        obtain ⟨hp1, hp2⟩ := mem_pairsTo hp
        have hpl : p.1 < r.length := by
          rcases Nat.lt_or_ge p.1 r.length with h' | h'
          · exact h'
          · simp [List.getElem?_eq_none h'] at hp1
        have := ih p.1 (by omega)
        show 0 ≤ p.2 * countM rows j d p.1 ∧ p.2 * countM rows j d p.1 ≤ 0
        rw [this, Int.mul_zero]
        exact ⟨Int.le_refl _, Int.le_refl _⟩)
      omega
/-- the bounds of one summand, and of a part of the sum -/
theorem term_bd {rows : List (List Int)} {r : List Int} {i d : Nat} (hv : validBillM rows = true) (hr : rows[i]? = some r) (hd : d ≤ 6) (j : Nat) {k : Nat} {x : Int} (hx : r[k]? = some x) :
    0 ≤ x * countM rows j d k ∧ x * countM rows j d k ≤ 102036672 := by
  obtain ⟨_, h2, _⟩ := okRows_get hv hr
  have hz := h2 x (List.mem_of_getElem? hx)
  have hy := countM_bd hv j d k
  have hpw := pow_le hd
  have hm := Int.mul_le_mul hz.2 hy.2 hy.1 (by omega)
  exact ⟨Int.mul_nonneg hz.1 hy.1, by omega⟩
theorem part_bd {rows : List (List Int)} {r : List Int} {i d : Nat} (hv : validBillM rows = true) (hr : rows[i]? = some r) (hd : d ≤ 6) (j : Nat) (k : Nat) (hk : k ≤ 6) :
    0 ≤ sumOver (fun p c => c * countM rows j d p) (pairsTo r k) ∧ sumOver (fun p c => c * countM rows j d p) (pairsTo r k) ≤ 612220032 := by
  have hb := sumOver_bd (f := fun p c => c * countM rows j d p) (B := 102036672) (pairsTo r k) (fun p hp => term_bd hv hr hd j (mem_pairsTo hp).1)
  have hl := pairsTo_length r k
  have : (102036672 : Int) * ((pairsTo r k).length : Int) ≤ 102036672 * 6 := Int.mul_le_mul_of_nonneg_left (by omega) (by omega)
  exact ⟨hb.1, Int.le_trans hb.2 this⟩
theorem countM_eq {rows : List (List Int)} {r : List Int} {i d j : Nat} (hr : rows[i]? = some r) (hij : i ≠ j) : countM rows j (d + 1) i = sumOver (fun p c => c * countM rows j d p) (pairsTo r r.length) := by
  rw [countM, if_neg hij, List.getD_eq_getElem?_getD, hr, Option.getD_some]
theorem countM_self (rows : List (List Int)) (d i : Nat) : countM rows i d i = 1 := by
  cases d <;> simp [countM]
end Go.Proofs.Ytmcongioghkdcae
namespace Go.Proofs.Ytmcongioghkdcae
open Go.RowKit

/-- one operation in a round of a wide fence: as everywhere, where it is no defer statement -/
theorem oper_round {P : Program} {o : Oper} {a : Act} {w : World} {next next' : Act → World → Prop} {Q : Exit → Act → World → Prop} (r n : Nat) (hnd : ∀ c, o.op ≠ .defer c)
    (h : Oper.wp P o a w next Q) (hn : ∀ a w, next a w → next' a w) : o.wpIn (Fence.wide.inRound r) n P a w next' Q := by
  refine ⟨fun _ _ => trivial, ?_⟩
  rw [Fence.inRound_round, Oper.semAt_some r a.eval o hnd]
  unfold Oper.wp at h
  cases hx : (execOp a.eval o).run P w with
  | halt x w' =>
    rw [hx] at h
    cases x <;> first | exact h | exact h.elim
  | ok x w' =>
    rw [hx] at h
    cases x with
    | value v => exact hn _ _ h
    | skip => exact hn _ _ h
    | defer d => exact hn _ _ h
    | enter f args =>
      refine ⟨fun e => (by cases e), CallsIn.inRound r (callsIn_wide.2 (Calls.mono h ?_))⟩
      intro e w'' he
      cases e with
      | returned v => exact hn _ _ he
      | panicked c => exact he
      | outgrown => exact he
    | row row args =>
      refine ⟨fun e => (by cases e), ?_⟩
      have h' : RowsIn Fence.wide (n - 1) P row args w' (fun v w'' => next' (a.put o.dst v) w'') := fun c cs _ => by
        obtain ⟨v, w'', hr, hs⟩ := h c cs
        exact ⟨v, w'', hn _ _ hr, stepsIn_wide.2 hs⟩
      exact h'
    | _ => exact h.elim
/-- no operation is a defer statement -/
def noDefer (ops : Array Oper) : Bool := ops.all fun o => match o.op with | .defer _ => false | _ => true
theorem noDefer_spec {ops : Array Oper} (h : noDefer ops = true) {i : Nat} {o : Oper} (ho : ops[i]? = some o) : ∀ c, o.op ≠ .defer c := by
  intro c e
  obtain ⟨hi, rfl⟩ := Array.getElem?_eq_some_iff.1 ho
  have := (Array.all_eq_true.1 h) i hi
  rw [e] at this
  cases this

theorem ops_round {P : Program} {ops : Array Oper} {Q : Exit → Act → World → Prop} (r n : Nat) (hnd : noDefer ops = true) (hQ : ∀ a w, ¬ Q .outgrown a w) :
    ∀ (l : List Nat) (a : Act) (w : World), wpOps P ops Q l a w → wpOpsIn (Fence.wide.inRound r) n P ops Q l a w := by
  intro l
  induction l with
  | nil => exact fun _ _ h => h
  | cons i rest ih =>
    intro a w h
    simp only [wpOps] at h
    simp only [wpOpsIn]
    cases ho : ops[i]? with
    | none => rw [ho] at h; exact ih _ _ h
    | some o =>
      rw [ho] at h
      dsimp only at h ⊢
      by_cases hw : Region.wanted o (yielded ops a.tmps) = true
      · rw [if_pos hw] at h ⊢
        rcases h with h | ⟨_, a0, w0, hq⟩
        · exact oper_round r n (noDefer_spec hnd ho) h ih
        · exact (hQ a0 w0 hq).elim
      · rw [if_neg hw] at h ⊢
        exact ⟨fun _ _ => trivial, ih _ _ h⟩

theorem region_round_any {P : Program} {ops : Array Oper} {Q : Exit → Act → World → Prop} {id : Nat} {a : Act} {w : World} (r n : Nat) (hnd : noDefer ops = true) (hQ : ∀ a w, ¬ Q .outgrown a w) (hm : P.follows .mixedOrders = true)
    (h : wpAny P .any ops Q ops.size (Array.replicate ops.size false) a { w with drawn := w.drawn + 1 }) : (Code.region id ops true).wpIn (Fence.wide.inRound r) n P Q a w :=
  wpIn_region_draw fun t => by
    simp only [Region.schedule, hm, Bool.true_or, if_true]
    exact ops_round r n hnd hQ _ _ _ (wpAny_sound ops.size t _ a _ h)

/-- a region of a round that only reads ahead of its last operations, walked in the order of the text -/
theorem region_round_tail {P : Program} {id : Nat} {Q : Exit → Act → World → Prop} {a : Act} {w : World} {l : List Oper} (r n k : Nat) (hnd : noDefer l.toArray = true) (hQ : ∀ a w, ¬ Q .outgrown a w) (hm : P.follows .mixedOrders = true)
    (hB : Region.lexTailB .any l.toArray k = true)
    (h : wpStill P l.toArray { w with drawn := w.drawn + 1 } (fun a' => wpList P l.toArray Q (l.drop k) a' { w with drawn := w.drawn + 1 }) (l.take k) a) : (Code.region id l.toArray true).wpIn (Fence.wide.inRound r) n P Q a w := by
  simp only [Region.lexTailB, Bool.and_eq_true, decide_eq_true_eq] at hB
  obtain ⟨⟨⟨⟨hsel, hn⟩, hs⟩, hc⟩, hlex⟩ := hB
  have hn' : k < l.length := by simpa using hn
  have htl : (l.take k).length = k := by simp; omega
  have hdl : (l.drop k).length = l.toArray.size - k := by simp
  have inv0 : HeadInv .any l.toArray k (Array.replicate l.toArray.size false) :=
    ⟨by simp, fun j oj _ hl => (by rw [getD_replicate_false] at hl; cases hl), fun t _ ht => getD_in (by simpa using ht) (getD_replicate_false _ _)⟩
  have H := wpAnyL_lex (md := .any) (g := l.toArray.size - k) hsel hs hc hn (l.take k) 0 _ a (fun j hj => by
    have hj' : j < k := by rw [htl] at hj; exact hj
    simp [hj']) (by simpa using htl) inv0 (by rw [htl]; exact hlex) h
  refine region_round_any r n hnd hQ hm ?_
  have := wpAny_of_head (Q' := Q) (g := l.toArray.size - k) (fun listed a' hL => by
    have := wpAny_of_seq (md := .any) (Q' := Q) (l.drop k) k listed a' { w with drawn := w.drawn + 1 } (fun j => by simp [List.getElem?_drop]) (by rw [hdl]; exact hL.1) hL.2
    rwa [hdl] at this) _ _ _ H
  rw [htl, show k + (l.toArray.size - k) = l.toArray.size by omega] at this
  exact this
/-! ### several ranges over functions in one call: one mark each -/
def collected (D : Nat) : Deferred := { target := .collected D, args := #[] }
/-- the blocks of the marks, from B on, no two the same -/
def Marks (w : World) (B : Nat) : List Nat → Prop
  | [] => True
  | D :: Ds => (w.heap[D]? = some (.deferred (some [])) ∧ B ≤ D ∧ ∀ x ∈ Ds, x ≠ D) ∧ Marks w B Ds
theorem Marks.kept {w w' : World} {B : Nat} : ∀ {Ds : List Nat}, Marks w B Ds → (∀ D ∈ Ds, w.heap[D]? = some (.deferred (some [])) → w'.heap[D]? = some (.deferred (some []))) → Marks w' B Ds := by
  intro Ds
  induction Ds with
  | nil => exact fun _ _ => trivial
  | cons D Ds ih => exact fun h g => ⟨⟨g D List.mem_cons_self h.1.1, h.1.2⟩, ih h.2 (fun x hx => g x (List.mem_cons_of_mem _ hx))⟩
theorem Marks.get {w : World} {B D : Nat} : ∀ {Ds : List Nat}, Marks w B Ds → D ∈ Ds → w.heap[D]? = some (.deferred (some [])) ∧ B ≤ D := by
  intro Ds
  induction Ds with
  | nil => intro _ h; cases h
  | cons x Ds ih =>
    intro h hm
    rcases List.mem_cons.1 hm with rfl | hm
    · exact ⟨h.1.1, h.1.2.1⟩
    · exact ih h.2 hm
theorem Marks.lt {w : World} {B D : Nat} {Ds : List Nat} (h : Marks w B Ds) (hm : D ∈ Ds) : D < w.heap.size := by
  have h1 := (h.get hm).1
  rcases Nat.lt_or_ge D w.heap.size with h' | h'
  · exact h'
  · rw [Array.getElem?_eq_none h'] at h1; cases h1
theorem Marks.alloc {w : World} {B : Nat} {Ds : List Nat} (h : Marks w B Ds) (o : Obj) : Marks (w.alloc o) B Ds :=
  h.kept (fun D hD hx => by rw [Below.heap_alloc _ _ _ (h.lt hD)]; exact hx)
theorem Marks.setCell {w : World} {B : Nat} {Ds : List Nat} (h : Marks w B Ds) {p : Addr} {v u : Value} (hp : w.cell? p = some v) : Marks (w.setCell p u) B Ds :=
  h.kept (fun D _ hx => by
    rw [Below.heap_setCell _ _ _ _ (fun e => by subst e; simp [World.cell?, hx] at hp)]
    exact hx)
/-- cells read as they did, and what lay below B lies as it lay -/
structure SameCells (B : Nat) (w w' : World) : Prop where
  cell : ∀ p, w'.cell? p = w.cell? p
  frozen : ∀ p, w'.frozen? p = w.frozen? p
  below : Below B w w'
theorem SameCells.refl (B : Nat) (w : World) : SameCells B w w := ⟨fun _ => rfl, fun _ => rfl, Below.refl _ _⟩
theorem SameCells.trans {B : Nat} {a b c : World} (h : SameCells B a b) (g : SameCells B b c) : SameCells B a c :=
  ⟨fun p => (g.cell p).trans (h.cell p), fun p => (g.frozen p).trans (h.frozen p), h.below.trans g.below⟩
theorem sameCells_put {B D : Nat} {w : World} (h : w.heap[D]? = some (.deferred (some []))) (hB : B ≤ D) : SameCells B w (w.putObj D (.deferred none)) := by
  have hd : D < w.heap.size := by
    rcases Nat.lt_or_ge D w.heap.size with h' | h'
    · exact h'
    · rw [Array.getElem?_eq_none h'] at h; cases h
  have hs : (w.putObj D (.deferred none)).heap[D]? = some (.deferred none) := by simp [World.putObj, hd]
  have hb : Below B w (w.putObj D (.deferred none)) := ⟨rfl, rfl, rfl, by simp, fun k hk => World.putObj_heap_other (by omega)⟩
  refine ⟨fun p => ?_, fun p => ?_, hb⟩
  · by_cases e : p.block = D
    · simp only [World.cell?, e, hs, h]
    · exact World.cell?_of_block (w := w) (World.putObj_heap_other e)
  · by_cases e : p.block = D
    · simp only [World.frozen?, e, hs, h]
    · exact World.frozen?_of_block (w := w) (World.putObj_heap_other e)

theorem leaves_marks {F : Fence} {n B : Nat} {P : Program} {fn : Func} {tmps : Array Value} {R : Ending → World → Prop} {v : Value} (hres : ∀ w, (results fn tmps).run P w = .ok v w) : ∀ (Ds : List Nat) (w : World), Marks w B Ds →
    (∀ w', SameCells B w w' → R (.returned v) w') → LeavesInM F n P fn tmps R (Ds.map collected) .returning w := by
  intro Ds
  induction Ds with
  | nil => exact fun w _ h => ⟨v, hres w, h w (SameCells.refl _ _)⟩
  | cons D Ds ih =>
    intro w hm h
    have hput := sameCells_put hm.1.1 hm.1.2.1
    refine ⟨by simp, Or.inl ⟨D, _, rfl, run_takeDeferred hm.1.1, ih _ (hm.2.kept (fun x hx hx' => ?_)) (fun w' hw' => h w' (hput.trans hw'))⟩⟩
    rw [World.putObj_heap_other (hm.1.2.2 x hx)]
    exact hx'
end Go.Proofs.Ytmcongioghkdcae
namespace Go.Proofs.Ytmcongioghkdcae
open Go.RowKit Go.Shelf

attribute [local go_sem] Oper.semAt_some

theorem cell_new_l (W : World) (v : Value) (t : TypeId) : (W.alloc (.cells #[v] t)).cell? ⟨W.heap.size, 0, none⟩ = some v ∧ (W.alloc (.cells #[v] t)).frozen? ⟨W.heap.size, 0, none⟩ = false :=
  ⟨by rw [World.cell?_alloc_new]; rfl, World.frozen?_alloc_new W _ _ _⟩
theorem cell_alloc_l {W : World} {a : Addr} {v : Value} (o : Obj) (h : W.cell? a = some v) : (W.alloc o).cell? a = some v := cell_kept h (World.grownBy_alloc W o none) (fun r e => by cases e)
theorem frozen_alloc_l {W : World} {a : Addr} {v : Value} (o : Obj) (h : W.cell? a = some v) (hf : W.frozen? a = false) : (W.alloc o).frozen? a = false := (frozen_kept h (World.grownBy_alloc W o none) (fun r e => by cases e)).trans hf
theorem lt_cell {W : World} {b o : Nat} {v : Value} (h : W.cell? ⟨b, o, none⟩ = some v) : b < W.heap.size := by
  rcases Nat.lt_or_ge b W.heap.size with h' | h'
  · exact h'
  · simp [World.cell?, Array.getElem?_eq_none h'] at h
def partArgs (xs : List Int) (x : Part xs) : Array Value := #[.int .i64 (x.1.1 : Int), .int .i64 x.1.2]

end Go.Proofs.Ytmcongioghkdcae
namespace Go.Proofs.Ytmcongioghkdcae
open Go.RowKit Go.Shelf

attribute [local go_sem] Oper.semAt_some

/-- an element of a list, by its place -/
abbrev IRow (xs : List Int) := { x : Nat × Int // xs[x.1]? = some x.2 }
def backIArgs (xs : List Int) (x : IRow xs) : Array Value := #[.int .i64 (x.1.1 : Int), .int .i64 x.1.2]
/-- all below n and block Bs are as they were -/
def KeepI (n Bs : Nat) (W W' : World) : Prop := Below n W W' ∧ W'.heap[Bs]? = W.heap[Bs]?
theorem KeepI.refl (n Bs : Nat) (W : World) : KeepI n Bs W W := ⟨Below.refl _ _, rfl⟩
theorem KeepI.trans {n Bs : Nat} {A B C : World} (h : KeepI n Bs A B) (g : KeepI n Bs B C) : KeepI n Bs A C := ⟨h.1.trans g.1, g.2.trans h.2⟩
def downI (len j : Nat) : List Nat := (List.range j).map (fun d => len - 1 - d)
theorem downI_succ (len j : Nat) : downI len (j + 1) = downI len j ++ [len - 1 - j] := by simp [downI, List.range_succ]

theorem leaves_marksC {F : Fence} {n B : Nat} {P : Program} {fn : Func} {tmps : Array Value} {R : Ending → World → Prop} {v : Value} : ∀ (Ds : List Nat) (w : World), Marks w B Ds →
    (∀ w', SameCells B w w' → (results fn tmps).run P w' = .ok v w') → (∀ w', SameCells B w w' → R (.returned v) w') → LeavesInM F n P fn tmps R (Ds.map collected) .returning w := by
  intro Ds
  induction Ds with
  | nil => exact fun w _ hres h => ⟨v, hres w (SameCells.refl _ _), h w (SameCells.refl _ _)⟩
  | cons D Ds ih =>
    intro w hm hres h
    have hput := sameCells_put hm.1.1 hm.1.2.1
    refine ⟨by simp, Or.inl ⟨D, _, rfl, run_takeDeferred hm.1.1, ih _ (hm.2.kept (fun x hx hx' => ?_)) (fun w' hw' => hres w' (hput.trans hw')) (fun w' hw' => h w' (hput.trans hw'))⟩⟩
    rw [World.putObj_heap_other (hm.1.2.2 x hx)]
    exact hx'
end Go.Proofs.Ytmcongioghkdcae
namespace Go.Proofs.Ytmcongioghkdcae
open Go.RowKit

-- A range over a function that hands over several values, writes memory of its own between its rounds, and reads older blocks that its rounds keep: told by the number of rounds gone.
/-- the blocks of K that W has are as they were -/
def KeepsP (K : Nat → Prop) (W W' : World) : Prop := W.heap.size ≤ W'.heap.size ∧ ∀ b, K b → b < W.heap.size → W'.heap[b]? = W.heap[b]?
theorem KeepsP.refl (K : Nat → Prop) (W : World) : KeepsP K W W := ⟨Nat.le_refl _, fun _ _ _ => rfl⟩
theorem KeepsP.trans {K : Nat → Prop} {A B C : World} (h : KeepsP K A B) (g : KeepsP K B C) : KeepsP K A C :=
  ⟨Nat.le_trans h.1 g.1, fun b hb hlt => (g.2 b hb (Nat.lt_of_lt_of_le hlt h.1)).trans (h.2 b hb hlt)⟩
theorem KeepsP.wide {K L : Nat → Prop} {A B : World} (h : KeepsP K A B) (hm : ∀ b, L b → K b) : KeepsP L A B := ⟨h.1, fun b hb hlt => h.2 b (hm b hb) hlt⟩
theorem KeepsP.setCell (K : Nat → Prop) (W : World) {p : Addr} (hp : ¬ K p.block) (v : Value) : KeepsP K W (W.setCell p v) :=
  ⟨by simp [World.setCell], fun b hb _ => Below.heap_setCell _ _ _ _ (fun e => hp (e ▸ hb))⟩
theorem KeepsP.below (K : Nat → Prop) {W W' : World} (h : Below W.heap.size W W') : KeepsP K W W' := ⟨h.size, fun b _ hlt => h.block b hlt⟩
theorem KeepsP.putObj {K : Nat → Prop} {l : Nat} (W : World) (h : ¬ K l) (o : Obj) : KeepsP K W (W.putObj l o) := ⟨by simp, fun b hb _ => World.putObj_heap_other (fun e => h (e ▸ hb))⟩
theorem below_putObj2 {n l : Nat} (W : World) (h : n ≤ l) (o : Obj) : Below n W (W.putObj l o) := ⟨rfl, rfl, rfl, by simp, fun k hk => World.putObj_heap_other (by omega)⟩

/-- how a round's body ends: what is to be kept is kept, and the invariant is carried on -/
def countPostP (K : Nat → Prop) (R : World → Prop) (W : World) : Exit → Act → World → Prop
  | .normal, _, W' => KeepsP K W W' ∧ R W'
  | _, _, _ => False
/-- the contract of a function that yields: S tells how many rounds there are, E what comes with which, Pr which older blocks the rounds must keep -/
def SeqCountP {α : Type} (F : Fence) (n : Nat) (P : Program) (gf : Nat) (lb : Array Value) (enc : α → Array Value) (S : Nat → Prop) (E : Nat → Nat → α → World → Prop) (Pr : Nat → Prop) (w : World) : Prop :=
  ∀ (l : Nat) (J : Nat → World → Prop) (W1 : World), Below w.heap.size w W1 → W1.heap.size = w.heap.size + 2 →
    (∀ k A B, J k A → Below W1.heap.size A B → J k B) →
    (∀ k x W, J k W → E W1.heap.size k x W → YieldAt F (n - 1) P l (enc x) W fun e W' => e = .returned (.bool true) ∧ J (k + 1) W' ∧ KeepsP (fun b => W1.heap.size ≤ b ∨ Pr b) W W') →
    J 0 W1 → CallsIn F n P gf (#[.func (.yield l) #[] #[]] ++ lb) W1 fun e W' => (∃ v, e = .returned v) ∧ ∃ k, S k ∧ J k W'
theorem wpIn_rangeFunc_countP {α : Type} {F : Fence} {n : Nat} {P : Program} {g : Operand} {ps : Array Tmp} {assign body : Code} {Q : Exit → Act → World → Prop} {a : Act} {w : World}
    (hro : F.round = none) (h1 : 1 ≤ n) {gf : Nat} {lb : Array Value} (hg : a.eval g = .func (.func gf) #[] lb) (hFg : F.fn gf) (eg : ∀ args w, (callFunc gf args).run P w = .ok (.enter gf args) w)
    {enc : α → Array Value} {S : Nat → Prop} {E : Nat → Nat → α → World → Prop} {Pr : Nat → Prop} (hPr : ∀ b, Pr b → b < w.heap.size) (hseq : SeqCountP F (n - 1) P gf lb enc S E Pr w) (hps : ∀ x, ps.size = (enc x).size)
    (hE : ∀ m k x A B, E m k x A → KeepsP (fun b => m ≤ b ∨ Pr b) A B → E m k x B)
    (I : Nat → World → Prop) (hI : ∀ k A B, I k A → Below w.heap.size A B → I k B) (h0 : I 0 w) (a₁ : α → World → Act) (nx : α → World → World) (hnx : ∀ x W, Below W.heap.size W (nx x W))
    (hassign : ∀ (l : Nat) (x : α) (W : World) (K : Act → World → Prop), K (a₁ x W) (nx x W) →
      assign.wpIn (F.inRound l) (n - 1 - 1) P (Exit.then K (fun _ _ _ => False)) { tmps := (ps.zip (enc x)).foldl (fun t (p, v) => t.setIfInBounds p v) a.tmps, defers := [] } W)
    (hbody : ∀ (l k : Nat) (x : α) (W0 W : World), w.heap.size + 2 ≤ W0.heap.size → (∀ b, w.heap.size + 2 ≤ b → W.heap[b]? = (nx x W0).heap[b]?) → W.heap.size = (nx x W0).heap.size → I k W → E (w.heap.size + 2) k x W →
      body.wpIn (F.inRound l) (n - 1 - 1) P (countPostP (fun b => w.heap.size ≤ b ∨ Pr b) (I (k + 1)) W) (a₁ x W0) W)
    (hdone : ∀ (D k : Nat) (W : World), w.heap.size ≤ D → S k → I k W → W.heap[D]? = some (.deferred (some [])) → Q .normal { a with defers := { target := .collected D, args := #[] } :: a.defers } W) :
    (Code.rangeFunc g ps assign body).wpIn F n P Q a w := by
  refine wpIn_rangeFunc ?_
  intro fn hfn
  rw [hro]
  obtain ⟨rec, hrec⟩ : ∃ rec : LoopState → Loop, rec = fun st => { state := st, pending := none, fn, tmps := a.tmps, params := ps, assign, body, defers := w.heap.size } := ⟨_, rfl⟩
  obtain ⟨W1, hW1⟩ : ∃ W1, (w.alloc (.deferred (some []))).alloc (.loop (rec .ready)) = W1 := ⟨_, rfl⟩
  have hsz : W1.heap.size = w.heap.size + 2 := by rw [← hW1]; simp
  have hb1 : Below w.heap.size w W1 := by rw [← hW1]; exact ((Below.refl _ w).alloc (Nat.le_refl _) _).alloc (by simp) _
  have hL1 : W1.heap[w.heap.size + 1]? = some (.loop (rec .ready)) := by
    rw [← hW1]; have := World.alloc_heap_new (w.alloc (.deferred (some []))) (.loop (rec .ready)); rwa [World.size_alloc] at this
  have hK1 : W1.heap[w.heap.size]? = some (.deferred (some [])) := by
    rw [← hW1]; exact (Below.heap_alloc _ _ _ (by simp)).trans (World.alloc_heap_new w _)
  have hnl : ¬ (fun b => W1.heap.size ≤ b ∨ Pr b) (w.heap.size + 1) := fun h => by
    rcases h with h | h
    · rw [hsz] at h; omega
    · have := hPr _ h; omega
  refine ⟨w.heap.size + 1, [{ target := .collected w.heap.size, args := #[] }], W1, { target := .fn (.func gf) lb, args := #[.func (.yield (w.heap.size + 1)) #[] #[]] }, W1, gf,
    #[.func (.yield (w.heap.size + 1)) #[] #[]] ++ lb, W1, ?_, ?_, ?_, ?_, fun _ => h1, ?_⟩
  · rw [← hW1, hrec]; exact run_enterLoop_outer _ _ _ _ _
  · simp only [resolve, hg]
    simp [go_sem]
  · intro f' hf'; simp [Target.leads] at hf'; subst hf'; exact hFg
  · simp [invoke, go_sem, eg]
  · refine (hseq (w.heap.size + 1)
      (fun k W => I k W ∧ W.heap[w.heap.size + 1]? = some (.loop (rec .ready)) ∧ W.heap[w.heap.size]? = some (.deferred (some [])))
      W1 hb1 hsz
      (fun k A B hs hb => ⟨hI k A B hs.1 (hb.mono (by omega)), (hb.block _ (by omega)).trans hs.2.1, (hb.block _ (by omega)).trans hs.2.2⟩)
      ?_ ⟨hI 0 _ _ h0 hb1, hL1, hK1⟩).mono ?_
    · rintro k x W0 ⟨hi, hl, hk⟩ he
      have hlt0 : w.heap.size + 1 < W0.heap.size := (Array.getElem?_eq_some_iff.1 hl).1
      have hy := run_yield (P := P) (args := enc x) hl (by rw [hrec]; exact (hps x).symm)
      rw [hrec] at hy
      have hnb := hnx x W0
      obtain ⟨W, hW⟩ : ∃ W, nx x W0 = W := ⟨_, rfl⟩
      rw [hW] at hnb
      have hl' := (hnb.block _ hlt0).trans hl
      have hk' := (hnb.block _ (by omega)).trans hk
      have hi' : I k W := hI k _ _ hi (hnb.mono (by omega))
      have he' := hE _ k x _ _ he (KeepsP.below _ hnb)
      have hlt : w.heap.size + 1 < W.heap.size := Nat.lt_of_lt_of_le hlt0 hnb.size
      refine ⟨fn, _, assign, body, hy, roundIn_of_wpIn hfn (hassign _ x W0 _ ?_)⟩
      rw [hW]
      refine ⟨_, run_beginRound hl' (by rw [hrec]), ?_⟩
      obtain ⟨W2, hW2⟩ : ∃ W2, W.putObj (w.heap.size + 1) (.loop { rec .ready with state := .busy }) = W2 := ⟨_, rfl⟩
      have hl2 : W2.heap[w.heap.size + 1]? = some (.loop { rec .ready with state := .busy }) := by rw [← hW2]; exact World.putObj_heap_same hlt
      have hk2 : W2.heap[w.heap.size]? = some (.deferred (some [])) := by rw [← hW2]; exact (World.putObj_heap_other (by omega)).trans hk'
      have hs2 : W2.heap.size = W.heap.size := by rw [← hW2]; simp
      have hu2 : KeepsP (fun b => W1.heap.size ≤ b ∨ Pr b) W0 W2 := (KeepsP.below _ hnb).trans (by rw [← hW2]; exact KeepsP.putObj _ hnl _)
      have hi2 : I k W2 := by rw [← hW2]; exact hI k _ _ hi' (below_putObj2 _ (by omega) _)
      rw [hW2]
      refine wpIn_mono (hbody _ k x W0 W2 (by omega) (fun b hb => by rw [hW, ← hW2]; exact World.putObj_heap_other (by omega)) (by rw [hW, hs2]) hi2 (by rw [← hsz]; exact hE _ k x _ _ he hu2)) ?_
      rintro e a3 W3 hp
      cases e with
      | normal =>
        obtain ⟨hu3, hi3⟩ := hp
        have hl3 := (hu3.2 _ (.inl (by omega)) (by omega)).trans hl2
        have hr := run_endRound (P := P) none hl3
        have hlt3 : w.heap.size + 1 < W3.heap.size := (Array.getElem?_eq_some_iff.1 hl3).1
        refine ⟨_, _, hr, rfl, ⟨hI _ _ _ hi3 (below_putObj2 _ (by omega) _), ?_, (World.putObj_heap_other (by omega)).trans ((hu3.2 _ (.inl (by omega)) (by omega)).trans hk2)⟩, hu2.trans ((hu3.wide fun b hb => by
          rcases hb with h | h
          · exact .inl (by omega)
          · exact .inr h).trans (KeepsP.putObj _ hnl _))⟩
        rw [World.putObj_heap_same hlt3, hrec]; rfl
      | ret => exact hp.elim
      | exit id => exact hp.elim
      | goto t => exact hp.elim
      | panic ch => exact hp.elim
      | outgrown => exact hp.elim
    · rintro e W2 ⟨⟨v, rfl⟩, k, hS, hi, hl, hk⟩
      exact ⟨none, _, by have := run_endLoop (P := P) hl (by rw [hrec]; simp); rw [hrec] at this; exact this, hdone _ k _ (Nat.le_refl _) hS (hI _ _ _ hi (below_putObj2 _ (by omega) _)) ((World.putObj_heap_other (by omega)).trans hk)⟩
end Go.Proofs.Ytmcongioghkdcae
namespace Go.Proofs.Ytmcongioghkdcae
open Go.RowKit Go.WideShapes

attribute [local go_sem] Oper.semAt_some

/-- what a rule counts for a job that is done at the end c -/
def RuleIs (f : Nat) (g : Int → Int → Int → Int → Int) : Prop := ∀ (t v d c : Int) (w : World), 0 ≤ t ∧ t ≤ 9 → 0 ≤ v ∧ v ≤ 9 → 0 ≤ d ∧ d ≤ 60 → 0 ≤ c ∧ c ≤ 72 →
  Calls Try.prog f #[.agg #[.int .i64 t, .int .i64 v, .int .i64 d], .int .i64 c] w fun e w' => e = .returned (.int .i64 (g t v d c)) ∧ Below w.heap.size w w'
def waitR (_ v _ c : Int) : Int := v * c
def lateR (_ _ d c : Int) : Int := if d < c then 1 else 0
def tardR (_ v d c : Int) : Int := v * max (c - d) 0
theorem waitAt_any : RuleIs 24 waitR := by
  intro t v d c w ht hv hd hc
  have hpr := mul_boxJ hv.1 hv.2 hc.1 hc.2
  go_enter Try.func24, Try.ntmps24
  go_wp2_with fail
  go_ret
  exact ⟨rfl, (Below.refl _ w).alloc (Nat.le_refl _) _⟩
theorem lateAt_any : RuleIs 40 lateR := by
  intro t v d c w ht hv hd hc
  by_cases h : d < c
  · have HR := Lib.hid (show lateR t v d c = 1 from if_pos h)
    go_enter Try.func40, Try.ntmps40
    go_wp2_with fail
    go_ret
    exact ⟨ret_int HR.out.symm, (Below.refl _ w).alloc (Nat.le_refl _) _⟩
  · have HR := Lib.hid (show lateR t v d c = 0 from if_neg h)
    go_enter Try.func40, Try.ntmps40
    go_wp2_with fail
    go_ret
    exact ⟨ret_int HR.out.symm, (Below.refl _ w).alloc (Nat.le_refl _) _⟩
theorem tardyAt_any : RuleIs 31 tardR := by
  intro t v d c w ht hv hd hc
  by_cases h : 0 < c - d
  · have hpr := mul_boxJ hv.1 hv.2 (show 0 ≤ c - d by omega) (show c - d ≤ 72 by omega)
    have HR := Lib.hid (show tardR t v d c = v * (c - d) by unfold tardR; rw [show max (c - d) 0 = c - d by omega])
    go_enter Try.func31, Try.ntmps31
    go_wp2_with fail
    go_ret
    exact ⟨ret_int HR.out.symm, (Below.refl _ w).alloc (Nat.le_refl _) _⟩
  · have HR := Lib.hid (show tardR t v d c = 0 by unfold tardR; rw [show max (c - d) 0 = 0 by omega, Int.mul_zero])
    go_enter Try.func31, Try.ntmps31
    go_wp2_with fail
    go_ret
    exact ⟨ret_int HR.out.symm, (Below.refl _ w).alloc (Nat.le_refl _) _⟩
theorem endsOf_any (n : Nat) (B len cap : Nat) (w : World) :
    CallsIn Fence.wide n Try.prog 44 #[.slice (some ⟨B, 0, none⟩) len cap] w fun e w' => e = .returned (.func (.func 57) #[] #[.pointer (some ⟨w.heap.size, 0, none⟩)]) ∧ w.alloc (.cells #[.slice (some ⟨B, 0, none⟩) len cap] 44) = w' := by
  refine callsIn_of_wp Try.func44 rfl trivial ?_ rfl
  simp only [Try.ntmps44, List.size_toArray, List.length_cons, List.length_nil, Nat.reduceAdd, Nat.reduceSub, Array.replicate_succ, Array.replicate_zero, List.push_toArray, List.append_toArray, List.nil_append, List.cons_append]
  gi_wp2
  go_ret
  exact ⟨rfl, rfl⟩
/-- when the first k jobs are done -/
def endK (t : Nat → Int) : Nat → Int
  | 0 => 0
  | k + 1 => endK t k + t k
theorem endK_bd {t : Nat → Int} (ht : ∀ x, 0 ≤ t x ∧ t x ≤ 9) : ∀ k, 0 ≤ endK t k ∧ endK t k ≤ 9 * (k : Int)
  | 0 => ⟨Int.le_refl _, Int.le_refl _⟩
  | k + 1 => by have := endK_bd ht k; have := ht k; rw [endK]; push_cast; omega
/-- what comes with round k -/
def encE (t v d : Nat → Int) (k : Nat) : Array Value := #[.agg #[.int .i64 (t k), .int .i64 (v k), .int .i64 (d k)], .int .i64 (endK t (k + 1))]
def EndE (n : Nat) (_ k x : Nat) (_ : World) : Prop := x = k ∧ k < n
set_option maxRecDepth 100000 in
set_option maxHeartbeats 2000000 in
theorem ends_seq (B n Bs : Nat) (t v d : Nat → Int) (w : World) (hn : n ≤ 8) (ht : ∀ x, 0 ≤ t x ∧ t x ≤ 9) (hB : B < w.heap.size) (hBs : Bs < w.heap.size) (hc : w.cell? ⟨Bs, 0, none⟩ = some (.slice (some ⟨B, 0, none⟩) n n)) (hJ : JobsB w B n t v d) :
    SeqCountP Fence.wide 8 Try.prog 57 #[.pointer (some ⟨Bs, 0, none⟩)] (encE t v d) (· = n) (EndE n) (· = B) w := by
  intro l J W1 hW hsz hJJ hY h0
  have hc1 := (hW.cell (p := ⟨Bs, 0, none⟩) hBs).trans hc
  have HJ1 := Lib.hid (hJ.block (hW.block B hB))
  have HJJ := Lib.hid hJJ
  have HY := Lib.hid hY
  have hB1 : B < W1.heap.size := by omega
  clear hJJ hY hJ hsz hW
  refine callsIn_of_wp Try.func57 rfl trivial ?_ rfl
  simp only [Try.ntmps57, List.size_toArray, List.length_cons, List.length_nil, Nat.reduceAdd, Nat.reduceSub, Array.replicate_succ, Array.replicate_zero, List.push_toArray, List.append_toArray, List.nil_append, List.cons_append]
  gi_wp2
  gi_loopw [3, 8] (fun s3 s8 W => ∃ k : Nat, s8 = .int .i64 (k : Int) ∧ s3 = .int .i64 (endK t k) ∧ k ≤ n ∧ J k W ∧ JobsB W B n t v d ∧ B < W.heap.size ∧ W1.heap.size ≤ W.heap.size) (fun _ s8 _ => n - (intOf s8).toNat)
  case atStart => exact ⟨0, rfl, rfl, Nat.zero_le _, h0, HJ1.out, hB1, Nat.le_refl _⟩
  case round =>
    obtain ⟨k, rfl, rfl, hk, hJk, hJB, hBW, hWW⟩ := hrel
    obtain ⟨W, rfl⟩ : ∃ W : World, W = wr := ⟨_, rfl⟩
    have hbe := endK_bd ht k
    by_cases hlt : k < n
    · obtain ⟨g0, g1, g2⟩ := hJB.at hlt
      have HJB := Lib.hid hJB
      have htk := ht k
      have HN := Lib.hid (show endK t (k + 1) = endK t k + t k from rfl)
      have hkl : (k : Int) < (n : Int) := by omega
      have hal := (Below.refl W.heap.size W).alloc (Nat.le_refl _) (.cells #[.int .i64 (t k), .int .i64 (v k), .int .i64 (d k)] 50)
      obtain ⟨fn, tmps, assign, body, hy, hR⟩ := HY.out k k _ (HJJ.out _ _ _ hJk (hal.mono hWW)) ⟨rfl, hlt⟩
      have HJB2 := Lib.hid (HJB.out.block (hal.block B hBW))
      have hsz2 : (W.alloc (.cells #[.int .i64 (t k), .int .i64 (v k), .int .i64 (d k)] 50)).heap.size = W.heap.size + 1 := by simp
      dsimp only [encE] at hy
      rw [HN.out] at hy
      clear hJB hJk hal ht
      generalize endK t k = en at *
      generalize t k = tk at *
      gi_wp2
      refine hR.mono ?_
      rintro e W3 ⟨rfl, hJ3, hk3⟩
      have HJB3 := Lib.hid (HJB2.out.block (hk3.2 B (.inr rfl) (by rw [hsz2]; omega)))
      have hs3 : W.heap.size + 1 ≤ W3.heap.size := by have := hk3.1; omega
      have HJ3 := Lib.hid hJ3
      clear hJ3 hk3 hR hy g0 g1 g2
      gi_wp2
      go_roundw
      case rel => exact ⟨k + 1, by go_num, by rw [HN.out], by omega, HJ3.out, HJB3.out, by omega, by omega⟩
      case measure => simp [intOf] <;> omega
    · obtain rfl : k = n := by omega
      clear hJB
      gi_wp2
      go_end0
      exact ⟨⟨_, rfl⟩, _, rfl, hJk⟩
end Go.Proofs.Ytmcongioghkdcae
