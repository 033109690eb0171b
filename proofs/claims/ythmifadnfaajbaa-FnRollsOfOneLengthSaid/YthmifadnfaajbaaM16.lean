import Derived.Test.YthmifadnfaajbaaM0
import Derived.RangeFuncCalls
import Derived.RangeFuncWrites
import Derived.TacticsIn
import Derived.StillTail
import Derived.RangeFuncLeaves
import Derived.RangeFuncNested
import Derived.Test.YthmifadnfaajbaaRows
import Derived.RangeFuncBound
import Derived.Shelf.Abstract
import Derived.Shelf.RegionOpen
import Derived.WalkKit
import Derived.OwnWalkIn
import Derived.TacticsInMore
import Derived.LoopNIn
import Derived.LoopIn
import Derived.Test.YthmifadnfaajbaaM5
import Derived.Test.YthmifadnfaajbaaM4
import Derived.LoopTactic
import Derived.Outline
import Derived.WalkSpells
import Derived.WalkLawsBesides
import Derived.ProofKit
import Derived.Lib.Hide
import Derived.IntWalk
import Derived.Test.YthmifadnfaajbaaM1
import Derived.Test.YthmifadnfaajbaaM2
namespace Go.Proofs.Ythmifadnfaajbaa
/-- a part that a row takes, and how many -/
abbrev Part (xs : List Int) := { x : Nat × Int // xs[x.1]? = some x.2 ∧ 0 < x.2 }
def pairAt (xs : List Int) (k : Nat) : List (Nat × Int) :=
  match xs[k]? with
  | some x => if 0 < x then [(k, x)] else []
  | none => []
/-- the parts among the first k -/
def pairsTo (xs : List Int) : Nat → List (Nat × Int)
  | 0 => []
  | k + 1 => pairsTo xs k ++ pairAt xs k
theorem pairAt_yes {xs : List Int} {k : Nat} {x : Int} (h : xs[k]? = some x) (h0 : 0 < x) : pairAt xs k = [(k, x)] := by simp [pairAt, h, h0]
theorem pairAt_no {xs : List Int} {k : Nat} {x : Int} (h : xs[k]? = some x) (h0 : ¬ 0 < x) : pairAt xs k = [] := by simp only [pairAt, h, if_neg h0]
theorem pairsTo_length (xs : List Int) (k : Nat) : (pairsTo xs k).length ≤ k := by
  induction k with
  | zero => simp [pairsTo]
  | succ k ih =>
    have : (pairAt xs k).length ≤ 1 := by
      unfold pairAt
      split
      · split <;> simp
      · simp
    simp only [pairsTo, List.length_append]
    omega
def sumOver (f : Nat → Int → Int) (l : List (Nat × Int)) : Int := l.foldl (fun s p => s + f p.1 p.2) 0
theorem sumOver_snoc (f : Nat → Int → Int) (l : List (Nat × Int)) (p : Nat × Int) : sumOver f (l ++ [p]) = sumOver f l + f p.1 p.2 := by simp [sumOver]
/-- how many of j one of i takes, over d levels -/
def countM (rows : List (List Int)) (j : Nat) : Nat → Nat → Int
  | 0, i => if i = j then 1 else 0
  | d + 1, i => if i = j then 1 else sumOver (fun p c => c * countM rows j d p) (pairsTo (rows.getD i []) (rows.getD i []).length)

theorem pow_le {d : Nat} (h : d ≤ 6) : 18 ^ d ≤ 34012224 := Nat.le_trans (Nat.pow_le_pow_right (by omega) h) (by decide)
theorem mem_pairsTo {xs : List Int} {p : Nat × Int} : ∀ {k : Nat}, p ∈ pairsTo xs k → xs[p.1]? = some p.2 ∧ 0 < p.2 := by
  intro k
  induction k with
  | zero => intro h; simp [pairsTo] at h
  | succ k ih =>
    intro h
    simp only [pairsTo, List.mem_append] at h
    rcases h with h | h
    · exact ih h
    · unfold pairAt at h
      split at h
      · split at h
        · simp only [List.mem_singleton] at h; subst h; exact ⟨by assumption, by assumption⟩
        · cases h
      · cases h
theorem sumOver_bd {f : Nat → Int → Int} {B : Int} : ∀ (l : List (Nat × Int)), (∀ p ∈ l, 0 ≤ f p.1 p.2 ∧ f p.1 p.2 ≤ B) → 0 ≤ sumOver f l ∧ sumOver f l ≤ B * l.length := by
  have key : ∀ (l : List (Nat × Int)) (s : Int), (∀ p ∈ l, 0 ≤ f p.1 p.2 ∧ f p.1 p.2 ≤ B) → s ≤ l.foldl (fun s p => s + f p.1 p.2) s ∧ l.foldl (fun s p => s + f p.1 p.2) s ≤ s + B * l.length := by
    intro l
    induction l with
    | nil => intro s _; simp
    | cons p l ih =>
      intro s h
      have h1 := h p List.mem_cons_self
      have h2 := ih (s + f p.1 p.2) (fun q hq => h q (List.mem_cons_of_mem _ hq))
      have e : B * ((p :: l).length : Int) = B * (l.length : Int) + B := by rw [List.length_cons]; push_cast; rw [Int.mul_add, Int.mul_one]
      simp only [List.foldl_cons]
      rw [e]
      omega
  intro l h
  have := key l 0 h
  unfold sumOver
  omega
/-- what holds of a valid bill's rows -/
theorem okRows_get {rows : List (List Int)} {i : Nat} {r : List Int} (hv : validBillM rows = true) (h : rows[i]? = some r) : r.length = i ∧ (∀ x ∈ r, 0 ≤ x ∧ x ≤ 3) ∧ i < 6 := by
  have hi : i < rows.length := by
    rcases Nat.lt_or_ge i rows.length with h' | h'
    · exact h'
    · simp [List.getElem?_eq_none h'] at h
  simp only [validBillM, Bool.and_eq_true, inB, decide_eq_true_eq] at hv
  have hr : rowOk i r = true := by
    cases hq : rowOk i r with
    | true => rfl
    | false => rw [okRows_false h hq] at hv; cases hv.2
  simp only [rowOk, Bool.and_eq_true, beq_iff_eq, allIn, List.all_eq_true, inB, decide_eq_true_eq] at hr
  exact ⟨hr.1, hr.2, by omega⟩
theorem validBill_len6 {rows : List (List Int)} (hv : validBillM rows = true) : rows.length ≤ 6 := by
  simp only [validBillM, Bool.and_eq_true, inB, decide_eq_true_eq] at hv
  omega
theorem countM_bd {rows : List (List Int)} (hv : validBillM rows = true) (j : Nat) : ∀ (d i : Nat), 0 ≤ countM rows j d i ∧ countM rows j d i ≤ ((18 ^ d : Nat) : Int) := by
  intro d
  induction d with
  | zero => intro i; simp only [countM]; split <;> simp
  | succ d ih =>
    intro i
    have hp : (1 : Nat) ≤ 18 ^ d := Nat.one_le_pow _ _ (by omega)
    have e : (18 ^ (d + 1) : Nat) = 18 * 18 ^ d := by rw [Nat.pow_succ, Nat.mul_comm]
    simp only [countM]
    split
    · omega
    · rw [List.getD_eq_getElem?_getD]
      cases hr : rows[i]? with
      | none => simp only [Option.getD_none, List.length_nil, pairsTo, sumOver, List.foldl_nil]; omega
      | some r =>
        simp only [Option.getD_some]
        obtain ⟨h1, h2, h3⟩ := okRows_get hv hr
        have hb := sumOver_bd (f := fun p c => c * countM rows j d p) (B := 3 * ((18 ^ d : Nat) : Int)) (pairsTo r r.length) (fun p hp => by
          obtain ⟨hp1, hp2⟩ := mem_pairsTo hp
          have hc := h2 p.2 (List.mem_of_getElem? hp1)
          have hq := ih p.1
          refine ⟨Int.mul_nonneg hc.1 hq.1, ?_⟩
          have := Int.mul_le_mul hc.2 hq.2 hq.1 (by omega)
          exact this)
        have hl := pairsTo_length r r.length
        have hm : 3 * ((18 ^ d : Nat) : Int) * ((pairsTo r r.length).length : Int) ≤ 3 * ((18 ^ d : Nat) : Int) * 6 := Int.mul_le_mul_of_nonneg_left (by omega) (by omega)
        refine ⟨hb.1, Int.le_trans hb.2 ?_⟩
        omega

theorem countM_low {rows : List (List Int)} (hv : validBillM rows = true) (j : Nat) : ∀ (d i : Nat), i < j → countM rows j d i = 0 := by
  intro d
  induction d with
  | zero => intro i h; simp only [countM]; rw [if_neg (by omega)]
  | succ d ih =>
    intro i h
    simp only [countM]
    rw [if_neg (by omega), List.getD_eq_getElem?_getD]
    cases hr : rows[i]? with
    | none => rfl
    | some r =>
      simp only [Option.getD_some]
      obtain ⟨h1, _, _⟩ := okRows_get hv hr
      have hb := sumOver_bd (f := fun p c => c * countM rows j d p) (B := 0) (pairsTo r r.length) (fun p hp => by
        obtain ⟨hp1, hp2⟩ := mem_pairsTo hp
        have hpl : p.1 < r.length := by
          rcases Nat.lt_or_ge p.1 r.length with h' | h'
          · exact h'
          · simp [List.getElem?_eq_none h'] at hp1
        have := ih p.1 (by omega)
        show 0 ≤ p.2 * countM rows j d p.1 ∧ p.2 * countM rows j d p.1 ≤ 0
        rw [this, Int.mul_zero]
        exact ⟨Int.le_refl _, Int.le_refl _⟩)
      omega
/-- the bounds of one summand, and of a part of the sum -/
theorem term_bd {rows : List (List Int)} {r : List Int} {i d : Nat} (hv : validBillM rows = true) (hr : rows[i]? = some r) (hd : d ≤ 6) (j : Nat) {k : Nat} {x : Int} (hx : r[k]? = some x) :
    0 ≤ x * countM rows j d k ∧ x * countM rows j d k ≤ 102036672 := by
  obtain ⟨_, h2, _⟩ := okRows_get hv hr
  have hz := h2 x (List.mem_of_getElem? hx)
  have hy := countM_bd hv j d k
  have hpw := pow_le hd
  have hm := Int.mul_le_mul hz.2 hy.2 hy.1 (by omega)
  exact ⟨Int.mul_nonneg hz.1 hy.1, by omega⟩
theorem part_bd {rows : List (List Int)} {r : List Int} {i d : Nat} (hv : validBillM rows = true) (hr : rows[i]? = some r) (hd : d ≤ 6) (j : Nat) (k : Nat) (hk : k ≤ 6) :
    0 ≤ sumOver (fun p c => c * countM rows j d p) (pairsTo r k) ∧ sumOver (fun p c => c * countM rows j d p) (pairsTo r k) ≤ 612220032 := by
  have hb := sumOver_bd (f := fun p c => c * countM rows j d p) (B := 102036672) (pairsTo r k) (fun p hp => term_bd hv hr hd j (mem_pairsTo hp).1)
  have hl := pairsTo_length r k
  have : (102036672 : Int) * ((pairsTo r k).length : Int) ≤ 102036672 * 6 := Int.mul_le_mul_of_nonneg_left (by omega) (by omega)
  exact ⟨hb.1, Int.le_trans hb.2 this⟩
theorem countM_eq {rows : List (List Int)} {r : List Int} {i d j : Nat} (hr : rows[i]? = some r) (hij : i ≠ j) : countM rows j (d + 1) i = sumOver (fun p c => c * countM rows j d p) (pairsTo r r.length) := by
  rw [countM, if_neg hij, List.getD_eq_getElem?_getD, hr, Option.getD_some]
theorem countM_self (rows : List (List Int)) (d i : Nat) : countM rows i d i = 1 := by
  cases d <;> simp [countM]
end Go.Proofs.Ythmifadnfaajbaa
namespace Go.Proofs.Ythmifadnfaajbaa
open Go.RowKit

/-- one operation in a round of a wide fence: as everywhere, where it is no defer statement -/
theorem oper_round {P : Program} {o : Oper} {a : Act} {w : World} {next next' : Act → World → Prop} {Q : Exit → Act → World → Prop} (r n : Nat) (hnd : ∀ c, o.op ≠ .defer c)
    (h : Oper.wp P o a w next Q) (hn : ∀ a w, next a w → next' a w) : o.wpIn (Fence.wide.inRound r) n P a w next' Q := by
  refine ⟨fun _ _ => trivial, ?_⟩
  rw [Fence.inRound_round, Oper.semAt_some r a.eval o hnd]
  unfold Oper.wp at h
  cases hx : (execOp a.eval o).run P w with
  | halt x w' =>
    rw [hx] at h
    cases x <;> first | exact h | exact h.elim
  | ok x w' =>
    rw [hx] at h
    cases x with
    | value v => exact hn _ _ h
    | skip => exact hn _ _ h
    | defer d => exact hn _ _ h
    | enter f args =>
      refine ⟨fun e => (by cases e), CallsIn.inRound r (callsIn_wide.2 (Calls.mono h ?_))⟩
      intro e w'' he
      cases e with
      | returned v => exact hn _ _ he
      | panicked c => exact he
      | outgrown => exact he
    | row row args =>
      refine ⟨fun e => (by cases e), ?_⟩
      have h' : RowsIn Fence.wide (n - 1) P row args w' (fun v w'' => next' (a.put o.dst v) w'') := fun c cs _ => by
        obtain ⟨v, w'', hr, hs⟩ := h c cs
        exact ⟨v, w'', hn _ _ hr, stepsIn_wide.2 hs⟩
      exact h'
    | _ => exact h.elim
/-- no operation is a defer statement -/
def noDefer (ops : Array Oper) : Bool := ops.all fun o => match o.op with | .defer _ => false | _ => true
theorem noDefer_spec {ops : Array Oper} (h : noDefer ops = true) {i : Nat} {o : Oper} (ho : ops[i]? = some o) : ∀ c, o.op ≠ .defer c := by
  intro c e
  obtain ⟨hi, rfl⟩ := Array.getElem?_eq_some_iff.1 ho
  have := (Array.all_eq_true.1 h) i hi
  rw [e] at this
  cases this

theorem ops_round {P : Program} {ops : Array Oper} {Q : Exit → Act → World → Prop} (r n : Nat) (hnd : noDefer ops = true) (hQ : ∀ a w, ¬ Q .outgrown a w) :
    ∀ (l : List Nat) (a : Act) (w : World), wpOps P ops Q l a w → wpOpsIn (Fence.wide.inRound r) n P ops Q l a w := by
  intro l
  induction l with
  | nil => exact fun _ _ h => h
  | cons i rest ih =>
    intro a w h
    simp only [wpOps] at h
    simp only [wpOpsIn]
    cases ho : ops[i]? with
    | none => rw [ho] at h; exact ih _ _ h
    | some o =>
      rw [ho] at h
      dsimp only at h ⊢
      by_cases hw : Region.wanted o (yielded ops a.tmps) = true
      · rw [if_pos hw] at h ⊢
        rcases h with h | ⟨_, a0, w0, hq⟩
        · exact oper_round r n (noDefer_spec hnd ho) h ih
        · exact (hQ a0 w0 hq).elim
      · rw [if_neg hw] at h ⊢
        exact ⟨fun _ _ => trivial, ih _ _ h⟩

theorem region_round_any {P : Program} {ops : Array Oper} {Q : Exit → Act → World → Prop} {id : Nat} {a : Act} {w : World} (r n : Nat) (hnd : noDefer ops = true) (hQ : ∀ a w, ¬ Q .outgrown a w) (hm : P.follows .mixedOrders = true)
    (h : wpAny P .any ops Q ops.size (Array.replicate ops.size false) a { w with drawn := w.drawn + 1 }) : (Code.region id ops true).wpIn (Fence.wide.inRound r) n P Q a w :=
  wpIn_region_draw fun t => by
    simp only [Region.schedule, hm, Bool.true_or, if_true]
    exact ops_round r n hnd hQ _ _ _ (wpAny_sound ops.size t _ a _ h)

/-- a region of a round that only reads ahead of its last operations, walked in the order of the text -/
theorem region_round_tail {P : Program} {id : Nat} {Q : Exit → Act → World → Prop} {a : Act} {w : World} {l : List Oper} (r n k : Nat) (hnd : noDefer l.toArray = true) (hQ : ∀ a w, ¬ Q .outgrown a w) (hm : P.follows .mixedOrders = true)
    (hB : Region.lexTailB .any l.toArray k = true)
    (h : wpStill P l.toArray { w with drawn := w.drawn + 1 } (fun a' => wpList P l.toArray Q (l.drop k) a' { w with drawn := w.drawn + 1 }) (l.take k) a) : (Code.region id l.toArray true).wpIn (Fence.wide.inRound r) n P Q a w := by
  simp only [Region.lexTailB, Bool.and_eq_true, decide_eq_true_eq] at hB
  obtain ⟨⟨⟨⟨hsel, hn⟩, hs⟩, hc⟩, hlex⟩ := hB
  have hn' : k < l.length := by simpa using hn
  have htl : (l.take k).length = k := by simp; omega
  have hdl : (l.drop k).length = l.toArray.size - k := by simp
  have inv0 : HeadInv .any l.toArray k (Array.replicate l.toArray.size false) :=
    ⟨by simp, fun j oj _ hl => (by rw [getD_replicate_false] at hl; cases hl), fun t _ ht => getD_in (by simpa using ht) (getD_replicate_false _ _)⟩
  have H := wpAnyL_lex (md := .any) (g := l.toArray.size - k) hsel hs hc hn (l.take k) 0 _ a (fun j hj => by
    have hj' : j < k := by rw [htl] at hj; exact hj
    simp [hj']) (by simpa using htl) inv0 (by rw [htl]; exact hlex) h
  refine region_round_any r n hnd hQ hm ?_
  have := wpAny_of_head (Q' := Q) (g := l.toArray.size - k) (fun listed a' hL => by
    have := wpAny_of_seq (md := .any) (Q' := Q) (l.drop k) k listed a' { w with drawn := w.drawn + 1 } (fun j => by simp [List.getElem?_drop]) (by rw [hdl]; exact hL.1) hL.2
    rwa [hdl] at this) _ _ _ H
  rw [htl, show k + (l.toArray.size - k) = l.toArray.size by omega] at this
  exact this
/-! ### several ranges over functions in one call: one mark each -/
def collected (D : Nat) : Deferred := { target := .collected D, args := #[] }
/-- the blocks of the marks, from B on, no two the same -/
def Marks (w : World) (B : Nat) : List Nat → Prop
  | [] => True
  | D :: Ds => (w.heap[D]? = some (.deferred (some [])) ∧ B ≤ D ∧ ∀ x ∈ Ds, x ≠ D) ∧ Marks w B Ds
theorem Marks.kept {w w' : World} {B : Nat} : ∀ {Ds : List Nat}, Marks w B Ds → (∀ D ∈ Ds, w.heap[D]? = some (.deferred (some [])) → w'.heap[D]? = some (.deferred (some []))) → Marks w' B Ds := by
  intro Ds
  induction Ds with
  | nil => exact fun _ _ => trivial
  | cons D Ds ih => exact fun h g => ⟨⟨g D List.mem_cons_self h.1.1, h.1.2⟩, ih h.2 (fun x hx => g x (List.mem_cons_of_mem _ hx))⟩
theorem Marks.get {w : World} {B D : Nat} : ∀ {Ds : List Nat}, Marks w B Ds → D ∈ Ds → w.heap[D]? = some (.deferred (some [])) ∧ B ≤ D := by
  intro Ds
  induction Ds with
  | nil => intro _ h; cases h
  | cons x Ds ih =>
    intro h hm
    rcases List.mem_cons.1 hm with rfl | hm
    · exact ⟨h.1.1, h.1.2.1⟩
    · exact ih h.2 hm
theorem Marks.lt {w : World} {B D : Nat} {Ds : List Nat} (h : Marks w B Ds) (hm : D ∈ Ds) : D < w.heap.size := by
  have h1 := (h.get hm).1
  rcases Nat.lt_or_ge D w.heap.size with h' | h'
  · exact h'
  · rw [Array.getElem?_eq_none h'] at h1; cases h1
theorem Marks.alloc {w : World} {B : Nat} {Ds : List Nat} (h : Marks w B Ds) (o : Obj) : Marks (w.alloc o) B Ds :=
  h.kept (fun D hD hx => by rw [Below.heap_alloc _ _ _ (h.lt hD)]; exact hx)
theorem Marks.setCell {w : World} {B : Nat} {Ds : List Nat} (h : Marks w B Ds) {p : Addr} {v u : Value} (hp : w.cell? p = some v) : Marks (w.setCell p u) B Ds :=
  h.kept (fun D _ hx => by
    rw [Below.heap_setCell _ _ _ _ (fun e => by subst e; simp [World.cell?, hx] at hp)]
    exact hx)
/-- cells read as they did, and what lay below B lies as it lay -/
structure SameCells (B : Nat) (w w' : World) : Prop where
  cell : ∀ p, w'.cell? p = w.cell? p
  frozen : ∀ p, w'.frozen? p = w.frozen? p
  below : Below B w w'
theorem SameCells.refl (B : Nat) (w : World) : SameCells B w w := ⟨fun _ => rfl, fun _ => rfl, Below.refl _ _⟩
theorem SameCells.trans {B : Nat} {a b c : World} (h : SameCells B a b) (g : SameCells B b c) : SameCells B a c :=
  ⟨fun p => (g.cell p).trans (h.cell p), fun p => (g.frozen p).trans (h.frozen p), h.below.trans g.below⟩
theorem sameCells_put {B D : Nat} {w : World} (h : w.heap[D]? = some (.deferred (some []))) (hB : B ≤ D) : SameCells B w (w.putObj D (.deferred none)) := by
  have hd : D < w.heap.size := by
    rcases Nat.lt_or_ge D w.heap.size with h' | h'
    · exact h'
    · rw [Array.getElem?_eq_none h'] at h; cases h
  have hs : (w.putObj D (.deferred none)).heap[D]? = some (.deferred none) := by simp [World.putObj, hd]
  have hb : Below B w (w.putObj D (.deferred none)) := ⟨rfl, rfl, rfl, by simp, fun k hk => World.putObj_heap_other (by omega)⟩
  refine ⟨fun p => ?_, fun p => ?_, hb⟩
  · by_cases e : p.block = D
    · simp only [World.cell?, e, hs, h]
    · exact World.cell?_of_block (w := w) (World.putObj_heap_other e)
  · by_cases e : p.block = D
    · simp only [World.frozen?, e, hs, h]
    · exact World.frozen?_of_block (w := w) (World.putObj_heap_other e)

theorem leaves_marks {F : Fence} {n B : Nat} {P : Program} {fn : Func} {tmps : Array Value} {R : Ending → World → Prop} {v : Value} (hres : ∀ w, (results fn tmps).run P w = .ok v w) : ∀ (Ds : List Nat) (w : World), Marks w B Ds →
    (∀ w', SameCells B w w' → R (.returned v) w') → LeavesInM F n P fn tmps R (Ds.map collected) .returning w := by
  intro Ds
  induction Ds with
  | nil => exact fun w _ h => ⟨v, hres w, h w (SameCells.refl _ _)⟩
  | cons D Ds ih =>
    intro w hm h
    have hput := sameCells_put hm.1.1 hm.1.2.1
    refine ⟨by simp, Or.inl ⟨D, _, rfl, run_takeDeferred hm.1.1, ih _ (hm.2.kept (fun x hx hx' => ?_)) (fun w' hw' => h w' (hput.trans hw'))⟩⟩
    rw [World.putObj_heap_other (hm.1.2.2 x hx)]
    exact hx'
end Go.Proofs.Ythmifadnfaajbaa
namespace Go.Proofs.Ythmifadnfaajbaa
open Go.RowKit Go.Shelf

attribute [local go_sem] Oper.semAt_some

theorem cell_new_l (W : World) (v : Value) (t : TypeId) : (W.alloc (.cells #[v] t)).cell? ⟨W.heap.size, 0, none⟩ = some v ∧ (W.alloc (.cells #[v] t)).frozen? ⟨W.heap.size, 0, none⟩ = false :=
  ⟨by rw [World.cell?_alloc_new]; rfl, World.frozen?_alloc_new W _ _ _⟩
theorem cell_alloc_l {W : World} {a : Addr} {v : Value} (o : Obj) (h : W.cell? a = some v) : (W.alloc o).cell? a = some v := cell_kept h (World.grownBy_alloc W o none) (fun r e => by cases e)
theorem frozen_alloc_l {W : World} {a : Addr} {v : Value} (o : Obj) (h : W.cell? a = some v) (hf : W.frozen? a = false) : (W.alloc o).frozen? a = false := (frozen_kept h (World.grownBy_alloc W o none) (fun r e => by cases e)).trans hf
theorem lt_cell {W : World} {b o : Nat} {v : Value} (h : W.cell? ⟨b, o, none⟩ = some v) : b < W.heap.size := by
  rcases Nat.lt_or_ge b W.heap.size with h' | h'
  · exact h'
  · simp [World.cell?, Array.getElem?_eq_none h'] at h
def partArgs (xs : List Int) (x : Part xs) : Array Value := #[.int .i64 (x.1.1 : Int), .int .i64 x.1.2]

end Go.Proofs.Ythmifadnfaajbaa
namespace Go.Proofs.Ythmifadnfaajbaa
open Go.RowKit Go.Shelf

attribute [local go_sem] Oper.semAt_some

/-- an element of a list, by its place -/
abbrev IRow (xs : List Int) := { x : Nat × Int // xs[x.1]? = some x.2 }
def backIArgs (xs : List Int) (x : IRow xs) : Array Value := #[.int .i64 (x.1.1 : Int), .int .i64 x.1.2]
/-- all below n and block Bs are as they were -/
def KeepI (n Bs : Nat) (W W' : World) : Prop := Below n W W' ∧ W'.heap[Bs]? = W.heap[Bs]?
theorem KeepI.refl (n Bs : Nat) (W : World) : KeepI n Bs W W := ⟨Below.refl _ _, rfl⟩
theorem KeepI.trans {n Bs : Nat} {A B C : World} (h : KeepI n Bs A B) (g : KeepI n Bs B C) : KeepI n Bs A C := ⟨h.1.trans g.1, g.2.trans h.2⟩
def downI (len j : Nat) : List Nat := (List.range j).map (fun d => len - 1 - d)
theorem downI_succ (len j : Nat) : downI len (j + 1) = downI len j ++ [len - 1 - j] := by simp [downI, List.range_succ]

theorem leaves_marksC {F : Fence} {n B : Nat} {P : Program} {fn : Func} {tmps : Array Value} {R : Ending → World → Prop} {v : Value} : ∀ (Ds : List Nat) (w : World), Marks w B Ds →
    (∀ w', SameCells B w w' → (results fn tmps).run P w' = .ok v w') → (∀ w', SameCells B w w' → R (.returned v) w') → LeavesInM F n P fn tmps R (Ds.map collected) .returning w := by
  intro Ds
  induction Ds with
  | nil => exact fun w _ hres h => ⟨v, hres w (SameCells.refl _ _), h w (SameCells.refl _ _)⟩
  | cons D Ds ih =>
    intro w hm hres h
    have hput := sameCells_put hm.1.1 hm.1.2.1
    refine ⟨by simp, Or.inl ⟨D, _, rfl, run_takeDeferred hm.1.1, ih _ (hm.2.kept (fun x hx hx' => ?_)) (fun w' hw' => hres w' (hput.trans hw')) (fun w' hw' => h w' (hput.trans hw'))⟩⟩
    rw [World.putObj_heap_other (hm.1.2.2 x hx)]
    exact hx'
end Go.Proofs.Ythmifadnfaajbaa
namespace Go.Proofs.Ythmifadnfaajbaa
open Go.RowKit Go.WideShapes

def lineP (T ys : List Int) (c : Int) : Prop := (∀ k, k < T.length → T.getD k 0 ≤ c) ∧ tasksP T ys ∧ inB 1 60 c = true
instance (T ys : List Int) (c : Int) : Decidable (lineP T ys c) := by unfold lineP; infer_instance
def lineM (T ys : List Int) (c : Int) : Bool := decide (lineP T ys c)
theorem lineM_yes {T ys : List Int} {c : Int} (h : lineP T ys c) : lineM T ys c = true := decide_eq_true h
theorem lineM_no {T ys : List Int} {c : Int} (h : ¬ lineP T ys c) : lineM T ys c = false := decide_eq_false h
theorem lineM_get {T ys : List Int} {c : Int} (h : lineM T ys c = true) : lineP T ys c := of_decide_eq_true h
theorem lineP_c {T ys : List Int} {c : Int} (h : lineP T ys c) : 1 ≤ c ∧ c ≤ 60 := by simpa [inB] using h.2.2
def fewRes (T ys : List Int) (c : Int) : Int := if lineP T ys c then fewM T (natsOf ys) c else -1
end Go.Proofs.Ythmifadnfaajbaa
namespace Go.Proofs.Ythmifadnfaajbaa

/-- how many tasks a set has -/
def popM (s : Nat) : Int := 6 - (undone s 6 : Int)
theorem popM_bd (s : Nat) : 0 ≤ popM s ∧ popM s ≤ 6 := by unfold popM; have := undone_le s 6; omega
theorem top_of {s n : Nat} (h0 : s ≠ 0) (h : s < 2 ^ n) : ∃ q r, q < n ∧ s = r + 2 ^ q ∧ r < 2 ^ q := by
  have h1 := Nat.log2_self_le h0
  have h2 := Nat.lt_log2_self (n := s)
  rw [Nat.pow_succ] at h2
  exact ⟨s.log2, s - 2 ^ s.log2, (Nat.pow_lt_pow_iff_right (by omega)).1 (Nat.lt_of_le_of_lt h1 h), by omega, by omega⟩
theorem clo_zero (A : List Nat) (n : Nat) : cloM A 0 n = true := (cloM_iff n).mpr fun i _ h => by simp at h
theorem st_not {T : List Int} {A : List Nat} {c : Int} {s : Nat} (h : cloM A s A.length = false) : stP T A c s = -1 := by
  cases s with
  | zero => rw [clo_zero] at h; cases h
  | succ s => rw [stP_succ]; unfold nxtP; rw [h]; rfl
/-- a set that can stand needs no more places than it has tasks -/
theorem st_pop {T : List Int} {A : List Nat} {c : Int} (hA : ∀ i k, (A.getD i 0).testBit k = true → k < i) (hc : 0 ≤ c) (hT : ∀ k, k < T.length → T.getD k 0 ≤ c) :
    ∀ N s, s ≤ N → s < 2 ^ 6 → cloM A s A.length = true → 0 ≤ stP T A c s ∧ stP T A c s ≤ popM s
  | _, 0, _, _, _ => ⟨Int.le_refl _, (popM_bd 0).1⟩
  | N + 1, s + 1, hs, h6, hcl => by
    obtain ⟨q, r, hq, he, hr⟩ := top_of (show s + 1 ≠ 0 by omega) h6
    have hrq : r.testBit q = false := Nat.testBit_lt_two_pow hr
    have hb := add_bit hrq
    rw [← he] at hb
    have hrs : r < s + 1 := by have := Nat.two_pow_pos q; omega
    have hcr : cloM A r A.length = true := (cloM_iff _).mpr fun i hi hri k hk => by
      have h1 := (cloM_iff _).mp hcl i hi (by rw [hb, hri]; rfl) k hk
      have h2 := hA i k hk
      have h3 : i < q := by
        rcases Nat.lt_or_ge i q with h | h
        · exact h
        · rw [Nat.testBit_lt_two_pow (Nat.lt_of_lt_of_le hr (Nat.pow_le_pow_right (by omega) h))] at hri; cases hri
      rw [hb] at h1
      simp only [Bool.or_eq_true, decide_eq_true_eq] at h1
      rcases h1 with h1 | h1
      · exact h1
      · omega
    have ih := st_pop hA hc hT N r (by omega) (by omega) hcr
    have hsub : r &&& (s + 1) = r := sub_iff.mpr fun i hi => by rw [hb, hi]; rfl
    have hld : csum T (fun i => (dif (s + 1) r).testBit i) T.length ≤ c := by
      rw [csum_congr (Q := fun i => i == q) _ fun i _ => by
        rw [dif_bit, hb]
        by_cases h : i = q
        · subst h; simp [hrq]
        · cases r.testBit i <;> simp [h]]
      rw [csum_one]
      split
      · rename_i h; exact hT q h
      · exact hc
    have hsc := scanP_le (T := T) (c := c) (t := tabP T A c s) (s := s + 1) (s + 1) r hrs ((okR_tab (by omega)).mpr ⟨hsub, ih.1, hld⟩)
    rw [tabP_at (show r ≤ s by omega)] at hsc
    rw [stP_succ]
    unfold nxtP
    rw [if_pos hcl]
    have hp := undone_add hrq 6 hq
    rw [← he] at hp
    unfold popM at ih ⊢
    omega
/-- the fewest places of a set, as the program counts them -/
def fewC (T : List Int) (A : List Nat) (c : Int) (s : Nat) : Int := if cloM A s A.length = true then stP T A c s else 7
def okC (T : List Int) (c : Int) (s r : Nat) : Prop := dif r s = 0 ∧ csum T (fun i => (dif s r).testBit i) T.length ≤ c
instance (T : List Int) (c : Int) (s r : Nat) : Decidable (okC T c s r) := by unfold okC; infer_instance
def runC (T : List Int) (A : List Nat) (c : Int) (s : Nat) : Nat → Int
  | 0 => popM s
  | r + 1 => if okC T c s r then min (runC T A c s r) (fewC T A c r + 1) else runC T A c s r
theorem fewC_bd {T : List Int} {A : List Nat} {c : Int} (hA : ∀ i k, (A.getD i 0).testBit k = true → k < i) (hc : 0 ≤ c) (hT : ∀ k, k < T.length → T.getD k 0 ≤ c) {s : Nat} (h6 : s < 2 ^ 6) : 0 ≤ fewC T A c s ∧ fewC T A c s ≤ 7 := by
  unfold fewC
  split
  · rename_i h; have := st_pop hA hc hT s s (Nat.le_refl _) h6 h; have := popM_bd s; omega
  · omega
theorem runC_scan {T : List Int} {A : List Nat} {c : Int} (hA : ∀ i k, (A.getD i 0).testBit k = true → k < i) (hc : 0 ≤ c) (hT : ∀ k, k < T.length → T.getD k 0 ≤ c) {s : Nat} (h6 : s < 2 ^ 6) :
    ∀ R, R ≤ s + 1 → runC T A c (s + 1) R = if scanP T c (tabP T A c s) (s + 1) R < 0 then popM (s + 1) else min (popM (s + 1)) (scanP T c (tabP T A c s) (s + 1) R)
  | 0, _ => by simp [runC, scanP]
  | R + 1, hR => by
    have ih := runC_scan hA hc hT h6 R (by omega)
    have hp := popM_bd (s + 1)
    have hs : scanP T c (tabP T A c s) (s + 1) (R + 1) = if okR T c (tabP T A c s) (s + 1) R ∧ (scanP T c (tabP T A c s) (s + 1) R < 0 ∨ stP T A c R + 1 < scanP T c (tabP T A c s) (s + 1) R) then stP T A c R + 1 else scanP T c (tabP T A c s) (s + 1) R := by
      rw [scanP, tabP_at (show R ≤ s by omega)]
    rw [runC, ih]
    have ho := okR_tab (T := T) (A := A) (c := c) (m := s) (s := s + 1) (r := R) (by omega)
    have hsub : (R &&& (s + 1) = R) ↔ dif R (s + 1) = 0 := by rw [sub_iff, dif_zero]
    clear ih
    generalize scanP T c (tabP T A c s) (s + 1) R = sc at hs ⊢
    by_cases h1 : okC T c (s + 1) R
    · rw [if_pos h1]
      unfold fewC
      by_cases h2 : cloM A R A.length = true
      · have h3 := st_pop hA hc hT R R (Nat.le_refl _) (by omega) h2
        have h4 := ho.mpr ⟨hsub.mpr h1.1, h3.1, h1.2⟩
        rw [if_pos h2]
        by_cases h5 : sc < 0
        · rw [hs.trans (if_pos ⟨h4, .inl h5⟩), if_pos h5, if_neg (by omega)]
        · rw [if_neg h5]
          by_cases h6 : stP T A c R + 1 < sc
          · rw [hs.trans (if_pos ⟨h4, .inr h6⟩), if_neg (by omega)]; omega
          · rw [hs.trans (if_neg (fun h => h.2.elim h5 h6)), if_neg h5]; omega
      · rw [if_neg h2]
        have h3 := st_not (T := T) (c := c) (Bool.not_eq_true _ |>.mp h2)
        rw [hs.trans (if_neg (fun h => by have := (ho.mp h.1).2.1; omega))]
        split <;> omega
    · rw [if_neg h1, hs.trans (if_neg (fun h => h1 (by have := ho.mp h.1; exact ⟨hsub.mp this.1, this.2.2⟩)))]
theorem runC_all {T : List Int} {A : List Nat} {c : Int} (hA : ∀ i k, (A.getD i 0).testBit k = true → k < i) (hc : 0 ≤ c) (hT : ∀ k, k < T.length → T.getD k 0 ≤ c) {s : Nat} (h6 : s < 2 ^ 6) (hcl : cloM A s A.length = true) : runC T A c s s = fewC T A c s := by
  have hp := st_pop hA hc hT s s (Nat.le_refl _) h6 hcl
  unfold fewC
  rw [if_pos hcl]
  cases s with
  | zero => rw [runC]; show popM 0 = 0; simp [popM, undone]
  | succ s =>
    rw [runC_scan hA hc hT (by omega) _ (Nat.le_refl _)]
    rw [stP_succ] at hp ⊢
    unfold nxtP at hp ⊢
    rw [if_pos hcl] at hp ⊢
    rw [if_neg (by omega)]; omega
theorem runC_bd {T : List Int} {A : List Nat} {c : Int} (hA : ∀ i k, (A.getD i 0).testBit k = true → k < i) (hc : 0 ≤ c) (hT : ∀ k, k < T.length → T.getD k 0 ≤ c) {s : Nat} : ∀ R, R ≤ 2 ^ 6 → 0 ≤ runC T A c s R ∧ runC T A c s R ≤ 6
  | 0, _ => popM_bd s
  | R + 1, h => by
    have := runC_bd hA hc hT (s := s) R (by omega)
    have := fewC_bd hA hc hT (s := R) (by omega)
    rw [runC]; split <;> omega
theorem fewC_full {T : List Int} {A : List Nat} {c : Int} (hl : A.length = T.length) (hA : ∀ i k, (A.getD i 0).testBit k = true → k < i) : fewC T A c (2 ^ T.length - 1) = fewM T A c := by
  unfold fewC fewM
  rw [if_pos ((cloM_iff _).mpr fun i hi _ k hk => by rw [full_bit]; have := hA i k hk; simp; omega)]

/-- all that must be done ahead of a task, over others, too -/
def aU (A : List Nat) (t : List Nat) (k : Nat) : Nat → Nat
  | 0 => A.getD k 0
  | m + 1 => if (A.getD k 0).testBit m = true then aU A t k m ||| t.getD m 0 else aU A t k m
def allT (A : List Nat) : Nat → List Nat
  | 0 => []
  | k + 1 => allT A k ++ [aU A (allT A k) k k]
def allX (A : List Nat) (x : Nat) : Nat := (allT A (x + 1)).getD x 0
theorem allT_len (A : List Nat) : ∀ k, (allT A k).length = k
  | 0 => rfl
  | k + 1 => by rw [allT, List.length_append, allT_len A k]; rfl
theorem allT_get (A : List Nat) (s : Nat) : ∀ d, (allT A (s + 1 + d)).getD s 0 = allX A s
  | 0 => rfl
  | d + 1 => by
    have h := allT_len A (s + 1 + d)
    rw [show s + 1 + (d + 1) = (s + 1 + d) + 1 by omega, allT, ← allT_get A s d]
    simp only [List.getD_eq_getElem?_getD]
    rw [List.getElem?_append_left (by omega)]
theorem allT_at {A : List Nat} {s m : Nat} (h : s < m) : (allT A m).getD s 0 = allX A s := by
  have := allT_get A s (m - s - 1); rwa [show s + 1 + (m - s - 1) = m by omega] at this
theorem allX_eq (A : List Nat) (k : Nat) : allX A k = aU A (allT A k) k k := by
  have h := allT_len A k
  unfold allX
  rw [allT]
  simp only [List.getD_eq_getElem?_getD]
  rw [List.getElem?_append_right (by omega), h, Nat.sub_self]; rfl
theorem aU_bit {A : List Nat} {k : Nat} (x : Nat) : ∀ m, m ≤ k → ((aU A (allT A k) k m).testBit x = true ↔ (A.getD k 0).testBit x = true ∨ ∃ y, y < m ∧ (A.getD k 0).testBit y = true ∧ (allX A y).testBit x = true)
  | 0, _ => by simp [aU]
  | m + 1, h => by
    have ih := aU_bit (A := A) (k := k) x m (by omega)
    rw [aU, allT_at (show m < k by omega)]
    by_cases h1 : (A.getD k 0).testBit m = true
    · rw [if_pos h1, Nat.testBit_or, Bool.or_eq_true, ih]
      constructor
      · rintro ((h2 | ⟨y, h2, h3⟩) | h2)
        · exact .inl h2
        · exact .inr ⟨y, by omega, h3⟩
        · exact .inr ⟨m, by omega, h1, h2⟩
      · rintro (h2 | ⟨y, h2, h3, h4⟩)
        · exact .inl (.inl h2)
        · rcases Nat.lt_or_eq_of_le (Nat.le_of_lt_succ h2) with h5 | rfl
          · exact .inl (.inr ⟨y, h5, h3, h4⟩)
          · exact .inr h4
    · rw [if_neg h1, ih]
      constructor
      · rintro (h2 | ⟨y, h2, h3⟩)
        · exact .inl h2
        · exact .inr ⟨y, by omega, h3⟩
      · rintro (h2 | ⟨y, h2, h3, h4⟩)
        · exact .inl h2
        · rcases Nat.lt_or_eq_of_le (Nat.le_of_lt_succ h2) with h5 | rfl
          · exact .inr ⟨y, h5, h3, h4⟩
          · exact absurd h3 h1
theorem allX_bit {A : List Nat} {k : Nat} (hA : ∀ i k, (A.getD i 0).testBit k = true → k < i) (x : Nat) : (allX A k).testBit x = true ↔ ∃ y, (A.getD k 0).testBit y = true ∧ (x = y ∨ (allX A y).testBit x = true) := by
  rw [allX_eq, aU_bit x k (Nat.le_refl _)]
  constructor
  · rintro (h | ⟨y, _, h2, h3⟩)
    · exact ⟨x, h, .inl rfl⟩
    · exact ⟨y, h2, .inr h3⟩
  · rintro ⟨y, h2, rfl | h3⟩
    · exact .inl h2
    · exact .inr ⟨y, hA k y h2, h2, h3⟩
theorem allX_low {A : List Nat} (hA : ∀ i k, (A.getD i 0).testBit k = true → k < i) : ∀ N k, k ≤ N → ∀ x, (allX A k).testBit x = true → x < k
  | 0, k, hk, x, h => by
    obtain rfl : k = 0 := by omega
    obtain ⟨y, h1, _⟩ := (allX_bit hA x).mp h
    have := hA 0 y h1; omega
  | N + 1, k, hk, x, h => by
    obtain ⟨y, h1, h2⟩ := (allX_bit hA x).mp h
    have h3 := hA k y h1
    rcases h2 with rfl | h2
    · exact h3
    · have := allX_low hA N y (by omega) x h2; omega
theorem allX_lt {A : List Nat} (hA : ∀ i k, (A.getD i 0).testBit k = true → k < i) (k : Nat) : allX A k < 2 ^ k :=
  Nat.lt_pow_two_of_testBit _ fun i hi => by
    cases h : (allX A k).testBit i
    · rfl
    · have := allX_low hA k k (Nat.le_refl _) i h; omega
theorem aU_lt {A : List Nat} (hA : ∀ i k, (A.getD i 0).testBit k = true → k < i) (k m : Nat) (hm : m ≤ k) : aU A (allT A k) k m < 2 ^ k :=
  Nat.lt_pow_two_of_testBit _ fun i hi => by
    cases h : (aU A (allT A k) k m).testBit i
    · rfl
    · rcases (aU_bit i m hm).mp h with h1 | ⟨y, h1, h2, h3⟩
      · have := hA k i h1; omega
      · have := hA k y h2; have := allX_low hA y y (Nat.le_refl _) i h3; omega
/-- those behind are those that all ahead of them hold -/
theorem bsM_keep {A : List Nat} {i x : Nat} : ∀ d, (bsM A i (x + 1 + d)).testBit x = (bsM A i (x + 1)).testBit x
  | 0 => rfl
  | d + 1 => by
    rw [← bsM_keep d]
    by_cases h : i < x + 1 + d
    · rw [show x + 1 + (d + 1) = (x + 1 + d) + 1 by omega, bsM_step h, show decide (x = x + 1 + d) = false by simp; omega, Bool.false_and, Bool.or_false]
    · by_cases h2 : x + 1 + d = i
      · subst h2
        rw [bsM_low (A := A) (i := x + 1 + d) (x + 1 + d) (Nat.le_refl _), show x + 1 + (d + 1) = (x + 1 + d) + 1 by omega, bsM, if_neg (by omega), if_pos rfl, Nat.testBit_two_pow]
        simp; omega
      · rw [bsM_low _ (by omega), bsM_low _ (by omega)]
theorem bsM_all {A : List Nat} (hA : ∀ i k, (A.getD i 0).testBit k = true → k < i) {i : Nat} : ∀ N x n, x ≤ N → x < n → ((bsM A i n).testBit x = true ↔ x = i ∨ (allX A x).testBit i = true)
  | N, x, n, hN, hx => by
    have hk := bsM_keep (A := A) (i := i) (x := x) (n - x - 1)
    rw [show x + 1 + (n - x - 1) = n by omega] at hk
    rw [hk]
    rcases Nat.lt_trichotomy x i with h | h | h
    · rw [bsM_low _ (by omega)]
      constructor
      · intro h2; simp at h2
      · rintro (h2 | h2)
        · omega
        · have := allX_low hA x x (Nat.le_refl _) i h2; omega
    · subst h
      rw [bsM, if_neg (by omega), if_pos rfl, Nat.testBit_two_pow]; simp
    · rw [bsM_step h, bsM_out (Nat.le_refl _), Bool.false_or]
      simp only [decide_true, Bool.true_and, decide_eq_true_eq]
      rw [allX_bit hA]
      constructor
      · intro h2
        obtain ⟨y, h3, h4⟩ := and_ne_get h2
        have hy := hA x y h3
        refine .inr ⟨y, h3, ?_⟩
        rcases (bsM_all hA (N - 1) y x (by omega) hy).mp h4 with h5 | h5
        · exact .inl h5.symm
        · exact .inr h5
      · rintro (h2 | ⟨y, h3, h4⟩)
        · omega
        · have hy := hA x y h3
          refine and_ne h3 ((bsM_all hA (N - 1) y x (by omega) hy).mpr ?_)
          rcases h4 with h5 | h5
          · exact .inl h5.symm
          · exact .inr h5
termination_by N x _ _ _ => x
decreasing_by all_goals exact hA _ _ h3
/-- the weights, as the program adds them up: k tasks are added, of the next one m others -/
def wC (T : List Int) (A : List Nat) (i k : Nat) : Int := csum T (fun x => x == i || (allX A x).testBit i) k
theorem wC_all {T : List Int} {A : List Nat} (hA : ∀ i k, (A.getD i 0).testBit k = true → k < i) (i : Nat) : wC T A i T.length = wM T A i := by
  unfold wC wM
  refine csum_congr _ fun x hx => ?_
  have := bsM_all hA (i := i) x x T.length (Nat.le_refl _) hx
  rw [Bool.eq_iff_iff, Bool.or_eq_true, beq_iff_eq]
  exact this.symm
theorem wC_succ (T : List Int) (A : List Nat) (i k : Nat) : wC T A i (k + 1) = wC T A i k + (if k = i ∨ (allX A k).testBit i = true then T.getD k 0 else 0) := by
  unfold wC
  rw [csum]
  congr 1
  simp only [Bool.or_eq_true, beq_iff_eq]
theorem or_add {D q : Nat} (h : D.testBit q = false) : D ||| 2 ^ q = D + 2 ^ q := by
  apply Nat.eq_of_testBit_eq; intro i
  rw [add_bit h, Nat.testBit_or, Nat.testBit_two_pow]
  by_cases hq : q = i
  · subst hq; simp
  · simp [hq, Ne.symm hq]
end Go.Proofs.Ythmifadnfaajbaa
namespace Go.Proofs.Ythmifadnfaajbaa
open Go.RowKit Go.WideShapes

theorem isFrom1To_any (n hi : Int) (w : World) :
    Calls Try.prog 21 #[.int .i64 n, .int .i64 hi] w fun e w' => e = .returned (.bool (inB 1 hi n)) ∧ w = w' := by
  by_cases h1 : 1 ≤ n
  · by_cases h2 : n ≤ hi
    · go_enter Try.func21, Try.ntmps21
      go_wp2
      go_ret
      exact ⟨ret_bool (inB_true h1 h2).symm, rfl⟩
    · go_enter Try.func21, Try.ntmps21
      go_wp2
      go_ret
      exact ⟨ret_bool (inB_hi (by omega)).symm, rfl⟩
  · go_enter Try.func21, Try.ntmps21
    go_wp2
    go_ret
    exact ⟨ret_bool (inB_lo (by omega)).symm, rfl⟩
theorem p2_le {n : Nat} (h : n ≤ 20) : 1 ≤ 2 ^ n ∧ 2 ^ n ≤ 1048576 := ⟨Nat.two_pow_pos n, by have := Nat.pow_le_pow_right (n := 2) (by omega) h; omega⟩
end Go.Proofs.Ythmifadnfaajbaa
