import Derived.RangeFuncCalls
import Derived.RangeFuncWrites
import Derived.TacticsIn
import Derived.StillTail
import Derived.RangeFuncLeaves
import Derived.RangeFuncNested
namespace Go.Proofs.Ytldncfkkeeinjac
open Go.RowKit

/-- one operation in a round of a wide fence: as everywhere, where it is no defer statement -/
theorem oper_round {P : Program} {o : Oper} {a : Act} {w : World} {next next' : Act → World → Prop} {Q : Exit → Act → World → Prop} (r n : Nat) (hnd : ∀ c, o.op ≠ .defer c)
    (h : Oper.wp P o a w next Q) (hn : ∀ a w, next a w → next' a w) : o.wpIn (Fence.wide.inRound r) n P a w next' Q := by
  refine ⟨fun _ _ => trivial, ?_⟩
  rw [Fence.inRound_round, Oper.semAt_some r a.eval o hnd]
  unfold Oper.wp at h
  cases hx : (execOp a.eval o).run P w with
  | halt x w' =>
    rw [hx] at h
    cases x <;> first | exact h | exact h.elim
  | ok x w' =>
    rw [hx] at h
    cases x with
    | value v => exact hn _ _ h
    | skip => exact hn _ _ h
    | defer d => exact hn _ _ h
    | enter f args =>
      refine ⟨fun e => (by cases e), CallsIn.inRound r (callsIn_wide.2 (Calls.mono h ?_))⟩
      intro e w'' he
      cases e with
      | returned v => exact hn _ _ he
      | panicked c => exact he
      | outgrown => exact he
    | row row args =>
      refine ⟨fun e => (by cases e), ?_⟩
      have h' : RowsIn Fence.wide (n - 1) P row args w' (fun v w'' => next' (a.put o.dst v) w'') := fun c cs _ => by
        obtain ⟨v, w'', hr, hs⟩ := h c cs
        exact ⟨v, w'', hn _ _ hr, stepsIn_wide.2 hs⟩
      exact h'
    | _ => exact h.elim
/-- no operation is a defer statement -/
def noDefer (ops : Array Oper) : Bool := ops.all fun o => match o.op with | .defer _ => false | _ => true
theorem noDefer_spec {ops : Array Oper} (h : noDefer ops = true) {i : Nat} {o : Oper} (ho : ops[i]? = some o) : ∀ c, o.op ≠ .defer c := by
  intro c e
  obtain ⟨hi, rfl⟩ := Array.getElem?_eq_some_iff.1 ho
  have := (Array.all_eq_true.1 h) i hi
  rw [e] at this
  cases this

theorem ops_round {P : Program} {ops : Array Oper} {Q : Exit → Act → World → Prop} (r n : Nat) (hnd : noDefer ops = true) (hQ : ∀ a w, ¬ Q .outgrown a w) :
    ∀ (l : List Nat) (a : Act) (w : World), wpOps P ops Q l a w → wpOpsIn (Fence.wide.inRound r) n P ops Q l a w := by
  intro l
  induction l with
  | nil => exact fun _ _ h => h
  | cons i rest ih =>
    intro a w h
    simp only [wpOps] at h
    simp only [wpOpsIn]
    cases ho : ops[i]? with
    | none => rw [ho] at h; exact ih _ _ h
    | some o =>
      rw [ho] at h
      dsimp only at h ⊢
      by_cases hw : Region.wanted o (yielded ops a.tmps) = true
      · rw [if_pos hw] at h ⊢
        rcases h with h | ⟨_, a0, w0, hq⟩
        · exact oper_round r n (noDefer_spec hnd ho) h ih
        · exact (hQ a0 w0 hq).elim
      · rw [if_neg hw] at h ⊢
        exact ⟨fun _ _ => trivial, ih _ _ h⟩

theorem region_round_any {P : Program} {ops : Array Oper} {Q : Exit → Act → World → Prop} {id : Nat} {a : Act} {w : World} (r n : Nat) (hnd : noDefer ops = true) (hQ : ∀ a w, ¬ Q .outgrown a w) (hm : P.follows .mixedOrders = true)
    (h : wpAny P .any ops Q ops.size (Array.replicate ops.size false) a { w with drawn := w.drawn + 1 }) : (Code.region id ops true).wpIn (Fence.wide.inRound r) n P Q a w :=
  wpIn_region_draw fun t => by
    simp only [Region.schedule, hm, Bool.true_or, if_true]
    exact ops_round r n hnd hQ _ _ _ (wpAny_sound ops.size t _ a _ h)

/-- a region of a round that only reads ahead of its last operations, walked in the order of the text -/
theorem region_round_tail {P : Program} {id : Nat} {Q : Exit → Act → World → Prop} {a : Act} {w : World} {l : List Oper} (r n k : Nat) (hnd : noDefer l.toArray = true) (hQ : ∀ a w, ¬ Q .outgrown a w) (hm : P.follows .mixedOrders = true)
    (hB : Region.lexTailB .any l.toArray k = true)
    (h : wpStill P l.toArray { w with drawn := w.drawn + 1 } (fun a' => wpList P l.toArray Q (l.drop k) a' { w with drawn := w.drawn + 1 }) (l.take k) a) : (Code.region id l.toArray true).wpIn (Fence.wide.inRound r) n P Q a w := by
  simp only [Region.lexTailB, Bool.and_eq_true, decide_eq_true_eq] at hB
  obtain ⟨⟨⟨⟨hsel, hn⟩, hs⟩, hc⟩, hlex⟩ := hB
  have hn' : k < l.length := by simpa using hn
  have htl : (l.take k).length = k := by simp; omega
  have hdl : (l.drop k).length = l.toArray.size - k := by simp
  have inv0 : HeadInv .any l.toArray k (Array.replicate l.toArray.size false) :=
    ⟨by simp, fun j oj _ hl => (by rw [getD_replicate_false] at hl; cases hl), fun t _ ht => getD_in (by simpa using ht) (getD_replicate_false _ _)⟩
  have H := wpAnyL_lex (md := .any) (g := l.toArray.size - k) hsel hs hc hn (l.take k) 0 _ a (fun j hj => by
    have hj' : j < k := by rw [htl] at hj; exact hj
    simp [hj']) (by simpa using htl) inv0 (by rw [htl]; exact hlex) h
  refine region_round_any r n hnd hQ hm ?_
  have := wpAny_of_head (Q' := Q) (g := l.toArray.size - k) (fun listed a' hL => by
    have := wpAny_of_seq (md := .any) (Q' := Q) (l.drop k) k listed a' { w with drawn := w.drawn + 1 } (fun j => by simp [List.getElem?_drop]) (by rw [hdl]; exact hL.1) hL.2
    rwa [hdl] at this) _ _ _ H
  rw [htl, show k + (l.toArray.size - k) = l.toArray.size by omega] at this
  exact this
/-! ### several ranges over functions in one call: one mark each -/
def collected (D : Nat) : Deferred := { target := .collected D, args := #[] }
/-- the blocks of the marks, from B on, no two the same -/
def Marks (w : World) (B : Nat) : List Nat → Prop
  | [] => True
  | D :: Ds => (w.heap[D]? = some (.deferred (some [])) ∧ B ≤ D ∧ ∀ x ∈ Ds, x ≠ D) ∧ Marks w B Ds
theorem Marks.kept {w w' : World} {B : Nat} : ∀ {Ds : List Nat}, Marks w B Ds → (∀ D ∈ Ds, w.heap[D]? = some (.deferred (some [])) → w'.heap[D]? = some (.deferred (some []))) → Marks w' B Ds := by
  intro Ds
  induction Ds with
  | nil => exact fun _ _ => trivial
  | cons D Ds ih => exact fun h g => ⟨⟨g D List.mem_cons_self h.1.1, h.1.2⟩, ih h.2 (fun x hx => g x (List.mem_cons_of_mem _ hx))⟩
theorem Marks.get {w : World} {B D : Nat} : ∀ {Ds : List Nat}, Marks w B Ds → D ∈ Ds → w.heap[D]? = some (.deferred (some [])) ∧ B ≤ D := by
  intro Ds
  induction Ds with
  | nil => intro _ h; cases h
  | cons x Ds ih =>
    intro h hm
    rcases List.mem_cons.1 hm with rfl | hm
    · exact ⟨h.1.1, h.1.2.1⟩
    · exact ih h.2 hm
theorem Marks.lt {w : World} {B D : Nat} {Ds : List Nat} (h : Marks w B Ds) (hm : D ∈ Ds) : D < w.heap.size := by
  have h1 := (h.get hm).1
  rcases Nat.lt_or_ge D w.heap.size with h' | h'
  · exact h'
  · rw [Array.getElem?_eq_none h'] at h1; cases h1
theorem Marks.alloc {w : World} {B : Nat} {Ds : List Nat} (h : Marks w B Ds) (o : Obj) : Marks (w.alloc o) B Ds :=
  h.kept (fun D hD hx => by rw [Below.heap_alloc _ _ _ (h.lt hD)]; exact hx)
theorem Marks.setCell {w : World} {B : Nat} {Ds : List Nat} (h : Marks w B Ds) {p : Addr} {v u : Value} (hp : w.cell? p = some v) : Marks (w.setCell p u) B Ds :=
  h.kept (fun D _ hx => by
    rw [Below.heap_setCell _ _ _ _ (fun e => by subst e; simp [World.cell?, hx] at hp)]
    exact hx)
/-- cells read as they did, and what lay below B lies as it lay -/
structure SameCells (B : Nat) (w w' : World) : Prop where
  cell : ∀ p, w'.cell? p = w.cell? p
  frozen : ∀ p, w'.frozen? p = w.frozen? p
  below : Below B w w'
theorem SameCells.refl (B : Nat) (w : World) : SameCells B w w := ⟨fun _ => rfl, fun _ => rfl, Below.refl _ _⟩
theorem SameCells.trans {B : Nat} {a b c : World} (h : SameCells B a b) (g : SameCells B b c) : SameCells B a c :=
  ⟨fun p => (g.cell p).trans (h.cell p), fun p => (g.frozen p).trans (h.frozen p), h.below.trans g.below⟩
theorem sameCells_put {B D : Nat} {w : World} (h : w.heap[D]? = some (.deferred (some []))) (hB : B ≤ D) : SameCells B w (w.putObj D (.deferred none)) := by
  have hd : D < w.heap.size := by
    rcases Nat.lt_or_ge D w.heap.size with h' | h'
    · exact h'
    · rw [Array.getElem?_eq_none h'] at h; cases h
  have hs : (w.putObj D (.deferred none)).heap[D]? = some (.deferred none) := by simp [World.putObj, hd]
  have hb : Below B w (w.putObj D (.deferred none)) := ⟨rfl, rfl, rfl, by simp, fun k hk => World.putObj_heap_other (by omega)⟩
  refine ⟨fun p => ?_, fun p => ?_, hb⟩
  · by_cases e : p.block = D
    · simp only [World.cell?, e, hs, h]
    · exact World.cell?_of_block (w := w) (World.putObj_heap_other e)
  · by_cases e : p.block = D
    · simp only [World.frozen?, e, hs, h]
    · exact World.frozen?_of_block (w := w) (World.putObj_heap_other e)

theorem leaves_marks {F : Fence} {n B : Nat} {P : Program} {fn : Func} {tmps : Array Value} {R : Ending → World → Prop} {v : Value} (hres : ∀ w, (results fn tmps).run P w = .ok v w) : ∀ (Ds : List Nat) (w : World), Marks w B Ds →
    (∀ w', SameCells B w w' → R (.returned v) w') → LeavesInM F n P fn tmps R (Ds.map collected) .returning w := by
  intro Ds
  induction Ds with
  | nil => exact fun w _ h => ⟨v, hres w, h w (SameCells.refl _ _)⟩
  | cons D Ds ih =>
    intro w hm h
    have hput := sameCells_put hm.1.1 hm.1.2.1
    refine ⟨by simp, Or.inl ⟨D, _, rfl, run_takeDeferred hm.1.1, ih _ (hm.2.kept (fun x hx hx' => ?_)) (fun w' hw' => h w' (hput.trans hw'))⟩⟩
    rw [World.putObj_heap_other (hm.1.2.2 x hx)]
    exact hx'
end Go.Proofs.Ytldncfkkeeinjac
