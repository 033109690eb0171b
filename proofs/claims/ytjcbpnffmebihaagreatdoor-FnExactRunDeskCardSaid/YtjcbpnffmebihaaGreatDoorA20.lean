import Derived.Test.YtjcbpnffmebihaaGreatDoorA19
import Derived.RangeFuncCalls
import Derived.RangeFuncWrites
import Derived.TacticsIn
import Derived.StillTail
import Derived.RangeFuncLeaves
import Derived.RangeFuncNested
import Derived.Test.YtjcbpnffmebihaaGreatDoorRows
import Derived.RangeFuncBound
import Derived.Shelf.Abstract
import Derived.Shelf.RegionOpen
import Derived.WalkKit
import Derived.OwnWalkIn
import Derived.TacticsInMore
import Derived.LoopNIn
import Derived.LoopIn
namespace Go.Proofs.YtjcbpnffmebihaaGreatDoor
open Go.RowKit

/-- one operation in a round of a wide fence: as everywhere, where it is no defer statement -/
theorem oper_round {P : Program} {o : Oper} {a : Act} {w : World} {next next' : Act → World → Prop} {Q : Exit → Act → World → Prop} (r n : Nat) (hnd : ∀ c, o.op ≠ .defer c)
    (h : Oper.wp P o a w next Q) (hn : ∀ a w, next a w → next' a w) : o.wpIn (Fence.wide.inRound r) n P a w next' Q := by
  refine ⟨fun _ _ => trivial, ?_⟩
  rw [Fence.inRound_round, Oper.semAt_some r a.eval o hnd]
  unfold Oper.wp at h
  cases hx : (execOp a.eval o).run P w with
  | halt x w' =>
    rw [hx] at h
    cases x <;> first | exact h | exact h.elim
  | ok x w' =>
    rw [hx] at h
    cases x with
    | value v => exact hn _ _ h
    | skip => exact hn _ _ h
    | defer d => exact hn _ _ h
    | enter f args =>
      refine ⟨fun e => (by cases e), CallsIn.inRound r (callsIn_wide.2 (Calls.mono h ?_))⟩
      intro e w'' he
      cases e with
      | returned v => exact hn _ _ he
      | panicked c => exact he
      | outgrown => exact he
    | row row args =>
      refine ⟨fun e => (by cases e), ?_⟩
      have h' : RowsIn Fence.wide (n - 1) P row args w' (fun v w'' => next' (a.put o.dst v) w'') := fun c cs _ => by
        obtain ⟨v, w'', hr, hs⟩ := h c cs
        exact ⟨v, w'', hn _ _ hr, stepsIn_wide.2 hs⟩
      exact h'
    | _ => exact h.elim
/-- no operation is a defer statement -/
def noDefer (ops : Array Oper) : Bool := ops.all fun o => match o.op with | .defer _ => false | _ => true
theorem noDefer_spec {ops : Array Oper} (h : noDefer ops = true) {i : Nat} {o : Oper} (ho : ops[i]? = some o) : ∀ c, o.op ≠ .defer c := by
  intro c e
  obtain ⟨hi, rfl⟩ := Array.getElem?_eq_some_iff.1 ho
  have := (Array.all_eq_true.1 h) i hi
  rw [e] at this
  cases this

theorem ops_round {P : Program} {ops : Array Oper} {Q : Exit → Act → World → Prop} (r n : Nat) (hnd : noDefer ops = true) (hQ : ∀ a w, ¬ Q .outgrown a w) :
    ∀ (l : List Nat) (a : Act) (w : World), wpOps P ops Q l a w → wpOpsIn (Fence.wide.inRound r) n P ops Q l a w := by
  intro l
  induction l with
  | nil => exact fun _ _ h => h
  | cons i rest ih =>
    intro a w h
    simp only [wpOps] at h
    simp only [wpOpsIn]
    cases ho : ops[i]? with
    | none => rw [ho] at h; exact ih _ _ h
    | some o =>
      rw [ho] at h
      dsimp only at h ⊢
      by_cases hw : Region.wanted o (yielded ops a.tmps) = true
      · rw [if_pos hw] at h ⊢
        rcases h with h | ⟨_, a0, w0, hq⟩
        · exact oper_round r n (noDefer_spec hnd ho) h ih
        · exact (hQ a0 w0 hq).elim
      · rw [if_neg hw] at h ⊢
        exact ⟨fun _ _ => trivial, ih _ _ h⟩

theorem region_round_any {P : Program} {ops : Array Oper} {Q : Exit → Act → World → Prop} {id : Nat} {a : Act} {w : World} (r n : Nat) (hnd : noDefer ops = true) (hQ : ∀ a w, ¬ Q .outgrown a w) (hm : P.follows .mixedOrders = true)
    (h : wpAny P .any ops Q ops.size (Array.replicate ops.size false) a { w with drawn := w.drawn + 1 }) : (Code.region id ops true).wpIn (Fence.wide.inRound r) n P Q a w :=
  wpIn_region_draw fun t => by
    simp only [Region.schedule, hm, Bool.true_or, if_true]
    exact ops_round r n hnd hQ _ _ _ (wpAny_sound ops.size t _ a _ h)

/-- a region of a round that only reads ahead of its last operations, walked in the order of the text -/
theorem region_round_tail {P : Program} {id : Nat} {Q : Exit → Act → World → Prop} {a : Act} {w : World} {l : List Oper} (r n k : Nat) (hnd : noDefer l.toArray = true) (hQ : ∀ a w, ¬ Q .outgrown a w) (hm : P.follows .mixedOrders = true)
    (hB : Region.lexTailB .any l.toArray k = true)
    (h : wpStill P l.toArray { w with drawn := w.drawn + 1 } (fun a' => wpList P l.toArray Q (l.drop k) a' { w with drawn := w.drawn + 1 }) (l.take k) a) : (Code.region id l.toArray true).wpIn (Fence.wide.inRound r) n P Q a w := by
  simp only [Region.lexTailB, Bool.and_eq_true, decide_eq_true_eq] at hB
  obtain ⟨⟨⟨⟨hsel, hn⟩, hs⟩, hc⟩, hlex⟩ := hB
  have hn' : k < l.length := by simpa using hn
  have htl : (l.take k).length = k := by simp; omega
  have hdl : (l.drop k).length = l.toArray.size - k := by simp
  have inv0 : HeadInv .any l.toArray k (Array.replicate l.toArray.size false) :=
    ⟨by simp, fun j oj _ hl => (by rw [getD_replicate_false] at hl; cases hl), fun t _ ht => getD_in (by simpa using ht) (getD_replicate_false _ _)⟩
  have H := wpAnyL_lex (md := .any) (g := l.toArray.size - k) hsel hs hc hn (l.take k) 0 _ a (fun j hj => by
    have hj' : j < k := by rw [htl] at hj; exact hj
    simp [hj']) (by simpa using htl) inv0 (by rw [htl]; exact hlex) h
  refine region_round_any r n hnd hQ hm ?_
  have := wpAny_of_head (Q' := Q) (g := l.toArray.size - k) (fun listed a' hL => by
    have := wpAny_of_seq (md := .any) (Q' := Q) (l.drop k) k listed a' { w with drawn := w.drawn + 1 } (fun j => by simp [List.getElem?_drop]) (by rw [hdl]; exact hL.1) hL.2
    rwa [hdl] at this) _ _ _ H
  rw [htl, show k + (l.toArray.size - k) = l.toArray.size by omega] at this
  exact this
/-! ### several ranges over functions in one call: one mark each -/
def collected (D : Nat) : Deferred := { target := .collected D, args := #[] }
/-- the blocks of the marks, from B on, no two the same -/
def Marks (w : World) (B : Nat) : List Nat → Prop
  | [] => True
  | D :: Ds => (w.heap[D]? = some (.deferred (some [])) ∧ B ≤ D ∧ ∀ x ∈ Ds, x ≠ D) ∧ Marks w B Ds
theorem Marks.kept {w w' : World} {B : Nat} : ∀ {Ds : List Nat}, Marks w B Ds → (∀ D ∈ Ds, w.heap[D]? = some (.deferred (some [])) → w'.heap[D]? = some (.deferred (some []))) → Marks w' B Ds := by
  intro Ds
  induction Ds with
  | nil => exact fun _ _ => trivial
  | cons D Ds ih => exact fun h g => ⟨⟨g D List.mem_cons_self h.1.1, h.1.2⟩, ih h.2 (fun x hx => g x (List.mem_cons_of_mem _ hx))⟩
theorem Marks.get {w : World} {B D : Nat} : ∀ {Ds : List Nat}, Marks w B Ds → D ∈ Ds → w.heap[D]? = some (.deferred (some [])) ∧ B ≤ D := by
  intro Ds
  induction Ds with
  | nil => intro _ h; cases h
  | cons x Ds ih =>
    intro h hm
    rcases List.mem_cons.1 hm with rfl | hm
    · exact ⟨h.1.1, h.1.2.1⟩
    · exact ih h.2 hm
theorem Marks.lt {w : World} {B D : Nat} {Ds : List Nat} (h : Marks w B Ds) (hm : D ∈ Ds) : D < w.heap.size := by
  have h1 := (h.get hm).1
  rcases Nat.lt_or_ge D w.heap.size with h' | h'
  · exact h'
  · rw [Array.getElem?_eq_none h'] at h1; cases h1
theorem Marks.alloc {w : World} {B : Nat} {Ds : List Nat} (h : Marks w B Ds) (o : Obj) : Marks (w.alloc o) B Ds :=
  h.kept (fun D hD hx => by rw [Below.heap_alloc _ _ _ (h.lt hD)]; exact hx)
theorem Marks.setCell {w : World} {B : Nat} {Ds : List Nat} (h : Marks w B Ds) {p : Addr} {v u : Value} (hp : w.cell? p = some v) : Marks (w.setCell p u) B Ds :=
  h.kept (fun D _ hx => by
    rw [Below.heap_setCell _ _ _ _ (fun e => by subst e; simp [World.cell?, hx] at hp)]
    exact hx)
/-- cells read as they did, and what lay below B lies as it lay -/
structure SameCells (B : Nat) (w w' : World) : Prop where
  cell : ∀ p, w'.cell? p = w.cell? p
  frozen : ∀ p, w'.frozen? p = w.frozen? p
  below : Below B w w'
theorem SameCells.refl (B : Nat) (w : World) : SameCells B w w := ⟨fun _ => rfl, fun _ => rfl, Below.refl _ _⟩
theorem SameCells.trans {B : Nat} {a b c : World} (h : SameCells B a b) (g : SameCells B b c) : SameCells B a c :=
  ⟨fun p => (g.cell p).trans (h.cell p), fun p => (g.frozen p).trans (h.frozen p), h.below.trans g.below⟩
theorem sameCells_put {B D : Nat} {w : World} (h : w.heap[D]? = some (.deferred (some []))) (hB : B ≤ D) : SameCells B w (w.putObj D (.deferred none)) := by
  have hd : D < w.heap.size := by
    rcases Nat.lt_or_ge D w.heap.size with h' | h'
    · exact h'
    · rw [Array.getElem?_eq_none h'] at h; cases h
  have hs : (w.putObj D (.deferred none)).heap[D]? = some (.deferred none) := by simp [World.putObj, hd]
  have hb : Below B w (w.putObj D (.deferred none)) := ⟨rfl, rfl, rfl, by simp, fun k hk => World.putObj_heap_other (by omega)⟩
  refine ⟨fun p => ?_, fun p => ?_, hb⟩
  · by_cases e : p.block = D
    · simp only [World.cell?, e, hs, h]
    · exact World.cell?_of_block (w := w) (World.putObj_heap_other e)
  · by_cases e : p.block = D
    · simp only [World.frozen?, e, hs, h]
    · exact World.frozen?_of_block (w := w) (World.putObj_heap_other e)

theorem leaves_marks {F : Fence} {n B : Nat} {P : Program} {fn : Func} {tmps : Array Value} {R : Ending → World → Prop} {v : Value} (hres : ∀ w, (results fn tmps).run P w = .ok v w) : ∀ (Ds : List Nat) (w : World), Marks w B Ds →
    (∀ w', SameCells B w w' → R (.returned v) w') → LeavesInM F n P fn tmps R (Ds.map collected) .returning w := by
  intro Ds
  induction Ds with
  | nil => exact fun w _ h => ⟨v, hres w, h w (SameCells.refl _ _)⟩
  | cons D Ds ih =>
    intro w hm h
    have hput := sameCells_put hm.1.1 hm.1.2.1
    refine ⟨by simp, Or.inl ⟨D, _, rfl, run_takeDeferred hm.1.1, ih _ (hm.2.kept (fun x hx hx' => ?_)) (fun w' hw' => h w' (hput.trans hw'))⟩⟩
    rw [World.putObj_heap_other (hm.1.2.2 x hx)]
    exact hx'
end Go.Proofs.YtjcbpnffmebihaaGreatDoor
namespace Go.Proofs.YtjcbpnffmebihaaGreatDoor
open Go.RowKit Go.Shelf

attribute [local go_sem] Oper.semAt_some

theorem cell_new_l (W : World) (v : Value) (t : TypeId) : (W.alloc (.cells #[v] t)).cell? ⟨W.heap.size, 0, none⟩ = some v ∧ (W.alloc (.cells #[v] t)).frozen? ⟨W.heap.size, 0, none⟩ = false :=
  ⟨by rw [World.cell?_alloc_new]; rfl, World.frozen?_alloc_new W _ _ _⟩
theorem cell_alloc_l {W : World} {a : Addr} {v : Value} (o : Obj) (h : W.cell? a = some v) : (W.alloc o).cell? a = some v := cell_kept h (World.grownBy_alloc W o none) (fun r e => by cases e)
theorem frozen_alloc_l {W : World} {a : Addr} {v : Value} (o : Obj) (h : W.cell? a = some v) (hf : W.frozen? a = false) : (W.alloc o).frozen? a = false := (frozen_kept h (World.grownBy_alloc W o none) (fun r e => by cases e)).trans hf
end Go.Proofs.YtjcbpnffmebihaaGreatDoor
namespace Go.Proofs.YtjcbpnffmebihaaGreatDoor
open Go.RowKit Go.Shelf

attribute [local go_sem] Oper.semAt_some

/-- an element of a list, by its place -/
abbrev IRow (xs : List Int) := { x : Nat × Int // xs[x.1]? = some x.2 }
def backIArgs (xs : List Int) (x : IRow xs) : Array Value := #[.int .i64 (x.1.1 : Int), .int .i64 x.1.2]
/-- all below n and block Bs are as they were -/
def KeepI (n Bs : Nat) (W W' : World) : Prop := Below n W W' ∧ W'.heap[Bs]? = W.heap[Bs]?
theorem KeepI.refl (n Bs : Nat) (W : World) : KeepI n Bs W W := ⟨Below.refl _ _, rfl⟩
theorem KeepI.trans {n Bs : Nat} {A B C : World} (h : KeepI n Bs A B) (g : KeepI n Bs B C) : KeepI n Bs A C := ⟨h.1.trans g.1, g.2.trans h.2⟩
def downI (len j : Nat) : List Nat := (List.range j).map (fun d => len - 1 - d)
theorem downI_succ (len j : Nat) : downI len (j + 1) = downI len j ++ [len - 1 - j] := by simp [downI, List.range_succ]

set_option maxRecDepth 100000 in
set_option maxHeartbeats 2000000 in
theorem backI_walk (n : Nat) (hn : 1 ≤ n) (l Bs n₀ : Nat) (a : Option Addr) (len cap : Nat) (xs : List Int) (w0 : World) (J Jx : List (IRow xs) → World → Prop)
    (hY : ∀ pre x W, J pre W → pre.length < xs.length → YieldAt Fence.wide (n - 1) Tryz.prog l (backIArgs xs x) W fun e W' =>
      (e = .returned (.bool true) ∧ J (pre ++ [x]) W' ∧ KeepI n₀ Bs W W') ∨ (e = .returned (.bool false) ∧ Jx (pre ++ [x]) W'))
    (W : World) (hBs : W.cell? ⟨Bs, 0, none⟩ = some (.slice a len cap)) (hI : IntsAt w0 (· < n₀) a len xs) (hW0 : Below n₀ w0 W) (h0 : J [] W) :
    CallsIn Fence.wide n Tryz.prog 177 #[.func (.yield l) #[] #[], .pointer (some ⟨Bs, 0, none⟩)] W fun e W' => (∃ v, e = .returned v) ∧
      ((∃ ys : List (IRow xs), ys.map (·.1.1) = downI len len ∧ J ys W') ∨ (∃ pre : List (IRow xs), True ∧ Jx pre W')) := by
  have hs := hI.small
  refine callsIn_of_wp Tryz.func177 rfl trivial ?_ rfl
  simp only [Tryz.ntmps177, List.size_toArray, List.length_cons, List.length_nil, Nat.reduceAdd, Nat.reduceSub, Array.replicate_succ, Array.replicate_zero, List.push_toArray, List.append_toArray, List.nil_append, List.cons_append]
  gi_wp2
  gi_loopw [3] (fun i wr => ∃ (v : Int) (pre : List (IRow xs)), -1 ≤ v ∧ v < len ∧ i = .int .i64 v ∧ (pre.length : Int) = (len : Int) - 1 - v ∧ pre.map (·.1.1) = downI len pre.length ∧ J pre wr ∧ KeepI n₀ Bs W wr)
    (fun i _ => (intOf i + 1).toNat)
  case atStart => exact ⟨(len : Int) - 1, [], by omega, by omega, rfl, by simp, rfl, h0, KeepI.refl _ _ _⟩
  case round =>
    obtain ⟨v, pre, hv1, hv2, rfl, hpl, hp, hJs, hnx⟩ := hrel
    have HP := Lib.hid hp
    have HPL := Lib.hid hpl
    have HL := Lib.hid hI.lenEq
    have hbs := hnx.2
    have hbs' : wr.cell? ⟨Bs, 0, none⟩ = some (.slice a len cap) := by rw [World.cell?_of_block (w := W) hbs]; exact hBs
    clear hp hpl hbs
    by_cases h0v : 0 ≤ v
    · obtain ⟨k, rfl⟩ : ∃ k : Nat, v = (k : Int) := ⟨v.toNat, by omega⟩
      have hlt : k < len := by omega
      obtain ⟨b, off, r, rfl, hx, hc⟩ := (hI.below (hW0.trans hnx.1)).get hlt
      have HX := Lib.hid hx
      clear hx
      have hplr : pre.length < xs.length := by have := HL.out; have := HPL.out; omega
      obtain ⟨fn, tmps, assign, body, hy, hR⟩ := hY pre ⟨(k, r), HX.out⟩ wr hJs hplr
      dsimp only [backIArgs] at hy
      have HS := Lib.hid (show (pre ++ [(⟨(k, r), HX.out⟩ : IRow xs)]).map (·.1.1) = downI len (pre ++ [(⟨(k, r), HX.out⟩ : IRow xs)]).length by
        rw [List.map_append, HP.out, List.length_append, List.length_singleton, downI_succ]
        have := HPL.out
        rw [show len - 1 - pre.length = k by omega]; rfl)
      have HPL2 := Lib.hid (show (((pre ++ [(⟨(k, r), HX.out⟩ : IRow xs)]).length : Nat) : Int) = (len : Int) - 1 - ((k : Int) - 1) by
        rw [List.length_append, List.length_singleton]
        have := HPL.out
        push_cast; omega)
      clear hplr
      gi_wp2
      refine hR.mono ?_
      rintro e W3 (⟨rfl, hJ3, hk3⟩ | ⟨rfl, hJx3⟩)
      · gi_wp2
        go_roundw
        case rel => exact ⟨(k : Int) - 1, _, by omega, by omega, rfl, HPL2.out, HS.out, hJ3, hnx.trans hk3⟩
        case measure => simp [intOf] <;> omega
      · gi_wp2
        refine bodyPost_ret (results_none rfl _ _ _) rfl ?_
        exact ⟨⟨_, rfl⟩, .inr ⟨_, trivial, hJx3⟩⟩
    · gi_wp2
      go_end0
      have e : pre.length = len := by have := HPL.out; omega
      exact ⟨⟨_, rfl⟩, .inl ⟨pre, by rw [HP.out, e], hJs⟩⟩

theorem backI_stops (n : Nat) (hn : 1 ≤ n) (Bs n₀ : Nat) (a : Option Addr) (len cap : Nat) (xs : List Int) (w : World) (hBs : Bs < w.heap.size) (hn₀ : n₀ ≤ w.heap.size)
    (hc : w.cell? ⟨Bs, 0, none⟩ = some (.slice a len cap)) (hI : IntsAt w (· < n₀) a len xs) :
    SeqStopsK Fence.wide n Tryz.prog 177 #[.pointer (some ⟨Bs, 0, none⟩)] (backIArgs xs) (KeepI n₀ Bs) (fun ys => ys.map (·.1.1) = downI len len) (fun _ => True) xs.length w := fun l J Jx W hW _ _ hY h0 =>
  backI_walk n hn l Bs n₀ a len cap xs w J Jx hY W ((hW.cell (p := ⟨Bs, 0, none⟩) hBs).trans hc) hI (hW.mono hn₀) h0

set_option maxHeartbeats 1000000 in
theorem backwardI_any (n : Nat) (a : Option Addr) (len cap : Nat) (w : World) :
    CallsIn Fence.wide n Tryz.prog 150 #[.slice a len cap] w fun e w' => e = .returned (.func (.func 177) #[] #[.pointer (some ⟨w.heap.size, 0, none⟩)]) ∧ w.alloc (.cells #[.slice a len cap] 35) = w' := by
  refine callsIn_of_wp Tryz.func150 rfl trivial ?_ rfl
  simp only [Tryz.ntmps150, List.size_toArray, List.length_cons, List.length_nil, Nat.reduceAdd, Nat.reduceSub, Array.replicate_succ, Array.replicate_zero, List.push_toArray, List.append_toArray, List.nil_append, List.cons_append]
  gi_wp2
  go_ret
  exact ⟨rfl, rfl⟩
theorem leaves_marksC {F : Fence} {n B : Nat} {P : Program} {fn : Func} {tmps : Array Value} {R : Ending → World → Prop} {v : Value} : ∀ (Ds : List Nat) (w : World), Marks w B Ds →
    (∀ w', SameCells B w w' → (results fn tmps).run P w' = .ok v w') → (∀ w', SameCells B w w' → R (.returned v) w') → LeavesInM F n P fn tmps R (Ds.map collected) .returning w := by
  intro Ds
  induction Ds with
  | nil => exact fun w _ hres h => ⟨v, hres w (SameCells.refl _ _), h w (SameCells.refl _ _)⟩
  | cons D Ds ih =>
    intro w hm hres h
    have hput := sameCells_put hm.1.1 hm.1.2.1
    refine ⟨by simp, Or.inl ⟨D, _, rfl, run_takeDeferred hm.1.1, ih _ (hm.2.kept (fun x hx hx' => ?_)) (fun w' hw' => hres w' (hput.trans hw')) (fun w' hw' => h w' (hput.trans hw'))⟩⟩
    rw [World.putObj_heap_other (hm.1.2.2 x hx)]
    exact hx'
end Go.Proofs.YtjcbpnffmebihaaGreatDoor
namespace Go.Proofs.YtjcbpnffmebihaaGreatDoor
open Go.RowKit Go.WideShapes

/-- a given order fits the pairs -/
theorem fitOne_any (S T : Nat → Prop) (a : Option Addr) (len cap : Nat) (rows : List (List Int)) (a2 : Option Addr) (len2 cap2 : Nat) (o : List Int) (w : World) (h : RowsAt w S a len rows) (g : IntsAt w T a2 len2 o) (hc : len ≤ cap) :
    Calls Tryz.prog 146 #[.slice a len cap, .iface 137 (.slice a2 len2 cap2)] w fun e w' => e = .returned (.bool (spanFine rows o)) ∧ Drew w w' := by
  have HL := Lib.hid h.lenEq
  have ta1 : ∀ w : World, (Instr.typeAssert (.iface 137 (.slice a2 len2 cap2)) 177 137 true).run Tryz.prog w = .ok (.tuple #[.slice a2 len2 cap2, .bool true]) w := fun _ => by kernel_rfl
  cases hp : pairsM rows
  · have HF := Lib.hid (show spanFine rows o = false by unfold spanFine; rw [hp]; rfl)
    go_enter Tryz.func146, Tryz.ntmps146
    go_wp2_with fail
    refine (validPairs_impl S a len cap rows w h hc).mono ?_
    rintro e w' ⟨rfl, hdw⟩
    rw [hp]
    go_wp2_with fail
    go_ret
    exact ⟨ret_bool HF.out.symm, hdw⟩
  · have hl8 : len ≤ 8 := by have := (pairs_get hp).1; have := HL.out; omega
    have HF := Lib.hid (show spanFine rows o = orderM o len by unfold spanFine; rw [HL.out, hp, Bool.true_and])
    go_enter Tryz.func146, Tryz.ntmps146
    go_wp2_with fail
    refine (validPairs_impl S a len cap rows w h hc).mono ?_
    rintro e w' ⟨rfl, hdw⟩
    rw [hp]
    go_wp2_with fail
    refine (isOrder_any T a2 len2 cap2 o len _ (Drew.ints g hdw) hl8).mono ?_
    rintro e w' ⟨rfl, rfl⟩
    go_wp2_with fail
    go_ret
    exact ⟨ret_bool HF.out.symm, hdw⟩
end Go.Proofs.YtjcbpnffmebihaaGreatDoor
namespace Go.Proofs.YtjcbpnffmebihaaGreatDoor
open Go.RowKit

-- A range over a function that writes memory of its own between its rounds, and whose rounds are never left: told by the number of rounds gone.
/-- all blocks from n on that W has are as they were -/
def KeepsUp (n : Nat) (W W' : World) : Prop := W.heap.size ≤ W'.heap.size ∧ ∀ b, n ≤ b → b < W.heap.size → W'.heap[b]? = W.heap[b]?
theorem KeepsUp.refl (n : Nat) (W : World) : KeepsUp n W W := ⟨Nat.le_refl _, fun _ _ _ => rfl⟩
theorem KeepsUp.trans {n : Nat} {A B C : World} (h : KeepsUp n A B) (g : KeepsUp n B C) : KeepsUp n A C :=
  ⟨Nat.le_trans h.1 g.1, fun b hb hlt => (g.2 b hb (Nat.lt_of_lt_of_le hlt h.1)).trans (h.2 b hb hlt)⟩
theorem KeepsUp.mono {n m : Nat} {A B : World} (h : KeepsUp n A B) (hm : n ≤ m) : KeepsUp m A B := ⟨h.1, fun b hb hlt => h.2 b (Nat.le_trans hm hb) hlt⟩
theorem KeepsUp.setCell (n : Nat) (W : World) {p : Addr} (hp : p.block < n) (v : Value) : KeepsUp n W (W.setCell p v) :=
  ⟨by simp [World.setCell], fun b hb _ => Below.heap_setCell _ _ _ _ (by omega)⟩
theorem KeepsUp.drew (n : Nat) (W : World) : KeepsUp n W W.drew := ⟨Nat.le_refl _, fun _ _ _ => rfl⟩
theorem KeepsUp.putObj {n l : Nat} (W : World) (h : l < n) (o : Obj) : KeepsUp n W (W.putObj l o) := ⟨by simp, fun b hb _ => World.putObj_heap_other (by omega)⟩
theorem below_putObj {n l : Nat} (W : World) (h : n ≤ l) (o : Obj) : Below n W (W.putObj l o) := ⟨rfl, rfl, rfl, by simp, fun k hk => World.putObj_heap_other (by omega)⟩

/-- how a round's body ends: what lies from n on is kept, and the invariant is carried on -/
def countPost (n : Nat) (R : World → Prop) (W : World) : Exit → Act → World → Prop
  | .normal, _, W' => KeepsUp n W W' ∧ R W'
  | _, _, _ => False
/-- the contract of a function that yields: S tells how many rounds there are, E what comes with which -/
def SeqCount {α : Type} (F : Fence) (n : Nat) (P : Program) (gf : Nat) (lb : Array Value) (enc : α → Value) (S : Nat → Prop) (E : Nat → Nat → α → World → Prop) (w : World) : Prop :=
  ∀ (l : Nat) (J : Nat → World → Prop) (W1 : World), Below w.heap.size w W1 → W1.heap.size = w.heap.size + 2 →
    (∀ k A B, J k A → Below W1.heap.size A B → J k B) →
    (∀ k x W, J k W → E W1.heap.size k x W → YieldAt F (n - 1) P l #[enc x] W fun e W' => e = .returned (.bool true) ∧ J (k + 1) W' ∧ KeepsUp W1.heap.size W W') →
    J 0 W1 → CallsIn F n P gf (#[.func (.yield l) #[] #[]] ++ lb) W1 fun e W' => (∃ v, e = .returned v) ∧ ∃ k, S k ∧ J k W'
theorem wpIn_rangeFunc_count {α : Type} {F : Fence} {n : Nat} {P : Program} {g : Operand} {ps : Array Tmp} {assign body : Code} {Q : Exit → Act → World → Prop} {a : Act} {w : World}
    (hro : F.round = none) (h1 : 1 ≤ n) {gf : Nat} {lb : Array Value} (hg : a.eval g = .func (.func gf) #[] lb) (hFg : F.fn gf) (eg : ∀ args w, (callFunc gf args).run P w = .ok (.enter gf args) w)
    {enc : α → Value} {S : Nat → Prop} {E : Nat → Nat → α → World → Prop} (hseq : SeqCount F (n - 1) P gf lb enc S E w) (hps : ps.size = 1)
    (hE : ∀ m k x A B, E m k x A → KeepsUp m A B → E m k x B)
    (I : Nat → World → Prop) (hI : ∀ k A B, I k A → Below w.heap.size A B → I k B) (h0 : I 0 w) (a₁ : α → Act)
    (hassign : ∀ (l : Nat) (x : α) (W : World) (K : Act → World → Prop), K (a₁ x) W →
      assign.wpIn (F.inRound l) (n - 1 - 1) P (Exit.then K (fun _ _ _ => False)) { tmps := (ps.zip #[enc x]).foldl (fun t (p, v) => t.setIfInBounds p v) a.tmps, defers := [] } W)
    (hbody : ∀ (l k : Nat) (x : α) (W : World), I k W → E (w.heap.size + 2) k x W → w.heap.size + 2 ≤ W.heap.size → body.wpIn (F.inRound l) (n - 1 - 1) P (countPost w.heap.size (I (k + 1)) W) (a₁ x) W)
    (hdone : ∀ (D k : Nat) (W : World), w.heap.size ≤ D → S k → I k W → W.heap[D]? = some (.deferred (some [])) → Q .normal { a with defers := { target := .collected D, args := #[] } :: a.defers } W) :
    (Code.rangeFunc g ps assign body).wpIn F n P Q a w := by
  refine wpIn_rangeFunc ?_
  intro fn hfn
  rw [hro]
  obtain ⟨rec, hrec⟩ : ∃ rec : LoopState → Loop, rec = fun st => { state := st, pending := none, fn, tmps := a.tmps, params := ps, assign, body, defers := w.heap.size } := ⟨_, rfl⟩
  obtain ⟨W1, hW1⟩ : ∃ W1, (w.alloc (.deferred (some []))).alloc (.loop (rec .ready)) = W1 := ⟨_, rfl⟩
  have hsz : W1.heap.size = w.heap.size + 2 := by rw [← hW1]; simp
  have hb1 : Below w.heap.size w W1 := by rw [← hW1]; exact ((Below.refl _ w).alloc (Nat.le_refl _) _).alloc (by simp) _
  have hL1 : W1.heap[w.heap.size + 1]? = some (.loop (rec .ready)) := by
    rw [← hW1]; have := World.alloc_heap_new (w.alloc (.deferred (some []))) (.loop (rec .ready)); rwa [World.size_alloc] at this
  have hK1 : W1.heap[w.heap.size]? = some (.deferred (some [])) := by
    rw [← hW1]; exact (Below.heap_alloc _ _ _ (by simp)).trans (World.alloc_heap_new w _)
  refine ⟨w.heap.size + 1, [{ target := .collected w.heap.size, args := #[] }], W1, { target := .fn (.func gf) lb, args := #[.func (.yield (w.heap.size + 1)) #[] #[]] }, W1, gf,
    #[.func (.yield (w.heap.size + 1)) #[] #[]] ++ lb, W1, ?_, ?_, ?_, ?_, fun _ => h1, ?_⟩
  · rw [← hW1, hrec]; exact run_enterLoop_outer _ _ _ _ _
  · simp only [resolve, hg]
    simp [go_sem]
  · intro f' hf'; simp [Target.leads] at hf'; subst hf'; exact hFg
  · simp [invoke, go_sem, eg]
  · refine (hseq (w.heap.size + 1)
      (fun k W => I k W ∧ W.heap[w.heap.size + 1]? = some (.loop (rec .ready)) ∧ W.heap[w.heap.size]? = some (.deferred (some [])))
      W1 hb1 hsz
      (fun k A B hs hb => ⟨hI k A B hs.1 (hb.mono (by omega)), (hb.block _ (by omega)).trans hs.2.1, (hb.block _ (by omega)).trans hs.2.2⟩)
      ?_ ⟨hI 0 _ _ h0 hb1, hL1, hK1⟩).mono ?_
    · rintro k x W ⟨hi, hl, hk⟩ he
      have hlt : w.heap.size + 1 < W.heap.size := (Array.getElem?_eq_some_iff.1 hl).1
      have hy := run_yield (P := P) (args := #[enc x]) hl (by rw [hrec]; exact hps.symm)
      rw [hrec] at hy
      refine ⟨fn, _, assign, body, hy, roundIn_of_wpIn hfn (hassign _ x W _ ⟨_, run_beginRound hl (by rw [hrec]), ?_⟩)⟩
      obtain ⟨W2, hW2⟩ : ∃ W2, W.putObj (w.heap.size + 1) (.loop { rec .ready with state := .busy }) = W2 := ⟨_, rfl⟩
      have hl2 : W2.heap[w.heap.size + 1]? = some (.loop { rec .ready with state := .busy }) := by rw [← hW2]; exact World.putObj_heap_same hlt
      have hk2 : W2.heap[w.heap.size]? = some (.deferred (some [])) := by rw [← hW2]; exact (World.putObj_heap_other (by omega)).trans hk
      have hs2 : W2.heap.size = W.heap.size := by rw [← hW2]; simp
      have hu2 : KeepsUp W1.heap.size W W2 := by rw [← hW2]; exact KeepsUp.putObj _ (by omega) _
      have hi2 : I k W2 := by rw [← hW2]; exact hI k _ _ hi (below_putObj _ (by omega) _)
      rw [hW2]
      refine wpIn_mono (hbody _ k x W2 hi2 (by rw [← hsz]; exact hE _ k x _ _ he hu2) (by omega)) ?_
      rintro e a3 W3 hp
      cases e with
      | normal =>
        obtain ⟨hu3, hi3⟩ := hp
        have hl3 := (hu3.2 _ (by omega) (by omega)).trans hl2
        have hr := run_endRound (P := P) none hl3
        have hlt3 : w.heap.size + 1 < W3.heap.size := (Array.getElem?_eq_some_iff.1 hl3).1
        refine ⟨_, _, hr, rfl, ⟨hI _ _ _ hi3 (below_putObj _ (by omega) _), ?_, (World.putObj_heap_other (by omega)).trans ((hu3.2 _ (by omega) (by omega)).trans hk2)⟩, hu2.trans ((hu3.mono (by omega)).trans (KeepsUp.putObj _ (by omega) _))⟩
        rw [World.putObj_heap_same hlt3, hrec]; rfl
      | ret => exact hp.elim
      | exit id => exact hp.elim
      | goto t => exact hp.elim
      | panic ch => exact hp.elim
      | outgrown => exact hp.elim
    · rintro e W2 ⟨⟨v, rfl⟩, k, hS, hi, hl, hk⟩
      exact ⟨none, _, by have := run_endLoop (P := P) hl (by rw [hrec]; simp); rw [hrec] at this; exact this, hdone _ k _ (Nat.le_refl _) hS (hI _ _ _ hi (below_putObj _ (by omega) _)) ((World.putObj_heap_other (by omega)).trans hk)⟩
end Go.Proofs.YtjcbpnffmebihaaGreatDoor
namespace Go.Proofs.YtjcbpnffmebihaaGreatDoor

-- orders, one after the other (plain)
def swN (xs : List Nat) (i j : Nat) : List Nat := (xs.set i (xs.getD j 0)).set j (xs.getD i 0)
def revK (xs : List Nat) (lo hi : Nat) : Nat → List Nat
  | 0 => xs
  | f + 1 => if lo < hi then revK (swN xs lo hi) (lo + 1) (hi - 1) f else xs
/-- the last place below k whose number is less than the next one -/
def riseAt (xs : List Nat) : Nat → Option Nat
  | 0 => none
  | k + 1 => if xs.getD (k + 1) 0 ≤ xs.getD k 0 then riseAt xs k else some k
/-- the last place up to k whose number is greater than x -/
def overAt (xs : List Nat) (x : Nat) : Nat → Nat
  | 0 => 0
  | k + 1 => if xs.getD (k + 1) 0 ≤ x then overAt xs x k else k + 1
def nextP (xs : List Nat) : Option (List Nat) :=
  match riseAt xs (xs.length - 1) with
  | none => none
  | some a => some (revK (swN xs a (overAt xs (xs.getD a 0) (xs.length - 1))) (a + 1) (xs.length - 1) xs.length)
def ordK : Nat → List Nat → List (List Nat)
  | 0, _ => []
  | f + 1, xs => xs :: match nextP xs with
    | none => []
    | some ys => ordK f ys
def ordL (n : Nat) : List (List Nat) := ordK 125 (List.range n)
structure OrdIs (n : Nat) : Prop where
  all : ∀ l : List Nat, l.Perm (List.range n) → l ∈ ordL n
  first : (ordL n)[0]? = some (List.range n)
  len : ∀ l ∈ ordL n, l.length = n ∧ (∀ x ∈ l, x < n) ∧ l.Perm (List.range n)
  next : ∀ k, k < (ordL n).length → nextP ((ordL n).getD k []) = (ordL n)[k + 1]?
/-- the least so far of k spans, -1: of none -/
def lstT (sp : Nat → Int) : Nat → Int
  | 0 => -1
  | k + 1 => if lstT sp k < 0 ∨ sp k < lstT sp k then sp k else lstT sp k
end Go.Proofs.YtjcbpnffmebihaaGreatDoor
namespace Go.Proofs.YtjcbpnffmebihaaGreatDoor
open Go.RowKit Go.WideShapes

attribute [local go_sem] Oper.semAt_some

/-- what holds behind k rounds -/
structure LeastI (w : World) (n : Nat) (a : Option Addr) (len cap : Nat) (sp : Nat → Int) (k : Nat) (W : World) : Prop where
  below : Below w.heap.size w W
  jobs : W.cell? ⟨n, 0, none⟩ = some (.slice a len cap)
  least : W.cell? ⟨n + 1, 0, none⟩ = some (.int .i64 (lstT sp k))
  free : W.frozen? ⟨n + 1, 0, none⟩ = false
theorem LeastI.later {w : World} {n : Nat} {a : Option Addr} {len cap : Nat} {sp : Nat → Int} {k m : Nat} {A B : World} (h : LeastI w n a len cap sp k A) (hb : Below m A B) (hm : n + 2 ≤ m) (hw : w.heap.size ≤ n) : LeastI w n a len cap sp k B :=
  ⟨h.below.trans (hb.mono (by omega)), (hb.cell (p := ⟨n, 0, none⟩) (by show n < m; omega)).trans h.jobs, (hb.cell (p := ⟨n + 1, 0, none⟩) (by show n + 1 < m; omega)).trans h.least, by
    rw [World.frozen?_of_block (w := A) (hb.block (n + 1) (by omega))]; exact h.free⟩
def encS (x : Option Addr × Nat × Nat) : Value := .slice x.1 x.2.1 x.2.2
set_option maxRecDepth 100000 in
set_option maxHeartbeats 4000000 in
theorem leastSpan_gen (a : Option Addr) (len cap : Nat) (rows : List (List Int)) (T f1 gf : Nat) (v : Value) (t1 : TypeId) (os : Nat → List Int) (m : Nat) (E : Nat → Nat → Option Addr × Nat × Nat → World → Prop) (w : World) (h : RowsAt w (· < w.heap.size) a len rows) (hp : pairsM rows = true)
    (hmeth : ∀ (k : Nat) (w : World), (method (k + 1) T v "loop.example/shopsthatmake/impl.each").run Tryz.prog w = .ok (f1, v) w)
    (hent : ∀ (args : Array Value) (w : World), (callFunc f1 args).run Tryz.prog w = .ok (.enter f1 args) w) (hentg : ∀ (args : Array Value) (w : World), (callFunc gf args).run Tryz.prog w = .ok (.enter gf args) w)
    (hfit : ∀ w', Below w.heap.size w w' → Calls Tryz.prog 146 #[.slice a len cap, .iface T v] w' fun e w2 => e = .returned (.bool true) ∧ Drew w' w2)
    (heach : ∀ w', CallsIn Fence.wide 8 Tryz.prog f1 #[v] w' fun e w2 => e = .returned (.func (.func gf) #[] #[.pointer (some ⟨w'.heap.size, 0, none⟩)]) ∧ w'.alloc (.cells #[v] t1) = w2)
    (hseq : ∀ w' : World, w'.heap.size = w.heap.size + 3 → Below w.heap.size w w' → w'.cell? ⟨w.heap.size + 2, 0, none⟩ = some v → SeqCount Fence.wide 8 Tryz.prog gf #[.pointer (some ⟨w.heap.size + 2, 0, none⟩)] encS (· = m) E w')
    (hE1 : ∀ m k x A B, E m k x A → KeepsUp m A B → E m k x B)
    (hE2 : ∀ m k x W, E m k x W → Below w.heap.size w W → ∃ S, IntsAt W S x.1 x.2.1 (os k) ∧ x.2.1 ≤ 8 ∧ ∀ x ∈ os k, 0 ≤ x ∧ x < (len : Int)) :
    Calls Tryz.prog 112 #[.slice a len cap, .iface T v] w (ValPost w (.int .i64 (lstT (fun k => spanT (ta rows) (tb rows) (nO (os k))) m))) := by
  refine (callsIn_wide (n := 9)).1 ?_
  refine callsIn_of_wp_marks Tryz.func112 rfl trivial ?_ rfl
  simp only [Tryz.ntmps112, List.size_toArray, List.length_cons, List.length_nil, Nat.reduceAdd, Nat.reduceSub, Array.replicate_succ, Array.replicate_zero, List.push_toArray, List.append_toArray, List.nil_append, List.cons_append]
  gi_wp2_with fail
  refine ⟨trivial, (callsIn_wide.2 (hfit _ ((Below.refl _ w).alloc (Nat.le_refl _) _))).mono ?_⟩
  rintro e w2 ⟨rfl, hdw⟩
  obtain ⟨z, rfl⟩ := hdw
  gi_wp2_with fail
  refine ⟨trivial, ?_⟩
  gi_wp2_with fail
  refine (heach _).mono ?_
  rintro e w3 ⟨rfl, rfl⟩
  gi_wp2_with fail
  obtain ⟨W0, hW0⟩ : ∃ W0, ((((w.alloc (Obj.cells #[Value.slice a len cap] 37)).drewN z).alloc (Obj.cells #[Value.int IntKind.i64 (-1)] 3)).alloc (Obj.cells #[v] t1)) = W0 := ⟨_, rfl⟩
  have hsz : W0.heap.size = w.heap.size + 3 := by rw [← hW0]; simp
  have hbl : Below w.heap.size w W0 := by
    rw [← hW0]
    exact ((((Below.refl w.heap.size w).alloc (Nat.le_refl _) _).trans (Drew.below ⟨z, rfl⟩ _)).alloc (by simp) _).alloc (by simp <;> omega) _
  have hI0 : LeastI w w.heap.size a len cap (fun k => spanT (ta rows) (tb rows) (nO (os k))) 0 W0 := by
    refine ⟨hbl, ?_, ?_, ?_⟩
    all_goals rw [← hW0]
    · have z1 := cell_new_l w (.slice a len cap) 37
      exact cell_alloc_l _ (cell_alloc_l _ z1.1)
    · have z2 := cell_new_l ((w.alloc (Obj.cells #[Value.slice a len cap] 37)).drewN z) (.int .i64 (-1)) 3
      simp only [World.heap_drewN, World.size_alloc] at z2
      exact cell_alloc_l _ z2.1
    · have z2 := cell_new_l ((w.alloc (Obj.cells #[Value.slice a len cap] 37)).drewN z) (.int .i64 (-1)) 3
      simp only [World.heap_drewN, World.size_alloc] at z2
      exact frozen_alloc_l _ z2.1 z2.2
  have hv0 : W0.cell? ⟨w.heap.size + 2, 0, none⟩ = some v := by
    rw [← hW0]
    have z3 := cell_new_l (((w.alloc (Obj.cells #[Value.slice a len cap] 37)).drewN z).alloc (Obj.cells #[Value.int IntKind.i64 (-1)] 3)) v t1
    simp only [World.heap_drewN, World.size_alloc] at z3
    exact z3.1
  rw [hW0]
  clear hW0
  simp only [Nat.add_assoc, Nat.reduceAdd]
  have HBD := Lib.hid (show ∀ k, 0 ≤ spanT (ta rows) (tb rows) (nO (os k)) from fun k => span_nn (fun x => (t_bd hp x).1.1) (fun x => (t_bd hp x).2.1) _)
  refine wpIn_rangeFunc_count rfl (by omega) (gf := gf) (lb := #[.pointer (some ⟨w.heap.size + 2, 0, none⟩)]) rfl trivial hentg (hseq W0 hsz hbl hv0) rfl hE1
    (LeastI w w.heap.size a len cap (fun k => spanT (ta rows) (tb rows) (nO (os k)))) (fun k A B hi hb => hi.later hb (by omega) (Nat.le_refl _)) hI0
    (fun x => { tmps := #[.slice a len cap, .iface T v, .pointer (some ⟨w.heap.size, 0, none⟩), undef, .int .i64 0, .pointer (some ⟨w.heap.size + 1, 0, none⟩), .slice x.1 x.2.1 x.2.2, undef,
      .slice a len cap, .iface T v, .bool true, .bool false, .iface T v, .func (.func gf) #[] #[.pointer (some ⟨w.heap.size + 2, 0, none⟩)], .slice x.1 x.2.1 x.2.2, undef, undef, undef, undef, undef, undef, undef, undef, undef, undef, undef, undef], defers := [] })
    ?assign ?body ?done
  case assign =>
    rintro l ⟨a3, l3, c3⟩ W K hK
    dsimp only [encS] at hK ⊢
    gi_wp2
    exact hK
  case body =>
    rintro l k ⟨a3, l3, c3⟩ W hI hE hWs
    obtain ⟨S, hx, hl3, hxo⟩ := hE2 _ _ _ _ hE hI.below
    dsimp only at hx hl3 ⊢
    have HX := Lib.hid hx
    have z1 := hI.jobs
    have z2 := hI.least
    have z3 := hI.free
    have HI := Lib.hid hI
    have HN := Lib.hid (show lstT (fun k => spanT (ta rows) (tb rows) (nO (os k))) (k + 1) = if lstT (fun k => spanT (ta rows) (tb rows) (nO (os k))) k < 0 ∨ spanT (ta rows) (tb rows) (nO (os k)) < lstT (fun k => spanT (ta rows) (tb rows) (nO (os k))) k then spanT (ta rows) (tb rows) (nO (os k)) else lstT (fun k => spanT (ta rows) (tb rows) (nO (os k))) k from rfl)
    have HSP := Lib.hid (spanIn_any _ _ a len cap rows a3 l3 c3 (os k) W (h.below hI.below) hx hp hxo hl3)
    have hlt1 : w.heap.size + 1 < W.heap.size := by omega
    clear hx hE hI
    obtain ⟨sp, hsp⟩ : ∃ sp, spanT (ta rows) (tb rows) (nO (os k)) = sp := ⟨_, rfl⟩
    rw [hsp] at HN HSP
    obtain ⟨ls, hls⟩ : ∃ ls, lstT (fun k => spanT (ta rows) (tb rows) (nO (os k))) k = ls := ⟨_, rfl⟩
    rw [hls] at HN z2
    have hput : ∀ v : Int, lstT (fun k => spanT (ta rows) (tb rows) (nO (os k))) (k + 1) = v → LeastI w w.heap.size a len cap (fun k => spanT (ta rows) (tb rows) (nO (os k))) (k + 1) (W.setCell ⟨w.heap.size + 1, 0, none⟩ (.int .i64 v)) := fun v hv =>
      ⟨HI.out.below.setCell (by show w.heap.size ≤ w.heap.size + 1; omega) _, by rw [World.cell?_setCell_other _ _ _ _ (by intro e'; injection e'; omega)]; exact HI.out.jobs, by rw [hv]; exact World.cell?_setCell_same _ _ _ HI.out.least,
       by rw [World.frozen?_setCell]; exact HI.out.free⟩
    have hkeep : ls = lstT (fun k => spanT (ta rows) (tb rows) (nO (os k))) (k + 1) → LeastI w w.heap.size a len cap (fun k => spanT (ta rows) (tb rows) (nO (os k))) (k + 1) W := fun e =>
      ⟨HI.out.below, HI.out.jobs, by rw [← e, ← hls]; exact HI.out.least, HI.out.free⟩
    have HPUT := Lib.hid hput
    have HKEEP := Lib.hid hkeep
    clear hput hkeep hls hsp
    by_cases hc : ls < 0 ∨ sp < ls
    · have HV := Lib.hid (HN.out.trans (if_pos hc))
      by_cases hn : ls < 0
      · clear hc
        gi_wp2_with (refine ⟨trivial, ?_⟩; gi_at_call 147; refine (CallsIn.inRound l (callsIn_wide.2 HSP.out)).mono ?_; rintro e w' ⟨rfl, rfl⟩)
        exact ⟨KeepsUp.setCell _ _ (by show w.heap.size + 1 < _; omega) _, HPUT.out _ HV.out⟩
      · have hs : sp < ls := by omega
        clear hc
        gi_wp2_with (refine ⟨trivial, ?_⟩; gi_at_call 147; refine (CallsIn.inRound l (callsIn_wide.2 HSP.out)).mono ?_; rintro e w' ⟨rfl, rfl⟩)
        exact ⟨KeepsUp.setCell _ _ (by show w.heap.size + 1 < _; omega) _, HPUT.out _ HV.out⟩
    · have HV := Lib.hid (HN.out.trans (if_neg hc))
      have hn : ¬ ls < 0 := fun h => hc (.inl h)
      have hs : ¬ sp < ls := fun h => hc (.inr h)
      clear hc
      gi_wp2_with (refine ⟨trivial, ?_⟩; gi_at_call 147; refine (CallsIn.inRound l (callsIn_wide.2 HSP.out)).mono ?_; rintro e w' ⟨rfl, rfl⟩)
      exact ⟨KeepsUp.refl _ _, HKEEP.out HV.out.symm⟩
  case done =>
    rintro D k W hD rfl hI hK
    have c2 := hI.least
    have HI := Lib.hid hI
    clear hI
    gi_wp2
    exact leaves_marks (fun _ => results_tmp rfl _ _ _) [D] W ⟨⟨hK, hD, fun x hx => by cases hx⟩, trivial⟩ (fun w' hw' => ⟨rfl, HI.out.below.trans (hw'.below.mono (by omega))⟩)
-- a given order
set_option maxRecDepth 100000 in
theorem eachOne_any (n : Nat) (a2 : Option Addr) (len2 cap2 : Nat) (w : World) :
    CallsIn Fence.wide n Tryz.prog 232 #[.slice a2 len2 cap2] w fun e w' => e = .returned (.func (.func 233) #[] #[.pointer (some ⟨w.heap.size, 0, none⟩)]) ∧ w.alloc (.cells #[.slice a2 len2 cap2] 137) = w' := by
  refine callsIn_of_wp Tryz.func232 rfl trivial ?_ rfl
  simp only [Tryz.ntmps232, List.size_toArray, List.length_cons, List.length_nil, Nat.reduceAdd, Nat.reduceSub, Array.replicate_succ, Array.replicate_zero, List.push_toArray, List.append_toArray, List.nil_append, List.cons_append]
  gi_wp2
  go_ret
  exact ⟨rfl, rfl⟩
/-- the one order that comes -/
def OneE (a2 : Option Addr) (len2 cap2 : Nat) (T : Nat → Prop) (o : List Int) (_ k : Nat) (x : Option Addr × Nat × Nat) (W : World) : Prop := k = 0 ∧ x = (a2, len2, cap2)
theorem one_seq (a2 : Option Addr) (len2 cap2 Bs : Nat) (T : Nat → Prop) (o : List Int) (w : World) (hBs : Bs < w.heap.size) (hc : w.cell? ⟨Bs, 0, none⟩ = some (.slice a2 len2 cap2)) :
    SeqCount Fence.wide 8 Tryz.prog 233 #[.pointer (some ⟨Bs, 0, none⟩)] encS (· = 1) (OneE a2 len2 cap2 T o) w := by
  intro l J W1 hW hsz hJ hY h0
  have hc1 := (hW.cell (p := ⟨Bs, 0, none⟩) hBs).trans hc
  obtain ⟨fn, tmps, assign, body, hy, hR⟩ := hY 0 (a2, len2, cap2) W1 h0 ⟨rfl, rfl⟩
  dsimp only [encS] at hy
  refine callsIn_of_wp Tryz.func233 rfl trivial ?_ rfl
  simp only [Tryz.ntmps233, List.size_toArray, List.length_cons, List.length_nil, Nat.reduceAdd, Nat.reduceSub, Array.replicate_succ, Array.replicate_zero, List.push_toArray, List.append_toArray, List.nil_append, List.cons_append]
  gi_wp2
  refine hR.mono ?_
  rintro e W3 ⟨rfl, hJ3, hk3⟩
  gi_wp2
  go_end0
  exact ⟨⟨_, rfl⟩, 1, rfl, hJ3⟩
end Go.Proofs.YtjcbpnffmebihaaGreatDoor
