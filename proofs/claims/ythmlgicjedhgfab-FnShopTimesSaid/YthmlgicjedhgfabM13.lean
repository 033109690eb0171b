import Derived.Test.YthmlgicjedhgfabRows
import Derived.WalkKit
import Derived.ProofKit
import Derived.Lib.Hide
import Derived.Test.YthmlgicjedhgfabM0
import Derived.Test.YthmlgicjedhgfabM1
import Derived.Test.YthmlgicjedhgfabM2
import Derived.Test.YthmlgicjedhgfabM12
import Derived.Test.YthmlgicjedhgfabM9
import Derived.LoopTactic
import Derived.Outline
import Derived.WalkSpells
import Derived.WalkLawsBesides
import Derived.IntWalk
import Derived.StillTailTactics
import Derived.Deep.QuietTactic
import Derived.BigQuiet
import Derived.RegionTactic
import Derived.BigRegion
namespace Go.Proofs.Ythmlgicjedhgfab
open Go.RowKit Go.WideShapes

-- a plan of a shop, in memory
/-- where a plan lies: its blocks, all of them from B on and below top -/
structure PD where
  B : Nat
  top : Nat
  P : Nat
  J : Nat
  X : Nat
  aR : Nat → Option Addr
  cR : Nat → Nat
  R : Nat → Nat
  Q : Nat → Nat → Nat
def PD.addr (D : PD) : Option (Nat × Nat) → Option Addr
  | none => none
  | some x => some ⟨D.Q x.1 x.2, 0, none⟩
def PD.ptr (D : PD) (o : Option (Nat × Nat)) : Value := .pointer (D.addr o)
structure PD.Ok (D : PD) (n : Nat) (sl : Nat → Nat) : Prop where
  bt : D.B ≤ D.top
  p : D.B ≤ D.P ∧ D.P < D.top
  j : D.B ≤ D.J ∧ D.J < D.top
  x : D.B ≤ D.X ∧ D.X < D.top
  row0 : ∀ j, j < n → sl j = 0 → D.aR j = none ∧ D.cR j = 0
  row : ∀ j, j < n → sl j ≤ D.cR j ∧ (0 < sl j → D.aR j = some ⟨D.R j, 0, none⟩ ∧ D.B ≤ D.R j ∧ D.R j < D.top)
  step : ∀ j k, j < n → k < sl j → D.B ≤ D.Q j k ∧ D.Q j k < D.top
  inj : ∀ j k i h, j < n → k < sl j → i < n → h < sl i → D.Q j k = D.Q i h → j = i ∧ k = h
/-- nx: how many steps of each job are put; lp: what lies on each machine last; v: the turns; bg, on: when the steps begin, and what they wait for on their machines -/
structure PlanW (w : World) (D : PD) (shop : List (List (List Int))) (nx : Nat → Nat) (lp : Nat → Option (Nat × Nat)) (v : Value) (bg : Nat → Nat → Int) (on : Nat → Nat → Option (Nat × Nat)) : Prop where
  ok : D.Ok shop.length (slen shop)
  plan : w.heap[D.P]? = some (.cells #[.slice (some ⟨D.J, 0, none⟩) shop.length shop.length, .slice (some ⟨D.X, 0, none⟩) shop.length shop.length, D.ptr (lp 0), D.ptr (lp 1), D.ptr (lp 2), v] 63 (0, 0))
  jobs : w.heap[D.J]? = some (.cells (tabV (fun j => .slice (D.aR j) (slen shop j) (D.cR j)) shop.length) 71 (0, 0))
  next : w.heap[D.X]? = some (.cells (tabV (fun j => .int .i64 (nx j : Nat)) shop.length) 3 (0, 0))
  rows : ∀ j, j < shop.length → 0 < slen shop j → ∃ cs, w.heap[D.R j]? = some (.cells cs 58 (0, 0)) ∧ ∀ k, k < slen shop j → cs[k]? = some (D.ptr (some (j, k)))
  steps : ∀ j k, j < shop.length → k < slen shop j → w.heap[D.Q j k]? = some (.cells #[.int .i64 (j : Nat), .int .i64 (smach shop j k : Nat), .int .i64 (stime shop j k), .int .i64 (bg j k), D.ptr (prevO j k), D.ptr (on j k)] 70 (0, 0))
section
variable {w : World} {D : PD} {shop : List (List (List Int))} {nx : Nat → Nat} {lp : Nat → Option (Nat × Nat)} {v : Value} {bg : Nat → Nat → Int} {on : Nat → Nat → Option (Nat × Nat)}
theorem PlanW.to {w' : World} (h : PlanW w D shop nx lp v bg on) (hg : ∀ b, D.B ≤ b → b < D.top → w'.heap[b]? = w.heap[b]?) : PlanW w' D shop nx lp v bg on :=
  ⟨h.ok, (hg _ h.ok.p.1 h.ok.p.2).trans h.plan, (hg _ h.ok.j.1 h.ok.j.2).trans h.jobs, (hg _ h.ok.x.1 h.ok.x.2).trans h.next, fun j hj hs => by
    obtain ⟨cs, h1, h2⟩ := h.rows j hj hs
    have := ((h.ok.row j hj).2 hs).2
    exact ⟨cs, (hg _ this.1 this.2).trans h1, h2⟩, fun j k hj hk => by
    have := h.ok.step j k hj hk
    exact (hg _ this.1 this.2).trans (h.steps j k hj hk)⟩
theorem PlanW.cells (h : PlanW w D shop nx lp v bg on) : w.cell? ⟨D.P, 0, none⟩ = some (.slice (some ⟨D.J, 0, none⟩) shop.length shop.length) ∧ w.cell? ⟨D.P, 1, none⟩ = some (.slice (some ⟨D.X, 0, none⟩) shop.length shop.length) ∧
    w.cell? ⟨D.P, 2, none⟩ = some (D.ptr (lp 0)) ∧ w.cell? ⟨D.P, 3, none⟩ = some (D.ptr (lp 1)) ∧ w.cell? ⟨D.P, 4, none⟩ = some (D.ptr (lp 2)) ∧ w.cell? ⟨D.P, 5, none⟩ = some v := by
  refine ⟨?_, ?_, ?_, ?_, ?_, ?_⟩ <;> rw [cell_of_row _ _ _ _ _ _ h.plan] <;> rfl
theorem PlanW.lastCell (h : PlanW w D shop nx lp v bg on) {M : Nat} (hM : M < 3) : w.cell? ⟨D.P, 2 + M, none⟩ = some (D.ptr (lp M)) := by
  have : M = 0 ∨ M = 1 ∨ M = 2 := by omega
  rcases this with rfl | rfl | rfl
  · exact h.cells.2.2.1
  · exact h.cells.2.2.2.1
  · exact h.cells.2.2.2.2.1
theorem PlanW.jobCell (h : PlanW w D shop nx lp v bg on) {j : Nat} (hj : j < shop.length) : w.cell? ⟨D.J, j, none⟩ = some (.slice (D.aR j) (slen shop j) (D.cR j)) := by
  rw [cell_of_row _ _ _ _ _ _ h.jobs, tabV_get _ hj]
theorem PlanW.nextCell (h : PlanW w D shop nx lp v bg on) {j : Nat} (hj : j < shop.length) : w.cell? ⟨D.X, j, none⟩ = some (.int .i64 (nx j : Nat)) := by
  rw [cell_of_row _ _ _ _ _ _ h.next, tabV_get _ hj]
theorem PlanW.rowCell (h : PlanW w D shop nx lp v bg on) {j k : Nat} (hj : j < shop.length) (hk : k < slen shop j) : w.cell? ⟨D.R j, k, none⟩ = some (.pointer (some ⟨D.Q j k, 0, none⟩)) := by
  obtain ⟨cs, h1, h2⟩ := h.rows j hj (by omega)
  rw [cell_of_row _ _ _ _ _ _ h1, h2 k hk]; rfl
theorem PlanW.stepCells (h : PlanW w D shop nx lp v bg on) {j k : Nat} (hj : j < shop.length) (hk : k < slen shop j) :
    w.cell? ⟨D.Q j k, 0, none⟩ = some (.int .i64 (j : Nat)) ∧ w.cell? ⟨D.Q j k, 1, none⟩ = some (.int .i64 (smach shop j k : Nat)) ∧ w.cell? ⟨D.Q j k, 2, none⟩ = some (.int .i64 (stime shop j k)) ∧
    w.cell? ⟨D.Q j k, 3, none⟩ = some (.int .i64 (bg j k)) ∧ w.cell? ⟨D.Q j k, 4, none⟩ = some (D.ptr (prevO j k)) ∧ w.cell? ⟨D.Q j k, 5, none⟩ = some (D.ptr (on j k)) := by
  have := h.steps j k hj hk
  refine ⟨?_, ?_, ?_, ?_, ?_, ?_⟩ <;> rw [cell_of_row _ _ _ _ _ _ this] <;> rfl
theorem PlanW.frozen (h : PlanW w D shop nx lp v bg on) : (∀ i, w.frozen? ⟨D.P, i, none⟩ = false) ∧ (∀ i, w.frozen? ⟨D.X, i, none⟩ = false) ∧ ∀ j k, j < shop.length → k < slen shop j → ∀ i, w.frozen? ⟨D.Q j k, i, none⟩ = false :=
  ⟨frozen_row h.plan, frozen_row h.next, fun j k hj hk => frozen_row (h.steps j k hj hk)⟩
/-- a store into the plan's own block -/
theorem PlanW.setP (h : PlanW w D shop nx lp v bg on) {i : Nat} {u : Value} {lp' : Nat → Option (Nat × Nat)} {v' : Value}
    (e : (#[.slice (some ⟨D.J, 0, none⟩) shop.length shop.length, .slice (some ⟨D.X, 0, none⟩) shop.length shop.length, D.ptr (lp 0), D.ptr (lp 1), D.ptr (lp 2), v] : Array Value).setIfInBounds i u = #[.slice (some ⟨D.J, 0, none⟩) shop.length shop.length, .slice (some ⟨D.X, 0, none⟩) shop.length shop.length, D.ptr (lp' 0), D.ptr (lp' 1), D.ptr (lp' 2), v']) :
    PlanW (w.setCell ⟨D.P, i, none⟩ u) D shop nx lp' v' bg on :=
  ⟨h.ok, by rw [heap_set h.plan, e], by rw [heap_set_ne (ne_type h.jobs h.plan (by decide))]; exact h.jobs, by rw [heap_set_ne (ne_type h.next h.plan (by decide))]; exact h.next,
   fun j hj hs => by
    obtain ⟨cs, h1, h2⟩ := h.rows j hj hs
    exact ⟨cs, by rw [heap_set_ne (ne_type h1 h.plan (by decide))]; exact h1, h2⟩,
   fun j k hj hk => by rw [heap_set_ne (ne_type (h.steps j k hj hk) h.plan (by decide))]; exact h.steps j k hj hk⟩
theorem PlanW.setLast (h : PlanW w D shop nx lp v bg on) {M : Nat} (hM : M < 3) (x : Option (Nat × Nat)) : PlanW (w.setCell ⟨D.P, 2 + M, none⟩ (D.ptr x)) D shop nx (setN lp M x) v bg on := by
  refine h.setP ?_
  have : M = 0 ∨ M = 1 ∨ M = 2 := by omega
  rcases this with rfl | rfl | rfl <;> rfl
theorem PlanW.setTurns (h : PlanW w D shop nx lp v bg on) (v' : Value) : PlanW (w.setCell ⟨D.P, 5, none⟩ v') D shop nx lp v' bg on := h.setP rfl
theorem PlanW.setNext (h : PlanW w D shop nx lp v bg on) (j n : Nat) : PlanW (w.setCell ⟨D.X, j, none⟩ (.int .i64 (n : Nat))) D shop (setN nx j n) lp v bg on :=
  ⟨h.ok, by rw [heap_set_ne (ne_type h.plan h.next (by decide))]; exact h.plan, by rw [heap_set_ne (ne_type h.jobs h.next (by decide))]; exact h.jobs, by
    rw [heap_set h.next, tabV_set]
    congr 3
    funext i
    unfold setN
    split <;> rfl,
   fun j hj hs => by
    obtain ⟨cs, h1, h2⟩ := h.rows j hj hs
    exact ⟨cs, by rw [heap_set_ne (ne_type h1 h.next (by decide))]; exact h1, h2⟩,
   fun j k hj hk => by rw [heap_set_ne (ne_type (h.steps j k hj hk) h.next (by decide))]; exact h.steps j k hj hk⟩
/-- a store into a step -/
theorem PlanW.setQ (h : PlanW w D shop nx lp v bg on) {j k : Nat} (hj : j < shop.length) (hk : k < slen shop j) {i : Nat} {u : Value} {b : Int} {o : Option (Nat × Nat)}
    (e : (#[.int .i64 (j : Nat), .int .i64 (smach shop j k : Nat), .int .i64 (stime shop j k), .int .i64 (bg j k), D.ptr (prevO j k), D.ptr (on j k)] : Array Value).setIfInBounds i u = #[.int .i64 (j : Nat), .int .i64 (smach shop j k : Nat), .int .i64 (stime shop j k), .int .i64 b, D.ptr (prevO j k), D.ptr o]) :
    PlanW (w.setCell ⟨D.Q j k, i, none⟩ u) D shop nx lp v (set2 bg j k b) (set2 on j k o) := by
  have hq := h.steps j k hj hk
  refine ⟨h.ok, by rw [heap_set_ne (ne_type h.plan hq (by decide))]; exact h.plan, by rw [heap_set_ne (ne_type h.jobs hq (by decide))]; exact h.jobs, by rw [heap_set_ne (ne_type h.next hq (by decide))]; exact h.next,
   fun j hj hs => by
    obtain ⟨cs, h1, h2⟩ := h.rows j hj hs
    exact ⟨cs, by rw [heap_set_ne (ne_type h1 hq (by decide))]; exact h1, h2⟩,
   fun j' k' hj' hk' => ?_⟩
  by_cases e2 : j' = j ∧ k' = k
  · obtain ⟨rfl, rfl⟩ := e2
    rw [heap_set hq, e, set2_at, set2_at]
  · rw [heap_set_ne (fun e3 => e2 (h.ok.inj j' k' j k hj' hk' hj hk e3)), set2_ne _ _ e2, set2_ne _ _ e2]
    exact h.steps j' k' hj' hk'
theorem set2_self {α : Type} (f : Nat → Nat → α) (j k : Nat) : set2 f j k (f j k) = f := by
  funext i h
  by_cases e : i = j ∧ h = k
  · obtain ⟨rfl, rfl⟩ := e; rw [set2_at]
  · rw [set2_ne _ _ e]
theorem PlanW.setOn (h : PlanW w D shop nx lp v bg on) {j k : Nat} (hj : j < shop.length) (hk : k < slen shop j) (o : Option (Nat × Nat)) : PlanW (w.setCell ⟨D.Q j k, 5, none⟩ (D.ptr o)) D shop nx lp v bg (set2 on j k o) := by
  have := h.setQ (i := 5) (u := D.ptr o) (b := bg j k) (o := o) hj hk rfl
  rwa [set2_self] at this
theorem PlanW.setBegin (h : PlanW w D shop nx lp v bg on) {j k : Nat} (hj : j < shop.length) (hk : k < slen shop j) (b : Int) : PlanW (w.setCell ⟨D.Q j k, 3, none⟩ (.int .i64 b)) D shop nx lp v (set2 bg j k b) on := by
  have := h.setQ (i := 3) (u := .int .i64 b) (b := b) (o := on j k) hj hk rfl
  rwa [set2_self] at this
theorem PlanW.drewN (h : PlanW w D shop nx lp v bg on) (q : Nat) : PlanW (w.drewN q) D shop nx lp v bg on := h.to (fun _ _ _ => rfl)
theorem PlanW.drew (h : PlanW w D shop nx lp v bg on) {w' : World} (d : Drew w w') : PlanW w' D shop nx lp v bg on := by
  obtain ⟨q, rfl⟩ := d; exact h.drewN q
theorem PlanW.topSize (h : PlanW w D shop nx lp v bg on) (ht : D.top ≤ w.heap.size) : D.P < w.heap.size ∧ D.X < w.heap.size ∧ D.J < w.heap.size := ⟨lt_heap h.plan, lt_heap h.next, lt_heap h.jobs⟩
end
/-- the turns lie in a block of their own, behind the plan -/
def TurnsOwn (w : World) (D : PD) (v : Value) (l : List Nat) : Prop := w.ownsRow D.top 3 1 v l.length ((l.map (fun x : Nat => (x : Int))).map (.int .i64))
theorem grown_set (w : World) (b i : Nat) (u : Value) : w.grownBy (w.setCell ⟨b, i, none⟩ u) (some b) :=
  ⟨rfl, rfl, rfl, by simp [World.setCell], fun k _ hk => heap_set_ne (fun e => hk (by rw [e])) u⟩
theorem TurnsOwn.set {w : World} {D : PD} {v : Value} {l : List Nat} (h : TurnsOwn w D v l) {b : Nat} (i : Nat) (u : Value) (hb : b < D.top) : TurnsOwn (w.setCell ⟨b, i, none⟩ u) D v l :=
  h.kept (grown_set w b i u) (ne_low h hb)
theorem TurnsOwn.drewN {w : World} {D : PD} {v : Value} {l : List Nat} (h : TurnsOwn w D v l) (q : Nat) : TurnsOwn (w.drewN q) D v l := own_drewN h q
/-- what changes at most: the plan's blocks and the turns -/
structure PFr (D : PD) (v : Value) (w w' : World) : Prop where
  os : w'.os = w.os
  tape : w'.tape = w.tape
  output : w'.output = w.output
  size : w.heap.size ≤ w'.heap.size
  rest : ∀ b, b < w.heap.size → (b < D.B ∨ D.top ≤ b) → v.ownBlock ≠ some b → w'.heap[b]? = w.heap[b]?
theorem PFr.refl (D : PD) (v : Value) (w : World) : PFr D v w w := ⟨rfl, rfl, rfl, Nat.le_refl _, fun _ _ _ _ => rfl⟩
theorem PFr.trans {D : PD} {v v' : Value} {w w1 w2 : World} (h : PFr D v w w1) (g : PFr D v' w1 w2) (hv : v'.ownBlock = v.ownBlock ∨ ∀ b, v'.ownBlock = some b → w.heap.size ≤ b) : PFr D v w w2 :=
  ⟨g.os.trans h.os, g.tape.trans h.tape, g.output.trans h.output, Nat.le_trans h.size g.size, fun b hb hr hn => by
    rw [g.rest b (Nat.lt_of_lt_of_le hb h.size) hr (fun e => by rcases hv with h1 | h1; exact hn (by rw [← h1]; exact e); have := h1 b e; omega), h.rest b hb hr hn]⟩
theorem PFr.drew {D : PD} {v : Value} {w w1 w2 : World} (h : PFr D v w w1) (d : Drew w1 w2) : PFr D v w w2 := by
  obtain ⟨q, rfl⟩ := d
  exact ⟨h.os, h.tape, h.output, h.size, h.rest⟩
theorem PFr.set {D : PD} {v : Value} {w w1 : World} (h : PFr D v w w1) {b i : Nat} (u : Value) (hb : D.B ≤ b ∧ b < D.top) : PFr D v w (w1.setCell ⟨b, i, none⟩ u) :=
  ⟨h.os, h.tape, h.output, by simpa [World.setCell] using h.size, fun c hc hr hn => by rw [heap_set_ne (by omega)]; exact h.rest c hc hr hn⟩
theorem PFr.grown {D : PD} {v : Value} {w w1 w2 : World} (h : PFr D v w w1) (g : w1.grownBy w2 v.ownBlock) : PFr D v w w2 :=
  ⟨g.os.trans h.os, g.tape.trans h.tape, g.output.trans h.output, Nat.le_trans h.size g.size, fun b hb hr hn => by
    rw [g.block b (Nat.lt_of_lt_of_le hb h.size) (fun e => hn e.symm), h.rest b hb hr hn]⟩
theorem PFr.alloc {D : PD} {v : Value} {w w1 : World} (h : PFr D v w w1) (o : Obj) : PFr D v w (w1.alloc o) :=
  ⟨h.os, h.tape, h.output, by have := h.size; simp; omega, fun b hb hr hn => by rw [Below.heap_alloc _ _ _ (Nat.lt_of_lt_of_le hb h.size)]; exact h.rest b hb hr hn⟩
theorem PFr.below {D : PD} {v : Value} {w w1 : World} (h : PFr D v w w1) {n : Nat} (hn : n ≤ D.B) (hs : n ≤ w.heap.size) (hv : ∀ b, v.ownBlock = some b → n ≤ b) : Below n w w1 :=
  ⟨h.os, h.tape, h.output, h.size, fun b hb => h.rest b (by omega) (.inl (by omega)) (fun e => by have := hv b e; omega)⟩
/-- the plan, with these turns put -/
structure PlanAt (w : World) (D : PD) (shop : List (List (List Int))) (v : Value) (l : List Nat) : Prop where
  mem : ∃ bg on, PlanW w D shop (fun j => l.count j) (lastL (smach shop) l) v bg on ∧ BgOk (smach shop) (stime shop) l bg ∧ OnOk (smach shop) l on
  own : TurnsOwn w D v l
  top : D.top ≤ w.heap.size
  jobs : ∀ x ∈ l, x < shop.length
  cnt : ∀ j, l.count j ≤ slen shop j
theorem PlanAt.len {w : World} {D : PD} {shop : List (List (List Int))} {v : Value} {l : List Nat} (h : PlanAt w D shop v l) (hv : shopM shop = true) : l.length ≤ 9 := turnsOf_len hv h.jobs h.cnt
theorem PlanAt.drew {w w' : World} {D : PD} {shop : List (List (List Int))} {v : Value} {l : List Nat} (h : PlanAt w D shop v l) (d : Drew w w') : PlanAt w' D shop v l := by
  obtain ⟨q, rfl⟩ := d
  obtain ⟨bg, on, h1, h2, h3⟩ := h.mem
  exact ⟨⟨bg, on, h1.drewN q, h2, h3⟩, own_drewN h.own q, h.top, h.jobs, h.cnt⟩
end Go.Proofs.Ythmlgicjedhgfab
namespace Go.Proofs.Ythmlgicjedhgfab
open Go.RowKit Go.WideShapes

-- what reads a plan
def stepOk (D : PD) (shop : List (List (List Int))) (bg : Nat → Nat → Int) : Option (Nat × Nat) → Prop
  | none => True
  | some x => x.1 < shop.length ∧ x.2 < slen shop x.1 ∧ 0 ≤ bg x.1 x.2 ∧ bg x.1 x.2 ≤ 81
theorem stepOk_put {D : PD} {shop : List (List (List Int))} {l : List Nat} {bg : Nat → Nat → Int} (hv : shopM shop = true) (hbg : BgOk (smach shop) (stime shop) l bg) (hl : l.length ≤ 9) (hjobs : ∀ x ∈ l, x < shop.length) (hcnt : ∀ j, l.count j ≤ slen shop j) {i k : Nat} (h : k < l.count i) :
    stepOk D shop bg (some (i, k)) :=
  ⟨hjobs i (List.count_pos_iff.1 (by omega)), Nat.lt_of_lt_of_le h (hcnt i), (ends_bd (stime_bd hv) hl hbg i k h).1, (ends_bd (stime_bd hv) hl hbg i k h).2⟩
theorem stepOk_prev {D : PD} {shop : List (List (List Int))} {l : List Nat} {bg : Nat → Nat → Int} (hv : shopM shop = true) (hbg : BgOk (smach shop) (stime shop) l bg) (hl : l.length ≤ 9) (hjobs : ∀ x ∈ l, x < shop.length) (hcnt : ∀ j, l.count j ≤ slen shop j) (j : Nat) :
    stepOk D shop bg (prevO j (l.count j)) := by
  unfold prevO
  split
  · exact trivial
  · exact stepOk_put hv hbg hl hjobs hcnt (by omega)
theorem stepOk_last {D : PD} {shop : List (List (List Int))} {l : List Nat} {bg : Nat → Nat → Int} (hv : shopM shop = true) (hbg : BgOk (smach shop) (stime shop) l bg) (hl : l.length ≤ 9) (hjobs : ∀ x ∈ l, x < shop.length) (hcnt : ∀ j, l.count j ≤ slen shop j) (M : Nat) :
    stepOk D shop bg (lastL (smach shop) l M) := by
  cases hx : lastL (smach shop) l M with
  | none => exact trivial
  | some x => exact stepOk_put hv hbg hl hjobs hcnt (last_in _ _ _ _ hx).1
theorem endV_bd {D : PD} {shop : List (List (List Int))} (hv : shopM shop = true) {bg : Nat → Nat → Int} {o : Option (Nat × Nat)} (h : stepOk D shop bg o) : 0 ≤ endV (stime shop) bg o ∧ endV (stime shop) bg o ≤ 90 := by
  cases o with
  | none => exact ⟨Int.le_refl _, by show (0 : Int) ≤ 90; omega⟩
  | some x =>
    obtain ⟨_, _, h1, h2⟩ := h
    have := stime_bd hv x.1 x.2
    show 0 ≤ bg x.1 x.2 + stime shop x.1 x.2 ∧ bg x.1 x.2 + stime shop x.1 x.2 ≤ 90
    omega
set_option maxRecDepth 100000 in
set_option maxHeartbeats 4000000 in
theorem stepEnd_any {w : World} {D : PD} {shop : List (List (List Int))} {nx : Nat → Nat} {lp : Nat → Option (Nat × Nat)} {v : Value} {bg : Nat → Nat → Int} {on : Nat → Nat → Option (Nat × Nat)} (h : PlanW w D shop nx lp v bg on) (hv : shopM shop = true) (o : Option (Nat × Nat)) (ho : stepOk D shop bg o) :
    Calls Try.prog 50 #[D.ptr o] w fun e w' => e = .returned (.int .i64 (endV (stime shop) bg o)) ∧ ∃ m, w' = w.drewN m := by
  cases o with
  | none =>
    show Calls Try.prog 50 #[.pointer none] w _
    go_enter Try.func50, Try.ntmps50
    go_wp2
    go_ret
    exact ⟨rfl, 0, rfl⟩
  | some x =>
    obtain ⟨j, k⟩ := x
    obtain ⟨hj, hk, h0, h1⟩ := ho
    obtain ⟨c0, c1, c2, c3, c4, c5⟩ := h.stepCells hj hk
    have ht := stime_bd hv j k
    show Calls Try.prog 50 #[.pointer (some ⟨D.Q j k, 0, none⟩)] w fun e w' => e = .returned (.int .i64 (bg j k + stime shop j k)) ∧ _
    generalize bg j k = b at h0 h1 c3 ⊢
    generalize stime shop j k = t at ht c2 ⊢
    generalize D.Q j k = q at c2 c3
    clear c0 c1 c4 c5 h
    go_enter Try.func50, Try.ntmps50
    go_wp2
    go_quiet (fail)
    go_wp2
    go_ret
    exact ⟨rfl, _, rfl⟩
/-- the steps that are left, of s, behind x that are put -/
def LeftPost (w : World) (s x R : Nat) (e : Ending) (w' : World) : Prop := ∃ (a : Option Addr) (c : Nat), e = .returned (.slice a (s - x) c) ∧ (x < s → a = some ⟨R, x, none⟩) ∧ ∃ m, w' = w.drewN m
set_option maxRecDepth 100000 in
set_option maxHeartbeats 4000000 in
theorem left_any {w : World} {D : PD} {shop : List (List (List Int))} {nx : Nat → Nat} {lp : Nat → Option (Nat × Nat)} {v : Value} {bg : Nat → Nat → Int} {on : Nat → Nat → Option (Nat × Nat)} (h : PlanW w D shop nx lp v bg on) (hv : shopM shop = true) (j : Nat) (hj : j < shop.length) (hn : nx j ≤ slen shop j) :
    Calls Try.prog 55 #[.pointer (some ⟨D.P, 0, none⟩), .int .i64 j] w (LeftPost w (slen shop j) (nx j) (D.R j)) := by
  obtain ⟨c0, c1, _, _, _, _⟩ := h.cells
  have cj := h.jobCell hj
  have cx := h.nextCell hj
  have hsl := slen_le hv j
  have hl3 := (shop_get hv).1
  have hrow := (h.ok.row j hj).1
  by_cases h0 : slen shop j = 0
  · obtain ⟨ha, hc⟩ := h.ok.row0 j hj h0
    have hn0 : nx j = 0 := by omega
    rw [ha, hc, h0] at cj
    rw [hn0] at cx
    rw [h0, hn0]
    generalize shop.length = n at *
    generalize D.P = P at *
    generalize D.J = J at *
    generalize D.X = X at *
    clear h hv
    go_enter Try.func55, Try.ntmps55
    go_wp2
    go_quiet (fail)
    go_wp2
    go_ret
    exact ⟨_, _, rfl, fun h => by omega, _, rfl⟩
  · obtain ⟨ha, hb⟩ := (h.ok.row j hj).2 (by omega)
    rw [ha] at cj
    generalize hX : nx j = x at *
    generalize slen shop j = s at *
    generalize D.cR j = c at *
    generalize shop.length = n at *
    generalize D.R j = R at *
    generalize D.P = P at *
    generalize D.J = J at *
    generalize D.X = X at *
    clear h hv
    go_enter Try.func55, Try.ntmps55
    go_wp2
    go_quiet (fail)
    go_wp2
    all_goals (go_ret; first | exact ⟨_, _, rfl, fun _ => rfl, _, rfl⟩ | exact ⟨_, _, rfl, fun h => by omega, _, rfl⟩)
end Go.Proofs.Ythmlgicjedhgfab
namespace Go.Proofs.Ythmlgicjedhgfab
open Go.RowKit Go.WideShapes

def nextO (nx : Nat → Nat) (shop : List (List (List Int))) (j : Nat) : Option (Nat × Nat) := if nx j < slen shop j then some (j, nx j) else none
/-- v, and nothing but draws -/
def DrewPost (w : World) (v : Value) (e : Ending) (w' : World) : Prop := e = .returned v ∧ Drew w w'
section
variable {w : World} {D : PD} {shop : List (List (List Int))} {nx : Nat → Nat} {lp : Nat → Option (Nat × Nat)} {v : Value} {bg : Nat → Nat → Int} {on : Nat → Nat → Option (Nat × Nat)}
set_option maxRecDepth 100000 in
set_option maxHeartbeats 4000000 in
theorem nextStep_any (h : PlanW w D shop nx lp v bg on) (hv : shopM shop = true) (j : Nat) (hj : j < shop.length) (hn : nx j ≤ slen shop j) :
    Calls Try.prog 43 #[.pointer (some ⟨D.P, 0, none⟩), .int .i64 j] w (DrewPost w (D.ptr (nextO nx shop j))) := by
  have hsl := slen_le hv j
  have HC := Lib.hid (left_any h hv j hj hn)
  by_cases hx : nx j < slen shop j
  · have hr := fun m => (h.drewN m).rowCell hj hx
    rw [show D.ptr (nextO nx shop j) = .pointer (some ⟨D.Q j (nx j), 0, none⟩) by unfold nextO; rw [if_pos hx]; rfl]
    have hs0 : ¬ ((slen shop j - nx j : Nat) : Int) = 0 := by omega
    have hs1 : (0 : Nat) < slen shop j - nx j := by omega
    have hs2 : (0 : Int) < ((slen shop j - nx j : Nat) : Int) := by omega
    go_enter Try.func43, Try.ntmps43
    go_wp2_with fail
    refine HC.out.mono ?_
    rintro e w1 ⟨a, c, rfl, ha, m, rfl⟩
    have hr := hr m
    rw [ha hx]
    clear ha HC h
    generalize slen shop j - nx j = s at *
    generalize D.Q j (nx j) = q at *
    generalize nx j = x at *
    generalize D.R j = R at *
    go_wp2_with fail
    go_ret
    exact ⟨rfl, m, rfl⟩
  · rw [show D.ptr (nextO nx shop j) = .pointer none by unfold nextO; rw [if_neg hx]; rfl]
    go_enter Try.func43, Try.ntmps43
    go_wp2_with fail
    refine HC.out.mono ?_
    rintro e w1 ⟨a, c, rfl, ha, m, rfl⟩
    rw [show slen shop j - nx j = 0 by omega]
    go_wp2_with fail
    go_ret
    exact ⟨rfl, m, rfl⟩
def doneP (shop : List (List (List Int))) (nx : Nat → Nat) : Bool := (List.range shop.length).all fun j => decide (slen shop j ≤ nx j)
set_option maxRecDepth 100000 in
set_option maxHeartbeats 4000000 in
theorem isDone_any (h : PlanW w D shop nx lp v bg on) (hv : shopM shop = true) (hn : ∀ j, nx j ≤ slen shop j) :
    Calls Try.prog 41 #[.pointer (some ⟨D.P, 0, none⟩)] w (DrewPost w (.bool (doneP shop nx))) := by
  have hl3 := (shop_get hv).1
  obtain ⟨c0, _⟩ := h.cells
  have HN := Lib.hid hn
  have HS : Hid (∃ n, n = shop.length) := Lib.hid ⟨_, rfl⟩
  clear hn
  go_enter Try.func41, Try.ntmps41
  go_wp2_with fail
  go_loopw [9] (fun i wr => ∃ k : Nat, k ≤ shop.length ∧ i = .int .i64 k ∧ Drew w wr ∧ ∀ j, j < k → slen shop j ≤ nx j) (fun i _ => shop.length - (intOf i).toNat)
  case atStart => exact ⟨0, Nat.zero_le _, rfl, Drew.refl _, fun j hj => absurd hj (Nat.not_lt_zero _)⟩
  case round =>
    obtain ⟨k, hk, rfl, hd, hall⟩ := hrel
    have HD := Lib.hid hd
    have HA := Lib.hid hall
    clear hall
    by_cases hkl : k < shop.length
    · have hw := h.drew hd
      have HC := Lib.hid (nextStep_any hw hv k hkl (HN.out k))
      clear hd hw
      by_cases hx : nx k < slen shop k
      · have e1 : nextO nx shop k = some (k, nx k) := if_pos hx
        rw [e1] at HC
        have HF := Lib.hid (show doneP shop nx = false by unfold doneP; rw [List.all_eq_false]; exact ⟨k, List.mem_range.2 hkl, by simp; omega⟩)
        generalize hnn : shop.length = n at *
        go_wp2_with fail
        refine HC.out.mono ?_
        rintro e w2 ⟨rfl, hd2⟩
        unfold PD.ptr
        dsimp only
        go_wp2_with fail
        go_ret
        rw [HF.out]
        obtain ⟨q, rfl⟩ := hd2
        exact ⟨rfl, HD.out.drew q⟩
      · have e1 : nextO nx shop k = none := if_neg hx
        rw [e1] at HC
        generalize hnn : shop.length = n at *
        go_wp2_with fail
        refine HC.out.mono ?_
        rintro e w2 ⟨rfl, hd2⟩
        unfold PD.ptr
        dsimp only
        go_wp2_with fail
        go_roundw
        case rel =>
          obtain ⟨q, rfl⟩ := hd2
          exact ⟨k + 1, by omega, by go_num, HD.out.drew q, fun j hj => by
            by_cases e : j = k
            · subst e; omega
            · exact HA.out j (by omega)⟩
        case measure => simp [intOf]; omega
    · have HF := Lib.hid (show doneP shop nx = true by unfold doneP; rw [List.all_eq_true]; exact fun j hj => decide_eq_true (HA.out j (by have := List.mem_range.1 hj; omega)))
      generalize hnn : shop.length = n at *
      go_wp2_with fail
      go_ret
      rw [HF.out]
      exact ⟨rfl, HD.out⟩
end
end Go.Proofs.Ythmlgicjedhgfab
