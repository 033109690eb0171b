import Derived.Test.YtkebdelfklmigaeRows
import Derived.WalkKit
import Derived.LoopTactic
import Derived.Outline
import Derived.WalkSpells
import Derived.WalkLawsBesides
import Derived.ProofKit
import Derived.Lib.Hide
import Derived.IntWalk
import Derived.StillTailTactics
import Derived.Deep.RegionHeldLaw
import Derived.Deep.AppendLies
import Derived.Deep.RegionLaw
import Derived.Deep.RegionHeld3
import Derived.Deep.OwnRows
import Derived.BigQuiet
import Derived.RegionTactic
import Derived.BigRegion
import Derived.Test.YtkebdelfklmigaeM0
import Derived.Test.YtkebdelfklmigaeM1
import Derived.Test.YtkebdelfklmigaeM2
import Derived.Test.YtkebdelfklmigaeM12
import Derived.Test.YtkebdelfklmigaeM16
import Derived.Test.YtkebdelfklmigaeM14
namespace Go.Proofs.Ytkebdelfklmigae
open Go.RowKit Go.WideShapes

theorem Try.infoInt7 : (Try.prog.info? 3).map (fun i => (i.zero, i.size, i.bytes)) = some (some (.int .i64 0), 1, 8) := by kernel_rfl
theorem Try.infoSteps7 : (Try.prog.info? 104).map (fun i => (i.zero, i.size, i.bytes)) = some (some (.slice none 0 0), 1, 24) := by kernel_rfl
theorem Try.infoStep7 : (Try.prog.info? 98).map (fun i => (i.zero, i.size, i.bytes)) = some (some (.pointer none), 1, 8) := by kernel_rfl
theorem made_tabV (z : Value) (n : Nat) : madeCells #[z] n = tabV (fun _ => z) n := by
  apply Array.ext_getElem?
  intro i
  by_cases hi : i < n
  · rw [tabV_get _ hi]; simp [madeCells, hi, Nat.mod_one]
  · rw [Array.getElem?_eq_none (by rw [size_madeCells]; omega), Array.getElem?_eq_none (by simp [tabV]; omega)]
/-- how many steps of each job are made -/
def cM (shop : List (List (List Int))) (k m j : Nat) : Nat := if j < k then slen shop j else if j = k then m else 0
/-- a plan, being made: rv: the jobs' rows; Q: the steps -/
structure Mk (w w' : World) (shop : List (List (List Int))) (J X P : Nat) (c : Nat → Nat) (rv : Nat → Value) (Q : Nat → Nat → Nat) : Prop where
  below : Below w.heap.size w w'
  at' : w.heap.size ≤ J ∧ w.heap.size ≤ X ∧ w.heap.size ≤ P
  plan : w'.heap[P]? = some (.cells #[.slice (some ⟨J, 0, none⟩) shop.length shop.length, .slice (some ⟨X, 0, none⟩) shop.length shop.length, .pointer none, .pointer none, .pointer none, .slice none 0 0] 101 (0, 0))
  jobs : w'.heap[J]? = some (.cells (tabV rv shop.length) 104 (0, 0))
  next : w'.heap[X]? = some (.cells (tabV (fun _ => .int .i64 0) shop.length) 3 (0, 0))
  rows : ∀ j, j < shop.length → w'.ownsRow w.heap.size 98 1 (rv j) (c j) ((List.range (c j)).map fun i => .pointer (some ⟨Q j i, 0, none⟩))
  steps : ∀ j k, j < shop.length → k < c j → w.heap.size ≤ Q j k ∧ w'.heap[Q j k]? = some (.cells #[.int .i64 (j : Nat), .int .i64 (smach shop j k : Nat), .int .i64 (stime shop j k), .int .i64 0, .pointer (if k = 0 then none else some ⟨Q j (k - 1), 0, none⟩), .pointer none] 103 (0, 0))
  inj : ∀ j k i h, j < shop.length → k < c j → i < shop.length → h < c i → Q j k = Q i h → j = i ∧ k = h
  sep : ∀ j i, j < shop.length → i < shop.length → j ≠ i → (rv j).ownBlock = none ∨ (rv j).ownBlock ≠ (rv i).ownBlock
  nil : ∀ j, c j = 0 → rv j = .slice none 0 0
theorem three_blocks (w : World) (A B C : Obj) : (((w.alloc A).alloc B).alloc C).drew.heap[w.heap.size]? = some A ∧ (((w.alloc A).alloc B).alloc C).drew.heap[w.heap.size + 1]? = some B ∧ (((w.alloc A).alloc B).alloc C).drew.heap[w.heap.size + 1 + 1]? = some C := by
  have h (h : Array Obj) : (((h.push A).push B).push C)[h.size]? = some A ∧ (((h.push A).push B).push C)[h.size + 1]? = some B ∧ (((h.push A).push B).push C)[h.size + 1 + 1]? = some C := by
    refine ⟨?_, ?_, ?_⟩
    · rw [Array.getElem?_push, if_neg (by simp; omega), Array.getElem?_push, if_neg (by simp), Array.getElem?_push, if_pos rfl]
    · rw [Array.getElem?_push, if_neg (by simp), Array.getElem?_push, if_pos (by simp)]
    · rw [Array.getElem?_push, if_pos (by simp)]
  exact h w.heap
theorem Mk.start {w w' : World} {shop : List (List (List Int))} {J X P : Nat} (hb : Below w.heap.size w w') (ha : w.heap.size ≤ J ∧ w.heap.size ≤ X ∧ w.heap.size ≤ P)
    (hP : w'.heap[P]? = some (.cells #[.slice (some ⟨J, 0, none⟩) shop.length shop.length, .slice (some ⟨X, 0, none⟩) shop.length shop.length, .pointer none, .pointer none, .pointer none, .slice none 0 0] 101 (0, 0)))
    (hJ : w'.heap[J]? = some (.cells (madeCells #[.slice none 0 0] shop.length) 104 (0, 0))) (hX : w'.heap[X]? = some (.cells (madeCells #[.int .i64 0] shop.length) 3 (0, 0))) :
    Mk w w' shop J X P (cM shop 0 0) (fun _ => .slice none 0 0) (fun _ _ => 0) := by
  have hc : ∀ j, cM shop 0 0 j = 0 := fun j => by unfold cM; rw [if_neg (by omega)]; split <;> rfl
  refine ⟨hb, ha, hP, by rw [hJ, made_tabV], by rw [hX, made_tabV], fun j _ => by rw [hc]; exact World.ownsRow_nil _ _ _ _, fun j k _ hk => ?_, fun j k i h _ hk => ?_, fun _ _ _ _ _ => .inl rfl, fun _ _ => rfl⟩
  · rw [hc] at hk; omega
  · rw [hc] at hk; omega
theorem Mk.alloc {w w' : World} {shop : List (List (List Int))} {J X P : Nat} {c : Nat → Nat} {rv : Nat → Value} {Q : Nat → Nat → Nat} (h : Mk w w' shop J X P c rv Q) (o : Obj) : Mk w (w'.alloc o) shop J X P c rv Q := by
  have hs := h.below.size
  have k := fun {b : Nat} {x : Obj} (hb : w'.heap[b]? = some x) => (Below.heap_alloc w' o b (lt_heap hb)).trans hb
  exact ⟨h.below.alloc hs o, h.at', k h.plan, k h.jobs, k h.next, fun j hj => (h.rows j hj).alloc o, fun j i hj hi => ⟨(h.steps j i hj hi).1, k (h.steps j i hj hi).2⟩, h.inj, h.sep, h.nil⟩
theorem Mk.drewN {w w' : World} {shop : List (List (List Int))} {J X P : Nat} {c : Nat → Nat} {rv : Nat → Value} {Q : Nat → Nat → Nat} (h : Mk w w' shop J X P c rv Q) (q : Nat) : Mk w (w'.drewN q) shop J X P c rv Q :=
  ⟨h.below.trans (Drew.below ⟨q, rfl⟩ _), h.at', h.plan, h.jobs, h.next, fun j hj => own_drewN (h.rows j hj) q, h.steps, h.inj, h.sep, h.nil⟩
/-- a step is put to its job's row -/
theorem Mk.push {w w1 w6 : World} {shop : List (List (List Int))} {J X P : Nat} {c : Nat → Nat} {rv : Nat → Value} {Q : Nat → Nat → Nat} (h : Mk w w1 shop J X P c rv Q) {k m S : Nat} {V : Value} (hk : k < shop.length) (hm : c k = m)
    (hS : w.heap.size ≤ S) (hSc : w1.heap[S]? = some (.cells #[.int .i64 (k : Nat), .int .i64 (smach shop k m : Nat), .int .i64 (stime shop k m), .int .i64 0, .pointer (if m = 0 then none else some ⟨Q k (m - 1), 0, none⟩), .pointer none] 103 (0, 0)))
    (hfresh : ∀ j i, j < shop.length → i < c j → Q j i ≠ S)
    (hown : w6.ownsRow w.heap.size 98 1 V (m + 1) ((List.range m).map (fun i => .pointer (some ⟨Q k i, 0, none⟩)) ++ [.pointer (some ⟨S, 0, none⟩)])) (hgr : w1.grownBy w6 (rv k).ownBlock)
    (hat : V.ownBlock = (rv k).ownBlock ∨ ∀ b, V.ownBlock = some b → w1.heap.size ≤ b) :
    Mk w (w6.setCell ⟨J, k, none⟩ V) shop J X P (setN c k (m + 1)) (setN rv k V) (set2 Q k m S) := by
  have hrk := h.rows k hk
  have hne : ∀ {b : Nat} {cs : Array Value} {t : TypeId} {fr : Nat × Nat}, w1.heap[b]? = some (.cells cs t fr) → t ≠ 98 → w6.heap[b]? = some (.cells cs t fr) := fun {b cs t fr} hb ht => by
    rw [hgr.block b (lt_heap hb) (fun e => ?_)]
    · exact hb
    · rcases hrk.2 with ⟨e1, _⟩ | ⟨g, cap, cur, e1, _, hg, _⟩
      · rw [e1] at e; simp [Value.ownBlock] at e
      · rw [e1] at e
        simp only [Value.ownBlock, Option.some.injEq] at e
        subst e
        rw [hb] at hg
        simp only [Option.some.injEq, Obj.cells.injEq] at hg
        exact ht hg.2.1
  have hJ6 := hne h.jobs (by decide)
  have hP6 := hne h.plan (by decide)
  have hX6 := hne h.next (by decide)
  have hS6 := hne hSc (by decide)
  have keep : ∀ {b : Nat} {cs : Array Value} {t : TypeId} {fr : Nat × Nat}, w6.heap[b]? = some (.cells cs t fr) → t ≠ 104 → (w6.setCell ⟨J, k, none⟩ V).heap[b]? = some (.cells cs t fr) := fun hb ht => by
    rw [heap_set_ne (ne_type hb hJ6 ht)]; exact hb
  have hsz := hgr.size
  have hbs := h.below.size
  have hb6 : Below w.heap.size w w6 := h.below.grown hgr hbs (fun b e => (hrk.lt b e).1)
  have ownJ : ∀ {e : TypeId} {v : Value} {n : Nat} {xs : List Value}, w6.ownsRow w.heap.size e 1 v n xs → e ≠ 104 → (w6.setCell ⟨J, k, none⟩ V).ownsRow w.heap.size e 1 v n xs := fun {e v n xs} ho he => by
    refine ho.kept (grown_set w6 J k V) ?_
    rcases ho.2 with ⟨e1, _⟩ | ⟨g, cap, cur, e1, _, hg, _⟩
    · exact .inl (by rw [e1]; rfl)
    · right
      rw [e1]
      simp only [Value.ownBlock, ne_eq, Option.some.injEq]
      exact ne_type hg hJ6 he
  have hQk : ∀ i, i < m → set2 Q k m S k i = Q k i := fun i hi => set2_ne _ _ (fun e => by omega)
  refine ⟨hb6.setCell h.at'.1 _, h.at', keep hP6 (by decide), by rw [heap_set hJ6, tabV_set], keep hX6 (by decide), fun j hj => ?_, fun j i hj hi => ?_, fun j i j' i' hj hi hj' hi' e => ?_, fun j i hj hi hji => ?_, fun j hj => ?_⟩
  · by_cases e : j = k
    · subst e
      rw [setN_at, setN_at, List.range_succ, List.map_append]
      have e2 : (List.range m).map (fun i => Value.pointer (some ⟨set2 Q j m S j i, 0, none⟩)) = (List.range m).map (fun i => Value.pointer (some ⟨Q j i, 0, none⟩)) := List.map_congr_left fun i hi => by rw [hQk i (List.mem_range.1 hi)]
      rw [e2]
      simp only [List.map_cons, List.map_nil, set2_at]
      exact ownJ hown (by decide)
    · rw [setN_ne _ _ e, setN_ne _ _ e]
      have e2 : (List.range (c j)).map (fun i => Value.pointer (some ⟨set2 Q k m S j i, 0, none⟩)) = (List.range (c j)).map (fun i => Value.pointer (some ⟨Q j i, 0, none⟩)) := List.map_congr_left fun i _ => by rw [set2_ne _ _ (fun h => e h.1)]
      rw [e2]
      exact ownJ ((h.rows j hj).kept hgr (h.sep j k hj hk e)) (by decide)
  · by_cases e : j = k ∧ i = m
    · obtain ⟨rfl, rfl⟩ := e
      rw [set2_at]
      refine ⟨hS, ?_⟩
      rw [keep hS6 (by decide)]
      by_cases h0 : i = 0
      · subst h0; rfl
      · rw [if_neg h0, if_neg h0, hQk (i - 1) (by omega)]
    · rw [set2_ne _ _ e]
      have hi2 : i < c j := by
        by_cases e2 : j = k
        · subst e2; rw [setN_at] at hi; have : i ≠ m := fun h => e ⟨rfl, h⟩; omega
        · rwa [setN_ne _ _ e2] at hi
      obtain ⟨s1, s2⟩ := h.steps j i hj hi2
      refine ⟨s1, ?_⟩
      rw [keep (hne s2 (by decide)) (by decide)]
      by_cases h0 : i = 0
      · rw [if_pos h0, if_pos h0]
      · rw [if_neg h0, if_neg h0]
        by_cases e3 : j = k ∧ i - 1 = m
        · exfalso
          obtain ⟨rfl, e4⟩ := e3
          rw [hm] at hi2; omega
        · rw [set2_ne _ _ e3]
  · have key : ∀ j i, i < setN c k (m + 1) j → (j = k ∧ i = m) ∨ (¬ (j = k ∧ i = m) ∧ i < c j) := fun j i hi => by
      by_cases e : j = k ∧ i = m
      · exact .inl e
      · refine .inr ⟨e, ?_⟩
        by_cases e2 : j = k
        · subst e2; rw [setN_at] at hi; have : i ≠ m := fun h => e ⟨rfl, h⟩; omega
        · rwa [setN_ne _ _ e2] at hi
    rcases key j i hi with ⟨e1, e2⟩ | ⟨e1, e2⟩ <;> rcases key j' i' hi' with ⟨f1, f2⟩ | ⟨f1, f2⟩
    · exact ⟨by rw [e1, f1], by rw [e2, f2]⟩
    · exfalso
      rw [e1, e2, set2_at, set2_ne _ _ f1] at e
      exact hfresh j' i' hj' f2 e.symm
    · exfalso
      rw [f1, f2, set2_at, set2_ne _ _ e1] at e
      exact hfresh j i hj e2 e
    · rw [set2_ne _ _ e1, set2_ne _ _ f1] at e
      exact h.inj j i j' i' hj e2 hj' f2 e
  · by_cases e1 : j = k
    · subst e1
      rw [setN_at, setN_ne _ _ (fun e => hji e.symm)]
      rcases hat with h1 | h1
      · rw [h1]; exact h.sep j i hj hi hji
      · cases hv : V.ownBlock with
        | none => exact .inl rfl
        | some b =>
          right
          intro e
          have h2 := h1 b hv
          have h3 := ((h.rows i hi).lt b e.symm).2
          omega
    · rw [setN_ne _ _ e1]
      by_cases e2 : i = k
      · subst e2
        rw [setN_at]
        rcases hat with h1 | h1
        · rw [h1]; exact h.sep j i hj hi hji
        · cases hv : (rv j).ownBlock with
          | none => exact .inl rfl
          | some b =>
            right
            intro e
            have h2 := h1 b e.symm
            have h3 := ((h.rows j hj).lt b hv).2
            omega
      · rw [setN_ne _ _ e2]; exact h.sep j i hj hi hji
  · by_cases e1 : j = k
    · subst e1; rw [setN_at] at hj; omega
    · rw [setN_ne _ _ e1] at hj ⊢; exact h.nil j hj
def adr7 : Value → Option Addr
  | .slice a _ _ => a
  | _ => none
def cap7 : Value → Nat
  | .slice _ _ c => c
  | _ => 0
def blk7 (v : Value) : Nat := match adr7 v with
  | some a => a.block
  | none => 0
/-- the plan is made -/
theorem Mk.done {w w' : World} {shop : List (List (List Int))} {J X P : Nat} {rv : Nat → Value} {Q : Nat → Nat → Nat} (h : Mk w w' shop J X P (cM shop shop.length 0) rv Q) :
    ∃ D : PD, D.P = P ∧ PlanAt w' D shop (.slice none 0 0) [] ∧ D.B = w.heap.size := by
  have hc : ∀ j, j < shop.length → cM shop shop.length 0 j = slen shop j := fun j hj => if_pos hj
  have hbs := h.below.size
  refine ⟨⟨w.heap.size, w'.heap.size, P, J, X, fun j => adr7 (rv j), fun j => cap7 (rv j), fun j => blk7 (rv j), Q⟩, rfl, ⟨⟨fun _ _ => 0, fun _ _ => none, ?_, bgOk_nil _ _ _, onOk_nil _ _⟩, World.ownsRow_nil _ _ _ _, Nat.le_refl _, fun x hx => by simp at hx, fun j => by simp⟩, rfl⟩
  refine ⟨⟨hbs, ⟨h.at'.2.2, lt_heap h.plan⟩, ⟨h.at'.1, lt_heap h.jobs⟩, ⟨h.at'.2.1, lt_heap h.next⟩, fun j hj h0 => ?_, fun j hj => ?_, fun j k hj hk => ?_, fun j k i i' hj hk hi hi' e => ?_⟩, h.plan, ?_, ?_, fun j hj h0 => ?_, fun j k hj hk => ?_⟩
  · have := h.nil j (by rw [hc j hj]; exact h0)
    dsimp only
    rw [this]; exact ⟨rfl, rfl⟩
  · have hr := h.rows j hj
    rw [hc j hj] at hr
    obtain ⟨a, c, e, hcp⟩ := own_slice hr
    dsimp only
    rw [e]
    refine ⟨hcp, fun h0 => ?_⟩
    obtain ⟨g, cap, e2, hb, hl⟩ := hr.form h0
    rw [e] at e2
    simp only [Value.slice.injEq, true_and] at e2
    obtain ⟨rfl, rfl⟩ := e2
    exact ⟨rfl, hb, hl⟩
  · have := h.steps j k hj (by rw [hc j hj]; exact hk)
    exact ⟨this.1, lt_heap this.2⟩
  · exact h.inj j k i i' hj (by rw [hc j hj]; exact hk) hi (by rw [hc i hi]; exact hi') e
  · rw [h.jobs, tabV_congr fun j hj => ?_]
    have hr := h.rows j hj
    rw [hc j hj] at hr
    obtain ⟨a, c, e, hcp⟩ := own_slice hr
    show rv j = .slice (adr7 (rv j)) (slen shop j) (cap7 (rv j))
    rw [e]; rfl
  · rw [h.next]; rfl
  · have hr := h.rows j hj
    rw [hc j hj] at hr
    rcases hr.2 with ⟨_, e⟩ | ⟨g, cap, cur, e, _, hg, _, _, _, ht⟩
    · omega
    · dsimp only
      rw [e]
      refine ⟨cur, hg, fun k hk => ?_⟩
      rw [← Array.getElem?_toList]
      have e2 : (cur.toList.take (slen shop j * 1))[k]? = cur.toList[k]? := by rw [List.getElem?_take, if_pos (by omega)]
      rw [← e2, ht]
      simp [hk]; rfl
  · have := (h.steps j k hj (by rw [hc j hj]; exact hk)).2
    rw [this]
    unfold prevO
    by_cases h0 : k = 0
    · rw [if_pos h0, if_pos h0]; rfl
    · rw [if_neg h0, if_neg h0]; rfl
def PlanOfPost (w : World) (shop : List (List (List Int))) (e : Ending) (w' : World) : Prop :=
  if shopM shop then ∃ D : PD, e = .returned (.pointer (some ⟨D.P, 0, none⟩)) ∧ PlanAt w' D shop (.slice none 0 0) [] ∧ w.heap.size ≤ D.B ∧ Below w.heap.size w w'
  else e = .returned (.pointer none) ∧ Drew w w'
set_option maxRecDepth 100000 in
set_option maxHeartbeats 4000000 in
theorem planOf_any (a : Option Addr) (len cap : Nat) (shop : List (List (List Int))) (w : World) (h : ShopAt w (· < w.heap.size) a len shop) (hc : len ≤ cap) :
    Calls Try.prog 53 #[.slice a len cap] w (PlanOfPost w shop) := by
  go_enter Try.func53, Try.ntmps53
  go_wp2_with fail
  refine (validShop_impl _ a len cap shop w h hc).mono ?_
  rintro e w0 ⟨rfl, hd0⟩
  cases hv : shopM shop
  · go_wp2_with fail
    go_ret
    unfold PlanOfPost
    rw [hv]
    exact ⟨rfl, hd0⟩
  · have HV := Lib.hid hv
    have HL := Lib.hid h.lenEq
    have hl3 : len ≤ 3 := by have := (shop_get hv).1; have := HL.out; omega
    have h0 : ShopAt w0 (· < w0.heap.size) a len shop := by have e := hd0.size; rw [e]; exact Drew.shop h hd0
    have HW := Lib.hid (show w.heap.size = w0.heap.size ∧ ∀ w', Below w0.heap.size w0 w' → Below w.heap.size w w' from ⟨hd0.size.symm, fun w' hb => by have e := hd0.size; rw [e] at hb; exact (hd0.below _).trans hb⟩)
    clear hv h hd0
    have hmk := fun w => run_make_row' (P := Try.prog) 23 3 (.int .i64 0) 8 Try.underlying23 Try.infoInt7 rfl .i64 .i64 len (by omega) (by omega) w
    have hmk2 := fun w => run_make_row' (P := Try.prog) 97 104 (.slice none 0 0) 24 Try.underlying97 Try.infoSteps7 rfl .i64 .i64 len (by omega) (by omega) w
    go_wp2_with fail
    have HSTART1 := Lib.hid (show Mk w0 (((w0.alloc (.cells (madeCells #[.slice none 0 0] len) 104)).alloc (.cells (madeCells #[.int .i64 0] len) 3)).alloc (.cells #[.slice (some ⟨w0.heap.size, 0, none⟩) len len, .slice (some ⟨w0.heap.size + 1, 0, none⟩) len len, .pointer none, .pointer none, .pointer none, .slice none 0 0] 101)).drew shop w0.heap.size (w0.heap.size + 1) (w0.heap.size + 1 + 1) (cM shop 0 0) (fun _ => .slice none 0 0) (fun _ _ => 0) by
      rw [← HL.out]
      refine Mk.start (((((Below.refl _ _).alloc (Nat.le_refl _) _).alloc (by simp) _).alloc (by simp; omega) _).drew) ⟨by omega, by omega, by omega⟩ (three_blocks w0 _ _ _).2.2 (three_blocks w0 _ _ _).1 (three_blocks w0 _ _ _).2.1)
    have HSTART2 := Lib.hid (show Mk w0 (((w0.alloc (.cells (madeCells #[.int .i64 0] len) 3)).alloc (.cells (madeCells #[.slice none 0 0] len) 104)).alloc (.cells #[.slice (some ⟨w0.heap.size + 1, 0, none⟩) len len, .slice (some ⟨w0.heap.size, 0, none⟩) len len, .pointer none, .pointer none, .pointer none, .slice none 0 0] 101)).drew shop (w0.heap.size + 1) w0.heap.size (w0.heap.size + 1 + 1) (cM shop 0 0) (fun _ => .slice none 0 0) (fun _ _ => 0) by
      rw [← HL.out]
      refine Mk.start (((((Below.refl _ _).alloc (Nat.le_refl _) _).alloc (by simp) _).alloc (by simp; omega) _).drew) ⟨by omega, by omega, by omega⟩ (three_blocks w0 _ _ _).2.2 (three_blocks w0 _ _ _).2.1 (three_blocks w0 _ _ _).1)
    go_region
    all_goals
      first
        | (
          obtain ⟨w1, hw1⟩ : ∃ w1, (((w0.alloc (.cells (madeCells #[.slice none 0 0] len) 104)).alloc (.cells (madeCells #[.int .i64 0] len) 3)).alloc (.cells #[.slice (some ⟨w0.heap.size, 0, none⟩) len len, .slice (some ⟨w0.heap.size + 1, 0, none⟩) len len, .pointer none, .pointer none, .pointer none, .slice none 0 0] 101)).drew = w1 := ⟨_, rfl⟩
          have hst := HSTART1.out
          rw [hw1] at hst ⊢
          obtain ⟨P, hP⟩ : ∃ P, w0.heap.size + 1 + 1 = P := ⟨_, rfl⟩
          rw [hP] at hst ⊢
          obtain ⟨X, hX⟩ : ∃ X, w0.heap.size + 1 = X := ⟨_, rfl⟩
          obtain ⟨J, hJ⟩ : ∃ J, w0.heap.size = J := ⟨_, rfl⟩
          rw [hX, hJ] at hst
          have HST := Lib.hid hst
          clear hst hw1 hP hX hJ)
        | (
          obtain ⟨w1, hw1⟩ : ∃ w1, (((w0.alloc (.cells (madeCells #[.int .i64 0] len) 3)).alloc (.cells (madeCells #[.slice none 0 0] len) 104)).alloc (.cells #[.slice (some ⟨w0.heap.size + 1, 0, none⟩) len len, .slice (some ⟨w0.heap.size, 0, none⟩) len len, .pointer none, .pointer none, .pointer none, .slice none 0 0] 101)).drew = w1 := ⟨_, rfl⟩
          have hst := HSTART2.out
          rw [hw1] at hst ⊢
          obtain ⟨P, hP⟩ : ∃ P, w0.heap.size + 1 + 1 = P := ⟨_, rfl⟩
          rw [hP] at hst ⊢
          obtain ⟨X, hX⟩ : ∃ X, w0.heap.size = X := ⟨_, rfl⟩
          obtain ⟨J, hJ⟩ : ∃ J, w0.heap.size + 1 = J := ⟨_, rfl⟩
          rw [hJ, hX] at hst
          have HST := Lib.hid hst
          clear hst hw1 hP hX hJ)
    all_goals
      clear HSTART1 HSTART2 hmk hmk2
      go_wp2_with fail
      go_loopw [22] (fun i wr => ∃ k : Nat, k ≤ len ∧ i = .int .i64 k ∧ ∃ rv Q, Mk w0 wr shop J X P (cM shop k 0) rv Q) (fun i _ => len - (intOf i).toNat)
      case atStart => exact ⟨0, Nat.zero_le _, rfl, _, _, HST.out⟩
      case round =>
        clear HST
        obtain ⟨k, hk, rfl, rv0, Q0, hmk0⟩ := hrel
        obtain ⟨wo, rfl⟩ : ∃ wo : World, wo = wr := ⟨_, rfl⟩
        have HMK0 := Lib.hid hmk0
        by_cases hlt : k < len
        · obtain ⟨b, off, job, a', l, c, rfl, hx, hcc, hlc, hr⟩ := (h0.below hmk0.below).get hlt
          have hsl : l = slen shop k := by unfold slen; rw [List.getD_eq_getElem?_getD, hx]; exact hr.lenEq.symm
          subst hsl
          have HBO := Lib.hid hmk0.below
          have HBS := Lib.hid (show b < w0.heap.size from h0.mem (by omega))
          have HCC := Lib.hid hcc
          clear hmk0 hx
          have HSL := Lib.hid (slen_le HV.out k)
          go_wp2_with fail
          go_loopw [6, 29] (fun p i wr => ∃ m : Nat, m ≤ slen shop k ∧ i = .int .i64 m ∧ ∃ rv Q, Mk w0 wr shop J X P (cM shop k m) rv Q ∧ p = .pointer (if m = 0 then none else some ⟨Q k (m - 1), 0, none⟩)) (fun _ i _ => slen shop k - (intOf i).toNat)
          case atStart => exact ⟨0, Nat.zero_le _, rfl, rv0, Q0, HMK0.out, rfl⟩
          case round =>
            clear HMK0
            obtain ⟨m, hm, rfl, rv, Q, hmk, rfl⟩ := hrel
            obtain ⟨wi, rfl⟩ : ∃ wi : World, wi = wr := ⟨_, rfl⟩
            have HMK := Lib.hid hmk
            by_cases hml : m < slen shop k
            · obtain ⟨b', off', b1, off1, c1, b2, off2, c2, e3, q1, q2, q3, q4, q5, q6⟩ := step_at (h0.below hmk.below) HV.out hlt hml
              cases e3
              have ea : Value.slice a' (slen shop k) c = .slice (some ⟨b1, off1, none⟩) (slen shop k) c1 := by
                have x1 := hmk.below.cell (p := ⟨b, off + k, none⟩) HBS.out
                have x2 := HBO.out.cell (p := ⟨b, off + k, none⟩) HBS.out
                rw [q1] at x1
                rw [HCC.out, ← x1] at x2
                exact Option.some.inj x2
              simp only [Value.slice.injEq, true_and] at ea
              obtain ⟨rfl, rfl⟩ := ea
              obtain ⟨PA, hpa⟩ : ∃ PA, (if m = 0 then none else some ⟨Q k (m - 1), 0, none⟩ : Option Addr) = PA := ⟨_, rfl⟩
              obtain ⟨MM, hMM⟩ : ∃ MM, smach shop k m = MM := ⟨_, rfl⟩
              obtain ⟨tt, htt⟩ : ∃ tt, stime shop k m = tt := ⟨_, rfl⟩
              obtain ⟨sl, hsl⟩ : ∃ sl, slen shop k = sl := ⟨_, rfl⟩
              have HPA := Lib.hid hpa
              have HMM := Lib.hid hMM
              have HTT := Lib.hid htt
              have HSE := Lib.hid hsl
              rw [hsl] at hml q1 q2 ⊢
              rw [hMM] at q5
              rw [htt] at q6
              rw [hpa]
              have hs3 := HSL.out
              rw [hsl] at hs3
              clear hpa hMM htt hsl hmk hr hcc hm hlc
              go_wp2_with fail
              go_still_tail 9, (by kernel_rfl)
              go_wp2_with fail
              obtain ⟨ST, hST⟩ : ∃ ST, (#[.int .i64 (k : Nat), .int .i64 (MM : Nat), .int .i64 tt, .int .i64 0, .pointer PA, .pointer none] : Array Value) = ST := ⟨_, rfl⟩
              rw [hST]
              have hm2 : Mk w0 (wi.alloc (.cells ST 103)).drew shop J X P (cM shop k m) rv Q := (HMK.out.alloc _).drewN 1
              have hSc : (wi.alloc (.cells ST 103)).drew.heap[wi.heap.size]? = some (.cells ST 103 (0, 0)) := heap_alloc_new wi _
              have hfr : ∀ j i, j < shop.length → i < cM shop k m j → Q j i ≠ wi.heap.size := fun j i hj hi => by have := lt_heap (HMK.out.steps j i hj hi).2; omega
              have hS0 := HMK.out.below.size
              have hck : cM shop k m k = m := by unfold cM; rw [if_neg (by omega), if_pos rfl]
              obtain ⟨w2, hw2⟩ : ∃ w2, (wi.alloc (.cells ST 103)).drew = w2 := ⟨_, rfl⟩
              obtain ⟨SS, hSS⟩ : ∃ SS, wi.heap.size = SS := ⟨_, rfl⟩
              rw [hw2] at hm2 hSc ⊢
              rw [hSS] at hSc hfr hS0 ⊢
              have hkn : k < shop.length := by have := HL.out; omega
              have hrow := hm2.rows k hkn
              rw [hck] at hrow
              obtain ⟨ax, cp, hax, hcp⟩ := own_slice hrow
              have p0 : w2.cell? ⟨P, 0, none⟩ = some (.slice (some ⟨J, 0, none⟩) len len) := by rw [cell_of_row _ _ _ _ _ _ hm2.plan, ← HL.out]; rfl
              have cj : w2.cell? ⟨J, k, none⟩ = some (.slice ax m cp) := by rw [cell_of_row _ _ _ _ _ _ hm2.jobs, tabV_get _ hkn, hax]
              have hP2 := lt_heap hm2.plan
              have hJ2 := lt_heap hm2.jobs
              have hbs2 := hm2.below.size
              have HJP := Lib.hid (ne_type hm2.jobs hm2.plan (by decide))
              rw [hax] at hrow
              have far : ∀ {b : Nat} {cs : Array Value} {t : TypeId} {fr : Nat × Nat}, w2.heap[b]? = some (.cells cs t fr) → t ≠ 98 → some b ≠ (Value.slice ax m cp).ownBlock := fun {b cs t fr} hb ht e => by
                rcases hrow.2 with ⟨e1, _⟩ | ⟨g, cap, cur, e1, _, hg, _⟩
                · rw [e1] at e; simp [Value.ownBlock] at e
                · rw [e1] at e
                  simp only [Value.ownBlock, Option.some.injEq] at e
                  subst e
                  rw [hb] at hg
                  simp only [Option.some.injEq, Obj.cells.injEq] at hg
                  exact ht hg.2.1
              have FJ := Lib.hid (show (w2.alloc (.cells #[.pointer (some ⟨SS, 0, none⟩)] 98)).drew.cell? ⟨J, k, none⟩ = some (.slice ax m cp) ∧ (w2.alloc (.cells #[.pointer (some ⟨SS, 0, none⟩)] 98)).drew.frozen? ⟨J, k, none⟩ = false ∧ J < (w2.alloc (.cells #[.pointer (some ⟨SS, 0, none⟩)] 98)).drew.heap.size ∧ some J ≠ (Value.slice ax m cp).ownBlock from
                ⟨(World.cell?_of_block (w := w2) (Below.heap_alloc _ _ _ hJ2)).trans cj, (World.frozen?_of_block (w := w2) (Below.heap_alloc _ _ _ hJ2)).trans (frozen_row hm2.jobs k), by show J < (w2.alloc _).heap.size; simp; omega, far hm2.jobs (by decide)⟩)
              have FP := Lib.hid (show (w2.alloc (.cells #[.pointer (some ⟨SS, 0, none⟩)] 98)).drew.cell? ⟨P, 0, none⟩ = some (.slice (some ⟨J, 0, none⟩) len len) ∧ P < (w2.alloc (.cells #[.pointer (some ⟨SS, 0, none⟩)] 98)).drew.heap.size ∧ some P ≠ (Value.slice ax m cp).ownBlock from
                ⟨(World.cell?_of_block (w := w2) (Below.heap_alloc _ _ _ hP2)).trans p0, by show P < (w2.alloc _).heap.size; simp; omega, far hm2.plan (by decide)⟩)
              have K3 := Lib.hid (fun (W : World) (x : Value) (h : W.cell? ⟨P, 0, none⟩ = some (.slice (some ⟨J, 0, none⟩) len len)) => show (W.setCell ⟨J, k, none⟩ x).cell? ⟨P, 0, none⟩ = some (.slice (some ⟨J, 0, none⟩) len len) from
                (World.cell?_setCell_other W _ _ x (by simp; intro e; exact absurd e HJP.out)).trans h)
              obtain ⟨i0, hi0, hz0, hz1, hz2⟩ := info_parts Try.infoStep7
              have hm9 : m ≤ 3 := by omega
              have HM2 := Lib.hid hm2
              have HSC := Lib.hid hSc
              have HFR := Lib.hid hfr
              have HS0 := Lib.hid hS0
              have HROW := Lib.hid hrow
              have HAX := Lib.hid hax
              have HST7 := Lib.hid hST
              have HCK := Lib.hid hck
              clear hm2 hSc hfr hrow far hax hST hw2 hSS hck q1 q2 q3 q4 q5 q6 HMK
              have cj2 := FJ.out.1
              have hkl2 : (k : Int) < (len : Int) := by omega
              refine wp_region_held_drew (S := fun w' => w'.cell? ⟨P, 0, none⟩ = some (.slice (some ⟨J, 0, none⟩) len len)) (by kernel_rfl) p0 (fun hHeld => ?_)
              refine wpAnyH_take (i := 0) (v := .pointer (some ⟨P, 0, none⟩)) rfl (by kernel_rfl) (by kernel_rfl) (by kernel_rfl) (fun _ _ _ h => h) (Or.inl ⟨by rfl, ?_⟩) hHeld ?_
              · intro w' k1; go_simp
              try simp only [Act.put, List.setIfInBounds_toArray, List.set_cons_zero, List.set_cons_succ]
              refine wpAnyH_take (i := 1) (v := .pointer (some ⟨P, 0, none⟩)) rfl (by kernel_rfl) (by kernel_rfl) (by kernel_rfl) (fun _ _ _ h => h) (Or.inl ⟨by rfl, ?_⟩) hHeld ?_
              · intro w' k1; go_simp
              try simp only [Act.put, List.setIfInBounds_toArray, List.set_cons_zero, List.set_cons_succ]
              refine wpAnyH_take (i := 2) (v := .pointer (some ⟨P, 0, none⟩)) rfl (by kernel_rfl) (by kernel_rfl) (by kernel_rfl) (fun _ _ _ h => h) (Or.inl ⟨by rfl, ?_⟩) hHeld ?_
              · intro w' k1; go_simp
              try simp only [Act.put, List.setIfInBounds_toArray, List.set_cons_zero, List.set_cons_succ]
              refine wpAnyH_take (i := 3) (v := .slice (some ⟨J, 0, none⟩) len len) rfl (by kernel_rfl) (by kernel_rfl) (by kernel_rfl) (fun _ _ _ h => h) (Or.inl ⟨by rfl, ?_⟩) hHeld ?_
              · intro w' k1; go_simp
              try simp only [Act.put, List.setIfInBounds_toArray, List.set_cons_zero, List.set_cons_succ]
              refine wpAnyH_take (i := 4) (v := .int .i64 k) rfl (by kernel_rfl) (by kernel_rfl) (by kernel_rfl) (fun _ _ _ h => h) (Or.inl ⟨by rfl, ?_⟩) hHeld ?_
              · intro w' k1; go_simp
              try simp only [Act.put, List.setIfInBounds_toArray, List.set_cons_zero, List.set_cons_succ]
              refine wpAnyH_take (i := 5) (v := .pointer (some ⟨P, 0, none⟩)) rfl (by kernel_rfl) (by kernel_rfl) (by kernel_rfl) (fun _ _ _ h => h) (Or.inl ⟨by rfl, ?_⟩) hHeld ?_
              · intro w' k1; go_simp
              try simp only [Act.put, List.setIfInBounds_toArray, List.set_cons_zero, List.set_cons_succ]
              refine wpAnyH_take (i := 6) (v := .pointer (some ⟨P, 0, none⟩)) rfl (by kernel_rfl) (by kernel_rfl) (by kernel_rfl) (fun _ _ _ h => h) (Or.inl ⟨by rfl, ?_⟩) hHeld ?_
              · intro w' k1; go_simp
              try simp only [Act.put, List.setIfInBounds_toArray, List.set_cons_zero, List.set_cons_succ]
              refine wpAnyH_take (i := 7) (v := .pointer (some ⟨P, 0, none⟩)) rfl (by kernel_rfl) (by kernel_rfl) (by kernel_rfl) (fun _ _ _ h => h) (Or.inl ⟨by rfl, ?_⟩) hHeld ?_
              · intro w' k1; go_simp
              try simp only [Act.put, List.setIfInBounds_toArray, List.set_cons_zero, List.set_cons_succ]
              refine wpAnyH_take (i := 8) (v := .slice (some ⟨J, 0, none⟩) len len) rfl (by kernel_rfl) (by kernel_rfl) (by kernel_rfl) (fun _ _ _ h => h) (Or.inl ⟨by rfl, ?_⟩) hHeld ?_
              · intro w' k1; go_simp
              try simp only [Act.put, List.setIfInBounds_toArray, List.set_cons_zero, List.set_cons_succ]
              refine wpAnyH_take (i := 9) (v := .int .i64 k) rfl (by kernel_rfl) (by kernel_rfl) (by kernel_rfl) (fun _ _ _ h => h) (Or.inl ⟨by rfl, ?_⟩) hHeld ?_
              · intro w' k1; go_simp
              try simp only [Act.put, List.setIfInBounds_toArray, List.set_cons_zero, List.set_cons_succ]
              refine wpAnyH_take (i := 10) (v := .pointer (some ⟨J, k, none⟩)) rfl (by kernel_rfl) (by kernel_rfl) (by kernel_rfl) (fun _ _ _ h => h) (Or.inl ⟨by rfl, ?_⟩) hHeld ?_
              · intro w' k1; go_simp
              try simp only [Act.put, List.setIfInBounds_toArray, List.set_cons_zero, List.set_cons_succ]
              refine wpAnyH_take (i := 12) (v := .pointer (some ⟨SS, 0, none⟩)) rfl (by kernel_rfl) (by kernel_rfl) (by kernel_rfl) (fun _ _ _ h => h) (Or.inl ⟨by rfl, ?_⟩) hHeld ?_
              · intro w' k1; go_simp
              try simp only [Act.put, List.setIfInBounds_toArray, List.set_cons_zero, List.set_cons_succ]
              refine wpAnyH_ready (rs := [11, 13]) (by kernel_rfl) (by simp) ?_
              refine AllReadyH.cons (o := _) rfl (fun K hK => ?_) (AllReadyH.cons (o := _) rfl (fun K hK => ?_) AllReadyH.nil)
              go_simp
              refine hK.out _ _ p0 (fun hHeld => ?_)
              clear hK K
              try simp only [Act.put, List.setIfInBounds_toArray, List.set_cons_zero, List.set_cons_succ]
              refine wpAnyH_ready (rs := [13]) (by kernel_rfl) (by simp) ?_
              refine AllReadyH.cons (o := _) rfl (fun K hK => ?_) AllReadyH.nil
              go_simp
              refine hK.out _ _ FP.out.1 (fun hHeld => ?_)
              clear hK K
              try simp only [Act.put, List.setIfInBounds_toArray, List.set_cons_zero, List.set_cons_succ]
              rotate_left
              go_simp
              refine hK.out _ _ FP.out.1 (fun hHeld => ?_)
              clear hK K
              try simp only [Act.put, List.setIfInBounds_toArray, List.set_cons_zero, List.set_cons_succ]
              refine wpAnyH_ready (rs := [11]) (by kernel_rfl) (by simp) ?_
              refine AllReadyH.cons (o := _) rfl (fun K hK => ?_) AllReadyH.nil
              go_simp
              refine hK.out _ _ FP.out.1 (fun hHeld => ?_)
              clear hK K
              try simp only [Act.put, List.setIfInBounds_toArray, List.set_cons_zero, List.set_cons_succ]
              all_goals
                refine wpAnyH_ready (rs := [14]) (by kernel_rfl) (by simp) ?_
                refine AllReadyH.cons (o := _) rfl (fun K hK => ?_) AllReadyH.nil
                refine step_append_lies _ (by rfl) _ _ _ (by rfl) w0.heap.size 98 i0 _ 1 8 Try.underlying104 hi0 hz0 hz1 hz2 rfl (by omega) (.slice ax m cp) m _ (by rfl) ((HROW.out.alloc _).drew) ⟨w2.heap.size, 0, none⟩ 1 1 [.pointer (some ⟨SS, 0, none⟩)] (by rfl) (by rfl) (World.news_of_block (cs := #[.pointer (some ⟨SS, 0, none⟩)]) (t := 98) (fr := (0, 0)) (heap_alloc_new w2 _)) (by simp [Value.oneCell']) (by omega) (by unfold maxLen; omega) (by omega) (by simp; omega) (w2.heap.size + 1) (by simp) ?_
                intro g c6 w6 hown hgr hat hlt6
                have k6 := (hgr.cell_far ⟨P, 0, none⟩ FP.out.2.1 FP.out.2.2).trans FP.out.1
                have j6 := (hgr.cell_far ⟨J, k, none⟩ FJ.out.2.2.1 FJ.out.2.2.2).trans FJ.out.1
                have f6 := (hgr.frozen_far ⟨J, k, none⟩ FJ.out.2.2.1 FJ.out.2.2.2).trans FJ.out.2.1
                refine hK.out _ _ k6 (fun hHeld => ?_)
                clear hK K
                try simp only [Act.put, List.setIfInBounds_toArray, List.set_cons_zero, List.set_cons_succ]
                refine wpAnyH_take (i := 15) (v := .pointer (some ⟨J, k, none⟩)) rfl (by kernel_rfl) (by kernel_rfl) (by kernel_rfl) (fun _ _ _ h => h) (Or.inl ⟨by rfl, ?_⟩) hHeld ?_
                · intro w' k1; go_simp
                try simp only [Act.put, List.setIfInBounds_toArray, List.set_cons_zero, List.set_cons_succ]
                refine wpAnyH_ready (rs := [16]) (by kernel_rfl) (by simp) ?_
                refine AllReadyH.cons (o := _) rfl (fun K hK => ?_) AllReadyH.nil
                go_simp
                refine hK.out _ _ (K3.out _ _ k6) (fun hHeld => ?_)
                clear hK K
                try simp only [Act.put, List.setIfInBounds_toArray, List.set_cons_zero, List.set_cons_succ]
                refine wpAnyH_done (by kernel_rfl) ?_ _
              all_goals
                have hgr2 : w2.grownBy w6 (Value.slice ax m cp).ownBlock := grown_comp (World.grownBy_alloc w2 _ _) (grown_comp (grownBy_drewN _ 1 _) hgr)
                have hpush := HM2.out.push (k := k) (m := m) (S := SS) (V := .slice (some ⟨g, 0, none⟩) (m + 1) c6) (w6 := w6) (by have := HL.out; omega) HCK.out HS0.out (by rw [HSC.out, ← HST7.out, ← HPA.out, ← HMM.out, ← HTT.out]) HFR.out hown (by rw [HAX.out]; exact hgr2) (by
                  rw [HAX.out]
                  rcases hat with e | e
                  · exact .inl e.symm
                  · exact .inr (fun b hb => by simp only [Value.ownBlock, Option.some.injEq] at hb; omega))
                have HPU := Lib.hid hpush
                clear hpush hgr2 hgr hown hat hlt6 k6 j6 f6
                go_wp2_with fail
                go_roundw
                case rel =>
                  refine ⟨m + 1, by have := HSE.out; omega, by go_num, setN rv k (.slice (some ⟨g, 0, none⟩) (m + 1) c6), set2 Q k m SS, ?_, ?_⟩
                  · have e : setN (cM shop k m) k (m + 1) = cM shop k (m + 1) := by
                      funext j
                      unfold setN cM
                      by_cases h1 : j = k
                      · subst h1; rw [if_pos rfl, if_neg (by omega), if_pos rfl]
                      · rw [if_neg h1]
                        by_cases h2 : j < k
                        · rw [if_pos h2, if_pos h2]
                        · rw [if_neg h2, if_neg h2, if_neg h1, if_neg h1]
                    rw [← e]
                    exact HPU.out
                  · rw [if_neg (by omega), Nat.add_sub_cancel, set2_at]
                case measure => simp [intOf]; have := HSE.out; omega
            · obtain rfl : m = slen shop k := by omega
              have e : cM shop k (slen shop k) = cM shop (k + 1) 0 := by
                funext j
                unfold cM
                by_cases h1 : j < k
                · rw [if_pos h1, if_pos (by omega)]
                · rw [if_neg h1]
                  by_cases h2 : j = k
                  · subst h2; rw [if_pos rfl, if_pos (by omega)]
                  · rw [if_neg h2, if_neg (by omega)]; split <;> rfl
              have HE := Lib.hid e
              clear hmk hr hcc hlc e
              generalize slen shop k = sl at *
              go_wp2_with fail
              go_roundw
              case rel => exact ⟨k + 1, by omega, by go_num, rv, Q, by rw [← HE.out]; exact HMK.out⟩
              case measure => simp [intOf]; omega
        · obtain rfl : k = len := by omega
          have hd := HMK0.out
          rw [← HL.out] at hd
          obtain ⟨D, hDP, hpl, hDB⟩ := hd.done
          have HD := Lib.hid (And.intro hDP (And.intro hpl hDB))
          have HB := Lib.hid hmk0.below
          clear hmk0 hd hDP hpl hDB
          go_wp2_with fail
          go_ret
          unfold PlanOfPost
          rw [HV.out, if_pos rfl]
          exact ⟨D, by rw [HD.out.1]; rfl, HD.out.2.1, by rw [HD.out.2.2]; exact Nat.le_of_eq HW.out.1, HW.out.2 _ HB.out⟩
end Go.Proofs.Ytkebdelfklmigae
