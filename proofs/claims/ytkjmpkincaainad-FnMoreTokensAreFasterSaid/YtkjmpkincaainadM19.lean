import Derived.Test.YtkjmpkincaainadRows
import Derived.WalkKit
import Derived.Conc.LoneCalls
import Derived.Orders
import Derived.Test.YtkjmpkincaainadM0
import Derived.Test.YtkjmpkincaainadM18
import Derived.OrdersHeld
import Derived.Deep.RegionHeld
namespace Go.Proofs.Ytkjmpkincaainad
open Go.Conc Go.RowKit

section
variable {P : Program} {ops : Array Oper} {Q Q' : Exit → Act → World → Prop} {a : Act} {w : World}
/-- any operation, told by the walk's own word, under a post that knows no panic and no end of room -/
theorem runsO_any {i : Nat} {rest : List Nat} {K : Act → World → Prop} (hp : ∀ c a w, ¬ Q' (.panic c) a w) (hg : ∀ a w, ¬ Q' .outgrown a w) (h : wpOp P ops Q' i K a w) (hK : ∀ a w, K a w → runsO P ops Q rest a w) : runsO P ops Q (i :: rest) a w := by
  unfold wpOp at h
  cases ho : ops[i]? with
  | none =>
    rw [ho] at h
    intro b k cs hk
    obtain ⟨e, a', w2, hq, har⟩ := hK a w h b k cs hk
    have hs := step_op_skip (P := P) (b := b) (a := a) (k := k) (cs := cs) (w := w) (ops := ops) (i := i) (rest := rest) (by simp [ho])
    simp only [ho, Option.bind_none, Act.put] at hs
    exact ⟨e, a', w2, hq, .of_steps (.one hs) har⟩
  | some o =>
    rw [ho] at h
    by_cases hw : Region.wanted o (yielded ops a.tmps) = true
    · simp only [hw, if_true] at h
      rcases h with h | ⟨_, a0, w0, hq⟩
      · unfold Oper.wp at h
        generalize hr : (execOp a.eval o).run P w = res at h
        have one : ∀ (x : Act) (v : Value) (w' : World), (∀ (b : Frame) (k : List Item) (cs : List Frame), step P (lone (b.at a (.inRegion ops (i :: rest) :: k)) cs w) = .next (lone (b.at (x.put o.dst v) (.inRegion ops rest :: k)) cs w')) → K (x.put o.dst v) w' → runsO P ops Q (i :: rest) a w := fun x v w' hs hk b k cs hkn => by
          obtain ⟨e, a', w2, hq, har⟩ := hK _ _ hk b k cs hkn
          exact ⟨e, a', w2, hq, .of_steps (.one (hs b k cs)) har⟩
        have hfin : ∀ (b : Frame) (k : List Item) (x : Act) (v : Value), (b.at x (.inRegion ops (i :: rest) :: k)).finish v = b.at (x.put o.dst v) (.inRegion ops rest :: k) := fun b k x v => by rw [Frame.finish_at, ho]; rfl
        have hstep := fun (b : Frame) (k : List Item) (cs : List Frame) => stepG_op (P := P) (b := b) (k := k) (cs := cs) (w := w) (rest := rest) ho hw
        cases res with
        | ok n w' =>
          cases n with
          | value v => exact one a v w' (fun b k cs => step_lone_go (by rw [hstep, ← hfin]; simp [stepG.apply, hr])) h
          | skip => exact one a undef w' (fun b k cs => step_lone_go (by rw [hstep, ← hfin]; simp [stepG.apply, hr])) h
          | defer d =>
            refine one { a with defers := d :: a.defers } undef w' (fun b k cs => step_lone_go ?_) h
            have e := hfin b k { a with defers := d :: a.defers } undef
            rw [hstep]; simp only [stepG.apply, Sem.runT_eq, hr, GStep.bare_after]
            exact congrArg (fun fr => GStep.go { frame := fr, callers := cs, status := .running, dying := none } w') e
          | enter f args =>
            refine runsO_op (K := K) ho hw (.inr ⟨f, args, w', hr, Calls.mono h fun e w2 he => ?_⟩) hK
            cases e with
            | returned v => exact ⟨v, rfl, he⟩
            | panicked ch => exact absurd he (hp _ _ _)
            | outgrown => obtain ⟨a0, w0, hq⟩ := he; exact absurd hq (hg _ _)
          | row row args =>
            intro b k cs hkn
            obtain ⟨v, w2, hR, hsteps⟩ := h (b.at a (.inRegion ops (i :: rest) :: k)) cs
            have hin : step P (lone (b.at a (.inRegion ops (i :: rest) :: k)) cs w) = .next (lone (Frame.ofRow P row args .normal) (b.at a (.inRegion ops (i :: rest) :: k) :: cs) w') := step_lone_go (by rw [hstep]; simp [stepG.apply, hr, Frame.at])
            obtain ⟨e, a', w3, hq, har⟩ := hK _ _ hR b k cs hkn
            refine ⟨e, a', w3, hq, .of_steps (.head hin ?_) har⟩
            rw [← hfin]; exact hsteps
          | _ => exact h.elim
        | halt x w' =>
          cases x with
          | panic v => exact absurd h (hp _ _ _)
          | _ => exact h.elim
      · exact absurd hq (hg _ _)
    · simp only [hw] at h
      intro b k cs hk
      obtain ⟨e, a', w2, hq, har⟩ := hK _ _ h b k cs hk
      have hs := step_op_skip (P := P) (b := b) (a := a) (k := k) (cs := cs) (w := w) (ops := ops) (i := i) (rest := rest) (by simp [ho]; simpa using hw)
      simp only [ho, Option.bind_some] at hs
      exact ⟨e, a', w2, hq, .of_steps (.one hs) har⟩
/-- what is listed stands behind all that it must stand behind -/
def Closed (ops : Array Oper) (listed : Array Bool) : Prop := listed.size = ops.size ∧ ∀ (i : Nat) (o : Oper), ops[i]? = some o → listed.getD i false = true → ∀ e ∈ o.after, Region.binds .any e = true → listed.getD e.on false = true
theorem closed_none (ops : Array Oper) : Closed ops (Array.replicate ops.size false) := ⟨by simp, fun i o _ h => by
  exfalso
  by_cases hi : i < ops.size
  · simp [Array.getD, hi] at h
  · simp [Array.getD, hi] at h⟩
theorem ready_mem {ops : Array Oper} {listed : Array Bool} {i : Nat} (h : i ∈ Region.ready .any ops listed) : ∃ o, ops[i]? = some o ∧ listed.getD i true = false ∧ ∀ e ∈ o.after, Region.binds .any e = true → listed.getD e.on false = true := by
  unfold Region.ready at h
  rw [List.mem_filter] at h
  obtain ⟨h1, h2⟩ := h
  have hi := List.mem_range.1 h1
  obtain ⟨o, ho⟩ : ∃ o, ops[i]? = some o := ⟨ops[i], Array.getElem?_eq_getElem hi⟩
  rw [ho] at h2
  simp only [Bool.and_eq_true, Bool.not_eq_true', Option.map_some, Option.getD_some, Array.all_eq_true_iff_forall_mem] at h2
  refine ⟨o, ho, h2.1, fun e he hb => ?_⟩
  have := h2.2 e he
  rw [hb] at this
  simpa using this
theorem getD_set {l : Array Bool} {i j : Nat} (h : l.getD j false = true) : (l.setIfInBounds i true).getD j false = true := by
  rw [Array.getD_eq_getD_getElem?] at h ⊢
  rw [Array.getElem?_setIfInBounds]
  split
  · split
    · rfl
    · rename_i e hn; subst e; rw [Array.getElem?_eq_none (by omega)] at h; exact h
  · exact h
theorem getD_unset {l : Array Bool} {i j : Nat} {d : Bool} (hij : i ≠ j) : (l.setIfInBounds i true).getD j d = l.getD j d := by
  rw [Array.getD_eq_getD_getElem?, Array.getD_eq_getD_getElem?, Array.getElem?_setIfInBounds, if_neg hij]
theorem closed_set {ops : Array Oper} {listed : Array Bool} {i : Nat} (h : Closed ops listed) (hi : i ∈ Region.ready .any ops listed) : Closed ops (listed.setIfInBounds i true) := by
  obtain ⟨o, ho, _, haf⟩ := ready_mem hi
  refine ⟨by simp [h.1], fun j p hp hj e he hb => ?_⟩
  by_cases hij : i = j
  · subst hij
    rw [ho] at hp
    injection hp with hp
    subst hp
    exact getD_set (haf e he hb)
  · rw [getD_unset hij] at hj
    exact getD_set (h.2 j p hp hj e he hb)
/-- what is left over has a first one that is ready -/
theorem ready_some {ops : Array Oper} (htop : ∀ (i : Nat) (o : Oper), ops[i]? = some o → ∀ e ∈ o.after, e.on < i) {l : Array Bool} (hs : l.size = ops.size) : ∀ (i : Nat), i < ops.size → l.getD i true = false → Region.ready .any ops l ≠ [] := by
  intro i
  induction i using Nat.strongRecOn with
  | _ i ih =>
    intro hi hl hr
    by_cases hall : ∀ j, j < i → l.getD j true = true
    · have hm : i ∈ Region.ready .any ops l := by
        unfold Region.ready
        rw [List.mem_filter]
        refine ⟨List.mem_range.2 hi, ?_⟩
        obtain ⟨o, ho⟩ : ∃ o, ops[i]? = some o := ⟨ops[i], Array.getElem?_eq_getElem hi⟩
        rw [ho, hl]
        simp only [Bool.not_false, Bool.true_and, Option.map_some, Option.getD_some, Array.all_eq_true_iff_forall_mem]
        intro e he
        have h1 := htop i o ho e he
        have h2 := hall _ h1
        have h3 : l.getD e.on false = true := by
          rw [Array.getD_eq_getD_getElem?] at h2 ⊢
          rw [Array.getElem?_eq_getElem (by omega)] at h2 ⊢
          exact h2
        rw [h3]; simp
      rw [hr] at hm; cases hm
    · obtain ⟨j, hj⟩ := Classical.not_forall.1 hall
      have hji : j < i := Classical.byContradiction fun h => hj (fun h' => absurd h' h)
      have hjf : l.getD j true = false := by
        cases e : l.getD j true
        · rfl
        · exact absurd (fun _ => e) hj
      exact ih j hji (by omega) hjf hr
/-- a region that draws its order and ends in one operation of another kind: walked with that one made harmless -/
theorem runs_last {ops' : Array Oper} {s : Nat} (hsz : s < ops.size) (hag : ∀ i, i ≠ s → ops'[i]? = ops[i]?) (hrd : ∀ l, Region.ready .any ops' l = Region.ready .any ops l)
    (hharm : ∀ K a w, wpOp P ops' Q' s K a w → K a w) (hlast : ∀ l, Closed ops l → s ∈ Region.ready .any ops l → Region.ready .any ops (l.setIfInBounds s true) = [])
    (htop : ∀ (i : Nat) (o : Oper), ops[i]? = some o → ∀ e ∈ o.after, e.on < i) (hgd : ∀ (i : Nat) (o : Oper), ops[i]? = some o → o.guard = none)
    (hp : ∀ c a w, ¬ Q' (.panic c) a w) (hg : ∀ a w, ¬ Q' .outgrown a w) (hend : ∀ a w, Q' .normal a w → runsO P ops Q [s] a w) :
    ∀ (fuel t : Nat) (listed : Array Bool) (a : Act) (w : World), Closed ops listed → listed.getD s true = false → wpAny P .any ops' Q' fuel listed a w → runsO P ops Q (Region.linearise.go .any ops fuel t listed []) a w := by
  intro fuel
  induction fuel with
  | zero =>
    intro t listed a w hc hs h
    exact absurd (by rw [← hrd]; exact h.1) (ready_some htop hc.1 s hsz hs)
  | succ fuel ih =>
    intro t listed a w hc hs h
    obtain ⟨_, h1⟩ := h
    have hne := ready_some htop hc.1 s hsz hs
    have hlen : 0 < (Region.ready .any ops listed).length := List.length_pos_iff.2 hne
    have hlt : t % (Region.ready .any ops listed).length < (Region.ready .any ops listed).length := Nat.mod_lt _ hlen
    obtain ⟨i, hi⟩ : ∃ i, (Region.ready .any ops listed)[t % (Region.ready .any ops listed).length]? = some i := ⟨_, List.getElem?_eq_getElem hlt⟩
    have hmem := List.mem_of_getElem? hi
    have hgo : Region.linearise.go .any ops (fuel + 1) t listed [] = i :: Region.linearise.go .any ops fuel (t / (Region.ready .any ops listed).length) (listed.setIfInBounds i true) [] := by
      simp only [Region.linearise.go]
      change (match (Region.ready .any ops listed)[t % (Region.ready .any ops listed).length]? with
        | some i => Region.linearise.go .any ops fuel (t / (Region.ready .any ops listed).length) (listed.setIfInBounds i true) [i]
        | none => [].reverse) = _
      rw [hi]
      simp only []
      rw [linearise_go_acc]; rfl
    rw [hgo]
    have hw := h1 i (by rw [hrd]; exact hmem)
    by_cases his : i = s
    · subst his
      have hnil := hlast listed hc hmem
      have hnext := hharm _ _ _ hw
      have hq : Q' .normal a w := by
        cases fuel with
        | zero => exact hnext.2
        | succ f => exact hnext.1 (by rw [hrd]; exact hnil)
      have hl : Region.linearise.go .any ops fuel (t / (Region.ready .any ops listed).length) (listed.setIfInBounds i true) [] = [] := by
        cases fuel with
        | zero => rfl
        | succ f =>
          simp only [Region.linearise.go]
          change (match (Region.ready .any ops (listed.setIfInBounds i true))[_]? with
            | some j => Region.linearise.go .any ops f _ ((listed.setIfInBounds i true).setIfInBounds j true) [j]
            | none => [].reverse) = []
          rw [hnil]; rfl
      rw [hl]
      exact hend a w hq
    · have hw2 : wpOp P ops Q' i (wpAny P .any ops' Q' fuel (listed.setIfInBounds i true)) a w := by
        unfold wpOp at hw ⊢
        rw [hag i his] at hw
        cases ho : ops[i]? with
        | none => rw [ho] at hw; exact hw
        | some o =>
          rw [ho] at hw
          have e1 : ∀ y, Region.wanted o y = true := fun y => by simp [Region.wanted, hgd i o ho]
          simp only [e1, if_true] at hw ⊢
          exact hw
      exact runsO_any hp hg hw2 fun a2 w2 h2 => ih _ _ a2 w2 (closed_set hc hmem) (by rw [getD_unset his]; exact hs) h2
end
end Go.Proofs.Ytkjmpkincaainad
namespace Go.Proofs.Ytkjmpkincaainad
open Go.Conc Go.RowKit

/-- a post that only the normal way out meets -/
def onlyN (M : Act → World → Prop) : Exit → Act → World → Prop
  | .normal, a, w => M a w
  | _, _, _ => False
section
variable {P : Program} {ops : Array Oper} {Q : Exit → Act → World → Prop} {a : Act} {w : World}
theorem ready_after {s : Nat} {o o' : Oper} (ho : ops[s]? = some o) (h : o'.after = o.after) (l : Array Bool) : Region.ready .any (ops.setIfInBounds s o') l = Region.ready .any ops l := by
  unfold Region.ready
  rw [Array.size_setIfInBounds]
  congr 1
  funext i
  by_cases hi : s = i
  · subst hi
    have hlt : s < ops.size := by
      rcases Nat.lt_or_ge s ops.size with h | h
      · exact h
      · rw [Array.getElem?_eq_none h] at ho; cases ho
    rw [ho, Array.getElem?_setIfInBounds, if_pos rfl, if_pos hlt]
    simp [h]
  · rw [Array.getElem?_setIfInBounds, if_neg hi]
theorem harmless {s : Nat} {o : Oper} {x : Operand} {Q' : Exit → Act → World → Prop} (ho : ops[s]? = some o) (hgd : o.guard = none) (hg : ∀ a w, ¬ Q' .outgrown a w) (K : Act → World → Prop) (a : Act) (w : World)
    (h : wpOp P (ops.setIfInBounds s { o with dst := none, op := .move x }) Q' s K a w) : K a w := by
  have hlt : s < ops.size := by
    rcases Nat.lt_or_ge s ops.size with h | h
    · exact h
    · rw [Array.getElem?_eq_none h] at ho; cases ho
  unfold wpOp at h
  rw [Array.getElem?_setIfInBounds, if_pos rfl, if_pos hlt] at h
  simp only [Region.wanted, hgd, if_true] at h
  rcases h with h | ⟨_, a0, w0, hq⟩
  · exact h
  · exact absurd hq (hg _ _)
/-- a region that draws its order and ends in one operation of another kind (s), walked with that one made harmless -/
theorem runs_held {id s : Nat} {o : Oper} (x : Operand) {S : World → Prop} {M : Act → World → Prop} (hfol : P.follows .mixedOrders = true) (ho : ops[s]? = some o)
    (hlast : ∀ l, Closed ops l → s ∈ Region.ready .any ops l → Region.ready .any ops (l.setIfInBounds s true) = [])
    (htop : ((List.range ops.size).all fun i => ((ops[i]?).map fun o => o.after.all fun e => decide (e.on < i)).getD true) = true)
    (hgd : (ops.all fun o => o.guard.isNone) = true) (hS : S w.drew)
    (h : S w.drew → wpAnyH P .any (ops.setIfInBounds s { o with dst := none, op := .move x }) (onlyN M) S ops.size (Array.replicate ops.size false) a w.drew)
    (hend : ∀ a w, M a w → runsO P ops Q [s] a w) : runsC P (.region id ops true) Q a w := by
  have hlt : s < ops.size := by
    rcases Nat.lt_or_ge s ops.size with h | h
    · exact h
    · rw [Array.getElem?_eq_none h] at ho; cases ho
  have hgd' : ∀ (i : Nat) (o : Oper), ops[i]? = some o → o.guard = none := fun i o hi => by
    have h1 := Array.all_eq_true_iff_forall_mem.1 hgd o (Array.mem_of_getElem? hi)
    simpa using h1
  have htop' : ∀ (i : Nat) (o : Oper), ops[i]? = some o → ∀ e ∈ o.after, e.on < i := fun i o hi e he => by
    have hi' : i < ops.size := by
      rcases Nat.lt_or_ge i ops.size with h | h
      · exact h
      · rw [Array.getElem?_eq_none h] at hi; cases hi
    have h1 := List.all_eq_true.1 htop i (List.mem_range.2 hi')
    rw [hi] at h1
    have h2 := Array.all_eq_true_iff_forall_mem.1 (show o.after.all (fun e => decide (e.on < i)) = true from h1) e he
    exact of_decide_eq_true h2
  refine runs_region_draw fun t => ?_
  have hsch : Region.schedule (P.follows .mixedOrders) ops t = Region.linearise.go .any ops ops.size t (Array.replicate ops.size false) [] := by rw [hfol]; rfl
  rw [hsch]
  refine runs_last (Q' := onlyN M) (ops' := ops.setIfInBounds s { o with dst := none, op := .move x }) hlt (fun i hi => by rw [Array.getElem?_setIfInBounds, if_neg (fun h => hi h.symm)]) (ready_after ho rfl)
    (harmless ho (hgd' s o ho) (fun _ _ h => h)) hlast htop' hgd' (fun _ _ _ h => h) (fun _ _ h => h) (fun a w hm => hend a w hm) _ _ _ _ _ (closed_none ops) (by simp [Array.getD, hlt]) (wpAny_of_held _ _ _ _ (h hS))
/-- all listed: none is ready -/
theorem ready_nil {l : Array Bool} (h : ∀ i, i < ops.size → l.getD i true = true) : Region.ready .any ops l = [] := by
  unfold Region.ready
  rw [List.filter_eq_nil_iff]
  intro i hi
  rw [h i (List.mem_range.1 hi)]
  simp
/-- the last operation of a region on which, by way of each one's parent, all others bear -/
theorem last_all {s : Nat} (par : Nat → Nat) (hsz : ops.size = s + 1)
    (hpar : ((List.range s).all fun i => decide (i < par i) && decide (par i ≤ s) && ((ops[par i]?).map fun o => o.after.any fun e => decide (e.on = i) && Region.binds .any e).getD false) = true) (l : Array Bool) (hc : Closed ops l) (hs : s ∈ Region.ready .any ops l) :
    Region.ready .any ops (l.setIfInBounds s true) = [] := by
  obtain ⟨o, ho, _, haf⟩ := ready_mem hs
  have hp : ∀ i, i < s → i < par i ∧ par i ≤ s ∧ ∃ o e, ops[par i]? = some o ∧ e ∈ o.after ∧ e.on = i ∧ Region.binds .any e = true := fun i hi => by
    have h1 := List.all_eq_true.1 hpar i (List.mem_range.2 hi)
    simp only [Bool.and_eq_true, decide_eq_true_eq] at h1
    obtain ⟨⟨h1, h2⟩, h3⟩ := h1
    refine ⟨h1, h2, ?_⟩
    cases hq : ops[par i]? with
    | none => rw [hq] at h3; cases h3
    | some q =>
      rw [hq] at h3
      have h4 : q.after.toList.any (fun e => decide (e.on = i) && Region.binds .any e) = true := by rw [Array.any_toList]; exact h3
      obtain ⟨e, he, h5⟩ := List.any_eq_true.1 h4
      simp only [Bool.and_eq_true, decide_eq_true_eq] at h5
      exact ⟨q, e, rfl, Array.mem_toList_iff.1 he, h5.1, h5.2⟩
  have key : ∀ m i, s - i ≤ m → i < s → l.getD i false = true := by
    intro m
    induction m with
    | zero => intro i h1 h2; omega
    | succ m ih =>
      intro i h1 h2
      obtain ⟨ha, hb, q, e, hq, he, h4, h5⟩ := hp i h2
      by_cases hps : par i = s
      · rw [hps, ho] at hq
        injection hq with hq
        subst hq
        have := haf e he h5
        rw [h4] at this; exact this
      · have := hc.2 (par i) q hq (ih (par i) (by omega) (by omega)) e he h5
        rw [h4] at this; exact this
  refine ready_nil fun i hi => ?_
  by_cases his : i = s
  · subst his
    rw [Array.getD_eq_getD_getElem?, Array.getElem?_setIfInBounds, if_pos rfl, if_pos (by rw [hc.1]; omega)]; rfl
  · rw [getD_unset (fun h => his h.symm)]
    have h1 := key _ i (Nat.le_refl _) (by omega)
    rw [Array.getD_eq_getD_getElem?] at h1 ⊢
    rw [Array.getElem?_eq_getElem (by rw [hc.1]; omega)] at h1 ⊢
    exact h1
end
end Go.Proofs.Ytkjmpkincaainad
