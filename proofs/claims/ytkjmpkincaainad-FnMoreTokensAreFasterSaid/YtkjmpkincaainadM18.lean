import Derived.Test.YtkjmpkincaainadRows
import Derived.WalkKit
import Derived.LoopTactic
import Derived.Outline
import Derived.WalkSpells
import Derived.WalkLawsBesides
import Derived.ProofKit
import Derived.Lib.Hide
import Derived.IntWalk
import Derived.Test.YtkjmpkincaainadM0
import Derived.Test.YtkjmpkincaainadM6
import Derived.Test.YtkjmpkincaainadM11
import Derived.Test.YtkjmpkincaainadM12
import Derived.Test.YtkjmpkincaainadM15
import Derived.Test.YtkjmpkincaainadM17
import Derived.Test.YtkjmpkincaainadM1
import Derived.Test.YtkjmpkincaainadM3
import Derived.Conc.LoneCalls
import Derived.Orders
import Derived.Deep.QuietTactic
import Derived.BigQuiet
import Derived.Test.YtkjmpkincaainadM10
namespace Go.Proofs.Ytkjmpkincaainad
open Go.RowKit Go.WideShapes

theorem rowsP_nil {w w' : World} (h : Below w.heap.size w w') : RowsP w [] (.returned (.slice none 0 0)) w' := ⟨none, 0, 0, rfl, ⟨rfl, Nat.zero_le _, fun h => absurd h (by omega)⟩, Nat.le_refl _, h⟩
set_option maxRecDepth 100000 in
set_option maxHeartbeats 4000000 in
theorem beginsAt_spec (d : NV) (ts : List Int) (rows : List (List Int)) (r : Int) (w : World) (h : NetAt w (· < w.heap.size) d ts rows) :
    Calls Try.prog 9 #[.agg #[.slice d.aT d.lT d.cT, .slice d.aW d.lW d.cW], .int .i64 r] w (RowsP w (begRes ts rows r)) := by
  have HV := Lib.hid (fun w' (hb : Below w.heap.size w w') => validNet_any d ts rows w' (net_lift h hb))
  have HD := Lib.hid (fun w' (hb : Below w.heap.size w w') hv => dead_any d ts rows w' (net_lift h hb) hv)
  have HP := Lib.hid (fun w' (hb : Below w.heap.size w w') hal R hR => begins_any d ts rows R w' (net_lift h hb) hal hR)
  obtain ⟨aT, lT, cT, aW, lW, cW⟩ := d
  clear h
  dsimp only at HV HD HP
  have HAL : Hid (aliveB ts rows = (tokM ts rows && !(grOf ts rows).deadB)) := Lib.hid rfl
  have hb1 := (Below.refl w.heap.size w).alloc (Nat.le_refl _) (.cells #[.slice aT lT cT, .slice aW lW cW] 26)
  have hn1 := netB_new w aT lT cT aW lW cW 26
  obtain ⟨w1, hw1⟩ : ∃ w1, (w.alloc (.cells #[.slice aT lT cT, .slice aW lW cW] 26)) = w1 := ⟨_, rfl⟩
  rw [hw1] at hb1 hn1
  have HW1 := Lib.hid hw1
  have HB1 := Lib.hid hb1
  have HN1 := Lib.hid hn1
  clear hw1 hb1 hn1
  cases hv : tokM ts rows
  · rw [hv] at HV HAL
    rw [begRes_no (.inl HAL.out)]
    clear hv HD HP
    go_enter Try.func9, Try.ntmps9
    obtain ⟨n0, n1⟩ := HN1.out
    dsimp only at n0 n1
    go_wp2_with fail
    rw [HW1.out]
    refine (HV.out w1 HB1.out).mono ?_
    rintro e w3 ⟨rfl, hb3⟩
    have HB3 := Lib.hid (HB1.out.trans (hb3.mono HB1.out.size))
    clear hb3
    go_wp2_with fail
    go_ret
    exact rowsP_nil HB3.out
  · rw [hv] at HV HAL
    have HD2 := Lib.hid (fun w' hb => HD.out w' hb hv)
    clear hv HD
    cases hdd : (grOf ts rows).deadB
    · rw [hdd] at HD2 HAL
      cases hr : inB 0 40 r
      · rw [begRes_no (.inr hr)]
        clear hdd
        go_enter Try.func9, Try.ntmps9
        obtain ⟨n0, n1⟩ := HN1.out
        dsimp only at n0 n1
        go_wp2_with fail
        rw [HW1.out]
        refine (HV.out w1 HB1.out).mono ?_
        rintro e w3 ⟨rfl, hb3⟩
        have HB3 := Lib.hid (HB1.out.trans (hb3.mono HB1.out.size))
        have HN3 := Lib.hid (HN1.out.block (hb3.block _ HN1.out.lt))
        clear hb3 n0 n1
        obtain ⟨n0, n1⟩ := HN3.out
        dsimp only at n0 n1
        go_wp2_with fail
        refine (HD2.out w3 HB3.out).mono ?_
        rintro e w4 ⟨rfl, hb4⟩
        have HB4 := Lib.hid (HB3.out.trans (hb4.mono HB3.out.size))
        clear hb4 n0 n1
        go_wp2_with fail
        refine (inR hr w4).mono ?_
        rintro e w' ⟨rfl, he⟩
        obtain rfl := he.symm
        clear hr
        go_wp2_with fail
        go_ret
        exact rowsP_nil HB4.out
      · have HI := Lib.hid (inR hr)
        have hrr := inB_of hr
        obtain ⟨R, rfl⟩ : ∃ R : Nat, r = (R : Int) := ⟨r.toNat, by omega⟩
        rw [begRes_yes HAL.out (by omega)]
        have HP2 := Lib.hid (fun w' hb => HP.out w' hb HAL.out R (by omega))
        clear hdd hr HP
        go_enter Try.func9, Try.ntmps9
        obtain ⟨n0, n1⟩ := HN1.out
        dsimp only at n0 n1
        go_wp2_with fail
        rw [HW1.out]
        refine (HV.out w1 HB1.out).mono ?_
        rintro e w3 ⟨rfl, hb3⟩
        have HB3 := Lib.hid (HB1.out.trans (hb3.mono HB1.out.size))
        have HN3 := Lib.hid (HN1.out.block (hb3.block _ HN1.out.lt))
        clear hb3 n0 n1
        obtain ⟨n0, n1⟩ := HN3.out
        dsimp only at n0 n1
        go_wp2_with fail
        refine (HD2.out w3 HB3.out).mono ?_
        rintro e w4 ⟨rfl, hb4⟩
        have HB4 := Lib.hid (HB3.out.trans (hb4.mono HB3.out.size))
        have HN4 := Lib.hid (HN3.out.block (hb4.block _ HN3.out.lt))
        clear hb4 n0 n1
        go_wp2_with fail
        refine (HI.out w4).mono ?_
        rintro e w' ⟨rfl, he⟩
        obtain rfl := he.symm
        obtain ⟨n0, n1⟩ := HN4.out
        dsimp only at n0 n1
        go_wp2_with fail
        refine (HP2.out w4 HB4.out).mono ?_
        rintro e w5 ⟨a5, l5, c5, rfl, hro, hlc, hb5⟩
        have HRO := Lib.hid hro
        have HB5 := Lib.hid (HB4.out.trans (hb5.mono HB4.out.size))
        clear hb5 hro n0 n1
        go_wp2_with fail
        go_ret
        exact ⟨a5, l5, c5, rfl, HRO.out.to (fun b hb => ⟨⟨Nat.le_trans HB4.out.size hb.1, hb.2⟩, rfl⟩), hlc, HB5.out⟩
    · rw [hdd] at HD2 HAL
      rw [begRes_no (.inl HAL.out)]
      clear hdd HP
      go_enter Try.func9, Try.ntmps9
      obtain ⟨n0, n1⟩ := HN1.out
      dsimp only at n0 n1
      go_wp2_with fail
      rw [HW1.out]
      refine (HV.out w1 HB1.out).mono ?_
      rintro e w3 ⟨rfl, hb3⟩
      have HB3 := Lib.hid (HB1.out.trans (hb3.mono HB1.out.size))
      have HN3 := Lib.hid (HN1.out.block (hb3.block _ HN1.out.lt))
      clear hb3 n0 n1
      obtain ⟨n0, n1⟩ := HN3.out
      dsimp only at n0 n1
      go_wp2_with fail
      refine (HD2.out w3 HB3.out).mono ?_
      rintro e w4 ⟨rfl, hb4⟩
      have HB4 := Lib.hid (HB3.out.trans (hb4.mono HB3.out.size))
      clear hb4 n0 n1
      go_wp2_with fail
      go_ret
      exact rowsP_nil HB4.out
end Go.Proofs.Ytkjmpkincaainad
namespace Go.Proofs.Ytkjmpkincaainad
open Go.RowKit Go.WideShapes

-- blocks, whole
theorem heap_set {w : World} {b i : Nat} {cs : Array Value} {t : TypeId} {fr : Nat × Nat} (h : w.heap[b]? = some (.cells cs t fr)) (v : Value) :
    (w.setCell ⟨b, i, none⟩ v).heap[b]? = some (.cells (cs.setIfInBounds i v) t fr) := by
  simp [World.setCell, Array.getElem?_modify, h]
theorem heap_set_ne {w : World} {b c i : Nat} (h : c ≠ b) (v : Value) : (w.setCell ⟨b, i, none⟩ v).heap[c]? = w.heap[c]? := Below.heap_setCell _ _ _ _ h
theorem frozen_row {w : World} {b : Nat} {cs : Array Value} {t : TypeId} (h : w.heap[b]? = some (.cells cs t (0, 0))) (i : Nat) : w.frozen? ⟨b, i, none⟩ = false := by
  simp [World.frozen?, h]
theorem ne_type {w : World} {b c : Nat} {cs ds : Array Value} {t u : TypeId} {fr gr : Nat × Nat} (h : w.heap[b]? = some (.cells cs t fr)) (g : w.heap[c]? = some (.cells ds u gr)) (hn : t ≠ u) : b ≠ c := by
  rintro rfl
  rw [h] at g
  simp only [Option.some.injEq, Obj.cells.injEq] at g
  exact hn g.2.1
theorem lt_heap {w : World} {b : Nat} {o : Obj} (h : w.heap[b]? = some o) : b < w.heap.size := (Array.getElem?_eq_some_iff.1 h).1

def tabV (f : Nat → Value) (n : Nat) : Array Value := ((List.range n).map f).toArray
theorem tabV_get (f : Nat → Value) {n j : Nat} (h : j < n) : (tabV f n)[j]? = some (f j) := by simp [tabV, h]
theorem tabV_congr {f g : Nat → Value} {n : Nat} (h : ∀ j, j < n → f j = g j) : tabV f n = tabV g n := by
  unfold tabV
  rw [List.map_congr_left fun j hj => h j (List.mem_range.1 hj)]
theorem tabV_set (f : Nat → Value) (n j : Nat) (v : Value) : (tabV f n).setIfInBounds j v = tabV (setN f j v) n := by
  apply Array.ext_getElem?
  intro i
  rw [Array.getElem?_setIfInBounds]
  by_cases hi : i < n
  · rw [tabV_get _ hi, tabV_get _ hi]
    by_cases e : j = i
    · subst e; rw [if_pos rfl, setN_at, if_pos (by simp [tabV, hi])]
    · rw [if_neg e, setN_ne _ _ (fun h => e h.symm)]
  · have h1 : (tabV f n)[i]? = none := by simp [tabV]; omega
    have h2 : (tabV (setN f j v) n)[i]? = none := by simp [tabV]; omega
    rw [h1, h2]
    split
    · rw [if_neg (by simp [tabV]; omega)]
    · rfl
end Go.Proofs.Ytkjmpkincaainad
namespace Go.Proofs.Ytkjmpkincaainad
open Go.Conc Go.RowKit

-- a walk in which a channel is used, nobody else being there: told for frames of calls
/-- from this code the run comes to an exit of which Q holds, in any frame that is not an early one -/
def runsC (P : Program) (c : Code) (Q : Exit → Act → World → Prop) (a : Act) (w : World) : Prop :=
  ∀ (b : Frame) (k : List Item) (cs : List Frame), b.kind ≠ .early → ∃ e a' w', Q e a' w' ∧ Arrives P (lone (b.at a (.code c :: k)) cs w) b k cs e a' w'
section
variable {P : Program} {Q : Exit → Act → World → Prop} {a : Act} {w : World}
theorem runs_wp {c : Code} (h : c.wp P Q a w) : runsC P c Q a w := fun b k cs _ => h b k cs
theorem runs_seq {x y : Code} {M : Act → World → Prop} (h : runsC P x (Exit.then M Q) a w) (hy : ∀ a w, M a w → runsC P y Q a w) : runsC P (.seq x y) Q a w := fun b k cs hk => by
  obtain ⟨e, a1, w1, hq, har⟩ := h b (.code y :: k) cs hk
  by_cases he : e = .normal
  · subst he
    obtain ⟨e2, a2, w2, hq2, har2⟩ := hy a1 w1 hq b k cs hk
    exact ⟨e2, a2, w2, hq2, .of_steps (.head step_seq har) har2⟩
  · refine ⟨e, a1, w1, ?_, .of_steps (.one step_seq) (.pass (x := .code y) rfl (fun _ _ => .inl he) har)⟩
    cases e with
    | normal => exact absurd rfl he
    | _ => exact hq
theorem runs_loop {c : Code} (I : Nat → Act → World → Prop) (n : Nat) (h0 : I n a w) (hI : ∀ n a w, I n a w → runsC P c (Exit.then (fun a w => ∃ m, m < n ∧ I m a w) Q) a w) : runsC P (.loop c) Q a w := fun b k cs hk => by
  have key : ∀ n a w, I n a w → ∃ e a' w', Q e a' w' ∧ Arrives P (lone (b.at a (.code c :: .inLoop c :: k)) cs w) b k cs e a' w' := by
    intro n
    induction n using Nat.strongRecOn with
    | _ n ih =>
      intro a w h
      obtain ⟨e, a1, w1, hq, har⟩ := hI n a w h b (.inLoop c :: k) cs hk
      by_cases he : e = .normal
      · subst he
        obtain ⟨m, hm, h1⟩ := hq
        obtain ⟨e2, a2, w2, hq2, har2⟩ := ih m hm a1 w1 h1
        exact ⟨e2, a2, w2, hq2, .of_steps (Steps.trans har (.one step_inLoop)) har2⟩
      · refine ⟨e, a1, w1, ?_, .pass (x := .inLoop c) rfl (fun _ _ => .inl he) har⟩
        cases e with
        | normal => exact absurd rfl he
        | _ => exact hq
  obtain ⟨e, a', w', hq, har⟩ := key n a w h0
  exact ⟨e, a', w', hq, .of_steps (.one step_loop) har⟩
theorem runs_cond {c : Operand} {x y : Code} {t : Bool} (hc : a.eval c = .bool t) (h : runsC P (if t then x else y) Q a w) : runsC P (.cond c x y) Q a w := fun b k cs hk => by
  obtain ⟨e, a', w', hq, har⟩ := h b k cs hk
  exact ⟨e, a', w', hq, .of_steps (.one (step_cond hc)) har⟩
theorem runs_mono {c : Code} {Q' : Exit → Act → World → Prop} (h : runsC P c Q a w) (hq : ∀ e a w, Q e a w → Q' e a w) : runsC P c Q' a w := fun b k cs hk => by
  obtain ⟨e, a', w', q, har⟩ := h b k cs hk
  exact ⟨e, a', w', hq _ _ _ q, har⟩
theorem runs_block {id : Nat} {c : Code} (h : runsC P c (Exit.inBlock id Q) a w) : runsC P (.block id c) Q a w := fun b k cs hk => by
  obtain ⟨e, a1, w1, hq, har⟩ := h b (.inBlock id :: k) cs hk
  cases e with
  | normal => exact ⟨.normal, a1, w1, hq, .head step_block (Steps.trans har (.one step_inBlock))⟩
  | exit i =>
    by_cases hi : i = id
    · subst hi
      simp only [Exit.inBlock, if_true] at hq
      exact ⟨.normal, a1, w1, hq, .head step_block (har k (by simp [exitTo]))⟩
    · simp only [Exit.inBlock, hi, if_false] at hq
      refine ⟨.exit i, a1, w1, hq, fun k' hk' => .head step_block (har k' ?_)⟩
      have hb : (id == i) = false := by simpa using fun h => hi h.symm
      simp [exitTo, hb, hk']
  | goto l => exact ⟨_, a1, w1, hq, fun k' hk' => .head step_block (har k' (by simp [gotoIn, hk']))⟩
  | ret => exact ⟨_, a1, w1, hq, .of_steps (.one step_block) har⟩
  | panic ch => exact ⟨_, a1, w1, hq, .of_steps (.one step_block) har⟩
  | outgrown => exact ⟨_, a1, w1, hq, .of_steps (b := b) (k := k) (cs := cs) (e := .outgrown) (.one step_block) har⟩
/-- the call, out of its body's run -/
theorem calls_runs {f : FuncId} {fn : Func} {c : Code} {args : Array Value} {R : Ending → World → Prop} (hf : P.funcs[f]? = some fn) (hb : fn.body = some c)
    (h : runsC P c (bodyPost P fn R) { tmps := args ++ Array.replicate (fn.ntmps - args.size) undef, defers := [] } w) : Calls P f args w R := by
  let b : Frame := { (default : Frame) with fn := f, kind := .normal }
  have hkn : b.kind ≠ .early := by simp [b]
  -- the same frame, walked by the library's own law: its post with the exit at hand
  intro cs
  obtain ⟨e, a', w', hq, har⟩ := h b [] cs hkn
  have hent : Frame.enter P f args .normal = b.at { tmps := args ++ Array.replicate (fn.ntmps - args.size) undef, defers := [] } [.code c] := by simp [Frame.enter, Frame.at, hf, hb, b]
  rw [← hent] at har
  match e, hq, har with
  | .normal, ⟨hd, v, hr, hR⟩, har => exact ⟨.returned v, w', _, hR, Steps.trans har (.one step_end), rfl, rfl, hd, rfl, fn, hf, hr⟩
  | .ret, ⟨hd, v, hr, hR⟩, ⟨todo, hs⟩ => exact ⟨.returned v, w', _, hR, hs, rfl, rfl, hd, rfl, fn, hf, hr⟩
  | .panic ch, ⟨hd, hR⟩, ⟨todo, hs⟩ => exact ⟨.panicked ch, w', _, hR, hs, rfl, rfl, hd, fn, hf⟩
  | .outgrown, hR, har => exact ⟨.outgrown, w', b, hR, har.resolve_left hkn, rfl, trivial⟩
end
end Go.Proofs.Ytkjmpkincaainad
namespace Go.Proofs.Ytkjmpkincaainad
open Go.Conc Go.RowKit

/-- the same within a region, these operations being left -/
def runsO (P : Program) (ops : Array Oper) (Q : Exit → Act → World → Prop) (l : List Nat) (a : Act) (w : World) : Prop :=
  ∀ (b : Frame) (k : List Item) (cs : List Frame), b.kind ≠ .early → ∃ e a' w', Q e a' w' ∧ Arrives P (lone (b.at a (.inRegion ops l :: k)) cs w) b k cs e a' w'
section
variable {P : Program} {ops : Array Oper} {Q : Exit → Act → World → Prop} {a : Act} {w : World}
theorem runsO_wp {l : List Nat} (h : wpOps P ops Q l a w) : runsO P ops Q l a w := fun b k cs _ => wp_ops l a w h b k cs
theorem runsO_nil (h : Q .normal a w) : runsO P ops Q [] a w := fun _ _ _ _ => ⟨.normal, a, w, h, .one step_region_end⟩
theorem runs_region {id : Nat} (h : runsO P ops Q (List.range ops.size) a w) : runsC P (.region id ops false) Q a w := fun b k cs hk => by
  obtain ⟨e, a', w', hq, har⟩ := h b k cs hk
  exact ⟨e, a', w', hq, .of_steps (.one step_region) har⟩
theorem runs_region_draw {id : Nat} (h : ∀ t, runsO P ops Q (Region.schedule (P.follows .mixedOrders) ops t) a w.drew) : runsC P (.region id ops true) Q a w := fun b k cs hk => by
  obtain ⟨e, a', w', hq, har⟩ := h _ b k cs hk
  exact ⟨e, a', w', hq, .of_steps (.one step_region_draw) har⟩
/-- one step of the machine, behind which the rest runs -/
theorem runsO_step {i : Nat} {rest : List Nat} {v : Value} {w' : World} (hs : ∀ (b : Frame) (k : List Item) (cs : List Frame), b.kind ≠ .early → step P (lone (b.at a (.inRegion ops (i :: rest) :: k)) cs w) = .next (lone ((b.at a (.inRegion ops (i :: rest) :: k)).finish v) cs w'))
    (h : runsO P ops Q rest (a.put ((ops[i]?).bind (·.dst)) v) w') : runsO P ops Q (i :: rest) a w := fun b k cs hk => by
  obtain ⟨e, a', w2, hq, har⟩ := h b k cs hk
  rw [← Frame.finish_at] at har
  exact ⟨e, a', w2, hq, .of_steps (.one (hs b k cs hk)) har⟩
theorem runsO_send {i : Nat} {rest : List Nat} {o : Oper} {c cap s r : Nat} {buf : Array Value} {v z : Value} {tm : Bool} (ho : ops[i]? = some o) (hw : Region.wanted o (yielded ops a.tmps) = true)
    (hr : (execOp a.eval o).run P w = .ok (.comm #[scase c v z] true .send) w) (hc : w.heap[c]? = some (.chan cap buf false s r tm)) (hroom : buf.size < cap)
    (h : runsO P ops Q rest (a.put o.dst undef) (w.setChan c cap (buf.push v) false (s + 1) r tm)) : runsO P ops Q (i :: rest) a w :=
  runsO_step (fun b k cs hk => step_lone_send_room (stepG_comm (k := k) (cs := cs) (rest := rest) ho hw hk hr) hc hroom) (by rw [ho]; exact h)
theorem runsO_recv {i : Nat} {rest : List Nat} {o : Oper} {c cap s r : Nat} {buf : Array Value} {z : Value} {closed tm ok : Bool} (ho : ops[i]? = some o) (hw : Region.wanted o (yielded ops a.tmps) = true)
    (hr : (execOp a.eval o).run P w = .ok (.comm #[rcase c z] true (.recv ok)) w) (hc : w.heap[c]? = some (.chan cap buf closed s r tm)) (hsome : 0 < buf.size)
    (h : runsO P ops Q rest (a.put o.dst (got ok (buf.getD 0 undef) true)) (w.setChan c cap (buf.extract 1 buf.size) closed s (r + 1) tm)) : runsO P ops Q (i :: rest) a w :=
  runsO_step (fun b k cs hk => step_lone_recv_buf ok (stepG_comm (k := k) (cs := cs) (rest := rest) ho hw hk hr) hc hsome) (by rw [ho]; exact h)
theorem runsO_shut {i : Nat} {rest : List Nat} {o : Oper} {c cap s r : Nat} {z : Value} {tm ok : Bool} (ho : ops[i]? = some o) (hw : Region.wanted o (yielded ops a.tmps) = true)
    (hr : (execOp a.eval o).run P w = .ok (.comm #[rcase c z] true (.recv ok)) w) (hc : w.heap[c]? = some (.chan cap #[] true s r tm))
    (h : runsO P ops Q rest (a.put o.dst (got ok z false)) w) : runsO P ops Q (i :: rest) a w :=
  runsO_step (fun b k cs hk => step_lone_recv_shut ok (stepG_comm (k := k) (cs := cs) (rest := rest) ho hw hk hr) hc) (by rw [ho]; exact h)
/-- an operation that hands on a value or calls, behind which the rest runs; nothing panics, nothing is put off -/
theorem runsO_op {i : Nat} {rest : List Nat} {o : Oper} {K : Act → World → Prop} (ho : ops[i]? = some o) (hw : Region.wanted o (yielded ops a.tmps) = true)
    (hr : (∃ v w', (execOp a.eval o).run P w = .ok (.value v) w' ∧ K (a.put o.dst v) w') ∨ (∃ f args w', (execOp a.eval o).run P w = .ok (.enter f args) w' ∧ Calls P f args w' (fun e w2 => ∃ v, e = .returned v ∧ K (a.put o.dst v) w2)))
    (h : ∀ a w, K a w → runsO P ops Q rest a w) : runsO P ops Q (i :: rest) a w := by
  rcases hr with ⟨v, w', hr, hK⟩ | ⟨f, args, w', hr, hC⟩
  · refine runsO_step (v := v) (w' := w') (fun b k cs _ => step_lone_go ?_) (by rw [ho]; exact h _ _ hK)
    rw [stepG_op (P := P) (b := b) (k := k) (cs := cs) (w := w) (rest := rest) ho hw]
    simp [stepG.apply, hr]
  · intro b k cs hk
    obtain ⟨e, w2, fr, ⟨v, rfl, hK⟩, hsteps, _, hleave⟩ := hC (b.at a (.inRegion ops (i :: rest) :: k) :: cs)
    have hin : step P (lone (b.at a (.inRegion ops (i :: rest) :: k)) cs w) = .next (lone (Frame.enter P f args .normal) (b.at a (.inRegion ops (i :: rest) :: k) :: cs) w') :=
      step_lone_go (by rw [stepG_op (P := P) (b := b) (k := k) (cs := cs) (w := w) (rest := rest) ho hw]; simp [stepG.apply, hr, Frame.at])
    obtain ⟨e, a', w3, hq, har⟩ := h _ _ hK b k cs hk
    refine ⟨e, a', w3, hq, .of_steps (.head hin (Steps.trans hsteps (.one ?_))) har⟩
    have hfin : (b.at a (.inRegion ops (i :: rest) :: k)).finish v = b.at (a.put o.dst v) (.inRegion ops rest :: k) := by rw [Frame.finish_at, ho]; rfl
    rw [← hfin]; exact step_leave_returned hleave
end
end Go.Proofs.Ytkjmpkincaainad
namespace Go.Proofs.Ytkjmpkincaainad
open Go.Conc Go.RowKit

theorem grown_setChan {w0 w : World} {c cap s r : Nat} {b : Array Value} {cl tm : Bool} (hg : w0.grownBy w (some c)) : w0.grownBy (w.setChan c cap b cl s r tm) (some c) :=
  ⟨hg.os, hg.tape, hg.output, by simpa [World.setChan] using hg.size, fun i hi hne => by
    have hne' : c ≠ i := fun h => hne (by rw [h])
    have := hg.block i hi hne
    simpa [World.setChan, Array.getElem?_setIfInBounds, hne'] using this⟩
theorem runs_step {P : Program} {Q : Exit → Act → World → Prop} {x y : Code} {a a1 : Act} {w w1 : World} (h : x.wp P (fun e a' w' => e = .normal ∧ a' = a1 ∧ w' = w1) a w) (hy : runsC P y Q a1 w1) : runsC P (.seq x y) Q a w :=
  runs_seq (M := fun a' w' => a' = a1 ∧ w' = w1) (runs_mono (runs_wp h) (fun e a' w' ⟨h1, h2⟩ => by subst h1; exact h2)) (fun a' w' ⟨h1, h2⟩ => by subst h1; subst h2; exact hy)
set_option maxRecDepth 100000 in
set_option maxHeartbeats 4000000 in
theorem latestOf_any {w : World} {c cap s r : Nat} {tm : Bool} (xs : List Int) (hc : w.heap[c]? = some (.chan cap (xs.map (Value.int .i64)).toArray true s r tm)) :
    Calls Try.prog 26 #[.chan (some c)] w (fun e w' => e = .returned (.int .i64 (xs.foldl max 0)) ∧ w.grownBy w' (some c)) := by
  refine calls_runs Try.func26 rfl ?_
  refine runs_step (by go_wp2_with fail; exact ⟨rfl, rfl⟩) ?_
  refine runs_step (by go_wp2_with fail; exact ⟨rfl, rfl⟩) ?_
  refine runs_seq (M := fun a' w' => ∃ t4 t6 t7 t8 t9 t10 t11, a' = ⟨#[.chan (some c), undef, .int .i64 0, .int .i64 (xs.foldl max 0), t4, .chan (some c), t6, t7, t8, t9, t10, t11, undef], []⟩ ∧ w.grownBy w' (some c)) (runs_step (by go_wp2_with fail; exact ⟨rfl, rfl⟩) ?_) ?_
  rotate_left
  · rintro a' w' ⟨t4, t6, t7, t8, t9, t10, t11, rfl, hg⟩
    refine runs_wp ?_
    go_wp2_with fail
    go_ret
    exact ⟨rfl, hg⟩
  refine runs_block (runs_loop (I := fun n a' w' => ∃ (ys : List Int) (r' : Nat) (m : Int) (t4 t6 t7 t8 t9 t10 t11 : Value), a' = ⟨#[.chan (some c), undef, .int .i64 0, .int .i64 m, t4, .chan (some c), t6, t7, t8, t9, t10, t11, undef], []⟩ ∧ n = ys.length ∧ w'.heap[c]? = some (.chan cap (ys.map (Value.int .i64)).toArray true s r' tm) ∧ xs.foldl max 0 = ys.foldl max m ∧ w.grownBy w' (some c)) xs.length ?_ ?_)
  · exact ⟨xs, r, 0, undef, undef, undef, undef, undef, undef, undef, rfl, rfl, hc, rfl, .refl _ _⟩
  rintro n a' w' ⟨ys, r', m, t4, t6, t7, t8, t9, t10, t11, rfl, rfl, hc', hm, hg⟩
  cases ys with
  | nil =>
    refine runs_seq (M := fun a2 w2 => a2 = ⟨#[.chan (some c), undef, .int .i64 0, .int .i64 m, t4, .chan (some c), .tuple #[.int .i64 0, .bool false], .bool false, t8, t9, t10, t11, undef], []⟩ ∧ w2 = w') (runs_region ?_) ?_
    · refine runsO_shut (ok := true) (z := .int .i64 0) rfl rfl ?_ hc' ?_
      · simp [go_sem, rcase]
      · refine runsO_op (K := fun a2 w2 => a2 = ⟨#[.chan (some c), undef, .int .i64 0, .int .i64 m, t4, .chan (some c), .tuple #[.int .i64 0, .bool false], .bool false, t8, t9, t10, t11, undef], []⟩ ∧ w2 = w') rfl rfl (.inl ⟨.bool false, w', by kernel_rfl, rfl, rfl⟩) ?_
        rintro a2 w2 ⟨rfl, rfl⟩
        exact runsO_nil ⟨rfl, rfl⟩
    · rintro a2 w2 ⟨rfl, rfl⟩
      refine runs_wp ?_
      go_wp2_with fail
      exact ⟨t4, .tuple #[.int .i64 0, .bool false], .bool false, t8, t9, t10, t11, by rw [show xs.foldl max 0 = m from hm], hg⟩
  | cons y ys =>
    have hx : ((y :: ys).map (Value.int .i64)).toArray.extract 1 ((y :: ys).map (Value.int .i64)).toArray.size = (ys.map (Value.int .i64)).toArray := by simp [List.take_of_length_le]
    refine runs_seq (M := fun a2 w2 => a2 = ⟨#[.chan (some c), undef, .int .i64 0, .int .i64 m, t4, .chan (some c), .tuple #[.int .i64 y, .bool true], .bool true, t8, t9, t10, t11, undef], []⟩ ∧ w2 = w'.setChan c cap (ys.map (Value.int .i64)).toArray true s (r' + 1) tm) (runs_region ?_) ?_
    · refine runsO_recv (ok := true) (z := .int .i64 0) rfl rfl ?_ hc' (by simp) ?_
      · simp [go_sem, rcase]
      · refine runsO_op (K := fun a2 w2 => a2 = ⟨#[.chan (some c), undef, .int .i64 0, .int .i64 m, t4, .chan (some c), .tuple #[.int .i64 y, .bool true], .bool true, t8, t9, t10, t11, undef], []⟩ ∧ w2 = w'.setChan c cap (ys.map (Value.int .i64)).toArray true s (r' + 1) tm) rfl rfl (.inl ⟨.bool true, w'.setChan c cap (((y :: ys).map (Value.int .i64)).toArray.extract 1 ((y :: ys).map (Value.int .i64)).toArray.size) true s (r' + 1) tm, by kernel_rfl, rfl, by rw [hx]⟩) ?_
        rintro a2 w2 ⟨rfl, rfl⟩
        exact runsO_nil ⟨rfl, rfl⟩
    · rintro a2 w2 ⟨rfl, rfl⟩
      have hG := Lib.hid (grown_setChan (cap := cap) (s := s) (r := r' + 1) (b := (ys.map (Value.int .i64)).toArray) (cl := true) (tm := tm) hg)
      have hC : (w'.setChan c cap (ys.map (Value.int .i64)).toArray true s (r' + 1) tm).heap[c]? = some (.chan cap (ys.map (Value.int .i64)).toArray true s (r' + 1) tm) := by
        have hlt : c < w'.heap.size := by
          rcases Nat.lt_or_ge c w'.heap.size with h | h
          · exact h
          · rw [Array.getElem?_eq_none h] at hc'; cases hc'
        simp [World.setChan, hlt]
      have HC := Lib.hid hC
      clear hC hc' hg
      obtain ⟨w2, hw2⟩ : ∃ w2, (w'.setChan c cap (ys.map (Value.int .i64)).toArray true s (r' + 1) tm) = w2 := ⟨_, rfl⟩
      rw [hw2] at hG HC ⊢
      clear hw2
      have HM := Lib.hid hm
      clear hm
      have hmx : max m y = if m < y then y else m := by omega
      obtain ⟨q, hq⟩ : ∃ q, (if m < y then y else m) = q := ⟨_, rfl⟩
      have HQ := Lib.hid (hmx.trans hq)
      refine runs_wp ?_
      go_wp2_with fail
      exact ⟨_, by simp, ys, r' + 1, q, .int .i64 y, .tuple #[.int .i64 y, .bool true], .bool true, .int .i64 y, .int .i64 m, .int .i64 y, .int .i64 q, rfl, rfl, HC.out, by rw [HM.out, List.foldl_cons, HQ.out], hG.out⟩
end Go.Proofs.Ytkjmpkincaainad
namespace Go.Proofs.Ytkjmpkincaainad
open Go.RowKit Go.WideShapes

theorem cell_same {w w' : World} {a : Addr} {v : Value} (e : w'.heap[a.block]? = w.heap[a.block]?) (h : w.cell? a = some v) : w'.cell? a = some v := by rw [World.cell?_of_block (w := w) e]; exact h
/-- rows of numbers that begin a row of rows: their row lies in block G, row q in block Br q -/
def BegW (w : World) (G : Nat) (Br : Nat → Nat) (n R : Nat) (X : Nat → Nat → Int) : Prop :=
  ∀ q, q < R → w.cell? ⟨G, q, none⟩ = some (.slice (some ⟨Br q, 0, none⟩) n n) ∧ ∀ v, v < n → w.cell? ⟨Br q, v, none⟩ = some (.int .i64 (X q v))
theorem BegW.to {w w' : World} {G : Nat} {Br : Nat → Nat} {n R : Nat} {X : Nat → Nat → Int} (h : BegW w G Br n R X) (hG : 0 < R → w'.heap[G]? = w.heap[G]?) (hB : ∀ q, q < R → w'.heap[Br q]? = w.heap[Br q]?) : BegW w' G Br n R X := fun q hq =>
  ⟨cell_same (hG (by omega)) (h q hq).1, fun v hv => cell_same (hB q hq) ((h q hq).2 v hv)⟩
/-- when a token of way (f, c) is there for the last one of L rounds -/
def readyV (X : Nat → Nat → Int) (L f c : Nat) (tm : Int) : Int := if L ≤ c then 0 else X (L - 1 - c) f + tm
set_option maxRecDepth 100000 in
set_option maxHeartbeats 4000000 in
theorem readyAt_any (G n L C f c : Nat) (t tm : Int) (Br : Nat → Nat) (X : Nat → Nat → Int) (w : World) (h : BegW w G Br n L X) (hG : G < w.heap.size) (hB : ∀ q, q < L → Br q < w.heap.size) (hf : f < n) (hn : n ≤ 1000) (hL : 1 ≤ L ∧ L ≤ 1000) (hc : c ≤ 1000)
    (hX : ∀ q, q < L → 0 ≤ X q f ∧ X q f ≤ 1000000) (ht : 0 ≤ tm ∧ tm ≤ 1000000) :
    Calls Try.prog 52 #[.agg #[.int .i64 f, .int .i64 t, .int .i64 c], .int .i64 tm, .slice (some ⟨G, 0, none⟩) L C] w (valN w (.int .i64 (readyV X L f c tm))) := by
  have hb1 := (Below.refl w.heap.size w).alloc (Nat.le_refl _) (.cells #[.int .i64 f, .int .i64 t, .int .i64 c] 75)
  by_cases hlc : L ≤ c
  · have hR : readyV X L f c tm = 0 := if_pos hlc
    rw [hR]
    have hI : (L : Int) - 1 - c < 0 := by omega
    clear hR h hX
    go_enter Try.func52, Try.ntmps52
    go_wp2_with fail
    go_ret
    exact ⟨rfl, hb1⟩
  · have hR : readyV X L f c tm = X (L - 1 - c) f + tm := if_neg hlc
    rw [hR]
    obtain ⟨q, hq⟩ : ∃ q, L - 1 - c = q := ⟨_, rfl⟩
    rw [hq]
    have hqL : q < L := by omega
    have hI : ¬ (L : Int) - 1 - c < 0 := by omega
    have he : (L : Int) - 1 - c = (q : Int) := by omega
    obtain ⟨c1, c2⟩ := h q hqL
    have c2 := c2 f hf
    have hx := hX q hqL
    have c1' : (w.alloc (.cells #[.int .i64 f, .int .i64 t, .int .i64 c] 75)).cell? ⟨G, q, none⟩ = some (.slice (some ⟨Br q, 0, none⟩) n n) := cell_same (Below.heap_alloc _ _ _ hG) c1
    have c2' : (w.alloc (.cells #[.int .i64 f, .int .i64 t, .int .i64 c] 75)).cell? ⟨Br q, f, none⟩ = some (.int .i64 (X q f)) := cell_same (Below.heap_alloc _ _ _ (hB q hqL)) c2
    clear c1 c2 hR h hX hq hB
    obtain ⟨x, hxe⟩ : ∃ x, X q f = x := ⟨_, rfl⟩
    rw [hxe] at hx c2' ⊢
    clear hxe
    go_enter Try.func52, Try.ntmps52
    go_wp2_with fail
    have hqI : (q : Int) < (L : Int) := by omega
    have hfI : (f : Int) < (n : Int) := by omega
    clear he hI
    go_quiet (fail)
    go_wp2_with fail
    go_ret
    exact ⟨rfl, below_drewN hb1 _⟩
end Go.Proofs.Ytkjmpkincaainad
