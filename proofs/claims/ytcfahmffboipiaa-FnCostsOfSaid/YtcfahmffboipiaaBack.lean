import Derived.Test.YtcfahmffboipiaaRows
import Derived.RangeFuncNested
import Derived.RangeFuncBound
import Derived.RangeFuncCalls
import Derived.RangeFuncLeaves
import Derived.Shelf.Abstract
import Derived.Shelf.RegionOpen
import Derived.WalkKit
import Derived.OwnWalkIn
import Derived.TacticsInMore
import Derived.LoopNIn
import Derived.LoopIn
import Derived.Test.YtcfahmffboipiaaLib
import Derived.Test.YtcfahmffboipiaaCountM
import Derived.Test.YtcfahmffboipiaaParts
namespace Go.Proofs.Ytcfahmffboipiaa
open Go.RowKit Go.Shelf

attribute [local go_sem] Oper.semAt_some

/-- a row of a bill, by its place, as it lies in memory -/
abbrev BRow (w0 : World) (n0 : Nat) (rows : List (List Int)) := { x : Nat × (Option Addr × Nat × Nat) // ∃ r, rows[x.1]? = some r ∧ IntsAt w0 (· < n0) x.2.1 x.2.2.1 r }
def backArgs (w0 : World) (n0 : Nat) (rows : List (List Int)) (x : BRow w0 n0 rows) : Array Value := #[.int .i64 (x.1.1 : Int), .slice x.1.2.1 x.1.2.2.1 x.1.2.2.2]
/-- all below n and block Bs are as they were -/
def KeepB (n Bs : Nat) (W W' : World) : Prop := Below n W W' ∧ W'.heap[Bs]? = W.heap[Bs]?
theorem KeepB.refl (n Bs : Nat) (W : World) : KeepB n Bs W W := ⟨Below.refl _ _, rfl⟩
theorem KeepB.trans {n Bs : Nat} {A B C : World} (h : KeepB n Bs A B) (g : KeepB n Bs B C) : KeepB n Bs A C := ⟨h.1.trans g.1, g.2.trans h.2⟩
def downs (len j : Nat) : List Nat := (List.range j).map (fun d => len - 1 - d)
theorem downs_succ (len j : Nat) : downs len (j + 1) = downs len j ++ [len - 1 - j] := by simp [downs, List.range_succ]

set_option maxRecDepth 100000 in
set_option maxHeartbeats 2000000 in
theorem back_walk (n : Nat) (hn : 1 ≤ n) (l Bs n₀ : Nat) (a : Option Addr) (len cap : Nat) (rows : List (List Int)) (w0 : World) (J Jx : List (BRow w0 n₀ rows) → World → Prop)
    (hY : ∀ pre x W, J pre W → pre.length < rows.length → YieldAt Fence.wide (n - 1) Try.prog l (backArgs w0 n₀ rows x) W fun e W' =>
      (e = .returned (.bool true) ∧ J (pre ++ [x]) W' ∧ KeepB n₀ Bs W W') ∨ (e = .returned (.bool false) ∧ Jx (pre ++ [x]) W'))
    (W : World) (hBs : W.cell? ⟨Bs, 0, none⟩ = some (.slice a len cap)) (hI : RowsAt w0 (· < n₀) a len rows) (hW0 : Below n₀ w0 W) (h0 : J [] W) :
    CallsIn Fence.wide n Try.prog 43 #[.func (.yield l) #[] #[], .pointer (some ⟨Bs, 0, none⟩)] W fun e W' => (∃ v, e = .returned v) ∧
      ((∃ ys : List (BRow w0 n₀ rows), ys.map (·.1.1) = downs len len ∧ J ys W') ∨ (∃ pre : List (BRow w0 n₀ rows), True ∧ Jx pre W')) := by
  have hs := hI.small
  refine callsIn_of_wp Try.func43 rfl trivial ?_ rfl
  simp only [Try.ntmps43, List.size_toArray, List.length_cons, List.length_nil, Nat.reduceAdd, Nat.reduceSub, Array.replicate_succ, Array.replicate_zero, List.push_toArray, List.append_toArray, List.nil_append, List.cons_append]
  gi_wp2
  gi_loopw [3] (fun i wr => ∃ (v : Int) (pre : List (BRow w0 n₀ rows)), -1 ≤ v ∧ v < len ∧ i = .int .i64 v ∧ (pre.length : Int) = (len : Int) - 1 - v ∧ pre.map (·.1.1) = downs len pre.length ∧ J pre wr ∧ KeepB n₀ Bs W wr)
    (fun i _ => (intOf i + 1).toNat)
  case atStart => exact ⟨(len : Int) - 1, [], by omega, by omega, rfl, by simp, rfl, h0, KeepB.refl _ _ _⟩
  case round =>
    obtain ⟨v, pre, hv1, hv2, rfl, hpl, hp, hJs, hnx⟩ := hrel
    have HP := Lib.hid hp
    have HPL := Lib.hid hpl
    have HL := Lib.hid hI.lenEq
    have hbs := hnx.2
    have hbs' : wr.cell? ⟨Bs, 0, none⟩ = some (.slice a len cap) := by rw [World.cell?_of_block (w := W) hbs]; exact hBs
    clear hp hpl hbs
    by_cases h0v : 0 ≤ v
    · obtain ⟨k, rfl⟩ : ∃ k : Nat, v = (k : Int) := ⟨v.toNat, by omega⟩
      have hlt : k < len := by omega
      obtain ⟨b, off, r, a', l', c', rfl, hx, hc, _, hri⟩ := (hI.below (hW0.trans hnx.1)).get hlt
      have hri0 : IntsAt w0 (· < n₀) a' l' r := hri.to (fun b hb => ⟨hb, ((hW0.trans hnx.1).block b hb).symm⟩)
      have HX := Lib.hid hx
      clear hx hri
      have hplr : pre.length < rows.length := by have := HL.out; have := HPL.out; omega
      obtain ⟨fn, tmps, assign, body, hy, hR⟩ := hY pre ⟨(k, (a', l', c')), r, HX.out, hri0⟩ wr hJs hplr
      dsimp only [backArgs] at hy
      have HS := Lib.hid (show (pre ++ [(⟨(k, (a', l', c')), r, HX.out, hri0⟩ : BRow w0 n₀ rows)]).map (·.1.1) = downs len (pre ++ [(⟨(k, (a', l', c')), r, HX.out, hri0⟩ : BRow w0 n₀ rows)]).length by
        rw [List.map_append, HP.out, List.length_append, List.length_singleton, downs_succ]
        have := HPL.out
        rw [show len - 1 - pre.length = k by omega]; rfl)
      have HPL2 := Lib.hid (show (((pre ++ [(⟨(k, (a', l', c')), r, HX.out, hri0⟩ : BRow w0 n₀ rows)]).length : Nat) : Int) = (len : Int) - 1 - ((k : Int) - 1) by
        rw [List.length_append, List.length_singleton]
        have := HPL.out
        push_cast; omega)
      clear hplr
      gi_wp2
      refine hR.mono ?_
      rintro e W3 (⟨rfl, hJ3, hk3⟩ | ⟨rfl, hJx3⟩)
      · gi_wp2
        go_roundw
        case rel => exact ⟨(k : Int) - 1, _, by omega, by omega, rfl, HPL2.out, HS.out, hJ3, hnx.trans hk3⟩
        case measure => simp [intOf] <;> omega
      · gi_wp2
        refine bodyPost_ret (results_none rfl _ _ _) rfl ?_
        exact ⟨⟨_, rfl⟩, .inr ⟨_, trivial, hJx3⟩⟩
    · gi_wp2
      go_end0
      have e : pre.length = len := by have := HPL.out; omega
      exact ⟨⟨_, rfl⟩, .inl ⟨pre, by rw [HP.out, e], hJs⟩⟩

theorem back_stops (n : Nat) (hn : 1 ≤ n) (Bs n₀ : Nat) (a : Option Addr) (len cap : Nat) (rows : List (List Int)) (w : World) (hBs : Bs < w.heap.size) (hn₀ : n₀ ≤ w.heap.size)
    (hc : w.cell? ⟨Bs, 0, none⟩ = some (.slice a len cap)) (hI : RowsAt w (· < n₀) a len rows) :
    SeqStopsK Fence.wide n Try.prog 43 #[.pointer (some ⟨Bs, 0, none⟩)] (backArgs w n₀ rows) (KeepB n₀ Bs) (fun ys => ys.map (·.1.1) = downs len len) (fun _ => True) rows.length w := fun l J Jx W hW _ _ hY h0 =>
  back_walk n hn l Bs n₀ a len cap rows w J Jx hY W ((hW.cell (p := ⟨Bs, 0, none⟩) hBs).trans hc) hI (hW.mono hn₀) h0

set_option maxHeartbeats 1000000 in
theorem backward_any (n : Nat) (a : Option Addr) (len cap : Nat) (w : World) :
    CallsIn Fence.wide n Try.prog 29 #[.slice a len cap] w fun e w' => e = .returned (.func (.func 43) #[] #[.pointer (some ⟨w.heap.size, 0, none⟩)]) ∧ w.alloc (.cells #[.slice a len cap] 23) = w' := by
  refine callsIn_of_wp Try.func29 rfl trivial ?_ rfl
  simp only [Try.ntmps29, List.size_toArray, List.length_cons, List.length_nil, Nat.reduceAdd, Nat.reduceSub, Array.replicate_succ, Array.replicate_zero, List.push_toArray, List.append_toArray, List.nil_append, List.cons_append]
  gi_wp2
  go_ret
  exact ⟨rfl, rfl⟩
end Go.Proofs.Ytcfahmffboipiaa
