import Derived.Test.YtldncfkkeeinjabRows
import Derived.RangeFuncNested
import Derived.RangeFuncBound
import Derived.RangeFuncCalls
import Derived.RangeFuncLeaves
import Derived.Shelf.Abstract
import Derived.Shelf.RegionOpen
import Derived.WalkKit
import Derived.OwnWalkIn
import Derived.TacticsInMore
import Derived.LoopNIn
import Derived.LoopIn
import Derived.Test.YtldncfkkeeinjabLib
import Derived.Test.YtldncfkkeeinjabCountM
import Derived.Test.YtldncfkkeeinjabRound
namespace Go.Proofs.Ytldncfkkeeinjab
open Go.RowKit Go.Shelf

attribute [local go_sem] Oper.semAt_some

/-- an element of a list, by its place -/
abbrev IRow (xs : List Int) := { x : Nat × Int // xs[x.1]? = some x.2 }
def backIArgs (xs : List Int) (x : IRow xs) : Array Value := #[.int .i64 (x.1.1 : Int), .int .i64 x.1.2]
/-- all below n and block Bs are as they were -/
def KeepI (n Bs : Nat) (W W' : World) : Prop := Below n W W' ∧ W'.heap[Bs]? = W.heap[Bs]?
theorem KeepI.refl (n Bs : Nat) (W : World) : KeepI n Bs W W := ⟨Below.refl _ _, rfl⟩
theorem KeepI.trans {n Bs : Nat} {A B C : World} (h : KeepI n Bs A B) (g : KeepI n Bs B C) : KeepI n Bs A C := ⟨h.1.trans g.1, g.2.trans h.2⟩
def downI (len j : Nat) : List Nat := (List.range j).map (fun d => len - 1 - d)
theorem downI_succ (len j : Nat) : downI len (j + 1) = downI len j ++ [len - 1 - j] := by simp [downI, List.range_succ]

set_option maxRecDepth 100000 in
set_option maxHeartbeats 2000000 in
theorem backI_walk (n : Nat) (hn : 1 ≤ n) (l Bs n₀ : Nat) (a : Option Addr) (len cap : Nat) (xs : List Int) (w0 : World) (J Jx : List (IRow xs) → World → Prop)
    (hY : ∀ pre x W, J pre W → pre.length < xs.length → YieldAt Fence.wide (n - 1) Try.prog l (backIArgs xs x) W fun e W' =>
      (e = .returned (.bool true) ∧ J (pre ++ [x]) W' ∧ KeepI n₀ Bs W W') ∨ (e = .returned (.bool false) ∧ Jx (pre ++ [x]) W'))
    (W : World) (hBs : W.cell? ⟨Bs, 0, none⟩ = some (.slice a len cap)) (hI : IntsAt w0 (· < n₀) a len xs) (hW0 : Below n₀ w0 W) (h0 : J [] W) :
    CallsIn Fence.wide n Try.prog 52 #[.func (.yield l) #[] #[], .pointer (some ⟨Bs, 0, none⟩)] W fun e W' => (∃ v, e = .returned v) ∧
      ((∃ ys : List (IRow xs), ys.map (·.1.1) = downI len len ∧ J ys W') ∨ (∃ pre : List (IRow xs), True ∧ Jx pre W')) := by
  have hs := hI.small
  refine callsIn_of_wp Try.func52 rfl trivial ?_ rfl
  simp only [Try.ntmps52, List.size_toArray, List.length_cons, List.length_nil, Nat.reduceAdd, Nat.reduceSub, Array.replicate_succ, Array.replicate_zero, List.push_toArray, List.append_toArray, List.nil_append, List.cons_append]
  gi_wp2
  gi_loopw [3] (fun i wr => ∃ (v : Int) (pre : List (IRow xs)), -1 ≤ v ∧ v < len ∧ i = .int .i64 v ∧ (pre.length : Int) = (len : Int) - 1 - v ∧ pre.map (·.1.1) = downI len pre.length ∧ J pre wr ∧ KeepI n₀ Bs W wr)
    (fun i _ => (intOf i + 1).toNat)
  case atStart => exact ⟨(len : Int) - 1, [], by omega, by omega, rfl, by simp, rfl, h0, KeepI.refl _ _ _⟩
  case round =>
    obtain ⟨v, pre, hv1, hv2, rfl, hpl, hp, hJs, hnx⟩ := hrel
    have HP := Lib.hid hp
    have HPL := Lib.hid hpl
    have HL := Lib.hid hI.lenEq
    have hbs := hnx.2
    have hbs' : wr.cell? ⟨Bs, 0, none⟩ = some (.slice a len cap) := by rw [World.cell?_of_block (w := W) hbs]; exact hBs
    clear hp hpl hbs
    by_cases h0v : 0 ≤ v
    · obtain ⟨k, rfl⟩ : ∃ k : Nat, v = (k : Int) := ⟨v.toNat, by omega⟩
      have hlt : k < len := by omega
      obtain ⟨b, off, r, rfl, hx, hc⟩ := (hI.below (hW0.trans hnx.1)).get hlt
      have HX := Lib.hid hx
      clear hx
      have hplr : pre.length < xs.length := by have := HL.out; have := HPL.out; omega
      obtain ⟨fn, tmps, assign, body, hy, hR⟩ := hY pre ⟨(k, r), HX.out⟩ wr hJs hplr
      dsimp only [backIArgs] at hy
      have HS := Lib.hid (show (pre ++ [(⟨(k, r), HX.out⟩ : IRow xs)]).map (·.1.1) = downI len (pre ++ [(⟨(k, r), HX.out⟩ : IRow xs)]).length by
        rw [List.map_append, HP.out, List.length_append, List.length_singleton, downI_succ]
        have := HPL.out
        rw [show len - 1 - pre.length = k by omega]; rfl)
      have HPL2 := Lib.hid (show (((pre ++ [(⟨(k, r), HX.out⟩ : IRow xs)]).length : Nat) : Int) = (len : Int) - 1 - ((k : Int) - 1) by
        rw [List.length_append, List.length_singleton]
        have := HPL.out
        push_cast; omega)
      clear hplr
      gi_wp2
      refine hR.mono ?_
      rintro e W3 (⟨rfl, hJ3, hk3⟩ | ⟨rfl, hJx3⟩)
      · gi_wp2
        go_roundw
        case rel => exact ⟨(k : Int) - 1, _, by omega, by omega, rfl, HPL2.out, HS.out, hJ3, hnx.trans hk3⟩
        case measure => simp [intOf] <;> omega
      · gi_wp2
        refine bodyPost_ret (results_none rfl _ _ _) rfl ?_
        exact ⟨⟨_, rfl⟩, .inr ⟨_, trivial, hJx3⟩⟩
    · gi_wp2
      go_end0
      have e : pre.length = len := by have := HPL.out; omega
      exact ⟨⟨_, rfl⟩, .inl ⟨pre, by rw [HP.out, e], hJs⟩⟩

theorem backI_stops (n : Nat) (hn : 1 ≤ n) (Bs n₀ : Nat) (a : Option Addr) (len cap : Nat) (xs : List Int) (w : World) (hBs : Bs < w.heap.size) (hn₀ : n₀ ≤ w.heap.size)
    (hc : w.cell? ⟨Bs, 0, none⟩ = some (.slice a len cap)) (hI : IntsAt w (· < n₀) a len xs) :
    SeqStopsK Fence.wide n Try.prog 52 #[.pointer (some ⟨Bs, 0, none⟩)] (backIArgs xs) (KeepI n₀ Bs) (fun ys => ys.map (·.1.1) = downI len len) (fun _ => True) xs.length w := fun l J Jx W hW _ _ hY h0 =>
  backI_walk n hn l Bs n₀ a len cap xs w J Jx hY W ((hW.cell (p := ⟨Bs, 0, none⟩) hBs).trans hc) hI (hW.mono hn₀) h0

set_option maxHeartbeats 1000000 in
theorem backwardI_any (n : Nat) (a : Option Addr) (len cap : Nat) (w : World) :
    CallsIn Fence.wide n Try.prog 48 #[.slice a len cap] w fun e w' => e = .returned (.func (.func 52) #[] #[.pointer (some ⟨w.heap.size, 0, none⟩)]) ∧ w.alloc (.cells #[.slice a len cap] 23) = w' := by
  refine callsIn_of_wp Try.func48 rfl trivial ?_ rfl
  simp only [Try.ntmps48, List.size_toArray, List.length_cons, List.length_nil, Nat.reduceAdd, Nat.reduceSub, Array.replicate_succ, Array.replicate_zero, List.push_toArray, List.append_toArray, List.nil_append, List.cons_append]
  gi_wp2
  go_ret
  exact ⟨rfl, rfl⟩
theorem leaves_marksC {F : Fence} {n B : Nat} {P : Program} {fn : Func} {tmps : Array Value} {R : Ending → World → Prop} {v : Value} : ∀ (Ds : List Nat) (w : World), Marks w B Ds →
    (∀ w', SameCells B w w' → (results fn tmps).run P w' = .ok v w') → (∀ w', SameCells B w w' → R (.returned v) w') → LeavesInM F n P fn tmps R (Ds.map collected) .returning w := by
  intro Ds
  induction Ds with
  | nil => exact fun w _ hres h => ⟨v, hres w (SameCells.refl _ _), h w (SameCells.refl _ _)⟩
  | cons D Ds ih =>
    intro w hm hres h
    have hput := sameCells_put hm.1.1 hm.1.2.1
    refine ⟨by simp, Or.inl ⟨D, _, rfl, run_takeDeferred hm.1.1, ih _ (hm.2.kept (fun x hx hx' => ?_)) (fun w' hw' => hres w' (hput.trans hw')) (fun w' hw' => h w' (hput.trans hw'))⟩⟩
    rw [World.putObj_heap_other (hm.1.2.2 x hx)]
    exact hx'
end Go.Proofs.Ytldncfkkeeinjab
