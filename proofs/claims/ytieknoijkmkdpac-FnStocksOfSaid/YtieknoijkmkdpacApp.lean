import Derived.Test.YtieknoijkmkdpacRows
import Derived.WalkKit
import Derived.ProofKit
import Derived.Test.YtieknoijkmkdpacLib
import Derived.Test.YtieknoijkmkdpacGen
import Derived.Test.YtieknoijkmkdpacOwn1
namespace Go.Proofs.Ytieknoijkmkdpac
open Go.RowKit Go.WideShapes

/-- append of one int to a list of the call's own -/
theorem wpApp1 {ops : Array Oper} {rest : List Oper} {o : Oper} {a : Act} {Q : Exit → Act → World → Prop} {wo : World} (hgd : o.guard = none) (s x : Operand)
    (ho : o.op = .call { callee := .builtin .append, args := #[s, x], argTypes := #[23, 23] })
    (base k cp : Nat) (ax : Option Addr) (xs : List Int) (v : Int) (hs : a.eval s = .slice ax k cp)
    (hown : wo.ownsRow base 3 1 (.slice ax k cp) k (xs.map (.int .i64))) (hx : a.eval x = .slice (some ⟨wo.heap.size, 0, none⟩) 1 1)
    (hbase : base ≤ wo.heap.size) (hk : k ≤ 1048576)
    (h : ∀ (a6 : Option Addr) (c6 : Nat) (w' : World), w'.ownsRow base 3 1 (.slice a6 (k + 1) c6) (k + 1) (xs.map (.int .i64) ++ [.int .i64 v]) → k + 1 ≤ c6 → wo.grownBy w' (Value.slice ax k cp).ownBlock →
      wpList Try.prog ops Q rest (a.put o.dst (.slice a6 (k + 1) c6)) w') :
    wpList Try.prog ops Q (o :: rest) a (wo.alloc (.cells #[.int .i64 v] 3)) := by
  obtain ⟨i0, hi, hz0, hz1, hz2⟩ := info_parts Try.infoIntO
  refine wpList_append_own _ hgd s x 23 ho base 3 i0 (.int .i64 0) 1 8 Try.underlying23 hi hz0 hz1 hz2 rfl (by decide) _ k _ hs (hown.alloc _) ⟨wo.heap.size, 0, none⟩ 1 1 [.int .i64 v] hx rfl (one_new _ _ _) (one_cell_int _ _) (by unfold maxLen; omega) (by omega) (by simp; omega) ?_
  intro v' w6 hown6 hgrow _
  obtain ⟨a6, c6, rfl, hc⟩ := own_slice hown6
  exact h a6 c6 w6 hown6 hc (grown_comp (World.grownBy_alloc wo _ _) hgrow)
theorem own_snoc {w : World} {B n : Nat} {u : Value} {xs : List Int} {x : Int} (h : w.ownsRow B 3 1 u n (xs.map (.int .i64) ++ [.int .i64 x])) : w.ownsRow B 3 1 u n ((xs ++ [x]).map (.int .i64)) := by
  rw [List.map_append]; exact h
end Go.Proofs.Ytieknoijkmkdpac
