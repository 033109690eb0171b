import Derived.Test.YtldncfkkeeinjacRows
import Derived.WalkKit
import Derived.ProofKit
import Derived.WalkSpells
import Derived.WalkLawsBesides
import Derived.Lib.Hide
import Derived.Test.YtldncfkkeeinjacLib
import Derived.Test.YtldncfkkeeinjacGen
import Derived.Test.YtldncfkkeeinjacOwn1
namespace Go.Proofs.Ytldncfkkeeinjac
open Go.RowKit Go.WideShapes

/-- append of one int to a list of the call's own -/
theorem wpApp1 {ops : Array Oper} {rest : List Oper} {o : Oper} {a : Act} {Q : Exit → Act → World → Prop} {wo : World} (hgd : o.guard = none) (s x : Operand)
    (ho : o.op = .call { callee := .builtin .append, args := #[s, x], argTypes := #[23, 23] })
    (base k cp : Nat) (ax : Option Addr) (xs : List Int) (v : Int) (hs : a.eval s = .slice ax k cp)
    (hown : wo.ownsRow base 3 1 (.slice ax k cp) k (xs.map (.int .i64))) (hx : a.eval x = .slice (some ⟨wo.heap.size, 0, none⟩) 1 1)
    (hbase : base ≤ wo.heap.size) (hk : k ≤ 1048576)
    (h : ∀ (a6 : Option Addr) (c6 : Nat) (w' : World), w'.ownsRow base 3 1 (.slice a6 (k + 1) c6) (k + 1) (xs.map (.int .i64) ++ [.int .i64 v]) → k + 1 ≤ c6 → wo.grownBy w' (Value.slice ax k cp).ownBlock →
      wpList Try.prog ops Q rest (a.put o.dst (.slice a6 (k + 1) c6)) w') :
    wpList Try.prog ops Q (o :: rest) a (wo.alloc (.cells #[.int .i64 v] 3)) := by
  obtain ⟨i0, hi, hz0, hz1, hz2⟩ := info_parts Try.infoIntO
  refine wpList_append_own _ hgd s x 23 ho base 3 i0 (.int .i64 0) 1 8 Try.underlying23 hi hz0 hz1 hz2 rfl (by decide) _ k _ hs (hown.alloc _) ⟨wo.heap.size, 0, none⟩ 1 1 [.int .i64 v] hx rfl (one_new _ _ _) (one_cell_int _ _) (by unfold maxLen; omega) (by omega) (by simp; omega) ?_
  intro v' w6 hown6 hgrow _
  obtain ⟨a6, c6, rfl, hc⟩ := own_slice hown6
  exact h a6 c6 w6 hown6 hc (grown_comp (World.grownBy_alloc wo _ _) hgrow)
/-- append of a list to a list of the call's own -/
theorem wpAppN {ops : Array Oper} {rest : List Oper} {o : Oper} {a : Act} {Q : Exit → Act → World → Prop} {wo : World} (hgd : o.guard = none) (s x : Operand)
    (ho : o.op = .call { callee := .builtin .append, args := #[s, x], argTypes := #[23, 23] })
    (base k cp : Nat) (ax : Option Addr) (xs : List Int) (S : Nat → Prop) (b off m c : Nat) (ys : List Int) (hs : a.eval s = .slice ax k cp)
    (hown : wo.ownsRow base 3 1 (.slice ax k cp) k (xs.map (.int .i64))) (hx : a.eval x = .slice (some ⟨b, off, none⟩) m c) (hy : IntsAt wo S (some ⟨b, off, none⟩) m ys)
    (hbase : base ≤ wo.heap.size) (hk : k + m ≤ 1048576)
    (h : ∀ (a6 : Option Addr) (c6 : Nat) (w' : World), w'.ownsRow base 3 1 (.slice a6 (k + m) c6) (k + m) (xs.map (.int .i64) ++ ys.map (.int .i64)) → k + m ≤ c6 → wo.grownBy w' (Value.slice ax k cp).ownBlock →
      wpList Try.prog ops Q rest (a.put o.dst (.slice a6 (k + m) c6)) w') :
    wpList Try.prog ops Q (o :: rest) a wo := by
  obtain ⟨i0, hi, hz0, hz1, hz2⟩ := info_parts Try.infoIntO
  refine wpList_append_own _ hgd s x 23 ho base 3 i0 (.int .i64 0) 1 8 Try.underlying23 hi hz0 hz1 hz2 rfl (by decide) _ k _ hs hown ⟨b, off, none⟩ m c (ys.map (.int .i64)) hx (by simp [hy.lenEq]) ?_ ?_ (by unfold maxLen; omega) (by omega) hbase ?_
  · intro j u hj
    rw [List.getElem?_map] at hj
    cases hq : ys[j]? with
    | none => rw [hq] at hj; cases hj
    | some z =>
      rw [hq] at hj
      simp only [Option.map_some, Option.some.injEq] at hj
      have hlt : j < ys.length := (List.getElem?_eq_some_iff.1 hq).1
      obtain ⟨b', off', e, _, hc⟩ := hy.cells (by have := hy.lenEq; omega)
      cases e
      rw [add_plain, hc _ _ hq, ← hj]
  · intro u hu
    obtain ⟨x, _, rfl⟩ := List.mem_map.1 hu
    rfl
  intro v' w6 hown6 hgrow _
  obtain ⟨a6, c6, rfl, hc⟩ := own_slice hown6
  exact h a6 c6 w6 hown6 hc hgrow
theorem own_block {w : World} {B e s n : Nat} {v : Value} {xs : List Value} (h : w.ownsRow B e s v n xs) : ∀ k, v.ownBlock = some k → B ≤ k := fun k e => (h.lt k e).1
theorem own_snoc {w : World} {B n : Nat} {u : Value} {xs : List Int} {x : Int} (h : w.ownsRow B 3 1 u n (xs.map (.int .i64) ++ [.int .i64 x])) : w.ownsRow B 3 1 u n ((xs ++ [x]).map (.int .i64)) := by
  rw [List.map_append]; exact h
end Go.Proofs.Ytldncfkkeeinjac
