import Derived.Test.YtiapaddmnbeheaaRows
import Derived.WalkKit
import Derived.ProofKit
import Derived.Lib.Hide
import Derived.Test.YtiapaddmnbeheaaLib
import Derived.Test.YtiapaddmnbeheaaNetAt
import Derived.Test.YtiapaddmnbeheaaTokM
import Derived.Test.YtiapaddmnbeheaaTokD
namespace Go.Proofs.Ytiapaddmnbeheaa
open Go.RowKit

theorem grown_none {w w1 w2 : World} {r : Option Nat} (h : w.grownBy w1 none) (g : w1.grownBy w2 r) (hr : ∀ k, r = some k → w.heap.size ≤ k) : w.grownBy w2 none :=
  ⟨g.os.trans h.os, g.tape.trans h.tape, g.output.trans h.output, Nat.le_trans h.size g.size, fun k hk hne => by
    rw [g.block k (Nat.lt_of_lt_of_le hk h.size) (fun e => by have := hr k e.symm; omega), h.block k hk hne]⟩
/-- the first i ways with a token at least -/
def bumps (ts : List Int) (rows : List (List Int)) (i : Nat) : List (List Int) := (List.range i).map fun q => [((grOf ts rows).f q : Int), ((grOf ts rows).t q : Int), ((max ((grOf ts rows).c q) 1 : Nat) : Int)]
theorem bumps_len (ts : List Int) (rows : List (List Int)) (i : Nat) : (bumps ts rows i).length = i := by simp [bumps]
theorem bumps_succ (ts : List Int) (rows : List (List Int)) (i : Nat) : bumps ts rows (i + 1) = bumps ts rows i ++ [[((grOf ts rows).f i : Int), ((grOf ts rows).t i : Int), ((max ((grOf ts rows).c i) 1 : Nat) : Int)]] := by
  unfold bumps; rw [List.range_succ, List.map_append]; rfl
theorem dead_bumps (ts : List Int) (rows : List (List Int)) (m : Nat) : deadRes ts (bumps ts rows m) = false := by
  unfold deadRes
  cases ht : tokM ts (bumps ts rows m) with
  | false => rfl
  | true =>
    rw [Bool.true_and, Bool.eq_false_iff]
    intro hd
    obtain ⟨S, hS, v, hv⟩ := (dead_iff (gr_ok ht)).1 hd
    obtain ⟨_, k, hk, _, hc, _⟩ := hS v hv
    have hk2 : k < m := by have h : k < (bumps ts rows m).length := hk; rw [bumps_len] at h; exact h
    have h2 : (((bumps ts rows m).getD k []).getD 2 0).toNat = 0 := hc
    have e : (bumps ts rows m).getD k [] = [((grOf ts rows).f k : Int), ((grOf ts rows).t k : Int), ((max ((grOf ts rows).c k) 1 : Nat) : Int)] := by
      unfold bumps; rw [List.getD_eq_getElem?_getD, List.getElem?_map, List.getElem?_range hk2]; rfl
    rw [e] at h2
    have h3 : (((max ((grOf ts rows).c k) 1 : Nat) : Int)).toNat = 0 := h2
    omega
theorem dead_take {ts : List Int} {rows : List (List Int)} (ht : tokM ts rows = true) (hd : deadRes ts rows = false) (n : Nat) : deadRes ts (rows.take n) = false := by
  unfold deadRes at hd ⊢
  rw [ht, Bool.true_and, Bool.eq_false_iff] at hd
  rw [tok_take ht n, Bool.true_and, Bool.eq_false_iff]
  intro h
  refine hd ((dead_iff (gr_ok ht)).2 ?_)
  obtain ⟨S, hS, v, hv⟩ := (dead_iff (gr_ok (tok_take ht n))).1 h
  refine ⟨S, fun v hv => ?_, v, hv⟩
  obtain ⟨h1, k, hk, h2, h3, h4⟩ := hS v hv
  have hk' : k < (rows.take n).length := hk
  have hkn : k < n := by rw [List.length_take] at hk'; omega
  have hkl : k < rows.length := by rw [List.length_take] at hk'; omega
  have e : (rows.take n).getD k [] = rows.getD k [] := by rw [List.getD_eq_getElem?_getD, List.getD_eq_getElem?_getD, List.getElem?_take, if_pos hkn]
  refine ⟨h1, k, hkl, ?_, ?_, ?_⟩
  · show ((rows.getD k []).getD 1 0).toNat = v; rw [← e]; exact h2
  · show ((rows.getD k []).getD 2 0).toNat = 0; rw [← e]; exact h3
  · show S ((rows.getD k []).getD 0 0).toNat; rw [← e]; exact h4
end Go.Proofs.Ytiapaddmnbeheaa
