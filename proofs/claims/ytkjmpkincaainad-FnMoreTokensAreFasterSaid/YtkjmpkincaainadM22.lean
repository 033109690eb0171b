import Derived.Test.YtkjmpkincaainadRows
import Derived.WalkKit
import Derived.ProofKit
import Derived.Lib.Hide
import Derived.Test.YtkjmpkincaainadM0
import Derived.Test.YtkjmpkincaainadM1
import Derived.Test.YtkjmpkincaainadM5
import Derived.Test.YtkjmpkincaainadM7
import Derived.Test.YtkjmpkincaainadM11
namespace Go.Proofs.Ytkjmpkincaainad
open Go.RowKit

-- one token more on the first way (plain)
def moreC (ts : List Int) (rows : List (List Int)) (k : Nat) : Nat := (grOf ts rows).c k + if k = 0 then 1 else 0
def moreRow (ts : List Int) (rows : List (List Int)) (k : Nat) : List Int := [((grOf ts rows).f k : Int), ((grOf ts rows).t k : Int), (moreC ts rows k : Int)]
def moreRows (ts : List Int) (rows : List (List Int)) (k : Nat) : List (List Int) := (List.range k).map (moreRow ts rows)
theorem moreRows_snoc (ts : List Int) (rows : List (List Int)) (k : Nat) : moreRows ts rows (k + 1) = moreRows ts rows k ++ [moreRow ts rows k] := by simp [moreRows, List.range_succ]
theorem moreRows_len (ts : List Int) (rows : List (List Int)) (k : Nat) : (moreRows ts rows k).length = k := by simp [moreRows]
theorem moreRows_getD {ts : List Int} {rows : List (List Int)} {i k : Nat} (h : i < k) : (moreRows ts rows k).getD i [] = moreRow ts rows i := by
  rw [List.getD_eq_getElem?_getD, show (moreRows ts rows k)[i]? = some (moreRow ts rows i) by simp [moreRows, h]]; rfl
theorem moreRows_gr (ts : List Int) (rows : List (List Int)) {m : Nat} : ∀ k, k < m → (grOf ts (moreRows ts rows m)).f k = (grOf ts rows).f k ∧ (grOf ts (moreRows ts rows m)).t k = (grOf ts rows).t k ∧ (grOf ts (moreRows ts rows m)).c k = moreC ts rows k := by
  intro k hk
  refine ⟨?_, ?_, ?_⟩
  · show (((moreRows ts rows m).getD k []).getD 0 0).toNat = _
    rw [moreRows_getD hk]; rfl
  · show (((moreRows ts rows m).getD k []).getD 1 0).toNat = _
    rw [moreRows_getD hk]; rfl
  · show (((moreRows ts rows m).getD k []).getD 2 0).toNat = _
    rw [moreRows_getD hk]; rfl
theorem moreRows_tok {ts : List Int} {rows : List (List Int)} (h : tokM ts rows = true) (h3 : (grOf ts rows).c 0 ≠ 3) : tokM ts (moreRows ts rows rows.length) = true := by
  have hok := gr_ok h
  simp only [tokM, Bool.and_eq_true, decide_eq_true_eq] at h ⊢
  obtain ⟨h1, h2, h7, _⟩ := h
  refine ⟨h1, h2, by rw [moreRows_len]; exact h7, ?_⟩
  rw [List.all_eq_true]
  intro r hr
  obtain ⟨i, hi, rfl⟩ := List.mem_map.1 hr
  have hi := List.mem_range.1 hi
  obtain ⟨hf, ht, hc⟩ := hok.ways i hi
  have hf' : (grOf ts rows).f i < ts.length := hf
  have ht' : (grOf ts rows).t i < ts.length := ht
  have hlen : (moreRow ts rows i).length = 3 := rfl
  have e0 : (moreRow ts rows i).getD 0 0 = ((grOf ts rows).f i : Int) := rfl
  have e1 : (moreRow ts rows i).getD 1 0 = ((grOf ts rows).t i : Int) := rfl
  have e2 : (moreRow ts rows i).getD 2 0 = (moreC ts rows i : Int) := rfl
  have hcc : moreC ts rows i ≤ 3 := by
    unfold moreC
    by_cases e : i = 0
    · subst e; rw [if_pos rfl]; omega
    · rw [if_neg e]; omega
  unfold wayB
  rw [hlen, e0, e1, e2, inB_true (by omega) (by omega), inB_true (by omega) (by omega), inB_true (by omega) (by omega)]
  rfl
theorem moreRows_ways (ts : List Int) (rows : List (List Int)) : ∀ k, k < (grOf ts rows).m → (grOf ts (moreRows ts rows rows.length)).f k = (grOf ts rows).f k ∧ (grOf ts (moreRows ts rows rows.length)).t k = (grOf ts rows).t k ∧ (grOf ts rows).c k ≤ (grOf ts (moreRows ts rows rows.length)).c k := fun k hk => by
  obtain ⟨a, b, c⟩ := moreRows_gr ts rows (m := rows.length) k hk
  refine ⟨a, b, ?_⟩
  rw [c]; unfold moreC; omega
theorem moreRows_m (ts : List Int) (rows : List (List Int)) : (grOf ts (moreRows ts rows rows.length)).m = (grOf ts rows).m := moreRows_len ts rows rows.length
theorem moreRows_rank {ts : List Int} {rows : List (List Int)} {rk : Nat → Nat} (h : (grOf ts rows).Rank rk) : (grOf ts (moreRows ts rows rows.length)).Rank rk := by
  refine ⟨h.1, fun k hk hc => ?_⟩
  rw [moreRows_m] at hk
  obtain ⟨a, b, c⟩ := moreRows_ways ts rows k hk
  rw [a, b]
  exact h.2 k hk (by omega)
theorem moreRows_alive {ts : List Int} {rows : List (List Int)} (h : aliveB ts rows = true) (h3 : (grOf ts rows).c 0 ≠ 3) : aliveB ts (moreRows ts rows rows.length) = true := by
  obtain ⟨hv, hd⟩ := alive_get h
  obtain ⟨rk, hrk⟩ := rank_of (gr_ok hv) hd
  have ht := moreRows_tok hv h3
  have hd2 := dead_of_rank (moreRows_rank hrk)
  unfold aliveB
  rw [ht]
  cases e : (grOf ts (moreRows ts rows rows.length)).deadB
  · rfl
  · exact absurd ((dead_iff (gr_ok ht)).1 e) hd2
theorem moreRows_b {ts : List Int} {rows : List (List Int)} (h : aliveB ts rows = true) (h3 : (grOf ts rows).c 0 ≠ 3) {r v : Nat} (hr : r ≤ 40) (hv : v < ts.length) : (grOf ts (moreRows ts rows rows.length)).b r v ≤ (grOf ts rows).b r v := by
  obtain ⟨ht, hd⟩ := alive_get h
  obtain ⟨rk, hrk⟩ := rank_of (gr_ok ht) hd
  exact b_more (gr_ok ht) (gr_ok (moreRows_tok ht h3)) hrk (moreRows_rank hrk) rfl (moreRows_m ts rows) (moreRows_ways ts rows) (fun _ => rfl) r v hr hv
theorem moreRows_pace {ts : List Int} {rows : List (List Int)} {U D U' D' : Nat} (hp : IsPace (grOf ts rows) U D) (hp' : IsPace (grOf ts (moreRows ts rows rows.length)) U' D') : (U' : Int) * D ≤ (U : Int) * D' :=
  pace_more (moreRows_m ts rows) (moreRows_ways ts rows) (fun _ => rfl) hp hp'
end Go.Proofs.Ytkjmpkincaainad
