import Derived.Test.YtkpokcddefoklaaRows
import Derived.WalkKit
import Derived.LoopTactic
import Derived.Outline
import Derived.WalkSpells
import Derived.WalkLawsBesides
import Derived.Deep.QuietTactic
import Derived.BigQuiet
import Derived.Test.YtkpokcddefoklaaLib
import Derived.Test.YtkpokcddefoklaaCountM
import Derived.Test.YtkpokcddefoklaaCount
import Derived.Test.YtkpokcddefoklaaWays
import Derived.Test.YtkpokcddefoklaaVb
namespace Go.Proofs.Ytkpokcddefoklaa
open Go.RowKit

def isPartM (n : Nat) (i : Int) : Bool := inB 0 ((n : Int) - 1) i
/-- what TakesOf answers -/
def takesM (rows : List (List Int)) (i j : Int) : Int :=
  if validBillM rows && isPartM rows.length i && isPartM rows.length j then countM rows j.toNat 6 i.toNat else -1
theorem takesM_bad {rows : List (List Int)} {i j : Int} (h : (validBillM rows && isPartM rows.length i && isPartM rows.length j) = false) : takesM rows i j = -1 := by
  unfold takesM; rw [h]; rfl
theorem takesM_good {rows : List (List Int)} {i j : Nat} (hv : validBillM rows = true) (hi : i < rows.length) (hj : j < rows.length) : takesM rows i j = countM rows j 6 i := by
  have h1 : isPartM rows.length i = true := inB_true (by omega) (by omega)
  have h2 : isPartM rows.length j = true := inB_true (by omega) (by omega)
  unfold takesM; rw [hv, h1, h2]; rfl
theorem isPart_nat {n : Nat} {i : Int} (h : isPartM n i = true) : ∃ k : Nat, i = (k : Int) ∧ k < n := by
  simp only [isPartM, inB, decide_eq_true_eq] at h
  exact ⟨i.toNat, by omega, by omega⟩

theorem isPart_any (a : Option Addr) (len cap : Nat) (i : Int) (w : World) (hs : len ≤ 9223372036854775807) :
    Calls Try.prog 25 #[.slice a len cap, .int .i64 i] w fun e w' => e = .returned (.bool (isPartM len i)) ∧ w = w' := by
  by_cases h0 : 0 ≤ i
  · by_cases h1 : i < len
    · go_enter Try.func25, Try.ntmps25
      go_wp2
      go_ret
      exact ⟨ret_bool (inB_true h0 (by omega)).symm, rfl⟩
    · go_enter Try.func25, Try.ntmps25
      go_wp2
      go_ret
      exact ⟨ret_bool (inB_hi (by omega)).symm, rfl⟩
  · go_enter Try.func25, Try.ntmps25
    go_wp2
    go_ret
    exact ⟨ret_bool (inB_lo (by omega)).symm, rfl⟩

def TakePost (w : World) (n : Int) (e : Ending) (w' : World) : Prop := e = .returned (.int .i64 n) ∧ Below w.heap.size w w'

set_option maxHeartbeats 1000000 in
theorem takes_impl (a : Option Addr) (len cap : Nat) (rows : List (List Int)) (i j : Int) (w : World) (h : RowsAt w (· < w.heap.size) a len rows) :
    Calls Try.prog 14 #[.slice a len cap, .int .i64 i, .int .i64 j] w (TakePost w (takesM rows i j)) := by
  have hs := h.small
  have hl := h.lenEq
  cases hv : validBillM rows
  · have ht := takesM_bad (i := i) (j := j) (rows := rows) (by rw [hv]; rfl)
    clear hl
    go_enter Try.func14, Try.ntmps14
    go_wp2_with (go_at_call 8; refine (validBill_impl _ _ _ _ rows _ h).mono ?_; rintro e w2 ⟨rfl, rfl⟩)
    go_ret
    exact ⟨ret_int ht.symm, Below.refl _ _⟩
  · cases hi : isPartM len i
    · have ht := takesM_bad (i := i) (j := j) (rows := rows) (by rw [hv, hl, hi]; rfl)
      clear hl
      go_enter Try.func14, Try.ntmps14
      go_wp2_with fail
      refine (validBill_impl _ _ _ _ rows _ h).mono ?_
      rintro e w2 ⟨rfl, rfl⟩
      go_wp2_with fail
      refine (isPart_any _ _ _ i _ hs).mono ?_
      rintro e w2 ⟨rfl, rfl⟩
      go_wp2
      go_ret
      exact ⟨ret_int ht.symm, Below.refl _ _⟩
    · cases hj : isPartM len j
      · have ht := takesM_bad (i := i) (j := j) (rows := rows) (by rw [hv, hl, hi, hj]; rfl)
        clear hl
        go_enter Try.func14, Try.ntmps14
        go_wp2_with fail
        refine (validBill_impl _ _ _ _ rows _ h).mono ?_
        rintro e w2 ⟨rfl, rfl⟩
        go_wp2_with fail
        refine (isPart_any _ _ _ i _ hs).mono ?_
        rintro e w2 ⟨rfl, rfl⟩
        go_wp2_with fail
        refine (isPart_any _ _ _ j _ hs).mono ?_
        rintro e w2 ⟨rfl, rfl⟩
        go_wp2
        go_ret
        exact ⟨ret_int ht.symm, Below.refl _ _⟩
      · obtain ⟨i', rfl, hi'⟩ := isPart_nat hi
        obtain ⟨j', rfl, hj'⟩ := isPart_nat hj
        have ht := takesM_good (rows := rows) (i := i') (j := j') hv (by omega) (by omega)
        have hl6 : len ≤ 6 := by
          have := hv
          simp only [validBillM, Bool.and_eq_true, inB, decide_eq_true_eq] at this
          omega
        clear hl
        go_enter Try.func14, Try.ntmps14
        go_wp2_with fail
        refine (validBill_impl _ _ _ _ rows _ h).mono ?_
        rintro e w2 ⟨rfl, rfl⟩
        go_wp2_with fail
        refine (isPart_any _ _ _ i' _ hs).mono ?_
        rintro e w2 ⟨rfl, rfl⟩
        go_wp2_with fail
        refine (isPart_any _ _ _ j' _ hs).mono ?_
        rintro e w2 ⟨rfl, rfl⟩
        go_wp2_with fail
        refine (count_calls rows hv a len cap j' 6 i' w (by omega) (by omega) hi' h).mono ?_
        rintro e w2 ⟨rfl, hb⟩
        go_wp2
        go_ret
        exact ⟨ret_int ht.symm, hb⟩

set_option maxHeartbeats 1000000 in
theorem takes_spec (S : Nat → Prop) (a : Option Addr) (len cap : Nat) (rows : List (List Int)) (i j : Int) (w : World) (h : RowsAt w S a len rows) :
    Calls Try.prog 15 #[.slice a len cap, .int .i64 i, .int .i64 j] w (IntPost w (takesM rows i j)) := by
  have hs := h.small
  have hl := h.lenEq
  cases hv : validBillM rows
  · have ht := takesM_bad (i := i) (j := j) (rows := rows) (by rw [hv]; rfl)
    clear hl
    go_enter Try.func15, Try.ntmps15
    go_wp2_with (go_at_call 19; refine (validBill_spec0 _ _ _ _ rows _ h).mono ?_; rintro e w2 ⟨rfl, rfl⟩)
    go_ret
    exact ⟨ret_int ht.symm, Drew.refl _⟩
  · have hl6 : len ≤ 6 := by
      have := hv
      simp only [validBillM, Bool.and_eq_true, inB, decide_eq_true_eq] at this
      omega
    cases hi : isPartM len i
    · have ht := takesM_bad (i := i) (j := j) (rows := rows) (by rw [hv, hl, hi]; rfl)
      clear hl
      have hi2 : inB 0 ((len : Int) - 1) i = false := hi
      go_enter Try.func15, Try.ntmps15
      go_wp2_with fail
      refine (validBill_spec0 _ _ _ _ rows _ h).mono ?_
      rintro e w2 ⟨rfl, rfl⟩
      go_wp2_with fail
      refine (inRange_any i 0 ((len : Int) - 1) _).mono ?_
      rintro e w2 ⟨rfl, rfl⟩
      go_wp2
      go_ret
      exact ⟨ret_int ht.symm, Drew.refl _⟩
    · have hi2 : inB 0 ((len : Int) - 1) i = true := hi
      cases hj : isPartM len j
      · have ht := takesM_bad (i := i) (j := j) (rows := rows) (by rw [hv, hl, hi, hj]; rfl)
        clear hl
        have hj2 : inB 0 ((len : Int) - 1) j = false := hj
        go_enter Try.func15, Try.ntmps15
        go_wp2_with fail
        refine (validBill_spec0 _ _ _ _ rows _ h).mono ?_
        rintro e w2 ⟨rfl, rfl⟩
        go_wp2_with fail
        refine (inRange_any i 0 ((len : Int) - 1) _).mono ?_
        rintro e w2 ⟨rfl, rfl⟩
        go_wp2_with fail
        refine (inRange_any j 0 ((len : Int) - 1) _).mono ?_
        rintro e w2 ⟨rfl, rfl⟩
        go_wp2
        go_ret
        exact ⟨ret_int ht.symm, Drew.refl _⟩
      · have hj2 : inB 0 ((len : Int) - 1) j = true := hj
        obtain ⟨i', rfl, hi'⟩ := isPart_nat hi
        obtain ⟨j', rfl, hj'⟩ := isPart_nat hj
        have ht := takesM_good (rows := rows) (i := i') (j := j') hv (by omega) (by omega)
        clear hl
        by_cases hji : i' < j'
        · have hz := countM_low hv j' 6 i' hji
          go_enter Try.func15, Try.ntmps15
          go_wp2_with fail
          refine (validBill_spec0 _ _ _ _ rows _ h).mono ?_
          rintro e w2 ⟨rfl, rfl⟩
          go_wp2_with fail
          refine (inRange_any i' 0 ((len : Int) - 1) _).mono ?_
          rintro e w2 ⟨rfl, rfl⟩
          go_wp2_with fail
          refine (inRange_any j' 0 ((len : Int) - 1) _).mono ?_
          rintro e w2 ⟨rfl, rfl⟩
          go_wp2
          go_ret
          exact ⟨ret_int (by rw [ht, hz]), Drew.refl _⟩
        · go_enter Try.func15, Try.ntmps15
          go_wp2_with fail
          refine (validBill_spec0 _ _ _ _ rows _ h).mono ?_
          rintro e w2 ⟨rfl, rfl⟩
          go_wp2_with fail
          refine (inRange_any i' 0 ((len : Int) - 1) _).mono ?_
          rintro e w2 ⟨rfl, rfl⟩
          go_wp2_with fail
          refine (inRange_any j' 0 ((len : Int) - 1) _).mono ?_
          rintro e w2 ⟨rfl, rfl⟩
          go_wp2_with fail
          refine (ways_calls rows hv S a len cap j' 6 i' w (by omega) (by omega) hi' h).mono ?_
          rintro e w2 ⟨rfl, hd⟩
          go_wp2
          go_ret
          exact ⟨ret_int ht.symm, hd⟩
end Go.Proofs.Ytkpokcddefoklaa
