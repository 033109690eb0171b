import Derived.Test.YtobfencmfeneoaaRows
import Derived.WalkKit
import Derived.LoopTactic
import Derived.Outline
import Derived.WalkSpells
import Derived.WalkLawsBesides
import Derived.ProofKit
import Derived.Lib.Hide
import Derived.IntWalk
import Derived.Test.YtobfencmfeneoaaLib
import Derived.Test.YtobfencmfeneoaaGen
import Derived.Test.YtobfencmfeneoaaMark
import Derived.Test.YtobfencmfeneoaaArr
import Derived.Test.YtobfencmfeneoaaUp
import Derived.Test.YtobfencmfeneoaaNetM
import Derived.Test.YtobfencmfeneoaaBitOp
import Derived.Test.YtobfencmfeneoaaTaskSpec
import Derived.Test.YtobfencmfeneoaaLoadSpec
import Derived.Test.YtobfencmfeneoaaFewSpec
import Derived.Test.YtobfencmfeneoaaFewC
import Derived.Test.YtobfencmfeneoaaLineA
namespace Go.Proofs.Ytobfencmfeneoaa
open Go.RowKit Go.WideShapes

theorem validTasks_impl (S : Nat → Prop) (a : Option Addr) (len cap : Nat) (T : List Int) (a2 : Option Addr) (len2 cap2 : Nat) (ys : List Int) (w : World) (ht : IntsAt w S a len T) (hy : IntsAt w S a2 len2 ys) (hc : len ≤ cap) (hc2 : len2 ≤ cap2) (hl : len ≤ 1048576) (hl2 : len2 ≤ 1048576) :
    Calls Try.prog 8 #[.slice a len cap, .slice a2 len2 cap2] w fun e w' => e = .returned (.bool (tasksM T ys)) ∧ Drew w w' := by
  have HTL := Lib.hid ht.lenEq
  have HYL := Lib.hid hy.lenEq
  by_cases h6 : len ≤ 6
  · by_cases he : len2 = len
    · subst he
      go_enter Try.func8, Try.ntmps8
      go_wp2_with fail
      go_loop [19] (fun i => ∃ k : Nat, k ≤ len2 ∧ i = .int .i64 k ∧ (∀ q, q < k → inB 1 9 (T.getD q 0) = true) ∧ ∀ q, q < k → 0 ≤ ys.getD q 0 ∧ ys.getD q 0 ≤ ((2 ^ q : Nat) : Int) - 1) (fun i => len2 - (intOf i).toNat)
      case atStart => exact ⟨0, Nat.zero_le _, rfl, fun q h => absurd h (by omega), fun q h => absurd h (by omega)⟩
      case round =>
        obtain ⟨k, hk, rfl, h1, h2⟩ := hrel
        have H1 := Lib.hid h1
        have H2 := Lib.hid h2
        clear h1 h2
        by_cases hlt : k < len2
        · obtain ⟨b, off, x, rfl, hxx, hcx⟩ := ht.get hlt
          obtain ⟨b2, off2, y, rfl, hyy, hcy⟩ := hy.get hlt
          have HX := Lib.hid (getD_of hxx)
          have HY := Lib.hid (getD_of hyy)
          clear hxx hyy
          have hkl : (k : Int) < (len2 : Int) := by omega
          have hp := p2_le (n := k) (by omega)
          obtain ⟨pk, hpk⟩ : ∃ pk, 2 ^ k = pk := ⟨_, rfl⟩
          rw [hpk] at hp
          have HPK := Lib.hid hpk
          have HALL := Lib.hid (allOf_any k (by omega) w)
          rw [hpk] at HALL
          clear hpk
          cases hx9 : inB 1 9 x
          · have HF := Lib.hid (show tasksM T ys = false from tasksM_no fun h => by
              have h3 := h.1.1
              unfold allIn at h3
              rw [List.all_eq_true] at h3
              have := h3 (T.getD k 0) (by have := HTL.out; rw [List.getD_eq_getElem?_getD, List.getElem?_eq_getElem (by omega)]; simp)
              rw [HX.out, hx9] at this; cases this)
            go_wp2_with (go_at_call 22; refine (isFrom1To_any _ _ _).mono ?_; rintro e w' ⟨rfl, rfl⟩)
            go_ret
            exact ⟨ret_bool HF.out.symm, Drew.refl _⟩
          · cases hy9 : inB 0 ((pk - 1 : Nat) : Int) y
            · have HF := Lib.hid (show tasksM T ys = false from tasksM_no fun h => by
                have h3 := h.1.2 k (by rw [HYL.out]; exact hlt)
                have h4 : inB 0 ((pk - 1 : Nat) : Int) y = true := by rw [← HY.out]; have := HPK.out; subst this; exact inB_true h3.1 (by have := h3.2; omega)
                rw [h4] at hy9; cases hy9)
              go_wp2_with (first
                | (go_at_call 22; refine (isFrom1To_any _ _ _).mono ?_; rintro e w' ⟨rfl, rfl⟩)
                | (go_at_call 24; refine (HALL.out).mono ?_; rintro e w' ⟨rfl, rfl⟩)
                | (go_at_call 23; refine (isUpTo_any _ _ _).mono ?_; rintro e w' ⟨rfl, rfl⟩))
              go_ret
              exact ⟨ret_bool HF.out.symm, Drew.refl _⟩
            · have HY2 := Lib.hid (show 0 ≤ y ∧ y ≤ ((2 ^ k : Nat) : Int) - 1 by rw [HPK.out]; simp [inB] at hy9; omega)
              go_wp2_with (first
                | (go_at_call 22; refine (isFrom1To_any _ _ _).mono ?_; rintro e w' ⟨rfl, rfl⟩)
                | (go_at_call 24; refine (HALL.out).mono ?_; rintro e w' ⟨rfl, rfl⟩)
                | (go_at_call 23; refine (isUpTo_any _ _ _).mono ?_; rintro e w' ⟨rfl, rfl⟩))
              go_round
              case rel =>
                refine ⟨k + 1, by omega, by go_num, fun q hq => ?_, fun q hq => ?_⟩
                · rcases Nat.lt_or_eq_of_le (Nat.le_of_lt_succ hq) with h | rfl
                  · exact H1.out q h
                  · rw [HX.out]; exact hx9
                · rcases Nat.lt_or_eq_of_le (Nat.le_of_lt_succ hq) with h | rfl
                  · exact H2.out q h
                  · rw [HY.out]; exact HY2.out
              case measure => simp [intOf] <;> omega
        · obtain rfl : len2 = k := by omega
          have HF := Lib.hid (show tasksM T ys = true from tasksM_yes ⟨⟨by
              unfold allIn
              rw [List.all_eq_true]
              intro x hx
              obtain ⟨i, hi, rfl⟩ := List.getElem_of_mem hx
              have := H1.out i (by have := HTL.out; omega)
              rwa [List.getD_eq_getElem?_getD, List.getElem?_eq_getElem hi] at this, fun i hi => H2.out i (by rw [HYL.out] at hi; exact hi)⟩, by rw [HTL.out, HYL.out], by rw [HTL.out]; exact h6⟩)
          go_wp2
          go_ret
          exact ⟨ret_bool HF.out.symm, Drew.refl _⟩
    · have HF := Lib.hid (show tasksM T ys = false from tasksM_no fun h => by have := h.2.1; have := HTL.out; have := HYL.out; omega)
      have hne : ((len2 : Int) != (len : Int)) = true := by simp; omega
      go_enter Try.func8, Try.ntmps8
      go_wp2
      go_ret
      exact ⟨ret_bool HF.out.symm, Drew.refl _⟩
  · have HF := Lib.hid (show tasksM T ys = false from tasksM_no fun h => by have := h.2.2; have := HTL.out; omega)
    go_enter Try.func8, Try.ntmps8
    go_wp2
    go_ret
    exact ⟨ret_bool HF.out.symm, Drew.refl _⟩
end Go.Proofs.Ytobfencmfeneoaa
