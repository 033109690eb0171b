import Derived.Test.YtobfencmfeneoabRows
import Derived.WalkKit
import Derived.LoopTactic
import Derived.Outline
import Derived.WalkSpells
import Derived.WalkLawsBesides
import Derived.ProofKit
import Derived.Lib.Hide
import Derived.IntWalk
import Derived.Test.YtobfencmfeneoabLib
import Derived.Test.YtobfencmfeneoabGen
import Derived.Test.YtobfencmfeneoabMark
import Derived.Test.YtobfencmfeneoabArr
import Derived.Test.YtobfencmfeneoabUp
import Derived.Test.YtobfencmfeneoabNetM
import Derived.Test.YtobfencmfeneoabBitOp
import Derived.Test.YtobfencmfeneoabTaskSpec
import Derived.Test.YtobfencmfeneoabLoadSpec
import Derived.Test.YtobfencmfeneoabFewSpec
import Derived.Test.YtobfencmfeneoabFewC
import Derived.Test.YtobfencmfeneoabLineA
namespace Go.Proofs.Ytobfencmfeneoab
open Go.RowKit Go.WideShapes

theorem timeOf_any (S : Nat → Prop) (a : Option Addr) (len cap : Nat) (T : List Int) (s : Nat) (w : World) (hx : IntsAt w S a len T) (hT : ∀ k, 0 ≤ T.getD k 0 ∧ T.getD k 0 ≤ 9) (hl : len ≤ 20) (hs : s < 1048576) :
    Calls Try.prog 38 #[.slice a len cap, .int .i64 s] w fun e w' => e = .returned (.int .i64 (csum T (fun i => s.testBit i) len)) ∧ w = w' := by
  have HT := Lib.hid hT
  go_enter Try.func38, Try.ntmps38
  go_wp2_with fail
  go_loop [5, 10] (fun o i => ∃ k : Nat, k ≤ len ∧ i = .int .i64 k ∧ o = .int .i64 (csum T (fun i => s.testBit i) k)) (fun _ i => len - (intOf i).toNat)
  case atStart => exact ⟨0, Nat.zero_le _, rfl, rfl⟩
  case round =>
    obtain ⟨k, hk, rfl, rfl⟩ := hrel
    by_cases hlt : k < len
    · obtain ⟨b, off, x, rfl, hxx, hc⟩ := hx.get hlt
      have hxb := HT.out k
      have hcr := csum_range HT.out (fun i => s.testBit i) k
      rw [getD_of hxx] at hxb
      have HN := Lib.hid (show csum T (fun i => s.testBit i) (k + 1) = csum T (fun i => s.testBit i) k + (if s.testBit k = true then x else 0) by rw [csum, getD_of hxx])
      have hlk : (k : Int) < (len : Int) := by omega
      clear hxx
      generalize csum T (fun i => s.testBit i) k = o at hcr HN
      go_wp2_with fail
      refine (inSet_any s k hs (by omega) w).mono ?_
      rintro e w' ⟨rfl, rfl⟩
      cases hb : s.testBit k
      · have HN := Lib.hid (show csum T (fun i => s.testBit i) (k + 1) = o by have := HN.out; rw [hb] at this; simpa using this)
        go_wp2_with fail
        go_round
        case rel => exact ⟨k + 1, by omega, by go_num, by rw [HN.out]⟩
        case measure => simp [intOf] <;> omega
      · have HN := Lib.hid (show csum T (fun i => s.testBit i) (k + 1) = o + x by have := HN.out; rw [hb] at this; simpa using this)
        have hw2 : IntKind.i64.wrap (o + x) = o + x := IntWalk.i64_in _ (by omega)
        go_wp2_with fail
        go_round
        case rel => exact ⟨k + 1, by omega, by go_num, by rw [HN.out]⟩
        case measure => simp [intOf] <;> omega
    · obtain rfl : len = k := by omega
      go_wp2
      go_ret
      exact ⟨rfl, rfl⟩
theorem validTasks_impl (S : Nat → Prop) (a : Option Addr) (len cap : Nat) (T : List Int) (a2 : Option Addr) (len2 cap2 : Nat) (ys : List Int) (w : World) (ht : IntsAt w S a len T) (hy : IntsAt w S a2 len2 ys) (hc : len ≤ cap) (hc2 : len2 ≤ cap2) (hl : len ≤ 1048576) (hl2 : len2 ≤ 1048576) :
    Calls Try.prog 28 #[.slice a len cap, .slice a2 len2 cap2] w fun e w' => e = .returned (.bool (tasksM T ys)) ∧ Drew w w' := by
  have HTL := Lib.hid ht.lenEq
  have HYL := Lib.hid hy.lenEq
  by_cases h6 : len ≤ 6
  · by_cases he : len2 = len
    · subst he
      go_enter Try.func28, Try.ntmps28
      go_wp2_with fail
      go_loop [19] (fun i => ∃ k : Nat, k ≤ len2 ∧ i = .int .i64 k ∧ (∀ q, q < k → inB 1 9 (T.getD q 0) = true) ∧ ∀ q, q < k → 0 ≤ ys.getD q 0 ∧ ys.getD q 0 ≤ ((2 ^ q : Nat) : Int) - 1) (fun i => len2 - (intOf i).toNat)
      case atStart => exact ⟨0, Nat.zero_le _, rfl, fun q h => absurd h (by omega), fun q h => absurd h (by omega)⟩
      case round =>
        obtain ⟨k, hk, rfl, h1, h2⟩ := hrel
        have H1 := Lib.hid h1
        have H2 := Lib.hid h2
        clear h1 h2
        by_cases hlt : k < len2
        · obtain ⟨b, off, x, rfl, hxx, hcx⟩ := ht.get hlt
          obtain ⟨b2, off2, y, rfl, hyy, hcy⟩ := hy.get hlt
          have HX := Lib.hid (getD_of hxx)
          have HY := Lib.hid (getD_of hyy)
          clear hxx hyy
          have hkl : (k : Int) < (len2 : Int) := by omega
          have hp := p2_le (n := k) (by omega)
          obtain ⟨pk, hpk⟩ : ∃ pk, 2 ^ k = pk := ⟨_, rfl⟩
          rw [hpk] at hp
          have HPK := Lib.hid hpk
          have HALL := Lib.hid (allOf_any k (by omega) w)
          rw [hpk] at HALL
          clear hpk
          cases hx9 : inB 1 9 x
          · have HF := Lib.hid (show tasksM T ys = false from tasksM_no fun h => by
              have h3 := h.1.1
              unfold allIn at h3
              rw [List.all_eq_true] at h3
              have := h3 (T.getD k 0) (by have := HTL.out; rw [List.getD_eq_getElem?_getD, List.getElem?_eq_getElem (by omega)]; simp)
              rw [HX.out, hx9] at this; cases this)
            go_wp2_with (go_at_call 29; refine (isFrom1To_any _ _ _).mono ?_; rintro e w' ⟨rfl, rfl⟩)
            go_ret
            exact ⟨ret_bool HF.out.symm, Drew.refl _⟩
          · cases hy9 : inB 0 ((pk - 1 : Nat) : Int) y
            · have HF := Lib.hid (show tasksM T ys = false from tasksM_no fun h => by
                have h3 := h.1.2 k (by rw [HYL.out]; exact hlt)
                have h4 : inB 0 ((pk - 1 : Nat) : Int) y = true := by rw [← HY.out]; have := HPK.out; subst this; exact inB_true h3.1 (by have := h3.2; omega)
                rw [h4] at hy9; cases hy9)
              go_wp2_with (first
                | (go_at_call 29; refine (isFrom1To_any _ _ _).mono ?_; rintro e w' ⟨rfl, rfl⟩)
                | (go_at_call 26; refine (HALL.out).mono ?_; rintro e w' ⟨rfl, rfl⟩)
                | (go_at_call 42; refine (isUpTo_any _ _ _).mono ?_; rintro e w' ⟨rfl, rfl⟩))
              go_ret
              exact ⟨ret_bool HF.out.symm, Drew.refl _⟩
            · have HY2 := Lib.hid (show 0 ≤ y ∧ y ≤ ((2 ^ k : Nat) : Int) - 1 by rw [HPK.out]; simp [inB] at hy9; omega)
              go_wp2_with (first
                | (go_at_call 29; refine (isFrom1To_any _ _ _).mono ?_; rintro e w' ⟨rfl, rfl⟩)
                | (go_at_call 26; refine (HALL.out).mono ?_; rintro e w' ⟨rfl, rfl⟩)
                | (go_at_call 42; refine (isUpTo_any _ _ _).mono ?_; rintro e w' ⟨rfl, rfl⟩))
              go_round
              case rel =>
                refine ⟨k + 1, by omega, by go_num, fun q hq => ?_, fun q hq => ?_⟩
                · rcases Nat.lt_or_eq_of_le (Nat.le_of_lt_succ hq) with h | rfl
                  · exact H1.out q h
                  · rw [HX.out]; exact hx9
                · rcases Nat.lt_or_eq_of_le (Nat.le_of_lt_succ hq) with h | rfl
                  · exact H2.out q h
                  · rw [HY.out]; exact HY2.out
              case measure => simp [intOf] <;> omega
        · obtain rfl : len2 = k := by omega
          have HF := Lib.hid (show tasksM T ys = true from tasksM_yes ⟨⟨by
              unfold allIn
              rw [List.all_eq_true]
              intro x hx
              obtain ⟨i, hi, rfl⟩ := List.getElem_of_mem hx
              have := H1.out i (by have := HTL.out; omega)
              rwa [List.getD_eq_getElem?_getD, List.getElem?_eq_getElem hi] at this, fun i hi => H2.out i (by rw [HYL.out] at hi; exact hi)⟩, by rw [HTL.out, HYL.out], by rw [HTL.out]; exact h6⟩)
          go_wp2
          go_ret
          exact ⟨ret_bool HF.out.symm, Drew.refl _⟩
    · have HF := Lib.hid (show tasksM T ys = false from tasksM_no fun h => by have := h.2.1; have := HTL.out; have := HYL.out; omega)
      have hne : ((len2 : Int) != (len : Int)) = true := by simp; omega
      go_enter Try.func28, Try.ntmps28
      go_wp2
      go_ret
      exact ⟨ret_bool HF.out.symm, Drew.refl _⟩
  · have HF := Lib.hid (show tasksM T ys = false from tasksM_no fun h => by have := h.2.2; have := HTL.out; omega)
    go_enter Try.func28, Try.ntmps28
    go_wp2
    go_ret
    exact ⟨ret_bool HF.out.symm, Drew.refl _⟩
theorem fitTact_any (S : Nat → Prop) (a : Option Addr) (len cap : Nat) (T : List Int) (a2 : Option Addr) (len2 cap2 : Nat) (ys : List Int) (c : Int) (w : World) (ht : IntsAt w S a len T) (hy : IntsAt w S a2 len2 ys) (hc : len ≤ cap) (hc2 : len2 ≤ cap2) (hl : len ≤ 1048576) (hl2 : len2 ≤ 1048576) :
    Calls Try.prog 21 #[.slice a len cap, .slice a2 len2 cap2, .int .i64 c] w fun e w' => e = .returned (.bool (lineM T ys c)) ∧ Drew w w' := by
  have HTL := Lib.hid ht.lenEq
  have HALL : tasksM T ys = true → allIn 0 c T = decide (∀ k, k < T.length → T.getD k 0 ≤ c) := fun h => by
    have h1 := (tasks_at (tasksM_get h).1.1).1
    rw [Bool.eq_iff_iff, decide_eq_true_eq]
    unfold allIn
    rw [List.all_eq_true]
    constructor
    · intro h2 k hk
      have := h2 (T.getD k 0) (by rw [List.getD_eq_getElem?_getD, List.getElem?_eq_getElem hk]; simp)
      simp only [inB, Bool.and_eq_true, decide_eq_true_eq] at this; omega
    · intro h2 x hx
      obtain ⟨i, hi, rfl⟩ := List.getElem_of_mem hx
      have h3 := h1 i
      have h4 := h2 i hi
      rw [List.getD_eq_getElem?_getD, List.getElem?_eq_getElem hi] at h3 h4
      exact inB_true h3.1 h4
  cases hv : tasksM T ys
  · have HF := Lib.hid (show lineM T ys c = false from lineM_no fun h => by rw [tasksM_yes h.2.1] at hv; cases hv)
    go_enter Try.func21, Try.ntmps21
    go_wp2_with fail
    refine (validTasks_impl S a len cap T a2 len2 cap2 ys w ht hy hc hc2 hl hl2).mono ?_
    rintro e w' ⟨rfl, hdw⟩
    rw [hv]
    go_wp2_with fail
    go_ret
    exact ⟨ret_bool HF.out.symm, hdw⟩
  · have HAL := Lib.hid (HALL hv)
    have HTP := Lib.hid (tasksM_get hv)
    clear HALL
    cases hq : inB 1 60 c
    · have HF := Lib.hid (show lineM T ys c = false from lineM_no fun h => by rw [h.2.2] at hq; cases hq)
      go_enter Try.func21, Try.ntmps21
      go_wp2_with fail
      refine (validTasks_impl S a len cap T a2 len2 cap2 ys w ht hy hc hc2 hl hl2).mono ?_
      rintro e w' ⟨rfl, hdw⟩
      rw [hv]
      go_wp2_with (go_at_call 29; refine (isFrom1To_any _ _ _).mono ?_; rintro e w'2 ⟨rfl, rfl⟩)
      go_ret
      exact ⟨ret_bool HF.out.symm, hdw⟩
    · have HF := Lib.hid (show lineM T ys c = allIn 0 c T by
        rw [HAL.out]; unfold lineM; apply decide_eq_decide.mpr
        exact ⟨fun h => h.1, fun h => ⟨h, HTP.out, hq⟩⟩)
      go_enter Try.func21, Try.ntmps21
      go_wp2_with fail
      refine (validTasks_impl S a len cap T a2 len2 cap2 ys w ht hy hc hc2 hl hl2).mono ?_
      rintro e w' ⟨rfl, hdw⟩
      rw [hv]
      go_wp2_with (go_at_call 29; refine (isFrom1To_any _ _ _).mono ?_; rintro e w'2 ⟨rfl, rfl⟩)
      refine (allUpTo_any S a len cap T c _ (Drew.ints ht hdw)).mono ?_
      rintro e w2 ⟨rfl, rfl⟩
      go_wp2_with fail
      go_ret
      exact ⟨ret_bool HF.out.symm, hdw⟩
end Go.Proofs.Ytobfencmfeneoab
