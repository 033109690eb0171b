import Derived.Test.YthmifadnfaajbabRows
import Derived.WalkKit
import Derived.LoopTactic
import Derived.Outline
import Derived.WalkSpells
import Derived.WalkLawsBesides
import Derived.ProofKit
import Derived.Lib.Hide
import Derived.IntWalk
import Derived.Test.YthmifadnfaajbabM0
import Derived.Test.YthmifadnfaajbabM1
import Derived.Test.YthmifadnfaajbabM2
import Derived.Test.YthmifadnfaajbabM4
import Derived.Test.YthmifadnfaajbabM5
import Derived.Test.YthmifadnfaajbabM16
import Derived.Test.YthmifadnfaajbabM17
import Derived.StillTail
import Derived.Deep.LoopGhost
import Derived.WalkMore
import Derived.StillTailTactics
import Derived.Test.YthmifadnfaajbabM15
namespace Go.Proofs.Ythmifadnfaajbab
open Go.RowKit Go.WideShapes

theorem timeOf_any (S : Nat → Prop) (a : Option Addr) (len cap : Nat) (T : List Int) (s : Nat) (w : World) (hx : IntsAt w S a len T) (hT : ∀ k, 0 ≤ T.getD k 0 ∧ T.getD k 0 ≤ 9) (hl : len ≤ 20) (hs : s < 1048576) :
    Calls Try.prog 50 #[.slice a len cap, .int .i64 s] w fun e w' => e = .returned (.int .i64 (csum T (fun i => s.testBit i) len)) ∧ w = w' := by
  have HT := Lib.hid hT
  go_enter Try.func50, Try.ntmps50
  go_wp2_with fail
  go_loop [5, 10] (fun o i => ∃ k : Nat, k ≤ len ∧ i = .int .i64 k ∧ o = .int .i64 (csum T (fun i => s.testBit i) k)) (fun _ i => len - (intOf i).toNat)
  case atStart => exact ⟨0, Nat.zero_le _, rfl, rfl⟩
  case round =>
    obtain ⟨k, hk, rfl, rfl⟩ := hrel
    by_cases hlt : k < len
    · obtain ⟨b, off, x, rfl, hxx, hc⟩ := hx.get hlt
      have hxb := HT.out k
      have hcr := csum_range HT.out (fun i => s.testBit i) k
      rw [getD_of hxx] at hxb
      have HN := Lib.hid (show csum T (fun i => s.testBit i) (k + 1) = csum T (fun i => s.testBit i) k + (if s.testBit k = true then x else 0) by rw [csum, getD_of hxx])
      have hlk : (k : Int) < (len : Int) := by omega
      clear hxx
      generalize csum T (fun i => s.testBit i) k = o at hcr HN
      go_wp2_with fail
      refine (inSet_any s k hs (by omega) w).mono ?_
      rintro e w' ⟨rfl, rfl⟩
      cases hb : s.testBit k
      · have HN := Lib.hid (show csum T (fun i => s.testBit i) (k + 1) = o by have := HN.out; rw [hb] at this; simpa using this)
        go_wp2_with fail
        go_round
        case rel => exact ⟨k + 1, by omega, by go_num, by rw [HN.out]⟩
        case measure => simp [intOf] <;> omega
      · have HN := Lib.hid (show csum T (fun i => s.testBit i) (k + 1) = o + x by have := HN.out; rw [hb] at this; simpa using this)
        have hw2 : IntKind.i64.wrap (o + x) = o + x := IntWalk.i64_in _ (by omega)
        go_wp2_with fail
        go_round
        case rel => exact ⟨k + 1, by omega, by go_num, by rw [HN.out]⟩
        case measure => simp [intOf] <;> omega
    · obtain rfl : len = k := by omega
      go_wp2
      go_ret
      exact ⟨rfl, rfl⟩
theorem validTasks_impl (S : Nat → Prop) (a : Option Addr) (len cap : Nat) (T : List Int) (a2 : Option Addr) (len2 cap2 : Nat) (ys : List Int) (w : World) (ht : IntsAt w S a len T) (hy : IntsAt w S a2 len2 ys) (hc : len ≤ cap) (hc2 : len2 ≤ cap2) (hl : len ≤ 1048576) (hl2 : len2 ≤ 1048576) :
    Calls Try.prog 44 #[.slice a len cap, .slice a2 len2 cap2] w fun e w' => e = .returned (.bool (tasksM T ys)) ∧ Drew w w' := by
  have HTL := Lib.hid ht.lenEq
  have HYL := Lib.hid hy.lenEq
  by_cases h6 : len ≤ 6
  · by_cases he : len2 = len
    · subst he
      go_enter Try.func44, Try.ntmps44
      go_wp2_with fail
      go_loop [19] (fun i => ∃ k : Nat, k ≤ len2 ∧ i = .int .i64 k ∧ (∀ q, q < k → inB 1 9 (T.getD q 0) = true) ∧ ∀ q, q < k → 0 ≤ ys.getD q 0 ∧ ys.getD q 0 ≤ ((2 ^ q : Nat) : Int) - 1) (fun i => len2 - (intOf i).toNat)
      case atStart => exact ⟨0, Nat.zero_le _, rfl, fun q h => absurd h (by omega), fun q h => absurd h (by omega)⟩
      case round =>
        obtain ⟨k, hk, rfl, h1, h2⟩ := hrel
        have H1 := Lib.hid h1
        have H2 := Lib.hid h2
        clear h1 h2
        by_cases hlt : k < len2
        · obtain ⟨b, off, x, rfl, hxx, hcx⟩ := ht.get hlt
          obtain ⟨b2, off2, y, rfl, hyy, hcy⟩ := hy.get hlt
          have HX := Lib.hid (getD_of hxx)
          have HY := Lib.hid (getD_of hyy)
          clear hxx hyy
          have hkl : (k : Int) < (len2 : Int) := by omega
          have hp := p2_le (n := k) (by omega)
          obtain ⟨pk, hpk⟩ : ∃ pk, 2 ^ k = pk := ⟨_, rfl⟩
          rw [hpk] at hp
          have HPK := Lib.hid hpk
          have HALL := Lib.hid (allOf_any k (by omega) w)
          rw [hpk] at HALL
          clear hpk
          cases hx9 : inB 1 9 x
          · have HF := Lib.hid (show tasksM T ys = false from tasksM_no fun h => by
              have h3 := h.1.1
              unfold allIn at h3
              rw [List.all_eq_true] at h3
              have := h3 (T.getD k 0) (by have := HTL.out; rw [List.getD_eq_getElem?_getD, List.getElem?_eq_getElem (by omega)]; simp)
              rw [HX.out, hx9] at this; cases this)
            go_wp2_with (go_at_call 21; refine (isFrom1To_any _ _ _).mono ?_; rintro e w' ⟨rfl, rfl⟩)
            go_ret
            exact ⟨ret_bool HF.out.symm, Drew.refl _⟩
          · cases hy9 : inB 0 ((pk - 1 : Nat) : Int) y
            · have HF := Lib.hid (show tasksM T ys = false from tasksM_no fun h => by
                have h3 := h.1.2 k (by rw [HYL.out]; exact hlt)
                have h4 : inB 0 ((pk - 1 : Nat) : Int) y = true := by rw [← HY.out]; have := HPK.out; subst this; exact inB_true h3.1 (by have := h3.2; omega)
                rw [h4] at hy9; cases hy9)
              go_wp2_with (first
                | (go_at_call 21; refine (isFrom1To_any _ _ _).mono ?_; rintro e w' ⟨rfl, rfl⟩)
                | (go_at_call 30; refine (HALL.out).mono ?_; rintro e w' ⟨rfl, rfl⟩)
                | (go_at_call 51; refine (isUpTo_any _ _ _).mono ?_; rintro e w' ⟨rfl, rfl⟩))
              go_ret
              exact ⟨ret_bool HF.out.symm, Drew.refl _⟩
            · have HY2 := Lib.hid (show 0 ≤ y ∧ y ≤ ((2 ^ k : Nat) : Int) - 1 by rw [HPK.out]; simp [inB] at hy9; omega)
              go_wp2_with (first
                | (go_at_call 21; refine (isFrom1To_any _ _ _).mono ?_; rintro e w' ⟨rfl, rfl⟩)
                | (go_at_call 30; refine (HALL.out).mono ?_; rintro e w' ⟨rfl, rfl⟩)
                | (go_at_call 51; refine (isUpTo_any _ _ _).mono ?_; rintro e w' ⟨rfl, rfl⟩))
              go_round
              case rel =>
                refine ⟨k + 1, by omega, by go_num, fun q hq => ?_, fun q hq => ?_⟩
                · rcases Nat.lt_or_eq_of_le (Nat.le_of_lt_succ hq) with h | rfl
                  · exact H1.out q h
                  · rw [HX.out]; exact hx9
                · rcases Nat.lt_or_eq_of_le (Nat.le_of_lt_succ hq) with h | rfl
                  · exact H2.out q h
                  · rw [HY.out]; exact HY2.out
              case measure => simp [intOf] <;> omega
        · obtain rfl : len2 = k := by omega
          have HF := Lib.hid (show tasksM T ys = true from tasksM_yes ⟨⟨by
              unfold allIn
              rw [List.all_eq_true]
              intro x hx
              obtain ⟨i, hi, rfl⟩ := List.getElem_of_mem hx
              have := H1.out i (by have := HTL.out; omega)
              rwa [List.getD_eq_getElem?_getD, List.getElem?_eq_getElem hi] at this, fun i hi => H2.out i (by rw [HYL.out] at hi; exact hi)⟩, by rw [HTL.out, HYL.out], by rw [HTL.out]; exact h6⟩)
          go_wp2
          go_ret
          exact ⟨ret_bool HF.out.symm, Drew.refl _⟩
    · have HF := Lib.hid (show tasksM T ys = false from tasksM_no fun h => by have := h.2.1; have := HTL.out; have := HYL.out; omega)
      have hne : ((len2 : Int) != (len : Int)) = true := by simp; omega
      go_enter Try.func44, Try.ntmps44
      go_wp2
      go_ret
      exact ⟨ret_bool HF.out.symm, Drew.refl _⟩
  · have HF := Lib.hid (show tasksM T ys = false from tasksM_no fun h => by have := h.2.2; have := HTL.out; omega)
    go_enter Try.func44, Try.ntmps44
    go_wp2
    go_ret
    exact ⟨ret_bool HF.out.symm, Drew.refl _⟩
theorem fitTact_any (S : Nat → Prop) (a : Option Addr) (len cap : Nat) (T : List Int) (a2 : Option Addr) (len2 cap2 : Nat) (ys : List Int) (c : Int) (w : World) (ht : IntsAt w S a len T) (hy : IntsAt w S a2 len2 ys) (hc : len ≤ cap) (hc2 : len2 ≤ cap2) (hl : len ≤ 1048576) (hl2 : len2 ≤ 1048576) :
    Calls Try.prog 28 #[.slice a len cap, .slice a2 len2 cap2, .int .i64 c] w fun e w' => e = .returned (.bool (lineM T ys c)) ∧ Drew w w' := by
  have HTL := Lib.hid ht.lenEq
  have HALL : tasksM T ys = true → allIn 0 c T = decide (∀ k, k < T.length → T.getD k 0 ≤ c) := fun h => by
    have h1 := (tasks_at (tasksM_get h).1.1).1
    rw [Bool.eq_iff_iff, decide_eq_true_eq]
    unfold allIn
    rw [List.all_eq_true]
    constructor
    · intro h2 k hk
      have := h2 (T.getD k 0) (by rw [List.getD_eq_getElem?_getD, List.getElem?_eq_getElem hk]; simp)
      simp only [inB, Bool.and_eq_true, decide_eq_true_eq] at this; omega
    · intro h2 x hx
      obtain ⟨i, hi, rfl⟩ := List.getElem_of_mem hx
      have h3 := h1 i
      have h4 := h2 i hi
      rw [List.getD_eq_getElem?_getD, List.getElem?_eq_getElem hi] at h3 h4
      exact inB_true h3.1 h4
  cases hv : tasksM T ys
  · have HF := Lib.hid (show lineM T ys c = false from lineM_no fun h => by rw [tasksM_yes h.2.1] at hv; cases hv)
    go_enter Try.func28, Try.ntmps28
    go_wp2_with fail
    refine (validTasks_impl S a len cap T a2 len2 cap2 ys w ht hy hc hc2 hl hl2).mono ?_
    rintro e w' ⟨rfl, hdw⟩
    rw [hv]
    go_wp2_with fail
    go_ret
    exact ⟨ret_bool HF.out.symm, hdw⟩
  · have HAL := Lib.hid (HALL hv)
    have HTP := Lib.hid (tasksM_get hv)
    clear HALL
    cases hq : inB 1 60 c
    · have HF := Lib.hid (show lineM T ys c = false from lineM_no fun h => by rw [h.2.2] at hq; cases hq)
      go_enter Try.func28, Try.ntmps28
      go_wp2_with fail
      refine (validTasks_impl S a len cap T a2 len2 cap2 ys w ht hy hc hc2 hl hl2).mono ?_
      rintro e w' ⟨rfl, hdw⟩
      rw [hv]
      go_wp2_with (go_at_call 21; refine (isFrom1To_any _ _ _).mono ?_; rintro e w'2 ⟨rfl, rfl⟩)
      go_ret
      exact ⟨ret_bool HF.out.symm, hdw⟩
    · have HF := Lib.hid (show lineM T ys c = allIn 0 c T by
        rw [HAL.out]; unfold lineM; apply decide_eq_decide.mpr
        exact ⟨fun h => h.1, fun h => ⟨h, HTP.out, hq⟩⟩)
      go_enter Try.func28, Try.ntmps28
      go_wp2_with fail
      refine (validTasks_impl S a len cap T a2 len2 cap2 ys w ht hy hc hc2 hl hl2).mono ?_
      rintro e w' ⟨rfl, hdw⟩
      rw [hv]
      go_wp2_with (go_at_call 21; refine (isFrom1To_any _ _ _).mono ?_; rintro e w'2 ⟨rfl, rfl⟩)
      refine (allUpTo_any S a len cap T c _ (Drew.ints ht hdw)).mono ?_
      rintro e w2 ⟨rfl, rfl⟩
      go_wp2_with fail
      go_ret
      exact ⟨ret_bool HF.out.symm, hdw⟩
end Go.Proofs.Ythmifadnfaajbab
namespace Go.Proofs.Ythmifadnfaajbab
open Go.RowKit Go.WideShapes

/-- n ints in block b -/
def ArrN (w : World) (b n : Nat) (f : Nat → Int) : Prop := ∀ q, q < n → w.cell? ⟨b, q, none⟩ = some (.int .i64 (f q)) ∧ w.frozen? ⟨b, q, none⟩ = false
theorem ArrN.put {w : World} {b n : Nat} {f : Nat → Int} (h : ArrN w b n f) {k : Nat} (hk : k < n) (v : Int) : ArrN (w.setCell ⟨b, k, none⟩ (.int .i64 v)) b n (fun q => if q = k then v else f q) := by
  intro q hq
  obtain ⟨h1, h2⟩ := h q hq
  by_cases e : q = k
  · subst e
    exact ⟨by rw [World.cell?_setCell_same _ _ _ h1]; simp, by rw [World.frozen?_setCell]; exact h2⟩
  · exact ⟨by rw [World.cell?_setCell_other _ _ _ _ (by intro e'; injection e'; omega)]; simp [e, h1], by rw [World.frozen?_setCell]; exact h2⟩
theorem ArrN.congr {w : World} {b n : Nat} {f g : Nat → Int} (h : ArrN w b n f) (e : ∀ q, q < n → f q = g q) : ArrN w b n g := fun q hq => by rw [← e q hq]; exact h q hq
theorem ArrN.drew {w : World} {b n : Nat} {f : Nat → Int} (h : ArrN w b n f) : ArrN w.drew b n f := h
theorem ArrN.to {w w' : World} {b n : Nat} {f : Nat → Int} (h : ArrN w b n f) (e : w'.heap[b]? = w.heap[b]?) : ArrN w' b n f := fun q hq => by
  obtain ⟨h1, h2⟩ := h q hq
  exact ⟨by rw [World.cell?_of_block (w := w) e]; exact h1, by rw [World.frozen?_of_block (w := w) e]; exact h2⟩
theorem ArrN.new {w : World} {cs : Array Value} {t : TypeId} {n : Nat} {c : Int} (hcs : cs.toList = List.replicate n (.int .i64 c)) : ArrN (w.alloc (.cells cs t)) w.heap.size n (fun _ => c) := by
  intro q hq
  refine ⟨?_, World.frozen?_alloc_new w _ _ _⟩
  rw [World.cell?_alloc_new, ← Array.getElem?_toList, hcs, List.getElem?_replicate, if_pos hq]
/-- 64 zeros -/
def zero64 : Array Value := #[.int .i64 0, .int .i64 0, .int .i64 0, .int .i64 0, .int .i64 0, .int .i64 0, .int .i64 0, .int .i64 0, .int .i64 0, .int .i64 0, .int .i64 0, .int .i64 0, .int .i64 0, .int .i64 0, .int .i64 0, .int .i64 0, .int .i64 0, .int .i64 0, .int .i64 0, .int .i64 0, .int .i64 0, .int .i64 0, .int .i64 0, .int .i64 0, .int .i64 0, .int .i64 0, .int .i64 0, .int .i64 0, .int .i64 0, .int .i64 0, .int .i64 0, .int .i64 0, .int .i64 0, .int .i64 0, .int .i64 0, .int .i64 0, .int .i64 0, .int .i64 0, .int .i64 0, .int .i64 0, .int .i64 0, .int .i64 0, .int .i64 0, .int .i64 0, .int .i64 0, .int .i64 0, .int .i64 0, .int .i64 0, .int .i64 0, .int .i64 0, .int .i64 0, .int .i64 0, .int .i64 0, .int .i64 0, .int .i64 0, .int .i64 0, .int .i64 0, .int .i64 0, .int .i64 0, .int .i64 0, .int .i64 0, .int .i64 0, .int .i64 0, .int .i64 0]
theorem zero64_list : zero64.toList = List.replicate 64 (.int .i64 0) := rfl
set_option maxRecDepth 100000 in
set_option maxHeartbeats 8000000 in
theorem fewestBySets_any (a a2 : Option Addr) (len cap len2 cap2 : Nat) (T ys : List Int) (c : Int) (w : World) (hx : IntsAt w (· < w.heap.size) a len T) (hy : IntsAt w (· < w.heap.size) a2 len2 ys) (hv : lineP T ys c) :
    Calls Try.prog 36 #[.slice a len cap, .slice a2 len2 cap2, .int .i64 c] w (ValPost w (.int .i64 (fewM T (natsOf ys) c))) := by
  have HTL := Lib.hid hx.lenEq
  have HYL := Lib.hid hy.lenEq
  have hcb := lineP_c hv
  have hl6 : len ≤ 6 := by have := hv.2.1.2.2; have := HTL.out; omega
  have hle : len2 = len := by have := hv.2.1.2.1; have := HTL.out; have := HYL.out; omega
  subst hle
  have hA := natsOf_hA hv.2.1.1.2
  have HAL := Lib.hid (show (natsOf ys).length = len2 by rw [natsOf_len]; exact HYL.out)
  have HPI := Lib.hid hv.2.1.1.2
  have HTB := Lib.hid (tasks_at hv.2.1.1.1).1
  have HFB := Lib.hid (fun s (h : s < 64) => fewC_bd (T := T) (A := natsOf ys) (c := c) hA (by omega) hv.1 (s := s) h)
  have HRB := Lib.hid (fun s R (h : R ≤ 64) => runC_bd (T := T) (A := natsOf ys) (c := c) hA (by omega) hv.1 (s := s) R h)
  have HRA := Lib.hid (fun s (h : s < 64) hc => runC_all (T := T) (A := natsOf ys) (c := c) hA (by omega) hv.1 (s := s) h hc)
  have HFF := Lib.hid (fewC_full (T := T) (A := natsOf ys) (c := c) (by rw [natsOf_len]; exact hv.2.1.2.1) hA)
  rw [HTL.out] at HFF
  clear hv hA
  have hpb : 1 ≤ 2 ^ len2 ∧ 2 ^ len2 ≤ 64 := ⟨Nat.pow_pos (by omega), Nat.pow_le_pow_right (n := 2) (by omega) hl6⟩
  have HALL := Lib.hid (fun w => allOf_any len2 (by omega) w)
  obtain ⟨P, hPP⟩ : ∃ P, 2 ^ len2 = P := ⟨_, rfl⟩
  rw [hPP] at hpb HALL HFF
  clear hPP
  have hA0 := ArrN.new (w := w) (t := 61) zero64_list
  have hB0 := (Below.refl w.heap.size w).alloc (Nat.le_refl _) (.cells zero64 61)
  go_enter Try.func36, Try.ntmps36
  go_wp2
  go_step3
  go_wp2
  go_step3
  go_wp2_with fail
  change Calls _ _ _ (w.alloc (.cells zero64 61)) _
  generalize w.alloc (.cells zero64 61) = w0 at *
  have HA0 := Lib.hid hA0
  have HB0 := Lib.hid hB0
  clear hA0 hB0
  refine (HALL.out _).mono ?_
  rintro e w' ⟨rfl, rfl⟩
  have eP : ((P - 1 : Nat) : Int) + 1 = (P : Int) := by omega
  rw [show ((P - 1 : Nat) : Int) = (P : Int) - 1 by omega]
  go_wp2_with fail
  go_loopg [16] P (fun g s16 wr => ∃ (k : Nat) (f : Nat → Int), k + g = P ∧ s16 = .int .i64 k ∧ ArrN wr w.heap.size 64 f ∧ (∀ q, q < k → f q = fewC T (natsOf ys) c q) ∧ Below w.heap.size w wr)
  case atStart => exact ⟨0, _, by omega, rfl, HA0.out, fun q h => absurd h (by omega), HB0.out⟩
  case round =>
    clear HA0 HB0
    obtain ⟨k, f, hkg, rfl, hA, hf, hB⟩ := hrel
    cases gk with
    | zero =>
      obtain rfl : P = k := by omega
      obtain ⟨hcell, _⟩ := hA (P - 1) (by omega)
      have HV := Lib.hid (show f (P - 1) = fewM T (natsOf ys) c by rw [hf (P - 1) (by omega)]; exact HFF.out)
      have HB := Lib.hid hB
      have hi64 : ((P - 1 : Nat) : Int) < 64 := by omega
      have hi64' : P - 1 < 64 := by omega
      clear hA hf hB
      go_wp2_with fail
      refine (HALL.out _).mono ?_
      rintro e w' ⟨rfl, rfl⟩
      go_wp2_with fail
      try rw [Exit.noGoto_ret]
      go_ret
      exact ⟨ret_int HV.out, HB.out⟩
    | succ g =>
      have hkP : k < P := by omega
      have hkPi : (k : Int) < (P : Int) := by omega
      have hk64 : k < 64 := by omega
      have hk64i : (k : Int) < 64 := by omega
      have HA := Lib.hid hA
      have HF := Lib.hid hf
      have HB := Lib.hid hB
      clear hA hf hB
      go_wp2_with fail
      go_loopg [21] len2 (fun g2 s21 wy => ∃ j : Nat, j + g2 = len2 ∧ s21 = .int .i64 j ∧ cloM (natsOf ys) k j = true ∧ wr = wy)
      case atStart => exact ⟨0, by omega, rfl, rfl, rfl⟩
      case round =>
        obtain ⟨wi, rfl⟩ : ∃ wi : World, wi = wr := ⟨_, rfl⟩
        obtain ⟨j, hjg, rfl, hcl, rfl⟩ := hrel
        have HCL := Lib.hid hcl
        clear hcl
        cases gk with
        | zero =>
          obtain rfl : len2 = j := by omega
          have HN := Lib.hid (HRA.out k hk64 (by rw [HAL.out]; exact HCL.out))
          obtain ⟨hcell, hfrz⟩ := HA.out k hk64
          have hpop := popM_bd k
          have HP0 := Lib.hid (show popM k = runC T (natsOf ys) c k 0 from rfl)
          have HONE := Lib.hid (fun w => onesCount_any k hk64 w)
          generalize popM k = pk at *
          have hjl : ¬ (len2 : Int) < (len2 : Int) := by omega
          clear hjl
          have hjl : decide ((len2 : Int) < (len2 : Int)) = false := by simp
          go_wp2_with fail
          refine (HONE.out _).mono ?_
          rintro e w' ⟨rfl, rfl⟩
          go_wp2_with fail
          have HA1 := Lib.hid (HA.out.put hk64 pk)
          have HB1 := Lib.hid (HB.out.setCell (p := ⟨w.heap.size, k, none⟩) (Nat.le_refl _) (.int .i64 pk))
          generalize World.setCell _ _ _ = w1 at *
          clear hcell hfrz
          go_loopg [44] k (fun g3 s44 wz => ∃ (r : Nat) (f' : Nat → Int), r + g3 = k ∧ s44 = .int .i64 r ∧ ArrN wz w.heap.size 64 f' ∧ (∀ q, q < k → f' q = fewC T (natsOf ys) c q) ∧ f' k = runC T (natsOf ys) c k r ∧ Below w.heap.size w wz)
          case atStart => exact ⟨0, _, by omega, rfl, HA1.out, fun q hq => by rw [if_neg (by omega)]; exact HF.out q hq, by rw [if_pos rfl]; exact HP0.out, HB1.out⟩
          case round =>
            clear HA1 HB1
            obtain ⟨r, f', hrg, rfl, hA, hf, hfk, hB⟩ := hrel
            cases gk with
            | zero =>
              obtain rfl : k = r := by omega
              have hrl : decide ((k : Int) < (k : Int)) = false := by simp
              have HA2 := Lib.hid hA
              have HF2 := Lib.hid (show ∀ q, q < k + 1 → f' q = fewC T (natsOf ys) c q from fun q hq => by
                rcases Nat.lt_or_eq_of_le (Nat.le_of_lt_succ hq) with h | rfl
                · exact hf q h
                · rw [hfk]; exact HN.out)
              have HB2 := Lib.hid hB
              clear hA hf hfk hB
              go_wp2_with fail
              go_roundg g
              case measure => omega
              case rel => exact ⟨k + 1, f', by omega, by go_num, HA2.out, HF2.out, HB2.out⟩
            | succ g3 =>
              have hrk : r < k := by omega
              have hrki : (r : Int) < (k : Int) := by omega
              have hr64 : r < 64 := by omega
              have hr64i : (r : Int) < 64 := by omega
              obtain ⟨ck, zk⟩ := hA k hk64
              obtain ⟨cr, zr⟩ := hA r hr64
              rw [hfk] at ck
              rw [hf r hrk] at cr
              have hfb := HFB.out r hr64
              have hrb := HRB.out k r (by omega)
              have HRN := Lib.hid (show runC T (natsOf ys) c k (r + 1) = if okC T c k r then min (runC T (natsOf ys) c k r) (fewC T (natsOf ys) c r + 1) else runC T (natsOf ys) c k r from rfl)
              have HOK := Lib.hid (show okC T c k r ↔ dif r k = 0 ∧ csum T (fun i => (dif k r).testBit i) len2 ≤ c by unfold okC; rw [HTL.out])
              have EA := Lib.hid (i_not r k (by omega) (by omega))
              have EB := Lib.hid (i_not k r (by omega) (by omega))
              have hdl := dif_le k r
              have HTM := Lib.hid (fun w1 (h1 : IntsAt w1 (· < w.heap.size) a len2 T) => timeOf_any _ a len2 cap T (dif k r) w1 h1 HTB.out (by omega) (by omega))
              have hlb := csum_range HTB.out (fun i => (dif k r).testBit i) len2
              have HX1 := Lib.hid (hx.below hB)
              have HA2 := Lib.hid hA
              have HF2 := Lib.hid hf
              have HFK := Lib.hid hfk
              have HB2 := Lib.hid hB
              clear hA hf hfk hB
              generalize runC T (natsOf ys) c k r = rk at *
              generalize fewC T (natsOf ys) c r = fr at *
              generalize csum T (fun i => (dif k r).testBit i) len2 = L at *
              by_cases h1 : dif r k = 0
              · have e1 : (bits .andNot .i64 (r : Int) (k : Int) == 0) = true := by rw [EA.out, h1]; rfl
                by_cases h2 : L ≤ c
                · have HS := Lib.hid (HRN.out.trans (if_pos (HOK.out.mpr ⟨h1, h2⟩)))
                  clear h1
                  go_wp2_with fail
                  rw [EB.out]
                  refine (HTM.out _ HX1.out).mono ?_
                  rintro e w' ⟨rfl, rfl⟩
                  have hw1 : IntKind.i64.wrap (fr + 1) = fr + 1 := IntWalk.i64_in _ (by omega)
                  by_cases h3 : fr + 1 < rk
                  · have HS2 := Lib.hid (HS.out.trans (show min rk (fr + 1) = fr + 1 by omega))
                    go_wp2_with fail
                    go_still_tail 10, (by kernel_rfl)
                    go_wp2
                    go_roundg g3
                    case measure => omega
                    case rel => exact ⟨r + 1, _, by omega, by go_num, HA2.out.drew.put hk64 (fr + 1), fun q hq => by rw [if_neg (by omega)]; exact HF2.out q hq, by rw [if_pos rfl]; exact HS2.out.symm, HB2.out.drew.setCell (p := ⟨w.heap.size, k, none⟩) (Nat.le_refl _) _⟩
                  · have HS2 := Lib.hid (HS.out.trans (show min rk (fr + 1) = rk by omega))
                    go_wp2_with fail
                    go_still_tail 10, (by kernel_rfl)
                    go_wp2
                    go_roundg g3
                    case measure => omega
                    case rel => exact ⟨r + 1, _, by omega, by go_num, HA2.out.drew.put hk64 rk, fun q hq => by rw [if_neg (by omega)]; exact HF2.out q hq, by rw [if_pos rfl]; exact HS2.out.symm, HB2.out.drew.setCell (p := ⟨w.heap.size, k, none⟩) (Nat.le_refl _) _⟩
                · have HS := Lib.hid (HRN.out.trans (if_neg (fun h => h2 (HOK.out.mp h).2)))
                  clear h1
                  go_wp2_with fail
                  rw [EB.out]
                  refine (HTM.out _ HX1.out).mono ?_
                  rintro e w' ⟨rfl, rfl⟩
                  go_wp2_with fail
                  go_roundg g3
                  case measure => omega
                  case rel => exact ⟨r + 1, f', by omega, by go_num, HA2.out, HF2.out, by rw [HFK.out, HS.out], HB2.out⟩
              · have e1 : (bits .andNot .i64 (r : Int) (k : Int) == 0) = false := by rw [EA.out]; simp; omega
                have HS := Lib.hid (HRN.out.trans (if_neg (fun h => h1 (HOK.out.mp h).1)))
                clear h1
                go_wp2_with fail
                go_roundg g3
                case measure => omega
                case rel => exact ⟨r + 1, f', by omega, by go_num, HA2.out, HF2.out, by rw [HFK.out, HS.out], HB2.out⟩
        | succ g2 =>
          have hjl : j < len2 := by omega
          have hjli : (j : Int) < (len2 : Int) := by omega
          obtain ⟨b, off, y, rfl, hyy, hcy⟩ := (hy.below HB.out).get hjl
          have hye : y = (((natsOf ys).getD j 0 : Nat) : Int) := by rw [natsOf_get HPI.out (by rw [HYL.out]; exact hjl), getD_of hyy]
          subst hye
          have hab := natsOf_small HPI.out (i := j) (by omega)
          have HCS := Lib.hid (show cloM (natsOf ys) k (j + 1) = (cloM (natsOf ys) k j && (!k.testBit j || dif ((natsOf ys).getD j 0) k == 0)) from rfl)
          have HIN := Lib.hid (fun w => inSet_any k j (by omega) (by omega) w)
          clear hyy
          generalize (natsOf ys).getD j 0 = am at *
          have EA := Lib.hid (i_not am k (by omega) (by omega))
          cases hb : k.testBit j
          · have HC2 := Lib.hid (show cloM (natsOf ys) k (j + 1) = true by rw [HCS.out, HCL.out, hb]; rfl)
            go_wp2_with fail
            refine (HIN.out _).mono ?_
            rintro e w' ⟨rfl, rfl⟩
            rw [hb]
            go_wp2_with fail
            go_roundg g2
            case measure => omega
            case rel => exact ⟨j + 1, by omega, by go_num, HC2.out, rfl⟩
          · by_cases h1 : dif am k = 0
            · have e1 : (bits .andNot .i64 (am : Int) (k : Int) != 0) = false := by rw [EA.out, h1]; rfl
              have HC2 := Lib.hid (show cloM (natsOf ys) k (j + 1) = true by rw [HCS.out, HCL.out, hb, h1]; rfl)
              clear h1
              go_wp2_with fail
              refine (HIN.out _).mono ?_
              rintro e w' ⟨rfl, rfl⟩
              rw [hb]
              go_wp2_with fail
              go_roundg g2
              case measure => omega
              case rel => exact ⟨j + 1, by omega, by go_num, HC2.out, rfl⟩
            · have e1 : (bits .andNot .i64 (am : Int) (k : Int) != 0) = true := by rw [EA.out]; simp; omega
              have HC2 := Lib.hid (show cloM (natsOf ys) k (natsOf ys).length = false by
                cases hq : cloM (natsOf ys) k (natsOf ys).length
                · rfl
                · exfalso
                  have h2 := (cloM_iff _).mp hq j (by rw [HAL.out]; exact hjl) hb
                  have h3 := HCS.out
                  rw [hb, show (dif am k == 0) = false by simpa using h1] at h3
                  have h4 : cloM (natsOf ys) k (j + 1) = true := (cloM_iff _).mpr fun i hi => (cloM_iff _).mp hq i (by rw [HAL.out]; omega)
                  rw [h4] at h3; simp at h3)
              have HN := Lib.hid (show fewC T (natsOf ys) c k = 7 by unfold fewC; rw [HC2.out]; rfl)
              obtain ⟨ck, zk⟩ := HA.out k hk64
              clear h1
              go_wp2_with fail
              refine (HIN.out _).mono ?_
              rintro e w' ⟨rfl, rfl⟩
              rw [hb]
              go_wp2_with fail
              go_roundg g
              case measure => omega
              case rel => exact ⟨k + 1, _, by omega, by go_num, HA.out.put hk64 7, fun q hq => by
                rcases Nat.lt_or_eq_of_le (Nat.le_of_lt_succ hq) with h | rfl
                · rw [if_neg (by omega)]; exact HF.out q h
                · rw [if_pos rfl]; exact HN.out.symm, HB.out.setCell (p := ⟨w.heap.size, k, none⟩) (Nat.le_refl _) _⟩
end Go.Proofs.Ythmifadnfaajbab
namespace Go.Proofs.Ythmifadnfaajbab
open Go.RowKit Go.WideShapes

theorem Try.infoIntAh : (Try.prog.info? 3).map (fun i => (i.zero, i.size, i.bytes)) = some (some (.int .i64 0), 1, 8) := by kernel_rfl
theorem resC_own {w wr : World} {len : Nat} {f : Nat → Int} (h : OwnF w wr len f) (hs : len ≤ 1048576) : ResPostC w (tab f len) (.returned (.slice (some ⟨w.heap.size, 0, none⟩) len len)) wr := by
  have h1 := (h.done hs).ints
  obtain ⟨a, l, c, e, h2, h3, h4⟩ := h1
  simp only [Ending.returned.injEq, Value.slice.injEq] at e
  obtain ⟨rfl, rfl, rfl⟩ := e
  refine ⟨_, _, _, rfl, h2, ⟨by omega, fun h0 => ⟨_, 0, rfl, ⟨Nat.le_refl _, ?_⟩, fun i hi => ?_⟩⟩, Nat.le_refl _, h4⟩
  · exact World.block_lt_of_cell? wr _ (h.cell (q := 0) (by omega)).1
  · have := h.cell hi
    rw [Nat.zero_add]
    exact ⟨⟨_, this.1⟩, this.2⟩
set_option maxRecDepth 100000 in
set_option maxHeartbeats 4000000 in
theorem allAhead_any (a : Option Addr) (len cap : Nat) (ys : List Int) (w : World) (hy : IntsAt w (· < w.heap.size) a len ys) (hp : powIn ys ys.length) (hl : len ≤ 6) :
    Calls Try.prog 46 #[.slice a len cap] w fun e w' => ∃ a3, e = .returned (.slice a3 len len) ∧ IntsAt w' (fun b => w.heap.size ≤ b ∧ b < w'.heap.size) a3 len (tab (fun i => (allX (natsOf ys) i : Int)) len) ∧ Below w.heap.size w w' := by
  have HYL := Lib.hid hy.lenEq
  have HPI := Lib.hid hp
  have hA := natsOf_hA hp
  have HAB := Lib.hid (fun k (h : k ≤ 6) => show allX (natsOf ys) k ≤ 64 by have := allX_lt hA k; have := Nat.pow_le_pow_right (n := 2) (by omega) h; omega)
  have HUB := Lib.hid (fun k m (h : k ≤ 6) (h2 : m ≤ k) => show aU (natsOf ys) (allT (natsOf ys) k) k m ≤ 64 by have := aU_lt hA k m h2; have := Nat.pow_le_pow_right (n := 2) (by omega) h; omega)
  clear hA hp
  have hmk := fun w => run_make_row' (P := Try.prog) 22 3 (.int .i64 0) 8 Try.underlying22 Try.infoIntAh rfl .i64 .i64 len (by omega) (by omega) w
  have HO0 := Lib.hid (OwnF.start w len (by omega))
  go_enter Try.func46, Try.ntmps46
  go_wp2_with fail
  clear hmk
  go_loopw [12] (fun i wr => ∃ (k : Nat) (f : Nat → Int), k ≤ len ∧ i = .int .i64 k ∧ OwnF w wr len f ∧ ∀ q, q < k → f q = allX (natsOf ys) q) (fun i _ => len - (intOf i).toNat)
  case atStart => exact ⟨0, _, Nat.zero_le _, rfl, HO0.out, fun q h => absurd h (by omega)⟩
  case round =>
    clear HO0
    obtain ⟨k, f, hk, rfl, hO, hf⟩ := hrel
    have HO := Lib.hid hO
    have HF := Lib.hid hf
    by_cases hlt : k < len
    · have hlti : (k : Int) < (len : Int) := by omega
      obtain ⟨b, off, y, rfl, hyy, hcy⟩ := (hy.below hO.below).get hlt
      have hye : y = (((natsOf ys).getD k 0 : Nat) : Int) := by rw [natsOf_get HPI.out (by rw [HYL.out]; exact hlt), getD_of hyy]
      subst hye
      have hab := natsOf_small HPI.out (i := k) (by omega)
      obtain ⟨ck, zk⟩ := hO.cell hlt
      have HU0 := Lib.hid (show aU (natsOf ys) (allT (natsOf ys) k) k 0 = (natsOf ys).getD k 0 from rfl)
      have HUS := Lib.hid (fun m (h : m < k) => show aU (natsOf ys) (allT (natsOf ys) k) k (m + 1) = if ((natsOf ys).getD k 0).testBit m = true then aU (natsOf ys) (allT (natsOf ys) k) k m ||| allX (natsOf ys) m else aU (natsOf ys) (allT (natsOf ys) k) k m by rw [aU, allT_at h])
      have HUE := Lib.hid (allX_eq (natsOf ys) k)
      have HUB2 := Lib.hid (fun m (h : m ≤ k) => HUB.out k m (by omega) h)
      have HOP := Lib.hid (hO.put k (((natsOf ys).getD k 0 : Nat) : Int))
      clear hO hf hyy HUB
      generalize aU (natsOf ys) (allT (natsOf ys) k) k = u at *
      generalize (natsOf ys).getD k 0 = am at *
      go_wp2_with fail
      generalize wr.setCell _ _ = w1 at *
      go_loopw [22] (fun i wz => ∃ (m : Nat) (f' : Nat → Int), m ≤ k ∧ i = .int .i64 m ∧ OwnF w wz len f' ∧ (∀ q, q < k → f' q = allX (natsOf ys) q) ∧ f' k = (u m : Int)) (fun i _ => k - (intOf i).toNat)
      case atStart => exact ⟨0, _, Nat.zero_le _, rfl, HOP.out, fun q hq => by rw [if_neg (by omega)]; exact HF.out q hq, by rw [if_pos rfl, HU0.out]⟩
      case round =>
        clear HOP
        obtain ⟨wi, rfl⟩ : ∃ wi : World, wi = wr := ⟨_, rfl⟩
        obtain ⟨m, f', hm, rfl, hO, hf, hfk⟩ := hrel
        by_cases hmk : m < k
        · have hmki : (m : Int) < (k : Int) := by omega
          have hml : m < len := by omega
          have hmli : (m : Int) < (len : Int) := by omega
          obtain ⟨c1, z1⟩ := hO.cell hlt
          obtain ⟨c2, z2⟩ := hO.cell hml
          rw [hfk] at c1
          rw [hf m hmk] at c2
          have hub := HUB2.out m (by omega)
          have hxb := HAB.out m (by omega)
          have HS := Lib.hid (HUS.out m hmk)
          have HIN := Lib.hid (fun w => inSet_any am m (by omega) (by omega) w)
          have HO2 := Lib.hid hO
          have HF2 := Lib.hid hf
          have HFK := Lib.hid hfk
          clear hO hf hfk
          obtain ⟨um, hum⟩ : ∃ um, u m = um := ⟨_, rfl⟩
          rw [hum] at hub HS c1
          have HUM := Lib.hid hum
          clear hum
          generalize allX (natsOf ys) m = xm at *
          have EO := Lib.hid (i_or um xm (by omega) (by omega))
          cases hb : am.testBit m
          · have HS2 := Lib.hid (show u (m + 1) = um by rw [HS.out, hb]; rfl)
            go_wp2_with fail
            refine (HIN.out _).mono ?_
            rintro e w' ⟨rfl, rfl⟩
            rw [hb]
            go_wp2_with fail
            go_roundw
            case rel => exact ⟨m + 1, f', by omega, by go_num, HO2.out, HF2.out, by rw [HFK.out, HS2.out, HUM.out]⟩
            case measure => simp [intOf] <;> omega
          · have HS2 := Lib.hid (show u (m + 1) = um ||| xm by rw [HS.out, hb]; rfl)
            go_wp2_with fail
            refine (HIN.out _).mono ?_
            rintro e w' ⟨rfl, rfl⟩
            rw [hb]
            go_wp2_with fail
            go_still_tail 10, (by kernel_rfl)
            go_wp2
            go_roundw
            case rel => exact ⟨m + 1, _, by omega, by go_num, (HO2.out.drew1.put k _), fun q hq => by rw [if_neg (by omega)]; exact HF2.out q hq, by rw [if_pos rfl, EO.out, HS2.out]⟩
            case measure => simp [intOf] <;> omega
        · obtain rfl : m = k := by omega
          have HO2 := Lib.hid hO
          have HF2 := Lib.hid (show ∀ q, q < m + 1 → f' q = allX (natsOf ys) q from fun q hq => by
            rcases Nat.lt_or_eq_of_le (Nat.le_of_lt_succ hq) with h | rfl
            · exact hf q h
            · rw [hfk, HUE.out])
          clear hO hf hfk
          go_wp2_with fail
          go_roundw
          case rel => exact ⟨m + 1, f', by omega, by go_num, HO2.out, HF2.out⟩
          case measure => simp [intOf] <;> omega
    · obtain rfl : len = k := by omega
      clear hO hf
      go_wp2
      go_ret
      obtain ⟨a3, l3, c3, e, h1, h2, h3⟩ := ((HO.out.congr (g := fun i => (allX (natsOf ys) i : Int)) HF.out).done (by omega)).ints
      simp only [Ending.returned.injEq, Value.slice.injEq] at e
      obtain ⟨rfl, rfl, rfl⟩ := e
      exact ⟨_, rfl, h1, h3⟩
end Go.Proofs.Ythmifadnfaajbab
