import Derived.Test.YtobfencmfeneoabRows
import Derived.WalkKit
import Derived.LoopTactic
import Derived.Outline
import Derived.WalkSpells
import Derived.WalkLawsBesides
import Derived.ProofKit
import Derived.Lib.Hide
import Derived.IntWalk
import Derived.Test.YtobfencmfeneoabLib
import Derived.Test.YtobfencmfeneoabGen
import Derived.Test.YtobfencmfeneoabMark
import Derived.Test.YtobfencmfeneoabArr
import Derived.Test.YtobfencmfeneoabOwn1
import Derived.Test.YtobfencmfeneoabLaws
import Derived.Test.YtobfencmfeneoabEx
import Derived.Test.YtobfencmfeneoabVb
import Derived.Test.YtobfencmfeneoabTactM
import Derived.Test.YtobfencmfeneoabBitOp
namespace Go.Proofs.Ytobfencmfeneoab
open Go.RowKit Go.WideShapes

theorem p2_bd {n : Nat} (h : n ≤ 20) : 1 ≤ 2 ^ n ∧ 2 ^ n ≤ 1048576 := ⟨Nat.pow_pos (by omega), Nat.pow_le_pow_right (n := 2) (by omega) h⟩
/-- 2 to n, as far as it goes. -/
def powV : Nat → Int
  | 0 => 1
  | n + 1 => wrap64 (2 * powV n)
theorem powV_bd : ∀ n, -9223372036854775808 ≤ powV n ∧ powV n ≤ 9223372036854775807
  | 0 => by decide
  | n + 1 => w64_bd _
theorem powV_eq : ∀ n, n ≤ 20 → powV n = ((2 ^ n : Nat) : Int)
  | 0, _ => rfl
  | n + 1, h => by
    have hb := p2_bd (n := n) (by omega)
    rw [powV, powV_eq n (by omega), w64_id (by omega) (by omega), Nat.pow_succ]; push_cast; omega
theorem power_all (n : Nat) (hn : n ≤ 1048576) (w : World) :
    Calls Try.prog 32 #[.int .i64 n] w fun e w' => e = .returned (.int .i64 (powV n)) ∧ w = w' := by
  go_enter Try.func32, Try.ntmps32
  go_wp2
  go_loop [0, 3] (fun i o => ∃ (k : Nat), k ≤ n ∧ i = .int .i64 k ∧ o = .int .i64 (powV (n - k))) (fun i _ => (intOf i).toNat)
  case atStart => exact ⟨n, Nat.le_refl _, rfl, by rw [Nat.sub_self]; rfl⟩
  case round =>
    obtain ⟨k, hk, rfl, rfl⟩ := hrel
    by_cases h0 : 0 < k
    · have HN := Lib.hid (show powV (n - (k - 1)) = wrap64 (2 * powV (n - k)) by rw [show n - (k - 1) = (n - k) + 1 by omega]; rfl)
      have hb := powV_bd (n - k)
      generalize powV (n - k) = v at hb HN ⊢
      go_wp2
      go_round
      case rel => exact ⟨k - 1, by omega, by congr 1; omega, by rw [HN.out]⟩
      case measure => simp [intOf] <;> omega
    · obtain rfl : k = 0 := by omega
      go_wp2
      go_ret
      exact ⟨rfl, rfl⟩

/-- Tasks. -/
def powIn (ys : List Int) (n : Nat) : Prop := ∀ i, i < n → 0 ≤ ys.getD i 0 ∧ ys.getD i 0 ≤ ((2 ^ i : Nat) : Int) - 1
def tasksP (T ys : List Int) : Prop := (allIn 1 9 T = true ∧ powIn ys ys.length) ∧ ys.length = T.length ∧ T.length ≤ 6
instance (ys : List Int) (n : Nat) : Decidable (powIn ys n) := by unfold powIn; infer_instance
instance (T ys : List Int) : Decidable (tasksP T ys) := by unfold tasksP; infer_instance
def tasksM (T ys : List Int) : Bool := decide (tasksP T ys)
theorem tasksM_yes {T ys : List Int} (h : tasksP T ys) : tasksM T ys = true := by unfold tasksM; exact decide_eq_true h
theorem tasksM_no {T ys : List Int} (h : ¬ tasksP T ys) : tasksM T ys = false := by unfold tasksM; exact decide_eq_false h
theorem tasksM_get {T ys : List Int} (h : tasksM T ys = true) : tasksP T ys := by unfold tasksM at h; exact of_decide_eq_true h
set_option maxRecDepth 100000 in
set_option maxHeartbeats 2000000 in
theorem validTasks_any (S : Nat → Prop) (a a2 : Option Addr) (len cap len2 cap2 : Nat) (T ys : List Int) (w : World) (ht : IntsAt w S a len T) (hy : IntsAt w S a2 len2 ys) (hl : len2 ≤ 1048576) :
    Calls Try.prog 30 #[.slice a len cap, .slice a2 len2 cap2] w fun e w' => e = .returned (.bool (tasksM T ys)) ∧ Drew w w' := by
  have HT := Lib.hid ht.lenEq
  have HY := Lib.hid hy.lenEq
  have hs := ht.small
  have hs2 := hy.small
  go_enter Try.func30, Try.ntmps30
  go_wp2
  go_loop [5] (fun i => ∃ k : Nat, k ≤ len ∧ i = .int .i64 k ∧ allIn 1 9 (T.take k) = true) (fun i => len - (intOf i).toNat)
  case atStart => exact ⟨0, Nat.zero_le _, rfl, rfl⟩
  case round =>
    obtain ⟨k, hk, rfl, ha⟩ := hrel
    have HA := Lib.hid ha
    clear ha
    by_cases hlt : k < len
    · obtain ⟨b, off, x, rfl, hx, hc⟩ := ht.get hlt
      have HX := Lib.hid hx
      clear hx
      cases hq : inB 1 9 x
      · go_wp2_with (go_at_call 31; refine (inRange_any _ _ _ _).mono ?_; rintro e w' ⟨rfl, rfl⟩)
        go_ret
        exact ⟨ret_bool (tasksM_no fun h => by have h := h.1.1; rw [allIn_false HX.out hq] at h; cases h).symm, Drew.refl _⟩
      · go_wp2_with (go_at_call 31; refine (inRange_any _ _ _ _).mono ?_; rintro e w' ⟨rfl, rfl⟩)
        go_round
        case rel => exact ⟨k + 1, by omega, by go_num, allIn_step HX.out HA.out hq⟩
        case measure => simp [intOf]; omega
    · obtain rfl : len = k := by omega
      have HA2 := Lib.hid (show allIn 1 9 T = true by have := HA.out; rwa [List.take_of_length_le (by rw [HT.out]; omega)] at this)
      go_wp2_with fail
      go_loopw [6] (fun i wr => ∃ k : Nat, k ≤ len2 ∧ i = .int .i64 k ∧ Drew w wr ∧ ∀ i, i < k → i ≤ 6 → 0 ≤ ys.getD i 0 ∧ ys.getD i 0 ≤ ((2 ^ i : Nat) : Int) - 1) (fun i _ => len2 - (intOf i).toNat)
      case atStart => exact ⟨0, Nat.zero_le _, rfl, Drew.refl _, fun i h => absurd h (by omega)⟩
      case round =>
        obtain ⟨k, hk, rfl, hdw, hp⟩ := hrel
        have HP := Lib.hid hp
        clear hp
        by_cases hlt : k < len2
        · have hyw := Drew.ints hy hdw
          obtain ⟨b, off, x, rfl, hx, hc⟩ := hyw.get hlt
          have HX := Lib.hid hx
          have HG := Lib.hid (getD_of hx)
          clear hx hyw
          have hb := powV_bd k
          have HPV := Lib.hid (powV_eq k)
          have HPW := Lib.hid (show ∀ z, Calls Try.prog 32 #[.int .i64 k] (wr.drewN z) (fun e w' => e = .returned (.int .i64 (powV k)) ∧ ∃ q, w' = (wr.drewN z).drewN q) from fun z =>
            (power_all k (by omega) (wr.drewN z)).mono (fun e w' he => ⟨he.1, 0, by rw [← he.2]; rfl⟩))
          have HIR := Lib.hid (show ∀ z, Calls Try.prog 31 #[.int .i64 x, .int .i64 0, .int .i64 (wrap64 (powV k - 1))] (wr.drewN z) (fun e w' => e = .returned (.bool (inB 0 (wrap64 (powV k - 1)) x)) ∧ ∃ q, w' = (wr.drewN z).drewN q) from fun z =>
            (inRange_any _ _ _ (wr.drewN z)).mono (fun e w' he => ⟨he.1, 0, by rw [← he.2]; rfl⟩))
          have HPE := Lib.hid (show k ≤ 20 → wrap64 (powV k - 1) = ((2 ^ k : Nat) : Int) - 1 by
            intro h; have := p2_bd h; rw [powV_eq k h, w64_id (by omega) (by omega)])
          have hw := w64_bd (powV k - 1)
          generalize hpv : powV k = pv at hb HPV HPW HIR HPE hw
          have hlt2 : (k : Int) < (len2 : Int) := by omega
          cases hq : inB 0 (wrap64 (pv - 1)) x
          · rw [hq] at HIR
            go_wp2_with fail
            go_quiet (first | (go_at_call 32; exact Calls.quiet_of (HPW.out _)) | (go_at_call 31; exact Calls.quiet_of (HIR.out _)))
            go_wp2_with fail
            go_ret
            refine ⟨ret_bool (tasksM_no fun h => ?_).symm, hdw.drew _⟩
            have h1 := h.1.2 k (by rw [HY.out]; exact hlt)
            have h2 := h.2; have hY := HY.out
            rw [HPE.out (by omega), HG.out.symm, inB_true h1.1 h1.2] at hq
            cases hq
          · rw [hq] at HIR
            go_wp2_with fail
            go_quiet (first | (go_at_call 32; exact Calls.quiet_of (HPW.out _)) | (go_at_call 31; exact Calls.quiet_of (HIR.out _)))
            go_wp2_with fail
            go_roundw
            case rel => 
              refine ⟨k + 1, by omega, by go_num, hdw.drew _, fun i hi h6 => ?_⟩
              rcases Nat.lt_or_eq_of_le (Nat.le_of_lt_succ hi) with h | rfl
              · exact HP.out i h h6
              · rw [HPE.out (by omega), ← HG.out] at hq
                simpa [inB] using hq
            case measure => simp [intOf]; omega
        · obtain rfl : len2 = k := by omega
          have hdw2 := hdw
          have HF := Lib.hid (show tasksM T ys = ((len2 : Int) == (len : Int) && decide ((len : Int) ≤ 6)) by
            have hT := HT.out; have hY := HY.out
            by_cases h : len2 = len ∧ len ≤ 6
            · rw [tasksM_yes ⟨⟨HA2.out, fun i hi => HP.out i (by omega) (by omega)⟩, by omega, by omega⟩]; simp; omega
            · rw [tasksM_no fun h2 => h ⟨by have := h2.2.1; omega, by have := h2.2.2; omega⟩]; symm; simp; omega)
          by_cases h1 : len2 = len
          · have e1 : ((len2 : Int) == (len : Int)) = true := by simp; omega
            rw [e1, Bool.true_and] at HF
            go_wp2
            go_ret
            exact ⟨ret_bool HF.out.symm, hdw2⟩
          · have e1 : ((len2 : Int) == (len : Int)) = false := by simp; omega
            rw [e1, Bool.false_and] at HF
            go_wp2
            go_ret
            exact ⟨ret_bool HF.out.symm, hdw2⟩
end Go.Proofs.Ytobfencmfeneoab
