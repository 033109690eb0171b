import Derived.Test.YtcfahmffboipiabRows
import Derived.WalkKit
import Derived.LoopTactic
import Derived.Outline
import Derived.WalkSpells
import Derived.WalkLawsBesides
import Derived.Lib.Hide
import Derived.Test.YtcfahmffboipiabLib
import Derived.Test.YtcfahmffboipiabUp
import Derived.Test.YtcfahmffboipiabNetM
import Derived.Test.YtcfahmffboipiabEx
namespace Go.Proofs.Ytcfahmffboipiab
open Go.RowKit

theorem small8 {len : Nat} {xs : List Int} (hl : xs.length = len) (h : ¬ len ≤ 8) (b : Bool) : (decide (xs.length ≤ 8) && b) = false := by
  rw [decide_eq_false (by omega)]; rfl
theorem small8' {len : Nat} {xs : List Int} (hl : xs.length = len) (h : len ≤ 8) (b : Bool) : (decide (xs.length ≤ 8) && b) = b := by
  rw [decide_eq_true (by omega)]; rfl
def wantsM (n : Int) (xs : List Int) : Bool := allIn 0 20 xs && decide ((xs.length : Int) = n)
theorem wantsM_false {n : Int} {xs : List Int} {k : Nat} {x : Int} (h : xs[k]? = some x) (hx : inB 0 20 x = false) : wantsM n xs = false := by rw [wantsM, allIn_false h hx]; rfl
theorem wantsM_of {n : Int} {len : Nat} {xs : List Int} (hl : xs.length = len) (ha : allIn 0 20 (xs.take len) = true) : wantsM n xs = ((len : Int) == n) := by
  rw [List.take_of_length_le (by omega)] at ha
  rw [wantsM, ha, hl]; simp; rfl
theorem wantsM_len (xs : List Int) : wantsM xs.length xs = allIn 0 20 xs := by simp [wantsM]
theorem validWants_any (S : Nat → Prop) (a : Option Addr) (len cap : Nat) (xs : List Int) (n : Int) (w : World) (h : IntsAt w S a len xs) :
    Calls Try.prog 49 #[.slice a len cap, .int .i64 n] w fun e w' => e = .returned (.bool (wantsM n xs)) ∧ w = w' := by
  have hs := h.small
  go_enter Try.func49, Try.ntmps49
  go_wp2
  go_loop [5] (fun i => ∃ k : Nat, k ≤ len ∧ i = .int .i64 k ∧ allIn 0 20 (xs.take k) = true) (fun i => len - (intOf i).toNat)
  case atStart => exact ⟨0, Nat.zero_le _, rfl, rfl⟩
  case round =>
    obtain ⟨k, hk, rfl, ha⟩ := hrel
    have HA := Lib.hid ha
    clear ha
    by_cases hlt : k < len
    · obtain ⟨b, off, x, rfl, hx, hc⟩ := h.get hlt
      have HX := Lib.hid hx
      clear hx
      cases hq : inB 0 20 x
      · go_wp2_with (go_at_call 39; refine (inRange_any _ _ _ _).mono ?_; rintro e w' ⟨rfl, rfl⟩)
        go_ret
        exact ⟨ret_bool (wantsM_false HX.out hq).symm, rfl⟩
      · go_wp2_with (go_at_call 39; refine (inRange_any _ _ _ _).mono ?_; rintro e w' ⟨rfl, rfl⟩)
        go_round
        case rel => exact ⟨k + 1, by omega, by go_num, allIn_step HX.out HA.out hq⟩
        case measure => simp [intOf]; omega
    · obtain rfl : k = len := by omega
      go_wp2
      go_ret
      exact ⟨ret_bool (wantsM_of h.lenEq HA.out).symm, rfl⟩
end Go.Proofs.Ytcfahmffboipiab
