import Derived.Test.YtldncfkkeeinjabRows
import Derived.WalkKit
import Derived.LoopTactic
import Derived.Outline
import Derived.WalkSpells
import Derived.WalkLawsBesides
import Derived.Lib.Hide
import Derived.Test.YtldncfkkeeinjabLib
import Derived.Test.YtldncfkkeeinjabUp
import Derived.Test.YtldncfkkeeinjabNetM
import Derived.Test.YtldncfkkeeinjabEx
namespace Go.Proofs.Ytldncfkkeeinjab
open Go.RowKit

theorem small8 {len : Nat} {xs : List Int} (hl : xs.length = len) (h : ¬ len ≤ 8) (b : Bool) : (decide (xs.length ≤ 8) && b) = false := by
  rw [decide_eq_false (by omega)]; rfl
theorem small8' {len : Nat} {xs : List Int} (hl : xs.length = len) (h : len ≤ 8) (b : Bool) : (decide (xs.length ≤ 8) && b) = b := by
  rw [decide_eq_true (by omega)]; rfl
theorem areDays_any (S : Nat → Prop) (a : Option Addr) (len cap : Nat) (xs : List Int) (lim : Int) (w : World) (h : IntsAt w S a len xs) :
    Calls Try.prog 44 #[.slice a len cap, .int .i64 lim] w fun e w' => e = .returned (.bool (decide (xs.length ≤ 8) && allIn 0 lim xs)) ∧ w = w' := by
  have HL := Lib.hid h.lenEq
  have hs := h.small
  by_cases h8 : len ≤ 8
  · go_enter Try.func44, Try.ntmps44
    go_wp2_with (go_at_call 50; refine (allUpTo_any _ _ _ _ xs lim _ h).mono ?_; rintro e w' ⟨rfl, rfl⟩)
    go_ret
    exact ⟨ret_bool (small8' HL.out h8 _).symm, rfl⟩
  · go_enter Try.func44, Try.ntmps44
    go_wp2
    go_ret
    exact ⟨ret_bool (small8 HL.out h8 _).symm, rfl⟩
theorem validDays_impl (S : Nat → Prop) (a : Option Addr) (len cap : Nat) (xs : List Int) (w : World) (h : IntsAt w S a len xs) :
    Calls Try.prog 25 #[.slice a len cap] w fun e w' => e = .returned (.bool (validDaysM xs)) ∧ w = w' := by
  go_enter Try.func25, Try.ntmps25
  go_wp2_with (go_at_call 44; refine (areDays_any _ _ _ _ xs 20 _ h).mono ?_; rintro e w' ⟨rfl, rfl⟩)
  go_ret
  exact ⟨rfl, rfl⟩
theorem areMade_any (S : Nat → Prop) (a : Option Addr) (len cap : Nat) (xs : List Int) (w : World) (h : IntsAt w S a len xs) :
    Calls Try.prog 42 #[.slice a len cap] w fun e w' => e = .returned (.bool (validMadeM xs)) ∧ w = w' := by
  go_enter Try.func42, Try.ntmps42
  go_wp2_with (go_at_call 44; refine (areDays_any _ _ _ _ xs 160 _ h).mono ?_; rintro e w' ⟨rfl, rfl⟩)
  go_ret
  exact ⟨rfl, rfl⟩
def wantsM (n : Int) (xs : List Int) : Bool := allIn 0 20 xs && decide ((xs.length : Int) = n)
theorem wantsM_false {n : Int} {xs : List Int} {k : Nat} {x : Int} (h : xs[k]? = some x) (hx : inB 0 20 x = false) : wantsM n xs = false := by rw [wantsM, allIn_false h hx]; rfl
theorem wantsM_of {n : Int} {len : Nat} {xs : List Int} (hl : xs.length = len) (ha : allIn 0 20 (xs.take len) = true) : wantsM n xs = ((len : Int) == n) := by
  rw [List.take_of_length_le (by omega)] at ha
  rw [wantsM, ha, hl]; simp; rfl
theorem wantsM_len (xs : List Int) : wantsM xs.length xs = allIn 0 20 xs := by simp [wantsM]
theorem validWants_any (S : Nat → Prop) (a : Option Addr) (len cap : Nat) (xs : List Int) (n : Int) (w : World) (h : IntsAt w S a len xs) :
    Calls Try.prog 51 #[.slice a len cap, .int .i64 n] w fun e w' => e = .returned (.bool (wantsM n xs)) ∧ w = w' := by
  have hs := h.small
  go_enter Try.func51, Try.ntmps51
  go_wp2
  go_loop [5] (fun i => ∃ k : Nat, k ≤ len ∧ i = .int .i64 k ∧ allIn 0 20 (xs.take k) = true) (fun i => len - (intOf i).toNat)
  case atStart => exact ⟨0, Nat.zero_le _, rfl, rfl⟩
  case round =>
    obtain ⟨k, hk, rfl, ha⟩ := hrel
    have HA := Lib.hid ha
    clear ha
    by_cases hlt : k < len
    · obtain ⟨b, off, x, rfl, hx, hc⟩ := h.get hlt
      have HX := Lib.hid hx
      clear hx
      cases hq : inB 0 20 x
      · go_wp2_with (go_at_call 46; refine (inRange_any _ _ _ _).mono ?_; rintro e w' ⟨rfl, rfl⟩)
        go_ret
        exact ⟨ret_bool (wantsM_false HX.out hq).symm, rfl⟩
      · go_wp2_with (go_at_call 46; refine (inRange_any _ _ _ _).mono ?_; rintro e w' ⟨rfl, rfl⟩)
        go_round
        case rel => exact ⟨k + 1, by omega, by go_num, allIn_step HX.out HA.out hq⟩
        case measure => simp [intOf]; omega
    · obtain rfl : k = len := by omega
      go_wp2
      go_ret
      exact ⟨ret_bool (wantsM_of h.lenEq HA.out).symm, rfl⟩
theorem validDays_spec0 (S : Nat → Prop) (a : Option Addr) (len cap : Nat) (xs : List Int) (w : World) (h : IntsAt w S a len xs) :
    Calls Try.prog 45 #[.slice a len cap] w fun e w' => e = .returned (.bool (validDaysM xs)) ∧ w = w' := by
  have HL := Lib.hid h.lenEq
  have hs := h.small
  have key : validDaysM xs = (wantsM len xs && decide ((len : Int) ≤ 8)) := by
    rw [← HL.out, wantsM_len, validDaysM, Bool.and_comm]; congr 1; simp; omega
  have KEY := Lib.hid key
  clear key
  cases hq : wantsM len xs
  · go_enter Try.func45, Try.ntmps45
    go_wp2_with (go_at_call 51; refine (validWants_any _ _ _ _ xs _ _ h).mono ?_; rintro e w' ⟨rfl, rfl⟩)
    go_ret
    exact ⟨ret_bool (by rw [KEY.out, hq]; rfl), rfl⟩
  · go_enter Try.func45, Try.ntmps45
    go_wp2_with (go_at_call 51; refine (validWants_any _ _ _ _ xs _ _ h).mono ?_; rintro e w' ⟨rfl, rfl⟩)
    go_ret
    exact ⟨ret_bool (by rw [KEY.out, hq]; simp), rfl⟩
end Go.Proofs.Ytldncfkkeeinjab
