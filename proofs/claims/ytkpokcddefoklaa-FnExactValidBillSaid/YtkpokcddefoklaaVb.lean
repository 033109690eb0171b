import Derived.Test.YtkpokcddefoklaaRows
import Derived.WalkKit
import Derived.LoopTactic
import Derived.Outline
import Derived.WalkSpells
import Derived.WalkLawsBesides
import Derived.Lib.Hide
import Derived.Test.YtkpokcddefoklaaLib
import Derived.Test.YtkpokcddefoklaaUp
namespace Go.Proofs.Ytkpokcddefoklaa
open Go.RowKit

theorem validBill_impl (S : Nat → Prop) (a : Option Addr) (len cap : Nat) (rows : List (List Int)) (w : World) (h : RowsAt w S a len rows) :
    Calls Try.prog 8 #[.slice a len cap] w fun e w' => e = .returned (.bool (validBillM rows)) ∧ w = w' := by
  have hs := h.small
  have hl := h.lenEq
  by_cases h1 : 1 ≤ len
  · by_cases h6 : len ≤ 6
    · have HL := Lib.hid hl
      clear hl
      go_enter Try.func8, Try.ntmps8
      go_wp2
      go_loop [15] (fun i => ∃ k : Nat, k ≤ len ∧ i = .int .i64 k ∧ okRows 0 (rows.take k) = true) (fun i => len - (intOf i).toNat)
      case atStart => exact ⟨0, Nat.zero_le _, rfl, rfl⟩
      case round =>
        obtain ⟨k, hk, rfl, ha⟩ := hrel
        have HA := Lib.hid ha
        clear ha
        by_cases hlt : k < len
        · obtain ⟨b, off, r, a', l, c, rfl, hx, hc, _, hr⟩ := h.get hlt
          have HX := Lib.hid hx
          have HRL := Lib.hid hr.lenEq
          clear hx
          by_cases hlk : l = k
          · subst hlk
            cases hb : allIn 0 3 r
            · go_wp2_with (go_at_call 18; refine (allUpTo_any _ _ _ _ r 3 _ hr).mono ?_; rintro e w' ⟨rfl, rfl⟩)
              go_ret
              exact ⟨ret_bool (by rw [validBillM, okRows_false HX.out (by simp [rowOk, hb])]; simp), rfl⟩
            · go_wp2_with (go_at_call 18; refine (allUpTo_any _ _ _ _ r 3 _ hr).mono ?_; rintro e w' ⟨rfl, rfl⟩)
              go_round
              case rel => exact ⟨l + 1, by omega, by go_num, by rw [take_get HX.out, okRows_snoc, HA.out, List.length_take_of_le (by rw [HL.out]; omega)]; simp [rowOk, hb, HRL.out]⟩
              case measure => simp [intOf]; omega
          · go_wp2
            go_ret
            exact ⟨ret_bool (by rw [validBillM, okRows_false HX.out (by simp [rowOk, HRL.out, hlk])]; simp), rfl⟩
        · go_wp2
          go_ret
          have ha := HA.out
          have hl := HL.out
          rw [List.take_of_length_le (by omega)] at ha
          exact ⟨ret_bool (by rw [validBillM, ha, inB_true (by omega) (by omega)]; rfl), rfl⟩
    · go_enter Try.func8, Try.ntmps8
      go_wp2
      go_ret
      exact ⟨ret_bool (by rw [validBillM, inB_hi (by omega)]; rfl), rfl⟩
  · go_enter Try.func8, Try.ntmps8
    go_wp2
    go_ret
    exact ⟨ret_bool (by rw [validBillM, inB_lo (by omega)]; rfl), rfl⟩
theorem validBill_spec0 (S : Nat → Prop) (a : Option Addr) (len cap : Nat) (rows : List (List Int)) (w : World) (h : RowsAt w S a len rows) :
    Calls Try.prog 19 #[.slice a len cap] w fun e w' => e = .returned (.bool (validBillM rows)) ∧ w = w' := by
  have hs := h.small
  have HL := Lib.hid h.lenEq
  go_enter Try.func19, Try.ntmps19
  go_wp2
  go_loop [3] (fun i => ∃ k : Nat, k ≤ len ∧ i = .int .i64 k ∧ okRows 0 (rows.take k) = true) (fun i => len - (intOf i).toNat)
  case atStart => exact ⟨0, Nat.zero_le _, rfl, rfl⟩
  case round =>
    obtain ⟨k, hk, rfl, ha⟩ := hrel
    have HA := Lib.hid ha
    clear ha
    by_cases hlt : k < len
    · obtain ⟨b, off, r, a', l, c, rfl, hx, hc, _, hr⟩ := h.get hlt
      have HX := Lib.hid hx
      have HRL := Lib.hid hr.lenEq
      have hrs := hr.small
      clear hx
      by_cases hlk : l = k
      · subst hlk
        go_wp2
        go_loop [4] (fun j => ∃ m : Nat, m ≤ l ∧ j = .int .i64 m ∧ allIn 0 3 (r.take m) = true) (fun j => l - (intOf j).toNat)
        case atStart => exact ⟨0, Nat.zero_le _, rfl, rfl⟩
        case round =>
          obtain ⟨m, hm, rfl, hb⟩ := hrel
          have HB := Lib.hid hb
          clear hb
          by_cases hlm : m < l
          · obtain ⟨b', off', x, rfl, hy, hd⟩ := hr.get hlm
            have HY := Lib.hid hy
            clear hy
            cases hq : inB 0 3 x
            · go_wp2_with (go_at_call 27; refine (inRange_any _ _ _ _).mono ?_; rintro e w' ⟨rfl, rfl⟩)
              go_ret
              exact ⟨ret_bool (by rw [validBillM, okRows_false HX.out (rowOk_all (allIn_false HY.out hq))]; simp), rfl⟩
            · go_wp2_with (go_at_call 27; refine (inRange_any _ _ _ _).mono ?_; rintro e w' ⟨rfl, rfl⟩)
              go_round
              case rel => exact ⟨m + 1, by omega, by go_num, allIn_step HY.out HB.out hq⟩
              case measure => simp [intOf]; omega
          · go_wp2
            go_round
            case rel =>
              have hb := HB.out
              rw [List.take_of_length_le (by rw [HRL.out]; omega)] at hb
              exact ⟨l + 1, by omega, by go_num, okRows_step HX.out HA.out (rowOk_mk HRL.out hb)⟩
            case measure => simp [intOf]; omega
      · go_wp2
        go_ret
        exact ⟨ret_bool (by rw [validBillM, okRows_false HX.out (rowOk_len (by rw [HRL.out]; exact hlk))]; simp), rfl⟩
    · go_wp2_with (go_at_call 27; refine (inRange_any _ _ _ _).mono ?_; rintro e w' ⟨rfl, rfl⟩)
      go_ret
      have ha := HA.out
      have hl := HL.out
      rw [List.take_of_length_le (by omega)] at ha
      exact ⟨ret_bool (by rw [validBillM, ha, hl]; simp), rfl⟩

theorem validBill_spec (S : Nat → Prop) (a : Option Addr) (len cap : Nat) (rows : List (List Int)) (w : World) (h : RowsAt w S a len rows) :
    Calls Try.prog 9 #[.slice a len cap] w fun e w' => e = .returned (.bool (validBillM rows)) ∧ w = w' := by
  go_enter Try.func9, Try.ntmps9
  go_wp2_with (go_at_call 19; refine (validBill_spec0 _ _ _ _ rows _ h).mono ?_; rintro e w' ⟨rfl, rfl⟩)
  go_ret
  exact ⟨rfl, rfl⟩
end Go.Proofs.Ytkpokcddefoklaa
