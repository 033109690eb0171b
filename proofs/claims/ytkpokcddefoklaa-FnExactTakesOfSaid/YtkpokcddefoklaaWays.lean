import Derived.Test.YtkpokcddefoklaaRows
import Derived.WalkKit
import Derived.LoopTactic
import Derived.Outline
import Derived.WalkSpells
import Derived.WalkLawsBesides
import Derived.Deep.QuietTactic
import Derived.BigQuiet
import Derived.IntWalk
import Derived.Test.YtkpokcddefoklaaLib
import Derived.Test.YtkpokcddefoklaaCountM
namespace Go.Proofs.Ytkpokcddefoklaa
open Go.RowKit

def IntPost (w : World) (n : Int) (e : Ending) (w' : World) : Prop := e = .returned (.int .i64 n) ∧ Drew w w'

set_option maxRecDepth 100000 in
set_option maxHeartbeats 1000000 in
theorem ways_calls (rows : List (List Int)) (hv : validBillM rows = true) (S : Nat → Prop) (a : Option Addr) (len cap j : Nat) : ∀ (d i : Nat) (w : World), d ≤ 6 → i ≤ d → i < len → RowsAt w S a len rows →
    Calls Try.prog 28 #[.slice a len cap, .int .i64 i, .int .i64 j] w (IntPost w (countM rows j d i)) := by
  intro d
  induction d with
  | zero =>
    intro i w _ hid hil hrows
    obtain rfl : i = 0 := by omega
    by_cases hij : 0 = j
    · subst hij
      go_enter Try.func28, Try.ntmps28
      go_wp2_with fail
      go_ret
      exact ⟨ret_int (countM_self rows 0 0).symm, Drew.refl w⟩
    · have hneq : ((0 : Int) == (j : Int)) = false := by simp; omega
      go_enter Try.func28, Try.ntmps28
      go_wp2_with fail
      go_loop [7, 8] (fun o k => o = .int .i64 0 ∧ k = .int .i64 0) (fun _ _ => 0)
      case atStart => exact ⟨rfl, rfl⟩
      case round =>
        obtain ⟨rfl, rfl⟩ := hrel
        go_wp2_with fail
        go_ret
        exact ⟨ret_int (by simp only [countM]; rw [if_neg hij]), Drew.refl w⟩
  | succ d ih =>
    intro i w hd hid hil hrows
    have HIH := Lib.hid ih
    clear ih
    by_cases hij : i = j
    · subst hij
      go_enter Try.func28, Try.ntmps28
      go_wp2_with fail
      go_ret
      exact ⟨ret_int (countM_self rows _ _).symm, Drew.refl w⟩
    · have hneq : ((i : Int) == (j : Int)) = false := by simp; omega
      obtain ⟨r, hx⟩ : ∃ r, rows[i]? = some r := ⟨_, List.getElem?_eq_getElem (by rw [hrows.lenEq]; exact hil)⟩
      obtain ⟨hr1, hr2, hr3⟩ := okRows_get hv hx
      have HX := Lib.hid hx
      have HR1 := Lib.hid hr1
      clear hx hr1 hr2
      go_enter Try.func28, Try.ntmps28
      go_wp2_with fail
      go_loopw [7, 8] (fun o k wr => ∃ m : Nat, m ≤ i ∧ k = .int .i64 m ∧ o = .int .i64 (sumOver (fun p c => c * countM rows j d p) (pairsTo r m)) ∧ Drew w wr) (fun _ k _ => i - (intOf k).toNat)
      case atStart => exact ⟨0, Nat.zero_le _, rfl, rfl, Drew.refl w⟩
      case round =>
        obtain ⟨m, hm, rfl, rfl, hdw⟩ := hrel
        by_cases hlt : m < i
        · obtain ⟨b, off, r', a', l, c, rfl, hx', hc, _, hri⟩ := (Drew.rows hrows hdw).get hil
          obtain rfl : r' = r := by have := hx'.symm.trans HX.out; simpa using this
          have hl : l = i := by rw [← hri.lenEq]; exact HR1.out
          subst hl
          obtain ⟨b2, off2, x, rfl, hy, hc2⟩ := hri.get hlt
          have HY := Lib.hid hy
          clear hx' hy
          have hpb := part_bd hv HX.out (show d ≤ 6 by omega) j m (by omega)
          have htb := term_bd hv HX.out (show d ≤ 6 by omega) j HY.out
          have hcb := countM_bd hv j d m
          have hpw := pow_le (show d ≤ 6 by omega)
          by_cases hx0 : 0 < x
          · have hp1 := pairAt_yes HY.out hx0
            have hsn : sumOver (fun p c => c * countM rows j d p) (pairsTo r' (m + 1)) = sumOver (fun p c => c * countM rows j d p) (pairsTo r' m) + x * countM rows j d m := by
              rw [pairsTo, hp1, sumOver_snoc]
            have HSN := Lib.hid hsn
            clear hsn hp1
            by_cases hjm : j ≤ m
            · have hcall : ∀ n, Calls Try.prog 28 #[.slice (some ⟨b, off, none⟩) len cap, .int .i64 m, .int .i64 j] (wr.drewN n) (fun e w' => e = .returned (.int .i64 (countM rows j d m)) ∧ ∃ q, w' = (wr.drewN n).drewN q) :=
                fun n => HIH.out m _ (by omega) (by omega) (by omega) (Drew.rows (Drew.rows hrows hdw) ⟨n, rfl⟩)
              have HCALL := Lib.hid hcall
              clear hcall
              generalize hS : sumOver (fun p c => c * countM rows j d p) (pairsTo r' m) = sm at hpb HSN ⊢
              generalize hV : countM rows j d m = vv at htb hcb HSN HCALL
              have w1 : IntKind.i64.wrap (x * vv) = x * vv := IntWalk.i64_in _ (by omega)
              have w2 : IntKind.i64.wrap (sm + x * vv) = sm + x * vv := IntWalk.i64_in _ (by omega)
              clear hpb htb hcb hpw hS hV
              go_wp2_with fail
              go_quiet ((go_at_call 28; exact Calls.quiet_of (HCALL.out _)))
              clear w1 w2
              go_wp2_with fail
              go_roundw
              case rel => exact ⟨m + 1, by omega, by go_num, by rw [HSN.out], hdw.drew _⟩
              case measure => simp [intOf]; omega
            · have hz := countM_low hv j d m (by omega)
              clear hpb htb hcb hpw
              go_wp2_with fail
              go_roundw
              case rel => exact ⟨m + 1, by omega, by go_num, by rw [HSN.out, hz, Int.mul_zero, Int.add_zero], hdw⟩
              case measure => simp [intOf]; omega
          · have hp0 := pairAt_no HY.out hx0
            clear hpb htb hcb hpw
            go_wp2_with fail
            go_roundw
            case rel => exact ⟨m + 1, by omega, by go_num, by rw [pairsTo, hp0, List.append_nil], hdw⟩
            case measure => simp [intOf]; omega
        · obtain rfl : m = i := by omega
          go_wp2_with fail
          go_ret
          exact ⟨ret_int (by rw [countM_eq HX.out hij, HR1.out]), hdw⟩
end Go.Proofs.Ytkpokcddefoklaa
