import Derived.Test.YtobfencmfeneoacRows
import Derived.WalkKit
import Derived.LoopTactic
import Derived.Outline
import Derived.WalkSpells
import Derived.WalkLawsBesides
import Derived.ProofKit
import Derived.Lib.Hide
import Derived.Deep.QuietTactic
import Derived.BigQuiet
import Derived.IntWalk
import Derived.Test.YtobfencmfeneoacBySpec
import Derived.Test.YtobfencmfeneoacLineE
import Derived.Test.YtobfencmfeneoacLineG
namespace Go.Proofs.Ytobfencmfeneoac
open Go.RowKit Go.WideShapes

set_option maxRecDepth 100000 in
set_option maxHeartbeats 4000000 in
theorem nextTask_any (S : Nat → Prop) (a a2 a3 : Option Addr) (len cap cap2 cap3 : Nat) (T ys W : List Int) (D : Nat) (lf : Int) (w : World) (hx : IntsAt w S a len T) (hy : IntsAt w S a2 len ys) (hw : IntsAt w S a3 len W)
    (hp : powIn ys ys.length) (hl : len ≤ 6) (hT : ∀ k, 0 ≤ T.getD k 0 ∧ T.getD k 0 ≤ 9) (hW : ∀ k, 0 ≤ W.getD k 0 ∧ W.getD k 0 ≤ 1000) (hD : D ≤ 64) (hlf : 0 ≤ lf ∧ lf ≤ 60) :
    Calls Try.prog 28 #[.slice a len cap, .slice a2 len cap2, .slice a3 len cap3, .int .i64 D, .int .i64 lf] w fun e w' => e = .returned (.int .i64 (pickM T (natsOf ys) W D lf len)) ∧ Drew w w' := by
  have HYL := Lib.hid hy.lenEq
  have HPI := Lib.hid hp
  have HTB := Lib.hid hT
  have HWB := Lib.hid hW
  clear hp hT hW
  go_enter Try.func28, Try.ntmps28
  go_wp2_with fail
  go_loopw [11, 16] (fun av iv wr => ∃ k : Nat, k ≤ len ∧ iv = .int .i64 (k : Int) ∧ av = .int .i64 (pickM T (natsOf ys) W D lf k) ∧ Drew w wr) (fun _ iv _ => len - (intOf iv).toNat)
  case atStart => exact ⟨0, Nat.zero_le _, rfl, rfl, Drew.refl _⟩
  case round =>
    obtain ⟨k, hk, rfl, rfl, hdw⟩ := hrel
    have HDR := Lib.hid hdw
    by_cases hkl : k < len
    · obtain ⟨b, off, x, rfl, hxx, hcx⟩ := (Drew.ints hx hdw).get hkl
      obtain ⟨b2, off2, y, rfl, hyy, hcy⟩ := (Drew.ints hy hdw).get hkl
      obtain ⟨b3, off3, z, rfl, hzz, hcz⟩ := (Drew.ints hw hdw).get hkl
      have hxe := getD_of hxx
      have hze := getD_of hzz
      have HPS := Lib.hid (pick_step (T := T) (A := natsOf ys) (W := W) (D := D) (left := lf) hxe hze)
      have hye : y = (((natsOf ys).getD k 0 : Nat) : Int) := by rw [natsOf_get HPI.out (by rw [HYL.out]; exact hkl), getD_of hyy]
      subst hye
      have hab := natsOf_small HPI.out (i := k) (by omega)
      have hxb := HTB.out k
      have hzb := HWB.out k
      rw [hxe] at hxb
      rw [hze] at hzb
      have hkli : (k : Int) < (len : Int) := by omega
      have HIN := Lib.hid (fun w => inSet_any D k (by omega) (by omega) w)
      have hlow := pickM_low (T := T) (A := natsOf ys) (W := W) (D := D) (left := lf) k
      have HPK := Lib.hid (fun h => pick_lt (T := T) (A := natsOf ys) (W := W) (D := D) (left := lf) (k := k) h)
      generalize (natsOf ys).getD k 0 = am at *
      have EA := Lib.hid (i_not am D (by omega) (by omega))
      clear hxx hyy hzz hxe hze
      generalize pickM T (natsOf ys) W D lf k = pk at *
      cases hbit : D.testBit k
      · by_cases hdz : dif am D = 0
        · have hnz : (bits .andNot .i64 (am : Int) (D : Int) != 0) = false := by rw [EA.out, hdz]; rfl
          by_cases hxl : x ≤ lf
          · by_cases hpn : pk < 0
            · have HN := Lib.hid (HPS.out.trans (if_pos ⟨hbit, hdz, hxl, .inl hpn⟩))
              have HBT := Lib.hid hbit
              clear hbit hdz
              go_wp2_with fail
              refine (HIN.out _).mono ?_
              rintro e w' ⟨rfl, rfl⟩
              rw [HBT.out]
              go_wp2_with fail
              go_quiet (fail)
              clear hcx hcy hcz
              go_wp2_with fail
              go_roundw
              case rel => exact ⟨k + 1, by omega, by go_num, by rw [HN.out], HDR.out.drew _⟩
              case measure => simp [intOf] <;> omega
            · obtain ⟨m, hmk2, rfl⟩ := HPK.out (by omega)
              have hdp : decide ((m : Int) < 0) = false := decide_eq_false (by omega)
              obtain ⟨b4, off4, z4, e4, hz4, hc4⟩ := (Drew.ints hw hdw).get (k := m) (by omega)
              cases e4
              have hz4e := getD_of hz4
              have hmi : (m : Int) < (len : Int) := by omega
              have hml : m < len := by omega
              rw [Int.toNat_natCast, hz4e] at HPS
              clear hz4 hz4e
              by_cases hzw : z4 < z
              · have HN := Lib.hid (HPS.out.trans (if_pos ⟨hbit, hdz, hxl, .inr hzw⟩))
                have HBT := Lib.hid hbit
                clear hbit hdz
                go_wp2_with fail
                refine (HIN.out _).mono ?_
                rintro e w' ⟨rfl, rfl⟩
                rw [HBT.out]
                go_wp2_with fail
                go_quiet (fail)
                clear hcx hcy hcz hc4
                go_wp2_with fail
                go_roundw
                case rel => exact ⟨k + 1, by omega, by go_num, by rw [HN.out], HDR.out.drew _⟩
                case measure => simp [intOf] <;> omega
              · have HN := Lib.hid (HPS.out.trans (if_neg (fun h => h.2.2.2.elim (by omega) hzw)))
                have hdz4 : decide (z4 < z) = false := decide_eq_false hzw
                have HBT := Lib.hid hbit
                clear hbit hdz
                go_wp2_with fail
                refine (HIN.out _).mono ?_
                rintro e w' ⟨rfl, rfl⟩
                rw [HBT.out]
                go_wp2_with fail
                go_quiet (fail)
                clear hcx hcy hcz hc4
                go_wp2_with fail
                go_roundw
                case rel => exact ⟨k + 1, by omega, by go_num, by rw [HN.out], HDR.out.drew _⟩
                case measure => simp [intOf] <;> omega
          · have HN := Lib.hid (HPS.out.trans (if_neg (fun h => hxl h.2.2.1)))
            have HBT := Lib.hid hbit
            clear hbit hdz
            go_wp2_with fail
            refine (HIN.out _).mono ?_
            rintro e w' ⟨rfl, rfl⟩
            rw [HBT.out]
            go_wp2_with fail
            go_roundw
            case rel => exact ⟨k + 1, by omega, by go_num, by rw [HN.out], HDR.out⟩
            case measure => simp [intOf] <;> omega
        · have HN := Lib.hid (HPS.out.trans (if_neg (fun h => hdz h.2.1)))
          have hnz : (bits .andNot .i64 (am : Int) (D : Int) != 0) = true := by rw [EA.out]; simp; omega
          have HBT := Lib.hid hbit
          clear hbit hdz
          go_wp2_with fail
          refine (HIN.out _).mono ?_
          rintro e w' ⟨rfl, rfl⟩
          rw [HBT.out]
          go_wp2_with fail
          go_roundw
          case rel => exact ⟨k + 1, by omega, by go_num, by rw [HN.out], HDR.out⟩
          case measure => simp [intOf] <;> omega
      · have HN := Lib.hid (HPS.out.trans (if_neg (fun h => by rw [hbit] at h; cases h.1)))
        have HBT := Lib.hid hbit
        clear hbit
        go_wp2_with fail
        refine (HIN.out _).mono ?_
        rintro e w' ⟨rfl, rfl⟩
        rw [HBT.out]
        go_wp2_with fail
        go_roundw
        case rel => exact ⟨k + 1, by omega, by go_num, by rw [HN.out], HDR.out⟩
        case measure => simp [intOf] <;> omega
    · obtain rfl : len = k := by omega
      clear hdw
      go_wp2
      go_ret
      exact ⟨rfl, HDR.out⟩
end Go.Proofs.Ytobfencmfeneoac
