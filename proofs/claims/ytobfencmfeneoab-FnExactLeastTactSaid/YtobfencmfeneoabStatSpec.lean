import Derived.Test.YtobfencmfeneoabLoadSpec
namespace Go.Proofs.Ytobfencmfeneoab
open Go.RowKit Go.WideShapes

theorem cloM_false {A : List Nat} {s k : Nat} (h : cloM A s (k + 1) = false) : ∀ n, k < n → cloM A s n = false
  | n + 1, hn => by
    rcases Nat.lt_or_eq_of_le (Nat.le_of_lt_succ hn) with h1 | rfl
    · rw [cloM, cloM_false h n h1]; rfl
    · exact h
theorem closed_any (S : Nat → Prop) (a2 : Option Addr) (len2 cap2 : Nat) (ys : List Int) (s : Nat) (w : World) (hy : IntsAt w S a2 len2 ys) (hp : powIn ys ys.length) (hl : len2 ≤ 6) (hs : s ≤ 64) :
    Calls Try.prog 39 #[.slice a2 len2 cap2, .int .i64 s] w fun e w' => e = .returned (.bool (cloM (natsOf ys) s len2)) ∧ w = w' := by
  have HL := Lib.hid hy.lenEq
  have HPI := Lib.hid hp
  clear hp
  go_enter Try.func39, Try.ntmps39
  go_wp2_with fail
  go_loop [5] (fun i => ∃ k : Nat, k ≤ len2 ∧ i = .int .i64 k ∧ cloM (natsOf ys) s k = true) (fun i => len2 - (intOf i).toNat)
  case atStart => exact ⟨0, Nat.zero_le _, rfl, rfl⟩
  case round =>
    obtain ⟨k, hk, rfl, hc⟩ := hrel
    have HC := Lib.hid hc
    clear hc
    by_cases hlt : k < len2
    · obtain ⟨b, off, x, rfl, hxx, hc⟩ := hy.get hlt
      have hxe : x = (((natsOf ys).getD k 0 : Nat) : Int) := by rw [natsOf_get HPI.out (by rw [HL.out]; exact hlt), getD_of hxx]
      subst hxe
      have hab := natsOf_small HPI.out (i := k) (by omega)
      have HS := Lib.hid (show cloM (natsOf ys) s (k + 1) = (cloM (natsOf ys) s k && (!s.testBit k || dif ((natsOf ys).getD k 0) s == 0)) from rfl)
      have hlti : (k : Int) < (len2 : Int) := by omega
      clear hxx
      generalize (natsOf ys).getD k 0 = am at hab HS hc
      have EA := Lib.hid (i_not am s (by omega) (by omega))
      cases ht : s.testBit k
      · have HB := Lib.hid (show bI s k = 0 by unfold bI; rw [ht]; rfl)
        go_wp2_with fail
        refine (bit_at s k (by omega) (by omega) w).mono ?_
        rintro e w' ⟨rfl, rfl⟩
        rw [HB.out]
        go_wp2_with fail
        go_round
        case rel => exact ⟨k + 1, by omega, by go_num, by rw [HS.out, HC.out, ht]; rfl⟩
        case measure => simp [intOf] <;> omega
      · have HB := Lib.hid (show bI s k = 1 by unfold bI; rw [ht]; rfl)
        by_cases hz : dif am s = 0
        · have hne : (bits .andNot .i64 (am : Int) (s : Int) != 0) = false := by rw [EA.out, hz]; rfl
          go_wp2_with fail
          refine (bit_at s k (by omega) (by omega) w).mono ?_
          rintro e w' ⟨rfl, rfl⟩
          rw [HB.out]
          go_wp2_with fail
          go_round
          case rel => exact ⟨k + 1, by omega, by go_num, by rw [HS.out, HC.out, ht, hz]; rfl⟩
          case measure => simp [intOf] <;> omega
        · have hne : (bits .andNot .i64 (am : Int) (s : Int) != 0) = true := by rw [EA.out]; simp; omega
          go_wp2_with fail
          refine (bit_at s k (by omega) (by omega) w).mono ?_
          rintro e w' ⟨rfl, rfl⟩
          rw [HB.out]
          go_wp2_with fail
          go_ret
          refine ⟨ret_bool (cloM_false ?_ len2 hlt).symm, rfl⟩
          rw [HS.out, HC.out, ht]; simp; exact hz
    · obtain rfl : len2 = k := by omega
      go_wp2
      go_ret
      exact ⟨ret_bool HC.out.symm, rfl⟩
end Go.Proofs.Ytobfencmfeneoab
