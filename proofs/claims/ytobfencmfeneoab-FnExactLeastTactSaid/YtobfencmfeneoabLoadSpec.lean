import Derived.Test.YtobfencmfeneoabTaskSpec
import Derived.Test.YtobfencmfeneoabApp
namespace Go.Proofs.Ytobfencmfeneoab
open Go.RowKit Go.WideShapes

def bI (x j : Nat) : Int := if x.testBit j then 1 else 0
theorem bI_bd (x j : Nat) : 0 ≤ bI x j ∧ bI x j ≤ 1 := by unfold bI; split <;> omega
theorem bit_at (x j : Nat) (hx : x ≤ 1048576) (hj : j ≤ 20) (w : World) :
    Calls Try.prog 45 #[.int .i64 x, .int .i64 j] w fun e w' => e = .returned (.int .i64 (bI x j)) ∧ w = w' := by
  have hb := p2_bd hj
  have HB := Lib.hid (show bI x j = (x : Int) / ((2 ^ j : Nat) : Int) % 2 by
    have := bitN_test x j; unfold bitN at this; unfold bI; rw [show (x : Int) / ((2 ^ j : Nat) : Int) % 2 = ((x / 2 ^ j % 2 : Nat) : Int) by push_cast; rfl, this]; split <;> rfl)
  have HP := Lib.hid (powV_eq j hj)
  go_enter Try.func45, Try.ntmps45
  go_wp2_with fail
  refine (power_all j (by omega) w).mono ?_
  rintro e w' ⟨rfl, rfl⟩
  rw [HP.out]
  generalize 2 ^ j = p at hb HB ⊢
  have h1 : 0 ≤ (x : Int) / (p : Int) := Int.ediv_nonneg (by omega) (by omega)
  have h2 : (x : Int) / (p : Int) ≤ x := Int.ediv_le_self _ (by omega)
  go_wp2
  go_ret
  exact ⟨ret_int HB.out.symm, rfl⟩
theorem csum_range {T : List Int} (hT : ∀ k, 0 ≤ T.getD k 0 ∧ T.getD k 0 ≤ 9) (P : Nat → Bool) : ∀ n : Nat, 0 ≤ csum T P n ∧ csum T P n ≤ 9 * (n : Int)
  | 0 => by simp [csum]
  | n + 1 => by have := csum_range hT P n; have := hT n; rw [csum]; push_cast; split <;> omega
theorem load_any (S : Nat → Prop) (a : Option Addr) (len cap : Nat) (T : List Int) (s : Nat) (w : World) (hx : IntsAt w S a len T) (hT : ∀ k, 0 ≤ T.getD k 0 ∧ T.getD k 0 ≤ 9) (hl : len ≤ 20) (hs : s ≤ 1048576) :
    Calls Try.prog 40 #[.slice a len cap, .int .i64 s] w fun e w' => e = .returned (.int .i64 (csum T (fun i => s.testBit i) len)) ∧ Drew w w' := by
  have HT := Lib.hid hT
  go_enter Try.func40, Try.ntmps40
  go_wp2_with fail
  go_loopw [5, 6] (fun o i wr => ∃ k : Nat, k ≤ len ∧ i = .int .i64 k ∧ o = .int .i64 (csum T (fun i => s.testBit i) k) ∧ Drew w wr) (fun _ i _ => len - (intOf i).toNat)
  case atStart => exact ⟨0, Nat.zero_le _, rfl, rfl, Drew.refl _⟩
  case round =>
    obtain ⟨k, hk, rfl, rfl, hdw⟩ := hrel
    by_cases hlt : k < len
    · have hxw := Drew.ints hx hdw
      obtain ⟨b, off, x, rfl, hxx, hc⟩ := hxw.get hlt
      have hxb := HT.out k
      have hcr := csum_range HT.out (fun i => s.testBit i) k
      rw [getD_of hxx] at hxb
      have HN := Lib.hid (show csum T (fun i => s.testBit i) (k + 1) = csum T (fun i => s.testBit i) k + bI s k * x by
        rw [csum, getD_of hxx]; unfold bI; split <;> simp)
      have HBT := Lib.hid (show ∀ z, Calls Try.prog 45 #[.int .i64 s, .int .i64 k] (wr.drewN z) (fun e w' => e = .returned (.int .i64 (bI s k)) ∧ ∃ q, w' = (wr.drewN z).drewN q) from fun z =>
        (bit_at s k hs (by omega) (wr.drewN z)).mono (fun e w' he => ⟨he.1, 0, by rw [← he.2]; rfl⟩))
      clear hxx hxw
      generalize csum T (fun i => s.testBit i) k = o at hcr HN
      have hbb := bI_bd s k
      generalize bI s k = bb at hbb HN HBT
      have hmb : 0 ≤ bb * x ∧ bb * x ≤ 9 := by
        have h1 := Int.mul_nonneg hbb.1 hxb.1
        have h2 := Int.mul_le_mul hbb.2 hxb.2 hxb.1 (by omega)
        omega
      have hlk : (k : Int) < (len : Int) := by omega
      have hw1 : IntKind.i64.wrap (bb * x) = bb * x := IntWalk.i64_in _ (by omega)
      have hw2 : IntKind.i64.wrap (o + bb * x) = o + bb * x := IntWalk.i64_in _ (by omega)
      go_wp2_with fail
      go_quiet ((go_at_call 45; exact Calls.quiet_of (HBT.out _)))
      go_wp2_with fail
      go_roundw
      case rel => exact ⟨k + 1, by omega, by go_num, by rw [HN.out], hdw.drew _⟩
      case measure => simp [intOf] <;> omega
    · obtain rfl : len = k := by omega
      have hdw2 := hdw
      go_wp2
      go_ret
      exact ⟨rfl, hdw2⟩
def natsOf (ys : List Int) : List Nat := ys.map Int.toNat
theorem natsOf_len (ys : List Int) : (natsOf ys).length = ys.length := by simp [natsOf]
theorem natsOf_get {ys : List Int} {n : Nat} (h : powIn ys n) {i : Nat} (hi : i < n) : (((natsOf ys).getD i 0 : Nat) : Int) = ys.getD i 0 := by
  have := h i hi
  simp only [natsOf, List.getD_eq_getElem?_getD, List.getElem?_map] at this ⊢
  cases hq : ys[i]? with
  | none => simp
  | some z => rw [hq] at this; simp at this ⊢; omega
theorem natsOf_lt {ys : List Int} (h : powIn ys ys.length) (i : Nat) : (natsOf ys).getD i 0 < 2 ^ i := by
  have := Nat.two_pow_pos i
  by_cases hi : i < ys.length
  · have h1 := natsOf_get h hi; have h2 := h i hi; omega
  · simp only [List.getD_eq_getElem?_getD]; rw [List.getElem?_eq_none (by rw [natsOf_len]; omega)]; simpa using this
theorem natsOf_small {ys : List Int} (h : powIn ys ys.length) {i : Nat} (hi : i ≤ 6) : (natsOf ys).getD i 0 ≤ 64 := by
  have := natsOf_lt h i; have := Nat.pow_le_pow_right (n := 2) (by omega) hi; omega
theorem natsOf_hA {ys : List Int} (h : powIn ys ys.length) : ∀ i k, ((natsOf ys).getD i 0).testBit k = true → k < i := by
  intro i k hk
  rcases Nat.lt_or_ge k i with h1 | h1
  · exact h1
  · rw [Nat.testBit_lt_two_pow (Nat.lt_of_lt_of_le (natsOf_lt h i) (Nat.pow_le_pow_right (by omega) h1))] at hk; cases hk
theorem tasks_at {T : List Int} (h : allIn 1 9 T = true) : (∀ k, 0 ≤ T.getD k 0 ∧ T.getD k 0 ≤ 9) ∧ ∀ k, k < T.length → 1 ≤ T.getD k 0 := by
  have key : ∀ k, k < T.length → 1 ≤ T.getD k 0 ∧ T.getD k 0 ≤ 9 := by
    intro k hk
    unfold allIn at h
    rw [List.all_eq_true] at h
    have := h (T.getD k 0) (by rw [List.getD_eq_getElem?_getD, List.getElem?_eq_getElem hk]; simp)
    simpa [inB] using this
  refine ⟨fun k => ?_, fun k hk => (key k hk).1⟩
  by_cases hk : k < T.length
  · have := key k hk; omega
  · rw [List.getD_eq_getElem?_getD, List.getElem?_eq_none (by omega)]; simp
end Go.Proofs.Ytobfencmfeneoab
