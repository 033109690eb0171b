import Derived.Test.YtobfencmfeneoacRows
import Derived.WalkKit
import Derived.LoopTactic
import Derived.Outline
import Derived.WalkSpells
import Derived.WalkLawsBesides
import Derived.ProofKit
import Derived.Lib.Hide
import Derived.Deep.QuietTactic
import Derived.BigQuiet
import Derived.IntWalk
import Derived.Test.YtobfencmfeneoacLib
import Derived.Test.YtobfencmfeneoacGen
import Derived.Test.YtobfencmfeneoacArr
import Derived.Test.YtobfencmfeneoacLaws
import Derived.Test.YtobfencmfeneoacNetM
import Derived.Test.YtobfencmfeneoacLotSpec
import Derived.Test.YtobfencmfeneoacTaskSpec
import Derived.Test.YtobfencmfeneoacLoadSpec
namespace Go.Proofs.Ytobfencmfeneoac
open Go.RowKit Go.WideShapes

theorem powerL_all (n : Nat) (hn : n ≤ 1048576) (w : World) :
    Calls Try.prog 20 #[.int .i64 n] w fun e w' => e = .returned (.int .i64 (powV n)) ∧ w = w' := by
  go_enter Try.func20, Try.ntmps20
  go_wp2
  go_loop [0, 3] (fun i o => ∃ (k : Nat), k ≤ n ∧ i = .int .i64 k ∧ o = .int .i64 (powV (n - k))) (fun i _ => (intOf i).toNat)
  case atStart => exact ⟨n, Nat.le_refl _, rfl, by rw [Nat.sub_self]; rfl⟩
  case round =>
    obtain ⟨k, hk, rfl, rfl⟩ := hrel
    by_cases h0 : 0 < k
    · have HN := Lib.hid (show powV (n - (k - 1)) = wrap64 (2 * powV (n - k)) by rw [show n - (k - 1) = (n - k) + 1 by omega]; rfl)
      have hb := powV_bd (n - k)
      generalize powV (n - k) = v at hb HN ⊢
      go_wp2
      go_round
      case rel => exact ⟨k - 1, by omega, by congr 1; omega, by rw [HN.out]⟩
      case measure => simp [intOf] <;> omega
    · obtain rfl : k = 0 := by omega
      go_wp2
      go_ret
      exact ⟨rfl, rfl⟩
theorem bitL_at (x j : Nat) (hx : x ≤ 1048576) (hj : j ≤ 20) (w : World) :
    Calls Try.prog 10 #[.int .i64 x, .int .i64 j] w fun e w' => e = .returned (.int .i64 (bI x j)) ∧ w = w' := by
  have hb := p2_bd hj
  have HB := Lib.hid (show bI x j = (x : Int) / ((2 ^ j : Nat) : Int) % 2 by
    have := bitN_test x j; unfold bitN at this; unfold bI; rw [show (x : Int) / ((2 ^ j : Nat) : Int) % 2 = ((x / 2 ^ j % 2 : Nat) : Int) by push_cast; rfl, this]; split <;> rfl)
  have HP := Lib.hid (powV_eq j hj)
  go_enter Try.func10, Try.ntmps10
  go_wp2_with fail
  refine (powerL_all j (by omega) w).mono ?_
  rintro e w' ⟨rfl, rfl⟩
  rw [HP.out]
  generalize 2 ^ j = p at hb HB ⊢
  have h1 : 0 ≤ (x : Int) / (p : Int) := Int.ediv_nonneg (by omega) (by omega)
  have h2 : (x : Int) / (p : Int) ≤ x := Int.ediv_le_self _ (by omega)
  go_wp2
  go_ret
  exact ⟨ret_int HB.out.symm, rfl⟩
/-- the greatest number, 0 if there is none -/
def greatM : List Int → Int
  | xs => xs.foldl max 0
theorem greatM_snoc (xs : List Int) (x : Int) : greatM (xs ++ [x]) = max (greatM xs) x := by simp [greatM]
theorem greatM_nn (xs : List Int) : 0 ≤ greatM xs := by
  have key : ∀ (xs : List Int) (s : Int), s ≤ xs.foldl max s := by
    intro xs
    induction xs with
    | nil => intro s; exact Int.le_refl _
    | cons a l ih => intro s; have := ih (max s a); simp only [List.foldl_cons]; omega
  exact key xs 0
theorem greatM_ge {xs : List Int} : ∀ x ∈ xs, x ≤ greatM xs := by
  have key : ∀ (xs : List Int) (s : Int), s ≤ xs.foldl max s ∧ ∀ x ∈ xs, x ≤ xs.foldl max s := by
    intro xs
    induction xs with
    | nil => intro s; exact ⟨Int.le_refl _, fun x hx => by cases hx⟩
    | cons a l ih =>
      intro s
      obtain ⟨h1, h2⟩ := ih (max s a)
      simp only [List.foldl_cons]
      refine ⟨by omega, fun x hx => ?_⟩
      rcases List.mem_cons.1 hx with rfl | hx
      · omega
      · exact h2 x hx
  exact (key xs 0).2
theorem greatM_le {xs : List Int} {B : Int} (hB : 0 ≤ B) (h : ∀ x ∈ xs, x ≤ B) : greatM xs ≤ B := by
  have key : ∀ (xs : List Int) (s : Int), s ≤ B → (∀ x ∈ xs, x ≤ B) → xs.foldl max s ≤ B := by
    intro xs
    induction xs with
    | nil => intro s hs _; exact hs
    | cons a l ih => intro s hs h; simp only [List.foldl_cons]; exact ih _ (by have := h a List.mem_cons_self; omega) (fun x hx => h x (List.mem_cons_of_mem _ hx))
  exact key xs 0 hB h
theorem greatestOf_any (S : Nat → Prop) (a : Option Addr) (len cap : Nat) (xs : List Int) (w : World) (h : IntsAt w S a len xs) :
    Calls Try.prog 12 #[.slice a len cap] w fun e w' => e = .returned (.int .i64 (greatM xs)) ∧ w = w' := by
  have hs := h.small
  go_enter Try.func12, Try.ntmps12
  go_wp2
  go_loop [3, 4] (fun n i => ∃ k : Nat, k ≤ len ∧ i = .int .i64 k ∧ n = .int .i64 (greatM (xs.take k))) (fun _ i => len - (intOf i).toNat)
  case atStart => exact ⟨0, Nat.zero_le _, rfl, rfl⟩
  case round =>
    obtain ⟨k, hk, rfl, rfl⟩ := hrel
    by_cases hlt : k < len
    · obtain ⟨b, off, x, rfl, hx, hc⟩ := h.get hlt
      have HN := Lib.hid (show greatM (xs.take (k + 1)) = max (greatM (xs.take k)) x by rw [take_get hx, greatM_snoc])
      clear hx
      generalize greatM (xs.take k) = g at HN ⊢
      by_cases hgx : g < x
      · have HM := Lib.hid (HN.out.trans (by omega : max g x = x))
        go_wp2
        go_round
        case rel => exact ⟨k + 1, by omega, by go_num, by rw [HM.out]⟩
        case measure => simp [intOf] <;> omega
      · have HM := Lib.hid (HN.out.trans (by omega : max g x = g))
        go_wp2
        go_round
        case rel => exact ⟨k + 1, by omega, by go_num, by rw [HM.out]⟩
        case measure => simp [intOf] <;> omega
    · have HL := Lib.hid h.lenEq
      go_wp2
      go_ret
      exact ⟨ret_int (by rw [List.take_of_length_le (by rw [HL.out]; omega)]), rfl⟩
def inM (xs : List Int) (x : Int) : Bool := xs.any (· == x)
theorem inM_iff {xs : List Int} {x : Int} : inM xs x = true ↔ x ∈ xs := by simp [inM]
theorem isIn_any (S : Nat → Prop) (a : Option Addr) (len cap : Nat) (xs : List Int) (n : Int) (w : World) (h : IntsAt w S a len xs) :
    Calls Try.prog 33 #[.slice a len cap, .int .i64 n] w fun e w' => e = .returned (.bool (inM xs n)) ∧ w = w' := by
  have hs := h.small
  have HL := Lib.hid h.lenEq
  go_enter Try.func33, Try.ntmps33
  go_wp2
  go_loop [5] (fun i => ∃ k : Nat, k ≤ len ∧ i = .int .i64 k ∧ inM (xs.take k) n = false) (fun i => len - (intOf i).toNat)
  case atStart => exact ⟨0, Nat.zero_le _, rfl, rfl⟩
  case round =>
    obtain ⟨k, hk, rfl, hi⟩ := hrel
    have HI := Lib.hid hi
    clear hi
    by_cases hlt : k < len
    · obtain ⟨b, off, x, rfl, hx, hc⟩ := h.get hlt
      have HX := Lib.hid hx
      clear hx
      by_cases hxn : x = n
      · subst hxn
        go_wp2
        go_ret
        exact ⟨ret_bool (inM_iff.2 (List.mem_of_getElem? HX.out)).symm, rfl⟩
      · have hxe : (x == n) = false := by simpa using hxn
        have HXE := Lib.hid hxe
        go_wp2
        go_round
        case rel => exact ⟨k + 1, by omega, by go_num, by have := HI.out; unfold inM at this ⊢; rw [take_get HX.out, List.any_append, this]; simp [HXE.out]⟩
        case measure => simp [intOf] <;> omega
    · go_wp2
      go_ret
      exact ⟨ret_bool (by have := HI.out; rw [List.take_of_length_le (by rw [HL.out]; omega)] at this; exact this.symm), rfl⟩
/-- how many numbers are different -/
def diffM (xs : List Int) : Nat → Nat
  | 0 => 0
  | k + 1 => diffM xs k + (if inM (xs.take k) (xs.getD k 0) then 0 else 1)
theorem diffM_le (xs : List Int) : ∀ k, diffM xs k ≤ k := by
  intro k
  induction k with
  | zero => exact Nat.le_refl _
  | succ k ih => rw [diffM]; split <;> omega
theorem ints_take {w : World} {S : Nat → Prop} {b off len : Nat} {xs : List Int} (h : IntsAt w S (some ⟨b, off, none⟩) len xs) {k : Nat} (hk : k ≤ len) : IntsAt w S (some ⟨b, off, none⟩) k (xs.take k) := by
  have hl := h.lenEq
  have hs := h.small
  refine ⟨by simp; omega, by omega, fun h0 => ?_⟩
  obtain ⟨b', off', e, hS, hc⟩ := h.cells (by omega)
  cases e
  refine ⟨b, off, rfl, hS, fun i x hx => ?_⟩
  rw [List.getElem?_take] at hx
  split at hx
  · exact hc _ _ hx
  · cases hx
set_option maxHeartbeats 1000000 in
theorem different_any (S : Nat → Prop) (a : Option Addr) (len cap : Nat) (xs : List Int) (w : World) (h : IntsAt w S a len xs) (hc : len ≤ cap) :
    Calls Try.prog 11 #[.slice a len cap] w fun e w' => e = .returned (.int .i64 (diffM xs len : Nat)) ∧ Drew w w' := by
  have hs := h.small
  go_enter Try.func11, Try.ntmps11
  go_wp2
  go_loopw [3, 4] (fun n i wr => ∃ k : Nat, k ≤ len ∧ i = .int .i64 k ∧ n = .int .i64 (diffM xs k : Nat) ∧ Drew w wr) (fun _ i _ => len - (intOf i).toNat)
  case atStart => exact ⟨0, Nat.zero_le _, rfl, rfl, Drew.refl _⟩
  case round =>
    obtain ⟨k, hk, rfl, rfl, hdw⟩ := hrel
    by_cases hlt : k < len
    · have hr := Drew.ints h hdw
      obtain ⟨b, off, x, rfl, hx, hcx⟩ := hr.get hlt
      have HN := Lib.hid (show diffM xs (k + 1) = diffM xs k + (if inM (xs.take k) x then 0 else 1) by rw [diffM, getD_of hx])
      have HIN := Lib.hid (fun z => isIn_any S (some ⟨b, off, none⟩) k cap (xs.take k) x (wr.drewN z) (ints_take (Drew.ints hr ⟨z, rfl⟩) (by omega)))
      have hdb := diffM_le xs k
      have hne : ¬ cap = 0 := by omega
      have hkc : k ≤ cap := by omega
      have hkl : (k : Int) < (len : Int) := by omega
      clear hx hr
      generalize diffM xs k = d at HN hdb ⊢
      cases hin : inM (xs.take k) x
      · have HM := Lib.hid (show diffM xs (k + 1) = d + 1 by rw [HN.out, hin]; rfl)
        have HIN2 := Lib.hid (fun z => (HIN.out z).mono (fun e w' (he : e = .returned (.bool (inM (xs.take k) x)) ∧ wr.drewN z = w') => (⟨by rw [he.1, hin], he.2.symm⟩ : e = .returned (.bool false) ∧ w' = wr.drewN z)))
        clear hin
        go_wp2_with fail
        go_quiet ((go_at_call 33; exact Calls.quiet_of_same (HIN2.out _)))
        clear hcx
        go_wp2_with fail
        go_roundw
        case rel => exact ⟨k + 1, by omega, by go_num, by rw [HM.out]; go_num, hdw.drew _⟩
        case measure => simp [intOf] <;> omega
      · have HM := Lib.hid (show diffM xs (k + 1) = d by rw [HN.out, hin]; rfl)
        have HIN2 := Lib.hid (fun z => (HIN.out z).mono (fun e w' (he : e = .returned (.bool (inM (xs.take k) x)) ∧ wr.drewN z = w') => (⟨by rw [he.1, hin], he.2.symm⟩ : e = .returned (.bool true) ∧ w' = wr.drewN z)))
        clear hin
        go_wp2_with fail
        go_quiet ((go_at_call 33; exact Calls.quiet_of_same (HIN2.out _)))
        clear hcx
        go_wp2_with fail
        go_roundw
        case rel => exact ⟨k + 1, by omega, by go_num, by rw [HM.out], hdw.drew _⟩
        case measure => simp [intOf] <;> omega
    · obtain rfl : k = len := by omega
      go_wp2
      go_ret
      exact ⟨rfl, hdw⟩
end Go.Proofs.Ytobfencmfeneoac
