import Derived.Test.YtobfencmfeneoaaRows
import Derived.WalkKit
import Derived.LoopTactic
import Derived.Outline
import Derived.WalkSpells
import Derived.WalkLawsBesides
import Derived.ProofKit
import Derived.Lib.Hide
import Derived.Deep.QuietTactic
import Derived.BigQuiet
import Derived.IntWalk
import Derived.Test.YtobfencmfeneoaaLib
import Derived.Test.YtobfencmfeneoaaGen
import Derived.Test.YtobfencmfeneoaaArr
import Derived.Test.YtobfencmfeneoaaLaws
import Derived.Test.YtobfencmfeneoaaNetM
import Derived.Test.YtobfencmfeneoaaLotSpec
import Derived.Test.YtobfencmfeneoaaTaskSpec
import Derived.Test.YtobfencmfeneoaaLoadSpec
namespace Go.Proofs.Ytobfencmfeneoaa
open Go.RowKit Go.WideShapes

theorem powerL_all (n : Nat) (hn : n ≤ 1048576) (w : World) :
    Calls Try.prog 29 #[.int .i64 n] w fun e w' => e = .returned (.int .i64 (powV n)) ∧ w = w' := by
  go_enter Try.func29, Try.ntmps29
  go_wp2
  go_loop [0, 3] (fun i o => ∃ (k : Nat), k ≤ n ∧ i = .int .i64 k ∧ o = .int .i64 (powV (n - k))) (fun i _ => (intOf i).toNat)
  case atStart => exact ⟨n, Nat.le_refl _, rfl, by rw [Nat.sub_self]; rfl⟩
  case round =>
    obtain ⟨k, hk, rfl, rfl⟩ := hrel
    by_cases h0 : 0 < k
    · have HN := Lib.hid (show powV (n - (k - 1)) = wrap64 (2 * powV (n - k)) by rw [show n - (k - 1) = (n - k) + 1 by omega]; rfl)
      have hb := powV_bd (n - k)
      generalize powV (n - k) = v at hb HN ⊢
      go_wp2
      go_round
      case rel => exact ⟨k - 1, by omega, by congr 1; omega, by rw [HN.out]⟩
      case measure => simp [intOf] <;> omega
    · obtain rfl : k = 0 := by omega
      go_wp2
      go_ret
      exact ⟨rfl, rfl⟩
theorem bitL_at (x j : Nat) (hx : x ≤ 1048576) (hj : j ≤ 20) (w : World) :
    Calls Try.prog 17 #[.int .i64 x, .int .i64 j] w fun e w' => e = .returned (.int .i64 (bI x j)) ∧ w = w' := by
  have hb := p2_bd hj
  have HB := Lib.hid (show bI x j = (x : Int) / ((2 ^ j : Nat) : Int) % 2 by
    have := bitN_test x j; unfold bitN at this; unfold bI; rw [show (x : Int) / ((2 ^ j : Nat) : Int) % 2 = ((x / 2 ^ j % 2 : Nat) : Int) by push_cast; rfl, this]; split <;> rfl)
  have HP := Lib.hid (powV_eq j hj)
  go_enter Try.func17, Try.ntmps17
  go_wp2_with fail
  refine (powerL_all j (by omega) w).mono ?_
  rintro e w' ⟨rfl, rfl⟩
  rw [HP.out]
  generalize 2 ^ j = p at hb HB ⊢
  have h1 : 0 ≤ (x : Int) / (p : Int) := Int.ediv_nonneg (by omega) (by omega)
  have h2 : (x : Int) / (p : Int) ≤ x := Int.ediv_le_self _ (by omega)
  go_wp2
  go_ret
  exact ⟨ret_int HB.out.symm, rfl⟩
/-- the greatest number, 0 if there is none -/
def greatM : List Int → Int
  | xs => xs.foldl max 0
theorem greatM_snoc (xs : List Int) (x : Int) : greatM (xs ++ [x]) = max (greatM xs) x := by simp [greatM]
theorem greatM_nn (xs : List Int) : 0 ≤ greatM xs := by
  have key : ∀ (xs : List Int) (s : Int), s ≤ xs.foldl max s := by
    intro xs
    induction xs with
    | nil => intro s; exact Int.le_refl _
    | cons a l ih => intro s; have := ih (max s a); simp only [List.foldl_cons]; omega
  exact key xs 0
theorem greatM_ge {xs : List Int} : ∀ x ∈ xs, x ≤ greatM xs := by
  have key : ∀ (xs : List Int) (s : Int), s ≤ xs.foldl max s ∧ ∀ x ∈ xs, x ≤ xs.foldl max s := by
    intro xs
    induction xs with
    | nil => intro s; exact ⟨Int.le_refl _, fun x hx => by cases hx⟩
    | cons a l ih =>
      intro s
      obtain ⟨h1, h2⟩ := ih (max s a)
      simp only [List.foldl_cons]
      refine ⟨by omega, fun x hx => ?_⟩
      rcases List.mem_cons.1 hx with rfl | hx
      · omega
      · exact h2 x hx
  exact (key xs 0).2
theorem greatM_le {xs : List Int} {B : Int} (hB : 0 ≤ B) (h : ∀ x ∈ xs, x ≤ B) : greatM xs ≤ B := by
  have key : ∀ (xs : List Int) (s : Int), s ≤ B → (∀ x ∈ xs, x ≤ B) → xs.foldl max s ≤ B := by
    intro xs
    induction xs with
    | nil => intro s hs _; exact hs
    | cons a l ih => intro s hs h; simp only [List.foldl_cons]; exact ih _ (by have := h a List.mem_cons_self; omega) (fun x hx => h x (List.mem_cons_of_mem _ hx))
  exact key xs 0 hB h
def inM (xs : List Int) (x : Int) : Bool := xs.any (· == x)
theorem inM_iff {xs : List Int} {x : Int} : inM xs x = true ↔ x ∈ xs := by simp [inM]
/-- how many numbers are different -/
def diffM (xs : List Int) : Nat → Nat
  | 0 => 0
  | k + 1 => diffM xs k + (if inM (xs.take k) (xs.getD k 0) then 0 else 1)
theorem diffM_le (xs : List Int) : ∀ k, diffM xs k ≤ k := by
  intro k
  induction k with
  | zero => exact Nat.le_refl _
  | succ k ih => rw [diffM]; split <;> omega
theorem ints_take {w : World} {S : Nat → Prop} {b off len : Nat} {xs : List Int} (h : IntsAt w S (some ⟨b, off, none⟩) len xs) {k : Nat} (hk : k ≤ len) : IntsAt w S (some ⟨b, off, none⟩) k (xs.take k) := by
  have hl := h.lenEq
  have hs := h.small
  refine ⟨by simp; omega, by omega, fun h0 => ?_⟩
  obtain ⟨b', off', e, hS, hc⟩ := h.cells (by omega)
  cases e
  refine ⟨b, off, rfl, hS, fun i x hx => ?_⟩
  rw [List.getElem?_take] at hx
  split at hx
  · exact hc _ _ hx
  · cases hx
end Go.Proofs.Ytobfencmfeneoaa
