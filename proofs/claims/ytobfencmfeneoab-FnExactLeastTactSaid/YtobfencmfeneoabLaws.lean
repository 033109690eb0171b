import Derived.Test.YtobfencmfeneoabRows
import Derived.WalkKit
import Derived.LoopTactic
import Derived.Outline
import Derived.WalkSpells
import Derived.WalkLawsBesides
import Derived.Deep.QuietTactic
import Derived.BigQuiet
import Derived.Test.YtobfencmfeneoabLib
import Derived.Test.YtobfencmfeneoabExact
namespace Go.Proofs.Ytobfencmfeneoab
open Go.RowKit

/-- the sum of numbers -/
def totalM (xs : List Int) : Int := xs.foldl (· + ·) 0
theorem totalM_snoc (xs : List Int) (x : Int) : totalM (xs ++ [x]) = totalM xs + x := by simp [totalM]
theorem totalM_bd {B : Int} (hB : 0 ≤ B) : ∀ {xs : List Int}, (∀ x ∈ xs, -B ≤ x ∧ x ≤ B) → -(B * xs.length) ≤ totalM xs ∧ totalM xs ≤ B * xs.length := by
  have key : ∀ (xs : List Int) (s : Int), (∀ x ∈ xs, -B ≤ x ∧ x ≤ B) → s - B * xs.length ≤ xs.foldl (· + ·) s ∧ xs.foldl (· + ·) s ≤ s + B * xs.length := by
    intro xs
    induction xs with
    | nil => intro s _; simp
    | cons x xs ih =>
      intro s h
      have h1 := h x List.mem_cons_self
      have h2 := ih (s + x) (fun y hy => h y (List.mem_cons_of_mem _ hy))
      have e : B * ((x :: xs).length : Int) = B * (xs.length : Int) + B := by rw [List.length_cons]; push_cast; rw [Int.mul_add, Int.mul_one]
      simp only [List.foldl_cons]
      rw [e]
      omega
  intro xs h
  have := key xs 0 h
  unfold totalM
  omega
theorem totalM_zero : ∀ {xs : List Int}, (∀ x ∈ xs, 0 ≤ x) → (totalM xs = 0 ↔ ∀ x ∈ xs, x = 0) := by
  have key : ∀ (xs : List Int) (s : Int), 0 ≤ s → (∀ x ∈ xs, 0 ≤ x) → (0 ≤ xs.foldl (· + ·) s ∧ (xs.foldl (· + ·) s = 0 ↔ s = 0 ∧ ∀ x ∈ xs, x = 0)) := by
    intro xs
    induction xs with
    | nil => intro s hs _; simp; exact hs
    | cons x xs ih =>
      intro s hs h
      have h1 := h x List.mem_cons_self
      obtain ⟨i1, i2⟩ := ih (s + x) (by omega) (fun y hy => h y (List.mem_cons_of_mem _ hy))
      simp only [List.foldl_cons]
      refine ⟨i1, ?_⟩
      rw [i2]
      simp only [List.mem_cons, forall_eq_or_imp]
      constructor
      · rintro ⟨e1, e2⟩; exact ⟨by omega, by omega, e2⟩
      · rintro ⟨e1, e2, e3⟩; exact ⟨by omega, e3⟩
  intro xs h
  have := (key xs 0 (Int.le_refl _) h).2
  unfold totalM
  rw [this]; simp
theorem take_mem {α : Type} {xs : List α} {k : Nat} {x : α} (h : x ∈ xs.take k) : x ∈ xs := List.mem_of_mem_take h

set_option maxHeartbeats 400000 in
theorem total_any (S : Nat → Prop) (a : Option Addr) (len cap : Nat) (xs : List Int) (w : World) (h : IntsAt w S a len xs) (hb : ∀ x ∈ xs, -1099511627776 ≤ x ∧ x ≤ 1099511627776) (hl : len ≤ 1048576) :
    Calls Try.prog 11 #[.slice a len cap] w fun e w' => e = .returned (.int .i64 (totalM xs)) ∧ w = w' := by
  go_enter Try.func11, Try.ntmps11
  go_wp2
  go_loop [3, 4] (fun n i => ∃ k : Nat, k ≤ len ∧ i = .int .i64 k ∧ n = .int .i64 (totalM (xs.take k))) (fun _ i => len - (intOf i).toNat)
  case atStart => exact ⟨0, Nat.zero_le _, rfl, rfl⟩
  case round =>
    obtain ⟨k, hk, rfl, rfl⟩ := hrel
    by_cases hlt : k < len
    · obtain ⟨b, off, x, rfl, hx, hc⟩ := h.get hlt
      have hx1 := hb x (List.mem_of_getElem? hx)
      have hx2 := totalM_bd (B := 1099511627776) (by omega) (fun y hy => hb y (take_mem (k := k) hy))
      have hll : ((xs.take k).length : Int) ≤ 1048576 := by rw [List.length_take]; omega
      have HX := Lib.hid hx
      clear hx
      generalize hT : totalM (xs.take k) = t at hx2 ⊢
      have HT := Lib.hid hT
      clear hT
      have ht1 : -1152921504606846976 ≤ t := by omega
      have ht2 : t ≤ 1152921504606846976 := by omega
      clear hx2 hll
      go_wp2
      go_round
      case rel => exact ⟨k + 1, by omega, by go_num, by rw [take_get HX.out, totalM_snoc, HT.out]⟩
      case measure => simp [intOf]; omega
    · have hle := h.lenEq
      have HL := Lib.hid hle
      clear hle
      go_wp2
      go_ret
      exact ⟨ret_int (by rw [List.take_of_length_le (by rw [HL.out]; omega)]), rfl⟩
end Go.Proofs.Ytobfencmfeneoab
