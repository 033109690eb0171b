import Derived.Test.YtkjmpkincaainabRows
import Derived.WalkKit
import Derived.LoopTactic
import Derived.Outline
import Derived.WalkSpells
import Derived.WalkLawsBesides
import Derived.ProofKit
import Derived.Lib.Hide
import Derived.Deep.QuietTactic
import Derived.BigQuiet
import Derived.RegionTactic
import Derived.BigRegion
import Derived.IntWalk
import Derived.Test.YtkjmpkincaainabLib
import Derived.Test.YtkjmpkincaainabGen
import Derived.Test.YtkjmpkincaainabMark
import Derived.Test.YtkjmpkincaainabArr
import Derived.Test.YtkjmpkincaainabOwn1
import Derived.Test.YtkjmpkincaainabUp
import Derived.Test.YtkjmpkincaainabLaws
import Derived.Test.YtkjmpkincaainabNetM
import Derived.Test.YtkjmpkincaainabVal2
import Derived.Test.YtkjmpkincaainabEx
import Derived.Test.YtkjmpkincaainabStocks
import Derived.Test.YtkjmpkincaainabPlanM
namespace Go.Proofs.Ytkjmpkincaainab
open Go.RowKit Go.WideShapes

theorem Try.infoIntP : (Try.prog.info? 3).map (fun i => (i.zero, i.size, i.bytes)) = some (some (.int .i64 0), 1, 8) := by kernel_rfl
def validLotsM (xs : List Int) (s h : Int) : Bool := validDaysM xs && inB 0 30 s && inB 0 30 h
theorem validLots_get {xs : List Int} {s h : Int} (hv : validLotsM xs s h = true) : validDaysM xs = true ∧ (0 ≤ s ∧ s ≤ 30) ∧ (0 ≤ h ∧ h ≤ 30) := by
  simp only [validLotsM, Bool.and_eq_true] at hv
  have h1 : 0 ≤ s ∧ s ≤ 30 := by simpa [inB] using hv.1.2
  have h2 : 0 ≤ h ∧ h ≤ 30 := by simpa [inB] using hv.2
  exact ⟨hv.1.1, h1, h2⟩
theorem specSum_any (S : Nat → Prop) (a : Option Addr) (len cap : Nat) (xs : List Int) (w : World) (h : IntsAt w S a len xs) (hb : ∀ x ∈ xs, -1099511627776 ≤ x ∧ x ≤ 1099511627776) (hl : len ≤ 1048576) :
    Calls Try.prog 26 #[.slice a len cap] w fun e w' => e = .returned (.int .i64 (totalM xs)) ∧ w = w' := by
  go_enter Try.func26, Try.ntmps26
  go_wp2
  go_loop [3, 4] (fun n i => ∃ k : Nat, k ≤ len ∧ i = .int .i64 k ∧ n = .int .i64 (totalM (xs.take k))) (fun _ i => len - (intOf i).toNat)
  case atStart => exact ⟨0, Nat.zero_le _, rfl, rfl⟩
  case round =>
    obtain ⟨k, hk, rfl, rfl⟩ := hrel
    by_cases hlt : k < len
    · obtain ⟨b, off, x, rfl, hx, hc⟩ := h.get hlt
      have hx1 := hb x (List.mem_of_getElem? hx)
      have hx2 := totalM_bd (B := 1099511627776) (by omega) (fun y hy => hb y (take_mem (k := k) hy))
      have hll : ((xs.take k).length : Int) ≤ 1048576 := by rw [List.length_take]; omega
      have HX := Lib.hid hx
      clear hx
      generalize hT : totalM (xs.take k) = t at hx2 ⊢
      have HT := Lib.hid hT
      clear hT
      have ht1 : -1152921504606846976 ≤ t := by omega
      have ht2 : t ≤ 1152921504606846976 := by omega
      clear hx2 hll
      go_wp2
      go_round
      case rel => exact ⟨k + 1, by omega, by go_num, by rw [take_get HX.out, totalM_snoc, HT.out]⟩
      case measure => simp [intOf]; omega
    · have hle := h.lenEq
      have HL := Lib.hid hle
      clear hle
      go_wp2
      go_ret
      exact ⟨ret_int (by rw [List.take_of_length_le (by rw [HL.out]; omega)]), rfl⟩
theorem mul_box3 {a b A B : Int} (ha : 0 ≤ a) (ha' : a ≤ A) (hb : 0 ≤ b) (hb' : b ≤ B) : 0 ≤ a * b ∧ a * b ≤ A * B :=
  ⟨Int.mul_nonneg ha hb, Int.mul_le_mul ha' hb' hb (by omega)⟩
theorem ints_part {w : World} {S : Nat → Prop} {b off len : Nat} {xs : List Int} (h : IntsAt w S (some ⟨b, off, none⟩) len xs) (i k : Nat) (hi : i < k) (hk : k ≤ len) : IntsAt w S (some ⟨b, off + i, none⟩) (k - i) ((xs.drop i).take (k - i)) := by
  have hl := h.lenEq
  have hs := h.small
  obtain ⟨b', off', e, hS, hc⟩ := h.cells (by omega)
  cases e
  refine ⟨by simp; omega, by omega, fun _ => ⟨b, off + i, rfl, hS, fun j x hx => ?_⟩⟩
  rw [List.getElem?_take] at hx
  split at hx
  · rw [List.getElem?_drop] at hx
    rw [Nat.add_assoc]
    exact hc _ _ hx
  · cases hx
theorem days_mem {xs : List Int} (hx : ∀ k, 0 ≤ xs.getD k 0 ∧ xs.getD k 0 ≤ 20) : ∀ x ∈ xs, -1099511627776 ≤ x ∧ x ≤ 1099511627776 := by
  intro x hx'
  obtain ⟨k, hk, rfl⟩ := List.mem_iff_getElem.1 hx'
  have := hx k
  rw [List.getD_eq_getElem?_getD, List.getElem?_eq_getElem hk] at this
  simp at this
  omega
def lotFine (ms xs : List Int) (s h : Int) : Bool := validLotsM xs s h && stocksFine 0 ms xs
/-- what LotCost answers -/
def lotCostM (ms xs : List Int) (s h : Int) : Int := if lotFine ms xs s h then planTo ms xs s h xs.length else -1
def IntBool (w : World) (n : Int) (b : Bool) (e : Ending) (w' : World) : Prop := e = .returned (.tuple #[.int .i64 n, .bool b]) ∧ Below w.heap.size w w'
theorem lotCost_no {ms xs : List Int} {s h : Int} (e : lotFine ms xs s h = false) : lotCostM ms xs s h = -1 := by unfold lotCostM; rw [e]; rfl
theorem lotCost_yes {ms xs : List Int} {s h : Int} (e : lotFine ms xs s h = true) : lotCostM ms xs s h = planTo ms xs s h xs.length := by unfold lotCostM; rw [e]; rfl
theorem dayC_bd {ms xs : List Int} {s h : Int} (hm : validMadeM ms = true) (hx : validDaysM xs = true) (hok : ∀ q, q < xs.length → 0 ≤ stockTo ms xs 0 (q + 1)) (hs : 0 ≤ s ∧ s ≤ 31) (hh : 0 ≤ h ∧ h ≤ 31) {q : Nat} (hq : q < xs.length) : 0 ≤ dayC ms xs s h q ∧ dayC ms xs s h q ≤ 50000 := by
  have h1 := hok q hq
  have h2 := stockTo_bd (s := 0) (by omega) (by omega) hm hx (q + 1)
  have hl := validDays_len hx
  have e : stockTo ms xs 0 (q + 1) = sumN ms (q + 1) - sumN xs (q + 1) := by rw [stockTo_closed]; omega
  rw [e] at h1 h2
  have h3 := mul_box3 hh.1 hh.2 h1 (show _ ≤ (1400 : Int) by omega)
  unfold dayC; split <;> omega
theorem planTo_bd {ms xs : List Int} {s h : Int} (hm : validMadeM ms = true) (hx : validDaysM xs = true) (hok : ∀ q, q < xs.length → 0 ≤ stockTo ms xs 0 (q + 1)) (hs : 0 ≤ s ∧ s ≤ 31) (hh : 0 ≤ h ∧ h ≤ 31) : ∀ q, q ≤ xs.length → 0 ≤ planTo ms xs s h q ∧ planTo ms xs s h q ≤ 50000 * (q : Int) := by
  intro q
  induction q with
  | zero => intro _; simp [planTo]
  | succ q ih => intro hq; have := ih (by omega); have := dayC_bd hm hx hok hs hh (q := q) (by omega); rw [planTo]; omega
/-- of the days behind i, so many lots are tried: the least cost, -1 ahead of the first -/
def curM (xs : List Int) (s h : Int) (i : Nat) : Nat → Int
  | 0 => -1
  | m + 1 => minTo (fun d => runD xs s h i (d + 1) + bst xs s h (i + (d + 1))) m
def doneB (xs : List Int) (s h : Int) (m q : Nat) : Int := if m ≤ q then bst xs s h q else 0
def bestNow (xs : List Int) (s h : Int) (i : Nat) (c : Int) (q : Nat) : Int := if q = i then c else if i < q then bst xs s h q else 0
def leastRes (xs : List Int) (s h : Int) : Int := if validLotsM xs s h then bst xs s h 0 else -1
theorem leastRes_no {xs : List Int} {s h : Int} (e : validLotsM xs s h = false) : leastRes xs s h = -1 := by unfold leastRes; rw [e]; rfl
theorem leastRes_yes {xs : List Int} {s h : Int} (e : validLotsM xs s h = true) : leastRes xs s h = bst xs s h 0 := by unfold leastRes; rw [e]; rfl
def IntVal (w : World) (n : Int) (e : Ending) (w' : World) : Prop := e = .returned (.int .i64 n) ∧ Below w.heap.size w w'
end Go.Proofs.Ytkjmpkincaainab
