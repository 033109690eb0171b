import Derived.Test.YtldncfkkeeinjabRows
import Derived.WalkKit
import Derived.LoopTactic
import Derived.Outline
import Derived.WalkSpells
import Derived.WalkLawsBesides
import Derived.ProofKit
import Derived.Lib.Hide
import Derived.RegionTactic
import Derived.BigRegion
import Derived.Test.YtldncfkkeeinjabLib
import Derived.Test.YtldncfkkeeinjabGen
import Derived.Test.YtldncfkkeeinjabExact
import Derived.Test.YtldncfkkeeinjabMark
import Derived.Test.YtldncfkkeeinjabArr
import Derived.Test.YtldncfkkeeinjabOwn1
import Derived.Test.YtldncfkkeeinjabUp
import Derived.Test.YtldncfkkeeinjabNetM
import Derived.Test.YtldncfkkeeinjabVal2
import Derived.Test.YtldncfkkeeinjabEx
namespace Go.Proofs.Ytldncfkkeeinjab
open Go.RowKit Go.WideShapes

theorem Try.infoIntLo : (Try.prog.info? 3).map (fun i => (i.zero, i.size, i.bytes)) = some (some (.int .i64 0), 1, 8) := by kernel_rfl

theorem ints_alloc {w : World} {a : Option Addr} {len : Nat} {xs : List Int} (h : IntsAt w (· < w.heap.size) a len xs) (o : Obj) : IntsAt (w.alloc o) (· < w.heap.size) a len xs :=
  h.to (fun b hb => ⟨hb, Below.heap_alloc _ _ _ (by omega)⟩)

theorem ret_slice {a : Option Addr} {l c l' c' : Nat} (h : l = l') (h2 : c = c') : Ending.returned (.slice a l c) = Ending.returned (.slice a l' c') := by rw [h, h2]
def SlicePost (w : World) (S : Nat → Prop) (l : Nat) (xs : List Int) (e : Ending) (w' : World) : Prop := (∃ a', e = .returned (.slice a' l l) ∧ IntsAt w S a' l xs) ∧ w = w'
set_option maxHeartbeats 1000000 in
theorem daysFrom_any (S : Nat → Prop) (a : Option Addr) (len cap : Nat) (xs : List Int) (n m : Int) (first days l : Nat) (w : World) (h : IntsAt w S a len xs) (hc : len ≤ cap) (hl8 : len ≤ 8) (hn : n = (first : Int)) (hm : m = (days : Int)) (hf : first < len) (hd : 1 ≤ days) (hd9 : days ≤ 9) (hl : l = min days (len - first)) :
    Calls Try.prog 37 #[.slice a len cap, .int .i64 n, .int .i64 m] w (SlicePost w S l ((xs.drop first).take l)) := by
  subst hn hm
  have hle := h.lenEq
  obtain ⟨b, off, ha, hS, hcell⟩ := h.cells (by omega)
  have key : IntsAt w S (some ⟨b, off + first, none⟩) l ((xs.drop first).take l) := by
    refine ⟨by simp; omega, by omega, fun _ => ⟨b, off + first, rfl, hS, fun i x hx => ?_⟩⟩
    rw [List.getElem?_take] at hx
    split at hx
    · rw [List.getElem?_drop] at hx
      rw [Nat.add_assoc]
      exact hcell _ _ hx
    · cases hx
  have KEY := Lib.hid key
  clear key hcell hle
  subst ha
  by_cases hmin : first + days ≤ len
  · obtain rfl : l = days := by omega
    have e1 : (first : Int) + (l : Int) ≤ (len : Int) := by omega
    clear hl
    go_enter Try.func37, Try.ntmps37
    go_wp2
    go_ret
    exact ⟨⟨_, ret_slice (by omega) (by omega), KEY.out⟩, rfl⟩
  · have e1 : ¬ (first : Int) + (days : Int) ≤ (len : Int) := by omega
    obtain rfl : l = len - first := by omega
    clear hl
    go_enter Try.func37, Try.ntmps37
    go_wp2
    go_ret
    exact ⟨⟨_, ret_slice (by omega) (by omega), KEY.out⟩, rfl⟩
theorem sumOf_any (S : Nat → Prop) (a : Option Addr) (len cap : Nat) (xs : List Int) (w : World) (h : IntsAt w S a len xs) (hb : ∀ x ∈ xs, -1099511627776 ≤ x ∧ x ≤ 1099511627776) (hl : len ≤ 1048576) :
    Calls Try.prog 39 #[.slice a len cap] w fun e w' => e = .returned (.int .i64 (totalM xs)) ∧ w = w' := by
  go_enter Try.func39, Try.ntmps39
  go_wp2
  go_loop [3, 8] (fun n i => ∃ k : Nat, k ≤ len ∧ i = .int .i64 k ∧ n = .int .i64 (totalM (xs.take k))) (fun _ i => len - (intOf i).toNat)
  case atStart => exact ⟨0, Nat.zero_le _, rfl, rfl⟩
  case round =>
    obtain ⟨k, hk, rfl, rfl⟩ := hrel
    by_cases hlt : k < len
    · obtain ⟨b, off, x, rfl, hx, hc⟩ := h.get hlt
      have hx1 := hb x (List.mem_of_getElem? hx)
      have hx2 := totalM_bd (B := 1099511627776) (by omega) (fun y hy => hb y (take_mem (k := k) hy))
      have hll : ((xs.take k).length : Int) ≤ 1048576 := by rw [List.length_take]; omega
      have HX := Lib.hid hx
      clear hx
      generalize hT : totalM (xs.take k) = t at hx2 ⊢
      have HT := Lib.hid hT
      clear hT
      have ht1 : -1152921504606846976 ≤ t := by omega
      have ht2 : t ≤ 1152921504606846976 := by omega
      clear hx2 hll
      go_wp2
      go_round
      case rel => exact ⟨k + 1, by omega, by go_num, by rw [take_get HX.out, totalM_snoc, HT.out]⟩
      case measure => simp [intOf]; omega
    · have hle := h.lenEq
      have HL := Lib.hid hle
      clear hle
      go_wp2
      go_ret
      exact ⟨ret_int (by rw [List.take_of_length_le (by rw [HL.out]; omega)]), rfl⟩
/-- what LotsFor answers -/
def lotsRes (xs : List Int) (d : Int) : List Int := if (validDaysM xs && inB 1 8 d) = true then lotsM xs d else []
theorem lotsRes_len (xs : List Int) (d : Int) : (lotsRes xs d).length ≤ 1048576 := by
  unfold lotsRes
  split
  · rename_i h; simp only [Bool.and_eq_true] at h; have := validDays_len h.1; rw [lotsM_length]; omega
  · simp
theorem lotsRes_no {xs : List Int} {d : Int} (h : (validDaysM xs && inB 1 8 d) = false) : lotsRes xs d = [] := by unfold lotsRes; rw [h]; rfl
theorem lotsRes_yes {xs : List Int} {d : Int} (h : (validDaysM xs && inB 1 8 d) = true) : lotsRes xs d = lotsM xs d := by unfold lotsRes; rw [h]; rfl

end Go.Proofs.Ytldncfkkeeinjab
