import Derived.Test.YtieknoijkmkdpacRows
import Derived.WalkKit
import Derived.LoopTactic
import Derived.Outline
import Derived.WalkSpells
import Derived.WalkLawsBesides
import Derived.ProofKit
import Derived.Lib.Hide
import Derived.RegionTactic
import Derived.BigRegion
import Derived.Test.YtieknoijkmkdpacLib
import Derived.Test.YtieknoijkmkdpacGen
import Derived.Test.YtieknoijkmkdpacExact
import Derived.Test.YtieknoijkmkdpacMark
import Derived.Test.YtieknoijkmkdpacArr
import Derived.Test.YtieknoijkmkdpacOwn1
import Derived.Test.YtieknoijkmkdpacUp
import Derived.Test.YtieknoijkmkdpacNetM
import Derived.Test.YtieknoijkmkdpacVal2
import Derived.Test.YtieknoijkmkdpacEx
namespace Go.Proofs.Ytieknoijkmkdpac
open Go.RowKit Go.WideShapes

theorem Try.infoIntLo : (Try.prog.info? 3).map (fun i => (i.zero, i.size, i.bytes)) = some (some (.int .i64 0), 1, 8) := by kernel_rfl

theorem ints_alloc {w : World} {a : Option Addr} {len : Nat} {xs : List Int} (h : IntsAt w (· < w.heap.size) a len xs) (o : Obj) : IntsAt (w.alloc o) (· < w.heap.size) a len xs :=
  h.to (fun b hb => ⟨hb, Below.heap_alloc _ _ _ (by omega)⟩)

theorem ret_slice {a : Option Addr} {l c l' c' : Nat} (h : l = l') (h2 : c = c') : Ending.returned (.slice a l c) = Ending.returned (.slice a l' c') := by rw [h, h2]
def SlicePost (w : World) (S : Nat → Prop) (l : Nat) (xs : List Int) (e : Ending) (w' : World) : Prop := (∃ a', e = .returned (.slice a' l l) ∧ IntsAt w S a' l xs) ∧ w = w'
set_option maxHeartbeats 1000000 in
theorem daysFrom_any (S : Nat → Prop) (a : Option Addr) (len cap : Nat) (xs : List Int) (n m : Int) (first days l : Nat) (w : World) (h : IntsAt w S a len xs) (hc : len ≤ cap) (hl8 : len ≤ 8) (hn : n = (first : Int)) (hm : m = (days : Int)) (hf : first < len) (hd : 1 ≤ days) (hd9 : days ≤ 9) (hl : l = min days (len - first)) :
    Calls Try.prog 35 #[.slice a len cap, .int .i64 n, .int .i64 m] w (SlicePost w S l ((xs.drop first).take l)) := by
  subst hn hm
  have hle := h.lenEq
  obtain ⟨b, off, ha, hS, hcell⟩ := h.cells (by omega)
  have key : IntsAt w S (some ⟨b, off + first, none⟩) l ((xs.drop first).take l) := by
    refine ⟨by simp; omega, by omega, fun _ => ⟨b, off + first, rfl, hS, fun i x hx => ?_⟩⟩
    rw [List.getElem?_take] at hx
    split at hx
    · rw [List.getElem?_drop] at hx
      rw [Nat.add_assoc]
      exact hcell _ _ hx
    · cases hx
  have KEY := Lib.hid key
  clear key hcell hle
  subst ha
  by_cases hmin : first + days ≤ len
  · obtain rfl : l = days := by omega
    have e1 : (first : Int) + (l : Int) ≤ (len : Int) := by omega
    clear hl
    go_enter Try.func35, Try.ntmps35
    go_wp2
    go_ret
    exact ⟨⟨_, ret_slice (by omega) (by omega), KEY.out⟩, rfl⟩
  · have e1 : ¬ (first : Int) + (days : Int) ≤ (len : Int) := by omega
    obtain rfl : l = len - first := by omega
    clear hl
    go_enter Try.func35, Try.ntmps35
    go_wp2
    go_ret
    exact ⟨⟨_, ret_slice (by omega) (by omega), KEY.out⟩, rfl⟩
theorem sumOf_any (S : Nat → Prop) (a : Option Addr) (len cap : Nat) (xs : List Int) (w : World) (h : IntsAt w S a len xs) (hb : ∀ x ∈ xs, -1099511627776 ≤ x ∧ x ≤ 1099511627776) (hl : len ≤ 1048576) :
    Calls Try.prog 36 #[.slice a len cap] w fun e w' => e = .returned (.int .i64 (totalM xs)) ∧ w = w' := by
  go_enter Try.func36, Try.ntmps36
  go_wp2
  go_loop [3, 8] (fun n i => ∃ k : Nat, k ≤ len ∧ i = .int .i64 k ∧ n = .int .i64 (totalM (xs.take k))) (fun _ i => len - (intOf i).toNat)
  case atStart => exact ⟨0, Nat.zero_le _, rfl, rfl⟩
  case round =>
    obtain ⟨k, hk, rfl, rfl⟩ := hrel
    by_cases hlt : k < len
    · obtain ⟨b, off, x, rfl, hx, hc⟩ := h.get hlt
      have hx1 := hb x (List.mem_of_getElem? hx)
      have hx2 := totalM_bd (B := 1099511627776) (by omega) (fun y hy => hb y (take_mem (k := k) hy))
      have hll : ((xs.take k).length : Int) ≤ 1048576 := by rw [List.length_take]; omega
      have HX := Lib.hid hx
      clear hx
      generalize hT : totalM (xs.take k) = t at hx2 ⊢
      have HT := Lib.hid hT
      clear hT
      have ht1 : -1152921504606846976 ≤ t := by omega
      have ht2 : t ≤ 1152921504606846976 := by omega
      clear hx2 hll
      go_wp2
      go_round
      case rel => exact ⟨k + 1, by omega, by go_num, by rw [take_get HX.out, totalM_snoc, HT.out]⟩
      case measure => simp [intOf]; omega
    · have hle := h.lenEq
      have HL := Lib.hid hle
      clear hle
      go_wp2
      go_ret
      exact ⟨ret_int (by rw [List.take_of_length_le (by rw [HL.out]; omega)]), rfl⟩
/-- what LotsFor answers -/
def lotsRes (xs : List Int) (d : Int) : List Int := if (validDaysM xs && inB 1 8 d) = true then lotsM xs d else []
theorem lotsRes_len (xs : List Int) (d : Int) : (lotsRes xs d).length ≤ 1048576 := by
  unfold lotsRes
  split
  · rename_i h; simp only [Bool.and_eq_true] at h; have := validDays_len h.1; rw [lotsM_length]; omega
  · simp
theorem lotsRes_no {xs : List Int} {d : Int} (h : (validDaysM xs && inB 1 8 d) = false) : lotsRes xs d = [] := by unfold lotsRes; rw [h]; rfl
theorem lotsRes_yes {xs : List Int} {d : Int} (h : (validDaysM xs && inB 1 8 d) = true) : lotsRes xs d = lotsM xs d := by unfold lotsRes; rw [h]; rfl

set_option maxRecDepth 100000 in
set_option maxHeartbeats 2000000 in
theorem lots_spec (a : Option Addr) (len cap : Nat) (xs : List Int) (d : Int) (w : World) (h : IntsAt w (· < w.heap.size) a len xs) (hv : validDaysM xs = true) (hd1 : 1 ≤ d) (hd8 : d ≤ 8) :
    Calls Try.prog 28 #[.slice a len cap, .int .i64 d] w (NewOwn w (lotsM xs d)) := by
  have hle := h.lenEq
  have hl8 : len ≤ 8 := by have := validDays_len hv; omega
  have HAT := Lib.hid (validDays_at hv)
  have HBD := Lib.hid (fun k q => outTo_bd (days := d) (validDays_at hv) k q)
  have HSU := Lib.hid (sumN_bd (validDays_at hv))
  have HL := Lib.hid hle
  clear hle
  have hmk := fun w => run_make_row' (P := Try.prog) 23 3 (.int .i64 0) 8 Try.underlying23 Try.infoIntLo rfl .i64 .i64 len (by omega) (by omega) w
  go_enter Try.func28, Try.ntmps28
  go_wp2
  clear hmk
  go_loopw [6, 7] (fun at_ i wr => ∃ (k : Nat), k ≤ len ∧ i = .int .i64 k ∧ at_ = .int .i64 (atTo xs d k) ∧ OwnF w wr len (outTo xs d k)) (fun _ i _ => len - (intOf i).toNat)
  case atStart => exact ⟨0, Nat.zero_le _, rfl, rfl, (OwnF.start w len (by omega)).congr (fun q _ => rfl)⟩
  case round =>
    obtain ⟨k, hk, rfl, rfl, hC⟩ := hrel
    by_cases hlt : k < len
    · obtain ⟨b, off, x, rfl, hx, hc⟩ := (h.below hC.below).get hlt
      have hxb := HAT.out k
      rw [getD_of hx] at hxb
      have hab := atTo_bd xs d k
      have HC := Lib.hid hC
      have HX := Lib.hid (getD_of hx)
      have hobk := HBD.out k
      have hsu := HSU.out k
      have HNX := Lib.hid (show atTo xs d (k + 1) = stepAt xs d k (atTo xs d k) from rfl)
      clear hx
      generalize hA : atTo xs d k = A at hab HNX ⊢
      clear hA
      by_cases hbusy : 0 ≤ A ∧ (k : Int) - A < d
      · obtain ⟨h0, hlt2⟩ := hbusy
        have HB := Lib.hid (stepAt_busy (xs := xs) h0 hlt2)
        obtain ⟨m, rfl⟩ : ∃ m : Nat, A = (m : Int) := ⟨A.toNat, by omega⟩
        have hm : m < len := by omega
        obtain ⟨hcm, hfm⟩ := hC.cell hm
        have hbm := hobk m
        clear hC hobk
        generalize hO : outTo xs d k m = o at hcm hbm
        have HO := Lib.hid hO
        clear hO
        go_wp2
        go_region
        go_wp2
        go_roundw
        case rel => exact ⟨k + 1, by omega, by go_num, by rw [HNX.out, HB.out], (HC.out.put m _).drew1.congr (fun q _ => by
            rw [outTo, HNX.out, HB.out, HX.out]
            by_cases e : q = m
            · subst e; rw [if_pos rfl, if_pos rfl, HO.out]
            · rw [if_neg e, if_neg (by omega)]; omega)⟩
        case measure => simp [intOf]; omega
      · have hfr : A < 0 ∨ d ≤ (k : Int) - A := by omega
        have HB := Lib.hid (stepAt_free (xs := xs) hab.1 hfr)
        rw [HX.out] at HB
        obtain ⟨hcm, hfm⟩ := hC.cell hlt
        have hbm := hobk k
        clear hC hobk
        generalize hO : outTo xs d k k = o at hcm hbm
        have HO := Lib.hid hO
        clear hO
        by_cases hx0 : 0 < x
        · have HB' := Lib.hid (HB.out.trans (if_pos hx0))
          by_cases h0 : 0 ≤ A
          · have hge : d ≤ (k : Int) - A := by omega
            clear hfr hbusy
            go_wp2
            go_region
            go_wp2
            go_roundw
            case rel => exact ⟨k + 1, by omega, by go_num, by rw [HNX.out, HB'.out], (HC.out.put k _).drew1.congr (fun q _ => by
                rw [outTo, HNX.out, HB'.out, HX.out]
                by_cases e : q = k
                · subst e; rw [if_pos rfl, if_pos rfl, HO.out]
                · rw [if_neg e, if_neg (by omega)]; omega)⟩
            case measure => simp [intOf]; omega
          · clear hfr hbusy
            go_wp2
            go_region
            go_wp2
            go_roundw
            case rel => exact ⟨k + 1, by omega, by go_num, by rw [HNX.out, HB'.out], (HC.out.put k _).drew1.congr (fun q _ => by
                rw [outTo, HNX.out, HB'.out, HX.out]
                by_cases e : q = k
                · subst e; rw [if_pos rfl, if_pos rfl, HO.out]
                · rw [if_neg e, if_neg (by omega)]; omega)⟩
            case measure => simp [intOf]; omega
        · have HB' := Lib.hid (HB.out.trans (if_neg hx0))
          by_cases h0 : 0 ≤ A
          · have hge : d ≤ (k : Int) - A := by omega
            clear hfr hbusy
            go_wp2
            go_roundw
            case rel => exact ⟨k + 1, by omega, by go_num, by rw [HNX.out, HB'.out], HC.out.congr (fun q _ => by
                rw [outTo, HNX.out, HB'.out, if_neg (by omega)]; omega)⟩
            case measure => simp [intOf]; omega
          · have hA1 : A = -1 := by omega
            subst hA1
            clear hfr hbusy
            go_wp2
            go_roundw
            case rel => exact ⟨k + 1, by omega, by go_num, by rw [HNX.out, HB'.out], HC.out.congr (fun q _ => by
                rw [outTo, HNX.out, HB'.out, if_neg (by omega)]; omega)⟩
            case measure => simp [intOf]; omega
    · obtain rfl : k = len := by omega
      go_wp2
      go_ret
      have e : lotsM xs d = tab (outTo xs d k) k := by unfold lotsM; rw [HL.out]
      rw [e]
      exact hC.done (by omega)
end Go.Proofs.Ytieknoijkmkdpac
