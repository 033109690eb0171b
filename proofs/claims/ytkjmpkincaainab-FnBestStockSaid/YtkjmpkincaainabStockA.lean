import Derived.Test.YtkjmpkincaainabRows
import Derived.WalkKit
import Derived.LoopTactic
import Derived.Outline
import Derived.WalkSpells
import Derived.WalkLawsBesides
import Derived.ProofKit
import Derived.Lib.Hide
import Derived.IntWalk
import Derived.Carry
import Derived.Maps.RangeWalk
import Derived.Test.YtkjmpkincaainabLib
import Derived.Test.YtkjmpkincaainabArr
import Derived.Test.YtkjmpkincaainabGen
import Derived.Test.YtkjmpkincaainabUp
import Derived.Test.YtkjmpkincaainabLots
import Derived.Test.YtkjmpkincaainabTokA
import Derived.Test.YtkjmpkincaainabLotA
import Derived.Test.YtkjmpkincaainabNetM
import Derived.Test.YtkjmpkincaainabStockM
import Derived.Test.YtkjmpkincaainabStockMap
namespace Go.Proofs.Ytkjmpkincaainab
open Go.RowKit Go.WideShapes Go.Maps

theorem grown_of_belowS {w w' : World} (h : Below w.heap.size w w') : w.grownBy w' none := ⟨h.os, h.tape, h.output, h.size, fun b hb _ => h.block b hb⟩
theorem upTo_mem {xs : List Int} (h : allIn 0 9 xs = true) : ∀ x ∈ xs, -1099511627776 ≤ x ∧ x ≤ 1099511627776 := fun x hx => by
  have := List.all_eq_true.1 h x hx
  simp [inB] at this
  omega
theorem fromOne10 (n hi : Int) (w : World) {b : Bool} (hb : inB 1 hi n = b) :
    Calls Try.prog 29 #[.int .i64 n, .int .i64 hi] w fun e w' => e = .returned (.bool b) ∧ w' = w := by
  subst hb
  by_cases h1 : 1 ≤ n
  · by_cases h2 : n ≤ hi
    · go_enter Try.func29, Try.ntmps29
      go_wp2
      go_ret
      exact ⟨ret_bool (inB_true h1 h2).symm, rfl⟩
    · go_enter Try.func29, Try.ntmps29
      go_wp2
      go_ret
      exact ⟨ret_bool (inB_hi (by omega)).symm, rfl⟩
  · go_enter Try.func29, Try.ntmps29
    go_wp2
    go_ret
    exact ⟨ret_bool (inB_lo (by omega)).symm, rfl⟩
set_option maxRecDepth 100000 in
set_option maxHeartbeats 2000000 in
theorem validChances_impl (S : Nat → Prop) (a : Option Addr) (len cap : Nat) (xs : List Int) (w : World) (h : IntsAt w S a len xs) :
    Calls Try.prog 18 #[.slice a len cap] w fun e w' => e = .returned (.bool (chM xs)) ∧ w = w' := by
  have hs := h.small
  have HL := Lib.hid h.lenEq
  cases h1 : inB 1 7 (len : Int)
  · have e : chM xs = false := by unfold chM; simp [inB] at h1; rw [HL.out]; simp; omega
    rw [e]
    go_enter Try.func18, Try.ntmps18
    go_wp2_with (go_at_call 29; refine (fromOne10 _ _ _ h1).mono ?_; rintro e w' ⟨rfl, rfl⟩)
    go_ret
    exact ⟨rfl, rfl⟩
  · cases h2 : allIn 0 9 xs
    · have e : chM xs = false := by unfold chM; rw [h2]; simp
      rw [e]
      go_enter Try.func18, Try.ntmps18
      go_wp2_with (first | (go_at_call 29; refine (fromOne10 _ _ _ h1).mono ?_; rintro e w' ⟨rfl, rfl⟩) | (go_at_call 30; refine (upTo8 S a len cap xs 9 _ h h2).mono ?_; rintro e w' ⟨rfl, rfl⟩))
      go_ret
      exact ⟨rfl, rfl⟩
    · have e : chM xs = decide (totalM xs > 0) := by unfold chM; rw [h2]; simp [inB] at h1; rw [HL.out, decide_eq_true (by omega)]; rfl
      rw [e]
      have hl8 : len ≤ 1048576 := by simp [inB] at h1; omega
      have HM := Lib.hid (upTo_mem h2)
      obtain ⟨T, hT⟩ : ∃ T, totalM xs = T := ⟨_, rfl⟩
      have HT := Lib.hid hT
      rw [hT]
      clear hT e
      go_enter Try.func18, Try.ntmps18
      go_wp2_with (first | (go_at_call 29; refine (fromOne10 _ _ _ h1).mono ?_; rintro e w' ⟨rfl, rfl⟩) | (go_at_call 30; refine (upTo8 S a len cap xs 9 _ h h2).mono ?_; rintro e w' ⟨rfl, rfl⟩) | (go_at_call 31; refine (sumOf_any S a len cap xs _ h HM.out hl8).mono ?_; rintro e w' ⟨rfl, rfl⟩; rw [HT.out]))
      go_ret
      exact ⟨rfl, rfl⟩
theorem Try.underCh : Try.prog.underlying 39 = some (.map 3 3) := by kernel_rfl
theorem Try.underI : Try.prog.underlying 3 = some (.int .i64) := by kernel_rfl
theorem Try.lawI : Keyed Try.prog 3 := int_keyed Try.underI
/-- a map of the call's own -/
def ChanP (w : World) (g : Nat → Int) (K : Nat) (e : Ending) (w' : World) : Prop := ∃ (B n : Nat) (D : DataW Unit), e = .returned (.map (some B)) ∧ w.heap.size ≤ B ∧ n ≤ K ∧ w'.ownsMap Try.prog 3 (plainElem Try.prog 3) B n D ∧ MapIs D g K ∧ Below w.heap.size w w'
def upto (xs : List Int) (k : Nat) (v : Nat) : Int := if v < k then xs.getD v 0 else 0
set_option maxRecDepth 100000 in
set_option maxHeartbeats 2000000 in
theorem chancesOf_impl (a : Option Addr) (len cap : Nat) (xs : List Int) (w : World) (h : IntsAt w (· < w.heap.size) a len xs) (h7 : len ≤ 7) (hx : ∀ k, 0 ≤ xs.getD k 0 ∧ xs.getD k 0 ≤ 9) :
    Calls Try.prog 24 #[.slice a len cap] w (ChanP w (fun v => xs.getD v 0) len) := by
  have hmm := @run_makeMap Try.prog
  have HXS := Lib.hid hx
  have HL := Lib.hid h.lenEq
  have HH := Lib.hid (fun w' (hb : Below w.heap.size w w') => h.below hb)
  clear hx h
  go_enter Try.func24, Try.ntmps24
  go_wp2_with fail
  go_loopw [9] (fun i wr => ∃ (k : Nat) (D : DataW Unit), k ≤ len ∧ i = .int .i64 k ∧ wr.ownsMap Try.prog 3 (plainElem Try.prog 3) w.heap.size k D ∧ MapIs D (upto xs k) len ∧ Below w.heap.size w wr) (fun i _ => len - (intOf i).toNat)
  case atStart => exact ⟨0, _, Nat.zero_le _, rfl, World.ownsMap_made _ _ _ _, mapIs_none len, (Below.refl _ _).alloc (Nat.le_refl _) _⟩
  case round =>
    obtain ⟨k, D, hk, rfl, hown, hm, hnx⟩ := hrel
    have HM := Lib.hid hm
    have HNX := Lib.hid hnx
    clear hm hnx
    by_cases hlt : k < len
    · have hkI : (k : Int) < (len : Int) := by omega
      obtain ⟨b, off, x, rfl, hx, hc⟩ := (HH.out wr HNX.out).get hlt
      have hxe : xs.getD k 0 = x := getD_of hx
      have hx9 := HXS.out k
      rw [hxe] at hx9
      have HXE := Lib.hid hxe
      clear hx hxe
      by_cases hp : 0 < x
      · have EM : ∀ v, (if v = k then x else upto xs k v) = upto xs (k + 1) v := fun v => by
          unfold upto
          by_cases e : v = k
          · subst e; rw [if_pos rfl, if_pos (by omega), HXE.out]
          · rw [if_neg e]
            by_cases h1 : v < k
            · rw [if_pos h1, if_pos (by omega)]
            · rw [if_neg h1, if_neg (by omega)]
        have HEM := Lib.hid EM
        clear EM
        go_wp2_with (first
          | (at_mapUpdate; refine wpList_mapUpdate_own _ rfl _ _ _ 39 rfl 3 3 Try.lawI Try.underCh _ w.heap.size k _ rfl hown (by unfold maxLen; omega) _ _ _ rfl rfl (keyOf_int_mk Try.underI (WalkArith.wf_i64 (by omega))) _ [] (plainElem_int Try.underI (WalkArith.wf_i64 (by omega))) ?_; intro w1 hown1 hgrow1)
          | fail)
        have hnx1 := HNX.out.grown hgrow1 HNX.out.size (fun j hj => by cases hj; exact Nat.le_refl _)
        go_roundw
        case rel => exact ⟨k + 1, _, by omega, by go_num, hown1, (HM.out.put (by omega) hp).congr HEM.out, hnx1⟩
        case measure => simp [intOf]; omega
      · have EM : ∀ v, upto xs k v = upto xs (k + 1) v := fun v => by
          unfold upto
          by_cases e : v = k
          · subst e; rw [if_neg (by omega), if_pos (by omega), HXE.out]; omega
          · by_cases h1 : v < k
            · rw [if_pos h1, if_pos (by omega)]
            · rw [if_neg h1, if_neg (by omega)]
        have HEM := Lib.hid EM
        clear EM
        go_wp2_with fail
        go_roundw
        case rel => exact ⟨k + 1, _, by omega, by go_num, hown.mono (by omega), HM.out.congr HEM.out, HNX.out⟩
        case measure => simp [intOf]; omega
    · obtain rfl : k = len := by omega
      have hkI : ¬ (k : Int) < (k : Int) := by omega
      go_wp2_with fail
      go_ret
      refine ⟨_, _, _, rfl, Nat.le_refl _, Nat.le_refl _, hown, HM.out.congr (fun v => ?_), HNX.out⟩
      unfold upto
      split
      · rfl
      · exact (getD_past (by rw [HL.out]; omega)).symm
set_option maxRecDepth 100000 in
set_option maxHeartbeats 2000000 in
theorem weight_impl (B n : Nat) (D : DataW Unit) (g : Nat → Int) (K : Nat) (w : World) (hown : w.ownsMap Try.prog 3 (plainElem Try.prog 3) B n D) (hm : MapIs D g K) (hK : K ≤ 8) (hg : ∀ v, 0 ≤ g v ∧ g v ≤ 9) :
    Calls Try.prog 25 #[.map (some B)] w fun e w' => e = .returned (.int .i64 (sumF g K)) ∧ Below w.heap.size w w' := by
  have HM := Lib.hid hm
  have HG := Lib.hid hg
  clear hm hg
  go_enter Try.func25, Try.ntmps25
  go_wp2_with (first
    | (at_range; refine wpList_range_own _ rfl _ 39 rfl 3 3 Try.lawI Try.underCh _ B n _ rfl hown ?_; intro w0 hrg0 hg0 hs0)
    | fail)
  go_frame
  go_loopw [3] (fun i wr => ∃ (left : Lit → Bool) (cnt : Nat), i = .int .i64 (cameF g left K) ∧ (∀ kl, left kl = true → has D kl = true) ∧ wr.ranges Try.prog 3 (plainElem Try.prog 3) B w.heap.size n D left cnt ∧ Below w.heap.size w wr) (fun _ wr => wr.rangeLeft B w.heap.size)
  case atStart =>
    refine ⟨_, _, ?_, fun _ h => h, hrg0, ⟨hg0.os, hg0.tape, hg0.output, hg0.size, fun k hk => hg0.block k hk (by simp)⟩⟩
    rw [came_start (fun v hv hh => ?_)]
    rw [HM.out.2.1 v hv] at hh
    have := of_decide_eq_false hh
    have := HG.out v
    omega
  case round =>
    clear hrg0 hg0 hs0 hown
    obtain ⟨left, cnt, rfl, hle, hrg, hnx⟩ := hrel
    have HNX := Lib.hid hnx
    have HLE := Lib.hid hle
    have hcb := came_bd (f := g) (left := left) (B := 9) (K := K) (by omega) (fun v _ => HG.out v)
    clear hnx hle
    obtain ⟨c, hc⟩ : ∃ c, cameF g left K = c := ⟨_, rfl⟩
    rw [hc] at hcb ⊢
    have HC := Lib.hid hc
    clear hc
    have hc0 : 0 ≤ c := hcb.1
    have hc1 : c ≤ 72 := by omega
    clear hcb
    go_wp2_with (first
      | (at_next; refine wpList_next_ranges_ii _ rfl _ rfl 3 3 .i64 .i64 Try.lawI Try.underI Try.underI B w.heap.size n _ _ _ rfl hrg ?_ ?_)
      | fail)
    · intro _ hl0
      go_wp2_with fail
      go_ret
      exact ⟨ret_int (by rw [← HC.out, came_end hl0]), HNX.out⟩
    · intro x y w1 cnt1 hwx hwc hlx hat hrg1 hlt hg1 hs1 hen
      obtain ⟨v, hv, rfl, rfl, hp⟩ := HM.out.came HLE.out hlx hat
      have hgv := HG.out v
      have hnx1 := HNX.out.grown hg1 HNX.out.size (fun j hj => by cases hj; exact Nat.le_refl _)
      have HST := Lib.hid (came_step (f := g) hlx hv)
      have HN1 := Lib.hid hnx1
      clear hnx1 hat
      go_wp2_with fail
      go_roundw
      case rel => exact ⟨_, _, by rw [HST.out, HC.out], strike_le HLE.out _, hrg1, HN1.out⟩
      case measure => rw [hrg1.left_eq, hrg.left_eq]; exact hlt
end Go.Proofs.Ytkjmpkincaainab
