import Derived.Test.YtkjmpkincaainacRows
import Derived.WalkKit
import Derived.LoopTactic
import Derived.Outline
import Derived.WalkSpells
import Derived.WalkLawsBesides
import Derived.ProofKit
import Derived.Lib.Hide
import Derived.IntWalk
import Derived.Carry
import Derived.Maps.RangeWalk
import Derived.Test.YtkjmpkincaainacM0
import Derived.Test.YtkjmpkincaainacM1
import Derived.Test.YtkjmpkincaainacM11
import Derived.Test.YtkjmpkincaainacM9
import Derived.Test.YtkjmpkincaainacM2
import Derived.Test.YtkjmpkincaainacM10
import Derived.Test.YtkjmpkincaainacM4
import Derived.Test.YtkjmpkincaainacM6
namespace Go.Proofs.Ytkjmpkincaainac
open Go.RowKit Go.WideShapes Go.Maps

theorem grown_of_belowS {w w' : World} (h : Below w.heap.size w w') : w.grownBy w' none := ⟨h.os, h.tape, h.output, h.size, fun b hb _ => h.block b hb⟩
theorem upTo_mem {xs : List Int} (h : allIn 0 9 xs = true) : ∀ x ∈ xs, -1099511627776 ≤ x ∧ x ≤ 1099511627776 := fun x hx => by
  have := List.all_eq_true.1 h x hx
  simp [inB] at this
  omega
theorem fromOne10 (n hi : Int) (w : World) {b : Bool} (hb : inB 1 hi n = b) :
    Calls Try.prog 23 #[.int .i64 n, .int .i64 hi] w fun e w' => e = .returned (.bool b) ∧ w' = w := by
  subst hb
  by_cases h1 : 1 ≤ n
  · by_cases h2 : n ≤ hi
    · go_enter Try.func23, Try.ntmps23
      go_wp2
      go_ret
      exact ⟨ret_bool (inB_true h1 h2).symm, rfl⟩
    · go_enter Try.func23, Try.ntmps23
      go_wp2
      go_ret
      exact ⟨ret_bool (inB_hi (by omega)).symm, rfl⟩
  · go_enter Try.func23, Try.ntmps23
    go_wp2
    go_ret
    exact ⟨ret_bool (inB_lo (by omega)).symm, rfl⟩
set_option maxRecDepth 100000 in
set_option maxHeartbeats 2000000 in
theorem validChances_impl (S : Nat → Prop) (a : Option Addr) (len cap : Nat) (xs : List Int) (w : World) (h : IntsAt w S a len xs) :
    Calls Try.prog 22 #[.slice a len cap] w fun e w' => e = .returned (.bool (chM xs)) ∧ w = w' := by
  have hs := h.small
  have HL := Lib.hid h.lenEq
  cases h1 : inB 1 7 (len : Int)
  · have e : chM xs = false := by unfold chM; simp [inB] at h1; rw [HL.out]; simp; omega
    rw [e]
    go_enter Try.func22, Try.ntmps22
    go_wp2_with (go_at_call 23; refine (fromOne10 _ _ _ h1).mono ?_; rintro e w' ⟨rfl, rfl⟩)
    go_ret
    exact ⟨rfl, rfl⟩
  · cases h2 : allIn 0 9 xs
    · have e : chM xs = false := by unfold chM; rw [h2]; simp
      rw [e]
      go_enter Try.func22, Try.ntmps22
      go_wp2_with (first | (go_at_call 23; refine (fromOne10 _ _ _ h1).mono ?_; rintro e w' ⟨rfl, rfl⟩) | (go_at_call 36; refine (upTo8 S a len cap xs 9 _ h h2).mono ?_; rintro e w' ⟨rfl, rfl⟩))
      go_ret
      exact ⟨rfl, rfl⟩
    · have e : chM xs = decide (totalM xs > 0) := by unfold chM; rw [h2]; simp [inB] at h1; rw [HL.out, decide_eq_true (by omega)]; rfl
      rw [e]
      have hl8 : len ≤ 1048576 := by simp [inB] at h1; omega
      have HM := Lib.hid (upTo_mem h2)
      obtain ⟨T, hT⟩ : ∃ T, totalM xs = T := ⟨_, rfl⟩
      have HT := Lib.hid hT
      rw [hT]
      clear hT e
      go_enter Try.func22, Try.ntmps22
      go_wp2_with (first | (go_at_call 23; refine (fromOne10 _ _ _ h1).mono ?_; rintro e w' ⟨rfl, rfl⟩) | (go_at_call 36; refine (upTo8 S a len cap xs 9 _ h h2).mono ?_; rintro e w' ⟨rfl, rfl⟩) | (go_at_call 37; refine (sumOf_any S a len cap xs _ h HM.out hl8).mono ?_; rintro e w' ⟨rfl, rfl⟩; rw [HT.out]))
      go_ret
      exact ⟨rfl, rfl⟩
theorem Try.underCh : Try.prog.underlying 46 = some (.map 3 3) := by kernel_rfl
theorem Try.underI : Try.prog.underlying 3 = some (.int .i64) := by kernel_rfl
theorem Try.lawI : Keyed Try.prog 3 := int_keyed Try.underI
/-- a map of the call's own -/
def ChanP (w : World) (g : Nat → Int) (K : Nat) (e : Ending) (w' : World) : Prop := ∃ (B n : Nat) (D : DataW Unit), e = .returned (.map (some B)) ∧ w.heap.size ≤ B ∧ n ≤ K ∧ w'.ownsMap Try.prog 3 (plainElem Try.prog 3) B n D ∧ MapIs D g K ∧ Below w.heap.size w w'
def upto (xs : List Int) (k : Nat) (v : Nat) : Int := if v < k then xs.getD v 0 else 0
set_option maxRecDepth 100000 in
set_option maxHeartbeats 2000000 in
theorem chancesOf_impl (a : Option Addr) (len cap : Nat) (xs : List Int) (w : World) (h : IntsAt w (· < w.heap.size) a len xs) (h7 : len ≤ 7) (hx : ∀ k, 0 ≤ xs.getD k 0 ∧ xs.getD k 0 ≤ 9) :
    Calls Try.prog 25 #[.slice a len cap] w (ChanP w (fun v => xs.getD v 0) len) := by
  have hmm := @run_makeMap Try.prog
  have HXS := Lib.hid hx
  have HL := Lib.hid h.lenEq
  have HH := Lib.hid (fun w' (hb : Below w.heap.size w w') => h.below hb)
  clear hx h
  go_enter Try.func25, Try.ntmps25
  go_wp2_with fail
  go_loopw [9] (fun i wr => ∃ (k : Nat) (D : DataW Unit), k ≤ len ∧ i = .int .i64 k ∧ wr.ownsMap Try.prog 3 (plainElem Try.prog 3) w.heap.size k D ∧ MapIs D (upto xs k) len ∧ Below w.heap.size w wr) (fun i _ => len - (intOf i).toNat)
  case atStart => exact ⟨0, _, Nat.zero_le _, rfl, World.ownsMap_made _ _ _ _, mapIs_none len, (Below.refl _ _).alloc (Nat.le_refl _) _⟩
  case round =>
    obtain ⟨k, D, hk, rfl, hown, hm, hnx⟩ := hrel
    have HM := Lib.hid hm
    have HNX := Lib.hid hnx
    clear hm hnx
    by_cases hlt : k < len
    · have hkI : (k : Int) < (len : Int) := by omega
      obtain ⟨b, off, x, rfl, hx, hc⟩ := (HH.out wr HNX.out).get hlt
      have hxe : xs.getD k 0 = x := getD_of hx
      have hx9 := HXS.out k
      rw [hxe] at hx9
      have HXE := Lib.hid hxe
      clear hx hxe
      by_cases hp : 0 < x
      · have EM : ∀ v, (if v = k then x else upto xs k v) = upto xs (k + 1) v := fun v => by
          unfold upto
          by_cases e : v = k
          · subst e; rw [if_pos rfl, if_pos (by omega), HXE.out]
          · rw [if_neg e]
            by_cases h1 : v < k
            · rw [if_pos h1, if_pos (by omega)]
            · rw [if_neg h1, if_neg (by omega)]
        have HEM := Lib.hid EM
        clear EM
        go_wp2_with (first
          | (at_mapUpdate; refine wpList_mapUpdate_own _ rfl _ _ _ 46 rfl 3 3 Try.lawI Try.underCh _ w.heap.size k _ rfl hown (by unfold maxLen; omega) _ _ _ rfl rfl (keyOf_int_mk Try.underI (WalkArith.wf_i64 (by omega))) _ [] (plainElem_int Try.underI (WalkArith.wf_i64 (by omega))) ?_; intro w1 hown1 hgrow1)
          | fail)
        have hnx1 := HNX.out.grown hgrow1 HNX.out.size (fun j hj => by cases hj; exact Nat.le_refl _)
        go_roundw
        case rel => exact ⟨k + 1, _, by omega, by go_num, hown1, (HM.out.put (by omega) hp).congr HEM.out, hnx1⟩
        case measure => simp [intOf]; omega
      · have EM : ∀ v, upto xs k v = upto xs (k + 1) v := fun v => by
          unfold upto
          by_cases e : v = k
          · subst e; rw [if_neg (by omega), if_pos (by omega), HXE.out]; omega
          · by_cases h1 : v < k
            · rw [if_pos h1, if_pos (by omega)]
            · rw [if_neg h1, if_neg (by omega)]
        have HEM := Lib.hid EM
        clear EM
        go_wp2_with fail
        go_roundw
        case rel => exact ⟨k + 1, _, by omega, by go_num, hown.mono (by omega), HM.out.congr HEM.out, HNX.out⟩
        case measure => simp [intOf]; omega
    · obtain rfl : k = len := by omega
      have hkI : ¬ (k : Int) < (k : Int) := by omega
      go_wp2_with fail
      go_ret
      refine ⟨_, _, _, rfl, Nat.le_refl _, Nat.le_refl _, hown, HM.out.congr (fun v => ?_), HNX.out⟩
      unfold upto
      split
      · rfl
      · exact (getD_past (by rw [HL.out]; omega)).symm
set_option maxRecDepth 100000 in
set_option maxHeartbeats 2000000 in
theorem weight_implA (B n : Nat) (D : DataW Unit) (g : Nat → Int) (K : Nat) (w : World) (hown : w.ownsMap Try.prog 3 (plainElem Try.prog 3) B n D) (hm : MapIs D g K) (hK : K ≤ 8) (hg : ∀ v, 0 ≤ g v ∧ g v ≤ 9) :
    Calls Try.prog 26 #[.map (some B)] w fun e w' => e = .returned (.int .i64 (sumF g K)) ∧ Below w.heap.size w w' := by
  have HM := Lib.hid hm
  have HG := Lib.hid hg
  clear hm hg
  go_enter Try.func26, Try.ntmps26
  go_wp2_with (first
    | (at_range; refine wpList_range_own _ rfl _ 46 rfl 3 3 Try.lawI Try.underCh _ B n _ rfl hown ?_; intro w0 hrg0 hg0 hs0)
    | fail)
  go_frame
  go_loopw [3] (fun i wr => ∃ (left : Lit → Bool) (cnt : Nat), i = .int .i64 (cameF g left K) ∧ (∀ kl, left kl = true → has D kl = true) ∧ wr.ranges Try.prog 3 (plainElem Try.prog 3) B w.heap.size n D left cnt ∧ Below w.heap.size w wr) (fun _ wr => wr.rangeLeft B w.heap.size)
  case atStart =>
    refine ⟨_, _, ?_, fun _ h => h, hrg0, ⟨hg0.os, hg0.tape, hg0.output, hg0.size, fun k hk => hg0.block k hk (by simp)⟩⟩
    rw [came_start (fun v hv hh => ?_)]
    rw [HM.out.2.1 v hv] at hh
    have := of_decide_eq_false hh
    have := HG.out v
    omega
  case round =>
    clear hrg0 hg0 hs0 hown
    obtain ⟨left, cnt, rfl, hle, hrg, hnx⟩ := hrel
    have HNX := Lib.hid hnx
    have HLE := Lib.hid hle
    have hcb := came_bd (f := g) (left := left) (B := 9) (K := K) (by omega) (fun v _ => HG.out v)
    clear hnx hle
    obtain ⟨c, hc⟩ : ∃ c, cameF g left K = c := ⟨_, rfl⟩
    rw [hc] at hcb ⊢
    have HC := Lib.hid hc
    clear hc
    have hc0 : 0 ≤ c := hcb.1
    have hc1 : c ≤ 72 := by omega
    clear hcb
    go_wp2_with (first
      | (at_next; refine wpList_next_ranges_ii _ rfl _ rfl 3 3 .i64 .i64 Try.lawI Try.underI Try.underI B w.heap.size n _ _ _ rfl hrg ?_ ?_)
      | fail)
    · intro _ hl0
      go_wp2_with fail
      go_ret
      exact ⟨ret_int (by rw [← HC.out, came_end hl0]), HNX.out⟩
    · intro x y w1 cnt1 hwx hwc hlx hat hrg1 hlt hg1 hs1 hen
      obtain ⟨v, hv, rfl, rfl, hp⟩ := HM.out.came HLE.out hlx hat
      have hgv := HG.out v
      have hnx1 := HNX.out.grown hg1 HNX.out.size (fun j hj => by cases hj; exact Nat.le_refl _)
      have HST := Lib.hid (came_step (f := g) hlx hv)
      have HN1 := Lib.hid hnx1
      clear hnx1 hat
      go_wp2_with fail
      go_roundw
      case rel => exact ⟨_, _, by rw [HST.out, HC.out], strike_le HLE.out _, hrg1, HN1.out⟩
      case measure => rw [hrg1.left_eq, hrg.left_eq]; exact hlt
end Go.Proofs.Ytkjmpkincaainac
namespace Go.Proofs.Ytkjmpkincaainac
open Go.RowKit Go.WideShapes Go.Maps

theorem areC {o u : Int} {b : Bool} (h : (inB 0 30 o && inB 0 30 u) = b) (w : World) : Calls Try.prog 24 #[.int .i64 o, .int .i64 u] w fun e w' => e = .returned (.bool b) ∧ w = w' := by
  subst h; exact areCosts_any o u w
theorem vchI {S : Nat → Prop} {a : Option Addr} {len cap : Nat} {xs : List Int} {b : Bool} (hb : chM xs = b) (w : World) (h : IntsAt w S a len xs) : Calls Try.prog 22 #[.slice a len cap] w fun e w' => e = .returned (.bool b) ∧ w = w' := by
  subst hb; exact validChances_impl S a len cap xs w h
theorem okO_eq {xs : List Int} {o u : Int} {b c : Bool} (h : chM xs = b) (h2 : (inB 0 30 o && inB 0 30 u) = c) : okO xs o u = (b && c) := by
  unfold okO; rw [Bool.and_assoc, h2, h]
theorem from1S {n hi : Int} {b : Bool} (hb : inB 1 hi n = b) (w : World) : Calls Try.prog 23 #[.int .i64 n, .int .i64 hi] w fun e w' => e = .returned (.bool b) ∧ w = w' := (fromOne10 n hi w hb).mono fun _ _ h => ⟨h.1, h.2.symm⟩
end Go.Proofs.Ytkjmpkincaainac
namespace Go.Proofs.Ytkjmpkincaainac
open Go.RowKit Go.WideShapes Go.Maps

theorem rateFine_eq {xs : List Int} {a p f : Int} {b c d : Bool} (h : chM xs = b) (h2 : inB 1 7 a = c) (h3 : (inB 0 30 p && inB 0 30 f) = d) : rateFine xs a p f = (b && c && d) := by
  unfold rateFine okO; rw [Bool.and_assoc (chM xs), h3, h, h2]; cases b <;> cases c <;> cases d <;> rfl
set_option maxRecDepth 100000 in
set_option maxHeartbeats 4000000 in
theorem ageRate_impl (a : Option Addr) (len cap : Nat) (xs : List Int) (age p f : Int) (w : World) (h : IntsAt w (· < w.heap.size) a len xs) :
    Calls Try.prog 9 #[.slice a len cap, .int .i64 age, .int .i64 p, .int .i64 f] w (FracBP w (rateU xs age p f) (rateD xs age p f) (rateFine xs age p f)) := by
  have ht1 := two_new w (.int .i64 0) (.int .i64 0) 24
  have hb1 := below_alloc w (.cells #[.int .i64 0, .int .i64 0] 24)
  obtain ⟨w1, hw1⟩ : ∃ w1, (w.alloc (.cells #[.int .i64 0, .int .i64 0] 24)) = w1 := ⟨_, rfl⟩
  rw [hw1] at ht1 hb1
  have h1 : IntsAt w1 (· < w1.heap.size) a len xs := (h.below hb1).to (fun b hb2 => ⟨Nat.lt_of_lt_of_le hb2 hb1.size, rfl⟩)
  have HW1 := Lib.hid hw1
  have HT1 := Lib.hid ht1
  have HB1 := Lib.hid hb1
  clear hw1 ht1 hb1
  have HEND := Lib.hid (fun w' (h : Below w1.heap.size w1 w') (U D : Nat) => And.intro ((((HT1.out.lift h).set0 (.int .i64 U)).set1 (.int .i64 D))) (((HB1.out.trans (h.mono HB1.out.size)).setCell (p := ⟨w.heap.size, 0, none⟩) (Nat.le_refl _) (.int .i64 U)).setCell (p := ⟨w.heap.size, 1, none⟩) (Nat.le_refl _) (.int .i64 D)))
  have HEND0 := Lib.hid (HEND.out w1 (Below.refl _ _) 0 0)
  have HL := h1.lenEq
  clear h
  cases hc : chM xs
  · have hr := rateFine_eq (p := p) (f := f) (a := age) hc rfl rfl
    obtain ⟨e1, e2⟩ := rate_no (xs := xs) (a := age) (p := p) (f := f) (by rw [hr]; rfl)
    rw [hr, e1, e2]
    clear hr e1 e2
    obtain ⟨⟨r0, z0⟩, r1, z1⟩ := HT1.out
    go_enter Try.func9, Try.ntmps9
    go_wp2_with fail
    rw [HW1.out]
    go_wp2_with (first | (go_at_call 22; refine (vchI hc _ h1).mono ?_; rintro e w' ⟨rfl, rfl⟩) | fail)
    have v0 := HEND0.out.1.1.1
    have v1 := HEND0.out.1.2.1
    exact bodyPost_ret (v := .tuple #[.agg #[.int .i64 0, .int .i64 0], .bool false]) (by simp [results, Try.results9, go_sem] at v0 v1 ⊢; simp [go_sem, v0, v1]) rfl ⟨rfl, HEND0.out.2⟩
  · cases ha : inB 1 7 age
    · have hr := rateFine_eq (p := p) (f := f) (a := age) hc ha rfl
      obtain ⟨e1, e2⟩ := rate_no (xs := xs) (a := age) (p := p) (f := f) (by rw [hr]; rfl)
      rw [hr, e1, e2]
      clear hr e1 e2
      obtain ⟨⟨r0, z0⟩, r1, z1⟩ := HT1.out
      go_enter Try.func9, Try.ntmps9
      go_wp2_with fail
      rw [HW1.out]
      go_wp2_with (first | (go_at_call 22; refine (vchI hc _ h1).mono ?_; rintro e w' ⟨rfl, rfl⟩) | (go_at_call 23; refine (from1S ha _).mono ?_; rintro e w' ⟨rfl, rfl⟩) | fail)
      have v0 := HEND0.out.1.1.1
      have v1 := HEND0.out.1.2.1
      exact bodyPost_ret (v := .tuple #[.agg #[.int .i64 0, .int .i64 0], .bool false]) (by simp [results, Try.results9, go_sem] at v0 v1 ⊢; simp [go_sem, v0, v1]) rfl ⟨rfl, HEND0.out.2⟩
    · cases ho : (inB 0 30 p && inB 0 30 f)
      · have hr := rateFine_eq hc ha ho
        obtain ⟨e1, e2⟩ := rate_no (xs := xs) (a := age) (p := p) (f := f) (by rw [hr]; rfl)
        rw [hr, e1, e2]
        clear hr e1 e2
        obtain ⟨⟨r0, z0⟩, r1, z1⟩ := HT1.out
        go_enter Try.func9, Try.ntmps9
        go_wp2_with fail
        rw [HW1.out]
        go_wp2_with (first | (go_at_call 22; refine (vchI hc _ h1).mono ?_; rintro e w' ⟨rfl, rfl⟩) | (go_at_call 23; refine (from1S ha _).mono ?_; rintro e w' ⟨rfl, rfl⟩) | (go_at_call 24; refine (areC ho _).mono ?_; rintro e w' ⟨rfl, rfl⟩) | fail)
        have v0 := HEND0.out.1.1.1
        have v1 := HEND0.out.1.2.1
        exact bodyPost_ret (v := .tuple #[.agg #[.int .i64 0, .int .i64 0], .bool false]) (by simp [results, Try.results9, go_sem] at v0 v1 ⊢; simp [go_sem, v0, v1]) rfl ⟨rfl, HEND0.out.2⟩
      · have hok : okO xs p f = true := by rw [okO_eq hc ho]; rfl
        obtain ⟨age, rfl, ha1, ha7⟩ : ∃ n : Nat, age = (n : Int) ∧ 1 ≤ n ∧ n ≤ 7 := by simp [inB] at ha; exact ⟨age.toNat, by omega, by omega, by omega⟩
        obtain ⟨hr, e1, e2⟩ := rate_yes hok ha1 ha7
        rw [hr, e1, e2]
        clear hr e1 e2
        obtain ⟨_, hp0, hp1, hf0, hf1⟩ := okO_at hok
        obtain ⟨hl1, hl7, hx9, _⟩ := chM_at hc
        have HX9 := Lib.hid hx9
        have HTB := Lib.hid (ch_T hc)
        have HSM := Lib.hid (fun k => And.intro (sumS_0 (fun k => (hx9 k).1) k) (sumS_le (fun k => (hx9 k).1) k))
        have HTM := Lib.hid (fun k => time_bd hc k)
        have hUU := ageU_is hok age
        have hDD := ageD_is hc age
        have hD1 := ageD_pos hc ha1
        rw [HL] at hl1 hl7
        have HLE := Lib.hid HL
        clear HL hx9
        have HDR := Lib.hid (fun k => drop_sum xs k)
        obtain ⟨T, hT⟩ : ∃ T, sumN xs xs.length = T := ⟨_, rfl⟩
        rw [hT] at HTB HDR HSM
        have HTN := Lib.hid (fun k => (show timeN xs (k + 1) = timeN xs k + (T - sumN xs k) by rw [timeN, hT]))
        have HS0 := Lib.hid (show sumF (fun v => xs.getD v 0) len = T by rw [← hT, HLE.out, sumN_F])
        have hUU2 : f * sumN xs age + p * (T - sumN xs age) = (ageU xs p f age : Int) := by rw [hUU.1]; unfold costA; rw [hT]
        have HW0 := Lib.hid (show sumF (dropG xs age) len = T - sumN xs age by have := HDR.out age; rw [HLE.out] at this; exact this)
        have hMB := HSM.out age
        obtain ⟨M, hM⟩ : ∃ M, sumN xs age = M := ⟨_, rfl⟩
        rw [hM] at hUU2 HW0 hMB
        obtain ⟨L, hL⟩ : ∃ L, T - M = L := ⟨_, rfl⟩
        rw [hL] at hUU2 HW0
        obtain ⟨U, hU⟩ : ∃ U, ageU xs p f age = U := ⟨_, rfl⟩
        obtain ⟨D, hD⟩ : ∃ D, ageD xs age = D := ⟨_, rfl⟩
        rw [hU] at hUU hUU2 ⊢
        rw [hD] at hDD hD1 ⊢
        have HUU := Lib.hid hUU2
        have HTD := Lib.hid hDD.1
        have hD2 := hDD.2
        have hU2 := hUU.2
        have HFR := Lib.hid (ifrac_any U D (by omega) hD1 (by omega))
        have hTL := HTB.out
        have hTLM : T - L = M := by omega
        have b1 : 0 ≤ f * M ∧ f * M ≤ 30 * 63 := ⟨Int.mul_nonneg hf0 hMB.1, Int.mul_le_mul hf1 (by omega) hMB.1 (by omega)⟩
        have b2 : 0 ≤ p * L ∧ p * L ≤ 30 * 63 := ⟨Int.mul_nonneg hp0 (by omega), Int.mul_le_mul hp1 (by omega) (by omega) (by omega)⟩
        have hTLM2 := Lib.hid (And.intro b1 (And.intro b2 hTLM))
        have hLB : 0 ≤ L ∧ L ≤ 63 := by omega
        clear hM hL hU hD hUU hUU2 hDD hT b1 b2 hTLM hMB
        go_enter Try.func9, Try.ntmps9
        go_wp2_with fail
        rw [HW1.out]
        go_wp2_with (first | (go_at_call 22; refine (vchI hc _ h1).mono ?_; rintro e w' ⟨rfl, rfl⟩) | (go_at_call 23; refine (from1S ha _).mono ?_; rintro e w' ⟨rfl, rfl⟩) | (go_at_call 24; refine (areC ho _).mono ?_; rintro e w' ⟨rfl, rfl⟩) | fail)
        refine (chancesOf_impl a len cap xs _ h1 hl7 HX9.out).mono ?_
        rintro e w2 ⟨B, n, D0, rfl, hBw, hn, hown, hm, hb2⟩
        have HB2 := Lib.hid hb2
        clear hb2 h1 hc ho ha hok
        go_wp2_with fail
        refine (weight_implA B n D0 _ len _ hown hm (by omega) HX9.out).mono ?_
        rintro e w3 ⟨rfl, hb3⟩
        rw [HS0.out]
        have hown3 := hown.kept (grown_of_belowS hb3) (by simp)
        have HB3 := Lib.hid (HB2.out.trans (hb3.mono HB2.out.size))
        clear hown hb3
        go_wp2_with fail
        go_loopw [12, 35] (fun t i wr => ∃ (k : Nat) (D : DataW Unit), k ≤ age ∧ i = .int .i64 k ∧ t = .int .i64 (timeN xs k) ∧ wr.ownsMap Try.prog 3 (plainElem Try.prog 3) B n D ∧ MapIs D (dropG xs k) len ∧ Below w1.heap.size w1 wr) (fun _ i _ => age - (intOf i).toNat)
        case atStart => exact ⟨0, D0, by omega, rfl, rfl, hown3, hm.congr (fun v => (drop_0 xs v).symm), HB3.out⟩
        case round =>
          clear hown3 hm
          obtain ⟨k, D1, hk, rfl, rfl, hown, hm, hb⟩ := hrel
          have HB := Lib.hid hb
          have HM := Lib.hid hm
          have htb := HTM.out k
          clear hb hm
          by_cases hlt : k < age
          · have hkI : (k : Int) < (age : Int) := by omega
            have hsm := HSM.out k
            obtain ⟨m, hmm⟩ : ∃ m, sumN xs k = m := ⟨_, rfl⟩
            have HW := Lib.hid (show sumF (dropG xs k) len = T - m by have := HDR.out k; rw [HLE.out, hmm] at this; exact this)
            have HTK := Lib.hid (show timeN xs (k + 1) = timeN xs k + (T - m) by rw [HTN.out, hmm])
            rw [hmm] at hsm
            clear hmm
            obtain ⟨t, ht⟩ : ∃ t, timeN xs k = t := ⟨_, rfl⟩
            rw [ht] at htb HTK ⊢
            clear ht
            go_wp2_with fail
            refine (weight_implA B n D1 _ len _ hown HM.out (by omega) (drop_9 HX9.out _)).mono ?_
            rintro e w4 ⟨rfl, hb4⟩
            rw [HW.out]
            have hown4 := hown.kept (grown_of_belowS hb4) (by simp)
            have HB4 := Lib.hid (HB.out.trans (hb4.mono HB.out.size))
            clear hown hb4
            go_wp2_with (first
              | (at_delete; refine wpList_delete_own _ rfl _ _ 46 3 rfl 3 Try.lawI Try.underCh _ B n _ rfl hown4 _ _ rfl (keyOf_int_mk Try.underI (WalkArith.wf_i64 (by omega))) ?_; intro w5 hown5 hturn5)
              | fail)
            have hb5 := HB4.out.grown hturn5.grown HB4.out.size (fun j hj => by cases hj; exact hBw)
            have HB5 := Lib.hid hb5
            clear hb5 hturn5 hown4
            go_roundw
            case rel => exact ⟨k + 1, _, by omega, by go_num, by rw [HTK.out], hown5, (HM.out.del k).congr (drop_next xs k), HB5.out⟩
            case measure => simp [intOf]; omega
          · obtain rfl : k = age := by omega
            have hkI : ¬ (k : Int) < (k : Int) := by omega
            rw [← HTD.out]
            clear htb
            go_wp2_with fail
            refine (weight_implA B n D1 _ len _ hown HM.out (by omega) (drop_9 HX9.out _)).mono ?_
            rintro e w4 ⟨rfl, hb4⟩
            rw [HW0.out]
            have HB4 := Lib.hid (HB.out.trans (hb4.mono HB.out.size))
            clear hown hb4
            obtain ⟨b1, b2, hTLM⟩ := hTLM2.out
            have hUU2 := HUU.out
            go_wp2_with fail
            refine (HFR.out _).mono ?_
            rintro e w5 ⟨rfl, hb5⟩
            have HB5 := Lib.hid (HB4.out.trans (hb5.mono HB4.out.size))
            clear hb5
            have HE := Lib.hid (HEND.out w5 HB5.out (fU U D) (fD U D))
            obtain ⟨⟨r0, z0⟩, r1, z1⟩ := HT1.out.lift HB5.out
            clear b1 b2 hTLM hUU2
            go_wp2_with fail
            have v0 := HE.out.1.1.1
            have v1 := HE.out.1.2.1
            exact bodyPost_ret (v := .tuple #[.agg #[.int .i64 (fU U D : Nat), .int .i64 (fD U D : Nat)], .bool true]) (by simp [results, Try.results9, go_sem, v0, v1]) rfl ⟨rfl, HE.out.2⟩
end Go.Proofs.Ytkjmpkincaainac
namespace Go.Proofs.Ytkjmpkincaainac
open Go.RowKit Go.WideShapes Go.Maps

theorem rate_one {xs : List Int} {p f : Int} : rateFine xs 1 p f = okO xs p f := by
  unfold rateFine; rw [inB_true (by omega) (by omega), Bool.and_true]
theorem bestA_next {xs : List Int} {p f : Int} (h : okO xs p f = true) {k : Nat} (hk : k + 2 ≤ 7) :
    bestA xs p f (k + 1) = if (rateU xs (bestA xs p f k) p f : Int) * (rateD xs ((k + 2 : Nat) : Int) p f : Int) ≤ (rateU xs ((k + 2 : Nat) : Int) p f : Int) * (rateD xs (bestA xs p f k) p f : Int) then bestA xs p f k else k + 2 := by
  have h0 := (okO_at h).1
  obtain ⟨i1, i2, _⟩ := bestA_is (p := p) (f := f) h0 k
  have d1 := ageD_pos h0 (show 1 ≤ k + 2 by omega)
  have d2 := ageD_pos h0 i1
  obtain ⟨_, e1, e2⟩ := rate_yes h (show 1 ≤ k + 2 by omega) hk
  obtain ⟨_, e3, e4⟩ := rate_yes h i1 (by omega)
  rw [e1, e2, e3, e4, bestA]
  have hf := f_le (T := ageU xs p f (bestA xs p f k)) (T' := ageU xs p f (k + 2)) d2 d1
  by_cases hc : ageU xs p f (k + 2) * ageD xs (bestA xs p f k) < ageU xs p f (bestA xs p f k) * ageD xs (k + 2)
  · rw [if_pos hc, if_neg]
    intro hh
    have := hf.1 (by exact_mod_cast hh)
    omega
  · rw [if_neg hc, if_pos]
    have := hf.2 (by omega)
    exact_mod_cast this
set_option maxRecDepth 100000 in
set_option maxHeartbeats 1000000 in
theorem isAtMost10 (U D U' D' : Nat) (h : U ≤ 100000 ∧ D ≤ 100000 ∧ U' ≤ 100000 ∧ D' ≤ 100000) (w : World) :
    Calls Try.prog 33 #[.agg #[.int .i64 U, .int .i64 D], .agg #[.int .i64 U', .int .i64 D']] w (valN w (.bool (decide ((U : Int) * D' ≤ (U' : Int) * D)))) := by
  have b1 : 0 ≤ (U : Int) * D' ∧ (U : Int) * D' ≤ 100000 * 100000 := ⟨Int.mul_nonneg (by omega) (by omega), Int.mul_le_mul (by omega) (by omega) (by omega) (by omega)⟩
  have b2 : 0 ≤ (U' : Int) * D ∧ (U' : Int) * D ≤ 100000 * 100000 := ⟨Int.mul_nonneg (by omega) (by omega), Int.mul_le_mul (by omega) (by omega) (by omega) (by omega)⟩
  obtain ⟨x, hx⟩ : ∃ x, (U : Int) * D' = x := ⟨_, rfl⟩
  obtain ⟨y, hy⟩ : ∃ y, (U' : Int) * D = y := ⟨_, rfl⟩
  go_enter Try.func33, Try.ntmps33
  go_wp2_with fail
  go_ret
  subst hx
  subst hy
  exact ⟨rfl, ((Below.refl _ w).alloc (Nat.le_refl _) _).alloc (by simp) _⟩
set_option maxRecDepth 100000 in
set_option maxHeartbeats 4000000 in
theorem bestAge_impl (a : Option Addr) (len cap : Nat) (xs : List Int) (p f : Int) (w : World) (h : IntsAt w (· < w.heap.size) a len xs) :
    Calls Try.prog 16 #[.slice a len cap, .int .i64 p, .int .i64 f] w (valN w (.int .i64 (bestARes xs p f))) := by
  have HAR := Lib.hid (fun w' (hb : Below w.heap.size w w') (age : Int) => ageRate_impl a len cap xs age p f w' ((h.below hb).to (fun b hb2 => ⟨Nat.lt_of_lt_of_le hb2 hb.size, rfl⟩)))
  clear h
  have h1 := HAR.out w (Below.refl _ _) 1
  rw [rate_one] at h1
  cases hok : okO xs p f
  · rw [bestARes_no hok]
    rw [hok] at h1
    have H1 := Lib.hid h1
    clear h1 HAR
    go_enter Try.func16, Try.ntmps16
    go_wp2_with fail
    refine H1.out.mono ?_
    rintro e w1 ⟨rfl, hb1⟩
    have HB := Lib.hid (hb1.trans (((Below.refl w1.heap.size w1).alloc (Nat.le_refl _) (.cells #[.int .i64 (rateU xs 1 p f : Nat), .int .i64 (rateD xs 1 p f : Nat)] 24)).mono hb1.size))
    clear hb1
    go_wp2_with fail
    go_ret
    exact ⟨rfl, HB.out⟩
  · rw [bestARes_yes hok]
    rw [hok] at h1
    have HNX := Lib.hid (fun (k : Nat) (hk : k + 2 ≤ 7) => bestA_next hok hk)
    have HRB := Lib.hid (fun age => rate_bd (xs := xs) (a := age) (p := p) (f := f))
    have HBB := Lib.hid (fun k => bestA_is (p := p) (f := f) (okO_at hok).1 k)
    have H1 := Lib.hid h1
    clear h1 hok
    go_enter Try.func16, Try.ntmps16
    go_wp2_with fail
    refine H1.out.mono ?_
    rintro e w1 ⟨rfl, hb1⟩
    have ht2 := two_new w1 (.int .i64 (rateU xs 1 p f : Nat)) (.int .i64 (rateD xs 1 p f : Nat)) 24
    have hb2 := hb1.trans (((Below.refl w1.heap.size w1).alloc (Nat.le_refl _) (.cells #[.int .i64 (rateU xs 1 p f : Nat), .int .i64 (rateD xs 1 p f : Nat)] 24)).mono hb1.size)
    have hs1 := hb1.size
    obtain ⟨U1, hU1⟩ : ∃ U, rateU xs 1 p f = U := ⟨_, rfl⟩
    obtain ⟨D1, hD1⟩ : ∃ U, rateD xs 1 p f = U := ⟨_, rfl⟩
    rw [hU1, hD1] at ht2 hb2 ⊢
    have HU1 := Lib.hid hU1
    have HD1 := Lib.hid hD1
    clear hU1 hD1
    obtain ⟨w2, hw2⟩ : ∃ w2, (w1.alloc (.cells #[.int .i64 U1, .int .i64 D1] 24)) = w2 := ⟨_, rfl⟩
    rw [hw2] at ht2 hb2
    have HW2 := Lib.hid hw2
    have HT2 := Lib.hid ht2
    have HB2 := Lib.hid hb2
    clear hb1 hw2 ht2 hb2 H1
    go_wp2_with fail
    rw [HW2.out]
    go_loopw [7, 10] (fun b i wr => ∃ k : Nat, k ≤ 6 ∧ i = .int .i64 ((k + 2 : Nat) : Int) ∧ b = .int .i64 (bestA xs p f k : Int) ∧ Two wr w1.heap.size (.int .i64 (rateU xs (bestA xs p f k) p f : Nat)) (.int .i64 (rateD xs (bestA xs p f k) p f : Nat)) ∧ Below w.heap.size w wr) (fun _ i _ => 8 - (intOf i).toNat)
    case atStart => exact ⟨0, by omega, rfl, rfl, by have := HT2.out; rw [← HU1.out, ← HD1.out] at this; exact this, HB2.out⟩
    case round =>
      clear HW2 HT2 HB2 HU1 HD1
      obtain ⟨k, hk, rfl, rfl, ht, hb⟩ := hrel
      have HT := Lib.hid ht
      have HB := Lib.hid hb
      clear ht hb
      by_cases hlt : k < 6
      · have hnx := HNX.out k (by omega)
        have b1 := HRB.out (bestA xs p f k : Int)
        have b2 := HRB.out ((k + 2 : Nat) : Int)
        have C1 := Lib.hid (HAR.out wr HB.out ((k + 2 : Nat) : Int))
        have ht := HT.out
        obtain ⟨A, hA⟩ : ∃ A : Nat, k + 2 = A := ⟨_, rfl⟩
        obtain ⟨B, hB⟩ : ∃ B : Nat, bestA xs p f k = B := ⟨_, rfl⟩
        rw [hA] at hnx b2 C1 ⊢
        rw [hB] at hnx b1 ht ⊢
        have hAI : (A : Int) ≤ 7 := by omega
        obtain ⟨UA, hUA⟩ : ∃ U, rateU xs A p f = U := ⟨_, rfl⟩
        obtain ⟨DA, hDA⟩ : ∃ U, rateD xs A p f = U := ⟨_, rfl⟩
        obtain ⟨UB, hUB⟩ : ∃ U, rateU xs B p f = U := ⟨_, rfl⟩
        obtain ⟨DB, hDB⟩ : ∃ U, rateD xs B p f = U := ⟨_, rfl⟩
        rw [hUA, hDA] at b2 C1
        rw [hUB, hDB] at b1 ht
        rw [hUA, hDA, hUB, hDB] at hnx
        have HNX1 := Lib.hid hnx
        have HTT := Lib.hid ht
        have HAM := Lib.hid (isAtMost10 UB DB UA DA (by omega))
        have HE1 := Lib.hid (And.intro hUA (And.intro hDA (And.intro hUB hDB)))
        have HBe := Lib.hid hB
        clear hnx ht hUA hDA hUB hDB b1 b2 hB
        go_wp2_with fail
        refine C1.out.mono ?_
        rintro e w4 ⟨rfl, hb4⟩
        have hs4 := hb4.size
        have hlt1 := HTT.out.lt
        have hb5 := (Below.refl w4.heap.size w4).alloc (Nat.le_refl _) (.cells #[.int .i64 UA, .int .i64 DA] 24)
        have ht5 := two_new w4 (.int .i64 UA) (.int .i64 DA) 24
        obtain ⟨w5, hw5⟩ : ∃ w5, w4.alloc (.cells #[.int .i64 UA, .int .i64 DA] 24) = w5 := ⟨_, rfl⟩
        rw [hw5] at hb5 ht5
        have HW5 := Lib.hid hw5
        have HTA := Lib.hid ht5
        have HTB := Lib.hid ((HTT.out.lift hb4).lift hb5)
        have HB5 := Lib.hid ((HB.out.trans (hb4.mono HB.out.size)).trans (hb5.mono (Nat.le_trans HB.out.size hs4)))
        clear hw5 hb4 hb5 ht5 C1 HTT
        obtain ⟨⟨c0, z0⟩, c1, z1⟩ := HTA.out
        obtain ⟨⟨d0, y0⟩, d1, y1⟩ := HTB.out
        rw [← HW5.out] at c0 z0 c1 z1 d0 y0 d1 y1
        go_wp2_with fail
        rw [HW5.out]
        refine (HAM.out w5).mono ?_
        rintro e w6 ⟨rfl, hb6⟩
        have HB6 := Lib.hid (HB5.out.trans (hb6.mono HB5.out.size))
        have HTA6 := Lib.hid (HTA.out.lift hb6)
        have HTB6 := Lib.hid (HTB.out.lift hb6)
        clear hb6 c0 z0 c1 z1 d0 y0 d1 y1
        obtain ⟨⟨c0, z0⟩, c1, z1⟩ := HTA6.out
        obtain ⟨⟨d0, y0⟩, d1, y1⟩ := HTB6.out
        by_cases hle : (UB : Int) * DA ≤ (UA : Int) * DB
        · have hdec : decide ((UB : Int) * DA ≤ (UA : Int) * DB) = true := decide_eq_true hle
          go_wp2_with fail
          go_roundw
          case rel => 
            refine ⟨k + 1, by omega, by rw [show k + 1 + 2 = A + 1 by omega]; go_num, by rw [HNX1.out, if_pos hle], ?_, HB6.out⟩
            rw [HNX1.out, if_pos hle, HE1.out.2.2.1, HE1.out.2.2.2]
            exact HTB6.out
          case measure => simp [intOf]; omega
        · have hdec : decide ((UB : Int) * DA ≤ (UA : Int) * DB) = false := decide_eq_false hle
          go_wp2_with fail
          have HTS := Lib.hid ((HTB6.out.set0 (.int .i64 UA)).set1 (.int .i64 DA))
          have HBS := Lib.hid (((HB6.out.setCell (p := ⟨w1.heap.size, 0, none⟩) hs1 (.int .i64 UA)).setCell (p := ⟨w1.heap.size, 1, none⟩) hs1 (.int .i64 DA)).drew)
          go_region
          go_wp2_with fail
          go_roundw
          case rel =>
            refine ⟨k + 1, by omega, by rw [show k + 1 + 2 = A + 1 by omega]; go_num, by rw [HNX1.out, if_neg (by omega)], ?_, HBS.out⟩
            rw [HNX1.out, if_neg (by omega), HE1.out.1, HE1.out.2.1]
            exact HTS.out
          case measure => simp [intOf]; omega
      · obtain rfl : k = 6 := by omega
        go_wp2_with fail
        go_ret
        exact ⟨rfl, HB.out⟩
end Go.Proofs.Ytkjmpkincaainac
