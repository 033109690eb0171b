import Derived.Test.YtldncfkkeeinjabRows
import Derived.WalkKit
import Derived.LoopTactic
import Derived.Outline
import Derived.WalkSpells
import Derived.WalkLawsBesides
import Derived.ProofKit
import Derived.Lib.Hide
import Derived.IntWalk
import Derived.Test.YtldncfkkeeinjabLib
import Derived.Test.YtldncfkkeeinjabGen
import Derived.Test.YtldncfkkeeinjabMark
import Derived.Test.YtldncfkkeeinjabArr
import Derived.Test.YtldncfkkeeinjabOwn1
import Derived.Test.YtldncfkkeeinjabUp
import Derived.Test.YtldncfkkeeinjabLaws
import Derived.Test.YtldncfkkeeinjabNetM
import Derived.Test.YtldncfkkeeinjabVal2
import Derived.Test.YtldncfkkeeinjabEx
import Derived.Test.YtldncfkkeeinjabLots
import Derived.Test.YtldncfkkeeinjabStocks
import Derived.Test.YtldncfkkeeinjabPlanM
import Derived.Test.YtldncfkkeeinjabLotSpec
namespace Go.Proofs.Ytldncfkkeeinjab
open Go.RowKit Go.WideShapes

/-- what it costs to set for so many -/
def setM (n s : Int) : Int := if n = 0 then 0 else s
theorem setFor_any (n s : Int) (w : World) :
    Calls Try.prog 40 #[.int .i64 n, .int .i64 s] w fun e w' => e = .returned (.int .i64 (setM n s)) ∧ w = w' := by
  by_cases h : n = 0
  · subst h
    go_enter Try.func40, Try.ntmps40
    go_wp2
    go_ret
    exact ⟨rfl, rfl⟩
  · have h' : (n == 0) = false := by simpa using h
    have HE := Lib.hid (show setM n s = s by unfold setM; rw [if_neg h])
    go_enter Try.func40, Try.ntmps40
    go_wp2
    go_ret
    exact ⟨ret_int HE.out.symm, rfl⟩
theorem areCosts_any (s h : Int) (w : World) :
    Calls Try.prog 26 #[.int .i64 s, .int .i64 h] w fun e w' => e = .returned (.bool (inB 0 30 s && inB 0 30 h)) ∧ w = w' := by
  cases hs : inB 0 30 s
  · go_enter Try.func26, Try.ntmps26
    go_wp2_with (go_at_call 41; refine (isUpTo_any _ _ _).mono ?_; rintro e w' ⟨rfl, rfl⟩)
    go_ret
    exact ⟨rfl, rfl⟩
  · go_enter Try.func26, Try.ntmps26
    go_wp2_with (go_at_call 41; refine (isUpTo_any _ _ _).mono ?_; rintro e w' ⟨rfl, rfl⟩)
    go_ret
    exact ⟨rfl, rfl⟩
theorem setM_pos {n s : Int} (h : 0 ≤ n) : setM n s = if 0 < n then s else 0 := by
  unfold setM
  by_cases e : n = 0
  · subst e; rfl
  · rw [if_neg e, if_pos (by omega)]
theorem runD_part {xs : List Int} {s h : Int} {i d : Nat} (hd : i + d ≤ xs.length) : runD ((xs.drop i).take d) s h 0 d = runD xs s h i d := by
  have e1 : ∀ q, q ≤ d → hsum ((xs.drop i).take d) 0 q = hsum xs i q := by
    intro q
    induction q with
    | zero => intro _; rfl
    | succ q ih =>
      intro hq
      rw [hsum, hsum, ih (by omega)]
      congr 2
      rw [List.getD_eq_getElem?_getD, List.getD_eq_getElem?_getD, List.getElem?_take, if_pos (by omega), List.getElem?_drop]
      congr 2; omega
  have e2 := totalM_part xs i d hd
  rw [totalM_eq] at e2
  have e3 : ((xs.drop i).take d).length = d := by simp; omega
  rw [e3] at e2
  unfold runD
  rw [e1 d (Nat.le_refl _), Nat.zero_add, e2]
  simp [sumN]
set_option maxRecDepth 100000 in
set_option maxHeartbeats 2000000 in
theorem costOfLot_any (S : Nat → Prop) (a : Option Addr) (len cap : Nat) (xs : List Int) (s h : Int) (w : World) (hx : IntsAt w S a len xs) (hl : len ≤ 8) (hv : ∀ k, 0 ≤ xs.getD k 0 ∧ xs.getD k 0 ≤ 20) (hs : 0 ≤ s ∧ s ≤ 30) (hh : 0 ≤ h ∧ h ≤ 30) :
    Calls Try.prog 36 #[.slice a len cap, .int .i64 s, .int .i64 h] w fun e w' => e = .returned (.int .i64 (runD xs s h 0 len)) ∧ w = w' := by
  obtain ⟨hs0, hs1⟩ := hs
  obtain ⟨hh0, hh1⟩ := hh
  have HL := Lib.hid hx.lenEq
  have HV := Lib.hid hv
  have hsum_ := sumN_bd hv len
  have HT := Lib.hid (show totalM xs = sumN xs len by rw [totalM_eq, HL.out])
  have hset : setM (sumN xs len) s = if 0 < sumN xs len then s else 0 := setM_pos hsum_.1
  obtain ⟨st, hst⟩ : ∃ st, setM (sumN xs len) s = st := ⟨_, rfl⟩
  have hstb : 0 ≤ st ∧ st ≤ 30 := by rw [← hst, hset]; split <;> omega
  have HR := Lib.hid (show runD xs s h 0 len = st + h * hsum xs 0 len by
    unfold runD; rw [← hst, hset, Nat.zero_add]
    simp only [sumN, Int.sub_zero]; omega)
  have HST := Lib.hid hst
  clear hst hset hsum_ hv
  go_enter Try.func36, Try.ntmps36
  go_wp2_with fail
  refine (sumOf_any S a len cap xs w hx (days_mem HV.out) (by omega)).mono ?_
  rintro e w' ⟨rfl, rfl⟩
  rw [HT.out]
  go_wp2_with fail
  refine (setFor_any _ _ _).mono ?_
  rintro e w' ⟨rfl, rfl⟩
  rw [HST.out]
  go_wp2_with fail
  go_loop [7, 16] (fun n v => ∃ q : Nat, q ≤ len ∧ v = .int .i64 q ∧ n = .int .i64 (st + h * hsum xs 0 q)) (fun _ q => len - (intOf q).toNat)
  case atStart => exact ⟨0, Nat.zero_le _, rfl, by simp [hsum]⟩
  case round =>
    obtain ⟨q, hq, rfl, rfl⟩ := hrel
    by_cases hlt : q < len
    · obtain ⟨b, off, x, rfl, hxx, hc⟩ := hx.get hlt
      have hxb := HV.out q
      rw [getD_of hxx] at hxb
      have h1 := hsum_bd HV.out 0 q (by omega)
      have h2 := hsum_nonneg (fun k => (HV.out k).1) 0 q
      have HN := Lib.hid (show h * hsum xs 0 (q + 1) = h * hsum xs 0 q + h * (q : Int) * x by
        rw [hsum, Nat.zero_add, getD_of hxx, Int.mul_add, Int.mul_assoc])
      have h3 := mul_box3 hh0 hh1 h2 (show hsum xs 0 q ≤ 1280 by omega)
      have h4 := mul_box3 hh0 hh1 (show (0 : Int) ≤ (q : Int) by omega) (show (q : Int) ≤ 8 by omega)
      clear hxx h1 h2
      generalize h * hsum xs 0 q = o at h3 HN ⊢
      generalize hp : h * (q : Int) = p at h4 HN
      have h5 := mul_box3 h4.1 h4.2 hxb.1 hxb.2
      have hlt3 : (q : Int) < (len : Int) := by omega
      go_wp2_with fail
      go_round
      case rel => exact ⟨q + 1, by omega, by go_num, by rw [HN.out]; congr 1; omega⟩
      case measure => simp [intOf] <;> omega
    · obtain rfl : q = len := by omega
      go_wp2_with fail
      go_ret
      exact ⟨ret_int HR.out.symm, rfl⟩
-- LotCost
theorem plan_parts (ms xs : List Int) (s h : Int) : ∀ n, planTo ms xs s h n = h * sumN (tab (fun q => stockTo ms xs 0 (q + 1)) n) n + sumN (tab (fun q => if 0 < ms.getD q 0 then s else 0) n) n := by
  intro n
  induction n with
  | zero => simp [planTo, sumN]
  | succ n ih =>
    rw [planTo, ih, sumN, sumN, tab_getD _ (by omega), tab_getD _ (by omega), sumN_tab _ (n + 1) n (by omega), sumN_tab _ (n + 1) n (by omega), Int.mul_add, dayC, stockTo_closed, show (0 : Int) + sumN ms (n + 1) - sumN xs (n + 1) = sumN ms (n + 1) - sumN xs (n + 1) by omega]
    omega
def setTo (ms : List Int) (s : Int) (k : Nat) : Int := sumN (tab (fun q => if 0 < ms.getD q 0 then s else 0) k) k
theorem setTo_succ (ms : List Int) (s : Int) (k : Nat) : setTo ms s (k + 1) = setTo ms s k + (if 0 < ms.getD k 0 then s else 0) := by
  unfold setTo; rw [sumN, tab_getD _ (by omega), sumN_tab _ (k + 1) k (by omega)]
theorem setTo_bd {ms : List Int} {s : Int} (hs : 0 ≤ s ∧ s ≤ 30) : ∀ k, 0 ≤ setTo ms s k ∧ setTo ms s k ≤ 30 * (k : Int) := by
  intro k
  induction k with
  | zero => exact ⟨Int.le_refl _, Int.le_refl _⟩
  | succ k ih => rw [setTo_succ]; split <;> push_cast <;> omega
set_option maxRecDepth 100000 in
set_option maxHeartbeats 2000000 in
theorem lotCost_impl (a : Option Addr) (len cap : Nat) (ms : List Int) (a2 : Option Addr) (len2 cap2 : Nat) (xs : List Int) (s h : Int) (w : World) (hm : IntsAt w (· < w.heap.size) a len ms) (hx : IntsAt w (· < w.heap.size) a2 len2 xs) :
    Calls Try.prog 16 #[.slice a len cap, .slice a2 len2 cap2, .int .i64 s, .int .i64 h] w (IntBool w (lotCostM ms xs s h) (lotFine ms xs s h)) := by
  have HL := Lib.hid hm.lenEq
  have HL2 := Lib.hid hx.lenEq
  cases hst : stocksFine 0 ms xs
  · have hf : lotFine ms xs s h = false := by unfold lotFine; rw [hst]; simp
    rw [lotCost_no hf, hf]
    have HST := Lib.hid (show stocksMB 0 ms xs = false from hst)
    clear hf hst
    go_enter Try.func16, Try.ntmps16
    go_wp2_with fail
    refine (stocks_impl 0 a len cap ms a2 len2 cap2 xs w hm hx).mono ?_
    rintro e w' ⟨a3, l3, c3, rfl, h3, _, hb⟩
    rw [HST.out]
    go_wp2
    go_ret2
    exact ⟨rfl, hb⟩
  · have hst' := hst
    simp only [stocksFine, stocksIn, Bool.and_eq_true, decide_eq_true_eq] at hst'
    obtain ⟨⟨⟨⟨_, hmv⟩, hvd⟩, hll⟩, hok⟩ := hst'
    have HST := Lib.hid (show stocksMB 0 ms xs = true from hst)
    cases hc : (inB 0 30 s && inB 0 30 h)
    · have hf : lotFine ms xs s h = false := by unfold lotFine validLotsM; rw [Bool.and_assoc (validDaysM xs), hc]; simp
      rw [lotCost_no hf, hf]
      have HC := Lib.hid hc
      clear hf hst hc hok hll hvd hmv
      go_enter Try.func16, Try.ntmps16
      go_wp2_with fail
      refine (stocks_impl 0 a len cap ms a2 len2 cap2 xs w hm hx).mono ?_
      rintro e w' ⟨a3, l3, c3, rfl, h3, _, hb⟩
      rw [HST.out]
      go_wp2_with fail
      refine (areCosts_any _ _ _).mono ?_
      rintro e w' ⟨rfl, rfl⟩
      rw [HC.out]
      go_wp2
      go_ret2
      exact ⟨rfl, hb⟩
    · have hf : lotFine ms xs s h = true := by unfold lotFine validLotsM; rw [Bool.and_assoc (validDaysM xs), hc, hvd, hst]; rfl
      rw [lotCost_yes hf, hf]
      have HC := Lib.hid hc
      have hs' : inB 0 30 s = true ∧ inB 0 30 h = true := by simpa [Bool.and_eq_true] using hc
      obtain ⟨hs0, hs1⟩ : 0 ≤ s ∧ s ≤ 30 := by simpa [inB] using hs'.1
      obtain ⟨hh0, hh1⟩ : 0 ≤ h ∧ h ≤ 30 := by simpa [inB] using hs'.2
      have hok' := (stocksOk_iff _ _ _ _).1 hok
      obtain rfl : len = len2 := by rw [← HL.out, ← HL2.out]; exact hll
      have hl8 : len ≤ 8 := by have := validDays_len hvd; have := HL2.out; omega
      have HSM := Lib.hid (stocks_yes hst)
      have HMB := Lib.hid (validMade_at hmv)
      have hsb : ∀ k, 0 ≤ (tab (fun q => stockTo ms xs 0 (q + 1)) len).getD k 0 ∧ (tab (fun q => stockTo ms xs 0 (q + 1)) len).getD k 0 ≤ 1400 := by
        intro k
        by_cases hk : k < len
        · rw [tab_getD _ hk]
          have h1 := hok' k (by rw [HL2.out]; exact hk)
          have h2 := stockTo_bd (s := 0) (by omega) (by omega) hmv hvd (k + 1)
          omega
        · rw [getD_past (by rw [tab_length]; omega)]; omega
      have HSB := Lib.hid hsb
      have hst2 := sumN_bd hsb len
      have HSN := Lib.hid (show totalM (tab (fun q => stockTo ms xs 0 (q + 1)) len) = sumN (tab (fun q => stockTo ms xs 0 (q + 1)) len) len by rw [totalM_eq, tab_length])
      have HP := Lib.hid (show planTo ms xs s h xs.length = h * sumN (tab (fun q => stockTo ms xs 0 (q + 1)) len) len + setTo ms s len by rw [plan_parts, HL2.out]; rfl)
      have hmb := mul_box3 hh0 hh1 hst2.1 (show _ ≤ (11200 : Int) by omega)
      have hMEM : ∀ x ∈ tab (fun q => stockTo ms xs 0 (q + 1)) len, -1099511627776 ≤ x ∧ x ≤ 1099511627776 := by
        intro x hx'
        obtain ⟨k, hk, rfl⟩ := List.mem_iff_getElem.1 hx'
        have := hsb k
        rw [List.getD_eq_getElem?_getD, List.getElem?_eq_getElem hk] at this
        simp at this
        omega
      have HMEM := Lib.hid hMEM
      clear hf hst hc hok hll hvd hmv hok' hsb hMEM hs'
      generalize htt : sumN (tab (fun q => stockTo ms xs 0 (q + 1)) len) len = tt at HSN HP hmb hst2
      generalize hpp : h * tt = pp at HP hmb
      clear htt
      go_enter Try.func16, Try.ntmps16
      go_wp2_with fail
      refine (stocks_impl 0 a len cap ms a2 len cap2 xs w hm hx).mono ?_
      rintro e w1 ⟨a3, l3, c3, rfl, h3, _, hb⟩
      rw [HST.out]
      rw [HSM.out] at h3
      have hl3 : l3 = len := by rw [← h3.lenEq, tab_length]; exact HL2.out
      subst hl3
      rw [HL2.out] at h3
      have hm1 := ints_lift hm hb
      go_wp2_with fail
      refine (areCosts_any _ _ _).mono ?_
      rintro e w' ⟨rfl, rfl⟩
      rw [HC.out]
      go_wp2_with fail
      refine (sumOf_any _ a3 l3 c3 _ _ h3 HMEM.out (by omega)).mono ?_
      rintro e w' ⟨rfl, rfl⟩
      rw [HSN.out]
      go_wp2_with fail
      go_loop [12, 35] (fun n i => ∃ k : Nat, k ≤ l3 ∧ i = .int .i64 k ∧ n = .int .i64 (pp + setTo ms s k)) (fun _ i => l3 - (intOf i).toNat)
      case atStart => exact ⟨0, Nat.zero_le _, rfl, by rw [show setTo ms s 0 = 0 from rfl, Int.add_zero]⟩
      case round =>
        obtain ⟨k, hk, rfl, rfl⟩ := hrel
        by_cases hlt : k < l3
        · obtain ⟨b2, off2, y, rfl, hy, hc2⟩ := hm1.get hlt
          have hyb := HMB.out k
          have HN := Lib.hid (setTo_succ ms s k)
          rw [getD_of hy] at HN hyb
          have hsb := setTo_bd (ms := ms) ⟨hs0, hs1⟩ k
          have hkl : (k : Int) < (l3 : Int) := by omega
          have HY := Lib.hid (setM_pos (n := y) (s := s) hyb.1)
          have hsm : 0 ≤ setM y s ∧ setM y s ≤ 30 := by rw [HY.out]; split <;> omega
          clear hy
          generalize setTo ms s k = z at HN hsb ⊢
          go_wp2_with fail
          refine (setFor_any _ _ _).mono ?_
          rintro e w' ⟨rfl, rfl⟩
          generalize setM y s = sy at HY hsm
          go_wp2_with fail
          go_round
          case rel => exact ⟨k + 1, by omega, by go_num, by rw [HN.out, ← HY.out]; congr 1; omega⟩
          case measure => simp [intOf] <;> omega
        · obtain rfl : k = l3 := by omega
          go_wp2_with fail
          go_ret2
          rw [HP.out]
          exact ⟨rfl, hb⟩
end Go.Proofs.Ytldncfkkeeinjab
