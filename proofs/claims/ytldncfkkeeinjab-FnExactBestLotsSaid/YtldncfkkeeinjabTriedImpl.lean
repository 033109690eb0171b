import Derived.Test.YtldncfkkeeinjabRows
import Derived.WalkKit
import Derived.LoopTactic
import Derived.Outline
import Derived.WalkSpells
import Derived.WalkLawsBesides
import Derived.ProofKit
import Derived.Lib.Hide
import Derived.IntWalk
import Derived.Test.YtldncfkkeeinjabLib
import Derived.Test.YtldncfkkeeinjabGen
import Derived.Test.YtldncfkkeeinjabMark
import Derived.Test.YtldncfkkeeinjabArr
import Derived.Test.YtldncfkkeeinjabOwn1
import Derived.Test.YtldncfkkeeinjabUp
import Derived.Test.YtldncfkkeeinjabLaws
import Derived.Test.YtldncfkkeeinjabNetM
import Derived.Test.YtldncfkkeeinjabVal2
import Derived.Test.YtldncfkkeeinjabEx
import Derived.Test.YtldncfkkeeinjabPlanM
import Derived.Test.YtldncfkkeeinjabBlockM
import Derived.Test.YtldncfkkeeinjabTriedM
import Derived.Test.YtldncfkkeeinjabLotSpec
import Derived.Test.YtldncfkkeeinjabBestSpec
import Derived.Test.YtldncfkkeeinjabLotA
import Derived.Test.YtldncfkkeeinjabLotLawM
import Derived.Test.YtldncfkkeeinjabBits8
import Derived.Test.YtldncfkkeeinjabOnM
import Derived.Test.YtldncfkkeeinjabEq8
namespace Go.Proofs.Ytldncfkkeeinjab
open Go.RowKit Go.WideShapes

theorem Try.infoIntTI : (Try.prog.info? 3).map (fun i => (i.zero, i.size, i.bytes)) = some (some (.int .i64 0), 1, 8) := by kernel_rfl
theorem ints_below {w0 w w' : World} {a : Option Addr} {len : Nat} {xs : List Int} (h : IntsAt w0 (· < w0.heap.size) a len xs) (hb : Below w0.heap.size w0 w') : IntsAt w' (· < w0.heap.size) a len xs := h.below hb
set_option maxRecDepth 100000 in
set_option maxHeartbeats 2000000 in
theorem madeOn_any (a : Option Addr) (len cap : Nat) (xs : List Int) (on : Nat → Bool) (w : World) (hx : IntsAt w (· < w.heap.size) a len xs) (hl : len ≤ 8) (hv : ∀ k, 0 ≤ xs.getD k 0 ∧ xs.getD k 0 ≤ 20) :
    Calls Try.prog 28 #[.slice a len cap, agg8 on] w (NewInts w (onM on xs)) := by
  have HL := Lib.hid hx.lenEq
  have HV := Lib.hid hv
  have hb0 := (Below.refl w.heap.size w).alloc (Nat.le_refl _) (.cells #[.bool (on 0), .bool (on 1), .bool (on 2), .bool (on 3), .bool (on 4), .bool (on 5), .bool (on 6), .bool (on 7)] 44)
  have hA0 := ArrB.new w on 44
  have hsz0 : (w.alloc (.cells #[.bool (on 0), .bool (on 1), .bool (on 2), .bool (on 3), .bool (on 4), .bool (on 5), .bool (on 6), .bool (on 7)] 44)).heap.size = w.heap.size + 1 := by simp
  have hmk := fun w => run_make_row' (P := Try.prog) 23 3 (.int .i64 0) 8 Try.underlying23 Try.infoIntTI rfl .i64 .i64 len (by omega) (by omega) w
  unfold agg8
  go_enter Try.func28, Try.ntmps28
  go_wp2_with fail
  clear hmk
  obtain ⟨w0, hw0⟩ : ∃ w0, (w.alloc (.cells #[.bool (on 0), .bool (on 1), .bool (on 2), .bool (on 3), .bool (on 4), .bool (on 5), .bool (on 6), .bool (on 7)] 44)) = w0 := ⟨_, rfl⟩
  rw [hw0] at hb0 hA0 hsz0 ⊢
  clear hw0 hv
  have HSZ := Lib.hid hsz0
  have HB0 := Lib.hid hb0
  have HO0 := Lib.hid ((OwnF.start w0 len (by omega)).congr (g := onTo on xs 0) (fun q _ => rfl))
  have HA1 := Lib.hid (hA0.alloc (.cells (madeCells #[.int .i64 0] len) 3))
  rw [show w.heap.size + 1 = w0.heap.size from hsz0.symm]
  clear hb0 hA0 hsz0
  go_loopw [6, 14] (fun l i wr => ∃ k : Nat, k ≤ len ∧ i = .int .i64 k ∧ l = .int .i64 (lastOn on k) ∧ OwnF w0 wr len (onTo on xs k) ∧ ArrB wr w.heap.size on) (fun _ i _ => len - (intOf i).toNat)
  case atStart => exact ⟨0, Nat.zero_le _, rfl, rfl, HO0.out, HA1.out⟩
  case round =>
    clear HO0 HA1
    obtain ⟨k, hk, rfl, rfl, hO, hA⟩ := hrel
    have HO := Lib.hid hO
    have HA := Lib.hid hA
    by_cases hlt : k < len
    · have hxw := hx.below ((HB0.out).trans (hO.below.mono (by have := HSZ.out; omega)))
      obtain ⟨b, off, x, rfl, hxx, hc⟩ := hxw.get hlt
      have hxb := HV.out k
      have hbw : b < w.heap.size := hx.mem (by omega)
      rw [getD_of hxx] at hxb
      have HX := Lib.hid (getD_of hxx)
      obtain ⟨ck, zk⟩ := hA k (by omega)
      have hk8 : k < 8 := by omega
      have hk8' : (k : Int) < 8 := by omega
      have hkl : (k : Int) < (len : Int) := by omega
      have hlb := lastOn_bd on k
      clear hO hA hxx hxw
      have HLN := Lib.hid (show lastOn on (k + 1) = if on k then (k : Int) else lastOn on k from rfl)
      cases hon : on k
      · rw [hon] at ck HLN
        have HLN2 := Lib.hid (HLN.out.trans (if_neg (by simp)))
        clear HLN hon
        by_cases hneg : lastOn on k < 0
        · have hge : ¬ 0 ≤ lastOn on k := by omega
          generalize lastOn on k = lo at hneg hge HLN2 hlb ⊢
          go_wp2_with fail
          go_roundw
          case rel => exact ⟨k + 1, by omega, by go_num, by rw [HLN2.out], HO.out.congr (fun q _ => by rw [onTo, HLN2.out, if_neg (by omega), Int.add_zero]), HA.out⟩
          case measure => simp [intOf] <;> omega
        · obtain ⟨m, hm⟩ : ∃ m : Nat, lastOn on k = (m : Int) := ⟨(lastOn on k).toNat, by omega⟩
          rw [hm] at hlb HLN2 ⊢
          have hml : m < len := by omega
          have hml2 : (m : Int) < (len : Int) := by omega
          obtain ⟨cm, fm⟩ := HO.out.cell hml
          have hob := onTo_bd (on := on) HV.out k m
          have hsu := sumN_bd HV.out k
          clear hneg hm
          generalize hO1 : onTo on xs k m = o at cm hob
          have HO1 := Lib.hid hO1
          clear hO1
          go_wp2_with fail
          go_roundw
          case rel => exact ⟨k + 1, by omega, by go_num, by rw [HLN2.out], (HO.out.put m _).congr (fun q _ => by
              rw [onTo, HLN2.out]
              by_cases e : q = m
              · subst e; rw [if_pos rfl, if_pos rfl, HO1.out, HX.out]
              · rw [if_neg e, if_neg (by omega), Int.add_zero]), HA.out.other _ _ (by have := HSZ.out; omega)⟩
          case measure => simp [intOf] <;> omega
      · rw [hon] at ck HLN
        have HLN2 := Lib.hid (HLN.out.trans (if_pos rfl))
        clear HLN hon
        obtain ⟨cm, fm⟩ := HO.out.cell hlt
        have hob := onTo_bd (on := on) HV.out k k
        have hsu := sumN_bd HV.out k
        generalize hO1 : onTo on xs k k = o at cm hob
        have HO1 := Lib.hid hO1
        clear hO1
        generalize lastOn on k = lo at hlb ⊢
        go_wp2_with fail
        go_roundw
        case rel => exact ⟨k + 1, by omega, by go_num, by rw [HLN2.out], (HO.out.put k _).congr (fun q _ => by
            rw [onTo, HLN2.out]
            by_cases e : q = k
            · subst e; rw [if_pos rfl, if_pos rfl, HO1.out, HX.out]
            · rw [if_neg e, if_neg (by omega), Int.add_zero]), HA.out.other _ _ (by have := HSZ.out; omega)⟩
        case measure => simp [intOf] <;> omega
    · obtain rfl : k = len := by omega
      clear hO hA
      go_wp2_with fail
      go_ret
      have hN := (HO.out.done (by omega)).ints
      obtain ⟨a3, l3, c3, e3, h3, hc3, hb3⟩ := hN
      simp only [Ending.returned.injEq, Value.slice.injEq] at e3
      obtain ⟨rfl, rfl, rfl⟩ := e3
      have he : onM on xs = tab (onTo on xs k) k := by unfold onM; rw [HL.out]
      rw [he]
      refine ⟨_, _, _, rfl, h3.to (fun b hb => ⟨⟨by have := HSZ.out; omega, hb.2⟩, rfl⟩), hc3, HB0.out.trans (hb3.mono (by have := HSZ.out; omega))⟩

/-- the bits of a set's number -/
def sb (m q : Nat) : Bool := m.testBit q
theorem nextMask (m : Nat) (on : Nat → Bool) (days : Nat) (hd : days ≤ 8) (hm : m < 2 ^ days) (hon : ∀ q, q < 8 → on q = m.testBit q) (w : World) :
    Calls Try.prog 27 #[.agg #[.bool (on 0), .bool (on 1), .bool (on 2), .bool (on 3), .bool (on 4), .bool (on 5), .bool (on 6), .bool (on 7)], .int .i64 days] w fun e w' => e = .returned (agg8 (sb ((m + 1) % 2 ^ days))) ∧ Below w.heap.size w w' := by
  refine (nextDays_any on days hd w).mono ?_
  rintro e w' ⟨⟨g, rfl, hg⟩, hb⟩
  refine ⟨?_, hb⟩
  rw [agg8_congr (g := (sb ((m + 1) % 2 ^ days))) (fun q hq => ?_)]
  rcases hg with ⟨k, hk, h1, h2, h3⟩ | ⟨h1, h2⟩
  · have hnb := next_bits k m (fun j hj => by rw [← hon j (by omega)]; exact h1 j hj) (by rw [← hon k (by omega)]; exact h2)
    have hlt : m + 1 < 2 ^ days := by
      rcases Nat.lt_or_ge (m + 1) (2 ^ days) with h' | h'
      · exact h'
      · have e : m + 1 = 2 ^ days := by omega
        have := hnb k
        rw [if_neg (by omega), if_pos rfl, e, Nat.testBit_two_pow_of_ne (by omega)] at this
        cases this
    rw [sb, Nat.mod_eq_of_lt hlt, hnb q, h3 q hq, hon q hq]
  · have := all_bits days m hm (fun j hj => by rw [← hon j (by omega)]; exact h1 j hj)
    rw [sb, this, Nat.mod_self, Nat.zero_testBit, h2 q hq]
    by_cases h : q < days
    · rw [if_pos h]
    · rw [if_neg h, hon q hq]; exact low_bits hm (by omega)
theorem numOf_self : ∀ k m, numOf (sb m) k = m % 2 ^ k := by
  intro k m
  have e0 : sb m = m.testBit := rfl
  rw [e0]
  apply Nat.eq_of_testBit_eq
  intro q
  rw [Nat.testBit_mod_two_pow]
  by_cases h : q < k
  · rw [numOf_bit _ _ _ h, decide_eq_true h]; rfl
  · rw [decide_eq_false h, low_bits (numOf_lt _ k) (by omega)]; rfl
/-- a set's number -/
def rdOn (v : Value) (w : World) : Nat := match v with | .pointer (some a) => numOf (fun q => match w.cell? ⟨a.block, q, none⟩ with | some (.bool b) => b | _ => false) 8 | _ => 0
theorem numOf_congr {f g : Nat → Bool} : ∀ k, (∀ q, q < k → f q = g q) → numOf f k = numOf g k := by
  intro k
  induction k with
  | zero => intro _; rfl
  | succ k ih => intro h; rw [numOf, numOf, ih (fun q hq => h q (by omega)), h k (by omega)]
theorem rdOn_is {w : World} {b m : Nat} (h : ArrB w b (sb m)) (hm : m < 256) : rdOn (.pointer (some ⟨b, 0, none⟩)) w = m := by
  have e : rdOn (.pointer (some ⟨b, 0, none⟩)) w = numOf (fun q => match w.cell? ⟨b, q, none⟩ with | some (.bool b) => b | _ => false) 8 := rfl
  rw [e, numOf_congr (g := (sb m)) 8 (fun q hq => by rw [(h q hq).1]), numOf_self, Nat.mod_eq_of_lt (by simpa using hm)]
/-- no set that came is cheaper -/
def TriedTo (xs : List Int) (s h : Int) (c : Nat) (L : Int) : Prop := leastRes xs s h ≤ L ∧ L ≤ lotCostM xs xs s h ∧ ∀ m, 1 ≤ m → m < c → lotFine (onM (sb m) xs) xs s h = true → L ≤ lotCostM (onM (sb m) xs) xs s h
theorem tried_end {xs : List Int} {s h L : Int} (hv : validLotsM xs s h = true) (ht : TriedTo xs s h (2 ^ xs.length) L) : L = leastRes xs s h := by
  obtain ⟨h1, h2, h3⟩ := ht
  have hn := nxB_nexts xs s h
  by_cases h0 : xs.length = 0
  · have e1 : leastRes xs s h = 0 := by rw [leastRes_yes hv]; have := bst_end xs s h; rw [h0] at this; exact this
    have e2 : lotCostM xs xs s h = 0 := by rw [lotCost_yes (fine_each hv), h0]; rfl
    omega
  · have e := onM_made (on := sb (numOf (fun q => decide (owner (nxB xs s h) q = q)) xs.length)) hn (fun q hq => numOf_bit _ _ _ hq)
    have hm1 : 1 ≤ numOf (fun q => decide (owner (nxB xs s h) q = q)) xs.length := by
      rcases Nat.eq_zero_or_pos (numOf (fun q => decide (owner (nxB xs s h) q = q)) xs.length) with h' | h'
      · have := numOf_bit (fun q => decide (owner (nxB xs s h) q = q)) xs.length 0 (by omega)
        rw [h', Nat.zero_testBit] at this
        simp [owner] at this
      · exact h'
    have := h3 _ hm1 (numOf_lt _ _) (by rw [e]; exact fine_made hv hn)
    rw [e] at this
    have hb := best_cost hv
    unfold bestLotsM at hb
    omega
theorem tried_next {xs : List Int} {s h L : Int} {c : Nat} (hc : 1 ≤ c) (ht : TriedTo xs s h c L) {L' : Int}
    (hL : (lotFine (onM (sb c) xs) xs s h = true ∧ L' = min L (lotCostM (onM (sb c) xs) xs s h)) ∨ (lotFine (onM (sb c) xs) xs s h = false ∧ L' = L)) : TriedTo xs s h (c + 1) L' := by
  obtain ⟨h1, h2, h3⟩ := ht
  rcases hL with ⟨hf, rfl⟩ | ⟨hf, rfl⟩
  · have := fine_least hf
    refine ⟨by omega, by omega, fun m hm1 hm2 hmf => ?_⟩
    by_cases e : m = c
    · subst e; omega
    · have := h3 m hm1 (by omega) hmf; omega
  · refine ⟨h1, h2, fun m hm1 hm2 hmf => ?_⟩
    by_cases e : m = c
    · subst e; rw [hf] at hmf; cases hmf
    · exact h3 m hm1 (by omega) hmf
set_option maxRecDepth 100000 in
set_option maxHeartbeats 4000000 in
theorem lotsTried_impl (a : Option Addr) (len cap : Nat) (xs : List Int) (s h : Int) (w : World) (hx : IntsAt w (· < w.heap.size) a len xs) (_hcap : len ≤ cap) :
    Calls Try.prog 8 #[.slice a len cap, .int .i64 s, .int .i64 h] w (IntVal w (leastRes xs s h)) := by
  have HL := Lib.hid hx.lenEq
  cases hvd : validDaysM xs
  · have hv : validLotsM xs s h = false := by unfold validLotsM; rw [hvd]; rfl
    rw [leastRes_no hv]
    have HVD := Lib.hid hvd
    clear hv hvd
    go_enter Try.func8, Try.ntmps8
    go_wp2_with fail
    refine (validDays_impl _ _ _ _ xs _ hx).mono ?_
    rintro e w' ⟨rfl, rfl⟩
    rw [HVD.out]
    go_wp2_with fail
    go_ret
    exact ⟨rfl, Below.refl _ _⟩
  · have HVD := Lib.hid hvd
    cases hc : (inB 0 30 s && inB 0 30 h)
    · have hv : validLotsM xs s h = false := by unfold validLotsM; rw [Bool.and_assoc, hc]; simp
      rw [leastRes_no hv]
      have HC := Lib.hid hc
      clear hv hvd hc
      go_enter Try.func8, Try.ntmps8
      go_wp2_with fail
      refine (validDays_impl _ _ _ _ xs _ hx).mono ?_
      rintro e w' ⟨rfl, rfl⟩
      rw [HVD.out]
      go_wp2_with fail
      refine (areCosts_any _ _ _).mono ?_
      rintro e w' ⟨rfl, rfl⟩
      rw [HC.out]
      go_wp2_with fail
      go_ret
      exact ⟨rfl, Below.refl _ _⟩
    · have hv : validLotsM xs s h = true := by unfold validLotsM; rw [Bool.and_assoc, hc, hvd]; rfl
      have HC := Lib.hid hc
      have HV := Lib.hid hv
      have hl8 : len ≤ 8 := by have := validDays_len hvd; have := HL.out; omega
      have HAT := Lib.hid (validDays_at hvd)
      have HFE := Lib.hid (fine_each hv)
      have hcb := lotCost_bd (fine_each hv)
      have hlb := leastRes_bd hv
      have HT0 := Lib.hid (show TriedTo xs s h 1 (lotCostM xs xs s h) from ⟨fine_least (fine_each hv), Int.le_refl _, fun m h1 h2 => by omega⟩)
      have HTE := Lib.hid (fun L => tried_end (L := L) hv)
      have hgd := guard8
      rw [HL.out] at HTE
      clear hv hvd hc hcb hlb
      have hpw : 1 ≤ 2 ^ len ∧ 2 ^ len ≤ 256 := ⟨Nat.pow_pos (by omega), by have := Nat.pow_le_pow_right (n := 2) (by omega) hl8; simpa using this⟩
      go_enter Try.func8, Try.ntmps8
      go_wp2_with fail
      refine (validDays_impl _ _ _ _ xs _ hx).mono ?_
      rintro e w' ⟨rfl, rfl⟩
      rw [HVD.out]
      go_wp2_with fail
      refine (areCosts_any _ _ _).mono ?_
      rintro e w' ⟨rfl, rfl⟩
      rw [HC.out]
      go_wp2_with fail
      refine (lotCost_impl _ _ _ xs _ _ _ xs s h _ hx hx).mono ?_
      rintro e w1 ⟨rfl, hb1⟩
      go_wp2_with fail
      refine (nextMask 0 (fun _ => false) len hl8 (by omega) (fun q _ => by rw [Nat.zero_testBit]) _).mono ?_
      rintro e w2 ⟨rfl, hb2⟩
      have hN1 := ArrB.new w1 (fun _ => false) 44
      have HS12 := Lib.hid (show w1.heap.size < w2.heap.size by have := hb2.size; simp at this; omega)
      have hN2 := hN1.below hb2 (by simp)
      have hBW2 : Below w.heap.size w w2 := (hb1.alloc (by have := hb1.size; omega) _).trans (hb2.mono (by have := hb1.size; simp; omega))
      have HWS := Lib.hid hb1.size
      unfold agg8
      obtain ⟨c0, hc0⟩ : ∃ c0, c0 = 1 := ⟨_, rfl⟩
      rw [show 0 + 1 = c0 by omega]
      have HC0 := Lib.hid hc0
      rw [← hc0] at HT0
      clear hb1 hb2 hN1 hc0
      have HN3 := Lib.hid (hN2.alloc (.cells #[.bool (sb (c0 % 2 ^ len) 0), .bool (sb (c0 % 2 ^ len) 1), .bool (sb (c0 % 2 ^ len) 2), .bool (sb (c0 % 2 ^ len) 3), .bool (sb (c0 % 2 ^ len) 4), .bool (sb (c0 % 2 ^ len) 5), .bool (sb (c0 % 2 ^ len) 6), .bool (sb (c0 % 2 ^ len) 7)] 44))
      have HA3 := Lib.hid (ArrB.new w2 (sb (c0 % 2 ^ len)) 44)
      have HB3 := Lib.hid (hBW2.alloc (by have := hBW2.size; omega) (.cells #[.bool (sb (c0 % 2 ^ len) 0), .bool (sb (c0 % 2 ^ len) 1), .bool (sb (c0 % 2 ^ len) 2), .bool (sb (c0 % 2 ^ len) 3), .bool (sb (c0 % 2 ^ len) 4), .bool (sb (c0 % 2 ^ len) 5), .bool (sb (c0 % 2 ^ len) 6), .bool (sb (c0 % 2 ^ len) 7)] 44))
      clear hN2 hBW2
      obtain ⟨m0, hm0⟩ : ∃ m0, c0 % 2 ^ len = m0 := ⟨_, rfl⟩
      rw [hm0] at HN3 HA3 HB3 ⊢
      have HM0 := Lib.hid hm0
      clear hm0
      go_wp2_with fail
      go_loopw [7, 10] (fun l p wr => ∃ (c m B : Nat) (L : Int), 1 ≤ c ∧ c ≤ 2 ^ len ∧ c % 2 ^ len = m ∧ l = .int .i64 L ∧ p = .pointer (some ⟨B, 0, none⟩) ∧ TriedTo xs s h c L ∧ ArrB wr B (sb m) ∧ ArrB wr w1.heap.size (fun _ => false) ∧ w1.heap.size < B ∧ Below w.heap.size w wr) (fun _ p wr => if rdOn p wr = 0 then 0 else 257 - rdOn p wr)
      case atStart => exact ⟨c0, m0, _, _, by have := HC0.out; omega, by have := HC0.out; omega, HM0.out, rfl, rfl, HT0.out, HA3.out, HN3.out, HS12.out, HB3.out⟩
      case round =>
        clear HN3 HA3 HB3 HM0 HC0 HT0 HS12
        obtain ⟨c, m, B, L, hc1, hc2, hm, rfl, rfl, hT, hA, hN, hlt, hB⟩ := hrel
        have HA := Lib.hid hA
        have HN := Lib.hid hN
        have HB := Lib.hid hB
        have HT := Lib.hid hT
        have HM := Lib.hid hm
        have HCC := Lib.hid (And.intro hc1 hc2)
        have HLT := Lib.hid hlt
        have hmlt : m < 2 ^ len := by rw [← hm]; exact Nat.mod_lt _ (by omega)
        have HMLT := Lib.hid hmlt
        have HRD := Lib.hid (rdOn_is hA (by omega))
        have ka0 := hA 0 (by omega)
        have ka1 := hA 1 (by omega)
        have ka2 := hA 2 (by omega)
        have ka3 := hA 3 (by omega)
        have ka4 := hA 4 (by omega)
        have ka5 := hA 5 (by omega)
        have ka6 := hA 6 (by omega)
        have ka7 := hA 7 (by omega)
        have kn0 := hN 0 (by omega)
        have kn1 := hN 1 (by omega)
        have kn2 := hN 2 (by omega)
        have kn3 := hN 3 (by omega)
        have kn4 := hN 4 (by omega)
        have kn5 := hN 5 (by omega)
        have kn6 := hN 6 (by omega)
        have kn7 := hN 7 (by omega)
        clear hA hN hB hT hm hc1 hc2 hlt hmlt hpw
        by_cases h0 : m = 0
        · have hq : ∀ w, (Op.equalIn 10000 44 (.agg #[.bool (sb m 0), .bool (sb m 1), .bool (sb m 2), .bool (sb m 3), .bool (sb m 4), .bool (sb m 5), .bool (sb m 6), .bool (sb m 7)]) (.agg #[.bool false, .bool false, .bool false, .bool false, .bool false, .bool false, .bool false, .bool false])).run Try.prog w = .ok true w := fun w => by
            have := run_equal8 (sb m) (fun _ => false) w
            rw [eq8_true (fun q _ => by rw [sb, h0, Nat.zero_testBit])] at this
            exact this
          have HL2 := Lib.hid (show L = leastRes xs s h from HTE.out L (by
            have hc := HCC.out; have hm := HM.out
            have : c = 2 ^ len := by
              rcases Nat.lt_or_ge c (2 ^ len) with h' | h'
              · rw [Nat.mod_eq_of_lt h'] at hm; omega
              · omega
            rw [← this]; exact HT.out))
          clear h0
          go_wp2_with fail
          go_ret
          exact ⟨ret_int HL2.out, HB.out⟩
        · have hq : ∀ w, (Op.equalIn 10000 44 (.agg #[.bool (sb m 0), .bool (sb m 1), .bool (sb m 2), .bool (sb m 3), .bool (sb m 4), .bool (sb m 5), .bool (sb m 6), .bool (sb m 7)]) (.agg #[.bool false, .bool false, .bool false, .bool false, .bool false, .bool false, .bool false, .bool false])).run Try.prog w = .ok false w := fun w => by
            have := run_equal8 (sb m) (fun _ => false) w
            obtain ⟨q, hq⟩ : ∃ q, sb m q ≠ false := by
              have := Nat.exists_testBit_of_ne_zero h0
              obtain ⟨q, hq⟩ := this
              exact ⟨q, by rw [sb, hq]; simp⟩
            have hq8 : q < 8 := by
              rcases Nat.lt_or_ge q 8 with h' | h'
              · exact h'
              · exact absurd (low_bits HMLT.out (by omega)) hq
            rw [eq8_false hq8 hq] at this
            exact this
          have hxr := ints_lift hx HB.out
          have HCM := Lib.hid (show c = m ∧ c < 2 ^ len by
            have hc := HCC.out; have hm := HM.out
            rcases Nat.lt_or_ge c (2 ^ len) with h' | h'
            · rw [Nat.mod_eq_of_lt h'] at hm; exact ⟨hm, h'⟩
            · have e : c = 2 ^ len := by omega
              rw [e, Nat.mod_self] at hm; omega)
          have HM0 := Lib.hid h0
          clear h0
          go_wp2_with fail
          refine (madeOn_any _ _ _ xs (sb m) _ hxr hl8 HAT.out).mono ?_
          rintro e w4 ⟨a4, l4, c4, rfl, h4, hc4, hb4⟩
          have hms4 : IntsAt w4 (· < w4.heap.size) a4 l4 (onM (sb m) xs) := h4.to (fun b hb => ⟨hb.2, rfl⟩)
          have hx4 := ints_lift hxr hb4
          have HB4 := Lib.hid (HB.out.trans (hb4.mono HB.out.size))
          have HA4 := Lib.hid (HA.out.below hb4 HA.out.lt)
          have HN4 := Lib.hid (HN.out.below hb4 HN.out.lt)
          clear hxr h4 hb4
          clear ka0 ka1 ka2 ka3 ka4 ka5 ka6 ka7 kn0 kn1 kn2 kn3 kn4 kn5 kn6 kn7
          go_wp2_with fail
          refine (lotCost_impl _ _ _ (onM (sb m) xs) _ _ _ xs s h _ hms4 hx4).mono ?_
          rintro e w5 ⟨rfl, hb5⟩
          have HB5 := Lib.hid (HB4.out.trans (hb5.mono HB4.out.size))
          have HA5 := Lib.hid (HA4.out.below hb5 HA4.out.lt)
          have HN5 := Lib.hid (HN4.out.below hb5 HN4.out.lt)
          have ka0 := HA5.out 0 (by omega)
          have ka1 := HA5.out 1 (by omega)
          have ka2 := HA5.out 2 (by omega)
          have ka3 := HA5.out 3 (by omega)
          have ka4 := HA5.out 4 (by omega)
          have ka5 := HA5.out 5 (by omega)
          have ka6 := HA5.out 6 (by omega)
          have ka7 := HA5.out 7 (by omega)
          have hcp : B < w5.heap.size := HA5.out.lt
          obtain ⟨w6, hw6⟩ : ∃ w6, (w5.alloc (.cells #[.bool (sb m 0), .bool (sb m 1), .bool (sb m 2), .bool (sb m 3), .bool (sb m 4), .bool (sb m 5), .bool (sb m 6), .bool (sb m 7)] 44)) = w6 := ⟨_, rfl⟩
          have hA6 := ArrB.new w5 (sb m) 44
          have hN6 := HN5.out.alloc (.cells #[.bool (sb m 0), .bool (sb m 1), .bool (sb m 2), .bool (sb m 3), .bool (sb m 4), .bool (sb m 5), .bool (sb m 6), .bool (sb m 7)] 44)
          have hB6 := HB5.out.alloc (by have := HB5.out.size; omega) (.cells #[.bool (sb m 0), .bool (sb m 1), .bool (sb m 2), .bool (sb m 3), .bool (sb m 4), .bool (sb m 5), .bool (sb m 6), .bool (sb m 7)] 44)
          rw [hw6] at hA6 hN6 hB6
          have HA6 := Lib.hid hA6
          have HN6 := Lib.hid hN6
          have HB6 := Lib.hid hB6
          have HNB := Lib.hid (show w1.heap.size < w5.heap.size from HN5.out.lt)
          clear hA6 hN6 hB6 hms4 hx4 hb5
          have kb0 := HA6.out 0 (by omega)
          have kb1 := HA6.out 1 (by omega)
          have kb2 := HA6.out 2 (by omega)
          have kb3 := HA6.out 3 (by omega)
          have kb4 := HA6.out 4 (by omega)
          have kb5 := HA6.out 5 (by omega)
          have kb6 := HA6.out 6 (by omega)
          have kb7 := HA6.out 7 (by omega)
          cases hf : lotFine (onM (sb m) xs) xs s h
          · have HT2 := Lib.hid (tried_next HCC.out.1 HT.out (L' := L) (Or.inr ⟨by rw [HCM.out.1]; exact hf, rfl⟩))
            clear hf
            go_wp2_with fail
            refine (nextMask m (sb m) len hl8 HMLT.out (fun q _ => rfl) _).mono ?_
            rintro e w7 ⟨rfl, hb7⟩
            have HA7 := Lib.hid (HA6.out.below hb7 HA6.out.lt)
            have HN7 := Lib.hid (HN6.out.below hb7 HN6.out.lt)
            have HB7 := Lib.hid (HB6.out.trans (hb7.mono HB6.out.size))
            clear hb7 ka0 ka1 ka2 ka3 ka4 ka5 ka6 ka7 kb0 kb1 kb2 kb3 kb4 kb5 kb6 kb7
            have kd0 := HA7.out 0 (by omega)
            have kd1 := HA7.out 1 (by omega)
            have kd2 := HA7.out 2 (by omega)
            have kd3 := HA7.out 3 (by omega)
            have kd4 := HA7.out 4 (by omega)
            have kd5 := HA7.out 5 (by omega)
            have kd6 := HA7.out 6 (by omega)
            have kd7 := HA7.out 7 (by omega)
            unfold agg8
            obtain ⟨m1, hm1⟩ : ∃ m1, (m + 1) % 2 ^ len = m1 := ⟨_, rfl⟩
            have HM1 := Lib.hid hm1
            rw [hm1]
            clear hm1
            go_wp2_with fail
            have HS := Lib.hid (stored8 (f := sb m1) HA7.out)
            have HM1B := Lib.hid (show m1 < 256 by have h1 := HMLT.out; have h2 := Nat.pow_le_pow_right (n := 2) (by omega) hl8; have := Nat.mod_lt (m + 1) (show 0 < 2 ^ len by omega); rw [HM1.out] at this; omega)
            clear kd0 kd1 kd2 kd3 kd4 kd5 kd6 kd7
            go_roundw
            case rel => exact ⟨c + 1, m1, _, _, by omega, by have := HCM.out; omega, by rw [HCM.out.1]; exact HM1.out, rfl, rfl, HT2.out, HS.out, (((((((HN7.out.other 0 _ (by have := HNB.out; omega)).other 1 _ (by have := HNB.out; omega)).other 2 _ (by have := HNB.out; omega)).other 3 _ (by have := HNB.out; omega)).other 4 _ (by have := HNB.out; omega)).other 5 _ (by have := HNB.out; omega)).other 6 _ (by have := HNB.out; omega)).other 7 _ (by have := HNB.out; omega), HNB.out, below8 HB7.out (by have := HB5.out.size; omega)⟩
            case measure =>
              rw [HRD.out, rdOn_is HS.out HM1B.out, if_neg HM0.out]
              by_cases e : m1 = 0
              · rw [if_pos e]; have := HMLT.out; have h2 := Nat.pow_le_pow_right (n := 2) (by omega) hl8; omega
              · rw [if_neg e]
                have h1 := HM1.out
                have h2 := HMLT.out
                have h3 := Nat.pow_le_pow_right (n := 2) (by omega) hl8
                rcases Nat.lt_or_ge (m + 1) (2 ^ len) with h' | h'
                · rw [Nat.mod_eq_of_lt h'] at h1; omega
                · rw [show m + 1 = 2 ^ len by omega, Nat.mod_self] at h1; omega
          · have HF := Lib.hid hf
            generalize hcm : lotCostM (onM (sb m) xs) xs s h = cm at *
            have HCM2 := Lib.hid hcm
            clear hf hcm
            by_cases hcl : cm < L
            · have HT2 := Lib.hid (tried_next HCC.out.1 HT.out (L' := cm) (Or.inl ⟨by rw [HCM.out.1]; exact HF.out, by rw [HCM.out.1, HCM2.out]; omega⟩))
              go_wp2_with fail
              refine (nextMask m (sb m) len hl8 HMLT.out (fun q _ => rfl) _).mono ?_
              rintro e w7 ⟨rfl, hb7⟩
              have HA7 := Lib.hid (HA6.out.below hb7 HA6.out.lt)
              have HN7 := Lib.hid (HN6.out.below hb7 HN6.out.lt)
              have HB7 := Lib.hid (HB6.out.trans (hb7.mono HB6.out.size))
              clear hb7 ka0 ka1 ka2 ka3 ka4 ka5 ka6 ka7 kb0 kb1 kb2 kb3 kb4 kb5 kb6 kb7
              have kd0 := HA7.out 0 (by omega)
              have kd1 := HA7.out 1 (by omega)
              have kd2 := HA7.out 2 (by omega)
              have kd3 := HA7.out 3 (by omega)
              have kd4 := HA7.out 4 (by omega)
              have kd5 := HA7.out 5 (by omega)
              have kd6 := HA7.out 6 (by omega)
              have kd7 := HA7.out 7 (by omega)
              unfold agg8
              obtain ⟨m1, hm1⟩ : ∃ m1, (m + 1) % 2 ^ len = m1 := ⟨_, rfl⟩
              have HM1 := Lib.hid hm1
              rw [hm1]
              clear hm1
              go_wp2_with fail
              have HS := Lib.hid (stored8 (f := sb m1) HA7.out)
              have HM1B := Lib.hid (show m1 < 256 by have h1 := HMLT.out; have h2 := Nat.pow_le_pow_right (n := 2) (by omega) hl8; have := Nat.mod_lt (m + 1) (show 0 < 2 ^ len by omega); rw [HM1.out] at this; omega)
              clear kd0 kd1 kd2 kd3 kd4 kd5 kd6 kd7
              go_roundw
              case rel => exact ⟨c + 1, m1, _, _, by omega, by have := HCM.out; omega, by rw [HCM.out.1]; exact HM1.out, rfl, rfl, HT2.out, HS.out, (((((((HN7.out.other 0 _ (by have := HNB.out; omega)).other 1 _ (by have := HNB.out; omega)).other 2 _ (by have := HNB.out; omega)).other 3 _ (by have := HNB.out; omega)).other 4 _ (by have := HNB.out; omega)).other 5 _ (by have := HNB.out; omega)).other 6 _ (by have := HNB.out; omega)).other 7 _ (by have := HNB.out; omega), HNB.out, below8 HB7.out (by have := HB5.out.size; omega)⟩
              case measure =>
                rw [HRD.out, rdOn_is HS.out HM1B.out, if_neg HM0.out]
                by_cases e : m1 = 0
                · rw [if_pos e]; have := HMLT.out; have h2 := Nat.pow_le_pow_right (n := 2) (by omega) hl8; omega
                · rw [if_neg e]
                  have h1 := HM1.out
                  have h2 := HMLT.out
                  have h3 := Nat.pow_le_pow_right (n := 2) (by omega) hl8
                  rcases Nat.lt_or_ge (m + 1) (2 ^ len) with h' | h'
                  · rw [Nat.mod_eq_of_lt h'] at h1; omega
                  · rw [show m + 1 = 2 ^ len by omega, Nat.mod_self] at h1; omega
            · have HT2 := Lib.hid (tried_next HCC.out.1 HT.out (L' := L) (Or.inl ⟨by rw [HCM.out.1]; exact HF.out, by rw [HCM.out.1, HCM2.out]; omega⟩))
              go_wp2_with fail
              refine (nextMask m (sb m) len hl8 HMLT.out (fun q _ => rfl) _).mono ?_
              rintro e w7 ⟨rfl, hb7⟩
              have HA7 := Lib.hid (HA6.out.below hb7 HA6.out.lt)
              have HN7 := Lib.hid (HN6.out.below hb7 HN6.out.lt)
              have HB7 := Lib.hid (HB6.out.trans (hb7.mono HB6.out.size))
              clear hb7 ka0 ka1 ka2 ka3 ka4 ka5 ka6 ka7 kb0 kb1 kb2 kb3 kb4 kb5 kb6 kb7
              have kd0 := HA7.out 0 (by omega)
              have kd1 := HA7.out 1 (by omega)
              have kd2 := HA7.out 2 (by omega)
              have kd3 := HA7.out 3 (by omega)
              have kd4 := HA7.out 4 (by omega)
              have kd5 := HA7.out 5 (by omega)
              have kd6 := HA7.out 6 (by omega)
              have kd7 := HA7.out 7 (by omega)
              unfold agg8
              obtain ⟨m1, hm1⟩ : ∃ m1, (m + 1) % 2 ^ len = m1 := ⟨_, rfl⟩
              have HM1 := Lib.hid hm1
              rw [hm1]
              clear hm1
              go_wp2_with fail
              have HS := Lib.hid (stored8 (f := sb m1) HA7.out)
              have HM1B := Lib.hid (show m1 < 256 by have h1 := HMLT.out; have h2 := Nat.pow_le_pow_right (n := 2) (by omega) hl8; have := Nat.mod_lt (m + 1) (show 0 < 2 ^ len by omega); rw [HM1.out] at this; omega)
              clear kd0 kd1 kd2 kd3 kd4 kd5 kd6 kd7
              go_roundw
              case rel => exact ⟨c + 1, m1, _, _, by omega, by have := HCM.out; omega, by rw [HCM.out.1]; exact HM1.out, rfl, rfl, HT2.out, HS.out, (((((((HN7.out.other 0 _ (by have := HNB.out; omega)).other 1 _ (by have := HNB.out; omega)).other 2 _ (by have := HNB.out; omega)).other 3 _ (by have := HNB.out; omega)).other 4 _ (by have := HNB.out; omega)).other 5 _ (by have := HNB.out; omega)).other 6 _ (by have := HNB.out; omega)).other 7 _ (by have := HNB.out; omega), HNB.out, below8 HB7.out (by have := HB5.out.size; omega)⟩
              case measure =>
                rw [HRD.out, rdOn_is HS.out HM1B.out, if_neg HM0.out]
                by_cases e : m1 = 0
                · rw [if_pos e]; have := HMLT.out; have h2 := Nat.pow_le_pow_right (n := 2) (by omega) hl8; omega
                · rw [if_neg e]
                  have h1 := HM1.out
                  have h2 := HMLT.out
                  have h3 := Nat.pow_le_pow_right (n := 2) (by omega) hl8
                  rcases Nat.lt_or_ge (m + 1) (2 ^ len) with h' | h'
                  · rw [Nat.mod_eq_of_lt h'] at h1; omega
                  · rw [show m + 1 = 2 ^ len by omega, Nat.mod_self] at h1; omega
end Go.Proofs.Ytldncfkkeeinjab
