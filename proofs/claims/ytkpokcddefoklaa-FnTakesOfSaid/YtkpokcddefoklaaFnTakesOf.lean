/- The law FnTakesOf returns true at every code, and the code reads behind the call as it read before. No condition. -/
import Derived.Test.YtkpokcddefoklaaRows
import Derived.WalkKit
import Derived.LoopTactic
import Derived.Outline
import Derived.WalkSpells
import Derived.WalkLawsBesides
import Derived.ProofKit
import Derived.IntWalk
import Derived.Deep.RegionHeld3
import Derived.Test.YtkpokcddefoklaaLib
import Derived.Test.YtkpokcddefoklaaRd
import Derived.Test.YtkpokcddefoklaaGen
import Derived.Test.YtkpokcddefoklaaTakesM
import Derived.Test.YtkpokcddefoklaaTakes
import Derived.Test.YtkpokcddefoklaaDrawTakes
namespace Go.Proofs.Ytkpokcddefoklaa
open Go.RowKit Go.WideShapes

theorem take_cases (rows : List (List Int)) (i j : Int) : takesM rows i j = -1 ∨ ∃ i' j' : Nat, i = (i' : Int) ∧ j = (j' : Int) ∧ i' < rows.length ∧ j' < rows.length ∧ validBillM rows = true ∧ takesM rows i j = takeM rows i' j' := by
  cases h : (validBillM rows && isPartM rows.length i && isPartM rows.length j) with
  | false => exact Or.inl (takesM_bad h)
  | true =>
    simp only [Bool.and_eq_true] at h
    obtain ⟨i', rfl, hi⟩ := isPart_nat h.1.2
    obtain ⟨j', rfl, hj⟩ := isPart_nat h.2
    exact Or.inr ⟨i', j', rfl, rfl, hi, hj, h.1.1, takesM_good h.1.1 hi hj⟩
theorem rows_up2 {w w1 : World} {a : Option Addr} {len : Nat} {rows : List (List Int)} (h : RowsAt w (· < w.heap.size) a len rows) (hb : Below w.heap.size w w1) : RowsAt w1 (· < w1.heap.size) a len rows :=
  (h.below hb).to (fun _ hb' => ⟨Nat.lt_of_lt_of_le hb' hb.size, rfl⟩)

set_option maxRecDepth 100000 in
set_option maxHeartbeats 2000000 in
theorem fnTakesOf_any (a : Option Addr) (len cap : Nat) (w : World) (hb : BytesAt w w.heap.size a len) (hl : len ≤ cap) (hs : len ≤ 9223372036854775807) :
    Calls Try.prog 5 #[.slice a len cap] w (LawPost w) := by
  by_cases h20 : len ≤ 1048576
  · go_enter Try.func5, Try.ntmps5
    go_wp2_with fail
    refine (drawTakesOf_any a len cap w hb hl hs).mono ?_
    rintro e w1 ⟨a1, l1, c1, rows, i, j, rfl, hrows, hlc, hbw⟩
    go_wp2_with fail
    refine (takes_impl a1 l1 c1 rows i j w1 hrows).mono ?_
    rintro e w2 ⟨rfl, hb2⟩
    have hrows2 := rows_up2 hrows hb2
    have hbw2 : Below w.heap.size w w2 := hbw.trans (hb2.mono hbw.size)
    go_wp2_with fail
    refine (takes_spec _ a1 l1 c1 rows i j w2 hrows2).mono ?_
    rintro e w3 ⟨rfl, hd3⟩
    have hrows3 := rows_up2 hrows2 (hd3.below _)
    have hbw3 : Below w.heap.size w w3 := hbw2.trans (hd3.below _)
    rcases take_cases rows i j with ht | ⟨i', j', rfl, rfl, hi, hj, hv, ht⟩
    · have HT := Lib.hid ht
      rw [ht]
      clear ht
      go_wp2_with fail
      refine (takes_spec _ a1 l1 c1 rows i j w3 hrows3).mono ?_
      rintro e w4 ⟨rfl, hd4⟩
      rw [HT.out]
      go_wp2_with fail
      go_ret
      exact ⟨rfl, hbw3.trans (hd4.below _)⟩
    · rw [ht]
      have t0 := takeM_nonneg hv i' j'
      have hll := hrows.lenEq
      have HLL := Lib.hid hll
      have hv6 := (validBill_len6 hv)
      by_cases hij : i' ≤ j'
      · by_cases he : i' = j'
        · subst he
          rw [takeM_self]
          go_wp2_with fail
          go_ret
          exact ⟨rfl, hbw3⟩
        · rw [takeM_low hv (show i' < j' by omega)]
          go_wp2_with fail
          go_ret
          exact ⟨rfl, hbw3⟩
      · have hi1 : i' < l1 := by omega
        have hl6 : l1 ≤ 6 := by omega
        have ht1 := takeM_le hv i' j'
        have hne : ((i' : Int) == (j' : Int)) = false := by simp; omega
        have hN : ∀ m, m ≤ 6 → 0 ≤ sumTo (fun k => useM rows i' k * takeM rows k j') m ∧ sumTo (fun k => useM rows i' k * takeM rows k j') m ≤ 612220032 := fun m hm =>
          ⟨sumTo_nonneg (fun k _ => (prod_bd hv i' k k j').1), Int.le_trans (sumTo_le (fun k _ => (prod_bd hv i' k k j').2)) (by omega)⟩
        have hM : ∀ m, m ≤ 6 → 0 ≤ sumTo (fun k => takeM rows i' k * useM rows k j') m ∧ sumTo (fun k => takeM rows i' k * useM rows k j') m ≤ 612220032 := fun m hm =>
          ⟨sumTo_nonneg (fun k _ => by rw [Int.mul_comm]; exact (prod_bd hv k j' i' k).1), Int.le_trans (sumTo_le (fun k _ => by rw [Int.mul_comm]; exact (prod_bd hv k j' i' k).2)) (by omega)⟩
        have HN := Lib.hid hN
        have HM := Lib.hid hM
        have hz1 : sumTo (fun k => useM rows i' k * takeM rows k j') j' = 0 := sumTo_zero (fun k hk => by rw [takeM_low hv hk, Int.mul_zero])
        have hz2 : sumTo (fun k => takeM rows i' k * useM rows k j') (j' + 1) = 0 := sumTo_zero (fun k hk => by rw [useM_high hv (show k ≤ j' by omega), Int.mul_zero])
        have HF := Lib.hid (takeM_first hv hi (show i' ≠ j' by omega))
        have HLA := Lib.hid (takeM_last hv (j := j') (i' + 1) i' (by omega) hi (by omega))
        have HZ1 := Lib.hid hz1
        have HZ2 := Lib.hid hz2
        have HBW := Lib.hid hbw3
        clear hN hM hz1 hz2 hll hbw3 hbw2 hbw hb2 hd3 hrows2 hrows ht hb
        generalize hT : takeM rows i' j' = tt at t0 ht1
        have HTT := Lib.hid hT
        clear hT
        go_wp2_with fail
        go_loopw [7, 8] (fun n k wr => ∃ m : Nat, j' ≤ m ∧ m ≤ i' ∧ k = .int .i64 m ∧ n = .int .i64 (sumTo (fun k => useM rows i' k * takeM rows k j') m) ∧ RowsAt wr (· < wr.heap.size) a1 l1 rows ∧ Below w.heap.size w wr) (fun _ k _ => i' - (intOf k).toNat)
        case atStart => exact ⟨j', Nat.le_refl _, by omega, rfl, by rw [HZ1.out], hrows3, HBW.out⟩
        case round =>
          obtain ⟨m, hm1, hm2, rfl, rfl, hrw, hbr⟩ := hrel
          have HBR := Lib.hid hbr
          clear hbr
          by_cases hlt : m < i'
          · obtain ⟨b, off, r, a', l, c, rfl, hx, hc, _, hri⟩ := hrw.get hi1
            obtain ⟨hr1, _, _⟩ := okRows_get hv hx
            have hlr : l = i' := by rw [← hri.lenEq]; exact hr1
            obtain ⟨b2, off2, x, rfl, hy, hc2⟩ := hri.get (k := m) (by omega)
            have hu := useM_get hx hy
            obtain ⟨p0, p1⟩ := prod_bd hv i' m m j'
            obtain ⟨n0, n1⟩ := HN.out m (by omega)
            rw [hu] at p0 p1
            have hbl : b < wr.heap.size := hrw.mem (by omega)
            have hb2l : b2 < wr.heap.size := hri.mem (by omega)
            have hstep : sumTo (fun k => useM rows i' k * takeM rows k j') (m + 1) = sumTo (fun k => useM rows i' k * takeM rows k j') m + x * takeM rows m j' := by
              rw [← hu]; rfl
            have htk : takesM rows m j' = takeM rows m j' := takesM_good hv (by omega) hj
            have HST := Lib.hid hstep
            have HTK := Lib.hid htk
            have v0 := takeM_nonneg hv m j'
            have v1 := takeM_le hv m j'
            clear hx hr1 hy hu hstep htk
            generalize hS : sumTo (fun k => useM rows i' k * takeM rows k j') m = sm at n0 n1 HST ⊢
            generalize hV : takeM rows m j' = vv at p0 p1 v0 v1 HST HTK
            clear hS hV
            have hmi : 0 ≤ (m : Int) := by omega
            have hml : (m : Int) < (l : Int) := by omega
            have w1 : IntKind.i64.wrap (x * vv) = x * vv := IntWalk.i64_in _ (by omega)
            have w2 : IntKind.i64.wrap (sm + x * vv) = sm + x * vv := IntWalk.i64_in _ (by omega)
            have hrd : RowsAt wr.drew (· < wr.drew.heap.size) (some ⟨b, off, none⟩) l1 rows := hrw.to (fun _ hk => ⟨hk, rfl⟩)
            have HRD := Lib.hid hrd
            clear hrw hri hrd
            go_wp2_with fail
            go_region_held3 (fun w' => w'.cell? ⟨b, off + i', none⟩ = some (.slice (some ⟨b2, off2, none⟩) l c) ∧ w'.cell? ⟨b2, off2 + m, none⟩ = some (.int .i64 x)) (go_keep)
              (first | (go_at_call 14; refine (takes_impl (some ⟨b, off, none⟩) l1 c1 rows m j' wr.drew HRD.out).mono ?_; rw [HTK.out]; rintro e w' ⟨rfl, hb'⟩; have k1 := (hb'.cell (p := ⟨b, off + i', none⟩) hbl).trans hc; have k2 := (hb'.cell (p := ⟨b2, off2 + m, none⟩) hb2l).trans hc2))
            clear w1 w2
            go_wp2_with fail
            go_roundw
            case rel => exact ⟨m + 1, by omega, by omega, by go_num, by rw [HST.out], rows_up2 HRD.out hb', HBR.out.drew.trans (hb'.mono HBR.out.size)⟩
            case measure => simp [intOf]; omega
          · obtain rfl : m = i' := by omega
            have hn1 := HF.out
            rw [HTT.out] at hn1
            rw [← hn1]
            clear hn1
            go_wp2_with fail
            go_loopw [9, 10] (fun n k wr => ∃ p : Nat, j' + 1 ≤ p ∧ p ≤ m + 1 ∧ k = .int .i64 p ∧ n = .int .i64 (sumTo (fun k => takeM rows m k * useM rows k j') p) ∧ RowsAt wr (· < wr.heap.size) a1 l1 rows ∧ Below w.heap.size w wr) (fun _ k _ => m + 1 - (intOf k).toNat)
            case atStart => exact ⟨j' + 1, Nat.le_refl _, by omega, by go_num, by rw [HZ2.out], hrw, HBR.out⟩
            case round =>
              obtain ⟨p, hp1, hp2, rfl, rfl, hrv, hbv⟩ := hrel
              have HBV := Lib.hid hbv
              clear hbv hrw
              by_cases hlt2 : p ≤ m
              · obtain ⟨b, off, r, a', l, c, rfl, hx, hc, _, hri⟩ := hrv.get (k := p) (by omega)
                obtain ⟨hr1, _, _⟩ := okRows_get hv hx
                have hlr : l = p := by rw [← hri.lenEq]; exact hr1
                obtain ⟨b2, off2, x, rfl, hy, hc2⟩ := hri.get (k := j') (by omega)
                have hu := useM_get hx hy
                obtain ⟨p0, p1⟩ := prod_bd hv p j' m p
                obtain ⟨n0, n1⟩ := HM.out p (by omega)
                rw [hu] at p0 p1
                have hbl : b < wr.heap.size := hrv.mem (by omega)
                have hb2l : b2 < wr.heap.size := hri.mem (by omega)
                have hstep : sumTo (fun k => takeM rows m k * useM rows k j') (p + 1) = sumTo (fun k => takeM rows m k * useM rows k j') p + takeM rows m p * x := by
                  rw [← hu]; rfl
                have htk : takesM rows m p = takeM rows m p := takesM_good hv hi (by omega)
                have HST := Lib.hid hstep
                have HTK := Lib.hid htk
                have v0 := takeM_nonneg hv m p
                have v1 := takeM_le hv m p
                rw [Int.mul_comm] at p0 p1
                clear hx hr1 hy hu hstep htk
                generalize hS : sumTo (fun k => takeM rows m k * useM rows k j') p = sm at n0 n1 HST ⊢
                generalize hV : takeM rows m p = vv at p0 p1 v0 v1 HST HTK
                clear hS hV
                have hml : (j' : Int) < (l : Int) := by omega
                have hp3 : p < l1 := by omega
                have hp5 : j' < p := by omega
                have hp6 : (j' : Int) < (p : Int) := by omega
                have hp4 : (p : Int) < (l1 : Int) := by omega
                have w1 : IntKind.i64.wrap (vv * x) = vv * x := IntWalk.i64_in _ (by omega)
                have w2 : IntKind.i64.wrap (sm + vv * x) = sm + vv * x := IntWalk.i64_in _ (by omega)
                have hrd : RowsAt wr.drew (· < wr.drew.heap.size) (some ⟨b, off, none⟩) l1 rows := hrv.to (fun _ hk => ⟨hk, rfl⟩)
                have HRD := Lib.hid hrd
                clear hrv hri hrd
                go_wp2_with fail
                go_region_held3 (fun w' => w'.cell? ⟨b, off + p, none⟩ = some (.slice (some ⟨b2, off2, none⟩) l c) ∧ w'.cell? ⟨b2, off2 + j', none⟩ = some (.int .i64 x)) (go_keep)
                  (first | (go_at_call 14; refine (takes_impl (some ⟨b, off, none⟩) l1 c1 rows m p wr.drew HRD.out).mono ?_; rw [HTK.out]; rintro e w' ⟨rfl, hb'⟩; have k1 := (hb'.cell (p := ⟨b, off + p, none⟩) hbl).trans hc; have k2 := (hb'.cell (p := ⟨b2, off2 + j', none⟩) hb2l).trans hc2))
                clear w1 w2
                go_wp2_with fail
                go_roundw
                case rel => exact ⟨p + 1, by omega, by omega, by go_num, by rw [HST.out], rows_up2 HRD.out hb', HBV.out.drew.trans (hb'.mono HBV.out.size)⟩
                case measure => simp [intOf]; omega
              · obtain rfl : p = m + 1 := by omega
                have hm1 := HLA.out
                rw [HTT.out] at hm1
                rw [← hm1]
                clear hm1
                go_wp2_with fail
                go_ret
                exact ⟨rfl, HBV.out⟩
  · go_enter Try.func5, Try.ntmps5
    go_wp2
    go_ret
    exact ⟨rfl, Below.refl _ _⟩
end Go.Proofs.Ytkpokcddefoklaa
