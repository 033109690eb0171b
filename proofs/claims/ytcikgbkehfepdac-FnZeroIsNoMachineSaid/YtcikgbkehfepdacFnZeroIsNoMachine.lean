/- The law FnZeroIsNoMachine returns true at every code, and the code reads behind the call as it read before. No condition. -/
import Derived.Test.YtcikgbkehfepdacRows
import Derived.WalkKit
import Derived.LoopTactic
import Derived.Outline
import Derived.WalkSpells
import Derived.WalkLawsBesides
import Derived.ProofKit
import Derived.Deep.QuietTactic
import Derived.BigQuiet
import Derived.IntWalk
import Derived.Test.YtcikgbkehfepdacM0
import Derived.Test.YtcikgbkehfepdacM1
import Derived.Test.YtcikgbkehfepdacM2
import Derived.Test.YtcikgbkehfepdacM3
import Derived.Test.YtcikgbkehfepdacM7
import Derived.Test.YtcikgbkehfepdacM8
import Derived.Test.YtcikgbkehfepdacM9
import Derived.Test.YtcikgbkehfepdacM14
import Derived.Test.YtcikgbkehfepdacM15
namespace Go.Proofs.Ytcikgbkehfepdac
open Go.RowKit Go.WideShapes

set_option maxRecDepth 100000 in
set_option maxHeartbeats 2000000 in
theorem fnZeroIsNoMachine_any (a : Option Addr) (len cap : Nat) (w : World) (hb : BytesAt w w.heap.size a len) (hl : len ≤ cap) (hs : len ≤ 9223372036854775807) :
    Calls Try.prog 5 #[.slice a len cap] w (LawPost w) := by
  by_cases h20 : len ≤ 1048576
  · go_enter Try.func5, Try.ntmps5
    have hB0 := Below.refl w.heap.size w
    go_wp2_with fail
    refine (drawSpanOf_any a len cap w hb hl hs).mono ?_
    rintro e w1 ⟨a1, l1, c1, rows, a2, l2, c2, o, rfl, n_r, hc1, hl1, n_o, hc2, hl2, hob, hb1⟩
    have hB1 : Below w.heap.size w w1 := hB0.trans (hb1.mono hB0.size)
    clear hB0
    have xr_1 := n_r
    have xo_1 := n_o
    clear n_r
    clear n_o
    clear hb hb1 hob
    have hl2' : l2 ≤ 8 := by omega
    clear hl2
    go_wp2_with fail
    refine (spanOf_impl a1 l1 c1 rows a2 l2 c2 o w1 xr_1 xo_1 hc1 hc2).mono ?_
    rintro e w2 ⟨rfl, hb2⟩
    have xr_2 := rows_lift xr_1 hb2
    have xo_2 := ints_lift xo_1 hb2
    have hB2 : Below w.heap.size w w2 := hB1.trans (hb2.mono hB1.size)
    clear hB1 xr_1 xo_1
    clear hb2
    go_wp2_with fail
    refine (spanOf_specV a1 l1 c1 rows a2 l2 c2 o w2 xr_2 xo_2).mono ?_
    rintro e w3 ⟨rfl, hb3⟩
    have xr_3 := rows_lift xr_2 hb3
    have xo_3 := ints_lift xo_2 hb3
    have hB3 : Below w.heap.size w w3 := hB2.trans (hb3.mono hB2.size)
    clear hB2 xr_2 xo_2
    clear hb3
    go_wp2_with fail
    refine (spanOf_impl a1 l1 c1 rows a2 l2 c2 o w3 xr_3 xo_3 hc1 hc2).mono ?_
    rintro e w4 ⟨rfl, hb4⟩
    have xr_4 := rows_lift xr_3 hb4
    have xo_4 := ints_lift xo_3 hb4
    have hB4 : Below w.heap.size w w4 := hB3.trans (hb4.mono hB3.size)
    clear hB3 xr_3 xo_3
    clear hb4
    cases hv : spanFine rows o
    · rw [spanRes_no hv]
      go_wp2_with fail
      go_ret
      exact ⟨rfl, hB4⟩
    · have hnn := spanRes_nn hv
      have hp := (spanFine_get hv).1
      have HZ := Lib.hid (zero_span hv)
      have HP := Lib.hid (pairs_get hp).2
      have HBX := Lib.hid (sum_box hp)
      have HLN := Lib.hid (xr_4.lenEq)
      have hl8 : l1 ≤ 8 := by have := (pairs_get hp).1; have := HLN.out; omega
      clear hv hp
      obtain ⟨sv, hsv⟩ : ∃ sv, spanRes rows o = sv := ⟨_, rfl⟩
      rw [hsv] at hnn ⊢
      clear hsv
      have hn0 : ¬ sv < 0 := by omega
      have ho0 := World.ownsRow_made (base := w4.heap.size) (size := 1) (e := 25) w4 #[] 0 (Nat.le_refl _) (Nat.zero_le _) rfl
      have hb00 := (Below.refl w4.heap.size w4).alloc (Nat.le_refl _) (.cells #[] 25)
      go_wp2_with fail
      go_loopw [5, 6, 7] (fun v sm iv wr => ∃ (k cp : Nat) (ax : Option Addr), k ≤ l1 ∧ iv = .int .i64 k ∧ v = .slice ax k cp ∧ sm = .int .i64 (sumL (ta rows) (List.range k)) ∧ k ≤ cp ∧ OwnRowsV wr w4.heap.size v k (zeroP (rows.take k)) ∧ Below w4.heap.size w4 wr) (fun _ _ iv _ => l1 - (intOf iv).toNat)
      case atStart => exact ⟨0, 0, _, Nat.zero_le _, rfl, rfl, rfl, Nat.le_refl _, ⟨[], ho0, rfl, fun q u hq => by cases hq⟩, hb00⟩
      case round =>
        clear ho0 hb00
        obtain ⟨k, cp, ax, hk, rfl, rfl, rfl, hkc, hown, hB⟩ := hrel
        obtain ⟨wo, rfl⟩ : ∃ wo : World, wo = wr := ⟨_, rfl⟩
        by_cases hkl : k < l1
        · obtain ⟨b, off, r, a3, l3, c3, rfl, hr, hcr, _, hri⟩ := (xr_4.below hB).get hkl
          obtain ⟨hr2, hra, _⟩ := HP.out r (List.mem_of_getElem? hr)
          have hl3 : l3 = 2 := by rw [← hri.lenEq, hr2]
          subst hl3
          obtain ⟨b3, off3, x3, rfl, h3, hc3⟩ := hri.get (k := 0) (by omega)
          rw [Nat.add_zero] at hc3
          have hbs : b < w4.heap.size := xr_4.mem (by omega)
          have hbs3 : b3 < w4.heap.size := hri.mem (by omega)
          have ht := (t_at hr).1
          rw [getD_of h3] at hra ht
          have HA := Lib.hid (show sumL (ta rows) (List.range (k + 1)) = sumL (ta rows) (List.range k) + x3 by rw [sum_range, ht])
          have HS := Lib.hid (show zeroP (rows.take (k + 1)) = zeroP (rows.take k) ++ [[x3, 0]] by rw [zeroP_step hr, getD_of h3])
          have hbx := (HBX.out k).1
          have hkli : (k : Int) < (l1 : Int) := by omega
          have HO := Lib.hid hown
          have HB := Lib.hid hB
          clear hr hr2 h3 ht hown hB hri
          generalize sumL (ta rows) (List.range k) = va at *
          go_wp2_with (at_builtin; refine wpAppRow (wo := wo) rfl _ _ rfl w4.heap.size k cp ax (zeroP (rows.take k)) [x3, 0] _ 2 rfl HO.out rfl rfl (by omega) rfl HB.out.size (by omega) ?_)
          intro a6 c6 w6 hown6 hc6 hbel6
          have hB6 := hbel6 w4.heap.size w4 (Nat.le_refl _) HB.out
          have hcr6 : w6.cell? ⟨b, off + k, none⟩ = some (.slice (some ⟨b3, off3, none⟩) 2 c3) := (hB6.cell (p := ⟨b, off + k, none⟩) hbs).trans ((HB.out.cell (p := ⟨b, off + k, none⟩) hbs).symm.trans hcr)
          have hc36 : w6.cell? ⟨b3, off3, none⟩ = some (.int .i64 x3) := (hB6.cell (p := ⟨b3, off3, none⟩) hbs3).trans ((HB.out.cell (p := ⟨b3, off3, none⟩) hbs3).symm.trans hc3)
          have HO6 := Lib.hid hown6
          have HB6 := Lib.hid hB6
          clear hown6 hbel6 hB6 hcr hc3
          go_wp2_with fail
          go_roundw
          case rel => exact ⟨k + 1, c6, a6, by omega, by go_num, rfl, by rw [HA.out], hc6, by rw [HS.out]; exact HO6.out, HB6.out⟩
          case measure => simp [intOf] <;> omega
        · obtain rfl : l1 = k := by omega
          have n_t := hown.rows (by omega)
          rw [List.take_of_length_le (by have := HLN.out; omega)] at n_t
          have HZ2 := Lib.hid (HZ.out.trans (by rw [HLN.out] : sumL (ta rows) (List.range rows.length) = sumL (ta rows) (List.range l1)))
          have hkl0 : ¬ (l1 : Int) < (l1 : Int) := by omega
          clear hown
          generalize sumL (ta rows) (List.range l1) = va at *
          have w5_eq : wo = wo := rfl
          clear w5_eq
          obtain ⟨w5, rfl⟩ : ∃ w5 : World, w5 = wo := ⟨_, rfl⟩
          have xr_5 := rows_lift xr_4 hB
          have xo_5 := ints_lift xo_4 hB
          have hB5 : Below w.heap.size w w5 := hB4.trans (hB.mono hB4.size)
          clear hB4 xr_4 xo_4
          have xt_5 := rows_in n_t (Nat.le_refl _)
          clear n_t
          go_wp2_with fail
          refine (spanOf_impl ax l1 cp (zeroP rows) a2 l2 c2 o w5 xt_5 xo_5 hkc hc2).mono ?_
          rintro e w6 ⟨rfl, hb5⟩
          have xr_6 := rows_lift xr_5 hb5
          have xo_6 := ints_lift xo_5 hb5
          have xt_6 := rows_lift xt_5 hb5
          have hB6 : Below w.heap.size w w6 := hB5.trans (hb5.mono hB5.size)
          clear hB5 xr_5 xo_5 xt_5
          clear hb5
          rw [HZ2.out]
          go_wp2_with fail
          go_ret
          exact ⟨rfl, hB6⟩
  · go_enter Try.func5, Try.ntmps5
    go_wp2
    go_ret
    exact ⟨rfl, Below.refl _ _⟩
end Go.Proofs.Ytcikgbkehfepdac
