/- The law FnBestAge returns true at every code, and the code reads behind the call as it read before. No condition. -/
import Derived.Test.YtkjmpkincaainacRows
import Derived.WalkKit
import Derived.LoopTactic
import Derived.Outline
import Derived.WalkSpells
import Derived.WalkLawsBesides
import Derived.ProofKit
import Derived.Deep.QuietTactic
import Derived.BigQuiet
import Derived.IntWalk
import Derived.Test.YtkjmpkincaainacM0
import Derived.Test.YtkjmpkincaainacM1
import Derived.Test.YtkjmpkincaainacM2
import Derived.Test.YtkjmpkincaainacM13
import Derived.Test.YtkjmpkincaainacM4
import Derived.Test.YtkjmpkincaainacM6
import Derived.Test.YtkjmpkincaainacM10
import Derived.Test.YtkjmpkincaainacM11
import Derived.Test.YtkjmpkincaainacM12
import Derived.Test.YtkjmpkincaainacM14
namespace Go.Proofs.Ytkjmpkincaainac
open Go.RowKit Go.WideShapes

theorem run_eq_frac2 (U D U' D' : Nat) (w : World) : (binOp .eql 24 (.agg #[.int .i64 U, .int .i64 D]) (.agg #[.int .i64 U', .int .i64 D'])).run Try.prog w = .ok (.bool (decide ((U : Int) = U') && decide ((D : Int) = D'))) w := by
  have he := run_equalIn_agg (P := Try.prog) w 9999 24 #[.int .i64 U, .int .i64 D] #[.int .i64 U', .int .i64 D'] (by kernel_rfl) (by kernel_rfl)
  have hu : Try.prog.underlying 3 = some (.int .i64) := Try.underlying3
  rw [run_eql_struct, he]
  by_cases h1 : (U : Int) = U'
  · by_cases h2 : (D : Int) = D'
    · simp [Program.fieldsOf, Try.underlying24, Op.eqFields, go_sem, h1, h2]
    · simp [Program.fieldsOf, Try.underlying24, Op.eqFields, go_sem, h1, h2]
  · simp [Program.fieldsOf, Try.underlying24, Op.eqFields, go_sem, h1]
set_option maxRecDepth 100000 in
set_option maxHeartbeats 2000000 in
theorem fnBestAge_any (a : Option Addr) (len cap : Nat) (w : World) (hb : BytesAt w w.heap.size a len) (hl : len ≤ cap) (hs : len ≤ 9223372036854775807) :
    Calls Try.prog 6 #[.slice a len cap] w (LawPost w) := by
  by_cases h20 : len ≤ 1048576
  · go_enter Try.func6, Try.ntmps6
    have hB0 := Below.refl w.heap.size w
    go_wp2_with fail
    refine (dDrawBestAge_any a len cap w hb hl hs).mono ?_
    rintro e w1 ⟨a1, l1, c1, xs, o, u, rfl, n_v, hc1, hl1, ho0, ho1, hu0, hu1, hb1⟩
    have hB1 : Below w.heap.size w w1 := hB0.trans (hb1.mono hB0.size)
    clear hB0
    have xv_1 := n_v
    clear n_v
    clear hb hb1
    go_wp2_with fail
    refine (bestAge_impl a1 l1 c1 xs o u w1 xv_1).mono ?_
    rintro e w2 ⟨rfl, hb2⟩
    have xv_2 := ints_lift xv_1 hb2
    have hB2 : Below w.heap.size w w2 := hB1.trans (hb2.mono hB1.size)
    clear hB1 xv_1
    clear hb2
    obtain ⟨c, hc⟩ : ∃ c, bestARes xs o u = c := ⟨_, rfl⟩
    rw [hc]
    have HC := Lib.hid hc
    have hbd : -1 ≤ c ∧ c ≤ 7 := by
      rw [← hc]
      cases h : okO xs o u
      · rw [bestARes_no h]; omega
      · have := bestA_bd h; rw [bestARes_yes h]; omega
    have hne : (c != c) = false := by simp
    have heq : (c == c) = true := by simp
    clear hc
    go_wp2_with fail
    refine (bestAge_spec a1 l1 c1 xs o u w2 xv_2).mono ?_
    rintro e w3 ⟨rfl, hb3⟩
    have xv_3 := ints_lift xv_2 hb3
    have hB3 : Below w.heap.size w w3 := hB2.trans (hb3.mono hB2.size)
    clear hB2 xv_2
    clear hb3
    rw [HC.out]
    by_cases hc0 : c < 0
    · go_wp2_with fail
      refine (bestAge_spec a1 l1 c1 xs o u w3 xv_3).mono ?_
      rintro e w4 ⟨rfl, hb3⟩
      have xv_4 := ints_lift xv_3 hb3
      have hB4 : Below w.heap.size w w4 := hB3.trans (hb3.mono hB3.size)
      clear hB3 xv_3
      clear hb3
      rw [HC.out]
      go_wp2_with fail
      go_ret
      exact ⟨rfl, hB4⟩
    · have hok : okO xs o u = true := by
        cases h : okO xs o u
        · have := bestARes_no h; rw [HC.out] at this; omega
        · rfl
      have hcs : (bestA xs o u 6 : Int) = c := by rw [← HC.out, bestARes_yes hok]
      obtain ⟨n, rfl⟩ : ∃ n : Nat, c = (n : Int) := ⟨c.toNat, by omega⟩
      have hcn : bestA xs o u 6 = n := by omega
      have hnb := bestA_bd hok
      have HAB := Lib.hid (fun (k : Nat) (h1 : 1 ≤ k) (h7 : k ≤ 7) => age_best hok h1 h7)
      have HAN := Lib.hid (fun h => age_never hok h)
      rw [hcn] at HAB HAN hnb
      have HFI := Lib.hid (fun (k : Nat) (h1 : 1 ≤ k) (h7 : k ≤ 7) => (rate_yes hok h1 h7).1)
      have hfn := HFI.out n hnb.1 hnb.2
      clear hcs hcn hok
      go_wp2_with fail
      refine (ageRate_impl a1 l1 c1 xs (n : Int) o u w3 xv_3).mono ?_
      rintro e w4 ⟨rfl, hb4⟩
      have xv_4 := ints_lift xv_3 hb4
      have hB4 : Below w.heap.size w w4 := hB3.trans (hb4.mono hB3.size)
      clear hB3 xv_3
      clear hb4
      rw [hfn]
      clear hfn
      have hbdU := rate_bd (xs := xs) (a := (n : Int)) (p := o) (f := u)
      obtain ⟨U, hU⟩ : ∃ y, rateU xs (n : Int) o u = y := ⟨_, rfl⟩
      obtain ⟨D, hD⟩ : ∃ y, rateD xs (n : Int) o u = y := ⟨_, rfl⟩
      rw [hU, hD] at hbdU HAB HAN ⊢
      clear hU hD
      have frb_n := two_new w4 (.int .i64 (U : Int)) (.int .i64 (D : Int)) 24
      have hbx := (Below.refl w4.heap.size w4).alloc (Nat.le_refl _) (.cells #[.int .i64 (U : Int), .int .i64 (D : Int)] 24)
      obtain ⟨w5, hw5⟩ : ∃ wx, w4.alloc (.cells #[.int .i64 (U : Int), .int .i64 (D : Int)] 24) = wx := ⟨_, rfl⟩
      rw [hw5] at frb_n hbx
      have HW5 := Lib.hid hw5
      clear hw5
      have xv_5 := ints_lift xv_4 hbx
      have hB5 : Below w.heap.size w w5 := hB4.trans (hbx.mono hB4.size)
      clear hB4 xv_4
      clear hbx
      have frb_5 := frb_n
      clear frb_n
      have cb0 := frb_5.1.1
      have cb1 := frb_5.2.1
      rw [← HW5.out] at cb0 cb1
      go_wp2_with fail
      rw [HW5.out]
      refine (ageRate_impl a1 l1 c1 xs 7 o u w5 xv_5).mono ?_
      rintro e w6 ⟨rfl, hb5⟩
      clear cb0 cb1
      have frb_6 := frb_5.block (hb5.block _ frb_5.lt)
      clear frb_5
      have xv_6 := ints_lift xv_5 hb5
      have hB6 : Below w.heap.size w w6 := hB5.trans (hb5.mono hB5.size)
      clear hB5 xv_5
      clear hb5
      have hf7 : rateFine xs 7 o u = true := HFI.out 7 (by omega) (by omega)
      rw [hf7]
      clear hf7
      obtain ⟨V, hV⟩ : ∃ y, rateU xs 7 o u = y := ⟨_, rfl⟩
      obtain ⟨E, hE⟩ : ∃ y, rateD xs 7 o u = y := ⟨_, rfl⟩
      have HAN2 : Hid (u ≤ o → U = V ∧ D = E) := Lib.hid (fun h => by obtain ⟨e1, e2⟩ := HAN.out h; exact ⟨e1.trans hV, e2.trans hE⟩)
      rw [hV, hE]
      clear hV hE HAN
      have frn_n := two_new w6 (.int .i64 (V : Int)) (.int .i64 (E : Int)) 24
      have hbx := (Below.refl w6.heap.size w6).alloc (Nat.le_refl _) (.cells #[.int .i64 (V : Int), .int .i64 (E : Int)] 24)
      obtain ⟨w7, hw7⟩ : ∃ wx, w6.alloc (.cells #[.int .i64 (V : Int), .int .i64 (E : Int)] 24) = wx := ⟨_, rfl⟩
      rw [hw7] at frn_n hbx
      have HW7 := Lib.hid hw7
      clear hw7
      have frb_7 := frb_6.block (hbx.block _ frb_6.lt)
      clear frb_6
      have xv_7 := ints_lift xv_6 hbx
      have hB7 : Below w.heap.size w w7 := hB6.trans (hbx.mono hB6.size)
      clear hB6 xv_6
      clear hbx
      have frn_7 := frn_n
      clear frn_n
      have HAR := Lib.hid (fun w' (hb : Below w7.heap.size w7 w') (k : Nat) => ageRate_impl a1 l1 c1 xs (k : Int) o u w' (ints_lift xv_7 hb))
      clear xv_7
      have HTB := Lib.hid frb_7
      have HTN := Lib.hid frn_7
      go_wp2_with fail
      rw [HW7.out]
      clear frb_7 frn_7
      go_loopw [11] (fun i wr => ∃ k : Nat, 1 ≤ k ∧ k ≤ 8 ∧ i = .int .i64 k ∧ Below w7.heap.size w7 wr) (fun i _ => 8 - (intOf i).toNat)
      case atStart => exact ⟨1, by omega, by omega, rfl, Below.refl _ _⟩
      case round =>
        obtain ⟨k, hk1, hk, rfl, hb⟩ := hrel
        have HB := Lib.hid hb
        clear hb
        by_cases hlt : k < 8
        · have hkI : (k : Int) ≤ 7 := by omega
          obtain ⟨a1x, a2x⟩ := HAB.out k hk1 (by omega)
          have C1 := Lib.hid (HAR.out wr HB.out k)
          have hbdO := rate_bd (xs := xs) (a := (k : Int)) (p := o) (f := u)
          obtain ⟨P, hP⟩ : ∃ y, rateU xs (k : Int) o u = y := ⟨_, rfl⟩
          obtain ⟨Q, hQ⟩ : ∃ y, rateD xs (k : Int) o u = y := ⟨_, rfl⟩
          rw [hP, hQ] at C1 hbdO a1x a2x
          clear hP hQ
          have HLO := Lib.hid (lless_any P Q U D (by omega))
          rw [decide_eq_false (by first | exact a1x | exact Int.not_lt.2 a1x)] at HLO
          clear a1x
          have HA2 := Lib.hid a2x
          clear a2x
          go_wp2_with fail
          refine C1.out.mono ?_
          rintro e v4 ⟨rfl, hb4⟩
          have hs4 := hb4.size
          have hb5 := (Below.refl v4.heap.size v4).alloc (Nat.le_refl _) (.cells #[.int .i64 (P : Int), .int .i64 (Q : Int)] 24)
          have ht5 := two_new v4 (.int .i64 (P : Int)) (.int .i64 (Q : Int)) 24
          obtain ⟨v5, hv5⟩ : ∃ v5, v4.alloc (.cells #[.int .i64 (P : Int), .int .i64 (Q : Int)] 24) = v5 := ⟨_, rfl⟩
          rw [hv5] at hb5 ht5
          have HV5 := Lib.hid hv5
          have hw5 := (HB.out.trans (hb4.mono HB.out.size)).trans (hb5.mono (Nat.le_trans HB.out.size hs4))
          have HB5 := Lib.hid hw5
          have HTO := Lib.hid ht5
          have HTB5 := Lib.hid (HTB.out.lift hw5)
          clear hv5 hb4 hb5 ht5 C1 hs4 hw5
          obtain ⟨⟨c0, z0⟩, c1', z1⟩ := HTO.out
          obtain ⟨⟨d0, y0⟩, d1, y1⟩ := HTB5.out
          rw [← HV5.out] at c0 z0 c1' z1 d0 y0 d1 y1
          go_wp2_with fail
          rw [HV5.out]
          refine (HLO.out v5).mono ?_
          rintro e v6 ⟨rfl, hb6⟩
          have HB6 := Lib.hid (HB5.out.trans (hb6.mono HB5.out.size))
          have HTO6 := Lib.hid (HTO.out.lift hb6)
          have HTB6 := Lib.hid (HTB5.out.lift hb6)
          clear hb6 c0 z0 c1' z1 d0 y0 d1 y1
          obtain ⟨⟨c0, z0⟩, c1', z1⟩ := HTO6.out
          obtain ⟨⟨d0, y0⟩, d1, y1⟩ := HTB6.out
          by_cases hkn : k < n
          · have hknI : (k : Int) < (n : Int) := by omega
            have heq2 : ∀ w, (binOp .eql 24 (.agg #[.int .i64 (P : Int), .int .i64 (Q : Int)]) (.agg #[.int .i64 (U : Int), .int .i64 (D : Int)])).run Try.prog w = .ok (.bool false) w := fun w => by
              rw [run_eq_frac2]
              have := HA2.out hkn
              have e : (decide ((P : Int) = U) && decide ((Q : Int) = D)) = false := by simp; omega
              rw [e]
            go_wp2_with fail
            go_roundw
            case rel => exact ⟨k + 1, by omega, by omega, by go_num, HB6.out⟩
            case measure => simp [intOf]; omega
          · have hknI : ¬ (k : Int) < (n : Int) := by omega
            go_wp2_with fail
            go_roundw
            case rel => exact ⟨k + 1, by omega, by omega, by go_num, HB6.out⟩
            case measure => simp [intOf]; omega
        · obtain rfl : k = 8 := by omega
          have HBZ := Lib.hid (hB7.trans (HB.out.mono hB7.size))
          obtain ⟨⟨c0, z0⟩, c1', z1⟩ := HTB.out.lift HB.out
          obtain ⟨⟨d0, y0⟩, d1, y1⟩ := HTN.out.lift HB.out
          by_cases hpf : o < u
          · go_wp2_with fail
            go_ret
            exact ⟨rfl, HBZ.out⟩
          · obtain ⟨rfl, rfl⟩ := HAN2.out (by omega)
            have heq3 := run_eq_frac U D
            go_wp2_with fail
            go_ret
            exact ⟨rfl, HBZ.out⟩
  · go_enter Try.func6, Try.ntmps6
    go_wp2
    go_ret
    exact ⟨rfl, Below.refl _ _⟩
end Go.Proofs.Ytkjmpkincaainac
