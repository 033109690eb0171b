/- The law FnAllChances returns true at every code, and the code reads behind the call as it read before. No condition. -/
import Derived.Test.YtkebdelfklmigacRows
import Derived.WalkKit
import Derived.LoopTactic
import Derived.Outline
import Derived.WalkSpells
import Derived.WalkLawsBesides
import Derived.ProofKit
import Derived.Deep.QuietTactic
import Derived.BigQuiet
import Derived.IntWalk
import Derived.Test.YtkebdelfklmigacM0
import Derived.Test.YtkebdelfklmigacM1
import Derived.Test.YtkebdelfklmigacM2
import Derived.Test.YtkebdelfklmigacM3
import Derived.Test.YtkebdelfklmigacM5
import Derived.Test.YtkebdelfklmigacM6
import Derived.Test.YtkebdelfklmigacM7
import Derived.Test.YtkebdelfklmigacM11
import Derived.Test.YtkebdelfklmigacM12
import Derived.Test.YtkebdelfklmigacM13
namespace Go.Proofs.Ytkebdelfklmigac
open Go.RowKit Go.WideShapes

set_option maxRecDepth 100000 in
set_option maxHeartbeats 2000000 in
theorem fnAllChances_any (a : Option Addr) (len cap : Nat) (w : World) (hb : BytesAt w w.heap.size a len) (hl : len ≤ cap) (hs : len ≤ 9223372036854775807) :
    Calls Try.prog 5 #[.slice a len cap] w (LawPost w) := by
  by_cases h20 : len ≤ 1048576
  · go_enter Try.func5, Try.ntmps5
    have hB0 := Below.refl w.heap.size w
    go_wp2_with fail
    refine (drawPassChance_any a len cap w hb hl hs).mono ?_
    rintro e w1 ⟨x0, x1, x2, x3, rfl, r0a, r0b, r1a, r1b, r2a, r2b, r3a, r3b, hb1⟩
    have hB1 : Below w.heap.size w w1 := hB0.trans (hb1.mono hB0.size)
    clear hB0
    clear hb hb1
    go_wp2_with fail
    refine (passChance_impl x0 x1 x2 x3 w1).mono ?_
    rintro e w2 ⟨rfl, hb2⟩
    have hB2 : Below w.heap.size w w2 := hB1.trans (hb2.mono hB1.size)
    clear hB1
    clear hb2
    obtain ⟨U, hU⟩ : ∃ u, passU x0 x1 x2 x3 = u := ⟨_, rfl⟩
    obtain ⟨D, hD⟩ : ∃ u, passD x0 x1 x2 x3 = u := ⟨_, rfl⟩
    obtain ⟨B, hB⟩ : ∃ u, planB x0 x1 x2 x3 = u := ⟨_, rfl⟩
    rw [hU, hD, hB]
    have HU := Lib.hid hU
    have HD := Lib.hid hD
    have HB := Lib.hid hB
    clear hU hD hB
    have frx_n := two_new w2 (.int .i64 (U : Int)) (.int .i64 (D : Int)) 27
    have hbx := (Below.refl w2.heap.size w2).alloc (Nat.le_refl _) (.cells #[.int .i64 (U : Int), .int .i64 (D : Int)] 27)
    obtain ⟨w3, hw3⟩ : ∃ wx, w2.alloc (.cells #[.int .i64 (U : Int), .int .i64 (D : Int)] 27) = wx := ⟨_, rfl⟩
    rw [hw3] at frx_n hbx
    have HW3 := Lib.hid hw3
    clear hw3
    have hB3 : Below w.heap.size w w3 := hB2.trans (hbx.mono hB2.size)
    clear hB2
    clear hbx
    have frx_3 := frx_n
    clear frx_n
    have cx0 := frx_3.1.1
    have cx1 := frx_3.2.1
    rw [← HW3.out] at cx0 cx1
    go_wp2_with fail
    rw [HW3.out]
    refine (passChance_spec x0 x1 x2 x3 w3).mono ?_
    rintro e w4 ⟨rfl, hb3⟩
    clear cx0 cx1
    have frx_4 := frx_3.block (hb3.block _ frx_3.lt)
    clear frx_3
    have hB4 : Below w.heap.size w w4 := hB3.trans (hb3.mono hB3.size)
    clear hB3
    clear hb3
    rw [HU.out, HD.out, HB.out]
    have fru_n := two_new w4 (.int .i64 (U : Int)) (.int .i64 (D : Int)) 27
    have hbx := (Below.refl w4.heap.size w4).alloc (Nat.le_refl _) (.cells #[.int .i64 (U : Int), .int .i64 (D : Int)] 27)
    obtain ⟨w5, hw5⟩ : ∃ wx, w4.alloc (.cells #[.int .i64 (U : Int), .int .i64 (D : Int)] 27) = wx := ⟨_, rfl⟩
    rw [hw5] at fru_n hbx
    have HW5 := Lib.hid hw5
    clear hw5
    have frx_5 := frx_4.block (hbx.block _ frx_4.lt)
    clear frx_4
    have hB5 : Below w.heap.size w w5 := hB4.trans (hbx.mono hB4.size)
    clear hB4
    clear hbx
    have fru_5 := fru_n
    clear fru_n
    have hne := run_neq_frac U D
    have heq := run_eq_frac U D
    have hbe : (B != B) = false := by simp
    have cx0 := frx_5.1.1
    have cx1 := frx_5.2.1
    have cu0 := fru_5.1.1
    have cu1 := fru_5.2.1
    rw [← HW5.out] at cx0 cx1 cu0 cu1
    go_wp2_with fail
    rw [HW5.out]
    refine (passChance_impl x0 x1 x2 12 w5).mono ?_
    rintro e w6 ⟨rfl, hbm⟩
    clear cx0 cx1
    clear cu0 cu1
    have frx_6 := frx_5.block (hbm.block _ frx_5.lt)
    clear frx_5
    have fru_6 := fru_5.block (hbm.block _ fru_5.lt)
    clear fru_5
    have hB6 : Below w.heap.size w w6 := hB5.trans (hbm.mono hB5.size)
    clear hB5
    clear hbm
    obtain ⟨U1, hU1⟩ : ∃ u, passU x0 x1 x2 12 = u := ⟨_, rfl⟩
    obtain ⟨D1, hD1⟩ : ∃ u, passD x0 x1 x2 12 = u := ⟨_, rfl⟩
    obtain ⟨B1, hB1⟩ : ∃ u, planB x0 x1 x2 12 = u := ⟨_, rfl⟩
    rw [hU1, hD1, hB1]
    have HU1 := Lib.hid hU1
    have HD1 := Lib.hid hD1
    have HB1 := Lib.hid hB1
    clear hU1 hD1 hB1
    have fra_n := two_new w6 (.int .i64 (U1 : Int)) (.int .i64 (D1 : Int)) 27
    have hbx := (Below.refl w6.heap.size w6).alloc (Nat.le_refl _) (.cells #[.int .i64 (U1 : Int), .int .i64 (D1 : Int)] 27)
    obtain ⟨w7, hw7⟩ : ∃ wx, w6.alloc (.cells #[.int .i64 (U1 : Int), .int .i64 (D1 : Int)] 27) = wx := ⟨_, rfl⟩
    rw [hw7] at fra_n hbx
    have HW7 := Lib.hid hw7
    clear hw7
    have frx_7 := frx_6.block (hbx.block _ frx_6.lt)
    clear frx_6
    have fru_7 := fru_6.block (hbx.block _ fru_6.lt)
    clear fru_6
    have hB7 : Below w.heap.size w w7 := hB6.trans (hbx.mono hB6.size)
    clear hB6
    clear hbx
    have fra_7 := fra_n
    clear fra_n
    clear hne heq
    have hne := run_neq_frac U D
    cases B1
    · have cx0 := frx_7.1.1
      have cx1 := frx_7.2.1
      have cu0 := fru_7.1.1
      have cu1 := fru_7.2.1
      have ca0 := fra_7.1.1
      have ca1 := fra_7.2.1
      rw [← HW7.out] at cx0 cx1 cu0 cu1 ca0 ca1
      go_wp2_with fail
      rw [HW7.out]
      go_wp2_with fail
      go_ret
      exact ⟨rfl, hB7⟩
    · obtain ⟨l, b, s, m0, rfl, rfl, rfl, hm0, h1, h12, hbl, hsl, hm⟩ := plan_get HB1.out
      have HV := Lib.hid (show planB l b s ((12 : Nat) : Int) = true from HB1.out)
      clear hm0 hm m0
      obtain ⟨a1, a2⟩ := pass_all HV.out (by omega)
      have e1 : U1 = 1 := by rw [← HU1.out]; exact a1
      have e2 : D1 = 1 := by rw [← HD1.out]; exact a2
      subst e1
      subst e2
      clear a1 a2
      have hz := HW7.out
      rw [show ((1 : Nat) : Int) = 1 from rfl] at hz
      have HZ := Lib.hid hz
      clear hz
      have HA := Lib.hid fra_7
      have HX := Lib.hid (And.intro frx_7 fru_7)
      obtain ⟨q1, q2, q3⟩ := psum_all l (by omega) b (by omega) s (by omega)
      obtain ⟨c1, c2⟩ := ch_1 h12 hsl
      have HPB := Lib.hid (show ∀ k, k ≤ 13 → psum l b s k ≤ 924 from fun k hk => Nat.le_trans (psum_le h12 hbl hsl hk) c2)
      have HMB := Lib.hid (show ∀ k, k ≤ 13 → msum l b s k ≤ 11088 from fun k hk => by have := msum_le (l := l) (b := b) (s := s) k hk; have := HPB.out k hk; omega)
      have HQ2 := Lib.hid q2
      have HQ3 := Lib.hid q3
      have HT := Lib.hid (fun k (hk : k ≤ 12) => trm_chI (k := k) h12 hbl hsl hk)
      have HCI := Lib.hid (fun n k (hn : n ≤ 12) => @chI_bd n k hn)
      have HC := Lib.hid (fun n k => chooseOf_impl n k)
      have HE1 : Hid (∀ k : Nat, chooseM (b : Int) (k : Int) = (chI b k : Nat)) := Lib.hid (fun k => by unfold chooseM; rw [inB_true (by omega) (by omega), if_pos rfl, Int.toNat_natCast])
      have HE2 : Hid (∀ k : Nat, chooseM ((l : Int) - (b : Int)) ((s : Int) - (k : Int)) = (chI (l - b) ((s : Int) - (k : Int)) : Nat)) := Lib.hid (fun k => by unfold chooseM; rw [inB_true (by omega) (by omega), if_pos rfl, show ((l : Int) - (b : Int)).toNat = l - b by omega])
      have HE3 : Hid (chooseM (l : Int) (s : Int) = (ch l s : Nat)) := Lib.hid (by unfold chooseM; rw [inB_true (by omega) (by omega), if_pos rfl, Int.toNat_natCast, chI_nat h12 (by omega)])
      clear q1 q2 q3
      have cx0 := HX.out.1.1.1
      have cx1 := HX.out.1.2.1
      have cu0 := HX.out.2.1.1
      have cu1 := HX.out.2.2.1
      rw [← HZ.out] at cx0 cx1 cu0 cu1
      clear fra_7 frx_7 fru_7
      go_wp2_with fail
      rw [HZ.out]
      clear cx0 cx1 cu0 cu1 hne hbe
      go_wp2_with fail
      go_loopw [13, 14, 15] (fun x y z wr => ∃ k c e : Nat, x = .int .i64 c ∧ y = .int .i64 e ∧ z = .int .i64 k ∧ k ≤ s + 1 ∧ c = psum l b s k ∧ e = msum l b s k ∧ Two wr w6.heap.size (.int .i64 1) (.int .i64 1) ∧ Below w.heap.size w wr) (fun _ _ z _ => s + 1 - (intOf z).toNat)
      case atStart => exact ⟨0, 0, 0, rfl, rfl, rfl, by omega, rfl, rfl, HA.out, hB7⟩
      case round =>
        clear HA hB7 HX
        obtain ⟨k, c, e0, rfl, rfl, rfl, hk, hc, he, ht, hb⟩ := hrel
        obtain ⟨wi, rfl⟩ : ∃ wi : World, wi = wr := ⟨_, rfl⟩
        have hc9 : c ≤ 924 := by rw [hc]; exact HPB.out k (by omega)
        have he9 : e0 ≤ 11088 := by rw [he]; exact HMB.out k (by omega)
        have HCC := Lib.hid hc
        have HEE := Lib.hid he
        have HTI := Lib.hid ht
        have HBI := Lib.hid hb
        clear hc he ht hb
        by_cases hks : k ≤ s
        · have hkI : (k : Int) ≤ (s : Int) := by omega
          have HTJ := Lib.hid (HT.out k (by omega))
          have ht9 : trm l b s k ≤ 924 := by have := HPB.out (k + 1) (by omega); rw [psum] at this; omega
          go_wp2_with fail
          refine (HC.out (b : Int) (k : Int) wi).mono ?_
          rintro e w20 ⟨rfl, hb20⟩
          rw [HE1.out]
          have HB20 := Lib.hid (HBI.out.trans (hb20.mono HBI.out.size))
          have HT20 := Lib.hid (HTI.out.lift hb20)
          clear hb20
          go_wp2_with fail
          refine (HC.out ((l : Int) - (b : Int)) ((s : Int) - (k : Int)) w20).mono ?_
          rintro e w21 ⟨rfl, hb21⟩
          rw [HE2.out]
          have HB21 := Lib.hid (HB20.out.trans (hb21.mono HB20.out.size))
          have HT21 := Lib.hid (HT20.out.lift hb21)
          clear hb21
          obtain ⟨x, hx⟩ : ∃ x, chI b (k : Int) = x := ⟨_, rfl⟩
          obtain ⟨y, hy⟩ : ∃ y, chI (l - b) ((s : Int) - (k : Int)) = y := ⟨_, rfl⟩
          rw [hx, hy] at HTJ
          rw [hx, hy]
          clear hx hy
          have HXY : Hid ((x : Int) * (y : Int) = ((trm l b s k : Nat) : Int)) := Lib.hid (by rw [HTJ.out]; push_cast; rfl)
          obtain ⟨t, htt⟩ : ∃ t, trm l b s k = t := ⟨_, rfl⟩
          rw [htt] at HXY ht9
          have HTT := Lib.hid htt
          clear htt HTJ
          obtain ⟨p, hp⟩ : ∃ p, (x : Int) * (y : Int) = p := ⟨_, rfl⟩
          have hp2 : p = (t : Int) := by rw [← hp]; exact HXY.out
          subst hp2
          have hkt : k * t ≤ 12 * 924 := Nat.mul_le_mul (by omega) ht9
          have HKT : Hid ((k : Int) * (t : Int) = ((k * t : Nat) : Int)) := Lib.hid (by push_cast; rfl)
          obtain ⟨r, hr⟩ : ∃ r, (k : Int) * (t : Int) = r := ⟨_, rfl⟩
          have hr2 : 0 ≤ r ∧ r ≤ 11088 := by rw [← hr, HKT.out]; omega
          go_wp2
          go_roundw
          case rel => exact ⟨k + 1, c + t, e0 + k * t, by go_num, by rw [← hr, HKT.out]; push_cast; rfl, by go_num, by omega, by rw [psum, ← HCC.out, HTT.out], by rw [msum, ← HEE.out, HTT.out], HT21.out, HB21.out⟩
          case measure => simp [intOf]; omega
        · have hkq : k = s + 1 := by omega
          subst hkq
          have hkI : ¬ ((s : Int) + 1) ≤ (s : Int) := by omega
          have e1 : c = ch l s := HCC.out.trans HQ2.out
          have e2 : e0 * l = s * b * c := by rw [e1, HEE.out]; exact HQ3.out
          have E2 : Hid ((e0 : Int) * (l : Int) = (s : Int) * (b : Int) * (c : Int)) := Lib.hid (by exact_mod_cast e2)
          have E1 := Lib.hid e1
          have m1 : e0 * l ≤ 11088 * 12 := Nat.mul_le_mul he9 h12
          have m2 : s * b ≤ 12 * 12 := Nat.mul_le_mul (by omega) (by omega)
          have W1 : Hid (IntKind.i64.wrap ((e0 : Int) * (l : Int)) = ((e0 * l : Nat) : Int)) := Lib.hid (by rw [show (e0 : Int) * (l : Int) = ((e0 * l : Nat) : Int) by push_cast; rfl]; exact IntWalk.i64_in _ (by omega))
          have W2 : Hid (IntKind.i64.wrap ((s : Int) * (b : Int)) = ((s * b : Nat) : Int)) := Lib.hid (by rw [show (s : Int) * (b : Int) = ((s * b : Nat) : Int) by push_cast; rfl]; exact IntWalk.i64_in _ (by omega))
          have W3 : Hid (IntKind.i64.wrap (((s * b : Nat) : Int) * (c : Int)) = ((e0 * l : Nat) : Int)) := Lib.hid (by rw [show ((s * b : Nat) : Int) * (c : Int) = ((s * b * c : Nat) : Int) by push_cast; rfl, ← e2]; exact IntWalk.i64_in _ (by omega))
          obtain ⟨v1, hv1⟩ : ∃ v1, e0 * l = v1 := ⟨_, rfl⟩
          obtain ⟨v2, hv2⟩ : ∃ v2, s * b = v2 := ⟨_, rfl⟩
          rw [hv1] at W1 W3
          rw [hv2] at W2 W3
          clear e1 e2 hv1 hv2 m1 m2
          have hB77 := HBI.out
          have frz_77 := HTI.out
          have HF := Lib.hid (lfrac_any 1 1 (by omega) (by omega) (by omega))
          rw [show fU 1 1 = 1 from rfl, show fD 1 1 = 1 from rfl] at HF
          unfold FracP at HF
          go_wp2_with fail
          have HL := Lib.hid (fun w' (hS : Below wi.heap.size wi w') => frz_77.lift hS)
          have HY0 : Hid (Below wi.heap.size wi wi.drew) := Lib.hid (Below.refl _ _).drew
          refine wp_region_held_drew (S := (fun w' => Below wi.heap.size wi w')) (by kernel_rfl) HY0.out (fun hHeld => ?_)
          refine wpAnyH_take (i := 0) (v := .agg #[.int .i64 1, .int .i64 1]) rfl (by kernel_rfl) (by kernel_rfl) (by kernel_rfl) (fun _ _ _ h => h) (Or.inl ⟨by rfl, ?_⟩) hHeld ?_
          · rintro w' hS; have k0 := (HL.out w' hS).1.1; have k1 := (HL.out w' hS).2.1; go_simp
          try simp only [Act.put, List.setIfInBounds_toArray, List.set_cons_zero, List.set_cons_succ, List.getElem_toArray, List.getElem_cons_succ, List.getElem_cons_zero]
          refine wpAnyH_ready (rs := [1]) (by kernel_rfl) (by simp) ?_
          refine AllReadyH.cons (o := _) rfl (fun K hK => ?_) AllReadyH.nil
          go_simp
          go_at_call 12
          refine (HF.out _).mono ?_
          rintro e wy1 ⟨rfl, hy⟩
          have HY1 := Lib.hid (HY0.out.trans (hy.mono HY0.out.size))
          clear hy
          refine hK.out _ _ HY1.out (fun hHeld => ?_)
          clear hK K
          try simp only [Act.put, List.setIfInBounds_toArray, List.set_cons_zero, List.set_cons_succ, List.getElem_toArray, List.getElem_cons_succ, List.getElem_cons_zero]
          refine wpAnyH_take (i := 2) (v := .bool true) rfl (by kernel_rfl) (by kernel_rfl) (by kernel_rfl) (fun _ _ _ h => h) (Or.inl ⟨by rfl, ?_⟩) hHeld ?_
          · rintro w' hS; have h := run_eq_frac 1 1 w'; go_simp
          try simp only [Act.put, List.setIfInBounds_toArray, List.set_cons_zero, List.set_cons_succ, List.getElem_toArray, List.getElem_cons_succ, List.getElem_cons_zero]
          refine wpAnyH_take (i := 3) (v := .bool true) rfl (by kernel_rfl) (by kernel_rfl) (by kernel_rfl) (fun _ _ _ h => h) (Or.inl ⟨by rfl, ?_⟩) hHeld ?_
          · rintro w' hS; go_simp
          try simp only [Act.put, List.setIfInBounds_toArray, List.set_cons_zero, List.set_cons_succ, List.getElem_toArray, List.getElem_cons_succ, List.getElem_cons_zero]
          refine wpAnyH_take (i := 4) (v := .int .i64 c) rfl (by kernel_rfl) (by kernel_rfl) (by kernel_rfl) (fun _ _ _ h => h) (Or.inl ⟨by rfl, ?_⟩) hHeld ?_
          · rintro w' hS; go_simp
          try simp only [Act.put, List.setIfInBounds_toArray, List.set_cons_zero, List.set_cons_succ, List.getElem_toArray, List.getElem_cons_succ, List.getElem_cons_zero]
          refine wpAnyH_take (i := 5) (v := .int .i64 l) rfl (by kernel_rfl) (by kernel_rfl) (by kernel_rfl) (fun _ _ _ h => h) (Or.inl ⟨by rfl, ?_⟩) hHeld ?_
          · rintro w' hS; go_simp
          try simp only [Act.put, List.setIfInBounds_toArray, List.set_cons_zero, List.set_cons_succ, List.getElem_toArray, List.getElem_cons_succ, List.getElem_cons_zero]
          refine wpAnyH_take (i := 6) (v := .int .i64 s) rfl (by kernel_rfl) (by kernel_rfl) (by kernel_rfl) (fun _ _ _ h => h) (Or.inl ⟨by rfl, ?_⟩) hHeld ?_
          · rintro w' hS; go_simp
          try simp only [Act.put, List.setIfInBounds_toArray, List.set_cons_zero, List.set_cons_succ, List.getElem_toArray, List.getElem_cons_succ, List.getElem_cons_zero]
          refine wpAnyH_ready (rs := [7]) (by kernel_rfl) (by simp) ?_
          refine AllReadyH.cons (o := _) rfl (fun K hK => ?_) AllReadyH.nil
          go_simp
          go_at_call 15
          refine (HC.out _ _ _).mono ?_
          rintro e wy2 ⟨rfl, hy⟩
          have HY2 := Lib.hid (HY1.out.trans (hy.mono HY1.out.size))
          clear hy
          rw [HE3.out, ← E1.out]
          refine hK.out _ _ HY2.out (fun hHeld => ?_)
          clear hK K
          try simp only [Act.put, List.setIfInBounds_toArray, List.set_cons_zero, List.set_cons_succ, List.getElem_toArray, List.getElem_cons_succ, List.getElem_cons_zero]
          refine wpAnyH_take (i := 8) (v := .bool true) rfl (by kernel_rfl) (by kernel_rfl) (by kernel_rfl) (fun _ _ _ h => h) (Or.inl ⟨by rfl, ?_⟩) hHeld ?_
          · rintro w' hS; have h : ((c : Int) == (c : Int)) = true := by simp
            go_simp
          try simp only [Act.put, List.setIfInBounds_toArray, List.set_cons_zero, List.set_cons_succ, List.getElem_toArray, List.getElem_cons_succ, List.getElem_cons_zero]
          refine wpAnyH_take (i := 9) (v := .bool true) rfl (by kernel_rfl) (by kernel_rfl) (by kernel_rfl) (fun _ _ _ h => h) (Or.inl ⟨by rfl, ?_⟩) hHeld ?_
          · rintro w' hS; go_simp
          try simp only [Act.put, List.setIfInBounds_toArray, List.set_cons_zero, List.set_cons_succ, List.getElem_toArray, List.getElem_cons_succ, List.getElem_cons_zero]
          refine wpAnyH_take (i := 10) (v := .bool true) rfl (by kernel_rfl) (by kernel_rfl) (by kernel_rfl) (fun _ _ _ h => h) (Or.inl ⟨by rfl, ?_⟩) hHeld ?_
          · rintro w' hS; go_simp
          try simp only [Act.put, List.setIfInBounds_toArray, List.set_cons_zero, List.set_cons_succ, List.getElem_toArray, List.getElem_cons_succ, List.getElem_cons_zero]
          refine wpAnyH_take (i := 11) (v := .int .i64 e0) rfl (by kernel_rfl) (by kernel_rfl) (by kernel_rfl) (fun _ _ _ h => h) (Or.inl ⟨by rfl, ?_⟩) hHeld ?_
          · rintro w' hS; go_simp
          try simp only [Act.put, List.setIfInBounds_toArray, List.set_cons_zero, List.set_cons_succ, List.getElem_toArray, List.getElem_cons_succ, List.getElem_cons_zero]
          refine wpAnyH_take (i := 12) (v := .int .i64 l) rfl (by kernel_rfl) (by kernel_rfl) (by kernel_rfl) (fun _ _ _ h => h) (Or.inl ⟨by rfl, ?_⟩) hHeld ?_
          · rintro w' hS; go_simp
          try simp only [Act.put, List.setIfInBounds_toArray, List.set_cons_zero, List.set_cons_succ, List.getElem_toArray, List.getElem_cons_succ, List.getElem_cons_zero]
          refine wpAnyH_take (i := 13) (v := .int .i64 v1) rfl (by kernel_rfl) (by kernel_rfl) (by kernel_rfl) (fun _ _ _ h => h) (Or.inl ⟨by rfl, ?_⟩) hHeld ?_
          · rintro w' hS; go_simp; rw [← W1.out, IntWalk.i64_left]
          try simp only [Act.put, List.setIfInBounds_toArray, List.set_cons_zero, List.set_cons_succ, List.getElem_toArray, List.getElem_cons_succ, List.getElem_cons_zero]
          refine wpAnyH_take (i := 14) (v := .int .i64 s) rfl (by kernel_rfl) (by kernel_rfl) (by kernel_rfl) (fun _ _ _ h => h) (Or.inl ⟨by rfl, ?_⟩) hHeld ?_
          · rintro w' hS; go_simp
          try simp only [Act.put, List.setIfInBounds_toArray, List.set_cons_zero, List.set_cons_succ, List.getElem_toArray, List.getElem_cons_succ, List.getElem_cons_zero]
          refine wpAnyH_take (i := 15) (v := .int .i64 b) rfl (by kernel_rfl) (by kernel_rfl) (by kernel_rfl) (fun _ _ _ h => h) (Or.inl ⟨by rfl, ?_⟩) hHeld ?_
          · rintro w' hS; go_simp
          try simp only [Act.put, List.setIfInBounds_toArray, List.set_cons_zero, List.set_cons_succ, List.getElem_toArray, List.getElem_cons_succ, List.getElem_cons_zero]
          refine wpAnyH_take (i := 16) (v := .int .i64 v2) rfl (by kernel_rfl) (by kernel_rfl) (by kernel_rfl) (fun _ _ _ h => h) (Or.inl ⟨by rfl, ?_⟩) hHeld ?_
          · rintro w' hS; go_simp; rw [← W2.out, IntWalk.i64_left]
          try simp only [Act.put, List.setIfInBounds_toArray, List.set_cons_zero, List.set_cons_succ, List.getElem_toArray, List.getElem_cons_succ, List.getElem_cons_zero]
          refine wpAnyH_take (i := 17) (v := .int .i64 c) rfl (by kernel_rfl) (by kernel_rfl) (by kernel_rfl) (fun _ _ _ h => h) (Or.inl ⟨by rfl, ?_⟩) hHeld ?_
          · rintro w' hS; go_simp
          try simp only [Act.put, List.setIfInBounds_toArray, List.set_cons_zero, List.set_cons_succ, List.getElem_toArray, List.getElem_cons_succ, List.getElem_cons_zero]
          refine wpAnyH_take (i := 18) (v := .int .i64 v1) rfl (by kernel_rfl) (by kernel_rfl) (by kernel_rfl) (fun _ _ _ h => h) (Or.inl ⟨by rfl, ?_⟩) hHeld ?_
          · rintro w' hS; go_simp; rw [← W3.out, IntWalk.i64_left]
          try simp only [Act.put, List.setIfInBounds_toArray, List.set_cons_zero, List.set_cons_succ, List.getElem_toArray, List.getElem_cons_succ, List.getElem_cons_zero]
          refine wpAnyH_take (i := 19) (v := .bool true) rfl (by kernel_rfl) (by kernel_rfl) (by kernel_rfl) (fun _ _ _ h => h) (Or.inl ⟨by rfl, ?_⟩) hHeld ?_
          · rintro w' hS; have h : ((v1 : Int) == (v1 : Int)) = true := by simp
            go_simp
          try simp only [Act.put, List.setIfInBounds_toArray, List.set_cons_zero, List.set_cons_succ, List.getElem_toArray, List.getElem_cons_succ, List.getElem_cons_zero]
          refine wpAnyH_take (i := 20) (v := .bool true) rfl (by kernel_rfl) (by kernel_rfl) (by kernel_rfl) (fun _ _ _ h => h) (Or.inl ⟨by rfl, ?_⟩) hHeld ?_
          · rintro w' hS; go_simp
          try simp only [Act.put, List.setIfInBounds_toArray, List.set_cons_zero, List.set_cons_succ, List.getElem_toArray, List.getElem_cons_succ, List.getElem_cons_zero]
          refine wpAnyH_take (i := 21) (v := .bool true) rfl (by kernel_rfl) (by kernel_rfl) (by kernel_rfl) (fun _ _ _ h => h) (Or.inl ⟨by rfl, ?_⟩) hHeld ?_
          · rintro w' hS; go_simp
          try simp only [Act.put, List.setIfInBounds_toArray, List.set_cons_zero, List.set_cons_succ, List.getElem_toArray, List.getElem_cons_succ, List.getElem_cons_zero]
          refine wpAnyH_done (by kernel_rfl) ?_ _
          clear hHeld
          go_wp2_with fail
          go_ret
          exact ⟨rfl, hB77.trans (HY2.out.mono hB77.size)⟩
  · go_enter Try.func5, Try.ntmps5
    go_wp2
    go_ret
    exact ⟨rfl, Below.refl _ _⟩
end Go.Proofs.Ytkebdelfklmigac
