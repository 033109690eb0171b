/- The law FnCostsOf returns true at every code, and the code reads behind the call as it read before. No condition. -/
import Derived.Test.YtcfahmffboipiaaRows
import Derived.WalkKit
import Derived.LoopTactic
import Derived.Outline
import Derived.WalkSpells
import Derived.WalkLawsBesides
import Derived.ProofKit
import Derived.Deep.QuietTactic
import Derived.BigQuiet
import Derived.IntWalk
import Derived.Deep.RegionHeld3
import Derived.Test.YtcfahmffboipiaaLib
import Derived.Test.YtcfahmffboipiaaRd
import Derived.Test.YtcfahmffboipiaaEx
import Derived.Test.YtcfahmffboipiaaLaws
import Derived.Test.YtcfahmffboipiaaCountM
import Derived.Test.YtcfahmffboipiaaTakesM
import Derived.Test.YtcfahmffboipiaaTakes
import Derived.Test.YtcfahmffboipiaaBillM
import Derived.Test.YtcfahmffboipiaaNetM
import Derived.Test.YtcfahmffboipiaaVal2
import Derived.Test.YtcfahmffboipiaaCostSpec
import Derived.Test.YtcfahmffboipiaaCosts
import Derived.Test.YtcfahmffboipiaaNeedSpec
import Derived.Test.YtcfahmffboipiaaWants
import Derived.Test.YtcfahmffboipiaaSt3
import Derived.Test.YtcfahmffboipiaaBackw
namespace Go.Proofs.Ytcfahmffboipiaa
open Go.RowKit Go.WideShapes

theorem costSum_bd {rows : List (List Int)} (hv : validBillM rows = true) {own : List Int} (ho : ∀ k, 0 ≤ own.getD k 0 ∧ own.getD k 0 ≤ 20) (i : Nat) {m : Nat} (hm : m ≤ 7) : 0 ≤ sumTo (fun j => takeM rows i j * own.getD j 0) m ∧ sumTo (fun j => takeM rows i j * own.getD j 0) m ≤ 10000000000 := by
  have h1 : ∀ j, 0 ≤ takeM rows i j * own.getD j 0 ∧ takeM rows i j * own.getD j 0 ≤ 34012224 * 20 := fun j => mul_box (takeM_nonneg hv i j) (takeM_le hv i j) (ho j).1 (ho j).2
  have h2 := sumTo_nonneg (f := fun j => takeM rows i j * own.getD j 0) (n := m) (fun k _ => (h1 k).1)
  have h3 := sumTo_le (f := fun j => takeM rows i j * own.getD j 0) (B := 34012224 * 20) (n := m) (fun k _ => (h1 k).2)
  exact ⟨h2, by omega⟩
theorem prodSum_bd {f g : Nat → Int} {A B : Int} (n : Nat) (hA : 0 ≤ A) (hf : ∀ k, k < n → 0 ≤ f k ∧ f k ≤ A) (hg : ∀ k, k < n → 0 ≤ g k ∧ g k ≤ B) {m : Nat} (hm : m ≤ n) (hn : n ≤ 6) (hAB : A * B ≤ 1000000000000) : 0 ≤ sumTo (fun k => f k * g k) m ∧ sumTo (fun k => f k * g k) m ≤ 6000000000000 := by
  have h1 : ∀ k, k < m → 0 ≤ f k * g k ∧ f k * g k ≤ A * B := fun k hk => mul_box (hf k (by omega)).1 (hf k (by omega)).2 (hg k (by omega)).1 (hg k (by omega)).2
  have h2 := sumTo_nonneg (f := fun k => f k * g k) (n := m) (fun k hk => (h1 k hk).1)
  have h3 := sumTo_le (f := fun k => f k * g k) (B := 1000000000000) (n := m) (fun k hk => Int.le_trans (h1 k hk).2 hAB)
  exact ⟨h2, by omega⟩
theorem rev_wants {n : Int} {xs : List Int} (h : wantsM n xs = true) : wantsM n (revM xs) = true := by
  have hl := wants_len h
  rw [wantsM, revM_length, decide_eq_true hl, Bool.and_true]
  refine allIn_of (fun k hk => ?_)
  rw [revM_length] at hk
  rw [revM_getD _ hk]
  exact wants_at h _

set_option maxRecDepth 100000 in
set_option maxHeartbeats 4000000 in
theorem fnCostsOf_any (a : Option Addr) (len cap : Nat) (w : World) (hb : BytesAt w w.heap.size a len) (hl : len ≤ cap) (hs : len ≤ 9223372036854775807) :
    Calls Try.prog 5 #[.slice a len cap] w (LawPost w) := by
  by_cases h20 : len ≤ 1048576
  · go_enter Try.func5, Try.ntmps5
    have hB0 := Below.refl w.heap.size w
    go_wp2_with fail
    refine (drawCostsOf_any a len cap w hb hl hs).mono ?_
    rintro e w1 ⟨a1, l1, c1, rows, a2, l2, c2, ws, rfl, n_b, hc1, n_v, hc2, hb1⟩
    have hB1 : Below w.heap.size w w1 := hB0.trans (hb1.mono hB0.size)
    clear hB0
    have xb_1 := n_b
    have xv_1 := n_v
    clear n_b
    clear n_v
    clear hb
    go_wp2_with fail
    refine (costsOf_impl a1 l1 c1 rows a2 l2 c2 ws w1 xb_1 xv_1).mono ?_
    rintro e w2 ⟨a3, l3, c3, rfl, n_g, _, hb2⟩
    have xb_2 := rows_lift xb_1 hb2
    have xv_2 := ints_lift xv_1 hb2
    have hB2 : Below w.heap.size w w2 := hB1.trans (hb2.mono hB1.size)
    clear hB1 xb_1 xv_1
    have xg_2 := ints_in n_g (Nat.le_refl _)
    clear n_g
    go_wp2_with fail
    refine (costsOf_spec a1 l1 c1 rows a2 l2 c2 ws w2 xb_2 xv_2).mono ?_
    rintro e w3 ⟨a4, l4, c4, rfl, n_k, _, hb3⟩
    have xb_3 := rows_lift xb_2 hb3
    have xv_3 := ints_lift xv_2 hb3
    have xg_3 := ints_lift xg_2 hb3
    have hB3 : Below w.heap.size w w3 := hB2.trans (hb3.mono hB2.size)
    clear hB2 xb_2 xv_2 xg_2
    have xk_3 := ints_in n_k (Nat.le_refl _)
    clear n_k
    have heq : eqB (costRes rows ws) (costRes rows ws) = true := decide_eq_true rfl
    go_wp2_with fail
    refine (equalInts_any _ _ _ _ _ _ _ _ _ _ _ xg_3 xk_3).mono ?_
    rintro e w4 ⟨rfl, dd⟩
    have xb_4 := rows_lift xb_3 (dd.below _)
    have xv_4 := ints_lift xv_3 (dd.below _)
    have xg_4 := ints_lift xg_3 (dd.below _)
    have xk_4 := ints_lift xk_3 (dd.below _)
    have hB4 : Below w.heap.size w w4 := hB3.trans (dd.below w.heap.size)
    clear hB3 xb_3 xv_3 xg_3 xk_3
    clear dd
    clear hb1 hb2 hb3
    by_cases hl0 : l3 = 0
    · subst hl0
      clear xk_4
      go_wp2_with fail
      refine (costsOf_spec a1 l1 c1 rows a2 l2 c2 ws w4 xb_4 xv_4).mono ?_
      rintro e w5 ⟨a4, l4, c4, rfl, n_k, _, hb4⟩
      have xb_5 := rows_lift xb_4 hb4
      have xv_5 := ints_lift xv_4 hb4
      have xg_5 := ints_lift xg_4 hb4
      have hB5 : Below w.heap.size w w5 := hB4.trans (hb4.mono hB4.size)
      clear hB4 xb_4 xv_4 xg_4
      have xk_5 := ints_in n_k (Nat.le_refl _)
      clear n_k
      go_wp2_with fail
      refine (equalInts_any _ _ _ _ _ _ _ _ _ _ _ xg_5 xk_5).mono ?_
      rintro e w6 ⟨rfl, dd⟩
      have xb_6 := rows_lift xb_5 (dd.below _)
      have xv_6 := ints_lift xv_5 (dd.below _)
      have xg_6 := ints_lift xg_5 (dd.below _)
      have xk_6 := ints_lift xk_5 (dd.below _)
      have hB6 : Below w.heap.size w w6 := hB5.trans (dd.below w.heap.size)
      clear hB5 xb_5 xv_5 xg_5 xk_5
      clear dd
      go_wp2_with fail
      go_ret
      exact ⟨rfl, hB6⟩
    · have hl0e : ((l3 : Int) == 0) = false := by simp; omega
      have hone : oneEachM rows ws = true := by
        cases hb : oneEachM rows ws
        · have := xg_4.lenEq
          rw [costRes_no hb] at this
          exact absurd this.symm (by simpa using hl0)
        · rfl
      rw [costRes_yes hone] at xg_4
      have hone' := hone
      simp only [oneEachM, Bool.and_eq_true] at hone'
      obtain ⟨hv, hwn⟩ := hone'
      have hlr := xb_4.lenEq
      have hlv := xv_4.lenEq
      have hlg := xg_4.lenEq
      rw [costsM, tab_length] at hlg
      have hlw := wants_len hwn
      obtain rfl : l3 = l1 := by omega
      obtain rfl : l2 = l3 := by omega
      have hl6 : l2 ≤ 6 := by have := validBill_len6 hv; omega
      have HST := Lib.hid (⟨xb_4, xv_4, xg_4, hB4⟩ : St3 w w4 a1 l2 rows a2 l2 ws a3 l2 (costsM rows ws))
      have HO := Lib.hid (wants_at hwn)
      have HLR := Lib.hid hlr
      have HLV := Lib.hid hlv
      have HWN := Lib.hid (rev_wants hwn)
      clear hwn hlr hlv hlg hlw hone xb_4 xv_4 xg_4 xk_4
      go_wp2_with fail
      clear heq
      go_loopw [6] (fun j wr => ∃ jn : Nat, jn ≤ l2 ∧ j = .int .i64 jn ∧ St3 w wr a1 l2 rows a2 l2 ws a3 l2 (costsM rows ws)) (fun j _ => l2 - (intOf j).toNat)
      case atStart => exact ⟨0, Nat.zero_le _, rfl, HST.out⟩
      case round =>
        clear HST
        obtain ⟨i, hi, rfl, hst⟩ := hrel
        obtain ⟨wo, rfl⟩ : ∃ wo : World, wo = wr := ⟨_, rfl⟩
        by_cases hlt : i < l2
        · have HST := Lib.hid hst
          clear hst
          go_wp2_with fail
          go_loopw [7, 8] (fun n j wr => ∃ k : Nat, k ≤ i + 1 ∧ j = .int .i64 k ∧ n = .int .i64 (sumTo (fun j => takeM rows i j * ws.getD j 0) k) ∧ St3 w wr a1 l2 rows a2 l2 ws a3 l2 (costsM rows ws)) (fun _ j _ => i + 1 - (intOf j).toNat)
          case atStart => exact ⟨0, Nat.zero_le _, rfl, rfl, HST.out⟩
          case round =>
            obtain ⟨k, hk, rfl, rfl, hst⟩ := hrel
            obtain ⟨wi, rfl⟩ : ∃ wi : World, wi = wr := ⟨_, rfl⟩
            by_cases hkl : k ≤ i
            · obtain ⟨b5, off5, z, e5, hz, hcz⟩ := hst.v.get (k := k) (by omega)
              have hbl : b5 < wi.heap.size := by have := hst.v; rw [e5] at this; exact this.mem (by omega)
              have hz' := getD_of hz
              have hzb := HO.out k
              rw [hz'] at hzb
              have hsb := costSum_bd hv HO.out i (show k ≤ 7 by omega)
              have HN1 := Lib.hid (show sumTo (fun j => takeM rows i j * ws.getD j 0) (k + 1) = sumTo (fun j => takeM rows i j * ws.getD j 0) k + takeM rows i k * z by rw [← hz']; rfl)
              have HTK := Lib.hid (show takesM rows i k = takeM rows i k from takesM_good hv (by rw [HLR.out]; exact hlt) (by rw [HLR.out]; omega))
              have v0 := takeM_nonneg hv i k
              have v1 := takeM_le hv i k
              have HRD := Lib.hid hst.drew.b
              have HSTD := Lib.hid hst.drew
              clear hz hz' hst HST
              subst e5
              generalize hS : sumTo (fun j => takeM rows i j * ws.getD j 0) k = sm at hsb HN1 ⊢
              generalize hV : takeM rows i k = vv at v0 v1 HN1 HTK
              clear hS hV
              have hmb : 0 ≤ vv * z ∧ vv * z ≤ 34012224 * 20 := mul_box v0 v1 hzb.1 hzb.2
              have hkl2 : (k : Int) < (l2 : Int) := by omega
              have hkl3 : k < l2 := by omega
              have w1 : IntKind.i64.wrap (vv * z) = vv * z := IntWalk.i64_in _ (by omega)
              have w2 : IntKind.i64.wrap (sm + vv * z) = sm + vv * z := IntWalk.i64_in _ (by omega)
              go_wp2_with fail
              go_region_held3 (fun w' => w'.cell? ⟨b5, off5 + k, none⟩ = some (.int .i64 z)) (go_keep)
                (first | (go_at_call 11; refine (takes_impl a1 l2 c1 rows i k wi.drew HRD.out).mono ?_; rw [HTK.out]; rintro e w' ⟨rfl, hb'⟩; have k1 := (hb'.cell (p := ⟨b5, off5 + k, none⟩) hbl).trans hcz))
              clear w1 w2
              have HSN := Lib.hid (HSTD.out.up hb')
              clear hcz hb' k1
              go_wp2_with fail
              go_roundw
              case rel => exact ⟨k + 1, by omega, by go_num, by rw [HN1.out], HSN.out⟩
              case measure => simp [intOf]; omega
            · obtain rfl : k = i + 1 := by omega
              obtain ⟨b9, off9, o, e9, hy9, hc9⟩ := hst.g.get hlt
              obtain ⟨rfl, _⟩ := tab_get hy9
              have e1 : sumTo (fun j => takeM rows i j * ws.getD j 0) (i + 1) = costN rows ws i := rfl
              rw [e1]
              have HSN := Lib.hid hst
              clear hy9 e1 hst HST
              subst e9
              generalize costN rows ws i = nn at hc9 ⊢
              go_wp2_with fail
              go_roundw
              case rel => exact ⟨i + 1, by omega, by go_num, HSN.out⟩
              case measure => simp [intOf]; omega
        · have HST := Lib.hid hst
          clear hst
          go_wp2_with fail
          refine (backwards_any a2 l2 c2 ws wo HST.out.v (by omega)).mono ?_
          rintro e w7 hnew
          obtain ⟨a7, l7, c7, rfl, n7, _, hb7⟩ := hnew.ints
          have HST7 := Lib.hid (HST.out.up hb7)
          have x7 := ints_in n7 (Nat.le_refl _)
          clear hnew n7 hb7 HST
          go_wp2_with fail
          refine (needsOf_impl a1 l2 c1 rows a7 l7 c7 (revM ws) w7 HST7.out.b x7).mono ?_
          rintro e w8 ⟨a8, l8, c8, rfl, n8, _, hb8⟩
          have hst := HST7.out.up hb8
          have x8 := ints_in n8 (Nat.le_refl _)
          have y8 := ints_lift x7 hb8
          have hl7 : l7 = l2 := by rw [← x7.lenEq, revM_length]; exact HLV.out
          subst hl7
          rw [needRes_yes (by rw [oneEachM, hv, HWN.out]; rfl)] at x8
          have hl8 : l8 = l7 := by rw [← x8.lenEq, needsM, tab_length]; exact HLR.out
          subst hl8
          have HB := Lib.hid hst.below
          have HV := Lib.hid hst.v
          have HG := Lib.hid hst.g
          have HY := Lib.hid y8
          have HX := Lib.hid x8
          have HRV := Lib.hid (fun k => wants_at HWN.out k)
          have HFIN := Lib.hid (need_cost hv ws (revM ws))
          clear hst x7 n8 hb8 x8 y8 HST7
          go_wp2_with fail
          go_loopw [11, 12, 13] (fun a b i wr => ∃ k : Nat, k ≤ l8 ∧ i = .int .i64 k ∧ a = .int .i64 (sumTo (fun i => (revM ws).getD i 0 * costN rows ws i) k) ∧ b = .int .i64 (sumTo (fun j => needN rows (revM ws) j * ws.getD j 0) k) ∧ Drew w8 wr) (fun _ _ i _ => l8 - (intOf i).toNat)
          case atStart => exact ⟨0, Nat.zero_le _, rfl, rfl, rfl, Drew.refl _⟩
          case round =>
            obtain ⟨k, hk, rfl, rfl, rfl, hdw⟩ := hrel
            by_cases hkl : k < l8
            · obtain ⟨b1, o1, v1, rfl, hy1, hc1⟩ := (Drew.ints HY.out hdw).get hkl
              obtain ⟨b2, o2, v2, rfl, hy2, hc2⟩ := (Drew.ints HG.out hdw).get hkl
              obtain ⟨b3, o3, v3, rfl, hy3, hc3⟩ := (Drew.ints HX.out hdw).get hkl
              obtain ⟨b4, o4, v4, rfl, hy4, hc4⟩ := (Drew.ints HV.out hdw).get hkl
              obtain ⟨rfl, _⟩ := tab_get hy2
              obtain ⟨rfl, _⟩ := tab_get hy3
              have g1 := getD_of hy1
              have g4 := getD_of hy4
              have hb1 := HRV.out k
              have hb4 := HO.out k
              have hb2 := costN_bd hv HO.out (show k ≤ 6 by omega)
              have hb3 := needN_bd hv (fun q => by have := HRV.out q; omega) k (ws := revM ws)
              have hs1 := prodSum_bd (f := fun i => (revM ws).getD i 0) (g := fun i => costN rows ws i) l8 (by omega) (A := 20) (B := 5000000000) (fun q _ => HRV.out q) (fun q hq => costN_bd hv HO.out (show q ≤ 6 by omega)) hk hl6 (by omega)
              have hs2 := prodSum_bd (f := fun j => needN rows (revM ws) j) (g := fun j => ws.getD j 0) l8 (by omega) (A := 10000000000) (B := 20) (fun q _ => needN_bd hv (fun q => by have := HRV.out q; omega) q) (fun q _ => HO.out q) hk hl6 (by omega)
              have HS1 := Lib.hid (show sumTo (fun i => (revM ws).getD i 0 * costN rows ws i) (k + 1) = sumTo (fun i => (revM ws).getD i 0 * costN rows ws i) k + v1 * costN rows ws k by rw [← g1]; rfl)
              have HS2 := Lib.hid (show sumTo (fun j => needN rows (revM ws) j * ws.getD j 0) (k + 1) = sumTo (fun j => needN rows (revM ws) j * ws.getD j 0) k + needN rows (revM ws) k * v4 by rw [← g4]; rfl)
              rw [g1] at hb1
              rw [g4] at hb4
              clear hy1 hy2 hy3 hy4 g1 g4
              generalize sumTo (fun i => (revM ws).getD i 0 * costN rows ws i) k = s1 at hs1 HS1 ⊢
              generalize sumTo (fun j => needN rows (revM ws) j * ws.getD j 0) k = s2 at hs2 HS2 ⊢
              generalize costN rows ws k = v2 at hb2 HS1 hc2
              generalize needN rows (revM ws) k = v3 at hb3 HS2 hc3
              have m1 : 0 ≤ v1 * v2 ∧ v1 * v2 ≤ 20 * 5000000000 := mul_box hb1.1 hb1.2 hb2.1 hb2.2
              have m2 : 0 ≤ v3 * v4 ∧ v3 * v4 ≤ 10000000000 * 20 := mul_box hb3.1 hb3.2 hb4.1 hb4.2
              have hkl2 : (k : Int) < (l8 : Int) := by omega
              have w1 : IntKind.i64.wrap (v1 * v2) = v1 * v2 := IntWalk.i64_in _ (by omega)
              have w2 : IntKind.i64.wrap (s1 + v1 * v2) = s1 + v1 * v2 := IntWalk.i64_in _ (by omega)
              have w3 : IntKind.i64.wrap (v3 * v4) = v3 * v4 := IntWalk.i64_in _ (by omega)
              have w4 : IntKind.i64.wrap (s2 + v3 * v4) = s2 + v3 * v4 := IntWalk.i64_in _ (by omega)
              go_wp2_with fail
              go_quiet (fail)
              go_wp2_with fail
              have c3 : (wr.drewN nq).cell? ⟨b3, o3 + k, none⟩ = some (.int .i64 v3) := hc3
              have c4 : (wr.drewN nq).cell? ⟨b4, o4 + k, none⟩ = some (.int .i64 v4) := hc4
              have HDW := Lib.hid (hdw.drew nq)
              generalize wr.drewN nq = wx at *
              go_quiet (fail)
              go_wp2_with fail
              go_roundw
              case rel => exact ⟨k + 1, by omega, by go_num, by rw [HS1.out], by rw [HS2.out], HDW.out.drew _⟩
              case measure => simp [intOf]; omega
            · obtain rfl : k = l8 := by omega
              have e : sumTo (fun i => (revM ws).getD i 0 * costN rows ws i) k = sumTo (fun j => needN rows (revM ws) j * ws.getD j 0) k := by have := HFIN.out; rw [HLR.out] at this; exact this
              rw [e]
              clear e
              generalize sumTo (fun j => needN rows (revM ws) j * ws.getD j 0) k = s2
              have he : (s2 == s2) = true := by simp
              go_wp2_with fail
              go_ret
              exact ⟨rfl, HB.out.trans (hdw.below _)⟩
  · go_enter Try.func5, Try.ntmps5
    go_wp2
    go_ret
    exact ⟨rfl, Below.refl _ _⟩
end Go.Proofs.Ytcfahmffboipiaa
