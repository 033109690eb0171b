/- The law FnNeedsOf returns true at every code, and the code reads behind the call as it read before. No condition. -/
import Derived.Test.YtcfahmffboipiaaRows
import Derived.WalkKit
import Derived.LoopTactic
import Derived.Outline
import Derived.WalkSpells
import Derived.WalkLawsBesides
import Derived.ProofKit
import Derived.Deep.QuietTactic
import Derived.BigQuiet
import Derived.IntWalk
import Derived.Deep.RegionHeld3
import Derived.Test.YtcfahmffboipiaaLib
import Derived.Test.YtcfahmffboipiaaRd
import Derived.Test.YtcfahmffboipiaaEx
import Derived.Test.YtcfahmffboipiaaLaws
import Derived.Test.YtcfahmffboipiaaCountM
import Derived.Test.YtcfahmffboipiaaTakesM
import Derived.Test.YtcfahmffboipiaaTakes
import Derived.Test.YtcfahmffboipiaaBillM
import Derived.Test.YtcfahmffboipiaaNetM
import Derived.Test.YtcfahmffboipiaaVal2
import Derived.Test.YtcfahmffboipiaaCostSpec
import Derived.Test.YtcfahmffboipiaaCosts
import Derived.Test.YtcfahmffboipiaaNeedSpec
import Derived.Test.YtcfahmffboipiaaWants
import Derived.Test.YtcfahmffboipiaaSt3
namespace Go.Proofs.Ytcfahmffboipiaa
open Go.RowKit Go.WideShapes

theorem needSum_bd {rows : List (List Int)} (hv : validBillM rows = true) {ws : List Int} (ho : ∀ k, 0 ≤ ws.getD k 0 ∧ ws.getD k 0 ≤ 20) (j : Nat) {m : Nat} (hm : m ≤ 6) : 0 ≤ sumTo (fun i => ws.getD i 0 * takeM rows i j) m ∧ sumTo (fun i => ws.getD i 0 * takeM rows i j) m ≤ 10000000000 := by
  have h1 : ∀ i, 0 ≤ ws.getD i 0 * takeM rows i j ∧ ws.getD i 0 * takeM rows i j ≤ 20 * 34012224 := fun i => mul_box (ho i).1 (ho i).2 (takeM_nonneg hv i j) (takeM_le hv i j)
  have h2 := sumTo_nonneg (f := fun i => ws.getD i 0 * takeM rows i j) (n := m) (fun k _ => (h1 k).1)
  have h3 := sumTo_le (f := fun i => ws.getD i 0 * takeM rows i j) (B := 20 * 34012224) (n := m) (fun k _ => (h1 k).2)
  exact ⟨h2, by omega⟩
def usedTo (rows : List (List Int)) (ws : List Int) (j m : Nat) : Int := ws.getD j 0 + sumTo (fun i => needN rows ws i * useM rows i j) m
theorem usedTo_bd {rows : List (List Int)} (hv : validBillM rows = true) {ws : List Int} (ho : ∀ k, 0 ≤ ws.getD k 0 ∧ ws.getD k 0 ≤ 20) (j : Nat) {m : Nat} (hm : m ≤ 6) : 0 ≤ usedTo rows ws j m ∧ usedTo rows ws j m ≤ 300000000000 := by
  have h1 : ∀ i, 0 ≤ needN rows ws i * useM rows i j ∧ needN rows ws i * useM rows i j ≤ 10000000000 * 3 := fun i => mul_box (needN_bd hv (fun k => by have := ho k; omega) i).1 (needN_bd hv (fun k => by have := ho k; omega) i).2 (useM_bd hv _ _).1 (useM_bd hv _ _).2
  have h2 := sumTo_nonneg (f := fun i => needN rows ws i * useM rows i j) (n := m) (fun k _ => (h1 k).1)
  have h3 := sumTo_le (f := fun i => needN rows ws i * useM rows i j) (B := 10000000000 * 3) (n := m) (fun k _ => (h1 k).2)
  have := ho j
  unfold usedTo; omega

set_option maxRecDepth 100000 in
set_option maxHeartbeats 4000000 in
theorem fnNeedsOf_any (a : Option Addr) (len cap : Nat) (w : World) (hb : BytesAt w w.heap.size a len) (hl : len ≤ cap) (hs : len ≤ 9223372036854775807) :
    Calls Try.prog 3 #[.slice a len cap] w (LawPost w) := by
  by_cases h20 : len ≤ 1048576
  · go_enter Try.func3, Try.ntmps3
    have hB0 := Below.refl w.heap.size w
    go_wp2_with fail
    refine (drawNeedsOf_any a len cap w hb hl hs).mono ?_
    rintro e w1 ⟨a1, l1, c1, rows, a2, l2, c2, ws, rfl, n_b, hc1, n_v, hc2, hb1⟩
    have hB1 : Below w.heap.size w w1 := hB0.trans (hb1.mono hB0.size)
    clear hB0
    have xb_1 := n_b
    have xv_1 := n_v
    clear n_b
    clear n_v
    clear hb
    go_wp2_with fail
    refine (needsOf_impl a1 l1 c1 rows a2 l2 c2 ws w1 xb_1 xv_1).mono ?_
    rintro e w2 ⟨a3, l3, c3, rfl, n_g, _, hb2⟩
    have xb_2 := rows_lift xb_1 hb2
    have xv_2 := ints_lift xv_1 hb2
    have hB2 : Below w.heap.size w w2 := hB1.trans (hb2.mono hB1.size)
    clear hB1 xb_1 xv_1
    have xg_2 := ints_in n_g (Nat.le_refl _)
    clear n_g
    go_wp2_with fail
    refine (needsOf_spec a1 l1 c1 rows a2 l2 c2 ws w2 xb_2 xv_2).mono ?_
    rintro e w3 ⟨a4, l4, c4, rfl, n_k, _, hb3⟩
    have xb_3 := rows_lift xb_2 hb3
    have xv_3 := ints_lift xv_2 hb3
    have xg_3 := ints_lift xg_2 hb3
    have hB3 : Below w.heap.size w w3 := hB2.trans (hb3.mono hB2.size)
    clear hB2 xb_2 xv_2 xg_2
    have xk_3 := ints_in n_k (Nat.le_refl _)
    clear n_k
    have heq : eqB (needRes rows ws) (needRes rows ws) = true := decide_eq_true rfl
    go_wp2_with fail
    refine (equalInts_any _ _ _ _ _ _ _ _ _ _ _ xg_3 xk_3).mono ?_
    rintro e w4 ⟨rfl, dd⟩
    have xb_4 := rows_lift xb_3 (dd.below _)
    have xv_4 := ints_lift xv_3 (dd.below _)
    have xg_4 := ints_lift xg_3 (dd.below _)
    have xk_4 := ints_lift xk_3 (dd.below _)
    have hB4 : Below w.heap.size w w4 := hB3.trans (dd.below w.heap.size)
    clear hB3 xb_3 xv_3 xg_3 xk_3
    clear dd
    clear hb1 hb2 hb3
    by_cases hl0 : l3 = 0
    · subst hl0
      clear xk_4
      go_wp2_with fail
      refine (needsOf_spec a1 l1 c1 rows a2 l2 c2 ws w4 xb_4 xv_4).mono ?_
      rintro e w5 ⟨a4, l4, c4, rfl, n_k, _, hb4⟩
      have xb_5 := rows_lift xb_4 hb4
      have xv_5 := ints_lift xv_4 hb4
      have xg_5 := ints_lift xg_4 hb4
      have hB5 : Below w.heap.size w w5 := hB4.trans (hb4.mono hB4.size)
      clear hB4 xb_4 xv_4 xg_4
      have xk_5 := ints_in n_k (Nat.le_refl _)
      clear n_k
      go_wp2_with fail
      refine (equalInts_any _ _ _ _ _ _ _ _ _ _ _ xg_5 xk_5).mono ?_
      rintro e w6 ⟨rfl, dd⟩
      have xb_6 := rows_lift xb_5 (dd.below _)
      have xv_6 := ints_lift xv_5 (dd.below _)
      have xg_6 := ints_lift xg_5 (dd.below _)
      have xk_6 := ints_lift xk_5 (dd.below _)
      have hB6 : Below w.heap.size w w6 := hB5.trans (dd.below w.heap.size)
      clear hB5 xb_5 xv_5 xg_5 xk_5
      clear dd
      go_wp2_with fail
      go_ret
      exact ⟨rfl, hB6⟩
    · have hl0e : ((l3 : Int) == 0) = false := by simp; omega
      have hone : oneEachM rows ws = true := by
        cases hb : oneEachM rows ws
        · have := xg_4.lenEq
          rw [needRes_no hb] at this
          exact absurd this.symm (by simpa using hl0)
        · rfl
      rw [needRes_yes hone] at xg_4
      have hone' := hone
      simp only [oneEachM, Bool.and_eq_true] at hone'
      obtain ⟨hv, hwn⟩ := hone'
      have hlr := xb_4.lenEq
      have hlv := xv_4.lenEq
      have hlg := xg_4.lenEq
      rw [needsM, tab_length] at hlg
      have hlw := wants_len hwn
      obtain rfl : l3 = l1 := by omega
      obtain rfl : l2 = l3 := by omega
      have hl6 : l2 ≤ 6 := by have := validBill_len6 hv; omega
      have HST := Lib.hid (⟨xb_4, xv_4, xg_4, hB4⟩ : St3 w w4 a1 l2 rows a2 l2 ws a3 l2 (needsM rows ws))
      have HO := Lib.hid (wants_at hwn)
      have HLR := Lib.hid hlr
      clear hwn hlr hlv hlg hlw hone xb_4 xv_4 xg_4 xk_4
      go_wp2_with fail
      clear heq
      go_loopw [6] (fun j wr => ∃ jn : Nat, jn ≤ l2 ∧ j = .int .i64 jn ∧ St3 w wr a1 l2 rows a2 l2 ws a3 l2 (needsM rows ws)) (fun j _ => l2 - (intOf j).toNat)
      case atStart => exact ⟨0, Nat.zero_le _, rfl, HST.out⟩
      case round =>
        clear HST
        obtain ⟨jn, hj, rfl, hst⟩ := hrel
        obtain ⟨wo, rfl⟩ : ∃ wo : World, wo = wr := ⟨_, rfl⟩
        by_cases hlt : jn < l2
        · obtain ⟨b5, off5, y, e5, hy, hcy⟩ := hst.v.get hlt
          have HY := Lib.hid (getD_of hy)
          have HE5 := Lib.hid e5
          have HST := Lib.hid hst
          subst e5
          clear hy hst
          go_wp2_with fail
          go_loopw [7, 8, 9] (fun n u i wr => ∃ k : Nat, k ≤ l2 ∧ i = .int .i64 k ∧ n = .int .i64 (sumTo (fun i => ws.getD i 0 * takeM rows i jn) k) ∧ u = .int .i64 (usedTo rows ws jn k) ∧ St3 w wr a1 l2 rows (some ⟨b5, off5, none⟩) l2 ws a3 l2 (needsM rows ws)) (fun _ _ i _ => l2 - (intOf i).toNat)
          case atStart => exact ⟨0, Nat.zero_le _, rfl, rfl, by rw [show usedTo rows ws jn 0 = y by unfold usedTo; rw [HY.out]; simp [sumTo]], HST.out⟩
          case round =>
            obtain ⟨k, hk, rfl, rfl, rfl, hst⟩ := hrel
            obtain ⟨wi, rfl⟩ : ∃ wi : World, wi = wr := ⟨_, rfl⟩
            by_cases hkl : k < l2
            · obtain ⟨b6, off6, z, e6, hz, hcz⟩ := hst.v.get hkl
              simp only [Option.some.injEq, Addr.mk.injEq] at e6
              obtain ⟨rfl, rfl, _⟩ := e6
              have hbl : b5 < wi.heap.size := hst.v.mem (by omega)
              have hz' := getD_of hz
              have hzb := HO.out k
              rw [hz'] at hzb
              have hsb := needSum_bd hv HO.out jn (show k ≤ 6 by omega)
              have HN1 := Lib.hid (show sumTo (fun i => ws.getD i 0 * takeM rows i jn) (k + 1) = sumTo (fun i => ws.getD i 0 * takeM rows i jn) k + z * takeM rows k jn by rw [← hz']; rfl)
              have HTK := Lib.hid (show takesM rows k jn = takeM rows k jn from takesM_good hv (by rw [HLR.out]; exact hkl) (by rw [HLR.out]; exact hlt))
              have v0 := takeM_nonneg hv k jn
              have v1 := takeM_le hv k jn
              have HRD := Lib.hid hst.drew.b
              have HSTD := Lib.hid hst.drew
              clear hz hz' hst HST
              generalize hS : sumTo (fun i => ws.getD i 0 * takeM rows i jn) k = sm at hsb HN1 ⊢
              generalize hV : takeM rows k jn = vv at v0 v1 HN1 HTK
              clear hS hV
              have hmb : 0 ≤ z * vv ∧ z * vv ≤ 20 * 34012224 := mul_box hzb.1 hzb.2 v0 v1
              have hkl2 : (k : Int) < (l2 : Int) := by omega
              have w1 : IntKind.i64.wrap (z * vv) = z * vv := IntWalk.i64_in _ (by omega)
              have w2 : IntKind.i64.wrap (sm + z * vv) = sm + z * vv := IntWalk.i64_in _ (by omega)
              go_wp2_with fail
              go_region_held3 (fun w' => w'.cell? ⟨b5, off5 + k, none⟩ = some (.int .i64 z)) (go_keep)
                (first | (go_at_call 11; refine (takes_impl a1 l2 c1 rows k jn wi.drew HRD.out).mono ?_; rw [HTK.out]; rintro e w' ⟨rfl, hb'⟩; have k1 := (hb'.cell (p := ⟨b5, off5 + k, none⟩) hbl).trans hcz))
              clear w1 w2
              have HSN := Lib.hid (HSTD.out.up hb')
              clear hcz hb' k1
              by_cases hij : jn < k
              · have hst := HSN.out
                obtain ⟨b7, off7, r, a', l, c, e7, hx, hc, _, hri⟩ := hst.b.get hkl
                subst e7
                obtain ⟨hr1, _, _⟩ := okRows_get hv hx
                have hlr : l = k := by rw [← hri.lenEq]; exact hr1
                obtain ⟨b8, off8, x, rfl, hy8, hc8⟩ := hri.get (k := jn) (by omega)
                obtain ⟨b9, off9, o, e9, hy9, hc9⟩ := hst.g.get (k := k) hkl
                subst e9
                obtain ⟨rfl, _⟩ := tab_get hy9
                have hu := useM_get hx hy8
                have hub := useM_bd hv k jn
                rw [hu] at hub
                have hnb := needN_bd hv (fun q => by have := HO.out q; omega) k (ws := ws)
                have hpb := usedTo_bd hv HO.out jn (show k ≤ 6 by omega)
                have HU1 := Lib.hid (show usedTo rows ws jn (k + 1) = usedTo rows ws jn k + needN rows ws k * x by simp only [usedTo, sumTo, hu]; omega)
                clear hx hr1 hy8 hy9 hu hri hst HY HE5
                subst hlr
                generalize usedTo rows ws jn l = ut at hpb HU1 ⊢
                generalize needN rows ws l = nn at hnb HU1 hc9
                have hmb2 : 0 ≤ nn * x ∧ nn * x ≤ 10000000000 * 3 := mul_box hnb.1 hnb.2 hub.1 hub.2
                have hjl2 : (jn : Int) < (l : Int) := by omega
                have w1 : IntKind.i64.wrap (nn * x) = nn * x := IntWalk.i64_in _ (by omega)
                have w2 : IntKind.i64.wrap (ut + nn * x) = ut + nn * x := IntWalk.i64_in _ (by omega)
                go_wp2_with fail
                go_quiet (fail)
                go_wp2_with fail
                go_roundw
                case rel => exact ⟨l + 1, by omega, by go_num, by rw [HN1.out], by rw [HU1.out], HSN.out.dr ⟨_, rfl⟩⟩
                case measure => simp [intOf]; omega
              · have HU1 := Lib.hid (show usedTo rows ws jn (k + 1) = usedTo rows ws jn k by simp only [usedTo, sumTo, useM_high hv (show k ≤ jn by omega)]; omega)
                clear HY HE5
                go_wp2_with fail
                go_roundw
                case rel => exact ⟨k + 1, by omega, by go_num, by rw [HN1.out], by rw [HU1.out], HSN.out⟩
                case measure => simp [intOf]; omega
            · obtain rfl : k = l2 := by omega
              have hst' := hst
              obtain ⟨b9, off9, o, e9, hy9, hc9⟩ := hst.g.get hlt
              subst e9
              obtain ⟨rfl, _⟩ := tab_get hy9
              have e1 : sumTo (fun i => ws.getD i 0 * takeM rows i jn) k = needN rows ws jn := by unfold needN; rw [HLR.out]
              have e2 : usedTo rows ws jn k = needN rows ws jn := by rw [need_rec hv ws (show jn < rows.length by rw [HLR.out]; exact hlt), HLR.out]; rfl
              rw [e1, e2]
              have HSN := Lib.hid hst'
              clear hy9 e1 e2 hst hst' HY HE5 HST
              generalize needN rows ws jn = nn at hc9 ⊢
              go_wp2_with fail
              go_roundw
              case rel => exact ⟨jn + 1, by omega, by go_num, HSN.out⟩
              case measure => simp [intOf]; omega
        · have HB := Lib.hid hst.below
          clear hst
          go_wp2_with fail
          go_ret
          exact ⟨rfl, HB.out⟩
  · go_enter Try.func3, Try.ntmps3
    go_wp2
    go_ret
    exact ⟨rfl, Below.refl _ _⟩
end Go.Proofs.Ytcfahmffboipiaa
