/- The law FnWantsAreAdded returns true at every code, and the code reads behind the call as it read before. No condition. -/
import Derived.Test.YtcfahmffboipiabRows
import Derived.WalkKit
import Derived.LoopTactic
import Derived.Outline
import Derived.WalkSpells
import Derived.WalkLawsBesides
import Derived.ProofKit
import Derived.Deep.QuietTactic
import Derived.BigQuiet
import Derived.IntWalk
import Derived.Deep.RegionHeld3
import Derived.Deep.AppendLies
import Derived.Test.YtcfahmffboipiabLib
import Derived.Test.YtcfahmffboipiabRd
import Derived.Test.YtcfahmffboipiabEx
import Derived.Test.YtcfahmffboipiabLaws
import Derived.Test.YtcfahmffboipiabCountM
import Derived.Test.YtcfahmffboipiabTakesM
import Derived.Test.YtcfahmffboipiabBillM
import Derived.Test.YtcfahmffboipiabNetM
import Derived.Test.YtcfahmffboipiabVal2
import Derived.Test.YtcfahmffboipiabCostSpec
import Derived.Test.YtcfahmffboipiabCosts
import Derived.Test.YtcfahmffboipiabNeedSpec
import Derived.Test.YtcfahmffboipiabWants
import Derived.Test.YtcfahmffboipiabBackw
import Derived.Test.YtcfahmffboipiabApp
namespace Go.Proofs.Ytcfahmffboipiab
open Go.RowKit Go.WideShapes

theorem needN_add {rows : List (List Int)} {xs ys zs : List Int} (h : ∀ k, k < rows.length → zs.getD k 0 = xs.getD k 0 + ys.getD k 0) (j : Nat) : needN rows zs j = needN rows xs j + needN rows ys j := by
  unfold needN
  rw [← sumTo_add]
  exact sumTo_congr (fun k hk => by rw [h k hk, Int.add_mul])
theorem rev_wants2 {n : Int} {xs : List Int} (h : wantsM n xs = true) : wantsM n (revM xs) = true := by
  have hl := wants_len h
  rw [wantsM, revM_length, decide_eq_true hl, Bool.and_true]
  refine allIn_of (fun k hk => ?_)
  rw [revM_length] at hk
  rw [revM_getD _ hk]
  exact wants_at h _
def bothM (xs : List Int) (n : Nat) : List Int := tab (fun q => xs.getD q 0 + (revM xs).getD q 0) n

set_option maxRecDepth 100000 in
set_option maxHeartbeats 4000000 in
theorem fnWantsAreAdded_any (a : Option Addr) (len cap : Nat) (w : World) (hb : BytesAt w w.heap.size a len) (hl : len ≤ cap) (hs : len ≤ 9223372036854775807) :
    Calls Try.prog 5 #[.slice a len cap] w (LawPost w) := by
  by_cases h20 : len ≤ 1048576
  · go_enter Try.func5, Try.ntmps5
    have hB0 := Below.refl w.heap.size w
    go_wp2_with fail
    refine (drawNeedsOf_any a len cap w hb hl hs).mono ?_
    rintro e w1 ⟨a1, l1, c1, rows, a2, l2, c2, ws, rfl, n_b, hc1, n_v, hc2, hb1⟩
    have hB1 : Below w.heap.size w w1 := hB0.trans (hb1.mono hB0.size)
    clear hB0
    have xb_1 := n_b
    have xv_1 := n_v
    clear n_b
    clear n_v
    clear hb
    go_wp2_with fail
    refine (needsOf_impl a1 l1 c1 rows a2 l2 c2 ws w1 xb_1 xv_1).mono ?_
    rintro e w2 ⟨a3, l3, c3, rfl, n_g, _, hb2⟩
    have xb_2 := rows_lift xb_1 hb2
    have xv_2 := ints_lift xv_1 hb2
    have hB2 : Below w.heap.size w w2 := hB1.trans (hb2.mono hB1.size)
    clear hB1 xb_1 xv_1
    have xg_2 := ints_in n_g (Nat.le_refl _)
    clear n_g
    go_wp2_with fail
    refine (needsOf_spec a1 l1 c1 rows a2 l2 c2 ws w2 xb_2 xv_2).mono ?_
    rintro e w3 ⟨a4, l4, c4, rfl, n_k, _, hb3⟩
    have xb_3 := rows_lift xb_2 hb3
    have xv_3 := ints_lift xv_2 hb3
    have xg_3 := ints_lift xg_2 hb3
    have hB3 : Below w.heap.size w w3 := hB2.trans (hb3.mono hB2.size)
    clear hB2 xb_2 xv_2 xg_2
    have xk_3 := ints_in n_k (Nat.le_refl _)
    clear n_k
    have heq : eqB (needRes rows ws) (needRes rows ws) = true := decide_eq_true rfl
    go_wp2_with fail
    refine (equalInts_any _ _ _ _ _ _ _ _ _ _ _ xg_3 xk_3).mono ?_
    rintro e w4 ⟨rfl, dd⟩
    have xb_4 := rows_lift xb_3 (dd.below _)
    have xv_4 := ints_lift xv_3 (dd.below _)
    have xg_4 := ints_lift xg_3 (dd.below _)
    have xk_4 := ints_lift xk_3 (dd.below _)
    have hB4 : Below w.heap.size w w4 := hB3.trans (dd.below w.heap.size)
    clear hB3 xb_3 xv_3 xg_3 xk_3
    clear dd
    clear xg_4
    clear xk_4
    go_wp2_with fail
    refine (needsOf_impl a1 l1 c1 rows a2 l2 c2 ws w4 xb_4 xv_4).mono ?_
    rintro e w5 ⟨a3, l3, c3, rfl, n_g, _, hb4⟩
    have xb_5 := rows_lift xb_4 hb4
    have xv_5 := ints_lift xv_4 hb4
    have hB5 : Below w.heap.size w w5 := hB4.trans (hb4.mono hB4.size)
    clear hB4 xb_4 xv_4
    have xg_5 := ints_in n_g (Nat.le_refl _)
    clear n_g
    clear hb1 hb2 hb3 hb4
    by_cases hl0 : l3 = 0
    · subst hl0
      go_wp2_with fail
      go_ret
      exact ⟨rfl, hB5⟩
    · have hl0e : ((l3 : Int) == 0) = false := by simp; omega
      have hone : oneEachM rows ws = true := by
        cases hb : oneEachM rows ws
        · have := xg_5.lenEq
          rw [needRes_no hb] at this
          exact absurd this.symm (by simpa using hl0)
        · rfl
      rw [needRes_yes hone] at xg_5
      have hone' := hone
      simp only [oneEachM, Bool.and_eq_true] at hone'
      obtain ⟨hv, hwn⟩ := hone'
      have hlr := xb_5.lenEq
      have hlv := xv_5.lenEq
      have hlg := xg_5.lenEq
      rw [needsM, tab_length] at hlg
      have hlw := wants_len hwn
      obtain rfl : l3 = l1 := by omega
      obtain rfl : l2 = l3 := by omega
      have hl6 : l2 ≤ 6 := by have := validBill_len6 hv; omega
      have HO := Lib.hid (wants_at hwn)
      have HLR := Lib.hid hlr
      have HLV := Lib.hid hlv
      have HWN := Lib.hid (rev_wants2 hwn)
      clear hwn hlr hlv hlg hlw hone
      go_wp2_with fail
      refine (backwards_any a2 l2 c2 ws w5 xv_5 (by omega)).mono ?_
      rintro e w6 ⟨a7, l7, c7, rfl, _, o7, hb7⟩
      have xb_6 := rows_lift xb_5 hb7
      have xv_6 := ints_lift xv_5 hb7
      have xg_6 := ints_lift xg_5 hb7
      have hB6 : Below w.heap.size w w6 := hB5.trans (hb7.mono hB5.size)
      clear hB5 xb_5 xv_5 xg_5
      have n_r := (NewOwn.ints ⟨a7, l7, c7, rfl, (by have := o7.1; simp [revM_length] at this; have := HLV.out; omega), o7, hb7⟩ : NewInts w5 (revM ws) _ w6)
      obtain ⟨_, _, _, e7, n_r, _, _⟩ := n_r
      simp only [Ending.returned.injEq, Value.slice.injEq] at e7
      obtain ⟨rfl, rfl, rfl⟩ := e7
      have xr_6 := ints_in n_r (Nat.le_refl _)
      clear n_r o7 hb7
      have hl7 : l7 = l2 := by rw [← xr_6.lenEq, revM_length]; exact HLV.out
      subst hl7
      have HRV := Lib.hid (fun k => wants_at HWN.out k)
      have HB := Lib.hid xb_6
      have HV := Lib.hid xv_6
      have HG := Lib.hid xg_6
      have HR := Lib.hid xr_6
      clear xb_6 xv_6 xg_6 xr_6
      go_wp2_with fail
      clear heq
      go_loopw [7, 8] (fun v i wr => ∃ (k cp : Nat) (ax : Option Addr), k ≤ l7 ∧ i = .int .i64 k ∧ v = .slice ax k cp ∧ wr.ownsRow w6.heap.size 3 1 v k ((bothM ws k).map (.int .i64)) ∧ Below w6.heap.size w6 wr) (fun _ i _ => l7 - (intOf i).toNat)
      case atStart => exact ⟨0, 0, _, Nat.zero_le _, rfl, rfl, World.ownsRow_made _ _ _ (Nat.le_refl _) (Nat.zero_le _) rfl, (Below.refl _ _).alloc (Nat.le_refl _) _⟩
      case round =>
        obtain ⟨k, cp, ax, hk, rfl, rfl, hown, hB⟩ := hrel
        obtain ⟨wo, rfl⟩ : ∃ wo : World, wo = wr := ⟨_, rfl⟩
        have HOWN := Lib.hid hown
        have HBB := Lib.hid hB
        clear hown
        by_cases hkl : k < l7
        · obtain ⟨b1, o1, v1, rfl, hy1, hc1⟩ := (HV.out.below hB).get hkl
          obtain ⟨b2, o2, v2, rfl, hy2, hc2⟩ := (HR.out.below hB).get hkl
          have g1 := getD_of hy1
          have g2 := getD_of hy2
          have hb1 := HO.out k
          have hb2 := HRV.out k
          rw [g1] at hb1
          rw [g2] at hb2
          have HS := Lib.hid (show bothM ws (k + 1) = bothM ws k ++ [v1 + v2] by unfold bothM; rw [tab_succ, g1, g2])
          clear hy1 hy2 g1 g2 hB
          have hkl2 : (k : Int) < (l7 : Int) := by omega
          have w1 : IntKind.i64.wrap (v1 + v2) = v1 + v2 := IntWalk.i64_in _ (by omega)
          obtain ⟨i0, hi0, hz0, hz1, hz2⟩ := info_parts Try.infoIntO
          have hsz := HBB.out.size
          have hbl1 : b1 < wo.heap.size := by have : b1 < w6.heap.size := HV.out.mem (by omega); omega
          have hbl2 : b2 < wo.heap.size := by have : b2 < w6.heap.size := HR.out.mem (by omega); omega
          have ak : (Value.slice ax k cp).ownBlock ≠ some b1 := fun e => by have h1 := own_block HOWN.out _ e; have : b1 < w6.heap.size := HV.out.mem (by omega); omega
          have av : (Value.slice ax k cp).ownBlock ≠ some b2 := fun e => by have h1 := own_block HOWN.out _ e; have : b2 < w6.heap.size := HR.out.mem (by omega); omega
          go_wp2_with fail
          go_region_held3 (fun w' => w'.cell? ⟨b1, o1 + k, none⟩ = some (.int .i64 v1) ∧ w'.cell? ⟨b2, o2 + k, none⟩ = some (.int .i64 v2))
            (first
              | go_keep
              | (go_split_ands
                 refine ⟨?_, ?_⟩
                 · (rw [hgrow.cell_far _ (by simp; omega) (Ne.symm ak)]; assumption)
                 · (rw [hgrow.cell_far _ (by simp; omega) (Ne.symm av)]; assumption)))
            ((refine step_append_lies _ (by rfl) _ _ _ (by rfl) w6.heap.size 3 i0 _ 1 8 Try.underlying26 hi0 hz0 hz1 hz2 rfl (by omega) (.slice ax k cp) k _ (by rfl) ((HOWN.out.alloc _).drew)
                ⟨wo.heap.size, 0, none⟩ 1 1 [.int .i64 (v1 + v2)] (by rfl) (by rfl) (World.news_of_block (cs := #[.int .i64 (v1 + v2)]) (t := 3) (fr := (0, 0)) (heap_alloc_new wo _)) (by simp [Value.oneCell'])
                (by omega) (by unfold maxLen; omega) (by omega) (by simp; omega) (wo.heap.size + 1) (by simp) ?_; intro gg c6 w6 hown hgrow hat hlt))
          have HGD := Lib.hid (World.grownBy_alloc wo (.cells #[.int .i64 (v1 + v2)] 3) (Value.slice ax k cp).ownBlock)
          have HGX := Lib.hid (show wo.grownBy w6 (Value.slice ax k cp).ownBlock from grown_comp HGD.out (grown_comp (grownBy_drewN _ 1 _) hgrow))
          have HO6 := Lib.hid hown
          clear hown hgrow w1
          go_wp2
          go_roundw
          case rel => exact ⟨k + 1, c6, _, by omega, by go_num, rfl, by rw [HS.out]; exact own_snoc HO6.out, HBB.out.grown HGX.out HBB.out.size (own_block HOWN.out)⟩
          case measure => simp [intOf]; omega
        · obtain rfl : k = l7 := by omega
          have hbo : IntsAt wo (· < wo.heap.size) ax k (bothM ws k) := by
            obtain ⟨ay, cy, hve, _, hints⟩ := own_ints HOWN.out (by omega)
            simp only [Value.slice.injEq] at hve
            obtain ⟨rfl, _, rfl⟩ := hve
            exact hints.to (fun _ hb => ⟨hb.2, rfl⟩)
          have HBO := Lib.hid hbo
          clear hB hbo
          go_wp2_with fail
          refine (needsOf_impl a1 k c1 rows a7 k c7 (revM ws) wo (rows_lift HB.out HBB.out) (ints_lift HR.out HBB.out)).mono ?_
          rintro e w8 ⟨a8, l8, c8, rfl, n8, _, hb8⟩
          have x8 := ints_in n8 (Nat.le_refl _)
          rw [needRes_yes (by rw [oneEachM, hv, HWN.out]; rfl)] at x8
          have hB8 := HBB.out.trans (hb8.mono HBB.out.size)
          go_wp2_with fail
          refine (needsOf_impl a1 k c1 rows ax k cp (bothM ws k) w8 (rows_lift HB.out hB8) (ints_lift HBO.out hb8)).mono ?_
          rintro e w9 ⟨a9, l9, c9, rfl, n9, _, hb9⟩
          have x9 := ints_in n9 (Nat.le_refl _)
          have y8 := ints_lift x8 hb9
          have hB9 := hB8.trans (hb9.mono hB8.size)
          have y7 := ints_lift HG.out hB9
          have hl8 : l8 = k := by rw [← x8.lenEq, needsM, tab_length]; exact HLR.out
          subst hl8
          have HX := Lib.hid x9
          have HY8 := Lib.hid y8
          have HY7 := Lib.hid y7
          have HB9 := Lib.hid hB9
          by_cases h9 : l9 = 0
          · subst h9
            clear x8 x9 y8 y7 hB8 hB9 hb8 hb9 n8 n9
            go_wp2_with fail
            go_loopw [11] (fun i wr => i = .int .i64 0 ∧ Drew w9 wr) (fun i _ => 0)
            case atStart => exact ⟨rfl, Drew.refl _⟩
            case round =>
              obtain ⟨rfl, hdw⟩ := hrel
              go_wp2_with fail
              go_ret
              exact ⟨rfl, hB6.trans ((HB9.out.trans (hdw.below _)).mono hB6.size)⟩
          · have hone2 : oneEachM rows (bothM ws l8) = true := by
              cases hb : oneEachM rows (bothM ws l8)
              · have := x9.lenEq
                rw [needRes_no hb] at this
                exact absurd this.symm (by simpa using h9)
              · rfl
            rw [needRes_yes hone2] at x9
            have hl9 : l9 = l8 := by rw [← x9.lenEq, needsM, tab_length]; exact HLR.out
            subst hl9
            have HX := Lib.hid x9
            have HSUM := Lib.hid (needN_add (rows := rows) (xs := ws) (ys := revM ws) (zs := bothM ws l9) (fun q hq => by unfold bothM; rw [tab_getD _ (by rw [← HLR.out]; exact hq)]))
            clear x8 x9 y8 y7 hB8 hB9 hb8 hb9 n8 n9 hone2
            go_wp2_with fail
            go_loopw [11] (fun i wr => ∃ k : Nat, k ≤ l9 ∧ i = .int .i64 k ∧ Drew w9 wr) (fun i _ => l9 - (intOf i).toNat)
            case atStart => exact ⟨0, Nat.zero_le _, rfl, Drew.refl _⟩
            case round =>
              obtain ⟨k, hk, rfl, hdw⟩ := hrel
              by_cases hkl : k < l9
              · obtain ⟨b1, o1, v1, rfl, hy1, hc1⟩ := (Drew.ints HX.out hdw).get hkl
                obtain ⟨b2, o2, v2, rfl, hy2, hc2⟩ := (Drew.ints HY7.out hdw).get hkl
                obtain ⟨b3, o3, v3, rfl, hy3, hc3⟩ := (Drew.ints HY8.out hdw).get hkl
                obtain ⟨rfl, _⟩ := tab_get hy1
                obtain ⟨rfl, _⟩ := tab_get hy2
                obtain ⟨rfl, _⟩ := tab_get hy3
                rw [HSUM.out k] at hc1
                have hb2 := needN_bd hv (fun q => by have := HO.out q; omega) k (ws := ws)
                have hb3 := needN_bd hv (fun q => by have := HRV.out q; omega) k (ws := revM ws)
                clear hy1 hy2 hy3
                generalize needN rows ws k = v2 at *
                generalize needN rows (revM ws) k = v3 at *
                have hkl2 : (k : Int) < (l9 : Int) := by omega
                have w1 : IntKind.i64.wrap (v2 + v3) = v2 + v3 := IntWalk.i64_in _ (by omega)
                go_wp2_with fail
                go_quiet (fail)
                go_wp2_with fail
                go_roundw
                case rel => exact ⟨k + 1, by omega, by go_num, hdw.drew _⟩
                case measure => simp [intOf]; omega
              · go_wp2_with fail
                go_ret
                exact ⟨rfl, hB6.trans ((HB9.out.trans (hdw.below _)).mono hB6.size)⟩
  · go_enter Try.func5, Try.ntmps5
    go_wp2
    go_ret
    exact ⟨rfl, Below.refl _ _⟩
end Go.Proofs.Ytcfahmffboipiab
