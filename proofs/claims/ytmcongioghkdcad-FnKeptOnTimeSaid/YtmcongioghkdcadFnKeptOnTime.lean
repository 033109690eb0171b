/- The law FnKeptOnTime returns true at every code, and the code reads behind the call as it read before. No condition. -/
import Derived.Test.YtmcongioghkdcadRows
import Derived.WalkKit
import Derived.LoopTactic
import Derived.Outline
import Derived.WalkSpells
import Derived.WalkLawsBesides
import Derived.ProofKit
import Derived.Deep.QuietTactic
import Derived.BigQuiet
import Derived.IntWalk
import Derived.Test.YtmcongioghkdcadM0
import Derived.Test.YtmcongioghkdcadM1
import Derived.Test.YtmcongioghkdcadM2
import Derived.Test.YtmcongioghkdcadM16
import Derived.Test.YtmcongioghkdcadM17
import Derived.Test.YtmcongioghkdcadM18
namespace Go.Proofs.Ytmcongioghkdcad
open Go.RowKit Go.WideShapes

set_option maxRecDepth 100000 in
set_option maxHeartbeats 2000000 in
theorem fnKeptOnTime_any (a : Option Addr) (len cap : Nat) (w : World) (hb : BytesAt w w.heap.size a len) (hl : len ≤ cap) (hs : len ≤ 9223372036854775807) :
    Calls Try.prog 5 #[.slice a len cap] w (LawPost w) := by
  by_cases h20 : len ≤ 1048576
  · go_enter Try.func5, Try.ntmps5
    have hB0 := Below.refl w.heap.size w
    go_wp2_with fail
    refine (drawKeptOnTime_any a len cap w hb hl hs).mono ?_
    rintro e w1 ⟨a1, l1, c1, rows, rfl, n_r, hc1, hl1, hb1⟩
    have hB1 : Below w.heap.size w w1 := hB0.trans (hb1.mono hB0.size)
    clear hB0
    have xr_1 := n_r
    clear n_r
    clear hb hb1
    go_wp2_with fail
    refine (keptOnTime_impl a1 l1 c1 rows w1 xr_1 hc1).mono ?_
    rintro e w2 ⟨a3, l3, c3, rfl, n_g, _, hc3, hb2⟩
    have xr_2 := rows_lift xr_1 hb2
    have hB2 : Below w.heap.size w w2 := hB1.trans (hb2.mono hB1.size)
    clear hB1 xr_1
    have xg_2 := ints_in n_g (Nat.le_refl _)
    clear n_g
    clear hb2
    go_wp2_with fail
    refine (keptOnTime_spec a1 l1 c1 rows w2 xr_2).mono ?_
    rintro e w3 ⟨a4, l4, c4, rfl, n_k, _, hb3⟩
    have xr_3 := rows_lift xr_2 hb3
    have xg_3 := ints_lift xg_2 hb3
    have hB3 : Below w.heap.size w w3 := hB2.trans (hb3.mono hB2.size)
    clear hB2 xr_2 xg_2
    have xk_3 := ints_in n_k (Nat.le_refl _)
    clear n_k
    clear hb3
    have heq : eqB (keptRes rows) (keptRes rows) = true := decide_eq_true rfl
    go_wp2_with fail
    refine (equalInts_any _ _ _ _ _ _ _ _ _ _ _ xg_3 xk_3).mono ?_
    rintro e w4 ⟨rfl, dd⟩
    have xr_4 := rows_lift xr_3 (dd.below _)
    have xg_4 := ints_lift xg_3 (dd.below _)
    have xk_4 := ints_lift xk_3 (dd.below _)
    have hB4 : Below w.heap.size w w4 := hB3.trans (dd.below w.heap.size)
    clear hB3 xr_3 xg_3 xk_3
    clear dd
    clear xk_4
    rw [heq]
    go_wp2_with fail
    refine (validJobs_implV a1 l1 c1 rows w4 xr_4 hc1).mono ?_
    rintro e w5 ⟨rfl, hb6⟩
    have xr_5 := rows_lift xr_4 hb6
    have xg_5 := ints_lift xg_4 hb6
    have hB5 : Below w.heap.size w w5 := hB4.trans (hb6.mono hB4.size)
    clear hB4 xr_4 xg_4
    clear hb6
    cases hv : jobsM rows
    · go_wp2_with fail
      refine (keptOnTime_spec a1 l1 c1 rows w5 xr_5).mono ?_
      rintro e w6 ⟨a5, l5, c5, rfl, n_k, _, hb7⟩
      have xr_6 := rows_lift xr_5 hb7
      have xg_6 := ints_lift xg_5 hb7
      have hB6 : Below w.heap.size w w6 := hB5.trans (hb7.mono hB5.size)
      clear hB5 xr_5 xg_5
      have xk_6 := ints_in n_k (Nat.le_refl _)
      clear n_k
      clear hb7
      go_wp2_with fail
      refine (equalInts_any _ _ _ _ _ _ _ _ _ _ _ xg_6 xk_6).mono ?_
      rintro e w7 ⟨rfl, dd⟩
      have xr_7 := rows_lift xr_6 (dd.below _)
      have xg_7 := ints_lift xg_6 (dd.below _)
      have xk_7 := ints_lift xk_6 (dd.below _)
      have hB7 : Below w.heap.size w w7 := hB6.trans (dd.below w.heap.size)
      clear hB6 xr_6 xg_6 xk_6
      clear dd
      rw [heq]
      go_wp2_with fail
      go_ret
      exact ⟨rfl, hB7⟩
    · obtain ⟨l, hKP⟩ := kept_is hv
      have hl8 : l1 ≤ 8 := by have := (jobs_get hv).1; have := xr_5.lenEq; omega
      have HP := Lib.hid (jobs_get hv).2
      have HB := Lib.hid (fun x => (j_bd hv x).1)
      have HRL := Lib.hid (rest_late hKP xr_5.lenEq)
      have HMEM := Lib.hid (fun x (hx : x ∈ l) => by have := hKP.mem x hx; rw [xr_5.lenEq] at this; exact this)
      have HTI := Lib.hid hKP.time
      have xl : IntsAt w5 (· < w5.heap.size) a3 l3 (nI l) := by have := xg_5; rw [hKP.res] at this; exact this
      have HLL : Hid (l.length = l3) := Lib.hid (by have := xl.lenEq; rw [nI_len] at this; exact this)
      have hl38 : l3 ≤ 8 := by
        have h1 := List.Nodup.length_le_of_subset hKP.nod (fun x hx => List.mem_range.2 (hKP.mem x hx))
        rw [List.length_range, xr_5.lenEq, HLL.out] at h1; omega
      have ho0 := World.ownsRow_made (base := w5.heap.size) (size := 1) (e := 3) w5 #[] 0 (Nat.le_refl _) (Nat.zero_le _) rfl
      have xl0 := xl.to (w' := w5.alloc (.cells #[] 3)) (S' := (· < w5.heap.size)) (fun b hb => ⟨hb, Below.heap_alloc _ _ _ hb⟩)
      have XL := Lib.hid xl
      have XLB := Lib.hid xl
      have XRB := Lib.hid xr_5
      have HBB := Lib.hid hB5
      have XL0 := Lib.hid xl0
      clear hKP hv heq xl xl0
      go_wp2_with (at_builtin; refine wpAppAny rfl _ _ rfl w5.heap.size 0 _ _ [] (· < w5.heap.size) a3 l3 c3 (nI l) rfl ho0 rfl XL0.out (by simp) (by omega) ?_)
      intro a7 c7 w6 hown7 hc7 hgr7
      have hb7 : Below w5.heap.size w5 w6 := ((Below.refl _ _).alloc (Nat.le_refl _) _).grown hgr7 (by simp) (own_block ho0)
      try rw [Nat.zero_add] at hown7
      try rw [List.nil_append] at hown7
      try rw [Nat.zero_add] at hc7
      try rw [Nat.zero_add]
      have HO7 := Lib.hid hown7
      clear hown7 hgr7 ho0
      have xr_6 := rows_lift xr_5 hb7
      have xg_6 := ints_lift xg_5 hb7
      have hB6 : Below w.heap.size w w6 := hB5.trans (hb7.mono hB5.size)
      clear hB5 xr_5 xg_5
      have XL7 := Lib.hid (XL.out.below hb7)
      clear XL XL0
      go_wp2_with fail
      go_loop [6, 7] (fun tv xv => ∃ x : Nat, x ≤ l3 ∧ xv = .int .i64 x ∧ tv = .int .i64 (sumL (ta rows) (l.take x))) (fun _ xv => l3 - (intOf xv).toNat)
      case atStart => exact ⟨0, Nat.zero_le _, rfl, rfl⟩
      case round =>
        obtain ⟨x, hx, rfl, rfl⟩ := hrel
        by_cases hlt : x < l3
        · obtain ⟨b1, off1, y1, e1, hy1, hc1'⟩ := XL7.out.get (k := x) hlt
          subst e1
          obtain ⟨e3, hlx⟩ := nI_get hy1
          have h1 : l[x]? = some (l.getD x 0) := by rw [List.getD_eq_getElem?_getD, List.getElem?_eq_getElem hlx]; rfl
          have hti := HTI.out x _ h1
          have hm1 := HMEM.out _ (List.mem_of_getElem? h1)
          have HN := Lib.hid (sum_snoc (f := ta rows) h1)
          have hsb := end_bd HB.out (l := l) (by rw [HLL.out]; exact hl38) x
          have hsb2 := end_bd HB.out (l := l) (by rw [HLL.out]; exact hl38) (x + 1)
          rw [e3] at hc1'
          rw [HN.out] at hti hsb2
          clear hy1 e3 h1
          generalize l.getD x 0 = p at *
          obtain ⟨b3, off3, b4, off4, c4', rfl, hr1, ht1, hw1, hd1, _⟩ := row3_at xr_6 HP.out hm1
          have hpI : (p : Int) < (l1 : Int) := by omega
          have hxI : (x : Int) < (l3 : Int) := by omega
          generalize sumL (ta rows) (l.take x) = sv at *
          generalize ta rows p = tp at *
          generalize td rows p = dp at *
          have hdc : ¬ dp < sv + tp := by omega
          go_wp2_with fail
          go_round
          case rel => exact ⟨x + 1, by omega, by go_num, by rw [HN.out]⟩
          case measure => simp [intOf] <;> omega
        · have hxI : ¬ (x : Int) < (l3 : Int) := by omega
          generalize sumL (ta rows) (l.take x) = sv at *
          go_wp2_with fail
          go_loopw [5, 8] (fun ov iv wr => ∃ (i cp : Nat) (ax : Option Addr), i ≤ l1 ∧ iv = .int .i64 i ∧ ov = .slice ax (l ++ restTo l i).length cp ∧ wr.ownsRow w5.heap.size 3 1 ov (l ++ restTo l i).length ((nI (l ++ restTo l i)).map (.int .i64)) ∧ (l ++ restTo l i).length ≤ cp ∧ Below w5.heap.size w5 wr) (fun _ iv _ => l1 - (intOf iv).toNat)
          case atStart =>
            have e : (l ++ restTo l 0).length = l3 := by rw [restTo, List.append_nil, HLL.out]
            exact ⟨0, c7, a7, Nat.zero_le _, rfl, by rw [e], by rw [e]; have := HO7.out; rw [restTo, List.append_nil]; exact this, by rw [e]; exact hc7, hb7⟩
          case round =>
            obtain ⟨i, cp, ax, hi, rfl, rfl, hown, hcp, hB⟩ := hrel
            obtain ⟨wo, rfl⟩ : ∃ wo : World, wo = wr := ⟨_, rfl⟩
            have HLE := Lib.hid (restTo_len l i)
            have hll : (l ++ restTo l i).length ≤ 16 := by rw [List.length_append, HLL.out]; have := HLE.out; omega
            have HLF : Hid (i = l1 → (l ++ restTo l i) = l ++ restTo l l1) := Lib.hid (fun e => by rw [e])
            have HNX := Lib.hid (show restTo l (i + 1) = if i ∈ l then restTo l i else restTo l i ++ [i] from rfl)
            obtain ⟨M, hM⟩ : ∃ M, l ++ restTo l i = M := ⟨_, rfl⟩
            rw [hM] at hll hown hcp HLF ⊢
            have HM := Lib.hid hM
            clear hM
            obtain ⟨m, hm⟩ : ∃ m, M.length = m := ⟨_, rfl⟩
            have HML := Lib.hid hm
            rw [hm] at hll hown hcp ⊢
            clear hm
            have HO := Lib.hid hown
            have HB := Lib.hid hB
            have xlo : IntsAt wo (· < wo.heap.size) a3 l3 (nI l) := XLB.out.to (fun b hb => ⟨Nat.lt_of_lt_of_le hb HB.out.size, HB.out.block b hb⟩)
            have hro : RowsAt wo (· < wo.heap.size) a1 l1 rows := XRB.out.below HB.out |>.to (fun b hb => ⟨Nat.lt_of_lt_of_le hb HB.out.size, rfl⟩)
            have HRO := Lib.hid hro
            have XLO := Lib.hid xlo
            clear hown hB xlo hro
            by_cases hlt : i < l1
            · have hiI : (i : Int) < (l1 : Int) := by omega
              have HIN := Lib.hid (isIn_any _ a3 l3 c3 (nI l) (i : Int) wo XLO.out)
              rw [inM_nI] at HIN
              by_cases him : i ∈ l
              · have HN2 : Hid (l ++ restTo l (i + 1) = M) := Lib.hid (by rw [HNX.out, if_pos him, HM.out])
                rw [decide_eq_true him] at HIN
                clear him
                go_wp2_with fail
                refine HIN.out.mono ?_
                rintro e w' ⟨rfl, rfl⟩
                go_wp2_with fail
                go_roundw
                case rel => exact ⟨i + 1, cp, ax, by omega, by go_num, by rw [HN2.out, HML.out], by rw [HN2.out, HML.out]; exact HO.out, by rw [HN2.out, HML.out]; exact hcp, HB.out⟩
                case measure => simp [intOf] <;> omega
              · have HN2 : Hid (l ++ restTo l (i + 1) = M ++ [i]) := Lib.hid (by rw [HNX.out, if_neg him, ← List.append_assoc, HM.out])
                have HNL : Hid ((M ++ [i]).length = m + 1) := Lib.hid (by rw [List.length_append, HML.out]; rfl)
                have HNI : Hid (nI M ++ [(i : Int)] = nI (M ++ [i])) := Lib.hid (by rw [nI_append]; rfl)
                rw [decide_eq_false him] at HIN
                clear him
                go_wp2_with fail
                refine HIN.out.mono ?_
                rintro e w' ⟨rfl, rfl⟩
                go_wp2_with (at_builtin; refine wpApp1 rfl _ _ rfl w5.heap.size m cp ax (nI M) (i : Int) rfl HO.out rfl HB.out.size (by omega) ?_)
                intro a8 c8 w8 hown8 hc8 hgr8
                have HO8 := Lib.hid (own_snoc hown8)
                have HB8 := Lib.hid (HB.out.grown hgr8 HB.out.size (own_block HO.out))
                clear hown8 hgr8
                go_wp2_with fail
                go_roundw
                case rel => exact ⟨i + 1, c8, a8, by omega, by go_num, by rw [HN2.out, HNL.out], by rw [HN2.out, HNL.out, ← HNI.out]; exact HO8.out, by rw [HN2.out, HNL.out]; exact hc8, HB8.out⟩
                case measure => simp [intOf] <;> omega
            · have hie : i = l1 := by omega
              have HIE := Lib.hid hie
              have hiI : ¬ (i : Int) < (l1 : Int) := by omega
              have HIO : Hid (IntsAt wo (· < wo.heap.size) ax m (nI M)) := Lib.hid (by
                obtain ⟨a', c', e', _, h'⟩ := own_ints HO.out (by omega)
                injection e' with e1 _ _
                subst e1
                exact h'.to fun b hb => ⟨hb.2, rfl⟩)
              have HLR : Hid (lateRes rows (nI M) = (l1 : Int) - (l3 : Int)) := Lib.hid (by rw [HLF.out HIE.out, HRL.out, HLL.out])
              have HBO := Lib.hid (HBB.out.trans (HB.out.mono HBB.out.size))
              clear hie
              go_wp2_with fail
              refine (lateOf_impl a1 l1 c1 rows ax m cp (nI M) wo HRO.out HIO.out hc1 hcp).mono ?_
              rintro e w9 ⟨rfl, hb9⟩
              rw [HLR.out]
              have HB9 := Lib.hid (HBO.out.trans (hb9.mono HBO.out.size))
              clear hb9
              go_wp2_with fail
              go_ret
              exact ⟨rfl, HB9.out⟩
  · go_enter Try.func5, Try.ntmps5
    go_wp2
    go_ret
    exact ⟨rfl, Below.refl _ _⟩
end Go.Proofs.Ytmcongioghkdcad
