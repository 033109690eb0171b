/- The law FnOrderBy returns true at every code, and the code reads behind the call as it read before. No condition. -/
import Derived.Test.YtmcongioghkdcadRows
import Derived.WalkKit
import Derived.LoopTactic
import Derived.Outline
import Derived.WalkSpells
import Derived.WalkLawsBesides
import Derived.ProofKit
import Derived.Deep.QuietTactic
import Derived.BigQuiet
import Derived.IntWalk
import Derived.Test.YtmcongioghkdcadM0
import Derived.Test.YtmcongioghkdcadM1
import Derived.Test.YtmcongioghkdcadM2
import Derived.Test.YtmcongioghkdcadM16
import Derived.Test.YtmcongioghkdcadM17
import Derived.Test.YtmcongioghkdcadM18
namespace Go.Proofs.Ytmcongioghkdcad
open Go.RowKit Go.WideShapes

set_option maxRecDepth 100000 in
set_option maxHeartbeats 2000000 in
theorem fnOrderBy_any (a : Option Addr) (len cap : Nat) (w : World) (hb : BytesAt w w.heap.size a len) (hl : len ≤ cap) (hs : len ≤ 9223372036854775807) :
    Calls Try.prog 3 #[.slice a len cap] w (LawPost w) := by
  by_cases h20 : len ≤ 1048576
  · go_enter Try.func3, Try.ntmps3
    have hB0 := Below.refl w.heap.size w
    go_wp2_with fail
    refine (drawOrderBy_any a len cap w hb hl hs).mono ?_
    rintro e w1 ⟨a1, l1, c1, rows, kind, rfl, n_r, hc1, hl1, hb1⟩
    have hB1 : Below w.heap.size w w1 := hB0.trans (hb1.mono hB0.size)
    clear hB0
    have xr_1 := n_r
    clear n_r
    clear hb hb1
    go_wp2_with fail
    refine (orderBy_impl a1 l1 c1 rows kind w1 xr_1 hc1).mono ?_
    rintro e w2 ⟨a3, l3, c3, rfl, n_g, _, hc3, hb2⟩
    have xr_2 := rows_lift xr_1 hb2
    have hB2 : Below w.heap.size w w2 := hB1.trans (hb2.mono hB1.size)
    clear hB1 xr_1
    have xg_2 := ints_in n_g (Nat.le_refl _)
    clear n_g
    go_wp2_with fail
    refine (orderBy_spec a1 l1 c1 rows kind w2 xr_2).mono ?_
    rintro e w3 ⟨a4, l4, c4, rfl, n_k, _, hb3⟩
    have xr_3 := rows_lift xr_2 hb3
    have xg_3 := ints_lift xg_2 hb3
    have hB3 : Below w.heap.size w w3 := hB2.trans (hb3.mono hB2.size)
    clear hB2 xr_2 xg_2
    have xk_3 := ints_in n_k (Nat.le_refl _)
    clear n_k
    have heq : eqB (ordRes rows kind) (ordRes rows kind) = true := decide_eq_true rfl
    go_wp2_with fail
    refine (equalInts_any _ _ _ _ _ _ _ _ _ _ _ xg_3 xk_3).mono ?_
    rintro e w4 ⟨rfl, dd⟩
    have xr_4 := rows_lift xr_3 (dd.below _)
    have xg_4 := ints_lift xg_3 (dd.below _)
    have xk_4 := ints_lift xk_3 (dd.below _)
    have hB4 : Below w.heap.size w w4 := hB3.trans (dd.below w.heap.size)
    clear hB3 xr_3 xg_3 xk_3
    clear dd
    clear xk_4
    clear hb2 hb3
    rw [heq]
    by_cases h0 : l3 = 0
    · subst h0
      go_wp2_with fail
      refine (orderBy_spec a1 l1 c1 rows kind w4 xr_4).mono ?_
      rintro e w5 ⟨a4, l4, c4, rfl, n_k, _, hb6⟩
      have xr_5 := rows_lift xr_4 hb6
      have xg_5 := ints_lift xg_4 hb6
      have hB5 : Below w.heap.size w w5 := hB4.trans (hb6.mono hB4.size)
      clear hB4 xr_4 xg_4
      have xk_5 := ints_in n_k (Nat.le_refl _)
      clear n_k
      go_wp2_with fail
      refine (equalInts_any _ _ _ _ _ _ _ _ _ _ _ xg_5 xk_5).mono ?_
      rintro e w6 ⟨rfl, dd⟩
      have xr_6 := rows_lift xr_5 (dd.below _)
      have xg_6 := ints_lift xg_5 (dd.below _)
      have xk_6 := ints_lift xk_5 (dd.below _)
      have hB6 : Below w.heap.size w w6 := hB5.trans (dd.below w.heap.size)
      clear hB5 xr_5 xg_5 xk_5
      clear dd
      rw [heq]
      go_wp2_with fail
      go_ret
      exact ⟨rfl, hB6⟩
    · have h0e : ((l3 : Int) == 0) = false := by simp; omega
      obtain ⟨hp, l, hRO, hcase⟩ := ord_cases (rows := rows) (kind := kind) (fun e => h0 (by have := xg_4.lenEq; rw [e] at this; exact this.symm))
      have hl31 : l3 = l1 := by have h1 := xg_4.lenEq; have h2 := xr_4.lenEq; rw [hRO.res, nI_len, hRO.len] at h1; omega
      subst hl31
      have hl8 : l3 ≤ 8 := by have := (jobs_get hp).1; have := xr_4.lenEq; omega
      have HP := Lib.hid (jobs_get hp).2
      have HB := Lib.hid (fun x => j_bd hp x)
      have HDF : Hid (diffM (ordRes rows kind) l3 = l3) := Lib.hid (by rw [hRO.res]; exact diffM_nod hRO.nod l3 (by rw [nI_len, hRO.len, xr_4.lenEq]; exact Nat.le_refl _))
      have HMEM := Lib.hid (fun x (hx : x ∈ l) => by have := hRO.mem x hx; rw [xr_4.lenEq] at this; exact this)
      have HLL : Hid (l.length = l3) := Lib.hid (by rw [hRO.len, xr_4.lenEq])
      have xl_4 : IntsAt w4 (· < w4.heap.size) a3 l3 (nI l) := by have := xg_4; rw [hRO.res] at this; exact this
      clear hp hRO heq
      have k1 : (kind.toList == [119, 97, 105, 116]) = isW kind := rfl
      have k2 : (kind.toList == [100, 117, 101]) = isD kind := rfl
      rcases hcase with ⟨e1, e2, hadj⟩ | ⟨e1, e2, hadj⟩
      · rw [e1] at k1
        rw [e2] at k2
        have HA := Lib.hid hadj
        clear hadj e1 e2
        go_wp2_with fail
        go_loopw [6] (fun xv wr => ∃ x : Nat, x + 1 ≤ l3 ∧ xv = .int .i64 ((x + 1 : Nat) : Int) ∧ Drew w4 wr) (fun xv _ => l3 - (intOf xv).toNat)
        case atStart => exact ⟨0, by omega, rfl, Drew.refl _⟩
        case round =>
          obtain ⟨x, hx, rfl, hdw⟩ := hrel
          obtain ⟨z, rfl⟩ := hdw
          by_cases hlt : x + 1 < l3
          · obtain ⟨b1, off1, y1, e1, hy1, hc1'⟩ := xl_4.get (k := x) (by omega)
            obtain ⟨b2, off2, y2, e2, hy2, hc2'⟩ := xl_4.get (k := x + 1) (by omega)
            subst e1
            cases e2
            obtain ⟨e3, hlx⟩ := nI_get hy1
            obtain ⟨e4, hlx2⟩ := nI_get hy2
            have h1 : l[x]? = some (l.getD x 0) := by rw [List.getD_eq_getElem?_getD, List.getElem?_eq_getElem hlx]; rfl
            have h2 : l[x + 1]? = some (l.getD (x + 1) 0) := by rw [List.getD_eq_getElem?_getD, List.getElem?_eq_getElem hlx2]; rfl
            have hcmp := HA.out x _ h1 _ h2
            have hm1 := HMEM.out _ (List.mem_of_getElem? h1)
            have hm2 := HMEM.out _ (List.mem_of_getElem? h2)
            rw [e3] at hc1'
            rw [e4] at hc2'
            clear hy1 hy2 e3 e4 h1 h2
            generalize l.getD x 0 = p at *
            generalize l.getD (x + 1) 0 = q at *
            obtain ⟨b3, off3, b4, off4, c4', rfl, hr1, ht1, hw1, hd1, _⟩ := row3_at xr_4 HP.out hm1
            obtain ⟨b5, off5, b6, off6, c6', e5, hr2, ht2, hw2, hd2, _⟩ := row3_at xr_4 HP.out hm2
            cases e5
            have bp := HB.out p
            have bq := HB.out q
            have hpI : (p : Int) < (l3 : Int) := by omega
            have hqI : (q : Int) < (l3 : Int) := by omega
            obtain ⟨x1, hx1⟩ : ∃ x1, x + 1 = x1 := ⟨_, rfl⟩
            have hxx : (x1 : Int) - 1 = (x : Int) := by omega
            have hwx : IntKind.i64.wrap ((x1 : Int) - 1) = (x : Int) := by rw [hxx]; exact IntWalk.i64_in _ (by omega)
            rw [hx1] at hc2' hlt ⊢
            have hxI : (x1 : Int) < (l3 : Int) := by omega
            have hxI0 : (x : Int) < (l3 : Int) := by omega
            clear hxx
            have m1 := mul_boxJ bp.2.1.1 bp.2.1.2 bq.1.1 bq.1.2
            have m2 := mul_boxJ bq.2.1.1 bq.2.1.2 bp.1.1 bp.1.2
            have hdc : decide (tb rows p * ta rows q < tb rows q * ta rows p) = false := decide_eq_false (by omega)
            clear hcmp bp bq hd1 hd2
            generalize ta rows p = tp at *
            generalize ta rows q = tq at *
            generalize tb rows p = wp at *
            generalize tb rows q = wq at *
            go_wp2_with fail
            go_quiet (fail)
            go_wp2_with fail
            go_roundw
            case rel => exact ⟨x1, by omega, by go_num, ⟨_, rfl⟩⟩
            case measure => simp [intOf] <;> omega
          · have hxe : x + 1 = l3 := by omega
            have hxI : ¬ ((x + 1 : Nat) : Int) < (l3 : Int) := by omega
            have hgz : IntsAt (w4.drewN z) (· < (w4.drewN z).heap.size) a3 l3 (ordRes rows kind) := Drew.ints xg_4 ⟨z, rfl⟩
            have hbz := below_drewN hB4 z
            generalize w4.drewN z = wz at *
            clear hxe
            go_wp2_with fail
            refine (different_any _ a3 l3 c3 (ordRes rows kind) wz hgz hc3).mono ?_
            rintro e w9 ⟨rfl, dd⟩
            rw [HDF.out]
            have hB9 : Below w.heap.size w w9 := hbz.trans (dd.below _)
            clear dd hgz hbz
            go_wp2_with fail
            go_ret
            exact ⟨rfl, hB9⟩
      · rw [e1] at k1
        rw [e2] at k2
        have HA := Lib.hid hadj
        clear hadj e1 e2
        go_wp2_with fail
        go_loopw [6] (fun xv wr => ∃ x : Nat, x + 1 ≤ l3 ∧ xv = .int .i64 ((x + 1 : Nat) : Int) ∧ Drew w4 wr) (fun xv _ => l3 - (intOf xv).toNat)
        case atStart => exact ⟨0, by omega, rfl, Drew.refl _⟩
        case round =>
          obtain ⟨x, hx, rfl, hdw⟩ := hrel
          obtain ⟨z, rfl⟩ := hdw
          by_cases hlt : x + 1 < l3
          · obtain ⟨b1, off1, y1, e1, hy1, hc1'⟩ := xl_4.get (k := x) (by omega)
            obtain ⟨b2, off2, y2, e2, hy2, hc2'⟩ := xl_4.get (k := x + 1) (by omega)
            subst e1
            cases e2
            obtain ⟨e3, hlx⟩ := nI_get hy1
            obtain ⟨e4, hlx2⟩ := nI_get hy2
            have h1 : l[x]? = some (l.getD x 0) := by rw [List.getD_eq_getElem?_getD, List.getElem?_eq_getElem hlx]; rfl
            have h2 : l[x + 1]? = some (l.getD (x + 1) 0) := by rw [List.getD_eq_getElem?_getD, List.getElem?_eq_getElem hlx2]; rfl
            have hcmp := HA.out x _ h1 _ h2
            have hm1 := HMEM.out _ (List.mem_of_getElem? h1)
            have hm2 := HMEM.out _ (List.mem_of_getElem? h2)
            rw [e3] at hc1'
            rw [e4] at hc2'
            clear hy1 hy2 e3 e4 h1 h2
            generalize l.getD x 0 = p at *
            generalize l.getD (x + 1) 0 = q at *
            obtain ⟨b3, off3, b4, off4, c4', rfl, hr1, ht1, hw1, hd1, _⟩ := row3_at xr_4 HP.out hm1
            obtain ⟨b5, off5, b6, off6, c6', e5, hr2, ht2, hw2, hd2, _⟩ := row3_at xr_4 HP.out hm2
            cases e5
            have bp := HB.out p
            have bq := HB.out q
            have hpI : (p : Int) < (l3 : Int) := by omega
            have hqI : (q : Int) < (l3 : Int) := by omega
            obtain ⟨x1, hx1⟩ : ∃ x1, x + 1 = x1 := ⟨_, rfl⟩
            have hxx : (x1 : Int) - 1 = (x : Int) := by omega
            have hwx : IntKind.i64.wrap ((x1 : Int) - 1) = (x : Int) := by rw [hxx]; exact IntWalk.i64_in _ (by omega)
            rw [hx1] at hc2' hlt ⊢
            have hxI : (x1 : Int) < (l3 : Int) := by omega
            have hxI0 : (x : Int) < (l3 : Int) := by omega
            clear hxx
            have hdc : decide (td rows q < td rows p) = false := decide_eq_false (by omega)
            clear hcmp bp bq
            generalize td rows p = dp at *
            generalize td rows q = dq at *
            go_wp2_with fail
            go_quiet (fail)
            go_wp2_with fail
            go_roundw
            case rel => exact ⟨x1, by omega, by go_num, ⟨_, rfl⟩⟩
            case measure => simp [intOf] <;> omega
          · have hxe : x + 1 = l3 := by omega
            have hxI : ¬ ((x + 1 : Nat) : Int) < (l3 : Int) := by omega
            have hgz : IntsAt (w4.drewN z) (· < (w4.drewN z).heap.size) a3 l3 (ordRes rows kind) := Drew.ints xg_4 ⟨z, rfl⟩
            have hbz := below_drewN hB4 z
            generalize w4.drewN z = wz at *
            clear hxe
            go_wp2_with fail
            refine (different_any _ a3 l3 c3 (ordRes rows kind) wz hgz hc3).mono ?_
            rintro e w9 ⟨rfl, dd⟩
            rw [HDF.out]
            have hB9 : Below w.heap.size w w9 := hbz.trans (dd.below _)
            clear dd hgz hbz
            go_wp2_with fail
            go_ret
            exact ⟨rfl, hB9⟩
  · go_enter Try.func3, Try.ntmps3
    go_wp2
    go_ret
    exact ⟨rfl, Below.refl _ _⟩
end Go.Proofs.Ytmcongioghkdcad
