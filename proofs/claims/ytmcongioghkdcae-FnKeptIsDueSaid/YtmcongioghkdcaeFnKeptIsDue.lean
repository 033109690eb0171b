/- The law FnKeptIsDue returns true at every code, and the code reads behind the call as it read before. No condition. -/
import Derived.Test.YtmcongioghkdcaeRows
import Derived.WalkKit
import Derived.LoopTactic
import Derived.Outline
import Derived.WalkSpells
import Derived.WalkLawsBesides
import Derived.ProofKit
import Derived.Deep.QuietTactic
import Derived.BigQuiet
import Derived.IntWalk
import Derived.Test.YtmcongioghkdcaeM0
import Derived.Test.YtmcongioghkdcaeM1
import Derived.Test.YtmcongioghkdcaeM18
import Derived.Test.YtmcongioghkdcaeM19
import Derived.Test.YtmcongioghkdcaeM20
namespace Go.Proofs.Ytmcongioghkdcae
open Go.RowKit Go.WideShapes

set_option maxRecDepth 100000 in
set_option maxHeartbeats 2000000 in
theorem fnKeptIsDue_any (a : Option Addr) (len cap : Nat) (w : World) (hb : BytesAt w w.heap.size a len) (hl : len ≤ cap) (hs : len ≤ 9223372036854775807) :
    Calls Try.prog 5 #[.slice a len cap] w (LawPost w) := by
  by_cases h20 : len ≤ 1048576
  · go_enter Try.func5, Try.ntmps5
    have hB0 := Below.refl w.heap.size w
    go_wp2_with fail
    refine (drawKeptOnTime_any a len cap w hb hl hs).mono ?_
    rintro e w1 ⟨a1, l1, c1, rows, rfl, n_r, hc1, hl1, hb1⟩
    have hB1 : Below w.heap.size w w1 := hB0.trans (hb1.mono hB0.size)
    clear hB0
    have xr_1 := n_r
    clear n_r
    clear hb hb1
    go_wp2_with fail
    refine (keptOnTime_impl a1 l1 c1 rows w1 xr_1 hc1).mono ?_
    rintro e w2 ⟨a3, l3, c3, rfl, n_g, _, hc3, hb2⟩
    have xr_2 := rows_lift xr_1 hb2
    have hB2 : Below w.heap.size w w2 := hB1.trans (hb2.mono hB1.size)
    clear hB1 xr_1
    have xg_2 := ints_in n_g (Nat.le_refl _)
    clear n_g
    clear hb2
    go_wp2_with fail
    refine (keptOnTime_spec a1 l1 c1 rows w2 xr_2).mono ?_
    rintro e w3 ⟨a4, l4, c4, rfl, n_k, _, hb3⟩
    have xr_3 := rows_lift xr_2 hb3
    have xg_3 := ints_lift xg_2 hb3
    have hB3 : Below w.heap.size w w3 := hB2.trans (hb3.mono hB2.size)
    clear hB2 xr_2 xg_2
    have xk_3 := ints_in n_k (Nat.le_refl _)
    clear n_k
    clear hb3
    have heq : eqB (keptRes rows) (keptRes rows) = true := decide_eq_true rfl
    go_wp2_with fail
    refine (equalInts_any _ _ _ _ _ _ _ _ _ _ _ xg_3 xk_3).mono ?_
    rintro e w4 ⟨rfl, dd⟩
    have xr_4 := rows_lift xr_3 (dd.below _)
    have xg_4 := ints_lift xg_3 (dd.below _)
    have xk_4 := ints_lift xk_3 (dd.below _)
    have hB4 : Below w.heap.size w w4 := hB3.trans (dd.below w.heap.size)
    clear hB3 xr_3 xg_3 xk_3
    clear dd
    clear xk_4
    clear xg_4
    rw [heq]
    clear heq
    go_wp2_with fail
    refine (keptOnTime_impl a1 l1 c1 rows w4 xr_4 hc1).mono ?_
    rintro e w5 ⟨a5, l5, c5, rfl, n_h, _, hc5, hb5⟩
    have xr_5 := rows_lift xr_4 hb5
    have hB5 : Below w.heap.size w w5 := hB4.trans (hb5.mono hB4.size)
    clear hB4 xr_4
    have xh_5 := ints_in n_h (Nat.le_refl _)
    clear n_h
    clear hb5
    go_wp2_with fail
    refine (validJobs_implV a1 l1 c1 rows w5 xr_5 hc1).mono ?_
    rintro e w6 ⟨rfl, hb6⟩
    have xr_6 := rows_lift xr_5 hb6
    have xh_6 := ints_lift xh_5 hb6
    have hB6 : Below w.heap.size w w6 := hB5.trans (hb6.mono hB5.size)
    clear hB5 xr_5 xh_5
    clear hb6
    cases hv : jobsM rows
    · obtain rfl : l5 = 0 := by have := xh_6.lenEq; rw [kept_no hv] at this; exact this.symm
      go_wp2_with fail
      go_ret
      exact ⟨rfl, hB6⟩
    · obtain ⟨l, hKP⟩ := kept_is hv
      have HF := Lib.hid (kept_full (kind := ⟨#[100, 117, 101]⟩) hv d_isW d_isD)
      have hl8 : l1 ≤ 8 := by have := (jobs_get hv).1; have := xr_6.lenEq; omega
      have HP := Lib.hid (jobs_get hv).2
      have HLN := Lib.hid (xr_6.lenEq)
      have HLK := Lib.hid (xh_6.lenEq)
      have HLB := Lib.hid (fun (h : rowFine rows (ordRes rows ⟨#[100, 117, 101]⟩) = true) => lateRes_bd h)
      have HMEM := Lib.hid (fun x (hx : x ∈ l) => by have := hKP.mem x hx; rw [xr_6.lenEq] at this; exact this)
      have HDUE := Lib.hid hKP.due
      have xl_6 : IntsAt w6 (· < w6.heap.size) a5 l5 (nI l) := by have := xh_6; rw [hKP.res] at this; exact this
      clear hKP hv
      go_wp2_with fail
      go_loopw [5] (fun xv wr => ∃ x : Nat, xv = .int .i64 ((x + 1 : Nat) : Int) ∧ (x = 0 ∨ x + 1 ≤ l5) ∧ Drew w6 wr) (fun xv _ => l5 - (intOf xv).toNat)
      case atStart => exact ⟨0, rfl, .inl rfl, Drew.refl _⟩
      case round =>
        obtain ⟨x, rfl, hx, hdw⟩ := hrel
        obtain ⟨z, rfl⟩ := hdw
        by_cases hlt : x + 1 < l5
        · obtain ⟨b1, off1, y1, e1, hy1, hc1'⟩ := xl_6.get (k := x) (by omega)
          obtain ⟨b2, off2, y2, e2, hy2, hc2'⟩ := xl_6.get (k := x + 1) (by omega)
          subst e1
          cases e2
          obtain ⟨e3, hlx⟩ := nI_get hy1
          obtain ⟨e4, hlx2⟩ := nI_get hy2
          have h1 : l[x]? = some (l.getD x 0) := by rw [List.getD_eq_getElem?_getD, List.getElem?_eq_getElem hlx]; rfl
          have h2 : l[x + 1]? = some (l.getD (x + 1) 0) := by rw [List.getD_eq_getElem?_getD, List.getElem?_eq_getElem hlx2]; rfl
          have hcmp := HDUE.out x _ h1 _ h2
          have hm1 := HMEM.out _ (List.mem_of_getElem? h1)
          have hm2 := HMEM.out _ (List.mem_of_getElem? h2)
          rw [e3] at hc1'
          rw [e4] at hc2'
          clear hy1 hy2 e3 e4 h1 h2
          generalize l.getD x 0 = p at *
          generalize l.getD (x + 1) 0 = q at *
          obtain ⟨b3, off3, b4, off4, c4', rfl, hr1, ht1, hw1, hd1, _⟩ := row3_at xr_6 HP.out hm1
          obtain ⟨b5, off5, b6, off6, c6', e5, hr2, ht2, hw2, hd2, _⟩ := row3_at xr_6 HP.out hm2
          cases e5
          have hpI : (p : Int) < (l1 : Int) := by omega
          have hqI : (q : Int) < (l1 : Int) := by omega
          have hl58 : l5 ≤ 1048576 := by have := keptRes_len rows; have := HLK.out; omega
          obtain ⟨x1, hx1⟩ : ∃ x1, x + 1 = x1 := ⟨_, rfl⟩
          have hwx : IntKind.i64.wrap ((x1 : Int) - 1) = (x : Int) := by rw [show (x1 : Int) - 1 = (x : Int) by omega]; exact IntWalk.i64_in _ (by omega)
          rw [hx1] at hc2' hlt ⊢
          have hxI : (x1 : Int) < (l5 : Int) := by omega
          have hxI0 : (x : Int) < (l5 : Int) := by omega
          have hdc : decide (td rows q < td rows p) = false := decide_eq_false (by omega)
          clear hcmp
          generalize td rows p = dp at *
          generalize td rows q = dq at *
          go_wp2_with fail
          go_quiet (fail)
          go_wp2_with fail
          go_roundw
          case rel => exact ⟨x1, by go_num, .inr (by omega), ⟨_, rfl⟩⟩
          case measure => simp [intOf] <;> omega
        · have hxI : ¬ ((x + 1 : Nat) : Int) < (l5 : Int) := by omega
          obtain ⟨w7, hwz⟩ : ∃ wz, w6.drewN z = wz := ⟨_, rfl⟩
          have dd : Drew w6 w7 := ⟨z, hwz.symm⟩
          rw [hwz]
          clear hwz
          clear xl_6
          have xr_7 := rows_lift xr_6 (dd.below _)
          have xh_7 := ints_lift xh_6 (dd.below _)
          have hB7 : Below w.heap.size w w7 := hB6.trans (dd.below w.heap.size)
          clear hB6 xr_6 xh_6
          clear dd
          go_wp2_with fail
          refine (orderBy_impl a1 l1 c1 rows ⟨#[100, 117, 101]⟩ w7 xr_7 hc1).mono ?_
          rintro e w8 ⟨a6, l6, c6, rfl, n_g, _, hc6, hb7⟩
          have xr_8 := rows_lift xr_7 hb7
          have xh_8 := ints_lift xh_7 hb7
          have hB8 : Below w.heap.size w w8 := hB7.trans (hb7.mono hB7.size)
          clear hB7 xr_7 xh_7
          have xg_8 := ints_in n_g (Nat.le_refl _)
          clear n_g
          clear hb7
          go_wp2_with fail
          refine (lateOf_impl a1 l1 c1 rows a6 l6 c6 (ordRes rows ⟨#[100, 117, 101]⟩) w8 xr_8 xg_8 hc1 hc6).mono ?_
          rintro e w9 ⟨rfl, hb8⟩
          have xr_9 := rows_lift xr_8 hb8
          have xh_9 := ints_lift xh_8 hb8
          have xg_9 := ints_lift xg_8 hb8
          have hB9 : Below w.heap.size w w9 := hB8.trans (hb8.mono hB8.size)
          clear hB8 xr_8 xh_8 xg_8
          clear hb8
          have hff := HF.out
          rw [HLK.out, HLN.out] at hff
          generalize lateRes rows (ordRes rows ⟨#[100, 117, 101]⟩) = lv at *
          by_cases hz : lv = 0
          · have h5 : l5 = l1 := hff.2 hz
            subst hz h5
            clear hff
            go_wp2_with fail
            go_ret
            exact ⟨rfl, hB9⟩
          · have h5 : ((l5 : Int) == (l1 : Int)) = false := by have : l5 ≠ l1 := fun e => hz (hff.1 e); simp; omega
            have h6 : (lv == 0) = false := by simpa using hz
            clear hff
            go_wp2_with fail
            go_ret
            exact ⟨rfl, hB9⟩
  · go_enter Try.func5, Try.ntmps5
    go_wp2
    go_ret
    exact ⟨rfl, Below.refl _ _⟩
end Go.Proofs.Ytmcongioghkdcae
