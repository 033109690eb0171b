import Derived.Test.YtiapaddmnbeheaaRows
import Derived.WalkKit
import Derived.LoopTactic
import Derived.Outline
import Derived.WalkSpells
import Derived.WalkLawsBesides
import Derived.ProofKit
import Derived.Lib.Hide
import Derived.IntWalk
import Derived.Deep.QuietTactic
import Derived.BigQuiet
import Derived.Test.YtiapaddmnbeheaaLib
import Derived.Test.YtiapaddmnbeheaaArr
import Derived.Test.YtiapaddmnbeheaaUp
import Derived.Test.YtiapaddmnbeheaaNetAt
namespace Go.Proofs.Ytiapaddmnbeheaa
open Go.RowKit Go.WideShapes

theorem inR {lo hi n : Int} {b : Bool} (h : inB lo hi n = b) (w : World) : Calls Try.prog 33 #[.int .i64 n, .int .i64 lo, .int .i64 hi] w fun e w' => e = .returned (.bool b) ∧ w' = w := by
  subst h; exact (inRange_any n lo hi w).mono fun _ _ h => ⟨h.1, h.2.symm⟩
set_option maxRecDepth 100000 in
set_option maxHeartbeats 4000000 in
theorem validNet_any (d : NV) (ts : List Int) (rows : List (List Int)) (w : World) (h : NetAt w (· < w.heap.size) d ts rows) :
    Calls Try.prog 20 #[.agg #[.slice d.aT d.lT d.cT, .slice d.aW d.lW d.cW]] w (valN w (.bool (tokM ts rows))) := by
  obtain ⟨aT, lT, cT, aW, lW, cW⟩ := d
  obtain ⟨ht, hr, hct, hcw⟩ := h
  dsimp only at ht hr hct hcw ⊢
  have hst := ht.small
  have hsw := hr.small
  have HTL := Lib.hid ht.lenEq
  have HWL := Lib.hid hr.lenEq
  have HH := Lib.hid (show ∀ w', Below w.heap.size w w' → IntsAt w' (· < w.heap.size) aT lT ts ∧ RowsAt w' (· < w.heap.size) aW lW rows from fun w' hb => ⟨ht.below hb, hr.below hb⟩)
  clear ht hr
  go_enter Try.func20, Try.ntmps20
  go_wp2_with fail
  have hb0 := (Below.refl w.heap.size w).alloc (Nat.le_refl _) (.cells #[.slice aT lT cT, .slice aW lW cW] 26)
  have hn0 := netB_new w aT lT cT aW lW cW 26
  go_loopw [3] (fun i wr => ∃ k : Nat, k ≤ lT ∧ i = .int .i64 k ∧ allIn 0 9 (ts.take k) = true ∧ Below w.heap.size w wr ∧ NetB wr w.heap.size ⟨aT, lT, cT, aW, lW, cW⟩) (fun i _ => lT - (intOf i).toNat)
  case atStart => exact ⟨0, Nat.zero_le _, rfl, rfl, hb0, hn0⟩
  case round =>
    clear hb0 hn0
    obtain ⟨k, hk, rfl, ha, hb, hn⟩ := hrel
    obtain ⟨n0, n1⟩ := id hn
    have HB := Lib.hid hb
    have HN := Lib.hid hn
    have HA := Lib.hid ha
    clear hb hn ha
    dsimp only at n0 n1
    by_cases hlt : k < lT
    · obtain ⟨b, off, x, rfl, hx, hc⟩ := (HH.out wr HB.out).1.get hlt
      have HX := Lib.hid hx
      have hkI : (k : Int) < (lT : Int) := by omega
      clear hx
      cases hq : inB 0 9 x
      · go_wp2_with (go_at_call 33; refine (inRange_any _ _ _ _).mono ?_; rintro e w' ⟨rfl, rfl⟩)
        go_ret
        exact ⟨ret_bool (tok_time_false (allIn_false HX.out hq)).symm, HB.out⟩
      · go_wp2_with (go_at_call 33; refine (inRange_any _ _ _ _).mono ?_; rintro e w' ⟨rfl, rfl⟩)
        go_roundw
        case rel => exact ⟨k + 1, by omega, by go_num, allIn_step HX.out HA.out hq, HB.out, HN.out⟩
        case measure => simp [intOf]; omega
    · obtain rfl : k = lT := by omega
      have hkI : ¬ (k : Int) < (k : Int) := by omega
      have HA9 : Hid (allIn 0 9 ts = true) := Lib.hid (by have := HA.out; rwa [List.take_of_length_le (by rw [HTL.out]; omega)] at this)
      go_wp2_with fail
      go_loopw [4] (fun i wr => ∃ q : Nat, q ≤ lW ∧ i = .int .i64 q ∧ (rows.take q).all (wayB k) = true ∧ Below w.heap.size w wr ∧ NetB wr w.heap.size ⟨aT, k, cT, aW, lW, cW⟩) (fun i _ => lW - (intOf i).toNat)
      case atStart => exact ⟨0, Nat.zero_le _, rfl, rfl, HB.out, HN.out⟩
      case round =>
        clear n0 n1
        obtain ⟨q, hq, rfl, ha, hb, hn⟩ := hrel
        obtain ⟨wo, rfl⟩ : ∃ wo : World, wo = wr := ⟨_, rfl⟩
        obtain ⟨n0, n1⟩ := id hn
        have HB := Lib.hid hb
        have HN := Lib.hid hn
        have HA := Lib.hid ha
        clear hb hn ha
        dsimp only at n0 n1
        by_cases hlq : q < lW
        · obtain ⟨b, off, r, a', l, c, rfl, hx, hc, _, hri⟩ := (HH.out wo HB.out).2.get hlq
          have HX := Lib.hid hx
          have HRL := Lib.hid hri.lenEq
          have hrs := hri.small
          have hqI : (q : Int) < (lW : Int) := by omega
          clear hx
          have HF := Lib.hid (fun h : wayB k r = false => tok_way_false (ts := ts) HX.out (by rw [HTL.out]; exact h))
          by_cases hl3 : l = 3
          · subst hl3
            obtain ⟨b', off', x, rfl, hy, hd⟩ := hri.get (k := 0) (by omega)
            obtain ⟨b2, off2, y, e2, hy2, hd2⟩ := hri.get (k := 1) (by omega)
            cases e2
            obtain ⟨b3, off3, z, e3, hy3, hd3⟩ := hri.get (k := 2) (by omega)
            cases e3
            rw [Nat.add_zero] at hd
            have HWB : Hid (wayB k r = (inB 0 ((k : Int) - 1) x && (inB 0 ((k : Int) - 1) y && inB 0 3 z))) := Lib.hid (by unfold wayB; rw [HRL.out, getD_of hy, getD_of hy2, getD_of hy3]; rfl)
            clear hy hy2 hy3
            have hwr : IntKind.i64.wrap ((k : Int) - 1) = (k : Int) - 1 := IntWalk.i64_in _ (by omega)
            cases h0 : inB 0 ((k : Int) - 1) x
            · have C0 := Lib.hid (fun w => inR h0 w)
              rw [h0] at HWB
              go_wp2_with fail
              go_quiet ((go_at_call 33; exact Calls.quiet_of_same (C0.out _)))
              go_wp2_with fail
              go_ret
              exact ⟨ret_bool (HF.out (by rw [HWB.out]; rfl)).symm, below_drewN HB.out _⟩
            · cases h1 : inB 0 ((k : Int) - 1) y
              · have C0 := Lib.hid (fun w => inR h0 w)
                have C1 := Lib.hid (fun w => inR h1 w)
                rw [h0, h1] at HWB
                go_wp2_with fail
                go_quiet ((go_at_call 33; first | (with_reducible exact Calls.quiet_of_same (C0.out _)) | (with_reducible exact Calls.quiet_of_same (C1.out _))))
                go_wp2_with fail
                go_ret
                exact ⟨ret_bool (HF.out (by rw [HWB.out]; rfl)).symm, below_drewN HB.out _⟩
              · cases h2 : inB 0 3 z
                all_goals
                  have C0 := Lib.hid (fun w => inR h0 w)
                  have C1 := Lib.hid (fun w => inR h1 w)
                  have C2 := Lib.hid (fun w => inR h2 w)
                  rw [h0, h1, h2] at HWB
                  go_wp2_with fail
                  go_quiet ((go_at_call 33; first | (with_reducible exact Calls.quiet_of_same (C0.out _)) | (with_reducible exact Calls.quiet_of_same (C1.out _)) | (with_reducible exact Calls.quiet_of_same (C2.out _))))
                  go_wp2_with fail
                · go_ret
                  exact ⟨ret_bool (HF.out (by rw [HWB.out]; rfl)).symm, below_drewN HB.out _⟩
                · go_roundw
                  case rel => exact ⟨q + 1, by omega, by go_num, by rw [take_get HX.out, List.all_append, HA.out]; simp only [List.all_cons, List.all_nil, Bool.and_true, Bool.true_and]; exact HWB.out, below_drewN HB.out _, HN.out.drewN _⟩
                  case measure => simp [intOf]; omega
          · have hle : ((l : Int) != 3) = true := by simp; omega
            go_wp2_with fail
            go_quiet (fail)
            go_wp2_with fail
            go_ret
            exact ⟨ret_bool (HF.out (by unfold wayB; rw [HRL.out, beq_eq_false_iff_ne.2 hl3]; rfl)).symm, below_drewN HB.out _⟩
        · obtain rfl : q = lW := by omega
          have HA8 : Hid (rows.all (wayB k) = true) := Lib.hid (by have := HA.out; rwa [List.take_of_length_le (by rw [HWL.out]; omega)] at this)
          have HM : Hid (tokM ts rows = (decide (k ≤ 4) && decide (q ≤ 7))) := Lib.hid (by unfold tokM; rw [HTL.out, HWL.out, HA9.out, HA8.out, Bool.true_and, Bool.and_true])
          have hqI : ¬ (q : Int) < (q : Int) := by omega
          by_cases h4 : k ≤ 4
          · by_cases h7 : q ≤ 7
            · have h4I : (k : Int) ≤ 4 := by omega
              have h7I : (q : Int) ≤ 7 := by omega
              go_wp2_with fail
              go_ret
              exact ⟨ret_bool (by rw [HM.out, decide_eq_true h4, decide_eq_true h7]; rfl), HB.out⟩
            · have h4I : (k : Int) ≤ 4 := by omega
              have h7I : ¬ (q : Int) ≤ 7 := by omega
              go_wp2_with fail
              go_ret
              exact ⟨ret_bool (by rw [HM.out, decide_eq_true h4, decide_eq_false h7]; rfl), HB.out⟩
          · have h4I : ¬ (k : Int) ≤ 4 := by omega
            go_wp2_with fail
            go_ret
            exact ⟨ret_bool (by rw [HM.out, decide_eq_false h4]; rfl), HB.out⟩
theorem validNet_spec (d : NV) (ts : List Int) (rows : List (List Int)) (w : World) (h : NetAt w (· < w.heap.size) d ts rows) :
    Calls Try.prog 9 #[.agg #[.slice d.aT d.lT d.cT, .slice d.aW d.lW d.cW]] w (valN w (.bool (tokM ts rows))) := by
  have HC := Lib.hid (fun w' (hb : Below w.heap.size w w') => validNet_any d ts rows w' (net_lift h hb))
  obtain ⟨aT, lT, cT, aW, lW, cW⟩ := d
  clear h
  go_enter Try.func9, Try.ntmps9
  go_wp2_with fail
  have hb0 := (Below.refl w.heap.size w).alloc (Nat.le_refl _) (.cells #[.slice aT lT cT, .slice aW lW cW] 26)
  obtain ⟨n0, n1⟩ := netB_new w aT lT cT aW lW cW 26
  dsimp only at n0 n1 HC
  generalize (w.alloc (.cells #[.slice aT lT cT, .slice aW lW cW] 26)) = w1 at *
  have HB0 := Lib.hid hb0
  clear hb0
  go_wp2_with fail
  refine (HC.out w1 HB0.out).mono ?_
  rintro e w2 ⟨rfl, hb⟩
  go_wp2_with fail
  go_ret
  exact ⟨rfl, HB0.out.trans (hb.mono HB0.out.size)⟩
end Go.Proofs.Ytiapaddmnbeheaa
