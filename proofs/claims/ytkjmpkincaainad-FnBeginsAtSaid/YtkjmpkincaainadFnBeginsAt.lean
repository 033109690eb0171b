/- The law FnBeginsAt returns true at every code, and the code reads behind the call as it read before. No condition. -/
import Derived.Test.YtkjmpkincaainadRows
import Derived.WalkKit
import Derived.LoopTactic
import Derived.Outline
import Derived.WalkSpells
import Derived.WalkLawsBesides
import Derived.ProofKit
import Derived.Deep.QuietTactic
import Derived.BigQuiet
import Derived.IntWalk
import Derived.Test.YtkjmpkincaainadM0
import Derived.Test.YtkjmpkincaainadM1
import Derived.Test.YtkjmpkincaainadM4
import Derived.Test.YtkjmpkincaainadM7
import Derived.Test.YtkjmpkincaainadM6
import Derived.Test.YtkjmpkincaainadM11
import Derived.Test.YtkjmpkincaainadM12
import Derived.Test.YtkjmpkincaainadM13
import Derived.Test.YtkjmpkincaainadM15
import Derived.Test.YtkjmpkincaainadM18
import Derived.Test.YtkjmpkincaainadM21
namespace Go.Proofs.Ytkjmpkincaainad
open Go.RowKit Go.WideShapes

set_option maxRecDepth 100000 in
set_option maxHeartbeats 8000000 in
theorem fnBeginsAt_any (a : Option Addr) (len cap : Nat) (w : World) (hb : BytesAt w w.heap.size a len) (hl : len ≤ cap) (hs : len ≤ 9223372036854775807) :
    Calls Try.prog 3 #[.slice a len cap] w (LawPost w) := by
  by_cases h20 : len ≤ 1048576
  · go_enter Try.func3, Try.ntmps3
    go_wp2_with fail
    refine (drawBeginsAt_any a len cap w hb hl hs).mono ?_
    rintro e w1 ⟨d, ts, rows, r, rfl, n_n, hT4, hW8, hr41, hb1⟩
    obtain ⟨aT, lT, cT, aW, lW, cW⟩ := d
    have hbx := (Below.refl w1.heap.size w1).alloc (Nat.le_refl _) (.cells #[.slice aT lT cT, .slice aW lW cW] 26)
    have on2 := netOn_new n_n 26
    obtain ⟨w2, hw2⟩ : ∃ wx, w1.alloc (.cells #[.slice aT lT cT, .slice aW lW cW] 26) = wx := ⟨_, rfl⟩
    rw [hw2] at on2 hbx
    have HW2 := Lib.hid hw2
    have HBW := Lib.hid (hb1.trans (hbx.mono hb1.size))
    have HON := Lib.hid (fun w' (hb : Below w2.heap.size w2 w') => on2.lift hb)
    clear hw2 hb hb1 hbx n_n
    dsimp only at hT4 hW8
    obtain ⟨c0, c1⟩ := on2.box
    dsimp only at c0 c1
    go_wp2_with fail
    rw [HW2.out]
    refine (beginsAt_impl ⟨aT, lT, cT, aW, lW, cW⟩ ts rows (r : Int) w2 on2.at').mono ?_
    rintro e w3 hG
    obtain ⟨aG, n, rfl, hb3, cG, hn40, hlen, hpos⟩ := begOwn_b hG
    have hTL : ts.length = lT := on2.at'.t.lenEq
    have hWL : rows.length = lW := on2.at'.r.lenEq
    have HTL := Lib.hid hTL
    have HWL := Lib.hid hWL
    have HB3 := Lib.hid hb3
    generalize hRES : begRes ts rows (r : Int) = ys at cG hlen
    have HRES := Lib.hid hRES
    have heq : eqRB ys ys = true := decide_eq_true rfl
    have HCG := Lib.hid cG
    have HPOS := Lib.hid hpos
    have hLW : ts.length = lT := hTL
    clear hRES hb3 hG cG hpos c0 c1 on2 hTL hWL hLW hlen
    obtain ⟨c0, c1⟩ := (HON.out w3 HB3.out).box
    dsimp only at c0 c1
    go_wp2_with fail
    refine (beginsAt_spec ⟨aT, lT, cT, aW, lW, cW⟩ ts rows (r : Int) w3 (HON.out w3 HB3.out).at').mono ?_
    rintro e w4 ⟨aM, lM, kM, rfl, cM, _, hb4⟩
    rw [HRES.out] at cM
    have HB34 := Lib.hid hb4
    have HB4 := Lib.hid (HB3.out.trans (hb4.mono HB3.out.size))
    clear hb4 c0 c1
    go_wp2_with fail
    refine (equalRows_any _ _ _ _ _ _ _ _ ys ys _ (HCG.out.to (w' := w4) (S' := fun _ => True) (fun b hb => ⟨trivial, HB34.out.block b hb.2⟩)) cM).mono ?_
    rintro e w5 ⟨rfl, d5⟩
    have HD5 := Lib.hid (d5.below w4.heap.size)
    have HB5 := Lib.hid (HB4.out.trans ((d5.below w4.heap.size).mono HB4.out.size))
    clear d5 cM
    by_cases hn0 : n = 0
    · subst hn0
      obtain ⟨c0, c1⟩ := (HON.out w5 HB5.out).box
      dsimp only at c0 c1
      go_wp2_with fail
      refine (beginsAt_spec ⟨aT, lT, cT, aW, lW, cW⟩ ts rows (r : Int) w5 (HON.out w5 HB5.out).at').mono ?_
      rintro e w6 ⟨aN, lN, kN, rfl, cN, _, hb6⟩
      rw [HRES.out] at cN
      have HB6 := Lib.hid (HB5.out.trans (hb6.mono HB5.out.size))
      have s3 := HB34.out.size
      have s4 := HD5.out.size
      go_wp2_with fail
      have hR1 : RowsAt w6 (fun _ => True) aG 0 ys := HCG.out.to (w' := w6) (S' := fun _ => True) (fun b hb => ⟨trivial, (hb6.block b (by omega)).trans ((HD5.out.block b (by omega)).trans (HB34.out.block b hb.2))⟩)
      have hEQ := equalRows_any (fun _ => True) _ aG aN 0 0 lN kN ys ys w6 hR1 cN
      refine hEQ.mono ?_
      rintro e w7 ⟨rfl, d7⟩
      have HB7 := Lib.hid (HB6.out.trans ((d7.below w6.heap.size).mono HB6.out.size))
      clear hb6 cN d7 c0 c1
      go_wp2_with fail
      go_ret
      exact ⟨rfl, HBW.out.trans (HB7.out.mono HBW.out.size)⟩
    · have hne : ((n : Int) == 0) = false := by simp; omega
      obtain ⟨hal, hrn, G, Br, rfl, hbw, hGlt, hBrlt⟩ := HPOS.out (by omega)
      obtain rfl : r = n := by omega
      clear hrn
      have s3 := HB34.out.size
      have s4 := HD5.out.size
      have HBG := Lib.hid (fun w' (hb : Below w5.heap.size w5 w') => hbw.to (w' := w') (fun _ => (hb.block G (by omega)).trans ((HD5.out.block G (by omega)).trans (HB34.out.block G hGlt))) (fun q hq => by have := hBrlt q hq; exact (hb.block _ (by omega)).trans ((HD5.out.block _ (by omega)).trans (HB34.out.block _ this))))
      clear hbw hBrlt
      obtain ⟨c0, c1⟩ := (HON.out w5 HB5.out).box
      dsimp only at c0 c1
      go_wp2_with fail
      refine (paceOf_impl ⟨aT, lT, cT, aW, lW, cW⟩ ts rows w5 (HON.out w5 HB5.out).at').mono ?_
      rintro e w6 ⟨U, D, pb, rfl, hpr, hb6⟩
      obtain ⟨rfl, hpc⟩ : pb = true ∧ IsPace (grOf ts rows) U D := by
        rcases hpr with ⟨_, h2, h3⟩ | ⟨h1, _, _⟩
        · exact ⟨h2, h3⟩
        · rw [hal] at h1; cases h1
      have HBX6 := Lib.hid hb6
      have HPC := Lib.hid hpc
      have HAL := Lib.hid hal
      have HB6 := Lib.hid (HB5.out.trans (hb6.mono HB5.out.size))
      clear hb6 hpr hpc hal c0 c1
      have hfx := (Below.refl w6.heap.size w6).alloc (Nat.le_refl _) (.cells #[.int .i64 (U : Int), .int .i64 (D : Int)] 32)
      have fr7 := two_new w6 (.int .i64 (U : Int)) (.int .i64 (D : Int)) 32
      have hz7 : w6.heap.size < (w6.alloc (.cells #[.int .i64 (U : Int), .int .i64 (D : Int)] 32)).heap.size := by simp
      obtain ⟨w7, hw7⟩ : ∃ wx, w6.alloc (.cells #[.int .i64 (U : Int), .int .i64 (D : Int)] 32) = wx := ⟨_, rfl⟩
      rw [hw7] at hfx fr7 hz7
      have HW7 := Lib.hid hw7
      have HB7 := Lib.hid (HB6.out.trans (hfx.mono HB6.out.size))
      have HBX7 := Lib.hid (HBX6.out.trans (hfx.mono HBX6.out.size))
      have HF7 := Lib.hid fr7
      clear hw7 hfx fr7
      go_wp2_with fail
      rw [HW7.out]
      obtain ⟨hv, hnd⟩ := alive_get HAL.out
      have hok := gr_ok hv
      obtain ⟨rk, hrk⟩ := rank_of hok hnd
      have HNB := Lib.hid (fun w' (d : Drew w7 w') => HON.out w' (HB7.out.trans (d.below _)))
      have HBW2 := Lib.hid (fun w' (d : Drew w7 w') => HBG.out w' (HBX7.out.trans (d.below _)))
      have HFR := Lib.hid (fun w' (d : Drew w7 w') => HF7.out.block ((d.below w7.heap.size).block _ HF7.out.lt))
      have HWA := Lib.hid (fun (w' : World) (d : Drew w7 w') (k : Nat) (hk : k < lW) => way_at (HNB.out w' d).at'.r hv hk)
      have HTM := Lib.hid (fun (w' : World) (d : Drew w7 w') (v : Nat) (hv : v < lT) => (show ∃ b off, aT = some ⟨b, off, none⟩ ∧ w'.cell? ⟨b, off + v, none⟩ = some (.int .i64 ((grOf ts rows).tm v)) by
        obtain ⟨b, off, x, e, hx, hc⟩ := (HNB.out w' d).at'.t.get hv
        exact ⟨b, off, e, by rw [hc]; show _ = some (Value.int .i64 (ts.getD v 0)); rw [getD_of hx]⟩))
      have HTOT := Lib.hid (fun (w' : World) (d : Drew w7 w') => total_any _ aT lT cT ts w' (HNB.out w' d).at'.t (fun y hy => by
        obtain ⟨j, hj, rfl⟩ := List.mem_iff_getElem.1 hy
        have h9 := (tok_get hv).2.1 j
        rw [List.getD_eq_getElem?_getD, List.getElem?_eq_getElem hj] at h9
        simp only [Option.getD_some] at h9
        omega) (by omega))
      have hsm : sm (grOf ts rows).tm (grOf ts rows).n = totalM ts := sm_total ts
      have hn4 : (grOf ts rows).n = lT := HTL.out
      have hm4 : (grOf ts rows).m = lW := HWL.out
      rw [HTL.out] at HBW2
      obtain ⟨g, hg⟩ : ∃ g, grOf ts rows = g := ⟨_, rfl⟩
      rw [hg] at hok hrk HWA HTM HBW2 HPC hsm hn4 hm4
      have HWY := Lib.hid (fun k (hk : k < lW) => (show g.f k < lT ∧ g.t k < lT ∧ g.c k ≤ 3 by have := hok.ways k (by rw [hm4]; exact hk); rw [hn4] at this; exact this))
      have HTI := Lib.hid hok.times
      have hpb := b_pace hok hrk HPC.out
      rw [hsm, hn4] at hpb
      have HPB := Lib.hid hpb
      have HBB := Lib.hid (fun r v (h40 : r ≤ 40) (hv : v < lT) => And.intro (b_nn g r v) (b_bd2 hok hrk h40 (by rw [hn4]; exact hv)))
      have HBM := Lib.hid (fun r v (h40 : r < 40) (hv : v < lT) => b_mono hok hrk r v h40 (by rw [hn4]; exact hv))
      have HBE := Lib.hid (fun r k (h40 : r ≤ 40) (hk : k < lW) (hc : g.c k ≤ r) => b_ge hok hrk (r := r) (k := k) h40 (by rw [hm4]; exact hk) hc)
      have hT36 : 0 ≤ totalM ts ∧ totalM ts ≤ 36 := by
        rw [← hsm]
        refine ⟨sm_nn (fun v => (hok.times v).1) _, ?_⟩
        have : ∀ n : Nat, sm g.tm n ≤ 9 * (n : Int) := fun n => by
          induction n with
          | zero => simp [sm]
          | succ n ih => rw [sm]; have := (hok.times n).2; push_cast; omega
        have := this g.n
        have := hok.n4
        omega
      obtain ⟨T, hT⟩ : ∃ T, totalM ts = T := ⟨_, rfl⟩
      rw [hT] at HPB HTOT hT36
      have hU36 := HPC.out.u36
      have hD12 := HPC.out.d12
      clear hv hnd hok hrk hg hsm hn4 hm4 hpb hT
      go_loopw [8] (fun i wr => ∃ q : Nat, q ≤ r ∧ i = .int .i64 q ∧ Drew w7 wr) (fun i _ => r - (intOf i).toNat)
      case atStart => exact ⟨0, Nat.zero_le _, rfl, Drew.refl _⟩
      case round =>
        obtain ⟨q, hq, rfl, hd⟩ := hrel
        have HD := Lib.hid hd
        clear hd
        by_cases hlt : q < r
        · have hqI : (q : Int) < (r : Int) := by omega
          go_wp2_with fail
          go_loopw [9] (fun i wr => ∃ k : Nat, k ≤ lW ∧ i = .int .i64 k ∧ Drew w7 wr) (fun i _ => lW - (intOf i).toNat)
          case atStart => exact ⟨0, Nat.zero_le _, rfl, HD.out⟩
          case round =>
            obtain ⟨k, hk, rfl, hd2⟩ := hrel
            have HD2 := Lib.hid hd2
            clear hd2
            obtain ⟨n0, n1⟩ := (HNB.out _ HD2.out).box
            dsimp only at n0 n1
            by_cases hlk : k < lW
            · have hkI : (k : Int) < (lW : Int) := by omega
              obtain ⟨bW, oW, b', off', c', rfl, dr, d0, d1, d2⟩ := HWA.out _ HD2.out k hlk
              obtain ⟨hf, ht, hc3⟩ := HWY.out k hlk
              have hfI : ((g.f k : Nat) : Int) < (lT : Int) := by omega
              have htI : ((g.t k : Nat) : Int) < (lT : Int) := by omega
              by_cases hqc : g.c k ≤ q
              · have hge := HBE.out q k (by omega) hlk hqc
                obtain ⟨q1, q2f⟩ := HBW2.out _ HD2.out q hlt
                have q2 := q2f (g.t k) ht
                obtain ⟨p1, p2f⟩ := HBW2.out _ HD2.out (q - g.c k) (by omega)
                have p2 := p2f (g.f k) hf
                clear q2f p2f
                obtain ⟨bT, oT, rfl, hct⟩ := HTM.out _ HD2.out (g.f k) hf
                have b1 := HBB.out q (g.t k) (by omega) ht
                have b2 := HBB.out (q - g.c k) (g.f k) (by omega) hf
                have b3 := HTI.out (g.f k)
                obtain ⟨x, hx⟩ : ∃ x, g.b q (g.t k) = x := ⟨_, rfl⟩
                obtain ⟨y, hy⟩ : ∃ y, g.b (q - g.c k) (g.f k) = y := ⟨_, rfl⟩
                obtain ⟨z, hz⟩ : ∃ z, g.tm (g.f k) = z := ⟨_, rfl⟩
                obtain ⟨j, hj⟩ : ∃ j, q - g.c k = j := ⟨_, rfl⟩
                rw [hj] at p1
                rw [hx] at hge q2 b1
                rw [hy] at hge p2 b2
                rw [hz] at hge hct b3
                rw [hj] at p2
                have hjq : (q : Int) - ((g.c k : Nat) : Int) = (j : Int) := by omega
                have hjr : (j : Int) < (r : Int) := by omega
                have hdc : decide (((g.c k : Nat) : Int) ≤ (q : Int)) = true := decide_eq_true (by omega)
                have hcq : ((g.c k : Nat) : Int) ≤ (q : Int) := by omega
                have hlss : decide (x < y + z) = false := decide_eq_false (by omega)
                have hw1 : IntKind.i64.wrap ((q : Int) - ((g.c k : Nat) : Int)) = (j : Int) := by rw [hjq]; exact IntWalk.i64_in _ (by omega)
                have hw2 : IntKind.i64.wrap (y + z) = y + z := IntWalk.i64_in _ (by omega)
                clear hx hy hz hj hge hjq hqc
                go_wp2_with fail
                go_quiet (fail)
                go_wp2_with fail
                go_roundw
                case rel => exact ⟨k + 1, by omega, by go_num, HD2.out.drew _⟩
                case measure => simp [intOf]; omega
              · have hdc : decide (((g.c k : Nat) : Int) ≤ (q : Int)) = false := decide_eq_false (by omega)
                have hdcn : decide (g.c k ≤ q) = false := decide_eq_false hqc
                have hcq : ¬ ((g.c k : Nat) : Int) ≤ (q : Int) := by omega
                clear hqc
                go_wp2_with fail
                go_quiet (fail)
                go_wp2_with fail
                go_roundw
                case rel => exact ⟨k + 1, by omega, by go_num, HD2.out.drew _⟩
                case measure => simp [intOf]; omega
            · have hkl : k = lW := by omega
              have hkI : ¬ (k : Int) < (lW : Int) := by omega
              clear hlk hk
              go_wp2_with fail
              go_loopw [11] (fun i wr => ∃ v : Nat, v ≤ lT ∧ i = .int .i64 v ∧ Drew w7 wr) (fun i _ => lT - (intOf i).toNat)
              case atStart => exact ⟨0, Nat.zero_le _, rfl, HD2.out⟩
              case round =>
                clear n0 n1
                obtain ⟨v, hv, rfl, hd3⟩ := hrel
                have HD3 := Lib.hid hd3
                clear hd3
                obtain ⟨n0, n1⟩ := (HNB.out _ HD3.out).box
                dsimp only at n0 n1
                by_cases hlv : v < lT
                · have hvI : (v : Int) < (lT : Int) := by omega
                  obtain ⟨q1, q2f⟩ := HBW2.out _ HD3.out q hlt
                  have q2 := q2f v hlv
                  clear q2f
                  obtain ⟨⟨f0, _⟩, f1, _⟩ := HFR.out _ HD3.out
                  have hpb := HPB.out q v (by omega) hlv
                  have b1 := HBB.out q v (by omega) hlv
                  have HCT := Lib.hid (show ∀ n, Calls Try.prog 11 #[.slice aT lT cT] (wr.drewN n) (fun e w' => e = .returned (.int .i64 T) ∧ ∃ q, w' = (wr.drewN n).drewN q) from fun n =>
                    (HTOT.out _ (HD3.out.drew n)).mono (fun e w' he => ⟨he.1, 0, by rw [← he.2]; rfl⟩))
                  obtain ⟨x, hx⟩ : ∃ x, g.b q v = x := ⟨_, rfl⟩
                  have m1 : 0 ≤ x * (D : Int) ∧ x * (D : Int) ≤ 1500 * 12 := ⟨Int.mul_nonneg (by omega) (by omega), Int.mul_le_mul (by omega) (by omega) (by omega) (by omega)⟩
                  have m2 : 0 ≤ (U : Int) * (q : Int) ∧ (U : Int) * (q : Int) ≤ 36 * 40 := ⟨Int.mul_nonneg (by omega) (by omega), Int.mul_le_mul (by omega) (by omega) (by omega) (by omega)⟩
                  have m3 : 0 ≤ (D : Int) * T ∧ (D : Int) * T ≤ 12 * 36 := ⟨Int.mul_nonneg (by omega) (by omega), Int.mul_le_mul (by omega) (by omega) (by omega) (by omega)⟩
                  have e1 : IntKind.i64.wrap (x * (D : Int)) = x * (D : Int) := IntWalk.i64_in _ (by omega)
                  have e2 : IntKind.i64.wrap ((U : Int) * (q : Int)) = (U : Int) * (q : Int) := IntWalk.i64_in _ (by omega)
                  have e3 : IntKind.i64.wrap ((D : Int) * T) = (D : Int) * T := IntWalk.i64_in _ (by omega)
                  have e4 : IntKind.i64.wrap ((U : Int) * (q : Int) + (D : Int) * T) = (U : Int) * (q : Int) + (D : Int) * T := IntWalk.i64_in _ (by omega)
                  rw [hx] at q2 hpb b1
                  have e5 : decide ((U : Int) * (q : Int) + (D : Int) * T < x * (D : Int)) = false := decide_eq_false (by omega)
                  by_cases hq0 : 0 < q
                  · have hq0I : (0 : Int) < (q : Int) := by omega
                    have hdq : decide ((0 : Int) < (q : Int)) = true := decide_eq_true hq0I
                    have hdqn : decide (0 < q) = true := decide_eq_true hq0
                    obtain ⟨p1, p2f⟩ := HBW2.out _ HD3.out (q - 1) (by omega)
                    have p2 := p2f v hlv
                    clear p2f
                    have hmo := HBM.out (q - 1) v (by omega) hlv
                    obtain ⟨j, hj⟩ : ∃ j, q - 1 = j := ⟨_, rfl⟩
                    rw [show q - 1 + 1 = q by omega, hx, hj] at hmo
                    rw [hj] at p1 p2
                    obtain ⟨y, hy⟩ : ∃ y, g.b j v = y := ⟨_, rfl⟩
                    rw [hy] at hmo p2
                    have hw1 : IntKind.i64.wrap ((q : Int) - 1) = (j : Int) := by rw [show (q : Int) - 1 = (j : Int) by omega]; exact IntWalk.i64_in _ (by omega)
                    have hjr : (j : Int) < (r : Int) := by omega
                    have hlss : decide (x < y) = false := decide_eq_false (by omega)
                    clear hx hy hj hmo hpb m1 m2 m3 hq0
                    go_wp2_with fail
                    go_quiet ((go_at_call 11; (with_reducible exact Calls.quiet_of (HCT.out _))))
                    go_wp2_with fail
                    go_roundw
                    case rel => exact ⟨v + 1, by omega, by go_num, HD3.out.drew _⟩
                    case measure => simp [intOf]; omega
                  · have hq0I : ¬ (0 : Int) < (q : Int) := by omega
                    have hdq : decide ((0 : Int) < (q : Int)) = false := decide_eq_false hq0I
                    have hdqn : decide (0 < q) = false := decide_eq_false hq0
                    clear hx hpb m1 m2 m3 hq0
                    go_wp2_with fail
                    go_quiet ((go_at_call 11; (with_reducible exact Calls.quiet_of (HCT.out _))))
                    go_wp2_with fail
                    go_roundw
                    case rel => exact ⟨v + 1, by omega, by go_num, HD3.out.drew _⟩
                    case measure => simp [intOf]; omega
                · have hvI : ¬ (v : Int) < (lT : Int) := by omega
                  go_wp2_with fail
                  go_roundw
                  case rel => exact ⟨q + 1, by omega, by go_num, HD3.out⟩
                  case measure => simp [intOf]; omega
        · have hqe : q = r := by omega
          subst hqe
          have hqI : ¬ (q : Int) < (q : Int) := by omega
          have heqr : ((q : Int) == (q : Int)) = true := by simp
          have HZ := Lib.hid (HBW.out.trans ((HB7.out.trans (HD.out.below _)).mono HBW.out.size))
          go_wp2_with fail
          go_ret
          exact ⟨rfl, HZ.out⟩
  · go_enter Try.func3, Try.ntmps3
    go_wp2_with fail
    go_ret
    exact ⟨rfl, Below.refl _ _⟩
end Go.Proofs.Ytkjmpkincaainad
