/- The law FnShopTimes returns true at every code, and the code reads behind the call as it read before. No condition. -/
import Derived.Test.YthmlgicjedhgfabRows
import Derived.WalkKit
import Derived.LoopTactic
import Derived.Outline
import Derived.WalkSpells
import Derived.WalkLawsBesides
import Derived.ProofKit
import Derived.Deep.QuietTactic
import Derived.BigQuiet
import Derived.IntWalk
import Derived.Test.YthmlgicjedhgfabM0
import Derived.Test.YthmlgicjedhgfabM1
import Derived.Test.YthmlgicjedhgfabM2
import Derived.Test.YthmlgicjedhgfabM18
import Derived.Test.YthmlgicjedhgfabM9
import Derived.Test.YthmlgicjedhgfabM19
import Derived.Test.YthmlgicjedhgfabM20
import Derived.Test.YthmlgicjedhgfabM11
namespace Go.Proofs.Ythmlgicjedhgfab
open Go.RowKit Go.WideShapes

set_option maxRecDepth 100000 in
set_option maxHeartbeats 2000000 in
theorem fnShopTimes_any (a : Option Addr) (len cap : Nat) (w : World) (hb : BytesAt w w.heap.size a len) (hl : len ≤ cap) (hs : len ≤ 9223372036854775807) :
    Calls Try.prog 3 #[.slice a len cap] w (LawPost w) := by
  by_cases h20 : len ≤ 1048576
  · go_enter Try.func3, Try.ntmps3
    have hB0 := Below.refl w.heap.size w
    go_wp2_with fail
    refine (drawShopTimes_any a len cap w hb hl hs).mono ?_
    rintro e w1 ⟨a1, l1, c1, shop, a2, l2, c2, ts, rfl, n_s, hj3, hc1, hl1, n_t, hc2, hl2, hb1⟩
    have hB1 : Below w.heap.size w w1 := hB0.trans (hb1.mono hB0.size)
    clear hB0
    have xs_1 := n_s
    have xt_1 := n_t
    clear n_s
    clear n_t
    clear hb hb1
    go_wp2_with fail
    refine (shopTimes_impl a1 l1 c1 shop a2 l2 c2 ts w1 xs_1 xt_1 hc1 hc2).mono ?_
    rintro e w2 ⟨aA, lA, cA, rfl, n_a, _, hb2⟩
    have xs_2 := shop_lift xs_1 hb2
    have xt_2 := ints_lift xt_1 hb2
    have hB2 : Below w.heap.size w w2 := hB1.trans (hb2.mono hB1.size)
    clear hB1 xs_1 xt_1
    have xa_2 := rows_in n_a (Nat.le_refl _)
    clear n_a
    clear hb2
    go_wp2_with fail
    refine (shopTimes_any a1 l1 c1 shop a2 l2 c2 ts w2 xs_2 xt_2).mono ?_
    rintro e w3 ⟨aW, lW, cW, rfl, n_w, _, hb3⟩
    have xs_3 := shop_lift xs_2 hb3
    have xt_3 := ints_lift xt_2 hb3
    have xa_3 := rows_lift xa_2 hb3
    have hB3 : Below w.heap.size w w3 := hB2.trans (hb3.mono hB2.size)
    clear hB2 xs_2 xt_2 xa_2
    have xw_3 := rows_in n_w (Nat.le_refl _)
    clear n_w
    clear hb3
    have heq : eqRB (timesRows shop ts) (timesRows shop ts) = true := decide_eq_true rfl
    go_wp2_with fail
    refine (equalRows_any _ _ _ _ _ _ _ _ _ _ _ xa_3 xw_3).mono ?_
    rintro e w4 ⟨rfl, dd⟩
    have xs_4 := shop_lift xs_3 (dd.below _)
    have xt_4 := ints_lift xt_3 (dd.below _)
    have xa_4 := rows_lift xa_3 (dd.below _)
    have xw_4 := rows_lift xw_3 (dd.below _)
    have hB4 : Below w.heap.size w w4 := hB3.trans (dd.below w.heap.size)
    clear hB3 xs_3 xt_3 xa_3 xw_3
    clear dd
    cases hv : (shopM shop && turnsM shop ts)
    · rw [timesN_no hv]
      go_wp2_with fail
      refine (equalRows_any _ _ _ _ _ _ _ _ _ _ _ xa_4 xw_4).mono ?_
      rintro e w5 ⟨rfl, dd⟩
      have xs_5 := shop_lift xs_4 (dd.below _)
      have xt_5 := ints_lift xt_4 (dd.below _)
      have xa_5 := rows_lift xa_4 (dd.below _)
      have xw_5 := rows_lift xw_4 (dd.below _)
      have hB5 : Below w.heap.size w w5 := hB4.trans (dd.below w.heap.size)
      clear hB4 xs_4 xt_4 xa_4 xw_4
      clear dd
      go_wp2_with fail
      go_ret
      exact ⟨rfl, hB5⟩
    · clear xw_4
      clear xt_4
      have hsm := times_ge hv
      obtain ⟨s, hrows, hnum, hinv, hnx, hle⟩ := times_rule hv
      have HV := Lib.hid (Bool.and_eq_true_iff.1 hv).1
      have HLN := Lib.hid (xs_4.lenEq)
      have HLE := Lib.hid hle
      have HIN := Lib.hid hinv
      have HNX := Lib.hid hnx
      have hn0 : ¬ s.all < 0 := by have := hinv.nn.1; omega
      have hall0 : 0 ≤ s.all := hinv.nn.1
      have HA := Lib.hid xa_4
      rw [hrows, HLN.out] at HA
      rw [hnum] at hsm ⊢
      have HX := Lib.hid xs_4
      clear xs_4 xa_4 hrows hnum hinv hnx hle hv
      have HUP := Lib.hid (fun j k (hk : k < slen shop j) => show 0 ≤ s.b j k ∧ s.b j k + stime shop j k ≤ s.all from by
        have h1 := HIN.out.pos j k (by rw [HNX.out]; exact hk)
        have h2 := HIN.out.last j k (by rw [HNX.out]; exact hk)
        have h3 := HIN.out.upR j
        exact ⟨h1, by omega⟩)
      have hae : (s.all == s.all) = true := by simp
      go_wp2_with fail
      go_loopw [9, 10] (fun lv iv wr => ∃ (i : Nat) (v : Int), i ≤ l1 ∧ iv = .int .i64 i ∧ lv = .int .i64 v ∧ 0 ≤ v ∧ v ≤ s.all ∧ (∀ j, j < i → ∀ k, k < slen shop j → s.b j k + stime shop j k ≤ v) ∧ Drew w4 wr) (fun _ iv _ => l1 - (intOf iv).toNat)
      case atStart => exact ⟨0, 0, Nat.zero_le _, rfl, rfl, Int.le_refl _, hall0, fun j hj => absurd hj (by omega), Drew.refl _⟩
      case round =>
        obtain ⟨i, v, hi, rfl, rfl, hv0, hv1, hvj, hd⟩ := hrel
        have HVJ := Lib.hid hvj
        have HD := Lib.hid hd
        clear hvj hd
        by_cases hlt : i < l1
        · have hx := Drew.shop HX.out HD.out
          obtain ⟨b, off, job, aj, lj, cj, e0, hjob, dj, hlj, hrj⟩ := hx.get hlt
          have hlj2 : lj = slen shop i := by rw [slen_job7 hjob]; exact hrj.lenEq.symm
          subst hlj2
          subst e0
          clear hrj hjob hx dj
          go_wp2_with fail
          go_loopw [9, 11] (fun lv kv wr => ∃ (k : Nat) (v : Int), k ≤ slen shop i ∧ kv = .int .i64 k ∧ lv = .int .i64 v ∧ 0 ≤ v ∧ v ≤ s.all ∧ (∀ j, j < i → ∀ k, k < slen shop j → s.b j k + stime shop j k ≤ v) ∧ (∀ y, y < k → s.b i y + stime shop i y ≤ v) ∧ Drew w4 wr) (fun _ kv _ => slen shop i - (intOf kv).toNat)
          case atStart => exact ⟨0, v, Nat.zero_le _, rfl, rfl, hv0, hv1, HVJ.out, fun y hy => absurd hy (by omega), HD.out⟩
          case round =>
            clear HVJ HD
            obtain ⟨k, v, hk, rfl, rfl, hv0, hv1, hvj, hvk, hd⟩ := hrel
            have HVJ := Lib.hid hvj
            have HVK := Lib.hid hvk
            have HD := Lib.hid hd
            clear hvj hvk hd
            by_cases hk2 : k < slen shop i
            · obtain ⟨b', off', b1, off1, cc1, e0, d1, d2, dk⟩ := step_row (Drew.shop HX.out HD.out) HV.out hlt (by omega)
              cases e0
              obtain ⟨bA, oA, bB, oB, cB, e0, hlA, e1, e2, ek⟩ := begun_row (Drew.rows HA.out HD.out) hlt (by rw [HNX.out]; omega)
              subst e0
              subst hlA
              rw [HNX.out] at e1 e2
              obtain ⟨b2, off2, cc2, f1, f2, f3, f4⟩ := dk k hk2
              have g1 := ek k (by rw [HNX.out]; exact hk2)
              have hup := HUP.out i k hk2
              have htb := stime_bd HV.out i k
              have HCH := Lib.hid (fun m (hm : m + 1 = k) => show s.b i m + stime shop i m ≤ s.b i k from by subst hm; exact HIN.out.chain i m (by rw [HNX.out]; exact hk2))
              have HAP := Lib.hid (fun x y (hx : x < i) (hy : y < slen shop x) (hm : smach shop x y = smach shop i k) => show s.b x y + stime shop x y ≤ s.b i k ∨ s.b i k + stime shop i k ≤ s.b x y from HIN.out.apart x y i k (by rw [HNX.out]; exact hy) (by rw [HNX.out]; exact hk2) (by intro e; injection e; omega) hm)
              have HGI := Lib.hid (fun (w' : World) (hd : Drew w4 w') => begun_row (Drew.rows HA.out hd) hlt (by rw [HNX.out]; omega))
              have HEK := Lib.hid ek
              have HDK := Lib.hid dk
              clear ek dk f3
              obtain ⟨bg, hbg⟩ : ∃ bg, s.b i k = bg := ⟨_, rfl⟩
              obtain ⟨tm, htm⟩ : ∃ tm, stime shop i k = tm := ⟨_, rfl⟩
              rw [hbg] at g1 hup HCH HAP
              rw [htm] at f4 hup htb HAP
              have HBG := Lib.hid hbg
              have HTM := Lib.hid htm
              clear hbg htm
              have hbt : 0 ≤ bg + tm ∧ bg + tm ≤ 100 := by omega
              obtain ⟨mv, hif⟩ : ∃ mv, (if v < bg + tm then bg + tm else v) = mv := ⟨_, rfl⟩
              have hmv : v ≤ mv ∧ bg + tm ≤ mv ∧ mv ≤ s.all := by rw [← hif]; split <;> omega
              go_wp2_with fail
              go_quiet (fail)
              go_wp2_with fail
              clear hif
              rcases Nat.eq_zero_or_pos k with h0k | h0k
              · have hk0 : decide ((0 : Int) < (k : Int)) = false := by simp; omega
                have hk1 : decide (0 < k) = false := by simp; omega
                clear h0k
                go_quiet (fail)
                go_wp2_with fail
                clear hk0 hk1
                have hsl3 := slen_le HV.out i
                have HRX := Lib.hid (And.intro hmv hbt)
                have htb1 := stime_pos HV.out (by rw [HLN.out]; exact hlt) hk2
                rw [HTM.out] at htb1
                clear HGI HEK HDK HCH f1 g1 f4
                go_loopw [13] (fun xv wr => ∃ x : Nat, x ≤ i ∧ xv = .int .i64 x ∧ Drew w4 wr) (fun xv _ => i - (intOf xv).toNat)
                case atStart => exact ⟨0, Nat.zero_le _, rfl, by first | exact HD.out.drew _ | exact (HD.out.drew _).drew _⟩
                case round =>
                  clear HD
                  obtain ⟨x, hx, rfl, hd3⟩ := hrel
                  have HD := Lib.hid hd3
                  clear hd3
                  by_cases hxi : x < i
                  · have hxl := Nat.lt_trans hxi hlt
                    obtain ⟨b', off', jobx, ax, lx, cx, e0, hjobx, djx, hljx, hrx⟩ := (Drew.shop HX.out HD.out).get hxl
                    cases e0
                    have hlx : lx = slen shop x := by rw [slen_job7 hjobx]; exact hrx.lenEq.symm
                    subst hlx
                    clear hrx hjobx djx
                    go_wp2_with fail
                    go_loopw [14] (fun yv wr => ∃ y : Nat, y ≤ slen shop x ∧ yv = .int .i64 y ∧ Drew w4 wr) (fun yv _ => slen shop x - (intOf yv).toNat)
                    case atStart => exact ⟨0, Nat.zero_le _, rfl, HD.out⟩
                    case round =>
                      clear HD
                      obtain ⟨y, hy, rfl, hd4⟩ := hrel
                      have HD := Lib.hid hd4
                      clear hd4
                      by_cases hyl : y < slen shop x
                      · obtain ⟨b', off', b1x, off1x, c1x, e0, d1x, d2x, dkx⟩ := step_row (Drew.shop HX.out HD.out) HV.out hxl (by omega)
                        cases e0
                        obtain ⟨b2x, off2x, cc2x, p1, p2, p3, p4⟩ := dkx y hyl
                        obtain ⟨bA', oA', bBx, oBx, cBx, e0, _, r1, r2, rk⟩ := begun_row (Drew.rows HA.out HD.out) hxl (by rw [HNX.out]; omega)
                        cases e0
                        rw [HNX.out] at r1 r2
                        have s1 := rk y (by rw [HNX.out]; exact hyl)
                        obtain ⟨b', off', b1i, off1i, c1i, e0, d1i, d2i, dki⟩ := step_row (Drew.shop HX.out HD.out) HV.out hlt (by omega)
                        cases e0
                        obtain ⟨b2i, off2i, cc2i, t1, t2, t3, t4⟩ := dki k hk2
                        obtain ⟨bA', oA', bBi, oBi, cBi, e0, _, v1, v2, vk⟩ := begun_row (Drew.rows HA.out HD.out) hlt (by rw [HNX.out]; omega)
                        cases e0
                        rw [HNX.out] at v1 v2
                        have u1 := vk k (by rw [HNX.out]; exact hk2)
                        rw [HBG.out] at u1
                        rw [HTM.out] at t4
                        have hupx := HUP.out x y hyl
                        have htx := stime_bd HV.out x y
                        have hap := HAP.out x y hxi hyl
                        have hsx := slen_le HV.out x
                        have hsi := slen_le HV.out i
                        try simp only [Nat.add_zero] at t1 u1
                        clear dkx rk dki vk d2x d2i p2 t2
                        obtain ⟨bx, hbx⟩ : ∃ bx, s.b x y = bx := ⟨_, rfl⟩
                        obtain ⟨tx, htx2⟩ : ∃ tx, stime shop x y = tx := ⟨_, rfl⟩
                        obtain ⟨mx, hmx⟩ : ∃ mx, smach shop x y = mx := ⟨_, rfl⟩
                        obtain ⟨mi, hmi⟩ : ∃ mi, smach shop i k = mi := ⟨_, rfl⟩
                        rw [hbx] at s1 hupx hap
                        rw [htx2] at p4 hupx htx hap
                        rw [hmx] at p3 hap
                        rw [hmi] at t3 hap
                        clear hbx htx2 hmx hmi
                        by_cases hmm : mx = mi
                        · have hme : ((mx : Int) == (mi : Int)) = true := by simp; omega
                          rcases hap hmm with h5 | h5
                          · have hc1 : bx < bg + tm := by omega
                            have hc2 : ¬ bg < bx + tx := by omega
                            clear hap hmm
                            go_wp2_with fail
                            go_quiet (fail)
                            go_wp2_with fail
                            go_roundw
                            case rel => exact ⟨y + 1, by omega, by go_num, HD.out.drew _⟩
                            case measure => simp [intOf]; omega
                          · have hc1 : ¬ bx < bg + tm := by omega
                            have hc3 : decide (bx < bg + tm) = false := decide_eq_false hc1
                            clear hap hmm
                            go_wp2_with fail
                            go_quiet (fail)
                            go_wp2_with fail
                            go_roundw
                            case rel => exact ⟨y + 1, by omega, by go_num, HD.out.drew _⟩
                            case measure => simp [intOf]; omega
                        · have hme : ((mx : Int) == (mi : Int)) = false := by simp; omega
                          clear hap hmm
                          go_wp2_with fail
                          go_quiet (fail)
                          go_wp2_with fail
                          go_roundw
                          case rel => exact ⟨y + 1, by omega, by go_num, HD.out.drew _⟩
                          case measure => simp [intOf]; omega
                      · have hyy : y = slen shop x := by omega
                        obtain ⟨b', off', jobx, ax, lx, cx, e0, hjobx, djx, hljx, hrx⟩ := (Drew.shop HX.out HD.out).get hxl
                        cases e0
                        have hlx : lx = slen shop x := by rw [slen_job7 hjobx]; exact hrx.lenEq.symm
                        subst hlx
                        clear hrx hjobx
                        go_wp2_with fail
                        go_roundw
                        case rel => exact ⟨x + 1, by omega, by go_num, HD.out⟩
                        case measure => simp [intOf]; omega
                  · go_wp2_with fail
                    go_roundw
                    case rel => exact ⟨k + 1, mv, by omega, by go_num, rfl, by have := HRX.out.1; omega, HRX.out.1.2.2, fun j hj y hy => by have := HVJ.out j hj y hy; have := HRX.out.1; omega, fun y hy => by
                      rcases Nat.lt_or_eq_of_le (Nat.le_of_lt_succ hy) with h8 | rfl
                      · have := HVK.out y h8; have := HRX.out.1; omega
                      · rw [HBG.out, HTM.out]; exact HRX.out.1.2.1, HD.out⟩
                    case measure => simp [intOf]; omega
              · obtain ⟨m, hm1⟩ : ∃ m, k = m + 1 := ⟨k - 1, by omega⟩
                have HM1 := Lib.hid hm1
                clear hm1
                obtain ⟨b3, off3, cc3, f5, f6, _, f7⟩ := HDK.out m (by have := HM1.out; omega)
                have g2 := HEK.out m (by rw [HNX.out]; have := HM1.out; omega)
                have hch := HCH.out m HM1.out.symm
                have hup2 := HUP.out i m (by have := HM1.out; omega)
                have hsl3 := slen_le HV.out i
                have hw1 : IntKind.i64.wrap ((k : Int) - 1) = (m : Int) := by rw [show ((k : Int) - 1) = (m : Int) by have := HM1.out; omega]; exact IntWalk.i64_in _ (by have := HM1.out; omega)
                have hmsl : m < slen shop i := by have := HM1.out; omega
                have htb2 := stime_bd HV.out i m
                generalize s.b i m = bm at *
                generalize stime shop i m = tm2 at *
                have hw2 : wrap64 (bm + tm2) = bm + tm2 := by unfold wrap64; omega
                have hw3 : IntKind.i64.wrap (bm + tm2) = bm + tm2 := IntWalk.i64_in _ (by omega)
                have hk0 : decide ((0 : Int) < (k : Int)) = true := by simp; omega
                have hk1 : decide (0 < k) = true := by simp; omega
                have hnl : ¬ bg < bm + tm2 := by omega
                clear h0k
                go_quiet (fail)
                go_wp2_with fail
                clear hk0 hk1 hw1 hw2 hw3 htb2 hnl f5 f6 f7 g2 hch hup2 hmsl
                have HRX := Lib.hid (And.intro hmv hbt)
                have htb1 := stime_pos HV.out (by rw [HLN.out]; exact hlt) hk2
                rw [HTM.out] at htb1
                clear HGI HEK HDK HCH f1 g1 f4
                go_loopw [13] (fun xv wr => ∃ x : Nat, x ≤ i ∧ xv = .int .i64 x ∧ Drew w4 wr) (fun xv _ => i - (intOf xv).toNat)
                case atStart => exact ⟨0, Nat.zero_le _, rfl, by first | exact HD.out.drew _ | exact (HD.out.drew _).drew _⟩
                case round =>
                  clear HD
                  obtain ⟨x, hx, rfl, hd3⟩ := hrel
                  have HD := Lib.hid hd3
                  clear hd3
                  by_cases hxi : x < i
                  · have hxl := Nat.lt_trans hxi hlt
                    obtain ⟨b', off', jobx, ax, lx, cx, e0, hjobx, djx, hljx, hrx⟩ := (Drew.shop HX.out HD.out).get hxl
                    cases e0
                    have hlx : lx = slen shop x := by rw [slen_job7 hjobx]; exact hrx.lenEq.symm
                    subst hlx
                    clear hrx hjobx djx
                    go_wp2_with fail
                    go_loopw [14] (fun yv wr => ∃ y : Nat, y ≤ slen shop x ∧ yv = .int .i64 y ∧ Drew w4 wr) (fun yv _ => slen shop x - (intOf yv).toNat)
                    case atStart => exact ⟨0, Nat.zero_le _, rfl, HD.out⟩
                    case round =>
                      clear HD
                      obtain ⟨y, hy, rfl, hd4⟩ := hrel
                      have HD := Lib.hid hd4
                      clear hd4
                      by_cases hyl : y < slen shop x
                      · obtain ⟨b', off', b1x, off1x, c1x, e0, d1x, d2x, dkx⟩ := step_row (Drew.shop HX.out HD.out) HV.out hxl (by omega)
                        cases e0
                        obtain ⟨b2x, off2x, cc2x, p1, p2, p3, p4⟩ := dkx y hyl
                        obtain ⟨bA', oA', bBx, oBx, cBx, e0, _, r1, r2, rk⟩ := begun_row (Drew.rows HA.out HD.out) hxl (by rw [HNX.out]; omega)
                        cases e0
                        rw [HNX.out] at r1 r2
                        have s1 := rk y (by rw [HNX.out]; exact hyl)
                        obtain ⟨b', off', b1i, off1i, c1i, e0, d1i, d2i, dki⟩ := step_row (Drew.shop HX.out HD.out) HV.out hlt (by omega)
                        cases e0
                        obtain ⟨b2i, off2i, cc2i, t1, t2, t3, t4⟩ := dki k hk2
                        obtain ⟨bA', oA', bBi, oBi, cBi, e0, _, v1, v2, vk⟩ := begun_row (Drew.rows HA.out HD.out) hlt (by rw [HNX.out]; omega)
                        cases e0
                        rw [HNX.out] at v1 v2
                        have u1 := vk k (by rw [HNX.out]; exact hk2)
                        rw [HBG.out] at u1
                        rw [HTM.out] at t4
                        have hupx := HUP.out x y hyl
                        have htx := stime_bd HV.out x y
                        have hap := HAP.out x y hxi hyl
                        have hsx := slen_le HV.out x
                        have hsi := slen_le HV.out i
                        try simp only [Nat.add_zero] at t1 u1
                        clear dkx rk dki vk d2x d2i p2 t2
                        obtain ⟨bx, hbx⟩ : ∃ bx, s.b x y = bx := ⟨_, rfl⟩
                        obtain ⟨tx, htx2⟩ : ∃ tx, stime shop x y = tx := ⟨_, rfl⟩
                        obtain ⟨mx, hmx⟩ : ∃ mx, smach shop x y = mx := ⟨_, rfl⟩
                        obtain ⟨mi, hmi⟩ : ∃ mi, smach shop i k = mi := ⟨_, rfl⟩
                        rw [hbx] at s1 hupx hap
                        rw [htx2] at p4 hupx htx hap
                        rw [hmx] at p3 hap
                        rw [hmi] at t3 hap
                        clear hbx htx2 hmx hmi
                        by_cases hmm : mx = mi
                        · have hme : ((mx : Int) == (mi : Int)) = true := by simp; omega
                          rcases hap hmm with h5 | h5
                          · have hc1 : bx < bg + tm := by omega
                            have hc2 : ¬ bg < bx + tx := by omega
                            clear hap hmm
                            go_wp2_with fail
                            go_quiet (fail)
                            go_wp2_with fail
                            go_roundw
                            case rel => exact ⟨y + 1, by omega, by go_num, HD.out.drew _⟩
                            case measure => simp [intOf]; omega
                          · have hc1 : ¬ bx < bg + tm := by omega
                            have hc3 : decide (bx < bg + tm) = false := decide_eq_false hc1
                            clear hap hmm
                            go_wp2_with fail
                            go_quiet (fail)
                            go_wp2_with fail
                            go_roundw
                            case rel => exact ⟨y + 1, by omega, by go_num, HD.out.drew _⟩
                            case measure => simp [intOf]; omega
                        · have hme : ((mx : Int) == (mi : Int)) = false := by simp; omega
                          clear hap hmm
                          go_wp2_with fail
                          go_quiet (fail)
                          go_wp2_with fail
                          go_roundw
                          case rel => exact ⟨y + 1, by omega, by go_num, HD.out.drew _⟩
                          case measure => simp [intOf]; omega
                      · have hyy : y = slen shop x := by omega
                        obtain ⟨b', off', jobx, ax, lx, cx, e0, hjobx, djx, hljx, hrx⟩ := (Drew.shop HX.out HD.out).get hxl
                        cases e0
                        have hlx : lx = slen shop x := by rw [slen_job7 hjobx]; exact hrx.lenEq.symm
                        subst hlx
                        clear hrx hjobx
                        go_wp2_with fail
                        go_roundw
                        case rel => exact ⟨x + 1, by omega, by go_num, HD.out⟩
                        case measure => simp [intOf]; omega
                  · go_wp2_with fail
                    go_roundw
                    case rel => exact ⟨k + 1, mv, by omega, by go_num, rfl, by have := HRX.out.1; omega, HRX.out.1.2.2, fun j hj y hy => by have := HVJ.out j hj y hy; have := HRX.out.1; omega, fun y hy => by
                      rcases Nat.lt_or_eq_of_le (Nat.le_of_lt_succ hy) with h8 | rfl
                      · have := HVK.out y h8; have := HRX.out.1; omega
                      · rw [HBG.out, HTM.out]; exact HRX.out.1.2.1, HD.out⟩
                    case measure => simp [intOf]; omega
            · have hkk : k = slen shop i := by omega
              obtain ⟨b', off', job', aj', lj', cj', e0, hjob', dj', hlj', hrj'⟩ := (Drew.shop HX.out HD.out).get hlt
              cases e0
              have hlj3 : lj' = slen shop i := by rw [slen_job7 hjob']; exact hrj'.lenEq.symm
              subst hlj3
              clear hrj' hjob'
              go_wp2_with fail
              go_roundw
              case rel => exact ⟨i + 1, v, by omega, by go_num, rfl, hv0, hv1, fun j hj => by
                rcases Nat.lt_or_eq_of_le (Nat.le_of_lt_succ hj) with h8 | rfl
                · exact HVJ.out j h8
                · intro y hy; exact HVK.out y (by omega), HD.out⟩
              case measure => simp [intOf]; omega
        · have hil : i = l1 := by omega
          have hve : v = s.all := by
            rcases HIN.out.is with h | ⟨j, k, hk, h⟩
            · omega
            · rw [HNX.out] at hk
              have hjl : j < l1 := by
                rcases Nat.lt_or_ge j l1 with h8 | h8
                · exact h8
                · exfalso
                  rw [slen_none (by rw [HLN.out]; exact h8)] at hk
                  omega
              have := HVJ.out j (by omega) k hk
              omega
          subst hve
          have HBE := Lib.hid (hB4.trans (HD.out.below _))
          clear HVJ
          go_wp2_with fail
          refine (leastShop_impl _ l1 c1 shop _ (shop_lift HX.out (HD.out.below _)) hc1).mono ?_
          rintro e w9 ⟨rfl, hb9⟩
          have hB9 : Below w.heap.size w w9 := HBE.out.trans (hb9.mono HBE.out.size)
          clear hb9
          have hle9 := HLE.out
          generalize leastRes7 shop = lq at *
          go_wp2_with fail
          go_ret
          exact ⟨rfl, hB9⟩
  · go_enter Try.func3, Try.ntmps3
    go_wp2
    go_ret
    exact ⟨rfl, Below.refl _ _⟩
end Go.Proofs.Ythmlgicjedhgfab
