/- The law FnPatternsOf returns true at every code, and the code reads behind the call as it read before. No condition. -/
import Derived.Test.YthmifadnfaajbacRows
import Derived.WalkKit
import Derived.LoopTactic
import Derived.Outline
import Derived.WalkSpells
import Derived.WalkLawsBesides
import Derived.ProofKit
import Derived.Deep.QuietTactic
import Derived.BigQuiet
import Derived.IntWalk
import Derived.Test.YthmifadnfaajbacM0
import Derived.Test.YthmifadnfaajbacM1
import Derived.Test.YthmifadnfaajbacM2
import Derived.Test.YthmifadnfaajbacM4
import Derived.Test.YthmifadnfaajbacM15
import Derived.Test.YthmifadnfaajbacM16
import Derived.Test.YthmifadnfaajbacM17
namespace Go.Proofs.Ythmifadnfaajbac
open Go.RowKit Go.WideShapes

set_option maxRecDepth 100000 in
set_option maxHeartbeats 8000000 in
theorem fnPatternsOf_any (a : Option Addr) (len cap : Nat) (w : World) (hb : BytesAt w w.heap.size a len) (hl : len ≤ cap) (hs : len ≤ 9223372036854775807) :
    Calls Try.prog 5 #[.slice a len cap] w (LawPost w) := by
  by_cases h20 : len ≤ 1048576
  · go_enter Try.func5, Try.ntmps5
    have hB0 := Below.refl w.heap.size w
    go_wp2_with fail
    refine (dDrawPatternsOf_any a len cap w hb hl hs).mono ?_
    rintro e w1 ⟨a1, l1, c1, xs, c, rfl, n_v, hc1, hl1, h10, h20', hb1⟩
    have hB1 : Below w.heap.size w w1 := hB0.trans (hb1.mono hB0.size)
    clear hB0
    have xv_1 := n_v
    clear n_v
    clear hb hb1
    go_wp2_with fail
    refine (patternsOf_impl a1 l1 c1 xs c w1 xv_1 hc1).mono ?_
    rintro e w2 ⟨a3, l3, c3, rfl, n_g, hlg, hb2⟩
    have xv_2 := ints_lift xv_1 hb2
    have hB2 : Below w.heap.size w w2 := hB1.trans (hb2.mono hB1.size)
    clear hB1 xv_1
    have xg_2 := rows_in n_g (Nat.le_refl _)
    clear n_g
    go_wp2_with fail
    refine (patternsOf_spec a1 l1 c1 xs c w2 xv_2 hc1).mono ?_
    rintro e w3 ⟨a4, l4, c4, rfl, n_k, hlk, hb3⟩
    have xv_3 := ints_lift xv_2 hb3
    have xg_3 := rows_lift xg_2 hb3
    have hB3 : Below w.heap.size w w3 := hB2.trans (hb3.mono hB2.size)
    clear hB2 xv_2 xg_2
    have xk_3 := rows_in n_k (Nat.le_refl _)
    clear n_k
    clear hb2 hb3
    have heq : eqRB (patRes xs c) (patRes xs c) = true := decide_eq_true rfl
    go_wp2_with fail
    refine (equalRows_any _ _ _ _ _ _ _ _ _ _ _ xg_3 xk_3).mono ?_
    rintro e w4 ⟨rfl, dd⟩
    have xv_4 := ints_lift xv_3 (dd.below _)
    have xg_4 := rows_lift xg_3 (dd.below _)
    have xk_4 := rows_lift xk_3 (dd.below _)
    have hB4 : Below w.heap.size w w4 := hB3.trans (dd.below w.heap.size)
    clear hB3 xv_3 xg_3 xk_3
    clear dd
    clear xk_4
    have hpl := patRes_len xs c
    have hl3 := xg_4.lenEq
    by_cases h0 : l3 = 0
    · subst h0
      go_wp2_with fail
      refine (patternsOf_spec a1 l1 c1 xs c w4 xv_4 hc1).mono ?_
      rintro e w5 ⟨a5, l5, c5, rfl, n_k, hlk2, hb4⟩
      have xv_5 := ints_lift xv_4 hb4
      have xg_5 := rows_lift xg_4 hb4
      have hB5 : Below w.heap.size w w5 := hB4.trans (hb4.mono hB4.size)
      clear hB4 xv_4 xg_4
      have xk_5 := rows_in n_k (Nat.le_refl _)
      clear n_k
      clear hb4
      go_wp2_with fail
      refine (equalRows_any _ _ _ _ _ _ _ _ _ _ _ xg_5 xk_5).mono ?_
      rintro e w6 ⟨rfl, dd⟩
      have xv_6 := ints_lift xv_5 (dd.below _)
      have xg_6 := rows_lift xg_5 (dd.below _)
      have xk_6 := rows_lift xk_5 (dd.below _)
      have hB6 : Below w.heap.size w w6 := hB5.trans (dd.below w.heap.size)
      clear hB5 xv_5 xg_5 xk_5
      clear dd
      go_wp2_with fail
      go_ret
      exact ⟨rfl, hB6⟩
    · have hl39 : l3 ≤ 9261 := by omega
      have h0e : ((l3 : Int) == 0) = false := by simp; omega
      have hv := pat_some (xs := xs) (c := c) (by omega)
      obtain ⟨_, hx3, _, hx1, hc11, hc20⟩ := sizes_get hv
      have hxl := xv_4.lenEq
      have hl10 : 0 < l1 := by omega
      have HPM := Lib.hid (fun (k : Nat) (r : List Int) (hr : (patRes xs c)[k]? = some r) => patRes_mem (List.mem_of_getElem? hr))
      obtain ⟨r0, s0, hr0, hs0, hrs, hs1, hsc, _, _⟩ := pat_first (xs := xs) (c := c) (by omega)
      have HR0 := Lib.hid hr0
      have HS0 := Lib.hid hs0
      have HRS := Lib.hid hrs
      have HXB := Lib.hid (show ∀ s ∈ xs, 1 ≤ s ∧ s ≤ 20 from fun s hs => by have := hx1 s hs; omega)
      have HNE := Lib.hid (fun (i k : Nat) (r r' : List Int) (hik : i < k) (h1 : (patRes xs c)[i]? = some r) (h2 : (patRes xs c)[k]? = some r') => pat_ne hik h1 h2)
      have HXL := Lib.hid hxl
      have HV := Lib.hid xv_4
      have HG := Lib.hid xg_4
      have HBB := Lib.hid hB4
      clear hx1 hxl hr0 hs0 hrs xv_4 xg_4 hB4 hl3 hv
      generalize patRes xs c = p at *
      go_wp2_with fail
      clear h0e heq
      go_loopw [6] (fun s6 wr => ∃ k : Nat, k ≤ l3 ∧ s6 = .int .i64 k ∧ Drew w4 wr) (fun s6 _ => l3 - (intOf s6).toNat)
      case atStart => exact ⟨0, Nat.zero_le _, rfl, Drew.refl _⟩
      case round =>
        obtain ⟨k, hk, rfl, hd⟩ := hrel
        obtain ⟨wo, rfl⟩ : ∃ wo : World, wo = wr := ⟨_, rfl⟩
        have HD := Lib.hid hd
        by_cases hkl : k < l3
        · have hkI : (k : Int) < (l3 : Int) := by omega
          obtain ⟨b, off, r, a', l, c', rfl, hr, hcr, _, hri0⟩ := HG.out.get hkl
          have HR := Lib.hid hr
          have HRI := Lib.hid (fun (W : World) (hW : Drew w4 W) => Drew.ints hri0 hW)
          have HVI := Lib.hid (fun (W : World) (hW : Drew w4 W) => Drew.ints HV.out hW)
          obtain ⟨_, hrl, hrx, hle0, hless⟩ := HPM.out k r hr
          have hll : l = l1 := by have := hri0.lenEq; have := HXL.out; omega
          subst hll
          have HCK := Lib.hid (fun (W : World) (hW : Drew w4 W) => show W.cell? ⟨b, off + k, none⟩ = some (.slice a' l c') from by obtain ⟨q, rfl⟩ := hW; exact hcr)
          have HBD := Lib.hid (fun i hi => leftA_bd (R := c) hrl HXB.out (fun x hx => by have := hrx x hx; omega) i hi)
          have HTK := Lib.hid (fun i (hi : i < xs.length) => leftA_take (R := c) hrl hi)
          have HEN := Lib.hid (show leftA (xs.take l) c (r.take l) = leftA xs c r by rw [List.take_of_length_le (by rw [HXL.out]; exact Nat.le_refl _), List.take_of_length_le (by rw [hrl, HXL.out]; exact Nat.le_refl _)])
          have HZ0 := Lib.hid (show leftA (xs.take 0) c (r.take 0) = c by simp [leftA])
          have HRX := Lib.hid (show ∀ x ∈ r, 0 ≤ x ∧ x ≤ 20 from fun x hx => by have := hrx x hx; omega)
          have HLS := Lib.hid hless
          generalize hlf : (fun i => leftA (xs.take i) c (r.take i)) = lf
          have hlf' : ∀ i, leftA (xs.take i) c (r.take i) = lf i := fun i => by rw [← hlf]
          have HB2 : Hid (∀ i : Nat, i ≤ xs.length → c - 400 * (i : Int) ≤ lf i ∧ lf i ≤ c) := Lib.hid (fun i hi => by rw [← hlf']; exact HBD.out i hi)
          have HT2 : Hid (∀ i, i < xs.length → lf (i + 1) = lf i - r.getD i 0 * xs.getD i 0) := Lib.hid (fun i hi => by rw [← hlf', ← hlf']; exact HTK.out i hi)
          have HE2 : Hid (lf l = leftA xs c r) := Lib.hid (by rw [← hlf']; exact HEN.out)
          have HZ2 : Hid (lf 0 = c) := Lib.hid (by rw [← hlf']; exact HZ0.out)
          generalize leftA xs c r = LA at *
          clear hr hri0 hrl hrx hless hd hcr HBD HTK HEN HZ0 hlf hlf'
          go_wp2_with fail
          go_loopw [7, 8] (fun s7 s8 wr => ∃ i : Nat, i ≤ l ∧ s8 = .int .i64 i ∧ s7 = .int .i64 (lf i) ∧ Drew w4 wr) (fun _ s8 _ => l - (intOf s8).toNat)
          case atStart => exact ⟨0, Nat.zero_le _, rfl, by rw [HZ2.out], HD.out⟩
          case round =>
            clear HD
            obtain ⟨i, hi, rfl, rfl, hd⟩ := hrel
            have hlb := HB2.out i (by rw [HXL.out]; exact hi)
            have HD := Lib.hid hd
            by_cases hil : i < l
            · have hiI : (i : Int) < (l : Int) := by omega
              have ck := HCK.out wr hd
              obtain ⟨b2, off2, x, rfl, hx, hcx⟩ := (HRI.out wr hd).get hil
              obtain ⟨b3, off3, s, rfl, hs, hcs⟩ := (HVI.out wr hd).get hil
              have h1 := HXB.out s (List.mem_of_getElem? hs)
              have h2 := HRX.out x (List.mem_of_getElem? hx)
              have h3 : 0 ≤ x * s ∧ x * s ≤ 20 * 20 := ⟨Int.mul_nonneg h2.1 (by omega), Int.mul_le_mul h2.2 h1.2 (by omega) (by omega)⟩
              have HST := Lib.hid (show lf (i + 1) = lf i - x * s by rw [HT2.out i (by rw [HXL.out]; exact hil), getD_of hx, getD_of hs])
              obtain ⟨q, hq⟩ : ∃ q, x * s = q := ⟨_, rfl⟩
              rw [hq] at h3 HST
              have hw1 : IntKind.i64.wrap (x * s) = q := by rw [hq]; exact IntWalk.i64_in _ (by omega)
              obtain ⟨L, hL⟩ : ∃ L, lf i = L := ⟨_, rfl⟩
              rw [hL] at hlb HST ⊢
              have hw2 : IntKind.i64.wrap (L - q) = L - q := IntWalk.i64_in _ (by omega)
              clear hd hx hs hq hL
              go_wp2_with fail
              go_quiet (fail)
              clear hw1 hw2 ck
              go_wp2_with fail
              go_roundw
              case rel => exact ⟨i + 1, by omega, by go_num, by rw [HST.out], drew_more HD.out _⟩
              case measure => simp [intOf]; omega
            · obtain rfl : i = l := by omega
              have hiI : ¬ (i : Int) < (i : Int) := by omega
              rw [HE2.out]
              have hLA : 0 ≤ LA ∧ LA ≤ 20 := by rw [HE2.out] at hlb; omega
              clear hd hlb
              go_wp2_with fail
              generalize wr = wz at *
              go_loop [9] (fun s9 => ∃ j : Nat, j ≤ i ∧ s9 = .int .i64 j) (fun s9 => i - (intOf s9).toNat)
              case atStart => exact ⟨0, Nat.zero_le _, rfl⟩
              case round =>
                obtain ⟨j, hj, rfl⟩ := hrel
                by_cases hjl : j < i
                · have hjI : (j : Int) < (i : Int) := by omega
                  obtain ⟨b3, off3, s, rfl, hs, hcs⟩ := (HVI.out wz HD.out).get hjl
                  have h1 := HLS.out s (List.mem_of_getElem? hs)
                  have hng : ¬ s ≤ LA := by omega
                  clear hs
                  go_wp2_with fail
                  go_round
                  case rel => exact ⟨j + 1, by omega, by go_num⟩
                  case measure => simp [intOf]; omega
                · obtain rfl : j = i := by omega
                  have hjI : ¬ (j : Int) < (j : Int) := by omega
                  go_wp2_with fail
                  go_loopw [10] (fun s10 wr => ∃ y : Nat, y ≤ k ∧ s10 = .int .i64 y ∧ Drew w4 wr) (fun s10 _ => k - (intOf s10).toNat)
                  case atStart => exact ⟨0, Nat.zero_le _, rfl, HD.out⟩
                  case round =>
                    clear HD
                    obtain ⟨y, hy, rfl, hd⟩ := hrel
                    have HD := Lib.hid hd
                    by_cases hyk : y < k
                    · have hyI : (y : Int) < (k : Int) := by omega
                      have hyL : (y : Int) < (l3 : Int) := by omega
                      have ck := HCK.out wr hd
                      obtain ⟨b4, off4, ry, ay, ly, cy, e, hry, hcy, _, hryi⟩ := HG.out.get (k := y) (by omega)
                      simp only [Option.some.injEq, Addr.mk.injEq, and_true] at e
                      obtain ⟨e1, e2⟩ := e
                      subst e1 e2
                      have cy1 : wr.cell? ⟨b, off + y, none⟩ = some (.slice ay ly cy) := by obtain ⟨q, rfl⟩ := hd; exact hcy
                      have hnq := HNE.out y k ry r hyk hry HR.out
                      have HEQ := Lib.hid (fun z => show Calls Try.prog 9 #[.slice ay ly cy, .slice a' j c'] (wr.drewN z) fun e w' => e = .returned (.bool false) ∧ ∃ m, w' = (wr.drewN z).drewN m from
                        (equalInts_any _ _ _ _ _ _ _ _ _ _ (wr.drewN z) (Drew.ints (Drew.ints hryi hd) ⟨z, rfl⟩) (Drew.ints (HRI.out wr hd) ⟨z, rfl⟩)).mono (fun e w' he => by rw [hnq] at he; exact he))
                      clear hd hry hryi hcy hnq
                      go_wp2_with fail
                      go_quiet ((go_at_call 9; exact Calls.quiet_of (HEQ.out _)))
                      clear ck cy1
                      go_wp2_with fail
                      go_roundw
                      case rel => exact ⟨y + 1, by omega, by go_num, drew_more HD.out _⟩
                      case measure => simp [intOf]; omega
                    · obtain rfl : y = k := by omega
                      have hyI : ¬ (y : Int) < (y : Int) := by omega
                      have hLn : ¬ LA < 0 := by omega
                      clear hd
                      go_wp2_with fail
                      go_roundw
                      case rel => exact ⟨y + 1, by omega, by go_num, HD.out⟩
                      case measure => simp [intOf]; omega
        · obtain rfl : k = l3 := by omega
          have hkI : ¬ (k : Int) < (k : Int) := by omega
          obtain ⟨b, off, r, a', l, c', rfl, hr, hcr, _, hri0⟩ := HG.out.get (k := 0) (by omega)
          have hrr : r = r0 := by rw [HR0.out] at hr; injection hr with hr; exact hr.symm
          subst hrr
          have hl0 : 0 < l := by
            have := (List.getElem?_eq_some_iff.1 HRS.out).1
            have := hri0.lenEq
            omega
          obtain ⟨b2, off2, x, rfl, hx, hcx⟩ := (Drew.ints hri0 hd).get hl0
          obtain ⟨b3, off3, s, rfl, hs, hcs⟩ := (Drew.ints HV.out hd).get (k := 0) (by omega)
          have hse : s = s0 := by rw [HS0.out] at hs; injection hs with hs; exact hs.symm
          have hxe : x = c / s0 := by rw [HRS.out] at hx; injection hx with hx; exact hx.symm
          subst hse
          subst hxe
          have ck : wo.cell? ⟨b, off, none⟩ = some (.slice (some ⟨b2, off2, none⟩) l c') := by obtain ⟨q, rfl⟩ := hd; exact hcr
          rw [Nat.add_zero] at hcx hcs
          have htd : c.tdiv s = c / s := Int.tdiv_eq_ediv_of_nonneg (by omega)
          obtain ⟨q, hq⟩ : ∃ q, c / s = q := ⟨_, rfl⟩
          have hqb : 0 ≤ q ∧ q ≤ 20 := by
            rw [← hq]
            exact ⟨Int.ediv_nonneg (by omega) (by omega), Int.le_trans (Int.ediv_le_self _ (by omega)) (by omega)⟩
          rw [hq] at hcx htd
          have hs00 : ¬ s = 0 := by omega
          have hk0 : (0 : Int) < (k : Int) := by omega
          have hl0I : (0 : Int) < (l : Int) := by omega
          have hl1I : (0 : Int) < (l1 : Int) := by omega
          have hqq : (q == q) = true := by simp
          have hwq : IntKind.i64.wrap q = q := IntWalk.i64_in _ (by omega)
          clear hd hr hcr hri0 hx hs hq
          go_wp2_with fail
          go_quiet (fail)
          go_wp2_with fail
          go_ret
          exact ⟨rfl, HBB.out.trans (Drew.below (drew_more HD.out _) _)⟩
  · go_enter Try.func5, Try.ntmps5
    go_wp2
    go_ret
    exact ⟨rfl, Below.refl _ _⟩
end Go.Proofs.Ythmifadnfaajbac
