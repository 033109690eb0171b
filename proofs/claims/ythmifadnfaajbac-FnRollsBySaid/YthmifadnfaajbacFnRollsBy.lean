/- The law FnRollsBy returns true at every code, and the code reads behind the call as it read before. No condition. -/
import Derived.Test.YthmifadnfaajbacRows
import Derived.WalkKit
import Derived.LoopTactic
import Derived.Outline
import Derived.WalkSpells
import Derived.WalkLawsBesides
import Derived.ProofKit
import Derived.Deep.QuietTactic
import Derived.BigQuiet
import Derived.IntWalk
import Derived.Test.YthmifadnfaajbacM0
import Derived.Test.YthmifadnfaajbacM1
import Derived.Test.YthmifadnfaajbacM2
import Derived.Test.YthmifadnfaajbacM21
import Derived.Test.YthmifadnfaajbacM22
import Derived.Test.YthmifadnfaajbacM23
namespace Go.Proofs.Ythmifadnfaajbac
open Go.RowKit Go.WideShapes

set_option maxRecDepth 100000 in
set_option maxHeartbeats 2000000 in
theorem fnRollsBy_any (a : Option Addr) (len cap : Nat) (w : World) (hb : BytesAt w w.heap.size a len) (hl : len ≤ cap) (hs : len ≤ 9223372036854775807) :
    Calls Try.prog 3 #[.slice a len cap] w (LawPost w) := by
  by_cases h20 : len ≤ 1048576
  · go_enter Try.func3, Try.ntmps3
    have hB0 := Below.refl w.heap.size w
    go_wp2_with fail
    refine (dDrawRollsBy_any a len cap w hb hl hs).mono ?_
    rintro e w1 ⟨a1, l1, c1, xs, c, kind, rfl, n_v, hc1, hl1, h10, h20', hb1⟩
    have hB1 : Below w.heap.size w w1 := hB0.trans (hb1.mono hB0.size)
    clear hB0
    have xv_1 := n_v
    clear n_v
    clear hb hb1
    go_wp2_with fail
    refine (rollsBy_impl a1 l1 c1 xs c kind w1 xv_1).mono ?_
    rintro e w2 ⟨a2, l2, c2, rfl, n_o, hc2, hb2⟩
    have xv_2 := ints_lift xv_1 hb2
    have hB2 : Below w.heap.size w w2 := hB1.trans (hb2.mono hB1.size)
    clear hB1 xv_1
    have xo_2 := ints_in n_o (Nat.le_refl _)
    clear n_o
    clear hb2
    obtain ⟨os, ho⟩ : ∃ os, rollRes xs c kind = os := ⟨_, rfl⟩
    have HO := Lib.hid ho
    rw [ho] at xo_2
    clear ho
    have heqo : eqB os os = true := decide_eq_true rfl
    have HOL := Lib.hid xo_2.lenEq
    have HL := Lib.hid xv_2.lenEq
    go_wp2_with fail
    refine (rollsBy_own a1 l1 c1 xs c kind w2 xv_2).mono ?_
    rintro e w3 ⟨a3, l3, c3, rfl, n_s, hc3, hb3⟩
    have xv_3 := ints_lift xv_2 hb3
    have xo_3 := ints_lift xo_2 hb3
    have hB3 : Below w.heap.size w w3 := hB2.trans (hb3.mono hB2.size)
    clear hB2 xv_2 xo_2
    have xs_3 := ints_in n_s (Nat.le_refl _)
    clear n_s
    clear hb3
    rw [HO.out] at xs_3
    go_wp2_with fail
    refine (equalInts_any _ _ _ _ _ _ _ _ _ _ _ xo_3 xs_3).mono ?_
    rintro e w4 ⟨rfl, dd⟩
    have xv_4 := ints_lift xv_3 (dd.below _)
    have xo_4 := ints_lift xo_3 (dd.below _)
    have xs_4 := ints_lift xs_3 (dd.below _)
    have hB4 : Below w.heap.size w w4 := hB3.trans (dd.below w.heap.size)
    clear hB3 xv_3 xo_3 xs_3
    clear dd
    clear xs_4
    by_cases hl0 : l2 = 0
    · have hl0I : ((l2 : Int) == 0) = true := by simp; omega
      clear hl0
      go_wp2_with fail
      refine (rollsBy_own a1 l1 c1 xs c kind w4 xv_4).mono ?_
      rintro e w5 ⟨a3, l3, c3, rfl, n_s, hc3, hb3⟩
      have xv_5 := ints_lift xv_4 hb3
      have xo_5 := ints_lift xo_4 hb3
      have hB5 : Below w.heap.size w w5 := hB4.trans (hb3.mono hB4.size)
      clear hB4 xv_4 xo_4
      have xs_5 := ints_in n_s (Nat.le_refl _)
      clear n_s
      clear hb3
      rw [HO.out] at xs_5
      go_wp2_with fail
      refine (equalInts_any _ _ _ _ _ _ _ _ _ _ _ xo_5 xs_5).mono ?_
      rintro e w6 ⟨rfl, dd⟩
      have xv_6 := ints_lift xv_5 (dd.below _)
      have xo_6 := ints_lift xo_5 (dd.below _)
      have xs_6 := ints_lift xs_5 (dd.below _)
      have hB6 : Below w.heap.size w w6 := hB5.trans (dd.below w.heap.size)
      clear hB5 xv_5 xo_5 xs_5
      clear dd
      clear xs_6
      go_wp2_with fail
      go_ret
      exact ⟨rfl, hB6⟩
    · have hlaw := rollsBy_law (xs := xs) (R := c) (kind := kind) (by rw [HO.out]; intro e; have := HOL.out; rw [e] at this; simp at this; omega)
      rw [HO.out, HOL.out, HL.out] at hlaw
      obtain ⟨hv, hk, hn0, hn7, hlen, hT, hsum, u, m, hg, hd, hr, hu7, hm7, hf, hlg⟩ := hlaw
      subst hlen
      have HK := Lib.hid hk
      have HT := Lib.hid hT
      have HSUM := Lib.hid hsum
      have HF := Lib.hid hf
      have HLG := Lib.hid hlg
      have HD := Lib.hid hd
      have HR := Lib.hid hr
      have HG := Lib.hid hg
      have hlI : ((l2 : Int) == 0) = false := by simp; omega
      clear hv hk hT hsum hf hlg hd hr hg
      go_wp2_with fail
      go_loopw [7] (fun i wr => ∃ k : Nat, k ≤ l2 ∧ i = .int .i64 k ∧ w4 = wr) (fun i _ => l2 - (intOf i).toNat)
      case atStart => exact ⟨0, Nat.zero_le _, rfl, rfl⟩
      case round =>
        obtain ⟨k, hk, rfl, rfl⟩ := hrel
        by_cases hlt : k < l2
        · have hkI : (k : Int) < (l2 : Int) := by omega
          have hsk := HSUM.out k
          obtain ⟨f, hfe⟩ : ∃ f : Nat → Int, (fun j => wsum (lenT xs) (fun i => decide (os.getD i 0 = (k : Int))) j) = f := ⟨_, rfl⟩
          have HFN := Lib.hid (fun j => show f (j + 1) = f j + if os.getD j 0 = (k : Int) then lenT xs j else 0 by rw [← hfe]; show wsum _ _ (j + 1) = _; rw [wsum]; simp)
          have HFB := Lib.hid (fun j (hj : j ≤ l2) => show 0 ≤ f j ∧ f j ≤ 20 * (j : Int) by rw [← hfe]; exact wsum_20 j (fun i hi => HT.out i (by omega)))
          have HF0 := Lib.hid (show f 0 = 0 by rw [← hfe]; rfl)
          have HFE := Lib.hid (show f l2 ≤ c by rw [← hfe]; exact hsk)
          clear hfe hsk
          go_wp2_with fail
          go_loopw [8, 9] (fun s i wr => ∃ j : Nat, j ≤ l2 ∧ i = .int .i64 j ∧ s = .int .i64 (f j) ∧ w4 = wr) (fun _ i _ => l2 - (intOf i).toNat)
          case atStart => exact ⟨0, Nat.zero_le _, rfl, by rw [HF0.out], rfl⟩
          case round =>
            obtain ⟨j, hj, rfl, rfl, rfl⟩ := hrel
            by_cases hjl : j < l2
            · have hjI : (j : Int) < (l2 : Int) := by omega
              obtain ⟨b, off, x, rfl, hxx, hcx⟩ := xo_4.get hjl
              obtain ⟨b2, off2, y, e2, hyy, hcy⟩ := xv_4.get hjl
              subst e2
              have hyb := HT.out j hjl
              have hN := HFN.out j
              unfold lenT at hyb hN
              rw [getD_of hyy] at hyb hN
              rw [getD_of hxx] at hN
              have HN := Lib.hid hN
              have hfb := HFB.out j hj
              clear hxx hyy hN
              generalize f j = o at *
              have hw1 : IntKind.i64.wrap (o + y) = o + y := IntWalk.i64_in _ (by omega)
              by_cases hxk : x = (k : Int)
              · rw [if_pos hxk] at HN
                subst hxk
                go_wp2_with fail
                go_roundw
                case rel => exact ⟨j + 1, by omega, by go_num, by rw [HN.out], by first | trivial | rfl⟩
                case measure => simp [intOf]; omega
              · rw [if_neg hxk, Int.add_zero] at HN
                have hxe : (x == (k : Int)) = false := by simp; exact hxk
                clear hxk
                go_wp2_with fail
                go_roundw
                case rel => exact ⟨j + 1, by omega, by go_num, by rw [HN.out], by first | trivial | rfl⟩
                case measure => simp [intOf]; omega
            · obtain rfl : j = l2 := by omega
              have hjI : ¬ (j : Int) < (j : Int) := by omega
              have hfe := HFE.out
              have hng : ¬ c < f j := by omega
              generalize f j = o at *
              go_wp2_with fail
              go_roundw
              case rel => exact ⟨k + 1, by omega, by go_num, by first | trivial | rfl⟩
              case measure => simp [intOf]; omega
        · obtain rfl : k = l2 := by omega
          have hkI : ¬ (k : Int) < (k : Int) := by omega
          obtain ⟨g, hgg⟩ : ∃ g, greatM os = g := ⟨_, rfl⟩
          have hgu := HG.out
          rw [hgg] at hgu
          have HGG := Lib.hid hgg
          have hwg : IntKind.i64.wrap (g + 1) = (u : Int) := by rw [hgu]; exact IntWalk.i64_in _ (by omega)
          have hw10 : IntKind.i64.wrap (10 * (u : Int)) = 10 * (u : Int) := IntWalk.i64_in _ (by omega)
          have hw17 : IntKind.i64.wrap (17 * (m : Int)) = 17 * (m : Int) := IntWalk.i64_in _ (by omega)
          have hw9 : IntKind.i64.wrap (9 * (u : Int)) = 9 * (u : Int) := IntWalk.i64_in _ (by omega)
          have hw11 : IntKind.i64.wrap (11 * (m : Int)) = 11 * (m : Int) := IntWalk.i64_in _ (by omega)
          have hw6 : IntKind.i64.wrap (11 * (m : Int) + 6) = 11 * (m : Int) + 6 := IntWalk.i64_in _ (by omega)
          clear hgg hgu
          go_wp2_with fail
          refine (greatestOf_any (· < w4.heap.size) a2 k c2 os w4 xo_4).mono ?_
          rintro e w' ⟨rfl, rfl⟩
          rw [HGG.out]
          go_wp2_with fail
          refine (fewestRolls_impl a1 k c1 xs c w4 xv_4).mono ?_
          rintro e w5 ⟨rfl, hb6⟩
          have xv_5 := ints_lift xv_4 hb6
          have xo_5 := ints_lift xo_4 hb6
          have hB5 : Below w.heap.size w w5 := hB4.trans (hb6.mono hB4.size)
          clear hB4 xv_4 xo_4
          clear hb6
          rw [HR.out]
          go_wp2_with fail
          refine (different_any (· < w5.heap.size) a2 k c2 os w5 xo_5 hc2).mono ?_
          rintro e w6 ⟨rfl, dd⟩
          have xv_6 := ints_lift xv_5 (dd.below _)
          have xo_6 := ints_lift xo_5 (dd.below _)
          have hB6 : Below w.heap.size w w6 := hB5.trans (dd.below w.heap.size)
          clear hB5 xv_5 xo_5
          clear dd
          rw [HD.out]
          have e1 : (kind.toList == [108, 111, 110, 103]) = isLong kind := rfl
          have e2 : (kind.toList == [102, 105, 114, 115, 116]) = isFirst kind := rfl
          cases h1 : isLong kind
          · have h2 : isFirst kind = true := by have := HK.out; rw [h1] at this; simpa using this
            rw [h1] at e1
            rw [h2] at e2
            have hle : 10 * (u : Int) ≤ 17 * (m : Int) := by have := HF.out h2; omega
            clear h1 h2
            go_wp2_with fail
            go_ret
            exact ⟨rfl, hB6⟩
          · have h2 := long_not_first h1
            rw [h1] at e1
            rw [h2] at e2
            have hle : 9 * (u : Int) ≤ 11 * (m : Int) + 6 := by have := HLG.out h1; omega
            clear h1 h2
            go_wp2_with fail
            go_ret
            exact ⟨rfl, hB6⟩
  · go_enter Try.func3, Try.ntmps3
    go_wp2
    go_ret
    exact ⟨rfl, Below.refl _ _⟩
end Go.Proofs.Ythmifadnfaajbac
