/- The law FnRollsOfOneLength returns true at every code, and the code reads behind the call as it read before. No condition. -/
import Derived.Test.YthmifadnfaajbaaRows
import Derived.WalkKit
import Derived.LoopTactic
import Derived.Outline
import Derived.WalkSpells
import Derived.WalkLawsBesides
import Derived.ProofKit
import Derived.Deep.QuietTactic
import Derived.BigQuiet
import Derived.IntWalk
import Derived.Test.YthmifadnfaajbaaM0
import Derived.Test.YthmifadnfaajbaaM1
import Derived.Test.YthmifadnfaajbaaM20
import Derived.Test.YthmifadnfaajbaaM21
import Derived.Test.YthmifadnfaajbaaM22
import Derived.Test.YthmifadnfaajbaaM5
namespace Go.Proofs.Ythmifadnfaajbaa
open Go.RowKit Go.WideShapes

set_option maxRecDepth 100000 in
set_option maxHeartbeats 2000000 in
theorem fnRollsOfOneLength_any (a : Option Addr) (len cap : Nat) (w : World) (hb : BytesAt w w.heap.size a len) (hl : len ≤ cap) (hs : len ≤ 9223372036854775807) :
    Calls Try.prog 6 #[.slice a len cap] w (LawPost w) := by
  by_cases h20 : len ≤ 1048576
  · go_enter Try.func6, Try.ntmps6
    have hB0 := Below.refl w.heap.size w
    go_wp2_with fail
    refine (dDrawFewestRolls_any a len cap w hb hl hs).mono ?_
    rintro e w1 ⟨a1, l1, c1, xs, c, rfl, n_v, hc1, hl1, h10, h20', hb1⟩
    have hB1 : Below w.heap.size w w1 := hB0.trans (hb1.mono hB0.size)
    clear hB0
    have xv_1 := n_v
    clear n_v
    clear hb hb1
    go_wp2_with fail
    refine (fewestRolls_impl a1 l1 c1 xs c w1 xv_1).mono ?_
    rintro e w2 ⟨rfl, hb2⟩
    have xv_2 := ints_lift xv_1 hb2
    have hB2 : Below w.heap.size w w2 := hB1.trans (hb2.mono hB1.size)
    clear hB1 xv_1
    clear hb2
    obtain ⟨z, hz⟩ : ∃ z, rollsRes xs c = z := ⟨_, rfl⟩
    rw [hz]
    have HZ := Lib.hid hz
    have hbd := rolls_bd xs c
    rw [hz] at hbd
    have hne : (z != z) = false := by simp
    have heq : (z == z) = true := by simp
    have HL := Lib.hid xv_2.lenEq
    clear hz
    go_wp2_with fail
    refine (fewestRolls_spec a1 l1 c1 xs c w2 xv_2).mono ?_
    rintro e w3 ⟨rfl, hb3⟩
    have xv_3 := ints_lift xv_2 hb3
    have hB3 : Below w.heap.size w w3 := hB2.trans (hb3.mono hB2.size)
    clear hB2 xv_2
    clear hb3
    rw [HZ.out]
    go_wp2_with fail
    refine (fewestRolls_impl a1 l1 c1 xs c w3 xv_3).mono ?_
    rintro e w4 ⟨rfl, hb4⟩
    have xv_4 := ints_lift xv_3 hb4
    have hB4 : Below w.heap.size w w4 := hB3.trans (hb4.mono hB3.size)
    clear hB3 xv_3
    clear hb4
    rw [HZ.out]
    by_cases hc0 : z < 0
    · go_wp2_with fail
      go_ret
      exact ⟨rfl, hB4⟩
    · by_cases hn0 : l1 = 0
      · have hn0I : ((l1 : Int) == 0) = true := by simp; omega
        clear hn0
        go_wp2_with fail
        go_ret
        exact ⟨rfl, hB4⟩
      · have hnI : ((l1 : Int) == 0) = false := by simp; omega
        obtain ⟨b, off, x, rfl, hxx, hcx⟩ := xv_4.get (k := 0) (by omega)
        have hlaw := oneLen_law (xs := xs) (R := c) (x := x) (n := l1) (k2 := ⟨#[102, 105, 114, 115, 116]⟩) (by rw [HZ.out]; omega) HL.out (by omega) (getD_of hxx) f_isFirst
        obtain ⟨x1, x2, _, _, f, m, hf, hf1, hf2, hm, hm7, hr, hg, hls⟩ := hlaw
        have HX := Lib.hid (getD_of hxx)
        have HC := Lib.hid (fun w' (hb : Below w4.heap.size w4 w') => (xv_4.below hb).get (k := 0) (by omega))
        have HF := Lib.hid hf
        have HM := Lib.hid hm
        have HR := Lib.hid hr
        have HG := Lib.hid hg
        have hm2 := leastRes11_bd (List.replicate l1 x) c
        obtain ⟨q, hq⟩ : ∃ q, leastRes11 (List.replicate l1 x) c = q := ⟨_, rfl⟩
        rw [hq] at hls hm2
        have HQ := Lib.hid hq
        have htd : c.tdiv x = c / x := Int.tdiv_eq_ediv_of_nonneg (by omega)
        have htd2 : ((l1 : Int) + (f : Int) - 1).tdiv (f : Int) = (m : Int) := by rw [Int.tdiv_eq_ediv_of_nonneg (by omega)]; exact hm
        have hwf : IntKind.i64.wrap (f : Int) = (f : Int) := IntWalk.i64_in _ (by omega)
        have hwm : IntKind.i64.wrap (m : Int) = (m : Int) := IntWalk.i64_in _ (by omega)
        have hws : IntKind.i64.wrap ((l1 : Int) + (f : Int) - 1) = (l1 : Int) + (f : Int) - 1 := IntWalk.i64_in _ (by omega)
        have hws2 : IntKind.i64.wrap ((l1 : Int) + (f : Int)) = (l1 : Int) + (f : Int) := IntWalk.i64_in _ (by omega)
        rw [hf] at htd
        have hfz : ((f : Int) == 0) = false := by simp; omega
        have hxz : (x == 0) = false := by simp; omega
        have hn1 : 1 ≤ l1 := by omega
        clear hf hm hr hg hq hxx hcx hn0
        go_wp2_with fail
        go_loopw [5, 6] (fun v i wr => ∃ (k cp : Nat) (ax : Option Addr), k ≤ l1 ∧ i = .int .i64 k ∧ v = .slice ax k cp ∧ wr.ownsRow w4.heap.size 3 1 v k ((List.replicate k x).map (.int .i64)) ∧ Below w4.heap.size w4 wr) (fun _ i _ => l1 - (intOf i).toNat)
        case atStart => exact ⟨0, 0, _, Nat.zero_le _, rfl, rfl, by simpa using World.ownsRow_made (base := w4.heap.size) (size := 1) (e := 3) w4 #[] 0 (Nat.le_refl _) (Nat.zero_le _) rfl, (Below.refl _ _).alloc (Nat.le_refl _) _⟩
        case round =>
          obtain ⟨k, cp, ax, hk, rfl, rfl, hown, hB⟩ := hrel
          obtain ⟨wo, rfl⟩ : ∃ wo : World, wo = wr := ⟨_, rfl⟩
          have HO9 := Lib.hid hown
          have HB9 := Lib.hid hB
          clear hown hB
          by_cases hlt : k < l1
          · have hkI : (k : Int) < (l1 : Int) := by omega
            have h0I : (0 : Int) < (l1 : Int) := by omega
            obtain ⟨b2, off2, x', e2, hx2, hc2⟩ := HC.out wo HB9.out
            have hxe : x' = x := (getD_of hx2).symm.trans HX.out
            subst hxe
            cases e2
            rw [Nat.add_zero] at hc2
            clear hx2
            go_wp2_with (at_builtin; refine wpApp1 rfl _ _ rfl w4.heap.size _ _ _ _ _ rfl HO9.out rfl HB9.out.size (by omega) ?_)
            intro a6 c6 w8 hown hc6 hgr
            have HO6 := Lib.hid hown
            have HB6 := Lib.hid (HB9.out.grown hgr HB9.out.size (own_block HO9.out))
            clear hown hgr
            go_wp2
            go_roundw
            case rel => exact ⟨k + 1, c6, a6, by omega, by go_num, rfl, by rw [List.replicate_succ', List.map_append, List.map_replicate]; exact HO6.out, HB6.out⟩
            case measure => simp [intOf]; omega
          · obtain rfl : k = l1 := by omega
            have hkI : ¬ (k : Int) < (k : Int) := by omega
            have h0I : (0 : Int) < (k : Int) := by omega
            obtain ⟨w5, rfl⟩ : ∃ w5 : World, w5 = wo := ⟨_, rfl⟩
            obtain ⟨b2, off2, x', e2, hx2, hc2⟩ := HC.out w5 HB9.out
            have hxe : x' = x := (getD_of hx2).symm.trans HX.out
            subst hxe
            cases e2
            rw [Nat.add_zero] at hc2
            clear hx2
            have n_e := own_low HO9.out (by omega)
            have hb5 := HB9.out
            clear HC HO9
            clear xv_4
            have hB5 : Below w.heap.size w w5 := hB4.trans (hb5.mono hB4.size)
            clear hB4
            have xe_5 := n_e
            clear n_e
            clear hb5 HB9
            go_wp2_with fail
            refine (fewestRolls_impl ax k cp _ c w5 xe_5).mono ?_
            rintro e w6 ⟨rfl, hb6⟩
            have xe_6 := ints_lift xe_5 hb6
            have hB6 : Below w.heap.size w w6 := hB5.trans (hb6.mono hB5.size)
            clear hB5 xe_5
            clear hb6
            rw [HR.out]
            go_wp2_with fail
            refine (rollsBy_impl ax k cp _ c ⟨#[102, 105, 114, 115, 116]⟩ w6 xe_6).mono ?_
            rintro e w7 ⟨a7, l7, c7, rfl, n_s, hc7, hb7⟩
            have xe_7 := ints_lift xe_6 hb7
            have hB7 : Below w.heap.size w w7 := hB6.trans (hb7.mono hB6.size)
            clear hB6 xe_6
            have xs_7 := ints_in n_s (Nat.le_refl _)
            clear n_s
            clear hb7
            obtain ⟨g, hgg⟩ : ∃ g, greatM (rollRes (List.replicate k x') c ⟨#[102, 105, 114, 115, 116]⟩) = g := ⟨_, rfl⟩
            have hgm := HG.out
            rw [hgg] at hgm
            have hwg : IntKind.i64.wrap (g + 1) = (m : Int) := by rw [hgm]; exact IntWalk.i64_in _ (by omega)
            have HGG := Lib.hid hgg
            clear hgg hgm
            go_wp2_with fail
            refine (greatestOf_any (· < w7.heap.size) a7 l7 c7 _ w7 xs_7).mono ?_
            rintro e w' ⟨rfl, rfl⟩
            rw [HGG.out]
            clear xs_7
            go_wp2_with fail
            refine (leastRolls_impl (· < w7.heap.size) ax k cp _ c w7 xe_7).mono ?_
            rintro e w8 ⟨rfl, hb8⟩
            have xe_8 := ints_lift xe_7 hb8
            have hB8 : Below w.heap.size w w8 := hB7.trans (hb8.mono hB7.size)
            clear hB7 xe_7
            clear hb8
            rw [HQ.out]
            go_wp2_with fail
            go_ret
            exact ⟨rfl, hB8⟩
  · go_enter Try.func6, Try.ntmps6
    go_wp2
    go_ret
    exact ⟨rfl, Below.refl _ _⟩
end Go.Proofs.Ythmifadnfaajbaa
