/- The law FnFewestRolls returns true at every code, and the code reads behind the call as it read before. No condition. -/
import Derived.Test.YthmifadnfaajbaaRows
import Derived.WalkKit
import Derived.LoopTactic
import Derived.Outline
import Derived.WalkSpells
import Derived.WalkLawsBesides
import Derived.ProofKit
import Derived.Deep.QuietTactic
import Derived.BigQuiet
import Derived.IntWalk
import Derived.Test.YthmifadnfaajbaaM0
import Derived.Test.YthmifadnfaajbaaM1
import Derived.Test.YthmifadnfaajbaaM20
import Derived.Test.YthmifadnfaajbaaM21
import Derived.Test.YthmifadnfaajbaaM22
namespace Go.Proofs.Ythmifadnfaajbaa
open Go.RowKit Go.WideShapes

set_option maxRecDepth 100000 in
set_option maxHeartbeats 2000000 in
theorem fnFewestRolls_any (a : Option Addr) (len cap : Nat) (w : World) (hb : BytesAt w w.heap.size a len) (hl : len ≤ cap) (hs : len ≤ 9223372036854775807) :
    Calls Try.prog 4 #[.slice a len cap] w (LawPost w) := by
  by_cases h20 : len ≤ 1048576
  · go_enter Try.func4, Try.ntmps4
    have hB0 := Below.refl w.heap.size w
    go_wp2_with fail
    refine (dDrawFewestRolls_any a len cap w hb hl hs).mono ?_
    rintro e w1 ⟨a1, l1, c1, xs, c, rfl, n_v, hc1, hl1, h10, h20', hb1⟩
    have hB1 : Below w.heap.size w w1 := hB0.trans (hb1.mono hB0.size)
    clear hB0
    have xv_1 := n_v
    clear n_v
    clear hb hb1
    go_wp2_with fail
    refine (fewestRolls_impl a1 l1 c1 xs c w1 xv_1).mono ?_
    rintro e w2 ⟨rfl, hb2⟩
    have xv_2 := ints_lift xv_1 hb2
    have hB2 : Below w.heap.size w w2 := hB1.trans (hb2.mono hB1.size)
    clear hB1 xv_1
    clear hb2
    obtain ⟨z, hz⟩ : ∃ z, rollsRes xs c = z := ⟨_, rfl⟩
    rw [hz]
    have HZ := Lib.hid hz
    have hbd := rolls_bd xs c
    rw [hz] at hbd
    have hne : (z != z) = false := by simp
    have heq : (z == z) = true := by simp
    clear hz
    go_wp2_with fail
    refine (fewestRolls_spec a1 l1 c1 xs c w2 xv_2).mono ?_
    rintro e w3 ⟨rfl, hb3⟩
    have xv_3 := ints_lift xv_2 hb3
    have hB3 : Below w.heap.size w w3 := hB2.trans (hb3.mono hB2.size)
    clear hB2 xv_2
    clear hb3
    rw [HZ.out]
    by_cases hc0 : z < 0
    · go_wp2_with fail
      refine (fewestRolls_spec a1 l1 c1 xs c w3 xv_3).mono ?_
      rintro e w4 ⟨rfl, hb4⟩
      have xv_4 := ints_lift xv_3 hb4
      have hB4 : Below w.heap.size w w4 := hB3.trans (hb4.mono hB3.size)
      clear hB3 xv_3
      clear hb4
      rw [HZ.out]
      go_wp2_with fail
      go_ret
      exact ⟨rfl, hB4⟩
    · have HL := Lib.hid xv_3.lenEq
      by_cases hn0 : l1 = 0
      · subst hn0
        have hz0 : z = 0 := by
          have h1 := HZ.out
          have h2 : xs = [] := List.eq_nil_of_length_eq_zero HL.out
          rw [h2] at h1
          unfold rollsRes at h1
          split at h1
          · rw [few_none] at h1; omega
          · omega
        subst hz0
        go_wp2_with fail
        go_ret
        exact ⟨rfl, hB3⟩
      · obtain ⟨n, rfl⟩ : ∃ n, l1 = n + 1 := ⟨l1 - 1, by omega⟩
        have hlaw := few_law (xs := xs) (R := c) (n := n) (k1 := ⟨#[108, 111, 110, 103]⟩) (k2 := ⟨#[102, 105, 114, 115, 116]⟩) (by rw [HZ.out]; omega) HL.out l_isLong f_isFirst
        rw [HZ.out] at hlaw
        obtain ⟨b, off, rfl⟩ : ∃ b off, a1 = some ⟨b, off, none⟩ := by
          obtain ⟨b, off, x, e, _, _⟩ := xv_3.get (k := 0) (by omega)
          exact ⟨b, off, e⟩
        have n_t := xv_3.takeI n (by omega)
        have xt_3 := n_t
        clear n_t
        have hne1 : ((((n + 1 : Nat) : Int)) == 0) = false := by simp; omega
        have hnw : IntKind.i64.wrap (((n + 1 : Nat) : Int) - 1) = (n : Int) := by rw [show ((n + 1 : Nat) : Int) - 1 = (n : Int) by omega]; exact IntWalk.i64_in _ (by omega)
        have hnw2 : IntKind.i64.wrap ((n : Int) + 1 - 1) = (n : Int) := by rw [Int.add_sub_cancel]; exact IntWalk.i64_in _ (by omega)
        have hn1c : n ≤ c1 := by omega
        have hm1 := rolls_bd (xs.take n) c
        have hm2 := leastRes11_bd xs c
        obtain ⟨y, hy⟩ : ∃ y, rollsRes (xs.take n) c = y := ⟨_, rfl⟩
        have HY := Lib.hid hy
        rw [hy] at hlaw hm1
        obtain ⟨q, hq⟩ : ∃ q, leastRes11 xs c = q := ⟨_, rfl⟩
        have HQ := Lib.hid hq
        rw [hq] at hlaw hm2
        obtain ⟨g1, hg1⟩ : ∃ g, greatM (rollRes xs c ⟨#[108, 111, 110, 103]⟩) = g := ⟨_, rfl⟩
        have HG1 := Lib.hid hg1
        rw [hg1] at hlaw
        obtain ⟨g2, hg2⟩ : ∃ g, greatM (rollRes xs c ⟨#[102, 105, 114, 115, 116]⟩) = g := ⟨_, rfl⟩
        have HG2 := Lib.hid hg2
        rw [hg2] at hlaw
        clear hy hq hg1 hg2
        obtain ⟨i1, i2, i3, i4, i5, i6, i7, i8, i9⟩ := hlaw
        go_wp2_with fail
        refine (fewestRolls_impl (some ⟨b, off, none⟩) n c1 (xs.take n) c w3 xt_3).mono ?_
        rintro e w4 ⟨rfl, hb4⟩
        have xv_4 := ints_lift xv_3 hb4
        have xt_4 := ints_lift xt_3 hb4
        have hB4 : Below w.heap.size w w4 := hB3.trans (hb4.mono hB3.size)
        clear hB3 xv_3 xt_3
        clear hb4
        rw [HY.out]
        clear xt_4
        go_wp2_with fail
        refine (leastRolls_impl (· < w4.heap.size) (some ⟨b, off, none⟩) (n + 1) c1 xs c w4 xv_4).mono ?_
        rintro e w5 ⟨rfl, hb5⟩
        have xv_5 := ints_lift xv_4 hb5
        have hB5 : Below w.heap.size w w5 := hB4.trans (hb5.mono hB4.size)
        clear hB4 xv_4
        clear hb5
        rw [HQ.out]
        go_wp2_with fail
        refine (rollsBy_impl (some ⟨b, off, none⟩) (n + 1) c1 xs c ⟨#[108, 111, 110, 103]⟩ w5 xv_5).mono ?_
        rintro e w6 ⟨a6, l6, c6, rfl, n_r, hc6, hb6⟩
        have xv_6 := ints_lift xv_5 hb6
        have hB6 : Below w.heap.size w w6 := hB5.trans (hb6.mono hB5.size)
        clear hB5 xv_5
        have xr_6 := ints_in n_r (Nat.le_refl _)
        clear n_r
        clear hb6
        go_wp2_with fail
        refine (greatestOf_any (· < w6.heap.size) a6 l6 c6 _ w6 xr_6).mono ?_
        rintro e w' ⟨rfl, rfl⟩
        rw [HG1.out]
        clear xr_6
        go_wp2_with fail
        refine (rollsBy_impl (some ⟨b, off, none⟩) (n + 1) c1 xs c ⟨#[102, 105, 114, 115, 116]⟩ w6 xv_6).mono ?_
        rintro e w7 ⟨a7, l7, c7, rfl, n_s, hc7, hb7⟩
        have xv_7 := ints_lift xv_6 hb7
        have hB7 : Below w.heap.size w w7 := hB6.trans (hb7.mono hB6.size)
        clear hB6 xv_6
        have xs_7 := ints_in n_s (Nat.le_refl _)
        clear n_s
        clear hb7
        go_wp2_with fail
        refine (greatestOf_any (· < w7.heap.size) a7 l7 c7 _ w7 xs_7).mono ?_
        rintro e w' ⟨rfl, rfl⟩
        rw [HG2.out]
        clear xs_7
        go_wp2_with fail
        go_ret
        exact ⟨rfl, hB7⟩
  · go_enter Try.func4, Try.ntmps4
    go_wp2
    go_ret
    exact ⟨rfl, Below.refl _ _⟩
end Go.Proofs.Ythmifadnfaajbaa
