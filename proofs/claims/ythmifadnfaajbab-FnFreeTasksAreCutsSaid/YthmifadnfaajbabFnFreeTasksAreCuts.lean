/- The law FnFreeTasksAreCuts returns true at every code, and the code reads behind the call as it read before. No condition. -/
import Derived.Test.YthmifadnfaajbabRows
import Derived.WalkKit
import Derived.LoopTactic
import Derived.Outline
import Derived.WalkSpells
import Derived.WalkLawsBesides
import Derived.ProofKit
import Derived.Deep.QuietTactic
import Derived.BigQuiet
import Derived.IntWalk
import Derived.Test.YthmifadnfaajbabM0
import Derived.Test.YthmifadnfaajbabM1
import Derived.Test.YthmifadnfaajbabM2
import Derived.Test.YthmifadnfaajbabM3
import Derived.Test.YthmifadnfaajbabM4
import Derived.Test.YthmifadnfaajbabM15
import Derived.Test.YthmifadnfaajbabM5
import Derived.Test.YthmifadnfaajbabM16
import Derived.Test.YthmifadnfaajbabM17
import Derived.Test.YthmifadnfaajbabM19
import Derived.Test.YthmifadnfaajbabM20
namespace Go.Proofs.Ythmifadnfaajbab
open Go.RowKit Go.WideShapes

set_option maxRecDepth 100000 in
set_option maxHeartbeats 4000000 in
theorem fnFreeTasksAreCuts_any (a : Option Addr) (len cap : Nat) (w : World) (hb : BytesAt w w.heap.size a len) (hl : len ≤ cap) (hs : len ≤ 9223372036854775807) :
    Calls Try.prog 6 #[.slice a len cap] w (LawPost w) := by
  by_cases h20 : len ≤ 1048576
  · go_enter Try.func6, Try.ntmps6
    have hB0 := Below.refl w.heap.size w
    go_wp2_with fail
    refine (drawPlacesBy_any a len cap w hb hl hs).mono ?_
    rintro e w1 ⟨a1, l1, c1, T, a2, l2, c2, ys, c, rfl, n_t, hc1, hl1, n_y, hc2, hl2, hn0, hn1, hb1⟩
    have hB1 : Below w.heap.size w w1 := hB0.trans (hb1.mono hB0.size)
    clear hB0
    have xt_1 := n_t
    have xy_1 := n_y
    clear n_t
    clear n_y
    clear hb hb1
    go_wp2_with fail
    refine (placesBy_impl a1 l1 c1 T a2 l2 c2 ys c w1 xt_1 xy_1 hc1 hc2 (by omega) (by omega)).mono ?_
    rintro e w2 ⟨a3, l3, c3, rfl, n_g, _, hc3, hb2⟩
    have xt_2 := ints_lift xt_1 hb2
    have xy_2 := ints_lift xy_1 hb2
    have hB2 : Below w.heap.size w w2 := hB1.trans (hb2.mono hB1.size)
    clear hB1 xt_1 xy_1
    have xg_2 := ints_in n_g (Nat.le_refl _)
    clear n_g
    go_wp2_with fail
    refine (placesBy_specV a1 l1 c1 T a2 l2 c2 ys c w2 xt_2 xy_2 (by omega) (by omega)).mono ?_
    rintro e w3 ⟨a4, l4, c4, rfl, n_k, _, hb3⟩
    have xt_3 := ints_lift xt_2 hb3
    have xy_3 := ints_lift xy_2 hb3
    have xg_3 := ints_lift xg_2 hb3
    have hB3 : Below w.heap.size w w3 := hB2.trans (hb3.mono hB2.size)
    clear hB2 xt_2 xy_2 xg_2
    have xk_3 := ints_in n_k (Nat.le_refl _)
    clear n_k
    have heq : eqB (byRes T ys c) (byRes T ys c) = true := decide_eq_true rfl
    clear hb2 hb3
    have hmk := fun w => run_make_row' (P := Try.prog) 22 3 (.int .i64 0) 8 Try.underlying22 Try.infoIntO rfl .i64 .i64 l1 (by omega) (by omega) w
    go_wp2_with fail
    refine (equalInts_any _ _ _ _ _ _ _ _ _ _ _ xg_3 xk_3).mono ?_
    rintro e w4 ⟨rfl, dd⟩
    have xt_4 := ints_lift xt_3 (dd.below _)
    have xy_4 := ints_lift xy_3 (dd.below _)
    have xg_4 := ints_lift xg_3 (dd.below _)
    have xk_4 := ints_lift xk_3 (dd.below _)
    have hB4 : Below w.heap.size w w4 := hB3.trans (dd.below w.heap.size)
    clear hB3 xt_3 xy_3 xg_3 xk_3
    clear dd
    clear xk_4
    clear xg_4
    have hz0 : IntsAt (w4.alloc (.cells (madeCells #[.int .i64 0] l1) 3)) (fun b => b = w4.heap.size) (some ⟨w4.heap.size, 0, none⟩) l1 (zerosI T.length) := by
      rw [xt_4.lenEq]
      refine ⟨by simp [zerosI, tab], by omega, fun _ => ⟨_, 0, rfl, rfl, fun i x hx => ?_⟩⟩
      obtain ⟨rfl, hi⟩ := tab_get hx
      rw [Nat.zero_add, World.cell?_alloc_new]
      simp [madeCells, hi, Nat.mod_one]
    have hzb := (Below.refl w4.heap.size w4).alloc (Nat.le_refl _) (.cells (madeCells #[.int .i64 0] l1) 3)
    have hzs : (w4.alloc (.cells (madeCells #[.int .i64 0] l1) 3)).heap.size = w4.heap.size + 1 := by simp
    obtain ⟨H, hH⟩ : ∃ H, w4.heap.size = H := ⟨_, rfl⟩
    obtain ⟨w5, hw5⟩ : ∃ wx, w4.alloc (.cells (madeCells #[.int .i64 0] l1) 3) = wx := ⟨_, rfl⟩
    rw [hw5] at hz0 hzb hzs
    rw [hH] at hz0 hzs
    have n_z : IntsAt w5 (· < w5.heap.size) (some ⟨H, 0, none⟩) l1 (zerosI T.length) := hz0.to (fun b hb => ⟨by rw [hb, hzs]; omega, rfl⟩)
    have HW5 := Lib.hid hw5
    have HHH := Lib.hid hH
    clear hw5 hH hz0 hzs
    have xt_5 := ints_lift xt_4 hzb
    have xy_5 := ints_lift xy_4 hzb
    have hB5 : Below w.heap.size w w5 := hB4.trans (hzb.mono hB4.size)
    clear hB4 xt_4 xy_4
    have xz_5 := n_z
    clear n_z
    clear hzb
    have hl1z : l1 ≤ l1 := Nat.le_refl _
    go_wp2_with fail
    rw [HW5.out, HHH.out]
    refine (fewest_impl a1 l1 c1 T (some ⟨H, 0, none⟩) l1 l1 (zerosI T.length) c w5 xt_5 xz_5 hc1 hl1z (by omega) (by omega)).mono ?_
    rintro e w6 ⟨rfl, hb5⟩
    have xt_6 := ints_lift xt_5 hb5
    have xy_6 := ints_lift xy_5 hb5
    have xz_6 := ints_lift xz_5 hb5
    have hB6 : Below w.heap.size w w6 := hB5.trans (hb5.mono hB5.size)
    clear hB5 xt_5 xy_5 xz_5
    clear hb5 hmk
    obtain ⟨n, hn⟩ : ∃ n, fewRes T (zerosI T.length) c = n := ⟨_, rfl⟩
    have hnb := fewRes_bd T (zerosI T.length) c
    rw [hn] at hnb ⊢
    by_cases hneg : n < 0
    · clear hn
      go_wp2_with fail
      go_ret
      exact ⟨rfl, hB6⟩
    · by_cases h20 : c > 20
      · clear hn
        go_wp2_with fail
        go_ret
        exact ⟨rfl, hB6⟩
      · obtain ⟨q1, q2⟩ := free_law (T := T) (ys := ys) (c := c) (by rw [hn]; omega) (by omega)
        rw [hn] at q1 q2
        have Q1 := Lib.hid q1
        have hmb := fewRes_bd T ys c
        obtain ⟨m, hm⟩ : ∃ m, fewRes T ys c = m := ⟨_, rfl⟩
        rw [hm] at q2 hmb
        have HM := Lib.hid hm
        clear hn hm q1
        go_wp2_with fail
        refine (fewest_impl a1 l1 c1 T a2 l2 c2 ys c w6 xt_6 xy_6 hc1 hc2 (by omega) (by omega)).mono ?_
        rintro e w7 ⟨rfl, hb6⟩
        have xt_7 := ints_lift xt_6 hb6
        have xy_7 := ints_lift xy_6 hb6
        have xz_7 := ints_lift xz_6 hb6
        have hB7 : Below w.heap.size w w7 := hB6.trans (hb6.mono hB6.size)
        clear hB6 xt_6 xy_6 xz_6
        rw [HM.out]
        clear hb6
        go_wp2_with fail
        refine (fewestRolls_impl a1 l1 c1 T c w7 xt_7).mono ?_
        rintro e w8 ⟨rfl, hb7⟩
        have xt_8 := ints_lift xt_7 hb7
        have xy_8 := ints_lift xy_7 hb7
        have xz_8 := ints_lift xz_7 hb7
        have hB8 : Below w.heap.size w w8 := hB7.trans (hb7.mono hB7.size)
        clear hB7 xt_7 xy_7 xz_7
        rw [Q1.out]
        clear hb7
        have hee : (n == n) = true := by simp
        by_cases hm0 : m < 0
        · go_wp2_with fail
          go_ret
          exact ⟨rfl, hB8⟩
        · have hnm : n ≤ m := by omega
          go_wp2_with fail
          go_ret
          exact ⟨rfl, hB8⟩
  · go_enter Try.func6, Try.ntmps6
    go_wp2
    go_ret
    exact ⟨rfl, Below.refl _ _⟩
end Go.Proofs.Ythmifadnfaajbab
