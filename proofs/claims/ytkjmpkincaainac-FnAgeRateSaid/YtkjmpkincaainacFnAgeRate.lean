/- The law FnAgeRate returns true at every code, and the code reads behind the call as it read before. No condition. -/
import Derived.Test.YtkjmpkincaainacRows
import Derived.WalkKit
import Derived.LoopTactic
import Derived.Outline
import Derived.WalkSpells
import Derived.WalkLawsBesides
import Derived.ProofKit
import Derived.Deep.QuietTactic
import Derived.BigQuiet
import Derived.IntWalk
import Derived.Test.YtkjmpkincaainacM0
import Derived.Test.YtkjmpkincaainacM1
import Derived.Test.YtkjmpkincaainacM2
import Derived.Test.YtkjmpkincaainacM13
import Derived.Test.YtkjmpkincaainacM4
import Derived.Test.YtkjmpkincaainacM6
import Derived.Test.YtkjmpkincaainacM10
import Derived.Test.YtkjmpkincaainacM11
import Derived.Test.YtkjmpkincaainacM12
import Derived.Test.YtkjmpkincaainacM14
namespace Go.Proofs.Ytkjmpkincaainac
open Go.RowKit Go.WideShapes

set_option maxRecDepth 100000 in
set_option maxHeartbeats 2000000 in
theorem fnAgeRate_any (a : Option Addr) (len cap : Nat) (w : World) (hb : BytesAt w w.heap.size a len) (hl : len ≤ cap) (hs : len ≤ 9223372036854775807) :
    Calls Try.prog 4 #[.slice a len cap] w (LawPost w) := by
  by_cases h20 : len ≤ 1048576
  · go_enter Try.func4, Try.ntmps4
    have hB0 := Below.refl w.heap.size w
    go_wp2_with fail
    refine (dDrawAgeRate_any a len cap w hb hl hs).mono ?_
    rintro e w1 ⟨a1, l1, c1, xs, s, o, u, rfl, n_v, hc1, hl1, hs0, hs1, ho0, ho1, hu0, hu1, hb1⟩
    have hB1 : Below w.heap.size w w1 := hB0.trans (hb1.mono hB0.size)
    clear hB0
    have xv_1 := n_v
    clear n_v
    clear hb hb1
    go_wp2_with fail
    refine (ageRate_impl a1 l1 c1 xs s o u w1 xv_1).mono ?_
    rintro e w2 ⟨rfl, hb2⟩
    have xv_2 := ints_lift xv_1 hb2
    have hB2 : Below w.heap.size w w2 := hB1.trans (hb2.mono hB1.size)
    clear hB1 xv_1
    clear hb2
    obtain ⟨U, hU⟩ : ∃ y, rateU xs s o u = y := ⟨_, rfl⟩
    obtain ⟨D, hD⟩ : ∃ y, rateD xs s o u = y := ⟨_, rfl⟩
    obtain ⟨B, hB⟩ : ∃ y, rateFine xs s o u = y := ⟨_, rfl⟩
    have hbdU := rate_bd (xs := xs) (a := s) (p := o) (f := u)
    rw [hU, hD] at hbdU
    rw [hU, hD, hB]
    have HU := Lib.hid hU
    have HD := Lib.hid hD
    have HB := Lib.hid hB
    clear hU hD hB
    have frx_n := two_new w2 (.int .i64 (U : Int)) (.int .i64 (D : Int)) 24
    have hbx := (Below.refl w2.heap.size w2).alloc (Nat.le_refl _) (.cells #[.int .i64 (U : Int), .int .i64 (D : Int)] 24)
    obtain ⟨w3, hw3⟩ : ∃ wx, w2.alloc (.cells #[.int .i64 (U : Int), .int .i64 (D : Int)] 24) = wx := ⟨_, rfl⟩
    rw [hw3] at frx_n hbx
    have HW3 := Lib.hid hw3
    clear hw3
    have xv_3 := ints_lift xv_2 hbx
    have hB3 : Below w.heap.size w w3 := hB2.trans (hbx.mono hB2.size)
    clear hB2 xv_2
    clear hbx
    have frx_3 := frx_n
    clear frx_n
    have cx0 := frx_3.1.1
    have cx1 := frx_3.2.1
    rw [← HW3.out] at cx0 cx1
    go_wp2_with fail
    rw [HW3.out]
    refine (ageRate_spec a1 l1 c1 xs s o u w3 xv_3).mono ?_
    rintro e w4 ⟨rfl, hb3⟩
    clear cx0 cx1
    have frx_4 := frx_3.block (hb3.block _ frx_3.lt)
    clear frx_3
    have xv_4 := ints_lift xv_3 hb3
    have hB4 : Below w.heap.size w w4 := hB3.trans (hb3.mono hB3.size)
    clear hB3 xv_3
    clear hb3
    rw [HU.out, HD.out, HB.out]
    have fru_n := two_new w4 (.int .i64 (U : Int)) (.int .i64 (D : Int)) 24
    have hbx := (Below.refl w4.heap.size w4).alloc (Nat.le_refl _) (.cells #[.int .i64 (U : Int), .int .i64 (D : Int)] 24)
    obtain ⟨w5, hw5⟩ : ∃ wx, w4.alloc (.cells #[.int .i64 (U : Int), .int .i64 (D : Int)] 24) = wx := ⟨_, rfl⟩
    rw [hw5] at fru_n hbx
    have HW5 := Lib.hid hw5
    clear hw5
    have frx_5 := frx_4.block (hbx.block _ frx_4.lt)
    clear frx_4
    have xv_5 := ints_lift xv_4 hbx
    have hB5 : Below w.heap.size w w5 := hB4.trans (hbx.mono hB4.size)
    clear hB4 xv_4
    clear hbx
    have fru_5 := fru_n
    clear fru_n
    have hne := run_neq_frac U D
    have heq := run_eq_frac U D
    cases B
    · have cx0 := frx_5.1.1
      have cx1 := frx_5.2.1
      have cu0 := fru_5.1.1
      have cu1 := fru_5.2.1
      rw [← HW5.out] at cx0 cx1 cu0 cu1
      go_wp2_with fail
      rw [HW5.out]
      go_ret
      exact ⟨rfl, hB5⟩
    · have hfine := HB.out
      have hok : okO xs o u = true := by unfold rateFine at hfine; simp only [Bool.and_eq_true] at hfine; exact hfine.1
      have hsr : 1 ≤ s ∧ s ≤ 7 := by unfold rateFine at hfine; simp only [Bool.and_eq_true] at hfine; simpa [inB] using hfine.2
      clear hfine
      obtain ⟨age, rfl⟩ : ∃ k : Nat, s = (k : Int) := ⟨s.toNat, by omega⟩
      have HLT := Lib.hid (fun h => rate_late (xs := xs) (a := age) hok (by omega) h)
      rw [HU.out, HD.out] at HLT
      obtain ⟨hch, hoo, hoo2, huu, huu2⟩ := okO_at hok
      have hlen : xs.length = l1 := xv_5.lenEq
      obtain ⟨hl0, hl7, hx9, _⟩ := chM_at hch
      have HX9 := Lib.hid hx9
      have HLB := Lib.hid (fun k (hk : k ≤ 8) => lifeN_bd hx9 k hk)
      have hlp := life_pos hch
      have hTb := ch_T hch
      have HMEM := Lib.hid (mem_9 (ch_all hch))
      rw [← totalM_eq] at hTb
      rw [hlen] at HLT hlp hl7
      obtain ⟨T, hT⟩ : ∃ T : Nat, totalM xs = (T : Int) := ⟨(totalM xs).toNat, by omega⟩
      obtain ⟨L, hL⟩ : ∃ L : Nat, lifeN xs l1 = (L : Int) := ⟨(lifeN xs l1).toNat, by omega⟩
      rw [hT] at hTb HLT
      rw [hL] at hlp HLT
      have hF0 : 0 ≤ u * (T : Int) ∧ u * (T : Int) ≤ 30 * 63 := ⟨Int.mul_nonneg huu (by omega), Int.mul_le_mul huu2 (by omega) (by omega) (by omega)⟩
      obtain ⟨F, hF⟩ : ∃ F : Nat, u * (T : Int) = (F : Int) := ⟨(u * (T : Int)).toNat, by omega⟩
      rw [hF] at HLT hF0
      rw [show (F : Int).toNat = F by omega, show (L : Int).toNat = L by omega] at HLT
      have HFL := Lib.hid (lfrac_any F L (by omega) (by omega) (by omega))
      unfold FracP at HFL
      have HTOT := Lib.hid (fun w' (hb : Below w5.heap.size w5 w') => total_any (· < w'.heap.size) a1 l1 c1 xs w' (ints_lift xv_5 hb) HMEM.out (by omega))
      rw [hT] at HTOT
      have HLL := Lib.hid hL
      clear hok hch hx9 hlen hT hL
      have cx0 := frx_5.1.1
      have cx1 := frx_5.2.1
      have cu0 := fru_5.1.1
      have cu1 := fru_5.2.1
      rw [← HW5.out] at cx0 cx1 cu0 cu1
      go_wp2_with fail
      rw [HW5.out]
      clear cx0 cx1
      clear cu0 cu1
      go_loop [11, 12] (fun t i => ∃ k : Nat, k ≤ l1 ∧ i = .int .i64 k ∧ t = .int .i64 (lifeN xs k)) (fun _ i => l1 - (intOf i).toNat)
      case atStart => exact ⟨0, Nat.zero_le _, rfl, rfl⟩
      case round =>
        obtain ⟨k, hk, rfl, rfl⟩ := hrel
        by_cases hlt : k < l1
        · have hkI : (k : Int) < (l1 : Int) := by omega
          obtain ⟨b, off, x, rfl, hx, hcx⟩ := xv_5.get hlt
          have hxe : xs.getD k 0 = x := getD_of hx
          have hx9 := HX9.out k
          have hlb := HLB.out k (by omega)
          rw [hxe] at hx9
          have HN := Lib.hid (show lifeN xs (k + 1) = lifeN xs k + x * ((k : Int) + 1) by rw [lifeN, hxe])
          clear hxe hx
          obtain ⟨t, ht⟩ : ∃ t, lifeN xs k = t := ⟨_, rfl⟩
          rw [ht] at HN hlb ⊢
          clear ht
          have b1 : 0 ≤ x * ((k : Int) + 1) ∧ x * ((k : Int) + 1) ≤ 9 * 8 := ⟨Int.mul_nonneg hx9.1 (by omega), Int.mul_le_mul hx9.2 (by omega) (by omega) (by omega)⟩
          go_wp2_with fail
          go_round
          case rel => exact ⟨k + 1, by omega, by go_num, by rw [HN.out]⟩
          case measure => simp [intOf]; omega
        · obtain rfl : k = l1 := by omega
          have hkI : ¬ (k : Int) < (k : Int) := by omega
          rw [HLL.out]
          by_cases hal : age < k
          · have halI : (age : Int) < (k : Int) := by omega
            have hu0 : (0 : Int) ≤ (U : Int) := by omega
            have cx0 := frx_5.1.1
            have cx1 := frx_5.2.1
            have cu0 := fru_5.1.1
            have cu1 := fru_5.2.1
            go_wp2_with fail
            clear cx0 cx1
            clear cu0 cu1
            have HL := Lib.hid (fun w' (hS : Below w5.heap.size w5 w') => And.intro (frx_5.lift hS) <| And.intro (fru_5.lift hS) <| True.intro)
            have HY0 : Hid (Below w5.heap.size w5 w5.drew) := Lib.hid (Below.refl _ _).drew
            have hB9 := hB5
            refine wp_region_held_drew (S := (fun w' => Below w5.heap.size w5 w')) (by kernel_rfl) HY0.out (fun hHeld => ?_)
            refine wpAnyH_take (i := 0) (v := .int .i64 age) rfl (by kernel_rfl) (by kernel_rfl) (by kernel_rfl) (fun _ _ _ h => h) (Or.inl ⟨by rfl, ?_⟩) hHeld ?_
            · rintro w' hS; go_simp
            try simp only [Act.put, List.setIfInBounds_toArray, List.set_cons_zero, List.set_cons_succ, List.getElem_toArray, List.getElem_cons_zero]
            refine wpAnyH_take (i := 1) (v := .slice a1 k c1) rfl (by kernel_rfl) (by kernel_rfl) (by kernel_rfl) (fun _ _ _ h => h) (Or.inl ⟨by rfl, ?_⟩) hHeld ?_
            · rintro w' hS; go_simp
            try simp only [Act.put, List.setIfInBounds_toArray, List.set_cons_zero, List.set_cons_succ, List.getElem_toArray, List.getElem_cons_succ, List.getElem_cons_zero]
            refine wpAnyH_take (i := 2) (v := .int .i64 k) rfl (by kernel_rfl) (by kernel_rfl) (by kernel_rfl) (fun _ _ _ h => h) (Or.inl ⟨by rfl, ?_⟩) hHeld ?_
            · rintro w' hS; go_simp
            try simp only [Act.put, List.setIfInBounds_toArray, List.set_cons_zero, List.set_cons_succ, List.getElem_toArray, List.getElem_cons_succ, List.getElem_cons_zero]
            refine wpAnyH_take (i := 3) (v := .bool true) rfl (by kernel_rfl) (by kernel_rfl) (by kernel_rfl) (fun _ _ _ h => h) (Or.inl ⟨by rfl, ?_⟩) hHeld ?_
            · rintro w' hS; go_simp
            try simp only [Act.put, List.setIfInBounds_toArray, List.set_cons_zero, List.set_cons_succ, List.getElem_toArray, List.getElem_cons_succ, List.getElem_cons_zero]
            refine wpAnyH_take (i := 4) (v := .bool true) rfl (by kernel_rfl) (by kernel_rfl) (by kernel_rfl) (fun _ _ _ h => h) (Or.inl ⟨by rfl, ?_⟩) hHeld ?_
            · rintro w' hS; go_simp
            try simp only [Act.put, List.setIfInBounds_toArray, List.set_cons_zero, List.set_cons_succ, List.getElem_toArray, List.getElem_cons_succ, List.getElem_cons_zero]
            refine wpAnyH_take (i := 5) (v := undef) rfl (by kernel_rfl) (by kernel_rfl) (by kernel_rfl) (fun _ _ _ h => h) (Or.inr ⟨by rfl, rfl⟩) hHeld ?_
            try simp only [Act.put, List.setIfInBounds_toArray, List.set_cons_zero, List.set_cons_succ, List.getElem_toArray, List.getElem_cons_succ, List.getElem_cons_zero]
            refine wpAnyH_take (i := 6) (v := undef) rfl (by kernel_rfl) (by kernel_rfl) (by kernel_rfl) (fun _ _ _ h => h) (Or.inr ⟨by rfl, rfl⟩) hHeld ?_
            try simp only [Act.put, List.setIfInBounds_toArray, List.set_cons_zero, List.set_cons_succ, List.getElem_toArray, List.getElem_cons_succ, List.getElem_cons_zero]
            refine wpAnyH_take (i := 7) (v := undef) rfl (by kernel_rfl) (by kernel_rfl) (by kernel_rfl) (fun _ _ _ h => h) (Or.inr ⟨by rfl, rfl⟩) hHeld ?_
            try simp only [Act.put, List.setIfInBounds_toArray, List.set_cons_zero, List.set_cons_succ, List.getElem_toArray, List.getElem_cons_succ, List.getElem_cons_zero]
            refine wpAnyH_take (i := 8) (v := undef) rfl (by kernel_rfl) (by kernel_rfl) (by kernel_rfl) (fun _ _ _ h => h) (Or.inr ⟨by rfl, rfl⟩) hHeld ?_
            try simp only [Act.put, List.setIfInBounds_toArray, List.set_cons_zero, List.set_cons_succ, List.getElem_toArray, List.getElem_cons_succ, List.getElem_cons_zero]
            refine wpAnyH_take (i := 9) (v := undef) rfl (by kernel_rfl) (by kernel_rfl) (by kernel_rfl) (fun _ _ _ h => h) (Or.inr ⟨by rfl, rfl⟩) hHeld ?_
            try simp only [Act.put, List.setIfInBounds_toArray, List.set_cons_zero, List.set_cons_succ, List.getElem_toArray, List.getElem_cons_succ, List.getElem_cons_zero]
            refine wpAnyH_take (i := 10) (v := undef) rfl (by kernel_rfl) (by kernel_rfl) (by kernel_rfl) (fun _ _ _ h => h) (Or.inr ⟨by rfl, rfl⟩) hHeld ?_
            try simp only [Act.put, List.setIfInBounds_toArray, List.set_cons_zero, List.set_cons_succ, List.getElem_toArray, List.getElem_cons_succ, List.getElem_cons_zero]
            refine wpAnyH_take (i := 11) (v := undef) rfl (by kernel_rfl) (by kernel_rfl) (by kernel_rfl) (fun _ _ _ h => h) (Or.inr ⟨by rfl, rfl⟩) hHeld ?_
            try simp only [Act.put, List.setIfInBounds_toArray, List.set_cons_zero, List.set_cons_succ, List.getElem_toArray, List.getElem_cons_succ, List.getElem_cons_zero]
            refine wpAnyH_take (i := 12) (v := undef) rfl (by kernel_rfl) (by kernel_rfl) (by kernel_rfl) (fun _ _ _ h => h) (Or.inr ⟨by rfl, rfl⟩) hHeld ?_
            try simp only [Act.put, List.setIfInBounds_toArray, List.set_cons_zero, List.set_cons_succ, List.getElem_toArray, List.getElem_cons_succ, List.getElem_cons_zero]
            refine wpAnyH_take (i := 13) (v := .bool true) rfl (by kernel_rfl) (by kernel_rfl) (by kernel_rfl) (fun _ _ _ h => h) (Or.inl ⟨by rfl, ?_⟩) hHeld ?_
            · rintro w' hS; go_simp
            try simp only [Act.put, List.setIfInBounds_toArray, List.set_cons_zero, List.set_cons_succ, List.getElem_toArray, List.getElem_cons_succ, List.getElem_cons_zero]
            refine wpAnyH_take (i := 14) (v := .bool true) rfl (by kernel_rfl) (by kernel_rfl) (by kernel_rfl) (fun _ _ _ h => h) (Or.inl ⟨by rfl, ?_⟩) hHeld ?_
            · rintro w' hS; go_simp
            try simp only [Act.put, List.setIfInBounds_toArray, List.set_cons_zero, List.set_cons_succ, List.getElem_toArray, List.getElem_cons_succ, List.getElem_cons_zero]
            refine wpAnyH_take (i := 15) (v := .pointer (some ⟨w2.heap.size, 0, none⟩)) rfl (by kernel_rfl) (by kernel_rfl) (by kernel_rfl) (fun _ _ _ h => h) (Or.inl ⟨by rfl, ?_⟩) hHeld ?_
            · rintro w' hS; go_simp
            try simp only [Act.put, List.setIfInBounds_toArray, List.set_cons_zero, List.set_cons_succ, List.getElem_toArray, List.getElem_cons_succ, List.getElem_cons_zero]
            refine wpAnyH_take (i := 16) (v := .int .i64 U) rfl (by kernel_rfl) (by kernel_rfl) (by kernel_rfl) (fun _ _ _ h => h) (Or.inl ⟨by rfl, ?_⟩) hHeld ?_
            · rintro w' hS; have k0 := (HL.out w' hS).1.1.1; have k1 := (HL.out w' hS).1.2.1; go_simp
            try simp only [Act.put, List.setIfInBounds_toArray, List.set_cons_zero, List.set_cons_succ, List.getElem_toArray, List.getElem_cons_succ, List.getElem_cons_zero]
            refine wpAnyH_take (i := 17) (v := .bool true) rfl (by kernel_rfl) (by kernel_rfl) (by kernel_rfl) (fun _ _ _ h => h) (Or.inl ⟨by rfl, ?_⟩) hHeld ?_
            · rintro w' hS; go_simp
            try simp only [Act.put, List.setIfInBounds_toArray, List.set_cons_zero, List.set_cons_succ, List.getElem_toArray, List.getElem_cons_succ, List.getElem_cons_zero]
            refine wpAnyH_take (i := 18) (v := .bool true) rfl (by kernel_rfl) (by kernel_rfl) (by kernel_rfl) (fun _ _ _ h => h) (Or.inl ⟨by rfl, ?_⟩) hHeld ?_
            · rintro w' hS; go_simp
            try simp only [Act.put, List.setIfInBounds_toArray, List.set_cons_zero, List.set_cons_succ, List.getElem_toArray, List.getElem_cons_succ, List.getElem_cons_zero]
            refine wpAnyH_take (i := 19) (v := .bool true) rfl (by kernel_rfl) (by kernel_rfl) (by kernel_rfl) (fun _ _ _ h => h) (Or.inl ⟨by rfl, ?_⟩) hHeld ?_
            · rintro w' hS; go_simp
            try simp only [Act.put, List.setIfInBounds_toArray, List.set_cons_zero, List.set_cons_succ, List.getElem_toArray, List.getElem_cons_succ, List.getElem_cons_zero]
            refine wpAnyH_done (by kernel_rfl) ?_ _
            clear hHeld
            go_wp2_with fail
            go_ret
            exact ⟨rfl, hB9.trans (HY0.out.mono hB9.size)⟩
          · have halI : ¬ (age : Int) < (k : Int) := by omega
            obtain ⟨e1, e2⟩ := HLT.out (by omega)
            rw [← e1, ← e2] at HFL
            clear e1 e2
            have hu0 : (0 : Int) ≤ (U : Int) := by omega
            have hwF : IntKind.i64.wrap (F : Int) = (F : Int) := IntWalk.i64_in _ (by omega)
            have cx0 := frx_5.1.1
            have cx1 := frx_5.2.1
            have cu0 := fru_5.1.1
            have cu1 := fru_5.2.1
            go_wp2_with fail
            clear cx0 cx1
            clear cu0 cu1
            have HL := Lib.hid (fun w' (hS : Below w5.heap.size w5 w') => And.intro (frx_5.lift hS) <| And.intro (fru_5.lift hS) <| True.intro)
            have HY0 : Hid (Below w5.heap.size w5 w5.drew) := Lib.hid (Below.refl _ _).drew
            have hB9 := hB5
            refine wp_region_held_drew (S := (fun w' => Below w5.heap.size w5 w')) (by kernel_rfl) HY0.out (fun hHeld => ?_)
            refine wpAnyH_take (i := 0) (v := .int .i64 age) rfl (by kernel_rfl) (by kernel_rfl) (by kernel_rfl) (fun _ _ _ h => h) (Or.inl ⟨by rfl, ?_⟩) hHeld ?_
            · rintro w' hS; go_simp
            try simp only [Act.put, List.setIfInBounds_toArray, List.set_cons_zero, List.set_cons_succ, List.getElem_toArray, List.getElem_cons_zero]
            refine wpAnyH_take (i := 1) (v := .slice a1 k c1) rfl (by kernel_rfl) (by kernel_rfl) (by kernel_rfl) (fun _ _ _ h => h) (Or.inl ⟨by rfl, ?_⟩) hHeld ?_
            · rintro w' hS; go_simp
            try simp only [Act.put, List.setIfInBounds_toArray, List.set_cons_zero, List.set_cons_succ, List.getElem_toArray, List.getElem_cons_succ, List.getElem_cons_zero]
            refine wpAnyH_take (i := 2) (v := .int .i64 k) rfl (by kernel_rfl) (by kernel_rfl) (by kernel_rfl) (fun _ _ _ h => h) (Or.inl ⟨by rfl, ?_⟩) hHeld ?_
            · rintro w' hS; go_simp
            try simp only [Act.put, List.setIfInBounds_toArray, List.set_cons_zero, List.set_cons_succ, List.getElem_toArray, List.getElem_cons_succ, List.getElem_cons_zero]
            refine wpAnyH_take (i := 3) (v := .bool false) rfl (by kernel_rfl) (by kernel_rfl) (by kernel_rfl) (fun _ _ _ h => h) (Or.inl ⟨by rfl, ?_⟩) hHeld ?_
            · rintro w' hS; go_simp
            try simp only [Act.put, List.setIfInBounds_toArray, List.set_cons_zero, List.set_cons_succ, List.getElem_toArray, List.getElem_cons_succ, List.getElem_cons_zero]
            refine wpAnyH_take (i := 4) (v := .bool false) rfl (by kernel_rfl) (by kernel_rfl) (by kernel_rfl) (fun _ _ _ h => h) (Or.inl ⟨by rfl, ?_⟩) hHeld ?_
            · rintro w' hS; go_simp
            try simp only [Act.put, List.setIfInBounds_toArray, List.set_cons_zero, List.set_cons_succ, List.getElem_toArray, List.getElem_cons_succ, List.getElem_cons_zero]
            refine wpAnyH_take (i := 5) (v := .agg #[.int .i64 U, .int .i64 D]) rfl (by kernel_rfl) (by kernel_rfl) (by kernel_rfl) (fun _ _ _ h => h) (Or.inl ⟨by rfl, ?_⟩) hHeld ?_
            · rintro w' hS; have k0 := (HL.out w' hS).1.1.1; have k1 := (HL.out w' hS).1.2.1; go_simp
            try simp only [Act.put, List.setIfInBounds_toArray, List.set_cons_zero, List.set_cons_succ, List.getElem_toArray, List.getElem_cons_succ, List.getElem_cons_zero]
            refine wpAnyH_take (i := 6) (v := .int .i64 u) rfl (by kernel_rfl) (by kernel_rfl) (by kernel_rfl) (fun _ _ _ h => h) (Or.inl ⟨by rfl, ?_⟩) hHeld ?_
            · rintro w' hS; go_simp
            try simp only [Act.put, List.setIfInBounds_toArray, List.set_cons_zero, List.set_cons_succ, List.getElem_toArray, List.getElem_cons_succ, List.getElem_cons_zero]
            refine wpAnyH_take (i := 7) (v := .slice a1 k c1) rfl (by kernel_rfl) (by kernel_rfl) (by kernel_rfl) (fun _ _ _ h => h) (Or.inl ⟨by rfl, ?_⟩) hHeld ?_
            · rintro w' hS; go_simp
            try simp only [Act.put, List.setIfInBounds_toArray, List.set_cons_zero, List.set_cons_succ, List.getElem_toArray, List.getElem_cons_succ, List.getElem_cons_zero]
            refine wpAnyH_take (i := 10) (v := .int .i64 L) rfl (by kernel_rfl) (by kernel_rfl) (by kernel_rfl) (fun _ _ _ h => h) (Or.inl ⟨by rfl, ?_⟩) hHeld ?_
            · rintro w' hS; go_simp
            try simp only [Act.put, List.setIfInBounds_toArray, List.set_cons_zero, List.set_cons_succ, List.getElem_toArray, List.getElem_cons_succ, List.getElem_cons_zero]
            refine wpAnyH_ready (rs := [8]) (by kernel_rfl) (by simp) ?_
            refine AllReadyH.cons (o := _) rfl (fun K hK => ?_) AllReadyH.nil
            go_simp
            go_at_call 14
            refine (HTOT.out _ HY0.out).mono ?_
            rintro e wy1 ⟨rfl, rfl⟩
            refine hK.out _ _ HY0.out (fun hHeld => ?_)
            clear hK K
            try simp only [Act.put, List.setIfInBounds_toArray, List.set_cons_zero, List.set_cons_succ, List.getElem_toArray, List.getElem_cons_succ, List.getElem_cons_zero]
            refine wpAnyH_take (i := 9) (v := .int .i64 F) rfl (by kernel_rfl) (by kernel_rfl) (by kernel_rfl) (fun _ _ _ h => h) (Or.inl ⟨by rfl, ?_⟩) hHeld ?_
            · rintro w' hS; go_simp
            try simp only [Act.put, List.setIfInBounds_toArray, List.set_cons_zero, List.set_cons_succ, List.getElem_toArray, List.getElem_cons_succ, List.getElem_cons_zero]
            refine wpAnyH_ready (rs := [11]) (by kernel_rfl) (by simp) ?_
            refine AllReadyH.cons (o := _) rfl (fun K hK => ?_) AllReadyH.nil
            go_simp
            go_at_call 13
            refine (HFL.out _).mono ?_
            rintro e wy2 ⟨rfl, hy⟩
            have HY2 := Lib.hid (HY0.out.trans (hy.mono HY0.out.size))
            clear hy
            refine hK.out _ _ HY2.out (fun hHeld => ?_)
            clear hK K
            try simp only [Act.put, List.setIfInBounds_toArray, List.set_cons_zero, List.set_cons_succ, List.getElem_toArray, List.getElem_cons_succ, List.getElem_cons_zero]
            refine wpAnyH_take (i := 12) (v := .bool true) rfl (by kernel_rfl) (by kernel_rfl) (by kernel_rfl) (fun _ _ _ h => h) (Or.inl ⟨by rfl, ?_⟩) hHeld ?_
            · rintro w' hS; have h := run_eq_frac U D w'; go_simp
            try simp only [Act.put, List.setIfInBounds_toArray, List.set_cons_zero, List.set_cons_succ, List.getElem_toArray, List.getElem_cons_succ, List.getElem_cons_zero]
            refine wpAnyH_take (i := 13) (v := .bool true) rfl (by kernel_rfl) (by kernel_rfl) (by kernel_rfl) (fun _ _ _ h => h) (Or.inl ⟨by rfl, ?_⟩) hHeld ?_
            · rintro w' hS; go_simp
            try simp only [Act.put, List.setIfInBounds_toArray, List.set_cons_zero, List.set_cons_succ, List.getElem_toArray, List.getElem_cons_succ, List.getElem_cons_zero]
            refine wpAnyH_take (i := 14) (v := .bool true) rfl (by kernel_rfl) (by kernel_rfl) (by kernel_rfl) (fun _ _ _ h => h) (Or.inl ⟨by rfl, ?_⟩) hHeld ?_
            · rintro w' hS; go_simp
            try simp only [Act.put, List.setIfInBounds_toArray, List.set_cons_zero, List.set_cons_succ, List.getElem_toArray, List.getElem_cons_succ, List.getElem_cons_zero]
            refine wpAnyH_take (i := 15) (v := .pointer (some ⟨w2.heap.size, 0, none⟩)) rfl (by kernel_rfl) (by kernel_rfl) (by kernel_rfl) (fun _ _ _ h => h) (Or.inl ⟨by rfl, ?_⟩) hHeld ?_
            · rintro w' hS; go_simp
            try simp only [Act.put, List.setIfInBounds_toArray, List.set_cons_zero, List.set_cons_succ, List.getElem_toArray, List.getElem_cons_succ, List.getElem_cons_zero]
            refine wpAnyH_take (i := 16) (v := .int .i64 U) rfl (by kernel_rfl) (by kernel_rfl) (by kernel_rfl) (fun _ _ _ h => h) (Or.inl ⟨by rfl, ?_⟩) hHeld ?_
            · rintro w' hS; have k0 := (HL.out w' hS).1.1.1; have k1 := (HL.out w' hS).1.2.1; go_simp
            try simp only [Act.put, List.setIfInBounds_toArray, List.set_cons_zero, List.set_cons_succ, List.getElem_toArray, List.getElem_cons_succ, List.getElem_cons_zero]
            refine wpAnyH_take (i := 17) (v := .bool true) rfl (by kernel_rfl) (by kernel_rfl) (by kernel_rfl) (fun _ _ _ h => h) (Or.inl ⟨by rfl, ?_⟩) hHeld ?_
            · rintro w' hS; go_simp
            try simp only [Act.put, List.setIfInBounds_toArray, List.set_cons_zero, List.set_cons_succ, List.getElem_toArray, List.getElem_cons_succ, List.getElem_cons_zero]
            refine wpAnyH_take (i := 18) (v := .bool true) rfl (by kernel_rfl) (by kernel_rfl) (by kernel_rfl) (fun _ _ _ h => h) (Or.inl ⟨by rfl, ?_⟩) hHeld ?_
            · rintro w' hS; go_simp
            try simp only [Act.put, List.setIfInBounds_toArray, List.set_cons_zero, List.set_cons_succ, List.getElem_toArray, List.getElem_cons_succ, List.getElem_cons_zero]
            refine wpAnyH_take (i := 19) (v := .bool true) rfl (by kernel_rfl) (by kernel_rfl) (by kernel_rfl) (fun _ _ _ h => h) (Or.inl ⟨by rfl, ?_⟩) hHeld ?_
            · rintro w' hS; go_simp
            try simp only [Act.put, List.setIfInBounds_toArray, List.set_cons_zero, List.set_cons_succ, List.getElem_toArray, List.getElem_cons_succ, List.getElem_cons_zero]
            refine wpAnyH_done (by kernel_rfl) ?_ _
            clear hHeld
            go_wp2_with fail
            go_ret
            exact ⟨rfl, hB9.trans (HY2.out.mono hB9.size)⟩
  · go_enter Try.func4, Try.ntmps4
    go_wp2
    go_ret
    exact ⟨rfl, Below.refl _ _⟩
end Go.Proofs.Ytkjmpkincaainac
