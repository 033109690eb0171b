import Derived.Test.YtkebdelfklmigabRows
import Derived.WalkKit
import Derived.LoopTactic
import Derived.Outline
import Derived.WalkSpells
import Derived.WalkLawsBesides
import Derived.ProofKit
import Derived.Lib.Hide
import Derived.IntWalk
import Derived.Deep.QuietTactic
import Derived.BigQuiet
import Derived.Test.YtkebdelfklmigabM0
import Derived.Test.YtkebdelfklmigabM5
import Derived.Test.YtkebdelfklmigabM2
import Derived.Test.YtkebdelfklmigabM6
import Derived.Test.YtkebdelfklmigabM3
import Derived.Test.YtkebdelfklmigabM1
namespace Go.Proofs.Ytkebdelfklmigab
open Go.RowKit Go.WideShapes

/-- the chance that a lot passes -/
def passU (lot bad size most : Int) : Nat := if planB lot bad size most then fU (psum lot.toNat bad.toNat size.toNat (most.toNat + 1)) (ch lot.toNat size.toNat) else 0
def passD (lot bad size most : Int) : Nat := if planB lot bad size most then fD (psum lot.toNat bad.toNat size.toNat (most.toNat + 1)) (ch lot.toNat size.toNat) else 0
/-- what is left -/
def badU (lot bad size most : Int) : Nat := if planB lot bad size most then fU (bsum lot.toNat bad.toNat size.toNat (most.toNat + 1)) (ch lot.toNat size.toNat) else 0
def badD (lot bad size most : Int) : Nat := if planB lot bad size most then fD (bsum lot.toNat bad.toNat size.toNat (most.toNat + 1)) (ch lot.toNat size.toNat) else 0
theorem pass_no {lot bad size most : Int} (h : planB lot bad size most = false) : passU lot bad size most = 0 ∧ passD lot bad size most = 0 ∧ badU lot bad size most = 0 ∧ badD lot bad size most = 0 := by
  simp [passU, passD, badU, badD, h]
theorem pass_yes {l b s m : Nat} (h : planB l b s m = true) : passU l b s m = fU (psum l b s (m + 1)) (ch l s) ∧ passD l b s m = fD (psum l b s (m + 1)) (ch l s) ∧ badU l b s m = fU (bsum l b s (m + 1)) (ch l s) ∧ badD l b s m = fD (bsum l b s (m + 1)) (ch l s) := by
  simp [passU, passD, badU, badD, h]
theorem plan_nat {l b s m : Nat} (h : planB l b s m = true) : 1 ≤ l ∧ l ≤ 12 ∧ b ≤ l ∧ s ≤ l ∧ m ≤ 12 := by
  simp only [planB, inB, Bool.and_eq_true, decide_eq_true_eq] at h
  omega
/-- by draws the same -/
theorem draws_eq {l b s m : Nat} (h : planB l b s m = true) : fU (drw l b s (m + 1)) (fall l s) = passU l b s m ∧ fD (drw l b s (m + 1)) (fall l s) = passD l b s m ∧ drw l b s (m + 1) ≤ 479001600 ∧ 1 ≤ fall l s ∧ fall l s ≤ 479001600 := by
  obtain ⟨h1, h2, h3, h4, h5⟩ := plan_nat h
  obtain ⟨f1, f2, f3⟩ := fall_ch l (by omega) s (by omega)
  obtain ⟨p1, p2, _⟩ := pass_yes h
  have hf := (fa_bd s (by omega)).1
  have hp := psum_le (m := m + 1) h2 h3 h4 (by omega)
  have hb := fall_bd l (by omega) s (by omega)
  have hd : drw l b s (m + 1) ≤ fall l s := by unfold drw; rw [f2]; exact Nat.mul_le_mul_right _ hp
  obtain ⟨e1, e2⟩ := f_scale (g := fa s) (T := psum l b s (m + 1)) (C := ch l s) hf
  rw [p1, p2]
  refine ⟨?_, ?_, by omega, f3, hb⟩
  · unfold drw; rw [f2, Nat.mul_comm, Nat.mul_comm (ch l s)]; exact e1
  · unfold drw; rw [f2, Nat.mul_comm, Nat.mul_comm (ch l s)]; exact e2
def FracBP (w : World) (U D : Nat) (b : Bool) (e : Ending) (w' : World) : Prop := e = .returned (.tuple #[.agg #[.int .i64 U, .int .i64 D], .bool b]) ∧ Below w.heap.size w w'
theorem ch_1 {l s : Nat} (hl : l ≤ 12) (hs : s ≤ l) : 1 ≤ ch l s ∧ ch l s ≤ 924 := ⟨ch_pos l (by omega) s (by omega), ch_bd l (by omega) s (by omega)⟩
set_option maxRecDepth 100000 in
set_option maxHeartbeats 2000000 in
theorem passChance_spec (lot bad size most : Int) (w : World) :
    Calls Try.prog 9 #[.int .i64 lot, .int .i64 bad, .int .i64 size, .int .i64 most] w (FracBP w (passU lot bad size most) (passD lot bad size most) (planB lot bad size most)) := by
  have HV := Lib.hid (fun w' => validPlan_any lot bad size most w')
  have ht1 := two_new w (.int .i64 0) (.int .i64 0) 26
  have hb1 := (Below.refl w.heap.size w).alloc (Nat.le_refl _) (.cells #[.int .i64 0, .int .i64 0] 26)
  obtain ⟨w1, hw1⟩ : ∃ w1, (w.alloc (.cells #[.int .i64 0, .int .i64 0] 26)) = w1 := ⟨_, rfl⟩
  rw [hw1] at ht1 hb1
  have HW1 := Lib.hid hw1
  have HT1 := Lib.hid ht1
  have HB1 := Lib.hid hb1
  clear hw1 ht1 hb1
  cases hv : planB lot bad size most
  · obtain ⟨p1, p2, p3, p4⟩ := pass_no hv
    rw [p1, p2]
    clear p1 p2 p3 p4
    rw [hv] at HV
    clear hv
    go_enter Try.func9, Try.ntmps9
    go_wp2_with fail
    rw [HW1.out]
    refine (HV.out w1).mono ?_
    rintro e w' ⟨rfl, rfl⟩
    obtain ⟨⟨r0, z0⟩, r1, z1⟩ := HT1.out
    have HVV := Lib.hid (And.intro ((HT1.out.set0 (.int .i64 0)).set1 (.int .i64 0)).1.1 ((HT1.out.set0 (.int .i64 0)).set1 (.int .i64 0)).2.1)
    go_wp2_with fail
    obtain ⟨v0, v1⟩ := HVV.out
    exact bodyPost_ret (v := .tuple #[.agg #[.int .i64 0, .int .i64 0], .bool false]) (by simp [results, Try.results9, go_sem, v0, v1]) rfl ⟨rfl, (HB1.out.setCell (p := ⟨w.heap.size, 0, none⟩) (Nat.le_refl _) _).setCell (p := ⟨w.heap.size, 1, none⟩) (Nat.le_refl _) _⟩
  · obtain ⟨l, b, s, m, rfl, rfl, rfl, rfl, h1, h12, hbl, hsl, hm⟩ := plan_get hv
    obtain ⟨p1, p2, p3, p4⟩ := pass_yes hv
    rw [p1, p2]
    obtain ⟨c1, c2⟩ := ch_1 h12 hsl
    have HP := Lib.hid (passes_any l b s m h12 hbl hsl hm)
    have HC := Lib.hid (choose_any l (s : Int) h12)
    rw [chI_nat h12 (by omega)] at HC
    have hpl := psum_le (m := m + 1) h12 hbl hsl (by omega)
    obtain ⟨x, hx⟩ : ∃ x, psum l b s (m + 1) = x := ⟨_, rfl⟩
    obtain ⟨y, hy⟩ : ∃ y, ch l s = y := ⟨_, rfl⟩
    rw [hx] at HP hpl ⊢
    rw [hy] at HC hpl c1 c2 ⊢
    have HF := Lib.hid (frac_any x y (by omega) (by omega) (by omega))
    clear hx hy
    obtain ⟨U, hU⟩ : ∃ U, fU x y = U := ⟨_, rfl⟩
    obtain ⟨D, hD⟩ : ∃ D, fD x y = D := ⟨_, rfl⟩
    rw [hU, hD] at HF ⊢
    clear hU hD
    rw [hv] at HV
    clear hv p1 p2 p3 p4
    go_enter Try.func9, Try.ntmps9
    go_wp2_with fail
    rw [HW1.out]
    refine (HV.out w1).mono ?_
    rintro e w' ⟨rfl, rfl⟩
    go_wp2_with fail
    refine (HP.out w').mono ?_
    rintro e w' ⟨rfl, rfl⟩
    go_wp2_with fail
    refine (HC.out w').mono ?_
    rintro e w' ⟨rfl, rfl⟩
    go_wp2_with fail
    refine (HF.out w').mono ?_
    rintro e w2 ⟨rfl, hb2⟩
    have HT2 := Lib.hid (HT1.out.block (hb2.block _ HT1.out.lt))
    have HB2 := Lib.hid (HB1.out.trans (hb2.mono HB1.out.size))
    clear hb2
    obtain ⟨⟨r0, z0⟩, r1, z1⟩ := HT2.out
    have HVV := Lib.hid (And.intro ((HT2.out.set0 (.int .i64 U)).set1 (.int .i64 D)).1.1 ((HT2.out.set0 (.int .i64 U)).set1 (.int .i64 D)).2.1)
    go_wp2_with fail
    obtain ⟨v0, v1⟩ := HVV.out
    exact bodyPost_ret (v := .tuple #[.agg #[.int .i64 U, .int .i64 D], .bool true]) (by simp [results, Try.results9, go_sem, v0, v1]) rfl ⟨rfl, (HB2.out.setCell (p := ⟨w.heap.size, 0, none⟩) (Nat.le_refl _) _).setCell (p := ⟨w.heap.size, 1, none⟩) (Nat.le_refl _) _⟩
set_option maxRecDepth 100000 in
set_option maxHeartbeats 2000000 in
theorem badOut_spec (lot bad size most : Int) (w : World) :
    Calls Try.prog 16 #[.int .i64 lot, .int .i64 bad, .int .i64 size, .int .i64 most] w (FracBP w (badU lot bad size most) (badD lot bad size most) (planB lot bad size most)) := by
  have HV := Lib.hid (fun w' => validPlan_any lot bad size most w')
  have ht1 := two_new w (.int .i64 0) (.int .i64 0) 26
  have hb1 := (Below.refl w.heap.size w).alloc (Nat.le_refl _) (.cells #[.int .i64 0, .int .i64 0] 26)
  obtain ⟨w1, hw1⟩ : ∃ w1, (w.alloc (.cells #[.int .i64 0, .int .i64 0] 26)) = w1 := ⟨_, rfl⟩
  rw [hw1] at ht1 hb1
  have HW1 := Lib.hid hw1
  have HT1 := Lib.hid ht1
  have HB1 := Lib.hid hb1
  clear hw1 ht1 hb1
  cases hv : planB lot bad size most
  · obtain ⟨p1, p2, p3, p4⟩ := pass_no hv
    rw [p3, p4]
    clear p1 p2 p3 p4
    rw [hv] at HV
    clear hv
    go_enter Try.func16, Try.ntmps16
    go_wp2_with fail
    rw [HW1.out]
    refine (HV.out w1).mono ?_
    rintro e w' ⟨rfl, rfl⟩
    obtain ⟨⟨r0, z0⟩, r1, z1⟩ := HT1.out
    have HVV := Lib.hid (And.intro ((HT1.out.set0 (.int .i64 0)).set1 (.int .i64 0)).1.1 ((HT1.out.set0 (.int .i64 0)).set1 (.int .i64 0)).2.1)
    go_wp2_with fail
    obtain ⟨v0, v1⟩ := HVV.out
    exact bodyPost_ret (v := .tuple #[.agg #[.int .i64 0, .int .i64 0], .bool false]) (by simp [results, Try.results16, go_sem, v0, v1]) rfl ⟨rfl, (HB1.out.setCell (p := ⟨w.heap.size, 0, none⟩) (Nat.le_refl _) _).setCell (p := ⟨w.heap.size, 1, none⟩) (Nat.le_refl _) _⟩
  · obtain ⟨l, b, s, m, rfl, rfl, rfl, rfl, h1, h12, hbl, hsl, hm⟩ := plan_get hv
    obtain ⟨p1, p2, p3, p4⟩ := pass_yes hv
    rw [p3, p4]
    obtain ⟨c1, c2⟩ := ch_1 h12 hsl
    have HC := Lib.hid (fun n k hn => choose_any n k hn)
    have HT := Lib.hid (fun k (hk : k ≤ 12) => trm_chI (k := k) h12 hbl hsl hk)
    have HCI := Lib.hid (fun n k (hn : n ≤ 12) => @chI_bd n k hn)
    have HOV := Lib.hid (fun k (hk : k ≤ 12) (h : b < k) => show chI b (k : Int) = 0 by rw [chI_nat (by omega) hk]; exact ch_over b (by omega) k (by omega) h)
    have HLB : Hid ((l : Int) - (b : Int) = ((l - b : Nat) : Int)) := Lib.hid (by omega)
    have HBB := Lib.hid (show ∀ j, j ≤ m + 1 → bsum l b s j ≤ 11088 from fun j hj => Nat.le_trans (bsum_le j) (Nat.le_trans (Nat.mul_le_mul (show b ≤ 12 by omega) (Nat.le_trans (psum_le h12 hbl hsl (by omega)) c2)) (by omega)))
    have HCS := Lib.hid (chI_nat (n := l) (k := s) h12 (by omega))
    obtain ⟨y, hy⟩ : ∃ y, ch l s = y := ⟨_, rfl⟩
    rw [hy] at HCS c1 c2 ⊢
    have HF := Lib.hid (frac_any (bsum l b s (m + 1)) y (by have := HBB.out (m + 1) (by omega); omega) (by omega) (by omega))
    clear hy
    obtain ⟨U, hU⟩ : ∃ U, fU (bsum l b s (m + 1)) y = U := ⟨_, rfl⟩
    obtain ⟨D, hD⟩ : ∃ D, fD (bsum l b s (m + 1)) y = D := ⟨_, rfl⟩
    rw [hU, hD] at HF ⊢
    clear hU hD
    rw [hv] at HV
    clear hv p1 p2 p3 p4
    go_enter Try.func16, Try.ntmps16
    go_wp2_with fail
    rw [HW1.out]
    refine (HV.out w1).mono ?_
    rintro e w' ⟨rfl, rfl⟩
    go_wp2_with fail
    go_loop [10, 11] (fun x y => ∃ j c : Nat, x = .int .i64 c ∧ y = .int .i64 (j : Int) ∧ j ≤ m + 1 ∧ c = bsum l b s j) (fun _ y => m + 1 - (intOf y).toNat)
    case atStart => exact ⟨0, 0, rfl, rfl, by omega, rfl⟩
    case round =>
      obtain ⟨j, c, rfl, rfl, hj, hc⟩ := hrel
      have HCC := Lib.hid hc
      have hc9 : c ≤ 11088 := by rw [hc]; exact HBB.out j (by omega)
      clear hc
      by_cases hjm : j ≤ m
      · have hle : (j : Int) ≤ (m : Int) := by omega
        have HTJ := Lib.hid (HT.out j (by omega))
        go_wp2_with fail
        refine (HC.out b (j : Int) (by omega) w').mono ?_
        rintro e w' ⟨rfl, rfl⟩
        have ha := HCI.out b (j : Int) (by omega)
        go_wp2_with fail
        rw [HLB.out]
        refine (HC.out (l - b) ((s : Int) - (j : Int)) (by omega) w').mono ?_
        rintro e w' ⟨rfl, rfl⟩
        have hb2 := HCI.out (l - b) ((s : Int) - (j : Int)) (by omega)
        have hov := HOV.out j (by omega)
        obtain ⟨x, hx⟩ : ∃ x, chI b (j : Int) = x := ⟨_, rfl⟩
        obtain ⟨z, hz⟩ : ∃ z, chI (l - b) ((s : Int) - (j : Int)) = z := ⟨_, rfl⟩
        rw [hx] at ha hov
        rw [hz] at hb2
        rw [hx, hz] at HTJ
        rw [hx, hz]
        clear hx hz
        have hxz : 0 ≤ (x : Int) * (z : Int) ∧ (x : Int) * (z : Int) ≤ 924 * 924 := ⟨Int.mul_nonneg (by omega) (by omega), Int.mul_le_mul (by omega) (by omega) (by omega) (by omega)⟩
        have HXY : Hid ((x : Int) * (z : Int) * ((b : Int) - (j : Int)) = ((x * z * (b - j) : Nat) : Int)) := Lib.hid (by
          by_cases hbj : j ≤ b
          · rw [show ((b : Int) - (j : Int)) = ((b - j : Nat) : Int) by omega]; push_cast; rfl
          · rw [hov (by omega)]; simp)
        have hbd : x * z * (b - j) ≤ 924 * 924 * 12 := Nat.mul_le_mul (Nat.mul_le_mul ha hb2) (by omega)
        obtain ⟨p, hp⟩ : ∃ p, x * z * (b - j) = p := ⟨_, rfl⟩
        have hxb : 0 ≤ (x : Int) * (z : Int) * ((b : Int) - (j : Int)) ∧ (x : Int) * (z : Int) * ((b : Int) - (j : Int)) ≤ 924 * 924 * 12 := by rw [HXY.out]; omega
        have HP2 := Lib.hid hp
        clear hp hov
        go_wp2
        go_round
        case rel => exact ⟨j + 1, c + x * z * (b - j), by rw [HXY.out]; go_num, by go_num, by omega, by rw [bsum, ← HCC.out, HTJ.out]⟩
        case measure => simp [intOf]; omega
      · have hjq : j = m + 1 := by omega
        subst hjq
        have hle : ¬ ((m : Int) + 1) ≤ (m : Int) := by omega
        go_wp2_with fail
        refine (HC.out l (s : Int) (by omega) w').mono ?_
        rintro e w' ⟨rfl, rfl⟩
        rw [HCS.out]
        go_wp2_with fail
        rw [HCC.out]
        refine (HF.out w').mono ?_
        rintro e w2 ⟨rfl, hb2⟩
        have HT2 := Lib.hid (HT1.out.block (hb2.block _ HT1.out.lt))
        have HB2 := Lib.hid (HB1.out.trans (hb2.mono HB1.out.size))
        clear hb2
        obtain ⟨⟨r0, z0⟩, r1, z1⟩ := HT2.out
        have HVV := Lib.hid (And.intro ((HT2.out.set0 (.int .i64 U)).set1 (.int .i64 D)).1.1 ((HT2.out.set0 (.int .i64 U)).set1 (.int .i64 D)).2.1)
        go_wp2_with fail
        obtain ⟨v0, v1⟩ := HVV.out
        exact bodyPost_ret (v := .tuple #[.agg #[.int .i64 U, .int .i64 D], .bool true]) (by simp [results, Try.results16, go_sem, v0, v1]) rfl ⟨rfl, (HB2.out.setCell (p := ⟨w.heap.size, 0, none⟩) (Nat.le_refl _) _).setCell (p := ⟨w.heap.size, 1, none⟩) (Nat.le_refl _) _⟩
/-- the first size from s on for which the chance is small enough -/
def lsF (P : Nat → Bool) : Nat → Nat → Int
  | 0, _ => -1
  | f + 1, s => if P s then (s : Int) else lsF P f (s + 1)
def shareB (l b m u d s : Nat) : Bool := decide (psum l b s (m + 1) * d ≤ u * ch l s)
def leastS (lot bad most up down : Int) : Int :=
  if planB lot bad 0 most && (inB 0 40 up && inB 1 40 down) then lsF (shareB lot.toNat bad.toNat most.toNat up.toNat down.toNat) (lot.toNat + 1) 0 else -1
theorem lsF_least {P : Nat → Bool} : ∀ {f s : Nat} {r : Int}, lsF P f s = r → r = -1 ∨ ∃ q : Nat, r = (q : Int) ∧ s ≤ q ∧ q < s + f ∧ P q = true ∧ ∀ k, s ≤ k → k < q → P k = false := by
  intro f
  induction f with
  | zero => intro s r h; exact .inl h.symm
  | succ f ih =>
    intro s r h
    simp only [lsF] at h
    by_cases hp : P s = true
    · rw [if_pos hp] at h
      exact .inr ⟨s, h.symm, Nat.le_refl _, by omega, hp, fun k h1 h2 => by omega⟩
    · rw [if_neg hp] at h
      rcases ih h with e | ⟨q, h1, h2, h3, h4, h5⟩
      · exact .inl e
      · refine .inr ⟨q, h1, by omega, by omega, h4, fun k a1 a2 => ?_⟩
        by_cases hk : k = s
        · subst hk; simpa using hp
        · exact h5 k (by omega) a2
theorem leastS_no {lot bad most up down : Int} (h : planB lot bad 0 most = false ∨ inB 0 40 up = false ∨ inB 1 40 down = false) : leastS lot bad most up down = -1 := by
  unfold leastS
  rcases h with h | h | h <;> simp [h]
end Go.Proofs.Ytkebdelfklmigab
namespace Go.Proofs.Ytkebdelfklmigab
open Go.RowKit

theorem small8 {len : Nat} {xs : List Int} (hl : xs.length = len) (h : ¬ len ≤ 8) (b : Bool) : (decide (xs.length ≤ 8) && b) = false := by
  rw [decide_eq_false (by omega)]; rfl
theorem small8' {len : Nat} {xs : List Int} (hl : xs.length = len) (h : len ≤ 8) (b : Bool) : (decide (xs.length ≤ 8) && b) = b := by
  rw [decide_eq_true (by omega)]; rfl
def wantsM (n : Int) (xs : List Int) : Bool := allIn 0 20 xs && decide ((xs.length : Int) = n)
theorem wantsM_false {n : Int} {xs : List Int} {k : Nat} {x : Int} (h : xs[k]? = some x) (hx : inB 0 20 x = false) : wantsM n xs = false := by rw [wantsM, allIn_false h hx]; rfl
theorem wantsM_of {n : Int} {len : Nat} {xs : List Int} (hl : xs.length = len) (ha : allIn 0 20 (xs.take len) = true) : wantsM n xs = ((len : Int) == n) := by
  rw [List.take_of_length_le (by omega)] at ha
  rw [wantsM, ha, hl]; simp; rfl
theorem wantsM_len (xs : List Int) : wantsM xs.length xs = allIn 0 20 xs := by simp [wantsM]
end Go.Proofs.Ytkebdelfklmigab
namespace Go.Proofs.Ytkebdelfklmigab
open Go.RowKit Go.WideShapes

theorem Try.infoIntN : (Try.prog.info? 3).map (fun i => (i.zero, i.size, i.bytes)) = some (some (.int .i64 0), 1, 8) := by kernel_rfl

/-- what NetOf answers -/
def netRes (xs : List Int) (s : Int) : List Int := if (validDaysM xs && inB 0 20 s) = true then netM xs s else []
theorem netRes_len (xs : List Int) (s : Int) : (netRes xs s).length ≤ 1048576 := by
  unfold netRes
  split
  · rename_i h; simp only [Bool.and_eq_true] at h; have := validDays_len h.1; rw [netM_length]; omega
  · simp
theorem netRes_no {xs : List Int} {s : Int} (h : (validDaysM xs && inB 0 20 s) = false) : netRes xs s = [] := by unfold netRes; rw [h]; rfl
theorem netRes_yes {xs : List Int} {s : Int} (h : (validDaysM xs && inB 0 20 s) = true) : netRes xs s = netM xs s := by unfold netRes; rw [h]; rfl
theorem inB_of {lo hi x : Int} (h : inB lo hi x = true) : lo ≤ x ∧ x ≤ hi := by simpa [inB] using h

end Go.Proofs.Ytkebdelfklmigab
namespace Go.Proofs.Ytkebdelfklmigab

/-- the days of a lot behind its first one, each times what is wanted on it -/
def hsum (xs : List Int) (i : Nat) : Nat → Int
  | 0 => 0
  | d + 1 => hsum xs i d + (d : Int) * xs.getD (i + d) 0
/-- what it costs to make d days at the day i -/
def runD (xs : List Int) (s h : Int) (i d : Nat) : Int := h * hsum xs i d + (if 0 < sumN xs (i + d) - sumN xs i then s else 0)
theorem sumN_mono {xs : List Int} (hx : ∀ k, 0 ≤ xs.getD k 0) (i d : Nat) : sumN xs i ≤ sumN xs (i + d) := by
  induction d with
  | zero => exact Int.le_refl _
  | succ d ih => have := hx (i + d); rw [← Nat.add_assoc, sumN]; omega
theorem sumN_le {xs : List Int} (hx : ∀ k, 0 ≤ xs.getD k 0) {i k : Nat} (h : i ≤ k) : sumN xs i ≤ sumN xs k := by
  have := sumN_mono hx i (k - i); rwa [show i + (k - i) = k by omega] at this
theorem hsum_nonneg {xs : List Int} (hx : ∀ k, 0 ≤ xs.getD k 0) (i d : Nat) : 0 ≤ hsum xs i d := by
  induction d with
  | zero => exact Int.le_refl _
  | succ d ih => have := Int.mul_nonneg (show (0 : Int) ≤ d by omega) (hx (i + d)); rw [hsum]; omega
theorem hsum_bd {xs : List Int} {B : Int} (hx : ∀ k, 0 ≤ xs.getD k 0 ∧ xs.getD k 0 ≤ B) (i d : Nat) (hd : d ≤ 8) : hsum xs i d ≤ 8 * B * d := by
  induction d with
  | zero => simp [hsum]
  | succ d ih =>
    have h1 := hx (i + d)
    have h2 : (d : Int) * xs.getD (i + d) 0 ≤ 8 * B := Int.mul_le_mul (by omega) h1.2 h1.1 (by omega)
    have := ih (by omega)
    rw [hsum]; push_cast; rw [Int.mul_add, Int.mul_one]; omega
theorem runD_nonneg {xs : List Int} {s h : Int} (hx : ∀ k, 0 ≤ xs.getD k 0) (hs : 0 ≤ s) (hh : 0 ≤ h) (i d : Nat) : 0 ≤ runD xs s h i d := by
  have := Int.mul_nonneg hh (hsum_nonneg hx i d)
  unfold runD; split <;> omega
theorem runD_bd {xs : List Int} {s h : Int} (hx : ∀ k, 0 ≤ xs.getD k 0 ∧ xs.getD k 0 ≤ 20) (hs : 0 ≤ s ∧ s ≤ 31) (hh : 0 ≤ h ∧ h ≤ 31) (i d : Nat) (hd : d ≤ 8) : 0 ≤ runD xs s h i d ∧ runD xs s h i d ≤ 40000 := by
  refine ⟨runD_nonneg (fun k => (hx k).1) hs.1 hh.1 i d, ?_⟩
  have h1 := hsum_bd hx i d hd
  have h0 := hsum_nonneg (fun k => (hx k).1) i d
  have h2 : h * hsum xs i d ≤ 31 * 1280 := Int.mul_le_mul hh.2 (by omega) h0 (by omega)
  unfold runD; split <;> omega
/-- the days from i on can be made in lots for c -/
inductive PC (xs : List Int) (s h : Int) : Nat → Int → Prop where
  | done : PC xs s h xs.length 0
  | lot (i d : Nat) (c : Int) (hd : i + (d + 1) ≤ xs.length) (hc : PC xs s h (i + (d + 1)) c) : PC xs s h i (runD xs s h i (d + 1) + c)
theorem PC.nonneg {xs : List Int} {s h : Int} (hx : ∀ k, 0 ≤ xs.getD k 0) (hs : 0 ≤ s) (hh : 0 ≤ h) {i : Nat} {c : Int} (p : PC xs s h i c) : 0 ≤ c := by
  induction p with
  | done => exact Int.le_refl _
  | lot i d c hd _ ih => have := runD_nonneg hx hs hh i (d + 1); omega
theorem PC.le {xs : List Int} {s h : Int} {i : Nat} {c : Int} (p : PC xs s h i c) : i ≤ xs.length := by
  cases p with
  | done => exact Nat.le_refl _
  | lot _ d c hd _ => omega
/-- the least of f 0 .. f m -/
def minTo (f : Nat → Int) : Nat → Int
  | 0 => f 0
  | m + 1 => min (minTo f m) (f (m + 1))
theorem minTo_le {f : Nat → Int} {m d : Nat} (h : d ≤ m) : minTo f m ≤ f d := by
  induction m with
  | zero => obtain rfl : d = 0 := by omega
            exact Int.le_refl _
  | succ m ih =>
    rw [minTo]
    by_cases e : d = m + 1
    · subst e; omega
    · have := ih (by omega); omega
theorem minTo_at (f : Nat → Int) (m : Nat) : ∃ d, d ≤ m ∧ minTo f m = f d := by
  induction m with
  | zero => exact ⟨0, Nat.le_refl _, rfl⟩
  | succ m ih =>
    obtain ⟨d, hd, e⟩ := ih
    rw [minTo]
    by_cases h : minTo f m ≤ f (m + 1)
    · exact ⟨d, by omega, by omega⟩
    · exact ⟨m + 1, Nat.le_refl _, by omega⟩
theorem minTo_congr {f g : Nat → Int} {m : Nat} (h : ∀ d, d ≤ m → f d = g d) : minTo f m = minTo g m := by
  induction m with
  | zero => exact h 0 (Nat.le_refl _)
  | succ m ih => rw [minTo, minTo, ih (fun d hd => h d (by omega)), h (m + 1) (Nat.le_refl _)]
def bestF (xs : List Int) (s h : Int) : Nat → Nat → Int
  | 0, _ => 0
  | m + 1, q => if q = m + 1 then minTo (fun d => runD xs s h (xs.length - (m + 1)) (d + 1) + bestF xs s h m (m - d)) m else bestF xs s h m q
/-- the least cost of the days from i on -/
def bst (xs : List Int) (s h : Int) (i : Nat) : Int := bestF xs s h (xs.length - i) (xs.length - i)
theorem bestF_low (xs : List Int) (s h : Int) (m : Nat) : ∀ q, q ≤ m → bestF xs s h m q = bestF xs s h q q := by
  induction m with
  | zero => intro q hq; obtain rfl : q = 0 := by omega
            rfl
  | succ m ih =>
    intro q hq
    by_cases e : q = m + 1
    · subst e; rfl
    · rw [bestF, if_neg e]; exact ih q (by omega)
theorem bst_end (xs : List Int) (s h : Int) : bst xs s h xs.length = 0 := by unfold bst; rw [Nat.sub_self]; rfl
theorem bst_rec {xs : List Int} {s h : Int} {i : Nat} (hi : i < xs.length) : bst xs s h i = minTo (fun d => runD xs s h i (d + 1) + bst xs s h (i + (d + 1))) (xs.length - 1 - i) := by
  obtain ⟨m, hm⟩ : ∃ m, xs.length - i = m + 1 := ⟨xs.length - i - 1, by omega⟩
  unfold bst
  rw [hm, bestF, if_pos rfl, show xs.length - 1 - i = m by omega]
  refine minTo_congr (fun d hd => ?_)
  rw [show xs.length - (m + 1) = i by omega, bestF_low xs s h m (m - d) (by omega), show xs.length - (i + (d + 1)) = m - d by omega]
def LeastC (xs : List Int) (s h : Int) (i : Nat) (b : Int) : Prop := PC xs s h i b ∧ ∀ c, PC xs s h i c → b ≤ c
theorem LeastC.uniq {xs : List Int} {s h : Int} {i : Nat} {a b : Int} (ha : LeastC xs s h i a) (hb : LeastC xs s h i b) : a = b := by
  have := ha.2 b hb.1; have := hb.2 a ha.1; omega
theorem bst_least (xs : List Int) (s h : Int) : ∀ (m i : Nat), i + m = xs.length → LeastC xs s h i (bst xs s h i) := by
  intro m
  induction m using Nat.strongRecOn with
  | ind m ih =>
    intro i hi
    by_cases h0 : i = xs.length
    · subst h0
      rw [bst_end]
      refine ⟨PC.done, fun c hc => ?_⟩
      generalize hn : xs.length = n at hc
      cases hc with
      | done => exact Int.le_refl _
      | lot _ d c hd _ => omega
    · have hlt : i < xs.length := by omega
      have hsub : ∀ d, i + (d + 1) ≤ xs.length → LeastC xs s h (i + (d + 1)) (bst xs s h (i + (d + 1))) := fun d hd => ih (xs.length - (i + (d + 1))) (by omega) _ (by omega)
      rw [bst_rec hlt]
      refine ⟨?_, fun c hc => ?_⟩
      · obtain ⟨d, hd, e⟩ := minTo_at (fun d => runD xs s h i (d + 1) + bst xs s h (i + (d + 1))) (xs.length - 1 - i)
        rw [e]
        exact PC.lot i d _ (by omega) (hsub d (by omega)).1
      · cases hc with
        | done => omega
        | lot _ d c hd hc' =>
          have h1 := (hsub d hd).2 c hc'
          have h2 := minTo_le (f := fun d => runD xs s h i (d + 1) + bst xs s h (i + (d + 1))) (m := xs.length - 1 - i) (d := d) (by omega)
          omega
theorem bst_is {xs : List Int} {s h : Int} {i : Nat} (hi : i ≤ xs.length) : LeastC xs s h i (bst xs s h i) := bst_least xs s h (xs.length - i) i (by omega)
theorem bst_nonneg {xs : List Int} {s h : Int} (hx : ∀ k, 0 ≤ xs.getD k 0) (hs : 0 ≤ s) (hh : 0 ≤ h) {i : Nat} (hi : i ≤ xs.length) : 0 ≤ bst xs s h i := (bst_is hi).1.nonneg hx hs hh
theorem bst_bd {xs : List Int} {s h : Int} (hl : xs.length ≤ 8) (hx : ∀ k, 0 ≤ xs.getD k 0 ∧ xs.getD k 0 ≤ 20) (hs : 0 ≤ s ∧ s ≤ 31) (hh : 0 ≤ h ∧ h ≤ 31) {i : Nat} (hi : i ≤ xs.length) : 0 ≤ bst xs s h i ∧ bst xs s h i ≤ 40000 := by
  refine ⟨bst_nonneg (fun k => (hx k).1) hs.1 hh.1 hi, ?_⟩
  by_cases h0 : i = xs.length
  · subst h0; rw [bst_end]; omega
  · have h1 := (bst_is (s := s) (h := h) hi).2 _ (PC.lot i (xs.length - i - 1) 0 (by omega) (by rw [show i + (xs.length - i - 1 + 1) = xs.length by omega]; exact PC.done))
    have h2 := runD_bd hx hs hh i (xs.length - i - 1 + 1) (by omega)
    omega

-- plans
/-- what it costs on day q: it is there at its end, it is made on it -/
def dayC (ms xs : List Int) (s h : Int) (q : Nat) : Int := h * (sumN ms (q + 1) - sumN xs (q + 1)) + (if 0 < ms.getD q 0 then s else 0)
def planTo (ms xs : List Int) (s h : Int) : Nat → Int
  | 0 => 0
  | q + 1 => planTo ms xs s h q + dayC ms xs s h q
theorem sumN_flat {ms : List Int} {i k : Nat} (h : ∀ q, i < q → q < k → ms.getD q 0 = 0) {q : Nat} (hq : i ≤ q) (hk : q < k) : sumN ms k = sumN ms (q + 1) := by
  obtain ⟨d, rfl⟩ : ∃ d, k = q + 1 + d := ⟨k - (q + 1), by omega⟩
  clear hk
  induction d with
  | zero => rfl
  | succ d ih =>
    rw [← Nat.add_assoc, sumN, ih (fun r h1 h2 => h r h1 (by omega)), h (q + 1 + d) (by omega) (by omega)]; omega
/-- a lot is not dearer than what a plan pays on its days -/
theorem block_le {ms xs : List Int} {s h : Int} (hx : ∀ k, 0 ≤ xs.getD k 0) (hm : ∀ k, 0 ≤ ms.getD k 0) (hs : 0 ≤ s) (hh : 0 ≤ h) {i k : Nat} (hik : i < k) (hst : sumN xs k ≤ sumN ms k) (hno : ∀ q, i < q → q < k → ms.getD q 0 = 0) (hi : 0 < ms.getD i 0 ∨ i = 0) :
    runD xs s h i (k - i) ≤ planTo ms xs s h k - planTo ms xs s h i := by
  have key : ∀ d, i + d ≤ k → h * (hsum xs i d + (d : Int) * (sumN xs k - sumN xs (i + d))) + (if 0 < d ∧ 0 < ms.getD i 0 then s else 0) ≤ planTo ms xs s h (i + d) - planTo ms xs s h i := by
    intro d
    induction d with
    | zero => intro _; simp [hsum]
    | succ d ih =>
      intro hd
      have ih' := ih (by omega)
      rw [← Nat.add_assoc, planTo]
      have e1 := sumN_flat hno (q := i + d) (by omega) (by omega)
      have hday : h * (sumN xs k - sumN xs (i + d + 1)) + (if d = 0 ∧ 0 < ms.getD i 0 then s else 0) ≤ dayC ms xs s h (i + d) := by
        have h1 : h * (sumN xs k - sumN xs (i + d + 1)) ≤ h * (sumN ms (i + d + 1) - sumN xs (i + d + 1)) := Int.mul_le_mul_of_nonneg_left (by omega) hh
        unfold dayC
        by_cases h0 : d = 0 ∧ 0 < ms.getD i 0
        · obtain ⟨rfl, h3⟩ := h0
          rw [if_pos ⟨rfl, h3⟩]
          simp only [Nat.add_zero] at h1 ⊢
          rw [if_pos h3]; omega
        · rw [if_neg h0]; split <;> omega
      have e2 : h * (hsum xs i (d + 1) + ((d + 1 : Nat) : Int) * (sumN xs k - sumN xs (i + d + 1))) = h * (hsum xs i d + (d : Int) * (sumN xs k - sumN xs (i + d))) + h * (sumN xs k - sumN xs (i + d + 1)) := by
        rw [← Int.mul_add]
        congr 1
        rw [hsum, show sumN xs (i + d + 1) = sumN xs (i + d) + xs.getD (i + d) 0 from rfl]
        push_cast
        rw [Int.add_mul, Int.one_mul, Int.sub_eq_add_neg (b := sumN xs (i + d) + _), Int.mul_add, Int.mul_sub, Int.mul_neg, Int.mul_add]
        omega
      rw [e2]
      by_cases h0 : d = 0
      · subst h0
        simp only [Nat.lt_irrefl, false_and, if_false, true_and, Nat.zero_add, Nat.lt_one_iff, Nat.zero_lt_one] at ih' hday ⊢
        omega
      · rw [if_neg (by omega)] at hday
        by_cases h3 : 0 < ms.getD i 0
        · rw [if_pos ⟨by omega, h3⟩] at ih' ⊢; omega
        · rw [if_neg (fun e => h3 e.2)] at ih' ⊢; omega
  have h9 := key (k - i) (by omega)
  rw [show i + (k - i) = k by omega, Int.sub_self, Int.mul_zero, Int.add_zero] at h9
  unfold runD
  rw [show i + (k - i) = k by omega]
  by_cases h3 : 0 < ms.getD i 0
  · rw [if_pos ⟨by omega, h3⟩] at h9
    split <;> omega
  · rw [if_neg (fun e => h3 e.2)] at h9
    have hi0 : i = 0 := by omega
    subst hi0
    have h4 : ms.getD 0 0 = 0 := by have := hm 0; omega
    have e1 := sumN_flat hno (q := 0) (by omega) hik
    have e2 : sumN ms (0 + 1) = 0 := by rw [sumN, sumN, h4]; rfl
    have e3 : sumN xs 0 = 0 := rfl
    rw [if_neg (by omega)]; omega
theorem plan_least {ms xs : List Int} {s h : Int} (hx : ∀ k, 0 ≤ xs.getD k 0) (hm : ∀ k, 0 ≤ ms.getD k 0) (hs : 0 ≤ s) (hh : 0 ≤ h) (hst : ∀ k, k ≤ xs.length → sumN xs k ≤ sumN ms k) :
    bst xs s h 0 ≤ planTo ms xs s h xs.length := by
  have key : ∀ (m k : Nat), k + m = xs.length → ∀ i, i < k → (∀ q, i < q → q < k → ms.getD q 0 = 0) → (0 < ms.getD i 0 ∨ i = 0) → ∃ c, PC xs s h i c ∧ c ≤ planTo ms xs s h xs.length - planTo ms xs s h i := by
    intro m
    induction m with
    | zero =>
      intro k hk i hik hno hi
      obtain rfl : k = xs.length := by omega
      have hb := block_le hx hm hs hh hik (hst _ (Nat.le_refl _)) hno hi
      refine ⟨_, PC.lot i (xs.length - i - 1) 0 (by omega) (by rw [show i + (xs.length - i - 1 + 1) = xs.length by omega]; exact PC.done), ?_⟩
      rw [show xs.length - i - 1 + 1 = xs.length - i by omega]; omega
    | succ m ih =>
      intro k hk i hik hno hi
      by_cases h0 : 0 < ms.getD k 0
      · obtain ⟨c, hc, hle⟩ := ih (k + 1) (by omega) k (by omega) (fun q h1 h2 => by omega) (Or.inl h0)
        have hb := block_le hx hm hs hh hik (hst k (by omega)) hno hi
        refine ⟨_, PC.lot i (k - i - 1) c (by omega) (by rw [show i + (k - i - 1 + 1) = k by omega]; exact hc), ?_⟩
        rw [show k - i - 1 + 1 = k - i by omega]; omega
      · exact ih (k + 1) (by omega) i (by omega) (fun q h1 h2 => by
          by_cases e : q = k
          · subst e; have := hm q; omega
          · exact hno q h1 (by omega)) hi
  by_cases h0 : xs.length = 0
  · have : bst xs s h 0 = 0 := by have := bst_end xs s h; rw [h0] at this; exact this
    rw [this, h0]; exact Int.le_refl _
  · obtain ⟨c, hc, hle⟩ := key (xs.length - 1) 1 (by omega) 0 (by omega) (fun q h1 h2 => by omega) (Or.inr rfl)
    have := (bst_is (s := s) (h := h) (Nat.zero_le xs.length)).2 c hc
    have e : planTo ms xs s h 0 = 0 := rfl
    omega
end Go.Proofs.Ytkebdelfklmigab
