import Derived.Test.YtkebdelfklmigabRows
import Derived.WalkKit
import Derived.LoopTactic
import Derived.Outline
import Derived.WalkSpells
import Derived.WalkLawsBesides
import Derived.ProofKit
import Derived.Lib.Hide
import Derived.IntWalk
import Derived.Deep.QuietTactic
import Derived.BigQuiet
import Derived.Deep.RegionHeld3
import Derived.Test.YtkebdelfklmigabM10
import Derived.Test.YtkebdelfklmigabM11
namespace Go.Proofs.Ytkebdelfklmigab
open Go.RowKit Go.WideShapes
theorem fall_step9 {n k : Nat} (hn : k < n) : ((fall n (k + 1) : Nat) : Int) = (fall n k : Int) * ((n : Int) - (k : Int)) := by
  rw [show fall n (k + 1) = fall n k * (n - k) from rfl, show ((n : Int) - (k : Int)) = ((n - k : Nat) : Int) by omega]; push_cast; rfl
set_option maxRecDepth 100000 in
set_option maxHeartbeats 4000000 in
theorem passChance_impl (lot bad size most : Int) (w : World) :
    Calls Try.prog 8 #[.int .i64 lot, .int .i64 bad, .int .i64 size, .int .i64 most] w (FracBP w (passU lot bad size most) (passD lot bad size most) (planB lot bad size most)) := by
  have HV := Lib.hid (fun w' => isValid_any lot bad size most w')
  have ht1 := two_new w (.int .i64 0) (.int .i64 0) 26
  have hb1 := below_alloc w (.cells #[.int .i64 0, .int .i64 0] 26)
  have hz1 : (w.alloc (.cells #[.int .i64 0, .int .i64 0] 26)).heap.size = w.heap.size + 1 := by simp
  obtain ⟨w1, hw1⟩ : ∃ w1, (w.alloc (.cells #[.int .i64 0, .int .i64 0] 26)) = w1 := ⟨_, rfl⟩
  rw [hw1] at ht1 hb1 hz1
  have hf2 := four_new w1 lot bad size most 39
  have ht2 := ht1.lift (below_alloc w1 (.cells #[.int .i64 lot, .int .i64 bad, .int .i64 size, .int .i64 most] 39))
  have hb2 := hb1.alloc (by omega) (.cells #[.int .i64 lot, .int .i64 bad, .int .i64 size, .int .i64 most] 39)
  have hz2 : (w1.alloc (.cells #[.int .i64 lot, .int .i64 bad, .int .i64 size, .int .i64 most] 39)).heap.size = w.heap.size + 2 := by simp; omega
  obtain ⟨w2, hw2⟩ : ∃ w2, (w1.alloc (.cells #[.int .i64 lot, .int .i64 bad, .int .i64 size, .int .i64 most] 39)) = w2 := ⟨_, rfl⟩
  rw [hw2] at hf2 ht2 hb2 hz2
  rw [hz1] at hf2
  have HW1 := Lib.hid hw1
  have HW2 := Lib.hid hw2
  have HT2 := Lib.hid ht2
  have HF2 := Lib.hid hf2
  have HB2 := Lib.hid hb2
  have HS2 := Lib.hid hz2
  clear hw1 hw2 ht1 hb1 hz1 hf2 ht2 hb2 hz2
  have HEND := Lib.hid (fun w' (h : Below w2.heap.size w2 w') (U D : Nat) => And.intro ((((HT2.out.lift h).set0 (.int .i64 U)).set1 (.int .i64 D))) (((HB2.out.trans (h.mono HB2.out.size)).setCell (p := ⟨w.heap.size, 0, none⟩) (Nat.le_refl _) (.int .i64 U)).setCell (p := ⟨w.heap.size, 1, none⟩) (Nat.le_refl _) (.int .i64 D)))
  cases hv : planB lot bad size most
  · obtain ⟨p1, p2, p3, p4⟩ := pass_no hv
    rw [p1, p2]
    rw [hv] at HV
    clear p1 p2 p3 p4 hv
    go_enter Try.func8, Try.ntmps8
    go_wp2_with fail
    rw [HW1.out, HW2.out]
    obtain ⟨a0, a1, a2, a3⟩ := HF2.out
    go_wp2_with fail
    refine (HV.out w2).mono ?_
    rintro e w3 ⟨rfl, hb3⟩
    have HE := Lib.hid (HEND.out w3 hb3 0 0)
    obtain ⟨⟨r0, z0⟩, r1, z1⟩ := HT2.out.lift hb3
    clear a0 a1 a2 a3 hb3
    go_wp2_with fail
    have v0 := HE.out.1.1.1
    have v1 := HE.out.1.2.1
    exact bodyPost_ret (v := .tuple #[.agg #[.int .i64 0, .int .i64 0], .bool false]) (by simp [results, Try.results8, go_sem] at v0 v1 ⊢; simp [go_sem, v0, v1]) rfl ⟨rfl, HE.out.2⟩
  · obtain ⟨l, b, s, m, rfl, rfl, rfl, rfl, h1, h12, hbl, hsl, hm⟩ := plan_get hv
    obtain ⟨p1, p2, p3, p4⟩ := pass_yes hv
    rw [p1, p2]
    obtain ⟨c1, c2⟩ := ch_1 h12 hsl
    have HP := Lib.hid (passChance_any l b s m h1 h12 hbl hsl hm)
    obtain ⟨U, hU⟩ : ∃ U, fU (psum l b s (m + 1)) (ch l s) = U := ⟨_, rfl⟩
    obtain ⟨D, hD⟩ : ∃ D, fD (psum l b s (m + 1)) (ch l s) = D := ⟨_, rfl⟩
    rw [hU, hD] at HP ⊢
    clear hU hD
    rw [hv] at HV
    clear hv p1 p2 p3 p4
    go_enter Try.func8, Try.ntmps8
    go_wp2_with fail
    rw [HW1.out, HW2.out]
    obtain ⟨a0, a1, a2, a3⟩ := HF2.out
    go_wp2_with fail
    refine (HV.out w2).mono ?_
    rintro e w3 ⟨rfl, hb3⟩
    have HB3 := Lib.hid hb3
    clear a0 a1 a2 a3 hb3
    obtain ⟨a0, a1, a2, a3⟩ := HF2.out.lift HB3.out
    go_wp2_with fail
    refine (HP.out w3).mono ?_
    rintro e w4 ⟨rfl, hb4⟩
    have HB4 := Lib.hid (HB3.out.trans (hb4.mono HB3.out.size))
    clear a0 a1 a2 a3 hb4
    have HE := Lib.hid (HEND.out w4 HB4.out U D)
    obtain ⟨⟨r0, z0⟩, r1, z1⟩ := HT2.out.lift HB4.out
    go_wp2_with fail
    have v0 := HE.out.1.1.1
    have v1 := HE.out.1.2.1
    exact bodyPost_ret (v := .tuple #[.agg #[.int .i64 U, .int .i64 D], .bool true]) (by simp [results, Try.results8, go_sem, v0, v1]) rfl ⟨rfl, HE.out.2⟩
end Go.Proofs.Ytkebdelfklmigab
namespace Go.Proofs.Ytkebdelfklmigab
open Go.RowKit Go.WideShapes

/-- orders of draws; 0 where a bad one too many was drawn, or one that is not there -/
def drwI (l : Nat) (b : Int) (s : Nat) (m : Nat) : Nat := if 0 ≤ b ∧ b ≤ l then drw l b.toNat s m else 0
theorem drw_zero {l b s : Nat} : drw l b s 0 = 0 := by unfold drw; simp [psum]
theorem drwI_zero {l s : Nat} {b : Int} : drwI l b s 0 = 0 := by unfold drwI; rw [drw_zero]; simp
theorem drwI_bd {l s m : Nat} {b : Int} (hl : l ≤ 12) (hs : s ≤ l) (hm : m ≤ 13) : drwI l b s m ≤ 479001600 := by
  unfold drwI
  split
  · have a1 := psum_le (lot := l) (bad := b.toNat) (size := s) (m := m) hl (by omega) hs hm
    have a2 := fall_ch l (by omega) s (by omega)
    have a3 := fall_bd l (by omega) s (by omega)
    unfold drw
    exact Nat.le_trans (Nat.mul_le_mul_right _ a1) (by rw [← a2.2.1]; exact a3)
  · omega
theorem drwI_step {l b s m : Nat} (hl : l + 1 ≤ 12) (hb : b ≤ l + 1) (hs : s ≤ l) (hm : m + 1 ≤ 13) : drw (l + 1) b (s + 1) (m + 1) = (l + 1 - b) * drwI l b s (m + 1) + b * drwI l ((b : Int) - 1) s m := by
  obtain ⟨g, hg⟩ : ∃ g, l + 1 = g + b := ⟨l + 1 - b, by omega⟩
  have h := drw_step (b := b) (g := g) (s := s) (m := m + 1) (by omega) (by omega) hm
  have hgl : g + b - 1 = l := by omega
  rw [hgl, Nat.add_sub_cancel] at h
  rw [hg, h, Nat.add_sub_cancel]
  congr 1
  · unfold drwI
    by_cases hbl : b ≤ l
    · rw [if_pos (by omega), Int.toNat_natCast]
    · have : g = 0 := by omega
      subst this; simp
  · unfold drwI
    by_cases hb0 : b = 0
    · subst hb0; simp
    · rw [if_pos (by omega), show ((b : Int) - 1).toNat = b - 1 by omega]
theorem four_sub {w : World} {b : Nat} {x0 x1 x2 x3 : Int} (h : Four w b x0 x1 x2 x3) (u v : Int) : Four ((w.setCell ⟨b, 1, none⟩ (.int .i64 u)).setCell ⟨b, 3, none⟩ (.int .i64 v)) b x0 u x2 v := by
  have ne : ∀ i j : Nat, i ≠ j → (⟨b, i, none⟩ : Addr) ≠ ⟨b, j, none⟩ := fun i j hij e => by injection e with _ e2; exact hij e2
  have h3 : (w.setCell ⟨b, 1, none⟩ (.int .i64 u)).cell? ⟨b, 3, none⟩ = some (.int .i64 x3) := by rw [World.cell?_setCell_other _ _ _ _ (ne 1 3 (by omega))]; exact h.2.2.2
  have h1 : (w.setCell ⟨b, 1, none⟩ (.int .i64 u)).cell? ⟨b, 1, none⟩ = some (.int .i64 u) := World.cell?_setCell_same _ _ _ h.2.1
  refine ⟨?_, ?_, ?_, World.cell?_setCell_same _ _ _ h3⟩
  · rw [World.cell?_setCell_other _ _ _ _ (ne 3 0 (by omega)), World.cell?_setCell_other _ _ _ _ (ne 1 0 (by omega))]; exact h.1
  · rw [World.cell?_setCell_other _ _ _ _ (ne 3 1 (by omega))]; exact h1
  · rw [World.cell?_setCell_other _ _ _ _ (ne 3 2 (by omega)), World.cell?_setCell_other _ _ _ _ (ne 1 2 (by omega))]; exact h.2.2.1
theorem four_off {w : World} {b c : Nat} {x0 x1 x2 x3 : Int} (h : Four w b x0 x1 x2 x3) (hne : b ≠ c) (x y : Value) : Four ((w.setCell ⟨c, 1, none⟩ x).setCell ⟨c, 3, none⟩ y) b x0 x1 x2 x3 :=
  h.block ((Below.heap_setCell _ _ _ _ (by show b ≠ c; exact hne)).trans (Below.heap_setCell _ _ _ _ (by show b ≠ c; exact hne)))
theorem upTo_no {b l : Int} (h : ¬ (0 ≤ b ∧ b ≤ l)) : inB 0 l b = false := decide_eq_false h
set_option maxRecDepth 100000 in
set_option maxHeartbeats 4000000 in
theorem passingDraws_any : ∀ (s l : Nat) (b : Int) (m : Nat) (w : World), l ≤ 12 → s ≤ l → m ≤ 13 → -1 ≤ b → b ≤ 12 →
    Calls Try.prog 27 #[.agg #[.int .i64 l, .int .i64 b, .int .i64 s, .int .i64 ((m : Int) - 1)]] w (valN w (.int .i64 (drwI l b s m : Nat))) := by
  intro s
  induction s with
  | zero =>
    intro l b m w hl hs hm hb1 hb2
    by_cases h0 : m = 0
    · subst h0
      rw [drwI_zero]
      have hd : ((0 : Nat) : Int) - 1 < 0 := by omega
      go_enter Try.func27, Try.ntmps27
      go_wp2
      go_ret
      exact ⟨rfl, below_alloc _ _⟩
    · obtain ⟨m, rfl⟩ : ∃ q, m = q + 1 := ⟨m - 1, by omega⟩
      have hd : ¬ ((m + 1 : Nat) : Int) - 1 < 0 := by omega
      by_cases hbl : 0 ≤ b ∧ b ≤ l
      · have HU := Lib.hid (fun w' => isUp8 b l w' (inB_true hbl.1 hbl.2))
        have hr : drwI l b 0 (m + 1) = 1 := by
          unfold drwI; rw [if_pos hbl]
          unfold drw; rw [(psum_none hl (by omega) m).1]; rfl
        rw [hr]
        go_enter Try.func27, Try.ntmps27
        go_wp2_with fail
        refine (HU.out _).mono ?_
        rintro e w' ⟨rfl, rfl⟩
        go_wp2
        go_ret
        exact ⟨rfl, below_alloc _ _⟩
      · have HU := Lib.hid (fun w' => isUp8 b l w' (upTo_no hbl))
        have hr : drwI l b 0 (m + 1) = 0 := if_neg hbl
        rw [hr]
        clear hbl
        go_enter Try.func27, Try.ntmps27
        go_wp2_with fail
        refine (HU.out _).mono ?_
        rintro e w' ⟨rfl, rfl⟩
        go_wp2
        go_ret
        exact ⟨rfl, below_alloc _ _⟩
  | succ s ih =>
    intro l b m w hl hs hm hb1 hb2
    have IH := Lib.hid ih
    clear ih
    by_cases h0 : m = 0
    · subst h0
      rw [drwI_zero]
      have hd : ((0 : Nat) : Int) - 1 < 0 := by omega
      go_enter Try.func27, Try.ntmps27
      go_wp2
      go_ret
      exact ⟨rfl, below_alloc _ _⟩
    · obtain ⟨m, rfl⟩ : ∃ q, m = q + 1 := ⟨m - 1, by omega⟩
      have hmm : ((m + 1 : Nat) : Int) - 1 = (m : Int) := by omega
      rw [hmm]
      clear hmm
      have hd : ¬ (m : Int) < 0 := by omega
      by_cases hbl : 0 ≤ b ∧ b ≤ l
      · obtain ⟨q, rfl⟩ : ∃ q : Nat, b = (q : Int) := ⟨b.toNat, by omega⟩
        obtain ⟨l, rfl⟩ : ∃ r, l = r + 1 := ⟨l - 1, by omega⟩
        have HU := Lib.hid (fun w' => isUp8 (q : Int) ((l : Int) + 1) w' (inB_true hbl.1 (by have := hbl.2; omega)))
        have HST : Hid (drwI (l + 1) (q : Int) (s + 1) (m + 1) = (l + 1 - q) * drwI l q s (m + 1) + q * drwI l ((q : Int) - 1) s m) := Lib.hid (by
          rw [← drwI_step (by omega) (by omega) (by omega) (by omega)]
          unfold drwI; rw [if_pos hbl, Int.toNat_natCast])
        rw [HST.out]
        have HC1 := Lib.hid (fun w' => IH.out l (q : Int) (m + 1) w' (by omega) (by omega) (by omega) (by omega) (by omega))
        have HC2 := Lib.hid (fun w' => IH.out l ((q : Int) - 1) m w' (by omega) (by omega) (by omega) (by omega) (by omega))
        rw [show ((m + 1 : Nat) : Int) - 1 = (m : Int) by omega] at HC1
        have b1 := drwI_bd (l := l) (b := (q : Int)) (s := s) (m := m + 1) (by omega) (by omega) (by omega)
        have b2 := drwI_bd (l := l) (b := (q : Int) - 1) (s := s) (m := m) (by omega) (by omega) (by omega)
        obtain ⟨x, hx⟩ : ∃ x, drwI l (q : Int) s (m + 1) = x := ⟨_, rfl⟩
        obtain ⟨y, hy⟩ : ∃ y, drwI l ((q : Int) - 1) s m = y := ⟨_, rfl⟩
        rw [hx] at HC1 b1 ⊢
        rw [hy] at HC2 b2 ⊢
        clear hx hy HST IH
        have hql : q ≤ l + 1 := by omega
        have P1 : Hid (0 ≤ (((l : Int) + 1 - (q : Int)) * (x : Int)) ∧ (((l : Int) + 1 - (q : Int)) * (x : Int)) ≤ 12 * 479001600) := Lib.hid ⟨Int.mul_nonneg (by omega) (by omega), Int.mul_le_mul (by omega) (by omega) (by omega) (by omega)⟩
        have P2 : Hid (0 ≤ ((q : Int) * (y : Int)) ∧ ((q : Int) * (y : Int)) ≤ 12 * 479001600) := Lib.hid ⟨Int.mul_nonneg (by omega) (by omega), Int.mul_le_mul (by omega) (by omega) (by omega) (by omega)⟩
        have PE : Hid ((((l + 1 - q) * x + q * y : Nat) : Int) = (((l : Int) + 1 - (q : Int)) * (x : Int)) + ((q : Int) * (y : Int))) := Lib.hid (by rw [show ((l : Int) + 1 - (q : Int)) = ((l + 1 - q : Nat) : Int) by omega]; push_cast; rfl)
        rw [PE.out]
        obtain ⟨p1, hp1⟩ : ∃ p1, (((l : Int) + 1 - (q : Int)) * (x : Int)) = p1 := ⟨_, rfl⟩
        obtain ⟨p2, hp2⟩ : ∃ p2, ((q : Int) * (y : Int)) = p2 := ⟨_, rfl⟩
        rw [hp1] at P1 ⊢
        rw [hp2] at P2 ⊢
        have HP1 := Lib.hid hp1
        have HP2 := Lib.hid hp2
        clear hp1 hp2 PE
        have HW : Hid (IntKind.i64.wrap ((l : Int) + 1 - (q : Int)) = (l : Int) + 1 - (q : Int)) := Lib.hid (IntWalk.i64_in _ (by omega))
        have hs0 : ((s : Int) + 1 == 0) = false := by simp; omega
        have hf := four_new w ((l : Int) + 1) (q : Int) ((s : Int) + 1) (m : Int) 39
        have hb := below_alloc w (.cells #[.int .i64 ((l : Int) + 1), .int .i64 (q : Int), .int .i64 ((s : Int) + 1), .int .i64 (m : Int)] 39)
        have hz1 : (w.alloc (.cells #[.int .i64 ((l : Int) + 1), .int .i64 (q : Int), .int .i64 ((s : Int) + 1), .int .i64 (m : Int)] 39)).heap.size = w.heap.size + 1 := by simp
        obtain ⟨w1, hw1⟩ : ∃ w1, (w.alloc (.cells #[.int .i64 ((l : Int) + 1), .int .i64 (q : Int), .int .i64 ((s : Int) + 1), .int .i64 (m : Int)] 39)) = w1 := ⟨_, rfl⟩
        rw [hw1] at hf hb hz1
        have HW1 := Lib.hid hw1
        have HF := Lib.hid hf
        have HZ1 := Lib.hid hz1
        clear hw1
        have hf2 := four_new w1 l q s m 39
        have hb2' := hb.alloc (by omega) (.cells #[.int .i64 (l : Int), .int .i64 (q : Int), .int .i64 (s : Int), .int .i64 (m : Int)] 39)
        have hf12 := hf.lift (below_alloc w1 (.cells #[.int .i64 (l : Int), .int .i64 (q : Int), .int .i64 (s : Int), .int .i64 (m : Int)] 39))
        have hfz : ∀ i, (w1.alloc (.cells #[.int .i64 (l : Int), .int .i64 (q : Int), .int .i64 (s : Int), .int .i64 (m : Int)] 39)).frozen? ⟨w1.heap.size, i, none⟩ = false := fun i => World.frozen?_alloc_new w1 _ _ _
        obtain ⟨w2, hw2⟩ : ∃ w2, (w1.alloc (.cells #[.int .i64 (l : Int), .int .i64 (q : Int), .int .i64 (s : Int), .int .i64 (m : Int)] 39)) = w2 := ⟨_, rfl⟩
        rw [hw2] at hf2 hb2' hf12 hfz
        rw [hz1] at hf2 hfz
        have HW2 := Lib.hid hw2
        have HA := Lib.hid hf12
        have HN := Lib.hid hf2
        have HB2 := Lib.hid hb2'
        have HFZ := Lib.hid hfz
        clear hw2 hf hb hz1 hf2 hb2' hf12 hfz
        have HAL := Lib.hid (fun w' (hb : Below w2.drew.heap.size w2.drew w') => And.intro ((show Four w2.drew w.heap.size ((l : Int) + 1) q ((s : Int) + 1) m from HA.out).lift hb) ((show Four w2.drew (w.heap.size + 1) l q s m from HN.out).lift hb))
        have HFA := Lib.hid (fun w' (hb : Below w2.drew.heap.size w2.drew w') => (show ∀ i, w'.frozen? ⟨w.heap.size + 1, i, none⟩ = false from fun i => by rw [World.frozen?_of_block (w := w2.drew) (hb.block _ HN.out.lt)]; exact HFZ.out i))
        go_enter Try.func27, Try.ntmps27
        go_wp2_with fail
        rw [HW1.out]
        refine (HU.out w1).mono ?_
        rintro e w' ⟨rfl, hw'⟩
        rw [hw']
        clear hw'
        obtain ⟨a0, a1, a2, a3⟩ := HF.out
        go_wp2_with fail
        rw [HW2.out, HZ1.out]
        clear a0 a1 a2 a3
        obtain ⟨a0, a1, _, _⟩ := HA.out
        obtain ⟨n0, n1, n2, n3⟩ := HN.out
        go_region_held3 (fun w' => w'.cell? ⟨w.heap.size, 0, none⟩ = some (.int .i64 ((l : Int) + 1)) ∧ w'.cell? ⟨w.heap.size, 1, none⟩ = some (.int .i64 q) ∧ w'.cell? ⟨w.heap.size + 1, 0, none⟩ = some (.int .i64 l) ∧ w'.cell? ⟨w.heap.size + 1, 1, none⟩ = some (.int .i64 q) ∧ w'.cell? ⟨w.heap.size + 1, 2, none⟩ = some (.int .i64 s) ∧ w'.cell? ⟨w.heap.size + 1, 3, none⟩ = some (.int .i64 m)) (first | go_keep | exact k3) (first | (go_at_call 28; (try rw [HW.out]); refine (product2_any _ _ _ _ _ _ (lit2 w3 _ _ _) (by omega) (by rw [HP1.out]; have := P1.out; omega)).mono ?_; rintro e w6 ⟨rfl, rfl⟩; rw [HP1.out]) | (go_at_call 27; refine (HC1.out w2.drew).mono ?_; rintro e w3 ⟨rfl, hb3⟩; have HB3 := Lib.hid hb3; have k3 := And.intro (HAL.out w3 HB3.out).1.1 (And.intro (HAL.out w3 HB3.out).1.2.1 (And.intro (HAL.out w3 HB3.out).2.1 (And.intro (HAL.out w3 HB3.out).2.2.1 (And.intro (HAL.out w3 HB3.out).2.2.2.1 (HAL.out w3 HB3.out).2.2.2.2))))))
        have hb4 := (HB3.out).trans ((below_alloc w3 (.cells #[.int .i64 ((l : Int) + 1 - (q : Int)), .int .i64 x] 3)).mono HB3.out.size)
        have HA4 := Lib.hid (HAL.out _ hb4)
        have HF4 := Lib.hid (HFA.out _ hb4)
        have HB4 := Lib.hid (HB2.out.trans (((Below.refl _ w2).drew.trans hb4).mono HB2.out.size))
        clear hb4 k3 hb3 a0 a1 n0 n1 n2 n3
        obtain ⟨w4, hw4⟩ : ∃ w4, w3.alloc (.cells #[.int .i64 ((l : Int) + 1 - (q : Int)), .int .i64 x] 3) = w4 := ⟨_, rfl⟩
        rw [hw4] at HA4 HB4 HF4 ⊢
        clear hw4
        obtain ⟨n0, n1, n2, n3⟩ := HA4.out.2
        have z1 := HF4.out 1
        have z3 := HF4.out 3
        have HN5 := Lib.hid (four_sub HA4.out.2 ((q : Int) - 1) ((m : Int) - 1))
        have HA5 := Lib.hid (four_off (c := w.heap.size + 1) HA4.out.1 (by omega) (.int .i64 ((q : Int) - 1)) (.int .i64 ((m : Int) - 1)))
        have HB5 := Lib.hid ((HB4.out.setCell (p := ⟨w.heap.size + 1, 1, none⟩) (Nat.le_add_right _ _) (.int .i64 ((q : Int) - 1))).setCell (p := ⟨w.heap.size + 1, 3, none⟩) (Nat.le_add_right _ _) (.int .i64 ((m : Int) - 1)))
        go_wp2_with fail
        obtain ⟨w5, hw5⟩ : ∃ w5, (w4.setCell ⟨w.heap.size + 1, 1, none⟩ (.int .i64 ((q : Int) - 1))).setCell ⟨w.heap.size + 1, 3, none⟩ (.int .i64 ((m : Int) - 1)) = w5 := ⟨_, rfl⟩
        rw [hw5] at HN5 HA5 HB5 ⊢
        clear hw5 n0 n1 n2 n3 z1 z3
        obtain ⟨_, a1, _, _⟩ := HA5.out
        obtain ⟨n0, n1, n2, n3⟩ := HN5.out
        have HAL5 := Lib.hid (fun w' (hb : Below w5.drew.heap.size w5.drew w') => And.intro ((show Four w5.drew w.heap.size ((l : Int) + 1) q ((s : Int) + 1) m from HA5.out).lift hb) ((show Four w5.drew (w.heap.size + 1) l ((q : Int) - 1) s ((m : Int) - 1) from HN5.out).lift hb))
        go_region_held3 (fun w' => w'.cell? ⟨w.heap.size, 1, none⟩ = some (.int .i64 q) ∧ w'.cell? ⟨w.heap.size + 1, 0, none⟩ = some (.int .i64 l) ∧ w'.cell? ⟨w.heap.size + 1, 1, none⟩ = some (.int .i64 ((q : Int) - 1)) ∧ w'.cell? ⟨w.heap.size + 1, 2, none⟩ = some (.int .i64 s) ∧ w'.cell? ⟨w.heap.size + 1, 3, none⟩ = some (.int .i64 ((m : Int) - 1))) (first | go_keep | exact k6) (first | (go_at_call 28; refine (product2_any _ _ _ _ _ _ (lit2 w6 _ _ _) (by omega) (by rw [HP2.out]; have := P2.out; omega)).mono ?_; rintro e w7 ⟨rfl, rfl⟩; rw [HP2.out]) | (go_at_call 27; refine (HC2.out w5.drew).mono ?_; rintro e w6 ⟨rfl, hb6⟩; have HB6 := Lib.hid hb6; have k6 := And.intro (HAL5.out w6 HB6.out).1.2.1 (And.intro (HAL5.out w6 HB6.out).2.1 (And.intro (HAL5.out w6 HB6.out).2.2.1 (And.intro (HAL5.out w6 HB6.out).2.2.2.1 (HAL5.out w6 HB6.out).2.2.2.2)))))
        have HB7 := Lib.hid (HB5.out.trans (((Below.refl _ w5).drew.trans ((HB6.out).trans ((below_alloc w6 (.cells #[.int .i64 (q : Int), .int .i64 y] 3)).mono HB6.out.size))).mono HB5.out.size))
        have q1 := P1.out
        have q2 := P2.out
        clear k6 hb6 a1 n0 n1 n2 n3
        go_wp2
        go_ret
        exact ⟨ret_int (IntWalk.i64_in (p1 + p2) (by omega)), HB7.out⟩
      · have HU := Lib.hid (fun w' => isUp8 b l w' (upTo_no hbl))
        have hr : drwI l b (s + 1) (m + 1) = 0 := if_neg hbl
        rw [hr]
        clear hbl
        go_enter Try.func27, Try.ntmps27
        go_wp2_with fail
        refine (HU.out _).mono ?_
        rintro e w' ⟨rfl, rfl⟩
        go_wp2
        go_ret
        exact ⟨rfl, below_alloc _ _⟩
theorem passingDraws_nat (s l b m : Nat) (w : World) (hl : l ≤ 12) (hb : b ≤ l) (hs : s ≤ l) (hm : m ≤ 13) :
    Calls Try.prog 27 #[.agg #[.int .i64 l, .int .i64 b, .int .i64 s, .int .i64 ((m : Int) - 1)]] w (valN w (.int .i64 (drw l b s m : Nat))) := by
  have h := passingDraws_any s l b m w hl hs hm (by omega) (by omega)
  rw [show drwI l (b : Int) s m = drw l b s m by unfold drwI; rw [if_pos (by omega), Int.toNat_natCast]] at h
  exact h
end Go.Proofs.Ytkebdelfklmigab
namespace Go.Proofs.Ytkebdelfklmigab
open Go.RowKit Go.WideShapes
set_option maxRecDepth 100000 in
set_option maxHeartbeats 4000000 in
theorem passByDraws_impl (lot bad size most : Int) (w : World) :
    Calls Try.prog 10 #[.int .i64 lot, .int .i64 bad, .int .i64 size, .int .i64 most] w (FracBP w (passU lot bad size most) (passD lot bad size most) (planB lot bad size most)) := by
  have HV := Lib.hid (fun w' => isValid_any lot bad size most w')
  have ht1 := two_new w (.int .i64 0) (.int .i64 0) 26
  have hb1 := below_alloc w (.cells #[.int .i64 0, .int .i64 0] 26)
  have hz1 : (w.alloc (.cells #[.int .i64 0, .int .i64 0] 26)).heap.size = w.heap.size + 1 := by simp
  obtain ⟨w1, hw1⟩ : ∃ w1, (w.alloc (.cells #[.int .i64 0, .int .i64 0] 26)) = w1 := ⟨_, rfl⟩
  rw [hw1] at ht1 hb1 hz1
  have hf2 := four_new w1 lot bad size most 39
  have ht2 := ht1.lift (below_alloc w1 (.cells #[.int .i64 lot, .int .i64 bad, .int .i64 size, .int .i64 most] 39))
  have hb2 := hb1.alloc (by omega) (.cells #[.int .i64 lot, .int .i64 bad, .int .i64 size, .int .i64 most] 39)
  have hz2 : (w1.alloc (.cells #[.int .i64 lot, .int .i64 bad, .int .i64 size, .int .i64 most] 39)).heap.size = w.heap.size + 2 := by simp; omega
  obtain ⟨w2, hw2⟩ : ∃ w2, (w1.alloc (.cells #[.int .i64 lot, .int .i64 bad, .int .i64 size, .int .i64 most] 39)) = w2 := ⟨_, rfl⟩
  rw [hw2] at hf2 ht2 hb2 hz2
  rw [hz1] at hf2
  have HW1 := Lib.hid hw1
  have HW2 := Lib.hid hw2
  have HT2 := Lib.hid ht2
  have HF2 := Lib.hid hf2
  have HB2 := Lib.hid hb2
  have HS2 := Lib.hid hz2
  clear hw1 hw2 ht1 hb1 hz1 hf2 ht2 hb2 hz2
  have HEND := Lib.hid (fun w' (h : Below w2.heap.size w2 w') (U D : Nat) => And.intro ((((HT2.out.lift h).set0 (.int .i64 U)).set1 (.int .i64 D))) (((HB2.out.trans (h.mono HB2.out.size)).setCell (p := ⟨w.heap.size, 0, none⟩) (Nat.le_refl _) (.int .i64 U)).setCell (p := ⟨w.heap.size, 1, none⟩) (Nat.le_refl _) (.int .i64 D)))
  cases hv : planB lot bad size most
  · obtain ⟨p1, p2, p3, p4⟩ := pass_no hv
    rw [p1, p2]
    rw [hv] at HV
    clear p1 p2 p3 p4 hv
    go_enter Try.func10, Try.ntmps10
    go_wp2_with fail
    rw [HW1.out, HW2.out]
    obtain ⟨a0, a1, a2, a3⟩ := HF2.out
    go_wp2_with fail
    refine (HV.out w2).mono ?_
    rintro e w3 ⟨rfl, hb3⟩
    have HE := Lib.hid (HEND.out w3 hb3 0 0)
    obtain ⟨⟨r0, z0⟩, r1, z1⟩ := HT2.out.lift hb3
    clear a0 a1 a2 a3 hb3
    go_wp2_with fail
    have v0 := HE.out.1.1.1
    have v1 := HE.out.1.2.1
    exact bodyPost_ret (v := .tuple #[.agg #[.int .i64 0, .int .i64 0], .bool false]) (by simp [results, Try.results10, go_sem] at v0 v1 ⊢; simp [go_sem, v0, v1]) rfl ⟨rfl, HE.out.2⟩
  · obtain ⟨l, b, s, m, rfl, rfl, rfl, rfl, h1, h12, hbl, hsl, hm⟩ := plan_get hv
    obtain ⟨p1, p2, p3, p4⟩ := pass_yes hv
    rw [p1, p2]
    obtain ⟨c1, c2⟩ := ch_1 h12 hsl
    obtain ⟨d1, d2, d3, d4, d5⟩ := draws_eq hv
    rw [← p1, ← p2, ← d1, ← d2]
    have HP := Lib.hid (fun w' => passingDraws_nat s l b (m + 1) w' h12 hbl hsl (by omega))
    rw [show (((m + 1 : Nat) : Int) - 1) = (m : Int) by omega] at HP
    have HDF := Lib.hid (downFrom_any l s h12 (by omega))
    have HPR := Lib.hid (fun S a w' (h : IntsAt w' S a s (tab (fun i => (l : Int) - (i : Int)) s)) => product_any S a s s _ (fun k => ((fall l k : Nat) : Int)) w' h rfl (fun k x hx => by obtain ⟨rfl, hk⟩ := tab_get hx; exact fall_step9 (by omega)) (fun k hk => by have := fall_bd l (by omega) k (by omega); omega))
    have HF := Lib.hid (ifrac_any (drw l b s (m + 1)) (fall l s) (by omega) (by omega) (by omega))
    obtain ⟨x, hx⟩ : ∃ x, drw l b s (m + 1) = x := ⟨_, rfl⟩
    obtain ⟨y, hy⟩ : ∃ y, fall l s = y := ⟨_, rfl⟩
    rw [hx] at HP HF d3 ⊢
    rw [hy] at HF d4 d5 ⊢
    obtain ⟨U, hU⟩ : ∃ U, fU x y = U := ⟨_, rfl⟩
    obtain ⟨D, hD⟩ : ∃ D, fD x y = D := ⟨_, rfl⟩
    rw [hU, hD] at HF ⊢
    have HY := Lib.hid hy
    clear hU hD hx hy d1 d2
    rw [hv] at HV
    clear hv p1 p2 p3 p4
    go_enter Try.func10, Try.ntmps10
    go_wp2_with fail
    rw [HW1.out, HW2.out]
    obtain ⟨a0, a1, a2, a3⟩ := HF2.out
    go_wp2_with fail
    refine (HV.out w2).mono ?_
    rintro e w3 ⟨rfl, hb3⟩
    have HB3 := Lib.hid hb3
    clear a0 a1 a2 a3 hb3
    obtain ⟨a0, a1, a2, a3⟩ := HF2.out.lift HB3.out
    go_wp2_with fail
    refine (HP.out w3).mono ?_
    rintro e w4 ⟨rfl, hb4⟩
    have HB4 := Lib.hid (HB3.out.trans (hb4.mono HB3.out.size))
    clear a0 a1 a2 a3 hb4
    go_wp2_with fail
    refine (HDF.out w4).mono ?_
    rintro e w5 ⟨rfl, hi5, hb5⟩
    have HI5 := Lib.hid hi5
    have HB5 := Lib.hid (HB4.out.trans (hb5.mono HB4.out.size))
    clear hi5 hb5
    go_wp2_with fail
    refine (HPR.out _ _ w5 HI5.out).mono ?_
    rintro e w' ⟨rfl, rfl⟩
    rw [HY.out]
    go_wp2_with fail
    refine (HF.out w').mono ?_
    rintro e w6 ⟨rfl, hb6⟩
    have HB6 := Lib.hid (HB5.out.trans (hb6.mono HB5.out.size))
    clear hb6
    have HE := Lib.hid (HEND.out w6 HB6.out U D)
    obtain ⟨⟨r0, z0⟩, r1, z1⟩ := HT2.out.lift HB6.out
    go_wp2_with fail
    have v0 := HE.out.1.1.1
    have v1 := HE.out.1.2.1
    exact bodyPost_ret (v := .tuple #[.agg #[.int .i64 U, .int .i64 D], .bool true]) (by simp [results, Try.results10, go_sem, v0, v1]) rfl ⟨rfl, HE.out.2⟩
end Go.Proofs.Ytkebdelfklmigab
