import Derived.Test.YtkjmpkincaainadRows
import Derived.WalkKit
import Derived.LoopTactic
import Derived.Outline
import Derived.WalkSpells
import Derived.WalkLawsBesides
import Derived.ProofKit
import Derived.Lib.Hide
import Derived.IntWalk
import Derived.Deep.QuietTactic
import Derived.BigQuiet
import Derived.Shelf.RegionOpenPlain
import Derived.Test.YtkjmpkincaainadM0
import Derived.Test.YtkjmpkincaainadM6
import Derived.Test.YtkjmpkincaainadM11
import Derived.Test.YtkjmpkincaainadM7
import Derived.Deep.RegionHeld3
import Derived.Test.YtkjmpkincaainadM1
import Derived.Test.YtkjmpkincaainadM4
import Derived.Test.YtkjmpkincaainadM5
import Derived.Test.YtkjmpkincaainadM12
namespace Go.Proofs.Ytkjmpkincaainad
open Go.RowKit Go.WideShapes

def fU (T C : Nat) : Nat := T / Nat.gcd T C
def fD (T C : Nat) : Nat := C / Nat.gcd T C
theorem gcd_step {a b : Nat} : Nat.gcd a b = Nat.gcd b (a % b) := by rw [Nat.gcd_comm b, Nat.gcd_comm a b, ← Nat.gcd_rec, Nat.gcd_comm]
theorem gcd_le8 {T C : Nat} (hC : 1 ≤ C) : 1 ≤ Nat.gcd T C ∧ Nat.gcd T C ≤ C := ⟨Nat.gcd_pos_of_pos_right _ hC, Nat.le_of_dvd hC (Nat.gcd_dvd_right _ _)⟩
/-- what a call of fractions hands back -/
def FracP (w : World) (U D : Nat) (e : Ending) (w' : World) : Prop := e = .returned (.agg #[.int .i64 U, .int .i64 D]) ∧ Below w.heap.size w w'
set_option maxRecDepth 100000 in
set_option maxHeartbeats 1000000 in
theorem lless_any (U D U' D' : Nat) (h : U ≤ 100000 ∧ D ≤ 100000 ∧ U' ≤ 100000 ∧ D' ≤ 100000) (w : World) :
    Calls Try.prog 13 #[.agg #[.int .i64 U, .int .i64 D], .agg #[.int .i64 U', .int .i64 D']] w (valN w (.bool (decide ((U : Int) * D' < (U' : Int) * D)))) := by
  have b1 : 0 ≤ (U : Int) * D' ∧ (U : Int) * D' ≤ 100000 * 100000 := ⟨Int.mul_nonneg (by omega) (by omega), Int.mul_le_mul (by omega) (by omega) (by omega) (by omega)⟩
  have b2 : 0 ≤ (U' : Int) * D ∧ (U' : Int) * D ≤ 100000 * 100000 := ⟨Int.mul_nonneg (by omega) (by omega), Int.mul_le_mul (by omega) (by omega) (by omega) (by omega)⟩
  obtain ⟨x, hx⟩ : ∃ x, (U : Int) * D' = x := ⟨_, rfl⟩
  obtain ⟨y, hy⟩ : ∃ y, (U' : Int) * D = y := ⟨_, rfl⟩
  go_enter Try.func13, Try.ntmps13
  go_wp2_with fail
  go_ret
  subst hx
  subst hy
  exact ⟨rfl, ((Below.refl _ w).alloc (Nat.le_refl _) _).alloc (by simp) _⟩
set_option maxRecDepth 100000 in
set_option maxHeartbeats 1000000 in
theorem ifrac_any (T C : Nat) (hT : T ≤ 1000000000) (hC : 1 ≤ C) (hC2 : C ≤ 1000000000) (w : World) :
    Calls Try.prog 33 #[.int .i64 T, .int .i64 C] w (FracP w (fU T C) (fD T C)) := by
  obtain ⟨g0, g1⟩ := gcd_le8 (T := T) hC
  have HU : Hid (((fU T C : Nat) : Int) = (T : Int) / ((Nat.gcd T C : Nat) : Int)) := Lib.hid (by unfold fU; push_cast; rfl)
  have HD : Hid (((fD T C : Nat) : Int) = (C : Int) / ((Nat.gcd T C : Nat) : Int)) := Lib.hid (by unfold fD; push_cast; rfl)
  unfold FracP
  rw [HU.out, HD.out]
  obtain ⟨G, hG⟩ : ∃ G, Nat.gcd T C = G := ⟨_, rfl⟩
  rw [hG] at HU HD g0 g1 ⊢
  have HGG := Lib.hid hG
  clear hG
  go_enter Try.func33, Try.ntmps33
  go_wp2_with fail
  have cz : (w.alloc (.cells #[.int .i64 0, .int .i64 0] 32)).cell? ⟨w.heap.size, 0, none⟩ = some (.int .i64 0) ∧ (w.alloc (.cells #[.int .i64 0, .int .i64 0] 32)).cell? ⟨w.heap.size, 1, none⟩ = some (.int .i64 0) := ⟨by rw [World.cell?_alloc_new]; rfl, by rw [World.cell?_alloc_new]; rfl⟩
  have fz : ∀ q, (w.alloc (.cells #[.int .i64 0, .int .i64 0] 32)).frozen? ⟨w.heap.size, q, none⟩ = false := fun q => World.frozen?_alloc_new w _ _ _
  have hb0 := (Below.refl w.heap.size w).alloc (Nat.le_refl _) (.cells #[.int .i64 0, .int .i64 0] 32)
  generalize (w.alloc (.cells #[.int .i64 0, .int .i64 0] 32)) = w1 at *
  go_loopw [5, 6] (fun x y wr => ∃ a b : Nat, x = .int .i64 a ∧ y = .int .i64 b ∧ 1 ≤ a ∧ a ≤ 1000000000 ∧ b ≤ 1000000000 ∧ Nat.gcd a b = G ∧ Drew w1 wr) (fun _ y _ => (intOf y).toNat)
  case atStart => exact ⟨C, T, rfl, rfl, hC, hC2, hT, by rw [← HGG.out]; exact Nat.gcd_comm _ _, Drew.refl _⟩
  case round =>
    obtain ⟨a, b, rfl, rfl, ha1, ha, hb, hg, hd⟩ := hrel
    by_cases hb0 : b = 0
    · subst hb0
      have h0 : ¬ (0 : Int) < ((0 : Nat) : Int) := by omega
      rw [Nat.gcd_zero_right] at hg
      subst hg
      obtain ⟨q, rfl⟩ := hd
      have c0 : (w1.drewN q).cell? ⟨w.heap.size, 0, none⟩ = some (.int .i64 0) := cz.1
      have c1 : (w1.drewN q).cell? ⟨w.heap.size, 1, none⟩ = some (.int .i64 0) := cz.2
      have f0 : (w1.drewN q).frozen? ⟨w.heap.size, 0, none⟩ = false := fz 0
      have f1 : (w1.drewN q).frozen? ⟨w.heap.size, 1, none⟩ = false := fz 1
      have HB := Lib.hid (below_drewN hb0 q)
      clear cz fz hb0
      generalize w1.drewN q = w2 at *
      have a1 : 0 ≤ (T : Int) / (a : Int) := Int.ediv_nonneg (by omega) (by omega)
      have a2 : (T : Int) / (a : Int) ≤ T := Int.ediv_le_self _ (by omega)
      have a3 : 0 ≤ (C : Int) / (a : Int) := Int.ediv_nonneg (by omega) (by omega)
      have a4 : (C : Int) / (a : Int) ≤ C := Int.ediv_le_self _ (by omega)
      have hg0 : ¬ (a : Int) = 0 := by omega
      have hgz : ¬ a = 0 := by omega
      go_wp2_with fail
      have mixed : Try.prog.follows .mixedOrders = true := by kernel_rfl
      go_region_o
      clear mixed
      go_wp2_with fail
      refine bodyPost_ret (v := .agg #[.int .i64 ((T : Int) / (a : Int)), .int .i64 ((C : Int) / (a : Int))]) (by simp [results, Try.results33, go_sem, c0, c1]) rfl ⟨rfl, ?_⟩
      exact ((HB.out.setCell (Nat.le_refl _) _).setCell (Nat.le_refl _) _).drew
    · have h0 : (0 : Int) < (b : Int) := by omega
      have HG := Lib.hid hg
      have e1 : 0 ≤ (a : Int) % (b : Int) := Int.emod_nonneg _ (by omega)
      have e2 : (a : Int) % (b : Int) < (b : Int) := Int.emod_lt_of_pos _ (by omega)
      have e3 : a % b < b := Nat.mod_lt _ (by omega)
      clear hg
      go_wp2_with fail
      go_quiet (fail)
      go_wp2_with fail
      go_roundw
      case rel => exact ⟨b, a % b, rfl, by go_num, by omega, hb, by omega, by rw [← HG.out]; exact gcd_step.symm, hd.drew _⟩
      case measure => simp [intOf] <;> omega
set_option maxRecDepth 100000 in
set_option maxHeartbeats 1000000 in
theorem atMost_any8 (U D U' D' : Nat) (h : U ≤ 100000 ∧ D ≤ 100000 ∧ U' ≤ 100000 ∧ D' ≤ 100000) (w : World) :
    Calls Try.prog 53 #[.agg #[.int .i64 U, .int .i64 D], .agg #[.int .i64 U', .int .i64 D']] w (valN w (.bool (decide ((U : Int) * D' ≤ (U' : Int) * D)))) := by
  have b1 : 0 ≤ (U : Int) * D' ∧ (U : Int) * D' ≤ 100000 * 100000 := ⟨Int.mul_nonneg (by omega) (by omega), Int.mul_le_mul (by omega) (by omega) (by omega) (by omega)⟩
  have b2 : 0 ≤ (U' : Int) * D ∧ (U' : Int) * D ≤ 100000 * 100000 := ⟨Int.mul_nonneg (by omega) (by omega), Int.mul_le_mul (by omega) (by omega) (by omega) (by omega)⟩
  obtain ⟨x, hx⟩ : ∃ x, (U : Int) * D' = x := ⟨_, rfl⟩
  obtain ⟨y, hy⟩ : ∃ y, (U' : Int) * D = y := ⟨_, rfl⟩
  go_enter Try.func53, Try.ntmps53
  go_wp2_with fail
  go_ret
  subst hx
  subst hy
  exact ⟨rfl, ((Below.refl _ w).alloc (Nat.le_refl _) _).alloc (by simp) _⟩
theorem frac_tie {U D U' D' : Nat} (hc : Nat.gcd U D = 1) (hc' : Nat.gcd U' D' = 1) (hD : 1 ≤ D) (hl : ¬ (U : Int) * D' < (U' : Int) * D) (hle : (U : Int) * D' ≤ (U' : Int) * D) : U = U' ∧ D = D' := by
  refine cop_unique hc hc' hD ?_
  have : (U : Int) * (D' : Int) = (U' : Int) * (D : Int) := by omega
  exact_mod_cast this
set_option maxRecDepth 100000 in
set_option maxHeartbeats 1000000 in
theorem greater_any (U D U' D' : Nat) (h : U ≤ 100000 ∧ D ≤ 100000 ∧ U' ≤ 100000 ∧ D' ≤ 100000) (hc : Nat.gcd U D = 1) (hc' : Nat.gcd U' D' = 1) (hD : 1 ≤ D) (w : World) :
    Calls Try.prog 34 #[.agg #[.int .i64 U, .int .i64 D], .agg #[.int .i64 U', .int .i64 D']] w (FracP w (if (U : Int) * D' < (U' : Int) * D then U' else U) (if (U : Int) * D' < (U' : Int) * D then D' else D)) := by
  have HAT := Lib.hid (atMost_any8 U D U' D' h)
  have hA1 := two_new w (.int .i64 U) (.int .i64 D) 32
  have hb1 := (Below.refl w.heap.size w).alloc (Nat.le_refl _) (.cells #[.int .i64 (U : Int), .int .i64 (D : Int)] 32)
  have hz1 : (w.alloc (.cells #[.int .i64 (U : Int), .int .i64 (D : Int)] 32)).heap.size = w.heap.size + 1 := by simp
  obtain ⟨w1, hw1⟩ : ∃ w1, (w.alloc (.cells #[.int .i64 (U : Int), .int .i64 (D : Int)] 32)) = w1 := ⟨_, rfl⟩
  rw [hw1] at hA1 hb1 hz1
  have hB2 := two_new w1 (.int .i64 U') (.int .i64 D') 32
  have hb2 := hb1.alloc (by omega) (.cells #[.int .i64 (U' : Int), .int .i64 (D' : Int)] 32)
  have hA2 := hA1.block (w' := w1.alloc (.cells #[.int .i64 (U' : Int), .int .i64 (D' : Int)] 32)) (Below.heap_alloc _ _ _ (by omega))
  have hz2 : (w1.alloc (.cells #[.int .i64 (U' : Int), .int .i64 (D' : Int)] 32)).heap.size = w.heap.size + 2 := by simp; omega
  obtain ⟨w2, hw2⟩ : ∃ w2, (w1.alloc (.cells #[.int .i64 (U' : Int), .int .i64 (D' : Int)] 32)) = w2 := ⟨_, rfl⟩
  rw [hw2] at hB2 hb2 hz2 hA2
  have hZ3 := two_new w2 (.int .i64 0) (.int .i64 0) 32
  have hb3 := hb2.alloc (by omega) (.cells #[.int .i64 0, .int .i64 0] 32)
  have hA3 := hA2.block (w' := w2.alloc (.cells #[.int .i64 0, .int .i64 0] 32)) (Below.heap_alloc _ _ _ (by omega))
  have hB3 := hB2.block (w' := w2.alloc (.cells #[.int .i64 0, .int .i64 0] 32)) (Below.heap_alloc _ _ _ (by omega))
  obtain ⟨w3, hw3⟩ : ∃ w3, (w2.alloc (.cells #[.int .i64 0, .int .i64 0] 32)) = w3 := ⟨_, rfl⟩
  rw [hw3] at hZ3 hb3 hA3 hB3
  rw [hz1] at hB3
  rw [hz2] at hZ3
  have HW1 := Lib.hid hw1
  have HW2 := Lib.hid hw2
  have HW3 := Lib.hid hw3
  have HA := Lib.hid hA3
  have HB := Lib.hid hB3
  have HZ := Lib.hid hZ3
  have HBW := Lib.hid hb3
  clear hw1 hw2 hw3 hA1 hA2 hA3 hB2 hB3 hZ3 hb1 hb2 hb3 hz1 hz2
  by_cases hlt : (U : Int) * D' ≤ (U' : Int) * D
  · have e : (if (U : Int) * D' < (U' : Int) * D then U' else U) = U' ∧ (if (U : Int) * D' < (U' : Int) * D then D' else D) = D' := by
      by_cases hl : (U : Int) * D' < (U' : Int) * D
      · rw [if_pos hl, if_pos hl]; exact ⟨rfl, rfl⟩
      · rw [if_neg hl, if_neg hl]; exact frac_tie hc hc' hD hl hlt
    rw [e.1, e.2]
    rw [decide_eq_true hlt] at HAT
    clear e hlt
    go_enter Try.func34, Try.ntmps34
    go_wp2_with fail
    rw [HW1.out, HW2.out, HW3.out]
    have a0 := HA.out.1.1
    have a1 := HA.out.2.1
    have b0 := HB.out.1.1
    have b1 := HB.out.2.1
    go_wp2_with fail
    refine (HAT.out w3).mono ?_
    rintro e w4 ⟨rfl, hb4⟩
    clear a0 a1 b0 b1
    have HA4 := Lib.hid (HA.out.block (hb4.block _ HA.out.lt))
    have HB4 := Lib.hid (HB.out.block (hb4.block _ HB.out.lt))
    have HZ4 := Lib.hid (HZ.out.block (hb4.block _ HZ.out.lt))
    have HBB := Lib.hid (HBW.out.trans (hb4.mono HBW.out.size))
    clear hb4
    have x0 := HB4.out.1.1
    have x1 := HB4.out.2.1
    obtain ⟨⟨z0, z1⟩, z2, z3⟩ := HZ4.out
    have HVV := Lib.hid (And.intro ((HZ4.out.set0 (.int .i64 U')).set1 (.int .i64 D')).1.1 ((HZ4.out.set0 (.int .i64 U')).set1 (.int .i64 D')).2.1)
    go_wp2_with fail
    obtain ⟨v0, v1⟩ := HVV.out
    exact bodyPost_ret (v := .agg #[.int .i64 U', .int .i64 D']) (by simp [results, Try.results34, go_sem, v0, v1]) rfl ⟨rfl, (HBB.out.setCell (p := ⟨w.heap.size + 2, 0, none⟩) (Nat.le_add_right _ _) _).setCell (p := ⟨w.heap.size + 2, 1, none⟩) (Nat.le_add_right _ _) _⟩
  · have hl : ¬ (U : Int) * D' < (U' : Int) * D := by omega
    rw [if_neg hl, if_neg hl]
    rw [decide_eq_false hlt] at HAT
    clear hl hlt
    go_enter Try.func34, Try.ntmps34
    go_wp2_with fail
    rw [HW1.out, HW2.out, HW3.out]
    have a0 := HA.out.1.1
    have a1 := HA.out.2.1
    have b0 := HB.out.1.1
    have b1 := HB.out.2.1
    go_wp2_with fail
    refine (HAT.out w3).mono ?_
    rintro e w4 ⟨rfl, hb4⟩
    clear a0 a1 b0 b1
    have HA4 := Lib.hid (HA.out.block (hb4.block _ HA.out.lt))
    have HB4 := Lib.hid (HB.out.block (hb4.block _ HB.out.lt))
    have HZ4 := Lib.hid (HZ.out.block (hb4.block _ HZ.out.lt))
    have HBB := Lib.hid (HBW.out.trans (hb4.mono HBW.out.size))
    clear hb4
    have x0 := HA4.out.1.1
    have x1 := HA4.out.2.1
    obtain ⟨⟨z0, z1⟩, z2, z3⟩ := HZ4.out
    have HVV := Lib.hid (And.intro ((HZ4.out.set0 (.int .i64 U)).set1 (.int .i64 D)).1.1 ((HZ4.out.set0 (.int .i64 U)).set1 (.int .i64 D)).2.1)
    go_wp2_with fail
    obtain ⟨v0, v1⟩ := HVV.out
    exact bodyPost_ret (v := .agg #[.int .i64 U, .int .i64 D]) (by simp [results, Try.results34, go_sem, v0, v1]) rfl ⟨rfl, (HBB.out.setCell (p := ⟨w.heap.size + 2, 0, none⟩) (Nat.le_add_right _ _) _).setCell (p := ⟨w.heap.size + 2, 1, none⟩) (Nat.le_add_right _ _) _⟩
end Go.Proofs.Ytkjmpkincaainad
namespace Go.Proofs.Ytkjmpkincaainad

-- the greatest pace, way by way (plain)
/-- 0 by 0 if there are none -/
def IsOpt (U D : Nat) (Q : Int → Nat → Prop) : Prop := (U = 0 ∧ D = 0 ∧ ∀ T C, ¬ Q T C) ∨ IsGr U D Q
theorem opt_bd {U D : Nat} {Q : Int → Nat → Prop} (h : IsOpt U D Q) : U ≤ 36 ∧ D ≤ 12 := by
  rcases h with ⟨rfl, rfl, _⟩ | h
  · omega
  · exact ⟨h.u36, h.d12⟩
theorem opt_gr {U D : Nat} {Q : Int → Nat → Prop} (h : IsOpt U D Q) (hd : D ≠ 0) : IsGr U D Q := by
  rcases h with ⟨_, e, _⟩ | h
  · exact absurd e hd
  · exact h
theorem opt_none {U D : Nat} {Q : Int → Nat → Prop} (h : IsOpt U D Q) (hd : D = 0) : ∀ T C, ¬ Q T C := by
  rcases h with ⟨_, _, h⟩ | h
  · exact h
  · have := h.d1; omega
theorem gr_orR {U D : Nat} {Q Q' R : Int → Nat → Prop} (h : IsGr U D Q) (h' : ∀ T C, ¬ Q' T C) (hR : ∀ T C, R T C ↔ Q T C ∨ Q' T C) : IsGr U D R :=
  gr_congr h fun T C => (hR T C).trans ⟨fun h => h.elim id (fun h2 => absurd h2 (h' T C)), .inl⟩
theorem gr_orL {U D : Nat} {Q Q' R : Int → Nat → Prop} (h : IsGr U D Q') (h' : ∀ T C, ¬ Q T C) (hR : ∀ T C, R T C ↔ Q T C ∨ Q' T C) : IsGr U D R :=
  gr_congr h fun T C => (hR T C).trans ⟨fun h => h.elim (fun h2 => absurd h2 (h' T C)) id, .inr⟩
theorem opt_none2 {U D : Nat} {Q Q' R : Int → Nat → Prop} (h : IsOpt U D Q) (h' : ∀ T C, ¬ Q' T C) (hR : ∀ T C, R T C ↔ Q T C ∨ Q' T C) : IsOpt U D R := by
  rcases h with ⟨e1, e2, h⟩ | h
  · exact .inl ⟨e1, e2, fun T C hr => ((hR T C).1 hr).elim (h T C) (h' T C)⟩
  · exact .inr (gr_orR h h' hR)
/-- what begins with way j -/
def Gr.Way (g : Gr) (s : Nat) (ok : Nat → Prop) (P : List Nat) (v : Nat) (T0 : Int) (C0 j : Nat) (T : Int) (C : Nat) : Prop :=
  g.f j = v ∧ ((g.t j = s ∧ T = T0 + g.tm v ∧ C = C0 + g.c j) ∨ (g.t j ≠ s ∧ ¬ g.t j ∈ P ∧ ok (g.t j) ∧ ∃ T' C', g.Back s ok (g.t j :: P) (g.t j) T' C' ∧ T = T0 + g.tm v + T' ∧ C = C0 + g.c j + C'))
def Gr.Ways (g : Gr) (s : Nat) (ok : Nat → Prop) (P : List Nat) (v : Nat) (T0 : Int) (C0 k : Nat) (T : Int) (C : Nat) : Prop := ∃ j, j < k ∧ g.Way s ok P v T0 C0 j T C
theorem ways_succ {g : Gr} {s : Nat} {ok : Nat → Prop} {P : List Nat} {v : Nat} {T0 : Int} {C0 k : Nat} (T : Int) (C : Nat) : g.Ways s ok P v T0 C0 (k + 1) T C ↔ g.Ways s ok P v T0 C0 k T C ∨ g.Way s ok P v T0 C0 k T C := by
  constructor
  · rintro ⟨j, hj, h⟩
    rcases Nat.lt_or_eq_of_le (Nat.le_of_lt_succ hj) with h1 | rfl
    · exact .inl ⟨j, h1, h⟩
    · exact .inr h
  · rintro (⟨j, hj, h⟩ | h)
    · exact ⟨j, by omega, h⟩
    · exact ⟨k, by omega, h⟩
theorem ways_zero {g : Gr} {s : Nat} {ok : Nat → Prop} {P : List Nat} {v : Nat} {T0 : Int} {C0 : Nat} (T : Int) (C : Nat) : ¬ g.Ways s ok P v T0 C0 0 T C := fun ⟨j, hj, _⟩ => by omega
/-- all that go on from v -/
def Gr.On (g : Gr) (s : Nat) (ok : Nat → Prop) (P : List Nat) (v : Nat) (T0 : Int) (C0 : Nat) (T : Int) (C : Nat) : Prop := ∃ T' C', g.Back s ok P v T' C' ∧ T = T0 + T' ∧ C = C0 + C'
theorem back_inv {g : Gr} {s : Nat} {ok : Nat → Prop} {P : List Nat} {v : Nat} {T : Int} {C : Nat} (h : g.Back s ok P v T C) : ∃ j, j < g.m ∧ g.f j = v ∧ ((g.t j = s ∧ T = g.tm v ∧ C = g.c j) ∨ (g.t j ≠ s ∧ ¬ g.t j ∈ P ∧ ok (g.t j) ∧ ∃ T' C', g.Back s ok (g.t j :: P) (g.t j) T' C' ∧ T = g.tm v + T' ∧ C = g.c j + C')) := by
  cases h with
  | close hk ht => exact ⟨_, hk, rfl, .inl ⟨ht, rfl, rfl⟩⟩
  | step hk h1 h2 h3 h4 => exact ⟨_, hk, rfl, .inr ⟨h1, h2, h3, _, _, h4, rfl, rfl⟩⟩
theorem on_ways {g : Gr} {s : Nat} {ok : Nat → Prop} {P : List Nat} {v : Nat} {T0 : Int} {C0 : Nat} (T : Int) (C : Nat) : g.On s ok P v T0 C0 T C ↔ g.Ways s ok P v T0 C0 g.m T C := by
  constructor
  · rintro ⟨T', C', hb, rfl, rfl⟩
    obtain ⟨j, hj, hf, h⟩ := back_inv hb
    refine ⟨j, hj, hf, ?_⟩
    rcases h with ⟨h1, rfl, rfl⟩ | ⟨h1, h2, h3, T2, C2, h4, rfl, rfl⟩
    · exact .inl ⟨h1, rfl, rfl⟩
    · exact .inr ⟨h1, h2, h3, T2, C2, h4, by omega, by omega⟩
  · rintro ⟨j, hj, rfl, h⟩
    rcases h with ⟨h1, rfl, rfl⟩ | ⟨h1, h2, h3, T2, C2, h4, rfl, rfl⟩
    · exact ⟨_, _, .close hj h1, rfl, rfl⟩
    · exact ⟨_, _, .step hj h1 h2 h3 h4, by omega, by omega⟩
theorem back_mem {g : Gr} {s : Nat} {ok : Nat → Prop} {P : List Nat} {v : Nat} {T : Int} {C : Nat} (h : g.Back s ok P v T C) : ∀ {P' : List Nat}, (∀ x, x ∈ P' ↔ x ∈ P) → g.Back s ok P' v T C := by
  induction h with
  | close hk ht => intro P' _; exact .close hk ht
  | step hk h1 h2 h3 _ ih =>
    intro P' hP
    exact .step hk h1 (fun h => h2 ((hP _).1 h)) h3 (ih (fun x => by rw [List.mem_cons, List.mem_cons, hP x]))
/-- a way that goes on, by what goes on from its end -/
theorem way_on {g : Gr} {s : Nat} {ok : Nat → Prop} {P P' : List Nat} {v j : Nat} {T0 : Int} {C0 : Nat} (hf : g.f j = v) (h1 : g.t j ≠ s) (h2 : ¬ g.t j ∈ P) (h3 : ok (g.t j)) (hP : ∀ x, x ∈ P' ↔ x = g.t j ∨ x ∈ P) (T : Int) (C : Nat) :
    g.Way s ok P v T0 C0 j T C ↔ g.On s ok P' (g.t j) (T0 + g.tm v) (C0 + g.c j) T C := by
  constructor
  · rintro ⟨_, ⟨h, _⟩ | ⟨_, _, _, T2, C2, h4, e1, e2⟩⟩
    · exact absurd h h1
    · exact ⟨T2, C2, back_mem h4 (fun x => by rw [hP x, List.mem_cons]), e1, e2⟩
  · rintro ⟨T2, C2, h4, e1, e2⟩
    exact ⟨hf, .inr ⟨h1, h2, h3, T2, C2, back_mem h4 (fun x => by rw [hP x, List.mem_cons]), e1, e2⟩⟩
theorem way_close {g : Gr} {s : Nat} {ok : Nat → Prop} {P : List Nat} {v j : Nat} {T0 : Int} {C0 : Nat} (hf : g.f j = v) (h1 : g.t j = s) (T : Int) (C : Nat) :
    g.Way s ok P v T0 C0 j T C ↔ (T = T0 + g.tm v ∧ C = C0 + g.c j) := by
  constructor
  · rintro ⟨_, ⟨_, h⟩ | ⟨h, _⟩⟩
    · exact h
    · exact absurd h1 h
  · rintro h
    exact ⟨hf, .inl ⟨h1, h⟩⟩
theorem way_none {g : Gr} {s : Nat} {ok : Nat → Prop} {P : List Nat} {v j : Nat} {T0 : Int} {C0 : Nat} (h : g.f j ≠ v ∨ (g.t j ≠ s ∧ (g.t j ∈ P ∨ ¬ ok (g.t j)))) (T : Int) (C : Nat) : ¬ g.Way s ok P v T0 C0 j T C := by
  rintro ⟨hf, ⟨h1, _⟩ | ⟨h1, h2, h3, _⟩⟩
  · rcases h with h | ⟨h, _⟩
    · exact h hf
    · exact h h1
  · rcases h with h | ⟨_, h | h⟩
    · exact h hf
    · exact h2 h
    · exact h h3
/-- the pace that is put beside another one -/
def pairU (U D U' D' : Nat) : Nat := if D' ≠ 0 ∧ (D = 0 ∨ (U : Int) * D' < (U' : Int) * D) then U' else U
def pairD (U D U' D' : Nat) : Nat := if D' ≠ 0 ∧ (D = 0 ∨ (U : Int) * D' < (U' : Int) * D) then D' else D
theorem opt_join {U D U' D' : Nat} {Q Q' R : Int → Nat → Prop} (h : IsOpt U D Q) (h' : IsOpt U' D' Q') (hR : ∀ T C, R T C ↔ Q T C ∨ Q' T C) : IsOpt (pairU U D U' D') (pairD U D U' D') R := by
  unfold pairU pairD
  split
  · rename_i hc
    obtain ⟨h1, h2⟩ := hc
    have g' := opt_gr h' h1
    by_cases hD : D = 0
    · exact .inr (gr_orL g' (opt_none h hD) hR)
    · rcases h2 with h2 | h2
      · exact absurd h2 hD
      · exact .inr (gr_right (opt_gr h hD) g' h2 hR)
  · rename_i hc
    by_cases hD' : D' = 0
    · exact opt_none2 h (opt_none h' hD') hR
    · have hD : D ≠ 0 := fun e => hc ⟨hD', .inl e⟩
      exact .inr (gr_left (opt_gr h hD) (opt_gr h' hD') (fun e => hc ⟨hD', .inr e⟩) hR)
theorem opt_one {T C : Nat} (hT : T ≤ 36) (hC : 1 ≤ C) (hC2 : C ≤ 12) {Q : Int → Nat → Prop} (hQ : ∀ t c, Q t c ↔ (t = (T : Int) ∧ c = C)) : IsGr (T / Nat.gcd T C) (C / Nat.gcd T C) Q := gr_congr (gr_one hT hC hC2) hQ
/-- the rounds from s on, of those before k -/
def Gr.Upto (g : Gr) (k : Nat) (ok : Nat → Nat → Prop) (T : Int) (C : Nat) : Prop := ∃ s, s < k ∧ g.Back s (ok s) [s] s T C
theorem upto_succ {g : Gr} {k : Nat} {ok : Nat → Nat → Prop} (T : Int) (C : Nat) : g.Upto (k + 1) ok T C ↔ g.Upto k ok T C ∨ g.On k (ok k) [k] k 0 0 T C := by
  constructor
  · rintro ⟨s, hs, h⟩
    rcases Nat.lt_or_eq_of_le (Nat.le_of_lt_succ hs) with h1 | rfl
    · exact .inl ⟨s, h1, h⟩
    · exact .inr ⟨T, C, h, by omega, by omega⟩
  · rintro (⟨s, hs, h⟩ | ⟨T', C', h, e1, e2⟩)
    · exact ⟨s, by omega, h⟩
    · have e3 : T = T' := by omega
      have e4 : C = C' := by omega
      subst e3
      subst e4
      exact ⟨k, by omega, h⟩
end Go.Proofs.Ytkjmpkincaainad
namespace Go.Proofs.Ytkjmpkincaainad

-- paths (plain)
def lastD (X : List Nat) : Nat := X.getLastD 0
theorem last_get {X : List Nat} (h : X ≠ []) : X[X.length - 1]? = some (X.getLastD 0) := by
  rw [← List.getLast?_eq_getElem?, List.getLastD_eq_getLast?]
  cases hx : X.getLast? with
  | none => exact absurd (List.getLast?_eq_none_iff.1 hx) h
  | some a => rfl
theorem last_snoc (X : List Nat) (a : Nat) : (X ++ [a]).getLastD 0 = a := by simp
/-- what is known of a path -/
structure PathOk (g : Gr) (rk : Nat → Nat) (X : List Nat) (s : Nat) (T0 C0 : Nat) : Prop where
  head : X[0]? = some s
  nodup : X.Nodup
  lt : ∀ v ∈ X, v < g.n
  t : T0 ≤ 9 * (X.length - 1)
  c : C0 ≤ 3 * (X.length - 1)
  rank : C0 = 0 → rk s ≤ rk (X.getLastD 0)
theorem PathOk.len {g : Gr} {rk : Nat → Nat} {X : List Nat} {s T0 C0 : Nat} (h : PathOk g rk X s T0 C0) : 1 ≤ X.length ∧ X.length ≤ g.n ∧ X ≠ [] ∧ X.getLastD 0 ∈ X ∧ s ∈ X := by
  have h1 := (List.getElem?_eq_some_iff.1 h.head).1
  have hne : X ≠ [] := by rintro rfl; simp at h1
  exact ⟨h1, nodup_short g.n X h.nodup h.lt, hne, List.mem_of_getElem? (last_get hne), List.mem_of_getElem? h.head⟩
theorem path_step {g : Gr} (hg : g.Ok) {rk : Nat → Nat} (hr : g.Rank rk) {X : List Nat} {s T0 C0 j tmv : Nat} (h : PathOk g rk X s T0 C0) (hj : j < g.m) (hf : g.f j = X.getLastD 0) (hn : ¬ g.t j ∈ X) (htm : g.tm (X.getLastD 0) = (tmv : Int)) : PathOk g rk (X ++ [g.t j]) s (T0 + tmv) (C0 + g.c j) := by
  obtain ⟨h1, h2, h3, h4, h5⟩ := h.len
  have hw := hg.ways j hj
  have ht := hg.times (X.getLastD 0)
  have hT := h.t
  have hC := h.c
  refine ⟨by rw [List.getElem?_append_left h1]; exact h.head, (List.perm_append_singleton _ _).symm.nodup (List.nodup_cons.2 ⟨hn, h.nodup⟩), fun v hv => ?_, by rw [List.length_append]; simp; omega, by rw [List.length_append]; simp; omega, fun h0 => ?_⟩
  · rcases List.mem_append.1 hv with hv | hv
    · exact h.lt v hv
    · simp only [List.mem_singleton] at hv; subst hv; exact hw.2.1
  · rw [last_snoc]
    have a1 := h.rank (by omega)
    have a2 := hr.2 j hj (by omega)
    rw [hf] at a2
    omega
theorem path_close {g : Gr} {rk : Nat → Nat} (hr : g.Rank rk) {X : List Nat} {s T0 C0 j : Nat} (h : PathOk g rk X s T0 C0) (hj : j < g.m) (hf : g.f j = X.getLastD 0) (ht : g.t j = s) : 1 ≤ C0 + g.c j := by
  rcases Nat.eq_zero_or_pos (C0 + g.c j) with e | e
  · have a1 := h.rank (by omega)
    have a2 := hr.2 j hj (by omega)
    rw [hf, ht] at a2
    omega
  · exact e
end Go.Proofs.Ytkjmpkincaainad
namespace Go.Proofs.Ytkjmpkincaainad
open Go.RowKit Go.WideShapes

/-- what is as it was in wj is as it was in a world like it -/
theorem below_back {B : Nat} {a b c : World} (h : Below B a c) (g : Below B a b) (hs : b.heap.size ≤ c.heap.size) : Below B b c := ⟨h.os.trans g.os.symm, h.tape.trans g.tape.symm, h.output.trans g.output.symm, hs, fun k hk => (h.block k hk).trans (g.block k hk).symm⟩
theorem path5 {w : World} {B g l c : Nat} {X : List Nat} {x : Nat} (h : w.ownsRow B 3 1 (.slice (some ⟨g, 0, none⟩) (l + 1) c) (l + 1) ((natD X ++ [(x : Int)]).map (.int .i64))) (hl : l + 1 ≤ 9223372036854775807) : IntsAt w (· < w.heap.size) (some ⟨g, 0, none⟩) (l + 1) (natD (X ++ [x])) := by
  have e : natD X ++ [(x : Int)] = natD (X ++ [x]) := by simp [natD]
  rw [e] at h
  obtain ⟨a', c', e', _, h'⟩ := own_ints h hl
  injection e' with e1 _ _
  subst e1
  exact h'.to fun b hb => ⟨hb.2, rfl⟩
/-- a pace, of what goes on -/
def PacePost (w : World) (Q : Int → Nat → Prop) (e : Ending) (w' : World) : Prop := ∃ U D : Nat, e = .returned (.agg #[.int .i64 U, .int .i64 D]) ∧ IsOpt U D Q ∧ Below w.heap.size w w'
end Go.Proofs.Ytkjmpkincaainad
namespace Go.Proofs.Ytkjmpkincaainad
open Go.RowKit Go.WideShapes

end Go.Proofs.Ytkjmpkincaainad
