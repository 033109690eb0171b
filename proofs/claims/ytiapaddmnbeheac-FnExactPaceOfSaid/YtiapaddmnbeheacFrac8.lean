import Derived.Test.YtiapaddmnbeheacRows
import Derived.WalkKit
import Derived.LoopTactic
import Derived.Outline
import Derived.WalkSpells
import Derived.WalkLawsBesides
import Derived.ProofKit
import Derived.Lib.Hide
import Derived.IntWalk
import Derived.Deep.QuietTactic
import Derived.BigQuiet
import Derived.Shelf.RegionOpenPlain
import Derived.Test.YtiapaddmnbeheacLib
import Derived.Test.YtiapaddmnbeheacNetAt
import Derived.Test.YtiapaddmnbeheacTokF
namespace Go.Proofs.Ytiapaddmnbeheac
open Go.RowKit Go.WideShapes

def fU (T C : Nat) : Nat := T / Nat.gcd T C
def fD (T C : Nat) : Nat := C / Nat.gcd T C
theorem gcd_step {a b : Nat} : Nat.gcd a b = Nat.gcd b (a % b) := by rw [Nat.gcd_comm b, Nat.gcd_comm a b, ← Nat.gcd_rec, Nat.gcd_comm]
theorem gcd_le8 {T C : Nat} (hC : 1 ≤ C) : 1 ≤ Nat.gcd T C ∧ Nat.gcd T C ≤ C := ⟨Nat.gcd_pos_of_pos_right _ hC, Nat.le_of_dvd hC (Nat.gcd_dvd_right _ _)⟩
set_option maxRecDepth 100000 in
theorem gcd_any (T C : Nat) (hT : T ≤ 100000) (hC : 1 ≤ C) (hC2 : C ≤ 100000) (w : World) :
    Calls Try.prog 53 #[.int .i64 T, .int .i64 C] w fun e w' => e = .returned (.int .i64 (Nat.gcd T C : Nat)) ∧ w' = w := by
  go_enter Try.func53, Try.ntmps53
  go_wp2
  go_loop [0, 1, 5] (fun x y _ => ∃ a b : Nat, x = .int .i64 a ∧ y = .int .i64 b ∧ a ≤ 100000 ∧ b ≤ 100000 ∧ Nat.gcd a b = Nat.gcd T C) (fun _ y _ => (intOf y).toNat)
  case atStart => exact ⟨T, C, rfl, rfl, hT, hC2, rfl⟩
  case round =>
    obtain ⟨a, b, rfl, rfl, ha, hb, hg⟩ := hrel
    by_cases hb0 : b = 0
    · subst hb0
      have h0 : (((0 : Nat) : Int) != 0) = false := rfl
      rw [Nat.gcd_zero_right] at hg
      have HG := Lib.hid hg
      clear hg
      have hm : ¬ (a : Int) < -(a : Int) := by omega
      have hm2 : max (a : Int) (-(a : Int)) = (a : Int) := by omega
      go_wp2
      go_ret
      exact ⟨ret_int (by rw [← HG.out]), rfl⟩
    · have h0 : ((b : Int) != 0) = true := by simp; omega
      have HG := Lib.hid hg
      have e1 : 0 ≤ (a : Int) % (b : Int) := Int.emod_nonneg _ (by omega)
      have e2 : (a : Int) % (b : Int) < (b : Int) := Int.emod_lt_of_pos _ (by omega)
      have e3 : a % b < b := Nat.mod_lt _ (by omega)
      clear hg
      go_wp2
      go_round
      case rel => exact ⟨b, a % b, rfl, by go_num, hb, by omega, by rw [← HG.out]; exact gcd_step.symm⟩
      case measure => simp [intOf] <;> omega
set_option maxRecDepth 100000 in
theorem divisor_any (T C : Nat) (hT : T ≤ 100000) (hC : 1 ≤ C) (hC2 : C ≤ 100000) (w : World) :
    Calls Try.prog 11 #[.int .i64 T, .int .i64 C] w fun e w' => e = .returned (.int .i64 (Nat.gcd T C : Nat)) ∧ w' = w := by
  go_enter Try.func11, Try.ntmps11
  go_wp2
  go_loop [0, 1, 5] (fun x y _ => ∃ a b : Nat, x = .int .i64 a ∧ y = .int .i64 b ∧ a ≤ 100000 ∧ b ≤ 100000 ∧ Nat.gcd a b = Nat.gcd T C) (fun _ y _ => (intOf y).toNat)
  case atStart => exact ⟨T, C, rfl, rfl, hT, hC2, rfl⟩
  case round =>
    obtain ⟨a, b, rfl, rfl, ha, hb, hg⟩ := hrel
    by_cases hb0 : b = 0
    · subst hb0
      have h0 : (((0 : Nat) : Int) != 0) = false := rfl
      rw [Nat.gcd_zero_right] at hg
      have HG := Lib.hid hg
      clear hg
      have hm : ¬ (a : Int) < -(a : Int) := by omega
      have hm2 : max (a : Int) (-(a : Int)) = (a : Int) := by omega
      go_wp2
      go_ret
      exact ⟨ret_int (by rw [← HG.out]), rfl⟩
    · have h0 : ((b : Int) != 0) = true := by simp; omega
      have HG := Lib.hid hg
      have e1 : 0 ≤ (a : Int) % (b : Int) := Int.emod_nonneg _ (by omega)
      have e2 : (a : Int) % (b : Int) < (b : Int) := Int.emod_lt_of_pos _ (by omega)
      have e3 : a % b < b := Nat.mod_lt _ (by omega)
      clear hg
      go_wp2
      go_round
      case rel => exact ⟨b, a % b, rfl, by go_num, hb, by omega, by rw [← HG.out]; exact gcd_step.symm⟩
      case measure => simp [intOf] <;> omega
/-- what a call of fractions hands back -/
def FracP (w : World) (U D : Nat) (e : Ending) (w' : World) : Prop := e = .returned (.agg #[.int .i64 U, .int .i64 D]) ∧ Below w.heap.size w w'
set_option maxRecDepth 100000 in
set_option maxHeartbeats 1000000 in
theorem frac_any (T C : Nat) (hT : T ≤ 100000) (hC : 1 ≤ C) (hC2 : C ≤ 100000) (w : World) :
    Calls Try.prog 49 #[.int .i64 T, .int .i64 C] w (FracP w (fU T C) (fD T C)) := by
  have HG := Lib.hid (gcd_any T C hT hC hC2)
  obtain ⟨g0, g1⟩ := gcd_le8 (T := T) hC
  have HU : Hid (((fU T C : Nat) : Int) = (T : Int) / ((Nat.gcd T C : Nat) : Int)) := Lib.hid (by unfold fU; push_cast; rfl)
  have HD : Hid (((fD T C : Nat) : Int) = (C : Int) / ((Nat.gcd T C : Nat) : Int)) := Lib.hid (by unfold fD; push_cast; rfl)
  unfold FracP
  generalize hgg : Nat.gcd T C = G at HG HU HD g0 g1
  clear hgg
  rw [HU.out, HD.out]
  have a1 : 0 ≤ (T : Int) / (G : Int) := Int.ediv_nonneg (by omega) (by omega)
  have a2 : (T : Int) / (G : Int) ≤ T := Int.ediv_le_self _ (by omega)
  have a3 : 0 ≤ (C : Int) / (G : Int) := Int.ediv_nonneg (by omega) (by omega)
  have a4 : (C : Int) / (G : Int) ≤ C := Int.ediv_le_self _ (by omega)
  have hg0 : ¬ (G : Int) = 0 := by omega
  have hgz : ¬ G = 0 := by omega
  have hC0 : ¬ (C : Int) < 0 := by omega
  go_enter Try.func49, Try.ntmps49
  go_wp2_with fail
  refine (HG.out _).mono ?_
  rintro e w' ⟨rfl, rfl⟩
  go_wp2_with fail
  have mixed : Try.prog.follows .mixedOrders = true := by kernel_rfl
  go_region_o
  clear mixed
  go_wp2_with fail
  refine bodyPost_ret (v := .agg #[.int .i64 ((T : Int) / (G : Int)), .int .i64 ((C : Int) / (G : Int))]) (by simp [results, Try.results49, go_sem]) rfl ⟨rfl, ?_⟩
  exact ((Below.refl _ w).alloc (Nat.le_refl _) _).drew
set_option maxRecDepth 100000 in
set_option maxHeartbeats 1000000 in
theorem lfrac_any (T C : Nat) (hT : T ≤ 100000) (hC : 1 ≤ C) (hC2 : C ≤ 100000) (w : World) :
    Calls Try.prog 20 #[.int .i64 T, .int .i64 C] w (FracP w (fU T C) (fD T C)) := by
  have HG := Lib.hid (divisor_any T C hT hC hC2)
  obtain ⟨g0, g1⟩ := gcd_le8 (T := T) hC
  have HU : Hid (((fU T C : Nat) : Int) = (T : Int) / ((Nat.gcd T C : Nat) : Int)) := Lib.hid (by unfold fU; push_cast; rfl)
  have HD : Hid (((fD T C : Nat) : Int) = (C : Int) / ((Nat.gcd T C : Nat) : Int)) := Lib.hid (by unfold fD; push_cast; rfl)
  unfold FracP
  generalize hgg : Nat.gcd T C = G at HG HU HD g0 g1
  clear hgg
  rw [HU.out, HD.out]
  have a1 : 0 ≤ (T : Int) / (G : Int) := Int.ediv_nonneg (by omega) (by omega)
  have a2 : (T : Int) / (G : Int) ≤ T := Int.ediv_le_self _ (by omega)
  have a3 : 0 ≤ (C : Int) / (G : Int) := Int.ediv_nonneg (by omega) (by omega)
  have a4 : (C : Int) / (G : Int) ≤ C := Int.ediv_le_self _ (by omega)
  have hg0 : ¬ (G : Int) = 0 := by omega
  have hgz : ¬ G = 0 := by omega
  have hC0 : ¬ (C : Int) < 0 := by omega
  go_enter Try.func20, Try.ntmps20
  go_wp2_with fail
  refine (HG.out _).mono ?_
  rintro e w' ⟨rfl, rfl⟩
  go_wp2_with fail
  have mixed : Try.prog.follows .mixedOrders = true := by kernel_rfl
  go_region_o
  clear mixed
  go_wp2_with fail
  refine bodyPost_ret (v := .agg #[.int .i64 ((T : Int) / (G : Int)), .int .i64 ((C : Int) / (G : Int))]) (by simp [results, Try.results20, go_sem]) rfl ⟨rfl, ?_⟩
  exact ((Below.refl _ w).alloc (Nat.le_refl _) _).drew
set_option maxRecDepth 100000 in
set_option maxHeartbeats 1000000 in
theorem less_any (U D U' D' : Nat) (h : U ≤ 1000 ∧ D ≤ 1000 ∧ U' ≤ 1000 ∧ D' ≤ 1000) (w : World) :
    Calls Try.prog 51 #[.agg #[.int .i64 U, .int .i64 D], .agg #[.int .i64 U', .int .i64 D']] w (valN w (.bool (decide ((U : Int) * D' < (U' : Int) * D)))) := by
  have b1 : 0 ≤ (U : Int) * D' ∧ (U : Int) * D' ≤ 1000 * 1000 := ⟨Int.mul_nonneg (by omega) (by omega), Int.mul_le_mul (by omega) (by omega) (by omega) (by omega)⟩
  have b2 : 0 ≤ (U' : Int) * D ∧ (U' : Int) * D ≤ 1000 * 1000 := ⟨Int.mul_nonneg (by omega) (by omega), Int.mul_le_mul (by omega) (by omega) (by omega) (by omega)⟩
  obtain ⟨x, hx⟩ : ∃ x, (U : Int) * D' = x := ⟨_, rfl⟩
  obtain ⟨y, hy⟩ : ∃ y, (U' : Int) * D = y := ⟨_, rfl⟩
  go_enter Try.func51, Try.ntmps51
  go_wp2_with fail
  go_ret
  subst hx
  subst hy
  exact ⟨rfl, ((Below.refl _ w).alloc (Nat.le_refl _) _).alloc (by simp) _⟩
set_option maxRecDepth 100000 in
set_option maxHeartbeats 1000000 in
theorem lless_any (U D U' D' : Nat) (h : U ≤ 1000 ∧ D ≤ 1000 ∧ U' ≤ 1000 ∧ D' ≤ 1000) (w : World) :
    Calls Try.prog 19 #[.agg #[.int .i64 U, .int .i64 D], .agg #[.int .i64 U', .int .i64 D']] w (valN w (.bool (decide ((U : Int) * D' < (U' : Int) * D)))) := by
  have b1 : 0 ≤ (U : Int) * D' ∧ (U : Int) * D' ≤ 1000 * 1000 := ⟨Int.mul_nonneg (by omega) (by omega), Int.mul_le_mul (by omega) (by omega) (by omega) (by omega)⟩
  have b2 : 0 ≤ (U' : Int) * D ∧ (U' : Int) * D ≤ 1000 * 1000 := ⟨Int.mul_nonneg (by omega) (by omega), Int.mul_le_mul (by omega) (by omega) (by omega) (by omega)⟩
  obtain ⟨x, hx⟩ : ∃ x, (U : Int) * D' = x := ⟨_, rfl⟩
  obtain ⟨y, hy⟩ : ∃ y, (U' : Int) * D = y := ⟨_, rfl⟩
  go_enter Try.func19, Try.ntmps19
  go_wp2_with fail
  go_ret
  subst hx
  subst hy
  exact ⟨rfl, ((Below.refl _ w).alloc (Nat.le_refl _) _).alloc (by simp) _⟩
set_option maxRecDepth 100000 in
set_option maxHeartbeats 1000000 in
theorem ifrac_any (T C : Nat) (hT : T ≤ 100000) (hC : 1 ≤ C) (hC2 : C ≤ 100000) (w : World) :
    Calls Try.prog 24 #[.int .i64 T, .int .i64 C] w (FracP w (fU T C) (fD T C)) := by
  obtain ⟨g0, g1⟩ := gcd_le8 (T := T) hC
  have HU : Hid (((fU T C : Nat) : Int) = (T : Int) / ((Nat.gcd T C : Nat) : Int)) := Lib.hid (by unfold fU; push_cast; rfl)
  have HD : Hid (((fD T C : Nat) : Int) = (C : Int) / ((Nat.gcd T C : Nat) : Int)) := Lib.hid (by unfold fD; push_cast; rfl)
  unfold FracP
  rw [HU.out, HD.out]
  obtain ⟨G, hG⟩ : ∃ G, Nat.gcd T C = G := ⟨_, rfl⟩
  rw [hG] at HU HD g0 g1 ⊢
  have HGG := Lib.hid hG
  clear hG
  go_enter Try.func24, Try.ntmps24
  go_wp2_with fail
  have cz : (w.alloc (.cells #[.int .i64 0, .int .i64 0] 29)).cell? ⟨w.heap.size, 0, none⟩ = some (.int .i64 0) ∧ (w.alloc (.cells #[.int .i64 0, .int .i64 0] 29)).cell? ⟨w.heap.size, 1, none⟩ = some (.int .i64 0) := ⟨by rw [World.cell?_alloc_new]; rfl, by rw [World.cell?_alloc_new]; rfl⟩
  have fz : ∀ q, (w.alloc (.cells #[.int .i64 0, .int .i64 0] 29)).frozen? ⟨w.heap.size, q, none⟩ = false := fun q => World.frozen?_alloc_new w _ _ _
  have hb0 := (Below.refl w.heap.size w).alloc (Nat.le_refl _) (.cells #[.int .i64 0, .int .i64 0] 29)
  generalize (w.alloc (.cells #[.int .i64 0, .int .i64 0] 29)) = w1 at *
  go_loopw [5, 6] (fun x y wr => ∃ a b : Nat, x = .int .i64 a ∧ y = .int .i64 b ∧ 1 ≤ a ∧ a ≤ 100000 ∧ b ≤ 100000 ∧ Nat.gcd a b = G ∧ Drew w1 wr) (fun _ y _ => (intOf y).toNat)
  case atStart => exact ⟨C, T, rfl, rfl, hC, hC2, hT, by rw [← HGG.out]; exact Nat.gcd_comm _ _, Drew.refl _⟩
  case round =>
    obtain ⟨a, b, rfl, rfl, ha1, ha, hb, hg, hd⟩ := hrel
    by_cases hb0 : b = 0
    · subst hb0
      have h0 : ¬ (0 : Int) < ((0 : Nat) : Int) := by omega
      rw [Nat.gcd_zero_right] at hg
      subst hg
      obtain ⟨q, rfl⟩ := hd
      have c0 : (w1.drewN q).cell? ⟨w.heap.size, 0, none⟩ = some (.int .i64 0) := cz.1
      have c1 : (w1.drewN q).cell? ⟨w.heap.size, 1, none⟩ = some (.int .i64 0) := cz.2
      have f0 : (w1.drewN q).frozen? ⟨w.heap.size, 0, none⟩ = false := fz 0
      have f1 : (w1.drewN q).frozen? ⟨w.heap.size, 1, none⟩ = false := fz 1
      have HB := Lib.hid (below_drewN hb0 q)
      clear cz fz hb0
      generalize w1.drewN q = w2 at *
      have a1 : 0 ≤ (T : Int) / (a : Int) := Int.ediv_nonneg (by omega) (by omega)
      have a2 : (T : Int) / (a : Int) ≤ T := Int.ediv_le_self _ (by omega)
      have a3 : 0 ≤ (C : Int) / (a : Int) := Int.ediv_nonneg (by omega) (by omega)
      have a4 : (C : Int) / (a : Int) ≤ C := Int.ediv_le_self _ (by omega)
      have hg0 : ¬ (a : Int) = 0 := by omega
      have hgz : ¬ a = 0 := by omega
      go_wp2_with fail
      have mixed : Try.prog.follows .mixedOrders = true := by kernel_rfl
      go_region_o
      clear mixed
      go_wp2_with fail
      refine bodyPost_ret (v := .agg #[.int .i64 ((T : Int) / (a : Int)), .int .i64 ((C : Int) / (a : Int))]) (by simp [results, Try.results24, go_sem, c0, c1]) rfl ⟨rfl, ?_⟩
      exact ((HB.out.setCell (Nat.le_refl _) _).setCell (Nat.le_refl _) _).drew
    · have h0 : (0 : Int) < (b : Int) := by omega
      have HG := Lib.hid hg
      have e1 : 0 ≤ (a : Int) % (b : Int) := Int.emod_nonneg _ (by omega)
      have e2 : (a : Int) % (b : Int) < (b : Int) := Int.emod_lt_of_pos _ (by omega)
      have e3 : a % b < b := Nat.mod_lt _ (by omega)
      clear hg
      go_wp2_with fail
      go_quiet (fail)
      go_wp2_with fail
      go_roundw
      case rel => exact ⟨b, a % b, rfl, by go_num, by omega, hb, by omega, by rw [← HG.out]; exact gcd_step.symm, hd.drew _⟩
      case measure => simp [intOf] <;> omega
set_option maxRecDepth 100000 in
set_option maxHeartbeats 1000000 in
theorem greater_any (U D U' D' : Nat) (h : U ≤ 1000 ∧ D ≤ 1000 ∧ U' ≤ 1000 ∧ D' ≤ 1000) (w : World) :
    Calls Try.prog 25 #[.agg #[.int .i64 U, .int .i64 D], .agg #[.int .i64 U', .int .i64 D']] w (FracP w (if (U : Int) * D' < (U' : Int) * D then U' else U) (if (U : Int) * D' < (U' : Int) * D then D' else D)) := by
  have b1 : 0 ≤ (U : Int) * D' ∧ (U : Int) * D' ≤ 1000 * 1000 := ⟨Int.mul_nonneg (by omega) (by omega), Int.mul_le_mul (by omega) (by omega) (by omega) (by omega)⟩
  have b2 : 0 ≤ (U' : Int) * D ∧ (U' : Int) * D ≤ 1000 * 1000 := ⟨Int.mul_nonneg (by omega) (by omega), Int.mul_le_mul (by omega) (by omega) (by omega) (by omega)⟩
  by_cases hlt : (U : Int) * D' < (U' : Int) * D
  all_goals
    first | rw [if_pos hlt, if_pos hlt] | rw [if_neg hlt, if_neg hlt]
    go_enter Try.func25, Try.ntmps25
    go_wp2_with fail
  · refine bodyPost_ret (v := .agg #[.int .i64 U', .int .i64 D']) (by simp [results, Try.results25, go_sem]) rfl ⟨rfl, ?_⟩
    exact (((Below.refl _ w).alloc (Nat.le_refl _) _).alloc (by simp) _).alloc (by simp; omega) _
  · refine bodyPost_ret (v := .agg #[.int .i64 U, .int .i64 D]) (by simp [results, Try.results25, go_sem]) rfl ⟨rfl, ?_⟩
    exact (((Below.refl _ w).alloc (Nat.le_refl _) _).alloc (by simp) _).alloc (by simp; omega) _
end Go.Proofs.Ytiapaddmnbeheac
