import Derived.Test.YtkjmpkincaainadRows
import Derived.WalkKit
import Derived.LoopTactic
import Derived.Outline
import Derived.WalkSpells
import Derived.WalkLawsBesides
import Derived.ProofKit
import Derived.Lib.Hide
import Derived.IntWalk
import Derived.Deep.QuietTactic
import Derived.BigQuiet
import Derived.Shelf.RegionOpenPlain
import Derived.Test.YtkjmpkincaainadM0
import Derived.Test.YtkjmpkincaainadM3
import Derived.Test.YtkjmpkincaainadM4
import Derived.Test.YtkjmpkincaainadM6
namespace Go.Proofs.Ytkjmpkincaainad
open Go.RowKit Go.WideShapes

def fU (T C : Nat) : Nat := T / Nat.gcd T C
def fD (T C : Nat) : Nat := C / Nat.gcd T C
theorem gcd_step {a b : Nat} : Nat.gcd a b = Nat.gcd b (a % b) := by rw [Nat.gcd_comm b, Nat.gcd_comm a b, ← Nat.gcd_rec, Nat.gcd_comm]
theorem gcd_le8 {T C : Nat} (hC : 1 ≤ C) : 1 ≤ Nat.gcd T C ∧ Nat.gcd T C ≤ C := ⟨Nat.gcd_pos_of_pos_right _ hC, Nat.le_of_dvd hC (Nat.gcd_dvd_right _ _)⟩
/-- what a call of fractions hands back -/
def FracP (w : World) (U D : Nat) (e : Ending) (w' : World) : Prop := e = .returned (.agg #[.int .i64 U, .int .i64 D]) ∧ Below w.heap.size w w'
set_option maxRecDepth 100000 in
set_option maxHeartbeats 1000000 in
theorem lless_any (U D U' D' : Nat) (h : U ≤ 100000 ∧ D ≤ 100000 ∧ U' ≤ 100000 ∧ D' ≤ 100000) (w : World) :
    Calls Try.prog 13 #[.agg #[.int .i64 U, .int .i64 D], .agg #[.int .i64 U', .int .i64 D']] w (valN w (.bool (decide ((U : Int) * D' < (U' : Int) * D)))) := by
  have b1 : 0 ≤ (U : Int) * D' ∧ (U : Int) * D' ≤ 100000 * 100000 := ⟨Int.mul_nonneg (by omega) (by omega), Int.mul_le_mul (by omega) (by omega) (by omega) (by omega)⟩
  have b2 : 0 ≤ (U' : Int) * D ∧ (U' : Int) * D ≤ 100000 * 100000 := ⟨Int.mul_nonneg (by omega) (by omega), Int.mul_le_mul (by omega) (by omega) (by omega) (by omega)⟩
  obtain ⟨x, hx⟩ : ∃ x, (U : Int) * D' = x := ⟨_, rfl⟩
  obtain ⟨y, hy⟩ : ∃ y, (U' : Int) * D = y := ⟨_, rfl⟩
  go_enter Try.func13, Try.ntmps13
  go_wp2_with fail
  go_ret
  subst hx
  subst hy
  exact ⟨rfl, ((Below.refl _ w).alloc (Nat.le_refl _) _).alloc (by simp) _⟩
set_option maxRecDepth 100000 in
set_option maxHeartbeats 1000000 in
theorem ifrac_any (T C : Nat) (hT : T ≤ 1000000000) (hC : 1 ≤ C) (hC2 : C ≤ 1000000000) (w : World) :
    Calls Try.prog 33 #[.int .i64 T, .int .i64 C] w (FracP w (fU T C) (fD T C)) := by
  obtain ⟨g0, g1⟩ := gcd_le8 (T := T) hC
  have HU : Hid (((fU T C : Nat) : Int) = (T : Int) / ((Nat.gcd T C : Nat) : Int)) := Lib.hid (by unfold fU; push_cast; rfl)
  have HD : Hid (((fD T C : Nat) : Int) = (C : Int) / ((Nat.gcd T C : Nat) : Int)) := Lib.hid (by unfold fD; push_cast; rfl)
  unfold FracP
  rw [HU.out, HD.out]
  obtain ⟨G, hG⟩ : ∃ G, Nat.gcd T C = G := ⟨_, rfl⟩
  rw [hG] at HU HD g0 g1 ⊢
  have HGG := Lib.hid hG
  clear hG
  go_enter Try.func33, Try.ntmps33
  go_wp2_with fail
  have cz : (w.alloc (.cells #[.int .i64 0, .int .i64 0] 32)).cell? ⟨w.heap.size, 0, none⟩ = some (.int .i64 0) ∧ (w.alloc (.cells #[.int .i64 0, .int .i64 0] 32)).cell? ⟨w.heap.size, 1, none⟩ = some (.int .i64 0) := ⟨by rw [World.cell?_alloc_new]; rfl, by rw [World.cell?_alloc_new]; rfl⟩
  have fz : ∀ q, (w.alloc (.cells #[.int .i64 0, .int .i64 0] 32)).frozen? ⟨w.heap.size, q, none⟩ = false := fun q => World.frozen?_alloc_new w _ _ _
  have hb0 := (Below.refl w.heap.size w).alloc (Nat.le_refl _) (.cells #[.int .i64 0, .int .i64 0] 32)
  generalize (w.alloc (.cells #[.int .i64 0, .int .i64 0] 32)) = w1 at *
  go_loopw [5, 6] (fun x y wr => ∃ a b : Nat, x = .int .i64 a ∧ y = .int .i64 b ∧ 1 ≤ a ∧ a ≤ 1000000000 ∧ b ≤ 1000000000 ∧ Nat.gcd a b = G ∧ Drew w1 wr) (fun _ y _ => (intOf y).toNat)
  case atStart => exact ⟨C, T, rfl, rfl, hC, hC2, hT, by rw [← HGG.out]; exact Nat.gcd_comm _ _, Drew.refl _⟩
  case round =>
    obtain ⟨a, b, rfl, rfl, ha1, ha, hb, hg, hd⟩ := hrel
    by_cases hb0 : b = 0
    · subst hb0
      have h0 : ¬ (0 : Int) < ((0 : Nat) : Int) := by omega
      rw [Nat.gcd_zero_right] at hg
      subst hg
      obtain ⟨q, rfl⟩ := hd
      have c0 : (w1.drewN q).cell? ⟨w.heap.size, 0, none⟩ = some (.int .i64 0) := cz.1
      have c1 : (w1.drewN q).cell? ⟨w.heap.size, 1, none⟩ = some (.int .i64 0) := cz.2
      have f0 : (w1.drewN q).frozen? ⟨w.heap.size, 0, none⟩ = false := fz 0
      have f1 : (w1.drewN q).frozen? ⟨w.heap.size, 1, none⟩ = false := fz 1
      have HB := Lib.hid (below_drewN hb0 q)
      clear cz fz hb0
      generalize w1.drewN q = w2 at *
      have a1 : 0 ≤ (T : Int) / (a : Int) := Int.ediv_nonneg (by omega) (by omega)
      have a2 : (T : Int) / (a : Int) ≤ T := Int.ediv_le_self _ (by omega)
      have a3 : 0 ≤ (C : Int) / (a : Int) := Int.ediv_nonneg (by omega) (by omega)
      have a4 : (C : Int) / (a : Int) ≤ C := Int.ediv_le_self _ (by omega)
      have hg0 : ¬ (a : Int) = 0 := by omega
      have hgz : ¬ a = 0 := by omega
      go_wp2_with fail
      have mixed : Try.prog.follows .mixedOrders = true := by kernel_rfl
      go_region_o
      clear mixed
      go_wp2_with fail
      refine bodyPost_ret (v := .agg #[.int .i64 ((T : Int) / (a : Int)), .int .i64 ((C : Int) / (a : Int))]) (by simp [results, Try.results33, go_sem, c0, c1]) rfl ⟨rfl, ?_⟩
      exact ((HB.out.setCell (Nat.le_refl _) _).setCell (Nat.le_refl _) _).drew
    · have h0 : (0 : Int) < (b : Int) := by omega
      have HG := Lib.hid hg
      have e1 : 0 ≤ (a : Int) % (b : Int) := Int.emod_nonneg _ (by omega)
      have e2 : (a : Int) % (b : Int) < (b : Int) := Int.emod_lt_of_pos _ (by omega)
      have e3 : a % b < b := Nat.mod_lt _ (by omega)
      clear hg
      go_wp2_with fail
      go_quiet (fail)
      go_wp2_with fail
      go_roundw
      case rel => exact ⟨b, a % b, rfl, by go_num, by omega, hb, by omega, by rw [← HG.out]; exact gcd_step.symm, hd.drew _⟩
      case measure => simp [intOf] <;> omega
set_option maxRecDepth 100000 in
set_option maxHeartbeats 1000000 in
theorem atMost_any8 (U D U' D' : Nat) (h : U ≤ 100000 ∧ D ≤ 100000 ∧ U' ≤ 100000 ∧ D' ≤ 100000) (w : World) :
    Calls Try.prog 53 #[.agg #[.int .i64 U, .int .i64 D], .agg #[.int .i64 U', .int .i64 D']] w (valN w (.bool (decide ((U : Int) * D' ≤ (U' : Int) * D)))) := by
  have b1 : 0 ≤ (U : Int) * D' ∧ (U : Int) * D' ≤ 100000 * 100000 := ⟨Int.mul_nonneg (by omega) (by omega), Int.mul_le_mul (by omega) (by omega) (by omega) (by omega)⟩
  have b2 : 0 ≤ (U' : Int) * D ∧ (U' : Int) * D ≤ 100000 * 100000 := ⟨Int.mul_nonneg (by omega) (by omega), Int.mul_le_mul (by omega) (by omega) (by omega) (by omega)⟩
  obtain ⟨x, hx⟩ : ∃ x, (U : Int) * D' = x := ⟨_, rfl⟩
  obtain ⟨y, hy⟩ : ∃ y, (U' : Int) * D = y := ⟨_, rfl⟩
  go_enter Try.func53, Try.ntmps53
  go_wp2_with fail
  go_ret
  subst hx
  subst hy
  exact ⟨rfl, ((Below.refl _ w).alloc (Nat.le_refl _) _).alloc (by simp) _⟩
theorem frac_tie {U D U' D' : Nat} (hc : Nat.gcd U D = 1) (hc' : Nat.gcd U' D' = 1) (hD : 1 ≤ D) (hl : ¬ (U : Int) * D' < (U' : Int) * D) (hle : (U : Int) * D' ≤ (U' : Int) * D) : U = U' ∧ D = D' := by
  refine cop_unique hc hc' hD ?_
  have : (U : Int) * (D' : Int) = (U' : Int) * (D : Int) := by omega
  exact_mod_cast this
set_option maxRecDepth 100000 in
set_option maxHeartbeats 1000000 in
theorem greater_any (U D U' D' : Nat) (h : U ≤ 100000 ∧ D ≤ 100000 ∧ U' ≤ 100000 ∧ D' ≤ 100000) (hc : Nat.gcd U D = 1) (hc' : Nat.gcd U' D' = 1) (hD : 1 ≤ D) (w : World) :
    Calls Try.prog 34 #[.agg #[.int .i64 U, .int .i64 D], .agg #[.int .i64 U', .int .i64 D']] w (FracP w (if (U : Int) * D' < (U' : Int) * D then U' else U) (if (U : Int) * D' < (U' : Int) * D then D' else D)) := by
  have HAT := Lib.hid (atMost_any8 U D U' D' h)
  have hA1 := two_new w (.int .i64 U) (.int .i64 D) 32
  have hb1 := (Below.refl w.heap.size w).alloc (Nat.le_refl _) (.cells #[.int .i64 (U : Int), .int .i64 (D : Int)] 32)
  have hz1 : (w.alloc (.cells #[.int .i64 (U : Int), .int .i64 (D : Int)] 32)).heap.size = w.heap.size + 1 := by simp
  obtain ⟨w1, hw1⟩ : ∃ w1, (w.alloc (.cells #[.int .i64 (U : Int), .int .i64 (D : Int)] 32)) = w1 := ⟨_, rfl⟩
  rw [hw1] at hA1 hb1 hz1
  have hB2 := two_new w1 (.int .i64 U') (.int .i64 D') 32
  have hb2 := hb1.alloc (by omega) (.cells #[.int .i64 (U' : Int), .int .i64 (D' : Int)] 32)
  have hA2 := hA1.block (w' := w1.alloc (.cells #[.int .i64 (U' : Int), .int .i64 (D' : Int)] 32)) (Below.heap_alloc _ _ _ (by omega))
  have hz2 : (w1.alloc (.cells #[.int .i64 (U' : Int), .int .i64 (D' : Int)] 32)).heap.size = w.heap.size + 2 := by simp; omega
  obtain ⟨w2, hw2⟩ : ∃ w2, (w1.alloc (.cells #[.int .i64 (U' : Int), .int .i64 (D' : Int)] 32)) = w2 := ⟨_, rfl⟩
  rw [hw2] at hB2 hb2 hz2 hA2
  have hZ3 := two_new w2 (.int .i64 0) (.int .i64 0) 32
  have hb3 := hb2.alloc (by omega) (.cells #[.int .i64 0, .int .i64 0] 32)
  have hA3 := hA2.block (w' := w2.alloc (.cells #[.int .i64 0, .int .i64 0] 32)) (Below.heap_alloc _ _ _ (by omega))
  have hB3 := hB2.block (w' := w2.alloc (.cells #[.int .i64 0, .int .i64 0] 32)) (Below.heap_alloc _ _ _ (by omega))
  obtain ⟨w3, hw3⟩ : ∃ w3, (w2.alloc (.cells #[.int .i64 0, .int .i64 0] 32)) = w3 := ⟨_, rfl⟩
  rw [hw3] at hZ3 hb3 hA3 hB3
  rw [hz1] at hB3
  rw [hz2] at hZ3
  have HW1 := Lib.hid hw1
  have HW2 := Lib.hid hw2
  have HW3 := Lib.hid hw3
  have HA := Lib.hid hA3
  have HB := Lib.hid hB3
  have HZ := Lib.hid hZ3
  have HBW := Lib.hid hb3
  clear hw1 hw2 hw3 hA1 hA2 hA3 hB2 hB3 hZ3 hb1 hb2 hb3 hz1 hz2
  by_cases hlt : (U : Int) * D' ≤ (U' : Int) * D
  · have e : (if (U : Int) * D' < (U' : Int) * D then U' else U) = U' ∧ (if (U : Int) * D' < (U' : Int) * D then D' else D) = D' := by
      by_cases hl : (U : Int) * D' < (U' : Int) * D
      · rw [if_pos hl, if_pos hl]; exact ⟨rfl, rfl⟩
      · rw [if_neg hl, if_neg hl]; exact frac_tie hc hc' hD hl hlt
    rw [e.1, e.2]
    rw [decide_eq_true hlt] at HAT
    clear e hlt
    go_enter Try.func34, Try.ntmps34
    go_wp2_with fail
    rw [HW1.out, HW2.out, HW3.out]
    have a0 := HA.out.1.1
    have a1 := HA.out.2.1
    have b0 := HB.out.1.1
    have b1 := HB.out.2.1
    go_wp2_with fail
    refine (HAT.out w3).mono ?_
    rintro e w4 ⟨rfl, hb4⟩
    clear a0 a1 b0 b1
    have HA4 := Lib.hid (HA.out.block (hb4.block _ HA.out.lt))
    have HB4 := Lib.hid (HB.out.block (hb4.block _ HB.out.lt))
    have HZ4 := Lib.hid (HZ.out.block (hb4.block _ HZ.out.lt))
    have HBB := Lib.hid (HBW.out.trans (hb4.mono HBW.out.size))
    clear hb4
    have x0 := HB4.out.1.1
    have x1 := HB4.out.2.1
    obtain ⟨⟨z0, z1⟩, z2, z3⟩ := HZ4.out
    have HVV := Lib.hid (And.intro ((HZ4.out.set0 (.int .i64 U')).set1 (.int .i64 D')).1.1 ((HZ4.out.set0 (.int .i64 U')).set1 (.int .i64 D')).2.1)
    go_wp2_with fail
    obtain ⟨v0, v1⟩ := HVV.out
    exact bodyPost_ret (v := .agg #[.int .i64 U', .int .i64 D']) (by simp [results, Try.results34, go_sem, v0, v1]) rfl ⟨rfl, (HBB.out.setCell (p := ⟨w.heap.size + 2, 0, none⟩) (Nat.le_add_right _ _) _).setCell (p := ⟨w.heap.size + 2, 1, none⟩) (Nat.le_add_right _ _) _⟩
  · have hl : ¬ (U : Int) * D' < (U' : Int) * D := by omega
    rw [if_neg hl, if_neg hl]
    rw [decide_eq_false hlt] at HAT
    clear hl hlt
    go_enter Try.func34, Try.ntmps34
    go_wp2_with fail
    rw [HW1.out, HW2.out, HW3.out]
    have a0 := HA.out.1.1
    have a1 := HA.out.2.1
    have b0 := HB.out.1.1
    have b1 := HB.out.2.1
    go_wp2_with fail
    refine (HAT.out w3).mono ?_
    rintro e w4 ⟨rfl, hb4⟩
    clear a0 a1 b0 b1
    have HA4 := Lib.hid (HA.out.block (hb4.block _ HA.out.lt))
    have HB4 := Lib.hid (HB.out.block (hb4.block _ HB.out.lt))
    have HZ4 := Lib.hid (HZ.out.block (hb4.block _ HZ.out.lt))
    have HBB := Lib.hid (HBW.out.trans (hb4.mono HBW.out.size))
    clear hb4
    have x0 := HA4.out.1.1
    have x1 := HA4.out.2.1
    obtain ⟨⟨z0, z1⟩, z2, z3⟩ := HZ4.out
    have HVV := Lib.hid (And.intro ((HZ4.out.set0 (.int .i64 U)).set1 (.int .i64 D)).1.1 ((HZ4.out.set0 (.int .i64 U)).set1 (.int .i64 D)).2.1)
    go_wp2_with fail
    obtain ⟨v0, v1⟩ := HVV.out
    exact bodyPost_ret (v := .agg #[.int .i64 U, .int .i64 D]) (by simp [results, Try.results34, go_sem, v0, v1]) rfl ⟨rfl, (HBB.out.setCell (p := ⟨w.heap.size + 2, 0, none⟩) (Nat.le_add_right _ _) _).setCell (p := ⟨w.heap.size + 2, 1, none⟩) (Nat.le_add_right _ _) _⟩
end Go.Proofs.Ytkjmpkincaainad
namespace Go.Proofs.Ytkjmpkincaainad

/-- Pascal's triangle up to 12, ten bits a number -/
def pasT : Nat := 54385061065684800540011163633074225266529689054062350113096803723279458193811827842204926003977343309459177112652888669744470748115619296461917853970249117576653513846418436790461392887768700952485466176952685347854922204958842601551461357000522739273210641263130788881835566643715928825264181515877615878201727098649938612295921831467937628080429425022212340976598681061771703336248555950105563781297952392327987407334892147973078235041655175546388897522636949859416138614742195963638451675281028127129601
/-- in how many ways k of n are chosen, for n and k up to 12 -/
def ch (n k : Nat) : Nat := (pasT / 1024 ^ (13 * n + k)) % 1024
/-- factorials up to 12 -/
def fa : Nat → Nat
  | 0 => 1
  | n + 1 => (n + 1) * fa n
/-- samples of just k bad ones -/
def trm (lot bad size k : Nat) : Nat := if k ≤ size then ch bad k * ch (lot - bad) (size - k) else 0
/-- samples of less than m bad ones -/
def psum (lot bad size : Nat) : Nat → Nat
  | 0 => 0
  | m + 1 => psum lot bad size m + trm lot bad size m
/-- what is left in these -/
def bsum (lot bad size : Nat) : Nat → Nat
  | 0 => 0
  | m + 1 => bsum lot bad size m + trm lot bad size m * (bad - m)
/-- the mean of the first ones -/
def msum (lot bad size : Nat) : Nat → Nat
  | 0 => 0
  | m + 1 => msum lot bad size m + m * trm lot bad size m
/-- n, n - 1, .. , k of them, multiplied -/
def fall (n : Nat) : Nat → Nat
  | 0 => 1
  | k + 1 => fall n k * (n - k)

set_option maxRecDepth 100000
theorem ch_rec : ∀ m, m < 12 → ∀ i, i < m + 1 → ch m i * (m + 1) / (i + 1) = ch (m + 1) (i + 1) ∧ ch m i * (m + 1) ≤ 100000 := by decide +kernel
theorem ch_pas : ∀ n, n < 12 → ∀ k, k < 12 → ch (n + 1) (k + 1) = ch n k + ch n (k + 1) := by decide +kernel
theorem ch_zero : ∀ n, n < 13 → ch n 0 = 1 := by decide +kernel
theorem ch_over : ∀ n, n < 13 → ∀ k, k < 13 → n < k → ch n k = 0 := by decide +kernel
theorem ch_bd : ∀ n, n < 13 → ∀ k, k < 13 → ch n k ≤ 924 := by decide +kernel
theorem ch_pos : ∀ n, n < 13 → ∀ k, k < n + 1 → 1 ≤ ch n k := by decide +kernel
theorem ch_sym : ∀ n, n < 13 → ∀ k, k < n + 1 → ch n (n - k) = ch n k := by decide +kernel
theorem ch_abs : ∀ n, n < 12 → ∀ k, k < 12 → (k + 1) * ch (n + 1) (k + 1) = (n + 1) * ch n k := by decide +kernel
theorem fall_bd : ∀ n, n < 13 → ∀ k, k < 13 → fall n k ≤ 479001600 := by decide +kernel
theorem fall_ch : ∀ n, n < 13 → ∀ k, k < n + 1 → fall n k / fall k k = ch n k ∧ fall n k = ch n k * fa k ∧ 1 ≤ fall n k := by decide +kernel
theorem fa_bd : ∀ n, n < 13 → 1 ≤ fa n ∧ fa n ≤ 479001600 := by decide +kernel

theorem psum_all : ∀ lot, lot < 13 → ∀ bad, bad < lot + 1 → ∀ size, size < lot + 1 → psum lot bad size (bad + 1) = ch lot size ∧ psum lot bad size (size + 1) = ch lot size ∧ msum lot bad size (size + 1) * lot = size * bad * ch lot size := by decide +kernel
theorem trm_turn : ∀ lot, lot < 13 → ∀ bad, bad < lot + 1 → ∀ size, size < lot + 1 → ∀ k, k < 13 → trm lot bad size k * ch lot bad = trm lot size bad k * ch lot size := by decide +kernel
theorem psum_worse : ∀ lot, lot < 13 → ∀ bad, bad < lot → ∀ size, size < lot + 1 → ∀ m, m < 14 → psum lot (bad + 1) size m ≤ psum lot bad size m := by decide +kernel
theorem trm_draw : ∀ b, b < 13 → ∀ g, g < 13 - b → ∀ s, s < g + b → ∀ k, k < 13 → trm (g + b) b (s + 1) k * (s + 1) = g * trm (g + b - 1) b s k + (if k = 0 then 0 else b * trm (g + b - 1) (b - 1) s (k - 1)) := by decide +kernel
end Go.Proofs.Ytkjmpkincaainad
namespace Go.Proofs.Ytkjmpkincaainad

theorem psum_draw {b g s : Nat} (hb : b + g ≤ 12) (hs : s < g + b) : ∀ m, m ≤ 13 → psum (g + b) b (s + 1) m * (s + 1) = g * psum (g + b - 1) b s m + b * psum (g + b - 1) (b - 1) s (m - 1) := by
  intro m
  induction m with
  | zero => intro _; simp [psum]
  | succ m ih =>
    intro hm
    have h1 := ih (by omega)
    have h2 := trm_draw b (by omega) g (by omega) s hs m (by omega)
    show (psum (g + b) b (s + 1) m + trm (g + b) b (s + 1) m) * (s + 1) = g * (psum (g + b - 1) b s m + trm (g + b - 1) b s m) + b * psum (g + b - 1) (b - 1) s m
    rw [Nat.add_mul, h1, h2, Nat.mul_add]
    cases m with
    | zero => simp [psum]
    | succ j =>
      rw [if_neg (Nat.succ_ne_zero j), Nat.add_sub_cancel, show psum (g + b - 1) (b - 1) s (j + 1) = psum (g + b - 1) (b - 1) s j + trm (g + b - 1) (b - 1) s j from rfl, Nat.mul_add]
      omega
/-- orders of draws with less than m bad ones -/
def drw (lot bad size m : Nat) : Nat := psum lot bad size m * fa size
theorem drw_step {b g s m : Nat} (hb : b + g ≤ 12) (hs : s < g + b) (hm : m ≤ 13) : drw (g + b) b (s + 1) m = g * drw (g + b - 1) b s m + b * drw (g + b - 1) (b - 1) s (m - 1) := by
  unfold drw
  rw [show fa (s + 1) = (s + 1) * fa s from rfl, ← Nat.mul_assoc, psum_draw hb hs m hm, Nat.add_mul, Nat.mul_assoc, Nat.mul_assoc]
theorem trm_over {lot bad size k : Nat} (hl : lot ≤ 12) (hb : bad ≤ lot) (hk : bad < k) (hk2 : k ≤ 12) : trm lot bad size k = 0 := by
  unfold trm
  split
  · rw [ch_over bad (by omega) k (by omega) hk, Nat.zero_mul]
  · rfl
theorem psum_mono {lot bad size : Nat} : ∀ {d m : Nat}, psum lot bad size m ≤ psum lot bad size (m + d) := by
  intro d
  induction d with
  | zero => intro m; exact Nat.le_refl _
  | succ d ih => intro m; exact Nat.le_trans ih (by rw [← Nat.add_assoc]; exact Nat.le_add_right _ _)
theorem psum_past {lot bad size : Nat} (hl : lot ≤ 12) (hb : bad ≤ lot) : ∀ d, bad + 1 + d ≤ 13 → psum lot bad size (bad + 1 + d) = psum lot bad size (bad + 1) ∧ bsum lot bad size (bad + 1 + d) = bsum lot bad size (bad + 1) := by
  intro d
  induction d with
  | zero => intro _; exact ⟨rfl, rfl⟩
  | succ d ih =>
    intro h
    obtain ⟨h1, h2⟩ := ih (by omega)
    have e : trm lot bad size (bad + 1 + d) = 0 := trm_over hl hb (by omega) (by omega)
    rw [← Nat.add_assoc]
    simp only [psum, bsum, e, h1, h2, Nat.zero_mul, Nat.add_zero, and_self]
theorem psum_min {lot bad size most : Nat} (hl : lot ≤ 12) (hb : bad ≤ lot) (hm : most ≤ 12) : psum lot bad size (min most bad + 1) = psum lot bad size (most + 1) ∧ bsum lot bad size (min most bad + 1) = bsum lot bad size (most + 1) := by
  rcases Nat.le_total most bad with h | h
  · rw [Nat.min_eq_left h]; exact ⟨rfl, rfl⟩
  · rw [Nat.min_eq_right h]
    obtain ⟨h1, h2⟩ := psum_past (size := size) hl hb (most - bad) (by omega)
    rw [show most + 1 = bad + 1 + (most - bad) by omega, h1, h2]; exact ⟨rfl, rfl⟩
theorem psum_le {lot bad size m : Nat} (hl : lot ≤ 12) (hb : bad ≤ lot) (hs : size ≤ lot) (hm : m ≤ 13) : psum lot bad size m ≤ ch lot size := by
  have h1 := (psum_past (size := size) hl hb (12 - bad) (by omega)).1
  rw [show bad + 1 + (12 - bad) = 13 by omega] at h1
  have h2 := (psum_all lot (by omega) bad (by omega) size (by omega)).1
  have h3 := @psum_mono lot bad size (13 - m) m
  rw [show m + (13 - m) = 13 by omega] at h3
  omega
theorem psum_over {lot bad size most : Nat} (hl : lot ≤ 12) (hb : bad ≤ lot) (hs : size ≤ lot) (hm : most ≤ 12) (hbm : bad ≤ most) : psum lot bad size (most + 1) = ch lot size := by
  have h1 := (psum_past (size := size) hl hb (most - bad) (by omega)).1
  rw [show bad + 1 + (most - bad) = most + 1 by omega] at h1
  rw [h1]; exact (psum_all lot (by omega) bad (by omega) size (by omega)).1
theorem bsum_le {lot bad size : Nat} : ∀ m, bsum lot bad size m ≤ bad * psum lot bad size m := by
  intro m
  induction m with
  | zero => simp [bsum, psum]
  | succ m ih =>
    simp only [bsum, psum, Nat.mul_add]
    have : trm lot bad size m * (bad - m) ≤ bad * trm lot bad size m := by rw [Nat.mul_comm]; exact Nat.mul_le_mul_right _ (Nat.sub_le _ _)
    omega
theorem psum_turn {lot bad size : Nat} (hl : lot ≤ 12) (hb : bad ≤ lot) (hs : size ≤ lot) : ∀ m, m ≤ 13 → psum lot bad size m * ch lot bad = psum lot size bad m * ch lot size := by
  intro m
  induction m with
  | zero => intro _; simp [psum]
  | succ m ih => intro h; simp only [psum, Nat.add_mul, ih (by omega), trm_turn lot (by omega) bad (by omega) size (by omega) m (by omega)]
theorem trm_none {lot bad k : Nat} (hl : lot ≤ 12) (hb : bad ≤ lot) : trm lot bad 0 k = if k = 0 then 1 else 0 := by
  unfold trm
  by_cases h : k = 0
  · subst h
    rw [if_pos (Nat.le_refl _), if_pos rfl, ch_zero bad (by omega), Nat.sub_zero, ch_zero _ (by omega)]
  · rw [if_neg (by omega), if_neg h]
theorem psum_none {lot bad : Nat} (hl : lot ≤ 12) (hb : bad ≤ lot) : ∀ m, psum lot bad 0 (m + 1) = 1 ∧ bsum lot bad 0 (m + 1) = bad := by
  intro m
  induction m with
  | zero => simp [psum, bsum, trm_none hl hb]
  | succ m ih =>
    have e : trm lot bad 0 (m + 1) = 0 := by rw [trm_none hl hb]; simp
    exact ⟨by rw [psum, ih.1, e], by rw [bsum, ih.2, e, Nat.zero_mul, Nat.add_zero]⟩

-- fractions
theorem f_scale {g T C : Nat} (hg : 1 ≤ g) : fU (g * T) (g * C) = fU T C ∧ fD (g * T) (g * C) = fD T C := by
  unfold fU fD
  rw [Nat.gcd_mul_left, Nat.mul_div_mul_left _ _ hg, Nat.mul_div_mul_left _ _ hg]
  exact ⟨rfl, rfl⟩
theorem f_mul {T C : Nat} (hC : 1 ≤ C) : ∃ g, 1 ≤ g ∧ g * fU T C = T ∧ g * fD T C = C := by
  refine ⟨Nat.gcd T C, (gcd_le8 hC).1, ?_, ?_⟩
  · exact Nat.mul_div_cancel' (Nat.gcd_dvd_left T C)
  · exact Nat.mul_div_cancel' (Nat.gcd_dvd_right T C)
theorem f_bd {T C : Nat} (hC : 1 ≤ C) : fU T C ≤ T ∧ fD T C ≤ C ∧ 1 ≤ fD T C := ⟨Nat.div_le_self _ _, Nat.div_le_self _ _, (gcd_div hC).1⟩
theorem f_eq {T C T' C' : Nat} (hC : 1 ≤ C) (hC' : 1 ≤ C') (h : T * C' = T' * C) : fU T C = fU T' C' ∧ fD T C = fD T' C' := by
  have a := @f_scale C' T C hC'
  have b := @f_scale C T' C' hC
  rw [show C' * T = C * T' by rw [Nat.mul_comm C', h, Nat.mul_comm], Nat.mul_comm C' C] at a
  exact ⟨a.1.symm.trans b.1, a.2.symm.trans b.2⟩
theorem f_plus {T T' C : Nat} (hC : 1 ≤ C) : fU (fU T C * fD T' C + fU T' C * fD T C) (fD T C * fD T' C) = fU (T + T') C ∧ fD (fU T C * fD T' C + fU T' C * fD T C) (fD T C * fD T' C) = fD (T + T') C := by
  obtain ⟨g, hg, e1, e2⟩ := @f_mul T C hC
  obtain ⟨g', hg', e3, e4⟩ := @f_mul T' C hC
  have h0 := @f_scale (g * g') (fU T C * fD T' C + fU T' C * fD T C) (fD T C * fD T' C) (Nat.mul_pos hg hg')
  have x1 : g * g' * (fU T C * fD T' C + fU T' C * fD T C) = C * (T + T') := by
    calc g * g' * (fU T C * fD T' C + fU T' C * fD T C) = (g * fU T C) * (g' * fD T' C) + (g' * fU T' C) * (g * fD T C) := by
          rw [Nat.mul_add]
          congr 1
          · ac_rfl
          · ac_rfl
      _ = C * (T + T') := by rw [e1, e2, e3, e4, Nat.mul_add, Nat.mul_comm T, Nat.mul_comm T']
  have x2 : g * g' * (fD T C * fD T' C) = C * C := by
    calc g * g' * (fD T C * fD T' C) = (g * fD T C) * (g' * fD T' C) := by ac_rfl
      _ = C * C := by rw [e2, e4]
  rw [x1, x2] at h0
  have h1 := @f_scale C (T + T') C hC
  exact ⟨h0.1.symm.trans h1.1, h0.2.symm.trans h1.2⟩
theorem f_times {T C n : Nat} (hC : 1 ≤ C) : fU (fU T C * n) (fD T C) = fU (T * n) C ∧ fD (fU T C * n) (fD T C) = fD (T * n) C := by
  obtain ⟨g, hg, e1, e2⟩ := @f_mul T C hC
  have h0 := @f_scale g (fU T C * n) (fD T C) hg
  rw [← Nat.mul_assoc, e1, e2] at h0
  exact ⟨h0.1.symm, h0.2.symm⟩
theorem f_le {T C T' C' : Nat} (hC : 1 ≤ C) (hC' : 1 ≤ C') : fU T C * fD T' C' ≤ fU T' C' * fD T C ↔ T * C' ≤ T' * C := by
  obtain ⟨g, hg, e1, e2⟩ := @f_mul T C hC
  obtain ⟨g', hg', e3, e4⟩ := @f_mul T' C' hC'
  have x1 : (g * g') * (fU T C * fD T' C') = T * C' := by
    calc (g * g') * (fU T C * fD T' C') = (g * fU T C) * (g' * fD T' C') := by ac_rfl
      _ = _ := by rw [e1, e4]
  have x2 : (g * g') * (fU T' C' * fD T C) = T' * C := by
    calc (g * g') * (fU T' C' * fD T C) = (g' * fU T' C') * (g * fD T C) := by ac_rfl
      _ = _ := by rw [e2, e3]
  rw [← x1, ← x2]
  exact ⟨fun h => Nat.mul_le_mul_left _ h, fun h => Nat.le_of_mul_le_mul_left h (Nat.mul_pos hg hg')⟩
theorem f_one {C : Nat} (hC : 1 ≤ C) : fU C C = 1 ∧ fD C C = 1 := by
  unfold fU fD
  rw [Nat.gcd_self, Nat.div_self hC]; exact ⟨rfl, rfl⟩
theorem f_zero {C : Nat} (hC : 1 ≤ C) : fU 0 C = 0 ∧ fD 0 C = 1 := by
  unfold fU fD
  rw [Nat.gcd_zero_left, Nat.div_self hC, Nat.zero_div]; exact ⟨rfl, rfl⟩
theorem f_int {n : Nat} : fU n 1 = n ∧ fD n 1 = 1 := by
  unfold fU fD
  rw [Nat.gcd_one_right, Nat.div_one]; exact ⟨rfl, rfl⟩
end Go.Proofs.Ytkjmpkincaainad
