import Derived.Test.YtkjmpkincaainacRows
import Derived.WalkKit
import Derived.LoopTactic
import Derived.Outline
import Derived.WalkSpells
import Derived.WalkLawsBesides
import Derived.ProofKit
import Derived.Lib.Hide
import Derived.IntWalk
import Derived.Deep.QuietTactic
import Derived.BigQuiet
import Derived.Test.YtkjmpkincaainacM0
import Derived.Test.YtkjmpkincaainacM1
import Derived.Test.YtkjmpkincaainacM9
import Derived.Test.YtkjmpkincaainacM4
import Derived.Test.YtkjmpkincaainacM6
import Derived.Deep.RegionHeld3
import Derived.Test.YtkjmpkincaainacM2
namespace Go.Proofs.Ytkjmpkincaainac
open Go.RowKit Go.WideShapes

/-- the chance that a lot passes -/
def passU (lot bad size most : Int) : Nat := if planB lot bad size most then fU (psum lot.toNat bad.toNat size.toNat (most.toNat + 1)) (ch lot.toNat size.toNat) else 0
def passD (lot bad size most : Int) : Nat := if planB lot bad size most then fD (psum lot.toNat bad.toNat size.toNat (most.toNat + 1)) (ch lot.toNat size.toNat) else 0
/-- what is left -/
def badU (lot bad size most : Int) : Nat := if planB lot bad size most then fU (bsum lot.toNat bad.toNat size.toNat (most.toNat + 1)) (ch lot.toNat size.toNat) else 0
def badD (lot bad size most : Int) : Nat := if planB lot bad size most then fD (bsum lot.toNat bad.toNat size.toNat (most.toNat + 1)) (ch lot.toNat size.toNat) else 0
theorem pass_no {lot bad size most : Int} (h : planB lot bad size most = false) : passU lot bad size most = 0 ∧ passD lot bad size most = 0 ∧ badU lot bad size most = 0 ∧ badD lot bad size most = 0 := by
  simp [passU, passD, badU, badD, h]
theorem pass_yes {l b s m : Nat} (h : planB l b s m = true) : passU l b s m = fU (psum l b s (m + 1)) (ch l s) ∧ passD l b s m = fD (psum l b s (m + 1)) (ch l s) ∧ badU l b s m = fU (bsum l b s (m + 1)) (ch l s) ∧ badD l b s m = fD (bsum l b s (m + 1)) (ch l s) := by
  simp [passU, passD, badU, badD, h]
theorem plan_nat {l b s m : Nat} (h : planB l b s m = true) : 1 ≤ l ∧ l ≤ 12 ∧ b ≤ l ∧ s ≤ l ∧ m ≤ 12 := by
  simp only [planB, inB, Bool.and_eq_true, decide_eq_true_eq] at h
  omega
/-- by draws the same -/
theorem draws_eq {l b s m : Nat} (h : planB l b s m = true) : fU (drw l b s (m + 1)) (fall l s) = passU l b s m ∧ fD (drw l b s (m + 1)) (fall l s) = passD l b s m ∧ drw l b s (m + 1) ≤ 479001600 ∧ 1 ≤ fall l s ∧ fall l s ≤ 479001600 := by
  obtain ⟨h1, h2, h3, h4, h5⟩ := plan_nat h
  obtain ⟨f1, f2, f3⟩ := fall_ch l (by omega) s (by omega)
  obtain ⟨p1, p2, _⟩ := pass_yes h
  have hf := (fa_bd s (by omega)).1
  have hp := psum_le (m := m + 1) h2 h3 h4 (by omega)
  have hb := fall_bd l (by omega) s (by omega)
  have hd : drw l b s (m + 1) ≤ fall l s := by unfold drw; rw [f2]; exact Nat.mul_le_mul_right _ hp
  obtain ⟨e1, e2⟩ := f_scale (g := fa s) (T := psum l b s (m + 1)) (C := ch l s) hf
  rw [p1, p2]
  refine ⟨?_, ?_, by omega, f3, hb⟩
  · unfold drw; rw [f2, Nat.mul_comm, Nat.mul_comm (ch l s)]; exact e1
  · unfold drw; rw [f2, Nat.mul_comm, Nat.mul_comm (ch l s)]; exact e2
def FracBP (w : World) (U D : Nat) (b : Bool) (e : Ending) (w' : World) : Prop := e = .returned (.tuple #[.agg #[.int .i64 U, .int .i64 D], .bool b]) ∧ Below w.heap.size w w'
theorem ch_1 {l s : Nat} (hl : l ≤ 12) (hs : s ≤ l) : 1 ≤ ch l s ∧ ch l s ≤ 924 := ⟨ch_pos l (by omega) s (by omega), ch_bd l (by omega) s (by omega)⟩
/-- the first size from s on for which the chance is small enough -/
def lsF (P : Nat → Bool) : Nat → Nat → Int
  | 0, _ => -1
  | f + 1, s => if P s then (s : Int) else lsF P f (s + 1)
def shareB (l b m u d s : Nat) : Bool := decide (psum l b s (m + 1) * d ≤ u * ch l s)
def leastS (lot bad most up down : Int) : Int :=
  if planB lot bad 0 most && (inB 0 40 up && inB 1 40 down) then lsF (shareB lot.toNat bad.toNat most.toNat up.toNat down.toNat) (lot.toNat + 1) 0 else -1
theorem lsF_least {P : Nat → Bool} : ∀ {f s : Nat} {r : Int}, lsF P f s = r → r = -1 ∨ ∃ q : Nat, r = (q : Int) ∧ s ≤ q ∧ q < s + f ∧ P q = true ∧ ∀ k, s ≤ k → k < q → P k = false := by
  intro f
  induction f with
  | zero => intro s r h; exact .inl h.symm
  | succ f ih =>
    intro s r h
    simp only [lsF] at h
    by_cases hp : P s = true
    · rw [if_pos hp] at h
      exact .inr ⟨s, h.symm, Nat.le_refl _, by omega, hp, fun k h1 h2 => by omega⟩
    · rw [if_neg hp] at h
      rcases ih h with e | ⟨q, h1, h2, h3, h4, h5⟩
      · exact .inl e
      · refine .inr ⟨q, h1, by omega, by omega, h4, fun k a1 a2 => ?_⟩
        by_cases hk : k = s
        · subst hk; simpa using hp
        · exact h5 k (by omega) a2
theorem leastS_no {lot bad most up down : Int} (h : planB lot bad 0 most = false ∨ inB 0 40 up = false ∨ inB 1 40 down = false) : leastS lot bad most up down = -1 := by
  unfold leastS
  rcases h with h | h | h <;> simp [h]
end Go.Proofs.Ytkjmpkincaainac
namespace Go.Proofs.Ytkjmpkincaainac
open Go.RowKit Go.WideShapes

end Go.Proofs.Ytkjmpkincaainac
namespace Go.Proofs.Ytkjmpkincaainac
open Go.RowKit Go.WideShapes

/-- four numbers in a block -/
def Four (w : World) (b : Nat) (x0 x1 x2 x3 : Int) : Prop := w.cell? ⟨b, 0, none⟩ = some (.int .i64 x0) ∧ w.cell? ⟨b, 1, none⟩ = some (.int .i64 x1) ∧ w.cell? ⟨b, 2, none⟩ = some (.int .i64 x2) ∧ w.cell? ⟨b, 3, none⟩ = some (.int .i64 x3)
theorem Four.block {w w' : World} {b : Nat} {x0 x1 x2 x3 : Int} (h : Four w b x0 x1 x2 x3) (e : w'.heap[b]? = w.heap[b]?) : Four w' b x0 x1 x2 x3 :=
  ⟨by rw [World.cell?_of_block (w := w) e]; exact h.1, by rw [World.cell?_of_block (w := w) e]; exact h.2.1, by rw [World.cell?_of_block (w := w) e]; exact h.2.2.1, by rw [World.cell?_of_block (w := w) e]; exact h.2.2.2⟩
theorem Four.lt {w : World} {b : Nat} {x0 x1 x2 x3 : Int} (h : Four w b x0 x1 x2 x3) : b < w.heap.size := World.block_lt_of_cell? w _ h.1
theorem Four.lift {w w' : World} {b : Nat} {x0 x1 x2 x3 : Int} (h : Four w b x0 x1 x2 x3) (g : Below w.heap.size w w') : Four w' b x0 x1 x2 x3 := h.block (g.block b h.lt)
theorem Two.lift {w w' : World} {b : Nat} {x y : Value} (h : Two w b x y) (g : Below w.heap.size w w') : Two w' b x y := h.block (g.block b h.lt)
theorem four_new (w : World) (x0 x1 x2 x3 : Int) (t : TypeId) : Four (w.alloc (.cells #[.int .i64 x0, .int .i64 x1, .int .i64 x2, .int .i64 x3] t)) w.heap.size x0 x1 x2 x3 :=
  ⟨by rw [World.cell?_alloc_new]; rfl, by rw [World.cell?_alloc_new]; rfl, by rw [World.cell?_alloc_new]; rfl, by rw [World.cell?_alloc_new]; rfl⟩
theorem below_alloc (w : World) (o : Obj) : Below w.heap.size w (w.alloc o) := (Below.refl _ w).alloc (Nat.le_refl _) o
theorem lit2 (w : World) (x y : Int) (t : TypeId) : IntsAt (w.alloc (.cells #[.int .i64 x, .int .i64 y] t)) (fun b => b = w.heap.size) (some ⟨w.heap.size, 0, none⟩) 2 [x, y] := IntsAt.lit rfl rfl rfl (by omega)
end Go.Proofs.Ytkjmpkincaainac
namespace Go.Proofs.Ytkjmpkincaainac
open Go.RowKit

/-- chances -/
def chM (xs : List Int) : Bool := decide (1 ≤ xs.length ∧ xs.length ≤ 7) && allIn 0 9 xs && decide (0 < totalM xs)
def okO (xs : List Int) (o u : Int) : Bool := chM xs && inB 0 30 o && inB 0 30 u
theorem chM_at {xs : List Int} (h : chM xs = true) : 1 ≤ xs.length ∧ xs.length ≤ 7 ∧ (∀ k, 0 ≤ xs.getD k 0 ∧ xs.getD k 0 ≤ 9) ∧ 0 < sumN xs xs.length := by
  unfold chM at h
  simp only [Bool.and_eq_true, decide_eq_true_eq] at h
  exact ⟨h.1.1.1, h.1.1.2, fun k => allIn_getD h.1.2 (by omega) (by omega) k, by rw [← totalM_eq]; exact h.2⟩
theorem chM_of {xs : List Int} (h0 : 1 ≤ xs.length) (h1 : xs.length ≤ 7) (h2 : ∀ k, k < xs.length → 0 ≤ xs.getD k 0 ∧ xs.getD k 0 ≤ 9) (h3 : 0 < sumN xs xs.length) : chM xs = true := by
  unfold chM
  rw [totalM_eq, allIn_of h2]
  simp [h0, h1, h3]
theorem okO_at {xs : List Int} {o u : Int} (h : okO xs o u = true) : chM xs = true ∧ 0 ≤ o ∧ o ≤ 30 ∧ 0 ≤ u ∧ u ≤ 30 := by
  unfold okO inB at h
  simp only [Bool.and_eq_true, decide_eq_true_eq] at h
  exact ⟨h.1.1, h.1.2.1, h.1.2.2, h.2.1, h.2.2⟩
theorem okO_of {xs : List Int} {o u : Int} (h : chM xs = true) (h1 : 0 ≤ o ∧ o ≤ 30) (h2 : 0 ≤ u ∧ u ≤ 30) : okO xs o u = true := by
  unfold okO inB; simp [h, h1, h2]
theorem sumS_mono {xs : List Int} (h : ∀ k, 0 ≤ xs.getD k 0) {a b : Nat} (hab : a ≤ b) : sumN xs a ≤ sumN xs b := by
  induction b with
  | zero => have : a = 0 := by omega
            subst this; exact Int.le_refl _
  | succ b ih =>
    rcases Nat.lt_or_ge b a with h1 | h1
    · have : a = b + 1 := by omega
      subst this; exact Int.le_refl _
    · have := ih h1; have := h b; rw [sumN]; omega
theorem sumN_past (xs : List Int) {k : Nat} (h : xs.length ≤ k) : sumN xs k = sumN xs xs.length := by
  induction k with
  | zero => have : xs.length = 0 := by omega
            rw [this]
  | succ k ih =>
    rcases Nat.lt_or_ge k xs.length with h1 | h1
    · have : xs.length = k + 1 := by omega
      rw [this]
    · rw [sumN, ih h1, getD_past h1]; omega
theorem sumS_le {xs : List Int} (h : ∀ k, 0 ≤ xs.getD k 0) (k : Nat) : sumN xs k ≤ sumN xs xs.length := by
  rcases Nat.lt_or_ge k xs.length with h1 | h1
  · exact sumS_mono h (by omega)
  · rw [sumN_past xs h1]; exact Int.le_refl _
theorem sumS_0 {xs : List Int} (h : ∀ k, 0 ≤ xs.getD k 0) (k : Nat) : 0 ≤ sumN xs k := by
  have := sumS_mono h (Nat.zero_le k); simpa [sumN] using this
theorem ch_T {xs : List Int} (h : chM xs = true) : 1 ≤ sumN xs xs.length ∧ sumN xs xs.length ≤ 63 := by
  obtain ⟨h0, h1, h2, h3⟩ := chM_at h
  have := sumN_bd h2 xs.length
  omega

/-- what one want of v costs at a stock of s -/
def unitC (s v : Nat) (o u : Int) : Int := o * ((s - v : Nat) : Int) + u * ((v - s : Nat) : Int)
def costK (xs : List Int) (s : Nat) (o u : Int) : Nat → Int
  | 0 => 0
  | k + 1 => costK xs s o u k + xs.getD k 0 * unitC s k o u
def costS (xs : List Int) (s : Nat) (o u : Int) : Int := costK xs s o u xs.length
def stockRes (xs : List Int) (s : Int) (o u : Int) : Int := if okO xs o u && inB 0 7 s then costS xs s.toNat o u else -1
theorem unit_bd {s v : Nat} {o u : Int} (ho : 0 ≤ o ∧ o ≤ 30) (hu : 0 ≤ u ∧ u ≤ 30) (hs : s ≤ 8) (hv : v ≤ 8) : 0 ≤ unitC s v o u ∧ unitC s v o u ≤ 480 := by
  unfold unitC
  have b1 : 0 ≤ o * ((s - v : Nat) : Int) ∧ o * ((s - v : Nat) : Int) ≤ 30 * 8 := ⟨Int.mul_nonneg ho.1 (by omega), Int.mul_le_mul ho.2 (by omega) (by omega) (by omega)⟩
  have b2 : 0 ≤ u * ((v - s : Nat) : Int) ∧ u * ((v - s : Nat) : Int) ≤ 30 * 8 := ⟨Int.mul_nonneg hu.1 (by omega), Int.mul_le_mul hu.2 (by omega) (by omega) (by omega)⟩
  omega
theorem termC_bd {x c : Int} (hx : 0 ≤ x ∧ x ≤ 9) (hc : 0 ≤ c ∧ c ≤ 480) : 0 ≤ x * c ∧ x * c ≤ 4320 :=
  ⟨Int.mul_nonneg hx.1 hc.1, by have := Int.mul_le_mul hx.2 hc.2 hc.1 (by omega : (0 : Int) ≤ 9); omega⟩
theorem costK_bd10 {xs : List Int} {s : Nat} {o u : Int} (hx : ∀ k, 0 ≤ xs.getD k 0 ∧ xs.getD k 0 ≤ 9) (ho : 0 ≤ o ∧ o ≤ 30) (hu : 0 ≤ u ∧ u ≤ 30) (hs : s ≤ 8) : ∀ k : Nat, k ≤ 8 → 0 ≤ costK xs s o u k ∧ costK xs s o u k ≤ 4320 * (k : Int)
  | 0, _ => by simp [costK]
  | k + 1, hk => by
    have ih := costK_bd10 hx ho hu hs k (by omega)
    have := termC_bd (hx k) (unit_bd (s := s) (v := k) ho hu hs (by omega))
    rw [costK]; push_cast; omega
theorem costK_step {xs : List Int} {s : Nat} {o u : Int} : ∀ k : Nat, costK xs (s + 1) o u k = costK xs s o u k + (o + u) * sumN xs (min (s + 1) k) - u * sumN xs k
  | 0 => by simp [costK, sumN]
  | k + 1 => by
    rw [costK, costK, costK_step k, sumN]
    rcases Nat.lt_or_ge s k with h | h
    · rw [Nat.min_eq_left (by omega), Nat.min_eq_left (by omega)]
      have e1 : unitC (s + 1) k o u = unitC s k o u - u := by
        unfold unitC
        rw [show s + 1 - k = 0 by omega, show s - k = 0 by omega, show ((k - s : Nat) : Int) = ((k - (s + 1) : Nat) : Int) + 1 by omega, Int.mul_add]
        omega
      rw [e1, Int.mul_sub, Int.mul_add u, Int.mul_comm u (xs.getD k 0)]
      omega
    · rw [Nat.min_eq_right (by omega), Nat.min_eq_right (by omega), sumN]
      have e1 : unitC (s + 1) k o u = unitC s k o u + o := by
        unfold unitC
        rw [show k - (s + 1) = 0 by omega, show k - s = 0 by omega, show ((s + 1 - k : Nat) : Int) = ((s - k : Nat) : Int) + 1 by omega, Int.mul_add]
        omega
      rw [e1, Int.mul_add, Int.mul_add (o + u), Int.mul_add u, Int.add_mul o u (xs.getD k 0), Int.mul_comm u (xs.getD k 0), Int.mul_comm o (xs.getD k 0)]
      omega
theorem costS_step (xs : List Int) (s : Nat) (o u : Int) : costS xs (s + 1) o u = costS xs s o u + (sumN xs (s + 1) * (o + u) - u * sumN xs xs.length) := by
  unfold costS
  rw [costK_step]
  have e : sumN xs (min (s + 1) xs.length) = sumN xs (s + 1) := by
    rcases Nat.lt_or_ge (s + 1) xs.length with h | h
    · rw [Nat.min_eq_left (by omega)]
    · rw [Nat.min_eq_right h, sumN_past xs h]
  rw [e, Int.mul_comm (o + u)]
  omega

/-- the first from s on at which p holds, or the end -/
def firstB (p : Nat → Bool) : Nat → Nat → Nat
  | 0, s => s
  | n + 1, s => if p s then s else firstB p n (s + 1)
theorem firstB_is (p : Nat → Bool) : ∀ n s, s ≤ firstB p n s ∧ firstB p n s ≤ s + n ∧ (∀ j, s ≤ j → j < firstB p n s → p j = false) ∧ (firstB p n s < s + n → p (firstB p n s) = true)
  | 0, s => ⟨Nat.le_refl _, Nat.le_refl _, fun j h1 h2 => by simp only [firstB] at h2; omega, fun h => by simp only [firstB] at h; omega⟩
  | n + 1, s => by
    cases h : p s
    · have e : firstB p (n + 1) s = firstB p n (s + 1) := by simp [firstB, h]
      obtain ⟨i1, i2, i3, i4⟩ := firstB_is p n (s + 1)
      rw [e]
      refine ⟨by omega, by omega, fun j h1 h2 => ?_, fun h2 => i4 (by omega)⟩
      rcases Nat.eq_or_lt_of_le h1 with h3 | h3
      · rw [← h3]; exact h
      · exact i3 j (by omega) h2
    · have e : firstB p (n + 1) s = s := by simp [firstB, h]
      rw [e]
      exact ⟨Nat.le_refl _, by omega, fun j h1 h2 => by omega, fun _ => h⟩
theorem firstB_eq {p : Nat → Bool} {n r : Nat} (h1 : ∀ j, j < r → p j = false) (h2 : p r = true) (h3 : r < n) : firstB p n 0 = r := by
  obtain ⟨_, i2, i3, i4⟩ := firstB_is p n 0
  rcases Nat.lt_trichotomy (firstB p n 0) r with h | h | h
  · rw [h1 _ h] at i4; exact absurd (i4 (by omega)) (by simp)
  · exact h
  · rw [i3 r (Nat.zero_le _) h] at h2; cases h2

/-- the share is met at s -/
def metB (xs : List Int) (o u : Int) (s : Nat) : Bool := decide (u * sumN xs xs.length ≤ sumN xs (s + 1) * (o + u))
def shareN (xs : List Int) (o u : Int) : Nat := firstB (metB xs o u) 7 0
def shareRes (xs : List Int) (o u : Int) : Int := if okO xs o u then (shareN xs o u : Int) else -1
theorem met_mono {xs : List Int} {o u : Int} (hx : ∀ k, 0 ≤ xs.getD k 0) (ho : 0 ≤ o) (hu : 0 ≤ u) {s t : Nat} (hst : s ≤ t) (h : metB xs o u s = true) : metB xs o u t = true := by
  unfold metB at h ⊢
  have h := of_decide_eq_true h
  have := Int.mul_le_mul_of_nonneg_right (sumS_mono hx (show s + 1 ≤ t + 1 by omega)) (show 0 ≤ o + u by omega)
  exact decide_eq_true (by omega)
theorem met_last {xs : List Int} {o u : Int} (h : chM xs = true) (ho : 0 ≤ o) (hu : 0 ≤ u) {s : Nat} (hs : xs.length ≤ s + 1) : metB xs o u s = true := by
  obtain ⟨_, _, h2, _⟩ := chM_at h
  unfold metB
  rw [sumN_past xs hs]
  have b := Int.mul_nonneg ho (sumS_0 (fun k => (h2 k).1) xs.length)
  have e : sumN xs xs.length * (o + u) = o * sumN xs xs.length + u * sumN xs xs.length := by rw [Int.mul_comm, Int.add_mul]
  rw [e]
  exact decide_eq_true (by omega)
theorem share_is {xs : List Int} {o u : Int} (h : chM xs = true) (ho : 0 ≤ o) (hu : 0 ≤ u) : shareN xs o u < xs.length ∧ metB xs o u (shareN xs o u) = true ∧ ∀ j, j < shareN xs o u → metB xs o u j = false := by
  obtain ⟨h0, h1, h2, h3⟩ := chM_at h
  obtain ⟨_, i2, i3, i4⟩ := firstB_is (metB xs o u) 7 0
  have hl : shareN xs o u < xs.length := by
    rcases Nat.lt_or_ge (shareN xs o u) xs.length with g | g
    · exact g
    · have := i3 (xs.length - 1) (Nat.zero_le _) (by unfold shareN at g; omega)
      rw [met_last h ho hu (by omega)] at this; cases this
  exact ⟨hl, i4 (by unfold shareN at hl; omega), fun j hj => i3 j (Nat.zero_le _) hj⟩
theorem share_unique {xs : List Int} {o u : Int} {r : Nat} (h1 : ∀ j, j < r → metB xs o u j = false) (h2 : metB xs o u r = true) (h3 : r < 7) : shareN xs o u = r := firstB_eq h1 h2 h3
theorem met_cost {xs : List Int} {o u : Int} {s : Nat} : metB xs o u s = decide (costS xs s o u ≤ costS xs (s + 1) o u) := by
  unfold metB
  rw [costS_step]
  apply decide_eq_decide.2
  omega
theorem cost_up {xs : List Int} {o u : Int} (h : chM xs = true) (ho : 0 ≤ o) (hu : 0 ≤ u) : ∀ d, costS xs (shareN xs o u) o u ≤ costS xs (shareN xs o u + d) o u
  | 0 => Int.le_refl _
  | d + 1 => by
    have ih := cost_up h ho hu d
    have hm := met_mono (s := shareN xs o u) (t := shareN xs o u + d) (fun k => ((chM_at h).2.2.1 k).1) ho hu (by omega) (share_is h ho hu).2.1
    rw [met_cost] at hm
    have := of_decide_eq_true hm
    rw [← Nat.add_assoc]; omega
theorem cost_down {xs : List Int} {o u : Int} {s : Nat} (h : chM xs = true) (ho : 0 ≤ o) (hu : 0 ≤ u) (hs : s < shareN xs o u) : costS xs (s + 1) o u < costS xs s o u := by
  have := (share_is h ho hu).2.2 s hs
  rw [met_cost] at this
  have := of_decide_eq_false this
  omega
theorem cost_down2 {xs : List Int} {o u : Int} (h : chM xs = true) (ho : 0 ≤ o) (hu : 0 ≤ u) {s : Nat} : ∀ d, s + d = shareN xs o u → costS xs (shareN xs o u) o u ≤ costS xs s o u := by
  intro d
  induction d generalizing s with
  | zero => intro e; have : s = shareN xs o u := by omega
            rw [this]; exact Int.le_refl _
  | succ d ih => intro e; have := ih (s := s + 1) (by omega); have := cost_down (s := s) h ho hu (by omega); omega
theorem cost_least {xs : List Int} {o u : Int} (h : chM xs = true) (ho : 0 ≤ o) (hu : 0 ≤ u) (s : Nat) : costS xs (shareN xs o u) o u ≤ costS xs s o u := by
  rcases Nat.lt_or_ge s (shareN xs o u) with g | g
  · exact cost_down2 h ho hu (shareN xs o u - s) (by omega)
  · have := cost_up h ho hu (s - shareN xs o u)
    rwa [show shareN xs o u + (s - shareN xs o u) = s by omega] at this
/-- the walk from 0 up that keeps the first best one stands at the share, or before it -/
theorem best_step {xs : List Int} {o u : Int} (h : chM xs = true) (ho : 0 ≤ o) (hu : 0 ≤ u) {k : Nat} :
    (if costS xs k o u < costS xs (min (shareN xs o u) (k - 1)) o u then k else min (shareN xs o u) (k - 1)) = min (shareN xs o u) k := by
  rcases Nat.lt_or_ge (shareN xs o u) k with g | g
  · rw [Nat.min_eq_left (by omega), Nat.min_eq_left (by omega), if_neg]
    have := cost_least h ho hu k
    omega
  · rw [Nat.min_eq_right (by omega), Nat.min_eq_right g]
    cases k with
    | zero => simp
    | succ k =>
      rw [if_pos]
      exact cost_down h ho hu (by omega)

-- ages
/-- what is lived in the first a units of time -/
def liveN (xs : List Int) (a : Nat) : Nat → Int
  | 0 => 0
  | k + 1 => liveN xs a k + xs.getD k 0 * ((min (k + 1) a : Nat) : Int)
def timeN (xs : List Int) : Nat → Int
  | 0 => 0
  | a + 1 => timeN xs a + (sumN xs xs.length - sumN xs a)
theorem live_step {xs : List Int} {a : Nat} : ∀ k, liveN xs (a + 1) k = liveN xs a k + (sumN xs k - sumN xs (min a k))
  | 0 => by simp [liveN, sumN]
  | k + 1 => by
    rw [liveN, liveN, live_step k, sumN]
    rcases Nat.lt_or_ge k a with h | h
    · rw [Nat.min_eq_left (show k + 1 ≤ a + 1 by omega), Nat.min_eq_left (show k + 1 ≤ a by omega), Nat.min_eq_right (show k ≤ a by omega), Nat.min_eq_right (show k + 1 ≤ a by omega), sumN]
      omega
    · rw [Nat.min_eq_right (show a + 1 ≤ k + 1 by omega), Nat.min_eq_right (show a ≤ k + 1 by omega), Nat.min_eq_left (show a ≤ k by omega), Nat.min_eq_left (show a ≤ k + 1 by omega)]
      rw [show ((a + 1 : Nat) : Int) = (a : Int) + 1 by omega, Int.mul_add]
      omega
theorem live_time (xs : List Int) : ∀ a, liveN xs a xs.length = timeN xs a
  | 0 => by
    have : ∀ k, liveN xs 0 k = 0 := fun k => by induction k with
      | zero => rfl
      | succ k ih => rw [liveN, ih]; simp
    rw [this, timeN]
  | a + 1 => by
    rw [live_step, live_time xs a, timeN]
    have e : sumN xs (min a xs.length) = sumN xs a := by
      rcases Nat.lt_or_ge a xs.length with h | h
      · rw [Nat.min_eq_left (by omega)]
      · rw [Nat.min_eq_right h, sumN_past xs h]
    rw [e]
def costA (xs : List Int) (p f : Int) (a : Nat) : Int := f * sumN xs a + p * (sumN xs xs.length - sumN xs a)
theorem time_mono {xs : List Int} (h : ∀ k, 0 ≤ xs.getD k 0) {a b : Nat} (hab : a ≤ b) : timeN xs a ≤ timeN xs b := by
  induction b with
  | zero => have : a = 0 := by omega
            subst this; exact Int.le_refl _
  | succ b ih =>
    rcases Nat.lt_or_ge b a with h1 | h1
    · have : a = b + 1 := by omega
      subst this; exact Int.le_refl _
    · have := ih h1; have := sumS_le h b; rw [timeN]; omega
theorem time_bd {xs : List Int} (h : chM xs = true) : ∀ a : Nat, 0 ≤ timeN xs a ∧ timeN xs a ≤ 63 * (a : Int)
  | 0 => by simp [timeN]
  | a + 1 => by
    have ih := time_bd h a
    have h1 := sumS_le (fun k => ((chM_at h).2.2.1 k).1) a
    have h2 := sumS_0 (fun k => ((chM_at h).2.2.1 k).1) a
    have h3 := ch_T h
    rw [timeN]; push_cast; omega
theorem time_pos {xs : List Int} (h : chM xs = true) {a : Nat} (ha : 1 ≤ a) : 1 ≤ timeN xs a := by
  have h1 := time_mono (fun k => ((chM_at h).2.2.1 k).1) ha
  have h3 := ch_T h
  have : timeN xs 1 = sumN xs xs.length := by simp [timeN, sumN]
  omega
theorem costA_bd {xs : List Int} {p f : Int} (h : chM xs = true) (hp : 0 ≤ p ∧ p ≤ 30) (hf : 0 ≤ f ∧ f ≤ 30) (a : Nat) : 0 ≤ costA xs p f a ∧ costA xs p f a ≤ 3780 := by
  have h1 := sumS_le (fun k => ((chM_at h).2.2.1 k).1) a
  have h2 := sumS_0 (fun k => ((chM_at h).2.2.1 k).1) a
  have h3 := ch_T h
  have b1 : 0 ≤ f * sumN xs a ∧ f * sumN xs a ≤ 30 * 63 := ⟨Int.mul_nonneg hf.1 h2, Int.mul_le_mul hf.2 (by omega) h2 (by omega)⟩
  have b2 : 0 ≤ p * (sumN xs xs.length - sumN xs a) ∧ p * (sumN xs xs.length - sumN xs a) ≤ 30 * 63 := ⟨Int.mul_nonneg hp.1 (by omega), Int.mul_le_mul hp.2 (by omega) (by omega) (by omega)⟩
  unfold costA; omega
def ageU (xs : List Int) (p f : Int) (a : Nat) : Nat := (costA xs p f a).toNat
def ageD (xs : List Int) (a : Nat) : Nat := (timeN xs a).toNat
theorem ageU_is {xs : List Int} {p f : Int} (h : okO xs p f = true) (a : Nat) : (ageU xs p f a : Int) = costA xs p f a ∧ ageU xs p f a ≤ 3780 := by
  obtain ⟨h0, hp, hp2, hf, hf2⟩ := okO_at h
  have := costA_bd (a := a) h0 ⟨hp, hp2⟩ ⟨hf, hf2⟩
  unfold ageU; omega
theorem ageD_is {xs : List Int} (h : chM xs = true) (a : Nat) : (ageD xs a : Int) = timeN xs a ∧ ageD xs a ≤ 63 * a := by
  have := time_bd h a
  unfold ageD; omega
theorem ageD_pos {xs : List Int} (h : chM xs = true) {a : Nat} (ha : 1 ≤ a) : 1 ≤ ageD xs a := by
  have := time_pos h ha
  unfold ageD; omega
def rateFine (xs : List Int) (a p f : Int) : Bool := okO xs p f && inB 1 7 a
def rateU (xs : List Int) (a p f : Int) : Nat := if rateFine xs a p f then fU (ageU xs p f a.toNat) (ageD xs a.toNat) else 0
def rateD (xs : List Int) (a p f : Int) : Nat := if rateFine xs a p f then fD (ageU xs p f a.toNat) (ageD xs a.toNat) else 0
/-- the first best age of 1 .. k + 1 -/
def bestA (xs : List Int) (p f : Int) : Nat → Nat
  | 0 => 1
  | k + 1 => if ageU xs p f (k + 2) * ageD xs (bestA xs p f k) < ageU xs p f (bestA xs p f k) * ageD xs (k + 2) then k + 2 else bestA xs p f k
def bestARes (xs : List Int) (p f : Int) : Int := if okO xs p f then (bestA xs p f 6 : Int) else -1
theorem q_le {a b c d e f : Nat} (h1 : a * d ≤ c * b) (h2 : c * f ≤ e * d) (hd : 1 ≤ d) : a * f ≤ e * b := by
  refine Nat.le_of_mul_le_mul_right (c := d) ?_ hd
  calc a * f * d = (a * d) * f := by rw [Nat.mul_right_comm]
    _ ≤ (c * b) * f := Nat.mul_le_mul_right _ h1
    _ = (c * f) * b := by rw [Nat.mul_right_comm]
    _ ≤ (e * d) * b := Nat.mul_le_mul_right _ h2
    _ = e * b * d := by rw [Nat.mul_right_comm]
theorem q_lt {a b c d e f : Nat} (h1 : a * d < c * b) (h2 : c * f ≤ e * d) (hd : 1 ≤ d) (hf : 1 ≤ f) : a * f < e * b := by
  refine Nat.lt_of_mul_lt_mul_right (a := d) ?_
  calc a * f * d = (a * d) * f := by rw [Nat.mul_right_comm]
    _ < (c * b) * f := Nat.mul_lt_mul_of_pos_right h1 hf
    _ = (c * f) * b := by rw [Nat.mul_right_comm]
    _ ≤ (e * d) * b := Nat.mul_le_mul_right _ h2
    _ = e * b * d := by rw [Nat.mul_right_comm]
theorem bestA_is {xs : List Int} {p f : Int} (h : chM xs = true) : ∀ k, 1 ≤ bestA xs p f k ∧ bestA xs p f k ≤ k + 1 ∧ ∀ a, 1 ≤ a → a ≤ k + 1 →
    ageU xs p f (bestA xs p f k) * ageD xs a ≤ ageU xs p f a * ageD xs (bestA xs p f k) ∧ (a < bestA xs p f k → ageU xs p f (bestA xs p f k) * ageD xs a < ageU xs p f a * ageD xs (bestA xs p f k))
  | 0 => ⟨Nat.le_refl _, Nat.le_refl _, fun a h1 h2 => by
      have : a = 1 := by omega
      subst this; exact ⟨Nat.le_refl _, fun h => absurd h (by simp [bestA])⟩⟩
  | k + 1 => by
    obtain ⟨i1, i2, i3⟩ := bestA_is (p := p) (f := f) h k
    by_cases hc : ageU xs p f (k + 2) * ageD xs (bestA xs p f k) < ageU xs p f (bestA xs p f k) * ageD xs (k + 2)
    · have e : bestA xs p f (k + 1) = k + 2 := by rw [bestA, if_pos hc]
      rw [e]
      refine ⟨by omega, by omega, fun a h1 h2 => ?_⟩
      rcases Nat.eq_or_lt_of_le h2 with h3 | h3
      · subst h3; exact ⟨Nat.le_refl _, fun h => absurd h (by omega)⟩
      · have hl := q_lt hc (i3 a h1 (by omega)).1 (ageD_pos h i1) (ageD_pos h h1)
        exact ⟨Nat.le_of_lt hl, fun _ => hl⟩
    · have e : bestA xs p f (k + 1) = bestA xs p f k := by rw [bestA, if_neg hc]
      rw [e]
      refine ⟨i1, by omega, fun a h1 h2 => ?_⟩
      rcases Nat.eq_or_lt_of_le h2 with h3 | h3
      · subst h3; exact ⟨Nat.le_of_not_lt hc, fun h => absurd h (by omega)⟩
      · exact i3 a h1 (by omega)
/-- renewing that is no cheaper than failing pays at no age -/
theorem never_best {xs : List Int} {p f : Int} (h : okO xs p f = true) (hpf : f ≤ p) {a : Nat} (ha : a ≤ 7) : ageU xs p f 7 * ageD xs a ≤ ageU xs p f a * ageD xs 7 := by
  obtain ⟨h0, hp, hp2, hf, hf2⟩ := okO_at h
  have hx := fun k => ((chM_at h0).2.2.1 k).1
  have hT : sumN xs 7 = sumN xs xs.length := sumN_past xs (chM_at h0).2.1
  have h1 : ageU xs p f 7 ≤ ageU xs p f a := by
    have e1 := (ageU_is h 7).1
    have e2 := (ageU_is h a).1
    have : costA xs p f 7 ≤ costA xs p f a := by
      unfold costA
      rw [hT]
      have := sumS_le hx a
      have g := Int.mul_le_mul_of_nonneg_right hpf (show 0 ≤ sumN xs xs.length - sumN xs a by omega)
      rw [Int.mul_sub] at g
      rw [Int.sub_self, Int.mul_zero]
      omega
    omega
  have h2 : ageD xs a ≤ ageD xs 7 := by
    have e1 := (ageD_is h0 7).1
    have e2 := (ageD_is h0 a).1
    have := time_mono hx ha
    omega
  exact Nat.mul_le_mul h1 h2
end Go.Proofs.Ytkjmpkincaainac
