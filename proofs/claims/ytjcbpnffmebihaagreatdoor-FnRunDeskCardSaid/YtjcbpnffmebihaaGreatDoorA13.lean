import Derived.Test.YtjcbpnffmebihaaGreatDoorA11
import Derived.Test.YtjcbpnffmebihaaGreatDoorA12
import Derived.Test.YtjcbpnffmebihaaGreatDoorRows
import Derived.WalkKit
import Derived.LoopTactic
import Derived.Outline
import Derived.WalkSpells
import Derived.WalkLawsBesides
import Derived.ProofKit
import Derived.Lib.Hide
import Derived.Deep.QuietTactic
import Derived.BigQuiet
import Derived.IntWalk
import Derived.Shelf.RegionOpenPlain
set_option linter.unusedVariables false
set_option linter.unusedSimpArgs false
namespace Go.Proofs.YtjcbpnffmebihaaGreatDoor

/-- The least tact for so many places. -/
def okT (T : List Int) (A : List Nat) (places : Int) (t : Nat) : Prop := (∀ k, k < T.length → T.getD k 0 ≤ (t : Int)) ∧ fewM T A t ≤ places
instance (T : List Int) (A : List Nat) (places : Int) (t : Nat) : Decidable (okT T A places t) := by unfold okT; infer_instance
end Go.Proofs.YtjcbpnffmebihaaGreatDoor
namespace Go.Proofs.YtjcbpnffmebihaaGreatDoor

-- chapter 11, plain: first fit in any order, and what no plan goes below
theorem card_all (n : Nat) : card (fun _ => true) n = n := by
  induction n with
  | zero => rfl
  | succ n ih => rw [card, ih]; simp
end Go.Proofs.YtjcbpnffmebihaaGreatDoor
namespace Go.Proofs.YtjcbpnffmebihaaGreatDoor
open Go.RowKit

/-- chances -/
def chM (xs : List Int) : Bool := decide (1 ≤ xs.length ∧ xs.length ≤ 7) && allIn 0 9 xs && decide (0 < totalM xs)
def okO (xs : List Int) (o u : Int) : Bool := chM xs && inB 0 30 o && inB 0 30 u
theorem chM_at {xs : List Int} (h : chM xs = true) : 1 ≤ xs.length ∧ xs.length ≤ 7 ∧ (∀ k, 0 ≤ xs.getD k 0 ∧ xs.getD k 0 ≤ 9) ∧ 0 < sumN xs xs.length := by
  unfold chM at h
  simp only [Bool.and_eq_true, decide_eq_true_eq] at h
  exact ⟨h.1.1.1, h.1.1.2, fun k => allIn_getD h.1.2 (by omega) (by omega) k, by rw [← totalM_eq]; exact h.2⟩
theorem okO_at {xs : List Int} {o u : Int} (h : okO xs o u = true) : chM xs = true ∧ 0 ≤ o ∧ o ≤ 30 ∧ 0 ≤ u ∧ u ≤ 30 := by
  unfold okO inB at h
  simp only [Bool.and_eq_true, decide_eq_true_eq] at h
  exact ⟨h.1.1, h.1.2.1, h.1.2.2, h.2.1, h.2.2⟩
theorem sumS_mono {xs : List Int} (h : ∀ k, 0 ≤ xs.getD k 0) {a b : Nat} (hab : a ≤ b) : sumN xs a ≤ sumN xs b := by
  induction b with
  | zero => have : a = 0 := by omega
            subst this; exact Int.le_refl _
  | succ b ih =>
    rcases Nat.lt_or_ge b a with h1 | h1
    · have : a = b + 1 := by omega
      subst this; exact Int.le_refl _
    · have := ih h1; have := h b; rw [sumN]; omega
theorem sumN_past (xs : List Int) {k : Nat} (h : xs.length ≤ k) : sumN xs k = sumN xs xs.length := by
  induction k with
  | zero => have : xs.length = 0 := by omega
            rw [this]
  | succ k ih =>
    rcases Nat.lt_or_ge k xs.length with h1 | h1
    · have : xs.length = k + 1 := by omega
      rw [this]
    · rw [sumN, ih h1, getD_past h1]; omega
theorem sumS_0 {xs : List Int} (h : ∀ k, 0 ≤ xs.getD k 0) (k : Nat) : 0 ≤ sumN xs k := by
  have := sumS_mono h (Nat.zero_le k); simpa [sumN] using this
/-- what one want of v costs at a stock of s -/
def unitC (s v : Nat) (o u : Int) : Int := o * ((s - v : Nat) : Int) + u * ((v - s : Nat) : Int)
def costK (xs : List Int) (s : Nat) (o u : Int) : Nat → Int
  | 0 => 0
  | k + 1 => costK xs s o u k + xs.getD k 0 * unitC s k o u
def costS (xs : List Int) (s : Nat) (o u : Int) : Int := costK xs s o u xs.length
def stockRes (xs : List Int) (s : Int) (o u : Int) : Int := if okO xs o u && inB 0 7 s then costS xs s.toNat o u else -1
theorem unit_bd {s v : Nat} {o u : Int} (ho : 0 ≤ o ∧ o ≤ 30) (hu : 0 ≤ u ∧ u ≤ 30) (hs : s ≤ 8) (hv : v ≤ 8) : 0 ≤ unitC s v o u ∧ unitC s v o u ≤ 480 := by
  unfold unitC
  have b1 : 0 ≤ o * ((s - v : Nat) : Int) ∧ o * ((s - v : Nat) : Int) ≤ 30 * 8 := ⟨Int.mul_nonneg ho.1 (by omega), Int.mul_le_mul ho.2 (by omega) (by omega) (by omega)⟩
  have b2 : 0 ≤ u * ((v - s : Nat) : Int) ∧ u * ((v - s : Nat) : Int) ≤ 30 * 8 := ⟨Int.mul_nonneg hu.1 (by omega), Int.mul_le_mul hu.2 (by omega) (by omega) (by omega)⟩
  omega
theorem termC_bd {x c : Int} (hx : 0 ≤ x ∧ x ≤ 9) (hc : 0 ≤ c ∧ c ≤ 480) : 0 ≤ x * c ∧ x * c ≤ 4320 :=
  ⟨Int.mul_nonneg hx.1 hc.1, by have := Int.mul_le_mul hx.2 hc.2 hc.1 (by omega : (0 : Int) ≤ 9); omega⟩
theorem costK_bd10 {xs : List Int} {s : Nat} {o u : Int} (hx : ∀ k, 0 ≤ xs.getD k 0 ∧ xs.getD k 0 ≤ 9) (ho : 0 ≤ o ∧ o ≤ 30) (hu : 0 ≤ u ∧ u ≤ 30) (hs : s ≤ 8) : ∀ k : Nat, k ≤ 8 → 0 ≤ costK xs s o u k ∧ costK xs s o u k ≤ 4320 * (k : Int)
  | 0, _ => by simp [costK]
  | k + 1, hk => by
    have ih := costK_bd10 hx ho hu hs k (by omega)
    have := termC_bd (hx k) (unit_bd (s := s) (v := k) ho hu hs (by omega))
    rw [costK]; push_cast; omega
theorem costK_step {xs : List Int} {s : Nat} {o u : Int} : ∀ k : Nat, costK xs (s + 1) o u k = costK xs s o u k + (o + u) * sumN xs (min (s + 1) k) - u * sumN xs k
  | 0 => by simp [costK, sumN]
  | k + 1 => by
    rw [costK, costK, costK_step k, sumN]
    rcases Nat.lt_or_ge s k with h | h
    · rw [Nat.min_eq_left (by omega), Nat.min_eq_left (by omega)]
      have e1 : unitC (s + 1) k o u = unitC s k o u - u := by
        unfold unitC
        rw [show s + 1 - k = 0 by omega, show s - k = 0 by omega, show ((k - s : Nat) : Int) = ((k - (s + 1) : Nat) : Int) + 1 by omega, Int.mul_add]
        omega
      rw [e1, Int.mul_sub, Int.mul_add u, Int.mul_comm u (xs.getD k 0)]
      omega
    · rw [Nat.min_eq_right (by omega), Nat.min_eq_right (by omega), sumN]
      have e1 : unitC (s + 1) k o u = unitC s k o u + o := by
        unfold unitC
        rw [show k - (s + 1) = 0 by omega, show k - s = 0 by omega, show ((s + 1 - k : Nat) : Int) = ((s - k : Nat) : Int) + 1 by omega, Int.mul_add]
        omega
      rw [e1, Int.mul_add, Int.mul_add (o + u), Int.mul_add u, Int.add_mul o u (xs.getD k 0), Int.mul_comm u (xs.getD k 0), Int.mul_comm o (xs.getD k 0)]
      omega
theorem costS_step (xs : List Int) (s : Nat) (o u : Int) : costS xs (s + 1) o u = costS xs s o u + (sumN xs (s + 1) * (o + u) - u * sumN xs xs.length) := by
  unfold costS
  rw [costK_step]
  have e : sumN xs (min (s + 1) xs.length) = sumN xs (s + 1) := by
    rcases Nat.lt_or_ge (s + 1) xs.length with h | h
    · rw [Nat.min_eq_left (by omega)]
    · rw [Nat.min_eq_right h, sumN_past xs h]
  rw [e, Int.mul_comm (o + u)]
  omega

/-- the first from s on at which p holds, or the end -/
def firstB (p : Nat → Bool) : Nat → Nat → Nat
  | 0, s => s
  | n + 1, s => if p s then s else firstB p n (s + 1)
theorem firstB_is (p : Nat → Bool) : ∀ n s, s ≤ firstB p n s ∧ firstB p n s ≤ s + n ∧ (∀ j, s ≤ j → j < firstB p n s → p j = false) ∧ (firstB p n s < s + n → p (firstB p n s) = true)
  | 0, s => ⟨Nat.le_refl _, Nat.le_refl _, fun j h1 h2 => by simp only [firstB] at h2; omega, fun h => by simp only [firstB] at h; omega⟩
  | n + 1, s => by
    cases h : p s
    · have e : firstB p (n + 1) s = firstB p n (s + 1) := by simp [firstB, h]
      obtain ⟨i1, i2, i3, i4⟩ := firstB_is p n (s + 1)
      rw [e]
      refine ⟨by omega, by omega, fun j h1 h2 => ?_, fun h2 => i4 (by omega)⟩
      rcases Nat.eq_or_lt_of_le h1 with h3 | h3
      · rw [← h3]; exact h
      · exact i3 j (by omega) h2
    · have e : firstB p (n + 1) s = s := by simp [firstB, h]
      rw [e]
      exact ⟨Nat.le_refl _, by omega, fun j h1 h2 => by omega, fun _ => h⟩
/-- the share is met at s -/
def metB (xs : List Int) (o u : Int) (s : Nat) : Bool := decide (u * sumN xs xs.length ≤ sumN xs (s + 1) * (o + u))
def shareN (xs : List Int) (o u : Int) : Nat := firstB (metB xs o u) 7 0
def shareRes (xs : List Int) (o u : Int) : Int := if okO xs o u then (shareN xs o u : Int) else -1
theorem met_mono {xs : List Int} {o u : Int} (hx : ∀ k, 0 ≤ xs.getD k 0) (ho : 0 ≤ o) (hu : 0 ≤ u) {s t : Nat} (hst : s ≤ t) (h : metB xs o u s = true) : metB xs o u t = true := by
  unfold metB at h ⊢
  have h := of_decide_eq_true h
  have := Int.mul_le_mul_of_nonneg_right (sumS_mono hx (show s + 1 ≤ t + 1 by omega)) (show 0 ≤ o + u by omega)
  exact decide_eq_true (by omega)
theorem met_last {xs : List Int} {o u : Int} (h : chM xs = true) (ho : 0 ≤ o) (hu : 0 ≤ u) {s : Nat} (hs : xs.length ≤ s + 1) : metB xs o u s = true := by
  obtain ⟨_, _, h2, _⟩ := chM_at h
  unfold metB
  rw [sumN_past xs hs]
  have b := Int.mul_nonneg ho (sumS_0 (fun k => (h2 k).1) xs.length)
  have e : sumN xs xs.length * (o + u) = o * sumN xs xs.length + u * sumN xs xs.length := by rw [Int.mul_comm, Int.add_mul]
  rw [e]
  exact decide_eq_true (by omega)
theorem share_is {xs : List Int} {o u : Int} (h : chM xs = true) (ho : 0 ≤ o) (hu : 0 ≤ u) : shareN xs o u < xs.length ∧ metB xs o u (shareN xs o u) = true ∧ ∀ j, j < shareN xs o u → metB xs o u j = false := by
  obtain ⟨h0, h1, h2, h3⟩ := chM_at h
  obtain ⟨_, i2, i3, i4⟩ := firstB_is (metB xs o u) 7 0
  have hl : shareN xs o u < xs.length := by
    rcases Nat.lt_or_ge (shareN xs o u) xs.length with g | g
    · exact g
    · have := i3 (xs.length - 1) (Nat.zero_le _) (by unfold shareN at g; omega)
      rw [met_last h ho hu (by omega)] at this; cases this
  exact ⟨hl, i4 (by unfold shareN at hl; omega), fun j hj => i3 j (Nat.zero_le _) hj⟩
theorem met_cost {xs : List Int} {o u : Int} {s : Nat} : metB xs o u s = decide (costS xs s o u ≤ costS xs (s + 1) o u) := by
  unfold metB
  rw [costS_step]
  apply decide_eq_decide.2
  omega
theorem cost_up {xs : List Int} {o u : Int} (h : chM xs = true) (ho : 0 ≤ o) (hu : 0 ≤ u) : ∀ d, costS xs (shareN xs o u) o u ≤ costS xs (shareN xs o u + d) o u
  | 0 => Int.le_refl _
  | d + 1 => by
    have ih := cost_up h ho hu d
    have hm := met_mono (s := shareN xs o u) (t := shareN xs o u + d) (fun k => ((chM_at h).2.2.1 k).1) ho hu (by omega) (share_is h ho hu).2.1
    rw [met_cost] at hm
    have := of_decide_eq_true hm
    rw [← Nat.add_assoc]; omega
theorem cost_down {xs : List Int} {o u : Int} {s : Nat} (h : chM xs = true) (ho : 0 ≤ o) (hu : 0 ≤ u) (hs : s < shareN xs o u) : costS xs (s + 1) o u < costS xs s o u := by
  have := (share_is h ho hu).2.2 s hs
  rw [met_cost] at this
  have := of_decide_eq_false this
  omega
theorem cost_down2 {xs : List Int} {o u : Int} (h : chM xs = true) (ho : 0 ≤ o) (hu : 0 ≤ u) {s : Nat} : ∀ d, s + d = shareN xs o u → costS xs (shareN xs o u) o u ≤ costS xs s o u := by
  intro d
  induction d generalizing s with
  | zero => intro e; have : s = shareN xs o u := by omega
            rw [this]; exact Int.le_refl _
  | succ d ih => intro e; have := ih (s := s + 1) (by omega); have := cost_down (s := s) h ho hu (by omega); omega
theorem cost_least {xs : List Int} {o u : Int} (h : chM xs = true) (ho : 0 ≤ o) (hu : 0 ≤ u) (s : Nat) : costS xs (shareN xs o u) o u ≤ costS xs s o u := by
  rcases Nat.lt_or_ge s (shareN xs o u) with g | g
  · exact cost_down2 h ho hu (shareN xs o u - s) (by omega)
  · have := cost_up h ho hu (s - shareN xs o u)
    rwa [show shareN xs o u + (s - shareN xs o u) = s by omega] at this
/-- the walk from 0 up that keeps the first best one stands at the share, or before it -/
theorem best_step {xs : List Int} {o u : Int} (h : chM xs = true) (ho : 0 ≤ o) (hu : 0 ≤ u) {k : Nat} :
    (if costS xs k o u < costS xs (min (shareN xs o u) (k - 1)) o u then k else min (shareN xs o u) (k - 1)) = min (shareN xs o u) k := by
  rcases Nat.lt_or_ge (shareN xs o u) k with g | g
  · rw [Nat.min_eq_left (by omega), Nat.min_eq_left (by omega), if_neg]
    have := cost_least h ho hu k
    omega
  · rw [Nat.min_eq_right (by omega), Nat.min_eq_right g]
    cases k with
    | zero => simp
    | succ k =>
      rw [if_pos]
      exact cost_down h ho hu (by omega)

-- ages
end Go.Proofs.YtjcbpnffmebihaaGreatDoor
namespace Go.Proofs.YtjcbpnffmebihaaGreatDoor
open Go.RowKit Go.WideShapes

theorem Tryz.infoIntMB : (Tryz.prog.info? 3).map (fun i => (i.zero, i.size, i.bytes)) = some (some (.int .i64 0), 1, 8) := by kernel_rfl
theorem bst_le_run {xs : List Int} {s h : Int} {i d : Nat} (hd : 0 < d) (hi : i + d ≤ xs.length) : bst xs s h i ≤ runD xs s h i d + bst xs s h (i + d) := by
  have h1 := (bst_is (s := s) (h := h) (show i + d ≤ xs.length from hi)).1
  obtain ⟨e, rfl⟩ : ∃ e, d = e + 1 := ⟨d - 1, by omega⟩
  exact (bst_is (show i ≤ xs.length by omega)).2 _ (PC.lot i e _ hi h1)
set_option maxHeartbeats 1000000 in
theorem daysFrom_at (S : Nat → Prop) (b off len cap : Nat) (xs : List Int) (n m : Int) (first days l : Nat) (w : World) (h : IntsAt w S (some ⟨b, off, none⟩) len xs) (hc : len ≤ cap) (hl8 : len ≤ 8) (hn : n = (first : Int)) (hm : m = (days : Int)) (hf : first < len) (hd : 1 ≤ days) (hd9 : days ≤ 9) (hl : l = min days (len - first)) :
    Calls Tryz.prog 124 #[.slice (some ⟨b, off, none⟩) len cap, .int .i64 n, .int .i64 m] w (fun e w' => e = .returned (.slice (some ⟨b, off + first, none⟩) l l) ∧ w' = w) := by
  subst hn hm
  by_cases hmin : first + days ≤ len
  · obtain rfl : l = days := by omega
    have e1 : (first : Int) + (l : Int) ≤ (len : Int) := by omega
    clear hl
    go_enter Tryz.func124, Tryz.ntmps124
    go_wp2
    go_ret
    exact ⟨ret_slice (by omega) (by omega), rfl⟩
  · have e1 : ¬ (first : Int) + (days : Int) ≤ (len : Int) := by omega
    obtain rfl : l = len - first := by omega
    clear hl
    go_enter Tryz.func124, Tryz.ntmps124
    go_wp2
    go_ret
    exact ⟨ret_slice (by omega) (by omega), rfl⟩
/-- the boxes of a closure over the list and the costs -/
structure LotBox (wr : World) (n : Nat) (a : Option Addr) (len cap : Nat) (s h : Int) : Prop where
  list : wr.cell? ⟨n, 0, none⟩ = some (.slice a len cap)
  set : wr.cell? ⟨n + 1, 0, none⟩ = some (.int .i64 s)
  hold : wr.cell? ⟨n + 2, 0, none⟩ = some (.int .i64 h)
theorem LotBox.below {wr w' : World} {n m : Nat} {a : Option Addr} {len cap : Nat} {s h : Int} (d : LotBox wr n a len cap s h) (hb : Below m wr w') (hm : n + 2 < m) : LotBox w' n a len cap s h :=
  ⟨(hb.cell (p := ⟨n, 0, none⟩) (by show n < m; omega)).trans d.list, (hb.cell (p := ⟨n + 1, 0, none⟩) (by show n + 1 < m; omega)).trans d.set, (hb.cell (p := ⟨n + 2, 0, none⟩) (by show n + 2 < m; omega)).trans d.hold⟩
set_option maxRecDepth 100000 in
set_option maxHeartbeats 4000000 in
theorem bestDays_any (S : Nat → Prop) (n bl b off len cap : Nat) (xs : List Int) (s h : Int) (f : Nat → Int) (i : Nat) (w : World) (hx : IntsAt w S (some ⟨b, off, none⟩) len xs) (hcap : len ≤ cap) (hl8 : len ≤ 8) (hv : ∀ k, 0 ≤ xs.getD k 0 ∧ xs.getD k 0 ≤ 20) (hs : 0 ≤ s ∧ s ≤ 30) (hh : 0 ≤ h ∧ h ≤ 30)
    (hB : LotBox w n (some ⟨b, off, none⟩) len cap s h) (hA : Arr9 w bl f) (hf : ∀ q, q ≤ len → f q = bst xs s h q) (hi : i < len) :
    Calls Tryz.prog 122 #[.int .i64 i, .pointer (some ⟨n, 0, none⟩), .pointer (some ⟨n + 1, 0, none⟩), .pointer (some ⟨n + 2, 0, none⟩), .pointer (some ⟨bl, 0, none⟩)] w (fun e w' => e = .returned (.int .i64 ((nxB xs s h i - i : Nat) : Int)) ∧ ∃ q, w' = w.drewN q) := by
  have HL := Lib.hid hx.lenEq
  obtain ⟨⟨hn1, hn2⟩, hn3, hn4⟩ := nxB_spec (xs := xs) (s := s) (h := h) (i := i) (by rw [HL.out]; exact hi)
  rw [HL.out] at hn2 hn4
  have HV := Lib.hid hv
  have HN3 := Lib.hid hn3
  have HN4 := Lib.hid hn4
  have HA := Lib.hid hA
  have HF := Lib.hid hf
  have HBX := Lib.hid hB
  have c1 := hB.list
  have hil : (i : Int) ≤ (len : Int) := by omega
  clear hn3 hn4 hA hf hB hv
  generalize nxB xs s h i = nx at *
  go_enter Tryz.func122, Tryz.ntmps122
  go_wp2_with fail
  go_loopw [7] (fun v wr => ∃ d : Nat, nx - i ≤ d ∧ d ≤ len - i ∧ v = .int .i64 (d : Int) ∧ Drew w wr) (fun v _ => (intOf v).toNat)
  case atStart => exact ⟨len - i, by omega, by omega, by congr 1; omega, Drew.refl _⟩
  case round =>
    obtain ⟨d, hd1, hd2, rfl, hdw⟩ := hrel
    have hd0 : 1 ≤ d := by omega
    have HDW := Lib.hid hdw
    have hAr : Arr9 wr bl f := by obtain ⟨z, rfl⟩ := hdw; exact HA.out
    have hBr : LotBox wr n (some ⟨b, off, none⟩) len cap s h := by obtain ⟨z, rfl⟩ := hdw; exact ⟨HBX.out.list, HBX.out.set, HBX.out.hold⟩
    have b1 := hBr.list
    have b2 := hBr.set
    have b3 := hBr.hold
    have e1 := (hAr i (by omega)).1
    have e2 := (hAr (i + d) (by omega)).1
    rw [HF.out i (by omega)] at e1
    rw [HF.out (i + d) (by omega)] at e2
    have hle := bst_le_run (s := s) (h := h) (xs := xs) (i := i) (d := d) hd0 (by rw [HL.out]; omega)
    have hrb := runD_bd HV.out (s := s) (h := h) (by omega) (by omega) i d (by omega)
    have hbb := bst_bd (s := s) (h := h) (i := i + d) (by rw [HL.out]; exact hl8) HV.out (by omega) (by omega) (by rw [HL.out]; omega)
    have hbi := bst_bd (s := s) (h := h) (i := i) (by rw [HL.out]; exact hl8) HV.out (by omega) (by omega) (by rw [HL.out]; omega)
    have HDF := Lib.hid (fun z => daysFrom_at S b off len cap xs i d i d d (wr.drewN z) (Drew.ints hx (by obtain ⟨y, rfl⟩ := HDW.out; exact ⟨y + z, World.drewN_drewN _ _ _⟩)) hcap hl8 rfl rfl hi hd0 (by omega) (by omega))
    have HCO := Lib.hid (fun z => costPart_any S b off len d xs s h i (i + d) d (wr.drewN z) (Drew.ints hx (by obtain ⟨y, rfl⟩ := HDW.out; exact ⟨y + z, World.drewN_drewN _ _ _⟩)) hl8 HV.out hs hh (by omega) (by omega) (by omega))
    have HEQ := Lib.hid (show d = nx - i → runD xs s h i d + bst xs s h (i + d) = bst xs s h i from fun e => by
      have := HN3.out; rw [e, show i + (nx - i) = nx by omega]; exact this)
    have HNE := Lib.hid (show nx - i < d → runD xs s h i d + bst xs s h (i + d) ≠ bst xs s h i from fun e => by
      have := HN4.out (i + d) (by omega) (by omega); rwa [show i + d - i = d by omega] at this)
    clear hBr hAr hdw c1
    generalize runD xs s h i d = r at *
    generalize bst xs s h (i + d) = bd at *
    generalize bst xs s h i = bi at *
    have hw1 : IntKind.i64.wrap (r + bd) = r + bd := IntWalk.i64_in _ (by omega)
    have hid9 : i + d < 9 := by omega
    have hid9' : (i : Int) + (d : Int) < 9 := by omega
    have hi9 : i < 9 := by omega
    have hi9' : (i : Int) < 9 := by omega
    by_cases hnx : nx - i < d
    · have hgt : bi < r + bd := by have := HNE.out hnx; omega
      go_wp2_with fail
      go_quiet (first | (go_at_call 124; with_reducible exact Calls.quiet_of_same (HDF.out _)) | (go_at_call 123; with_reducible exact Calls.quiet_of_same (HCO.out _)))
      clear hw1 e1 e2 b1 b2 b3
      go_wp2_with fail
      go_roundw
      case rel => exact ⟨d - 1, by omega, by omega, by congr 1; omega, HDW.out.drew _⟩
      case measure => simp [intOf] <;> omega
    · have hde : d = nx - i := by omega
      have hgt : ¬ bi < r + bd := by have := HEQ.out hde; omega
      have HDE := Lib.hid hde
      clear hde
      go_wp2_with fail
      go_quiet (first | (go_at_call 124; with_reducible exact Calls.quiet_of_same (HDF.out _)) | (go_at_call 123; with_reducible exact Calls.quiet_of_same (HCO.out _)))
      clear hw1 e1 e2 b1 b2 b3
      go_wp2_with fail
      go_ret
      obtain ⟨y, rfl⟩ := HDW.out
      exact ⟨ret_int (by rw [HDE.out]), y + nq, World.drewN_drewN _ _ _⟩
set_option maxRecDepth 100000 in
set_option maxHeartbeats 4000000 in
theorem madeByBest_any (n bl : Nat) (a : Option Addr) (len cap : Nat) (xs : List Int) (s h : Int) (f : Nat → Int) (w : World) (hx : IntsAt w (· < w.heap.size) a len xs) (hcap : len ≤ cap) (hl8 : len ≤ 8) (hv : ∀ k, 0 ≤ xs.getD k 0 ∧ xs.getD k 0 ≤ 20) (hs : 0 ≤ s ∧ s ≤ 30) (hh : 0 ≤ h ∧ h ≤ 30)
    (hB : LotBox w n a len cap s h) (hA : Arr9 w bl f) (hf : ∀ q, q ≤ len → f q = bst xs s h q) (hn : n + 2 < w.heap.size) (hbl : bl < w.heap.size) :
    Calls Tryz.prog 121 #[.slice a len cap, .func (.func 122) #[] #[.pointer (some ⟨n, 0, none⟩), .pointer (some ⟨n + 1, 0, none⟩), .pointer (some ⟨n + 2, 0, none⟩), .pointer (some ⟨bl, 0, none⟩)]] w (ResPostC w (bestLotsM xs s h)) := by
  have HL := Lib.hid hx.lenEq
  have HV := Lib.hid hv
  have HBX := Lib.hid hB
  have HA := Lib.hid hA
  have HF := Lib.hid hf
  have hmk := fun w => run_make_row' (P := Tryz.prog) 35 3 (.int .i64 0) 8 Tryz.underlying35 Tryz.infoIntMB rfl .i64 .i64 len (by omega) (by omega) w
  have HO0 := Lib.hid ((OwnF.start w len (by omega)).congr (g := madeTo (nxB xs s h) xs 0) (fun q _ => by unfold madeTo; rw [if_neg (by omega)]))
  clear hB hA hf hv
  go_enter Tryz.func121, Tryz.ntmps121
  go_wp2_with fail
  clear hmk
  go_loopw [6] (fun iv wr => ∃ v : Nat, v ≤ len ∧ (v < len → owner (nxB xs s h) v = v) ∧ iv = .int .i64 (v : Int) ∧ OwnF w wr len (madeTo (nxB xs s h) xs v)) (fun iv _ => len - (intOf iv).toNat)
  case atStart => exact ⟨0, Nat.zero_le _, fun _ => rfl, rfl, HO0.out⟩
  case round =>
    clear HO0
    obtain ⟨i, hi, ho, rfl, hC⟩ := hrel
    have HC := Lib.hid hC
    clear hC
    by_cases hil : i < len
    · have hilx : i < xs.length := by rw [HL.out]; exact hil
      have hnn := nxB_nexts xs s h i hilx
      rw [HL.out] at hnn
      obtain ⟨hn1, hn2⟩ := hnn
      have HNX := Lib.hid (madeTo_next (nxB_nexts xs s h) hilx (ho hil))
      have HNO := Lib.hid (fun hlt => owner_next (ho hil) hn1 : nxB xs s h i < len → _)
      have HNP := Lib.hid (made_part (xs := xs) (i := i) (k := nxB xs s h i) (by omega) (by rw [HL.out]; exact hn2))
      have hxw := hx.below HC.out.below
      obtain ⟨b, off, hab, hbS, _⟩ := hx.cells (by omega)
      subst hab
      have HCL := Lib.hid (bestDays_any _ n bl b off len cap xs s h f i wr hxw hcap hl8 HV.out hs hh (HBX.out.below HC.out.below hn) (HA.out.below HC.out.below hbl) HF.out hil)
      clear ho
      generalize nxB xs s h i = nx at *
      obtain ⟨d, hd⟩ : ∃ d, nx - i = d := ⟨_, rfl⟩
      rw [hd] at HCL
      have hd2 : nx = i + d := by omega
      subst hd2
      clear hd
      have hd1 : 1 ≤ d := by omega
      have hd9 : d ≤ 9 := by omega
      go_wp2_with fail
      refine HCL.out.mono ?_
      rintro e w2 ⟨rfl, z, rfl⟩
      have HC2 := Lib.hid (HC.out.drew z)
      have hx2 := hx.below HC2.out.below
      obtain ⟨wd, hwd⟩ : ∃ wd, wr.drewN z = wd := ⟨_, rfl⟩
      rw [hwd] at HC2 hx2 ⊢
      clear hwd hxw
      go_wp2_with fail
      refine (daysFrom_at _ b off len cap xs _ _ i d d _ hx2 hcap hl8 rfl rfl hil hd1 hd9 (by omega)).mono ?_
      rintro e w' ⟨rfl, rfl⟩
      have hpart := ints_part hx2 i (i + d) (by omega) hn2
      rw [show i + d - i = d by omega] at hpart
      have HNP2 := Lib.hid (show totalM ((xs.drop i).take d) = sumN xs (i + d) - sumN xs i by have := HNP.out; rwa [show i + d - i = d by omega] at this)
      have hil3 : (i : Int) < (len : Int) := by omega
      obtain ⟨e1, f1⟩ := HC2.out.cell hil
      go_wp2_with fail
      refine (sumOf_any _ _ d d _ w' hpart (fun y hy => days_mem HV.out y (List.mem_of_mem_drop (List.mem_of_mem_take hy))) (by omega)).mono ?_
      rintro e w'' ⟨rfl, rfl⟩
      rw [HNP2.out]
      go_wp2_with fail
      go_roundw
      case rel => exact ⟨i + d, hn2, fun hlt => HNO.out hlt, by go_num, (HC2.out.put i _).congr (fun z _ => HNX.out z)⟩
      case measure => simp [intOf] <;> omega
    · obtain rfl : i = len := by omega
      have HE := Lib.hid (show bestLotsM xs s h = tab (madeTo (nxB xs s h) xs i) i by
        unfold bestLotsM madeM
        rw [HL.out]
        exact tab_congr (fun q hq => by unfold madeTo; rw [if_pos hq]))
      go_wp2_with fail
      go_ret
      rw [HE.out]
      exact resPostC_of (resPost_block (tab_length _ _) (by omega) (fun q x hx => by
        obtain ⟨rfl, hq⟩ := tab_get hx
        exact HC.out.cell hq) HC.out.below) (Nat.le_refl _)
set_option maxRecDepth 100000 in
set_option maxHeartbeats 2000000 in
theorem bestLots_impl (a : Option Addr) (len cap : Nat) (xs : List Int) (s h : Int) (w : World) (hx : IntsAt w (· < w.heap.size) a len xs) (hcap : len ≤ cap) :
    Calls Tryz.prog 92 #[.slice a len cap, .int .i64 s, .int .i64 h] w (ResPostC w (bestRes xs s h)) := by
  have HL := Lib.hid hx.lenEq
  have z4 := cell_new_l w (.slice a len cap) 35
  have z5 := cell_new_l (w.alloc (.cells #[.slice a len cap] 35)) (.int .i64 s) 3
  have z6 := cell_new_l ((w.alloc (.cells #[.slice a len cap] 35)).alloc (.cells #[.int .i64 s] 3)) (.int .i64 h) 3
  simp only [World.size_alloc] at z5 z6
  obtain ⟨w0, hw0⟩ : ∃ w0, (((w.alloc (.cells #[.slice a len cap] 35)).alloc (.cells #[.int .i64 s] 3)).alloc (.cells #[.int .i64 h] 3)) = w0 := ⟨_, rfl⟩
  have hB0 : LotBox w0 w.heap.size a len cap s h := by rw [← hw0]; exact ⟨cell_alloc_l _ (cell_alloc_l _ z4.1), cell_alloc_l _ z5.1, z6.1⟩
  have hb0 : Below w.heap.size w w0 := by rw [← hw0]; exact ((((Below.refl w.heap.size w).alloc (by simp) _).alloc (by simp <;> omega) _).alloc (by simp <;> omega) _)
  have hsz0 : w0.heap.size = w.heap.size + 3 := by rw [← hw0]; simp
  have hx0 : IntsAt w0 (· < w0.heap.size) a len xs := ints_lift hx hb0
  have HW0 := Lib.hid hw0
  have HB0 := Lib.hid hb0
  have HSZ := Lib.hid hsz0
  have HBX := Lib.hid hB0
  have b1 := hB0.list
  have b2 := hB0.set
  have b3 := hB0.hold
  rw [show w.heap.size + 1 = w.heap.size + 1 from rfl] at b2
  clear z4 z5 z6 hw0 hb0 hsz0 hB0
  cases hvd : validDaysM xs
  · have hv : validLotsM xs s h = false := by unfold validLotsM; rw [hvd]; rfl
    rw [bestRes_no hv]
    have HVD := Lib.hid hvd
    clear hv hvd
    go_enter Tryz.func92, Tryz.ntmps92
    go_wp2_with fail
    rw [HW0.out]
    refine (validDays_impl _ _ _ _ xs _ hx0).mono ?_
    rintro e w' ⟨rfl, rfl⟩
    rw [HVD.out]
    go_wp2_with fail
    go_ret
    exact ⟨none, 0, 0, rfl, ⟨rfl, Nat.zero_le _, fun h => absurd h (by omega)⟩, ⟨Nat.zero_le _, fun h => absurd h (by omega)⟩, Nat.le_refl _, HB0.out⟩
  · have HVD := Lib.hid hvd
    cases hc : (inB 0 30 s && inB 0 30 h)
    · have hv : validLotsM xs s h = false := by unfold validLotsM; rw [Bool.and_assoc, hc]; simp
      rw [bestRes_no hv]
      have HC := Lib.hid hc
      clear hv hvd hc
      go_enter Tryz.func92, Tryz.ntmps92
      go_wp2_with fail
      rw [HW0.out]
      refine (validDays_impl _ _ _ _ xs _ hx0).mono ?_
      rintro e w' ⟨rfl, rfl⟩
      rw [HVD.out]
      go_wp2_with fail
      refine (areCosts_any _ _ _).mono ?_
      rintro e w' ⟨rfl, rfl⟩
      rw [HC.out]
      go_wp2_with fail
      go_ret
      exact ⟨none, 0, 0, rfl, ⟨rfl, Nat.zero_le _, fun h => absurd h (by omega)⟩, ⟨Nat.zero_le _, fun h => absurd h (by omega)⟩, Nat.le_refl _, HB0.out⟩
    · have hv : validLotsM xs s h = true := by unfold validLotsM; rw [Bool.and_assoc, hc, hvd]; rfl
      have HC := Lib.hid hc
      have hl8 : len ≤ 8 := by have := validDays_len hvd; have := HL.out; omega
      have HAT := Lib.hid (validDays_at hvd)
      obtain ⟨_, hs, hh⟩ := validLots_get hv
      rw [bestRes_yes hv]
      clear hv hvd hc
      go_enter Tryz.func92, Tryz.ntmps92
      go_wp2_with fail
      rw [HW0.out]
      refine (validDays_impl _ _ _ _ xs _ hx0).mono ?_
      rintro e w' ⟨rfl, rfl⟩
      rw [HVD.out]
      go_wp2_with fail
      refine (areCosts_any _ _ _).mono ?_
      rintro e w' ⟨rfl, rfl⟩
      rw [HC.out]
      go_wp2_with fail
      refine (leastByDay_any a len cap xs s h _ hx0 hcap hl8 HAT.out hs hh).mono ?_
      rintro e w1 ⟨⟨f, rfl, hf⟩, hb1⟩
      have HF := Lib.hid hf
      unfold agg9
      have hA2 := Arr9.new w1 f 147
      have hb12 := (Below.refl w1.heap.size w1).alloc (Nat.le_refl _) (.cells #[.int .i64 (f 0), .int .i64 (f 1), .int .i64 (f 2), .int .i64 (f 3), .int .i64 (f 4), .int .i64 (f 5), .int .i64 (f 6), .int .i64 (f 7), .int .i64 (f 8)] 147)
      have hsz2 : (w1.alloc (.cells #[.int .i64 (f 0), .int .i64 (f 1), .int .i64 (f 2), .int .i64 (f 3), .int .i64 (f 4), .int .i64 (f 5), .int .i64 (f 6), .int .i64 (f 7), .int .i64 (f 8)] 147)).heap.size = w1.heap.size + 1 := by simp
      obtain ⟨w2, hw2⟩ : ∃ w2, (w1.alloc (.cells #[.int .i64 (f 0), .int .i64 (f 1), .int .i64 (f 2), .int .i64 (f 3), .int .i64 (f 4), .int .i64 (f 5), .int .i64 (f 6), .int .i64 (f 7), .int .i64 (f 8)] 147)) = w2 := ⟨_, rfl⟩
      rw [hw2] at hA2 hb12 hsz2
      have HW2 := Lib.hid hw2
      have hsz1 := hb1.size
      have HB1 := Lib.hid hb1
      have hb02 := hb1.trans (hb12.mono hsz1)
      have hx2 := ints_lift hx0 hb02
      have HBX2 := Lib.hid (HBX.out.below hb02 (by have := HSZ.out; omega))
      have b4 := HBX2.out.list
      rw [← hw2] at b4
      have b5 := (HBX.out.below hb1 (by have := HSZ.out; omega)).list
      have hlt1 : w.heap.size < w1.heap.size := by have := HSZ.out; omega
      have HA2 := Lib.hid hA2
      have HB02 := Lib.hid hb02
      have HS2 := Lib.hid hsz2
      have HS1 := Lib.hid hsz1
      clear b1 b2 b3 hw2 hA2 hb12 hb1 hf hsz2 hb02 hsz1
      go_wp2_with fail
      rw [HW2.out]
      refine (madeByBest_any w.heap.size w1.heap.size a len cap xs s h f w2 hx2 hcap hl8 HAT.out hs hh HBX2.out HA2.out HF.out (by have := HSZ.out; have := HS2.out; have := HS1.out; omega) (by have := HS2.out; omega)).mono ?_
      rintro e w3 ⟨a3, l3, c3, rfl, h3, g3, hc3, hb3⟩
      have hfin : w.heap.size ≤ w2.heap.size := by have := HSZ.out; have := HS2.out; have := HS1.out; omega
      have hbz := HB0.out.trans ((HB02.out.mono (show w.heap.size ≤ w0.heap.size by have := HSZ.out; omega)).trans (hb3.mono hfin))
      go_wp2_with fail
      go_ret
      exact ⟨a3, l3, c3, rfl, h3.to (fun b hb => ⟨⟨Nat.le_trans hfin hb.1, hb.2⟩, rfl⟩), g3.to (fun b hb => ⟨⟨Nat.le_trans hfin hb.1, hb.2⟩, rfl⟩), hc3, hbz⟩
end Go.Proofs.YtjcbpnffmebihaaGreatDoor
namespace Go.Proofs.YtjcbpnffmebihaaGreatDoor
open Go.RowKit Go.WideShapes

theorem upTo8 (S : Nat → Prop) (a : Option Addr) (len cap : Nat) (xs : List Int) (lim : Int) (w : World) (h : IntsAt w S a len xs) {b : Bool} (hb : allIn 0 lim xs = b) :
    Calls Tryz.prog 105 #[.slice a len cap, .int .i64 lim] w fun e w' => e = .returned (.bool b) ∧ w' = w := by
  subst hb; exact (allUpTo_any S a len cap xs lim w h).mono fun _ _ h => ⟨h.1, h.2.symm⟩
theorem isUp8 (n hi : Int) (w : World) {b : Bool} (hb : inB 0 hi n = b) : Calls Tryz.prog 118 #[.int .i64 n, .int .i64 hi] w fun e w' => e = .returned (.bool b) ∧ w' = w := by
  subst hb; exact (isUpTo_any n hi w).mono fun _ _ h => ⟨h.1, h.2.symm⟩
end Go.Proofs.YtjcbpnffmebihaaGreatDoor
