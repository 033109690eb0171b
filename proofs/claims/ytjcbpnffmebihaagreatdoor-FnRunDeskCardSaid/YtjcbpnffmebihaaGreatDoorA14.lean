import Derived.Test.YtjcbpnffmebihaaGreatDoorA13
import Derived.Test.YtjcbpnffmebihaaGreatDoorRows
import Derived.WalkKit
import Derived.LoopTactic
import Derived.Outline
import Derived.WalkSpells
import Derived.WalkLawsBesides
import Derived.ProofKit
import Derived.Lib.Hide
import Derived.IntWalk
import Derived.Maps.RangeWalk
set_option linter.unusedVariables false
set_option linter.unusedSimpArgs false
namespace Go.Proofs.YtjcbpnffmebihaaGreatDoor
open Go.RowKit Go.WideShapes

theorem p2_bd {n : Nat} (h : n ≤ 20) : 1 ≤ 2 ^ n ∧ 2 ^ n ≤ 1048576 := ⟨Nat.pow_pos (by omega), Nat.pow_le_pow_right (n := 2) (by omega) h⟩
/-- 2 to n, as far as it goes. -/
def powV : Nat → Int
  | 0 => 1
  | n + 1 => wrap64 (2 * powV n)
theorem powV_bd : ∀ n, -9223372036854775808 ≤ powV n ∧ powV n ≤ 9223372036854775807
  | 0 => by decide
  | n + 1 => w64_bd _
theorem powV_eq : ∀ n, n ≤ 20 → powV n = ((2 ^ n : Nat) : Int)
  | 0, _ => rfl
  | n + 1, h => by
    have hb := p2_bd (n := n) (by omega)
    rw [powV, powV_eq n (by omega), w64_id (by omega) (by omega), Nat.pow_succ]; push_cast; omega
theorem power_all (n : Nat) (hn : n ≤ 1048576) (w : World) :
    Calls Tryz.prog 78 #[.int .i64 n] w fun e w' => e = .returned (.int .i64 (powV n)) ∧ w = w' := by
  go_enter Tryz.func78, Tryz.ntmps78
  go_wp2
  go_loop [0, 3] (fun i o => ∃ (k : Nat), k ≤ n ∧ i = .int .i64 k ∧ o = .int .i64 (powV (n - k))) (fun i _ => (intOf i).toNat)
  case atStart => exact ⟨n, Nat.le_refl _, rfl, by rw [Nat.sub_self]; rfl⟩
  case round =>
    obtain ⟨k, hk, rfl, rfl⟩ := hrel
    by_cases h0 : 0 < k
    · have HN := Lib.hid (show powV (n - (k - 1)) = wrap64 (2 * powV (n - k)) by rw [show n - (k - 1) = (n - k) + 1 by omega]; rfl)
      have hb := powV_bd (n - k)
      generalize powV (n - k) = v at hb HN ⊢
      go_wp2
      go_round
      case rel => exact ⟨k - 1, by omega, by congr 1; omega, by rw [HN.out]⟩
      case measure => simp [intOf] <;> omega
    · obtain rfl : k = 0 := by omega
      go_wp2
      go_ret
      exact ⟨rfl, rfl⟩

/-- Tasks. -/
def powIn (ys : List Int) (n : Nat) : Prop := ∀ i, i < n → 0 ≤ ys.getD i 0 ∧ ys.getD i 0 ≤ ((2 ^ i : Nat) : Int) - 1
def tasksP (T ys : List Int) : Prop := (allIn 1 9 T = true ∧ powIn ys ys.length) ∧ ys.length = T.length ∧ T.length ≤ 6
instance (ys : List Int) (n : Nat) : Decidable (powIn ys n) := by unfold powIn; infer_instance
instance (T ys : List Int) : Decidable (tasksP T ys) := by unfold tasksP; infer_instance
end Go.Proofs.YtjcbpnffmebihaaGreatDoor
namespace Go.Proofs.YtjcbpnffmebihaaGreatDoor

-- chapter 11, plain: the fewest rolls (the fewest places of tasks that need not wait)
def zerosN (n : Nat) : List Nat := List.replicate n 0
theorem zeros_bit (n i k : Nat) : ((zerosN n).getD i 0).testBit k = false := by
  have : (zerosN n).getD i 0 = 0 := by
    unfold zerosN
    rw [List.getD_eq_getElem?_getD, List.getElem?_replicate]
    split <;> rfl
  rw [this]; simp
def fewRl (xs : List Int) (R : Int) : Int := fewM xs (zerosN xs.length) R
def lenT (xs : List Int) (i : Nat) : Int := xs.getD i 0
def cutsM (xs : List Int) (R : Int) : Bool := allIn 1 R xs && (inB 1 20 R && decide (xs.length ≤ 7))
theorem cuts_get {xs : List Int} {R : Int} (h : cutsM xs R = true) : 1 ≤ R ∧ R ≤ 20 ∧ xs.length ≤ 7 ∧ ∀ i, i < xs.length → 1 ≤ lenT xs i ∧ lenT xs i ≤ R := by
  unfold cutsM inB at h
  simp only [Bool.and_eq_true, decide_eq_true_eq] at h
  exact ⟨h.2.1.1, h.2.1.2, h.2.2, fun i hi => allIn_get h.1 (get_getD hi)⟩
theorem few_min {xs : List Int} {R : Int} {m : Nat} {q : Nat → Nat} (hq : ∀ i, i < xs.length → q i < m) (hql : ∀ j, wsum (lenT xs) (fun i => q i == j) xs.length ≤ R) : 0 ≤ fewRl xs R ∧ fewRl xs R ≤ m :=
  few_le (by simp [zerosN]) (fun i k h => by rw [zeros_bit] at h; cases h) ⟨hq, fun i hi k h => (by rw [zeros_bit] at h; cases h), fun j => by rw [csum_w]; exact hql j⟩
theorem few_each {xs : List Int} {R : Int} (hR : 0 ≤ R) (h : ∀ i, i < xs.length → lenT xs i ≤ R) : 0 ≤ fewRl xs R ∧ fewRl xs R ≤ xs.length :=
  few_nn (by simp [zerosN]) (fun i k h => by rw [zeros_bit] at h; cases h) hR h
theorem few_plan {xs : List Int} {R : Int} (hR : 0 ≤ R) (h : ∀ i, i < xs.length → lenT xs i ≤ R) : ∃ (m : Nat) (q : Nat → Nat), fewRl xs R = (m : Int) ∧ (∀ i, i < xs.length → q i < m) ∧ ∀ j, wsum (lenT xs) (fun i => q i == j) xs.length ≤ R := by
  have h0 := (few_each hR h).1
  obtain ⟨q, hq⟩ := few_get (T := xs) (A := zerosN xs.length) (c := R) (by simp [zerosN]) hR (fun i k h => by rw [zeros_bit] at h; cases h) h0
  exact ⟨(fewRl xs R).toNat, q, by omega, hq.low, fun j => by have := hq.load j; rwa [csum_w] at this⟩
/-- every set of valid cuts has its fewest -/
theorem zeros_clo (n s : Nat) : ∀ k, cloM (zerosN n) s k = true := fun k => (cloM_iff k).2 (fun i _ _ j h => by rw [zeros_bit] at h; cases h)
theorem st_nn {T : List Int} {n : Nat} {c : Int} (hc : 0 ≤ c) (hT : ∀ k, k < T.length → T.getD k 0 ≤ c) : ∀ N s, s ≤ N → 0 ≤ stP T (zerosN n) c s
  | _, 0, _ => Int.le_refl _
  | 0, s + 1, h => by omega
  | N + 1, s + 1, h => by
    have hne : s + 1 ≠ 0 := by omega
    obtain ⟨i, hi⟩ := Nat.exists_testBit_of_ne_zero hne
    obtain ⟨r, hr⟩ : ∃ r, dif (s + 1) (2 ^ i) = r := ⟨_, rfl⟩
    have hb : ∀ j, r.testBit j = ((s + 1).testBit j && !decide (i = j)) := fun j => by rw [← hr, dif_bit, Nat.testBit_two_pow]
    have hsub : r &&& (s + 1) = r := sub_iff.2 (fun j hj => by rw [hb] at hj; simp only [Bool.and_eq_true] at hj; exact hj.1)
    have hle : r ≤ s + 1 := by rw [← hsub]; exact Nat.and_le_right
    have hlt : r < s + 1 := by
      rcases Nat.lt_or_eq_of_le hle with g | g
      · exact g
      · have := hb i
        rw [g, hi] at this; simp at this
    rw [stP_succ]
    unfold nxtP
    rw [if_pos (zeros_clo _ _ _)]
    refine (scanP_le (s + 1) r hlt ((okR_tab (by omega)).2 ⟨hsub, st_nn hc hT N r (by omega), ?_⟩)).1
    rw [csum_congr (Q := fun j => j == i) T.length (fun j _ => by
      rw [dif_bit, hb]
      by_cases e : i = j
      · subst e; simp [hi]
      · rw [show (j == i) = false by simp [Ne.symm e]]
        cases (s + 1).testBit j <;> simp [e]), csum_one]
    split
    · rename_i g; exact hT i g
    · exact hc
end Go.Proofs.YtjcbpnffmebihaaGreatDoor
namespace Go.Proofs.YtjcbpnffmebihaaGreatDoor

theorem scanP_bd {T : List Int} {c : Int} {t : List Int} {s : Nat} {B : Int} (h0 : -1 ≤ B) (hB : ∀ r, r < s → t.getD r 0 + 1 ≤ B) : ∀ R, R ≤ s → -1 ≤ scanP T c t s R ∧ scanP T c t s R ≤ B
  | 0, _ => ⟨Int.le_refl _, h0⟩
  | R + 1, h => by
    have := scanP_bd (T := T) (c := c) h0 hB R (by omega)
    have h1 := hB R (by omega)
    rw [scanP]; split
    · rename_i h2; have := h2.1.2.1; omega
    · exact this
theorem stP_bd {T : List Int} {A : List Nat} {c : Int} : ∀ N s, s ≤ N → -1 ≤ stP T A c s ∧ stP T A c s ≤ s
  | N, 0, _ => by show (-1 : Int) ≤ 0 ∧ (0 : Int) ≤ 0; omega
  | N + 1, s + 1, h => by
    rw [stP_succ]; unfold nxtP; split
    · exact scanP_bd (B := ((s + 1 : Nat) : Int)) (by omega) (fun r hr => by rw [tabP_at (show r ≤ s by omega)]; have := stP_bd (T := T) (A := A) (c := c) N r (by omega); omega) (s + 1) (Nat.le_refl _)
    · omega
theorem tabP_step (T : List Int) (A : List Nat) (c : Int) {k : Nat} (h : 1 ≤ k) : tabP T A c k = tabP T A c (k - 1) ++ [nxtP T A c (tabP T A c (k - 1)) k] := by
  obtain ⟨d, rfl⟩ : ∃ d, k = d + 1 := ⟨k - 1, by omega⟩
  rfl
theorem tab_bd {T : List Int} {A : List Nat} {c : Int} {k r : Nat} (h : r < k) : -1 ≤ (tabP T A c (k - 1)).getD r 0 ∧ (tabP T A c (k - 1)).getD r 0 ≤ r := by
  rw [tabP_at (show r ≤ k - 1 by omega)]; exact stP_bd r r (Nat.le_refl _)
theorem scan_bd {T : List Int} {A : List Nat} {c : Int} {k R : Nat} (h : R ≤ k) : -1 ≤ scanP T c (tabP T A c (k - 1)) k R ∧ scanP T c (tabP T A c (k - 1)) k R ≤ k :=
  scanP_bd (by omega) (fun r hr => by have := tab_bd (T := T) (A := A) (c := c) hr; omega) R h
end Go.Proofs.YtjcbpnffmebihaaGreatDoor
namespace Go.Proofs.YtjcbpnffmebihaaGreatDoor

-- chapter 11, plain: fitting one after another
/-- the first of the rolls on which there is room, or how many there are -/
def roomK (lf : List Int) (x : Int) : Nat → Nat → Nat
  | 0, s => s
  | d + 1, s => if x ≤ lf.getD s 0 then s else roomK lf x d (s + 1)
theorem roomK_is (lf : List Int) (x : Int) : ∀ d s, s ≤ roomK lf x d s ∧ roomK lf x d s ≤ s + d ∧ (∀ j, s ≤ j → j < roomK lf x d s → lf.getD j 0 < x) ∧ (roomK lf x d s < s + d → x ≤ lf.getD (roomK lf x d s) 0)
  | 0, s => ⟨Nat.le_refl _, Nat.le_refl _, fun j h1 h2 => by simp only [roomK] at h2; omega, fun h => by simp only [roomK] at h; omega⟩
  | d + 1, s => by
    by_cases h : x ≤ lf.getD s 0
    · have e : roomK lf x (d + 1) s = s := by simp only [roomK]; rw [if_pos h]
      rw [e]
      exact ⟨Nat.le_refl _, by omega, fun j h1 h2 => by omega, fun _ => h⟩
    · have e : roomK lf x (d + 1) s = roomK lf x d (s + 1) := by simp only [roomK]; rw [if_neg h]
      obtain ⟨i1, i2, i3, i4⟩ := roomK_is lf x d (s + 1)
      rw [e]
      refine ⟨by omega, by omega, fun j h1 h2 => ?_, fun h2 => i4 (by omega)⟩
      rcases Nat.eq_or_lt_of_le h1 with h3 | h3
      · rw [← h3]; omega
      · exact i3 j (by omega) h2
def room (lf : List Int) (x : Int) : Nat := roomK lf x lf.length 0
theorem room_le (lf : List Int) (x : Int) : room lf x ≤ lf.length := by have := (roomK_is lf x lf.length 0).2.1; unfold room; omega
theorem room_lt {lf : List Int} {x : Int} {j : Nat} (h : j < room lf x) : lf.getD j 0 < x := (roomK_is lf x lf.length 0).2.2.1 j (Nat.zero_le _) h
theorem room_ge {lf : List Int} {x : Int} (h : room lf x < lf.length) : x ≤ lf.getD (room lf x) 0 := (roomK_is lf x lf.length 0).2.2.2 (by unfold room at h; omega)
/-- one more is put: what is left on the rolls -/
def putL (R : Int) (lf : List Int) (x : Int) : List Int := (if room lf x = lf.length then lf ++ [R] else lf).set (room lf x) ((if room lf x = lf.length then lf ++ [R] else lf).getD (room lf x) 0 - x)
/-- what is left on the rolls, and each one's roll, behind the first ones of an order -/
def fitS (T : Nat → Int) (R : Int) (o : Nat → Nat) : Nat → List Int × (Nat → Nat)
  | 0 => ([], fun _ => 0)
  | t + 1 => (putL R (fitS T R o t).1 (T (o t)), fun i => if i = o t then room (fitS T R o t).1 (T (o t)) else (fitS T R o t).2 i)
theorem putL_len (R : Int) (lf : List Int) (x : Int) : (putL R lf x).length = if room lf x = lf.length then lf.length + 1 else lf.length := by
  unfold putL; rw [List.length_set]; split <;> simp
theorem putL_getD (R : Int) (lf : List Int) (x : Int) {b : Nat} (hb : b < (putL R lf x).length) : (putL R lf x).getD b 0 = (if b < lf.length then lf.getD b 0 else R) - (if b = room lf x then x else 0) := by
  rw [putL_len] at hb
  have hr := room_le lf x
  have hL : ∀ j, j < (if room lf x = lf.length then lf ++ [R] else lf).length → (if room lf x = lf.length then lf ++ [R] else lf).getD j 0 = if j < lf.length then lf.getD j 0 else R := fun j hj => by
    by_cases e : room lf x = lf.length
    · rw [if_pos e] at hj ⊢
      rw [List.getD_eq_getElem?_getD, List.getD_eq_getElem?_getD, List.getElem?_append]
      by_cases g : j < lf.length
      · rw [if_pos g, if_pos g]
      · rw [if_neg g, if_neg g]
        have : j = lf.length := by simp at hj; omega
        subst this; simp
    · rw [if_neg e] at hj ⊢
      rw [if_pos hj]
  have hlen : (if room lf x = lf.length then lf ++ [R] else lf).length = if room lf x = lf.length then lf.length + 1 else lf.length := by split <;> simp
  have hb2 : b < (if room lf x = lf.length then lf ++ [R] else lf).length := by rw [hlen]; exact hb
  unfold putL
  rw [List.getD_eq_getElem?_getD, List.getElem?_set]
  by_cases e : room lf x = b
  · have hb3 : room lf x < (if room lf x = lf.length then lf ++ [R] else lf).length := by rw [e]; rw [e] at hb2; exact hb2
    rw [if_pos e, if_pos hb3, if_pos e.symm, Option.getD_some, hL _ hb3, e]
  · rw [if_neg e, if_neg (Ne.symm e), ← List.getD_eq_getElem?_getD, hL b hb2]
    omega
structure FitI (T : Nat → Int) (R : Int) (n : Nat) (o : Nat → Nat) (t : Nat) (lf : List Int) (p : Nat → Nat) : Prop where
  low : ∀ j, j < t → p (o j) < lf.length
  full : ∀ b, b < lf.length → ∃ j, j < t ∧ p (o j) = b
  load : ∀ b, b < lf.length → lf.getD b 0 = R - wsum (fun j => T (o j)) (fun j => p (o j) == b) t
  nn : ∀ b, b < lf.length → 0 ≤ lf.getD b 0
  first : ∀ j, j < t → ∀ b, b < p (o j) → lf.getD b 0 < T (o j)
theorem fit_inv {T : Nat → Int} {R : Int} {n : Nat} {o : Nat → Nat} (hT : ∀ i, i < n → 1 ≤ T i ∧ T i ≤ R) (ho : ∀ j, j < n → o j < n) (hinj : ∀ i j, i < n → j < n → o i = o j → i = j) : ∀ t, t ≤ n → FitI T R n o t (fitS T R o t).1 (fitS T R o t).2
  | 0, _ => ⟨fun j h => absurd h (by omega), fun b h => absurd h (by simp [fitS]), fun b h => absurd h (by simp [fitS]), fun b h => absurd h (by simp [fitS]), fun j h => absurd h (by omega)⟩
  | t + 1, h => by
    obtain ⟨i1, i2, i3, i4, i5⟩ := fit_inv hT ho hinj t (by omega)
    obtain ⟨lf, hlf⟩ : ∃ lf, (fitS T R o t).1 = lf := ⟨_, rfl⟩
    obtain ⟨p, hp⟩ : ∃ p, (fitS T R o t).2 = p := ⟨_, rfl⟩
    rw [hlf] at i1 i2 i3 i4 i5
    rw [hp] at i1 i2 i3 i5
    have e1 : (fitS T R o (t + 1)).1 = putL R lf (T (o t)) := by rw [fitS, hlf]
    have e2 : (fitS T R o (t + 1)).2 = fun i => if i = o t then room lf (T (o t)) else p i := by rw [fitS, hlf, hp]
    rw [e1, e2]
    have hlen := putL_len R lf (T (o t))
    have hr := room_le lf (T (o t))
    have hne : ∀ j, j < t → o j ≠ o t := fun j hj e => by have := hinj j t (by omega) (by omega) e; omega
    have hTt := hT (o t) (ho t (by omega))
    refine ⟨fun j hj => ?_, fun b hb => ?_, fun b hb => ?_, fun b hb => ?_, fun j hj b hb => ?_⟩
    · try dsimp only
      rw [hlen]
      by_cases g : j = t
      · subst g; rw [if_pos rfl]; split <;> omega
      · rw [if_neg (hne j (by omega))]; have := i1 j (by omega); split <;> omega
    · try dsimp only
      rw [hlen] at hb
      by_cases g : b = room lf (T (o t))
      · exact ⟨t, by omega, by rw [if_pos rfl, g]⟩
      · obtain ⟨j, hj, e⟩ := i2 b (by split at hb <;> omega)
        exact ⟨j, by omega, by rw [if_neg (hne j hj)]; exact e⟩
    · rw [putL_getD R lf _ hb, wsum]
      rw [hlen] at hb
      have hw : wsum (fun j => T (o j)) (fun j => (if o j = o t then room lf (T (o t)) else p (o j)) == b) t = wsum (fun j => T (o j)) (fun j => p (o j) == b) t := wsum_congr t (fun j hj => by rw [if_neg (hne j hj)]) (fun _ _ _ => rfl)
      try dsimp only
      rw [hw]
      by_cases g : b < lf.length
      · rw [if_pos g, i3 b g]
        by_cases g2 : b = room lf (T (o t))
        · rw [if_pos g2, if_pos (by simp [g2])]; omega
        · rw [if_neg g2, if_neg (by simp; exact fun e => g2 e.symm)]; omega
      · have hb2 : b = lf.length ∧ room lf (T (o t)) = lf.length := by split at hb <;> omega
        rw [if_neg g, if_pos (by omega), if_pos (by simp; omega), wsum_none t (fun j hj => by have := i1 j hj; simp; omega)]
        omega
    · rw [putL_getD R lf _ hb]
      rw [hlen] at hb
      by_cases g2 : b = room lf (T (o t))
      · rw [if_pos g2]
        by_cases g : b < lf.length
        · rw [if_pos g]
          have := room_ge (lf := lf) (x := T (o t)) (by omega)
          rw [← g2] at this; omega
        · rw [if_neg g]; omega
      · rw [if_neg g2]
        have g : b < lf.length := by split at hb <;> omega
        rw [if_pos g]; have := i4 b g; omega
    · have hle : ∀ b, b < lf.length → (putL R lf (T (o t))).getD b 0 ≤ lf.getD b 0 := fun b g => by
        rw [putL_getD R lf _ (by rw [hlen]; split <;> omega), if_pos g]; split <;> omega
      try dsimp only at hb
      by_cases g : j = t
      · subst g
        rw [if_pos rfl] at hb
        have := room_lt hb
        have := hle b (by omega)
        omega
      · rw [if_neg (hne j (by omega))] at hb
        have := i5 j (by omega) b hb
        have := hle b (by have := i1 j (by omega); omega)
        omega
/-- how many rolls, one after another -/
def usedM (T : Nat → Int) (R : Int) (o : Nat → Nat) (t : Nat) : Nat := (fitS T R o t).1.length
theorem used_step (T : Nat → Int) (R : Int) (o : Nat → Nat) (t : Nat) : usedM T R o (t + 1) = usedM T R o t ∨ (usedM T R o (t + 1) = usedM T R o t + 1 ∧ room (fitS T R o t).1 (T (o t)) = usedM T R o t) := by
  unfold usedM
  rw [fitS]
  try dsimp only
  rw [putL_len]
  by_cases h : room (fitS T R o t).1 (T (o t)) = (fitS T R o t).1.length
  · rw [if_pos h]; exact .inr ⟨rfl, h⟩
  · rw [if_neg h]; exact .inl rfl
end Go.Proofs.YtjcbpnffmebihaaGreatDoor
namespace Go.Proofs.YtjcbpnffmebihaaGreatDoor
open Go.RowKit

theorem costS_bd {xs : List Int} {o u : Int} (h : okO xs o u = true) {s : Nat} (hs : s ≤ 8) : 0 ≤ costS xs s o u ∧ costS xs s o u ≤ 30240 := by
  obtain ⟨h0, a, b, c, d⟩ := okO_at h
  obtain ⟨_, h7, h2, _⟩ := chM_at h0
  have := costK_bd10 (xs := xs) (s := s) h2 ⟨a, b⟩ ⟨c, d⟩ hs xs.length (by omega)
  unfold costS
  omega
theorem stockRes_no {xs : List Int} {s o u : Int} (h : okO xs o u = false ∨ inB 0 7 s = false) : stockRes xs s o u = -1 := by
  unfold stockRes
  rcases h with h | h <;> rw [h] <;> simp
theorem stockRes_yes {xs : List Int} {s : Nat} {o u : Int} (h : okO xs o u = true) (hs : s ≤ 7) : stockRes xs (s : Int) o u = costS xs s o u := by
  unfold stockRes
  rw [h, inB_true (by omega) (by omega)]
  simp
theorem shareRes_no {xs : List Int} {o u : Int} (h : okO xs o u = false) : shareRes xs o u = -1 := by unfold shareRes; rw [h]; rfl
theorem shareRes_yes {xs : List Int} {o u : Int} (h : okO xs o u = true) : shareRes xs o u = (shareN xs o u : Int) := by unfold shareRes; rw [h]; rfl
end Go.Proofs.YtjcbpnffmebihaaGreatDoor
namespace Go.Proofs.YtjcbpnffmebihaaGreatDoor

def okC (T : List Int) (c : Int) (s r : Nat) : Prop := dif r s = 0 ∧ csum T (fun i => (dif s r).testBit i) T.length ≤ c
instance (T : List Int) (c : Int) (s r : Nat) : Decidable (okC T c s r) := by unfold okC; infer_instance
end Go.Proofs.YtjcbpnffmebihaaGreatDoor
namespace Go.Proofs.YtjcbpnffmebihaaGreatDoor
open Go.RowKit Go.Maps

/-- block's map: for each v below K the number g v, where that is above 0; nothing else -/
def MapIs (D : DataW Unit) (g : Nat → Int) (K : Nat) : Prop :=
  IsMap D ∧ (∀ v : Nat, v < K → has D (.int .i64 v) = decide (0 < g v)) ∧ (∀ v : Nat, v < K → 0 < g v → ∀ zd, D.atKey (.int .i64 v) zd = .lit (.int .i64 (g v))) ∧ ∀ kl, has D kl = true → ∃ v : Nat, v < K ∧ kl = .int .i64 v
theorem key_ne {a b : Nat} (h : a ≠ b) : (Lit.int .i64 (a : Int)) ≠ .int .i64 (b : Int) := fun e => by injection e with _ e; omega
theorem keyI (v : Int) : WideAt.IsKeyLit (.int .i64 v) := trivial
theorem key_same (a b : Nat) : (Lit.int .i64 (a : Int)).sameKey (.int .i64 (b : Int)) = decide (a = b) := by
  by_cases h : a = b
  · subst h; rw [WideAt.sameKey_self (keyI _)]; simp
  · rw [sameKey_ne (key_ne h)]; simp [h]
theorem mapIs_none (K : Nat) : MapIs (.map []) (fun _ => 0) K :=
  ⟨isMap_empty, fun v _ => rfl, fun v _ h => absurd h (by simp), fun kl h => by cases h⟩
theorem MapIs.skip {D : DataW Unit} {g : Nat → Int} {k K : Nat} (h : MapIs D g k) (hg : ∀ v, k ≤ v → g v ≤ 0) (hK : k ≤ K) : MapIs D g K := by
  obtain ⟨h1, h2, h3, h4⟩ := h
  refine ⟨h1, fun v hv => ?_, fun v hv hp => ?_, fun kl hk => ?_⟩
  · rcases Nat.lt_or_ge v k with g1 | g1
    · exact h2 v g1
    · have e : decide (0 < g v) = false := decide_eq_false (by have := hg v g1; omega)
      rw [e]
      cases hh : has D (.int .i64 v)
      · rfl
      · obtain ⟨u, hu, e⟩ := h4 _ hh
        injection e with _ e
        omega
  · rcases Nat.lt_or_ge v k with g1 | g1
    · exact h3 v g1 hp
    · have := hg v g1; omega
  · obtain ⟨v, hv, e⟩ := h4 kl hk
    exact ⟨v, by omega, e⟩
theorem MapIs.put {D : DataW Unit} {g : Nat → Int} {K k : Nat} (h : MapIs D g K) (hk : k < K) {x : Int} (hx : 0 < x) : MapIs (D.put (.int .i64 (k : Int)) (.lit (.int .i64 x))) (fun v => if v = k then x else g v) K := by
  obtain ⟨h1, h2, h3, h4⟩ := h
  refine ⟨h1.put _ _, fun v hv => ?_, fun v hv hp => ?_, fun kl hkl => ?_⟩ <;> try dsimp only at *
  · by_cases e : v = k
    · subst e; rw [has_put_same h1 (keyI _)]; simp [hx]
    · rw [has_put_other (key_ne e), h2 v hv]; simp [e]
  · by_cases e : v = k
    · subst e; rw [if_pos rfl]; exact fun zd => atKey_put_same h1 (keyI _) _ _
    · rw [if_neg e] at hp ⊢; intro zd; rw [atKey_put_other (key_ne e)]; exact h3 v hv hp zd
  · by_cases e : kl = .int .i64 (k : Int)
    · exact ⟨k, hk, e⟩
    · rw [has_put_other e] at hkl; exact h4 kl hkl
theorem MapIs.congr {D : DataW Unit} {g g' : Nat → Int} {K : Nat} (h : MapIs D g K) (e : ∀ v, g v = g' v) : MapIs D g' K := by
  have : g = g' := funext e
  rwa [← this]

def sumF (f : Nat → Int) : Nat → Int
  | 0 => 0
  | k + 1 => sumF f k + f k
/-- of those that have come -/
def cameF (f : Nat → Int) (left : Lit → Bool) : Nat → Int
  | 0 => 0
  | k + 1 => cameF f left k + if left (.int .i64 (k : Int)) then 0 else f k
theorem costK_F (xs : List Int) (s : Nat) (o u : Int) : ∀ k, costK xs s o u k = sumF (fun v => xs.getD v 0 * unitC s v o u) k
  | 0 => rfl
  | k + 1 => by rw [costK, sumF, costK_F xs s o u k]
theorem came_start {f : Nat → Int} {left : Lit → Bool} : ∀ {K : Nat}, (∀ v : Nat, v < K → left (.int .i64 (v : Int)) = false → f v = 0) → cameF f left K = 0
  | 0, _ => rfl
  | k + 1, h => by
    rw [cameF, came_start (fun v hv => h v (by omega))]
    cases e : left (.int .i64 (k : Int))
    · simp [h k (by omega) e]
    · simp
theorem came_end {f : Nat → Int} {left : Lit → Bool} (h : ∀ kl, left kl = false) : ∀ K, cameF f left K = sumF f K
  | 0 => rfl
  | k + 1 => by rw [cameF, sumF, came_end h k, h]; simp
theorem came_miss {f : Nat → Int} {left : Lit → Bool} {j : Nat} : ∀ {K : Nat}, K ≤ j → cameF f (fun z => left z && !z.sameKey (.int .i64 (j : Int))) K = cameF f left K
  | 0, _ => rfl
  | k + 1, h => by
    rw [cameF, cameF, came_miss (by omega)]
    simp only [key_same, show ¬ k = j by omega, decide_false, Bool.not_false, Bool.and_true]
theorem came_step {f : Nat → Int} {left : Lit → Bool} {j : Nat} (hj : left (.int .i64 (j : Int)) = true) : ∀ {K : Nat}, j < K → cameF f (fun z => left z && !z.sameKey (.int .i64 (j : Int))) K = cameF f left K + f j
  | 0, h => by omega
  | k + 1, h => by
    rw [cameF, cameF]
    by_cases e : k = j
    · subst e
      rw [came_miss (Nat.le_refl _)]
      simp [key_same, hj]
    · rw [came_step hj (by omega)]
      simp only [key_same, e, decide_false, Bool.not_false, Bool.and_true]
      omega
theorem came_bd {f : Nat → Int} {left : Lit → Bool} {B : Int} (hB : 0 ≤ B) : ∀ {K : Nat}, (∀ v : Nat, v < K → 0 ≤ f v ∧ f v ≤ B) → 0 ≤ cameF f left K ∧ cameF f left K ≤ B * (K : Int)
  | 0, _ => by simp [cameF]
  | k + 1, h => by
    have ih := came_bd (left := left) hB (fun v (hv : v < k) => h v (by omega))
    have := h k (by omega)
    rw [cameF, show B * ((k + 1 : Nat) : Int) = B * (k : Int) + B by push_cast; rw [Int.mul_add, Int.mul_one]]
    split <;> omega
theorem strike_le {left : Lit → Bool} {D : DataW Unit} (h : ∀ kl, left kl = true → has D kl = true) (kl' : Lit) : ∀ kl, (fun z : Lit => left z && !z.sameKey kl') kl = true → has D kl = true := fun kl e => by
  simp only [Bool.and_eq_true] at e
  exact h kl e.1
/-- the entry that has come: its key and its number -/
theorem MapIs.came {D : DataW Unit} {g : Nat → Int} {K : Nat} (h : MapIs D g K) {left : Lit → Bool} (hl : ∀ kl, left kl = true → has D kl = true) {x c : Int} (hx : left (.int .i64 x) = true) (hat : ∀ zd, D.atKey (.int .i64 x) zd = .lit (.int .i64 c)) :
    ∃ v : Nat, v < K ∧ x = (v : Int) ∧ c = g v ∧ 0 < g v := by
  obtain ⟨v, hv, e⟩ := h.2.2.2 _ (hl _ hx)
  injection e with _ e
  subst e
  have h0 := h.2.1 v hv
  rw [hl _ hx] at h0
  have hp := of_decide_eq_true h0.symm
  have := h.2.2.1 v hv hp .nil
  rw [hat .nil] at this
  injection this with this
  injection this with _ this
  exact ⟨v, hv, rfl, this, hp⟩
end Go.Proofs.YtjcbpnffmebihaaGreatDoor
