import Derived.Test.YtldncfkkeeinjacLib
import Derived.Test.YtldncfkkeeinjacArr
import Derived.Test.YtldncfkkeeinjacNetM
import Derived.Test.YtldncfkkeeinjacPlanM
import Derived.Test.YtldncfkkeeinjacBlockM
namespace Go.Proofs.Ytldncfkkeeinjac

theorem hsum_congr {xs ys : List Int} {i j d : Nat} (h : ∀ t, t < d → xs.getD (i + t) 0 = ys.getD (j + t) 0) : hsum xs i d = hsum ys j d := by
  induction d with
  | zero => rfl
  | succ d ih => rw [hsum, hsum, ih (fun t ht => h t (by omega)), h d (by omega)]
theorem part_congr {xs ys : List Int} {i j d : Nat} (h : ∀ t, t < d → xs.getD (i + t) 0 = ys.getD (j + t) 0) : sumN xs (i + d) - sumN xs i = sumN ys (j + d) - sumN ys j := by
  induction d with
  | zero => simp
  | succ d ih =>
    have := ih (fun t ht => h t (by omega))
    have := h d (by omega)
    rw [← Nat.add_assoc, ← Nat.add_assoc, sumN, sumN]; omega
theorem runD_congr {xs ys : List Int} {s h : Int} {i j d : Nat} (e : ∀ t, t < d → xs.getD (i + t) 0 = ys.getD (j + t) 0) : runD xs s h i d = runD ys s h j d := by
  unfold runD; rw [hsum_congr e, part_congr e]
theorem set_mono {a b s : Int} (hs : 0 ≤ s) (h : a ≤ b) : (if 0 < a then s else 0) ≤ (if 0 < b then s else 0) := by
  split <;> split <;> omega
theorem runD_more {xs : List Int} {s h : Int} (hx : ∀ k, 0 ≤ xs.getD k 0) (hs : 0 ≤ s) (hh : 0 ≤ h) (i d : Nat) : runD xs s h i d ≤ runD xs s h i (d + 1) := by
  have h1 : hsum xs i d ≤ hsum xs i (d + 1) := by have := Int.mul_nonneg (show (0 : Int) ≤ d by omega) (hx (i + d)); rw [hsum]; omega
  have h2 := Int.mul_le_mul_of_nonneg_left h1 hh
  have h3 : sumN xs (i + d) - sumN xs i ≤ sumN xs (i + (d + 1)) - sumN xs i := by have := hx (i + d); rw [← Nat.add_assoc, sumN]; omega
  have h4 := set_mono hs h3
  unfold runD; omega
theorem take_getD {xs : List Int} {n q : Nat} (h : q < n) : (xs.take n).getD q 0 = xs.getD q 0 := by
  rw [List.getD_eq_getElem?_getD, List.getD_eq_getElem?_getD, List.getElem?_take, if_pos h]
theorem drop_getD {xs : List Int} (q : Nat) : (xs.drop 1).getD q 0 = xs.getD (1 + q) 0 := by
  rw [List.getD_eq_getElem?_getD, List.getD_eq_getElem?_getD, List.getElem?_drop]
theorem pc_take {xs : List Int} {s h : Int} (hx : ∀ k, 0 ≤ xs.getD k 0) (hs : 0 ≤ s) (hh : 0 ≤ h) {i : Nat} {c : Int} (p : PC xs s h i c) : i < xs.length → ∃ c', PC (xs.take (xs.length - 1)) s h i c' ∧ c' ≤ c := by
  have hl : (xs.take (xs.length - 1)).length = xs.length - 1 := by simp
  have done' : PC (xs.take (xs.length - 1)) s h (xs.length - 1) 0 := by
    have : ∀ m, m = (xs.take (xs.length - 1)).length → PC (xs.take (xs.length - 1)) s h m 0 := fun m e => e ▸ PC.done
    exact this _ hl.symm
  induction p with
  | done => intro h; omega
  | lot i d c hd hc ih =>
    intro hi
    by_cases hlast : i + (d + 1) = xs.length
    · clear ih
      have hc0 := hc.nonneg hx hs hh
      cases d with
      | zero =>
        obtain rfl : i = xs.length - 1 := by omega
        exact ⟨0, done', by have := runD_nonneg hx hs hh (xs.length - 1) (0 + 1); omega⟩
      | succ d =>
        have e : i + (d + 1) = xs.length - 1 := by omega
        refine ⟨_, PC.lot i d 0 (by omega) (by rw [e]; exact done'), ?_⟩
        have h1 := runD_more hx hs hh i (d + 1)
        have h2 : runD (xs.take (xs.length - 1)) s h i (d + 1) = runD xs s h i (d + 1) := runD_congr (fun t ht => take_getD (by omega))
        omega
    · obtain ⟨c', h1, h2⟩ := ih (by omega)
      refine ⟨_, PC.lot i d c' (by omega) h1, ?_⟩
      have h3 : runD (xs.take (xs.length - 1)) s h i (d + 1) = runD xs s h i (d + 1) := runD_congr (fun t ht => take_getD (by omega))
      omega
theorem pc_shift {xs : List Int} {s h : Int} {i : Nat} {c : Int} (p : PC xs s h i c) : ∀ j, i = j + 1 → PC (xs.drop 1) s h j c := by
  have hl : (xs.drop 1).length = xs.length - 1 := by simp
  induction p with
  | done =>
    intro j hj
    have : ∀ m, m = (xs.drop 1).length → PC (xs.drop 1) s h m 0 := fun m e => e ▸ PC.done
    exact this _ (by omega)
  | lot i d c hd _ ih =>
    intro j hj
    have h1 := ih (j + (d + 1)) (by omega)
    have h2 : runD (xs.drop 1) s h j (d + 1) = runD xs s h i (d + 1) := runD_congr (fun t ht => by rw [drop_getD]; congr 1; omega)
    rw [← h2]
    exact PC.lot j d c (by omega) h1
theorem hsum_tail {xs : List Int} (hx : ∀ k, 0 ≤ xs.getD k 0) (d : Nat) : hsum (xs.drop 1) 0 d ≤ hsum xs 0 (d + 1) := by
  induction d with
  | zero => simp [hsum]
  | succ d ih =>
    rw [hsum, hsum, drop_getD, show 1 + (0 + d) = 0 + (d + 1) by omega]
    have := hx (0 + (d + 1))
    push_cast; rw [Int.add_mul]; omega
theorem pc_drop {xs : List Int} {s h : Int} (hx : ∀ k, 0 ≤ xs.getD k 0) (hs : 0 ≤ s) (hh : 0 ≤ h) {c : Int} (h0 : 0 < xs.length) (p : PC xs s h 0 c) : ∃ c', PC (xs.drop 1) s h 0 c' ∧ c' ≤ c := by
  generalize hi : 0 = i at p
  cases p with
  | done => omega
  | lot _ d c hd hc =>
    subst hi
    cases d with
    | zero => exact ⟨c, pc_shift hc 0 rfl, by have := runD_nonneg hx hs hh 0 (0 + 1); omega⟩
    | succ d =>
      refine ⟨_, PC.lot 0 d c (by simp; omega) (pc_shift hc _ (by omega)), ?_⟩
      have h1 := Int.mul_le_mul_of_nonneg_left (hsum_tail hx (d + 1)) hh
      have h2 : sumN (xs.drop 1) (0 + (d + 1)) - sumN (xs.drop 1) 0 = sumN xs (1 + (d + 1)) - sumN xs 1 := part_congr (fun t _ => by rw [drop_getD]; congr 1; omega)
      have h3 : sumN xs (1 + (d + 1)) - sumN xs 1 ≤ sumN xs (0 + (d + 1 + 1)) - sumN xs 0 := by
        have := sumN_le hx (show 0 ≤ 1 by omega)
        rw [show 1 + (d + 1) = 0 + (d + 1 + 1) by omega]; omega
      have h4 := set_mono hs h3
      unfold runD; rw [h2]; omega
theorem bst_take {xs : List Int} {s h : Int} (hx : ∀ k, 0 ≤ xs.getD k 0) (hs : 0 ≤ s) (hh : 0 ≤ h) (h0 : 0 < xs.length) : bst (xs.take (xs.length - 1)) s h 0 ≤ bst xs s h 0 := by
  obtain ⟨c, h1, h2⟩ := pc_take hx hs hh (bst_is (Nat.zero_le _)).1 h0
  have := (bst_is (xs := xs.take (xs.length - 1)) (s := s) (h := h) (Nat.zero_le _)).2 c h1
  omega
theorem bst_drop {xs : List Int} {s h : Int} (hx : ∀ k, 0 ≤ xs.getD k 0) (hs : 0 ≤ s) (hh : 0 ≤ h) (h0 : 0 < xs.length) : bst (xs.drop 1) s h 0 ≤ bst xs s h 0 := by
  obtain ⟨c, h1, h2⟩ := pc_drop hx hs hh h0 (bst_is (Nat.zero_le _)).1
  have := (bst_is (xs := xs.drop 1) (s := s) (h := h) (Nat.zero_le _)).2 c h1
  omega
/-- a set that costs nothing -/
theorem bst_free {xs : List Int} {h : Int} (hx : ∀ k, 0 ≤ xs.getD k 0) (hh : 0 ≤ h) : bst xs 0 h 0 = 0 := by
  have key : ∀ (m i : Nat), i + m = xs.length → PC xs 0 h i 0 := by
    intro m
    induction m with
    | zero => intro i hi; obtain rfl : i = xs.length := by omega
              exact PC.done
    | succ m ih =>
      intro i hi
      have h1 := PC.lot i 0 0 (by omega) (ih (i + (0 + 1)) (by omega))
      have e : runD xs 0 h i (0 + 1) + 0 = 0 := by unfold runD; simp [hsum]
      rwa [e] at h1
  have h1 := (bst_is (xs := xs) (s := 0) (h := h) (Nat.zero_le _)).2 0 (key xs.length 0 (by omega))
  have h2 := bst_nonneg (s := 0) hx (Int.le_refl _) hh (Nat.zero_le xs.length)
  omega
/-- holding that costs nothing -/
theorem bst_once {xs : List Int} {s : Int} (hx : ∀ k, 0 ≤ xs.getD k 0) (hs : 0 ≤ s) (h0 : 0 < xs.length) : bst xs s 0 0 = runD xs s 0 0 xs.length := by
  have key : ∀ {i : Nat} {c : Int}, PC xs s 0 i c → (if 0 < sumN xs xs.length - sumN xs i then s else 0) ≤ c := by
    intro i c p
    induction p with
    | done => simp
    | lot i d c hd hc ih =>
      have h1 := sumN_le hx (show i ≤ i + (d + 1) by omega)
      have h2 := sumN_le hx hd
      have h3 := hc.nonneg hx hs (Int.le_refl 0)
      unfold runD
      rw [Int.zero_mul, Int.zero_add]
      by_cases e : 0 < sumN xs (i + (d + 1)) - sumN xs i
      · rw [if_pos e]; split <;> omega
      · rw [if_neg e]
        have : sumN xs (i + (d + 1)) = sumN xs i := by omega
        rw [this] at ih; omega
  have h1 := key (bst_is (xs := xs) (s := s) (h := 0) (Nat.zero_le _)).1
  have h2 := (bst_is (xs := xs) (s := s) (h := 0) (Nat.zero_le _)).2 _ (PC.lot 0 (xs.length - 1) 0 (by omega) (by rw [show 0 + (xs.length - 1 + 1) = xs.length by omega]; exact PC.done))
  rw [show xs.length - 1 + 1 = xs.length by omega] at h2
  unfold runD at h2 ⊢
  rw [Nat.zero_add, Int.zero_mul, Int.zero_add] at *
  omega
end Go.Proofs.Ytldncfkkeeinjac
