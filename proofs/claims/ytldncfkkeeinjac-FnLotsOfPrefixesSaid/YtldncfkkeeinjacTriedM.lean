import Derived.Test.YtldncfkkeeinjacLib
import Derived.Test.YtldncfkkeeinjacNetM
import Derived.Test.YtldncfkkeeinjacPlanM
namespace Go.Proofs.Ytldncfkkeeinjac

def bitN (x j : Nat) : Nat := x / 2 ^ j % 2
theorem bit_add_low {a m j : Nat} (h : j < m) : bitN (a + 2 ^ m) j = bitN a j := by
  unfold bitN
  obtain ⟨d, rfl⟩ : ∃ d, m = j + (d + 1) := ⟨m - j - 1, by omega⟩
  rw [Nat.pow_add, Nat.add_mul_div_left _ _ (Nat.pow_pos (by omega)), Nat.pow_succ, Nat.mul_comm (2 ^ d) 2, Nat.add_mul_mod_self_left]
theorem bit_add_at {a m : Nat} (h : a < 2 ^ m) : bitN (a + 2 ^ m) m = 1 := by
  unfold bitN
  rw [Nat.add_div_right _ (Nat.pow_pos (by omega)), Nat.div_eq_of_lt h]
theorem bit_high {a m j : Nat} (h : a < 2 ^ m) (hj : m ≤ j) : bitN a j = 0 := by
  unfold bitN
  rw [Nat.div_eq_of_lt (Nat.lt_of_lt_of_le h (Nat.pow_le_pow_right (by omega) hj))]
/-- the lots ahead of day i, cut where the mask says: their cost, and the first day of the last one -/
def scanM (xs : List Int) (s h : Int) (mask : Nat) : Nat → Int × Nat
  | 0 => (0, 0)
  | i + 1 => if bitN mask (i + 1) = 1 then ((scanM xs s h mask i).1 + runD xs s h (scanM xs s h mask i).2 (i + 1 - (scanM xs s h mask i).2), i + 1) else scanM xs s h mask i
def triedM (xs : List Int) (s h : Int) (mask : Nat) : Int := (scanM xs s h mask (xs.length - 1)).1 + runD xs s h (scanM xs s h mask (xs.length - 1)).2 (xs.length - (scanM xs s h mask (xs.length - 1)).2)
inductive PF (xs : List Int) (s h : Int) : Nat → Int → Prop where
  | none : PF xs s h 0 0
  | lot (i d : Nat) (c : Int) (hd : i + (d + 1) ≤ xs.length) (hc : PF xs s h i c) : PF xs s h (i + (d + 1)) (c + runD xs s h i (d + 1))
theorem PF.pc {xs : List Int} {s h : Int} {i : Nat} {c : Int} (p : PF xs s h i c) : ∀ c', PC xs s h i c' → PC xs s h 0 (c + c') := by
  induction p with
  | none => intro c' h'; rw [Int.zero_add]; exact h'
  | lot i d c hd _ ih =>
    intro c' h'
    have := ih _ (PC.lot i d c' hd h')
    rwa [← Int.add_assoc] at this
theorem PC.pf {xs : List Int} {s h : Int} {i : Nat} {c : Int} (p : PC xs s h i c) : ∀ c0, PF xs s h i c0 → PF xs s h xs.length (c0 + c) := by
  induction p with
  | done => intro c0 h'; rw [Int.add_zero]; exact h'
  | lot i d c hd _ ih =>
    intro c0 h'
    have := ih _ (PF.lot i d c0 hd h')
    rwa [Int.add_assoc] at this
theorem scan_pf (xs : List Int) (s h : Int) (mask : Nat) : ∀ i, i < xs.length → PF xs s h (scanM xs s h mask i).2 (scanM xs s h mask i).1 ∧ (scanM xs s h mask i).2 ≤ i := by
  intro i
  induction i with
  | zero => intro _; exact ⟨PF.none, Nat.le_refl _⟩
  | succ i ih =>
    intro hi
    obtain ⟨h1, h2⟩ := ih (by omega)
    rw [scanM]
    split
    · refine ⟨?_, Nat.le_refl _⟩
      have := PF.lot (scanM xs s h mask i).2 (i - (scanM xs s h mask i).2) _ (by omega) h1
      rw [show (scanM xs s h mask i).2 + (i - (scanM xs s h mask i).2 + 1) = i + 1 by omega, show i - (scanM xs s h mask i).2 + 1 = i + 1 - (scanM xs s h mask i).2 by omega] at this
      exact this
    · exact ⟨h1, by omega⟩
theorem tried_pc {xs : List Int} (s h : Int) (h0 : 0 < xs.length) (mask : Nat) : PC xs s h 0 (triedM xs s h mask) := by
  obtain ⟨h1, h2⟩ := scan_pf xs s h mask (xs.length - 1) (by omega)
  have := h1.pc _ (PC.lot (scanM xs s h mask (xs.length - 1)).2 (xs.length - (scanM xs s h mask (xs.length - 1)).2 - 1) 0 (by omega) (by
    rw [show (scanM xs s h mask (xs.length - 1)).2 + (xs.length - (scanM xs s h mask (xs.length - 1)).2 - 1 + 1) = xs.length by omega]; exact PC.done))
  rw [Int.add_zero, show xs.length - (scanM xs s h mask (xs.length - 1)).2 - 1 + 1 = xs.length - (scanM xs s h mask (xs.length - 1)).2 by omega] at this
  exact this
theorem scan_congr {xs : List Int} {s h : Int} {a b : Nat} : ∀ i, (∀ j, 1 ≤ j → j ≤ i → bitN a j = bitN b j) → scanM xs s h a i = scanM xs s h b i := by
  intro i
  induction i with
  | zero => intro _; rfl
  | succ i ih => intro hb; rw [scanM, scanM, ih (fun j h1 h2 => hb j h1 (by omega)), hb (i + 1) (by omega) (Nat.le_refl _)]
theorem scan_skip {xs : List Int} {s h : Int} {a i : Nat} : ∀ d, (∀ j, i < j → j ≤ i + d → bitN a j = 0) → scanM xs s h a (i + d) = scanM xs s h a i := by
  intro d
  induction d with
  | zero => intro _; rfl
  | succ d ih => intro hb; rw [← Nat.add_assoc, scanM, if_neg (by rw [hb (i + d + 1) (by omega) (by omega)]; omega), ih (fun j h1 h2 => hb j h1 (by omega))]
theorem scan_mask {xs : List Int} {s h : Int} {i : Nat} {c : Int} (p : PF xs s h i c) : i < xs.length → ∃ mask, mask % 2 = 1 ∧ mask < 2 ^ (i + 1) ∧ scanM xs s h mask i = (c, i) := by
  induction p with
  | none => intro _; exact ⟨1, rfl, by decide, rfl⟩
  | lot i d c hd _ ih =>
    intro hi
    obtain ⟨mask, h1, h2, h3⟩ := ih (by omega)
    refine ⟨mask + 2 ^ (i + (d + 1)), ?_, ?_, ?_⟩
    · rw [show i + (d + 1) = (i + d) + 1 by omega, Nat.pow_succ, Nat.mul_comm, Nat.add_mul_mod_self_left]; exact h1
    · have : 2 ^ (i + 1) ≤ 2 ^ (i + (d + 1)) := Nat.pow_le_pow_right (by omega) (by omega)
      rw [Nat.pow_succ 2 (i + (d + 1))]; omega
    · have hlt : mask < 2 ^ (i + (d + 1)) := Nat.lt_of_lt_of_le h2 (Nat.pow_le_pow_right (by omega) (by omega))
      have e1 : scanM xs s h (mask + 2 ^ (i + (d + 1))) i = (c, i) := by rw [← h3]; exact scan_congr i (fun j _ hj => bit_add_low (by omega))
      have e2 : scanM xs s h (mask + 2 ^ (i + (d + 1))) (i + d) = (c, i) := by
        rw [← e1]; exact scan_skip d (fun j hj1 hj2 => by rw [bit_add_low (by omega)]; exact bit_high h2 (by omega))
      rw [show i + (d + 1) = (i + d) + 1 by omega] at hlt e2 ⊢
      rw [scanM, if_pos (bit_add_at hlt), e2]
      show (c + runD xs s h i (i + d + 1 - i), i + d + 1) = _
      rw [show i + d + 1 - i = d + 1 by omega]
theorem tried_all {xs : List Int} {s h : Int} (h0 : 0 < xs.length) {c : Int} (p : PC xs s h 0 c) : ∃ t, 2 * t + 1 < 2 ^ xs.length ∧ triedM xs s h (2 * t + 1) = c := by
  have q := p.pf 0 PF.none
  rw [Int.zero_add] at q
  generalize hn : xs.length = n at q
  cases q with
  | none => omega
  | lot i d c' hd hc =>
    obtain ⟨mask, h1, h2, h3⟩ := scan_mask hc (by omega)
    refine ⟨mask / 2, ?_, ?_⟩
    · have : 2 ^ (i + 1) ≤ 2 ^ (i + (d + 1)) := Nat.pow_le_pow_right (by omega) (by omega)
      omega
    · rw [show 2 * (mask / 2) + 1 = mask by omega]
      have e : scanM xs s h mask (xs.length - 1) = (c', i) := by
        rw [← h3, show xs.length - 1 = i + d by omega]
        exact scan_skip d (fun j hj1 hj2 => bit_high h2 (by omega))
      unfold triedM
      rw [e]
      show c' + runD xs s h i (xs.length - i) = _
      rw [show xs.length - i = d + 1 by omega]
/-- the least by sets is the least by days -/
theorem tried_least {xs : List Int} (s h : Int) (h0 : 0 < xs.length) : minTo (fun t => triedM xs s h (2 * t + 1)) (2 ^ (xs.length - 1) - 1) = bst xs s h 0 := by
  have hb := bst_is (xs := xs) (s := s) (h := h) (Nat.zero_le _)
  have hp : 2 ^ xs.length = 2 * 2 ^ (xs.length - 1) := by
    obtain ⟨m, hm⟩ : ∃ m, xs.length = m + 1 := ⟨xs.length - 1, by omega⟩
    rw [hm, Nat.pow_succ, Nat.add_sub_cancel, Nat.mul_comm]
  refine LeastC.uniq (i := 0) ⟨?_, fun c hc => ?_⟩ hb
  · obtain ⟨t, _, e⟩ := minTo_at (fun t => triedM xs s h (2 * t + 1)) (2 ^ (xs.length - 1) - 1)
    rw [e]; exact tried_pc s h h0 _
  · obtain ⟨t, ht, e⟩ := tried_all h0 hc
    rw [← e]
    exact minTo_le (f := fun t => triedM xs s h (2 * t + 1)) (by omega)

-- more set, more hold; fewer days
theorem runD_up {xs : List Int} (hx : ∀ k, 0 ≤ xs.getD k 0) {s h s' h' : Int} (hs : s ≤ s') (hh : h ≤ h') (i d : Nat) : runD xs s h i d ≤ runD xs s' h' i d := by
  have := Int.mul_le_mul_of_nonneg_right hh (hsum_nonneg hx i d)
  unfold runD; split <;> omega
theorem PC.up {xs : List Int} (hx : ∀ k, 0 ≤ xs.getD k 0) {s h s' h' : Int} (hs : s ≤ s') (hh : h ≤ h') {i : Nat} {c : Int} (p : PC xs s' h' i c) : ∃ c', PC xs s h i c' ∧ c' ≤ c := by
  induction p with
  | done => exact ⟨0, PC.done, Int.le_refl _⟩
  | lot i d c hd _ ih =>
    obtain ⟨c', h1, h2⟩ := ih
    exact ⟨_, PC.lot i d c' hd h1, by have := runD_up hx hs hh i (d + 1); omega⟩
theorem bst_up {xs : List Int} (hx : ∀ k, 0 ≤ xs.getD k 0) {s h s' h' : Int} (hs : s ≤ s') (hh : h ≤ h') : bst xs s h 0 ≤ bst xs s' h' 0 := by
  obtain ⟨c, h1, h2⟩ := (bst_is (xs := xs) (s := s') (h := h') (Nat.zero_le _)).1.up hx hs hh
  have := (bst_is (xs := xs) (s := s) (h := h) (Nat.zero_le _)).2 c h1
  omega
end Go.Proofs.Ytldncfkkeeinjac
