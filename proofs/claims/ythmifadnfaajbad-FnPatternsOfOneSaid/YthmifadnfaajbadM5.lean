import Derived.Test.YthmifadnfaajbadM0
import Derived.Test.YthmifadnfaajbadM4
namespace Go.Proofs.Ythmifadnfaajbad

/-- the days of a lot behind its first one, each times what is wanted on it -/
def hsum (xs : List Int) (i : Nat) : Nat → Int
  | 0 => 0
  | d + 1 => hsum xs i d + (d : Int) * xs.getD (i + d) 0
/-- what it costs to make d days at the day i -/
def runD (xs : List Int) (s h : Int) (i d : Nat) : Int := h * hsum xs i d + (if 0 < sumN xs (i + d) - sumN xs i then s else 0)
theorem sumN_mono {xs : List Int} (hx : ∀ k, 0 ≤ xs.getD k 0) (i d : Nat) : sumN xs i ≤ sumN xs (i + d) := by
  induction d with
  | zero => exact Int.le_refl _
  | succ d ih => have := hx (i + d); rw [← Nat.add_assoc, sumN]; omega
theorem sumN_le {xs : List Int} (hx : ∀ k, 0 ≤ xs.getD k 0) {i k : Nat} (h : i ≤ k) : sumN xs i ≤ sumN xs k := by
  have := sumN_mono hx i (k - i); rwa [show i + (k - i) = k by omega] at this
theorem hsum_nonneg {xs : List Int} (hx : ∀ k, 0 ≤ xs.getD k 0) (i d : Nat) : 0 ≤ hsum xs i d := by
  induction d with
  | zero => exact Int.le_refl _
  | succ d ih => have := Int.mul_nonneg (show (0 : Int) ≤ d by omega) (hx (i + d)); rw [hsum]; omega
theorem hsum_bd {xs : List Int} {B : Int} (hx : ∀ k, 0 ≤ xs.getD k 0 ∧ xs.getD k 0 ≤ B) (i d : Nat) (hd : d ≤ 8) : hsum xs i d ≤ 8 * B * d := by
  induction d with
  | zero => simp [hsum]
  | succ d ih =>
    have h1 := hx (i + d)
    have h2 : (d : Int) * xs.getD (i + d) 0 ≤ 8 * B := Int.mul_le_mul (by omega) h1.2 h1.1 (by omega)
    have := ih (by omega)
    rw [hsum]; push_cast; rw [Int.mul_add, Int.mul_one]; omega
theorem runD_nonneg {xs : List Int} {s h : Int} (hx : ∀ k, 0 ≤ xs.getD k 0) (hs : 0 ≤ s) (hh : 0 ≤ h) (i d : Nat) : 0 ≤ runD xs s h i d := by
  have := Int.mul_nonneg hh (hsum_nonneg hx i d)
  unfold runD; split <;> omega
theorem runD_bd {xs : List Int} {s h : Int} (hx : ∀ k, 0 ≤ xs.getD k 0 ∧ xs.getD k 0 ≤ 20) (hs : 0 ≤ s ∧ s ≤ 31) (hh : 0 ≤ h ∧ h ≤ 31) (i d : Nat) (hd : d ≤ 8) : 0 ≤ runD xs s h i d ∧ runD xs s h i d ≤ 40000 := by
  refine ⟨runD_nonneg (fun k => (hx k).1) hs.1 hh.1 i d, ?_⟩
  have h1 := hsum_bd hx i d hd
  have h0 := hsum_nonneg (fun k => (hx k).1) i d
  have h2 : h * hsum xs i d ≤ 31 * 1280 := Int.mul_le_mul hh.2 (by omega) h0 (by omega)
  unfold runD; split <;> omega
/-- the days from i on can be made in lots for c -/
inductive PC (xs : List Int) (s h : Int) : Nat → Int → Prop where
  | done : PC xs s h xs.length 0
  | lot (i d : Nat) (c : Int) (hd : i + (d + 1) ≤ xs.length) (hc : PC xs s h (i + (d + 1)) c) : PC xs s h i (runD xs s h i (d + 1) + c)
theorem PC.nonneg {xs : List Int} {s h : Int} (hx : ∀ k, 0 ≤ xs.getD k 0) (hs : 0 ≤ s) (hh : 0 ≤ h) {i : Nat} {c : Int} (p : PC xs s h i c) : 0 ≤ c := by
  induction p with
  | done => exact Int.le_refl _
  | lot i d c hd _ ih => have := runD_nonneg hx hs hh i (d + 1); omega
theorem PC.le {xs : List Int} {s h : Int} {i : Nat} {c : Int} (p : PC xs s h i c) : i ≤ xs.length := by
  cases p with
  | done => exact Nat.le_refl _
  | lot _ d c hd _ => omega
/-- the least of f 0 .. f m -/
def minTo (f : Nat → Int) : Nat → Int
  | 0 => f 0
  | m + 1 => min (minTo f m) (f (m + 1))
theorem minTo_le {f : Nat → Int} {m d : Nat} (h : d ≤ m) : minTo f m ≤ f d := by
  induction m with
  | zero => obtain rfl : d = 0 := by omega
            exact Int.le_refl _
  | succ m ih =>
    rw [minTo]
    by_cases e : d = m + 1
    · subst e; omega
    · have := ih (by omega); omega
theorem minTo_at (f : Nat → Int) (m : Nat) : ∃ d, d ≤ m ∧ minTo f m = f d := by
  induction m with
  | zero => exact ⟨0, Nat.le_refl _, rfl⟩
  | succ m ih =>
    obtain ⟨d, hd, e⟩ := ih
    rw [minTo]
    by_cases h : minTo f m ≤ f (m + 1)
    · exact ⟨d, by omega, by omega⟩
    · exact ⟨m + 1, Nat.le_refl _, by omega⟩
theorem minTo_congr {f g : Nat → Int} {m : Nat} (h : ∀ d, d ≤ m → f d = g d) : minTo f m = minTo g m := by
  induction m with
  | zero => exact h 0 (Nat.le_refl _)
  | succ m ih => rw [minTo, minTo, ih (fun d hd => h d (by omega)), h (m + 1) (Nat.le_refl _)]
def bestF (xs : List Int) (s h : Int) : Nat → Nat → Int
  | 0, _ => 0
  | m + 1, q => if q = m + 1 then minTo (fun d => runD xs s h (xs.length - (m + 1)) (d + 1) + bestF xs s h m (m - d)) m else bestF xs s h m q
/-- the least cost of the days from i on -/
def bst (xs : List Int) (s h : Int) (i : Nat) : Int := bestF xs s h (xs.length - i) (xs.length - i)
theorem bestF_low (xs : List Int) (s h : Int) (m : Nat) : ∀ q, q ≤ m → bestF xs s h m q = bestF xs s h q q := by
  induction m with
  | zero => intro q hq; obtain rfl : q = 0 := by omega
            rfl
  | succ m ih =>
    intro q hq
    by_cases e : q = m + 1
    · subst e; rfl
    · rw [bestF, if_neg e]; exact ih q (by omega)
theorem bst_end (xs : List Int) (s h : Int) : bst xs s h xs.length = 0 := by unfold bst; rw [Nat.sub_self]; rfl
theorem bst_rec {xs : List Int} {s h : Int} {i : Nat} (hi : i < xs.length) : bst xs s h i = minTo (fun d => runD xs s h i (d + 1) + bst xs s h (i + (d + 1))) (xs.length - 1 - i) := by
  obtain ⟨m, hm⟩ : ∃ m, xs.length - i = m + 1 := ⟨xs.length - i - 1, by omega⟩
  unfold bst
  rw [hm, bestF, if_pos rfl, show xs.length - 1 - i = m by omega]
  refine minTo_congr (fun d hd => ?_)
  rw [show xs.length - (m + 1) = i by omega, bestF_low xs s h m (m - d) (by omega), show xs.length - (i + (d + 1)) = m - d by omega]
def LeastC (xs : List Int) (s h : Int) (i : Nat) (b : Int) : Prop := PC xs s h i b ∧ ∀ c, PC xs s h i c → b ≤ c
theorem LeastC.uniq {xs : List Int} {s h : Int} {i : Nat} {a b : Int} (ha : LeastC xs s h i a) (hb : LeastC xs s h i b) : a = b := by
  have := ha.2 b hb.1; have := hb.2 a ha.1; omega
theorem bst_least (xs : List Int) (s h : Int) : ∀ (m i : Nat), i + m = xs.length → LeastC xs s h i (bst xs s h i) := by
  intro m
  induction m using Nat.strongRecOn with
  | ind m ih =>
    intro i hi
    by_cases h0 : i = xs.length
    · subst h0
      rw [bst_end]
      refine ⟨PC.done, fun c hc => ?_⟩
      generalize hn : xs.length = n at hc
      cases hc with
      | done => exact Int.le_refl _
      | lot _ d c hd _ => omega
    · have hlt : i < xs.length := by omega
      have hsub : ∀ d, i + (d + 1) ≤ xs.length → LeastC xs s h (i + (d + 1)) (bst xs s h (i + (d + 1))) := fun d hd => ih (xs.length - (i + (d + 1))) (by omega) _ (by omega)
      rw [bst_rec hlt]
      refine ⟨?_, fun c hc => ?_⟩
      · obtain ⟨d, hd, e⟩ := minTo_at (fun d => runD xs s h i (d + 1) + bst xs s h (i + (d + 1))) (xs.length - 1 - i)
        rw [e]
        exact PC.lot i d _ (by omega) (hsub d (by omega)).1
      · cases hc with
        | done => omega
        | lot _ d c hd hc' =>
          have h1 := (hsub d hd).2 c hc'
          have h2 := minTo_le (f := fun d => runD xs s h i (d + 1) + bst xs s h (i + (d + 1))) (m := xs.length - 1 - i) (d := d) (by omega)
          omega
theorem bst_is {xs : List Int} {s h : Int} {i : Nat} (hi : i ≤ xs.length) : LeastC xs s h i (bst xs s h i) := bst_least xs s h (xs.length - i) i (by omega)
theorem bst_nonneg {xs : List Int} {s h : Int} (hx : ∀ k, 0 ≤ xs.getD k 0) (hs : 0 ≤ s) (hh : 0 ≤ h) {i : Nat} (hi : i ≤ xs.length) : 0 ≤ bst xs s h i := (bst_is hi).1.nonneg hx hs hh
theorem bst_bd {xs : List Int} {s h : Int} (hl : xs.length ≤ 8) (hx : ∀ k, 0 ≤ xs.getD k 0 ∧ xs.getD k 0 ≤ 20) (hs : 0 ≤ s ∧ s ≤ 31) (hh : 0 ≤ h ∧ h ≤ 31) {i : Nat} (hi : i ≤ xs.length) : 0 ≤ bst xs s h i ∧ bst xs s h i ≤ 40000 := by
  refine ⟨bst_nonneg (fun k => (hx k).1) hs.1 hh.1 hi, ?_⟩
  by_cases h0 : i = xs.length
  · subst h0; rw [bst_end]; omega
  · have h1 := (bst_is (s := s) (h := h) hi).2 _ (PC.lot i (xs.length - i - 1) 0 (by omega) (by rw [show i + (xs.length - i - 1 + 1) = xs.length by omega]; exact PC.done))
    have h2 := runD_bd hx hs hh i (xs.length - i - 1 + 1) (by omega)
    omega

-- plans
/-- what it costs on day q: it is there at its end, it is made on it -/
def dayC (ms xs : List Int) (s h : Int) (q : Nat) : Int := h * (sumN ms (q + 1) - sumN xs (q + 1)) + (if 0 < ms.getD q 0 then s else 0)
def planTo (ms xs : List Int) (s h : Int) : Nat → Int
  | 0 => 0
  | q + 1 => planTo ms xs s h q + dayC ms xs s h q
theorem sumN_flat {ms : List Int} {i k : Nat} (h : ∀ q, i < q → q < k → ms.getD q 0 = 0) {q : Nat} (hq : i ≤ q) (hk : q < k) : sumN ms k = sumN ms (q + 1) := by
  obtain ⟨d, rfl⟩ : ∃ d, k = q + 1 + d := ⟨k - (q + 1), by omega⟩
  clear hk
  induction d with
  | zero => rfl
  | succ d ih =>
    rw [← Nat.add_assoc, sumN, ih (fun r h1 h2 => h r h1 (by omega)), h (q + 1 + d) (by omega) (by omega)]; omega
/-- a lot is not dearer than what a plan pays on its days -/
theorem block_le {ms xs : List Int} {s h : Int} (hx : ∀ k, 0 ≤ xs.getD k 0) (hm : ∀ k, 0 ≤ ms.getD k 0) (hs : 0 ≤ s) (hh : 0 ≤ h) {i k : Nat} (hik : i < k) (hst : sumN xs k ≤ sumN ms k) (hno : ∀ q, i < q → q < k → ms.getD q 0 = 0) (hi : 0 < ms.getD i 0 ∨ i = 0) :
    runD xs s h i (k - i) ≤ planTo ms xs s h k - planTo ms xs s h i := by
  have key : ∀ d, i + d ≤ k → h * (hsum xs i d + (d : Int) * (sumN xs k - sumN xs (i + d))) + (if 0 < d ∧ 0 < ms.getD i 0 then s else 0) ≤ planTo ms xs s h (i + d) - planTo ms xs s h i := by
    intro d
    induction d with
    | zero => intro _; simp [hsum]
    | succ d ih =>
      intro hd
      have ih' := ih (by omega)
      rw [← Nat.add_assoc, planTo]
      have e1 := sumN_flat hno (q := i + d) (by omega) (by omega)
      have hday : h * (sumN xs k - sumN xs (i + d + 1)) + (if d = 0 ∧ 0 < ms.getD i 0 then s else 0) ≤ dayC ms xs s h (i + d) := by
        have h1 : h * (sumN xs k - sumN xs (i + d + 1)) ≤ h * (sumN ms (i + d + 1) - sumN xs (i + d + 1)) := Int.mul_le_mul_of_nonneg_left (by omega) hh
        unfold dayC
        by_cases h0 : d = 0 ∧ 0 < ms.getD i 0
        · obtain ⟨rfl, h3⟩ := h0
          rw [if_pos ⟨rfl, h3⟩]
          simp only [Nat.add_zero] at h1 ⊢
          rw [if_pos h3]; omega
        · rw [if_neg h0]; split <;> omega
      have e2 : h * (hsum xs i (d + 1) + ((d + 1 : Nat) : Int) * (sumN xs k - sumN xs (i + d + 1))) = h * (hsum xs i d + (d : Int) * (sumN xs k - sumN xs (i + d))) + h * (sumN xs k - sumN xs (i + d + 1)) := by
        rw [← Int.mul_add]
        congr 1
        rw [hsum, show sumN xs (i + d + 1) = sumN xs (i + d) + xs.getD (i + d) 0 from rfl]
        push_cast
        rw [Int.add_mul, Int.one_mul, Int.sub_eq_add_neg (b := sumN xs (i + d) + _), Int.mul_add, Int.mul_sub, Int.mul_neg, Int.mul_add]
        omega
      rw [e2]
      by_cases h0 : d = 0
      · subst h0
        simp only [Nat.lt_irrefl, false_and, if_false, true_and, Nat.zero_add, Nat.lt_one_iff, Nat.zero_lt_one] at ih' hday ⊢
        omega
      · rw [if_neg (by omega)] at hday
        by_cases h3 : 0 < ms.getD i 0
        · rw [if_pos ⟨by omega, h3⟩] at ih' ⊢; omega
        · rw [if_neg (fun e => h3 e.2)] at ih' ⊢; omega
  have h9 := key (k - i) (by omega)
  rw [show i + (k - i) = k by omega, Int.sub_self, Int.mul_zero, Int.add_zero] at h9
  unfold runD
  rw [show i + (k - i) = k by omega]
  by_cases h3 : 0 < ms.getD i 0
  · rw [if_pos ⟨by omega, h3⟩] at h9
    split <;> omega
  · rw [if_neg (fun e => h3 e.2)] at h9
    have hi0 : i = 0 := by omega
    subst hi0
    have h4 : ms.getD 0 0 = 0 := by have := hm 0; omega
    have e1 := sumN_flat hno (q := 0) (by omega) hik
    have e2 : sumN ms (0 + 1) = 0 := by rw [sumN, sumN, h4]; rfl
    have e3 : sumN xs 0 = 0 := rfl
    rw [if_neg (by omega)]; omega
theorem plan_least {ms xs : List Int} {s h : Int} (hx : ∀ k, 0 ≤ xs.getD k 0) (hm : ∀ k, 0 ≤ ms.getD k 0) (hs : 0 ≤ s) (hh : 0 ≤ h) (hst : ∀ k, k ≤ xs.length → sumN xs k ≤ sumN ms k) :
    bst xs s h 0 ≤ planTo ms xs s h xs.length := by
  have key : ∀ (m k : Nat), k + m = xs.length → ∀ i, i < k → (∀ q, i < q → q < k → ms.getD q 0 = 0) → (0 < ms.getD i 0 ∨ i = 0) → ∃ c, PC xs s h i c ∧ c ≤ planTo ms xs s h xs.length - planTo ms xs s h i := by
    intro m
    induction m with
    | zero =>
      intro k hk i hik hno hi
      obtain rfl : k = xs.length := by omega
      have hb := block_le hx hm hs hh hik (hst _ (Nat.le_refl _)) hno hi
      refine ⟨_, PC.lot i (xs.length - i - 1) 0 (by omega) (by rw [show i + (xs.length - i - 1 + 1) = xs.length by omega]; exact PC.done), ?_⟩
      rw [show xs.length - i - 1 + 1 = xs.length - i by omega]; omega
    | succ m ih =>
      intro k hk i hik hno hi
      by_cases h0 : 0 < ms.getD k 0
      · obtain ⟨c, hc, hle⟩ := ih (k + 1) (by omega) k (by omega) (fun q h1 h2 => by omega) (Or.inl h0)
        have hb := block_le hx hm hs hh hik (hst k (by omega)) hno hi
        refine ⟨_, PC.lot i (k - i - 1) c (by omega) (by rw [show i + (k - i - 1 + 1) = k by omega]; exact hc), ?_⟩
        rw [show k - i - 1 + 1 = k - i by omega]; omega
      · exact ih (k + 1) (by omega) i (by omega) (fun q h1 h2 => by
          by_cases e : q = k
          · subst e; have := hm q; omega
          · exact hno q h1 (by omega)) hi
  by_cases h0 : xs.length = 0
  · have : bst xs s h 0 = 0 := by have := bst_end xs s h; rw [h0] at this; exact this
    rw [this, h0]; exact Int.le_refl _
  · obtain ⟨c, hc, hle⟩ := key (xs.length - 1) 1 (by omega) 0 (by omega) (fun q h1 h2 => by omega) (Or.inr rfl)
    have := (bst_is (s := s) (h := h) (Nat.zero_le xs.length)).2 c hc
    have e : planTo ms xs s h 0 = 0 := rfl
    omega
end Go.Proofs.Ythmifadnfaajbad
namespace Go.Proofs.Ythmifadnfaajbad

def bitN (x j : Nat) : Nat := x / 2 ^ j % 2
theorem bit_add_low {a m j : Nat} (h : j < m) : bitN (a + 2 ^ m) j = bitN a j := by
  unfold bitN
  obtain ⟨d, rfl⟩ : ∃ d, m = j + (d + 1) := ⟨m - j - 1, by omega⟩
  rw [Nat.pow_add, Nat.add_mul_div_left _ _ (Nat.pow_pos (by omega)), Nat.pow_succ, Nat.mul_comm (2 ^ d) 2, Nat.add_mul_mod_self_left]
theorem bit_add_at {a m : Nat} (h : a < 2 ^ m) : bitN (a + 2 ^ m) m = 1 := by
  unfold bitN
  rw [Nat.add_div_right _ (Nat.pow_pos (by omega)), Nat.div_eq_of_lt h]
theorem bit_high {a m j : Nat} (h : a < 2 ^ m) (hj : m ≤ j) : bitN a j = 0 := by
  unfold bitN
  rw [Nat.div_eq_of_lt (Nat.lt_of_lt_of_le h (Nat.pow_le_pow_right (by omega) hj))]
/-- the lots ahead of day i, cut where the mask says: their cost, and the first day of the last one -/
def scanM (xs : List Int) (s h : Int) (mask : Nat) : Nat → Int × Nat
  | 0 => (0, 0)
  | i + 1 => if bitN mask (i + 1) = 1 then ((scanM xs s h mask i).1 + runD xs s h (scanM xs s h mask i).2 (i + 1 - (scanM xs s h mask i).2), i + 1) else scanM xs s h mask i
def triedM (xs : List Int) (s h : Int) (mask : Nat) : Int := (scanM xs s h mask (xs.length - 1)).1 + runD xs s h (scanM xs s h mask (xs.length - 1)).2 (xs.length - (scanM xs s h mask (xs.length - 1)).2)
inductive PF (xs : List Int) (s h : Int) : Nat → Int → Prop where
  | none : PF xs s h 0 0
  | lot (i d : Nat) (c : Int) (hd : i + (d + 1) ≤ xs.length) (hc : PF xs s h i c) : PF xs s h (i + (d + 1)) (c + runD xs s h i (d + 1))
theorem PF.pc {xs : List Int} {s h : Int} {i : Nat} {c : Int} (p : PF xs s h i c) : ∀ c', PC xs s h i c' → PC xs s h 0 (c + c') := by
  induction p with
  | none => intro c' h'; rw [Int.zero_add]; exact h'
  | lot i d c hd _ ih =>
    intro c' h'
    have := ih _ (PC.lot i d c' hd h')
    rwa [← Int.add_assoc] at this
theorem PC.pf {xs : List Int} {s h : Int} {i : Nat} {c : Int} (p : PC xs s h i c) : ∀ c0, PF xs s h i c0 → PF xs s h xs.length (c0 + c) := by
  induction p with
  | done => intro c0 h'; rw [Int.add_zero]; exact h'
  | lot i d c hd _ ih =>
    intro c0 h'
    have := ih _ (PF.lot i d c0 hd h')
    rwa [Int.add_assoc] at this
theorem scan_pf (xs : List Int) (s h : Int) (mask : Nat) : ∀ i, i < xs.length → PF xs s h (scanM xs s h mask i).2 (scanM xs s h mask i).1 ∧ (scanM xs s h mask i).2 ≤ i := by
  intro i
  induction i with
  | zero => intro _; exact ⟨PF.none, Nat.le_refl _⟩
  | succ i ih =>
    intro hi
    obtain ⟨h1, h2⟩ := ih (by omega)
    rw [scanM]
    split
    · refine ⟨?_, Nat.le_refl _⟩
      have := PF.lot (scanM xs s h mask i).2 (i - (scanM xs s h mask i).2) _ (by omega) h1
      rw [show (scanM xs s h mask i).2 + (i - (scanM xs s h mask i).2 + 1) = i + 1 by omega, show i - (scanM xs s h mask i).2 + 1 = i + 1 - (scanM xs s h mask i).2 by omega] at this
      exact this
    · exact ⟨h1, by omega⟩
theorem tried_pc {xs : List Int} (s h : Int) (h0 : 0 < xs.length) (mask : Nat) : PC xs s h 0 (triedM xs s h mask) := by
  obtain ⟨h1, h2⟩ := scan_pf xs s h mask (xs.length - 1) (by omega)
  have := h1.pc _ (PC.lot (scanM xs s h mask (xs.length - 1)).2 (xs.length - (scanM xs s h mask (xs.length - 1)).2 - 1) 0 (by omega) (by
    rw [show (scanM xs s h mask (xs.length - 1)).2 + (xs.length - (scanM xs s h mask (xs.length - 1)).2 - 1 + 1) = xs.length by omega]; exact PC.done))
  rw [Int.add_zero, show xs.length - (scanM xs s h mask (xs.length - 1)).2 - 1 + 1 = xs.length - (scanM xs s h mask (xs.length - 1)).2 by omega] at this
  exact this
theorem scan_congr {xs : List Int} {s h : Int} {a b : Nat} : ∀ i, (∀ j, 1 ≤ j → j ≤ i → bitN a j = bitN b j) → scanM xs s h a i = scanM xs s h b i := by
  intro i
  induction i with
  | zero => intro _; rfl
  | succ i ih => intro hb; rw [scanM, scanM, ih (fun j h1 h2 => hb j h1 (by omega)), hb (i + 1) (by omega) (Nat.le_refl _)]
theorem scan_skip {xs : List Int} {s h : Int} {a i : Nat} : ∀ d, (∀ j, i < j → j ≤ i + d → bitN a j = 0) → scanM xs s h a (i + d) = scanM xs s h a i := by
  intro d
  induction d with
  | zero => intro _; rfl
  | succ d ih => intro hb; rw [← Nat.add_assoc, scanM, if_neg (by rw [hb (i + d + 1) (by omega) (by omega)]; omega), ih (fun j h1 h2 => hb j h1 (by omega))]
theorem scan_mask {xs : List Int} {s h : Int} {i : Nat} {c : Int} (p : PF xs s h i c) : i < xs.length → ∃ mask, mask % 2 = 1 ∧ mask < 2 ^ (i + 1) ∧ scanM xs s h mask i = (c, i) := by
  induction p with
  | none => intro _; exact ⟨1, rfl, by decide, rfl⟩
  | lot i d c hd _ ih =>
    intro hi
    obtain ⟨mask, h1, h2, h3⟩ := ih (by omega)
    refine ⟨mask + 2 ^ (i + (d + 1)), ?_, ?_, ?_⟩
    · rw [show i + (d + 1) = (i + d) + 1 by omega, Nat.pow_succ, Nat.mul_comm, Nat.add_mul_mod_self_left]; exact h1
    · have : 2 ^ (i + 1) ≤ 2 ^ (i + (d + 1)) := Nat.pow_le_pow_right (by omega) (by omega)
      rw [Nat.pow_succ 2 (i + (d + 1))]; omega
    · have hlt : mask < 2 ^ (i + (d + 1)) := Nat.lt_of_lt_of_le h2 (Nat.pow_le_pow_right (by omega) (by omega))
      have e1 : scanM xs s h (mask + 2 ^ (i + (d + 1))) i = (c, i) := by rw [← h3]; exact scan_congr i (fun j _ hj => bit_add_low (by omega))
      have e2 : scanM xs s h (mask + 2 ^ (i + (d + 1))) (i + d) = (c, i) := by
        rw [← e1]; exact scan_skip d (fun j hj1 hj2 => by rw [bit_add_low (by omega)]; exact bit_high h2 (by omega))
      rw [show i + (d + 1) = (i + d) + 1 by omega] at hlt e2 ⊢
      rw [scanM, if_pos (bit_add_at hlt), e2]
      show (c + runD xs s h i (i + d + 1 - i), i + d + 1) = _
      rw [show i + d + 1 - i = d + 1 by omega]
theorem tried_all {xs : List Int} {s h : Int} (h0 : 0 < xs.length) {c : Int} (p : PC xs s h 0 c) : ∃ t, 2 * t + 1 < 2 ^ xs.length ∧ triedM xs s h (2 * t + 1) = c := by
  have q := p.pf 0 PF.none
  rw [Int.zero_add] at q
  generalize hn : xs.length = n at q
  cases q with
  | none => omega
  | lot i d c' hd hc =>
    obtain ⟨mask, h1, h2, h3⟩ := scan_mask hc (by omega)
    refine ⟨mask / 2, ?_, ?_⟩
    · have : 2 ^ (i + 1) ≤ 2 ^ (i + (d + 1)) := Nat.pow_le_pow_right (by omega) (by omega)
      omega
    · rw [show 2 * (mask / 2) + 1 = mask by omega]
      have e : scanM xs s h mask (xs.length - 1) = (c', i) := by
        rw [← h3, show xs.length - 1 = i + d by omega]
        exact scan_skip d (fun j hj1 hj2 => bit_high h2 (by omega))
      unfold triedM
      rw [e]
      show c' + runD xs s h i (xs.length - i) = _
      rw [show xs.length - i = d + 1 by omega]
/-- the least by sets is the least by days -/
theorem tried_least {xs : List Int} (s h : Int) (h0 : 0 < xs.length) : minTo (fun t => triedM xs s h (2 * t + 1)) (2 ^ (xs.length - 1) - 1) = bst xs s h 0 := by
  have hb := bst_is (xs := xs) (s := s) (h := h) (Nat.zero_le _)
  have hp : 2 ^ xs.length = 2 * 2 ^ (xs.length - 1) := by
    obtain ⟨m, hm⟩ : ∃ m, xs.length = m + 1 := ⟨xs.length - 1, by omega⟩
    rw [hm, Nat.pow_succ, Nat.add_sub_cancel, Nat.mul_comm]
  refine LeastC.uniq (i := 0) ⟨?_, fun c hc => ?_⟩ hb
  · obtain ⟨t, _, e⟩ := minTo_at (fun t => triedM xs s h (2 * t + 1)) (2 ^ (xs.length - 1) - 1)
    rw [e]; exact tried_pc s h h0 _
  · obtain ⟨t, ht, e⟩ := tried_all h0 hc
    rw [← e]
    exact minTo_le (f := fun t => triedM xs s h (2 * t + 1)) (by omega)

-- more set, more hold; fewer days
theorem runD_up {xs : List Int} (hx : ∀ k, 0 ≤ xs.getD k 0) {s h s' h' : Int} (hs : s ≤ s') (hh : h ≤ h') (i d : Nat) : runD xs s h i d ≤ runD xs s' h' i d := by
  have := Int.mul_le_mul_of_nonneg_right hh (hsum_nonneg hx i d)
  unfold runD; split <;> omega
theorem PC.up {xs : List Int} (hx : ∀ k, 0 ≤ xs.getD k 0) {s h s' h' : Int} (hs : s ≤ s') (hh : h ≤ h') {i : Nat} {c : Int} (p : PC xs s' h' i c) : ∃ c', PC xs s h i c' ∧ c' ≤ c := by
  induction p with
  | done => exact ⟨0, PC.done, Int.le_refl _⟩
  | lot i d c hd _ ih =>
    obtain ⟨c', h1, h2⟩ := ih
    exact ⟨_, PC.lot i d c' hd h1, by have := runD_up hx hs hh i (d + 1); omega⟩
theorem bst_up {xs : List Int} (hx : ∀ k, 0 ≤ xs.getD k 0) {s h s' h' : Int} (hs : s ≤ s') (hh : h ≤ h') : bst xs s h 0 ≤ bst xs s' h' 0 := by
  obtain ⟨c, h1, h2⟩ := (bst_is (xs := xs) (s := s') (h := h') (Nat.zero_le _)).1.up hx hs hh
  have := (bst_is (xs := xs) (s := s) (h := h) (Nat.zero_le _)).2 c h1
  omega
end Go.Proofs.Ythmifadnfaajbad
