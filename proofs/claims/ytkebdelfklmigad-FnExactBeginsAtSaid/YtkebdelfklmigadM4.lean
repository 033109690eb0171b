import Derived.Test.YtkebdelfklmigadM0
import Derived.Test.YtkebdelfklmigadM3
import Derived.Test.YtkebdelfklmigadM2
import Derived.Test.YtkebdelfklmigadRows
import Derived.WalkKit
import Derived.LoopTactic
import Derived.Outline
import Derived.WalkSpells
import Derived.WalkLawsBesides
import Derived.ProofKit
import Derived.Test.YtkebdelfklmigadM1
import Derived.Deep.RegionLaw
import Derived.Deep.AppendLies
namespace Go.Proofs.Ytkebdelfklmigad
open Go.RowKit

def validDaysM (xs : List Int) : Bool := decide (xs.length ≤ 8) && allIn 0 20 xs
def validMadeM (xs : List Int) : Bool := decide (xs.length ≤ 8) && allIn 0 160 xs
theorem allIn_get {lo hi : Int} {xs : List Int} (h : allIn lo hi xs = true) {k : Nat} {x : Int} (hx : xs[k]? = some x) : lo ≤ x ∧ x ≤ hi := by
  have := List.all_eq_true.1 h x (List.mem_of_getElem? hx)
  simpa [inB] using this
theorem allIn_getD {lo hi : Int} {xs : List Int} (h : allIn lo hi xs = true) (h0 : lo ≤ 0) (h1 : 0 ≤ hi) (k : Nat) : lo ≤ xs.getD k 0 ∧ xs.getD k 0 ≤ hi := by
  rcases Nat.lt_or_ge k xs.length with h' | h'
  · exact allIn_get h (get_getD h')
  · rw [getD_past h']; omega
theorem allIn_of {lo hi : Int} {xs : List Int} (h : ∀ k, k < xs.length → lo ≤ xs.getD k 0 ∧ xs.getD k 0 ≤ hi) : allIn lo hi xs = true := by
  unfold allIn
  rw [List.all_eq_true]
  intro x hx
  obtain ⟨k, hk, rfl⟩ := List.mem_iff_getElem.1 hx
  have := h k hk
  rw [List.getD_eq_getElem?_getD, List.getElem?_eq_getElem hk] at this
  simpa [inB] using this
theorem validDays_len {xs : List Int} (h : validDaysM xs = true) : xs.length ≤ 8 := by simp [validDaysM] at h; exact h.1
theorem validDays_all {xs : List Int} (h : validDaysM xs = true) : allIn 0 20 xs = true := by simp [validDaysM] at h; exact h.2
theorem validDays_at {xs : List Int} (h : validDaysM xs = true) (k : Nat) : 0 ≤ xs.getD k 0 ∧ xs.getD k 0 ≤ 20 := allIn_getD (validDays_all h) (by omega) (by omega) k
theorem validMade_len {xs : List Int} (h : validMadeM xs = true) : xs.length ≤ 8 := by simp [validMadeM] at h; exact h.1
theorem validMade_all {xs : List Int} (h : validMadeM xs = true) : allIn 0 160 xs = true := by simp [validMadeM] at h; exact h.2
theorem validMade_at {xs : List Int} (h : validMadeM xs = true) (k : Nat) : 0 ≤ xs.getD k 0 ∧ xs.getD k 0 ≤ 160 := allIn_getD (validMade_all h) (by omega) (by omega) k
theorem validDays_mk {xs : List Int} (hl : xs.length ≤ 8) (h : ∀ k, k < xs.length → 0 ≤ xs.getD k 0 ∧ xs.getD k 0 ≤ 20) : validDaysM xs = true := by simp [validDaysM, hl, allIn_of h]
theorem validMade_mk {xs : List Int} (hl : xs.length ≤ 8) (h : ∀ k, k < xs.length → 0 ≤ xs.getD k 0 ∧ xs.getD k 0 ≤ 160) : validMadeM xs = true := by simp [validMadeM, hl, allIn_of h]

/-- the sum of the first k -/
def sumN (xs : List Int) : Nat → Int
  | 0 => 0
  | k + 1 => sumN xs k + xs.getD k 0
theorem totalM_take (xs : List Int) (k : Nat) (hk : k ≤ xs.length) : totalM (xs.take k) = sumN xs k := by
  induction k with
  | zero => rfl
  | succ k ih => rw [take_get (get_getD (xs := xs) (k := k) (by omega)), totalM_snoc, ih (by omega), sumN]
theorem totalM_eq (xs : List Int) : totalM xs = sumN xs xs.length := by
  have := totalM_take xs xs.length (Nat.le_refl _)
  rwa [List.take_length] at this
theorem sumN_tab (f : Nat → Int) (n k : Nat) (hk : k ≤ n) : sumN (tab f n) k = sumN (tab f k) k := by
  induction k with
  | zero => rfl
  | succ k ih => 
    have e : ∀ j, j ≤ k → sumN (tab f (k + 1)) j = sumN (tab f n) j := by
      intro j
      induction j with
      | zero => intro _; rfl
      | succ j ihj => intro hj; rw [sumN, sumN, ihj (by omega), tab_getD f (by omega), tab_getD f (by omega)]
    rw [sumN, sumN, e k (Nat.le_refl _), tab_getD f (by omega), tab_getD f (by omega)]
theorem sumN_bd {xs : List Int} {B : Int} (h : ∀ k, 0 ≤ xs.getD k 0 ∧ xs.getD k 0 ≤ B) (k : Nat) : 0 ≤ sumN xs k ∧ sumN xs k ≤ B * (k : Int) := by
  induction k with
  | zero => simp [sumN]
  | succ k ih =>
    have := h k
    have e : B * ((k + 1 : Nat) : Int) = B * (k : Int) + B := by push_cast; rw [Int.mul_add, Int.mul_one]
    rw [sumN, e]; omega
/-- the sum of j numbers from place a on -/
theorem totalM_part (xs : List Int) (a j : Nat) (h : a + j ≤ xs.length) : totalM ((xs.drop a).take j) = sumN xs (a + j) - sumN xs a := by
  induction j with
  | zero => simp [totalM]
  | succ j ih =>
    have hx : (xs.drop a)[j]? = some (xs.getD (a + j) 0) := by rw [List.getElem?_drop]; exact get_getD (by omega)
    rw [take_get hx, totalM_snoc, ih (by omega), show a + (j + 1) = (a + j) + 1 by omega, sumN]; omega

/-- the stock that is left behind k days -/
def leftTo (xs : List Int) (s : Int) : Nat → Int
  | 0 => s
  | k + 1 => leftTo xs s k - min (leftTo xs s k) (xs.getD k 0)
def netAt (xs : List Int) (s : Int) (q : Nat) : Int := xs.getD q 0 - min (leftTo xs s q) (xs.getD q 0)
def netM (xs : List Int) (s : Int) : List Int := tab (netAt xs s) xs.length
theorem leftTo_bd {xs : List Int} {s : Int} (hs : 0 ≤ s) (h : ∀ k, 0 ≤ xs.getD k 0) (k : Nat) : 0 ≤ leftTo xs s k ∧ leftTo xs s k ≤ s := by
  induction k with
  | zero => exact ⟨hs, Int.le_refl _⟩
  | succ k ih => have := h k; rw [leftTo]; omega
theorem netAt_bd {xs : List Int} {s : Int} (hs : 0 ≤ s) (h : ∀ k, 0 ≤ xs.getD k 0) (k : Nat) : 0 ≤ netAt xs s k ∧ netAt xs s k ≤ xs.getD k 0 := by
  have := h k
  have := leftTo_bd hs h k
  unfold netAt; omega
theorem netM_length (xs : List Int) (s : Int) : (netM xs s).length = xs.length := tab_length _ _
theorem netM_valid {xs : List Int} {s : Int} (hv : validDaysM xs = true) (hs : 0 ≤ s) : validDaysM (netM xs s) = true := by
  refine validDays_mk (by rw [netM_length]; exact validDays_len hv) (fun k hk => ?_)
  rw [netM_length] at hk
  have h1 := netAt_bd hs (fun q => (validDays_at hv q).1) k
  have h2 := validDays_at hv k
  rw [netM, tab_getD _ hk]; omega
theorem leftTo_closed {xs : List Int} {s : Int} (hs : 0 ≤ s) (h : ∀ k, 0 ≤ xs.getD k 0) (k : Nat) : leftTo xs s k = max (s - sumN xs k) 0 := by
  induction k with
  | zero => simp [leftTo, sumN]; omega
  | succ k ih => have := h k; rw [leftTo, sumN, ih]; omega
theorem sumN_net {xs : List Int} {s : Int} (k : Nat) (hk : k ≤ xs.length) : sumN (netM xs s) k = sumN xs k - (s - leftTo xs s k) := by
  induction k with
  | zero => simp [leftTo, sumN]
  | succ k ih => rw [sumN, ih (by omega), netM, tab_getD _ (by omega), netAt, sumN, leftTo]; omega
theorem leftTo_steps {xs : List Int} {s t : Int} (hs : 0 ≤ s) (ht : 0 ≤ t) (h : ∀ k, 0 ≤ xs.getD k 0) (k : Nat) (hk : k ≤ xs.length) :
    leftTo xs (s + t) k = leftTo xs s k + leftTo (netM xs s) t k ∧ 0 ≤ leftTo (netM xs s) t k := by
  induction k with
  | zero => simp [leftTo]; omega
  | succ k ih =>
    obtain ⟨i1, i2⟩ := ih (by omega)
    have := h k
    have := leftTo_bd hs h k
    rw [leftTo, leftTo, leftTo, i1]
    have e : (netM xs s).getD k 0 = netAt xs s k := by rw [netM, tab_getD _ (by omega)]
    rw [e, netAt]; omega
theorem netM_steps {xs : List Int} {s t : Int} (hs : 0 ≤ s) (ht : 0 ≤ t) (h : ∀ k, 0 ≤ xs.getD k 0) : netM (netM xs s) t = netM xs (s + t) := by
  conv => lhs; unfold netM
  conv => rhs; unfold netM
  rw [show (tab (netAt xs s) xs.length) = netM xs s from rfl, netM_length]
  refine tab_congr (fun q hq => ?_)
  obtain ⟨i1, i2⟩ := leftTo_steps hs ht h q (by omega)
  have := h q
  have := leftTo_bd hs h q
  have e : (netM xs s).getD q 0 = netAt xs s q := by rw [netM, tab_getD _ (by omega)]
  unfold netAt at *
  rw [e, i1]; omega

/-- what is there behind k days -/
def stockTo (ms ws : List Int) (s : Int) : Nat → Int
  | 0 => s
  | k + 1 => stockTo ms ws s k + ms.getD k 0 - ws.getD k 0
theorem stockTo_closed (ms ws : List Int) (s : Int) (k : Nat) : stockTo ms ws s k = s + sumN ms k - sumN ws k := by
  induction k with
  | zero => simp [stockTo, sumN]
  | succ k ih => rw [stockTo, sumN, sumN, ih]; omega
def stocksOk (ms ws : List Int) (s : Int) (n : Nat) : Bool := (List.range n).all (fun q => decide (0 ≤ stockTo ms ws s (q + 1)))
theorem stocksOk_succ (ms ws : List Int) (s : Int) (n : Nat) : stocksOk ms ws s (n + 1) = (stocksOk ms ws s n && decide (0 ≤ stockTo ms ws s (n + 1))) := by simp [stocksOk, List.range_succ]
theorem stocksOk_iff (ms ws : List Int) (s : Int) (n : Nat) : stocksOk ms ws s n = true ↔ ∀ q, q < n → 0 ≤ stockTo ms ws s (q + 1) := by simp [stocksOk]
theorem stocksOk_not {ms ws : List Int} {s : Int} {n q : Nat} (hq : q < n) (h : ¬ 0 ≤ stockTo ms ws s (q + 1)) : stocksOk ms ws s n = false := by
  cases e : stocksOk ms ws s n
  · rfl
  · exact absurd ((stocksOk_iff ms ws s n).1 e q hq) h
def stocksIn (s : Int) (ms ws : List Int) : Bool := inB 0 20 s && validMadeM ms && validDaysM ws && decide (ms.length = ws.length)
def stocksFine (s : Int) (ms ws : List Int) : Bool := stocksIn s ms ws && stocksOk ms ws s ws.length
def stocksM (s : Int) (ms ws : List Int) : List Int := if stocksFine s ms ws then tab (fun q => stockTo ms ws s (q + 1)) ws.length else []
theorem stockTo_bd {ms ws : List Int} {s : Int} (h0 : 0 ≤ s) (h1 : s ≤ 20) (hm : validMadeM ms = true) (hw : validDaysM ws = true) (k : Nat) : -(20 * (k : Int)) ≤ stockTo ms ws s k ∧ stockTo ms ws s k ≤ 20 + 160 * (k : Int) := by
  rw [stockTo_closed]
  have a := sumN_bd (validMade_at hm) k
  have b := sumN_bd (validDays_at hw) k
  omega

/-- the day on which what is wanted on day i is made, or -1 -/
def stepAt (xs : List Int) (days : Int) (i : Nat) (a : Int) : Int :=
  let a1 := if 0 ≤ a ∧ days ≤ (i : Int) - a then -1 else a
  if a1 < 0 ∧ 0 < xs.getD i 0 then (i : Int) else a1
theorem stepAt_free {xs : List Int} {days : Int} {i : Nat} {a : Int} (ha : -1 ≤ a) (hf : a < 0 ∨ days ≤ (i : Int) - a) : stepAt xs days i a = if 0 < xs.getD i 0 then (i : Int) else -1 := by
  simp only [stepAt]
  (repeat' split) <;> omega
theorem stepAt_busy {xs : List Int} {days : Int} {i : Nat} {a : Int} (ha : 0 ≤ a) (hf : (i : Int) - a < days) : stepAt xs days i a = a := by
  simp only [stepAt]
  (repeat' split) <;> omega
theorem stepAt_lo {xs : List Int} {days : Int} {i : Nat} {a : Int} (ha : -1 ≤ a) (hi : a ≤ (i : Int)) : -1 ≤ stepAt xs days i a ∧ stepAt xs days i a ≤ (i : Int) := by
  simp only [stepAt]
  (repeat' split) <;> omega
theorem stepAt_none {xs : List Int} {days : Int} {i : Nat} {a : Int} (h : stepAt xs days i a < 0) : xs.getD i 0 ≤ 0 := by
  simp only [stepAt] at h
  (repeat' split at h) <;> omega
def atTo (xs : List Int) (days : Int) : Nat → Int
  | 0 => -1
  | i + 1 => stepAt xs days i (atTo xs days i)
def outTo (xs : List Int) (days : Int) : Nat → Nat → Int
  | 0, _ => 0
  | k + 1, q => outTo xs days k q + (if atTo xs days (k + 1) = (q : Int) then xs.getD k 0 else 0)
def lotsM (xs : List Int) (days : Int) : List Int := tab (outTo xs days xs.length) xs.length
theorem atTo_bd (xs : List Int) (days : Int) (k : Nat) : -1 ≤ atTo xs days k ∧ atTo xs days k < max (k : Int) 0 := by
  induction k with
  | zero => simp [atTo]
  | succ k ih => have := stepAt_lo (xs := xs) (days := days) (i := k) (a := atTo xs days k) (by omega) (by omega); rw [atTo]; omega
theorem atTo_none {xs : List Int} {days : Int} {k : Nat} (h0 : 0 ≤ xs.getD k 0) (h : atTo xs days (k + 1) < 0) : xs.getD k 0 = 0 := by
  have := stepAt_none h; omega
theorem outTo_bd {xs : List Int} {days B : Int} (h : ∀ k, 0 ≤ xs.getD k 0 ∧ xs.getD k 0 ≤ B) (k q : Nat) : 0 ≤ outTo xs days k q ∧ outTo xs days k q ≤ sumN xs k := by
  induction k with
  | zero => simp [outTo, sumN]
  | succ k ih => have := h k; rw [outTo, sumN]; split <;> omega
theorem outTo_late (xs : List Int) (days : Int) (k q : Nat) (h : k ≤ q) : outTo xs days k q = 0 := by
  induction k with
  | zero => rfl
  | succ k ih =>
    have := atTo_bd xs days (k + 1)
    rw [outTo, ih (by omega), if_neg (by omega)]; rfl
theorem lotsM_length (xs : List Int) (days : Int) : (lotsM xs days).length = xs.length := tab_length _ _
/-- no lot goes on on day k -/
def freeAt (xs : List Int) (days : Int) (k : Nat) : Prop := atTo xs days k < 0 ∨ days ≤ (k : Int) - atTo xs days k
theorem free_none {xs : List Int} {days : Int} {k : Nat} (hf : freeAt xs days k) (hx : xs.getD k 0 = 0) : freeAt xs days (k + 1) ∧ ∀ q, outTo xs days (k + 1) q = outTo xs days k q := by
  have hb := atTo_bd xs days k
  have e : atTo xs days (k + 1) = -1 := by rw [atTo, stepAt_free hb.1 hf, hx]; rfl
  exact ⟨Or.inl (by omega), fun q => by rw [outTo, hx]; simp⟩
theorem free_lot {xs : List Int} {days : Int} {k : Nat} (hf : freeAt xs days k) (hx : 0 < xs.getD k 0) : ∀ (j : Nat), 1 ≤ j → (j : Int) ≤ days →
    atTo xs days (k + j) = (k : Int) ∧ ∀ q, outTo xs days (k + j) q = outTo xs days k q + (if q = k then sumN xs (k + j) - sumN xs k else 0) := by
  intro j
  induction j with
  | zero => intro h; omega
  | succ j ih =>
    intro _ hj
    have hb := atTo_bd xs days k
    have ea : atTo xs days (k + (j + 1)) = (k : Int) := by
      by_cases h0 : j = 0
      · subst h0
        rw [show k + (0 + 1) = k + 1 by omega, atTo, stepAt_free hb.1 hf, if_pos hx]
      · obtain ⟨i1, _⟩ := ih (by omega) (by omega)
        rw [show k + (j + 1) = (k + j) + 1 by omega, atTo, i1, stepAt_busy (by omega) (by omega)]
    refine ⟨ea, fun q => ?_⟩
    have i2 : outTo xs days (k + j) q = outTo xs days k q + (if q = k then sumN xs (k + j) - sumN xs k else 0) := by
      by_cases h0 : j = 0
      · subst h0; simp
      · exact (ih (by omega) (by omega)).2 q
    rw [show k + (j + 1) = (k + j) + 1 by omega] at ea ⊢
    rw [outTo, ea, i2, sumN]
    by_cases e : q = k
    · subst e; simp; omega
    · rw [if_neg e, if_neg e, if_neg (by omega)]; omega
theorem free_end {xs : List Int} {days : Int} {k : Nat} (hf : freeAt xs days k) (hx : 0 < xs.getD k 0) (hd : 1 ≤ days) : freeAt xs days (k + days.toNat) := by
  right
  obtain ⟨h, _⟩ := free_lot hf hx days.toNat (by omega) (by omega)
  rw [h]; omega
/-- what is made on the first j days is what is wanted on them, or more -/
theorem sumN_lots_le {xs : List Int} {days : Int} (h : ∀ k, 0 ≤ xs.getD k 0) (n j : Nat) (hj : j ≤ n) : ∀ k, k ≤ n →
    sumN (tab (outTo xs days k) n) j = (if k ≤ j then sumN xs k else sumN (tab (outTo xs days k) n) j) ∧ (j ≤ k → sumN xs j ≤ sumN (tab (outTo xs days k) n) j) := by
  have step : ∀ k, ∀ j, j ≤ n → sumN (tab (outTo xs days (k + 1)) n) j = sumN (tab (outTo xs days k) n) j + (if 0 ≤ atTo xs days (k + 1) ∧ atTo xs days (k + 1) < (j : Int) then xs.getD k 0 else 0) := by
    intro k j
    induction j with
    | zero => intro _; simp [sumN]; omega
    | succ j ih =>
      intro hj
      rw [sumN, sumN, ih (by omega), tab_getD _ (by omega), tab_getD _ (by omega), outTo]
      have := atTo_bd xs days (k + 1)
      by_cases e : atTo xs days (k + 1) = (j : Int)
      · rw [if_pos e, if_neg (by omega), if_pos (by omega)]; omega
      · rw [if_neg e]
        by_cases e2 : 0 ≤ atTo xs days (k + 1) ∧ atTo xs days (k + 1) < (j : Int)
        · rw [if_pos e2, if_pos (by omega)]; omega
        · rw [if_neg e2, if_neg (by omega)]; omega
  intro k
  induction k with
  | zero =>
    intro _
    have z : ∀ j, j ≤ n → sumN (tab (outTo xs days 0) n) j = 0 := by
      intro j
      induction j with
      | zero => intro _; rfl
      | succ j ih => intro hj; rw [sumN, ih (by omega), tab_getD _ (by omega)]; rfl
    refine ⟨by rw [if_pos (by omega), z j hj]; rfl, fun h0 => ?_⟩
    obtain rfl : j = 0 := by omega
    simp [sumN]
  | succ k ih =>
    intro hk
    obtain ⟨i1, i2⟩ := ih (by omega)
    have hs := step k j hj
    have hb := atTo_bd xs days (k + 1)
    have hz := atTo_none (days := days) (h k)
    have hk0 := h k
    by_cases hkj : k + 1 ≤ j
    · rw [if_pos (by omega)] at i1
      have e : sumN (tab (outTo xs days (k + 1)) n) j = sumN xs (k + 1) := by
        rw [hs, i1, sumN]
        by_cases h0 : 0 ≤ atTo xs days (k + 1)
        · rw [if_pos ⟨h0, by omega⟩]
        · rw [if_neg (by omega), hz (by omega)]
      refine ⟨by rw [if_pos hkj]; exact e, fun h' => ?_⟩
      obtain rfl : j = k + 1 := by omega
      omega
    · refine ⟨by rw [if_neg hkj], fun h' => ?_⟩
      have := i2 (by omega)
      rw [hs]; split <;> omega
theorem lots_before {xs : List Int} {days : Int} (h : ∀ k, 0 ≤ xs.getD k 0) (j : Nat) (hj : j ≤ xs.length) : sumN xs j ≤ sumN (lotsM xs days) j :=
  (sumN_lots_le h xs.length j hj xs.length (Nat.le_refl _)).2 hj
theorem lots_total {xs : List Int} {days : Int} (h : ∀ k, 0 ≤ xs.getD k 0) : sumN (lotsM xs days) xs.length = sumN xs xs.length := by
  have := (sumN_lots_le (days := days) h xs.length xs.length (Nat.le_refl _) xs.length (Nat.le_refl _)).1
  rwa [if_pos (Nat.le_refl _)] at this
theorem lots_one {xs : List Int} (h : ∀ k, 0 ≤ xs.getD k 0) : lotsM xs 1 = xs := by
  have key : ∀ k q, outTo xs 1 k q = if q < k then xs.getD q 0 else 0 := by
    intro k q
    induction k with
    | zero => simp [outTo]
    | succ k ih =>
      have hb := atTo_bd xs 1 k
      have h0 := h k
      have e : atTo xs 1 (k + 1) = if 0 < xs.getD k 0 then (k : Int) else -1 := by rw [atTo, stepAt_free hb.1 (by omega)]
      rw [outTo, ih, e]
      by_cases h3 : q = k
      · subst h3; (repeat' split) <;> omega
      · (repeat' split) <;> omega
  have e : lotsM xs 1 = tab (fun q => xs.getD q 0) xs.length := tab_congr (fun q hq => by rw [key, if_pos hq])
  rw [e, tab_self]

/-- what is begun, when k days are told -/
def begTo (ms : List Int) (wait : Nat) : Nat → Nat → Int
  | 0, _ => 0
  | k + 1, q => begTo ms wait k q + (if k - wait = q then ms.getD k 0 else 0)
def begAt (ms : List Int) (wait q : Nat) : Int := if q = 0 then sumN ms (min (wait + 1) ms.length) else ms.getD (q + wait) 0
def begM (ms : List Int) (wait : Nat) : List Int := tab (begAt ms wait) ms.length
theorem begM_length (ms : List Int) (wait : Nat) : (begM ms wait).length = ms.length := tab_length _ _
theorem begTo_closed (ms : List Int) (wait k q : Nat) : begTo ms wait k q = if q = 0 then sumN ms (min (wait + 1) k) else if q + wait < k then ms.getD (q + wait) 0 else 0 := by
  induction k with
  | zero => simp [begTo, sumN]
  | succ k ih =>
    rw [begTo, ih]
    by_cases h0 : q = 0
    · subst h0
      rw [if_pos rfl, if_pos rfl]
      by_cases h1 : k ≤ wait
      · rw [if_pos (by omega), show min (wait + 1) k = k by omega, show min (wait + 1) (k + 1) = k + 1 by omega, sumN]
      · rw [if_neg (by omega), show min (wait + 1) k = wait + 1 by omega, show min (wait + 1) (k + 1) = wait + 1 by omega]; omega
    · rw [if_neg h0, if_neg h0]
      by_cases h1 : q + wait < k
      · rw [if_pos h1, if_neg (by omega), if_pos (by omega)]; omega
      · rw [if_neg h1]
        by_cases h2 : q + wait = k
        · rw [if_pos (by omega), if_pos (by omega), h2]; omega
        · rw [if_neg (by omega), if_neg (by omega)]; omega
theorem begTo_all {ms : List Int} {wait q : Nat} : begTo ms wait ms.length q = begAt ms wait q := by
  rw [begTo_closed, begAt]
  by_cases h0 : q = 0
  · rw [if_pos h0, if_pos h0]
  · rw [if_neg h0, if_neg h0]
    by_cases h1 : q + wait < ms.length
    · rw [if_pos h1]
    · rw [if_neg h1, getD_past (by omega)]
theorem begTo_bd {ms : List Int} {B : Int} (h : ∀ k, 0 ≤ ms.getD k 0 ∧ ms.getD k 0 ≤ B) (wait k q : Nat) : 0 ≤ begTo ms wait k q ∧ begTo ms wait k q ≤ sumN ms k := by
  induction k with
  | zero => simp [begTo, sumN]
  | succ k ih => have := h k; rw [begTo, sumN]; split <;> omega
/-- what is begun up to day i is what is made up to wait days later -/
theorem sumN_beg (ms : List Int) (wait : Nat) : ∀ i, i < ms.length → sumN (begM ms wait) (i + 1) = sumN ms (min (i + wait + 1) ms.length) := by
  intro i
  induction i with
  | zero =>
    intro h
    rw [sumN, sumN, begM, tab_getD _ h, begAt, if_pos rfl, show 0 + wait + 1 = wait + 1 by omega]; omega
  | succ i ih =>
    intro h
    rw [sumN, ih (by omega), begM, tab_getD _ h, begAt, if_neg (by omega)]
    by_cases h1 : i + 1 + wait < ms.length
    · rw [show min (i + wait + 1) ms.length = i + 1 + wait by omega, show min (i + 1 + wait + 1) ms.length = (i + 1 + wait) + 1 by omega, sumN]
    · rw [show min (i + wait + 1) ms.length = ms.length by omega, show min (i + 1 + wait + 1) ms.length = ms.length by omega, getD_past (by omega)]; omega
theorem begM_steps (ms : List Int) (wait more : Nat) : begM (begM ms wait) more = begM ms (wait + more) := by
  conv => lhs; unfold begM
  conv => rhs; unfold begM
  rw [show tab (begAt ms wait) ms.length = begM ms wait from rfl, begM_length]
  refine tab_congr (fun q hq => ?_)
  unfold begAt
  rw [begM_length]
  by_cases h0 : q = 0
  · rw [if_pos h0, if_pos h0]
    have hp : 0 < ms.length := by omega
    rw [show min (more + 1) ms.length = (min (more + 1) ms.length - 1) + 1 by omega, sumN_beg ms wait _ (by omega)]
    congr 1
    omega
  · rw [if_neg h0, if_neg h0]
    by_cases h1 : q + more < ms.length
    · rw [begM, tab_getD _ h1, begAt, if_neg (by omega)]; congr 1; omega
    · rw [getD_past (by rw [begM_length]; omega), getD_past (by omega)]
end Go.Proofs.Ytkebdelfklmigad
namespace Go.Proofs.Ytkebdelfklmigad
open Go.RowKit Go.WideShapes

theorem Try.infoIntD : (Try.prog.info? 3).map (fun i => (i.zero, i.size, i.bytes)) = some (some (.int .i64 0), 1, 8) := by kernel_rfl

/-- the days that are drawn -/
def DaysOk (xs : List Int) : Prop := xs.length ≤ 9 ∧ (∀ k, -1 ≤ xs.getD k 0) ∧ (∀ k, xs.getD k 0 ≤ if k = 0 then 21 else 12)
theorem daysOk_of {xs : List Int} (hl : xs.length ≤ 9) (h : ∀ x ∈ xs, 0 ≤ x ∧ x ≤ 12) : DaysOk xs := by
  have key : ∀ k, 0 ≤ xs.getD k 0 ∧ xs.getD k 0 ≤ 12 := by
    intro k
    rcases Nat.lt_or_ge k xs.length with h' | h'
    · exact h _ (List.mem_of_getElem? (get_getD h'))
    · rw [getD_past h']; omega
  exact ⟨hl, fun k => by have := key k; omega, fun k => by have := key k; split <;> omega⟩
theorem daysOk_set {xs : List Int} {x : Int} (hl : xs.length ≤ 9) (h : ∀ x ∈ xs, 0 ≤ x ∧ x ≤ 12) (hx : x = -1 ∨ x = 21) : DaysOk (xs.set 0 x) := by
  have key : ∀ k, 0 ≤ xs.getD k 0 ∧ xs.getD k 0 ≤ 12 := by
    intro k
    rcases Nat.lt_or_ge k xs.length with h' | h'
    · exact h _ (List.mem_of_getElem? (get_getD h'))
    · rw [getD_past h']; omega
  have e : ∀ k, (xs.set 0 x).getD k 0 = if k = 0 ∧ 0 < xs.length then x else xs.getD k 0 := by
    intro k
    rw [List.getD_eq_getElem?_getD, List.getD_eq_getElem?_getD, List.getElem?_set]
    by_cases hk : 0 = k
    · subst hk
      by_cases hp : 0 < xs.length
      · rw [if_pos rfl, if_pos hp, if_pos ⟨rfl, hp⟩]; rfl
      · rw [if_pos rfl, if_neg hp, if_neg (by omega), List.getElem?_eq_none (by omega)]
    · rw [if_neg hk, if_neg (by omega)]
  refine ⟨by rw [List.length_set]; exact hl, fun k => ?_, fun k => ?_⟩
  · rw [e]; have := key k; split <;> omega
  · rw [e]; have := key k; split <;> split <;> omega

def DaysPost (w : World) (R p : Nat) (e : Ending) (w' : World) : Prop := ∃ (a : Option Addr) (len cap : Nat) (xs : List Int) (p' : Nat), e = .returned (.slice a len cap) ∧
  w'.ownsRow w.heap.size 3 1 (.slice a len cap) len (xs.map (.int .i64)) ∧ len ≤ cap ∧ len ≤ 9 ∧ DaysOk xs ∧ Rd w' R p' ∧ p' ≤ p + 100 ∧ w.grownBy w' (some R)
theorem DaysPost.mk {w w' : World} {R p p' : Nat} {a : Option Addr} {len cap : Nat} {xs : List Int} (h : w'.ownsRow w.heap.size 3 1 (.slice a len cap) len (xs.map (.int .i64))) (hl : len ≤ 9) (hd : DaysOk xs) (hr : Rd w' R p') (hp : p' ≤ p + 100) (hg : w.grownBy w' (some R)) :
    DaysPost w R p (.returned (.slice a len cap)) w' := by
  obtain ⟨a', cap', e, hc⟩ := own_slice h
  simp only [Value.slice.injEq] at e
  obtain ⟨rfl, _, rfl⟩ := e
  exact ⟨_, _, _, xs, p', rfl, h, hc, hl, hd, hr, hp, hg⟩
theorem ro {R : Nat} : ∀ k, some R = some k → k = R ∨ False := by intro k e; cases e; exact Or.inl rfl

theorem most_n {n : Int} (h : n ∈ [6, 12, 3]) : 3 ≤ n ∧ n ≤ 12 := by simp at h; omega
theorem days_n {n : Int} (h : n ∈ [5, 6, 4, 8, 3, 2, 1, 0, 9]) : ∃ m : Nat, n = (m : Int) ∧ m ≤ 9 := by simp at h; exact ⟨n.toNat, by omega, by omega⟩
theorem grown_r {a b c : World} {R : Nat} (h : a.grownBy b (some R)) (g : b.grownBy c (some R)) : a.grownBy c (some R) := grown_trans h g (fun k e => by cases e; exact Or.inl rfl)

end Go.Proofs.Ytkebdelfklmigad
namespace Go.Proofs.Ytkebdelfklmigad
open Go.RowKit Go.WideShapes

/-- a list that is drawn: numbers in lo..hi -/
def ListPost (w : World) (R p n : Nat) (lo hi : Int) (e : Ending) (w' : World) : Prop := ∃ (a : Option Addr) (cap : Nat) (xs : List Int), e = .returned (.slice a n cap) ∧
  w'.ownsRow w.heap.size 3 1 (.slice a n cap) n (xs.map (.int .i64)) ∧ n ≤ cap ∧ xs.length = n ∧ (∀ x ∈ xs, lo ≤ x ∧ x ≤ hi) ∧ Rd w' R (p + n) ∧ w.grownBy w' (some R)

set_option maxRecDepth 100000 in
set_option maxHeartbeats 2000000 in
theorem listOf_any (R p n : Nat) (lo hi : Int) (w : World) (h : Rd w R p) (hp : p ≤ 1000000) (hn : n ≤ 1000) (hlo : -1000 ≤ lo) (hlh : lo ≤ hi) (hhi : hi ≤ 1000) :
    Calls Try.prog 53 #[.pointer (some ⟨R, 0, none⟩), .int .i64 n, .int .i64 lo, .int .i64 hi] w (ListPost w R p n lo hi) := by
  have hR := h.lt
  obtain ⟨i0, hi0, hz0, hz1, hz2⟩ := info_parts Try.infoIntD
  have ho0 := World.ownsRow_made (base := w.heap.size) (size := 1) (e := 3) w #[] 0 (Nat.le_refl _) (Nat.zero_le _) rfl
  go_enter Try.func53, Try.ntmps53
  go_wp2_with fail
  go_loopw [9] (fun v wr => ∃ (k cap : Nat) (a : Option Addr) (xs : List Int), v = .slice a k cap ∧ wr.ownsRow w.heap.size 3 1 v k (xs.map (.int .i64)) ∧ k ≤ n ∧ (∀ x ∈ xs, lo ≤ x ∧ x ≤ hi) ∧ Rd wr R (p + k) ∧ w.grownBy wr (some R)) (fun v _ => n - capOf v)
  case atStart => exact ⟨0, _, _, [], rfl, ho0, Nat.zero_le _, (fun x hx => by cases hx), h.alloc _, World.grownBy_alloc _ _ _⟩
  case round =>
    obtain ⟨k, cap, a, xs, rfl, hown, hkm, hall, hr, hg⟩ := hrel
    obtain ⟨wo, rfl⟩ : ∃ wo : World, wo = wr := ⟨_, rfl⟩
    have hsz := hg.size
    have HOWN := Lib.hid hown
    have HALL := Lib.hid hall
    clear hown hall
    by_cases hlt : k < n
    · go_wp2_with fail
      refine (pick_any R (p + k) (hi - lo + 1) wo hr (by omega)).mono ?_
      rintro e w5 ⟨q1, rfl, hq1, hr5, hgw⟩
      have HO5 := Lib.hid (HOWN.out.kept hgw (ne_low HOWN.out hR))
      have hg6 := grown_r hg hgw
      have hxb : lo ≤ lo + (q1 : Int) ∧ lo + (q1 : Int) ≤ hi := by omega
      go_wp2_with (at_builtin; refine wpList_append_own _ rfl _ _ 23 rfl w.heap.size 3 i0 (.int .i64 0) 1 8 Try.underlying23 hi0 hz0 hz1 hz2 rfl (by decide) _ _ _ rfl (HO5.out.alloc _) ⟨w5.heap.size, 0, none⟩ 1 1 [.int .i64 (lo + (q1 : Int))] rfl rfl ?c1 ?c2 ?c3 ?c4 ?c5 ?_)
      case c1 => exact one_new _ _ _
      case c2 => exact one_cell_int _ _
      case c3 => unfold maxLen; omega
      case c4 => omega
      case c5 => have := hgw.size; simp; omega
      intro v' w6 hown hgrow _
      obtain ⟨a6, c6, rfl, _⟩ := own_slice hown
      have hgr : w5.grownBy w6 (Value.slice a k cap).ownBlock := grown_comp (World.grownBy_alloc w5 _ _) hgrow
      have HO6 := Lib.hid hown
      have HG6 := Lib.hid hgr
      clear hown hgr hgrow
      go_wp2
      go_roundw
      case rel => exact ⟨k + 1, c6, a6, xs ++ [lo + (q1 : Int)], rfl, by rw [List.map_append]; exact HO6.out, by omega, (fun y hy => by
        rcases List.mem_append.1 hy with h' | h'
        · exact HALL.out y h'
        · simp only [List.mem_singleton] at h'; rw [h']; exact hxb), hr5.grown HG6.out (by intro b hb; have := (HO5.out.lt b hb).1; omega), grown_trans hg6 HG6.out (by intro b hb; have := (HO5.out.lt b hb).1; omega)⟩
      case measure => simp [capOf]; omega
    · obtain rfl : k = n := by omega
      go_wp2
      go_ret
      obtain ⟨a', c', e, hc⟩ := own_slice HOWN.out
      simp only [Value.slice.injEq] at e
      obtain ⟨rfl, _, rfl⟩ := e
      have hl := HOWN.out.1
      exact ⟨_, _, xs, rfl, HOWN.out, hc, by simpa using hl, HALL.out, hr, hg⟩
end Go.Proofs.Ytkebdelfklmigad
namespace Go.Proofs.Ytkebdelfklmigad
open Go.RowKit Go.WideShapes

theorem Try.infoInt : (Try.prog.info? 3).map (fun i => (i.zero, i.size, i.bytes)) = some (some (.int .i64 0), 1, 8) := by kernel_rfl
theorem Try.infoInts : (Try.prog.info? 23).map (fun i => (i.zero, i.size, i.bytes)) = some (some (.slice none 0 0), 1, 24) := by kernel_rfl

theorem bill_n {n : Int} (h : n ∈ [4, 5, 3, 6, 2, 1, 0]) : ∃ m : Nat, n = (m : Int) ∧ m ≤ 6 := by
  simp at h
  exact ⟨n.toNat, by omega, by omega⟩

def BillPost (w : World) (R p : Nat) (e : Ending) (w' : World) : Prop := ∃ (a : Option Addr) (len cap : Nat) (rows : List (List Int)) (p' : Nat), e = .returned (.slice a len cap) ∧
      RowsAt w' (fun b => w.heap.size ≤ b ∧ b < w'.heap.size) a len rows ∧ len ≤ cap ∧ len ≤ 6 ∧ Rd w' R p' ∧ p' ≤ p + 1000 ∧ w.grownBy w' (some R)
theorem billPost_mk {w w' : World} {R p p' len cap M : Nat} {a : Option Addr} (h : OwnRows w' w.heap.size M (.slice a len cap) len) (hl : len ≤ cap) (h6 : len ≤ 6) (hr : Rd w' R p') (hp : p' ≤ p + 1000)
    (hg : w.grownBy w' (some R)) : BillPost w R p (.returned (.slice a len cap)) w' := by
  obtain ⟨a', cap', rows, hv, _, hrows⟩ := h.rows (by omega)
  simp only [Value.slice.injEq] at hv
  obtain ⟨rfl, _, rfl⟩ := hv
  exact ⟨_, _, _, rows, p', rfl, hrows, hl, h6, hr, hp, hg⟩

end Go.Proofs.Ytkebdelfklmigad
namespace Go.Proofs.Ytkebdelfklmigad
open Go.RowKit Go.WideShapes

set_option maxRecDepth 100000 in
/-- append of a list to a list of the call's own, at a step of a region that draws; the source may be empty -/
theorem stepApp {ops : Array Oper} {o : Oper} {a : Act} {K : Act → World → Prop} {Q : Exit → Act → World → Prop} {E : Prop} {wo : World} (hgd : o.guard = none) (s x : Operand)
    (ho : o.op = .call { callee := .builtin .append, args := #[s, x], argTypes := #[23, 23] })
    (base k cp gx : Nat) (xs : List Int) (S : Nat → Prop) (b off m c : Nat) (ys : List Int) (hs : a.eval s = .slice (some ⟨gx, 0, none⟩) k cp)
    (hown : wo.ownsRow base 3 1 (.slice (some ⟨gx, 0, none⟩) k cp) k (xs.map (.int .i64))) (hx : a.eval x = .slice (some ⟨b, off, none⟩) m c) (hy : IntsAt wo S (some ⟨b, off, none⟩) m ys)
    (hbase : base ≤ wo.heap.size) (km : Nat) (hkm : k + m = km) (zs : List Int) (hzs : xs ++ ys = zs) (hk : km ≤ 1048576)
    (h : ∀ (g6 c6 : Nat) (w' : World), w'.ownsRow base 3 1 (.slice (some ⟨g6, 0, none⟩) km c6) km (zs.map (.int .i64)) → km ≤ c6 → wo.grownBy w' (some gx) → base ≤ g6 → g6 < w'.heap.size →
      K (a.put o.dst (.slice (some ⟨g6, 0, none⟩) km c6)) w') :
    if Region.wanted o (yielded ops a.tmps) = true then Oper.wp Try.prog o a wo K Q else E := by
  subst hkm
  subst hzs
  have hw : Region.wanted o (yielded ops a.tmps) = true := by simp [Region.wanted, hgd]
  rw [if_pos hw]
  obtain ⟨i0, hi, hz0, hz1, hz2⟩ := info_parts Try.infoIntO
  obtain ⟨v', w', hr, h2, h3, h4, _⟩ := run_append_own_at (P := Try.prog) wo base 23 o.type 3 i0 (.int .i64 0) 1 8 Try.underlying23 hi hz0 hz1 hz2 rfl (by decide) _ k _ hown ⟨b, off, none⟩ m c (ys.map (.int .i64)) (by simp [hy.lenEq]) (by
    intro j u hj
    rw [List.getElem?_map] at hj
    cases hq : ys[j]? with
    | none => rw [hq] at hj; cases hj
    | some z =>
      rw [hq] at hj
      simp only [Option.map_some, Option.some.injEq] at hj
      have hlt : j < ys.length := (List.getElem?_eq_some_iff.1 hq).1
      obtain ⟨b', off', e, _, hc⟩ := hy.cells (by have := hy.lenEq; omega)
      cases e
      rw [add_plain, hc _ _ hq, ← hj]) (by
    intro u hu
    obtain ⟨x, _, rfl⟩ := List.mem_map.1 hu
    rfl) (by unfold maxLen; omega) (by omega) hbase
  unfold Oper.wp execOp
  simp only [ho, resolve, invoke, builtin, Sem.run_bind, Sem.run_pure, Result.andThen_ok, List.map_toArray, List.map_cons, List.map_nil, hs, hx, hr]
  obtain ⟨a6, c6, rfl, hc⟩ := own_slice h2
  rcases h2.2 with ⟨e1, e2⟩ | ⟨g, cap, cur, hv, hb, hg, _⟩
  · exact absurd (h4.1 (by injection e1 with e3 _ e4; subst e3; subst e4; rw [e2])).1 (by simp)
  · injection hv with e3 _ e4
    subst e3
    rw [← List.map_append] at h2
    refine h g c6 w' h2 hc h3 hb ?_
    rcases Nat.lt_or_ge g w'.heap.size with hlt | hge
    · exact hlt
    · rw [Array.getElem?_eq_none hge] at hg; cases hg

theorem IntsAt.takeI {w : World} {S : Nat → Prop} {b off len : Nat} {xs : List Int} (h : IntsAt w S (some ⟨b, off, none⟩) len xs) (k : Nat) (hk : k ≤ len) : IntsAt w S (some ⟨b, off, none⟩) k (xs.take k) := by
  have hl := h.lenEq
  have hs := h.small
  refine ⟨by simp; omega, by omega, fun h0 => ?_⟩
  obtain ⟨b', off', e, hS, hc⟩ := h.cells (by omega)
  cases e
  refine ⟨_, _, rfl, hS, fun i x hx => hc i x ?_⟩
  rw [List.getElem?_take] at hx
  split at hx
  · exact hx
  · cases hx
theorem IntsAt.dropI {w : World} {S : Nat → Prop} {b len : Nat} {xs : List Int} (h : IntsAt w S (some ⟨b, 0, none⟩) len xs) (k : Nat) (hk : k ≤ len) : IntsAt w S (some ⟨b, k, none⟩) (len - k) (xs.drop k) := by
  have hl := h.lenEq
  have hs := h.small
  refine ⟨by simp; omega, by omega, fun h0 => ?_⟩
  obtain ⟨b', off', e, hS, hc⟩ := h.cells (by omega)
  cases e
  refine ⟨_, _, rfl, hS, fun i x hx => ?_⟩
  rw [List.getElem?_drop] at hx
  have := hc _ x hx
  rwa [Nat.zero_add] at this
theorem IntsAt.grownEq {W W' w' : World} {b r len : Nat} {xs : List Int} (h : IntsAt W (fun k => k = b) (some ⟨b, 0, none⟩) len xs) (hg : W'.grownBy w' (some r)) (he : W'.heap = W.heap) (hb : b < W'.heap.size) (hr : b ≠ r) :
    IntsAt w' (fun k => k = b) (some ⟨b, 0, none⟩) len xs :=
  h.to fun k hk => ⟨hk, by subst hk; rw [hg.block _ hb (by simp; omega), he]⟩
theorem below_grown {n : Nat} {w w' : World} (h : Below n w w') (hn : n = w.heap.size) (r : Option Nat) : w.grownBy w' r := by
  subst hn
  exact ⟨h.os, h.tape, h.output, h.size, fun k hk _ => h.block k hk⟩
def OrderPost (w : World) (R p n : Nat) (e : Ending) (w' : World) : Prop := ∃ (g cap : Nat) (xs : List Int), e = .returned (.slice (some ⟨g, 0, none⟩) n cap) ∧
  w'.ownsRow w.heap.size 3 1 (.slice (some ⟨g, 0, none⟩) n cap) n (xs.map (.int .i64)) ∧ n ≤ cap ∧ (∀ x ∈ xs, -1 ≤ x ∧ x ≤ n) ∧ w.grownBy w' (some R)
end Go.Proofs.Ytkebdelfklmigad
namespace Go.Proofs.Ytkebdelfklmigad
open Go.RowKit Go.WideShapes

def PairsPost (w : World) (R p : Nat) (e : Ending) (w' : World) : Prop := ∃ (a : Option Addr) (len cap : Nat) (rows : List (List Int)) (p' : Nat), e = .returned (.slice a len cap) ∧
      RowsAt w' (fun b => w.heap.size ≤ b ∧ b < w'.heap.size) a len rows ∧ len ≤ cap ∧ len ≤ 8 ∧ Rd w' R p' ∧ p' ≤ p + 1000 ∧ w.grownBy w' (some R)
theorem pairsPost_mk {w w' : World} {R p p' len cap M : Nat} {a : Option Addr} (h : OwnRows w' w.heap.size M (.slice a len cap) len) (hl : len ≤ cap) (h6 : len ≤ 8) (hr : Rd w' R p') (hp : p' ≤ p + 1000)
    (hg : w.grownBy w' (some R)) : PairsPost w R p (.returned (.slice a len cap)) w' := by
  obtain ⟨a', cap', rows, hv, _, hrows⟩ := h.rows (by omega)
  simp only [Value.slice.injEq] at hv
  obtain ⟨rfl, _, rfl⟩ := hv
  exact ⟨_, _, _, rows, p', rfl, hrows, hl, h6, hr, hp, hg⟩
theorem pair_hi {n : Int} (h : n ∈ [9, 4]) : 4 ≤ n ∧ n ≤ 9 := by simp at h; omega
theorem pair_x {n : Int} (h : n ∈ [10, -1]) : -1 ≤ n ∧ n ≤ 10 := by simp at h; omega
end Go.Proofs.Ytkebdelfklmigad
namespace Go.Proofs.Ytkebdelfklmigad
open Go.RowKit Go.WideShapes

theorem own_lit3 (w : World) {B : Nat} (hB : B ≤ w.heap.size) (x y z : Int) : (w.alloc (.cells #[.int .i64 x, .int .i64 y, .int .i64 z] 3)).ownsRow B 3 1 (.slice (some ⟨w.heap.size, 0, none⟩) 3 3) 3 ([x, y, z].map (.int .i64)) :=
  ⟨rfl, .inr ⟨w.heap.size, 3, _, rfl, hB, heap_alloc_new w _, Nat.le_refl _, by unfold maxLen; omega, rfl, rfl⟩⟩
theorem job_t {n : Int} (h : n ∈ [5, 9]) : 5 ≤ n ∧ n ≤ 9 := by simp at h; omega
theorem job_d {n : Int} (h : n ∈ [12, 25, 6]) : 6 ≤ n ∧ n ≤ 25 := by simp at h; omega
end Go.Proofs.Ytkebdelfklmigad
