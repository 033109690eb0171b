import Derived.Test.YthmifadnfaajbadM0
import Derived.Test.YthmifadnfaajbadM1
import Derived.Test.YthmifadnfaajbadM3
import Derived.Test.YthmifadnfaajbadM2
import Derived.Test.YthmifadnfaajbadRows
import Derived.WalkKit
import Derived.LoopTactic
import Derived.Outline
import Derived.WalkSpells
import Derived.WalkLawsBesides
import Derived.Deep.QuietTactic
import Derived.BigQuiet
namespace Go.Proofs.Ythmifadnfaajbad
open Go.RowKit

def validDaysM (xs : List Int) : Bool := decide (xs.length ≤ 8) && allIn 0 20 xs
def validMadeM (xs : List Int) : Bool := decide (xs.length ≤ 8) && allIn 0 160 xs
theorem allIn_get {lo hi : Int} {xs : List Int} (h : allIn lo hi xs = true) {k : Nat} {x : Int} (hx : xs[k]? = some x) : lo ≤ x ∧ x ≤ hi := by
  have := List.all_eq_true.1 h x (List.mem_of_getElem? hx)
  simpa [inB] using this
theorem allIn_getD {lo hi : Int} {xs : List Int} (h : allIn lo hi xs = true) (h0 : lo ≤ 0) (h1 : 0 ≤ hi) (k : Nat) : lo ≤ xs.getD k 0 ∧ xs.getD k 0 ≤ hi := by
  rcases Nat.lt_or_ge k xs.length with h' | h'
  · exact allIn_get h (get_getD h')
  · rw [getD_past h']; omega
theorem allIn_of {lo hi : Int} {xs : List Int} (h : ∀ k, k < xs.length → lo ≤ xs.getD k 0 ∧ xs.getD k 0 ≤ hi) : allIn lo hi xs = true := by
  unfold allIn
  rw [List.all_eq_true]
  intro x hx
  obtain ⟨k, hk, rfl⟩ := List.mem_iff_getElem.1 hx
  have := h k hk
  rw [List.getD_eq_getElem?_getD, List.getElem?_eq_getElem hk] at this
  simpa [inB] using this
theorem validDays_len {xs : List Int} (h : validDaysM xs = true) : xs.length ≤ 8 := by simp [validDaysM] at h; exact h.1
theorem validDays_all {xs : List Int} (h : validDaysM xs = true) : allIn 0 20 xs = true := by simp [validDaysM] at h; exact h.2
theorem validDays_at {xs : List Int} (h : validDaysM xs = true) (k : Nat) : 0 ≤ xs.getD k 0 ∧ xs.getD k 0 ≤ 20 := allIn_getD (validDays_all h) (by omega) (by omega) k
theorem validMade_len {xs : List Int} (h : validMadeM xs = true) : xs.length ≤ 8 := by simp [validMadeM] at h; exact h.1
theorem validMade_all {xs : List Int} (h : validMadeM xs = true) : allIn 0 160 xs = true := by simp [validMadeM] at h; exact h.2
theorem validMade_at {xs : List Int} (h : validMadeM xs = true) (k : Nat) : 0 ≤ xs.getD k 0 ∧ xs.getD k 0 ≤ 160 := allIn_getD (validMade_all h) (by omega) (by omega) k
theorem validDays_mk {xs : List Int} (hl : xs.length ≤ 8) (h : ∀ k, k < xs.length → 0 ≤ xs.getD k 0 ∧ xs.getD k 0 ≤ 20) : validDaysM xs = true := by simp [validDaysM, hl, allIn_of h]
theorem validMade_mk {xs : List Int} (hl : xs.length ≤ 8) (h : ∀ k, k < xs.length → 0 ≤ xs.getD k 0 ∧ xs.getD k 0 ≤ 160) : validMadeM xs = true := by simp [validMadeM, hl, allIn_of h]

/-- the sum of the first k -/
def sumN (xs : List Int) : Nat → Int
  | 0 => 0
  | k + 1 => sumN xs k + xs.getD k 0
theorem totalM_take (xs : List Int) (k : Nat) (hk : k ≤ xs.length) : totalM (xs.take k) = sumN xs k := by
  induction k with
  | zero => rfl
  | succ k ih => rw [take_get (get_getD (xs := xs) (k := k) (by omega)), totalM_snoc, ih (by omega), sumN]
theorem totalM_eq (xs : List Int) : totalM xs = sumN xs xs.length := by
  have := totalM_take xs xs.length (Nat.le_refl _)
  rwa [List.take_length] at this
theorem sumN_tab (f : Nat → Int) (n k : Nat) (hk : k ≤ n) : sumN (tab f n) k = sumN (tab f k) k := by
  induction k with
  | zero => rfl
  | succ k ih => 
    have e : ∀ j, j ≤ k → sumN (tab f (k + 1)) j = sumN (tab f n) j := by
      intro j
      induction j with
      | zero => intro _; rfl
      | succ j ihj => intro hj; rw [sumN, sumN, ihj (by omega), tab_getD f (by omega), tab_getD f (by omega)]
    rw [sumN, sumN, e k (Nat.le_refl _), tab_getD f (by omega), tab_getD f (by omega)]
theorem sumN_bd {xs : List Int} {B : Int} (h : ∀ k, 0 ≤ xs.getD k 0 ∧ xs.getD k 0 ≤ B) (k : Nat) : 0 ≤ sumN xs k ∧ sumN xs k ≤ B * (k : Int) := by
  induction k with
  | zero => simp [sumN]
  | succ k ih =>
    have := h k
    have e : B * ((k + 1 : Nat) : Int) = B * (k : Int) + B := by push_cast; rw [Int.mul_add, Int.mul_one]
    rw [sumN, e]; omega
/-- the sum of j numbers from place a on -/
theorem totalM_part (xs : List Int) (a j : Nat) (h : a + j ≤ xs.length) : totalM ((xs.drop a).take j) = sumN xs (a + j) - sumN xs a := by
  induction j with
  | zero => simp [totalM]
  | succ j ih =>
    have hx : (xs.drop a)[j]? = some (xs.getD (a + j) 0) := by rw [List.getElem?_drop]; exact get_getD (by omega)
    rw [take_get hx, totalM_snoc, ih (by omega), show a + (j + 1) = (a + j) + 1 by omega, sumN]; omega

/-- the stock that is left behind k days -/
def leftTo (xs : List Int) (s : Int) : Nat → Int
  | 0 => s
  | k + 1 => leftTo xs s k - min (leftTo xs s k) (xs.getD k 0)
def netAt (xs : List Int) (s : Int) (q : Nat) : Int := xs.getD q 0 - min (leftTo xs s q) (xs.getD q 0)
def netM (xs : List Int) (s : Int) : List Int := tab (netAt xs s) xs.length
theorem leftTo_bd {xs : List Int} {s : Int} (hs : 0 ≤ s) (h : ∀ k, 0 ≤ xs.getD k 0) (k : Nat) : 0 ≤ leftTo xs s k ∧ leftTo xs s k ≤ s := by
  induction k with
  | zero => exact ⟨hs, Int.le_refl _⟩
  | succ k ih => have := h k; rw [leftTo]; omega
theorem netAt_bd {xs : List Int} {s : Int} (hs : 0 ≤ s) (h : ∀ k, 0 ≤ xs.getD k 0) (k : Nat) : 0 ≤ netAt xs s k ∧ netAt xs s k ≤ xs.getD k 0 := by
  have := h k
  have := leftTo_bd hs h k
  unfold netAt; omega
theorem netM_length (xs : List Int) (s : Int) : (netM xs s).length = xs.length := tab_length _ _
theorem netM_valid {xs : List Int} {s : Int} (hv : validDaysM xs = true) (hs : 0 ≤ s) : validDaysM (netM xs s) = true := by
  refine validDays_mk (by rw [netM_length]; exact validDays_len hv) (fun k hk => ?_)
  rw [netM_length] at hk
  have h1 := netAt_bd hs (fun q => (validDays_at hv q).1) k
  have h2 := validDays_at hv k
  rw [netM, tab_getD _ hk]; omega
theorem leftTo_closed {xs : List Int} {s : Int} (hs : 0 ≤ s) (h : ∀ k, 0 ≤ xs.getD k 0) (k : Nat) : leftTo xs s k = max (s - sumN xs k) 0 := by
  induction k with
  | zero => simp [leftTo, sumN]; omega
  | succ k ih => have := h k; rw [leftTo, sumN, ih]; omega
theorem sumN_net {xs : List Int} {s : Int} (k : Nat) (hk : k ≤ xs.length) : sumN (netM xs s) k = sumN xs k - (s - leftTo xs s k) := by
  induction k with
  | zero => simp [leftTo, sumN]
  | succ k ih => rw [sumN, ih (by omega), netM, tab_getD _ (by omega), netAt, sumN, leftTo]; omega
theorem leftTo_steps {xs : List Int} {s t : Int} (hs : 0 ≤ s) (ht : 0 ≤ t) (h : ∀ k, 0 ≤ xs.getD k 0) (k : Nat) (hk : k ≤ xs.length) :
    leftTo xs (s + t) k = leftTo xs s k + leftTo (netM xs s) t k ∧ 0 ≤ leftTo (netM xs s) t k := by
  induction k with
  | zero => simp [leftTo]; omega
  | succ k ih =>
    obtain ⟨i1, i2⟩ := ih (by omega)
    have := h k
    have := leftTo_bd hs h k
    rw [leftTo, leftTo, leftTo, i1]
    have e : (netM xs s).getD k 0 = netAt xs s k := by rw [netM, tab_getD _ (by omega)]
    rw [e, netAt]; omega
theorem netM_steps {xs : List Int} {s t : Int} (hs : 0 ≤ s) (ht : 0 ≤ t) (h : ∀ k, 0 ≤ xs.getD k 0) : netM (netM xs s) t = netM xs (s + t) := by
  conv => lhs; unfold netM
  conv => rhs; unfold netM
  rw [show (tab (netAt xs s) xs.length) = netM xs s from rfl, netM_length]
  refine tab_congr (fun q hq => ?_)
  obtain ⟨i1, i2⟩ := leftTo_steps hs ht h q (by omega)
  have := h q
  have := leftTo_bd hs h q
  have e : (netM xs s).getD q 0 = netAt xs s q := by rw [netM, tab_getD _ (by omega)]
  unfold netAt at *
  rw [e, i1]; omega

/-- what is there behind k days -/
def stockTo (ms ws : List Int) (s : Int) : Nat → Int
  | 0 => s
  | k + 1 => stockTo ms ws s k + ms.getD k 0 - ws.getD k 0
theorem stockTo_closed (ms ws : List Int) (s : Int) (k : Nat) : stockTo ms ws s k = s + sumN ms k - sumN ws k := by
  induction k with
  | zero => simp [stockTo, sumN]
  | succ k ih => rw [stockTo, sumN, sumN, ih]; omega
def stocksOk (ms ws : List Int) (s : Int) (n : Nat) : Bool := (List.range n).all (fun q => decide (0 ≤ stockTo ms ws s (q + 1)))
theorem stocksOk_succ (ms ws : List Int) (s : Int) (n : Nat) : stocksOk ms ws s (n + 1) = (stocksOk ms ws s n && decide (0 ≤ stockTo ms ws s (n + 1))) := by simp [stocksOk, List.range_succ]
theorem stocksOk_iff (ms ws : List Int) (s : Int) (n : Nat) : stocksOk ms ws s n = true ↔ ∀ q, q < n → 0 ≤ stockTo ms ws s (q + 1) := by simp [stocksOk]
theorem stocksOk_not {ms ws : List Int} {s : Int} {n q : Nat} (hq : q < n) (h : ¬ 0 ≤ stockTo ms ws s (q + 1)) : stocksOk ms ws s n = false := by
  cases e : stocksOk ms ws s n
  · rfl
  · exact absurd ((stocksOk_iff ms ws s n).1 e q hq) h
def stocksIn (s : Int) (ms ws : List Int) : Bool := inB 0 20 s && validMadeM ms && validDaysM ws && decide (ms.length = ws.length)
def stocksFine (s : Int) (ms ws : List Int) : Bool := stocksIn s ms ws && stocksOk ms ws s ws.length
def stocksM (s : Int) (ms ws : List Int) : List Int := if stocksFine s ms ws then tab (fun q => stockTo ms ws s (q + 1)) ws.length else []
theorem stockTo_bd {ms ws : List Int} {s : Int} (h0 : 0 ≤ s) (h1 : s ≤ 20) (hm : validMadeM ms = true) (hw : validDaysM ws = true) (k : Nat) : -(20 * (k : Int)) ≤ stockTo ms ws s k ∧ stockTo ms ws s k ≤ 20 + 160 * (k : Int) := by
  rw [stockTo_closed]
  have a := sumN_bd (validMade_at hm) k
  have b := sumN_bd (validDays_at hw) k
  omega

/-- the day on which what is wanted on day i is made, or -1 -/
def stepAt (xs : List Int) (days : Int) (i : Nat) (a : Int) : Int :=
  let a1 := if 0 ≤ a ∧ days ≤ (i : Int) - a then -1 else a
  if a1 < 0 ∧ 0 < xs.getD i 0 then (i : Int) else a1
theorem stepAt_free {xs : List Int} {days : Int} {i : Nat} {a : Int} (ha : -1 ≤ a) (hf : a < 0 ∨ days ≤ (i : Int) - a) : stepAt xs days i a = if 0 < xs.getD i 0 then (i : Int) else -1 := by
  simp only [stepAt]
  (repeat' split) <;> omega
theorem stepAt_busy {xs : List Int} {days : Int} {i : Nat} {a : Int} (ha : 0 ≤ a) (hf : (i : Int) - a < days) : stepAt xs days i a = a := by
  simp only [stepAt]
  (repeat' split) <;> omega
theorem stepAt_lo {xs : List Int} {days : Int} {i : Nat} {a : Int} (ha : -1 ≤ a) (hi : a ≤ (i : Int)) : -1 ≤ stepAt xs days i a ∧ stepAt xs days i a ≤ (i : Int) := by
  simp only [stepAt]
  (repeat' split) <;> omega
theorem stepAt_none {xs : List Int} {days : Int} {i : Nat} {a : Int} (h : stepAt xs days i a < 0) : xs.getD i 0 ≤ 0 := by
  simp only [stepAt] at h
  (repeat' split at h) <;> omega
def atTo (xs : List Int) (days : Int) : Nat → Int
  | 0 => -1
  | i + 1 => stepAt xs days i (atTo xs days i)
def outTo (xs : List Int) (days : Int) : Nat → Nat → Int
  | 0, _ => 0
  | k + 1, q => outTo xs days k q + (if atTo xs days (k + 1) = (q : Int) then xs.getD k 0 else 0)
def lotsM (xs : List Int) (days : Int) : List Int := tab (outTo xs days xs.length) xs.length
theorem atTo_bd (xs : List Int) (days : Int) (k : Nat) : -1 ≤ atTo xs days k ∧ atTo xs days k < max (k : Int) 0 := by
  induction k with
  | zero => simp [atTo]
  | succ k ih => have := stepAt_lo (xs := xs) (days := days) (i := k) (a := atTo xs days k) (by omega) (by omega); rw [atTo]; omega
theorem atTo_none {xs : List Int} {days : Int} {k : Nat} (h0 : 0 ≤ xs.getD k 0) (h : atTo xs days (k + 1) < 0) : xs.getD k 0 = 0 := by
  have := stepAt_none h; omega
theorem outTo_bd {xs : List Int} {days B : Int} (h : ∀ k, 0 ≤ xs.getD k 0 ∧ xs.getD k 0 ≤ B) (k q : Nat) : 0 ≤ outTo xs days k q ∧ outTo xs days k q ≤ sumN xs k := by
  induction k with
  | zero => simp [outTo, sumN]
  | succ k ih => have := h k; rw [outTo, sumN]; split <;> omega
theorem outTo_late (xs : List Int) (days : Int) (k q : Nat) (h : k ≤ q) : outTo xs days k q = 0 := by
  induction k with
  | zero => rfl
  | succ k ih =>
    have := atTo_bd xs days (k + 1)
    rw [outTo, ih (by omega), if_neg (by omega)]; rfl
theorem lotsM_length (xs : List Int) (days : Int) : (lotsM xs days).length = xs.length := tab_length _ _
/-- no lot goes on on day k -/
def freeAt (xs : List Int) (days : Int) (k : Nat) : Prop := atTo xs days k < 0 ∨ days ≤ (k : Int) - atTo xs days k
theorem free_none {xs : List Int} {days : Int} {k : Nat} (hf : freeAt xs days k) (hx : xs.getD k 0 = 0) : freeAt xs days (k + 1) ∧ ∀ q, outTo xs days (k + 1) q = outTo xs days k q := by
  have hb := atTo_bd xs days k
  have e : atTo xs days (k + 1) = -1 := by rw [atTo, stepAt_free hb.1 hf, hx]; rfl
  exact ⟨Or.inl (by omega), fun q => by rw [outTo, hx]; simp⟩
theorem free_lot {xs : List Int} {days : Int} {k : Nat} (hf : freeAt xs days k) (hx : 0 < xs.getD k 0) : ∀ (j : Nat), 1 ≤ j → (j : Int) ≤ days →
    atTo xs days (k + j) = (k : Int) ∧ ∀ q, outTo xs days (k + j) q = outTo xs days k q + (if q = k then sumN xs (k + j) - sumN xs k else 0) := by
  intro j
  induction j with
  | zero => intro h; omega
  | succ j ih =>
    intro _ hj
    have hb := atTo_bd xs days k
    have ea : atTo xs days (k + (j + 1)) = (k : Int) := by
      by_cases h0 : j = 0
      · subst h0
        rw [show k + (0 + 1) = k + 1 by omega, atTo, stepAt_free hb.1 hf, if_pos hx]
      · obtain ⟨i1, _⟩ := ih (by omega) (by omega)
        rw [show k + (j + 1) = (k + j) + 1 by omega, atTo, i1, stepAt_busy (by omega) (by omega)]
    refine ⟨ea, fun q => ?_⟩
    have i2 : outTo xs days (k + j) q = outTo xs days k q + (if q = k then sumN xs (k + j) - sumN xs k else 0) := by
      by_cases h0 : j = 0
      · subst h0; simp
      · exact (ih (by omega) (by omega)).2 q
    rw [show k + (j + 1) = (k + j) + 1 by omega] at ea ⊢
    rw [outTo, ea, i2, sumN]
    by_cases e : q = k
    · subst e; simp; omega
    · rw [if_neg e, if_neg e, if_neg (by omega)]; omega
theorem free_end {xs : List Int} {days : Int} {k : Nat} (hf : freeAt xs days k) (hx : 0 < xs.getD k 0) (hd : 1 ≤ days) : freeAt xs days (k + days.toNat) := by
  right
  obtain ⟨h, _⟩ := free_lot hf hx days.toNat (by omega) (by omega)
  rw [h]; omega
/-- what is made on the first j days is what is wanted on them, or more -/
theorem sumN_lots_le {xs : List Int} {days : Int} (h : ∀ k, 0 ≤ xs.getD k 0) (n j : Nat) (hj : j ≤ n) : ∀ k, k ≤ n →
    sumN (tab (outTo xs days k) n) j = (if k ≤ j then sumN xs k else sumN (tab (outTo xs days k) n) j) ∧ (j ≤ k → sumN xs j ≤ sumN (tab (outTo xs days k) n) j) := by
  have step : ∀ k, ∀ j, j ≤ n → sumN (tab (outTo xs days (k + 1)) n) j = sumN (tab (outTo xs days k) n) j + (if 0 ≤ atTo xs days (k + 1) ∧ atTo xs days (k + 1) < (j : Int) then xs.getD k 0 else 0) := by
    intro k j
    induction j with
    | zero => intro _; simp [sumN]; omega
    | succ j ih =>
      intro hj
      rw [sumN, sumN, ih (by omega), tab_getD _ (by omega), tab_getD _ (by omega), outTo]
      have := atTo_bd xs days (k + 1)
      by_cases e : atTo xs days (k + 1) = (j : Int)
      · rw [if_pos e, if_neg (by omega), if_pos (by omega)]; omega
      · rw [if_neg e]
        by_cases e2 : 0 ≤ atTo xs days (k + 1) ∧ atTo xs days (k + 1) < (j : Int)
        · rw [if_pos e2, if_pos (by omega)]; omega
        · rw [if_neg e2, if_neg (by omega)]; omega
  intro k
  induction k with
  | zero =>
    intro _
    have z : ∀ j, j ≤ n → sumN (tab (outTo xs days 0) n) j = 0 := by
      intro j
      induction j with
      | zero => intro _; rfl
      | succ j ih => intro hj; rw [sumN, ih (by omega), tab_getD _ (by omega)]; rfl
    refine ⟨by rw [if_pos (by omega), z j hj]; rfl, fun h0 => ?_⟩
    obtain rfl : j = 0 := by omega
    simp [sumN]
  | succ k ih =>
    intro hk
    obtain ⟨i1, i2⟩ := ih (by omega)
    have hs := step k j hj
    have hb := atTo_bd xs days (k + 1)
    have hz := atTo_none (days := days) (h k)
    have hk0 := h k
    by_cases hkj : k + 1 ≤ j
    · rw [if_pos (by omega)] at i1
      have e : sumN (tab (outTo xs days (k + 1)) n) j = sumN xs (k + 1) := by
        rw [hs, i1, sumN]
        by_cases h0 : 0 ≤ atTo xs days (k + 1)
        · rw [if_pos ⟨h0, by omega⟩]
        · rw [if_neg (by omega), hz (by omega)]
      refine ⟨by rw [if_pos hkj]; exact e, fun h' => ?_⟩
      obtain rfl : j = k + 1 := by omega
      omega
    · refine ⟨by rw [if_neg hkj], fun h' => ?_⟩
      have := i2 (by omega)
      rw [hs]; split <;> omega
theorem lots_before {xs : List Int} {days : Int} (h : ∀ k, 0 ≤ xs.getD k 0) (j : Nat) (hj : j ≤ xs.length) : sumN xs j ≤ sumN (lotsM xs days) j :=
  (sumN_lots_le h xs.length j hj xs.length (Nat.le_refl _)).2 hj
theorem lots_total {xs : List Int} {days : Int} (h : ∀ k, 0 ≤ xs.getD k 0) : sumN (lotsM xs days) xs.length = sumN xs xs.length := by
  have := (sumN_lots_le (days := days) h xs.length xs.length (Nat.le_refl _) xs.length (Nat.le_refl _)).1
  rwa [if_pos (Nat.le_refl _)] at this
theorem lots_one {xs : List Int} (h : ∀ k, 0 ≤ xs.getD k 0) : lotsM xs 1 = xs := by
  have key : ∀ k q, outTo xs 1 k q = if q < k then xs.getD q 0 else 0 := by
    intro k q
    induction k with
    | zero => simp [outTo]
    | succ k ih =>
      have hb := atTo_bd xs 1 k
      have h0 := h k
      have e : atTo xs 1 (k + 1) = if 0 < xs.getD k 0 then (k : Int) else -1 := by rw [atTo, stepAt_free hb.1 (by omega)]
      rw [outTo, ih, e]
      by_cases h3 : q = k
      · subst h3; (repeat' split) <;> omega
      · (repeat' split) <;> omega
  have e : lotsM xs 1 = tab (fun q => xs.getD q 0) xs.length := tab_congr (fun q hq => by rw [key, if_pos hq])
  rw [e, tab_self]

/-- what is begun, when k days are told -/
def begTo (ms : List Int) (wait : Nat) : Nat → Nat → Int
  | 0, _ => 0
  | k + 1, q => begTo ms wait k q + (if k - wait = q then ms.getD k 0 else 0)
def begAt (ms : List Int) (wait q : Nat) : Int := if q = 0 then sumN ms (min (wait + 1) ms.length) else ms.getD (q + wait) 0
def begM (ms : List Int) (wait : Nat) : List Int := tab (begAt ms wait) ms.length
theorem begM_length (ms : List Int) (wait : Nat) : (begM ms wait).length = ms.length := tab_length _ _
theorem begTo_closed (ms : List Int) (wait k q : Nat) : begTo ms wait k q = if q = 0 then sumN ms (min (wait + 1) k) else if q + wait < k then ms.getD (q + wait) 0 else 0 := by
  induction k with
  | zero => simp [begTo, sumN]
  | succ k ih =>
    rw [begTo, ih]
    by_cases h0 : q = 0
    · subst h0
      rw [if_pos rfl, if_pos rfl]
      by_cases h1 : k ≤ wait
      · rw [if_pos (by omega), show min (wait + 1) k = k by omega, show min (wait + 1) (k + 1) = k + 1 by omega, sumN]
      · rw [if_neg (by omega), show min (wait + 1) k = wait + 1 by omega, show min (wait + 1) (k + 1) = wait + 1 by omega]; omega
    · rw [if_neg h0, if_neg h0]
      by_cases h1 : q + wait < k
      · rw [if_pos h1, if_neg (by omega), if_pos (by omega)]; omega
      · rw [if_neg h1]
        by_cases h2 : q + wait = k
        · rw [if_pos (by omega), if_pos (by omega), h2]; omega
        · rw [if_neg (by omega), if_neg (by omega)]; omega
theorem begTo_all {ms : List Int} {wait q : Nat} : begTo ms wait ms.length q = begAt ms wait q := by
  rw [begTo_closed, begAt]
  by_cases h0 : q = 0
  · rw [if_pos h0, if_pos h0]
  · rw [if_neg h0, if_neg h0]
    by_cases h1 : q + wait < ms.length
    · rw [if_pos h1]
    · rw [if_neg h1, getD_past (by omega)]
theorem begTo_bd {ms : List Int} {B : Int} (h : ∀ k, 0 ≤ ms.getD k 0 ∧ ms.getD k 0 ≤ B) (wait k q : Nat) : 0 ≤ begTo ms wait k q ∧ begTo ms wait k q ≤ sumN ms k := by
  induction k with
  | zero => simp [begTo, sumN]
  | succ k ih => have := h k; rw [begTo, sumN]; split <;> omega
/-- what is begun up to day i is what is made up to wait days later -/
theorem sumN_beg (ms : List Int) (wait : Nat) : ∀ i, i < ms.length → sumN (begM ms wait) (i + 1) = sumN ms (min (i + wait + 1) ms.length) := by
  intro i
  induction i with
  | zero =>
    intro h
    rw [sumN, sumN, begM, tab_getD _ h, begAt, if_pos rfl, show 0 + wait + 1 = wait + 1 by omega]; omega
  | succ i ih =>
    intro h
    rw [sumN, ih (by omega), begM, tab_getD _ h, begAt, if_neg (by omega)]
    by_cases h1 : i + 1 + wait < ms.length
    · rw [show min (i + wait + 1) ms.length = i + 1 + wait by omega, show min (i + 1 + wait + 1) ms.length = (i + 1 + wait) + 1 by omega, sumN]
    · rw [show min (i + wait + 1) ms.length = ms.length by omega, show min (i + 1 + wait + 1) ms.length = ms.length by omega, getD_past (by omega)]; omega
theorem begM_steps (ms : List Int) (wait more : Nat) : begM (begM ms wait) more = begM ms (wait + more) := by
  conv => lhs; unfold begM
  conv => rhs; unfold begM
  rw [show tab (begAt ms wait) ms.length = begM ms wait from rfl, begM_length]
  refine tab_congr (fun q hq => ?_)
  unfold begAt
  rw [begM_length]
  by_cases h0 : q = 0
  · rw [if_pos h0, if_pos h0]
    have hp : 0 < ms.length := by omega
    rw [show min (more + 1) ms.length = (min (more + 1) ms.length - 1) + 1 by omega, sumN_beg ms wait _ (by omega)]
    congr 1
    omega
  · rw [if_neg h0, if_neg h0]
    by_cases h1 : q + more < ms.length
    · rw [begM, tab_getD _ h1, begAt, if_neg (by omega)]; congr 1; omega
    · rw [getD_past (by rw [begM_length]; omega), getD_past (by omega)]
end Go.Proofs.Ythmifadnfaajbad
namespace Go.Proofs.Ythmifadnfaajbad

-- when steps begin, by rows (plain)
/-- row j, as it is known -/
def rowS (s : ShopS) (j : Nat) : List Int := tab (s.b j) (s.nx j)
def rowsS (s : ShopS) (n : Nat) : List (List Int) := (List.range n).map (rowS s)
theorem rowS_len (s : ShopS) (j : Nat) : (rowS s j).length = s.nx j := tab_length _ _
theorem rowsS_len (s : ShopS) (n : Nat) : (rowsS s n).length = n := by simp [rowsS]
theorem rowsS_get (s : ShopS) {n j : Nat} (h : j < n) : (rowsS s n)[j]? = some (rowS s j) := by simp [rowsS, h]
theorem tab_cong {f g : Nat → Int} {n : Nat} (h : ∀ q, q < n → f q = g q) : tab f n = tab g n := by
  induction n with
  | zero => rfl
  | succ n ih => rw [tab_succ, tab_succ, ih (fun q hq => h q (by omega)), h n (by omega)]
theorem rowS_turn (m : Nat → Nat → Nat) (p : Nat → Nat → Int) (s : ShopS) (j : Nat) : rowS (turnS m p s j) j = rowS s j ++ [beginS m s j] := by
  unfold rowS turnS
  simp only [setN_at]
  rw [tab_succ, setN_at]
  congr 1
  exact tab_cong fun q hq => setN_ne _ _ (by omega)
theorem rowS_other (m : Nat → Nat → Nat) (p : Nat → Nat → Int) (s : ShopS) {i j : Nat} (h : i ≠ j) : rowS (turnS m p s j) i = rowS s i := by
  unfold rowS turnS
  simp only
  rw [setN_ne _ _ h, setN_ne _ _ h]
theorem runS_bd {m : Nat → Nat → Nat} {p : Nat → Nat → Int} (hp : ∀ j k, 0 ≤ p j k ∧ p j k ≤ 9) (l : List Nat) : (runS m p shop0 l).all ≤ 9 * (l.length : Int) := by
  have key : ∀ r : List Nat, (runS m p shop0 r.reverse).all ≤ 9 * (r.length : Int) := by
    intro r
    induction r with
    | nil => exact Int.le_refl _
    | cons x r ih =>
      have hi := runS_inv (fun j k => (hp j k).1) r.reverse shop0 (shop0_inv m p)
      rw [List.reverse_cons, runS_snoc]
      generalize runS m p shop0 r.reverse = s at ih hi
      have h1 := hi.upR x
      have h2 := hi.upF (m x (s.nx x))
      have h3 := hp x (s.nx x)
      show max s.all (beginS m s x + p x (s.nx x)) ≤ _
      unfold beginS
      rw [List.length_cons]
      push_cast
      omega
  have := key l.reverse
  rwa [List.reverse_reverse, List.length_reverse] at this
end Go.Proofs.Ythmifadnfaajbad
namespace Go.Proofs.Ythmifadnfaajbad
open Go.RowKit

-- a shop and the times of its steps, read
theorem step_row {w : World} {S : Nat → Prop} {a : Option Addr} {len : Nat} {shop : List (List (List Int))} (h : ShopAt w S a len shop) (hv : shopM shop = true) {j : Nat} (hj : j < len) (h0 : 0 < slen shop j) :
    ∃ (b off b1 off1 c1 : Nat), a = some ⟨b, off, none⟩ ∧ w.cell? ⟨b, off + j, none⟩ = some (.slice (some ⟨b1, off1, none⟩) (slen shop j) c1) ∧ slen shop j ≤ c1 ∧
      ∀ k, k < slen shop j → ∃ b2 off2 c2, w.cell? ⟨b1, off1 + k, none⟩ = some (.slice (some ⟨b2, off2, none⟩) 2 c2) ∧ 2 ≤ c2 ∧ w.cell? ⟨b2, off2, none⟩ = some (.int .i64 (smach shop j k : Nat)) ∧ w.cell? ⟨b2, off2 + 1, none⟩ = some (.int .i64 (stime shop j k)) := by
  obtain ⟨b, off, b1, off1, c1, _, _, _, rfl, d1, d2, _⟩ := step_at h hv hj h0
  refine ⟨b, off, b1, off1, c1, rfl, d1, d2, fun k hk => ?_⟩
  obtain ⟨b', off', b1', off1', c1', b2, off2, c2, e, q1, q2, q3, q4, q5, q6⟩ := step_at h hv hj hk
  cases e
  rw [d1] at q1
  cases q1
  exact ⟨b2, off2, c2, q3, q4, q5, q6⟩
theorem begun_row {w : World} {S : Nat → Prop} {a : Option Addr} {len n : Nat} {s : ShopS} (h : RowsAt w S a len (rowsS s n)) {j : Nat} (hj : j < n) (h0 : 0 < s.nx j) :
    ∃ (b off b1 off1 c1 : Nat), a = some ⟨b, off, none⟩ ∧ len = n ∧ w.cell? ⟨b, off + j, none⟩ = some (.slice (some ⟨b1, off1, none⟩) (s.nx j) c1) ∧ s.nx j ≤ c1 ∧ ∀ k, k < s.nx j → w.cell? ⟨b1, off1 + k, none⟩ = some (.int .i64 (s.b j k)) := by
  have hn : len = n := by have := h.lenEq; rw [rowsS_len] at this; exact this.symm
  obtain ⟨b, off, r, a', l, c, rfl, hr, hc, hlc, hi⟩ := h.get (k := j) (by omega)
  rw [rowsS_get _ hj] at hr
  cases hr
  have hl : l = s.nx j := by rw [← hi.lenEq, rowS_len]
  subst hl
  obtain ⟨b1, off1, rfl, _, hx⟩ := hi.cells h0
  exact ⟨b, off, b1, off1, c, rfl, hn, hc, hlc, fun k hk => hx k _ (tab_at _ hk)⟩
set_option maxHeartbeats 400000 in
theorem equalRows_any (S T : Nat → Prop) (a a2 : Option Addr) (len cap len2 cap2 : Nat) (xs ys : List (List Int)) (w : World) (h : RowsAt w S a len xs) (g : RowsAt w T a2 len2 ys) :
    Calls Try.prog 5 #[.slice a len cap, .slice a2 len2 cap2] w (EqPost w (eqRB xs ys)) := by
  have hs := h.small
  have hs2 := g.small
  by_cases hll : len = len2
  · subst hll
    go_enter Try.func5, Try.ntmps5
    go_wp2
    go_loopw [5] (fun i wr => ∃ k : Nat, k ≤ len ∧ i = .int .i64 k ∧ xs.take k = ys.take k ∧ Drew w wr) (fun i _ => len - (intOf i).toNat)
    case atStart => exact ⟨0, Nat.zero_le _, rfl, rfl, Drew.refl w⟩
    case round =>
      obtain ⟨k, hk, rfl, ht, hd⟩ := hrel
      have HT := Lib.hid ht
      clear ht
      by_cases hlt : k < len
      · obtain ⟨b, off, x, a3, l3, c3, rfl, hx, hc, _, hi⟩ := (Drew.rows h hd).get hlt
        obtain ⟨b2, off2, y, a4, l4, c4, rfl, hy, hc2, _, hi2⟩ := (Drew.rows g hd).get hlt
        have HX := Lib.hid hx
        have HY := Lib.hid hy
        clear hx hy
        have hcall : ∀ n, Calls Try.prog 12 #[.slice a3 l3 c3, .slice a4 l4 c4] (wr.drewN n) (fun e w' => e = .returned (.bool (eqB x y)) ∧ ∃ m, w' = (wr.drewN n).drewN m) :=
          fun n => equalInts_any S T a3 a4 l3 c3 l4 c4 x y _ (Drew.ints hi ⟨n, rfl⟩) (Drew.ints hi2 ⟨n, rfl⟩)
        have HCALL := Lib.hid hcall
        clear hcall
        by_cases hxy : x = y
        · have hb : eqB x y = true := decide_eq_true hxy
          have HXY := Lib.hid hxy
          clear hxy
          go_wp2
          go_quiet ((go_at_call 12; exact Calls.quiet_of (HCALL.out _)))
          go_wp2
          go_roundw
          case rel => exact ⟨k + 1, by omega, by go_num, take_eq_step HX.out (by rw [HXY.out]; exact HY.out) HT.out, hd.drew _⟩
          case measure => simp [intOf]; omega
        · have hb : eqB x y = false := decide_eq_false hxy
          go_wp2
          go_quiet ((go_at_call 12; exact Calls.quiet_of (HCALL.out _)))
          go_wp2
          go_ret
          exact ⟨ret_bool (decide_eq_false (ne_of_get HX.out HY.out hxy)).symm, hd.drew _⟩
      · go_wp2
        go_ret
        have e1 := h.lenEq
        have e2 := g.lenEq
        have ht := HT.out
        rw [List.take_of_length_le (by omega), List.take_of_length_le (by omega)] at ht
        exact ⟨ret_bool (decide_eq_true ht).symm, hd⟩
  · have hne : xs ≠ ys := by rintro rfl; exact hll (h.lenEq.symm.trans g.lenEq)
    go_enter Try.func5, Try.ntmps5
    go_wp2
    go_ret
    exact ⟨ret_bool (decide_eq_false hne).symm, Drew.refl w⟩
end Go.Proofs.Ythmifadnfaajbad
