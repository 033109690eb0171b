import Derived.Test.YtkjmpkincaainadM0
import Derived.Test.YtkjmpkincaainadM1
namespace Go.Proofs.Ytkjmpkincaainad
open Go.RowKit

def validDaysM (xs : List Int) : Bool := decide (xs.length ≤ 8) && allIn 0 20 xs
def validMadeM (xs : List Int) : Bool := decide (xs.length ≤ 8) && allIn 0 160 xs
theorem allIn_get {lo hi : Int} {xs : List Int} (h : allIn lo hi xs = true) {k : Nat} {x : Int} (hx : xs[k]? = some x) : lo ≤ x ∧ x ≤ hi := by
  have := List.all_eq_true.1 h x (List.mem_of_getElem? hx)
  simpa [inB] using this
theorem allIn_getD {lo hi : Int} {xs : List Int} (h : allIn lo hi xs = true) (h0 : lo ≤ 0) (h1 : 0 ≤ hi) (k : Nat) : lo ≤ xs.getD k 0 ∧ xs.getD k 0 ≤ hi := by
  rcases Nat.lt_or_ge k xs.length with h' | h'
  · exact allIn_get h (get_getD h')
  · rw [getD_past h']; omega
theorem allIn_of {lo hi : Int} {xs : List Int} (h : ∀ k, k < xs.length → lo ≤ xs.getD k 0 ∧ xs.getD k 0 ≤ hi) : allIn lo hi xs = true := by
  unfold allIn
  rw [List.all_eq_true]
  intro x hx
  obtain ⟨k, hk, rfl⟩ := List.mem_iff_getElem.1 hx
  have := h k hk
  rw [List.getD_eq_getElem?_getD, List.getElem?_eq_getElem hk] at this
  simpa [inB] using this
theorem validDays_len {xs : List Int} (h : validDaysM xs = true) : xs.length ≤ 8 := by simp [validDaysM] at h; exact h.1
theorem validDays_all {xs : List Int} (h : validDaysM xs = true) : allIn 0 20 xs = true := by simp [validDaysM] at h; exact h.2
theorem validDays_at {xs : List Int} (h : validDaysM xs = true) (k : Nat) : 0 ≤ xs.getD k 0 ∧ xs.getD k 0 ≤ 20 := allIn_getD (validDays_all h) (by omega) (by omega) k
theorem validMade_len {xs : List Int} (h : validMadeM xs = true) : xs.length ≤ 8 := by simp [validMadeM] at h; exact h.1
theorem validMade_all {xs : List Int} (h : validMadeM xs = true) : allIn 0 160 xs = true := by simp [validMadeM] at h; exact h.2
theorem validMade_at {xs : List Int} (h : validMadeM xs = true) (k : Nat) : 0 ≤ xs.getD k 0 ∧ xs.getD k 0 ≤ 160 := allIn_getD (validMade_all h) (by omega) (by omega) k
theorem validDays_mk {xs : List Int} (hl : xs.length ≤ 8) (h : ∀ k, k < xs.length → 0 ≤ xs.getD k 0 ∧ xs.getD k 0 ≤ 20) : validDaysM xs = true := by simp [validDaysM, hl, allIn_of h]
theorem validMade_mk {xs : List Int} (hl : xs.length ≤ 8) (h : ∀ k, k < xs.length → 0 ≤ xs.getD k 0 ∧ xs.getD k 0 ≤ 160) : validMadeM xs = true := by simp [validMadeM, hl, allIn_of h]

/-- the sum of the first k -/
def sumN (xs : List Int) : Nat → Int
  | 0 => 0
  | k + 1 => sumN xs k + xs.getD k 0
theorem totalM_take (xs : List Int) (k : Nat) (hk : k ≤ xs.length) : totalM (xs.take k) = sumN xs k := by
  induction k with
  | zero => rfl
  | succ k ih => rw [take_get (get_getD (xs := xs) (k := k) (by omega)), totalM_snoc, ih (by omega), sumN]
theorem totalM_eq (xs : List Int) : totalM xs = sumN xs xs.length := by
  have := totalM_take xs xs.length (Nat.le_refl _)
  rwa [List.take_length] at this
theorem sumN_tab (f : Nat → Int) (n k : Nat) (hk : k ≤ n) : sumN (tab f n) k = sumN (tab f k) k := by
  induction k with
  | zero => rfl
  | succ k ih => 
    have e : ∀ j, j ≤ k → sumN (tab f (k + 1)) j = sumN (tab f n) j := by
      intro j
      induction j with
      | zero => intro _; rfl
      | succ j ihj => intro hj; rw [sumN, sumN, ihj (by omega), tab_getD f (by omega), tab_getD f (by omega)]
    rw [sumN, sumN, e k (Nat.le_refl _), tab_getD f (by omega), tab_getD f (by omega)]
theorem sumN_bd {xs : List Int} {B : Int} (h : ∀ k, 0 ≤ xs.getD k 0 ∧ xs.getD k 0 ≤ B) (k : Nat) : 0 ≤ sumN xs k ∧ sumN xs k ≤ B * (k : Int) := by
  induction k with
  | zero => simp [sumN]
  | succ k ih =>
    have := h k
    have e : B * ((k + 1 : Nat) : Int) = B * (k : Int) + B := by push_cast; rw [Int.mul_add, Int.mul_one]
    rw [sumN, e]; omega
/-- the sum of j numbers from place a on -/
theorem totalM_part (xs : List Int) (a j : Nat) (h : a + j ≤ xs.length) : totalM ((xs.drop a).take j) = sumN xs (a + j) - sumN xs a := by
  induction j with
  | zero => simp [totalM]
  | succ j ih =>
    have hx : (xs.drop a)[j]? = some (xs.getD (a + j) 0) := by rw [List.getElem?_drop]; exact get_getD (by omega)
    rw [take_get hx, totalM_snoc, ih (by omega), show a + (j + 1) = (a + j) + 1 by omega, sumN]; omega

/-- the stock that is left behind k days -/
def leftTo (xs : List Int) (s : Int) : Nat → Int
  | 0 => s
  | k + 1 => leftTo xs s k - min (leftTo xs s k) (xs.getD k 0)
def netAt (xs : List Int) (s : Int) (q : Nat) : Int := xs.getD q 0 - min (leftTo xs s q) (xs.getD q 0)
def netM (xs : List Int) (s : Int) : List Int := tab (netAt xs s) xs.length
theorem leftTo_bd {xs : List Int} {s : Int} (hs : 0 ≤ s) (h : ∀ k, 0 ≤ xs.getD k 0) (k : Nat) : 0 ≤ leftTo xs s k ∧ leftTo xs s k ≤ s := by
  induction k with
  | zero => exact ⟨hs, Int.le_refl _⟩
  | succ k ih => have := h k; rw [leftTo]; omega
theorem netAt_bd {xs : List Int} {s : Int} (hs : 0 ≤ s) (h : ∀ k, 0 ≤ xs.getD k 0) (k : Nat) : 0 ≤ netAt xs s k ∧ netAt xs s k ≤ xs.getD k 0 := by
  have := h k
  have := leftTo_bd hs h k
  unfold netAt; omega
theorem netM_length (xs : List Int) (s : Int) : (netM xs s).length = xs.length := tab_length _ _
theorem netM_valid {xs : List Int} {s : Int} (hv : validDaysM xs = true) (hs : 0 ≤ s) : validDaysM (netM xs s) = true := by
  refine validDays_mk (by rw [netM_length]; exact validDays_len hv) (fun k hk => ?_)
  rw [netM_length] at hk
  have h1 := netAt_bd hs (fun q => (validDays_at hv q).1) k
  have h2 := validDays_at hv k
  rw [netM, tab_getD _ hk]; omega
theorem leftTo_closed {xs : List Int} {s : Int} (hs : 0 ≤ s) (h : ∀ k, 0 ≤ xs.getD k 0) (k : Nat) : leftTo xs s k = max (s - sumN xs k) 0 := by
  induction k with
  | zero => simp [leftTo, sumN]; omega
  | succ k ih => have := h k; rw [leftTo, sumN, ih]; omega
theorem sumN_net {xs : List Int} {s : Int} (k : Nat) (hk : k ≤ xs.length) : sumN (netM xs s) k = sumN xs k - (s - leftTo xs s k) := by
  induction k with
  | zero => simp [leftTo, sumN]
  | succ k ih => rw [sumN, ih (by omega), netM, tab_getD _ (by omega), netAt, sumN, leftTo]; omega
theorem leftTo_steps {xs : List Int} {s t : Int} (hs : 0 ≤ s) (ht : 0 ≤ t) (h : ∀ k, 0 ≤ xs.getD k 0) (k : Nat) (hk : k ≤ xs.length) :
    leftTo xs (s + t) k = leftTo xs s k + leftTo (netM xs s) t k ∧ 0 ≤ leftTo (netM xs s) t k := by
  induction k with
  | zero => simp [leftTo]; omega
  | succ k ih =>
    obtain ⟨i1, i2⟩ := ih (by omega)
    have := h k
    have := leftTo_bd hs h k
    rw [leftTo, leftTo, leftTo, i1]
    have e : (netM xs s).getD k 0 = netAt xs s k := by rw [netM, tab_getD _ (by omega)]
    rw [e, netAt]; omega
theorem netM_steps {xs : List Int} {s t : Int} (hs : 0 ≤ s) (ht : 0 ≤ t) (h : ∀ k, 0 ≤ xs.getD k 0) : netM (netM xs s) t = netM xs (s + t) := by
  conv => lhs; unfold netM
  conv => rhs; unfold netM
  rw [show (tab (netAt xs s) xs.length) = netM xs s from rfl, netM_length]
  refine tab_congr (fun q hq => ?_)
  obtain ⟨i1, i2⟩ := leftTo_steps hs ht h q (by omega)
  have := h q
  have := leftTo_bd hs h q
  have e : (netM xs s).getD q 0 = netAt xs s q := by rw [netM, tab_getD _ (by omega)]
  unfold netAt at *
  rw [e, i1]; omega

/-- what is there behind k days -/
def stockTo (ms ws : List Int) (s : Int) : Nat → Int
  | 0 => s
  | k + 1 => stockTo ms ws s k + ms.getD k 0 - ws.getD k 0
theorem stockTo_closed (ms ws : List Int) (s : Int) (k : Nat) : stockTo ms ws s k = s + sumN ms k - sumN ws k := by
  induction k with
  | zero => simp [stockTo, sumN]
  | succ k ih => rw [stockTo, sumN, sumN, ih]; omega
def stocksOk (ms ws : List Int) (s : Int) (n : Nat) : Bool := (List.range n).all (fun q => decide (0 ≤ stockTo ms ws s (q + 1)))
theorem stocksOk_succ (ms ws : List Int) (s : Int) (n : Nat) : stocksOk ms ws s (n + 1) = (stocksOk ms ws s n && decide (0 ≤ stockTo ms ws s (n + 1))) := by simp [stocksOk, List.range_succ]
theorem stocksOk_iff (ms ws : List Int) (s : Int) (n : Nat) : stocksOk ms ws s n = true ↔ ∀ q, q < n → 0 ≤ stockTo ms ws s (q + 1) := by simp [stocksOk]
theorem stocksOk_not {ms ws : List Int} {s : Int} {n q : Nat} (hq : q < n) (h : ¬ 0 ≤ stockTo ms ws s (q + 1)) : stocksOk ms ws s n = false := by
  cases e : stocksOk ms ws s n
  · rfl
  · exact absurd ((stocksOk_iff ms ws s n).1 e q hq) h
def stocksIn (s : Int) (ms ws : List Int) : Bool := inB 0 20 s && validMadeM ms && validDaysM ws && decide (ms.length = ws.length)
def stocksFine (s : Int) (ms ws : List Int) : Bool := stocksIn s ms ws && stocksOk ms ws s ws.length
def stocksM (s : Int) (ms ws : List Int) : List Int := if stocksFine s ms ws then tab (fun q => stockTo ms ws s (q + 1)) ws.length else []
theorem stockTo_bd {ms ws : List Int} {s : Int} (h0 : 0 ≤ s) (h1 : s ≤ 20) (hm : validMadeM ms = true) (hw : validDaysM ws = true) (k : Nat) : -(20 * (k : Int)) ≤ stockTo ms ws s k ∧ stockTo ms ws s k ≤ 20 + 160 * (k : Int) := by
  rw [stockTo_closed]
  have a := sumN_bd (validMade_at hm) k
  have b := sumN_bd (validDays_at hw) k
  omega

/-- the day on which what is wanted on day i is made, or -1 -/
def stepAt (xs : List Int) (days : Int) (i : Nat) (a : Int) : Int :=
  let a1 := if 0 ≤ a ∧ days ≤ (i : Int) - a then -1 else a
  if a1 < 0 ∧ 0 < xs.getD i 0 then (i : Int) else a1
theorem stepAt_free {xs : List Int} {days : Int} {i : Nat} {a : Int} (ha : -1 ≤ a) (hf : a < 0 ∨ days ≤ (i : Int) - a) : stepAt xs days i a = if 0 < xs.getD i 0 then (i : Int) else -1 := by
  simp only [stepAt]
  (repeat' split) <;> omega
theorem stepAt_busy {xs : List Int} {days : Int} {i : Nat} {a : Int} (ha : 0 ≤ a) (hf : (i : Int) - a < days) : stepAt xs days i a = a := by
  simp only [stepAt]
  (repeat' split) <;> omega
theorem stepAt_lo {xs : List Int} {days : Int} {i : Nat} {a : Int} (ha : -1 ≤ a) (hi : a ≤ (i : Int)) : -1 ≤ stepAt xs days i a ∧ stepAt xs days i a ≤ (i : Int) := by
  simp only [stepAt]
  (repeat' split) <;> omega
theorem stepAt_none {xs : List Int} {days : Int} {i : Nat} {a : Int} (h : stepAt xs days i a < 0) : xs.getD i 0 ≤ 0 := by
  simp only [stepAt] at h
  (repeat' split at h) <;> omega
def atTo (xs : List Int) (days : Int) : Nat → Int
  | 0 => -1
  | i + 1 => stepAt xs days i (atTo xs days i)
def outTo (xs : List Int) (days : Int) : Nat → Nat → Int
  | 0, _ => 0
  | k + 1, q => outTo xs days k q + (if atTo xs days (k + 1) = (q : Int) then xs.getD k 0 else 0)
def lotsM (xs : List Int) (days : Int) : List Int := tab (outTo xs days xs.length) xs.length
theorem atTo_bd (xs : List Int) (days : Int) (k : Nat) : -1 ≤ atTo xs days k ∧ atTo xs days k < max (k : Int) 0 := by
  induction k with
  | zero => simp [atTo]
  | succ k ih => have := stepAt_lo (xs := xs) (days := days) (i := k) (a := atTo xs days k) (by omega) (by omega); rw [atTo]; omega
theorem atTo_none {xs : List Int} {days : Int} {k : Nat} (h0 : 0 ≤ xs.getD k 0) (h : atTo xs days (k + 1) < 0) : xs.getD k 0 = 0 := by
  have := stepAt_none h; omega
theorem outTo_bd {xs : List Int} {days B : Int} (h : ∀ k, 0 ≤ xs.getD k 0 ∧ xs.getD k 0 ≤ B) (k q : Nat) : 0 ≤ outTo xs days k q ∧ outTo xs days k q ≤ sumN xs k := by
  induction k with
  | zero => simp [outTo, sumN]
  | succ k ih => have := h k; rw [outTo, sumN]; split <;> omega
theorem outTo_late (xs : List Int) (days : Int) (k q : Nat) (h : k ≤ q) : outTo xs days k q = 0 := by
  induction k with
  | zero => rfl
  | succ k ih =>
    have := atTo_bd xs days (k + 1)
    rw [outTo, ih (by omega), if_neg (by omega)]; rfl
theorem lotsM_length (xs : List Int) (days : Int) : (lotsM xs days).length = xs.length := tab_length _ _
/-- no lot goes on on day k -/
def freeAt (xs : List Int) (days : Int) (k : Nat) : Prop := atTo xs days k < 0 ∨ days ≤ (k : Int) - atTo xs days k
theorem free_none {xs : List Int} {days : Int} {k : Nat} (hf : freeAt xs days k) (hx : xs.getD k 0 = 0) : freeAt xs days (k + 1) ∧ ∀ q, outTo xs days (k + 1) q = outTo xs days k q := by
  have hb := atTo_bd xs days k
  have e : atTo xs days (k + 1) = -1 := by rw [atTo, stepAt_free hb.1 hf, hx]; rfl
  exact ⟨Or.inl (by omega), fun q => by rw [outTo, hx]; simp⟩
theorem free_lot {xs : List Int} {days : Int} {k : Nat} (hf : freeAt xs days k) (hx : 0 < xs.getD k 0) : ∀ (j : Nat), 1 ≤ j → (j : Int) ≤ days →
    atTo xs days (k + j) = (k : Int) ∧ ∀ q, outTo xs days (k + j) q = outTo xs days k q + (if q = k then sumN xs (k + j) - sumN xs k else 0) := by
  intro j
  induction j with
  | zero => intro h; omega
  | succ j ih =>
    intro _ hj
    have hb := atTo_bd xs days k
    have ea : atTo xs days (k + (j + 1)) = (k : Int) := by
      by_cases h0 : j = 0
      · subst h0
        rw [show k + (0 + 1) = k + 1 by omega, atTo, stepAt_free hb.1 hf, if_pos hx]
      · obtain ⟨i1, _⟩ := ih (by omega) (by omega)
        rw [show k + (j + 1) = (k + j) + 1 by omega, atTo, i1, stepAt_busy (by omega) (by omega)]
    refine ⟨ea, fun q => ?_⟩
    have i2 : outTo xs days (k + j) q = outTo xs days k q + (if q = k then sumN xs (k + j) - sumN xs k else 0) := by
      by_cases h0 : j = 0
      · subst h0; simp
      · exact (ih (by omega) (by omega)).2 q
    rw [show k + (j + 1) = (k + j) + 1 by omega] at ea ⊢
    rw [outTo, ea, i2, sumN]
    by_cases e : q = k
    · subst e; simp; omega
    · rw [if_neg e, if_neg e, if_neg (by omega)]; omega
theorem free_end {xs : List Int} {days : Int} {k : Nat} (hf : freeAt xs days k) (hx : 0 < xs.getD k 0) (hd : 1 ≤ days) : freeAt xs days (k + days.toNat) := by
  right
  obtain ⟨h, _⟩ := free_lot hf hx days.toNat (by omega) (by omega)
  rw [h]; omega
/-- what is made on the first j days is what is wanted on them, or more -/
theorem sumN_lots_le {xs : List Int} {days : Int} (h : ∀ k, 0 ≤ xs.getD k 0) (n j : Nat) (hj : j ≤ n) : ∀ k, k ≤ n →
    sumN (tab (outTo xs days k) n) j = (if k ≤ j then sumN xs k else sumN (tab (outTo xs days k) n) j) ∧ (j ≤ k → sumN xs j ≤ sumN (tab (outTo xs days k) n) j) := by
  have step : ∀ k, ∀ j, j ≤ n → sumN (tab (outTo xs days (k + 1)) n) j = sumN (tab (outTo xs days k) n) j + (if 0 ≤ atTo xs days (k + 1) ∧ atTo xs days (k + 1) < (j : Int) then xs.getD k 0 else 0) := by
    intro k j
    induction j with
    | zero => intro _; simp [sumN]; omega
    | succ j ih =>
      intro hj
      rw [sumN, sumN, ih (by omega), tab_getD _ (by omega), tab_getD _ (by omega), outTo]
      have := atTo_bd xs days (k + 1)
      by_cases e : atTo xs days (k + 1) = (j : Int)
      · rw [if_pos e, if_neg (by omega), if_pos (by omega)]; omega
      · rw [if_neg e]
        by_cases e2 : 0 ≤ atTo xs days (k + 1) ∧ atTo xs days (k + 1) < (j : Int)
        · rw [if_pos e2, if_pos (by omega)]; omega
        · rw [if_neg e2, if_neg (by omega)]; omega
  intro k
  induction k with
  | zero =>
    intro _
    have z : ∀ j, j ≤ n → sumN (tab (outTo xs days 0) n) j = 0 := by
      intro j
      induction j with
      | zero => intro _; rfl
      | succ j ih => intro hj; rw [sumN, ih (by omega), tab_getD _ (by omega)]; rfl
    refine ⟨by rw [if_pos (by omega), z j hj]; rfl, fun h0 => ?_⟩
    obtain rfl : j = 0 := by omega
    simp [sumN]
  | succ k ih =>
    intro hk
    obtain ⟨i1, i2⟩ := ih (by omega)
    have hs := step k j hj
    have hb := atTo_bd xs days (k + 1)
    have hz := atTo_none (days := days) (h k)
    have hk0 := h k
    by_cases hkj : k + 1 ≤ j
    · rw [if_pos (by omega)] at i1
      have e : sumN (tab (outTo xs days (k + 1)) n) j = sumN xs (k + 1) := by
        rw [hs, i1, sumN]
        by_cases h0 : 0 ≤ atTo xs days (k + 1)
        · rw [if_pos ⟨h0, by omega⟩]
        · rw [if_neg (by omega), hz (by omega)]
      refine ⟨by rw [if_pos hkj]; exact e, fun h' => ?_⟩
      obtain rfl : j = k + 1 := by omega
      omega
    · refine ⟨by rw [if_neg hkj], fun h' => ?_⟩
      have := i2 (by omega)
      rw [hs]; split <;> omega
theorem lots_before {xs : List Int} {days : Int} (h : ∀ k, 0 ≤ xs.getD k 0) (j : Nat) (hj : j ≤ xs.length) : sumN xs j ≤ sumN (lotsM xs days) j :=
  (sumN_lots_le h xs.length j hj xs.length (Nat.le_refl _)).2 hj
theorem lots_total {xs : List Int} {days : Int} (h : ∀ k, 0 ≤ xs.getD k 0) : sumN (lotsM xs days) xs.length = sumN xs xs.length := by
  have := (sumN_lots_le (days := days) h xs.length xs.length (Nat.le_refl _) xs.length (Nat.le_refl _)).1
  rwa [if_pos (Nat.le_refl _)] at this
theorem lots_one {xs : List Int} (h : ∀ k, 0 ≤ xs.getD k 0) : lotsM xs 1 = xs := by
  have key : ∀ k q, outTo xs 1 k q = if q < k then xs.getD q 0 else 0 := by
    intro k q
    induction k with
    | zero => simp [outTo]
    | succ k ih =>
      have hb := atTo_bd xs 1 k
      have h0 := h k
      have e : atTo xs 1 (k + 1) = if 0 < xs.getD k 0 then (k : Int) else -1 := by rw [atTo, stepAt_free hb.1 (by omega)]
      rw [outTo, ih, e]
      by_cases h3 : q = k
      · subst h3; (repeat' split) <;> omega
      · (repeat' split) <;> omega
  have e : lotsM xs 1 = tab (fun q => xs.getD q 0) xs.length := tab_congr (fun q hq => by rw [key, if_pos hq])
  rw [e, tab_self]

/-- what is begun, when k days are told -/
def begTo (ms : List Int) (wait : Nat) : Nat → Nat → Int
  | 0, _ => 0
  | k + 1, q => begTo ms wait k q + (if k - wait = q then ms.getD k 0 else 0)
def begAt (ms : List Int) (wait q : Nat) : Int := if q = 0 then sumN ms (min (wait + 1) ms.length) else ms.getD (q + wait) 0
def begM (ms : List Int) (wait : Nat) : List Int := tab (begAt ms wait) ms.length
theorem begM_length (ms : List Int) (wait : Nat) : (begM ms wait).length = ms.length := tab_length _ _
theorem begTo_closed (ms : List Int) (wait k q : Nat) : begTo ms wait k q = if q = 0 then sumN ms (min (wait + 1) k) else if q + wait < k then ms.getD (q + wait) 0 else 0 := by
  induction k with
  | zero => simp [begTo, sumN]
  | succ k ih =>
    rw [begTo, ih]
    by_cases h0 : q = 0
    · subst h0
      rw [if_pos rfl, if_pos rfl]
      by_cases h1 : k ≤ wait
      · rw [if_pos (by omega), show min (wait + 1) k = k by omega, show min (wait + 1) (k + 1) = k + 1 by omega, sumN]
      · rw [if_neg (by omega), show min (wait + 1) k = wait + 1 by omega, show min (wait + 1) (k + 1) = wait + 1 by omega]; omega
    · rw [if_neg h0, if_neg h0]
      by_cases h1 : q + wait < k
      · rw [if_pos h1, if_neg (by omega), if_pos (by omega)]; omega
      · rw [if_neg h1]
        by_cases h2 : q + wait = k
        · rw [if_pos (by omega), if_pos (by omega), h2]; omega
        · rw [if_neg (by omega), if_neg (by omega)]; omega
theorem begTo_all {ms : List Int} {wait q : Nat} : begTo ms wait ms.length q = begAt ms wait q := by
  rw [begTo_closed, begAt]
  by_cases h0 : q = 0
  · rw [if_pos h0, if_pos h0]
  · rw [if_neg h0, if_neg h0]
    by_cases h1 : q + wait < ms.length
    · rw [if_pos h1]
    · rw [if_neg h1, getD_past (by omega)]
theorem begTo_bd {ms : List Int} {B : Int} (h : ∀ k, 0 ≤ ms.getD k 0 ∧ ms.getD k 0 ≤ B) (wait k q : Nat) : 0 ≤ begTo ms wait k q ∧ begTo ms wait k q ≤ sumN ms k := by
  induction k with
  | zero => simp [begTo, sumN]
  | succ k ih => have := h k; rw [begTo, sumN]; split <;> omega
/-- what is begun up to day i is what is made up to wait days later -/
theorem sumN_beg (ms : List Int) (wait : Nat) : ∀ i, i < ms.length → sumN (begM ms wait) (i + 1) = sumN ms (min (i + wait + 1) ms.length) := by
  intro i
  induction i with
  | zero =>
    intro h
    rw [sumN, sumN, begM, tab_getD _ h, begAt, if_pos rfl, show 0 + wait + 1 = wait + 1 by omega]; omega
  | succ i ih =>
    intro h
    rw [sumN, ih (by omega), begM, tab_getD _ h, begAt, if_neg (by omega)]
    by_cases h1 : i + 1 + wait < ms.length
    · rw [show min (i + wait + 1) ms.length = i + 1 + wait by omega, show min (i + 1 + wait + 1) ms.length = (i + 1 + wait) + 1 by omega, sumN]
    · rw [show min (i + wait + 1) ms.length = ms.length by omega, show min (i + 1 + wait + 1) ms.length = ms.length by omega, getD_past (by omega)]; omega
theorem begM_steps (ms : List Int) (wait more : Nat) : begM (begM ms wait) more = begM ms (wait + more) := by
  conv => lhs; unfold begM
  conv => rhs; unfold begM
  rw [show tab (begAt ms wait) ms.length = begM ms wait from rfl, begM_length]
  refine tab_congr (fun q hq => ?_)
  unfold begAt
  rw [begM_length]
  by_cases h0 : q = 0
  · rw [if_pos h0, if_pos h0]
    have hp : 0 < ms.length := by omega
    rw [show min (more + 1) ms.length = (min (more + 1) ms.length - 1) + 1 by omega, sumN_beg ms wait _ (by omega)]
    congr 1
    omega
  · rw [if_neg h0, if_neg h0]
    by_cases h1 : q + more < ms.length
    · rw [begM, tab_getD _ h1, begAt, if_neg (by omega)]; congr 1; omega
    · rw [getD_past (by rw [begM_length]; omega), getD_past (by omega)]
end Go.Proofs.Ytkjmpkincaainad
namespace Go.Proofs.Ytkjmpkincaainad

-- nets of tokens: dead nets, and when workers begin (plain)
structure Gr where
  n : Nat
  m : Nat
  f : Nat → Nat
  t : Nat → Nat
  c : Nat → Nat
  tm : Nat → Int
structure Gr.Ok (g : Gr) : Prop where
  n4 : g.n ≤ 4
  m7 : g.m ≤ 7
  ways : ∀ k, k < g.m → g.f k < g.n ∧ g.t k < g.n ∧ g.c k ≤ 3
  times : ∀ v, 0 ≤ g.tm v ∧ g.tm v ≤ 9
def wayB (n : Nat) (r : List Int) : Bool := r.length == 3 && (inB 0 ((n : Int) - 1) (r.getD 0 0) && (inB 0 ((n : Int) - 1) (r.getD 1 0) && inB 0 3 (r.getD 2 0)))
def tokM (ts : List Int) (rows : List (List Int)) : Bool := decide (ts.length ≤ 4) && (allIn 0 9 ts && (decide (rows.length ≤ 7) && rows.all (wayB ts.length)))
def grOf (ts : List Int) (rows : List (List Int)) : Gr where
  n := ts.length
  m := rows.length
  f := fun k => ((rows.getD k []).getD 0 0).toNat
  t := fun k => ((rows.getD k []).getD 1 0).toNat
  c := fun k => ((rows.getD k []).getD 2 0).toNat
  tm := fun v => ts.getD v 0
theorem tok_get {ts : List Int} {rows : List (List Int)} (h : tokM ts rows = true) : ts.length ≤ 4 ∧ (∀ v, 0 ≤ ts.getD v 0 ∧ ts.getD v 0 ≤ 9) ∧ rows.length ≤ 7 ∧
    ∀ k r, rows[k]? = some r → r.length = 3 ∧ r.getD 0 0 = ((grOf ts rows).f k : Int) ∧ (grOf ts rows).f k < ts.length ∧ r.getD 1 0 = ((grOf ts rows).t k : Int) ∧ (grOf ts rows).t k < ts.length ∧ r.getD 2 0 = ((grOf ts rows).c k : Int) ∧ (grOf ts rows).c k ≤ 3 := by
  simp only [tokM, Bool.and_eq_true, decide_eq_true_eq] at h
  obtain ⟨h1, h2, h3, h4⟩ := h
  refine ⟨h1, fun v => ?_, h3, fun k r hr => ?_⟩
  · rcases Nat.lt_or_ge v ts.length with hv | hv
    · have := List.all_eq_true.1 h2 _ (List.mem_of_getElem? (get_getD hv))
      simpa [inB] using this
    · rw [getD_past hv]; omega
  · have := List.all_eq_true.1 h4 r (List.mem_of_getElem? hr)
    simp only [wayB, Bool.and_eq_true, beq_iff_eq, inB, decide_eq_true_eq] at this
    obtain ⟨a1, a2, a3, a4⟩ := this
    have e : rows.getD k [] = r := by rw [List.getD_eq_getElem?_getD, hr]; rfl
    simp only [grOf, e]
    refine ⟨a1, by omega, by omega, by omega, by omega, by omega, by omega⟩
theorem gr_ok {ts : List Int} {rows : List (List Int)} (h : tokM ts rows = true) : (grOf ts rows).Ok := by
  obtain ⟨h1, h2, h3, h4⟩ := tok_get h
  refine ⟨h1, h3, fun k hk => ?_, h2⟩
  have hr : rows[k]? = some rows[k] := List.getElem?_eq_getElem hk
  obtain ⟨_, _, b, _, d, _, e⟩ := h4 k _ hr
  exact ⟨b, d, e⟩
theorem tok_way_false {ts : List Int} {rows : List (List Int)} {k : Nat} {r : List Int} (h : rows[k]? = some r) (hr : wayB ts.length r = false) : tokM ts rows = false := by
  have : rows.all (wayB ts.length) = false := by rw [List.all_eq_false]; exact ⟨r, List.mem_of_getElem? h, by simp [hr]⟩
  unfold tokM; rw [this]; simp
theorem tok_time_false {ts : List Int} {rows : List (List Int)} (h : allIn 0 9 ts = false) : tokM ts rows = false := by
  unfold tokM; rw [h]; simp
theorem tok_take {ts : List Int} {rows : List (List Int)} (h : tokM ts rows = true) (n : Nat) : tokM ts (rows.take n) = true := by
  simp only [tokM, Bool.and_eq_true, decide_eq_true_eq] at h ⊢
  obtain ⟨h1, h2, h3, h4⟩ := h
  refine ⟨h1, h2, by rw [List.length_take]; omega, ?_⟩
  rw [List.all_eq_true] at h4 ⊢
  exact fun r hr => h4 r (List.mem_of_mem_take hr)

/-- each worker of S waits for one of S -/
def Gr.Stuck (g : Gr) (S : Nat → Prop) : Prop := ∀ v, S v → v < g.n ∧ ∃ k, k < g.m ∧ g.t k = v ∧ g.c k = 0 ∧ S (g.f k)
def Gr.Dead (g : Gr) : Prop := ∃ S, g.Stuck S ∧ ∃ v, S v
def Gr.deadB (g : Gr) : Bool := (List.range (2 ^ g.n)).any fun M => M != 0 && (List.range g.n).all fun v => !M.testBit v || (List.range g.m).any fun k => g.t k == v && (g.c k == 0 && M.testBit (g.f k))
theorem mask_of (S : Nat → Prop) : ∀ n, ∃ M, M < 2 ^ n ∧ ∀ v, v < n → (M.testBit v = true ↔ S v) := by
  intro n
  induction n with
  | zero => exact ⟨0, by simp, fun v hv => by omega⟩
  | succ n ih =>
    obtain ⟨M, h1, h2⟩ := ih
    by_cases hS : S n
    · refine ⟨M ||| 2 ^ n, Nat.or_lt_two_pow (by rw [Nat.pow_succ]; omega) (by rw [Nat.pow_succ]; have := Nat.two_pow_pos n; omega), fun v hv => ?_⟩
      rw [Nat.testBit_or, Nat.testBit_two_pow]
      rcases Nat.lt_or_eq_of_le (Nat.le_of_lt_succ hv) with h | rfl
      · rw [decide_eq_false (by omega : ¬ n = v), Bool.or_false]; exact h2 v h
      · simp [hS]
    · refine ⟨M, by rw [Nat.pow_succ]; omega, fun v hv => ?_⟩
      rcases Nat.lt_or_eq_of_le (Nat.le_of_lt_succ hv) with h | rfl
      · exact h2 v h
      · rw [Nat.testBit_lt_two_pow h1]; simp [hS]
theorem dead_iff {g : Gr} (hg : g.Ok) : g.deadB = true ↔ g.Dead := by
  unfold Gr.deadB
  rw [List.any_eq_true]
  constructor
  · rintro ⟨M, hM, h⟩
    simp only [Bool.and_eq_true, bne_iff_ne, ne_eq, List.all_eq_true, List.mem_range, Bool.or_eq_true, Bool.not_eq_true', List.any_eq_true, beq_iff_eq] at h
    obtain ⟨h0, h1⟩ := h
    refine ⟨fun v => v < g.n ∧ M.testBit v = true, fun v hv => ⟨hv.1, ?_⟩, ?_⟩
    · rcases h1 v hv.1 with h | ⟨k, hk, e1, e2, e3⟩
      · rw [hv.2] at h; cases h
      · exact ⟨k, hk, e1, e2, (hg.ways k hk).1, e3⟩
    · obtain ⟨i, hi⟩ := Nat.exists_testBit_of_ne_zero h0
      refine ⟨i, ?_, hi⟩
      rcases Nat.lt_or_ge i g.n with h | h
      · exact h
      · rw [Nat.testBit_lt_two_pow (Nat.lt_of_lt_of_le (List.mem_range.1 hM) (Nat.pow_le_pow_right (by omega) h))] at hi; cases hi
  · rintro ⟨S, hS, v, hv⟩
    obtain ⟨M, h1, h2⟩ := mask_of S g.n
    refine ⟨M, List.mem_range.2 h1, ?_⟩
    simp only [Bool.and_eq_true, bne_iff_ne, ne_eq, List.all_eq_true, List.mem_range, Bool.or_eq_true, Bool.not_eq_true', List.any_eq_true, beq_iff_eq]
    refine ⟨?_, fun u hu => ?_⟩
    · rintro rfl
      have := (h2 v (hS v hv).1).2 hv
      simp at this
    · cases hb : M.testBit u
      · exact .inl rfl
      · right
        obtain ⟨_, k, hk, e1, e2, e3⟩ := hS u ((h2 u hu).1 hb)
        exact ⟨k, hk, e1, e2, (h2 _ (hg.ways k hk).1).2 e3⟩
theorem rank_list {g : Gr} (hd : ¬ g.Dead) : ∀ (q : Nat) (L : List Nat), L.length = q → L.Nodup → (∀ v ∈ L, v < g.n) → ∃ rk : Nat → Nat, (∀ v ∈ L, rk v < q) ∧ ∀ k, k < g.m → g.c k = 0 → g.f k ∈ L → g.t k ∈ L → rk (g.f k) < rk (g.t k) := by
  intro q
  induction q with
  | zero => intro L hl _ _; obtain rfl := List.length_eq_zero_iff.1 hl; exact ⟨fun _ => 0, (fun v hv => by cases hv), (fun k _ _ h => by cases h)⟩
  | succ q ih =>
    intro L hl hn hL
    have hex : ∃ v, v ∈ L ∧ ∀ k, k < g.m → g.t k = v → g.c k = 0 → ¬ g.f k ∈ L := by
      refine Classical.byContradiction fun h => hd ⟨(· ∈ L), fun v hv => ⟨hL v hv, ?_⟩, ?_⟩
      · refine Classical.byContradiction fun h2 => h ⟨v, hv, fun k hk e1 e2 e3 => h2 ⟨k, hk, e1, e2, e3⟩⟩
      · cases L with
        | nil => simp at hl
        | cons a l => exact ⟨a, by simp⟩
    obtain ⟨v, hv, hfree⟩ := hex
    obtain ⟨rk, h1, h2⟩ := ih (L.erase v) (by rw [List.length_erase_of_mem hv]; omega) (hn.erase v) (fun u hu => hL u (List.mem_of_mem_erase hu))
    refine ⟨fun u => if u = v then 0 else rk u + 1, fun u hu => ?_, fun k hk hc hf ht => ?_⟩
    · dsimp only
      split
      · omega
      · rename_i hne
        have := h1 u ((List.mem_erase_of_ne hne).2 hu)
        omega
    · dsimp only
      have htv : g.t k ≠ v := fun e => hfree k hk e hc hf
      rw [if_neg htv]
      split
      · omega
      · rename_i hne
        have := h2 k hk hc ((List.mem_erase_of_ne hne).2 hf) ((List.mem_erase_of_ne htv).2 ht)
        omega
/-- a rank that goes up along ways without tokens -/
def Gr.Rank (g : Gr) (rk : Nat → Nat) : Prop := (∀ v, v < g.n → rk v < g.n) ∧ ∀ k, k < g.m → g.c k = 0 → rk (g.f k) < rk (g.t k)
theorem rank_of {g : Gr} (hg : g.Ok) (hd : ¬ g.Dead) : ∃ rk, g.Rank rk := by
  obtain ⟨rk, h1, h2⟩ := rank_list hd g.n (List.range g.n) List.length_range List.nodup_range (fun v hv => List.mem_range.1 hv)
  exact ⟨rk, fun v hv => h1 v (List.mem_range.2 hv), fun k hk hc => h2 k hk hc (List.mem_range.2 (hg.ways k hk).1) (List.mem_range.2 (hg.ways k hk).2.1)⟩
theorem dead_of_rank {g : Gr} {rk : Nat → Nat} (h : g.Rank rk) : ¬ g.Dead := by
  rintro ⟨S, hS, v, hv⟩
  have key : ∀ q v, rk v < q → ¬ S v := by
    intro q
    induction q with
    | zero => intro v h; omega
    | succ q ih =>
      intro v hq hv
      obtain ⟨_, k, hk, rfl, e2, e3⟩ := hS v hv
      exact ih (g.f k) (by have := h.2 k hk e2; omega) e3
  exact key _ v (Nat.lt_succ_self _) hv

/-- the greatest of base and of those that are told -/
def mxP (P : Nat → Bool) (h : Nat → Int) (base : Int) : Nat → Int
  | 0 => base
  | j + 1 => if P j = true then max (mxP P h base j) (h j) else mxP P h base j
theorem mxP_base (P : Nat → Bool) (h : Nat → Int) (base : Int) (j : Nat) : base ≤ mxP P h base j := by
  induction j with
  | zero => exact Int.le_refl _
  | succ j ih => rw [mxP]; split <;> omega
theorem mxP_ge {P : Nat → Bool} {h : Nat → Int} {base : Int} {j k : Nat} (hk : k < j) (hp : P k = true) : h k ≤ mxP P h base j := by
  induction j with
  | zero => omega
  | succ j ih =>
    rw [mxP]
    rcases Nat.lt_or_eq_of_le (Nat.le_of_lt_succ hk) with h1 | rfl
    · have := ih h1; split <;> omega
    · rw [if_pos hp]; omega
theorem mxP_le {P : Nat → Bool} {h : Nat → Int} {base x : Int} {j : Nat} (h0 : base ≤ x) (h1 : ∀ k, k < j → P k = true → h k ≤ x) : mxP P h base j ≤ x := by
  induction j with
  | zero => exact h0
  | succ j ih =>
    have := ih (fun k hk => h1 k (by omega))
    rw [mxP]; split
    · rename_i hp; have := h1 j (by omega) hp; omega
    · exact this
theorem mxP_at (P : Nat → Bool) (h : Nat → Int) (base : Int) (j : Nat) : mxP P h base j = base ∨ ∃ k, k < j ∧ P k = true ∧ mxP P h base j = h k := by
  induction j with
  | zero => exact .inl rfl
  | succ j ih =>
    rw [mxP]; split
    · rename_i hp
      rcases Int.le_total (mxP P h base j) (h j) with e | e
      · right; exact ⟨j, by omega, hp, by omega⟩
      · rw [Int.max_eq_left e]
        rcases ih with h1 | ⟨k, hk, hp, h1⟩
        · exact .inl h1
        · exact .inr ⟨k, by omega, hp, h1⟩
    · rcases ih with h1 | ⟨k, hk, hp, h1⟩
      · exact .inl h1
      · exact .inr ⟨k, by omega, hp, h1⟩
theorem mxP_congr {P Q : Nat → Bool} {h h' : Nat → Int} {base : Int} {j : Nat} (e : ∀ k, k < j → P k = Q k ∧ (P k = true → h k = h' k)) : mxP P h base j = mxP Q h' base j := by
  induction j with
  | zero => rfl
  | succ j ih =>
    rw [mxP, mxP, ih (fun k hk => e k (by omega)), ← (e j (by omega)).1]
    split
    · rename_i hp; rw [(e j (by omega)).2 hp]
    · rfl

def Gr.from (g : Gr) (r v k : Nat) : Bool := decide (g.t k = v ∧ g.c k ≤ r)
def Gr.stepB (g : Gr) (X : Nat → Nat → Int) (r v : Nat) : Int := mxP (g.from r v) (fun k => X (r - g.c k) (g.f k) + g.tm (g.f k)) 0 g.m
def Gr.bF (g : Gr) : Nat → Nat → Nat → Int
  | 0, _, _ => 0
  | q + 1, r, v => g.stepB (g.bF q) r v
def Gr.b (g : Gr) (r v : Nat) : Int := g.bF 200 r v
theorem less_from {g : Gr} (hg : g.Ok) {rk : Nat → Nat} (hr : g.Rank rk) {r v k : Nat} (hk : k < g.m) (h : g.from r v k = true) : (r - g.c k) * g.n + rk (g.f k) < r * g.n + rk v := by
  unfold Gr.from at h
  obtain ⟨rfl, hc⟩ := of_decide_eq_true h
  by_cases h0 : g.c k = 0
  · have := hr.2 k hk h0
    rw [h0, Nat.sub_zero]; omega
  · have h1 := hr.1 _ (hg.ways k hk).1
    obtain ⟨q, rfl⟩ : ∃ q, r = q + g.c k := ⟨r - g.c k, by omega⟩
    rw [Nat.add_sub_cancel, Nat.add_mul]
    have : g.n ≤ g.c k * g.n := Nat.le_mul_of_pos_left _ (by omega)
    omega
theorem bF_stable {g : Gr} (hg : g.Ok) {rk : Nat → Nat} (hr : g.Rank rk) : ∀ (q q' r v : Nat), r * g.n + rk v < q → r * g.n + rk v < q' → g.bF q r v = g.bF q' r v := by
  intro q
  induction q with
  | zero => intro q' r v h; omega
  | succ q ih =>
    intro q' r v h h'
    obtain ⟨q', rfl⟩ : ∃ p, q' = p + 1 := ⟨q' - 1, by omega⟩
    show g.stepB (g.bF q) r v = g.stepB (g.bF q') r v
    refine mxP_congr fun k hk => ⟨rfl, fun hp => ?_⟩
    have := less_from hg hr hk hp
    rw [ih q' (r - g.c k) (g.f k) (by omega) (by omega)]
theorem b_eq {g : Gr} (hg : g.Ok) {rk : Nat → Nat} (hr : g.Rank rk) {r v : Nat} (h40 : r ≤ 40) (hv : v < g.n) : g.b r v = g.stepB g.b r v := by
  have hn := hg.n4
  have h1 := hr.1 v hv
  have h2 : r * g.n ≤ 40 * 4 := Nat.mul_le_mul h40 hn
  show g.stepB (g.bF 199) r v = g.stepB g.b r v
  refine mxP_congr fun k hk => ⟨rfl, fun hp => ?_⟩
  have := less_from hg hr hk hp
  show _ = g.bF 200 _ _ + _
  rw [bF_stable hg hr 199 200 (r - g.c k) (g.f k) (by omega) (by omega)]
theorem b_unique {g : Gr} (hg : g.Ok) {rk : Nat → Nat} (hr : g.Rank rk) {X : Nat → Nat → Int} {R : Nat} (hR : R ≤ 41) (hX : ∀ r v, r < R → v < g.n → X r v = g.stepB X r v) : ∀ r v, r < R → v < g.n → X r v = g.b r v := by
  have key : ∀ q r v, r * g.n + rk v < q → r < R → v < g.n → X r v = g.b r v := by
    intro q
    induction q with
    | zero => intro r v h; omega
    | succ q ih =>
      intro r v h hrR hv
      rw [hX r v hrR hv, b_eq hg hr (by omega) hv]
      refine mxP_congr fun k hk => ⟨rfl, fun hp => ?_⟩
      have := less_from hg hr hk hp
      rw [ih (r - g.c k) (g.f k) (by omega) (by omega) (hg.ways k hk).1]
  exact fun r v => key _ r v (Nat.lt_succ_self _)
theorem b_nn (g : Gr) (r v : Nat) : 0 ≤ g.b r v := by
  show 0 ≤ g.stepB _ r v
  exact mxP_base _ _ _ _
theorem b_ge {g : Gr} (hg : g.Ok) {rk : Nat → Nat} (hr : g.Rank rk) {r k : Nat} (h40 : r ≤ 40) (hk : k < g.m) (hc : g.c k ≤ r) : g.b (r - g.c k) (g.f k) + g.tm (g.f k) ≤ g.b r (g.t k) := by
  rw [b_eq hg hr h40 (hg.ways k hk).2.1]
  exact mxP_ge (h := fun k => g.b (r - g.c k) (g.f k) + g.tm (g.f k)) hk (decide_eq_true ⟨rfl, hc⟩)
theorem b_le {g : Gr} (hg : g.Ok) {rk : Nat → Nat} (hr : g.Rank rk) (Y : Nat → Nat → Int) {R : Nat} (hR : R ≤ 41) (h0 : ∀ r v, r < R → v < g.n → 0 ≤ Y r v) (h1 : ∀ r k, r < R → k < g.m → g.c k ≤ r → g.b (r - g.c k) (g.f k) ≤ Y (r - g.c k) (g.f k) → g.b (r - g.c k) (g.f k) + g.tm (g.f k) ≤ Y r (g.t k)) : ∀ r v, r < R → v < g.n → g.b r v ≤ Y r v := by
  have key : ∀ q r v, r * g.n + rk v < q → r < R → v < g.n → g.b r v ≤ Y r v := by
    intro q
    induction q with
    | zero => intro r v h; omega
    | succ q ih =>
      intro r v h hrR hv
      rw [b_eq hg hr (by omega) hv]
      refine mxP_le (h0 r v hrR hv) fun k hk hp => ?_
      have hl := less_from hg hr hk hp
      obtain ⟨rfl, hc⟩ := of_decide_eq_true hp
      exact h1 r k hrR hk hc (ih _ _ (by omega) (by omega) (hg.ways k hk).1)
  exact fun r v => key _ r v (Nat.lt_succ_self _)
theorem b_mono {g : Gr} (hg : g.Ok) {rk : Nat → Nat} (hr : g.Rank rk) : ∀ r v, r < 40 → v < g.n → g.b r v ≤ g.b (r + 1) v := by
  refine b_le hg hr (fun r v => g.b (r + 1) v) (R := 40) (by omega) (fun r v _ _ => b_nn g _ v) fun r k hrR hk hc hi => ?_
  have h2 := b_ge hg hr (r := r + 1) (by omega) hk (by omega)
  rw [show r + 1 - g.c k = r - g.c k + 1 by omega] at h2
  omega
theorem b_mono_le {g : Gr} (hg : g.Ok) {rk : Nat → Nat} (hr : g.Rank rk) {v : Nat} (hv : v < g.n) : ∀ (d r : Nat), r + d ≤ 40 → g.b r v ≤ g.b (r + d) v := by
  intro d
  induction d with
  | zero => intro r _; exact Int.le_refl _
  | succ d ih =>
    intro r h
    have h1 := ih r (by omega)
    have h2 := b_mono hg hr (r + d) v (by omega) hv
    rw [show r + (d + 1) = r + d + 1 by omega]
    omega
/-- a bound -/
theorem b_bd {g : Gr} (hg : g.Ok) {rk : Nat → Nat} (hr : g.Rank rk) : ∀ r v, r ≤ 40 → v < g.n → g.b r v ≤ 9 * ((r : Int) * (g.n : Int) + (rk v : Int)) := by
  intro r v h hv
  refine b_le hg hr (fun r v => 9 * ((r : Int) * (g.n : Int) + (rk v : Int))) (R := 41) (by omega) (fun r v _ _ => ?_) (fun r k hrR hk hc hi => ?_) r v (by omega) hv
  · have : 0 ≤ (r : Int) * (g.n : Int) := Int.mul_nonneg (by omega) (by omega)
    omega
  · have h2 := less_from hg hr hk (r := r) (v := g.t k) (decide_eq_true ⟨rfl, hc⟩)
    have h3 := hg.times (g.f k)
    have h4 : (((r - g.c k : Nat) : Int) * (g.n : Int) + (rk (g.f k) : Int)) < (r : Int) * (g.n : Int) + (rk (g.t k) : Int) := by exact_mod_cast h2
    omega
theorem b_bd2 {g : Gr} (hg : g.Ok) {rk : Nat → Nat} (hr : g.Rank rk) {r v : Nat} (h40 : r ≤ 40) (hv : v < g.n) : g.b r v ≤ 1500 := by
  have h1 := b_bd hg hr r v h40 hv
  have h2 := hr.1 v hv
  have h3 := hg.n4
  have h4 : (r : Int) * (g.n : Int) ≤ 40 * 4 := by exact_mod_cast Nat.mul_le_mul h40 h3
  omega
/-- with more tokens none begins later -/
theorem b_more {g h : Gr} (hg : g.Ok) (hh : h.Ok) {rk rk' : Nat → Nat} (hr : g.Rank rk) (hr' : h.Rank rk') (en : h.n = g.n) (em : h.m = g.m) (ef : ∀ k, k < g.m → h.f k = g.f k ∧ h.t k = g.t k ∧ g.c k ≤ h.c k) (et : ∀ v, h.tm v = g.tm v) : ∀ r v, r ≤ 40 → v < g.n → h.b r v ≤ g.b r v := by
  intro r v h40 hv
  refine b_le hh hr' (fun r v => g.b r v) (R := 41) (by omega) (fun r v _ _ => b_nn g r v) (fun r k hrR hk hc hi => ?_) r v (by omega) (by omega)
  rw [em] at hk
  obtain ⟨e1, e2, e3⟩ := ef k hk
  rw [e1] at hi ⊢
  rw [e2, et]
  have h1 := b_ge hg hr (r := r) (by omega) hk (by omega)
  have h2 := b_mono_le hg hr (hg.ways k hk).1 (h.c k - g.c k) (r - h.c k) (by omega)
  rw [show r - h.c k + (h.c k - g.c k) = r - g.c k by omega] at h2
  omega
end Go.Proofs.Ytkjmpkincaainad
