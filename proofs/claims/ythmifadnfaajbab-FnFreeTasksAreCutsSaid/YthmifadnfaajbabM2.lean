import Derived.Test.YthmifadnfaajbabM0
import Derived.Test.YthmifadnfaajbabM1
namespace Go.Proofs.Ythmifadnfaajbab
open Go.RowKit

def validDaysM (xs : List Int) : Bool := decide (xs.length ≤ 8) && allIn 0 20 xs
def validMadeM (xs : List Int) : Bool := decide (xs.length ≤ 8) && allIn 0 160 xs
theorem allIn_get {lo hi : Int} {xs : List Int} (h : allIn lo hi xs = true) {k : Nat} {x : Int} (hx : xs[k]? = some x) : lo ≤ x ∧ x ≤ hi := by
  have := List.all_eq_true.1 h x (List.mem_of_getElem? hx)
  simpa [inB] using this
theorem allIn_getD {lo hi : Int} {xs : List Int} (h : allIn lo hi xs = true) (h0 : lo ≤ 0) (h1 : 0 ≤ hi) (k : Nat) : lo ≤ xs.getD k 0 ∧ xs.getD k 0 ≤ hi := by
  rcases Nat.lt_or_ge k xs.length with h' | h'
  · exact allIn_get h (get_getD h')
  · rw [getD_past h']; omega
theorem allIn_of {lo hi : Int} {xs : List Int} (h : ∀ k, k < xs.length → lo ≤ xs.getD k 0 ∧ xs.getD k 0 ≤ hi) : allIn lo hi xs = true := by
  unfold allIn
  rw [List.all_eq_true]
  intro x hx
  obtain ⟨k, hk, rfl⟩ := List.mem_iff_getElem.1 hx
  have := h k hk
  rw [List.getD_eq_getElem?_getD, List.getElem?_eq_getElem hk] at this
  simpa [inB] using this
theorem validDays_len {xs : List Int} (h : validDaysM xs = true) : xs.length ≤ 8 := by simp [validDaysM] at h; exact h.1
theorem validDays_all {xs : List Int} (h : validDaysM xs = true) : allIn 0 20 xs = true := by simp [validDaysM] at h; exact h.2
theorem validDays_at {xs : List Int} (h : validDaysM xs = true) (k : Nat) : 0 ≤ xs.getD k 0 ∧ xs.getD k 0 ≤ 20 := allIn_getD (validDays_all h) (by omega) (by omega) k
theorem validMade_len {xs : List Int} (h : validMadeM xs = true) : xs.length ≤ 8 := by simp [validMadeM] at h; exact h.1
theorem validMade_all {xs : List Int} (h : validMadeM xs = true) : allIn 0 160 xs = true := by simp [validMadeM] at h; exact h.2
theorem validMade_at {xs : List Int} (h : validMadeM xs = true) (k : Nat) : 0 ≤ xs.getD k 0 ∧ xs.getD k 0 ≤ 160 := allIn_getD (validMade_all h) (by omega) (by omega) k
theorem validDays_mk {xs : List Int} (hl : xs.length ≤ 8) (h : ∀ k, k < xs.length → 0 ≤ xs.getD k 0 ∧ xs.getD k 0 ≤ 20) : validDaysM xs = true := by simp [validDaysM, hl, allIn_of h]
theorem validMade_mk {xs : List Int} (hl : xs.length ≤ 8) (h : ∀ k, k < xs.length → 0 ≤ xs.getD k 0 ∧ xs.getD k 0 ≤ 160) : validMadeM xs = true := by simp [validMadeM, hl, allIn_of h]

/-- the sum of the first k -/
def sumN (xs : List Int) : Nat → Int
  | 0 => 0
  | k + 1 => sumN xs k + xs.getD k 0
theorem totalM_take (xs : List Int) (k : Nat) (hk : k ≤ xs.length) : totalM (xs.take k) = sumN xs k := by
  induction k with
  | zero => rfl
  | succ k ih => rw [take_get (get_getD (xs := xs) (k := k) (by omega)), totalM_snoc, ih (by omega), sumN]
theorem totalM_eq (xs : List Int) : totalM xs = sumN xs xs.length := by
  have := totalM_take xs xs.length (Nat.le_refl _)
  rwa [List.take_length] at this
theorem sumN_tab (f : Nat → Int) (n k : Nat) (hk : k ≤ n) : sumN (tab f n) k = sumN (tab f k) k := by
  induction k with
  | zero => rfl
  | succ k ih => 
    have e : ∀ j, j ≤ k → sumN (tab f (k + 1)) j = sumN (tab f n) j := by
      intro j
      induction j with
      | zero => intro _; rfl
      | succ j ihj => intro hj; rw [sumN, sumN, ihj (by omega), tab_getD f (by omega), tab_getD f (by omega)]
    rw [sumN, sumN, e k (Nat.le_refl _), tab_getD f (by omega), tab_getD f (by omega)]
theorem sumN_bd {xs : List Int} {B : Int} (h : ∀ k, 0 ≤ xs.getD k 0 ∧ xs.getD k 0 ≤ B) (k : Nat) : 0 ≤ sumN xs k ∧ sumN xs k ≤ B * (k : Int) := by
  induction k with
  | zero => simp [sumN]
  | succ k ih =>
    have := h k
    have e : B * ((k + 1 : Nat) : Int) = B * (k : Int) + B := by push_cast; rw [Int.mul_add, Int.mul_one]
    rw [sumN, e]; omega
/-- the sum of j numbers from place a on -/
theorem totalM_part (xs : List Int) (a j : Nat) (h : a + j ≤ xs.length) : totalM ((xs.drop a).take j) = sumN xs (a + j) - sumN xs a := by
  induction j with
  | zero => simp [totalM]
  | succ j ih =>
    have hx : (xs.drop a)[j]? = some (xs.getD (a + j) 0) := by rw [List.getElem?_drop]; exact get_getD (by omega)
    rw [take_get hx, totalM_snoc, ih (by omega), show a + (j + 1) = (a + j) + 1 by omega, sumN]; omega

/-- the stock that is left behind k days -/
def leftTo (xs : List Int) (s : Int) : Nat → Int
  | 0 => s
  | k + 1 => leftTo xs s k - min (leftTo xs s k) (xs.getD k 0)
def netAt (xs : List Int) (s : Int) (q : Nat) : Int := xs.getD q 0 - min (leftTo xs s q) (xs.getD q 0)
def netM (xs : List Int) (s : Int) : List Int := tab (netAt xs s) xs.length
theorem leftTo_bd {xs : List Int} {s : Int} (hs : 0 ≤ s) (h : ∀ k, 0 ≤ xs.getD k 0) (k : Nat) : 0 ≤ leftTo xs s k ∧ leftTo xs s k ≤ s := by
  induction k with
  | zero => exact ⟨hs, Int.le_refl _⟩
  | succ k ih => have := h k; rw [leftTo]; omega
theorem netAt_bd {xs : List Int} {s : Int} (hs : 0 ≤ s) (h : ∀ k, 0 ≤ xs.getD k 0) (k : Nat) : 0 ≤ netAt xs s k ∧ netAt xs s k ≤ xs.getD k 0 := by
  have := h k
  have := leftTo_bd hs h k
  unfold netAt; omega
theorem netM_length (xs : List Int) (s : Int) : (netM xs s).length = xs.length := tab_length _ _
theorem netM_valid {xs : List Int} {s : Int} (hv : validDaysM xs = true) (hs : 0 ≤ s) : validDaysM (netM xs s) = true := by
  refine validDays_mk (by rw [netM_length]; exact validDays_len hv) (fun k hk => ?_)
  rw [netM_length] at hk
  have h1 := netAt_bd hs (fun q => (validDays_at hv q).1) k
  have h2 := validDays_at hv k
  rw [netM, tab_getD _ hk]; omega
theorem leftTo_closed {xs : List Int} {s : Int} (hs : 0 ≤ s) (h : ∀ k, 0 ≤ xs.getD k 0) (k : Nat) : leftTo xs s k = max (s - sumN xs k) 0 := by
  induction k with
  | zero => simp [leftTo, sumN]; omega
  | succ k ih => have := h k; rw [leftTo, sumN, ih]; omega
theorem sumN_net {xs : List Int} {s : Int} (k : Nat) (hk : k ≤ xs.length) : sumN (netM xs s) k = sumN xs k - (s - leftTo xs s k) := by
  induction k with
  | zero => simp [leftTo, sumN]
  | succ k ih => rw [sumN, ih (by omega), netM, tab_getD _ (by omega), netAt, sumN, leftTo]; omega
theorem leftTo_steps {xs : List Int} {s t : Int} (hs : 0 ≤ s) (ht : 0 ≤ t) (h : ∀ k, 0 ≤ xs.getD k 0) (k : Nat) (hk : k ≤ xs.length) :
    leftTo xs (s + t) k = leftTo xs s k + leftTo (netM xs s) t k ∧ 0 ≤ leftTo (netM xs s) t k := by
  induction k with
  | zero => simp [leftTo]; omega
  | succ k ih =>
    obtain ⟨i1, i2⟩ := ih (by omega)
    have := h k
    have := leftTo_bd hs h k
    rw [leftTo, leftTo, leftTo, i1]
    have e : (netM xs s).getD k 0 = netAt xs s k := by rw [netM, tab_getD _ (by omega)]
    rw [e, netAt]; omega
theorem netM_steps {xs : List Int} {s t : Int} (hs : 0 ≤ s) (ht : 0 ≤ t) (h : ∀ k, 0 ≤ xs.getD k 0) : netM (netM xs s) t = netM xs (s + t) := by
  conv => lhs; unfold netM
  conv => rhs; unfold netM
  rw [show (tab (netAt xs s) xs.length) = netM xs s from rfl, netM_length]
  refine tab_congr (fun q hq => ?_)
  obtain ⟨i1, i2⟩ := leftTo_steps hs ht h q (by omega)
  have := h q
  have := leftTo_bd hs h q
  have e : (netM xs s).getD q 0 = netAt xs s q := by rw [netM, tab_getD _ (by omega)]
  unfold netAt at *
  rw [e, i1]; omega

/-- what is there behind k days -/
def stockTo (ms ws : List Int) (s : Int) : Nat → Int
  | 0 => s
  | k + 1 => stockTo ms ws s k + ms.getD k 0 - ws.getD k 0
theorem stockTo_closed (ms ws : List Int) (s : Int) (k : Nat) : stockTo ms ws s k = s + sumN ms k - sumN ws k := by
  induction k with
  | zero => simp [stockTo, sumN]
  | succ k ih => rw [stockTo, sumN, sumN, ih]; omega
def stocksOk (ms ws : List Int) (s : Int) (n : Nat) : Bool := (List.range n).all (fun q => decide (0 ≤ stockTo ms ws s (q + 1)))
theorem stocksOk_succ (ms ws : List Int) (s : Int) (n : Nat) : stocksOk ms ws s (n + 1) = (stocksOk ms ws s n && decide (0 ≤ stockTo ms ws s (n + 1))) := by simp [stocksOk, List.range_succ]
theorem stocksOk_iff (ms ws : List Int) (s : Int) (n : Nat) : stocksOk ms ws s n = true ↔ ∀ q, q < n → 0 ≤ stockTo ms ws s (q + 1) := by simp [stocksOk]
theorem stocksOk_not {ms ws : List Int} {s : Int} {n q : Nat} (hq : q < n) (h : ¬ 0 ≤ stockTo ms ws s (q + 1)) : stocksOk ms ws s n = false := by
  cases e : stocksOk ms ws s n
  · rfl
  · exact absurd ((stocksOk_iff ms ws s n).1 e q hq) h
def stocksIn (s : Int) (ms ws : List Int) : Bool := inB 0 20 s && validMadeM ms && validDaysM ws && decide (ms.length = ws.length)
def stocksFine (s : Int) (ms ws : List Int) : Bool := stocksIn s ms ws && stocksOk ms ws s ws.length
def stocksM (s : Int) (ms ws : List Int) : List Int := if stocksFine s ms ws then tab (fun q => stockTo ms ws s (q + 1)) ws.length else []
theorem stockTo_bd {ms ws : List Int} {s : Int} (h0 : 0 ≤ s) (h1 : s ≤ 20) (hm : validMadeM ms = true) (hw : validDaysM ws = true) (k : Nat) : -(20 * (k : Int)) ≤ stockTo ms ws s k ∧ stockTo ms ws s k ≤ 20 + 160 * (k : Int) := by
  rw [stockTo_closed]
  have a := sumN_bd (validMade_at hm) k
  have b := sumN_bd (validDays_at hw) k
  omega

/-- the day on which what is wanted on day i is made, or -1 -/
def stepAt (xs : List Int) (days : Int) (i : Nat) (a : Int) : Int :=
  let a1 := if 0 ≤ a ∧ days ≤ (i : Int) - a then -1 else a
  if a1 < 0 ∧ 0 < xs.getD i 0 then (i : Int) else a1
theorem stepAt_free {xs : List Int} {days : Int} {i : Nat} {a : Int} (ha : -1 ≤ a) (hf : a < 0 ∨ days ≤ (i : Int) - a) : stepAt xs days i a = if 0 < xs.getD i 0 then (i : Int) else -1 := by
  simp only [stepAt]
  (repeat' split) <;> omega
theorem stepAt_busy {xs : List Int} {days : Int} {i : Nat} {a : Int} (ha : 0 ≤ a) (hf : (i : Int) - a < days) : stepAt xs days i a = a := by
  simp only [stepAt]
  (repeat' split) <;> omega
theorem stepAt_lo {xs : List Int} {days : Int} {i : Nat} {a : Int} (ha : -1 ≤ a) (hi : a ≤ (i : Int)) : -1 ≤ stepAt xs days i a ∧ stepAt xs days i a ≤ (i : Int) := by
  simp only [stepAt]
  (repeat' split) <;> omega
theorem stepAt_none {xs : List Int} {days : Int} {i : Nat} {a : Int} (h : stepAt xs days i a < 0) : xs.getD i 0 ≤ 0 := by
  simp only [stepAt] at h
  (repeat' split at h) <;> omega
def atTo (xs : List Int) (days : Int) : Nat → Int
  | 0 => -1
  | i + 1 => stepAt xs days i (atTo xs days i)
def outTo (xs : List Int) (days : Int) : Nat → Nat → Int
  | 0, _ => 0
  | k + 1, q => outTo xs days k q + (if atTo xs days (k + 1) = (q : Int) then xs.getD k 0 else 0)
def lotsM (xs : List Int) (days : Int) : List Int := tab (outTo xs days xs.length) xs.length
theorem atTo_bd (xs : List Int) (days : Int) (k : Nat) : -1 ≤ atTo xs days k ∧ atTo xs days k < max (k : Int) 0 := by
  induction k with
  | zero => simp [atTo]
  | succ k ih => have := stepAt_lo (xs := xs) (days := days) (i := k) (a := atTo xs days k) (by omega) (by omega); rw [atTo]; omega
theorem atTo_none {xs : List Int} {days : Int} {k : Nat} (h0 : 0 ≤ xs.getD k 0) (h : atTo xs days (k + 1) < 0) : xs.getD k 0 = 0 := by
  have := stepAt_none h; omega
theorem outTo_bd {xs : List Int} {days B : Int} (h : ∀ k, 0 ≤ xs.getD k 0 ∧ xs.getD k 0 ≤ B) (k q : Nat) : 0 ≤ outTo xs days k q ∧ outTo xs days k q ≤ sumN xs k := by
  induction k with
  | zero => simp [outTo, sumN]
  | succ k ih => have := h k; rw [outTo, sumN]; split <;> omega
theorem outTo_late (xs : List Int) (days : Int) (k q : Nat) (h : k ≤ q) : outTo xs days k q = 0 := by
  induction k with
  | zero => rfl
  | succ k ih =>
    have := atTo_bd xs days (k + 1)
    rw [outTo, ih (by omega), if_neg (by omega)]; rfl
theorem lotsM_length (xs : List Int) (days : Int) : (lotsM xs days).length = xs.length := tab_length _ _
/-- no lot goes on on day k -/
def freeAt (xs : List Int) (days : Int) (k : Nat) : Prop := atTo xs days k < 0 ∨ days ≤ (k : Int) - atTo xs days k
theorem free_none {xs : List Int} {days : Int} {k : Nat} (hf : freeAt xs days k) (hx : xs.getD k 0 = 0) : freeAt xs days (k + 1) ∧ ∀ q, outTo xs days (k + 1) q = outTo xs days k q := by
  have hb := atTo_bd xs days k
  have e : atTo xs days (k + 1) = -1 := by rw [atTo, stepAt_free hb.1 hf, hx]; rfl
  exact ⟨Or.inl (by omega), fun q => by rw [outTo, hx]; simp⟩
theorem free_lot {xs : List Int} {days : Int} {k : Nat} (hf : freeAt xs days k) (hx : 0 < xs.getD k 0) : ∀ (j : Nat), 1 ≤ j → (j : Int) ≤ days →
    atTo xs days (k + j) = (k : Int) ∧ ∀ q, outTo xs days (k + j) q = outTo xs days k q + (if q = k then sumN xs (k + j) - sumN xs k else 0) := by
  intro j
  induction j with
  | zero => intro h; omega
  | succ j ih =>
    intro _ hj
    have hb := atTo_bd xs days k
    have ea : atTo xs days (k + (j + 1)) = (k : Int) := by
      by_cases h0 : j = 0
      · subst h0
        rw [show k + (0 + 1) = k + 1 by omega, atTo, stepAt_free hb.1 hf, if_pos hx]
      · obtain ⟨i1, _⟩ := ih (by omega) (by omega)
        rw [show k + (j + 1) = (k + j) + 1 by omega, atTo, i1, stepAt_busy (by omega) (by omega)]
    refine ⟨ea, fun q => ?_⟩
    have i2 : outTo xs days (k + j) q = outTo xs days k q + (if q = k then sumN xs (k + j) - sumN xs k else 0) := by
      by_cases h0 : j = 0
      · subst h0; simp
      · exact (ih (by omega) (by omega)).2 q
    rw [show k + (j + 1) = (k + j) + 1 by omega] at ea ⊢
    rw [outTo, ea, i2, sumN]
    by_cases e : q = k
    · subst e; simp; omega
    · rw [if_neg e, if_neg e, if_neg (by omega)]; omega
theorem free_end {xs : List Int} {days : Int} {k : Nat} (hf : freeAt xs days k) (hx : 0 < xs.getD k 0) (hd : 1 ≤ days) : freeAt xs days (k + days.toNat) := by
  right
  obtain ⟨h, _⟩ := free_lot hf hx days.toNat (by omega) (by omega)
  rw [h]; omega
/-- what is made on the first j days is what is wanted on them, or more -/
theorem sumN_lots_le {xs : List Int} {days : Int} (h : ∀ k, 0 ≤ xs.getD k 0) (n j : Nat) (hj : j ≤ n) : ∀ k, k ≤ n →
    sumN (tab (outTo xs days k) n) j = (if k ≤ j then sumN xs k else sumN (tab (outTo xs days k) n) j) ∧ (j ≤ k → sumN xs j ≤ sumN (tab (outTo xs days k) n) j) := by
  have step : ∀ k, ∀ j, j ≤ n → sumN (tab (outTo xs days (k + 1)) n) j = sumN (tab (outTo xs days k) n) j + (if 0 ≤ atTo xs days (k + 1) ∧ atTo xs days (k + 1) < (j : Int) then xs.getD k 0 else 0) := by
    intro k j
    induction j with
    | zero => intro _; simp [sumN]; omega
    | succ j ih =>
      intro hj
      rw [sumN, sumN, ih (by omega), tab_getD _ (by omega), tab_getD _ (by omega), outTo]
      have := atTo_bd xs days (k + 1)
      by_cases e : atTo xs days (k + 1) = (j : Int)
      · rw [if_pos e, if_neg (by omega), if_pos (by omega)]; omega
      · rw [if_neg e]
        by_cases e2 : 0 ≤ atTo xs days (k + 1) ∧ atTo xs days (k + 1) < (j : Int)
        · rw [if_pos e2, if_pos (by omega)]; omega
        · rw [if_neg e2, if_neg (by omega)]; omega
  intro k
  induction k with
  | zero =>
    intro _
    have z : ∀ j, j ≤ n → sumN (tab (outTo xs days 0) n) j = 0 := by
      intro j
      induction j with
      | zero => intro _; rfl
      | succ j ih => intro hj; rw [sumN, ih (by omega), tab_getD _ (by omega)]; rfl
    refine ⟨by rw [if_pos (by omega), z j hj]; rfl, fun h0 => ?_⟩
    obtain rfl : j = 0 := by omega
    simp [sumN]
  | succ k ih =>
    intro hk
    obtain ⟨i1, i2⟩ := ih (by omega)
    have hs := step k j hj
    have hb := atTo_bd xs days (k + 1)
    have hz := atTo_none (days := days) (h k)
    have hk0 := h k
    by_cases hkj : k + 1 ≤ j
    · rw [if_pos (by omega)] at i1
      have e : sumN (tab (outTo xs days (k + 1)) n) j = sumN xs (k + 1) := by
        rw [hs, i1, sumN]
        by_cases h0 : 0 ≤ atTo xs days (k + 1)
        · rw [if_pos ⟨h0, by omega⟩]
        · rw [if_neg (by omega), hz (by omega)]
      refine ⟨by rw [if_pos hkj]; exact e, fun h' => ?_⟩
      obtain rfl : j = k + 1 := by omega
      omega
    · refine ⟨by rw [if_neg hkj], fun h' => ?_⟩
      have := i2 (by omega)
      rw [hs]; split <;> omega
theorem lots_before {xs : List Int} {days : Int} (h : ∀ k, 0 ≤ xs.getD k 0) (j : Nat) (hj : j ≤ xs.length) : sumN xs j ≤ sumN (lotsM xs days) j :=
  (sumN_lots_le h xs.length j hj xs.length (Nat.le_refl _)).2 hj
theorem lots_total {xs : List Int} {days : Int} (h : ∀ k, 0 ≤ xs.getD k 0) : sumN (lotsM xs days) xs.length = sumN xs xs.length := by
  have := (sumN_lots_le (days := days) h xs.length xs.length (Nat.le_refl _) xs.length (Nat.le_refl _)).1
  rwa [if_pos (Nat.le_refl _)] at this
theorem lots_one {xs : List Int} (h : ∀ k, 0 ≤ xs.getD k 0) : lotsM xs 1 = xs := by
  have key : ∀ k q, outTo xs 1 k q = if q < k then xs.getD q 0 else 0 := by
    intro k q
    induction k with
    | zero => simp [outTo]
    | succ k ih =>
      have hb := atTo_bd xs 1 k
      have h0 := h k
      have e : atTo xs 1 (k + 1) = if 0 < xs.getD k 0 then (k : Int) else -1 := by rw [atTo, stepAt_free hb.1 (by omega)]
      rw [outTo, ih, e]
      by_cases h3 : q = k
      · subst h3; (repeat' split) <;> omega
      · (repeat' split) <;> omega
  have e : lotsM xs 1 = tab (fun q => xs.getD q 0) xs.length := tab_congr (fun q hq => by rw [key, if_pos hq])
  rw [e, tab_self]

/-- what is begun, when k days are told -/
def begTo (ms : List Int) (wait : Nat) : Nat → Nat → Int
  | 0, _ => 0
  | k + 1, q => begTo ms wait k q + (if k - wait = q then ms.getD k 0 else 0)
def begAt (ms : List Int) (wait q : Nat) : Int := if q = 0 then sumN ms (min (wait + 1) ms.length) else ms.getD (q + wait) 0
def begM (ms : List Int) (wait : Nat) : List Int := tab (begAt ms wait) ms.length
theorem begM_length (ms : List Int) (wait : Nat) : (begM ms wait).length = ms.length := tab_length _ _
theorem begTo_closed (ms : List Int) (wait k q : Nat) : begTo ms wait k q = if q = 0 then sumN ms (min (wait + 1) k) else if q + wait < k then ms.getD (q + wait) 0 else 0 := by
  induction k with
  | zero => simp [begTo, sumN]
  | succ k ih =>
    rw [begTo, ih]
    by_cases h0 : q = 0
    · subst h0
      rw [if_pos rfl, if_pos rfl]
      by_cases h1 : k ≤ wait
      · rw [if_pos (by omega), show min (wait + 1) k = k by omega, show min (wait + 1) (k + 1) = k + 1 by omega, sumN]
      · rw [if_neg (by omega), show min (wait + 1) k = wait + 1 by omega, show min (wait + 1) (k + 1) = wait + 1 by omega]; omega
    · rw [if_neg h0, if_neg h0]
      by_cases h1 : q + wait < k
      · rw [if_pos h1, if_neg (by omega), if_pos (by omega)]; omega
      · rw [if_neg h1]
        by_cases h2 : q + wait = k
        · rw [if_pos (by omega), if_pos (by omega), h2]; omega
        · rw [if_neg (by omega), if_neg (by omega)]; omega
theorem begTo_all {ms : List Int} {wait q : Nat} : begTo ms wait ms.length q = begAt ms wait q := by
  rw [begTo_closed, begAt]
  by_cases h0 : q = 0
  · rw [if_pos h0, if_pos h0]
  · rw [if_neg h0, if_neg h0]
    by_cases h1 : q + wait < ms.length
    · rw [if_pos h1]
    · rw [if_neg h1, getD_past (by omega)]
theorem begTo_bd {ms : List Int} {B : Int} (h : ∀ k, 0 ≤ ms.getD k 0 ∧ ms.getD k 0 ≤ B) (wait k q : Nat) : 0 ≤ begTo ms wait k q ∧ begTo ms wait k q ≤ sumN ms k := by
  induction k with
  | zero => simp [begTo, sumN]
  | succ k ih => have := h k; rw [begTo, sumN]; split <;> omega
/-- what is begun up to day i is what is made up to wait days later -/
theorem sumN_beg (ms : List Int) (wait : Nat) : ∀ i, i < ms.length → sumN (begM ms wait) (i + 1) = sumN ms (min (i + wait + 1) ms.length) := by
  intro i
  induction i with
  | zero =>
    intro h
    rw [sumN, sumN, begM, tab_getD _ h, begAt, if_pos rfl, show 0 + wait + 1 = wait + 1 by omega]; omega
  | succ i ih =>
    intro h
    rw [sumN, ih (by omega), begM, tab_getD _ h, begAt, if_neg (by omega)]
    by_cases h1 : i + 1 + wait < ms.length
    · rw [show min (i + wait + 1) ms.length = i + 1 + wait by omega, show min (i + 1 + wait + 1) ms.length = (i + 1 + wait) + 1 by omega, sumN]
    · rw [show min (i + wait + 1) ms.length = ms.length by omega, show min (i + 1 + wait + 1) ms.length = ms.length by omega, getD_past (by omega)]; omega
theorem begM_steps (ms : List Int) (wait more : Nat) : begM (begM ms wait) more = begM ms (wait + more) := by
  conv => lhs; unfold begM
  conv => rhs; unfold begM
  rw [show tab (begAt ms wait) ms.length = begM ms wait from rfl, begM_length]
  refine tab_congr (fun q hq => ?_)
  unfold begAt
  rw [begM_length]
  by_cases h0 : q = 0
  · rw [if_pos h0, if_pos h0]
    have hp : 0 < ms.length := by omega
    rw [show min (more + 1) ms.length = (min (more + 1) ms.length - 1) + 1 by omega, sumN_beg ms wait _ (by omega)]
    congr 1
    omega
  · rw [if_neg h0, if_neg h0]
    by_cases h1 : q + more < ms.length
    · rw [begM, tab_getD _ h1, begAt, if_neg (by omega)]; congr 1; omega
    · rw [getD_past (by rw [begM_length]; omega), getD_past (by omega)]
end Go.Proofs.Ythmifadnfaajbab
namespace Go.Proofs.Ythmifadnfaajbab

/-- the days of a lot behind its first one, each times what is wanted on it -/
def hsum (xs : List Int) (i : Nat) : Nat → Int
  | 0 => 0
  | d + 1 => hsum xs i d + (d : Int) * xs.getD (i + d) 0
/-- what it costs to make d days at the day i -/
def runD (xs : List Int) (s h : Int) (i d : Nat) : Int := h * hsum xs i d + (if 0 < sumN xs (i + d) - sumN xs i then s else 0)
theorem sumN_mono {xs : List Int} (hx : ∀ k, 0 ≤ xs.getD k 0) (i d : Nat) : sumN xs i ≤ sumN xs (i + d) := by
  induction d with
  | zero => exact Int.le_refl _
  | succ d ih => have := hx (i + d); rw [← Nat.add_assoc, sumN]; omega
theorem sumN_le {xs : List Int} (hx : ∀ k, 0 ≤ xs.getD k 0) {i k : Nat} (h : i ≤ k) : sumN xs i ≤ sumN xs k := by
  have := sumN_mono hx i (k - i); rwa [show i + (k - i) = k by omega] at this
theorem hsum_nonneg {xs : List Int} (hx : ∀ k, 0 ≤ xs.getD k 0) (i d : Nat) : 0 ≤ hsum xs i d := by
  induction d with
  | zero => exact Int.le_refl _
  | succ d ih => have := Int.mul_nonneg (show (0 : Int) ≤ d by omega) (hx (i + d)); rw [hsum]; omega
theorem hsum_bd {xs : List Int} {B : Int} (hx : ∀ k, 0 ≤ xs.getD k 0 ∧ xs.getD k 0 ≤ B) (i d : Nat) (hd : d ≤ 8) : hsum xs i d ≤ 8 * B * d := by
  induction d with
  | zero => simp [hsum]
  | succ d ih =>
    have h1 := hx (i + d)
    have h2 : (d : Int) * xs.getD (i + d) 0 ≤ 8 * B := Int.mul_le_mul (by omega) h1.2 h1.1 (by omega)
    have := ih (by omega)
    rw [hsum]; push_cast; rw [Int.mul_add, Int.mul_one]; omega
theorem runD_nonneg {xs : List Int} {s h : Int} (hx : ∀ k, 0 ≤ xs.getD k 0) (hs : 0 ≤ s) (hh : 0 ≤ h) (i d : Nat) : 0 ≤ runD xs s h i d := by
  have := Int.mul_nonneg hh (hsum_nonneg hx i d)
  unfold runD; split <;> omega
theorem runD_bd {xs : List Int} {s h : Int} (hx : ∀ k, 0 ≤ xs.getD k 0 ∧ xs.getD k 0 ≤ 20) (hs : 0 ≤ s ∧ s ≤ 31) (hh : 0 ≤ h ∧ h ≤ 31) (i d : Nat) (hd : d ≤ 8) : 0 ≤ runD xs s h i d ∧ runD xs s h i d ≤ 40000 := by
  refine ⟨runD_nonneg (fun k => (hx k).1) hs.1 hh.1 i d, ?_⟩
  have h1 := hsum_bd hx i d hd
  have h0 := hsum_nonneg (fun k => (hx k).1) i d
  have h2 : h * hsum xs i d ≤ 31 * 1280 := Int.mul_le_mul hh.2 (by omega) h0 (by omega)
  unfold runD; split <;> omega
/-- the days from i on can be made in lots for c -/
inductive PC (xs : List Int) (s h : Int) : Nat → Int → Prop where
  | done : PC xs s h xs.length 0
  | lot (i d : Nat) (c : Int) (hd : i + (d + 1) ≤ xs.length) (hc : PC xs s h (i + (d + 1)) c) : PC xs s h i (runD xs s h i (d + 1) + c)
theorem PC.nonneg {xs : List Int} {s h : Int} (hx : ∀ k, 0 ≤ xs.getD k 0) (hs : 0 ≤ s) (hh : 0 ≤ h) {i : Nat} {c : Int} (p : PC xs s h i c) : 0 ≤ c := by
  induction p with
  | done => exact Int.le_refl _
  | lot i d c hd _ ih => have := runD_nonneg hx hs hh i (d + 1); omega
theorem PC.le {xs : List Int} {s h : Int} {i : Nat} {c : Int} (p : PC xs s h i c) : i ≤ xs.length := by
  cases p with
  | done => exact Nat.le_refl _
  | lot _ d c hd _ => omega
/-- the least of f 0 .. f m -/
def minTo (f : Nat → Int) : Nat → Int
  | 0 => f 0
  | m + 1 => min (minTo f m) (f (m + 1))
theorem minTo_le {f : Nat → Int} {m d : Nat} (h : d ≤ m) : minTo f m ≤ f d := by
  induction m with
  | zero => obtain rfl : d = 0 := by omega
            exact Int.le_refl _
  | succ m ih =>
    rw [minTo]
    by_cases e : d = m + 1
    · subst e; omega
    · have := ih (by omega); omega
theorem minTo_at (f : Nat → Int) (m : Nat) : ∃ d, d ≤ m ∧ minTo f m = f d := by
  induction m with
  | zero => exact ⟨0, Nat.le_refl _, rfl⟩
  | succ m ih =>
    obtain ⟨d, hd, e⟩ := ih
    rw [minTo]
    by_cases h : minTo f m ≤ f (m + 1)
    · exact ⟨d, by omega, by omega⟩
    · exact ⟨m + 1, Nat.le_refl _, by omega⟩
theorem minTo_congr {f g : Nat → Int} {m : Nat} (h : ∀ d, d ≤ m → f d = g d) : minTo f m = minTo g m := by
  induction m with
  | zero => exact h 0 (Nat.le_refl _)
  | succ m ih => rw [minTo, minTo, ih (fun d hd => h d (by omega)), h (m + 1) (Nat.le_refl _)]
def bestF (xs : List Int) (s h : Int) : Nat → Nat → Int
  | 0, _ => 0
  | m + 1, q => if q = m + 1 then minTo (fun d => runD xs s h (xs.length - (m + 1)) (d + 1) + bestF xs s h m (m - d)) m else bestF xs s h m q
/-- the least cost of the days from i on -/
def bst (xs : List Int) (s h : Int) (i : Nat) : Int := bestF xs s h (xs.length - i) (xs.length - i)
theorem bestF_low (xs : List Int) (s h : Int) (m : Nat) : ∀ q, q ≤ m → bestF xs s h m q = bestF xs s h q q := by
  induction m with
  | zero => intro q hq; obtain rfl : q = 0 := by omega
            rfl
  | succ m ih =>
    intro q hq
    by_cases e : q = m + 1
    · subst e; rfl
    · rw [bestF, if_neg e]; exact ih q (by omega)
theorem bst_end (xs : List Int) (s h : Int) : bst xs s h xs.length = 0 := by unfold bst; rw [Nat.sub_self]; rfl
theorem bst_rec {xs : List Int} {s h : Int} {i : Nat} (hi : i < xs.length) : bst xs s h i = minTo (fun d => runD xs s h i (d + 1) + bst xs s h (i + (d + 1))) (xs.length - 1 - i) := by
  obtain ⟨m, hm⟩ : ∃ m, xs.length - i = m + 1 := ⟨xs.length - i - 1, by omega⟩
  unfold bst
  rw [hm, bestF, if_pos rfl, show xs.length - 1 - i = m by omega]
  refine minTo_congr (fun d hd => ?_)
  rw [show xs.length - (m + 1) = i by omega, bestF_low xs s h m (m - d) (by omega), show xs.length - (i + (d + 1)) = m - d by omega]
def LeastC (xs : List Int) (s h : Int) (i : Nat) (b : Int) : Prop := PC xs s h i b ∧ ∀ c, PC xs s h i c → b ≤ c
theorem LeastC.uniq {xs : List Int} {s h : Int} {i : Nat} {a b : Int} (ha : LeastC xs s h i a) (hb : LeastC xs s h i b) : a = b := by
  have := ha.2 b hb.1; have := hb.2 a ha.1; omega
theorem bst_least (xs : List Int) (s h : Int) : ∀ (m i : Nat), i + m = xs.length → LeastC xs s h i (bst xs s h i) := by
  intro m
  induction m using Nat.strongRecOn with
  | ind m ih =>
    intro i hi
    by_cases h0 : i = xs.length
    · subst h0
      rw [bst_end]
      refine ⟨PC.done, fun c hc => ?_⟩
      generalize hn : xs.length = n at hc
      cases hc with
      | done => exact Int.le_refl _
      | lot _ d c hd _ => omega
    · have hlt : i < xs.length := by omega
      have hsub : ∀ d, i + (d + 1) ≤ xs.length → LeastC xs s h (i + (d + 1)) (bst xs s h (i + (d + 1))) := fun d hd => ih (xs.length - (i + (d + 1))) (by omega) _ (by omega)
      rw [bst_rec hlt]
      refine ⟨?_, fun c hc => ?_⟩
      · obtain ⟨d, hd, e⟩ := minTo_at (fun d => runD xs s h i (d + 1) + bst xs s h (i + (d + 1))) (xs.length - 1 - i)
        rw [e]
        exact PC.lot i d _ (by omega) (hsub d (by omega)).1
      · cases hc with
        | done => omega
        | lot _ d c hd hc' =>
          have h1 := (hsub d hd).2 c hc'
          have h2 := minTo_le (f := fun d => runD xs s h i (d + 1) + bst xs s h (i + (d + 1))) (m := xs.length - 1 - i) (d := d) (by omega)
          omega
theorem bst_is {xs : List Int} {s h : Int} {i : Nat} (hi : i ≤ xs.length) : LeastC xs s h i (bst xs s h i) := bst_least xs s h (xs.length - i) i (by omega)
theorem bst_nonneg {xs : List Int} {s h : Int} (hx : ∀ k, 0 ≤ xs.getD k 0) (hs : 0 ≤ s) (hh : 0 ≤ h) {i : Nat} (hi : i ≤ xs.length) : 0 ≤ bst xs s h i := (bst_is hi).1.nonneg hx hs hh
theorem bst_bd {xs : List Int} {s h : Int} (hl : xs.length ≤ 8) (hx : ∀ k, 0 ≤ xs.getD k 0 ∧ xs.getD k 0 ≤ 20) (hs : 0 ≤ s ∧ s ≤ 31) (hh : 0 ≤ h ∧ h ≤ 31) {i : Nat} (hi : i ≤ xs.length) : 0 ≤ bst xs s h i ∧ bst xs s h i ≤ 40000 := by
  refine ⟨bst_nonneg (fun k => (hx k).1) hs.1 hh.1 hi, ?_⟩
  by_cases h0 : i = xs.length
  · subst h0; rw [bst_end]; omega
  · have h1 := (bst_is (s := s) (h := h) hi).2 _ (PC.lot i (xs.length - i - 1) 0 (by omega) (by rw [show i + (xs.length - i - 1 + 1) = xs.length by omega]; exact PC.done))
    have h2 := runD_bd hx hs hh i (xs.length - i - 1 + 1) (by omega)
    omega

-- plans
/-- what it costs on day q: it is there at its end, it is made on it -/
def dayC (ms xs : List Int) (s h : Int) (q : Nat) : Int := h * (sumN ms (q + 1) - sumN xs (q + 1)) + (if 0 < ms.getD q 0 then s else 0)
def planTo (ms xs : List Int) (s h : Int) : Nat → Int
  | 0 => 0
  | q + 1 => planTo ms xs s h q + dayC ms xs s h q
theorem sumN_flat {ms : List Int} {i k : Nat} (h : ∀ q, i < q → q < k → ms.getD q 0 = 0) {q : Nat} (hq : i ≤ q) (hk : q < k) : sumN ms k = sumN ms (q + 1) := by
  obtain ⟨d, rfl⟩ : ∃ d, k = q + 1 + d := ⟨k - (q + 1), by omega⟩
  clear hk
  induction d with
  | zero => rfl
  | succ d ih =>
    rw [← Nat.add_assoc, sumN, ih (fun r h1 h2 => h r h1 (by omega)), h (q + 1 + d) (by omega) (by omega)]; omega
/-- a lot is not dearer than what a plan pays on its days -/
theorem block_le {ms xs : List Int} {s h : Int} (hx : ∀ k, 0 ≤ xs.getD k 0) (hm : ∀ k, 0 ≤ ms.getD k 0) (hs : 0 ≤ s) (hh : 0 ≤ h) {i k : Nat} (hik : i < k) (hst : sumN xs k ≤ sumN ms k) (hno : ∀ q, i < q → q < k → ms.getD q 0 = 0) (hi : 0 < ms.getD i 0 ∨ i = 0) :
    runD xs s h i (k - i) ≤ planTo ms xs s h k - planTo ms xs s h i := by
  have key : ∀ d, i + d ≤ k → h * (hsum xs i d + (d : Int) * (sumN xs k - sumN xs (i + d))) + (if 0 < d ∧ 0 < ms.getD i 0 then s else 0) ≤ planTo ms xs s h (i + d) - planTo ms xs s h i := by
    intro d
    induction d with
    | zero => intro _; simp [hsum]
    | succ d ih =>
      intro hd
      have ih' := ih (by omega)
      rw [← Nat.add_assoc, planTo]
      have e1 := sumN_flat hno (q := i + d) (by omega) (by omega)
      have hday : h * (sumN xs k - sumN xs (i + d + 1)) + (if d = 0 ∧ 0 < ms.getD i 0 then s else 0) ≤ dayC ms xs s h (i + d) := by
        have h1 : h * (sumN xs k - sumN xs (i + d + 1)) ≤ h * (sumN ms (i + d + 1) - sumN xs (i + d + 1)) := Int.mul_le_mul_of_nonneg_left (by omega) hh
        unfold dayC
        by_cases h0 : d = 0 ∧ 0 < ms.getD i 0
        · obtain ⟨rfl, h3⟩ := h0
          rw [if_pos ⟨rfl, h3⟩]
          simp only [Nat.add_zero] at h1 ⊢
          rw [if_pos h3]; omega
        · rw [if_neg h0]; split <;> omega
      have e2 : h * (hsum xs i (d + 1) + ((d + 1 : Nat) : Int) * (sumN xs k - sumN xs (i + d + 1))) = h * (hsum xs i d + (d : Int) * (sumN xs k - sumN xs (i + d))) + h * (sumN xs k - sumN xs (i + d + 1)) := by
        rw [← Int.mul_add]
        congr 1
        rw [hsum, show sumN xs (i + d + 1) = sumN xs (i + d) + xs.getD (i + d) 0 from rfl]
        push_cast
        rw [Int.add_mul, Int.one_mul, Int.sub_eq_add_neg (b := sumN xs (i + d) + _), Int.mul_add, Int.mul_sub, Int.mul_neg, Int.mul_add]
        omega
      rw [e2]
      by_cases h0 : d = 0
      · subst h0
        simp only [Nat.lt_irrefl, false_and, if_false, true_and, Nat.zero_add, Nat.lt_one_iff, Nat.zero_lt_one] at ih' hday ⊢
        omega
      · rw [if_neg (by omega)] at hday
        by_cases h3 : 0 < ms.getD i 0
        · rw [if_pos ⟨by omega, h3⟩] at ih' ⊢; omega
        · rw [if_neg (fun e => h3 e.2)] at ih' ⊢; omega
  have h9 := key (k - i) (by omega)
  rw [show i + (k - i) = k by omega, Int.sub_self, Int.mul_zero, Int.add_zero] at h9
  unfold runD
  rw [show i + (k - i) = k by omega]
  by_cases h3 : 0 < ms.getD i 0
  · rw [if_pos ⟨by omega, h3⟩] at h9
    split <;> omega
  · rw [if_neg (fun e => h3 e.2)] at h9
    have hi0 : i = 0 := by omega
    subst hi0
    have h4 : ms.getD 0 0 = 0 := by have := hm 0; omega
    have e1 := sumN_flat hno (q := 0) (by omega) hik
    have e2 : sumN ms (0 + 1) = 0 := by rw [sumN, sumN, h4]; rfl
    have e3 : sumN xs 0 = 0 := rfl
    rw [if_neg (by omega)]; omega
theorem plan_least {ms xs : List Int} {s h : Int} (hx : ∀ k, 0 ≤ xs.getD k 0) (hm : ∀ k, 0 ≤ ms.getD k 0) (hs : 0 ≤ s) (hh : 0 ≤ h) (hst : ∀ k, k ≤ xs.length → sumN xs k ≤ sumN ms k) :
    bst xs s h 0 ≤ planTo ms xs s h xs.length := by
  have key : ∀ (m k : Nat), k + m = xs.length → ∀ i, i < k → (∀ q, i < q → q < k → ms.getD q 0 = 0) → (0 < ms.getD i 0 ∨ i = 0) → ∃ c, PC xs s h i c ∧ c ≤ planTo ms xs s h xs.length - planTo ms xs s h i := by
    intro m
    induction m with
    | zero =>
      intro k hk i hik hno hi
      obtain rfl : k = xs.length := by omega
      have hb := block_le hx hm hs hh hik (hst _ (Nat.le_refl _)) hno hi
      refine ⟨_, PC.lot i (xs.length - i - 1) 0 (by omega) (by rw [show i + (xs.length - i - 1 + 1) = xs.length by omega]; exact PC.done), ?_⟩
      rw [show xs.length - i - 1 + 1 = xs.length - i by omega]; omega
    | succ m ih =>
      intro k hk i hik hno hi
      by_cases h0 : 0 < ms.getD k 0
      · obtain ⟨c, hc, hle⟩ := ih (k + 1) (by omega) k (by omega) (fun q h1 h2 => by omega) (Or.inl h0)
        have hb := block_le hx hm hs hh hik (hst k (by omega)) hno hi
        refine ⟨_, PC.lot i (k - i - 1) c (by omega) (by rw [show i + (k - i - 1 + 1) = k by omega]; exact hc), ?_⟩
        rw [show k - i - 1 + 1 = k - i by omega]; omega
      · exact ih (k + 1) (by omega) i (by omega) (fun q h1 h2 => by
          by_cases e : q = k
          · subst e; have := hm q; omega
          · exact hno q h1 (by omega)) hi
  by_cases h0 : xs.length = 0
  · have : bst xs s h 0 = 0 := by have := bst_end xs s h; rw [h0] at this; exact this
    rw [this, h0]; exact Int.le_refl _
  · obtain ⟨c, hc, hle⟩ := key (xs.length - 1) 1 (by omega) 0 (by omega) (fun q h1 h2 => by omega) (Or.inr rfl)
    have := (bst_is (s := s) (h := h) (Nat.zero_le xs.length)).2 c hc
    have e : planTo ms xs s h 0 = 0 := rfl
    omega
end Go.Proofs.Ythmifadnfaajbab
