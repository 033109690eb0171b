import Derived.Test.YtcfahmffboipiabLib
import Derived.Test.YtcfahmffboipiabCountM
import Derived.Test.YtcfahmffboipiabTakesM
namespace Go.Proofs.Ytcfahmffboipiab

theorem validBill_pos {rows : List (List Int)} (hv : validBillM rows = true) : 0 < rows.length := by
  simp only [validBillM, Bool.and_eq_true, inB, decide_eq_true_eq] at hv
  omega
/-- what one of part i costs -/
def costN (rows : List (List Int)) (own : List Int) (i : Nat) : Int := sumTo (fun j => takeM rows i j * own.getD j 0) (i + 1)
/-- how many of part j are made -/
def needN (rows : List (List Int)) (wants : List Int) (j : Nat) : Int := sumTo (fun i => wants.getD i 0 * takeM rows i j) rows.length
theorem cost_rec {rows : List (List Int)} (hv : validBillM rows = true) (own : List Int) {i : Nat} (hi : i < rows.length) :
    costN rows own i = own.getD i 0 + sumTo (fun k => useM rows i k * costN rows own k) i := by
  have e1 : sumTo (fun j => takeM rows i j * own.getD j 0) i = sumTo (fun j => sumTo (fun k => useM rows i k * (takeM rows k j * own.getD j 0)) i) i :=
    sumTo_congr (fun j hj => by
      rw [takeM_first hv hi (show i ≠ j by omega), ← sumTo_mul_right]
      exact sumTo_congr (fun k _ => Int.mul_assoc _ _ _))
  unfold costN
  simp only [sumTo]
  rw [e1, sumTo_swap, takeM_self, Int.one_mul, Int.add_comm]
  congr 1
  refine sumTo_congr (fun k hk => ?_)
  rw [sumTo_mul]
  congr 1
  have := sumTo_more (f := fun j => takeM rows k j * own.getD j 0) (n := k + 1) (m := i) (by omega) (fun j h1 _ => by rw [takeM_low hv (show k < j by omega), Int.zero_mul])
  simpa [sumTo] using this
theorem take_split {rows : List (List Int)} (hv : validBillM rows = true) {i j : Nat} (hi : i < rows.length) :
    takeM rows i j = (if i = j then 1 else 0) + sumTo (fun k => takeM rows i k * useM rows k j) rows.length := by
  by_cases hij : i = j
  · subst hij
    rw [if_pos rfl, takeM_self, sumTo_zero (fun k _ => by
      by_cases h' : i < k
      · rw [takeM_low hv h', Int.zero_mul]
      · rw [useM_high hv (show k ≤ i by omega), Int.mul_zero])]; rfl
  · rw [if_neg hij, Int.zero_add, takeM_last hv (i + 1) i (by omega) hi hij]
    exact (sumTo_more (by omega) (fun k h1 _ => by rw [takeM_low hv (show i < k by omega), Int.zero_mul])).symm
theorem need_rec {rows : List (List Int)} (hv : validBillM rows = true) (wants : List Int) {j : Nat} (hj : j < rows.length) :
    needN rows wants j = wants.getD j 0 + sumTo (fun k => needN rows wants k * useM rows k j) rows.length := by
  have e1 : needN rows wants j = sumTo (fun i => (if i = j then wants.getD j 0 else 0) + sumTo (fun k => wants.getD i 0 * takeM rows i k * useM rows k j) rows.length) rows.length := by
    unfold needN
    refine sumTo_congr (fun i hi => ?_)
    rw [take_split hv hi, Int.mul_add, ← sumTo_mul]
    congr 1
    · by_cases e : i = j
      · subst e; rw [if_pos rfl, if_pos rfl, Int.mul_one]
      · rw [if_neg e, if_neg e, Int.mul_zero]
    · exact sumTo_congr (fun k _ => (Int.mul_assoc _ _ _).symm)
  rw [e1, sumTo_add, sumTo_one (i := j) hj (fun k _ hk => if_neg hk), if_pos rfl, sumTo_swap]
  congr 1
  refine sumTo_congr (fun k _ => ?_)
  rw [sumTo_mul_right]; rfl
/-- what is wanted costs what is made -/
theorem need_cost {rows : List (List Int)} (hv : validBillM rows = true) (own wants : List Int) :
    sumTo (fun i => wants.getD i 0 * costN rows own i) rows.length = sumTo (fun j => needN rows wants j * own.getD j 0) rows.length := by
  have e : ∀ i, i < rows.length → wants.getD i 0 * costN rows own i = sumTo (fun j => wants.getD i 0 * takeM rows i j * own.getD j 0) rows.length := by
    intro i hi
    unfold costN
    rw [← sumTo_mul]
    have := sumTo_more (f := fun j => wants.getD i 0 * takeM rows i j * own.getD j 0) (n := i + 1) (m := rows.length) (by omega) (fun j h1 _ => by rw [takeM_low hv (show i < j by omega), Int.mul_zero, Int.zero_mul])
    rw [this]
    exact sumTo_congr (fun k _ => (Int.mul_assoc _ _ _).symm)
  rw [sumTo_congr e, sumTo_swap]
  refine sumTo_congr (fun j _ => ?_)
  rw [sumTo_mul_right]; rfl
theorem mul_box {a b A B : Int} (ha : 0 ≤ a) (ha' : a ≤ A) (hb : 0 ≤ b) (hb' : b ≤ B) : 0 ≤ a * b ∧ a * b ≤ A * B :=
  ⟨Int.mul_nonneg ha hb, Int.mul_le_mul ha' hb' hb (by omega)⟩
theorem costN_bd {rows : List (List Int)} (hv : validBillM rows = true) {own : List Int} (ho : ∀ k, 0 ≤ own.getD k 0 ∧ own.getD k 0 ≤ 20) {i : Nat} (hi : i ≤ 6) : 0 ≤ costN rows own i ∧ costN rows own i ≤ 5000000000 := by
  have h1 : ∀ j, 0 ≤ takeM rows i j * own.getD j 0 ∧ takeM rows i j * own.getD j 0 ≤ 34012224 * 20 := fun j => mul_box (takeM_nonneg hv i j) (takeM_le hv i j) (ho j).1 (ho j).2
  have h2 := sumTo_nonneg (f := fun j => takeM rows i j * own.getD j 0) (n := i + 1) (fun k _ => (h1 k).1)
  have h3 := sumTo_le (f := fun j => takeM rows i j * own.getD j 0) (B := 34012224 * 20) (n := i + 1) (fun k _ => (h1 k).2)
  refine ⟨h2, Int.le_trans h3 ?_⟩
  push_cast; omega
theorem needN_bd {rows : List (List Int)} (hv : validBillM rows = true) {ws : List Int} (ho : ∀ k, 0 ≤ ws.getD k 0 ∧ ws.getD k 0 ≤ 40) (j : Nat) : 0 ≤ needN rows ws j ∧ needN rows ws j ≤ 10000000000 := by
  have h6 := validBill_len6 hv
  have h1 : ∀ i, 0 ≤ ws.getD i 0 * takeM rows i j ∧ ws.getD i 0 * takeM rows i j ≤ 40 * 34012224 := fun i => mul_box (ho i).1 (ho i).2 (takeM_nonneg hv i j) (takeM_le hv i j)
  have h2 := sumTo_nonneg (f := fun i => ws.getD i 0 * takeM rows i j) (n := rows.length) (fun k _ => (h1 k).1)
  have h3 := sumTo_le (f := fun i => ws.getD i 0 * takeM rows i j) (B := 40 * 34012224) (n := rows.length) (fun k _ => (h1 k).2)
  exact ⟨h2, by unfold needN; omega⟩
/-- what is needed of part q when the parts from m on are done -/
def needTo (rows : List (List Int)) (ws : List Int) (m q : Nat) : Int := ws.getD q 0 + sumTo (fun d => needN rows ws (m + d) * useM rows (m + d) q) (rows.length - m)
theorem sumTo_head (f : Nat → Int) (n : Nat) : sumTo f (n + 1) = f 0 + sumTo (fun k => f (k + 1)) n := by
  induction n with
  | zero => simp [sumTo]
  | succ n ih => rw [sumTo, ih, sumTo]; omega
theorem needTo_end (rows : List (List Int)) (ws : List Int) (q : Nat) : needTo rows ws rows.length q = ws.getD q 0 := by simp [needTo, sumTo]
theorem needTo_step {rows : List (List Int)} {ws : List Int} {m : Nat} (hm : m < rows.length) (q : Nat) : needTo rows ws m q = needTo rows ws (m + 1) q + needN rows ws m * useM rows m q := by
  unfold needTo
  rw [show rows.length - m = (rows.length - (m + 1)) + 1 by omega, sumTo_head, Nat.add_zero, sumTo_congr (g := fun d => needN rows ws (m + 1 + d) * useM rows (m + 1 + d) q) (fun k _ => by rw [show m + (k + 1) = m + 1 + k by omega])]
  omega
theorem sumTo_skip (f : Nat → Int) (m n : Nat) (h0 : ∀ k, k < m → f k = 0) (h : m ≤ n) : sumTo f n = sumTo (fun d => f (m + d)) (n - m) := by
  induction m with
  | zero => simp
  | succ m ih =>
    rw [ih (fun k hk => h0 k (by omega)) (by omega), show n - m = (n - (m + 1)) + 1 by omega, sumTo_head, Nat.add_zero, h0 m (by omega), Int.zero_add]
    exact sumTo_congr (fun k _ => by rw [show m + (k + 1) = m + 1 + k by omega])
/-- those from m on are done -/
theorem needTo_done {rows : List (List Int)} (hv : validBillM rows = true) {ws : List Int} {m q : Nat} (hq : q < rows.length) (hm : m ≤ q + 1) : needTo rows ws m q = needN rows ws q := by
  rw [need_rec hv ws hq, needTo]
  congr 1
  exact (sumTo_skip (fun k => needN rows ws k * useM rows k q) m rows.length (fun k hk => by show needN rows ws k * useM rows k q = 0; rw [useM_high hv (show k ≤ q by omega), Int.mul_zero]) (by omega)).symm
theorem needTo_bd {rows : List (List Int)} (hv : validBillM rows = true) {ws : List Int} (ho : ∀ k, 0 ≤ ws.getD k 0 ∧ ws.getD k 0 ≤ 40) {m : Nat} (hm : m ≤ rows.length) (q : Nat) : 0 ≤ needTo rows ws m q ∧ needTo rows ws m q ≤ 200000000000 := by
  have h6 := validBill_len6 hv
  have h1 : ∀ d, 0 ≤ needN rows ws (m + d) * useM rows (m + d) q ∧ needN rows ws (m + d) * useM rows (m + d) q ≤ 10000000000 * 3 := fun d => mul_box (needN_bd hv ho _).1 (needN_bd hv ho _).2 (useM_bd hv _ _).1 (useM_bd hv _ _).2
  have h2 := sumTo_nonneg (f := fun d => needN rows ws (m + d) * useM rows (m + d) q) (n := rows.length - m) (fun k _ => (h1 k).1)
  have h3 := sumTo_le (f := fun d => needN rows ws (m + d) * useM rows (m + d) q) (B := 10000000000 * 3) (n := rows.length - m) (fun k _ => (h1 k).2)
  have := ho q
  unfold needTo; omega
end Go.Proofs.Ytcfahmffboipiab
