import Derived.Test.YthmifadnfaajbabRows
import Derived.WalkKit
import Derived.LoopTactic
import Derived.Outline
import Derived.WalkSpells
import Derived.WalkLawsBesides
import Derived.ProofKit
import Derived.Lib.Hide
import Derived.IntWalk
import Derived.Test.YthmifadnfaajbabM0
import Derived.Test.YthmifadnfaajbabM1
import Derived.Test.YthmifadnfaajbabM5
import Derived.Test.YthmifadnfaajbabM8
import Derived.Test.YthmifadnfaajbabM9
import Derived.Test.YthmifadnfaajbabM4
import Derived.Deep.QuietTactic
import Derived.BigQuiet
import Derived.Test.YthmifadnfaajbabM7
import Derived.Test.YthmifadnfaajbabM3
import Derived.Test.YthmifadnfaajbabM6
namespace Go.Proofs.Ythmifadnfaajbab
open Go.RowKit Go.WideShapes

-- pairs
def pairB (r : List Int) : Bool := r.length == 2 && (inB 0 9 (r.getD 0 0) && inB 0 9 (r.getD 1 0))
def pairsM (rows : List (List Int)) : Bool := rows.all pairB && decide (rows.length ≤ 8)
theorem pairs_false {rows : List (List Int)} {k : Nat} {r : List Int} (h : rows[k]? = some r) (hr : pairB r = false) : pairsM rows = false := by
  unfold pairsM
  rw [List.all_eq_false.2 ⟨r, List.mem_of_getElem? h, by rw [hr]; simp⟩]; rfl
theorem pairs_get {rows : List (List Int)} (h : pairsM rows = true) : rows.length ≤ 8 ∧ ∀ r ∈ rows, r.length = 2 ∧ (0 ≤ r.getD 0 0 ∧ r.getD 0 0 ≤ 9) ∧ (0 ≤ r.getD 1 0 ∧ r.getD 1 0 ≤ 9) := by
  simp only [pairsM, Bool.and_eq_true, decide_eq_true_eq, List.all_eq_true] at h
  refine ⟨h.2, fun r hr => ?_⟩
  have := h.1 r hr
  simp only [pairB, Bool.and_eq_true, beq_iff_eq] at this
  exact ⟨this.1, by simpa [inB] using this.2.1, by simpa [inB] using this.2.2⟩
/-- the times of a job -/
def ta (rows : List (List Int)) (x : Nat) : Int := (rows.getD x []).getD 0 0
def tb (rows : List (List Int)) (x : Nat) : Int := (rows.getD x []).getD 1 0
theorem t_bd {rows : List (List Int)} (h : pairsM rows = true) (x : Nat) : (0 ≤ ta rows x ∧ ta rows x ≤ 9) ∧ (0 ≤ tb rows x ∧ tb rows x ≤ 9) := by
  obtain ⟨_, h2⟩ := pairs_get h
  unfold ta tb
  rcases Nat.lt_or_ge x rows.length with hx | hx
  · rw [List.getD_eq_getElem?_getD (l := rows), List.getElem?_eq_getElem hx]
    have := h2 rows[x] (List.getElem_mem hx)
    exact ⟨this.2.1, this.2.2⟩
  · rw [List.getD_eq_getElem?_getD (l := rows), List.getElem?_eq_none hx]; simp
theorem t_at {rows : List (List Int)} {x : Nat} {r : List Int} (h : rows[x]? = some r) : ta rows x = r.getD 0 0 ∧ tb rows x = r.getD 1 0 := by
  unfold ta tb; rw [List.getD_eq_getElem?_getD (l := rows), h]; exact ⟨rfl, rfl⟩
-- orders
def orderP (o : List Int) (n : Nat) : Prop := ((∀ x ∈ o, 0 ≤ x ∧ x < (n : Int)) ∧ o.Nodup) ∧ o.length = n
instance (o : List Int) (n : Nat) : Decidable (orderP o n) := by unfold orderP; infer_instance
def orderM (o : List Int) (n : Nat) : Bool := decide (orderP o n)
theorem orderM_get {o : List Int} {n : Nat} (h : orderM o n = true) : orderP o n := of_decide_eq_true h
def nO (o : List Int) : List Nat := o.map Int.toNat
theorem nO_perm {o : List Int} {n : Nat} (h : orderP o n) : (nO o).Perm (List.range n) := by
  obtain ⟨⟨h1, h2⟩, h3⟩ := h
  have hn : (nO o).Nodup := by
    refine List.pairwise_map.2 (h2.imp_of_mem (fun {x y} hx hy hne e => hne ?_))
    have := h1 x hx; have := h1 y hy; omega
  have hs : nO o ⊆ List.range n := fun x hx => by
    obtain ⟨y, hy, rfl⟩ := List.mem_map.1 hx
    have := h1 y hy; simp; omega
  refine (List.perm_ext_iff_of_nodup hn List.nodup_range).2 (fun x => ⟨fun hx => hs hx, fun hx => ?_⟩)
  apply Classical.byContradiction
  intro hm
  have : (x :: nO o).length ≤ (List.range n).length := List.Nodup.length_le_of_subset (List.nodup_cons.2 ⟨hm, hn⟩) (fun y hy => by
    rcases List.mem_cons.1 hy with rfl | hy
    · exact hx
    · exact hs hy)
  simp [nO] at this; omega
theorem order_bad {o : List Int} {n k : Nat} {x : Int} (h : o[k]? = some x) (hx : inB 0 ((n : Int) - 1) x = false) : orderM o n = false := by
  refine decide_eq_false (fun hp => ?_)
  have := hp.1.1 x (List.mem_of_getElem? h)
  unfold inB at hx
  simp only [decide_eq_false_iff_not] at hx
  omega
theorem order_twice {o : List Int} {n k : Nat} {x : Int} (h : o[k]? = some x) (hx : x ∈ o.take k) : orderM o n = false := by
  refine decide_eq_false (fun hp => ?_)
  have hn := hp.1.2
  have h2 : (o.take (k + 1)).Nodup := hn.sublist (List.take_sublist _ _)
  rw [take_get h] at h2
  exact (List.nodup_append.1 h2).2.2 x hx x (by simp) rfl
theorem nO_snoc {o : List Int} {k : Nat} {x : Int} (h : o[k]? = some x) : nO (o.take (k + 1)) = nO (o.take k) ++ [x.toNat] := by
  rw [take_get h]; simp [nO]
theorem run_bd {rows : List (List Int)} (hp : pairsM rows = true) (l : List Nat) : (0 ≤ (runT (ta rows) (tb rows) (0, 0) l).1 ∧ (runT (ta rows) (tb rows) (0, 0) l).1 ≤ 9 * (l.length : Int)) ∧ (0 ≤ (runT (ta rows) (tb rows) (0, 0) l).2 ∧ (runT (ta rows) (tb rows) (0, 0) l).2 ≤ 18 * (l.length : Int)) := by
  have h1 := runT_fst (ta rows) (tb rows) l (0, 0)
  have h2 := sumL_nn (fun x => (t_bd hp x).1.1) l
  have h3 := sumL_bd (fun x => (t_bd hp x).1.2) l
  have h4 := sumL_bd (fun x => (t_bd hp x).2.2) l
  have h5 := span_sums (fun x => (t_bd hp x).1.1) (fun x => (t_bd hp x).2.1) l
  have h6 := sumL_nn (fun x => (t_bd hp x).2.1) l
  unfold spanT at h5
  simp only at h1
  omega
/-- what SpanOf answers -/
def spanFine (rows : List (List Int)) (o : List Int) : Bool := pairsM rows && orderM o rows.length
def spanRes (rows : List (List Int)) (o : List Int) : Int := if spanFine rows o then spanT (ta rows) (tb rows) (nO o) else -1
theorem spanRes_no {rows : List (List Int)} {o : List Int} (h : spanFine rows o = false) : spanRes rows o = -1 := by unfold spanRes; rw [h]; rfl
theorem spanRes_yes {rows : List (List Int)} {o : List Int} (h : spanFine rows o = true) : spanRes rows o = spanT (ta rows) (tb rows) (nO o) := by unfold spanRes; rw [h]; rfl
theorem spanFine_get {rows : List (List Int)} {o : List Int} (h : spanFine rows o = true) : pairsM rows = true ∧ orderP o rows.length := by
  simp only [spanFine, Bool.and_eq_true] at h; exact ⟨h.1, orderM_get h.2⟩
end Go.Proofs.Ythmifadnfaajbab
namespace Go.Proofs.Ythmifadnfaajbab

-- the least lateness, set by set: t, w, d of the jobs
/-- a sum over the jobs of a set -/
def bsum (f : Nat → Int) (s : Nat) : Nat → Int
  | 0 => 0
  | n + 1 => bsum f s n + (if s.testBit n = true then f n else 0)
def tardG (w d : Nat → Int) (x : Nat) (c : Int) : Int := w x * max (c - d x) 0
def scanL (w d : Nat → Int) (tb : List Int) (tm : Int) (s : Nat) : Nat → Int
  | 0 => -1
  | i + 1 => if s.testBit i = true ∧ (scanL w d tb tm s i < 0 ∨ tb.getD (s - 2 ^ i) 0 + tardG w d i tm < scanL w d tb tm s i) then tb.getD (s - 2 ^ i) 0 + tardG w d i tm else scanL w d tb tm s i
def ltT (t w d : Nat → Int) (n : Nat) : Nat → List Int
  | 0 => [0]
  | s + 1 => ltT t w d n s ++ [scanL w d (ltT t w d n s) (bsum t (s + 1) n) (s + 1) n]
def ltX (t w d : Nat → Int) (n : Nat) (s : Nat) : Int := (ltT t w d n s).getD s 0
theorem ltT_len (t w d : Nat → Int) (n : Nat) : ∀ s, (ltT t w d n s).length = s + 1
  | 0 => rfl
  | s + 1 => by rw [ltT, List.length_append, ltT_len t w d n s]; rfl
theorem ltT_get (t w d : Nat → Int) (n : Nat) (s : Nat) : ∀ q, (ltT t w d n (s + q)).getD s 0 = ltX t w d n s
  | 0 => rfl
  | q + 1 => by
    have h := ltT_len t w d n (s + q)
    rw [show s + (q + 1) = (s + q) + 1 by omega, ltT, ← ltT_get t w d n s q]
    simp only [List.getD_eq_getElem?_getD]
    rw [List.getElem?_append_left (by omega)]
theorem ltT_at {t w d : Nat → Int} {n s m : Nat} (h : s ≤ m) : (ltT t w d n m).getD s 0 = ltX t w d n s := by
  have := ltT_get t w d n s (m - s); rwa [show s + (m - s) = m by omega] at this
theorem ltX_succ (t w d : Nat → Int) (n s : Nat) : ltX t w d n (s + 1) = scanL w d (ltT t w d n s) (bsum t (s + 1) n) (s + 1) n := by
  have h := ltT_len t w d n s
  unfold ltX
  rw [ltT]
  simp only [List.getD_eq_getElem?_getD]
  rw [List.getElem?_append_right (by omega), show s + 1 - (ltT t w d n s).length = 0 by omega]
  rfl
theorem tardG_nn {w d : Nat → Int} (hw : ∀ x, 0 ≤ w x) (x : Nat) (c : Int) : 0 ≤ tardG w d x c := Int.mul_nonneg (hw x) (by omega)
theorem tardG_mono {w d : Nat → Int} (hw : ∀ x, 0 ≤ w x) (x : Nat) {c c' : Int} (h : c ≤ c') : tardG w d x c ≤ tardG w d x c' := Int.mul_le_mul_of_nonneg_left (by omega) (hw x)
theorem scanL_le {w d : Nat → Int} {tb : List Int} {tm : Int} {s : Nat} (hw : ∀ x, 0 ≤ w x) (htb : ∀ q, 0 ≤ tb.getD q 0) : ∀ n i, i < n → s.testBit i = true → 0 ≤ scanL w d tb tm s n ∧ scanL w d tb tm s n ≤ tb.getD (s - 2 ^ i) 0 + tardG w d i tm
  | n + 1, i, hi, hb => by
    have h0 := htb (s - 2 ^ n)
    have h1 := tardG_nn (d := d) hw n tm
    rw [scanL]
    rcases Nat.lt_or_eq_of_le (Nat.le_of_lt_succ hi) with h | rfl
    · have := scanL_le (d := d) (tm := tm) hw htb n i h hb
      split
      · rename_i h2; omega
      · exact this
    · split
      · omega
      · rename_i h2; have h3 := not_and.mp h2 hb; omega
theorem scanL_get {w d : Nat → Int} {tb : List Int} {tm : Int} {s : Nat} : ∀ n, 0 ≤ scanL w d tb tm s n → ∃ i, i < n ∧ s.testBit i = true ∧ scanL w d tb tm s n = tb.getD (s - 2 ^ i) 0 + tardG w d i tm
  | 0, h => by simp [scanL] at h
  | n + 1, h => by
    rw [scanL] at h ⊢
    split at h
    · rename_i h2; rw [if_pos h2]; exact ⟨n, by omega, h2.1, rfl⟩
    · rename_i h2; rw [if_neg h2]; obtain ⟨i, hi, h3, h4⟩ := scanL_get n h; exact ⟨i, by omega, h3, h4⟩
theorem low_bit {s n : Nat} (h0 : s ≠ 0) (h : s < 2 ^ n) : ∃ i, i < n ∧ s.testBit i = true := by
  obtain ⟨i, hi⟩ := Nat.exists_testBit_of_ne_zero h0
  refine ⟨i, ?_, hi⟩
  rcases Nat.lt_or_ge i n with h1 | h1
  · exact h1
  · rw [Nat.testBit_lt_two_pow (Nat.lt_of_lt_of_le h (Nat.pow_le_pow_right (by omega) h1))] at hi; cases hi
theorem ge_bit {s i : Nat} (h : s.testBit i = true) : 2 ^ i ≤ s := Nat.ge_two_pow_of_testBit h
/-- a set without one of its jobs -/
theorem sub_bit {s i : Nat} (h : s.testBit i = true) (q : Nat) : (s - 2 ^ i).testBit q = (s.testBit q && !decide (q = i)) := by
  have h1 : (s ^^^ 2 ^ i).testBit i = false := by rw [Nat.testBit_xor, h, Nat.testBit_two_pow_self]; rfl
  have h2 : (s ^^^ 2 ^ i) + 2 ^ i = s := by
    apply Nat.eq_of_testBit_eq; intro j
    rw [add_bit h1, Nat.testBit_xor, Nat.testBit_two_pow]
    by_cases hj : i = j
    · subst hj; simp [h]
    · simp [hj, Ne.symm hj]
  have e : s - 2 ^ i = s ^^^ 2 ^ i := by omega
  rw [e, Nat.testBit_xor, Nat.testBit_two_pow]
  by_cases hq : i = q
  · subst hq; simp [h]
  · simp [hq, Ne.symm hq]
theorem bsum_nn {f : Nat → Int} (hf : ∀ x, 0 ≤ f x) (s : Nat) : ∀ n, 0 ≤ bsum f s n
  | 0 => Int.le_refl _
  | n + 1 => by have := bsum_nn hf s n; have := hf n; rw [bsum]; split <;> omega
theorem bsum_congr {f : Nat → Int} {s r : Nat} : ∀ n, (∀ i, i < n → s.testBit i = r.testBit i) → bsum f s n = bsum f r n
  | 0, _ => rfl
  | n + 1, h => by rw [bsum, bsum, bsum_congr n (fun i hi => h i (by omega)), h n (by omega)]
theorem bsum_sub {f : Nat → Int} {s i : Nat} (h : s.testBit i = true) : ∀ n, bsum f (s - 2 ^ i) n = bsum f s n - (if i < n then f i else 0)
  | 0 => by simp [bsum]
  | n + 1 => by
    rw [bsum, bsum, bsum_sub h n, sub_bit h]
    by_cases e : n = i
    · subst e; simp [h]
    · by_cases h2 : i < n
      · rw [if_pos h2, if_pos (show i < n + 1 by omega)]; simp [e]; omega
      · rw [if_neg h2, if_neg (show ¬ i < n + 1 by omega)]; simp [e]
theorem ltX_nn {t w d : Nat → Int} (hw : ∀ x, 0 ≤ w x) {n : Nat} : ∀ N s, s ≤ N → s < 2 ^ n → 0 ≤ ltX t w d n s
  | _, 0, _, _ => Int.le_refl _
  | N + 1, s + 1, hN, hs => by
    have htb : ∀ q, 0 ≤ (ltT t w d n s).getD q 0 := fun q => by
      rcases Nat.lt_or_ge s q with h | h
      · rw [List.getD_eq_getElem?_getD, List.getElem?_eq_none (by rw [ltT_len]; omega)]; simp
      · rw [ltT_at h]; exact ltX_nn hw N q (by omega) (by omega)
    obtain ⟨i, hi, hb⟩ := low_bit (show s + 1 ≠ 0 by omega) hs
    rw [ltX_succ]
    exact (scanL_le hw htb n i hi hb).1
theorem ltX_le {t w d : Nat → Int} (hw : ∀ x, 0 ≤ w x) {n s i : Nat} (hs : s < 2 ^ n) (hi : i < n) (hb : s.testBit i = true) : ltX t w d n s ≤ ltX t w d n (s - 2 ^ i) + tardG w d i (bsum t s n) := by
  have hg := ge_bit hb
  have hp := Nat.two_pow_pos i
  obtain ⟨s, rfl⟩ : ∃ r, s = r + 1 := ⟨s - 1, by omega⟩
  have htb : ∀ q, 0 ≤ (ltT t w d n s).getD q 0 := fun q => by
    rcases Nat.lt_or_ge s q with h | h
    · rw [List.getD_eq_getElem?_getD, List.getElem?_eq_none (by rw [ltT_len]; omega)]; simp
    · rw [ltT_at h]; exact ltX_nn hw s q (by omega) (by omega)
  have := (scanL_le (d := d) (tm := bsum t (s + 1) n) hw htb n i hi hb).2
  rw [ltT_at (show s + 1 - 2 ^ i ≤ s by omega)] at this
  rw [ltX_succ]; exact this
theorem ltX_get {t w d : Nat → Int} (hw : ∀ x, 0 ≤ w x) {n s : Nat} (h0 : s ≠ 0) (hs : s < 2 ^ n) : ∃ i, i < n ∧ s.testBit i = true ∧ ltX t w d n s = ltX t w d n (s - 2 ^ i) + tardG w d i (bsum t s n) := by
  have h1 := ltX_nn (t := t) (d := d) hw s s (Nat.le_refl _) hs
  obtain ⟨s, rfl⟩ : ∃ r, s = r + 1 := ⟨s - 1, by omega⟩
  rw [ltX_succ] at h1
  obtain ⟨i, hi, hb, e⟩ := scanL_get n h1
  have := Nat.two_pow_pos i
  exact ⟨i, hi, hb, by rw [ltX_succ, e, ltT_at (show s + 1 - 2 ^ i ≤ s by omega)]⟩
/-- the set of some jobs -/
def setOf : List Nat → Nat
  | [] => 0
  | x :: l => setOf l + 2 ^ x
theorem setOf_bit : ∀ {l : List Nat}, l.Nodup → ∀ q, (setOf l).testBit q = decide (q ∈ l)
  | [], _, q => by simp [setOf]
  | x :: l, h, q => by
    obtain ⟨h1, h2⟩ := List.nodup_cons.1 h
    have hx : (setOf l).testBit x = false := by rw [setOf_bit h2]; simpa using h1
    rw [setOf, add_bit hx, setOf_bit h2]
    by_cases e : q = x
    · subst e; simp
    · simp [e]
theorem setOf_lt {l : List Nat} (h : l.Nodup) {n : Nat} (hl : ∀ x ∈ l, x < n) : setOf l < 2 ^ n :=
  Nat.lt_pow_two_of_testBit _ fun i hi => by
    rw [setOf_bit h]
    simp only [decide_eq_false_iff_not]
    intro hm; have := hl i hm; omega
theorem setOf_snoc {l : List Nat} {x : Nat} (h : (l ++ [x]).Nodup) : (setOf (l ++ [x])).testBit x = true ∧ setOf (l ++ [x]) - 2 ^ x = setOf l := by
  have h1 := List.nodup_append.1 h
  have hx : x ∉ l := fun hm => h1.2.2 x hm x (by simp) rfl
  have hb : (setOf (l ++ [x])).testBit x = true := by rw [setOf_bit h]; simp
  refine ⟨hb, ?_⟩
  apply Nat.eq_of_testBit_eq; intro q
  rw [sub_bit hb, setOf_bit h, setOf_bit h1.1]
  by_cases e : q = x
  · subst e; simp [hx]
  · simp [e]
theorem bsum_none (f : Nat → Int) : ∀ n, bsum f 0 n = 0
  | 0 => rfl
  | n + 1 => by rw [bsum, bsum_none f n]; simp
theorem bsum_set {f : Nat → Int} {n : Nat} (l : List Nat) : l.Nodup → (∀ x ∈ l, x < n) → bsum f (setOf l) n = sumL f l := by
  refine snoc_ind (P := fun l => l.Nodup → (∀ x ∈ l, x < n) → bsum f (setOf l) n = sumL f l) ?_ ?_ l
  · intro _ _
    exact bsum_none f n
  · intro l x ih h hl
    obtain ⟨hb, he⟩ := setOf_snoc h
    have h1 := List.nodup_append.1 h
    have h2 := bsum_sub (f := f) hb n
    rw [he, ih h1.1 (fun y hy => hl y (List.mem_append_left _ hy)), if_pos (hl x (by simp))] at h2
    rw [sumL_append, sumL, sumL]; omega
theorem lt_le {t w d : Nat → Int} (hw : ∀ x, 0 ≤ w x) {n : Nat} (l : List Nat) : l.Nodup → (∀ x ∈ l, x < n) → ltX t w d n (setOf l) ≤ costG t (tardG w d) 0 l := by
  refine snoc_ind (P := fun l => l.Nodup → (∀ x ∈ l, x < n) → ltX t w d n (setOf l) ≤ costG t (tardG w d) 0 l) ?_ ?_ l
  · intro _ _; exact Int.le_refl _
  · intro l x ih h hl
    obtain ⟨hb, he⟩ := setOf_snoc h
    have h1 := List.nodup_append.1 h
    have h2 := ltX_le (t := t) (d := d) hw (setOf_lt h hl) (hl x (by simp)) hb
    have h3 := ih h1.1 (fun y hy => hl y (List.mem_append_left _ hy))
    rw [he, bsum_set _ h hl, sumL_append, sumL, sumL] at h2
    rw [costG_snoc]
    have e : 0 + sumL t l + t x = sumL t l + (t x + 0) := by omega
    rw [e]; omega
theorem lt_is {t w d : Nat → Int} (hw : ∀ x, 0 ≤ w x) {n : Nat} : ∀ N s, s ≤ N → s < 2 ^ n → ∃ l : List Nat, l.Nodup ∧ (∀ x ∈ l, x < n) ∧ setOf l = s ∧ costG t (tardG w d) 0 l = ltX t w d n s
  | _, 0, _, _ => ⟨[], List.nodup_nil, fun x hx => (by cases hx), rfl, rfl⟩
  | N + 1, s + 1, hN, hs => by
    obtain ⟨i, hi, hb, he⟩ := ltX_get (t := t) (d := d) hw (show s + 1 ≠ 0 by omega) hs
    have hp := Nat.two_pow_pos i
    have hg := ge_bit hb
    obtain ⟨l, hn, hl, hset, hc⟩ := lt_is (t := t) (d := d) (n := n) hw N (s + 1 - 2 ^ i) (by omega) (by omega)
    have hil : i ∉ l := fun hm => by
      have h1 := setOf_bit hn i
      rw [hset, sub_bit hb] at h1
      simp [hm] at h1
    have hn2 : (l ++ [i]).Nodup := List.nodup_append.2 ⟨hn, by simp, fun a ha b hb2 e => hil (by rw [← List.mem_singleton.1 hb2, ← e]; exact ha)⟩
    have hl2 : ∀ x ∈ l ++ [i], x < n := fun x hx => by
      rcases List.mem_append.1 hx with h1 | h1
      · exact hl x h1
      · rw [List.mem_singleton.1 h1]; exact hi
    obtain ⟨hb2, he2⟩ := setOf_snoc hn2
    have hg2 := ge_bit hb2
    have hs2 : setOf (l ++ [i]) = s + 1 := by omega
    refine ⟨l ++ [i], hn2, hl2, hs2, ?_⟩
    have h2 := bsum_set (f := t) _ hn2 hl2
    rw [hs2] at h2
    rw [costG_snoc, hc, he, h2, sumL_append, sumL, sumL]
    have e : 0 + sumL t l + t i = sumL t l + (t i + 0) := by omega
    rw [e]
/-- the least lateness over all orders -/
def LeastL (t w d : Nat → Int) (n : Nat) (v : Int) : Prop := (∃ l : List Nat, l.Perm (List.range n) ∧ costG t (tardG w d) 0 l = v) ∧ ∀ l : List Nat, l.Perm (List.range n) → v ≤ costG t (tardG w d) 0 l
theorem setOf_range {l : List Nat} {n : Nat} (hn : l.Nodup) (hl : ∀ x ∈ l, x < n) : setOf l = 2 ^ n - 1 ↔ l.Perm (List.range n) := by
  constructor
  · intro h
    refine (List.perm_ext_iff_of_nodup hn List.nodup_range).2 fun x => ?_
    rw [List.mem_range]
    refine ⟨hl x, fun hx => ?_⟩
    have h1 := setOf_bit hn x
    rw [h, Nat.testBit_two_pow_sub_one] at h1
    simpa [hx] using h1.symm
  · intro h
    apply Nat.eq_of_testBit_eq; intro x
    rw [setOf_bit hn, Nat.testBit_two_pow_sub_one]
    apply decide_eq_decide.mpr
    rw [h.mem_iff, List.mem_range]
theorem ltX_least {t w d : Nat → Int} (hw : ∀ x, 0 ≤ w x) (n : Nat) : LeastL t w d n (ltX t w d n (2 ^ n - 1)) := by
  have hp := Nat.two_pow_pos n
  constructor
  · obtain ⟨l, hn, hl, hs, hc⟩ := lt_is (t := t) (d := d) (n := n) hw (2 ^ n - 1) (2 ^ n - 1) (Nat.le_refl _) (by omega)
    exact ⟨l, (setOf_range hn hl).1 hs, hc⟩
  · intro l h
    have hn : l.Nodup := h.symm.nodup List.nodup_range
    have hl : ∀ x ∈ l, x < n := fun x hx => by have := h.mem_iff.1 hx; simpa using this
    have := lt_le (t := t) (d := d) hw l hn hl
    rwa [(setOf_range hn hl).2 h] at this
theorem least_less {t w d : Nat → Int} (ht : ∀ x, 0 ≤ t x) (hw : ∀ x, 0 ≤ w x) {n : Nat} {u v : Int} (h : LeastL t w d (n + 1) v) (g : LeastL t w d n u) : u ≤ v := by
  obtain ⟨⟨l, hl, rfl⟩, _⟩ := h
  have hn : l.Nodup := hl.symm.nodup List.nodup_range
  have hp : (l.filter (fun x => decide (x < n))).Perm (List.range n) := by
    refine (List.perm_ext_iff_of_nodup (hn.sublist List.filter_sublist) List.nodup_range).2 fun x => ?_
    rw [List.mem_filter, hl.mem_iff, List.mem_range, List.mem_range, decide_eq_true_eq]; omega
  exact Int.le_trans (g.2 _ hp) (costG_filter ht (fun x c c' h => tardG_mono hw x h) (tardG_nn hw) _ l 0 0 (Int.le_refl _))
end Go.Proofs.Ythmifadnfaajbab
namespace Go.Proofs.Ythmifadnfaajbab
open Go.RowKit Go.WideShapes

-- jobs of one machine
def jobB (r : List Int) : Bool := r.length == 3 && (inB 1 9 (r.getD 0 0) && (inB 0 9 (r.getD 1 0) && inB 0 60 (r.getD 2 0)))
def jobsM (rows : List (List Int)) : Bool := rows.all jobB && decide (rows.length ≤ 8)
theorem jobs_false {rows : List (List Int)} {k : Nat} {r : List Int} (h : rows[k]? = some r) (hr : jobB r = false) : jobsM rows = false := by
  unfold jobsM
  rw [List.all_eq_false.2 ⟨r, List.mem_of_getElem? h, by rw [hr]; simp⟩]; rfl
theorem jobs_get {rows : List (List Int)} (h : jobsM rows = true) : rows.length ≤ 8 ∧ ∀ r ∈ rows, r.length = 3 ∧ (1 ≤ r.getD 0 0 ∧ r.getD 0 0 ≤ 9) ∧ (0 ≤ r.getD 1 0 ∧ r.getD 1 0 ≤ 9) ∧ (0 ≤ r.getD 2 0 ∧ r.getD 2 0 ≤ 60) := by
  simp only [jobsM, Bool.and_eq_true, decide_eq_true_eq, List.all_eq_true] at h
  refine ⟨h.2, fun r hr => ?_⟩
  have := h.1 r hr
  simp only [jobB, Bool.and_eq_true, beq_iff_eq] at this
  exact ⟨this.1, by simpa [inB] using this.2.1, by simpa [inB] using this.2.2.1, by simpa [inB] using this.2.2.2⟩
/-- the due time of a job -/
def td (rows : List (List Int)) (x : Nat) : Int := (rows.getD x []).getD 2 0
theorem j_bd {rows : List (List Int)} (h : jobsM rows = true) (x : Nat) : (0 ≤ ta rows x ∧ ta rows x ≤ 9) ∧ (0 ≤ tb rows x ∧ tb rows x ≤ 9) ∧ (0 ≤ td rows x ∧ td rows x ≤ 60) := by
  obtain ⟨_, h2⟩ := jobs_get h
  unfold ta tb td
  rcases Nat.lt_or_ge x rows.length with hx | hx
  · rw [List.getD_eq_getElem?_getD (l := rows), List.getElem?_eq_getElem hx]
    have := h2 rows[x] (List.getElem_mem hx)
    exact ⟨⟨Int.le_trans (by omega) this.2.1.1, this.2.1.2⟩, this.2.2.1, this.2.2.2⟩
  · rw [List.getD_eq_getElem?_getD (l := rows), List.getElem?_eq_none hx]; simp
theorem j_pos {rows : List (List Int)} (h : jobsM rows = true) {x : Nat} (hx : x < rows.length) : 1 ≤ ta rows x := by
  unfold ta
  rw [List.getD_eq_getElem?_getD (l := rows), List.getElem?_eq_getElem hx]
  exact ((jobs_get h).2 rows[x] (List.getElem_mem hx)).2.1.1
theorem j_at {rows : List (List Int)} {x : Nat} {r : List Int} (h : rows[x]? = some r) : ta rows x = r.getD 0 0 ∧ tb rows x = r.getD 1 0 ∧ td rows x = r.getD 2 0 := by
  unfold ta tb td; rw [List.getD_eq_getElem?_getD (l := rows), h]; exact ⟨rfl, rfl, rfl⟩
/-- where a job's row stands -/
theorem row3_at {w : World} {S : Nat → Prop} {a : Option Addr} {len : Nat} {rows : List (List Int)} (h : RowsAt w S a len rows) (hP : ∀ r ∈ rows, r.length = 3 ∧ (1 ≤ r.getD 0 0 ∧ r.getD 0 0 ≤ 9) ∧ (0 ≤ r.getD 1 0 ∧ r.getD 1 0 ≤ 9) ∧ (0 ≤ r.getD 2 0 ∧ r.getD 2 0 ≤ 60)) {q : Nat} (hq : q < len) :
    ∃ (b2 off2 b3 off3 c : Nat), a = some ⟨b2, off2, none⟩ ∧
      w.cell? ⟨b2, off2 + q, none⟩ = some (.slice (some ⟨b3, off3, none⟩) 3 c) ∧ w.cell? ⟨b3, off3, none⟩ = some (.int .i64 (ta rows q)) ∧ w.cell? ⟨b3, off3 + 1, none⟩ = some (.int .i64 (tb rows q)) ∧ w.cell? ⟨b3, off3 + 2, none⟩ = some (.int .i64 (td rows q)) ∧ 3 ≤ c := by
  obtain ⟨b2, off2, r, a', l, c, rfl, hr, hcr, hlc, hri⟩ := h.get hq
  obtain ⟨hr3, _⟩ := hP r (List.mem_of_getElem? hr)
  have hl3 : l = 3 := by rw [← hri.lenEq, hr3]
  subst hl3
  obtain ⟨b3, off3, x3, rfl, h3, hc3⟩ := hri.get (k := 0) (by omega)
  obtain ⟨b4, off4, x4, e4, h4, hc4⟩ := hri.get (k := 1) (by omega)
  cases e4
  obtain ⟨b5, off5, x5, e5, h5, hc5⟩ := hri.get (k := 2) (by omega)
  cases e5
  have ht := j_at hr
  rw [getD_of h3, getD_of h4, getD_of h5] at ht
  rw [Nat.add_zero] at hc3
  exact ⟨b2, off2, b3, off3, c, rfl, hcr, by rw [ht.1]; exact hc3, by rw [ht.2.1]; exact hc4, by rw [ht.2.2]; exact hc5, hlc⟩
theorem row3_mem {w : World} {a : Option Addr} {n len : Nat} {rows : List (List Int)} (h : RowsAt w (· < n) a len rows) (hP : ∀ r ∈ rows, r.length = 3 ∧ (1 ≤ r.getD 0 0 ∧ r.getD 0 0 ≤ 9) ∧ (0 ≤ r.getD 1 0 ∧ r.getD 1 0 ≤ 9) ∧ (0 ≤ r.getD 2 0 ∧ r.getD 2 0 ≤ 60)) {q b off b3 off3 c : Nat} (hq : q < len)
    (hc : w.cell? ⟨b, off + q, none⟩ = some (.slice (some ⟨b3, off3, none⟩) 3 c)) (ha : a = some ⟨b, off, none⟩ := by rfl) : b3 < n := by
  obtain ⟨b2, off2, r, a', l, c', e, hr, hcr, hlc, hri⟩ := h.get hq
  rw [ha] at e
  cases e
  rw [hcr] at hc
  cases hc
  exact hri.mem (by omega)
theorem ord_at {w : World} {T : Nat → Prop} {a2 : Option Addr} {len2 n : Nat} {o : List Int} (g : IntsAt w T a2 len2 o) (ho : ∀ x ∈ o, 0 ≤ x ∧ x < (n : Int)) {k : Nat} (hk : k < len2) :
    ∃ (b off q : Nat), a2 = some ⟨b, off, none⟩ ∧ (nO o)[k]? = some q ∧ q < n ∧ w.cell? ⟨b, off + k, none⟩ = some (.int .i64 (q : Int)) := by
  obtain ⟨b, off, x, rfl, hx, hc⟩ := g.get hk
  have hxb := ho x (List.mem_of_getElem? hx)
  obtain ⟨q, rfl⟩ : ∃ q : Nat, x = (q : Int) := ⟨x.toNat, by omega⟩
  exact ⟨b, off, q, rfl, by unfold nO; rw [List.getElem?_map, hx]; simp, by omega, hc⟩
/-- jobs in an order -/
def rowFine (rows : List (List Int)) (o : List Int) : Bool := jobsM rows && orderM o rows.length
theorem rowFine_get {rows : List (List Int)} {o : List Int} (h : rowFine rows o = true) : jobsM rows = true ∧ orderP o rows.length := by
  simp only [rowFine, Bool.and_eq_true] at h; exact ⟨h.1, orderM_get h.2⟩
/-- when the jobs are done -/
def endsL (t : Nat → Int) (l : List Nat) (k : Nat) : List Int := tab (fun j => sumL t (l.take (j + 1))) k
theorem sum_snoc {f : Nat → Int} {l : List Nat} {k q : Nat} (h : l[k]? = some q) : sumL f (l.take (k + 1)) = sumL f (l.take k) + f q := by
  rw [take_get h, sumL_append, sumL, sumL, Int.add_zero]
theorem sum_bd {f : Nat → Int} {B : Int} (h : ∀ x, 0 ≤ f x ∧ f x ≤ B) (l : List Nat) (k : Nat) : 0 ≤ sumL f (l.take k) ∧ sumL f (l.take k) ≤ B * ((l.take k).length : Int) :=
  ⟨sumL_nn (fun x => (h x).1) _, sumL_bd (fun x => (h x).2) _⟩
end Go.Proofs.Ythmifadnfaajbab
namespace Go.Proofs.Ythmifadnfaajbab
open Go.RowKit Go.WideShapes

def srtI (ah : Nat → Nat → Bool) (n : Nat) : List Int := (sortE ah n).map (fun x : Nat => (x : Int))
theorem srtI_len (ah : Nat → Nat → Bool) (n : Nat) : (srtI ah n).length = n := by unfold srtI; rw [List.length_map, sortE_len]
theorem srtI_get {ah : Nat → Nat → Bool} {n k : Nat} {x : Int} (h : (srtI ah n)[k]? = some x) : ∃ y : Nat, x = (y : Int) ∧ y < n ∧ (sortE ah n).getD k 0 = y := by
  unfold srtI at h
  rw [List.getElem?_map] at h
  cases hq : (sortE ah n)[k]? with
  | none => rw [hq] at h; cases h
  | some y =>
    rw [hq] at h
    simp only [Option.map_some, Option.some.injEq] at h
    exact ⟨y, h.symm, sortE_mem.1 (List.mem_of_getElem? hq), by rw [List.getD_eq_getElem?_getD, hq]; rfl⟩
theorem srtI_succ {ah : Nat → Nat → Bool} {n k : Nat} (h1 : ∀ m, k ≤ m → m < n → ah n ((sortE ah n).getD m 0) = true) (h2 : 0 < k → ah n ((sortE ah n).getD (k - 1) 0) = false) (hk : k ≤ n) :
    srtI ah (n + 1) = (srtI ah n).take k ++ [(n : Int)] ++ (srtI ah n).drop k := by
  have hb : backK (ah n) (sortE ah n) (sortE ah n).length = k := backK_is (by rw [sortE_len]; exact hk) (fun m hm hm2 => h1 m hm (by rw [sortE_len] at hm2; exact hm2)) h2
  unfold srtI
  show List.map _ (insE ah n (sortE ah n)) = _
  unfold insE
  rw [hb]
  simp
end Go.Proofs.Ythmifadnfaajbab
namespace Go.Proofs.Ythmifadnfaajbab

-- chapter 11, plain: fitting one after another
/-- the first of the rolls on which there is room, or how many there are -/
def roomK (lf : List Int) (x : Int) : Nat → Nat → Nat
  | 0, s => s
  | d + 1, s => if x ≤ lf.getD s 0 then s else roomK lf x d (s + 1)
theorem roomK_is (lf : List Int) (x : Int) : ∀ d s, s ≤ roomK lf x d s ∧ roomK lf x d s ≤ s + d ∧ (∀ j, s ≤ j → j < roomK lf x d s → lf.getD j 0 < x) ∧ (roomK lf x d s < s + d → x ≤ lf.getD (roomK lf x d s) 0)
  | 0, s => ⟨Nat.le_refl _, Nat.le_refl _, fun j h1 h2 => by simp only [roomK] at h2; omega, fun h => by simp only [roomK] at h; omega⟩
  | d + 1, s => by
    by_cases h : x ≤ lf.getD s 0
    · have e : roomK lf x (d + 1) s = s := by simp only [roomK]; rw [if_pos h]
      rw [e]
      exact ⟨Nat.le_refl _, by omega, fun j h1 h2 => by omega, fun _ => h⟩
    · have e : roomK lf x (d + 1) s = roomK lf x d (s + 1) := by simp only [roomK]; rw [if_neg h]
      obtain ⟨i1, i2, i3, i4⟩ := roomK_is lf x d (s + 1)
      rw [e]
      refine ⟨by omega, by omega, fun j h1 h2 => ?_, fun h2 => i4 (by omega)⟩
      rcases Nat.eq_or_lt_of_le h1 with h3 | h3
      · rw [← h3]; omega
      · exact i3 j (by omega) h2
def room (lf : List Int) (x : Int) : Nat := roomK lf x lf.length 0
theorem room_le (lf : List Int) (x : Int) : room lf x ≤ lf.length := by have := (roomK_is lf x lf.length 0).2.1; unfold room; omega
theorem room_lt {lf : List Int} {x : Int} {j : Nat} (h : j < room lf x) : lf.getD j 0 < x := (roomK_is lf x lf.length 0).2.2.1 j (Nat.zero_le _) h
theorem room_ge {lf : List Int} {x : Int} (h : room lf x < lf.length) : x ≤ lf.getD (room lf x) 0 := (roomK_is lf x lf.length 0).2.2.2 (by unfold room at h; omega)
theorem room_unique {lf : List Int} {x : Int} {k : Nat} (h1 : k ≤ lf.length) (h2 : ∀ j, j < k → lf.getD j 0 < x) (h3 : k < lf.length → x ≤ lf.getD k 0) : room lf x = k := by
  rcases Nat.lt_trichotomy (room lf x) k with h | h | h
  · have := room_ge (lf := lf) (x := x) (by omega); have := h2 _ h; omega
  · exact h
  · have := room_lt h; have := h3 (Nat.lt_of_lt_of_le h (room_le _ _)); omega
/-- one more is put: what is left on the rolls -/
def putL (R : Int) (lf : List Int) (x : Int) : List Int := (if room lf x = lf.length then lf ++ [R] else lf).set (room lf x) ((if room lf x = lf.length then lf ++ [R] else lf).getD (room lf x) 0 - x)
/-- what is left on the rolls, and each one's roll, behind the first ones of an order -/
def fitS (T : Nat → Int) (R : Int) (o : Nat → Nat) : Nat → List Int × (Nat → Nat)
  | 0 => ([], fun _ => 0)
  | t + 1 => (putL R (fitS T R o t).1 (T (o t)), fun i => if i = o t then room (fitS T R o t).1 (T (o t)) else (fitS T R o t).2 i)
theorem putL_len (R : Int) (lf : List Int) (x : Int) : (putL R lf x).length = if room lf x = lf.length then lf.length + 1 else lf.length := by
  unfold putL; rw [List.length_set]; split <;> simp
theorem putL_getD (R : Int) (lf : List Int) (x : Int) {b : Nat} (hb : b < (putL R lf x).length) : (putL R lf x).getD b 0 = (if b < lf.length then lf.getD b 0 else R) - (if b = room lf x then x else 0) := by
  rw [putL_len] at hb
  have hr := room_le lf x
  have hL : ∀ j, j < (if room lf x = lf.length then lf ++ [R] else lf).length → (if room lf x = lf.length then lf ++ [R] else lf).getD j 0 = if j < lf.length then lf.getD j 0 else R := fun j hj => by
    by_cases e : room lf x = lf.length
    · rw [if_pos e] at hj ⊢
      rw [List.getD_eq_getElem?_getD, List.getD_eq_getElem?_getD, List.getElem?_append]
      by_cases g : j < lf.length
      · rw [if_pos g, if_pos g]
      · rw [if_neg g, if_neg g]
        have : j = lf.length := by simp at hj; omega
        subst this; simp
    · rw [if_neg e] at hj ⊢
      rw [if_pos hj]
  have hlen : (if room lf x = lf.length then lf ++ [R] else lf).length = if room lf x = lf.length then lf.length + 1 else lf.length := by split <;> simp
  have hb2 : b < (if room lf x = lf.length then lf ++ [R] else lf).length := by rw [hlen]; exact hb
  unfold putL
  rw [List.getD_eq_getElem?_getD, List.getElem?_set]
  by_cases e : room lf x = b
  · have hb3 : room lf x < (if room lf x = lf.length then lf ++ [R] else lf).length := by rw [e]; rw [e] at hb2; exact hb2
    rw [if_pos e, if_pos hb3, if_pos e.symm, Option.getD_some, hL _ hb3, e]
  · rw [if_neg e, if_neg (Ne.symm e), ← List.getD_eq_getElem?_getD, hL b hb2]
    omega
structure FitI (T : Nat → Int) (R : Int) (n : Nat) (o : Nat → Nat) (t : Nat) (lf : List Int) (p : Nat → Nat) : Prop where
  low : ∀ j, j < t → p (o j) < lf.length
  full : ∀ b, b < lf.length → ∃ j, j < t ∧ p (o j) = b
  load : ∀ b, b < lf.length → lf.getD b 0 = R - wsum (fun j => T (o j)) (fun j => p (o j) == b) t
  nn : ∀ b, b < lf.length → 0 ≤ lf.getD b 0
  first : ∀ j, j < t → ∀ b, b < p (o j) → lf.getD b 0 < T (o j)
theorem fit_inv {T : Nat → Int} {R : Int} {n : Nat} {o : Nat → Nat} (hT : ∀ i, i < n → 1 ≤ T i ∧ T i ≤ R) (ho : ∀ j, j < n → o j < n) (hinj : ∀ i j, i < n → j < n → o i = o j → i = j) : ∀ t, t ≤ n → FitI T R n o t (fitS T R o t).1 (fitS T R o t).2
  | 0, _ => ⟨fun j h => absurd h (by omega), fun b h => absurd h (by simp [fitS]), fun b h => absurd h (by simp [fitS]), fun b h => absurd h (by simp [fitS]), fun j h => absurd h (by omega)⟩
  | t + 1, h => by
    obtain ⟨i1, i2, i3, i4, i5⟩ := fit_inv hT ho hinj t (by omega)
    obtain ⟨lf, hlf⟩ : ∃ lf, (fitS T R o t).1 = lf := ⟨_, rfl⟩
    obtain ⟨p, hp⟩ : ∃ p, (fitS T R o t).2 = p := ⟨_, rfl⟩
    rw [hlf] at i1 i2 i3 i4 i5
    rw [hp] at i1 i2 i3 i5
    have e1 : (fitS T R o (t + 1)).1 = putL R lf (T (o t)) := by rw [fitS, hlf]
    have e2 : (fitS T R o (t + 1)).2 = fun i => if i = o t then room lf (T (o t)) else p i := by rw [fitS, hlf, hp]
    rw [e1, e2]
    have hlen := putL_len R lf (T (o t))
    have hr := room_le lf (T (o t))
    have hne : ∀ j, j < t → o j ≠ o t := fun j hj e => by have := hinj j t (by omega) (by omega) e; omega
    have hTt := hT (o t) (ho t (by omega))
    refine ⟨fun j hj => ?_, fun b hb => ?_, fun b hb => ?_, fun b hb => ?_, fun j hj b hb => ?_⟩
    · try dsimp only
      rw [hlen]
      by_cases g : j = t
      · subst g; rw [if_pos rfl]; split <;> omega
      · rw [if_neg (hne j (by omega))]; have := i1 j (by omega); split <;> omega
    · try dsimp only
      rw [hlen] at hb
      by_cases g : b = room lf (T (o t))
      · exact ⟨t, by omega, by rw [if_pos rfl, g]⟩
      · obtain ⟨j, hj, e⟩ := i2 b (by split at hb <;> omega)
        exact ⟨j, by omega, by rw [if_neg (hne j hj)]; exact e⟩
    · rw [putL_getD R lf _ hb, wsum]
      rw [hlen] at hb
      have hw : wsum (fun j => T (o j)) (fun j => (if o j = o t then room lf (T (o t)) else p (o j)) == b) t = wsum (fun j => T (o j)) (fun j => p (o j) == b) t := wsum_congr t (fun j hj => by rw [if_neg (hne j hj)]) (fun _ _ _ => rfl)
      try dsimp only
      rw [hw]
      by_cases g : b < lf.length
      · rw [if_pos g, i3 b g]
        by_cases g2 : b = room lf (T (o t))
        · rw [if_pos g2, if_pos (by simp [g2])]; omega
        · rw [if_neg g2, if_neg (by simp; exact fun e => g2 e.symm)]; omega
      · have hb2 : b = lf.length ∧ room lf (T (o t)) = lf.length := by split at hb <;> omega
        rw [if_neg g, if_pos (by omega), if_pos (by simp; omega), wsum_none t (fun j hj => by have := i1 j hj; simp; omega)]
        omega
    · rw [putL_getD R lf _ hb]
      rw [hlen] at hb
      by_cases g2 : b = room lf (T (o t))
      · rw [if_pos g2]
        by_cases g : b < lf.length
        · rw [if_pos g]
          have := room_ge (lf := lf) (x := T (o t)) (by omega)
          rw [← g2] at this; omega
        · rw [if_neg g]; omega
      · rw [if_neg g2]
        have g : b < lf.length := by split at hb <;> omega
        rw [if_pos g]; have := i4 b g; omega
    · have hle : ∀ b, b < lf.length → (putL R lf (T (o t))).getD b 0 ≤ lf.getD b 0 := fun b g => by
        rw [putL_getD R lf _ (by rw [hlen]; split <;> omega), if_pos g]; split <;> omega
      try dsimp only at hb
      by_cases g : j = t
      · subst g
        rw [if_pos rfl] at hb
        have := room_lt hb
        have := hle b (by omega)
        omega
      · rw [if_neg (hne j (by omega))] at hb
        have := i5 j (by omega) b hb
        have := hle b (by have := i1 j (by omega); omega)
        omega
/-- how many rolls, one after another -/
def usedM (T : Nat → Int) (R : Int) (o : Nat → Nat) (t : Nat) : Nat := (fitS T R o t).1.length
theorem used_step (T : Nat → Int) (R : Int) (o : Nat → Nat) (t : Nat) : usedM T R o (t + 1) = usedM T R o t ∨ (usedM T R o (t + 1) = usedM T R o t + 1 ∧ room (fitS T R o t).1 (T (o t)) = usedM T R o t) := by
  unfold usedM
  rw [fitS]
  try dsimp only
  rw [putL_len]
  by_cases h : room (fitS T R o t).1 (T (o t)) = (fitS T R o t).1.length
  · rw [if_pos h]; exact .inr ⟨rfl, h⟩
  · rw [if_neg h]; exact .inl rfl
/-- the last one that began a roll -/
theorem last_new (T : Nat → Int) (R : Int) (o : Nat → Nat) : ∀ t, 0 < usedM T R o t → ∃ s, s < t ∧ usedM T R o (s + 1) = usedM T R o t ∧ usedM T R o s + 1 = usedM T R o t ∧ room (fitS T R o s).1 (T (o s)) = usedM T R o s
  | 0, h => by simp [usedM, fitS] at h
  | t + 1, h => by
    rcases used_step T R o t with e | ⟨e, e2⟩
    · obtain ⟨s, h1, h2, h3, h4⟩ := last_new T R o t (by omega)
      exact ⟨s, by omega, by omega, by omega, h4⟩
    · exact ⟨t, by omega, rfl, by omega, e2⟩
/-- a roll that was given stays -/
theorem fit_stays {T : Nat → Int} {R : Int} {n : Nat} {o : Nat → Nat} (hinj : ∀ i j, i < n → j < n → o i = o j → i = j) {s j : Nat} (hj : j < s) : ∀ d, s + d ≤ n → (fitS T R o (s + d)).2 (o j) = (fitS T R o s).2 (o j)
  | 0, _ => rfl
  | d + 1, h => by
    rw [← Nat.add_assoc, fitS]
    try dsimp only
    rw [if_neg (fun e => by have := hinj j (s + d) (by omega) (by omega) e; omega)]
    exact fit_stays hinj hj d (by omega)
end Go.Proofs.Ythmifadnfaajbab
