import Derived.Test.YtmcongioghkdcacM7
import Derived.Test.YtmcongioghkdcacM5
import Derived.Test.YtmcongioghkdcacRows
import Derived.WalkKit
import Derived.LoopTactic
import Derived.Outline
import Derived.WalkSpells
import Derived.WalkLawsBesides
import Derived.ProofKit
import Derived.Lib.Hide
import Derived.Deep.QuietTactic
import Derived.BigQuiet
import Derived.IntWalk
import Derived.Test.YtmcongioghkdcacM0
import Derived.Test.YtmcongioghkdcacM1
import Derived.Test.YtmcongioghkdcacM2
import Derived.Test.YtmcongioghkdcacM6
namespace Go.Proofs.Ytmcongioghkdcac

-- the least lateness, set by set: t, w, d of the jobs
/-- a sum over the jobs of a set -/
def bsum (f : Nat → Int) (s : Nat) : Nat → Int
  | 0 => 0
  | n + 1 => bsum f s n + (if s.testBit n = true then f n else 0)
def tardG (w d : Nat → Int) (x : Nat) (c : Int) : Int := w x * max (c - d x) 0
def scanL (w d : Nat → Int) (tb : List Int) (tm : Int) (s : Nat) : Nat → Int
  | 0 => -1
  | i + 1 => if s.testBit i = true ∧ (scanL w d tb tm s i < 0 ∨ tb.getD (s - 2 ^ i) 0 + tardG w d i tm < scanL w d tb tm s i) then tb.getD (s - 2 ^ i) 0 + tardG w d i tm else scanL w d tb tm s i
def ltT (t w d : Nat → Int) (n : Nat) : Nat → List Int
  | 0 => [0]
  | s + 1 => ltT t w d n s ++ [scanL w d (ltT t w d n s) (bsum t (s + 1) n) (s + 1) n]
def ltX (t w d : Nat → Int) (n : Nat) (s : Nat) : Int := (ltT t w d n s).getD s 0
theorem ltT_len (t w d : Nat → Int) (n : Nat) : ∀ s, (ltT t w d n s).length = s + 1
  | 0 => rfl
  | s + 1 => by rw [ltT, List.length_append, ltT_len t w d n s]; rfl
theorem ltT_get (t w d : Nat → Int) (n : Nat) (s : Nat) : ∀ q, (ltT t w d n (s + q)).getD s 0 = ltX t w d n s
  | 0 => rfl
  | q + 1 => by
    have h := ltT_len t w d n (s + q)
    rw [show s + (q + 1) = (s + q) + 1 by omega, ltT, ← ltT_get t w d n s q]
    simp only [List.getD_eq_getElem?_getD]
    rw [List.getElem?_append_left (by omega)]
theorem ltT_at {t w d : Nat → Int} {n s m : Nat} (h : s ≤ m) : (ltT t w d n m).getD s 0 = ltX t w d n s := by
  have := ltT_get t w d n s (m - s); rwa [show s + (m - s) = m by omega] at this
theorem ltX_succ (t w d : Nat → Int) (n s : Nat) : ltX t w d n (s + 1) = scanL w d (ltT t w d n s) (bsum t (s + 1) n) (s + 1) n := by
  have h := ltT_len t w d n s
  unfold ltX
  rw [ltT]
  simp only [List.getD_eq_getElem?_getD]
  rw [List.getElem?_append_right (by omega), show s + 1 - (ltT t w d n s).length = 0 by omega]
  rfl
theorem tardG_nn {w d : Nat → Int} (hw : ∀ x, 0 ≤ w x) (x : Nat) (c : Int) : 0 ≤ tardG w d x c := Int.mul_nonneg (hw x) (by omega)
theorem tardG_mono {w d : Nat → Int} (hw : ∀ x, 0 ≤ w x) (x : Nat) {c c' : Int} (h : c ≤ c') : tardG w d x c ≤ tardG w d x c' := Int.mul_le_mul_of_nonneg_left (by omega) (hw x)
theorem scanL_le {w d : Nat → Int} {tb : List Int} {tm : Int} {s : Nat} (hw : ∀ x, 0 ≤ w x) (htb : ∀ q, 0 ≤ tb.getD q 0) : ∀ n i, i < n → s.testBit i = true → 0 ≤ scanL w d tb tm s n ∧ scanL w d tb tm s n ≤ tb.getD (s - 2 ^ i) 0 + tardG w d i tm
  | n + 1, i, hi, hb => by
    have h0 := htb (s - 2 ^ n)
    have h1 := tardG_nn (d := d) hw n tm
    rw [scanL]
    rcases Nat.lt_or_eq_of_le (Nat.le_of_lt_succ hi) with h | rfl
    · have := scanL_le (d := d) (tm := tm) hw htb n i h hb
      split
      · rename_i h2; omega
      · exact this
    · split
      · omega
      · rename_i h2; have h3 := not_and.mp h2 hb; omega
theorem scanL_get {w d : Nat → Int} {tb : List Int} {tm : Int} {s : Nat} : ∀ n, 0 ≤ scanL w d tb tm s n → ∃ i, i < n ∧ s.testBit i = true ∧ scanL w d tb tm s n = tb.getD (s - 2 ^ i) 0 + tardG w d i tm
  | 0, h => by simp [scanL] at h
  | n + 1, h => by
    rw [scanL] at h ⊢
    split at h
    · rename_i h2; rw [if_pos h2]; exact ⟨n, by omega, h2.1, rfl⟩
    · rename_i h2; rw [if_neg h2]; obtain ⟨i, hi, h3, h4⟩ := scanL_get n h; exact ⟨i, by omega, h3, h4⟩
theorem low_bit {s n : Nat} (h0 : s ≠ 0) (h : s < 2 ^ n) : ∃ i, i < n ∧ s.testBit i = true := by
  obtain ⟨i, hi⟩ := Nat.exists_testBit_of_ne_zero h0
  refine ⟨i, ?_, hi⟩
  rcases Nat.lt_or_ge i n with h1 | h1
  · exact h1
  · rw [Nat.testBit_lt_two_pow (Nat.lt_of_lt_of_le h (Nat.pow_le_pow_right (by omega) h1))] at hi; cases hi
theorem ge_bit {s i : Nat} (h : s.testBit i = true) : 2 ^ i ≤ s := Nat.ge_two_pow_of_testBit h
/-- a set without one of its jobs -/
theorem sub_bit {s i : Nat} (h : s.testBit i = true) (q : Nat) : (s - 2 ^ i).testBit q = (s.testBit q && !decide (q = i)) := by
  have h1 : (s ^^^ 2 ^ i).testBit i = false := by rw [Nat.testBit_xor, h, Nat.testBit_two_pow_self]; rfl
  have h2 : (s ^^^ 2 ^ i) + 2 ^ i = s := by
    apply Nat.eq_of_testBit_eq; intro j
    rw [add_bit h1, Nat.testBit_xor, Nat.testBit_two_pow]
    by_cases hj : i = j
    · subst hj; simp [h]
    · simp [hj, Ne.symm hj]
  have e : s - 2 ^ i = s ^^^ 2 ^ i := by omega
  rw [e, Nat.testBit_xor, Nat.testBit_two_pow]
  by_cases hq : i = q
  · subst hq; simp [h]
  · simp [hq, Ne.symm hq]
theorem bsum_nn {f : Nat → Int} (hf : ∀ x, 0 ≤ f x) (s : Nat) : ∀ n, 0 ≤ bsum f s n
  | 0 => Int.le_refl _
  | n + 1 => by have := bsum_nn hf s n; have := hf n; rw [bsum]; split <;> omega
theorem bsum_congr {f : Nat → Int} {s r : Nat} : ∀ n, (∀ i, i < n → s.testBit i = r.testBit i) → bsum f s n = bsum f r n
  | 0, _ => rfl
  | n + 1, h => by rw [bsum, bsum, bsum_congr n (fun i hi => h i (by omega)), h n (by omega)]
theorem bsum_sub {f : Nat → Int} {s i : Nat} (h : s.testBit i = true) : ∀ n, bsum f (s - 2 ^ i) n = bsum f s n - (if i < n then f i else 0)
  | 0 => by simp [bsum]
  | n + 1 => by
    rw [bsum, bsum, bsum_sub h n, sub_bit h]
    by_cases e : n = i
    · subst e; simp [h]
    · by_cases h2 : i < n
      · rw [if_pos h2, if_pos (show i < n + 1 by omega)]; simp [e]; omega
      · rw [if_neg h2, if_neg (show ¬ i < n + 1 by omega)]; simp [e]
theorem ltX_nn {t w d : Nat → Int} (hw : ∀ x, 0 ≤ w x) {n : Nat} : ∀ N s, s ≤ N → s < 2 ^ n → 0 ≤ ltX t w d n s
  | _, 0, _, _ => Int.le_refl _
  | N + 1, s + 1, hN, hs => by
    have htb : ∀ q, 0 ≤ (ltT t w d n s).getD q 0 := fun q => by
      rcases Nat.lt_or_ge s q with h | h
      · rw [List.getD_eq_getElem?_getD, List.getElem?_eq_none (by rw [ltT_len]; omega)]; simp
      · rw [ltT_at h]; exact ltX_nn hw N q (by omega) (by omega)
    obtain ⟨i, hi, hb⟩ := low_bit (show s + 1 ≠ 0 by omega) hs
    rw [ltX_succ]
    exact (scanL_le hw htb n i hi hb).1
theorem ltX_le {t w d : Nat → Int} (hw : ∀ x, 0 ≤ w x) {n s i : Nat} (hs : s < 2 ^ n) (hi : i < n) (hb : s.testBit i = true) : ltX t w d n s ≤ ltX t w d n (s - 2 ^ i) + tardG w d i (bsum t s n) := by
  have hg := ge_bit hb
  have hp := Nat.two_pow_pos i
  obtain ⟨s, rfl⟩ : ∃ r, s = r + 1 := ⟨s - 1, by omega⟩
  have htb : ∀ q, 0 ≤ (ltT t w d n s).getD q 0 := fun q => by
    rcases Nat.lt_or_ge s q with h | h
    · rw [List.getD_eq_getElem?_getD, List.getElem?_eq_none (by rw [ltT_len]; omega)]; simp
    · rw [ltT_at h]; exact ltX_nn hw s q (by omega) (by omega)
  have := (scanL_le (d := d) (tm := bsum t (s + 1) n) hw htb n i hi hb).2
  rw [ltT_at (show s + 1 - 2 ^ i ≤ s by omega)] at this
  rw [ltX_succ]; exact this
theorem ltX_get {t w d : Nat → Int} (hw : ∀ x, 0 ≤ w x) {n s : Nat} (h0 : s ≠ 0) (hs : s < 2 ^ n) : ∃ i, i < n ∧ s.testBit i = true ∧ ltX t w d n s = ltX t w d n (s - 2 ^ i) + tardG w d i (bsum t s n) := by
  have h1 := ltX_nn (t := t) (d := d) hw s s (Nat.le_refl _) hs
  obtain ⟨s, rfl⟩ : ∃ r, s = r + 1 := ⟨s - 1, by omega⟩
  rw [ltX_succ] at h1
  obtain ⟨i, hi, hb, e⟩ := scanL_get n h1
  have := Nat.two_pow_pos i
  exact ⟨i, hi, hb, by rw [ltX_succ, e, ltT_at (show s + 1 - 2 ^ i ≤ s by omega)]⟩
/-- the set of some jobs -/
def setOf : List Nat → Nat
  | [] => 0
  | x :: l => setOf l + 2 ^ x
theorem setOf_bit : ∀ {l : List Nat}, l.Nodup → ∀ q, (setOf l).testBit q = decide (q ∈ l)
  | [], _, q => by simp [setOf]
  | x :: l, h, q => by
    obtain ⟨h1, h2⟩ := List.nodup_cons.1 h
    have hx : (setOf l).testBit x = false := by rw [setOf_bit h2]; simpa using h1
    rw [setOf, add_bit hx, setOf_bit h2]
    by_cases e : q = x
    · subst e; simp
    · simp [e]
theorem setOf_lt {l : List Nat} (h : l.Nodup) {n : Nat} (hl : ∀ x ∈ l, x < n) : setOf l < 2 ^ n :=
  Nat.lt_pow_two_of_testBit _ fun i hi => by
    rw [setOf_bit h]
    simp only [decide_eq_false_iff_not]
    intro hm; have := hl i hm; omega
theorem setOf_snoc {l : List Nat} {x : Nat} (h : (l ++ [x]).Nodup) : (setOf (l ++ [x])).testBit x = true ∧ setOf (l ++ [x]) - 2 ^ x = setOf l := by
  have h1 := List.nodup_append.1 h
  have hx : x ∉ l := fun hm => h1.2.2 x hm x (by simp) rfl
  have hb : (setOf (l ++ [x])).testBit x = true := by rw [setOf_bit h]; simp
  refine ⟨hb, ?_⟩
  apply Nat.eq_of_testBit_eq; intro q
  rw [sub_bit hb, setOf_bit h, setOf_bit h1.1]
  by_cases e : q = x
  · subst e; simp [hx]
  · simp [e]
theorem bsum_none (f : Nat → Int) : ∀ n, bsum f 0 n = 0
  | 0 => rfl
  | n + 1 => by rw [bsum, bsum_none f n]; simp
theorem bsum_set {f : Nat → Int} {n : Nat} (l : List Nat) : l.Nodup → (∀ x ∈ l, x < n) → bsum f (setOf l) n = sumL f l := by
  refine snoc_ind (P := fun l => l.Nodup → (∀ x ∈ l, x < n) → bsum f (setOf l) n = sumL f l) ?_ ?_ l
  · intro _ _
    exact bsum_none f n
  · intro l x ih h hl
    obtain ⟨hb, he⟩ := setOf_snoc h
    have h1 := List.nodup_append.1 h
    have h2 := bsum_sub (f := f) hb n
    rw [he, ih h1.1 (fun y hy => hl y (List.mem_append_left _ hy)), if_pos (hl x (by simp))] at h2
    rw [sumL_append, sumL, sumL]; omega
theorem lt_le {t w d : Nat → Int} (hw : ∀ x, 0 ≤ w x) {n : Nat} (l : List Nat) : l.Nodup → (∀ x ∈ l, x < n) → ltX t w d n (setOf l) ≤ costG t (tardG w d) 0 l := by
  refine snoc_ind (P := fun l => l.Nodup → (∀ x ∈ l, x < n) → ltX t w d n (setOf l) ≤ costG t (tardG w d) 0 l) ?_ ?_ l
  · intro _ _; exact Int.le_refl _
  · intro l x ih h hl
    obtain ⟨hb, he⟩ := setOf_snoc h
    have h1 := List.nodup_append.1 h
    have h2 := ltX_le (t := t) (d := d) hw (setOf_lt h hl) (hl x (by simp)) hb
    have h3 := ih h1.1 (fun y hy => hl y (List.mem_append_left _ hy))
    rw [he, bsum_set _ h hl, sumL_append, sumL, sumL] at h2
    rw [costG_snoc]
    have e : 0 + sumL t l + t x = sumL t l + (t x + 0) := by omega
    rw [e]; omega
theorem lt_is {t w d : Nat → Int} (hw : ∀ x, 0 ≤ w x) {n : Nat} : ∀ N s, s ≤ N → s < 2 ^ n → ∃ l : List Nat, l.Nodup ∧ (∀ x ∈ l, x < n) ∧ setOf l = s ∧ costG t (tardG w d) 0 l = ltX t w d n s
  | _, 0, _, _ => ⟨[], List.nodup_nil, fun x hx => (by cases hx), rfl, rfl⟩
  | N + 1, s + 1, hN, hs => by
    obtain ⟨i, hi, hb, he⟩ := ltX_get (t := t) (d := d) hw (show s + 1 ≠ 0 by omega) hs
    have hp := Nat.two_pow_pos i
    have hg := ge_bit hb
    obtain ⟨l, hn, hl, hset, hc⟩ := lt_is (t := t) (d := d) (n := n) hw N (s + 1 - 2 ^ i) (by omega) (by omega)
    have hil : i ∉ l := fun hm => by
      have h1 := setOf_bit hn i
      rw [hset, sub_bit hb] at h1
      simp [hm] at h1
    have hn2 : (l ++ [i]).Nodup := List.nodup_append.2 ⟨hn, by simp, fun a ha b hb2 e => hil (by rw [← List.mem_singleton.1 hb2, ← e]; exact ha)⟩
    have hl2 : ∀ x ∈ l ++ [i], x < n := fun x hx => by
      rcases List.mem_append.1 hx with h1 | h1
      · exact hl x h1
      · rw [List.mem_singleton.1 h1]; exact hi
    obtain ⟨hb2, he2⟩ := setOf_snoc hn2
    have hg2 := ge_bit hb2
    have hs2 : setOf (l ++ [i]) = s + 1 := by omega
    refine ⟨l ++ [i], hn2, hl2, hs2, ?_⟩
    have h2 := bsum_set (f := t) _ hn2 hl2
    rw [hs2] at h2
    rw [costG_snoc, hc, he, h2, sumL_append, sumL, sumL]
    have e : 0 + sumL t l + t i = sumL t l + (t i + 0) := by omega
    rw [e]
/-- the least lateness over all orders -/
def LeastL (t w d : Nat → Int) (n : Nat) (v : Int) : Prop := (∃ l : List Nat, l.Perm (List.range n) ∧ costG t (tardG w d) 0 l = v) ∧ ∀ l : List Nat, l.Perm (List.range n) → v ≤ costG t (tardG w d) 0 l
theorem setOf_range {l : List Nat} {n : Nat} (hn : l.Nodup) (hl : ∀ x ∈ l, x < n) : setOf l = 2 ^ n - 1 ↔ l.Perm (List.range n) := by
  constructor
  · intro h
    refine (List.perm_ext_iff_of_nodup hn List.nodup_range).2 fun x => ?_
    rw [List.mem_range]
    refine ⟨hl x, fun hx => ?_⟩
    have h1 := setOf_bit hn x
    rw [h, Nat.testBit_two_pow_sub_one] at h1
    simpa [hx] using h1.symm
  · intro h
    apply Nat.eq_of_testBit_eq; intro x
    rw [setOf_bit hn, Nat.testBit_two_pow_sub_one]
    apply decide_eq_decide.mpr
    rw [h.mem_iff, List.mem_range]
theorem ltX_least {t w d : Nat → Int} (hw : ∀ x, 0 ≤ w x) (n : Nat) : LeastL t w d n (ltX t w d n (2 ^ n - 1)) := by
  have hp := Nat.two_pow_pos n
  constructor
  · obtain ⟨l, hn, hl, hs, hc⟩ := lt_is (t := t) (d := d) (n := n) hw (2 ^ n - 1) (2 ^ n - 1) (Nat.le_refl _) (by omega)
    exact ⟨l, (setOf_range hn hl).1 hs, hc⟩
  · intro l h
    have hn : l.Nodup := h.symm.nodup List.nodup_range
    have hl : ∀ x ∈ l, x < n := fun x hx => by have := h.mem_iff.1 hx; simpa using this
    have := lt_le (t := t) (d := d) hw l hn hl
    rwa [(setOf_range hn hl).2 h] at this
theorem least_less {t w d : Nat → Int} (ht : ∀ x, 0 ≤ t x) (hw : ∀ x, 0 ≤ w x) {n : Nat} {u v : Int} (h : LeastL t w d (n + 1) v) (g : LeastL t w d n u) : u ≤ v := by
  obtain ⟨⟨l, hl, rfl⟩, _⟩ := h
  have hn : l.Nodup := hl.symm.nodup List.nodup_range
  have hp : (l.filter (fun x => decide (x < n))).Perm (List.range n) := by
    refine (List.perm_ext_iff_of_nodup (hn.sublist List.filter_sublist) List.nodup_range).2 fun x => ?_
    rw [List.mem_filter, hl.mem_iff, List.mem_range, List.mem_range, decide_eq_true_eq]; omega
  exact Int.le_trans (g.2 _ hp) (costG_filter ht (fun x c c' h => tardG_mono hw x h) (tardG_nn hw) _ l 0 0 (Int.le_refl _))
end Go.Proofs.Ytmcongioghkdcac
namespace Go.Proofs.Ytmcongioghkdcac
open Go.RowKit Go.WideShapes

-- jobs of one machine
def jobB (r : List Int) : Bool := r.length == 3 && (inB 1 9 (r.getD 0 0) && (inB 0 9 (r.getD 1 0) && inB 0 60 (r.getD 2 0)))
def jobsM (rows : List (List Int)) : Bool := rows.all jobB && decide (rows.length ≤ 8)
theorem jobs_false {rows : List (List Int)} {k : Nat} {r : List Int} (h : rows[k]? = some r) (hr : jobB r = false) : jobsM rows = false := by
  unfold jobsM
  rw [List.all_eq_false.2 ⟨r, List.mem_of_getElem? h, by rw [hr]; simp⟩]; rfl
theorem jobs_get {rows : List (List Int)} (h : jobsM rows = true) : rows.length ≤ 8 ∧ ∀ r ∈ rows, r.length = 3 ∧ (1 ≤ r.getD 0 0 ∧ r.getD 0 0 ≤ 9) ∧ (0 ≤ r.getD 1 0 ∧ r.getD 1 0 ≤ 9) ∧ (0 ≤ r.getD 2 0 ∧ r.getD 2 0 ≤ 60) := by
  simp only [jobsM, Bool.and_eq_true, decide_eq_true_eq, List.all_eq_true] at h
  refine ⟨h.2, fun r hr => ?_⟩
  have := h.1 r hr
  simp only [jobB, Bool.and_eq_true, beq_iff_eq] at this
  exact ⟨this.1, by simpa [inB] using this.2.1, by simpa [inB] using this.2.2.1, by simpa [inB] using this.2.2.2⟩
theorem validJobs_any (S : Nat → Prop) (a : Option Addr) (len cap : Nat) (rows : List (List Int)) (w : World) (h : RowsAt w S a len rows) :
    Calls Try.prog 33 #[.slice a len cap] w fun e w' => e = .returned (.bool (jobsM rows)) ∧ w = w' := by
  have hs := h.small
  have HL := Lib.hid h.lenEq
  go_enter Try.func33, Try.ntmps33
  go_wp2
  go_loop [3] (fun i => ∃ k : Nat, k ≤ len ∧ i = .int .i64 k ∧ (rows.take k).all jobB = true) (fun i => len - (intOf i).toNat)
  case atStart => exact ⟨0, Nat.zero_le _, rfl, rfl⟩
  case round =>
    obtain ⟨k, hk, rfl, ha⟩ := hrel
    have HA := Lib.hid ha
    clear ha
    by_cases hlt : k < len
    · obtain ⟨b, off, r, a', l, c, rfl, hx, hc, _, hr⟩ := h.get hlt
      have HX := Lib.hid hx
      have HRL := Lib.hid hr.lenEq
      have hrs := hr.small
      clear hx
      by_cases hl3 : l = 3
      · subst hl3
        obtain ⟨b', off', x, rfl, hy, hd⟩ := hr.get (k := 0) (by omega)
        obtain ⟨b2, off2, y, e2, hy2, hd2⟩ := hr.get (k := 1) (by omega)
        cases e2
        obtain ⟨b3, off3, z, e3, hy3, hd3⟩ := hr.get (k := 2) (by omega)
        cases e3
        rw [Nat.add_zero] at hd
        have HY := Lib.hid (getD_of hy)
        have HY2 := Lib.hid (getD_of hy2)
        have HY3 := Lib.hid (getD_of hy3)
        clear hy hy2 hy3
        cases hq : inB 1 9 x
        · go_wp2_with (go_at_call 43; refine (inRange_any _ _ _ _).mono ?_; rintro e w' ⟨rfl, rfl⟩)
          go_ret
          exact ⟨ret_bool (by rw [jobs_false HX.out (by unfold jobB; rw [HY.out, hq]; simp)]), rfl⟩
        · cases hq2 : inB 0 9 y
          · go_wp2_with (go_at_call 43; refine (inRange_any _ _ _ _).mono ?_; rintro e w' ⟨rfl, rfl⟩)
            go_ret
            exact ⟨ret_bool (by rw [jobs_false HX.out (by unfold jobB; rw [HY2.out, hq2]; simp)]), rfl⟩
          · cases hq3 : inB 0 60 z
            · go_wp2_with (go_at_call 43; refine (inRange_any _ _ _ _).mono ?_; rintro e w' ⟨rfl, rfl⟩)
              go_ret
              exact ⟨ret_bool (by rw [jobs_false HX.out (by unfold jobB; rw [HY3.out, hq3]; simp)]), rfl⟩
            · go_wp2_with (go_at_call 43; refine (inRange_any _ _ _ _).mono ?_; rintro e w' ⟨rfl, rfl⟩)
              go_round
              case rel => exact ⟨k + 1, by omega, by go_num, by
                rw [take_get HX.out, List.all_append, HA.out]
                simp only [List.all_cons, List.all_nil, Bool.and_true, Bool.true_and]
                unfold jobB; rw [HY.out, HY2.out, HY3.out, hq, hq2, hq3, HRL.out]; rfl⟩
              case measure => simp [intOf]; omega
      · have hle : ((l : Int) != 3) = true := by simp; omega
        go_wp2
        go_ret
        exact ⟨ret_bool (by rw [jobs_false HX.out (by unfold jobB; rw [HRL.out, beq_eq_false_iff_ne.2 hl3]; rfl)]), rfl⟩
    · go_wp2
      go_ret
      have ha := HA.out
      have hl := HL.out
      rw [List.take_of_length_le (by omega)] at ha
      exact ⟨ret_bool (by rw [jobsM, ha, hl, Bool.true_and]; exact decide_eq_decide.2 (by omega)), rfl⟩
/-- the due time of a job -/
def td (rows : List (List Int)) (x : Nat) : Int := (rows.getD x []).getD 2 0
theorem j_bd {rows : List (List Int)} (h : jobsM rows = true) (x : Nat) : (0 ≤ ta rows x ∧ ta rows x ≤ 9) ∧ (0 ≤ tb rows x ∧ tb rows x ≤ 9) ∧ (0 ≤ td rows x ∧ td rows x ≤ 60) := by
  obtain ⟨_, h2⟩ := jobs_get h
  unfold ta tb td
  rcases Nat.lt_or_ge x rows.length with hx | hx
  · rw [List.getD_eq_getElem?_getD (l := rows), List.getElem?_eq_getElem hx]
    have := h2 rows[x] (List.getElem_mem hx)
    exact ⟨⟨Int.le_trans (by omega) this.2.1.1, this.2.1.2⟩, this.2.2.1, this.2.2.2⟩
  · rw [List.getD_eq_getElem?_getD (l := rows), List.getElem?_eq_none hx]; simp
theorem j_pos {rows : List (List Int)} (h : jobsM rows = true) {x : Nat} (hx : x < rows.length) : 1 ≤ ta rows x := by
  unfold ta
  rw [List.getD_eq_getElem?_getD (l := rows), List.getElem?_eq_getElem hx]
  exact ((jobs_get h).2 rows[x] (List.getElem_mem hx)).2.1.1
theorem j_at {rows : List (List Int)} {x : Nat} {r : List Int} (h : rows[x]? = some r) : ta rows x = r.getD 0 0 ∧ tb rows x = r.getD 1 0 ∧ td rows x = r.getD 2 0 := by
  unfold ta tb td; rw [List.getD_eq_getElem?_getD (l := rows), h]; exact ⟨rfl, rfl, rfl⟩
/-- where a job's row stands -/
theorem row3_at {w : World} {S : Nat → Prop} {a : Option Addr} {len : Nat} {rows : List (List Int)} (h : RowsAt w S a len rows) (hP : ∀ r ∈ rows, r.length = 3 ∧ (1 ≤ r.getD 0 0 ∧ r.getD 0 0 ≤ 9) ∧ (0 ≤ r.getD 1 0 ∧ r.getD 1 0 ≤ 9) ∧ (0 ≤ r.getD 2 0 ∧ r.getD 2 0 ≤ 60)) {q : Nat} (hq : q < len) :
    ∃ (b2 off2 b3 off3 c : Nat), a = some ⟨b2, off2, none⟩ ∧
      w.cell? ⟨b2, off2 + q, none⟩ = some (.slice (some ⟨b3, off3, none⟩) 3 c) ∧ w.cell? ⟨b3, off3, none⟩ = some (.int .i64 (ta rows q)) ∧ w.cell? ⟨b3, off3 + 1, none⟩ = some (.int .i64 (tb rows q)) ∧ w.cell? ⟨b3, off3 + 2, none⟩ = some (.int .i64 (td rows q)) ∧ 3 ≤ c := by
  obtain ⟨b2, off2, r, a', l, c, rfl, hr, hcr, hlc, hri⟩ := h.get hq
  obtain ⟨hr3, _⟩ := hP r (List.mem_of_getElem? hr)
  have hl3 : l = 3 := by rw [← hri.lenEq, hr3]
  subst hl3
  obtain ⟨b3, off3, x3, rfl, h3, hc3⟩ := hri.get (k := 0) (by omega)
  obtain ⟨b4, off4, x4, e4, h4, hc4⟩ := hri.get (k := 1) (by omega)
  cases e4
  obtain ⟨b5, off5, x5, e5, h5, hc5⟩ := hri.get (k := 2) (by omega)
  cases e5
  have ht := j_at hr
  rw [getD_of h3, getD_of h4, getD_of h5] at ht
  rw [Nat.add_zero] at hc3
  exact ⟨b2, off2, b3, off3, c, rfl, hcr, by rw [ht.1]; exact hc3, by rw [ht.2.1]; exact hc4, by rw [ht.2.2]; exact hc5, hlc⟩
theorem row3_mem {w : World} {a : Option Addr} {n len : Nat} {rows : List (List Int)} (h : RowsAt w (· < n) a len rows) (hP : ∀ r ∈ rows, r.length = 3 ∧ (1 ≤ r.getD 0 0 ∧ r.getD 0 0 ≤ 9) ∧ (0 ≤ r.getD 1 0 ∧ r.getD 1 0 ≤ 9) ∧ (0 ≤ r.getD 2 0 ∧ r.getD 2 0 ≤ 60)) {q b off b3 off3 c : Nat} (hq : q < len)
    (hc : w.cell? ⟨b, off + q, none⟩ = some (.slice (some ⟨b3, off3, none⟩) 3 c)) (ha : a = some ⟨b, off, none⟩ := by rfl) : b3 < n := by
  obtain ⟨b2, off2, r, a', l, c', e, hr, hcr, hlc, hri⟩ := h.get hq
  rw [ha] at e
  cases e
  rw [hcr] at hc
  cases hc
  exact hri.mem (by omega)
theorem ord_at {w : World} {T : Nat → Prop} {a2 : Option Addr} {len2 n : Nat} {o : List Int} (g : IntsAt w T a2 len2 o) (ho : ∀ x ∈ o, 0 ≤ x ∧ x < (n : Int)) {k : Nat} (hk : k < len2) :
    ∃ (b off q : Nat), a2 = some ⟨b, off, none⟩ ∧ (nO o)[k]? = some q ∧ q < n ∧ w.cell? ⟨b, off + k, none⟩ = some (.int .i64 (q : Int)) := by
  obtain ⟨b, off, x, rfl, hx, hc⟩ := g.get hk
  have hxb := ho x (List.mem_of_getElem? hx)
  obtain ⟨q, rfl⟩ : ∃ q : Nat, x = (q : Int) := ⟨x.toNat, by omega⟩
  exact ⟨b, off, q, rfl, by unfold nO; rw [List.getElem?_map, hx]; simp, by omega, hc⟩
/-- jobs in an order -/
def rowFine (rows : List (List Int)) (o : List Int) : Bool := jobsM rows && orderM o rows.length
theorem rowFine_get {rows : List (List Int)} {o : List Int} (h : rowFine rows o = true) : jobsM rows = true ∧ orderP o rows.length := by
  simp only [rowFine, Bool.and_eq_true] at h; exact ⟨h.1, orderM_get h.2⟩
theorem validRow_any (S T : Nat → Prop) (a : Option Addr) (len cap : Nat) (rows : List (List Int)) (a2 : Option Addr) (len2 cap2 : Nat) (o : List Int) (w : World) (h : RowsAt w S a len rows) (g : IntsAt w T a2 len2 o) :
    Calls Try.prog 25 #[.slice a len cap, .slice a2 len2 cap2] w fun e w' => e = .returned (.bool (rowFine rows o)) ∧ w = w' := by
  have HL := Lib.hid h.lenEq
  cases hp : jobsM rows
  · have HF := Lib.hid (show rowFine rows o = false by unfold rowFine; rw [hp]; rfl)
    go_enter Try.func25, Try.ntmps25
    go_wp2_with fail
    refine (validJobs_any S a len cap rows w h).mono ?_
    rintro e w' ⟨rfl, rfl⟩
    rw [hp]
    go_wp2_with fail
    go_ret
    exact ⟨ret_bool HF.out.symm, rfl⟩
  · have hl8 : len ≤ 8 := by have := (jobs_get hp).1; have := HL.out; omega
    have HF := Lib.hid (show rowFine rows o = orderM o len by unfold rowFine; rw [HL.out, hp, Bool.true_and])
    go_enter Try.func25, Try.ntmps25
    go_wp2_with fail
    refine (validJobs_any S a len cap rows w h).mono ?_
    rintro e w' ⟨rfl, rfl⟩
    rw [hp]
    go_wp2_with fail
    refine (validOrder_any T a2 len2 cap2 o len w g hl8).mono ?_
    rintro e w' ⟨rfl, rfl⟩
    go_wp2_with fail
    go_ret
    exact ⟨ret_bool HF.out.symm, rfl⟩
/-- when the jobs are done -/
def endsL (t : Nat → Int) (l : List Nat) (k : Nat) : List Int := tab (fun j => sumL t (l.take (j + 1))) k
theorem sum_snoc {f : Nat → Int} {l : List Nat} {k q : Nat} (h : l[k]? = some q) : sumL f (l.take (k + 1)) = sumL f (l.take k) + f q := by
  rw [take_get h, sumL_append, sumL, sumL, Int.add_zero]
theorem sum_bd {f : Nat → Int} {B : Int} (h : ∀ x, 0 ≤ f x ∧ f x ≤ B) (l : List Nat) (k : Nat) : 0 ≤ sumL f (l.take k) ∧ sumL f (l.take k) ≤ B * ((l.take k).length : Int) :=
  ⟨sumL_nn (fun x => (h x).1) _, sumL_bd (fun x => (h x).2) _⟩
set_option maxHeartbeats 1000000 in
theorem ends_any (S T : Nat → Prop) (a : Option Addr) (len cap : Nat) (rows : List (List Int)) (a2 : Option Addr) (len2 cap2 : Nat) (o : List Int) (w : World) (h : RowsAt w S a len rows) (g : IntsAt w T a2 len2 o) (hS : ∀ b, S b → b < w.heap.size) (hT : ∀ b, T b → b < w.heap.size) (hp : jobsM rows = true) (ho : ∀ x ∈ o, 0 ≤ x ∧ x < (len : Int)) (hl : len2 ≤ 8) :
    Calls Try.prog 26 #[.slice a len cap, .slice a2 len2 cap2] w (NewOwn w (endsL (ta rows) (nO o) len2)) := by
  have HP := Lib.hid (jobs_get hp).2
  have HT := Lib.hid (fun x => (j_bd hp x).1)
  have HO := Lib.hid ho
  have HH := Lib.hid (show ∀ w', Below w.heap.size w w' → RowsAt w' S a len rows ∧ IntsAt w' T a2 len2 o from fun w' hb => ⟨h.to fun b hb' => ⟨hb', hb.block b (hS b hb')⟩, g.to fun b hb' => ⟨hb', hb.block b (hT b hb')⟩⟩)
  have ho0 := World.ownsRow_made (base := w.heap.size) (size := 1) (e := 3) w #[] 0 (Nat.le_refl _) (Nat.zero_le _) rfl
  clear hp ho
  go_enter Try.func26, Try.ntmps26
  go_wp2_with fail
  go_loopw [5, 6, 7] (fun v t i wr => ∃ (k cp : Nat) (ax : Option Addr), i = .int .i64 k ∧ v = .slice ax k cp ∧ t = .int .i64 (sumL (ta rows) ((nO o).take k)) ∧ wr.ownsRow w.heap.size 3 1 v k ((endsL (ta rows) (nO o) k).map (.int .i64)) ∧ k ≤ len2 ∧ Below w.heap.size w wr) (fun _ _ i _ => len2 - (intOf i).toNat)
  case atStart => exact ⟨0, 0, _, rfl, rfl, rfl, (by simpa [endsL, tab] using ho0), Nat.zero_le _, (Below.refl _ _).alloc (Nat.le_refl _) _⟩
  case round =>
    clear ho0
    obtain ⟨k, cp, ax, rfl, rfl, rfl, hown, hk, hB⟩ := hrel
    obtain ⟨wo, rfl⟩ : ∃ wo : World, wo = wr := ⟨_, rfl⟩
    have HOW := Lib.hid hown
    have HB := Lib.hid hB
    have hr := (HH.out wo hB).1
    have hg := (HH.out wo hB).2
    clear hown hB
    by_cases hlt : k < len2
    · obtain ⟨b, off, q, rfl, hq, hql, hc⟩ := ord_at hg HO.out hlt
      obtain ⟨b2, off2, b3, off3, c3, rfl, hcr, hct, _, _, _⟩ := row3_at hr HP.out hql
      have HN := Lib.hid (sum_snoc (f := ta rows) hq)
      have HE := Lib.hid (show endsL (ta rows) (nO o) (k + 1) = endsL (ta rows) (nO o) k ++ [sumL (ta rows) ((nO o).take (k + 1))] from tab_succ _ _)
      have hb := sum_bd HT.out (nO o) k
      have ht := HT.out q
      have hlk : ((nO o).take k).length ≤ 8 := by rw [List.length_take]; omega
      have hkl : (k : Int) < (len2 : Int) := by omega
      have hqI : (q : Int) < (len : Int) := by omega
      generalize ((nO o).take k).length = m at *
      rw [HN.out] at HE
      clear hq hr hg
      generalize sumL (ta rows) ((nO o).take k) = s at *
      generalize ta rows q = x at *
      go_wp2_with (at_builtin; refine wpApp1 rfl _ _ rfl w.heap.size k cp ax (endsL (ta rows) (nO o) k) (s + x) rfl HOW.out rfl HB.out.size (by omega) ?_)
      intro a7 c7 w7 hown7 hc7 hgr7
      have HO7 := Lib.hid (own_snoc hown7)
      have HB7 := Lib.hid (HB.out.grown hgr7 HB.out.size (own_block HOW.out))
      clear hown7 hgr7
      go_wp2_with fail
      go_roundw
      case rel => exact ⟨k + 1, c7, a7, by go_num, rfl, by rw [HN.out], by rw [HE.out]; exact HO7.out, by omega, HB7.out⟩
      case measure => simp [intOf] <;> omega
    · obtain rfl : k = len2 := by omega
      go_wp2_with fail
      go_ret
      exact ⟨_, _, _, rfl, by omega, HOW.out, HB.out⟩
end Go.Proofs.Ytmcongioghkdcac
namespace Go.Proofs.Ytmcongioghkdcac
open Go.RowKit Go.WideShapes

-- the sums over jobs in an order
theorem mul_boxJ {a b A B : Int} (ha : 0 ≤ a) (ha' : a ≤ A) (hb : 0 ≤ b) (hb' : b ≤ B) : 0 ≤ a * b ∧ a * b ≤ A * B :=
  ⟨Int.mul_nonneg ha hb, Int.mul_le_mul ha' hb' hb (by omega)⟩
theorem cost_step {t : Nat → Int} {g : Nat → Int → Int} {l : List Nat} {k q : Nat} (h : l[k]? = some q) : costG t g 0 (l.take (k + 1)) = costG t g 0 (l.take k) + g q (sumL t (l.take (k + 1))) := by
  rw [sum_snoc h, take_get h, costG_snoc, Int.zero_add]
theorem end_bd {t : Nat → Int} (ht : ∀ x, 0 ≤ t x ∧ t x ≤ 9) {l : List Nat} (hl : l.length ≤ 8) (k : Nat) : 0 ≤ sumL t (l.take k) ∧ sumL t (l.take k) ≤ 72 := by
  have h1 := sum_bd ht l k
  have h2 : (l.take k).length ≤ 8 := by rw [List.length_take]; omega
  omega
theorem cost_bd {t : Nat → Int} {g : Nat → Int → Int} (ht : ∀ x, 0 ≤ t x ∧ t x ≤ 9) (hg : ∀ x c, 0 ≤ c → c ≤ 72 → 0 ≤ g x c ∧ g x c ≤ 700) {l : List Nat} (hl : l.length ≤ 8) (k : Nat) : 0 ≤ costG t g 0 (l.take k) ∧ costG t g 0 (l.take k) ≤ 5600 := by
  have h1 := costG_bd (M := 72) hg (l.take k) 0 (Int.le_refl _) (fun x => (ht x).1) (by have := (end_bd ht hl k).2; omega)
  have h2 : (l.take k).length ≤ 8 := by rw [List.length_take]; omega
  omega
theorem wait_bd {rows : List (List Int)} (hp : jobsM rows = true) : ∀ x c, 0 ≤ c → c ≤ 72 → 0 ≤ waitG (tb rows) x c ∧ waitG (tb rows) x c ≤ 700 := by
  intro x c h1 h2
  have := mul_boxJ (j_bd hp x).2.1.1 (j_bd hp x).2.1.2 h1 h2
  unfold waitG; omega
theorem tard_bd {rows : List (List Int)} (hp : jobsM rows = true) : ∀ x c, 0 ≤ c → c ≤ 72 → 0 ≤ tardG (tb rows) (td rows) x c ∧ tardG (tb rows) (td rows) x c ≤ 700 := by
  intro x c h1 h2
  have h3 := (j_bd hp x).2.2
  have := mul_boxJ (j_bd hp x).2.1.1 (j_bd hp x).2.1.2 (show 0 ≤ max (c - td rows x) 0 by omega) (show max (c - td rows x) 0 ≤ 72 by omega)
  unfold tardG; omega
theorem late_bd (d : Nat → Int) : ∀ x c, 0 ≤ c → c ≤ 72 → 0 ≤ lateG d x c ∧ lateG d x c ≤ 700 := by
  intro x c _ _; unfold lateG; split <;> omega
theorem quiet_add {P : Program} {f : FuncId} {args : Array Value} {w : World} {n k : Nat} {v : Value}
    (h : Calls P f args (w.drewN (n + k)) fun e w' => e = .returned v ∧ w' = w.drewN (n + k)) : Calls P f args (w.drewN (n + k)) fun e w'' => e = .returned v ∧ ∃ m, w'' = w.drewN (n + m) :=
  h.mono fun _ _ ⟨he, hm⟩ => ⟨he, k, hm⟩
/-- the slice of ends, read at k -/
theorem ends_cell {w : World} {S : Nat → Prop} {a3 : Option Addr} {n : Nat} {t : Nat → Int} {l : List Nat} (h : IntsAt w S a3 n (endsL t l n)) {k : Nat} (hk : k < n) :
    ∃ b off, a3 = some ⟨b, off, none⟩ ∧ w.cell? ⟨b, off + k, none⟩ = some (.int .i64 (sumL t (l.take (k + 1)))) := by
  obtain ⟨b, off, x, e, hx, hc⟩ := h.get hk
  rw [(tab_get hx).1] at hc
  exact ⟨b, off, e, hc⟩
theorem endsL_len (t : Nat → Int) (l : List Nat) (k : Nat) : (endsL t l k).length = k := tab_length _ _
/-- what WaitOf, TardyOf and LateOf answer -/
def waitRes (rows : List (List Int)) (o : List Int) : Int := if rowFine rows o then costG (ta rows) (waitG (tb rows)) 0 (nO o) else -1
def tardRes (rows : List (List Int)) (o : List Int) : Int := if rowFine rows o then costG (ta rows) (tardG (tb rows) (td rows)) 0 (nO o) else -1
def lateRes (rows : List (List Int)) (o : List Int) : Int := if rowFine rows o then costG (ta rows) (lateG (td rows)) 0 (nO o) else -1
set_option maxRecDepth 100000 in
set_option maxHeartbeats 2000000 in
theorem tardyOf_spec (a : Option Addr) (len cap : Nat) (rows : List (List Int)) (a2 : Option Addr) (len2 cap2 : Nat) (o : List Int) (w : World) (h : RowsAt w (· < w.heap.size) a len rows) (g : IntsAt w (· < w.heap.size) a2 len2 o) :
    Calls Try.prog 9 #[.slice a len cap, .slice a2 len2 cap2] w (ValPost w (.int .i64 (tardRes rows o))) := by
  have HL := Lib.hid h.lenEq
  cases hf : rowFine rows o
  · have HR := Lib.hid (show tardRes rows o = -1 by unfold tardRes; rw [hf]; rfl)
    rw [HR.out]
    go_enter Try.func9, Try.ntmps9
    go_wp2_with fail
    refine (validRow_any _ _ a len cap rows a2 len2 cap2 o w h g).mono ?_
    rintro e w' ⟨rfl, rfl⟩
    rw [hf]
    go_wp2_with fail
    go_ret
    exact ⟨rfl, Below.refl _ _⟩
  · have HR := Lib.hid (show tardRes rows o = costG (ta rows) (tardG (tb rows) (td rows)) 0 (nO o) by unfold tardRes; rw [hf]; rfl)
    obtain ⟨hp, hO⟩ := rowFine_get hf
    have hl8 : len ≤ 8 := by have := (jobs_get hp).1; have := HL.out; omega
    have hl2 : len2 = len := by have := hO.2; have := HL.out; have := g.lenEq; omega
    have HNL := Lib.hid (show (nO o).length = len2 by unfold nO; rw [List.length_map]; exact g.lenEq)
    have HO := Lib.hid (show ∀ x ∈ o, 0 ≤ x ∧ x < (len : Int) by have := hO.1.1; rwa [HL.out] at this)
    subst hl2
    have HP := Lib.hid (jobs_get hp).2
    have HB := Lib.hid (fun x => j_bd hp x)
    have HCB := Lib.hid (fun k => cost_bd (fun x => (HB.out x).1) (tard_bd hp) (l := nO o) (by rw [HNL.out]; exact hl8) k)
    have HEB := Lib.hid (fun k => end_bd (fun x => (HB.out x).1) (l := nO o) (by rw [HNL.out]; exact hl8) k)
    have HG := Lib.hid h
    have HH := Lib.hid g
    have HVR := Lib.hid (validRow_any _ _ a len2 cap rows a2 len2 cap2 o w h g)
    have HEN := Lib.hid (ends_any _ _ a len2 cap rows a2 len2 cap2 o w h g (fun _ hb => hb) (fun _ hb => hb) hp HO.out hl8)
    rw [hf] at HVR
    rw [HR.out]
    clear hf hp hO h g
    go_enter Try.func9, Try.ntmps9
    go_wp2_with fail
    refine HVR.out.mono ?_
    rintro e w' ⟨rfl, rfl⟩
    go_wp2_with fail
    refine (HEN.out.mono (fun _ _ h => h.ints)).mono ?_
    rintro e w1 ⟨a3, l3, c3, rfl, h3, hc3, hb1⟩
    have hl3 : l3 = len2 := by have := h3.lenEq; rw [endsL_len] at this; exact this.symm
    subst hl3
    have HB1 := Lib.hid hb1
    have HE3 := Lib.hid h3
    have HG1 := Lib.hid (HG.out.below hb1)
    have HH1 := Lib.hid (HH.out.below hb1)
    clear hb1 h3
    go_wp2_with fail
    go_loopw [6, 7] (fun s i wr => ∃ k : Nat, k ≤ l3 ∧ i = .int .i64 k ∧ s = .int .i64 (costG (ta rows) (tardG (tb rows) (td rows)) 0 ((nO o).take k)) ∧ Drew w1 wr) (fun _ i _ => l3 - (intOf i).toNat)
    case atStart => exact ⟨0, Nat.zero_le _, rfl, rfl, Drew.refl _⟩
    case round =>
      obtain ⟨k, hk, rfl, rfl, hdw⟩ := hrel
      obtain ⟨z, rfl⟩ := hdw
      by_cases hlt : k < l3
      · obtain ⟨b, off, q, e1, hq, hql, hc⟩ := ord_at HH1.out HO.out hlt
        obtain ⟨b2, off2, b3, off3, c4, e2, hcr, hct, hcw, hcd, _⟩ := row3_at HG1.out HP.out hql
        obtain ⟨b5, off5, e3, hce⟩ := ends_cell HE3.out hlt
        subst e1 e2 e3
        have HN := Lib.hid (cost_step (t := ta rows) (g := tardG (tb rows) (td rows)) hq)
        have hcb := HCB.out k
        have heb := HEB.out (k + 1)
        have hbq := (HB.out q).2.1
        have hbd := (HB.out q).2.2
        have hkl : (k : Int) < (l3 : Int) := by omega
        have hqI : (q : Int) < (l3 : Int) := by omega
        have HW := Lib.hid (show tardG (tb rows) (td rows) q (sumL (ta rows) ((nO o).take (k + 1))) = tb rows q * max (sumL (ta rows) ((nO o).take (k + 1)) - td rows q) 0 from rfl)
        rw [HW.out] at HN
        clear hq hct
        generalize sumL (ta rows) ((nO o).take (k + 1)) = en at *
        generalize costG (ta rows) (tardG (tb rows) (td rows)) 0 ((nO o).take k) = s at *
        generalize tb rows q = x at *
        generalize td rows q = y at *
        by_cases hmx : en - y < 0
        · have hpr := mul_boxJ hbq.1 hbq.2 (Int.le_refl 0) (Int.le_refl 0)
          have HN2 := Lib.hid (HN.out.trans (by rw [show max (en - y) 0 = 0 by omega] : _ = s + x * 0))
          go_wp2_with fail
          go_quiet (fail)
          go_wp2_with fail
          go_roundw
          case rel => exact ⟨k + 1, by omega, by go_num, by rw [HN2.out] <;> simp, ⟨_, rfl⟩⟩
          case measure => simp [intOf] <;> omega
        · have hpr := mul_boxJ hbq.1 hbq.2 (show 0 ≤ en - y by omega) (show en - y ≤ 72 by omega)
          have HN2 := Lib.hid (HN.out.trans (by rw [show max (en - y) 0 = en - y by omega] : _ = s + x * (en - y)))
          go_wp2_with fail
          go_quiet (fail)
          go_wp2_with fail
          go_roundw
          case rel => exact ⟨k + 1, by omega, by go_num, by rw [HN2.out], ⟨_, rfl⟩⟩
          case measure => simp [intOf] <;> omega
      · obtain rfl : k = l3 := by omega
        have HE := Lib.hid (show (nO o).take k = nO o from List.take_of_length_le (by rw [HNL.out]; exact Nat.le_refl _))
        rw [HE.out]
        go_wp2_with fail
        go_ret
        exact ⟨rfl, HB1.out.trans (Drew.below ⟨_, rfl⟩ _)⟩
end Go.Proofs.Ytmcongioghkdcac
