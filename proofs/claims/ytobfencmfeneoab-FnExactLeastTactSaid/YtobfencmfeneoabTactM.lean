import Derived.Test.YtobfencmfeneoabLineLawM
namespace Go.Proofs.Ytobfencmfeneoab

/-- A task and all behind it. -/
def bsM (A : List Nat) (i : Nat) : Nat → Nat
  | 0 => 0
  | m + 1 => if m < i then 0 else if m = i then 2 ^ i else if A.getD m 0 &&& bsM A i m ≠ 0 then bsM A i m + 2 ^ m else bsM A i m
theorem bsM_lt (A : List Nat) (i : Nat) : ∀ m, bsM A i m < 2 ^ m
  | 0 => by simp [bsM]
  | m + 1 => by
    have h := bsM_lt A i m
    have h2 := Nat.two_pow_pos m
    rw [bsM, Nat.pow_succ]
    split
    · omega
    · split
      · rename_i h1; subst h1; omega
      · split <;> omega
theorem bsM_out {A : List Nat} {i m x : Nat} (h : m ≤ x) : (bsM A i m).testBit x = false := Nat.testBit_lt_two_pow (Nat.lt_of_lt_of_le (bsM_lt A i m) (Nat.pow_le_pow_right (by omega) h))
theorem bsM_low {A : List Nat} {i : Nat} : ∀ m, m ≤ i → bsM A i m = 0
  | 0, _ => rfl
  | m + 1, h => by rw [bsM, if_pos (by omega)]
theorem bsM_step {A : List Nat} {i m : Nat} (h : i < m) (x : Nat) : (bsM A i (m + 1)).testBit x = ((bsM A i m).testBit x || (decide (x = m) && decide (A.getD m 0 &&& bsM A i m ≠ 0))) := by
  rw [bsM, if_neg (by omega), if_neg (by omega)]
  split
  · rename_i h1; rw [add_bit (bsM_out (Nat.le_refl _)), decide_eq_true h1, Bool.and_true]
  · rename_i h1; rw [decide_eq_false h1]; simp
theorem bsM_self {A : List Nat} {i : Nat} : ∀ d, (bsM A i (i + 1 + d)).testBit i = true
  | 0 => by rw [Nat.add_zero, bsM, if_neg (by omega), if_pos rfl, Nat.testBit_two_pow]; simp
  | d + 1 => by rw [show i + 1 + (d + 1) = (i + 1 + d) + 1 by omega, bsM_step (by omega), bsM_self d]; rfl
theorem bsM_ge {A : List Nat} {i : Nat} : ∀ m x, (bsM A i m).testBit x = true → i ≤ x
  | 0, x, h => by simp [bsM] at h
  | m + 1, x, h => by
    by_cases h1 : i < m
    · rw [bsM_step h1] at h
      cases h2 : (bsM A i m).testBit x
      · rw [h2] at h; simp only [Bool.false_or, Bool.and_eq_true, decide_eq_true_eq] at h; omega
      · exact bsM_ge m x h2
    · by_cases h2 : m < i
      · rw [bsM, if_pos h2] at h; simp at h
      · rw [bsM, if_neg h2, if_pos (by omega), Nat.testBit_two_pow] at h; simp at h; omega
theorem and_ne {a b x : Nat} (h1 : a.testBit x = true) (h2 : b.testBit x = true) : a &&& b ≠ 0 := fun h => by
  have := congrArg (fun y => y.testBit x) h; simp [h1, h2] at this
theorem and_ne_get {a b : Nat} (h : a &&& b ≠ 0) : ∃ x, a.testBit x = true ∧ b.testBit x = true := by
  obtain ⟨x, hx⟩ := Nat.exists_testBit_of_ne_zero h
  rw [Nat.testBit_and, Bool.and_eq_true] at hx
  exact ⟨x, hx⟩
theorem bsM_sub {A : List Nat} {k i : Nat} (hk : k < i) (ha : (A.getD i 0).testBit k = true) : ∀ m x, (bsM A i m).testBit x = true → (bsM A k m).testBit x = true
  | 0, x, h => by simp [bsM] at h
  | m + 1, x, h => by
    by_cases h1 : i < m
    · rw [bsM_step h1] at h
      rw [bsM_step (by omega)]
      cases h2 : (bsM A i m).testBit x
      · rw [h2] at h; simp only [Bool.false_or, Bool.and_eq_true, decide_eq_true_eq] at h
        obtain ⟨rfl, h3⟩ := h
        obtain ⟨y, h4, h5⟩ := and_ne_get h3
        rw [decide_eq_true (and_ne h4 (bsM_sub hk ha x y h5))]; simp
      · rw [bsM_sub hk ha m x h2]; rfl
    · by_cases h2 : m < i
      · rw [bsM, if_pos h2] at h; simp at h
      · obtain rfl : m = i := by omega
        rw [bsM, if_neg h2, if_pos rfl, Nat.testBit_two_pow] at h
        have hx : m = x := by simpa using h
        subst hx
        rw [bsM_step hk, decide_eq_true (and_ne ha (by have := bsM_self (A := A) (i := k) (m - k - 1); rwa [show k + 1 + (m - k - 1) = m by omega] at this))]; simp
def wM (T : List Int) (A : List Nat) (i : Nat) : Int := csum T (fun x => (bsM A i T.length).testBit x) T.length
def weightsM (T : List Int) (A : List Nat) : List Int := (List.range T.length).map (wM T A)
theorem weightsM_len (T : List Int) (A : List Nat) : (weightsM T A).length = T.length := by simp [weightsM]
theorem weightsM_get {T : List Int} {A : List Nat} {i : Nat} (h : i < T.length) : (weightsM T A).getD i 0 = wM T A i := by
  simp [weightsM, List.getD_eq_getElem?_getD, h]
theorem wM_own {T : List Int} (hT : ∀ k, 0 ≤ T.getD k 0) (A : List Nat) {i : Nat} (h : i < T.length) : T.getD i 0 ≤ wM T A i :=
  csum_le hT (c := 0) _ i h (by have := bsM_self (A := A) (i := i) (T.length - i - 1); rwa [show i + 1 + (T.length - i - 1) = T.length by omega] at this)
theorem wM_all {T : List Int} (hT : ∀ k, 0 ≤ T.getD k 0) (A : List Nat) (i : Nat) : wM T A i ≤ csum T (fun _ => true) T.length := csum_mono hT _ fun _ _ _ => rfl
theorem csum_with {T : List Int} {P : Nat → Bool} {k : Nat} (hk : P k = false) : ∀ n, csum T (fun i => P i || i == k) n = csum T P n + (if k < n then T.getD k 0 else 0)
  | 0 => rfl
  | n + 1 => by
    rw [csum, csum, csum_with hk n]
    by_cases h : n = k
    · subst h; simp [hk]
    · rw [show (n == k) = false by simp [h], Bool.or_false]
      by_cases h2 : k < n
      · rw [if_pos h2, if_pos (show k < n + 1 by omega)]; omega
      · rw [if_neg h2, if_neg (show ¬ k < n + 1 by omega)]; omega
theorem wM_down {T : List Int} (hT : ∀ k, 0 ≤ T.getD k 0) {A : List Nat} {k i : Nat} (hi : i < T.length) (hk : k < i) (ha : (A.getD i 0).testBit k = true) : wM T A i + T.getD k 0 ≤ wM T A k := by
  have h1 : (bsM A i T.length).testBit k = false := by
    cases h : (bsM A i T.length).testBit k
    · rfl
    · have := bsM_ge _ _ h; omega
  have h2 := csum_with (T := T) (P := fun x => (bsM A i T.length).testBit x) h1 T.length
  rw [if_pos (by omega)] at h2
  unfold wM
  rw [← h2]
  refine csum_mono hT _ fun x hx h => ?_
  rw [Bool.or_eq_true] at h
  rcases h with h | h
  · exact bsM_sub hk ha _ x h
  · have hxk : x = k := by simpa using h
    subst hxk
    have := bsM_self (A := A) (i := x) (T.length - x - 1); rwa [show x + 1 + (T.length - x - 1) = T.length by omega] at this

/-- The least tact for so many places. -/
def okT (T : List Int) (A : List Nat) (places : Int) (t : Nat) : Prop := (∀ k, k < T.length → T.getD k 0 ≤ (t : Int)) ∧ fewM T A t ≤ places
instance (T : List Int) (A : List Nat) (places : Int) (t : Nat) : Decidable (okT T A places t) := by unfold okT; infer_instance
def upT (T : List Int) (A : List Nat) (places : Int) : Nat → Nat → Nat
  | 0, t => t
  | f + 1, t => if okT T A places t then t else upT T A places f (t + 1)
theorem upT_ok {T : List Int} {A : List Nat} {places : Int} : ∀ f t e, t ≤ e → e ≤ t + f → okT T A places e → okT T A places (upT T A places f t) ∧ t ≤ upT T A places f t ∧ upT T A places f t ≤ e ∧ ∀ x, t ≤ x → x < upT T A places f t → ¬ okT T A places x
  | 0, t, e, h1, h2, h => by
    obtain rfl : t = e := by omega
    exact ⟨h, Nat.le_refl _, Nat.le_refl _, fun x hx hx2 => by unfold upT at hx2; omega⟩
  | f + 1, t, e, h1, h2, h => by
    by_cases h0 : okT T A places t
    · rw [upT, if_pos h0]; exact ⟨h0, Nat.le_refl _, h1, fun x _ _ => by omega⟩
    · have hne : t ≠ e := fun he => by subst he; exact h0 h
      have := upT_ok f (t + 1) e (by omega) (by omega) h
      rw [upT, if_neg h0]
      refine ⟨this.1, by omega, this.2.2.1, fun x hx hx2 => ?_⟩
      by_cases hxt : x = t
      · subst hxt; exact h0
      · exact this.2.2.2 x (by omega) hx2
def leastT (T : List Int) (A : List Nat) (places : Int) : Nat := upT T A places 60 1
theorem okT_top {T : List Int} {A : List Nat} (hl : A.length = T.length) (hA : ∀ i k, (A.getD i 0).testBit k = true → k < i) {t : Nat} (hT : ∀ k, 0 ≤ T.getD k 0) (ht : csum T (fun _ => true) T.length ≤ (t : Int)) {places : Int} (hp : 1 ≤ places) : okT T A places t := by
  refine ⟨fun k hk => Int.le_trans (csum_le hT (c := 0) _ k hk rfl) ht, ?_⟩
  have := few_le (T := T) (A := A) (c := (t : Int)) hl hA (m := 1) (p := fun _ => 0) ⟨fun _ _ => Nat.one_pos, fun _ _ _ _ => Nat.le_refl _, fun j => by
    by_cases h : j = 0
    · subst h; refine Int.le_trans (Int.le_of_eq (csum_congr _ fun i _ => ?_)) ht; rfl
    · rw [csum_none _ fun i _ => ?_]
      · omega
      · simp; omega⟩
  omega
theorem csum_bd {T : List Int} (hT : ∀ k, T.getD k 0 ≤ 9) : ∀ n : Nat, csum T (fun _ => true) n ≤ 9 * (n : Int)
  | 0 => by simp [csum]
  | n + 1 => by have := csum_bd hT n; have := hT n; rw [csum, if_pos rfl]; push_cast; omega
theorem least_spec {T : List Int} {A : List Nat} (hl : A.length = T.length) (hn : T.length ≤ 6) (hA : ∀ i k, (A.getD i 0).testBit k = true → k < i) (hT : ∀ k, 0 ≤ T.getD k 0 ∧ T.getD k 0 ≤ 9) {places : Int} (hp : 1 ≤ places) :
    okT T A places (leastT T A places) ∧ 1 ≤ leastT T A places ∧ leastT T A places ≤ 54 ∧ ∀ x, 1 ≤ x → x < leastT T A places → ¬ okT T A places x :=
  upT_ok 60 1 54 (by omega) (by omega) (okT_top hl hA (fun k => (hT k).1) (by have := csum_bd (fun k => (hT k).2) T.length; show _ ≤ (54 : Int); omega) hp)
theorem least_total {T : List Int} {A : List Nat} (hl : A.length = T.length) (hA : ∀ i k, (A.getD i 0).testBit k = true → k < i) {c places : Int} (hc : 0 ≤ c) (h0 : 0 ≤ fewM T A c) (h : fewM T A c ≤ places) : csum T (fun _ => true) T.length ≤ c * places := by
  obtain ⟨p, hp⟩ := few_get hl hc hA h0
  have h1 := hp.total
  rw [show (((fewM T A c).toNat : Nat) : Int) = fewM T A c by omega] at h1
  have h2 := Int.mul_le_mul_of_nonneg_right h hc
  rw [Int.mul_comm c]; omega
end Go.Proofs.Ytobfencmfeneoab
