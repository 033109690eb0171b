import Derived.Test.YthmifadnfaajbadM2
namespace Go.Proofs.Ythmifadnfaajbad

-- one machine: t, w, d the times, weights and due times of the jobs
/-- a sum over jobs in a row, of what each one costs when it is done -/
def costG (t : Nat → Int) (g : Nat → Int → Int) (s : Int) : List Nat → Int
  | [] => 0
  | x :: l => g x (s + t x) + costG t g (s + t x) l
theorem costG_snoc (t : Nat → Int) (g : Nat → Int → Int) (x : Nat) : ∀ (l : List Nat) (s : Int), costG t g s (l ++ [x]) = costG t g s l + g x (s + sumL t l + t x)
  | [], s => by simp [costG, sumL]
  | y :: l, s => by
    rw [List.cons_append, costG, costG, costG_snoc t g x l, sumL, show s + t y + sumL t l + t x = s + (t y + sumL t l) + t x by omega]; omega
theorem costG_congr {t : Nat → Int} {g h : Nat → Int → Int} : ∀ (l : List Nat) (s : Int), (∀ x ∈ l, ∀ c, s ≤ c → g x c = h x c) → (∀ x ∈ l, 0 ≤ t x) → costG t g s l = costG t h s l
  | [], _, _, _ => rfl
  | y :: l, s, e, ht => by
    have h1 := ht y (List.mem_cons_self ..)
    rw [costG, costG, e y (List.mem_cons_self ..) _ (by omega), costG_congr l (s + t y) (fun x hx c hc => e x (List.mem_cons_of_mem _ hx) c (by omega)) (fun x hx => ht x (List.mem_cons_of_mem _ hx))]
theorem costG_bd {t : Nat → Int} {g : Nat → Int → Int} {B M : Int} (hg : ∀ x c, 0 ≤ c → c ≤ M → 0 ≤ g x c ∧ g x c ≤ B) : ∀ (l : List Nat) (s : Int), 0 ≤ s → (∀ x, 0 ≤ t x) → s + sumL t l ≤ M → 0 ≤ costG t g s l ∧ costG t g s l ≤ B * (l.length : Int)
  | [], _, _, _, _ => by simp [costG]
  | y :: l, s, hs, ht, hM => by
    have h1 := ht y
    have h2 := sumL_nn ht l
    rw [sumL] at hM
    have h3 := costG_bd hg l (s + t y) (by omega) ht (by omega)
    have h4 := hg y (s + t y) (by omega) (by omega)
    rw [costG, List.length_cons]; push_cast; rw [Int.mul_add]; omega
/-- with fewer jobs it costs no more -/
theorem costG_filter {t : Nat → Int} {g : Nat → Int → Int} (ht : ∀ x, 0 ≤ t x) (hg : ∀ x c c', c ≤ c' → g x c ≤ g x c') (hn : ∀ x c, 0 ≤ g x c) (p : Nat → Bool) : ∀ (l : List Nat) (s s' : Int), s ≤ s' → costG t g s (l.filter p) ≤ costG t g s' l
  | [], _, _, _ => Int.le_refl _
  | y :: l, s, s', h => by
    have h1 := ht y
    rw [costG]
    by_cases hp : p y = true
    · rw [List.filter_cons_of_pos hp, costG]
      have h2 := hg y (s + t y) (s' + t y) (by omega)
      have h3 := costG_filter ht hg hn p l (s + t y) (s' + t y) (by omega)
      omega
    · rw [List.filter_cons_of_neg hp]
      have h2 := hn y (s' + t y)
      have h3 := costG_filter ht hg hn p l s (s' + t y) (by omega)
      omega
theorem erase_perm {x : Nat} {l m : List Nat} (h : (x :: l).Perm m) : l.Perm (m.erase x) := by
  have := h.erase x
  rwa [List.erase_cons_head] at this

-- by weights and times least is waited
def waitG (w : Nat → Int) (x : Nat) (c : Int) : Int := w x * c
theorem wait_front {t w : Nat → Int} {x : Nat} : ∀ (l : List Nat) (s : Int), x ∈ l → (∀ y ∈ l, w y * t x ≤ w x * t y) → costG t (waitG w) s (x :: l.erase x) ≤ costG t (waitG w) s l
  | [], _, hx, _ => by cases hx
  | z :: l, s, hx, h => by
    by_cases e : z = x
    · subst e; rw [List.erase_cons_head]; exact Int.le_refl _
    · have hxl : x ∈ l := (List.mem_cons.1 hx).elim (fun h => absurd h.symm e) id
      have ih := wait_front l (s + t z) hxl (fun y hy => h y (List.mem_cons_of_mem _ hy))
      have hz := h z (List.mem_cons_self ..)
      rw [List.erase_cons_tail (by simpa using e)]
      simp only [costG, waitG] at ih ⊢
      have e1 : s + t x + t z = s + t z + t x := by omega
      rw [e1]
      simp only [Int.mul_add] at ih ⊢
      omega
theorem wait_best {t w : Nat → Int} : ∀ (s l : List Nat) (a : Int), s.Pairwise (fun x y => w y * t x ≤ w x * t y) → s.Perm l → costG t (waitG w) a s ≤ costG t (waitG w) a l
  | [], l, a, _, h => by rw [h.symm.eq_nil]; exact Int.le_refl _
  | x :: s, l, a, hp, h => by
    obtain ⟨h1, h2⟩ := List.pairwise_cons.1 hp
    have hx : x ∈ l := h.mem_iff.1 (List.mem_cons_self ..)
    have ih := wait_best s (l.erase x) (a + t x) h2 (erase_perm h)
    have hf := wait_front (t := t) (w := w) l a hx (fun y hy => by
      rcases List.mem_cons.1 (h.mem_iff.2 hy) with rfl | hy
      · exact Int.le_refl _
      · exact h1 y hy)
    rw [costG] at hf ⊢
    omega
/-- weights and times exchanged, in the other order -/
theorem wait_at (t w : Nat → Int) : ∀ (l : List Nat) (a : Int), costG t (waitG w) a l = costG t (waitG w) 0 l + a * sumL w l
  | [], a => by simp [costG, sumL]
  | x :: l, a => by
    simp only [costG, waitG, sumL]
    rw [wait_at t w l (a + t x), wait_at t w l (0 + t x)]
    simp only [Int.mul_add, Int.add_mul, Int.zero_mul, Int.mul_zero, Int.mul_comm (w x) a]
    omega
theorem wait_turned (t w : Nat → Int) : ∀ l : List Nat, costG w (waitG t) 0 l.reverse = costG t (waitG w) 0 l
  | [] => rfl
  | x :: l => by
    rw [List.reverse_cons, costG_snoc, wait_turned t w l, sumL_reverse]
    simp only [costG, waitG]
    rw [wait_at t w l (0 + t x)]
    simp only [Int.mul_add, Int.zero_add, Int.mul_comm (w x) (t x)]
    omega

-- by due times the latest is least late
/-- each job is done at most L behind its due time -/
def allLe (t d : Nat → Int) (L s : Int) : List Nat → Prop
  | [] => True
  | x :: l => s + t x - d x ≤ L ∧ allLe t d L (s + t x) l
theorem allLe_iff {t d : Nat → Int} {L : Int} : ∀ (l : List Nat) (s : Int), allLe t d L s l ↔ ∀ k, k < l.length → s + sumL t (l.take (k + 1)) - d (l.getD k 0) ≤ L
  | [], _ => ⟨fun _ k hk => by simp at hk, fun _ => trivial⟩
  | x :: l, s => by
    rw [allLe, allLe_iff l (s + t x)]
    constructor
    · rintro ⟨h1, h2⟩ k hk
      cases k with
      | zero => simpa [sumL] using h1
      | succ k =>
        have := h2 k (by simpa using hk)
        rw [List.take_succ_cons, sumL, List.getD_cons_succ]; omega
    · intro h
      refine ⟨by simpa [sumL] using h 0 (by simp), fun k hk => ?_⟩
      have := h (k + 1) (by simpa using hk)
      rw [List.take_succ_cons, sumL, List.getD_cons_succ] at this; omega
theorem allLe_mono {t d : Nat → Int} {L : Int} : ∀ (l : List Nat) (s s' : Int), s' ≤ s → allLe t d L s l → allLe t d L s' l
  | [], _, _, _, _ => trivial
  | x :: l, s, s', h, hl => ⟨by have := hl.1; omega, allLe_mono l (s + t x) (s' + t x) (by omega) hl.2⟩
theorem due_front {t d : Nat → Int} {L : Int} {x : Nat} (ht : ∀ y, 0 ≤ t y) : ∀ (l : List Nat) (s : Int), x ∈ l → (∀ y ∈ l, d x ≤ d y) → allLe t d L s l → allLe t d L s (x :: l.erase x)
  | [], _, hx, _, _ => by cases hx
  | z :: l, s, hx, h, hl => by
    by_cases e : z = x
    · subst e; rw [List.erase_cons_head]; exact hl
    · have hxl : x ∈ l := (List.mem_cons.1 hx).elim (fun h => absurd h.symm e) id
      have ih := due_front ht l (s + t z) hxl (fun y hy => h y (List.mem_cons_of_mem _ hy)) hl.2
      have hz := h z (List.mem_cons_self ..)
      have htz := ht z
      rw [List.erase_cons_tail (by simpa using e)]
      refine ⟨by have := ih.1; omega, by have := ih.1; omega, ?_⟩
      rw [show s + t x + t z = s + t z + t x by omega]
      exact ih.2
theorem due_best {t d : Nat → Int} {L : Int} (ht : ∀ y, 0 ≤ t y) : ∀ (s l : List Nat) (a : Int), s.Pairwise (fun x y => d x ≤ d y) → s.Perm l → allLe t d L a l → allLe t d L a s
  | [], _, _, _, _, _ => trivial
  | x :: s, l, a, hp, h, hl => by
    obtain ⟨h1, h2⟩ := List.pairwise_cons.1 hp
    have hx : x ∈ l := h.mem_iff.1 (List.mem_cons_self ..)
    have hf := due_front (L := L) ht l a hx (fun y hy => by
      rcases List.mem_cons.1 (h.mem_iff.2 hy) with rfl | hy
      · exact Int.le_refl _
      · exact h1 y hy) hl
    exact ⟨hf.1, due_best ht s (l.erase x) (a + t x) h2 (erase_perm h) hf.2⟩
theorem allLe_snoc {t d : Nat → Int} {L : Int} {x : Nat} : ∀ (l : List Nat) (s : Int), allLe t d L s (l ++ [x]) ↔ allLe t d L s l ∧ s + sumL t l + t x - d x ≤ L
  | [], s => by simp [allLe, sumL]
  | y :: l, s => by
    rw [List.cons_append, allLe, allLe, allLe_snoc l, sumL, and_assoc, show s + t y + sumL t l + t x = s + (t y + sumL t l) + t x by omega]
theorem allLe_append {t d : Nat → Int} {L : Int} : ∀ (l m : List Nat) (s : Int), allLe t d L s (l ++ m) ↔ allLe t d L s l ∧ allLe t d L (s + sumL t l) m
  | [], m, s => by simp [allLe, sumL]
  | y :: l, m, s => by
    rw [List.cons_append, allLe, allLe, allLe_append l, sumL, and_assoc, show s + t y + sumL t l = s + (t y + sumL t l) by omega]

-- how many are late
def lateG (d : Nat → Int) (x : Nat) (c : Int) : Int := if d x < c then 1 else 0
theorem late_zero {t d : Nat → Int} : ∀ (l : List Nat) (s : Int), 0 ≤ costG t (lateG d) s l ∧ (costG t (lateG d) s l = 0 ↔ allLe t d 0 s l)
  | [], _ => ⟨Int.le_refl _, fun _ => trivial, fun _ => rfl⟩
  | x :: l, s => by
    obtain ⟨h1, h2⟩ := late_zero (t := t) (d := d) l (s + t x)
    rw [costG, allLe, ← h2]
    unfold lateG at h1 ⊢
    split <;> omega
theorem late_all {t d : Nat → Int} : ∀ (l : List Nat) (s : Int), (∀ x, 0 ≤ t x) → (∀ x ∈ l, d x < s + t x) → costG t (lateG d) s l = (l.length : Int)
  | [], _, _, _ => rfl
  | x :: l, s, ht, h => by
    have h1 := h x (List.mem_cons_self ..)
    have h2 := ht x
    rw [costG, late_all l (s + t x) ht (fun y hy => by have := h y (List.mem_cons_of_mem _ hy); omega)]
    unfold lateG
    rw [if_pos (by omega), List.length_cons]; push_cast; omega
theorem costG_append (t : Nat → Int) (g : Nat → Int → Int) : ∀ (l m : List Nat) (s : Int), costG t g s (l ++ m) = costG t g s l + costG t g (s + sumL t l) m
  | [], m, s => by simp [costG, sumL]
  | y :: l, m, s => by
    rw [List.cons_append, costG, costG, costG_append t g l, sumL, show s + t y + sumL t l = s + (t y + sumL t l) by omega]; omega
/-- those that are on time, in an order -/
def onT (t d : Nat → Int) (s : Int) : List Nat → List Nat
  | [] => []
  | x :: l => if s + t x ≤ d x then x :: onT t d (s + t x) l else onT t d (s + t x) l
theorem onT_late {t d : Nat → Int} : ∀ (l : List Nat) (s : Int), costG t (lateG d) s l + ((onT t d s l).length : Int) = (l.length : Int)
  | [], _ => rfl
  | x :: l, s => by
    have ih := onT_late (t := t) (d := d) l (s + t x)
    rw [costG, onT, List.length_cons]
    unfold lateG at ih ⊢
    by_cases h : s + t x ≤ d x
    · rw [if_neg (by omega), if_pos h, List.length_cons]; push_cast; omega
    · rw [if_pos (by omega), if_neg h]; push_cast; omega
theorem onT_sub {t d : Nat → Int} : ∀ (l : List Nat) (s : Int), (onT t d s l).Sublist l
  | [], _ => List.Sublist.slnil
  | x :: l, s => by
    rw [onT]
    split
    · exact (onT_sub l _).cons_cons x
    · exact (onT_sub l _).cons x
theorem onT_sum {t d : Nat → Int} (ht : ∀ x, 0 ≤ t x) {δ : Int} (Q : Nat → Bool) : ∀ (l : List Nat) (s : Int), (∀ x ∈ onT t d s l, Q x = true → d x ≤ δ) → (onT t d s l).filter Q ≠ [] → s + sumL t ((onT t d s l).filter Q) ≤ δ
  | [], _, _, h => by simp [onT] at h
  | x :: l, s, hd, h => by
    have htx := ht x
    rw [onT] at hd h ⊢
    by_cases h1 : s + t x ≤ d x
    · rw [if_pos h1] at hd h ⊢
      have ih := onT_sum ht Q l (s + t x) (fun y hy => hd y (List.mem_cons_of_mem _ hy))
      by_cases hq : Q x = true
      · rw [List.filter_cons_of_pos hq, sumL]
        have := hd x (List.mem_cons_self ..) hq
        by_cases he : (onT t d (s + t x) l).filter Q = []
        · rw [he, sumL]; omega
        · have := ih he; omega
      · rw [List.filter_cons_of_neg hq] at h ⊢
        have := ih h; omega
    · rw [if_neg h1] at hd h ⊢
      have := onT_sum ht Q l (s + t x) hd h
      omega

-- those that are kept
/-- the index of the last one of the greatest -/
def bigAt (t : Nat → Int) (K : List Nat) : Nat → Nat
  | 0 => 0
  | k + 1 => if t (K.getD (bigAt t K k) 0) ≤ t (K.getD k 0) then k else bigAt t K k
theorem bigAt_lt (t : Nat → Int) (K : List Nat) : ∀ k, 0 < k → bigAt t K k < k
  | k + 1, _ => by
    rw [bigAt]
    split
    · omega
    · cases k with
      | zero => simp [bigAt]
      | succ k => have := bigAt_lt t K (k + 1) (by omega); omega
theorem bigAt_ge (t : Nat → Int) (K : List Nat) : ∀ k j, j < k → t (K.getD j 0) ≤ t (K.getD (bigAt t K k) 0)
  | k + 1, j, h => by
    rw [bigAt]
    rcases Nat.lt_or_eq_of_le (Nat.le_of_lt_succ h) with h1 | rfl
    · have := bigAt_ge t K k j h1
      split
      · rename_i h2; omega
      · exact this
    · split
      · exact Int.le_refl _
      · rename_i h2; omega
/-- one job more is put to those that are kept -/
def keepS (t d : Nat → Int) (K : List Nat) (j : Nat) : List Nat :=
  if sumL t (K ++ [j]) ≤ d j then K ++ [j] else (K ++ [j]).eraseIdx (bigAt t (K ++ [j]) (K ++ [j]).length)
def keepL (t d : Nat → Int) (l : List Nat) : List Nat := l.foldl (keepS t d) []
theorem keepL_snoc (t d : Nat → Int) (l : List Nat) (j : Nat) : keepL t d (l ++ [j]) = keepS t d (keepL t d l) j := by simp [keepL]
/-- the step, over the job that falls out -/
theorem keepS_is {t d : Nat → Int} {K : List Nat} {j : Nat} (hn : (K ++ [j]).Nodup) : (sumL t (K ++ [j]) ≤ d j ∧ keepS t d K j = K ++ [j]) ∨
    (d j < sumL t (K ++ [j]) ∧ ∃ x, x ∈ K ++ [j] ∧ (∀ y ∈ K ++ [j], t y ≤ t x) ∧ keepS t d K j = (K ++ [j]).erase x) := by
  unfold keepS
  by_cases h : sumL t (K ++ [j]) ≤ d j
  · exact .inl ⟨h, if_pos h⟩
  · right
    rw [if_neg h]
    have hM : 0 < (K ++ [j]).length := by simp
    generalize K ++ [j] = M at hn h hM
    have hb := bigAt_lt t M M.length hM
    have hg := bigAt_ge t M M.length
    generalize bigAt t M M.length = b at hb hg
    refine ⟨by omega, M[b], List.getElem_mem hb, fun y hy => ?_, (List.erase_eq_eraseIdx_of_idxOf (hn.idxOf_getElem b hb)).symm⟩
    obtain ⟨i, hi, rfl⟩ := List.getElem_of_mem hy
    have := hg i hi
    simpa [List.getD_eq_getElem?_getD, hi, hb] using this
theorem sub_one {l : List Nat} {a : Nat} (h : l.Sublist [a]) : l = [] ∨ l = [a] := by
  cases h with
  | cons _ h => exact .inl (List.sublist_nil.1 h)
  | cons_cons _ h => exact .inr (by rw [List.sublist_nil.1 h])
theorem snoc_ind {P : List Nat → Prop} (h0 : P []) (h1 : ∀ l x, P l → P (l ++ [x])) (l : List Nat) : P l := by
  have key : ∀ m : List Nat, P m.reverse := fun m => by
    induction m with
    | nil => exact h0
    | cons x m ih => rw [List.reverse_cons]; exact h1 _ _ ih
  have := key l.reverse
  rwa [List.reverse_reverse] at this
theorem sumL_erase {f : Nat → Int} {x : Nat} {l : List Nat} (h : x ∈ l) : sumL f (l.erase x) = sumL f l - f x := by
  have := sumL_perm (f := f) (List.perm_cons_erase h)
  rw [sumL] at this; omega
theorem allLe_sub {t d : Nat → Int} {L : Int} (ht : ∀ x, 0 ≤ t x) {l' l : List Nat} (h : l'.Sublist l) : ∀ s s', s' ≤ s → allLe t d L s l → allLe t d L s' l' := by
  induction h with
  | slnil => intro _ _ _ _; trivial
  | cons a _ ih => intro s s' h hl; have := ht a; exact ih (s + t a) s' (by omega) hl.2
  | cons_cons a _ ih => intro s s' h hl; exact ⟨by have := hl.1; omega, ih (s + t a) (s' + t a) (by omega) hl.2⟩
theorem allLe_last {t d : Nat → Int} {L : Int} {K : List Nat} (hK : K ≠ []) (h : allLe t d L 0 K) : ∃ z ∈ K, sumL t K - d z ≤ L := by
  rcases List.eq_nil_or_concat K with rfl | ⟨M, z, rfl⟩
  · exact absurd rfl hK
  · rw [List.concat_eq_append] at h ⊢
    have := ((allLe_snoc M 0).mp h).2
    exact ⟨z, by simp, by rw [sumL_append, sumL, sumL]; omega⟩
theorem sumL_filter_le {f : Nat → Int} (h : ∀ x, 0 ≤ f x) (p : Nat → Bool) : ∀ l, sumL f (l.filter p) ≤ sumL f l
  | [] => Int.le_refl _
  | x :: l => by
    have := sumL_filter_le h p l
    have := h x
    by_cases hp : p x = true
    · rw [List.filter_cons_of_pos hp, sumL, sumL]; omega
    · rw [List.filter_cons_of_neg hp, sumL]; omega
/-- what holds of those that are kept -/
structure Kept (t d : Nat → Int) (p K : List Nat) : Prop where
  sub : K.Sublist p
  time : allLe t d 0 0 K
  best : ∀ F, F.Sublist p → allLe t d 0 0 F → ∃ G : List Nat, G.Nodup ∧ (∀ z ∈ G, z ∈ K) ∧ G.length = F.length ∧ sumL t G ≤ sumL t F
  out : ∀ x ∈ p, x ∉ K → d x < t x + sumL t (K.filter (fun y => decide (t y ≤ t x)))
theorem filter_all {p : Nat → Bool} {l : List Nat} (h : ∀ x ∈ l, p x = true) : l.filter p = l := List.filter_eq_self.2 h
theorem Kept.step {t d : Nat → Int} (ht : ∀ x, 0 ≤ t x) {p K : List Nat} {j : Nat} (h : Kept t d p K) (hn : (p ++ [j]).Nodup) (hd : ∀ x ∈ p, d x ≤ d j) : Kept t d (p ++ [j]) (keepS t d K j) := by
  have hnd := List.nodup_append.1 hn
  have hjp : j ∉ p := fun hj => hnd.2.2 j hj j (by simp) rfl
  have hKn : K.Nodup := hnd.1.sublist h.sub
  have hjK : j ∉ K := fun hj => hjp (h.sub.subset hj)
  have hs1 : (K ++ [j]).Sublist (p ++ [j]) := h.sub.append (List.Sublist.refl _)
  have hn1 : (K ++ [j]).Nodup := hn.sublist hs1
  have hsum : sumL t (K ++ [j]) = sumL t K + t j := by rw [sumL_append, sumL, sumL]; omega
  rcases keepS_is (t := t) (d := d) hn1 with ⟨hle, e⟩ | ⟨hgt, x, hx, hmax, e⟩
  · rw [e]
    refine ⟨hs1, (allLe_snoc K 0).mpr ⟨h.time, by omega⟩, fun F hF hFt => ?_, fun x hx hxK => ?_⟩
    · obtain ⟨F1, F2, rfl, h1, h2⟩ := List.sublist_append_iff.1 hF
      obtain ⟨G, g1, g2, g3, g4⟩ := h.best F1 h1 ((allLe_append F1 F2 0).mp hFt).1
      rcases sub_one h2 with rfl | rfl
      · exact ⟨G, g1, fun z hz => List.mem_append_left _ (g2 z hz), by simpa using g3, by simpa using g4⟩
      · refine ⟨j :: G, List.nodup_cons.2 ⟨fun hj => hjK (g2 j hj), g1⟩, fun z hz => ?_, by simp [g3], by rw [sumL, sumL_append, sumL, sumL]; omega⟩
        rcases List.mem_cons.1 hz with rfl | hz
        · simp
        · exact List.mem_append_left _ (g2 z hz)
    · have hxp : x ∈ p := by
        rcases List.mem_append.1 hx with h1 | h1
        · exact h1
        · rw [List.mem_singleton.1 h1] at hxK; exact absurd (by simp) hxK
      have := h.out x hxp (fun h1 => hxK (List.mem_append_left _ h1))
      rw [List.filter_append, sumL_append]
      have := sumL_nn ht ([j].filter (fun y => decide (t y ≤ t x)))
      omega
  · rw [e]
    have hxs := sumL_erase (f := t) hx
    have hn2 : ((K ++ [j]).erase x).Nodup := hn1.erase x
    have hsub2 : ((K ++ [j]).erase x).Sublist (p ++ [j]) := List.erase_sublist.trans hs1
    refine ⟨hsub2, ?_, fun F hF hFt => ?_, fun y hy hyK => ?_⟩
    · by_cases hxK : x ∈ K
      · rw [List.erase_append_left _ hxK]
        have h1 := sumL_erase (f := t) hxK
        have h2 := hmax j (by simp)
        obtain ⟨z, hz, h3⟩ := allLe_last (List.ne_nil_of_mem hxK) h.time
        have h4 := hd z (h.sub.subset hz)
        exact (allLe_snoc _ 0).mpr ⟨allLe_sub ht List.erase_sublist 0 0 (Int.le_refl _) h.time, by omega⟩
      · have hxj : x = j := by
          rcases List.mem_append.1 hx with h1 | h1
          · exact absurd h1 hxK
          · exact List.mem_singleton.1 h1
        subst hxj
        rw [List.erase_append_right _ hxK, List.erase_cons_head, List.append_nil]
        exact h.time
    · -- a set of K ++ [j], not more in sum
      obtain ⟨G, g1, g2, g3, g4, g5⟩ : ∃ G : List Nat, G.Nodup ∧ (∀ z ∈ G, z ∈ K ++ [j]) ∧ G.length = F.length ∧ sumL t G ≤ sumL t F ∧ (x ∈ G → ∃ y, y ∈ K ++ [j] ∧ y ∉ G) := by
        obtain ⟨F1, F2, rfl, h1, h2⟩ := List.sublist_append_iff.1 hF
        obtain ⟨G, g1, g2, g3, g4⟩ := h.best F1 h1 ((allLe_append F1 F2 0).mp hFt).1
        rcases sub_one h2 with rfl | rfl
        · exact ⟨G, g1, fun z hz => List.mem_append_left _ (g2 z hz), by simpa using g3, by simpa using g4, fun _ => ⟨j, by simp, fun hj => hjK (g2 j hj)⟩⟩
        · have hjG : j ∉ G := fun hj => hjK (g2 j hj)
          have hF2 := ((allLe_snoc F1 0).mp hFt).2
          refine ⟨j :: G, List.nodup_cons.2 ⟨hjG, g1⟩, fun z hz => ?_, by simp [g3], by rw [sumL, sumL_append, sumL, sumL]; omega, fun _ => ?_⟩
          · rcases List.mem_cons.1 hz with rfl | hz
            · simp
            · exact List.mem_append_left _ (g2 z hz)
          · by_cases hall : ∀ y ∈ K ++ [j], y ∈ j :: G
            · exfalso
              have hp : (K ++ [j]).Perm (j :: G) := (List.perm_ext_iff_of_nodup hn1 (List.nodup_cons.2 ⟨hjG, g1⟩)).2 fun y => ⟨hall y, fun hy => by
                rcases List.mem_cons.1 hy with rfl | hz
                · simp
                · exact List.mem_append_left _ (g2 y hz)⟩
              have := sumL_perm (f := t) hp
              rw [sumL] at this
              omega
            · obtain ⟨y, hy⟩ := Classical.not_forall.1 hall
              exact ⟨y, (Classical.not_imp.1 hy).1, (Classical.not_imp.1 hy).2⟩
      by_cases hxG : x ∈ G
      · obtain ⟨y, hy, hyG⟩ := g5 hxG
        have hyx : y ≠ x := fun e => hyG (e ▸ hxG)
        have h1 := sumL_erase (f := t) hxG
        have h2 := hmax y hy
        refine ⟨y :: G.erase x, List.nodup_cons.2 ⟨fun hm => hyG (List.mem_of_mem_erase hm), g1.erase x⟩, fun z hz => ?_, ?_, by rw [sumL]; omega⟩
        · rcases List.mem_cons.1 hz with rfl | hz
          · exact (hn1.mem_erase_iff).2 ⟨hyx, hy⟩
          · have := (g1.mem_erase_iff).1 hz
            exact (hn1.mem_erase_iff).2 ⟨this.1, g2 z this.2⟩
        · rw [List.length_cons, List.length_erase_of_mem hxG, g3]
          have := List.length_pos_of_mem hxG
          omega
      · exact ⟨G, g1, fun z hz => (hn1.mem_erase_iff).2 ⟨fun e => hxG (e ▸ hz), g2 z hz⟩, g3, g4⟩
    · -- those that are out stay late
      have hall : ∀ v : Int, t x ≤ v → ((K ++ [j]).erase x).filter (fun z => decide (t z ≤ v)) = (K ++ [j]).erase x := fun v hv =>
        filter_all fun z hz => by have := hmax z (List.mem_of_mem_erase hz); simp; omega
      by_cases hyx : y = x
      · subst hyx
        rw [hall _ (Int.le_refl _)]
        have hdy : d y ≤ d j := by
          rcases List.mem_append.1 hx with h1 | h1
          · exact hd y (h.sub.subset h1)
          · rw [List.mem_singleton.1 h1]; exact Int.le_refl _
        omega
      · have hyK1 : y ∉ K ++ [j] := fun hm => hyK ((hn1.mem_erase_iff).2 ⟨hyx, hm⟩)
        have hyp : y ∈ p := by
          rcases List.mem_append.1 hy with h1 | h1
          · exact h1
          · rw [List.mem_singleton.1 h1] at hyK1; exact absurd (by simp) hyK1
        by_cases hxy : t x ≤ t y
        · rw [hall _ hxy]
          have := hd y hyp
          omega
        · have h1 := h.out y hyp (fun hm => hyK1 (List.mem_append_left _ hm))
          have h2 : sumL t (K.filter (fun z => decide (t z ≤ t y))) ≤ sumL t (((K ++ [j]).erase x).filter (fun z => decide (t z ≤ t y))) := by
            have h3 : ((K ++ [j]).erase x).filter (fun z => decide (t z ≤ t y)) = ((K ++ [j]).filter (fun z => decide (t z ≤ t y))).erase x := by
              rw [List.erase_filter]
            rw [h3, List.erase_of_not_mem (fun hm => by have := (List.mem_filter.1 hm).2; simp at this; omega), List.filter_append, sumL_append]
            have := sumL_nn ht ([j].filter (fun z => decide (t z ≤ t y)))
            omega
          omega
theorem kept_all {t d : Nat → Int} (ht : ∀ x, 0 ≤ t x) (l : List Nat) : l.Nodup → l.Pairwise (fun x y => d x ≤ d y) → Kept t d l (keepL t d l) := by
  refine snoc_ind (P := fun l => l.Nodup → l.Pairwise (fun x y => d x ≤ d y) → Kept t d l (keepL t d l)) ?_ ?_ l
  · intro _ _
    exact ⟨List.Sublist.refl _, trivial, fun F hF _ => by rw [List.sublist_nil.1 hF]; exact ⟨[], List.nodup_nil, fun z hz => (by cases hz), rfl, Int.le_refl _⟩, fun x hx => (by cases hx)⟩
  · intro l j ih hn hp
    have h1 := List.nodup_append.1 hn
    have h2 := List.pairwise_append.1 hp
    rw [keepL_snoc]
    exact (ih h1.1 h2.1).step ht hn (fun x hx => h2.2.2 x hx j (by simp))
/-- no order has more on time -/
theorem kept_most {t d : Nat → Int} (ht : ∀ x, 0 ≤ t x) {s o : List Nat} (hn : s.Nodup) (hp : s.Pairwise (fun x y => d x ≤ d y)) (ho : s.Perm o) : (o.length : Int) - ((keepL t d s).length : Int) ≤ costG t (lateG d) 0 o := by
  have hk := kept_all (t := t) (d := d) ht s hn hp
  have hon : o.Nodup := ho.nodup_iff.1 hn
  have hl := onT_late (t := t) (d := d) o 0
  have hsub := onT_sub (t := t) (d := d) o 0
  have hfn : (onT t d 0 o).Nodup := hon.sublist hsub
  obtain ⟨G, g1, g2, g3, _⟩ := hk.best (s.filter (fun x => decide (x ∈ onT t d 0 o))) List.filter_sublist (by
    refine (allLe_iff _ 0).mpr fun k hk => ?_
    have hsF : (s.filter (fun x => decide (x ∈ onT t d 0 o))).Pairwise (fun x y => d x ≤ d y) := hp.sublist List.filter_sublist
    have hnF : (s.filter (fun x => decide (x ∈ onT t d 0 o))).Nodup := hn.sublist List.filter_sublist
    have hmF : ∀ x ∈ s.filter (fun x => decide (x ∈ onT t d 0 o)), x ∈ onT t d 0 o := fun x hx => by simpa using (List.mem_filter.1 hx).2
    generalize s.filter (fun x => decide (x ∈ onT t d 0 o)) = F at hk hsF hnF hmF
    have hz : F.getD k 0 = F[k] := by simp [List.getD_eq_getElem?_getD, hk]
    rw [hz]
    have hnk : (F.take (k + 1)).Nodup := hnF.sublist (List.take_sublist _ _)
    have hper : ((onT t d 0 o).filter (fun x => decide (x ∈ F.take (k + 1)))).Perm (F.take (k + 1)) := by
      refine (List.perm_ext_iff_of_nodup (hfn.sublist List.filter_sublist) hnk).2 fun x => ?_
      rw [List.mem_filter, decide_eq_true_eq]
      exact ⟨fun h => h.2, fun h => ⟨hmF x ((List.take_sublist _ _).subset h), h⟩⟩
    have hle : ∀ x ∈ F.take (k + 1), d x ≤ d F[k] := fun x hx => by
      obtain ⟨i, hi, rfl⟩ := List.getElem_of_mem hx
      rw [List.length_take] at hi
      rw [List.getElem_take]
      rcases Nat.lt_or_eq_of_le (show i ≤ k by omega) with h | rfl
      · exact List.pairwise_iff_getElem.1 hsF i k (by omega) hk h
      · exact Int.le_refl _
    have h1 := onT_sum (t := t) (d := d) ht (δ := d F[k]) (fun x => decide (x ∈ F.take (k + 1))) o 0 (fun x _ hx => hle x (by simpa using hx)) (fun he => by
      rw [he] at hper
      have := hper.symm.eq_nil
      have h2 : (F.take (k + 1)).length = 0 := by rw [this]; rfl
      rw [List.length_take] at h2; omega)
    rw [sumL_perm hper] at h1
    omega)
  have h1 := List.Nodup.length_le_of_subset g1 g2
  have h2 : (s.filter (fun x => decide (x ∈ onT t d 0 o))).length = (onT t d 0 o).length := by
    refine List.Perm.length_eq ((List.perm_ext_iff_of_nodup (hn.sublist List.filter_sublist) hfn).2 fun x => ?_)
    rw [List.mem_filter, decide_eq_true_eq]
    exact ⟨fun h => h.2, fun h => ⟨ho.mem_iff.2 (hsub.subset h), h⟩⟩
  omega
/-- those that are kept are on time, all others behind them late -/
theorem kept_late {t d : Nat → Int} (ht : ∀ x, 0 ≤ t x) {s m : List Nat} (hn : s.Nodup) (hp : s.Pairwise (fun x y => d x ≤ d y)) (hm : ∀ x ∈ m, x ∈ s ∧ x ∉ keepL t d s) : costG t (lateG d) 0 (keepL t d s ++ m) = (m.length : Int) := by
  have hk := kept_all (t := t) (d := d) ht s hn hp
  rw [costG_append, ((late_zero (t := t) (d := d) _ 0).2).mpr hk.time, late_all m _ ht (fun x hx => ?_)]
  · omega
  · have h1 := hk.out x (hm x hx).1 (hm x hx).2
    have h2 := sumL_filter_le ht (fun y => decide (t y ≤ t x)) (keepL t d s)
    omega
theorem kept_none {t d : Nat → Int} (ht : ∀ x, 0 ≤ t x) {s : List Nat} (hn : s.Nodup) (hp : s.Pairwise (fun x y => d x ≤ d y)) (h1 : ∀ x ∈ s, 1 ≤ t x ∧ d x = 0) : keepL t d s = [] := by
  have hk := kept_all (t := t) (d := d) ht s hn hp
  cases he : keepL t d s with
  | nil => rfl
  | cons x K =>
    have h2 := hk.time
    have h3 := hk.sub.subset (show x ∈ keepL t d s by rw [he]; simp)
    rw [he] at h2
    have := h1 x h3
    have := h2.1; omega
theorem kept_due {t d : Nat → Int} (ht : ∀ x, 0 ≤ t x) {s : List Nat} (hn : s.Nodup) (hp : s.Pairwise (fun x y => d x ≤ d y)) : (keepL t d s).Pairwise (fun x y => d x ≤ d y) ∧ ((keepL t d s).length = s.length ↔ costG t (lateG d) 0 s = 0) := by
  have hk := kept_all (t := t) (d := d) ht s hn hp
  refine ⟨hp.sublist hk.sub, fun h => ?_, fun h => ?_⟩
  · rw [hk.sub.eq_of_length h] at hk
    exact ((late_zero (t := t) (d := d) s 0).2).mpr (by have := hk.time; exact this)
  · have h1 := ((late_zero (t := t) (d := d) s 0).2).mp h
    obtain ⟨G, g1, g2, g3, _⟩ := hk.best s (List.Sublist.refl _) h1
    have := List.Nodup.length_le_of_subset g1 g2
    have := hk.sub.length_le
    omega
end Go.Proofs.Ythmifadnfaajbad
namespace Go.Proofs.Ythmifadnfaajbad

-- put in its place from the end
def backK (p : Nat → Bool) (l : List Nat) : Nat → Nat
  | 0 => 0
  | k + 1 => if p (l.getD k 0) = true then backK p l k else k + 1
theorem backK_le (p : Nat → Bool) (l : List Nat) : ∀ k, backK p l k ≤ k
  | 0 => Nat.le_refl _
  | k + 1 => by rw [backK]; have := backK_le p l k; split <;> omega
theorem backK_in (p : Nat → Bool) (l : List Nat) : ∀ k m, backK p l k ≤ m → m < k → p (l.getD m 0) = true
  | k + 1, m, h1, h2 => by
    rw [backK] at h1
    split at h1
    · rename_i hp
      rcases Nat.lt_or_eq_of_le (Nat.le_of_lt_succ h2) with h | rfl
      · exact backK_in p l k m h1 h
      · exact hp
    · omega
theorem backK_out (p : Nat → Bool) (l : List Nat) : ∀ k, 0 < backK p l k → p (l.getD (backK p l k - 1) 0) = false
  | 0, h => by simp [backK] at h
  | k + 1, h => by
    rw [backK] at h ⊢
    split at h
    · rename_i hp; rw [if_pos hp]; exact backK_out p l k h
    · rename_i hp; rw [if_neg hp]; simpa using hp
/-- the place is told by what holds at it -/
theorem backK_is {p : Nat → Bool} {l : List Nat} : ∀ {n k : Nat}, k ≤ n → (∀ m, k ≤ m → m < n → p (l.getD m 0) = true) → (0 < k → p (l.getD (k - 1) 0) = false) → backK p l n = k
  | 0, k, hk, _, _ => by rw [backK]; omega
  | n + 1, k, hk, h1, h2 => by
    rw [backK]
    rcases Nat.lt_or_eq_of_le hk with h | rfl
    · rw [if_pos (h1 n (by omega) (by omega))]
      exact backK_is (by omega) (fun m hm hm2 => h1 m hm (by omega)) h2
    · rw [if_neg (by have := h2 (by omega); simp at this ⊢; exact this)]
def insE (ah : Nat → Nat → Bool) (x : Nat) (l : List Nat) : List Nat := l.take (backK (ah x) l l.length) ++ [x] ++ l.drop (backK (ah x) l l.length)
theorem insE_perm (ah : Nat → Nat → Bool) (x : Nat) (l : List Nat) : (insE ah x l).Perm (x :: l) := by
  unfold insE
  generalize backK (ah x) l l.length = k
  have h : (l.take k ++ [x] ++ l.drop k).Perm ([x] ++ l.take k ++ l.drop k) := (List.perm_append_comm (l₁ := l.take k) (l₂ := [x])).append_right _
  refine h.trans ?_
  rw [List.append_assoc, List.take_append_drop]
  exact .refl _
def sortE (ah : Nat → Nat → Bool) : Nat → List Nat
  | 0 => []
  | n + 1 => insE ah n (sortE ah n)
theorem sortE_perm (ah : Nat → Nat → Bool) : ∀ n, (sortE ah n).Perm (List.range n)
  | 0 => .refl _
  | n + 1 => by
    rw [List.range_succ]
    exact (insE_perm ah n _).trans (((sortE_perm ah n).cons n).trans (List.perm_append_singleton n _).symm)
theorem sortE_len (ah : Nat → Nat → Bool) (n : Nat) : (sortE ah n).length = n := by have := (sortE_perm ah n).length_eq; simpa using this
theorem sortE_mem {ah : Nat → Nat → Bool} {n x : Nat} : x ∈ sortE ah n ↔ x < n := by rw [(sortE_perm ah n).mem_iff, List.mem_range]
theorem sortE_nodup (ah : Nat → Nat → Bool) (n : Nat) : (sortE ah n).Nodup := (sortE_perm ah n).symm.nodup List.nodup_range
theorem getD_mem {l : List Nat} {k : Nat} (h : k < l.length) : l.getD k 0 ∈ l := by
  rw [List.getD_eq_getElem?_getD, List.getElem?_eq_getElem h]; exact List.getElem_mem h
theorem insE_sorted {ah : Nat → Nat → Bool} {N x : Nat} (hx : x < N) (ht : ∀ i j k, i < N → j < N → k < N → ah j i = false → ah k j = false → ah k i = false) (hs : ∀ i k, ah i k = true → ah k i = false) {l : List Nat} (hl : ∀ y ∈ l, y < N) (hp : l.Pairwise (fun i k => ah k i = false)) : (insE ah x l).Pairwise (fun i k => ah k i = false) := by
  unfold insE
  have h1 := backK_le (ah x) l l.length
  have h2 := backK_in (ah x) l l.length
  have h3 := backK_out (ah x) l l.length
  generalize backK (ah x) l l.length = k at h1 h2 h3
  have hd : ∀ y ∈ l.drop k, ah y x = false := fun y hy => by
    obtain ⟨i, hi, rfl⟩ := List.getElem_of_mem hy
    rw [List.length_drop] at hi
    have := h2 (k + i) (by omega) (by omega)
    rw [List.getD_eq_getElem?_getD, List.getElem?_eq_getElem (by omega)] at this
    rw [List.getElem_drop]
    exact hs _ _ (by simpa using this)
  have htk : ∀ y ∈ l.take k, ah x y = false := fun y hy => by
    obtain ⟨i, hi, rfl⟩ := List.getElem_of_mem hy
    rw [List.length_take] at hi
    rw [List.getElem_take]
    have h4 := h3 (by omega)
    rw [List.getD_eq_getElem?_getD, List.getElem?_eq_getElem (by omega)] at h4
    simp only [Option.getD_some] at h4
    rcases Nat.lt_or_eq_of_le (show i ≤ k - 1 by omega) with h | h
    · have := List.pairwise_iff_getElem.1 hp i (k - 1) (by omega) (by omega) h
      exact ht _ _ _ (hl _ (List.getElem_mem _)) (hl _ (List.getElem_mem _)) hx this h4
    · subst h; exact h4
  rw [List.append_assoc]
  refine List.pairwise_append.2 ⟨hp.sublist (List.take_sublist _ _), ?_, fun y hy z hz => ?_⟩
  · exact List.pairwise_cons.2 ⟨hd, hp.sublist (List.drop_sublist _ _)⟩
  · rcases List.mem_cons.1 hz with rfl | hz
    · exact htk y hy
    · have := List.pairwise_append.1 (show (l.take k ++ l.drop k).Pairwise _ by rw [List.take_append_drop]; exact hp)
      exact this.2.2 y hy z hz
theorem sortE_sorted {ah : Nat → Nat → Bool} {N : Nat} (ht : ∀ i j k, i < N → j < N → k < N → ah j i = false → ah k j = false → ah k i = false) (hs : ∀ i k, ah i k = true → ah k i = false) : ∀ n, n ≤ N → (sortE ah n).Pairwise (fun i k => ah k i = false)
  | 0, _ => List.Pairwise.nil
  | n + 1, h => insE_sorted (by omega) ht hs (fun y hy => by have := sortE_mem.1 hy; omega) (sortE_sorted ht hs n (by omega))
-- both rules
def ahW (t w : Nat → Int) (i k : Nat) : Bool := decide (w k * t i < w i * t k)
def ahD (d : Nat → Int) (i k : Nat) : Bool := decide (d i < d k)
theorem ahD_trans {d : Nat → Int} {i j k : Nat} (h : ahD d j i = false) (g : ahD d k j = false) : ahD d k i = false := by
  simp only [ahD, decide_eq_false_iff_not] at h g ⊢; omega
theorem ahW_trans {t w : Nat → Int} {i j k : Nat} (hi : 0 ≤ t i) (hj : 0 < t j) (hk : 0 ≤ t k) (h : ahW t w j i = false) (g : ahW t w k j = false) : ahW t w k i = false := by
  simp only [ahW, decide_eq_false_iff_not, Int.not_lt] at h g ⊢
  have h1 := Int.mul_le_mul_of_nonneg_right h hk
  have h2 := Int.mul_le_mul_of_nonneg_right g hi
  have h3 : (w k * t i) * t j ≤ (w i * t k) * t j := by
    have e1 : w k * t i * t j = w k * t j * t i := by rw [Int.mul_assoc, Int.mul_comm (t i), ← Int.mul_assoc]
    have e2 : w i * t k * t j = w i * t j * t k := by rw [Int.mul_assoc, Int.mul_comm (t k), ← Int.mul_assoc]
    have e3 : w j * t i * t k = w j * t k * t i := by rw [Int.mul_assoc, Int.mul_comm (t i), ← Int.mul_assoc]
    rw [e1, e2]; omega
  exact Int.le_of_mul_le_mul_right h3 hj
theorem ahW_asymm {t w : Nat → Int} {i k : Nat} (h : ahW t w i k = true) : ahW t w k i = false := by
  simp only [ahW, decide_eq_true_eq, decide_eq_false_iff_not] at h ⊢; omega
theorem ahD_asymm {d : Nat → Int} {i k : Nat} (h : ahD d i k = true) : ahD d k i = false := by
  simp only [ahD, decide_eq_true_eq, decide_eq_false_iff_not] at h ⊢; omega
theorem sortW {t w : Nat → Int} {n : Nat} (ht : ∀ x, x < n → 1 ≤ t x) : (sortE (ahW t w) n).Pairwise (fun x y => w y * t x ≤ w x * t y) := by
  refine (sortE_sorted (ah := ahW t w) (N := n) (fun i j k hi hj hk => ahW_trans (t := t) (w := w) (i := i) (j := j) (k := k) (by have := ht i hi; omega) (by have := ht j hj; omega) (by have := ht k hk; omega)) (fun i k => ahW_asymm) n (Nat.le_refl _)).imp (fun {x y} h => ?_)
  simp only [ahW, decide_eq_false_iff_not, Int.not_lt] at h; exact h
theorem sortD (d : Nat → Int) (n : Nat) : (sortE (ahD d) n).Pairwise (fun x y => d x ≤ d y) := by
  refine (sortE_sorted (ah := ahD d) (N := n) (fun i j k _ _ _ => ahD_trans) (fun i k => ahD_asymm) n (Nat.le_refl _)).imp (fun {x y} h => ?_)
  simp only [ahD, decide_eq_false_iff_not, Int.not_lt] at h; exact h
end Go.Proofs.Ythmifadnfaajbad
