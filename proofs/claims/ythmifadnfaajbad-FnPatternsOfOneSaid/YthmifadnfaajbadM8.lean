import Derived.Test.YthmifadnfaajbadRows
import Derived.Test.YthmifadnfaajbadM0
import Derived.Test.YthmifadnfaajbadM1
import Derived.Test.YthmifadnfaajbadM6
import Derived.Test.YthmifadnfaajbadM7
import Derived.WalkKit
import Derived.ProofKit
import Derived.WalkSpells
import Derived.WalkLawsBesides
import Derived.Lib.Hide
import Derived.LoopTactic
import Derived.Outline
namespace Go.Proofs.Ythmifadnfaajbad

-- plain: what is cut from each roll, and its loads
section
variable {α : Type} {f : α → Int}
def sumI (l : List Int) : Int := wsum (lenT l) (fun _ => true) l.length
theorem wsum_all1 {f g : Nat → Int} (n : Nat) (h : ∀ i, i < n → f i = g i) : wsum f (fun _ => true) n = wsum g (fun _ => true) n := wsum_congr n (fun _ _ => rfl) (fun i hi _ => h i hi)
theorem sumI_snoc (l : List Int) (y : Int) : sumI (l ++ [y]) = sumI l + y := by
  unfold sumI
  rw [List.length_append, List.length_singleton, wsum, if_pos rfl, wsum_all1 (g := lenT l) l.length (fun i hi => by unfold lenT; rw [getD_snocI, if_pos hi])]
  unfold lenT
  rw [getD_snocI, if_neg (by omega), if_pos rfl]
theorem sumI_pre (l : List Int) (j : Nat) (hj : j < l.length) : wsum (lenT l) (fun _ => true) (j + 1) = wsum (lenT l) (fun _ => true) j + l.getD j 0 := by
  rw [wsum, if_pos rfl]; rfl
theorem sumI_bd {l : List Int} (h : ∀ x ∈ l, 0 ≤ x ∧ x ≤ 20) : ∀ j : Nat, j ≤ l.length → 0 ≤ wsum (lenT l) (fun _ => true) j ∧ wsum (lenT l) (fun _ => true) j ≤ 20 * (j : Int)
  | 0, _ => by simp [wsum]
  | j + 1, hj => by
    have ih := sumI_bd h j (by omega)
    have := h (l.getD j 0) (by rw [List.getD_eq_getElem?_getD, List.getElem?_eq_getElem (by omega)]; exact List.getElem_mem _)
    rw [sumI_pre l j (by omega)]
    push_cast; omega
def putRow (rows : List (List α)) (k : Nat) (y : α) : List (List α) := if k = rows.length then rows ++ [[y]] else rows.set k (rows.getD k [] ++ [y])
def loadsOf (f : α → Int) (rows : List (List α)) : List Int := rows.map (fun row => sumI (row.map f))
theorem loads_len (rows : List (List α)) : (loadsOf f rows).length = rows.length := by simp [loadsOf]
theorem loads_get (rows : List (List α)) (k : Nat) : (loadsOf f rows).getD k 0 = sumI ((rows.getD k []).map f) := by
  unfold loadsOf
  rw [List.getD_eq_getElem?_getD, List.getD_eq_getElem?_getD, List.getElem?_map]
  cases rows[k]? <;> rfl
theorem loads_put {rows : List (List α)} {k : Nat} (y : α) : loadsOf f (putRow rows k y) = putR (loadsOf f rows) k (f y) := by
  unfold putRow putR
  rw [loads_len]
  by_cases e : k = rows.length
  · rw [if_pos e, if_pos e]
    unfold loadsOf
    rw [List.map_append]
    simp [sumI, wsum, lenT]
  · rw [if_neg e, if_neg e, loads_get]
    unfold loadsOf
    rw [List.map_set, List.map_append, List.map_singleton, sumI_snoc]
structure RowsOk (f : α → Int) (rows : List (List α)) (n : Nat) : Prop where
  len : rows.length ≤ n
  row : ∀ i, (rows.getD i []).length ≤ n
  val : ∀ i, ∀ x ∈ rows.getD i [], 0 ≤ f x ∧ f x ≤ 20
theorem RowsOk.nil : RowsOk f ([] : List (List α)) 0 := ⟨Nat.le_refl _, fun i => by simp, fun i x hx => by simp at hx⟩
theorem putRow_get {rows : List (List α)} {k : Nat} {y : α} (hk : k ≤ rows.length) (i : Nat) : (putRow rows k y).getD i [] = if i = k then rows.getD k [] ++ [y] else rows.getD i [] := by
  unfold putRow
  by_cases e : k = rows.length
  · rw [if_pos e, List.getD_eq_getElem?_getD]
    by_cases h : i < rows.length
    · rw [if_neg (by omega), List.getElem?_append_left h, List.getD_eq_getElem?_getD]
    · rw [List.getElem?_append_right (by omega)]
      by_cases h2 : i = k
      · rw [if_pos h2, h2, e, Nat.sub_self, List.getD_eq_getElem?_getD, List.getElem?_eq_none (Nat.le_refl _)]; rfl
      · rw [if_neg h2, List.getElem?_eq_none (by simp; omega), List.getD_eq_getElem?_getD, List.getElem?_eq_none (by omega)]
  · rw [if_neg e, List.getD_eq_getElem?_getD, List.getElem?_set]
    by_cases h2 : k = i
    · subst h2; rw [if_pos rfl, if_pos rfl, if_pos (by omega)]; rfl
    · rw [if_neg h2, if_neg (fun e => h2 e.symm), List.getD_eq_getElem?_getD]
theorem putRow_len (rows : List (List α)) (k : Nat) (y : α) : (putRow rows k y).length = if k = rows.length then rows.length + 1 else rows.length := by
  unfold putRow; split <;> simp
theorem RowsOk.put {rows : List (List α)} {n k : Nat} {y : α} (h : RowsOk f rows n) (hk : k ≤ rows.length) (hy : 0 ≤ f y ∧ f y ≤ 20) : RowsOk f (putRow rows k y) (n + 1) := by
  have hl := h.len
  refine ⟨by rw [putRow_len]; split <;> omega, fun i => ?_, fun i x hx => ?_⟩
  · rw [putRow_get hk]
    split
    · have := h.row k
      rw [List.length_append, List.length_singleton]; omega
    · have := h.row i; omega
  · rw [putRow_get hk] at hx
    split at hx
    · rcases List.mem_append.1 hx with g | g
      · exact h.val k x g
      · rw [List.mem_singleton.1 g]; exact hy
    · exact h.val i x hx
/-- the last cut of a roll put back, and the roll, if nothing else is cut from it -/
theorem putRow_back {rows : List (List α)} {k : Nat} {y : α} (hk : k ≤ rows.length) (hne : k < rows.length → rows.getD k [] ≠ []) :
    (k = rows.length → (putRow rows k y).take k = rows ∧ ((putRow rows k y).getD k []).length = 1) ∧ (k < rows.length → (putRow rows k y).set k (((putRow rows k y).getD k []).take ((rows.getD k []).length)) = rows ∧ ((putRow rows k y).getD k []).length = (rows.getD k []).length + 1 ∧ 0 < (rows.getD k []).length) := by
  refine ⟨fun e => ⟨?_, ?_⟩, fun h => ⟨?_, ?_, ?_⟩⟩
  · unfold putRow
    rw [if_pos e, e, List.take_left]
  · rw [putRow_get hk, if_pos rfl, e, List.getD_eq_getElem?_getD, List.getElem?_eq_none (Nat.le_refl _)]; rfl
  · rw [putRow_get hk, if_pos rfl, List.take_left]
    unfold putRow
    rw [if_neg (by omega), List.set_set]
    rw [List.getD_eq_getElem?_getD, List.getElem?_eq_getElem h]
    exact List.set_getElem_self h
  · rw [putRow_get hk, if_pos rfl]; simp
  · have := hne h
    cases e : rows.getD k [] with
    | nil => exact absurd e this
    | cons a b => simp
def NoEmpty (rows : List (List α)) : Prop := ∀ k, k < rows.length → rows.getD k [] ≠ []
theorem NoEmpty.put {rows : List (List α)} {k : Nat} {y : α} (h : NoEmpty rows) (hk : k ≤ rows.length) : NoEmpty (putRow rows k y) := fun i hi => by
  rw [putRow_get hk]
  rw [putRow_len] at hi
  by_cases e : i = k
  · rw [if_pos e]; simp
  · rw [if_neg e]
    refine h i ?_
    split at hi <;> omega
end
end Go.Proofs.Ythmifadnfaajbad
namespace Go.Proofs.Ythmifadnfaajbad

-- chapter 11, plain: patterns, the greater numbers first
section
variable {β γ : Type}
/-- what k rounds give, from N downwards -/
def catD (f : Nat → List β) (N : Nat) : Nat → List β
  | 0 => []
  | k + 1 => catD f N k ++ f (N - k)
theorem catD_filter (f : Nat → List β) (p : β → Bool) (N : Nat) : ∀ k, (catD f N k).filter p = catD (fun n => (f n).filter p) N k
  | 0 => rfl
  | k + 1 => by rw [catD, catD, List.filter_append, catD_filter f p N k]
theorem catD_map (f : Nat → List β) (g : β → γ) (N : Nat) : ∀ k, (catD f N k).map g = catD (fun n => (f n).map g) N k
  | 0 => rfl
  | k + 1 => by rw [catD, catD, List.map_append, catD_map f g N k]
theorem catD_congr {f g : Nat → List β} {N : Nat} : ∀ k, (∀ j, j < k → f (N - j) = g (N - j)) → catD f N k = catD g N k
  | 0, _ => rfl
  | k + 1, h => by rw [catD, catD, catD_congr k (fun j hj => h j (by omega)), h k (by omega)]
theorem catD_mem {f : Nat → List β} {N : Nat} {x : β} : ∀ k, x ∈ catD f N k ↔ ∃ j, j < k ∧ x ∈ f (N - j)
  | 0 => by simp [catD]
  | k + 1 => by
    rw [catD, List.mem_append, catD_mem k]
    constructor
    · rintro (⟨j, hj, h⟩ | h)
      · exact ⟨j, by omega, h⟩
      · exact ⟨k, by omega, h⟩
    · rintro ⟨j, hj, h⟩
      by_cases e : j = k
      · subst e; exact .inr h
      · exact .inl ⟨j, by omega, h⟩
theorem catD_len {f : Nat → List β} {N m : Nat} (h : ∀ n, (f n).length ≤ m) : ∀ k, (catD f N k).length ≤ m * k
  | 0 => Nat.zero_le _
  | k + 1 => by
    have ih := catD_len (N := N) h k
    have := h (N - k)
    rw [catD, List.length_append, Nat.mul_succ]; omega
theorem catD_nodup {f : Nat → List β} {N : Nat} (h : ∀ n, (f n).Nodup) (hd : ∀ n m x, n ≤ N → m ≤ N → n ≠ m → x ∈ f n → x ∉ f m) : ∀ k, k ≤ N + 1 → (catD f N k).Nodup
  | 0, _ => List.nodup_nil
  | k + 1, hk => by
    rw [catD, List.nodup_append]
    refine ⟨catD_nodup h hd k (by omega), h _, fun x hx y hy e => ?_⟩
    subst e
    obtain ⟨j, hj, h2⟩ := (catD_mem k).1 hx
    exact hd (N - j) (N - k) x (by omega) (by omega) (by omega) h2 hy
theorem catD_head {f : Nat → List β} {N : Nat} {x : β} {l : List β} (h : f N = x :: l) : ∀ k, 0 < k → ∃ r, catD f N k = x :: r
  | 1, _ => ⟨l, by rw [catD, catD, Nat.sub_zero, h]; rfl⟩
  | k + 2, _ => by
    obtain ⟨r, hr⟩ := catD_head h (k + 1) (by omega)
    exact ⟨r ++ f (N - (k + 1)), by rw [catD, hr]; rfl⟩
end
/-- all numbers of the sizes that fit -/
def patS : List Int → Int → List (List Int)
  | [], _ => [[]]
  | s :: ss, R => catD (fun n => (patS ss (R - n * s)).map (fun c => (n : Int) :: c)) (R / s).toNat ((R / s).toNat + 1)
/-- what is left -/
def leftA : List Int → Int → List Int → Int
  | s :: ss, R, c :: cs => leftA ss (R - c * s) cs
  | _, R, _ => R
def lessAll (ss : List Int) (L : Int) : Bool := ss.all (fun s => decide (L < s))
def sizesM (ss : List Int) (R : Int) : Bool := cutsM ss R && (decide (1 ≤ ss.length ∧ ss.length ≤ 3) && decide ss.Nodup)
def patRes (ss : List Int) (R : Int) : List (List Int) := if sizesM ss R then (patS ss R).filter (fun c => lessAll ss (leftA ss R c)) else []
theorem patS_mem : ∀ (ss : List Int) (R : Int) (c : List Int), 0 ≤ R → (∀ s ∈ ss, 1 ≤ s) → c ∈ patS ss R → c.length = ss.length ∧ (∀ x ∈ c, 0 ≤ x ∧ x ≤ R) ∧ 0 ≤ leftA ss R c
  | [], R, c, hR, _, h => by
    simp only [patS, List.mem_singleton] at h
    subst h
    exact ⟨rfl, fun x hx => (by cases hx), hR⟩
  | s :: ss, R, c, hR, hs, h => by
    rw [patS, catD_mem] at h
    obtain ⟨j, hj, h⟩ := h
    obtain ⟨d, hd, rfl⟩ := List.mem_map.1 h
    have h1 := hs s (by simp)
    have hq0 : 0 ≤ R / s := Int.ediv_nonneg hR (by omega)
    have hqs : R / s * s ≤ R := Int.ediv_mul_le R (by omega)
    obtain ⟨n, hn⟩ : ∃ n, (R / s).toNat - j = n := ⟨_, rfl⟩
    rw [hn] at hd ⊢
    have hnq : (n : Int) ≤ R / s := by omega
    have hns : (n : Int) * s ≤ R := Int.le_trans (Int.mul_le_mul_of_nonneg_right hnq (by omega)) hqs
    have hn1 : (n : Int) ≤ (n : Int) * s := by
      have := Int.mul_le_mul_of_nonneg_left h1 (show (0 : Int) ≤ (n : Int) by omega)
      omega
    have hn0 : 0 ≤ (n : Int) * s := by omega
    obtain ⟨i1, i2, i3⟩ := patS_mem ss (R - n * s) d (by omega) (fun s' h' => hs s' (by simp [h'])) hd
    refine ⟨by simp [i1], fun x hx => ?_, ?_⟩
    · rcases List.mem_cons.1 hx with rfl | hx
      · omega
      · have := i2 x hx; omega
    · rw [leftA]; exact i3
theorem patS_nodup : ∀ (ss : List Int) (R : Int), (patS ss R).Nodup
  | [], R => by simp [patS]
  | s :: ss, R => by
    rw [patS]
    refine catD_nodup (fun n => ?_) (fun n m x _ _ hnm hx hy => ?_) _ (Nat.le_refl _)
    · refine List.Pairwise.map _ (fun a b hab e => hab ?_) (patS_nodup ss _)
      injection e
    · obtain ⟨d, _, rfl⟩ := List.mem_map.1 hx
      obtain ⟨e, _, he⟩ := List.mem_map.1 hy
      injection he with h1 _
      omega
/-- the greatest number of each, one after the other -/
def greedy : List Int → Int → List Int
  | [], _ => []
  | s :: ss, R => (((R / s).toNat : Nat) : Int) :: greedy ss (R - (R / s).toNat * s)
theorem patS_head : ∀ (ss : List Int) (R : Int), ∃ r, patS ss R = greedy ss R :: r
  | [], R => ⟨[], rfl⟩
  | s :: ss, R => by
    obtain ⟨r, hr⟩ := patS_head ss (R - (R / s).toNat * s)
    rw [patS]
    exact catD_head (l := r.map (fun c => ((((R / s).toNat : Nat) : Int)) :: c)) (by rw [hr]; rfl) _ (by omega)
theorem greedy_full : ∀ (ss : List Int) (R : Int), 0 ≤ R → (∀ s ∈ ss, 1 ≤ s) → 0 ≤ leftA ss R (greedy ss R) ∧ leftA ss R (greedy ss R) ≤ R ∧ ∀ s ∈ ss, leftA ss R (greedy ss R) < s
  | [], R, hR, _ => ⟨hR, Int.le_refl _, fun s h => by cases h⟩
  | s :: ss, R, hR, hs => by
    have h1 := hs s (by simp)
    have hq0 : 0 ≤ R / s := Int.ediv_nonneg hR (by omega)
    have ht : (((R / s).toNat : Nat) : Int) = R / s := by omega
    have he := Int.emod_add_mul_ediv R s
    have hm0 := Int.emod_nonneg R (show s ≠ 0 by omega)
    have hm1 := Int.emod_lt_of_pos R (show 0 < s by omega)
    have hr : R - (((R / s).toNat : Nat) : Int) * s = R % s := by rw [ht, Int.mul_comm]; omega
    obtain ⟨i1, i2, i3⟩ := greedy_full ss (R % s) hm0 (fun s' h' => hs s' (by simp [h']))
    rw [greedy, leftA, hr]
    have hmR : R % s ≤ R := by
      have := Int.mul_nonneg (show 0 ≤ s by omega) hq0
      omega
    refine ⟨i1, by omega, fun s' h' => ?_⟩
    rcases List.mem_cons.1 h' with rfl | h'
    · omega
    · exact i3 s' h'
theorem patS_len : ∀ (ss : List Int) (R : Int), R ≤ 20 → (∀ s ∈ ss, 1 ≤ s) → (patS ss R).length ≤ 21 ^ ss.length
  | [], R, _, _ => by simp [patS]
  | s :: ss, R, hR, hs => by
    have h1 := hs s (by simp)
    have hle : (R / s).toNat ≤ 20 := by
      rcases Int.lt_or_le R 0 with g | g
      · have := Int.ediv_neg_of_neg_of_pos g (show 0 < s by omega); omega
      · have := Int.ediv_le_self s g; omega
    have hbd : ∀ n : Nat, ((patS ss (R - n * s)).map (fun c => (n : Int) :: c)).length ≤ 21 ^ ss.length := fun n => by
      rw [List.length_map]
      have := Int.mul_nonneg (show (0 : Int) ≤ (n : Int) by omega) (show 0 ≤ s by omega)
      exact patS_len ss _ (by omega) (fun s' h' => hs s' (by simp [h']))
    rw [patS, List.length_cons, Nat.pow_succ]
    refine Nat.le_trans (catD_len (m := 21 ^ ss.length) hbd _) (Nat.mul_le_mul_left _ (by omega))
theorem sizes_get {ss : List Int} {R : Int} (h : sizesM ss R = true) : cutsM ss R = true ∧ (1 ≤ ss.length ∧ ss.length ≤ 3) ∧ ss.Nodup ∧ (∀ s ∈ ss, 1 ≤ s ∧ s ≤ R) ∧ 1 ≤ R ∧ R ≤ 20 := by
  unfold sizesM at h
  simp only [Bool.and_eq_true, decide_eq_true_eq] at h
  obtain ⟨a, b, _, d⟩ := cuts_get h.1
  refine ⟨h.1, h.2.1, h.2.2, fun s hs => ?_, a, b⟩
  obtain ⟨i, hi⟩ := List.mem_iff_getElem?.1 hs
  have := d i (List.getElem?_eq_some_iff.1 hi).1
  unfold lenT at this
  rwa [getD_of hi] at this
theorem patRes_yes {ss : List Int} {R : Int} (h : sizesM ss R = true) : patRes ss R = (patS ss R).filter (fun c => lessAll ss (leftA ss R c)) := by unfold patRes; rw [if_pos h]
theorem patRes_no {ss : List Int} {R : Int} (h : sizesM ss R = false) : patRes ss R = [] := by unfold patRes; rw [h]; rfl
theorem patRes_len (ss : List Int) (R : Int) : (patRes ss R).length ≤ 9261 := by
  cases h : sizesM ss R
  · rw [patRes_no h]; simp
  · obtain ⟨_, h3, _, h1, h4, h5⟩ := sizes_get h
    rw [patRes_yes h]
    have a := patS_len ss R h5 (fun s hs => (h1 s hs).1)
    have b : 21 ^ ss.length ≤ 21 ^ 3 := Nat.pow_le_pow_right (by omega) h3.2
    have c := List.length_filter_le (fun c => lessAll ss (leftA ss R c)) (patS ss R)
    have d : (21 : Nat) ^ 3 = 9261 := by decide
    omega
theorem patRes_mem {ss : List Int} {R : Int} {c : List Int} (h : c ∈ patRes ss R) : sizesM ss R = true ∧ c.length = ss.length ∧ (∀ x ∈ c, 0 ≤ x ∧ x ≤ R) ∧ 0 ≤ leftA ss R c ∧ ∀ s ∈ ss, leftA ss R c < s := by
  cases hv : sizesM ss R
  · rw [patRes_no hv] at h; cases h
  · obtain ⟨_, h3, _, h1, h4, h5⟩ := sizes_get hv
    rw [patRes_yes hv, List.mem_filter] at h
    obtain ⟨a, b, d⟩ := patS_mem ss R c (by omega) (fun s hs => (h1 s hs).1) h.1
    refine ⟨rfl, a, b, d, fun s hs => ?_⟩
    have := List.all_eq_true.1 h.2 s hs
    exact of_decide_eq_true this
theorem patRes_nodup (ss : List Int) (R : Int) : (patRes ss R).Nodup := by
  unfold patRes
  split
  · exact (patS_nodup ss R).filter _
  · exact List.nodup_nil
theorem patRes_head {ss : List Int} {R : Int} (h : sizesM ss R = true) : ∃ r, patRes ss R = greedy ss R :: r := by
  obtain ⟨_, h3, _, h1, h4, h5⟩ := sizes_get h
  obtain ⟨r, hr⟩ := patS_head ss R
  rw [patRes_yes h, hr, List.filter_cons_of_pos]
  · exact ⟨_, rfl⟩
  · unfold lessAll
    rw [List.all_eq_true]
    exact fun s hs => decide_eq_true ((greedy_full ss R (by omega) (fun s hs => (h1 s hs).1)).2.2 s hs)
/-- by the code: a row made longer -/
def codeP (ss : List Int) (m : Int) : Nat → List Int → Int → List (List Int)
  | 0, row, left => if m ≤ left then [] else [row]
  | d + 1, row, left => catD (fun n => codeP ss m d (row ++ [(n : Int)]) (left - n * ss.getD row.length 0)) (left / ss.getD row.length 0).toNat ((left / ss.getD row.length 0).toNat + 1)
theorem codeP_is (ss : List Int) (m : Int) : ∀ (d : Nat) (row : List Int) (left : Int), row.length + d = ss.length → codeP ss m d row left = ((patS (ss.drop row.length) left).filter (fun c => decide (leftA (ss.drop row.length) left c < m))).map (fun c => row ++ c)
  | 0, row, left, h => by
    rw [List.drop_eq_nil_of_le (by omega), codeP]
    show _ = (([[]] : List (List Int)).filter (fun c => decide (leftA [] left c < m))).map (fun c => row ++ c)
    by_cases g : m ≤ left
    · rw [if_pos g, List.filter_cons_of_neg (by rw [show leftA [] left [] = left from rfl, decide_eq_true_iff]; omega)]; rfl
    · rw [if_neg g, List.filter_cons_of_pos (by rw [show leftA [] left [] = left from rfl, decide_eq_true_iff]; omega)]; simp
  | d + 1, row, left, h => by
    have hlt : row.length < ss.length := by omega
    have hg : ss.getD row.length 0 = ss[row.length] := by rw [List.getD_eq_getElem?_getD, List.getElem?_eq_getElem hlt]; rfl
    rw [List.drop_eq_getElem_cons hlt, codeP, hg, patS, catD_filter, catD_map]
    refine catD_congr _ fun j _ => ?_
    rw [codeP_is ss m d _ _ (by simp; omega), List.length_append, List.length_singleton, List.filter_map, List.map_map]
    congr 1
    funext c
    simp
theorem code_patRes {ss : List Int} {R m : Int} (h : sizesM ss R = true) (hm : ∀ L : Int, L < m ↔ ∀ s ∈ ss, L < s) : codeP ss m ss.length [] R = patRes ss R := by
  rw [codeP_is ss m ss.length [] R (by simp), patRes_yes h]
  show (List.filter (fun c => decide (leftA (ss.drop 0) R c < m)) (patS (ss.drop 0) R)).map (fun c => [] ++ c) = _
  rw [List.drop_zero, List.map_congr_left (g := id) (fun c _ => List.nil_append c), List.map_id]
  refine List.filter_congr fun c _ => ?_
  unfold lessAll
  rw [Bool.eq_iff_iff, decide_eq_true_iff, List.all_eq_true, hm]
  simp
end Go.Proofs.Ythmifadnfaajbad
namespace Go.Proofs.Ythmifadnfaajbad
open Go.RowKit Go.WideShapes

/-- append of one int to a list of the call's own -/
theorem wpApp1 {ops : Array Oper} {rest : List Oper} {o : Oper} {a : Act} {Q : Exit → Act → World → Prop} {wo : World} (hgd : o.guard = none) (s x : Operand)
    (ho : o.op = .call { callee := .builtin .append, args := #[s, x], argTypes := #[23, 23] })
    (base k cp : Nat) (ax : Option Addr) (xs : List Int) (v : Int) (hs : a.eval s = .slice ax k cp)
    (hown : wo.ownsRow base 3 1 (.slice ax k cp) k (xs.map (.int .i64))) (hx : a.eval x = .slice (some ⟨wo.heap.size, 0, none⟩) 1 1)
    (hbase : base ≤ wo.heap.size) (hk : k ≤ 1048576)
    (h : ∀ (a6 : Option Addr) (c6 : Nat) (w' : World), w'.ownsRow base 3 1 (.slice a6 (k + 1) c6) (k + 1) (xs.map (.int .i64) ++ [.int .i64 v]) → k + 1 ≤ c6 → wo.grownBy w' (Value.slice ax k cp).ownBlock →
      wpList Try.prog ops Q rest (a.put o.dst (.slice a6 (k + 1) c6)) w') :
    wpList Try.prog ops Q (o :: rest) a (wo.alloc (.cells #[.int .i64 v] 3)) := by
  obtain ⟨i0, hi, hz0, hz1, hz2⟩ := info_parts Try.infoIntO
  refine wpList_append_own _ hgd s x 23 ho base 3 i0 (.int .i64 0) 1 8 Try.underlying23 hi hz0 hz1 hz2 rfl (by decide) _ k _ hs (hown.alloc _) ⟨wo.heap.size, 0, none⟩ 1 1 [.int .i64 v] hx rfl (one_new _ _ _) (one_cell_int _ _) (by unfold maxLen; omega) (by omega) (by simp; omega) ?_
  intro v' w6 hown6 hgrow _
  obtain ⟨a6, c6, rfl, hc⟩ := own_slice hown6
  exact h a6 c6 w6 hown6 hc (grown_comp (World.grownBy_alloc wo _ _) hgrow)
/-- append of a list to a list of the call's own -/
theorem wpAppN {ops : Array Oper} {rest : List Oper} {o : Oper} {a : Act} {Q : Exit → Act → World → Prop} {wo : World} (hgd : o.guard = none) (s x : Operand)
    (ho : o.op = .call { callee := .builtin .append, args := #[s, x], argTypes := #[23, 23] })
    (base k cp : Nat) (ax : Option Addr) (xs : List Int) (S : Nat → Prop) (b off m c : Nat) (ys : List Int) (hs : a.eval s = .slice ax k cp)
    (hown : wo.ownsRow base 3 1 (.slice ax k cp) k (xs.map (.int .i64))) (hx : a.eval x = .slice (some ⟨b, off, none⟩) m c) (hy : IntsAt wo S (some ⟨b, off, none⟩) m ys)
    (hbase : base ≤ wo.heap.size) (hk : k + m ≤ 1048576)
    (h : ∀ (a6 : Option Addr) (c6 : Nat) (w' : World), w'.ownsRow base 3 1 (.slice a6 (k + m) c6) (k + m) (xs.map (.int .i64) ++ ys.map (.int .i64)) → k + m ≤ c6 → wo.grownBy w' (Value.slice ax k cp).ownBlock →
      wpList Try.prog ops Q rest (a.put o.dst (.slice a6 (k + m) c6)) w') :
    wpList Try.prog ops Q (o :: rest) a wo := by
  obtain ⟨i0, hi, hz0, hz1, hz2⟩ := info_parts Try.infoIntO
  refine wpList_append_own _ hgd s x 23 ho base 3 i0 (.int .i64 0) 1 8 Try.underlying23 hi hz0 hz1 hz2 rfl (by decide) _ k _ hs hown ⟨b, off, none⟩ m c (ys.map (.int .i64)) hx (by simp [hy.lenEq]) ?_ ?_ (by unfold maxLen; omega) (by omega) hbase ?_
  · intro j u hj
    rw [List.getElem?_map] at hj
    cases hq : ys[j]? with
    | none => rw [hq] at hj; cases hj
    | some z =>
      rw [hq] at hj
      simp only [Option.map_some, Option.some.injEq] at hj
      have hlt : j < ys.length := (List.getElem?_eq_some_iff.1 hq).1
      obtain ⟨b', off', e, _, hc⟩ := hy.cells (by have := hy.lenEq; omega)
      cases e
      rw [add_plain, hc _ _ hq, ← hj]
  · intro u hu
    obtain ⟨x, _, rfl⟩ := List.mem_map.1 hu
    rfl
  intro v' w6 hown6 hgrow _
  obtain ⟨a6, c6, rfl, hc⟩ := own_slice hown6
  exact h a6 c6 w6 hown6 hc hgrow
theorem clone_any (S : Nat → Prop) (b off len cap : Nat) (xs : List Int) (w : World) (h : IntsAt w S (some ⟨b, off, none⟩) len xs) (hS : ∀ b, S b → b < w.heap.size) (hl : len ≤ 1048576) :
    Calls Try.prog 23 #[.slice (some ⟨b, off, none⟩) len cap] w (NewOwn w xs) := by
  have hx := h.to (w' := w.alloc (.cells #[] 3)) (S' := S) (fun k hk => ⟨hk, Below.heap_alloc _ _ _ (by have := hS k hk; omega)⟩)
  have HX := Lib.hid hx
  have q22 : ∀ (w : World) (a : Option Addr) (n c n' c' : Nat), (binOp .eql 23 (.slice a n c) (.slice none n' c')).run Try.prog w = .ok (.bool a.isNone) w := fun w a n c n' c' => Lib.run_eql_slice_nil w _ _ a n c n' c' Try.underlying23
  clear hx
  go_enter Try.func23, Try.ntmps23
  go_wp2_with (at_builtin; refine wpAppN rfl _ _ rfl w.heap.size 0 _ _ [] S b off len cap xs rfl (World.ownsRow_made w #[] 0 (Nat.le_refl _) (Nat.zero_le _) rfl) rfl HX.out (by simp) (by omega) ?_)
  intro a6 c6 w6 hown hc6 hgr
  have HO := Lib.hid hown
  have HG := Lib.hid hgr
  clear hown hgr
  go_wp2
  go_ret
  exact ⟨a6, len, c6, rfl, by omega, by simpa using HO.out, ((Below.refl _ w).alloc (Nat.le_refl _) _).grown HG.out (by simp) (by intro k hk; simp [Value.ownBlock] at hk; omega)⟩
theorem own_block {w : World} {B e s n : Nat} {v : Value} {xs : List Value} (h : w.ownsRow B e s v n xs) : ∀ k, v.ownBlock = some k → B ≤ k := fun k e => (h.lt k e).1
theorem own_snoc {w : World} {B n : Nat} {u : Value} {xs : List Int} {x : Int} (h : w.ownsRow B 3 1 u n (xs.map (.int .i64) ++ [.int .i64 x])) : w.ownsRow B 3 1 u n ((xs ++ [x]).map (.int .i64)) := by
  rw [List.map_append]; exact h
end Go.Proofs.Ythmifadnfaajbad
namespace Go.Proofs.Ythmifadnfaajbad
open Go.RowKit

theorem inRange_any (n lo hi : Int) (w : World) :
    Calls Try.prog 24 #[.int .i64 n, .int .i64 lo, .int .i64 hi] w fun e w' => e = .returned (.bool (inB lo hi n)) ∧ w = w' := by
  by_cases h1 : lo ≤ n
  · by_cases h2 : n ≤ hi
    · go_enter Try.func24, Try.ntmps24
      go_wp2
      go_ret
      exact ⟨ret_bool (inB_true h1 h2).symm, rfl⟩
    · go_enter Try.func24, Try.ntmps24
      go_wp2
      go_ret
      exact ⟨ret_bool (inB_hi (by omega)).symm, rfl⟩
  · go_enter Try.func24, Try.ntmps24
    go_wp2
    go_ret
    exact ⟨ret_bool (inB_lo (by omega)).symm, rfl⟩
end Go.Proofs.Ythmifadnfaajbad
namespace Go.Proofs.Ythmifadnfaajbad
open Go.RowKit

end Go.Proofs.Ythmifadnfaajbad
