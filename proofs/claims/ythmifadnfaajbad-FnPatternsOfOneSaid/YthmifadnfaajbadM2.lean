import Derived.Test.YthmifadnfaajbadM0
namespace Go.Proofs.Ythmifadnfaajbad
open Go.RowKit

/-- the slice (a, len) of slices of slices of ints reads as shop, in blocks of S -/
structure ShopAt (w : World) (S : Nat → Prop) (a : Option Addr) (len : Nat) (shop : List (List (List Int))) : Prop where
  lenEq : shop.length = len
  small : len ≤ 9223372036854775807
  cells : 0 < len → ∃ b off, a = some ⟨b, off, none⟩ ∧ S b ∧ ∀ i job, shop[i]? = some job → ∃ a' l c, w.cell? ⟨b, off + i, none⟩ = some (.slice a' l c) ∧ l ≤ c ∧ RowsAt w S a' l job

theorem ShopAt.get {w : World} {S : Nat → Prop} {a : Option Addr} {len : Nat} {shop : List (List (List Int))} (h : ShopAt w S a len shop) {k : Nat} (hk : k < len) :
    ∃ b off job a' l c, a = some ⟨b, off, none⟩ ∧ shop[k]? = some job ∧ w.cell? ⟨b, off + k, none⟩ = some (.slice a' l c) ∧ l ≤ c ∧ RowsAt w S a' l job := by
  obtain ⟨b, off, ha, _, hc⟩ := h.cells (by omega)
  have hl := h.lenEq
  have hx : shop[k]? = some shop[k] := List.getElem?_eq_getElem (by omega)
  obtain ⟨a', l, c, h1, h2, h3⟩ := hc _ _ hx
  exact ⟨b, off, _, a', l, c, ha, hx, h1, h2, h3⟩
theorem ShopAt.to {w w' : World} {S S' : Nat → Prop} {a : Option Addr} {len : Nat} {shop : List (List (List Int))} (h : ShopAt w S a len shop)
    (hg : ∀ b, S b → S' b ∧ w'.heap[b]? = w.heap[b]?) : ShopAt w' S' a len shop := by
  refine ⟨h.lenEq, h.small, fun hl => ?_⟩
  obtain ⟨b, off, ha, hs, hc⟩ := h.cells hl
  refine ⟨b, off, ha, (hg b hs).1, fun i r hr => ?_⟩
  obtain ⟨a', l, c, h1, h2, h3⟩ := hc i r hr
  exact ⟨a', l, c, by rw [World.cell?_of_block (w := w) (hg b hs).2]; exact h1, h2, h3.to hg⟩
theorem ShopAt.below {w w' : World} {n : Nat} {a : Option Addr} {len : Nat} {shop : List (List (List Int))} (h : ShopAt w (· < n) a len shop) (hb : Below n w w') : ShopAt w' (· < n) a len shop :=
  h.to fun b hb' => ⟨hb', hb.block b hb'⟩
theorem ShopAt.mem {w : World} {S : Nat → Prop} {b off len : Nat} {shop : List (List (List Int))} (h : ShopAt w S (some ⟨b, off, none⟩) len shop) (h0 : 0 < len) : S b := by
  obtain ⟨b', off', e, hs, _⟩ := h.cells h0
  cases e
  exact hs
theorem ShopAt.take {w : World} {S : Nat → Prop} {a : Option Addr} {len : Nat} {shop : List (List (List Int))} (h : ShopAt w S a len shop) (k : Nat) (hk : k ≤ len) : ShopAt w S a k (shop.take k) := by
  have hl := h.lenEq
  have hs := h.small
  refine ⟨by simp; omega, by omega, fun h0 => ?_⟩
  obtain ⟨b, off, ha, hs, hc⟩ := h.cells (by omega)
  refine ⟨b, off, ha, hs, fun i r hr => hc i r ?_⟩
  rw [List.getElem?_take] at hr
  split at hr
  · exact hr
  · cases hr
theorem Drew.shop {w wr : World} {S : Nat → Prop} {a : Option Addr} {len : Nat} {shop : List (List (List Int))} (h : ShopAt w S a len shop) (d : Drew w wr) : ShopAt wr S a len shop := by
  obtain ⟨q, rfl⟩ := d
  exact h.to (fun b hb => ⟨hb, rfl⟩)

-- shops
def stepB (r : List Int) : Bool := r.length == 2 && (inB 0 2 (r.getD 0 0) && inB 1 9 (r.getD 1 0))
def machsOf (job : List (List Int)) : List Int := job.map (fun r => r.getD 0 0)
def sjobB (job : List (List Int)) : Bool := job.all stepB && decide (machsOf job).Nodup
def shopM (shop : List (List (List Int))) : Bool := shop.all sjobB && decide (shop.length ≤ 3)
theorem shop_false {shop : List (List (List Int))} {k : Nat} {job : List (List Int)} (h : shop[k]? = some job) (hr : sjobB job = false) : shopM shop = false := by
  unfold shopM
  rw [List.all_eq_false.2 ⟨job, List.mem_of_getElem? h, by rw [hr]; simp⟩]; rfl
theorem sjob_step {job : List (List Int)} {k : Nat} {r : List Int} (h : job[k]? = some r) (hr : stepB r = false) : sjobB job = false := by
  unfold sjobB
  rw [List.all_eq_false.2 ⟨r, List.mem_of_getElem? h, by rw [hr]; simp⟩]; rfl
theorem sjob_twice {job : List (List Int)} {k : Nat} {r : List Int} (h : job[k]? = some r) (hr : r.getD 0 0 ∈ machsOf (job.take k)) : sjobB job = false := by
  unfold sjobB
  rw [decide_eq_false, Bool.and_false]
  intro hn
  have h2 : (machsOf (job.take (k + 1))).Nodup := hn.sublist ((List.take_sublist _ _).map _)
  rw [take_get h] at h2
  simp only [machsOf, List.map_append, List.map_cons, List.map_nil] at h2
  exact (List.nodup_append.1 h2).2.2 _ hr _ (by simp) rfl
/-- the machine and the time of a step -/
def smach (shop : List (List (List Int))) (j k : Nat) : Nat := (((shop.getD j []).getD k []).getD 0 0).toNat
def stime (shop : List (List (List Int))) (j k : Nat) : Int := ((shop.getD j []).getD k []).getD 1 0
def slen (shop : List (List (List Int))) (j : Nat) : Nat := (shop.getD j []).length
theorem shop_get {shop : List (List (List Int))} (h : shopM shop = true) : shop.length ≤ 3 ∧ ∀ job ∈ shop, job.length ≤ 3 ∧ (machsOf job).Nodup ∧ ∀ r ∈ job, r.length = 2 ∧ (0 ≤ r.getD 0 0 ∧ r.getD 0 0 ≤ 2) ∧ (1 ≤ r.getD 1 0 ∧ r.getD 1 0 ≤ 9) := by
  simp only [shopM, Bool.and_eq_true, decide_eq_true_eq, List.all_eq_true] at h
  refine ⟨h.2, fun job hj => ?_⟩
  have h1 := h.1 job hj
  simp only [sjobB, Bool.and_eq_true, decide_eq_true_eq, List.all_eq_true] at h1
  have h2 : ∀ r ∈ job, r.length = 2 ∧ (0 ≤ r.getD 0 0 ∧ r.getD 0 0 ≤ 2) ∧ (1 ≤ r.getD 1 0 ∧ r.getD 1 0 ≤ 9) := fun r hr => by
    have := h1.1 r hr
    simp only [stepB, Bool.and_eq_true, beq_iff_eq] at this
    exact ⟨this.1, by simpa [inB] using this.2.1, by simpa [inB] using this.2.2⟩
  refine ⟨?_, h1.2, h2⟩
  have hsub : machsOf job ⊆ [0, 1, 2] := fun x hx => by
    obtain ⟨r, hr, rfl⟩ := List.mem_map.1 hx
    have := (h2 r hr).2.1
    simp only [List.mem_cons, List.not_mem_nil, or_false]
    omega
  have := h1.2.length_le_of_subset hsub
  simpa [machsOf] using this
theorem smach_lt {shop : List (List (List Int))} (h : shopM shop = true) (j k : Nat) : smach shop j k < 3 := by
  unfold smach
  rcases Nat.lt_or_ge j shop.length with hj | hj
  · rw [List.getD_eq_getElem?_getD (l := shop), List.getElem?_eq_getElem hj]
    rcases Nat.lt_or_ge k shop[j].length with hk | hk
    · have := ((shop_get h).2 shop[j] (List.getElem_mem hj)).2.2 shop[j][k] (List.getElem_mem hk)
      rw [Option.getD_some, List.getD_eq_getElem?_getD (l := shop[j]), List.getElem?_eq_getElem hk, Option.getD_some]
      omega
    · rw [Option.getD_some, List.getD_eq_getElem?_getD (l := shop[j]), List.getElem?_eq_none hk]; simp
  · rw [List.getD_eq_getElem?_getD (l := shop), List.getElem?_eq_none hj]; simp
theorem stime_bd {shop : List (List (List Int))} (h : shopM shop = true) (j k : Nat) : 0 ≤ stime shop j k ∧ stime shop j k ≤ 9 := by
  unfold stime
  rcases Nat.lt_or_ge j shop.length with hj | hj
  · rw [List.getD_eq_getElem?_getD (l := shop), List.getElem?_eq_getElem hj]
    rcases Nat.lt_or_ge k shop[j].length with hk | hk
    · have := ((shop_get h).2 shop[j] (List.getElem_mem hj)).2.2 shop[j][k] (List.getElem_mem hk)
      rw [Option.getD_some, List.getD_eq_getElem?_getD (l := shop[j]), List.getElem?_eq_getElem hk, Option.getD_some]
      omega
    · rw [Option.getD_some, List.getD_eq_getElem?_getD (l := shop[j]), List.getElem?_eq_none hk]; simp
  · rw [List.getD_eq_getElem?_getD (l := shop), List.getElem?_eq_none hj]; simp
theorem slen_le {shop : List (List (List Int))} (h : shopM shop = true) (j : Nat) : slen shop j ≤ 3 := by
  unfold slen
  rcases Nat.lt_or_ge j shop.length with hj | hj
  · rw [List.getD_eq_getElem?_getD (l := shop), List.getElem?_eq_getElem hj]
    exact ((shop_get h).2 shop[j] (List.getElem_mem hj)).1
  · rw [List.getD_eq_getElem?_getD (l := shop), List.getElem?_eq_none hj]; simp
/-- where a step stands -/
theorem step_at {w : World} {S : Nat → Prop} {a : Option Addr} {len : Nat} {shop : List (List (List Int))} (h : ShopAt w S a len shop) (hv : shopM shop = true) {j k : Nat} (hj : j < len) (hk : k < slen shop j) :
    ∃ (b off b1 off1 c1 b2 off2 c2 : Nat), a = some ⟨b, off, none⟩ ∧ w.cell? ⟨b, off + j, none⟩ = some (.slice (some ⟨b1, off1, none⟩) (slen shop j) c1) ∧ slen shop j ≤ c1 ∧ w.cell? ⟨b1, off1 + k, none⟩ = some (.slice (some ⟨b2, off2, none⟩) 2 c2) ∧ 2 ≤ c2 ∧
      w.cell? ⟨b2, off2, none⟩ = some (.int .i64 (smach shop j k : Nat)) ∧ w.cell? ⟨b2, off2 + 1, none⟩ = some (.int .i64 (stime shop j k)) := by
  obtain ⟨b, off, job, a', l, c1, rfl, hjob, hc1, hl1, hr⟩ := h.get hj
  have e1 : shop.getD j [] = job := by rw [List.getD_eq_getElem?_getD, hjob]; rfl
  unfold slen smach stime at *
  rw [e1] at hk ⊢
  have hl := hr.lenEq
  subst hl
  obtain ⟨b1, off1, r, a2, l2, c2, rfl, hrr, hc2, hl2, hi⟩ := hr.get hk
  have e2 : job.getD k [] = r := by rw [List.getD_eq_getElem?_getD, hrr]; rfl
  rw [e2]
  have hb := ((shop_get hv).2 job (List.mem_of_getElem? hjob)).2.2 r (List.mem_of_getElem? hrr)
  have hl22 : l2 = 2 := by rw [← hi.lenEq]; exact hb.1
  subst hl22
  obtain ⟨b2, off2, x, rfl, hx, hcx⟩ := hi.get (k := 0) (by omega)
  obtain ⟨b3, off3, y, e3, hy, hcy⟩ := hi.get (k := 1) (by omega)
  cases e3
  have ex : r.getD 0 0 = x := by rw [List.getD_eq_getElem?_getD, hx]; rfl
  have ey : r.getD 1 0 = y := by rw [List.getD_eq_getElem?_getD, hy]; rfl
  rw [ex, ey]
  rw [Nat.add_zero] at hcx
  exact ⟨b, off, b1, off1, c1, b2, off2, c2, rfl, hc1, hl1, hc2, hl2, by rw [Int.toNat_of_nonneg (by rw [← ex]; exact hb.2.1.1)]; exact hcx, hcy⟩
end Go.Proofs.Ythmifadnfaajbad
namespace Go.Proofs.Ythmifadnfaajbad

-- two machines: a, b the times of the jobs
def sumL (f : Nat → Int) : List Nat → Int
  | [] => 0
  | x :: l => f x + sumL f l
theorem sumL_append (f : Nat → Int) (l m : List Nat) : sumL f (l ++ m) = sumL f l + sumL f m := by
  induction l with
  | nil => simp [sumL]
  | cons x l ih => simp only [List.cons_append, sumL, ih]; omega
theorem sumL_nn {f : Nat → Int} (h : ∀ x, 0 ≤ f x) : ∀ l, 0 ≤ sumL f l := by
  intro l
  induction l with
  | nil => exact Int.le_refl _
  | cons x l ih => have := h x; rw [sumL]; omega
theorem sumL_reverse (f : Nat → Int) (l : List Nat) : sumL f l.reverse = sumL f l := by
  induction l with
  | nil => rfl
  | cons x l ih => rw [List.reverse_cons, sumL_append, ih, sumL, sumL, sumL]; omega
theorem sumL_perm {f : Nat → Int} {l m : List Nat} (h : l.Perm m) : sumL f l = sumL f m := by
  induction h with
  | nil => rfl
  | cons x _ ih => rw [sumL, sumL, ih]
  | swap x y l => simp only [sumL]; omega
  | trans _ _ ih1 ih2 => rw [ih1, ih2]
theorem sumL_bd {f : Nat → Int} {B : Int} (h : ∀ x, f x ≤ B) : ∀ l : List Nat, sumL f l ≤ B * (l.length : Int) := by
  intro l
  induction l with
  | nil => simp [sumL]
  | cons x l ih => have := h x; rw [sumL, List.length_cons]; push_cast; rw [Int.mul_add]; omega
/-- one job more: the times at which both machines are done -/
def stT (a b : Nat → Int) (s : Int × Int) (x : Nat) : Int × Int := (s.1 + a x, max (s.1 + a x) s.2 + b x)
def runT (a b : Nat → Int) (s : Int × Int) (l : List Nat) : Int × Int := l.foldl (stT a b) s
def spanT (a b : Nat → Int) (l : List Nat) : Int := (runT a b (0, 0) l).2
theorem runT_snoc (a b : Nat → Int) (s : Int × Int) (l : List Nat) (x : Nat) : runT a b s (l ++ [x]) = stT a b (runT a b s l) x := by simp [runT]
theorem runT_cons (a b : Nat → Int) (s : Int × Int) (l : List Nat) (x : Nat) : runT a b s (x :: l) = runT a b (stT a b s x) l := rfl
theorem runT_append (a b : Nat → Int) (s : Int × Int) (l m : List Nat) : runT a b s (l ++ m) = runT a b (runT a b s l) m := by simp [runT]
theorem runT_fst (a b : Nat → Int) : ∀ (l : List Nat) (s : Int × Int), (runT a b s l).1 = s.1 + sumL a l := by
  intro l
  induction l with
  | nil => intro s; simp [runT, sumL]
  | cons x l ih => intro s; rw [runT_cons, ih, sumL, stT]; simp only; omega
/-- the k-th job is the turn -/
def turnT (a b : Nat → Int) (l : List Nat) (k : Nat) : Int := sumL a (l.take (k + 1)) + sumL b (l.drop k)
theorem turnT_zero (a b : Nat → Int) (x : Nat) (l : List Nat) : turnT a b (x :: l) 0 = a x + b x + sumL b l := by
  simp only [turnT, List.take_succ_cons, List.take_zero, List.drop_zero, sumL]; omega
theorem turnT_succ (a b : Nat → Int) (x : Nat) (l : List Nat) (k : Nat) : turnT a b (x :: l) (k + 1) = a x + turnT a b l k := by
  simp only [turnT, List.take_succ_cons, List.drop_succ_cons, sumL]; omega
theorem runT_ge (a b : Nat → Int) : ∀ (l : List Nat) (s : Int × Int), s.2 + sumL b l ≤ (runT a b s l).2 ∧ ∀ k, k < l.length → s.1 + turnT a b l k ≤ (runT a b s l).2 := by
  intro l
  induction l with
  | nil => intro s; exact ⟨by simp [runT, sumL], fun k hk => by simp at hk⟩
  | cons x l ih =>
    intro s
    obtain ⟨h1, h2⟩ := ih (stT a b s x)
    rw [runT_cons]
    simp only [stT] at h1 h2 ⊢
    refine ⟨by rw [sumL]; omega, fun k hk => ?_⟩
    cases k with
    | zero => rw [turnT_zero]; omega
    | succ k => have := h2 k (by simp at hk; omega); rw [turnT_succ]; omega
theorem runT_is (a b : Nat → Int) : ∀ (l : List Nat) (s : Int × Int), (runT a b s l).2 = s.2 + sumL b l ∨ ∃ k, k < l.length ∧ (runT a b s l).2 = s.1 + turnT a b l k := by
  intro l
  induction l with
  | nil => intro s; left; simp [runT, sumL]
  | cons x l ih =>
    intro s
    rw [runT_cons]
    rcases ih (stT a b s x) with h | ⟨k, hk, h⟩
    · simp only [stT] at h ⊢
      by_cases hm : s.2 ≤ s.1 + a x
      · right; exact ⟨0, by simp, by rw [h, turnT_zero]; omega⟩
      · left; rw [h, sumL]; omega
    · right
      simp only [stT] at h ⊢
      exact ⟨k + 1, by simpa using hk, by rw [h, turnT_succ]; omega⟩
theorem span_ge {a b : Nat → Int} {l : List Nat} {k : Nat} (hk : k < l.length) : turnT a b l k ≤ spanT a b l := by
  have := (runT_ge a b l (0, 0)).2 k hk
  unfold spanT; simp only at this; omega
theorem span_is {a b : Nat → Int} (ha : ∀ x, 0 ≤ a x) {l : List Nat} (hl : l ≠ []) : ∃ k, k < l.length ∧ spanT a b l = turnT a b l k := by
  rcases runT_is a b l (0, 0) with h | ⟨k, hk, h⟩
  · obtain ⟨x, m, rfl⟩ := List.exists_cons_of_ne_nil hl
    refine ⟨0, by simp, ?_⟩
    have h2 := span_ge (a := a) (b := b) (l := x :: m) (k := 0) (by simp)
    unfold spanT at h2 ⊢
    rw [h] at h2 ⊢
    rw [turnT_zero] at h2 ⊢
    rw [sumL] at h2 ⊢
    have := ha x
    simp only at h2 ⊢
    omega
  · exact ⟨k, hk, by unfold spanT; rw [h]; simp⟩
theorem span_nil (a b : Nat → Int) : spanT a b [] = 0 := rfl
/-- the greatest of the first so many turns -/
def turnsTo (a b : Nat → Int) (l : List Nat) : Nat → Int
  | 0 => 0
  | k + 1 => max (turnsTo a b l k) (turnT a b l k)
theorem turnsTo_ge (a b : Nat → Int) (l : List Nat) : ∀ m k, k < m → turnT a b l k ≤ turnsTo a b l m := by
  intro m
  induction m with
  | zero => intro k hk; omega
  | succ m ih =>
    intro k hk
    rw [turnsTo]
    by_cases e : k = m
    · subst e; omega
    · have := ih k (by omega); omega
theorem turnsTo_is (a b : Nat → Int) (l : List Nat) : ∀ m, turnsTo a b l m = 0 ∨ ∃ k, k < m ∧ turnsTo a b l m = turnT a b l k := by
  intro m
  induction m with
  | zero => left; rfl
  | succ m ih =>
    rw [turnsTo]
    by_cases h : turnsTo a b l m ≤ turnT a b l m
    · right; exact ⟨m, by omega, by omega⟩
    · rcases ih with h2 | ⟨k, hk, h2⟩
      · left; omega
      · right; exact ⟨k, by omega, by omega⟩
theorem turnT_nn {a b : Nat → Int} (ha : ∀ x, 0 ≤ a x) (hb : ∀ x, 0 ≤ b x) (l : List Nat) (k : Nat) : 0 ≤ turnT a b l k := by
  have := sumL_nn ha (l.take (k + 1)); have := sumL_nn hb (l.drop k); unfold turnT; omega
theorem turnsTo_nn (a b : Nat → Int) (l : List Nat) : ∀ m, 0 ≤ turnsTo a b l m := by
  intro m
  induction m with
  | zero => exact Int.le_refl _
  | succ m ih => rw [turnsTo]; omega
theorem turns_span {a b : Nat → Int} (ha : ∀ x, 0 ≤ a x) (hb : ∀ x, 0 ≤ b x) (l : List Nat) : turnsTo a b l l.length = spanT a b l := by
  by_cases hl : l = []
  · subst hl; rfl
  · obtain ⟨k, hk, e⟩ := span_is (b := b) ha hl
    have h1 := turnsTo_ge a b l l.length k hk
    rcases turnsTo_is a b l l.length with h2 | ⟨j, hj, h2⟩
    · have := turnT_nn ha hb l k; omega
    · have := span_ge (a := a) (b := b) hj; omega
theorem span_nn {a b : Nat → Int} (ha : ∀ x, 0 ≤ a x) (hb : ∀ x, 0 ≤ b x) (l : List Nat) : 0 ≤ spanT a b l := by
  rw [← turns_span ha hb]; exact turnsTo_nn _ _ _ _
/-- both machines exchanged, the order turned -/
theorem turn_turned (a b : Nat → Int) (l : List Nat) {k : Nat} (hk : k < l.length) : turnT b a l.reverse k = turnT a b l (l.length - 1 - k) := by
  unfold turnT
  rw [List.take_reverse, List.drop_reverse, sumL_reverse, sumL_reverse, show l.length - (k + 1) = l.length - 1 - k by omega, show l.length - k = l.length - 1 - k + 1 by omega]
  omega
theorem span_turned {a b : Nat → Int} (ha : ∀ x, 0 ≤ a x) (hb : ∀ x, 0 ≤ b x) (l : List Nat) : spanT b a l.reverse = spanT a b l := by
  have key : ∀ (a b : Nat → Int), (∀ x, 0 ≤ a x) → (∀ x, 0 ≤ b x) → ∀ l : List Nat, spanT b a l.reverse ≤ spanT a b l := by
    intro a b ha hb l
    by_cases hl : l = []
    · subst hl; exact Int.le_refl _
    · obtain ⟨k, hk, e⟩ := span_is (b := a) hb (l := l.reverse) (by simpa using hl)
      rw [List.length_reverse] at hk
      rw [e, turn_turned a b l hk]
      exact span_ge (by omega)
  have h1 := key a b ha hb l
  have h2 := key b a hb ha l.reverse
  rw [List.reverse_reverse] at h2
  omega
theorem span_sums {a b : Nat → Int} (ha : ∀ x, 0 ≤ a x) (hb : ∀ x, 0 ≤ b x) (l : List Nat) : sumL a l ≤ spanT a b l ∧ sumL b l ≤ spanT a b l ∧ spanT a b l ≤ sumL a l + sumL b l := by
  by_cases hl : l = []
  · subst hl; exact ⟨Int.le_refl _, Int.le_refl _, Int.le_refl _⟩
  · have hpos : 0 < l.length := List.length_pos_iff.2 hl
    refine ⟨?_, ?_, ?_⟩
    · have h := span_ge (a := a) (b := b) (l := l) (k := l.length - 1) (by omega)
      have := sumL_nn hb (l.drop (l.length - 1))
      unfold turnT at h
      rw [show l.length - 1 + 1 = l.length by omega, List.take_length] at h
      omega
    · have h := span_ge (a := a) (b := b) (l := l) (k := 0) hpos
      have := sumL_nn ha (l.take (0 + 1))
      unfold turnT at h
      rw [List.drop_zero] at h
      omega
    · obtain ⟨k, hk, e⟩ := span_is (b := b) ha hl
      rw [e]
      unfold turnT
      have h1 : sumL a l = sumL a (l.take (k + 1)) + sumL a (l.drop (k + 1)) := by rw [← sumL_append, List.take_append_drop]
      have h2 : sumL b l = sumL b (l.take k) + sumL b (l.drop k) := by rw [← sumL_append, List.take_append_drop]
      have := sumL_nn ha (l.drop (k + 1))
      have := sumL_nn hb (l.take k)
      omega
theorem span_zero {a : Nat → Int} (ha : ∀ x, 0 ≤ a x) (l : List Nat) : spanT a (fun _ => 0) l = sumL a l := by
  have h := span_sums ha (b := fun _ => 0) (fun _ => Int.le_refl _) l
  have e : sumL (fun _ => (0 : Int)) l = 0 := by
    induction l with
    | nil => rfl
    | cons x l ih => rw [sumL, ih (span_sums ha (b := fun _ => 0) (fun _ => Int.le_refl _) l)]; rfl
  omega
-- no later at the beginning, no later at the end
def LeS (s t : Int × Int) : Prop := s.1 ≤ t.1 ∧ s.2 ≤ t.2
theorem LeS.refl (s : Int × Int) : LeS s s := ⟨Int.le_refl _, Int.le_refl _⟩
theorem LeS.trans {s t u : Int × Int} (h : LeS s t) (g : LeS t u) : LeS s u := ⟨Int.le_trans h.1 g.1, Int.le_trans h.2 g.2⟩
theorem stT_mono {a b : Nat → Int} {s t : Int × Int} (h : LeS s t) (x : Nat) : LeS (stT a b s x) (stT a b t x) := by
  obtain ⟨h1, h2⟩ := h
  exact ⟨by simp only [stT]; omega, by simp only [stT]; omega⟩
theorem runT_mono {a b : Nat → Int} : ∀ (l : List Nat) {s t : Int × Int}, LeS s t → LeS (runT a b s l) (runT a b t l) := by
  intro l
  induction l with
  | nil => intro s t h; exact h
  | cons x l ih => intro s t h; exact ih (stT_mono h x)
theorem runT_filter {a b : Nat → Int} (ha : ∀ x, 0 ≤ a x) (hb : ∀ x, 0 ≤ b x) (p : Nat → Bool) : ∀ (l : List Nat) {s t : Int × Int}, LeS s t → LeS (runT a b s (l.filter p)) (runT a b t l) := by
  intro l
  induction l with
  | nil => intro s t h; exact h
  | cons x l ih =>
    intro s t h
    rw [List.filter_cons]
    cases p x
    · simp only [Bool.false_eq_true, if_false]
      refine ih (h.trans ⟨?_, ?_⟩)
      · have := ha x; simp only [stT]; omega
      · have := hb x; simp only [stT]; omega
    · simp only [if_true]; exact ih (stT_mono h x)
/-- two neighbours exchanged -/
theorem runT_swap {a b : Nat → Int} {i k : Nat} (h : min (a i) (b k) ≤ min (a k) (b i)) (s : Int × Int) (l : List Nat) : LeS (runT a b s (i :: k :: l)) (runT a b s (k :: i :: l)) := by
  refine runT_mono l ⟨?_, ?_⟩
  · simp only [stT]; omega
  · simp only [stT]; omega
-- the rule
def btr (a b : Nat → Int) (i k : Nat) : Prop :=
  if a i < b i then (if a k < b k then (a i < a k ∨ (a i = a k ∧ i < k)) else True)
  else (if a k < b k then False else (b k < b i ∨ (b i = b k ∧ i < k)))
instance (a b : Nat → Int) (i k : Nat) : Decidable (btr a b i k) := by unfold btr; infer_instance
theorem btr_total {a b : Nat → Int} {i k : Nat} (h : i ≠ k) (hn : ¬ btr a b i k) : btr a b k i := by
  unfold btr at hn ⊢
  by_cases h1 : a i < b i <;> by_cases h3 : a k < b k <;> simp only [h1, h3, if_true, if_false, not_true, not_false_eq_true] at hn ⊢ <;> omega
theorem btr_trans {a b : Nat → Int} {i j k : Nat} (h : btr a b i j) (g : btr a b j k) : btr a b i k := by
  unfold btr at h g ⊢
  by_cases h1 : a i < b i <;> by_cases h2 : a j < b j <;> by_cases h3 : a k < b k <;> simp only [h1, h2, h3, if_true, if_false] at h g ⊢ <;> omega
theorem btr_asymm {a b : Nat → Int} {i k : Nat} (h : btr a b i k) (g : btr a b k i) : i = k := by
  unfold btr at h g
  by_cases h1 : a i < b i <;> by_cases h3 : a k < b k <;> simp only [h1, h3, if_true, if_false] at h g <;> omega
theorem btr_swap {a b : Nat → Int} {i k : Nat} (h : btr a b i k) : min (a i) (b k) ≤ min (a k) (b i) := by
  unfold btr at h
  by_cases h1 : a i < b i <;> by_cases h3 : a k < b k <;> simp only [h1, h3, if_true, if_false] at h <;> omega
def insR (a b : Nat → Int) (x : Nat) : List Nat → List Nat
  | [] => [x]
  | y :: l => if btr a b y x then y :: insR a b x l else x :: y :: l
theorem insR_perm (a b : Nat → Int) (x : Nat) : ∀ l, (insR a b x l).Perm (x :: l) := by
  intro l
  induction l with
  | nil => exact .refl _
  | cons y l ih =>
    rw [insR]
    split
    · exact (ih.cons y).trans (.swap x y l)
    · exact .refl _
theorem insR_sorted {a b : Nat → Int} {x : Nat} : ∀ l : List Nat, x ∉ l → l.Pairwise (btr a b) → (insR a b x l).Pairwise (btr a b) := by
  intro l
  induction l with
  | nil => intro _ _; rw [insR]; exact List.pairwise_singleton _ _
  | cons y l ih =>
    intro hx hp
    rw [insR]
    obtain ⟨h1, h2⟩ := List.pairwise_cons.1 hp
    have hxy : x ≠ y ∧ x ∉ l := by simpa using hx
    split
    · rename_i hb
      refine List.pairwise_cons.2 ⟨fun z hz => ?_, ih hxy.2 h2⟩
      rcases List.mem_cons.1 ((insR_perm a b x l).mem_iff.1 hz) with rfl | hz
      · exact hb
      · exact h1 z hz
    · rename_i hb
      have hb2 := btr_total (a := a) (b := b) (i := y) (k := x) (fun e => hxy.1 e.symm) hb
      refine List.pairwise_cons.2 ⟨fun z hz => ?_, hp⟩
      rcases List.mem_cons.1 hz with rfl | hz
      · exact hb2
      · exact btr_trans hb2 (h1 z hz)
theorem insR_le {a b : Nat → Int} {x : Nat} : ∀ (l : List Nat) (s : Int × Int), LeS (runT a b s (insR a b x l)) (runT a b s (x :: l)) := by
  intro l
  induction l with
  | nil => intro s; exact .refl _
  | cons y l ih =>
    intro s
    rw [insR]
    split
    · rename_i hb
      exact (ih (stT a b s y)).trans (runT_swap (btr_swap hb) s l)
    · exact .refl _
def isort (a b : Nat → Int) : List Nat → List Nat
  | [] => []
  | x :: l => insR a b x (isort a b l)
theorem isort_perm (a b : Nat → Int) : ∀ l, (isort a b l).Perm l := by
  intro l
  induction l with
  | nil => exact .refl _
  | cons x l ih => exact (insR_perm a b x _).trans (ih.cons x)
theorem isort_sorted {a b : Nat → Int} : ∀ l : List Nat, l.Nodup → (isort a b l).Pairwise (btr a b) := by
  intro l
  induction l with
  | nil => intro _; exact List.Pairwise.nil
  | cons x l ih =>
    intro h
    obtain ⟨h1, h2⟩ := List.nodup_cons.1 h
    exact insR_sorted _ (fun hm => h1 ((isort_perm a b l).mem_iff.1 hm)) (ih h2)
theorem isort_le {a b : Nat → Int} : ∀ (l : List Nat) (s : Int × Int), LeS (runT a b s (isort a b l)) (runT a b s l) := by
  intro l
  induction l with
  | nil => intro s; exact .refl _
  | cons x l ih => intro s; exact (insR_le _ s).trans (ih (stT a b s x))
/-- the rule: one job after the other put in its place -/
def ruleT (a b : Nat → Int) : Nat → List Nat
  | 0 => []
  | n + 1 => insR a b n (ruleT a b n)
theorem ruleT_perm (a b : Nat → Int) : ∀ n, (ruleT a b n).Perm (List.range n) := by
  intro n
  induction n with
  | zero => exact .refl _
  | succ n ih =>
    rw [List.range_succ]
    exact (insR_perm a b n _).trans ((ih.cons n).trans (List.perm_append_singleton n _).symm)
theorem ruleT_sorted (a b : Nat → Int) : ∀ n, (ruleT a b n).Pairwise (btr a b) := by
  intro n
  induction n with
  | zero => exact List.Pairwise.nil
  | succ n ih => exact insR_sorted _ (fun hm => by have := (ruleT_perm a b n).mem_iff.1 hm; simp at this) ih
theorem rule_best {a b : Nat → Int} {n : Nat} {l : List Nat} (h : l.Perm (List.range n)) : spanT a b (ruleT a b n) ≤ spanT a b l := by
  have hn : l.Nodup := h.symm.nodup List.nodup_range
  have e : ruleT a b n = isort a b l := by
    refine List.Perm.eq_of_pairwise (le := btr a b) ?_ (ruleT_sorted a b n) (isort_sorted l hn) ((ruleT_perm a b n).trans (h.symm.trans (isort_perm a b l).symm))
    intro x y _ _ h1 h2
    exact btr_asymm h1 h2
  rw [e]
  exact (isort_le l (0, 0)).2
-- all orders tried
def LeastO (a b : Nat → Int) (n : Nat) (v : Int) : Prop := (∃ l : List Nat, l.Perm (List.range n) ∧ spanT a b l = v) ∧ ∀ l : List Nat, l.Perm (List.range n) → v ≤ spanT a b l
theorem LeastO.uniq {a b : Nat → Int} {n : Nat} {u v : Int} (h : LeastO a b n u) (g : LeastO a b n v) : u = v := by
  obtain ⟨l, hl, rfl⟩ := h.1
  obtain ⟨m, hm, rfl⟩ := g.1
  have := h.2 m hm; have := g.2 l hl; omega
theorem rule_least (a b : Nat → Int) (n : Nat) : LeastO a b n (spanT a b (ruleT a b n)) := ⟨⟨_, ruleT_perm a b n, rfl⟩, fun _ h => rule_best h⟩
theorem least_turned {a b : Nat → Int} (ha : ∀ x, 0 ≤ a x) (hb : ∀ x, 0 ≤ b x) {n : Nat} {v : Int} (h : LeastO a b n v) : LeastO b a n v := by
  obtain ⟨⟨l, hl, rfl⟩, h2⟩ := h
  refine ⟨⟨l.reverse, (List.reverse_perm l).trans hl, span_turned ha hb l⟩, fun m hm => ?_⟩
  have h3 := h2 m.reverse ((List.reverse_perm m).trans hm)
  rw [span_turned hb ha m] at h3
  exact h3
theorem least_fewer {a b : Nat → Int} (ha : ∀ x, 0 ≤ a x) (hb : ∀ x, 0 ≤ b x) {n : Nat} {u v : Int} (h : LeastO a b (n + 1) v) (g : LeastO a b n u) : u ≤ v := by
  obtain ⟨⟨l, hl, rfl⟩, _⟩ := h
  have hp : (l.filter (fun x => decide (x < n))).Perm (List.range n) := by
    have h1 := hl.filter (fun x => decide (x < n))
    have e : (List.range (n + 1)).filter (fun x => decide (x < n)) = List.range n := by
      rw [List.range_succ, List.filter_append]
      simp [List.filter_eq_self.2]
    rwa [e] at h1
  have h2 := g.2 _ hp
  have h3 := (runT_filter ha hb (fun x => decide (x < n)) l (LeS.refl (0, 0))).2
  unfold spanT at h2 ⊢
  omega
/-- the least of g over what is not in h, -1: there is none -/
def scanG (g : Nat → Int) (h : List Nat) : Nat → Int
  | 0 => -1
  | i + 1 => if i ∈ h then scanG g h i else if scanG g h i < 0 ∨ g i < scanG g h i then g i else scanG g h i
theorem scanG_le {g : Nat → Int} {h : List Nat} (hg : ∀ i, 0 ≤ g i) : ∀ n, -1 ≤ scanG g h n ∧ ∀ i, i < n → i ∉ h → 0 ≤ scanG g h n ∧ scanG g h n ≤ g i := by
  intro n
  induction n with
  | zero => exact ⟨Int.le_refl _, fun i hi => by omega⟩
  | succ n ih =>
    obtain ⟨h1, h2⟩ := ih
    have hn := hg n
    rw [scanG]
    split
    · rename_i hm
      refine ⟨h1, fun i hi hih => ?_⟩
      by_cases e : i = n
      · subst e; exact absurd hm hih
      · exact h2 i (by omega) hih
    · split
      · rename_i hm hlt
        refine ⟨by omega, fun i hi hih => ?_⟩
        by_cases e : i = n
        · subst e; omega
        · have := h2 i (by omega) hih; omega
      · rename_i hm hlt
        refine ⟨h1, fun i hi hih => ?_⟩
        by_cases e : i = n
        · subst e; omega
        · exact h2 i (by omega) hih
theorem scanG_is {g : Nat → Int} {h : List Nat} : ∀ n, 0 ≤ scanG g h n → ∃ i, i < n ∧ i ∉ h ∧ scanG g h n = g i := by
  intro n
  induction n with
  | zero => intro h0; simp [scanG] at h0
  | succ n ih =>
    intro h0
    rw [scanG] at h0 ⊢
    split at h0
    · rename_i hm
      rw [if_pos hm]
      obtain ⟨i, hi, h1, h2⟩ := ih h0
      exact ⟨i, by omega, h1, h2⟩
    · rename_i hm
      rw [if_neg hm]
      split at h0
      · rename_i hlt; rw [if_pos hlt]; exact ⟨n, by omega, hm, rfl⟩
      · rename_i hlt; rw [if_neg hlt]
        obtain ⟨i, hi, h1, h2⟩ := ih h0
        exact ⟨i, by omega, h1, h2⟩
def fromT (a b : Nat → Int) (n : Nat) : Nat → List Nat → Int
  | 0, h => spanT a b h
  | f + 1, h => scanG (fun i => fromT a b n f (h ++ [i])) h n
theorem fromT_nn {a b : Nat → Int} (ha : ∀ x, 0 ≤ a x) (hb : ∀ x, 0 ≤ b x) {n : Nat} : ∀ f h, h.Nodup → (∀ x ∈ h, x < n) → h.length + f = n →
    (∃ t, (h ++ t).Perm (List.range n) ∧ spanT a b (h ++ t) = fromT a b n f h) ∧ ∀ t, (h ++ t).Perm (List.range n) → fromT a b n f h ≤ spanT a b (h ++ t) := by
  intro f
  induction f with
  | zero =>
    intro h hn hr hl
    have hp : h.Perm (List.range n) := by
      have hs : h ⊆ List.range n := fun x hx => by simpa using hr x hx
      refine (List.perm_ext_iff_of_nodup hn List.nodup_range).2 (fun x => ⟨fun hx => hs hx, fun hx => ?_⟩)
      by_cases hm : x ∈ h
      · exact hm
      · exfalso
        have : (x :: h).length ≤ (List.range n).length := List.Nodup.length_le_of_subset (List.nodup_cons.2 ⟨hm, hn⟩) (fun y hy => by
          rcases List.mem_cons.1 hy with rfl | hy
          · exact hx
          · exact hs hy)
        simp at this; omega
    refine ⟨⟨[], by simpa using hp, by simp [fromT]⟩, fun t ht => ?_⟩
    have : t = [] := by
      have := ht.length_eq
      simp at this
      exact List.eq_nil_of_length_eq_zero (by omega)
    subst this; simp [fromT]
  | succ f ih =>
    intro h hn hr hl
    have step : ∀ i, i < n → i ∉ h → (h ++ [i]).Nodup ∧ (∀ x ∈ h ++ [i], x < n) ∧ (h ++ [i]).length + f = n := by
      intro i hi hih
      refine ⟨?_, fun x hx => ?_, by simp; omega⟩
      · exact (List.perm_append_singleton i h).symm.nodup (List.nodup_cons.2 ⟨hih, hn⟩)
      · rcases List.mem_append.1 hx with hx | hx
        · exact hr x hx
        · simp at hx; omega
    -- the scan's g may be anything where it is not asked: take it at least 0
    have hge : ∀ i, i < n → i ∉ h → 0 ≤ fromT a b n f (h ++ [i]) := by
      intro i hi hih
      obtain ⟨h1, h2, h3⟩ := step i hi hih
      obtain ⟨⟨t, _, e⟩, _⟩ := ih (h ++ [i]) h1 h2 h3
      rw [← e]; exact span_nn ha hb _
    have hcong : ∀ m, m ≤ n → scanG (fun i => fromT a b n f (h ++ [i])) h m = scanG (fun i => if i < n ∧ i ∉ h then fromT a b n f (h ++ [i]) else 0) h m := by
      intro m
      induction m with
      | zero => intro _; rfl
      | succ m ihm =>
        intro hm
        rw [scanG, scanG, ihm (by omega)]
        by_cases hmh : m ∈ h
        · rw [if_pos hmh, if_pos hmh]
        · have em : (if m < n ∧ m ∉ h then fromT a b n f (h ++ [m]) else 0) = fromT a b n f (h ++ [m]) := if_pos ⟨by omega, hmh⟩
          rw [if_neg hmh, if_neg hmh]
          simp only [em]
    have hgn : ∀ i, 0 ≤ (fun i => if i < n ∧ i ∉ h then fromT a b n f (h ++ [i]) else 0) i := by
      intro i
      simp only
      split
      · rename_i hc; exact hge i hc.1 hc.2
      · exact Int.le_refl _
    have hsc := scanG_le (h := h) hgn n
    rw [fromT, hcong n (Nat.le_refl _)]
    -- somebody is left
    have hex : ∃ i, i < n ∧ i ∉ h := by
      apply Classical.byContradiction
      intro hno
      have : (List.range n).length ≤ h.length := List.Nodup.length_le_of_subset List.nodup_range (fun x hx => by
        apply Classical.byContradiction
        intro hxh
        exact hno ⟨x, by simpa using hx, hxh⟩)
      simp at this; omega
    obtain ⟨i0, hi0, hih0⟩ := hex
    obtain ⟨i, hi, hih, e⟩ := scanG_is n (hsc.2 i0 hi0 hih0).1
    simp only [hi, hih, not_false_eq_true, and_self, if_true] at e
    refine ⟨?_, fun t ht => ?_⟩
    · obtain ⟨h1, h2, h3⟩ := step i hi hih
      obtain ⟨⟨t, ht, e2⟩, _⟩ := ih (h ++ [i]) h1 h2 h3
      refine ⟨i :: t, by simpa using ht, ?_⟩
      rw [e, ← e2]; simp
    · cases t with
      | nil => have := ht.length_eq; simp at this; omega
      | cons x t =>
        have hx : x < n := by have := ht.mem_iff.1 (show x ∈ h ++ x :: t by simp); simpa using this
        have hxh : x ∉ h := by
          have := ht.symm.nodup List.nodup_range
          intro hm
          have h2 := List.nodup_append.1 this
          exact h2.2.2 x hm x (by simp) rfl
        obtain ⟨h1, h2, h3⟩ := step x hx hxh
        have h4 := (ih (h ++ [x]) h1 h2 h3).2 t (by simpa using ht)
        have h5 := (hsc.2 x hx hxh).2
        simp only [hx, hxh, not_false_eq_true, and_self, if_true] at h5
        simp only [List.append_assoc, List.singleton_append] at h4
        omega
theorem tried_is {a b : Nat → Int} (ha : ∀ x, 0 ≤ a x) (hb : ∀ x, 0 ≤ b x) (n : Nat) : LeastO a b n (fromT a b n n []) := by
  have := fromT_nn ha hb (n := n) n [] List.nodup_nil (fun x hx => by cases hx) (by simp)
  simpa [LeastO] using this
end Go.Proofs.Ythmifadnfaajbad
