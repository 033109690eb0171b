import Derived.Test.YthmlgicjedhgfabM7
import Derived.Test.YthmlgicjedhgfabM2
import Derived.Test.YthmlgicjedhgfabM3
import Derived.Test.YthmlgicjedhgfabM6
namespace Go.Proofs.Ythmlgicjedhgfab

/-- the steps of a job, and those of the first jobs -/
def stepsJ (j k : Nat) : List (Nat × Nat) := (List.range k).map (fun x => (j, x))
def stepsL (shop : List (List (List Int))) : Nat → List (Nat × Nat)
  | 0 => []
  | n + 1 => stepsL shop n ++ stepsJ n (slen shop n)
theorem stepsJ_succ (j k : Nat) : stepsJ j (k + 1) = stepsJ j k ++ [(j, k)] := by simp [stepsJ, List.range_succ]
theorem stepsJ_mem {j k : Nat} {x : Nat × Nat} : x ∈ stepsJ j k ↔ x.1 = j ∧ x.2 < k := by
  simp only [stepsJ, List.mem_map, List.mem_range]
  constructor
  · rintro ⟨y, hy, rfl⟩; exact ⟨rfl, hy⟩
  · rintro ⟨rfl, h⟩; exact ⟨x.2, h, rfl⟩
theorem stepsL_mem {shop : List (List (List Int))} : ∀ {n : Nat} {x : Nat × Nat}, x ∈ stepsL shop n ↔ x.1 < n ∧ x.2 < slen shop x.1 := by
  intro n x
  induction n with
  | zero => simp [stepsL]
  | succ n ih =>
    rw [stepsL, List.mem_append, ih, stepsJ_mem]
    constructor
    · rintro (h | h)
      · exact ⟨by omega, h.2⟩
      · obtain ⟨h1, h2⟩ := h
        subst h1; exact ⟨by omega, h2⟩
    · rintro ⟨h1, h2⟩
      by_cases e : x.1 = n
      · right; exact ⟨e, by rw [← e]; exact h2⟩
      · left; exact ⟨by omega, h2⟩
theorem stepsJ_nodup (j k : Nat) : (stepsJ j k).Nodup :=
  List.pairwise_map.2 (List.nodup_range.imp (fun {x y} h e => h (by injection e)))
theorem stepsL_nodup (shop : List (List (List Int))) : ∀ n, (stepsL shop n).Nodup
  | 0 => List.nodup_nil
  | n + 1 => List.nodup_append.2 ⟨stepsL_nodup shop n, stepsJ_nodup _ _, fun x hx y hy e => by
      subst e
      have h1 := (stepsL_mem.1 hx).1
      have h2 := (stepsJ_mem.1 hy).1
      omega⟩
theorem onM_snoc (m : Nat → Nat → Nat) (p : Nat → Nat → Int) (M : Nat) (l : List (Nat × Nat)) (x : Nat × Nat) : onM m p M (l ++ [x]) = onM m p M l + (if m x.1 x.2 = M then p x.1 x.2 else 0) := by
  rw [onM_append, onM, onM, Int.add_zero]
theorem onM_nn {m : Nat → Nat → Nat} {p : Nat → Nat → Int} (hp : ∀ j k, 0 ≤ p j k) (M : Nat) : ∀ l, 0 ≤ onM m p M l
  | [] => Int.le_refl _
  | x :: l => by rw [onM]; have := onM_nn hp M l (m := m); have := hp x.1 x.2; split <;> omega
theorem onM_job {m : Nat → Nat → Nat} {p : Nat → Nat → Int} (hp : ∀ j k, 0 ≤ p j k) (M j : Nat) : ∀ k, onM m p M (stepsJ j k) ≤ stepsTo p j k
  | 0 => Int.le_refl _
  | k + 1 => by
    rw [stepsJ_succ, onM_snoc, stepsTo]
    have := onM_job hp (m := m) M j k
    have := hp j k
    show _ + (if m j k = M then p j k else 0) ≤ _
    split <;> omega
theorem stepsTo_nn {p : Nat → Nat → Int} (hp : ∀ j k, 0 ≤ p j k) (j : Nat) : ∀ k, 0 ≤ stepsTo p j k
  | 0 => Int.le_refl _
  | k + 1 => by rw [stepsTo]; have := stepsTo_nn hp j k; have := hp j k; omega
/-- the greatest time of a job -/
def leastJ (shop : List (List (List Int))) : Nat → Int
  | 0 => 0
  | n + 1 => max (leastJ shop n) (stepsTo (stime shop) n (slen shop n))
def leastF (f : Nat → Int) (c : Int) : Nat → Int
  | 0 => c
  | M + 1 => max (leastF f c M) (f M)
def onS (shop : List (List (List Int))) (n M : Nat) : Int := onM (smach shop) (stime shop) M (stepsL shop n)
def leastM (shop : List (List (List Int))) : Int := leastF (onS shop shop.length) (leastJ shop shop.length) 3
theorem leastF_le {f : Nat → Int} {c v : Int} (hc : c ≤ v) : ∀ n, (∀ M, M < n → f M ≤ v) → leastF f c n ≤ v
  | 0, _ => hc
  | n + 1, h => by
    rw [leastF]
    have := leastF_le hc n (fun M hM => h M (by omega))
    have := h n (by omega)
    omega
theorem leastF_ge (f : Nat → Int) (c : Int) : ∀ n, c ≤ leastF f c n ∧ ∀ M, M < n → f M ≤ leastF f c n
  | 0 => ⟨Int.le_refl _, fun M h => absurd h (by omega)⟩
  | n + 1 => by
    obtain ⟨h1, h2⟩ := leastF_ge f c n
    rw [leastF]
    refine ⟨by omega, fun M hM => ?_⟩
    rcases Nat.lt_or_ge M n with h | h
    · have := h2 M h; omega
    · obtain rfl : M = n := by omega
      omega
theorem leastJ_le {shop : List (List (List Int))} {v : Int} (h0 : 0 ≤ v) : ∀ n, (∀ j, j < n → stepsTo (stime shop) j (slen shop j) ≤ v) → leastJ shop n ≤ v
  | 0, _ => h0
  | n + 1, h => by
    rw [leastJ]
    have := leastJ_le h0 n (fun M hM => h M (by omega))
    have := h n (by omega)
    omega
theorem leastJ_ge (shop : List (List (List Int))) : ∀ n, 0 ≤ leastJ shop n ∧ ∀ j, j < n → stepsTo (stime shop) j (slen shop j) ≤ leastJ shop n
  | 0 => ⟨Int.le_refl _, fun M h => absurd h (by omega)⟩
  | n + 1 => by
    obtain ⟨h1, h2⟩ := leastJ_ge shop n
    rw [leastJ]
    refine ⟨by omega, fun M hM => ?_⟩
    rcases Nat.lt_or_ge M n with h | h
    · have := h2 M h; omega
    · obtain rfl : M = n := by omega
      omega
theorem leastM_nn (shop : List (List (List Int))) : 0 ≤ leastM shop := by
  have := (leastF_ge (onS shop shop.length) (leastJ shop shop.length) 3).1
  have := (leastJ_ge shop shop.length).1
  unfold leastM; omega
/-- a shop is done no earlier -/
theorem least_all {shop : List (List (List Int))} {s : ShopS} (h : ShopI (smach shop) (stime shop) s) (hx : ∀ j, s.nx j = slen shop j) : leastM shop ≤ s.all := by
  refine leastF_le (leastJ_le h.nn.1 _ (fun j _ => ?_)) _ (fun M _ => ?_)
  · have h1 := h.work j
    have h2 := h.upR j
    rw [hx] at h1; omega
  · have hp : s.done.Perm (stepsL shop shop.length) := by
      refine (List.perm_ext_iff_of_nodup h.nod (stepsL_nodup shop _)).2 (fun x => ?_)
      rw [stepsL_mem]
      have := h.mem x.1 x.2
      rw [hx] at this
      rw [show x = (x.1, x.2) from rfl, this]
      constructor
      · intro hk
        refine ⟨?_, hk⟩
        rcases Nat.lt_or_ge x.1 shop.length with h | h
        · exact h
        · unfold slen at hk; rw [List.getD_eq_getElem?_getD, List.getElem?_eq_none h] at hk; simp at hk
      · exact fun h => h.2
    have h1 := h.mach M
    have h2 := h.upF M
    unfold onS
    rw [← onM_perm hp]; omega
-- how great they are
theorem onM_le {m : Nat → Nat → Nat} {p : Nat → Nat → Int} (hp : ∀ j k, 0 ≤ p j k ∧ p j k ≤ 9) (M : Nat) : ∀ l : List (Nat × Nat), onM m p M l ≤ 9 * (l.length : Int)
  | [] => Int.le_refl _
  | x :: l => by rw [onM, List.length_cons]; have := onM_le hp M l (m := m); have := hp x.1 x.2; split <;> omega
theorem stepsTo_le {p : Nat → Nat → Int} (hp : ∀ j k, 0 ≤ p j k ∧ p j k ≤ 9) (j : Nat) : ∀ k : Nat, stepsTo p j k ≤ 9 * (k : Int)
  | 0 => Int.le_refl _
  | k + 1 => by rw [stepsTo]; have := stepsTo_le hp j k; have := hp j k; omega
theorem stepsL_len {shop : List (List (List Int))} (h : ∀ j, slen shop j ≤ 3) : ∀ n, (stepsL shop n).length ≤ 3 * n
  | 0 => Nat.le_refl _
  | n + 1 => by rw [stepsL, List.length_append, stepsJ, List.length_map, List.length_range]; have := stepsL_len h n; have := h n; omega
theorem on_bd {shop : List (List (List Int))} (hv : shopM shop = true) {n k : Nat} (hn : n ≤ 3) (hk : k ≤ 3) (M : Nat) : 0 ≤ onM (smach shop) (stime shop) M (stepsL shop n ++ stepsJ n k) ∧ onM (smach shop) (stime shop) M (stepsL shop n ++ stepsJ n k) ≤ 108 := by
  refine ⟨onM_nn (fun j k => (stime_bd hv j k).1) _ _, ?_⟩
  have h1 := onM_le (m := smach shop) (fun j k => stime_bd hv j k) M (stepsL shop n ++ stepsJ n k)
  have h2 := stepsL_len (shop := shop) (slen_le hv) n
  rw [List.length_append, show (stepsJ n k).length = k by simp [stepsJ]] at h1
  omega
theorem leastJ_bd {shop : List (List (List Int))} (hv : shopM shop = true) (n : Nat) : 0 ≤ leastJ shop n ∧ leastJ shop n ≤ 27 :=
  ⟨(leastJ_ge shop n).1, leastJ_le (by omega) _ (fun j _ => by have := stepsTo_le (fun j k => stime_bd hv j k) j (slen shop j); have := slen_le hv j; omega)⟩
-- shops cut
theorem take_getD {α : Type} {l : List α} {n j : Nat} {d : α} (h : j < n) : (l.take n).getD j d = l.getD j d := by
  rw [List.getD_eq_getElem?_getD, List.getD_eq_getElem?_getD, List.getElem?_take, if_pos h]
theorem slen_take {shop : List (List (List Int))} {n j : Nat} (h : j < n) : slen (shop.take n) j = slen shop j := by unfold slen; rw [take_getD h]
theorem stime_take {shop : List (List (List Int))} {n j : Nat} (h : j < n) (k : Nat) : stime (shop.take n) j k = stime shop j k := by unfold stime; rw [take_getD h]
theorem smach_take {shop : List (List (List Int))} {n j : Nat} (h : j < n) (k : Nat) : smach (shop.take n) j k = smach shop j k := by unfold smach; rw [take_getD h]
theorem stepsTo_take {shop : List (List (List Int))} {n j : Nat} (h : j < n) : ∀ k, stepsTo (stime (shop.take n)) j k = stepsTo (stime shop) j k
  | 0 => rfl
  | k + 1 => by rw [stepsTo, stepsTo, stepsTo_take h k, stime_take h]
theorem stepsL_take {shop : List (List (List Int))} {n : Nat} : ∀ m, m ≤ n → stepsL (shop.take n) m = stepsL shop m
  | 0, _ => rfl
  | m + 1, h => by rw [stepsL, stepsL, stepsL_take m (by omega), slen_take (by omega)]
theorem onM_congr {m m' : Nat → Nat → Nat} {p p' : Nat → Nat → Int} {M : Nat} : ∀ {l : List (Nat × Nat)}, (∀ x ∈ l, m x.1 x.2 = m' x.1 x.2 ∧ p x.1 x.2 = p' x.1 x.2) → onM m p M l = onM m' p' M l
  | [], _ => rfl
  | x :: l, h => by
    rw [onM, onM, onM_congr (fun y hy => h y (by simp [hy])), (h x (by simp)).1, (h x (by simp)).2]
theorem onS_take {shop : List (List (List Int))} {n : Nat} (M : Nat) : onS (shop.take n) n M = onS shop n M := by
  unfold onS
  rw [stepsL_take n (Nat.le_refl _)]
  refine onM_congr (fun x hx => ?_)
  have := (stepsL_mem.1 hx).1
  exact ⟨smach_take this _, stime_take this _⟩
theorem onS_mono {shop : List (List (List Int))} (hp : ∀ j k, 0 ≤ stime shop j k) (M : Nat) {n : Nat} : ∀ d, onS shop n M ≤ onS shop (n + d) M
  | 0 => Int.le_refl _
  | d + 1 => by
    have h1 := onS_mono hp M (n := n) d
    unfold onS at *
    rw [show n + (d + 1) = n + d + 1 by omega, stepsL, onM_append]
    have := onM_nn (m := smach shop) hp M (stepsJ (n + d) (slen shop (n + d)))
    omega
theorem least_take {shop : List (List (List Int))} (hp : ∀ j k, 0 ≤ stime shop j k) {n : Nat} (hn : n ≤ shop.length) : leastM (shop.take n) ≤ leastM shop := by
  have hl : (shop.take n).length = n := by rw [List.length_take]; omega
  have hJ := leastJ_ge shop shop.length
  have hF := leastF_ge (onS shop shop.length) (leastJ shop shop.length) 3
  refine leastF_le (leastJ_le (leastM_nn _) _ (fun j hj => ?_)) _ (fun M hM => ?_)
  · rw [hl] at hj
    rw [slen_take hj, stepsTo_take hj]
    have := hJ.2 j (by omega)
    unfold leastM; omega
  · rw [hl, onS_take]
    have h1 := onS_mono hp M (n := n) (shop.length - n)
    rw [show n + (shop.length - n) = shop.length by omega] at h1
    have := hF.2 M hM
    unfold leastM; omega
theorem least_one {shop : List (List (List Int))} (hp : ∀ j k, 0 ≤ stime shop j k) (h0 : 0 < shop.length) : leastM (shop.take 1) = stepsTo (stime shop) 0 (slen shop 0) := by
  have hl : (shop.take 1).length = 1 := by rw [List.length_take]; omega
  have h1 : ∀ M, onS (shop.take 1) 1 M ≤ stepsTo (stime shop) 0 (slen shop 0) := fun M => by
    rw [onS_take]
    unfold onS
    rw [stepsL, stepsL, List.nil_append]
    exact onM_job hp M 0 _
  have h2 : leastJ (shop.take 1) 1 = stepsTo (stime shop) 0 (slen shop 0) := by
    rw [leastJ, leastJ, slen_take (by omega), stepsTo_take (by omega)]
    have := stepsTo_nn hp 0 (slen shop 0)
    omega
  unfold leastM
  rw [hl, h2]
  have h3 := leastF_le (f := onS (shop.take 1) 1) (Int.le_refl (stepsTo (stime shop) 0 (slen shop 0))) 3 (fun M _ => h1 M)
  have h4 := (leastF_ge (onS (shop.take 1) 1) (stepsTo (stime shop) 0 (slen shop 0)) 3).1
  omega
end Go.Proofs.Ythmlgicjedhgfab
namespace Go.Proofs.Ythmlgicjedhgfab

/-- the time of m steps of a job from one on -/
def restTo (p : Nat → Nat → Int) (j k : Nat) : Nat → Int
  | 0 => 0
  | m + 1 => restTo p j k m + p j (k + m)
theorem restTo_eq (p : Nat → Nat → Int) (j k : Nat) : ∀ m, stepsTo p j k + restTo p j k m = stepsTo p j (k + m)
  | 0 => by rw [restTo]; simp
  | m + 1 => by rw [restTo, ← Nat.add_assoc, stepsTo, ← restTo_eq p j k m]; omega
theorem restTo_bd {p : Nat → Nat → Int} (hp : ∀ j k, 0 ≤ p j k ∧ p j k ≤ 9) (j k : Nat) : ∀ m : Nat, 0 ≤ restTo p j k m ∧ restTo p j k m ≤ 9 * (m : Int)
  | 0 => ⟨Int.le_refl _, Int.le_refl _⟩
  | m + 1 => by rw [restTo]; have := restTo_bd hp j k m; have := hp j (k + m); omega
def restW (shop : List (List (List Int))) (j k : Nat) : Int := restTo (stime shop) j k (slen shop j - k)
theorem restW_0 (shop : List (List (List Int))) (j : Nat) : restW shop j 0 = stepsTo (stime shop) j (slen shop j) := by
  have := restTo_eq (stime shop) j 0 (slen shop j)
  unfold restW
  rw [Nat.zero_add] at this
  rw [Nat.sub_zero, ← this, stepsTo]; omega
/-- the job whose steps that are left take the most time -/
def atM (shop : List (List (List Int))) (nx : Nat → Nat) : Nat → Int
  | 0 => -1
  | j + 1 => if nx j < slen shop j ∧ (atM shop nx j < 0 ∨ restW shop (atM shop nx j).toNat (nx (atM shop nx j).toNat) < restW shop j (nx j)) then (j : Int) else atM shop nx j
theorem atM_is (shop : List (List (List Int))) (nx : Nat → Nat) : ∀ n, (atM shop nx n = -1 ∧ ∀ j, j < n → slen shop j ≤ nx j) ∨
    ∃ q : Nat, atM shop nx n = (q : Int) ∧ q < n ∧ nx q < slen shop q ∧ ∀ j, j < n → nx j < slen shop j → restW shop j (nx j) ≤ restW shop q (nx q)
  | 0 => .inl ⟨rfl, fun j h => absurd h (by omega)⟩
  | n + 1 => by
    have ih := atM_is shop nx n
    rw [atM]
    by_cases h : nx n < slen shop n
    · rcases ih with ⟨h1, h2⟩ | ⟨q, h1, h2, h3, h4⟩
      · right
        rw [h1, if_pos ⟨h, .inl (by omega)⟩]
        refine ⟨n, rfl, by omega, h, fun j hj hl => ?_⟩
        rcases Nat.lt_or_ge j n with h5 | h5
        · have := h2 j h5; omega
        · obtain rfl : j = n := by omega
          exact Int.le_refl _
      · right
        rw [h1]
        by_cases hlt : restW shop q (nx q) < restW shop n (nx n)
        · rw [if_pos ⟨h, .inr (by simpa using hlt)⟩]
          refine ⟨n, rfl, by omega, h, fun j hj hl => ?_⟩
          rcases Nat.lt_or_ge j n with h5 | h5
          · have := h4 j h5 hl; omega
          · obtain rfl : j = n := by omega
            exact Int.le_refl _
        · rw [if_neg (fun hh => by
            rcases hh.2 with h6 | h6
            · omega
            · exact hlt (by simpa using h6))]
          refine ⟨q, rfl, by omega, h3, fun j hj hl => ?_⟩
          rcases Nat.lt_or_ge j n with h5 | h5
          · exact h4 j h5 hl
          · obtain rfl : j = n := by omega
            omega
    · rw [if_neg (fun hh => h hh.1)]
      rcases ih with ⟨h1, h2⟩ | ⟨q, h1, h2, h3, h4⟩
      · left
        refine ⟨h1, fun j hj => ?_⟩
        rcases Nat.lt_or_ge j n with h5 | h5
        · exact h2 j h5
        · obtain rfl : j = n := by omega
          omega
      · right
        refine ⟨q, h1, by omega, h3, fun j hj hl => ?_⟩
        rcases Nat.lt_or_ge j n with h5 | h5
        · exact h4 j h5 hl
        · obtain rfl : j = n := by omega
          omega
/-- how many steps are left -/
def leftN (shop : List (List (List Int))) (nx : Nat → Nat) : Nat → Nat
  | 0 => 0
  | n + 1 => leftN shop nx n + (slen shop n - nx n)
theorem leftN_same {shop : List (List (List Int))} {nx : Nat → Nat} {q v : Nat} : ∀ {n : Nat}, n ≤ q → leftN shop (setN nx q v) n = leftN shop nx n
  | 0, _ => rfl
  | n + 1, h => by rw [leftN, leftN, leftN_same (by omega), setN_ne _ _ (by omega)]
theorem leftN_put {shop : List (List (List Int))} {nx : Nat → Nat} {q : Nat} (hq : nx q < slen shop q) : ∀ {n : Nat}, q < n → leftN shop (setN nx q (nx q + 1)) n + 1 = leftN shop nx n
  | 0, h => absurd h (by omega)
  | n + 1, h => by
    rw [leftN, leftN]
    rcases Nat.lt_or_ge q n with h1 | h1
    · have := leftN_put hq h1
      rw [setN_ne _ _ (by omega)]; omega
    · obtain rfl : q = n := by omega
      rw [leftN_same (Nat.le_refl _), setN_at]; omega
theorem leftN_no {shop : List (List (List Int))} {nx : Nat → Nat} : ∀ {n : Nat}, leftN shop nx n = 0 → ∀ j, j < n → slen shop j ≤ nx j
  | 0, _, j, h => absurd h (by omega)
  | n + 1, e, j, h => by
    rw [leftN] at e
    rcases Nat.lt_or_ge j n with h1 | h1
    · exact leftN_no (by omega) j h1
    · obtain rfl : j = n := by omega
      omega
def mostRun (shop : List (List (List Int))) : Nat → (Nat → Nat) → List Nat
  | 0, _ => []
  | f + 1, nx => if atM shop nx shop.length < 0 then [] else (atM shop nx shop.length).toNat :: mostRun shop f (setN nx (atM shop nx shop.length).toNat (nx (atM shop nx shop.length).toNat + 1))
theorem mostRun_count {shop : List (List (List Int))} : ∀ (f : Nat) (nx : Nat → Nat), leftN shop nx shop.length ≤ f → (∀ j, j < shop.length → nx j ≤ slen shop j) →
    (∀ x ∈ mostRun shop f nx, x < shop.length) ∧ ∀ j, j < shop.length → (mostRun shop f nx).count j = slen shop j - nx j
  | 0, nx, hf, hn => ⟨fun x hx => by simp [mostRun] at hx, fun j hj => by
      have := leftN_no (Nat.le_zero.1 hf) j hj
      rw [mostRun]; simp; omega⟩
  | f + 1, nx, hf, hn => by
    rw [mostRun]
    rcases atM_is shop nx shop.length with ⟨h1, h2⟩ | ⟨q, h1, h2, h3, h4⟩
    · rw [h1, if_pos (by omega)]
      exact ⟨fun x hx => by simp at hx, fun j hj => by have := h2 j hj; simp; omega⟩
    · rw [h1, if_neg (by omega), show ((q : Int)).toNat = q from rfl]
      have hp := leftN_put h3 h2
      obtain ⟨g1, g2⟩ := mostRun_count (shop := shop) f (setN nx q (nx q + 1)) (by omega) (fun j hj => by
        by_cases e : j = q
        · subst e; rw [setN_at]; omega
        · rw [setN_ne _ _ e]; exact hn j hj)
      refine ⟨fun x hx => ?_, fun j hj => ?_⟩
      · rcases List.mem_cons.1 hx with rfl | hx
        · exact h2
        · exact g1 x hx
      · rw [List.count_cons, g2 j hj]
        by_cases e : j = q
        · subst e; rw [setN_at]; simp; omega
        · rw [setN_ne _ _ e]; have : (q == j) = false := by simp; omega
          rw [this]; simp
def mostM (shop : List (List (List Int))) : List Nat := mostRun shop (leftN shop (fun _ => 0) shop.length) (fun _ => 0)
theorem most_turns (shop : List (List (List Int))) : (∀ x ∈ mostM shop, x < shop.length) ∧ ∀ j, j < shop.length → (mostM shop).count j = slen shop j :=
  mostRun_count _ _ (Nat.le_refl _) (fun _ _ => Nat.zero_le _)
/-- the first one has the most work -/
theorem most_first {shop : List (List (List Int))} {q : Nat} {l : List Nat} (h : mostM shop = q :: l) (j : Nat) (hj : j < shop.length) (hl : 0 < slen shop j) : stepsTo (stime shop) j (slen shop j) ≤ stepsTo (stime shop) q (slen shop q) := by
  unfold mostM at h
  generalize leftN shop (fun _ => 0) shop.length = f at h
  cases f with
  | zero => simp [mostRun] at h
  | succ f =>
    rw [mostRun] at h
    rcases atM_is shop (fun _ => 0) shop.length with ⟨h1, h2⟩ | ⟨q', h1, h2, h3, h4⟩
    · rw [h1, if_pos (by omega)] at h; simp at h
    · rw [h1, if_neg (by omega), show ((q' : Int)).toNat = q' from rfl] at h
      injection h with h5 h6
      subst h5
      have := h4 j hj hl
      rw [restW_0, restW_0] at this
      exact this
def mostRes (shop : List (List (List Int))) : List Int := if shopM shop then (mostM shop).map (fun q : Nat => (q : Int)) else []
end Go.Proofs.Ythmlgicjedhgfab
namespace Go.Proofs.Ythmlgicjedhgfab

-- the best turns (plain)
/-- t has each job below n as often as left says -/
def TurnsOf (n : Nat) (left : Nat → Nat) (t : List Nat) : Prop := (∀ x ∈ t, x < n) ∧ ∀ j, j < n → t.count j = left j
/-- the lesser number at the first place where two differ, or the same -/
def lexLe : List Nat → List Nat → Prop
  | [], _ => True
  | _ :: _, [] => False
  | x :: l, y :: m => x < y ∨ (x = y ∧ lexLe l m)
theorem lexLe_refl : ∀ l : List Nat, lexLe l l
  | [] => trivial
  | _ :: l => .inr ⟨rfl, lexLe_refl l⟩
theorem lexLe_antisymm : ∀ {l m : List Nat}, l.length = m.length → lexLe l m → lexLe m l → l = m
  | [], [], _, _, _ => rfl
  | [], _ :: _, h, _, _ => by simp at h
  | _ :: _, [], h, _, _ => by simp at h
  | x :: l, y :: m, h, h1, h2 => by
    rcases h1 with h1 | ⟨rfl, h1⟩
    · rcases h2 with h2 | ⟨h2, _⟩ <;> omega
    · rcases h2 with h2 | ⟨_, h2⟩
      · omega
      · rw [lexLe_antisymm (by simpa using h) h1 h2]
theorem lexLe_append (h : List Nat) {l m : List Nat} : lexLe (h ++ l) (h ++ m) ↔ lexLe l m := by
  induction h with
  | nil => exact Iff.rfl
  | cons x h ih => rw [List.cons_append, List.cons_append, lexLe, ih]; simp
/-- l is the first one of the best: v its value -/
structure BestB (val : List Nat → Int) (n : Nat) (left : Nat → Nat) (l : List Nat) (v : Int) : Prop where
  turns : TurnsOf n left l
  value : val l = v
  least : ∀ m, TurnsOf n left m → v ≤ val m
  first : ∀ m, TurnsOf n left m → val m = v → lexLe l m
theorem turns_len {n : Nat} {left : Nat → Nat} : ∀ {l m : List Nat}, TurnsOf n left l → TurnsOf n left m → l.length = m.length := by
  intro l m h g
  have hp : l.Perm m := by
    refine List.perm_iff_count.2 (fun j => ?_)
    by_cases hj : j < n
    · rw [h.2 j hj, g.2 j hj]
    · rw [List.count_eq_zero.2 (fun hm => hj (h.1 j hm)), List.count_eq_zero.2 (fun hm => hj (g.1 j hm))]
  exact hp.length_eq
theorem BestB.uniq {val : List Nat → Int} {n : Nat} {left : Nat → Nat} {l m : List Nat} {u v : Int} (h : BestB val n left l u) (g : BestB val n left m v) : l = m ∧ u = v := by
  have e : u = v := by
    have h1 := h.least m g.turns
    have h2 := g.least l h.turns
    rw [g.value] at h1
    rw [h.value] at h2
    omega
  subst e
  exact ⟨lexLe_antisymm (turns_len h.turns g.turns) (h.first m g.turns g.value) (g.first l h.turns h.value), rfl⟩
/-- over the jobs below n that are left, the first of the least -/
def scanB (left : Nat → Nat) (g : Nat → List Nat × Int) : Nat → List Nat × Int
  | 0 => ([], -1)
  | j + 1 => if left j = 0 then scanB left g j else if (scanB left g j).2 < 0 ∨ (g j).2 < (scanB left g j).2 then g j else scanB left g j
theorem scanB_is {left : Nat → Nat} {g : Nat → List Nat × Int} (hg : ∀ j, left j ≠ 0 → 0 ≤ (g j).2) : ∀ n, ((∀ j, j < n → left j = 0) ∧ scanB left g n = ([], -1)) ∨
    ∃ j, j < n ∧ left j ≠ 0 ∧ scanB left g n = g j ∧ (∀ i, i < n → left i ≠ 0 → (g j).2 ≤ (g i).2) ∧ ∀ i, i < j → left i ≠ 0 → (g j).2 < (g i).2 := by
  intro n
  induction n with
  | zero => exact .inl ⟨fun j hj => by omega, rfl⟩
  | succ n ih =>
    rw [scanB]
    by_cases h0 : left n = 0
    · rw [if_pos h0]
      rcases ih with ⟨h1, h2⟩ | ⟨j, hj, h1, h2, h3, h4⟩
      · exact .inl ⟨fun j hj => by rcases Nat.lt_or_eq_of_le (Nat.le_of_lt_succ hj) with h | rfl
                                   · exact h1 j h
                                   · exact h0, h2⟩
      · exact .inr ⟨j, by omega, h1, h2, fun i hi hl => h3 i (by have : i ≠ n := fun e => hl (e ▸ h0); omega) hl, h4⟩
    · rw [if_neg h0]
      rcases ih with ⟨h1, h2⟩ | ⟨j, hj, h1, h2, h3, h4⟩
      · rw [if_pos (.inl (by rw [h2]; decide))]
        exact .inr ⟨n, by omega, h0, rfl, fun i hi hl => by
          rcases Nat.lt_or_eq_of_le (Nat.le_of_lt_succ hi) with h | rfl
          · exact absurd (h1 i h) hl
          · exact Int.le_refl _, fun i hi hl => absurd (h1 i hi) hl⟩
      · have hnn := hg j h1
        by_cases hlt : (g n).2 < (g j).2
        · rw [if_pos (.inr (by rw [h2]; exact hlt))]
          exact .inr ⟨n, by omega, h0, rfl, fun i hi hl => by
            rcases Nat.lt_or_eq_of_le (Nat.le_of_lt_succ hi) with h | rfl
            · have := h3 i h hl; omega
            · exact Int.le_refl _, fun i hi hl => by have := h3 i hi hl; omega⟩
        · rw [if_neg (by rw [h2]; omega), h2]
          exact .inr ⟨j, by omega, h1, rfl, fun i hi hl => by
            rcases Nat.lt_or_eq_of_le (Nat.le_of_lt_succ hi) with h | rfl
            · exact h3 i h hl
            · omega, h4⟩
def bestFS (val : List Nat → Int) (n : Nat) : Nat → List Nat → (Nat → Nat) → List Nat × Int
  | 0, h, _ => (h, val h)
  | f + 1, h, left => scanB left (fun j => bestFS val n f (h ++ [j]) (setN left j (left j - 1))) n
/-- so many are left -/
def sumLeft (left : Nat → Nat) : Nat → Nat
  | 0 => 0
  | n + 1 => sumLeft left n + left n
theorem sumLeft_set {left : Nat → Nat} {j : Nat} (hj : left j ≠ 0) : ∀ n, j < n → sumLeft (setN left j (left j - 1)) n + 1 = sumLeft left n := by
  intro n
  have same : ∀ k, k ≤ j → sumLeft (setN left j (left j - 1)) k = sumLeft left k := by
    intro k
    induction k with
    | zero => intro _; rfl
    | succ k ih => intro hk; rw [sumLeft, sumLeft, ih (by omega), setN_ne _ _ (by omega)]
  induction n with
  | zero => intro h; omega
  | succ n ih =>
    intro h
    rw [sumLeft, sumLeft]
    by_cases e : j = n
    · subst e; rw [same _ (Nat.le_refl _), setN_at]; omega
    · rw [setN_ne _ _ (by omega)]; have := ih (by omega); omega
theorem sumLeft_pos {left : Nat → Nat} : ∀ n, sumLeft left n ≠ 0 → ∃ j, j < n ∧ left j ≠ 0 := by
  intro n
  induction n with
  | zero => intro h; exact absurd rfl h
  | succ n ih =>
    intro h
    rw [sumLeft] at h
    by_cases e : left n = 0
    · obtain ⟨j, hj, h2⟩ := ih (by omega); exact ⟨j, by omega, h2⟩
    · exact ⟨n, by omega, e⟩
theorem sumLeft_zero {left : Nat → Nat} : ∀ n, sumLeft left n = 0 → ∀ j, j < n → left j = 0 := by
  intro n
  induction n with
  | zero => intro _ j hj; omega
  | succ n ih =>
    intro h j hj
    rw [sumLeft] at h
    rcases Nat.lt_or_eq_of_le (Nat.le_of_lt_succ hj) with h1 | rfl
    · exact ih (by omega) j h1
    · omega
theorem turns_cons {n : Nat} {left : Nat → Nat} {j : Nat} {t : List Nat} : TurnsOf n left (j :: t) ↔ j < n ∧ left j ≠ 0 ∧ TurnsOf n (setN left j (left j - 1)) t := by
  constructor
  · rintro ⟨h1, h2⟩
    have hj := h1 j (by simp)
    have hc := h2 j hj
    rw [List.count_cons_self] at hc
    refine ⟨hj, by omega, fun x hx => h1 x (by simp [hx]), fun i hi => ?_⟩
    have := h2 i hi
    by_cases e : i = j
    · subst e; rw [setN_at]; omega
    · rw [setN_ne _ _ e, ← this, List.count_cons_of_ne (fun h => e h.symm)]
  · rintro ⟨hj, h0, h1, h2⟩
    refine ⟨fun x hx => ?_, fun i hi => ?_⟩
    · rcases List.mem_cons.1 hx with rfl | hx
      · exact hj
      · exact h1 x hx
    · have := h2 i hi
      by_cases e : i = j
      · subst e; rw [setN_at] at this; rw [List.count_cons_self]; omega
      · rw [setN_ne _ _ e] at this; rw [List.count_cons_of_ne (fun h => e h.symm)]; exact this
theorem bestFS_is {val : List Nat → Int} (hv : ∀ l, 0 ≤ val l) {n : Nat} : ∀ f h left, sumLeft left n = f → ∃ t, bestFS val n f h left = (h ++ t, val (h ++ t)) ∧ TurnsOf n left t ∧
    (∀ m, TurnsOf n left m → val (h ++ t) ≤ val (h ++ m)) ∧ ∀ m, TurnsOf n left m → val (h ++ m) = val (h ++ t) → lexLe t m := by
  intro f
  induction f with
  | zero =>
    intro h left h0
    have hz := sumLeft_zero n h0
    have only : ∀ m, TurnsOf n left m → m = [] := by
      intro m hm
      cases m with
      | nil => rfl
      | cons x m => have h1 := (turns_cons.1 hm); exact absurd (hz x h1.1) h1.2.1
    refine ⟨[], by rw [bestFS, List.append_nil], ⟨fun x hx => (by cases hx), fun j hj => (hz j hj).symm⟩, fun m hm => by rw [only m hm]; exact Int.le_refl _, fun m _ _ => trivial⟩
  | succ f ih =>
    intro h left hf
    have hrec := fun j (hj : j < n) (h0 : left j ≠ 0) => ih (h ++ [j]) (setN left j (left j - 1)) (by have := sumLeft_set h0 n hj; omega)
    have hg : ∀ j, j < n → left j ≠ 0 → 0 ≤ (bestFS val n f (h ++ [j]) (setN left j (left j - 1))).2 := by
      intro j hj h0
      obtain ⟨t, e, _⟩ := hrec j hj h0
      rw [e]; exact hv _
    have hcong : ∀ k, k ≤ n → scanB left (fun j => bestFS val n f (h ++ [j]) (setN left j (left j - 1))) k = scanB left (fun j => if j < n then bestFS val n f (h ++ [j]) (setN left j (left j - 1)) else ([], 0)) k := by
      intro k
      induction k with
      | zero => intro _; rfl
      | succ k ihk =>
        intro hk
        rw [scanB, scanB, ihk (by omega)]
        simp only [show k < n by omega, if_true]
    rw [bestFS, hcong n (Nat.le_refl _)]
    rcases scanB_is (left := left) (g := fun j => if j < n then bestFS val n f (h ++ [j]) (setN left j (left j - 1)) else ([], 0)) (fun j h0 => by
      split
      · rename_i hj; exact hg j hj h0
      · exact Int.le_refl _) n with ⟨h1, _⟩ | ⟨j, hj, h1, h2, h3, h4⟩
    · obtain ⟨j, hj, h0⟩ := sumLeft_pos n (by omega : sumLeft left n ≠ 0)
      exact absurd (h1 j hj) h0
    · rw [h2]
      simp only [hj, if_true] at h3 h4 ⊢
      obtain ⟨t, e, e1, e2, e3⟩ := hrec j hj h1
      rw [e] at h3 h4 ⊢
      simp only [List.append_assoc, List.singleton_append] at e2 e3 h3 h4 ⊢
      refine ⟨j :: t, rfl, turns_cons.2 ⟨hj, h1, e1⟩, fun m hm => ?_, fun m hm hme => ?_⟩
      · cases m with
        | nil => have := hm.2 j hj; simp at this; omega
        | cons x m =>
          obtain ⟨hx, hx0, hm'⟩ := turns_cons.1 hm
          obtain ⟨u, f1, f2, f3, _⟩ := hrec x hx hx0
          have := h3 x hx hx0
          rw [if_pos hx, f1] at this
          have h5 := f3 m hm'
          simp only [List.append_assoc, List.singleton_append] at this h5
          omega
      · cases m with
        | nil => have := hm.2 j hj; simp at this; omega
        | cons x m =>
          obtain ⟨hx, hx0, hm'⟩ := turns_cons.1 hm
          obtain ⟨u, f1, f2, f3, _⟩ := hrec x hx hx0
          have h5 := f3 m hm'
          simp only [List.append_assoc, List.singleton_append] at h5
          rcases Nat.lt_trichotomy j x with hlt | rfl | hgt
          · exact .inl hlt
          · exact .inr ⟨rfl, e3 m hm' hme⟩
          · have := h4 x hgt hx0
            rw [if_pos hx, f1] at this
            simp only [List.append_assoc, List.singleton_append] at this
            omega
theorem bestFS_best {val : List Nat → Int} (hv : ∀ l, 0 ≤ val l) (n : Nat) (left : Nat → Nat) : BestB val n left (bestFS val n (sumLeft left n) [] left).1 (bestFS val n (sumLeft left n) [] left).2 := by
  obtain ⟨t, e, h1, h2, h3⟩ := bestFS_is hv (n := n) (sumLeft left n) [] left rfl
  rw [e]
  exact ⟨h1, rfl, h2, h3⟩
end Go.Proofs.Ythmlgicjedhgfab
namespace Go.Proofs.Ythmlgicjedhgfab

-- when steps begin, by rows (plain)
/-- row j, as it is known -/
def rowS (s : ShopS) (j : Nat) : List Int := tab (s.b j) (s.nx j)
def rowsS (s : ShopS) (n : Nat) : List (List Int) := (List.range n).map (rowS s)
theorem rowS_len (s : ShopS) (j : Nat) : (rowS s j).length = s.nx j := tab_length _ _
theorem rowsS_len (s : ShopS) (n : Nat) : (rowsS s n).length = n := by simp [rowsS]
theorem rowsS_get (s : ShopS) {n j : Nat} (h : j < n) : (rowsS s n)[j]? = some (rowS s j) := by simp [rowsS, h]
theorem tab_cong {f g : Nat → Int} {n : Nat} (h : ∀ q, q < n → f q = g q) : tab f n = tab g n := by
  induction n with
  | zero => rfl
  | succ n ih => rw [tab_succ, tab_succ, ih (fun q hq => h q (by omega)), h n (by omega)]
theorem rowS_turn (m : Nat → Nat → Nat) (p : Nat → Nat → Int) (s : ShopS) (j : Nat) : rowS (turnS m p s j) j = rowS s j ++ [beginS m s j] := by
  unfold rowS turnS
  simp only [setN_at]
  rw [tab_succ, setN_at]
  congr 1
  exact tab_cong fun q hq => setN_ne _ _ (by omega)
theorem rowS_other (m : Nat → Nat → Nat) (p : Nat → Nat → Int) (s : ShopS) {i j : Nat} (h : i ≠ j) : rowS (turnS m p s j) i = rowS s i := by
  unfold rowS turnS
  simp only
  rw [setN_ne _ _ h, setN_ne _ _ h]
theorem runS_bd {m : Nat → Nat → Nat} {p : Nat → Nat → Int} (hp : ∀ j k, 0 ≤ p j k ∧ p j k ≤ 9) (l : List Nat) : (runS m p shop0 l).all ≤ 9 * (l.length : Int) := by
  have key : ∀ r : List Nat, (runS m p shop0 r.reverse).all ≤ 9 * (r.length : Int) := by
    intro r
    induction r with
    | nil => exact Int.le_refl _
    | cons x r ih =>
      have hi := runS_inv (fun j k => (hp j k).1) r.reverse shop0 (shop0_inv m p)
      rw [List.reverse_cons, runS_snoc]
      generalize runS m p shop0 r.reverse = s at ih hi
      have h1 := hi.upR x
      have h2 := hi.upF (m x (s.nx x))
      have h3 := hp x (s.nx x)
      show max s.all (beginS m s x + p x (s.nx x)) ≤ _
      unfold beginS
      rw [List.length_cons]
      push_cast
      omega
  have := key l.reverse
  rwa [List.reverse_reverse, List.length_reverse] at this
end Go.Proofs.Ythmlgicjedhgfab
namespace Go.Proofs.Ythmlgicjedhgfab

-- turns as numbers of jobs (plain)
theorem len_sum {n : Nat} : ∀ l : List Nat, (∀ x ∈ l, x < n) → l.length = sumLeft (fun j => l.count j) n
  | [], _ => by
    induction n with
    | zero => rfl
    | succ n ih => rw [sumLeft]; simpa using ih
  | x :: l, h => by
    have h1 := sumLeft_set (left := fun j => (x :: l).count j) (j := x) (by simp) n (h x (by simp))
    have e : setN (fun j => (x :: l).count j) x ((x :: l).count x - 1) = fun j => l.count j := by
      funext j
      by_cases hj : j = x
      · subst hj; rw [setN_at]; simp
      · rw [setN_ne _ _ hj]; exact List.count_cons_of_ne (fun h => hj h.symm)
    rw [e, ← len_sum l (fun y hy => h y (by simp [hy]))] at h1
    rw [← h1]; rfl
theorem sumLeft_le {c : Nat} {f : Nat → Nat} : ∀ n, (∀ j, j < n → f j ≤ c) → sumLeft f n ≤ c * n
  | 0, _ => Nat.zero_le _
  | n + 1, h => by have := sumLeft_le n (fun j hj => h j (by omega)); have := h n (by omega); rw [sumLeft, Nat.mul_succ]; omega
theorem turnsOf_cnt {n : Nat} {left : Nat → Nat} {l : List Nat} (h : TurnsOf n left l) (j : Nat) : l.count j ≤ left j := by
  by_cases hj : j < n
  · exact Nat.le_of_eq (h.2 j hj)
  · rw [List.count_eq_zero.2 (fun hm => hj (h.1 j hm))]; exact Nat.zero_le _
theorem turnsOf_len {shop : List (List (List Int))} (hv : shopM shop = true) {l : List Nat} (h1 : ∀ x ∈ l, x < shop.length) (h2 : ∀ j, l.count j ≤ slen shop j) : l.length ≤ 9 := by
  rw [len_sum l h1]
  have h3 := (shop_get hv).1
  have h4 := sumLeft_le (c := 3) (f := fun j => l.count j) shop.length (fun j _ => Nat.le_trans (h2 j) (slen_le hv j))
  omega
theorem count_cast (l : List Nat) (j : Nat) : (l.map (fun x : Nat => (x : Int))).count (j : Int) = l.count j := by
  induction l with
  | nil => rfl
  | cons x l ih =>
    rw [List.map_cons]
    by_cases e : x = j
    · subst e; rw [List.count_cons_self, List.count_cons_self, ih]
    · rw [List.count_cons_of_ne (by omega), List.count_cons_of_ne e, ih]
theorem turns_list {shop : List (List (List Int))} {ts : List Int} (h : turnsM shop ts = true) : ∃ l : List Nat, ts = l.map (fun x : Nat => (x : Int)) ∧ TurnsOf shop.length (slen shop) l := by
  unfold turnsM at h
  rw [Bool.and_eq_true, List.all_eq_true, List.all_eq_true] at h
  have hb : ∀ x ∈ ts, 0 ≤ x ∧ x ≤ (shop.length : Int) - 1 := fun x hx => by simpa [inB] using h.1 x hx
  have e : ts = (ts.map Int.toNat).map (fun x : Nat => (x : Int)) := by
    rw [List.map_map]
    conv => lhs; rw [← List.map_id ts]
    exact List.map_congr_left fun x hx => by have := hb x hx; show x = ((x.toNat : Nat) : Int); omega
  refine ⟨ts.map Int.toNat, e, fun x hx => ?_, fun j hj => ?_⟩
  · obtain ⟨y, hy, rfl⟩ := List.mem_map.1 hx
    have := hb y hy; omega
  · have := of_decide_eq_true (h.2 j (List.mem_range.2 hj))
    rw [e, count_cast] at this
    exact this
theorem list_turns {shop : List (List (List Int))} {l : List Nat} (h : TurnsOf shop.length (slen shop) l) : turnsM shop (l.map (fun x : Nat => (x : Int))) = true := by
  refine turns_mk (List.all_eq_true.2 fun x hx => ?_) (fun j hj => by rw [count_cast]; exact h.2 j hj)
  obtain ⟨y, hy, rfl⟩ := List.mem_map.1 hx
  have := h.1 y hy
  simp [inB]; omega
/-- when the steps begin, and when all are done, by turns -/
def runOf (shop : List (List (List Int))) (ts : List Int) : ShopS := runS (smach shop) (stime shop) shop0 (ts.map Int.toNat)
def timesRows (shop : List (List (List Int))) (ts : List Int) : List (List Int) := if shopM shop && turnsM shop ts then rowsS (runOf shop ts) shop.length else []
def timesN (shop : List (List (List Int))) (ts : List Int) : Int := if shopM shop && turnsM shop ts then (runOf shop ts).all else -1
theorem toNat_cast (l : List Nat) : (l.map (fun x : Nat => (x : Int))).map Int.toNat = l := by
  rw [List.map_map]; conv => rhs; rw [← List.map_id l]
  exact List.map_congr_left fun x _ => by show ((x : Int)).toNat = x; omega
end Go.Proofs.Ythmlgicjedhgfab
