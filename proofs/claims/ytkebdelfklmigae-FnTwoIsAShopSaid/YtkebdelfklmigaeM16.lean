import Derived.Test.YtkebdelfklmigaeM12
import Derived.Test.YtkebdelfklmigaeRows
import Derived.WalkKit
import Derived.LoopTactic
import Derived.Outline
import Derived.WalkSpells
import Derived.WalkLawsBesides
import Derived.ProofKit
import Derived.Lib.Hide
import Derived.IntWalk
import Derived.Test.YtkebdelfklmigaeM0
import Derived.Test.YtkebdelfklmigaeM14
import Derived.Test.YtkebdelfklmigaeM15
import Derived.Test.YtkebdelfklmigaeM2
import Derived.Test.YtkebdelfklmigaeM4
import Derived.Test.YtkebdelfklmigaeM7
namespace Go.Proofs.Ytkebdelfklmigae

/-- the steps of a job, and those of the first jobs -/
def stepsJ (j k : Nat) : List (Nat × Nat) := (List.range k).map (fun x => (j, x))
def stepsL (shop : List (List (List Int))) : Nat → List (Nat × Nat)
  | 0 => []
  | n + 1 => stepsL shop n ++ stepsJ n (slen shop n)
theorem stepsJ_succ (j k : Nat) : stepsJ j (k + 1) = stepsJ j k ++ [(j, k)] := by simp [stepsJ, List.range_succ]
theorem stepsJ_mem {j k : Nat} {x : Nat × Nat} : x ∈ stepsJ j k ↔ x.1 = j ∧ x.2 < k := by
  simp only [stepsJ, List.mem_map, List.mem_range]
  constructor
  · rintro ⟨y, hy, rfl⟩; exact ⟨rfl, hy⟩
  · rintro ⟨rfl, h⟩; exact ⟨x.2, h, rfl⟩
theorem stepsL_mem {shop : List (List (List Int))} : ∀ {n : Nat} {x : Nat × Nat}, x ∈ stepsL shop n ↔ x.1 < n ∧ x.2 < slen shop x.1 := by
  intro n x
  induction n with
  | zero => simp [stepsL]
  | succ n ih =>
    rw [stepsL, List.mem_append, ih, stepsJ_mem]
    constructor
    · rintro (h | h)
      · exact ⟨by omega, h.2⟩
      · obtain ⟨h1, h2⟩ := h
        subst h1; exact ⟨by omega, h2⟩
    · rintro ⟨h1, h2⟩
      by_cases e : x.1 = n
      · right; exact ⟨e, by rw [← e]; exact h2⟩
      · left; exact ⟨by omega, h2⟩
theorem stepsJ_nodup (j k : Nat) : (stepsJ j k).Nodup :=
  List.pairwise_map.2 (List.nodup_range.imp (fun {x y} h e => h (by injection e)))
theorem stepsL_nodup (shop : List (List (List Int))) : ∀ n, (stepsL shop n).Nodup
  | 0 => List.nodup_nil
  | n + 1 => List.nodup_append.2 ⟨stepsL_nodup shop n, stepsJ_nodup _ _, fun x hx y hy e => by
      subst e
      have h1 := (stepsL_mem.1 hx).1
      have h2 := (stepsJ_mem.1 hy).1
      omega⟩
theorem onM_snoc (m : Nat → Nat → Nat) (p : Nat → Nat → Int) (M : Nat) (l : List (Nat × Nat)) (x : Nat × Nat) : onM m p M (l ++ [x]) = onM m p M l + (if m x.1 x.2 = M then p x.1 x.2 else 0) := by
  rw [onM_append, onM, onM, Int.add_zero]
theorem onM_nn {m : Nat → Nat → Nat} {p : Nat → Nat → Int} (hp : ∀ j k, 0 ≤ p j k) (M : Nat) : ∀ l, 0 ≤ onM m p M l
  | [] => Int.le_refl _
  | x :: l => by rw [onM]; have := onM_nn hp M l (m := m); have := hp x.1 x.2; split <;> omega
theorem onM_job {m : Nat → Nat → Nat} {p : Nat → Nat → Int} (hp : ∀ j k, 0 ≤ p j k) (M j : Nat) : ∀ k, onM m p M (stepsJ j k) ≤ stepsTo p j k
  | 0 => Int.le_refl _
  | k + 1 => by
    rw [stepsJ_succ, onM_snoc, stepsTo]
    have := onM_job hp (m := m) M j k
    have := hp j k
    show _ + (if m j k = M then p j k else 0) ≤ _
    split <;> omega
theorem stepsTo_nn {p : Nat → Nat → Int} (hp : ∀ j k, 0 ≤ p j k) (j : Nat) : ∀ k, 0 ≤ stepsTo p j k
  | 0 => Int.le_refl _
  | k + 1 => by rw [stepsTo]; have := stepsTo_nn hp j k; have := hp j k; omega
/-- the greatest time of a job -/
def leastJ (shop : List (List (List Int))) : Nat → Int
  | 0 => 0
  | n + 1 => max (leastJ shop n) (stepsTo (stime shop) n (slen shop n))
def leastF (f : Nat → Int) (c : Int) : Nat → Int
  | 0 => c
  | M + 1 => max (leastF f c M) (f M)
def onS (shop : List (List (List Int))) (n M : Nat) : Int := onM (smach shop) (stime shop) M (stepsL shop n)
def leastM (shop : List (List (List Int))) : Int := leastF (onS shop shop.length) (leastJ shop shop.length) 3
theorem leastF_le {f : Nat → Int} {c v : Int} (hc : c ≤ v) : ∀ n, (∀ M, M < n → f M ≤ v) → leastF f c n ≤ v
  | 0, _ => hc
  | n + 1, h => by
    rw [leastF]
    have := leastF_le hc n (fun M hM => h M (by omega))
    have := h n (by omega)
    omega
theorem leastF_ge (f : Nat → Int) (c : Int) : ∀ n, c ≤ leastF f c n ∧ ∀ M, M < n → f M ≤ leastF f c n
  | 0 => ⟨Int.le_refl _, fun M h => absurd h (by omega)⟩
  | n + 1 => by
    obtain ⟨h1, h2⟩ := leastF_ge f c n
    rw [leastF]
    refine ⟨by omega, fun M hM => ?_⟩
    rcases Nat.lt_or_ge M n with h | h
    · have := h2 M h; omega
    · obtain rfl : M = n := by omega
      omega
theorem leastJ_le {shop : List (List (List Int))} {v : Int} (h0 : 0 ≤ v) : ∀ n, (∀ j, j < n → stepsTo (stime shop) j (slen shop j) ≤ v) → leastJ shop n ≤ v
  | 0, _ => h0
  | n + 1, h => by
    rw [leastJ]
    have := leastJ_le h0 n (fun M hM => h M (by omega))
    have := h n (by omega)
    omega
theorem leastJ_ge (shop : List (List (List Int))) : ∀ n, 0 ≤ leastJ shop n ∧ ∀ j, j < n → stepsTo (stime shop) j (slen shop j) ≤ leastJ shop n
  | 0 => ⟨Int.le_refl _, fun M h => absurd h (by omega)⟩
  | n + 1 => by
    obtain ⟨h1, h2⟩ := leastJ_ge shop n
    rw [leastJ]
    refine ⟨by omega, fun M hM => ?_⟩
    rcases Nat.lt_or_ge M n with h | h
    · have := h2 M h; omega
    · obtain rfl : M = n := by omega
      omega
theorem leastM_nn (shop : List (List (List Int))) : 0 ≤ leastM shop := by
  have := (leastF_ge (onS shop shop.length) (leastJ shop shop.length) 3).1
  have := (leastJ_ge shop shop.length).1
  unfold leastM; omega
/-- a shop is done no earlier -/
theorem least_all {shop : List (List (List Int))} {s : ShopS} (h : ShopI (smach shop) (stime shop) s) (hx : ∀ j, s.nx j = slen shop j) : leastM shop ≤ s.all := by
  refine leastF_le (leastJ_le h.nn.1 _ (fun j _ => ?_)) _ (fun M _ => ?_)
  · have h1 := h.work j
    have h2 := h.upR j
    rw [hx] at h1; omega
  · have hp : s.done.Perm (stepsL shop shop.length) := by
      refine (List.perm_ext_iff_of_nodup h.nod (stepsL_nodup shop _)).2 (fun x => ?_)
      rw [stepsL_mem]
      have := h.mem x.1 x.2
      rw [hx] at this
      rw [show x = (x.1, x.2) from rfl, this]
      constructor
      · intro hk
        refine ⟨?_, hk⟩
        rcases Nat.lt_or_ge x.1 shop.length with h | h
        · exact h
        · unfold slen at hk; rw [List.getD_eq_getElem?_getD, List.getElem?_eq_none h] at hk; simp at hk
      · exact fun h => h.2
    have h1 := h.mach M
    have h2 := h.upF M
    unfold onS
    rw [← onM_perm hp]; omega
-- how great they are
theorem onM_le {m : Nat → Nat → Nat} {p : Nat → Nat → Int} (hp : ∀ j k, 0 ≤ p j k ∧ p j k ≤ 9) (M : Nat) : ∀ l : List (Nat × Nat), onM m p M l ≤ 9 * (l.length : Int)
  | [] => Int.le_refl _
  | x :: l => by rw [onM, List.length_cons]; have := onM_le hp M l (m := m); have := hp x.1 x.2; split <;> omega
theorem stepsTo_le {p : Nat → Nat → Int} (hp : ∀ j k, 0 ≤ p j k ∧ p j k ≤ 9) (j : Nat) : ∀ k : Nat, stepsTo p j k ≤ 9 * (k : Int)
  | 0 => Int.le_refl _
  | k + 1 => by rw [stepsTo]; have := stepsTo_le hp j k; have := hp j k; omega
theorem stepsL_len {shop : List (List (List Int))} (h : ∀ j, slen shop j ≤ 3) : ∀ n, (stepsL shop n).length ≤ 3 * n
  | 0 => Nat.le_refl _
  | n + 1 => by rw [stepsL, List.length_append, stepsJ, List.length_map, List.length_range]; have := stepsL_len h n; have := h n; omega
theorem on_bd {shop : List (List (List Int))} (hv : shopM shop = true) {n k : Nat} (hn : n ≤ 3) (hk : k ≤ 3) (M : Nat) : 0 ≤ onM (smach shop) (stime shop) M (stepsL shop n ++ stepsJ n k) ∧ onM (smach shop) (stime shop) M (stepsL shop n ++ stepsJ n k) ≤ 108 := by
  refine ⟨onM_nn (fun j k => (stime_bd hv j k).1) _ _, ?_⟩
  have h1 := onM_le (m := smach shop) (fun j k => stime_bd hv j k) M (stepsL shop n ++ stepsJ n k)
  have h2 := stepsL_len (shop := shop) (slen_le hv) n
  rw [List.length_append, show (stepsJ n k).length = k by simp [stepsJ]] at h1
  omega
theorem leastJ_bd {shop : List (List (List Int))} (hv : shopM shop = true) (n : Nat) : 0 ≤ leastJ shop n ∧ leastJ shop n ≤ 27 :=
  ⟨(leastJ_ge shop n).1, leastJ_le (by omega) _ (fun j _ => by have := stepsTo_le (fun j k => stime_bd hv j k) j (slen shop j); have := slen_le hv j; omega)⟩
-- shops cut
theorem take_getD {α : Type} {l : List α} {n j : Nat} {d : α} (h : j < n) : (l.take n).getD j d = l.getD j d := by
  rw [List.getD_eq_getElem?_getD, List.getD_eq_getElem?_getD, List.getElem?_take, if_pos h]
theorem slen_take {shop : List (List (List Int))} {n j : Nat} (h : j < n) : slen (shop.take n) j = slen shop j := by unfold slen; rw [take_getD h]
theorem stime_take {shop : List (List (List Int))} {n j : Nat} (h : j < n) (k : Nat) : stime (shop.take n) j k = stime shop j k := by unfold stime; rw [take_getD h]
theorem smach_take {shop : List (List (List Int))} {n j : Nat} (h : j < n) (k : Nat) : smach (shop.take n) j k = smach shop j k := by unfold smach; rw [take_getD h]
theorem stepsTo_take {shop : List (List (List Int))} {n j : Nat} (h : j < n) : ∀ k, stepsTo (stime (shop.take n)) j k = stepsTo (stime shop) j k
  | 0 => rfl
  | k + 1 => by rw [stepsTo, stepsTo, stepsTo_take h k, stime_take h]
theorem stepsL_take {shop : List (List (List Int))} {n : Nat} : ∀ m, m ≤ n → stepsL (shop.take n) m = stepsL shop m
  | 0, _ => rfl
  | m + 1, h => by rw [stepsL, stepsL, stepsL_take m (by omega), slen_take (by omega)]
theorem onM_congr {m m' : Nat → Nat → Nat} {p p' : Nat → Nat → Int} {M : Nat} : ∀ {l : List (Nat × Nat)}, (∀ x ∈ l, m x.1 x.2 = m' x.1 x.2 ∧ p x.1 x.2 = p' x.1 x.2) → onM m p M l = onM m' p' M l
  | [], _ => rfl
  | x :: l, h => by
    rw [onM, onM, onM_congr (fun y hy => h y (by simp [hy])), (h x (by simp)).1, (h x (by simp)).2]
theorem onS_take {shop : List (List (List Int))} {n : Nat} (M : Nat) : onS (shop.take n) n M = onS shop n M := by
  unfold onS
  rw [stepsL_take n (Nat.le_refl _)]
  refine onM_congr (fun x hx => ?_)
  have := (stepsL_mem.1 hx).1
  exact ⟨smach_take this _, stime_take this _⟩
theorem onS_mono {shop : List (List (List Int))} (hp : ∀ j k, 0 ≤ stime shop j k) (M : Nat) {n : Nat} : ∀ d, onS shop n M ≤ onS shop (n + d) M
  | 0 => Int.le_refl _
  | d + 1 => by
    have h1 := onS_mono hp M (n := n) d
    unfold onS at *
    rw [show n + (d + 1) = n + d + 1 by omega, stepsL, onM_append]
    have := onM_nn (m := smach shop) hp M (stepsJ (n + d) (slen shop (n + d)))
    omega
theorem least_take {shop : List (List (List Int))} (hp : ∀ j k, 0 ≤ stime shop j k) {n : Nat} (hn : n ≤ shop.length) : leastM (shop.take n) ≤ leastM shop := by
  have hl : (shop.take n).length = n := by rw [List.length_take]; omega
  have hJ := leastJ_ge shop shop.length
  have hF := leastF_ge (onS shop shop.length) (leastJ shop shop.length) 3
  refine leastF_le (leastJ_le (leastM_nn _) _ (fun j hj => ?_)) _ (fun M hM => ?_)
  · rw [hl] at hj
    rw [slen_take hj, stepsTo_take hj]
    have := hJ.2 j (by omega)
    unfold leastM; omega
  · rw [hl, onS_take]
    have h1 := onS_mono hp M (n := n) (shop.length - n)
    rw [show n + (shop.length - n) = shop.length by omega] at h1
    have := hF.2 M hM
    unfold leastM; omega
theorem least_one {shop : List (List (List Int))} (hp : ∀ j k, 0 ≤ stime shop j k) (h0 : 0 < shop.length) : leastM (shop.take 1) = stepsTo (stime shop) 0 (slen shop 0) := by
  have hl : (shop.take 1).length = 1 := by rw [List.length_take]; omega
  have h1 : ∀ M, onS (shop.take 1) 1 M ≤ stepsTo (stime shop) 0 (slen shop 0) := fun M => by
    rw [onS_take]
    unfold onS
    rw [stepsL, stepsL, List.nil_append]
    exact onM_job hp M 0 _
  have h2 : leastJ (shop.take 1) 1 = stepsTo (stime shop) 0 (slen shop 0) := by
    rw [leastJ, leastJ, slen_take (by omega), stepsTo_take (by omega)]
    have := stepsTo_nn hp 0 (slen shop 0)
    omega
  unfold leastM
  rw [hl, h2]
  have h3 := leastF_le (f := onS (shop.take 1) 1) (Int.le_refl (stepsTo (stime shop) 0 (slen shop 0))) 3 (fun M _ => h1 M)
  have h4 := (leastF_ge (onS (shop.take 1) 1) (stepsTo (stime shop) 0 (slen shop 0)) 3).1
  omega
end Go.Proofs.Ytkebdelfklmigae
namespace Go.Proofs.Ytkebdelfklmigae

/-- the time of m steps of a job from one on -/
def restTo (p : Nat → Nat → Int) (j k : Nat) : Nat → Int
  | 0 => 0
  | m + 1 => restTo p j k m + p j (k + m)
theorem restTo_eq (p : Nat → Nat → Int) (j k : Nat) : ∀ m, stepsTo p j k + restTo p j k m = stepsTo p j (k + m)
  | 0 => by rw [restTo]; simp
  | m + 1 => by rw [restTo, ← Nat.add_assoc, stepsTo, ← restTo_eq p j k m]; omega
theorem restTo_bd {p : Nat → Nat → Int} (hp : ∀ j k, 0 ≤ p j k ∧ p j k ≤ 9) (j k : Nat) : ∀ m : Nat, 0 ≤ restTo p j k m ∧ restTo p j k m ≤ 9 * (m : Int)
  | 0 => ⟨Int.le_refl _, Int.le_refl _⟩
  | m + 1 => by rw [restTo]; have := restTo_bd hp j k m; have := hp j (k + m); omega
def restW (shop : List (List (List Int))) (j k : Nat) : Int := restTo (stime shop) j k (slen shop j - k)
theorem restW_0 (shop : List (List (List Int))) (j : Nat) : restW shop j 0 = stepsTo (stime shop) j (slen shop j) := by
  have := restTo_eq (stime shop) j 0 (slen shop j)
  unfold restW
  rw [Nat.zero_add] at this
  rw [Nat.sub_zero, ← this, stepsTo]; omega
/-- the job whose steps that are left take the most time -/
def atM (shop : List (List (List Int))) (nx : Nat → Nat) : Nat → Int
  | 0 => -1
  | j + 1 => if nx j < slen shop j ∧ (atM shop nx j < 0 ∨ restW shop (atM shop nx j).toNat (nx (atM shop nx j).toNat) < restW shop j (nx j)) then (j : Int) else atM shop nx j
theorem atM_is (shop : List (List (List Int))) (nx : Nat → Nat) : ∀ n, (atM shop nx n = -1 ∧ ∀ j, j < n → slen shop j ≤ nx j) ∨
    ∃ q : Nat, atM shop nx n = (q : Int) ∧ q < n ∧ nx q < slen shop q ∧ ∀ j, j < n → nx j < slen shop j → restW shop j (nx j) ≤ restW shop q (nx q)
  | 0 => .inl ⟨rfl, fun j h => absurd h (by omega)⟩
  | n + 1 => by
    have ih := atM_is shop nx n
    rw [atM]
    by_cases h : nx n < slen shop n
    · rcases ih with ⟨h1, h2⟩ | ⟨q, h1, h2, h3, h4⟩
      · right
        rw [h1, if_pos ⟨h, .inl (by omega)⟩]
        refine ⟨n, rfl, by omega, h, fun j hj hl => ?_⟩
        rcases Nat.lt_or_ge j n with h5 | h5
        · have := h2 j h5; omega
        · obtain rfl : j = n := by omega
          exact Int.le_refl _
      · right
        rw [h1]
        by_cases hlt : restW shop q (nx q) < restW shop n (nx n)
        · rw [if_pos ⟨h, .inr (by simpa using hlt)⟩]
          refine ⟨n, rfl, by omega, h, fun j hj hl => ?_⟩
          rcases Nat.lt_or_ge j n with h5 | h5
          · have := h4 j h5 hl; omega
          · obtain rfl : j = n := by omega
            exact Int.le_refl _
        · rw [if_neg (fun hh => by
            rcases hh.2 with h6 | h6
            · omega
            · exact hlt (by simpa using h6))]
          refine ⟨q, rfl, by omega, h3, fun j hj hl => ?_⟩
          rcases Nat.lt_or_ge j n with h5 | h5
          · exact h4 j h5 hl
          · obtain rfl : j = n := by omega
            omega
    · rw [if_neg (fun hh => h hh.1)]
      rcases ih with ⟨h1, h2⟩ | ⟨q, h1, h2, h3, h4⟩
      · left
        refine ⟨h1, fun j hj => ?_⟩
        rcases Nat.lt_or_ge j n with h5 | h5
        · exact h2 j h5
        · obtain rfl : j = n := by omega
          omega
      · right
        refine ⟨q, h1, by omega, h3, fun j hj hl => ?_⟩
        rcases Nat.lt_or_ge j n with h5 | h5
        · exact h4 j h5 hl
        · obtain rfl : j = n := by omega
          omega
/-- how many steps are left -/
def leftN (shop : List (List (List Int))) (nx : Nat → Nat) : Nat → Nat
  | 0 => 0
  | n + 1 => leftN shop nx n + (slen shop n - nx n)
theorem leftN_same {shop : List (List (List Int))} {nx : Nat → Nat} {q v : Nat} : ∀ {n : Nat}, n ≤ q → leftN shop (setN nx q v) n = leftN shop nx n
  | 0, _ => rfl
  | n + 1, h => by rw [leftN, leftN, leftN_same (by omega), setN_ne _ _ (by omega)]
theorem leftN_put {shop : List (List (List Int))} {nx : Nat → Nat} {q : Nat} (hq : nx q < slen shop q) : ∀ {n : Nat}, q < n → leftN shop (setN nx q (nx q + 1)) n + 1 = leftN shop nx n
  | 0, h => absurd h (by omega)
  | n + 1, h => by
    rw [leftN, leftN]
    rcases Nat.lt_or_ge q n with h1 | h1
    · have := leftN_put hq h1
      rw [setN_ne _ _ (by omega)]; omega
    · obtain rfl : q = n := by omega
      rw [leftN_same (Nat.le_refl _), setN_at]; omega
theorem leftN_no {shop : List (List (List Int))} {nx : Nat → Nat} : ∀ {n : Nat}, leftN shop nx n = 0 → ∀ j, j < n → slen shop j ≤ nx j
  | 0, _, j, h => absurd h (by omega)
  | n + 1, e, j, h => by
    rw [leftN] at e
    rcases Nat.lt_or_ge j n with h1 | h1
    · exact leftN_no (by omega) j h1
    · obtain rfl : j = n := by omega
      omega
def mostRun (shop : List (List (List Int))) : Nat → (Nat → Nat) → List Nat
  | 0, _ => []
  | f + 1, nx => if atM shop nx shop.length < 0 then [] else (atM shop nx shop.length).toNat :: mostRun shop f (setN nx (atM shop nx shop.length).toNat (nx (atM shop nx shop.length).toNat + 1))
theorem mostRun_count {shop : List (List (List Int))} : ∀ (f : Nat) (nx : Nat → Nat), leftN shop nx shop.length ≤ f → (∀ j, j < shop.length → nx j ≤ slen shop j) →
    (∀ x ∈ mostRun shop f nx, x < shop.length) ∧ ∀ j, j < shop.length → (mostRun shop f nx).count j = slen shop j - nx j
  | 0, nx, hf, hn => ⟨fun x hx => by simp [mostRun] at hx, fun j hj => by
      have := leftN_no (Nat.le_zero.1 hf) j hj
      rw [mostRun]; simp; omega⟩
  | f + 1, nx, hf, hn => by
    rw [mostRun]
    rcases atM_is shop nx shop.length with ⟨h1, h2⟩ | ⟨q, h1, h2, h3, h4⟩
    · rw [h1, if_pos (by omega)]
      exact ⟨fun x hx => by simp at hx, fun j hj => by have := h2 j hj; simp; omega⟩
    · rw [h1, if_neg (by omega), show ((q : Int)).toNat = q from rfl]
      have hp := leftN_put h3 h2
      obtain ⟨g1, g2⟩ := mostRun_count (shop := shop) f (setN nx q (nx q + 1)) (by omega) (fun j hj => by
        by_cases e : j = q
        · subst e; rw [setN_at]; omega
        · rw [setN_ne _ _ e]; exact hn j hj)
      refine ⟨fun x hx => ?_, fun j hj => ?_⟩
      · rcases List.mem_cons.1 hx with rfl | hx
        · exact h2
        · exact g1 x hx
      · rw [List.count_cons, g2 j hj]
        by_cases e : j = q
        · subst e; rw [setN_at]; simp; omega
        · rw [setN_ne _ _ e]; have : (q == j) = false := by simp; omega
          rw [this]; simp
def mostM (shop : List (List (List Int))) : List Nat := mostRun shop (leftN shop (fun _ => 0) shop.length) (fun _ => 0)
theorem most_turns (shop : List (List (List Int))) : (∀ x ∈ mostM shop, x < shop.length) ∧ ∀ j, j < shop.length → (mostM shop).count j = slen shop j :=
  mostRun_count _ _ (Nat.le_refl _) (fun _ _ => Nat.zero_le _)
/-- the first one has the most work -/
theorem most_first {shop : List (List (List Int))} {q : Nat} {l : List Nat} (h : mostM shop = q :: l) (j : Nat) (hj : j < shop.length) (hl : 0 < slen shop j) : stepsTo (stime shop) j (slen shop j) ≤ stepsTo (stime shop) q (slen shop q) := by
  unfold mostM at h
  generalize leftN shop (fun _ => 0) shop.length = f at h
  cases f with
  | zero => simp [mostRun] at h
  | succ f =>
    rw [mostRun] at h
    rcases atM_is shop (fun _ => 0) shop.length with ⟨h1, h2⟩ | ⟨q', h1, h2, h3, h4⟩
    · rw [h1, if_pos (by omega)] at h; simp at h
    · rw [h1, if_neg (by omega), show ((q' : Int)).toNat = q' from rfl] at h
      injection h with h5 h6
      subst h5
      have := h4 j hj hl
      rw [restW_0, restW_0] at this
      exact this
def mostRes (shop : List (List (List Int))) : List Int := if shopM shop then (mostM shop).map (fun q : Nat => (q : Int)) else []
end Go.Proofs.Ytkebdelfklmigae
namespace Go.Proofs.Ytkebdelfklmigae
open Go.RowKit Go.WideShapes

def mE1 (x : Int) : Int := if 0 < x then x else 0
def mE2 (x y : Int) : Int := if mE1 x < y then y else mE1 x
def mE3 (x y z : Int) : Int := if mE2 x y < z then z else mE2 x y
def mxE (x y z : Int) : Nat → Int
  | 0 => 0
  | 1 => mE1 x
  | 2 => mE2 x y
  | _ => mE3 x y z
theorem mxE_is {x y z : Int} : mxE x y z 3 = max (max (max 0 x) y) z := by
  have h1 : mE1 x = max 0 x := by unfold mE1; split <;> omega
  have h2 : mE2 x y = max (max 0 x) y := by unfold mE2; rw [h1]; split <;> omega
  show mE3 x y z = _
  unfold mE3
  rw [h2]; split <;> omega
set_option maxRecDepth 100000 in
set_option maxHeartbeats 4000000 in
theorem planEnd_any {w : World} {D : PD} {shop : List (List (List Int))} {v : Value} {l : List Nat} (h : PlanAt w D shop v l) (hv : shopM shop = true) :
    Calls Try.prog 71 #[.pointer (some ⟨D.P, 0, none⟩)] w (DrewPost w (.int .i64 (runS (smach shop) (stime shop) shop0 l).all)) := by
  have h9 := h.len hv
  obtain ⟨⟨bg, on, hm, hbg, hon⟩, hown, htop, hjobs, hcnt⟩ := h
  obtain ⟨_, _, c2, c3, c4, _⟩ := hm.cells
  have so := fun M => stepOk_last (D := D) hv hbg h9 hjobs hcnt M
  have HALL := Lib.hid (last_all (p := stime shop) (fun j k => (stime_bd hv j k).1) (smach_lt hv) l)
  have hE : ∀ M W, Drew w W → Calls Try.prog 79 #[.pointer (D.addr (lastL (smach shop) l M))] W fun e w' => e = .returned (.int .i64 (endV (stime shop) bg (lastL (smach shop) l M))) ∧ ∃ m, w' = W.drewN m := fun M W hd => stepEnd_any (hm.drew hd) hv _ (so M)
  have b0 := endV_bd hv (so 0)
  have b1 := endV_bd hv (so 1)
  have b2 := endV_bd hv (so 2)
  have HE0 := Lib.hid (hE 0)
  have HE1 := Lib.hid (hE 1)
  have HE2 := Lib.hid (hE 2)
  rw [← endV_cong hbg 0, ← endV_cong hbg 1, ← endV_cong hbg 2, ← mxE_is] at HALL
  unfold PD.ptr at c2 c3 c4
  clear hE so hm hown hbg hon hjobs hcnt htop
  generalize endV (stime shop) bg (lastL (smach shop) l 0) = x at *
  generalize endV (stime shop) bg (lastL (smach shop) l 1) = y at *
  generalize endV (stime shop) bg (lastL (smach shop) l 2) = z at *
  generalize D.addr (lastL (smach shop) l 0) = a0 at *
  generalize D.addr (lastL (smach shop) l 1) = a1 at *
  generalize D.addr (lastL (smach shop) l 2) = a2 at *
  generalize D.P = P at *
  rw [HALL.out]
  clear HALL
  have i0 : ∀ w, (Instr.index 99 (.agg #[.pointer a0, .pointer a1, .pointer a2]) (.int .i64 0)).run Try.prog w = .ok (.pointer a0) w := fun _ => by kernel_rfl
  have i1 : ∀ w, (Instr.index 99 (.agg #[.pointer a0, .pointer a1, .pointer a2]) (.int .i64 1)).run Try.prog w = .ok (.pointer a1) w := fun _ => by kernel_rfl
  have i2 : ∀ w, (Instr.index 99 (.agg #[.pointer a0, .pointer a1, .pointer a2]) (.int .i64 2)).run Try.prog w = .ok (.pointer a2) w := fun _ => by kernel_rfl
  go_enter Try.func71, Try.ntmps71
  go_wp2_with fail
  go_loopw [3, 10] (fun o i wr => ∃ k : Nat, k ≤ 3 ∧ i = .int .i64 k ∧ o = .int .i64 (mxE x y z k) ∧ Drew w wr) (fun _ i _ => 3 - (intOf i).toNat)
  case atStart => exact ⟨0, by omega, rfl, rfl, Drew.refl _⟩
  case round =>
    obtain ⟨k, hk, rfl, rfl, hd⟩ := hrel
    have HD := Lib.hid hd
    clear hd
    have : k = 0 ∨ k = 1 ∨ k = 2 ∨ k = 3 := by omega
    rcases this with rfl | rfl | rfl | rfl
    · have e1 : mxE x y z 0 = 0 := rfl
      have E2 := Lib.hid (show (if (0 : Int) < x then x else 0) = mxE x y z 1 from rfl)
      rw [e1]
      go_wp2_with fail
      refine (HE0.out _ HD.out).mono ?_
      rintro e w2 ⟨rfl, m, rfl⟩
      go_wp2_with fail
      go_roundw
      case rel => exact ⟨1, by omega, by go_num, by rw [← E2.out], HD.out.drew _⟩
      case measure => simp [intOf]
    · have E2 := Lib.hid (show (if mxE x y z 1 < y then y else mxE x y z 1) = mxE x y z 2 from rfl)
      generalize mxE x y z 1 = u at E2 ⊢
      go_wp2_with fail
      refine (HE1.out _ HD.out).mono ?_
      rintro e w2 ⟨rfl, m, rfl⟩
      go_wp2_with fail
      go_roundw
      case rel => exact ⟨2, by omega, by go_num, by rw [← E2.out], HD.out.drew _⟩
      case measure => simp [intOf]
    · have E2 := Lib.hid (show (if mxE x y z 2 < z then z else mxE x y z 2) = mxE x y z 3 from rfl)
      generalize mxE x y z 2 = u at E2 ⊢
      go_wp2_with fail
      refine (HE2.out _ HD.out).mono ?_
      rintro e w2 ⟨rfl, m, rfl⟩
      go_wp2_with fail
      go_roundw
      case rel => exact ⟨3, by omega, by go_num, by rw [← E2.out], HD.out.drew _⟩
      case measure => simp [intOf]
    · obtain ⟨u, hu⟩ : ∃ u, mxE x y z 3 = u := ⟨_, rfl⟩
      rw [hu]
      have HU := Lib.hid hu
      clear hu
      go_wp2_with fail
      go_ret
      exact ⟨by rw [HU.out]; rfl, HD.out⟩
-- the busiest job
theorem stime_pos {shop : List (List (List Int))} (hv : shopM shop = true) {j k : Nat} (hj : j < shop.length) (hk : k < slen shop j) : 1 ≤ stime shop j k := by
  unfold slen at hk
  unfold stime
  rw [List.getD_eq_getElem?_getD (l := shop), List.getElem?_eq_getElem hj] at hk ⊢
  rw [Option.getD_some] at hk ⊢
  rw [List.getD_eq_getElem?_getD (l := shop[j]), List.getElem?_eq_getElem hk, Option.getD_some]
  exact (((shop_get hv).2 shop[j] (List.getElem_mem hj)).2.2 shop[j][k] (List.getElem_mem hk)).2.2.1
theorem restTo_ge {p : Nat → Nat → Int} (hp : ∀ j k, 0 ≤ p j k ∧ p j k ≤ 9) (j k : Nat) : ∀ m : Nat, 0 < m → p j k ≤ restTo p j k m
  | 0, h => absurd h (by omega)
  | 1, _ => by show _ ≤ restTo p j k 0 + p j (k + 0); rw [restTo, Nat.add_zero]; omega
  | m + 2, _ => by rw [restTo]; have := restTo_ge hp j k (m + 1) (by omega); have := hp j (k + (m + 1)); omega
theorem restW_pos {shop : List (List (List Int))} (hv : shopM shop = true) {j k : Nat} (hj : j < shop.length) (hk : k < slen shop j) : 0 < restW shop j k := by
  have := restTo_ge (stime_bd hv) j k (slen shop j - k) (by omega)
  have h1 := stime_pos hv hj hk
  unfold restW; omega
theorem restW_none {shop : List (List (List Int))} {j k : Nat} (hk : slen shop j ≤ k) : restW shop j k = 0 := by
  unfold restW; rw [show slen shop j - k = 0 by omega]; rfl
def busyJ (shop : List (List (List Int))) (nx : Nat → Nat) (n : Nat) : Int := if atM shop nx n < 0 then 0 else atM shop nx n
def busyW (shop : List (List (List Int))) (nx : Nat → Nat) (n : Nat) : Int := if atM shop nx n < 0 then 0 else restW shop (atM shop nx n).toNat (nx (atM shop nx n).toNat)
theorem busyW_nn {shop : List (List (List Int))} (hv : shopM shop = true) (nx : Nat → Nat) (n : Nat) : 0 ≤ busyW shop nx n ∧ busyW shop nx n ≤ 27 := by
  unfold busyW
  split
  · omega
  · have := restTo_bd (stime_bd hv) (atM shop nx n).toNat (nx (atM shop nx n).toNat) (slen shop (atM shop nx n).toNat - nx (atM shop nx n).toNat)
    have := slen_le hv (atM shop nx n).toNat
    unfold restW; omega
theorem busy_step {shop : List (List (List Int))} (hv : shopM shop = true) {nx : Nat → Nat} {k : Nat} (hk : k < shop.length) :
    (busyW shop nx k < restW shop k (nx k) → busyJ shop nx (k + 1) = k ∧ busyW shop nx (k + 1) = restW shop k (nx k)) ∧
    (¬ busyW shop nx k < restW shop k (nx k) → busyJ shop nx (k + 1) = busyJ shop nx k ∧ busyW shop nx (k + 1) = busyW shop nx k) := by
  have hnn := (busyW_nn hv nx k).1
  have ha : atM shop nx (k + 1) = if nx k < slen shop k ∧ (atM shop nx k < 0 ∨ restW shop (atM shop nx k).toNat (nx (atM shop nx k).toNat) < restW shop k (nx k)) then (k : Int) else atM shop nx k := rfl
  by_cases hl : nx k < slen shop k
  · have hpos := restW_pos hv hk hl
    by_cases h0 : atM shop nx k < 0
    · rw [if_pos ⟨hl, .inl h0⟩] at ha
      have e0 : busyW shop nx k = 0 := if_pos h0
      refine ⟨fun _ => ?_, fun h => absurd (by rw [e0]; exact hpos) h⟩
      unfold busyJ busyW
      rw [ha, if_neg (by omega), if_neg (by omega)]
      exact ⟨rfl, by simp⟩
    · have e0 : busyW shop nx k = restW shop (atM shop nx k).toNat (nx (atM shop nx k).toNat) := if_neg h0
      refine ⟨fun h => ?_, fun h => ?_⟩
      · rw [e0] at h
        rw [if_pos ⟨hl, .inr h⟩] at ha
        unfold busyJ busyW
        rw [ha, if_neg (by omega), if_neg (by omega)]
        exact ⟨rfl, by simp⟩
      · rw [e0] at h
        rw [if_neg (fun hh => by rcases hh.2 with h1 | h1; exact h0 h1; exact h h1)] at ha
        unfold busyJ busyW
        rw [ha]
        exact ⟨rfl, rfl⟩
  · have e0 := restW_none (shop := shop) (j := k) (k := nx k) (by omega)
    rw [if_neg (fun hh => hl hh.1)] at ha
    refine ⟨fun h => by omega, fun _ => ?_⟩
    unfold busyJ busyW
    rw [ha]
    exact ⟨rfl, rfl⟩
section
variable {w : World} {D : PD} {shop : List (List (List Int))} {nx : Nat → Nat} {lp : Nat → Option (Nat × Nat)} {v : Value} {bg : Nat → Nat → Int} {on : Nat → Nat → Option (Nat × Nat)}
end
end Go.Proofs.Ytkebdelfklmigae
namespace Go.Proofs.Ytkebdelfklmigae
open Go.RowKit Go.WideShapes

theorem from1_any (n hi : Int) (w : World) :
    Calls Try.prog 36 #[.int .i64 n, .int .i64 hi] w fun e w' => e = .returned (.bool (inB 1 hi n)) ∧ w = w' := by
  by_cases h1 : 1 ≤ n
  · by_cases h2 : n ≤ hi
    · go_enter Try.func36, Try.ntmps36
      go_wp2
      go_ret
      exact ⟨ret_bool (inB_true h1 h2).symm, rfl⟩
    · go_enter Try.func36, Try.ntmps36
      go_wp2
      go_ret
      exact ⟨ret_bool (inB_hi (by omega)).symm, rfl⟩
  · go_enter Try.func36, Try.ntmps36
    go_wp2
    go_ret
    exact ⟨ret_bool (inB_lo (by omega)).symm, rfl⟩
/-- the bit, hidden from the walk -/
def sb7 (s j : Nat) : Bool := s.testBit j
theorem isIn7_any (s j : Nat) (hs : s < 1048576) (hj : j ≤ 20) (w : World) :
    Calls Try.prog 61 #[.int .i64 s, .int .i64 j] w fun e w' => e = .returned (.bool (sb7 s j)) ∧ w = w' := by
  go_enter Try.func61, Try.ntmps61
  go_wp2
  go_ret
  refine ⟨ret_bool ?_, rfl⟩
  unfold sb7
  have h2 : s / 2 ^ j ≤ s := Nat.div_le_self _ _
  have e : (s : Int) / 2 ^ j = ((s / 2 ^ j : Nat) : Int) := by push_cast; rfl
  rw [e, Nat.testBit_eq_decide_div_mod_eq]
  generalize s / 2 ^ j = x at h2 ⊢
  have hx : x < 1048576 := by omega
  rw [show (1 : Int) = ((1 : Nat) : Int) from rfl, i_and x 1 hx (by omega), Nat.and_one_is_mod, Bool.eq_iff_iff, beq_iff_eq, decide_eq_true_eq]
  omega
theorem shl_or {D q : Nat} (hD : D < 8) (hq : q ≤ 2) : bits .or .i64 (D : Int) (wrap64 (2 ^ q)) = ((D ||| 2 ^ q : Nat) : Int) := by
  have : q = 0 ∨ q = 1 ∨ q = 2 := by omega
  rcases this with rfl | rfl | rfl
  · rw [show wrap64 ((2 : Int) ^ 0) = ((1 : Nat) : Int) by unfold wrap64; decide]; exact i_or D 1 (by omega) (by omega)
  · rw [show wrap64 ((2 : Int) ^ 1) = ((2 : Nat) : Int) by unfold wrap64; decide]; exact i_or D 2 (by omega) (by omega)
  · rw [show wrap64 ((2 : Int) ^ 2) = ((4 : Nat) : Int) by unfold wrap64; decide]; exact i_or D 4 (by omega) (by omega)
set_option maxRecDepth 100000 in
set_option maxHeartbeats 4000000 in
theorem areSteps_any (S : Nat → Prop) (a : Option Addr) (len cap : Nat) (job : List (List Int)) (w : World) (h : RowsAt w S a len job) (hc : len ≤ cap) :
    Calls Try.prog 74 #[.slice a len cap] w fun e w' => e = .returned (.bool (sjobB job)) ∧ w = w' := by
  have hs := h.small
  have HL := Lib.hid h.lenEq
  go_enter Try.func74, Try.ntmps74
  go_wp2
  go_loop [3, 8] (fun s i => ∃ m D : Nat, m ≤ len ∧ i = .int .i64 m ∧ s = .int .i64 (D : Int) ∧ (job.take m).all stepB = true ∧ (machsOf (job.take m)).Nodup ∧ ∀ i, D.testBit i = decide ((i : Int) ∈ machsOf (job.take m))) (fun _ i => len - (intOf i).toNat)
  case atStart => exact ⟨0, 0, Nat.zero_le _, rfl, rfl, rfl, by simp [machsOf], fun i => by simp [machsOf]⟩
  case round =>
    obtain ⟨m, D, hm, rfl, rfl, h1, h2, h3⟩ := hrel
    have hD : D < 8 := Nat.lt_pow_two_of_testBit (n := 3) _ (fun i hi => by
      rw [h3]; exact decide_eq_false (fun hm => by
        obtain ⟨r, hr, e⟩ := List.mem_map.1 hm
        have := List.all_eq_true.1 h1 r hr
        simp only [stepB, Bool.and_eq_true, beq_iff_eq] at this
        have h4 : 0 ≤ r.getD 0 0 ∧ r.getD 0 0 ≤ 2 := by simpa [inB] using this.2.1
        omega))
    have H1 := Lib.hid h1
    have H2 := Lib.hid h2
    have H3 := Lib.hid h3
    clear h1 h2 h3
    by_cases hlm : m < len
    · obtain ⟨b', off', r, a2, l2, c2, rfl, hy, hd, hlc2, hi⟩ := h.get hlm
      have HY := Lib.hid hy
      have HIL := Lib.hid hi.lenEq
      have his := hi.small
      clear hy
      by_cases hl2 : l2 = 2
      · subst hl2
        obtain ⟨b2, off2, x, rfl, hx0, hc0⟩ := hi.get (k := 0) (by omega)
        obtain ⟨b3, off3, y, e3, hy1, hc1⟩ := hi.get (k := 1) (by omega)
        cases e3
        rw [Nat.add_zero] at hc0
        have HX0 := Lib.hid (show r.getD 0 0 = x by rw [List.getD_eq_getElem?_getD, hx0]; rfl)
        have HY1 := Lib.hid (show r.getD 1 0 = y by rw [List.getD_eq_getElem?_getD, hy1]; rfl)
        clear hx0 hy1
        cases hq : inB 0 2 x
        · go_wp2_with first | (go_at_call 35; refine (isUpTo_any _ _ _).mono ?_; rintro e w' ⟨rfl, rfl⟩)
          go_ret
          exact ⟨ret_bool (by rw [sjob_step HY.out (by unfold stepB; rw [HX0.out, hq]; simp)]), rfl⟩
        · cases hq2 : inB 1 9 y
          · go_wp2_with first | (go_at_call 35; refine (isUpTo_any _ _ _).mono ?_; rintro e w' ⟨rfl, rfl⟩) | (go_at_call 36; refine (from1_any _ _ _).mono ?_; rintro e w' ⟨rfl, rfl⟩)
            go_ret
            exact ⟨ret_bool (by rw [sjob_step HY.out (by unfold stepB; rw [HY1.out, hq2]; simp)]), rfl⟩
          · have hxb : 0 ≤ x ∧ x ≤ 2 := by simpa [inB] using hq
            obtain ⟨q, rfl⟩ : ∃ q : Nat, x = (q : Int) := ⟨x.toNat, by omega⟩
            have HIN := Lib.hid (fun w => isIn7_any D q (by omega) (by omega) w)
            have HSB := Lib.hid (show stepB r = true by unfold stepB; rw [HX0.out, HY1.out, hq, hq2, HIL.out]; rfl)
            by_cases hmm : (q : Int) ∈ machsOf (job.take m)
            · have HB := Lib.hid (show sb7 D q = true by unfold sb7; rw [H3.out, decide_eq_true hmm])
              have HM := Lib.hid hmm
              clear hmm
              go_wp2_with first | (go_at_call 35; refine (isUpTo_any _ _ _).mono ?_; rintro e w' ⟨rfl, rfl⟩) | (go_at_call 36; refine (from1_any _ _ _).mono ?_; rintro e w' ⟨rfl, rfl⟩) | (go_at_call 61; refine (HIN.out _).mono ?_; rintro e w' ⟨rfl, rfl⟩; rw [HB.out])
              go_ret
              exact ⟨ret_bool (by rw [sjob_twice HY.out (by rw [HX0.out]; exact HM.out)]), rfl⟩
            · have HB := Lib.hid (show sb7 D q = false by unfold sb7; rw [H3.out, decide_eq_false hmm])
              have HM := Lib.hid hmm
              have HDQ := Lib.hid (shl_or hD (show q ≤ 2 by omega))
              clear hmm
              go_wp2_with first | (go_at_call 35; refine (isUpTo_any _ _ _).mono ?_; rintro e w' ⟨rfl, rfl⟩) | (go_at_call 36; refine (from1_any _ _ _).mono ?_; rintro e w' ⟨rfl, rfl⟩) | (go_at_call 61; refine (HIN.out _).mono ?_; rintro e w' ⟨rfl, rfl⟩; rw [HB.out])
              go_round
              case rel => exact ⟨m + 1, D ||| 2 ^ q, by omega, by go_num, by rw [← HDQ.out], by
                rw [take_get HY.out, List.all_append, H1.out]; simp only [List.all_cons, HSB.out, List.all_nil, Bool.and_true], by
                rw [take_get HY.out]
                simp only [machsOf, List.map_append, List.map_cons, List.map_nil]
                rw [HX0.out]
                exact (List.perm_append_singleton _ _).symm.nodup (List.nodup_cons.2 ⟨HM.out, H2.out⟩), fun i => by
                rw [Nat.testBit_or, Nat.testBit_two_pow, H3.out, take_get HY.out, Bool.eq_iff_iff]
                simp only [machsOf, List.map_append, List.map_cons, List.map_nil, Bool.or_eq_true, decide_eq_true_eq, List.mem_append, List.mem_singleton]
                rw [HX0.out]
                constructor
                · rintro (h | h)
                  · exact .inl (of_decide_eq_true h)
                  · right; omega
                · rintro (h | h)
                  · exact .inl (decide_eq_true h)
                  · right; omega⟩
              case measure => simp [intOf]; omega
      · have hle : ((l2 : Int) != 2) = true := by simp; omega
        go_wp2
        go_ret
        exact ⟨ret_bool (by rw [sjob_step HY.out (by unfold stepB; rw [HIL.out, beq_eq_false_iff_ne.2 hl2]; rfl)]), rfl⟩
    · go_wp2
      go_ret
      have hb := H1.out
      have hb2 := H2.out
      rw [List.take_of_length_le (by rw [HL.out]; omega)] at hb hb2
      exact ⟨ret_bool (by unfold sjobB; rw [hb, decide_eq_true hb2]; rfl), rfl⟩
set_option maxRecDepth 100000 in
set_option maxHeartbeats 4000000 in
theorem validShop_impl (S : Nat → Prop) (a : Option Addr) (len cap : Nat) (shop : List (List (List Int))) (w : World) (h : ShopAt w S a len shop) (hc : len ≤ cap) :
    Calls Try.prog 55 #[.slice a len cap] w fun e w' => e = .returned (.bool (shopM shop)) ∧ Drew w w' := by
  have hs := h.small
  have HL := Lib.hid h.lenEq
  go_enter Try.func55, Try.ntmps55
  by_cases hl3 : len ≤ 3
  · have hg : ¬ (3 : Int) < (len : Int) := by omega
    go_wp2
    go_loop [10] (fun i => ∃ k : Nat, k ≤ len ∧ i = .int .i64 k ∧ (shop.take k).all sjobB = true) (fun i => len - (intOf i).toNat)
    case atStart => exact ⟨0, Nat.zero_le _, rfl, rfl⟩
    case round =>
      obtain ⟨k, hk, rfl, ha⟩ := hrel
      have HA := Lib.hid ha
      clear ha
      by_cases hlt : k < len
      · obtain ⟨b, off, job, a', l, c, rfl, hx, hcc, hlc, hr⟩ := h.get hlt
        have HX := Lib.hid hx
        clear hx
        have HC := Lib.hid (fun w h => areSteps_any S a' l c job w h hlc)
        cases hq : sjobB job
        · go_wp2_with first | (go_at_call 74; refine (HC.out _ hr).mono ?_; rintro e w' ⟨rfl, rfl⟩; rw [hq])
          go_ret
          exact ⟨ret_bool (by rw [shop_false HX.out hq]), Drew.refl _⟩
        · go_wp2_with first | (go_at_call 74; refine (HC.out _ hr).mono ?_; rintro e w' ⟨rfl, rfl⟩; rw [hq])
          go_round
          case rel => exact ⟨k + 1, by omega, by go_num, by rw [take_get HX.out, List.all_append, HA.out]; simp only [List.all_cons, hq, List.all_nil, Bool.and_true]⟩
          case measure => simp [intOf]; omega
      · go_wp2
        go_ret
        have ha := HA.out
        have hl := HL.out
        rw [List.take_of_length_le (by omega)] at ha
        exact ⟨ret_bool (by rw [shopM, ha, hl, Bool.true_and]; exact (decide_eq_true (by omega)).symm), Drew.refl _⟩
  · have hg : (3 : Int) < (len : Int) := by omega
    go_wp2
    go_ret
    exact ⟨ret_bool (by rw [shopM, HL.out, decide_eq_false hl3, Bool.and_false]), Drew.refl _⟩
end Go.Proofs.Ytkebdelfklmigae
