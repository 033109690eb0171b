import Derived.Test.YtkjmpkincaainaaRows
import Derived.WalkKit
import Derived.Maps.RangeWalk
import Derived.Test.YtkjmpkincaainaaLib
import Derived.Test.YtkjmpkincaainaaArr
import Derived.Test.YtkjmpkincaainaaStockM
namespace Go.Proofs.Ytkjmpkincaainaa
open Go.RowKit Go.Maps

/-- block's map: for each v below K the number g v, where that is above 0; nothing else -/
def MapIs (D : DataW Unit) (g : Nat → Int) (K : Nat) : Prop :=
  IsMap D ∧ (∀ v : Nat, v < K → has D (.int .i64 v) = decide (0 < g v)) ∧ (∀ v : Nat, v < K → 0 < g v → ∀ zd, D.atKey (.int .i64 v) zd = .lit (.int .i64 (g v))) ∧ ∀ kl, has D kl = true → ∃ v : Nat, v < K ∧ kl = .int .i64 v
theorem key_ne {a b : Nat} (h : a ≠ b) : (Lit.int .i64 (a : Int)) ≠ .int .i64 (b : Int) := fun e => by injection e with _ e; omega
theorem keyI (v : Int) : WideAt.IsKeyLit (.int .i64 v) := trivial
theorem key_same (a b : Nat) : (Lit.int .i64 (a : Int)).sameKey (.int .i64 (b : Int)) = decide (a = b) := by
  by_cases h : a = b
  · subst h; rw [WideAt.sameKey_self (keyI _)]; simp
  · rw [sameKey_ne (key_ne h)]; simp [h]
theorem mapIs_none (K : Nat) : MapIs (.map []) (fun _ => 0) K :=
  ⟨isMap_empty, fun v _ => rfl, fun v _ h => absurd h (by simp), fun kl h => by cases h⟩
theorem MapIs.skip {D : DataW Unit} {g : Nat → Int} {k K : Nat} (h : MapIs D g k) (hg : ∀ v, k ≤ v → g v ≤ 0) (hK : k ≤ K) : MapIs D g K := by
  obtain ⟨h1, h2, h3, h4⟩ := h
  refine ⟨h1, fun v hv => ?_, fun v hv hp => ?_, fun kl hk => ?_⟩
  · rcases Nat.lt_or_ge v k with g1 | g1
    · exact h2 v g1
    · have e : decide (0 < g v) = false := decide_eq_false (by have := hg v g1; omega)
      rw [e]
      cases hh : has D (.int .i64 v)
      · rfl
      · obtain ⟨u, hu, e⟩ := h4 _ hh
        injection e with _ e
        omega
  · rcases Nat.lt_or_ge v k with g1 | g1
    · exact h3 v g1 hp
    · have := hg v g1; omega
  · obtain ⟨v, hv, e⟩ := h4 kl hk
    exact ⟨v, by omega, e⟩
theorem MapIs.put {D : DataW Unit} {g : Nat → Int} {K k : Nat} (h : MapIs D g K) (hk : k < K) {x : Int} (hx : 0 < x) : MapIs (D.put (.int .i64 (k : Int)) (.lit (.int .i64 x))) (fun v => if v = k then x else g v) K := by
  obtain ⟨h1, h2, h3, h4⟩ := h
  refine ⟨h1.put _ _, fun v hv => ?_, fun v hv hp => ?_, fun kl hkl => ?_⟩ <;> try dsimp only at *
  · by_cases e : v = k
    · subst e; rw [has_put_same h1 (keyI _)]; simp [hx]
    · rw [has_put_other (key_ne e), h2 v hv]; simp [e]
  · by_cases e : v = k
    · subst e; rw [if_pos rfl]; exact fun zd => atKey_put_same h1 (keyI _) _ _
    · rw [if_neg e] at hp ⊢; intro zd; rw [atKey_put_other (key_ne e)]; exact h3 v hv hp zd
  · by_cases e : kl = .int .i64 (k : Int)
    · exact ⟨k, hk, e⟩
    · rw [has_put_other e] at hkl; exact h4 kl hkl
theorem MapIs.del {D : DataW Unit} {g : Nat → Int} {K : Nat} (h : MapIs D g K) (k : Nat) : MapIs (D.del (.int .i64 (k : Int))) (fun v => if v = k then 0 else g v) K := by
  obtain ⟨h1, h2, h3, h4⟩ := h
  refine ⟨h1.del _, fun v hv => ?_, fun v hv hp => ?_, fun kl hkl => ?_⟩ <;> try dsimp only at *
  · by_cases e : v = k
    · subst e; rw [has_del_same]; simp
    · rw [has_del_other (key_ne e), h2 v hv]; simp [e]
  · by_cases e : v = k
    · subst e; rw [if_pos rfl] at hp; omega
    · rw [if_neg e] at hp ⊢; intro zd; rw [atKey_del_other (key_ne e)]; exact h3 v hv hp zd
  · by_cases e : kl = .int .i64 (k : Int)
    · subst e; rw [has_del_same] at hkl; cases hkl
    · rw [has_del_other e] at hkl; exact h4 kl hkl
theorem MapIs.congr {D : DataW Unit} {g g' : Nat → Int} {K : Nat} (h : MapIs D g K) (e : ∀ v, g v = g' v) : MapIs D g' K := by
  have : g = g' := funext e
  rwa [← this]

def sumF (f : Nat → Int) : Nat → Int
  | 0 => 0
  | k + 1 => sumF f k + f k
/-- of those that have come -/
def cameF (f : Nat → Int) (left : Lit → Bool) : Nat → Int
  | 0 => 0
  | k + 1 => cameF f left k + if left (.int .i64 (k : Int)) then 0 else f k
theorem sumN_F (xs : List Int) : ∀ k, sumN xs k = sumF (fun v => xs.getD v 0) k
  | 0 => rfl
  | k + 1 => by rw [sumN, sumF, sumN_F xs k]
theorem costK_F (xs : List Int) (s : Nat) (o u : Int) : ∀ k, costK xs s o u k = sumF (fun v => xs.getD v 0 * unitC s v o u) k
  | 0 => rfl
  | k + 1 => by rw [costK, sumF, costK_F xs s o u k]
theorem sumF_congr {f f' : Nat → Int} : ∀ {k : Nat}, (∀ v, v < k → f v = f' v) → sumF f k = sumF f' k
  | 0, _ => rfl
  | k + 1, h => by rw [sumF, sumF, sumF_congr (fun v hv => h v (by omega)), h k (by omega)]
theorem came_start {f : Nat → Int} {left : Lit → Bool} : ∀ {K : Nat}, (∀ v : Nat, v < K → left (.int .i64 (v : Int)) = false → f v = 0) → cameF f left K = 0
  | 0, _ => rfl
  | k + 1, h => by
    rw [cameF, came_start (fun v hv => h v (by omega))]
    cases e : left (.int .i64 (k : Int))
    · simp [h k (by omega) e]
    · simp
theorem came_end {f : Nat → Int} {left : Lit → Bool} (h : ∀ kl, left kl = false) : ∀ K, cameF f left K = sumF f K
  | 0 => rfl
  | k + 1 => by rw [cameF, sumF, came_end h k, h]; simp
theorem came_miss {f : Nat → Int} {left : Lit → Bool} {j : Nat} : ∀ {K : Nat}, K ≤ j → cameF f (fun z => left z && !z.sameKey (.int .i64 (j : Int))) K = cameF f left K
  | 0, _ => rfl
  | k + 1, h => by
    rw [cameF, cameF, came_miss (by omega)]
    simp only [key_same, show ¬ k = j by omega, decide_false, Bool.not_false, Bool.and_true]
theorem came_step {f : Nat → Int} {left : Lit → Bool} {j : Nat} (hj : left (.int .i64 (j : Int)) = true) : ∀ {K : Nat}, j < K → cameF f (fun z => left z && !z.sameKey (.int .i64 (j : Int))) K = cameF f left K + f j
  | 0, h => by omega
  | k + 1, h => by
    rw [cameF, cameF]
    by_cases e : k = j
    · subst e
      rw [came_miss (Nat.le_refl _)]
      simp [key_same, hj]
    · rw [came_step hj (by omega)]
      simp only [key_same, e, decide_false, Bool.not_false, Bool.and_true]
      omega
theorem came_bd {f : Nat → Int} {left : Lit → Bool} {B : Int} (hB : 0 ≤ B) : ∀ {K : Nat}, (∀ v : Nat, v < K → 0 ≤ f v ∧ f v ≤ B) → 0 ≤ cameF f left K ∧ cameF f left K ≤ B * (K : Int)
  | 0, _ => by simp [cameF]
  | k + 1, h => by
    have ih := came_bd (left := left) hB (fun v (hv : v < k) => h v (by omega))
    have := h k (by omega)
    rw [cameF, show B * ((k + 1 : Nat) : Int) = B * (k : Int) + B by push_cast; rw [Int.mul_add, Int.mul_one]]
    split <;> omega
theorem strike_le {left : Lit → Bool} {D : DataW Unit} (h : ∀ kl, left kl = true → has D kl = true) (kl' : Lit) : ∀ kl, (fun z : Lit => left z && !z.sameKey kl') kl = true → has D kl = true := fun kl e => by
  simp only [Bool.and_eq_true] at e
  exact h kl e.1
/-- the entry that has come: its key and its number -/
theorem MapIs.came {D : DataW Unit} {g : Nat → Int} {K : Nat} (h : MapIs D g K) {left : Lit → Bool} (hl : ∀ kl, left kl = true → has D kl = true) {x c : Int} (hx : left (.int .i64 x) = true) (hat : ∀ zd, D.atKey (.int .i64 x) zd = .lit (.int .i64 c)) :
    ∃ v : Nat, v < K ∧ x = (v : Int) ∧ c = g v ∧ 0 < g v := by
  obtain ⟨v, hv, e⟩ := h.2.2.2 _ (hl _ hx)
  injection e with _ e
  subst e
  have h0 := h.2.1 v hv
  rw [hl _ hx] at h0
  have hp := of_decide_eq_true h0.symm
  have := h.2.2.1 v hv hp .nil
  rw [hat .nil] at this
  injection this with this
  injection this with _ this
  exact ⟨v, hv, rfl, this, hp⟩
/-- the weights from k on -/
def dropG (xs : List Int) (k : Nat) (v : Nat) : Int := if v < k then 0 else xs.getD v 0
theorem dropF_sum (xs : List Int) (k : Nat) : ∀ K, sumF (dropG xs k) K = sumN xs K - sumN xs (min k K)
  | 0 => by simp [sumF, sumN]
  | K + 1 => by
    rw [sumF, dropF_sum xs k K, sumN]
    unfold dropG
    rcases Nat.lt_or_ge K k with h | h
    · rw [if_pos h, Nat.min_eq_right (show K ≤ k by omega), Nat.min_eq_right (show K + 1 ≤ k by omega), sumN]; omega
    · rw [if_neg (by omega), Nat.min_eq_left (show k ≤ K by omega), Nat.min_eq_left (show k ≤ K + 1 by omega)]; omega
theorem drop_sum (xs : List Int) (k : Nat) : sumF (dropG xs k) xs.length = sumN xs xs.length - sumN xs k := by
  rw [dropF_sum]
  rcases Nat.lt_or_ge k xs.length with h | h
  · rw [Nat.min_eq_left (by omega)]
  · rw [Nat.min_eq_right h, sumN_past xs h]
theorem drop_0 (xs : List Int) (v : Nat) : dropG xs 0 v = xs.getD v 0 := by unfold dropG; rw [if_neg (by omega)]
theorem drop_next (xs : List Int) (k v : Nat) : (if v = k then 0 else dropG xs k v) = dropG xs (k + 1) v := by
  unfold dropG
  by_cases e : v = k
  · subst e; rw [if_pos rfl, if_pos (by omega)]
  · rw [if_neg e]
    by_cases h : v < k
    · rw [if_pos h, if_pos (by omega)]
    · rw [if_neg h, if_neg (by omega)]
theorem drop_9 {xs : List Int} (h : ∀ k, 0 ≤ xs.getD k 0 ∧ xs.getD k 0 ≤ 9) (k v : Nat) : 0 ≤ dropG xs k v ∧ dropG xs k v ≤ 9 := by
  have := h v
  unfold dropG
  split <;> omega
end Go.Proofs.Ytkjmpkincaainaa
