import Derived.Test.YtkebdelfklmigaeM12
import Derived.Test.YtkebdelfklmigaeRows
import Derived.WalkKit
import Derived.LoopTactic
import Derived.Outline
import Derived.WalkSpells
import Derived.WalkLawsBesides
import Derived.ProofKit
import Derived.Lib.Hide
import Derived.IntWalk
import Derived.StillTailTactics
import Derived.BigQuiet
import Derived.RegionTactic
import Derived.BigRegion
import Derived.Test.YtkebdelfklmigaeM0
import Derived.Test.YtkebdelfklmigaeM1
import Derived.Test.YtkebdelfklmigaeM2
import Derived.Test.YtkebdelfklmigaeM4
import Derived.Test.YtkebdelfklmigaeM3
import Derived.Deep.Upon
import Derived.Test.YtkebdelfklmigaeM7
import Derived.Deep.QuietTactic
import Derived.Shelf.RegionOpenPlain
namespace Go.Proofs.Ytkebdelfklmigae

-- the best turns (plain)
/-- t has each job below n as often as left says -/
def TurnsOf (n : Nat) (left : Nat → Nat) (t : List Nat) : Prop := (∀ x ∈ t, x < n) ∧ ∀ j, j < n → t.count j = left j
/-- the lesser number at the first place where two differ, or the same -/
def lexLe : List Nat → List Nat → Prop
  | [], _ => True
  | _ :: _, [] => False
  | x :: l, y :: m => x < y ∨ (x = y ∧ lexLe l m)
theorem lexLe_refl : ∀ l : List Nat, lexLe l l
  | [] => trivial
  | _ :: l => .inr ⟨rfl, lexLe_refl l⟩
theorem lexLe_antisymm : ∀ {l m : List Nat}, l.length = m.length → lexLe l m → lexLe m l → l = m
  | [], [], _, _, _ => rfl
  | [], _ :: _, h, _, _ => by simp at h
  | _ :: _, [], h, _, _ => by simp at h
  | x :: l, y :: m, h, h1, h2 => by
    rcases h1 with h1 | ⟨rfl, h1⟩
    · rcases h2 with h2 | ⟨h2, _⟩ <;> omega
    · rcases h2 with h2 | ⟨_, h2⟩
      · omega
      · rw [lexLe_antisymm (by simpa using h) h1 h2]
theorem lexLe_append (h : List Nat) {l m : List Nat} : lexLe (h ++ l) (h ++ m) ↔ lexLe l m := by
  induction h with
  | nil => exact Iff.rfl
  | cons x h ih => rw [List.cons_append, List.cons_append, lexLe, ih]; simp
/-- l is the first one of the best: v its value -/
structure BestB (val : List Nat → Int) (n : Nat) (left : Nat → Nat) (l : List Nat) (v : Int) : Prop where
  turns : TurnsOf n left l
  value : val l = v
  least : ∀ m, TurnsOf n left m → v ≤ val m
  first : ∀ m, TurnsOf n left m → val m = v → lexLe l m
theorem turns_len {n : Nat} {left : Nat → Nat} : ∀ {l m : List Nat}, TurnsOf n left l → TurnsOf n left m → l.length = m.length := by
  intro l m h g
  have hp : l.Perm m := by
    refine List.perm_iff_count.2 (fun j => ?_)
    by_cases hj : j < n
    · rw [h.2 j hj, g.2 j hj]
    · rw [List.count_eq_zero.2 (fun hm => hj (h.1 j hm)), List.count_eq_zero.2 (fun hm => hj (g.1 j hm))]
  exact hp.length_eq
theorem BestB.uniq {val : List Nat → Int} {n : Nat} {left : Nat → Nat} {l m : List Nat} {u v : Int} (h : BestB val n left l u) (g : BestB val n left m v) : l = m ∧ u = v := by
  have e : u = v := by
    have h1 := h.least m g.turns
    have h2 := g.least l h.turns
    rw [g.value] at h1
    rw [h.value] at h2
    omega
  subst e
  exact ⟨lexLe_antisymm (turns_len h.turns g.turns) (h.first m g.turns g.value) (g.first l h.turns h.value), rfl⟩
/-- over the jobs below n that are left, the first of the least -/
def scanB (left : Nat → Nat) (g : Nat → List Nat × Int) : Nat → List Nat × Int
  | 0 => ([], -1)
  | j + 1 => if left j = 0 then scanB left g j else if (scanB left g j).2 < 0 ∨ (g j).2 < (scanB left g j).2 then g j else scanB left g j
theorem scanB_is {left : Nat → Nat} {g : Nat → List Nat × Int} (hg : ∀ j, left j ≠ 0 → 0 ≤ (g j).2) : ∀ n, ((∀ j, j < n → left j = 0) ∧ scanB left g n = ([], -1)) ∨
    ∃ j, j < n ∧ left j ≠ 0 ∧ scanB left g n = g j ∧ (∀ i, i < n → left i ≠ 0 → (g j).2 ≤ (g i).2) ∧ ∀ i, i < j → left i ≠ 0 → (g j).2 < (g i).2 := by
  intro n
  induction n with
  | zero => exact .inl ⟨fun j hj => by omega, rfl⟩
  | succ n ih =>
    rw [scanB]
    by_cases h0 : left n = 0
    · rw [if_pos h0]
      rcases ih with ⟨h1, h2⟩ | ⟨j, hj, h1, h2, h3, h4⟩
      · exact .inl ⟨fun j hj => by rcases Nat.lt_or_eq_of_le (Nat.le_of_lt_succ hj) with h | rfl
                                   · exact h1 j h
                                   · exact h0, h2⟩
      · exact .inr ⟨j, by omega, h1, h2, fun i hi hl => h3 i (by have : i ≠ n := fun e => hl (e ▸ h0); omega) hl, h4⟩
    · rw [if_neg h0]
      rcases ih with ⟨h1, h2⟩ | ⟨j, hj, h1, h2, h3, h4⟩
      · rw [if_pos (.inl (by rw [h2]; decide))]
        exact .inr ⟨n, by omega, h0, rfl, fun i hi hl => by
          rcases Nat.lt_or_eq_of_le (Nat.le_of_lt_succ hi) with h | rfl
          · exact absurd (h1 i h) hl
          · exact Int.le_refl _, fun i hi hl => absurd (h1 i hi) hl⟩
      · have hnn := hg j h1
        by_cases hlt : (g n).2 < (g j).2
        · rw [if_pos (.inr (by rw [h2]; exact hlt))]
          exact .inr ⟨n, by omega, h0, rfl, fun i hi hl => by
            rcases Nat.lt_or_eq_of_le (Nat.le_of_lt_succ hi) with h | rfl
            · have := h3 i h hl; omega
            · exact Int.le_refl _, fun i hi hl => by have := h3 i hi hl; omega⟩
        · rw [if_neg (by rw [h2]; omega), h2]
          exact .inr ⟨j, by omega, h1, rfl, fun i hi hl => by
            rcases Nat.lt_or_eq_of_le (Nat.le_of_lt_succ hi) with h | rfl
            · exact h3 i h hl
            · omega, h4⟩
def bestFS (val : List Nat → Int) (n : Nat) : Nat → List Nat → (Nat → Nat) → List Nat × Int
  | 0, h, _ => (h, val h)
  | f + 1, h, left => scanB left (fun j => bestFS val n f (h ++ [j]) (setN left j (left j - 1))) n
/-- so many are left -/
def sumLeft (left : Nat → Nat) : Nat → Nat
  | 0 => 0
  | n + 1 => sumLeft left n + left n
theorem sumLeft_set {left : Nat → Nat} {j : Nat} (hj : left j ≠ 0) : ∀ n, j < n → sumLeft (setN left j (left j - 1)) n + 1 = sumLeft left n := by
  intro n
  have same : ∀ k, k ≤ j → sumLeft (setN left j (left j - 1)) k = sumLeft left k := by
    intro k
    induction k with
    | zero => intro _; rfl
    | succ k ih => intro hk; rw [sumLeft, sumLeft, ih (by omega), setN_ne _ _ (by omega)]
  induction n with
  | zero => intro h; omega
  | succ n ih =>
    intro h
    rw [sumLeft, sumLeft]
    by_cases e : j = n
    · subst e; rw [same _ (Nat.le_refl _), setN_at]; omega
    · rw [setN_ne _ _ (by omega)]; have := ih (by omega); omega
theorem sumLeft_pos {left : Nat → Nat} : ∀ n, sumLeft left n ≠ 0 → ∃ j, j < n ∧ left j ≠ 0 := by
  intro n
  induction n with
  | zero => intro h; exact absurd rfl h
  | succ n ih =>
    intro h
    rw [sumLeft] at h
    by_cases e : left n = 0
    · obtain ⟨j, hj, h2⟩ := ih (by omega); exact ⟨j, by omega, h2⟩
    · exact ⟨n, by omega, e⟩
theorem sumLeft_zero {left : Nat → Nat} : ∀ n, sumLeft left n = 0 → ∀ j, j < n → left j = 0 := by
  intro n
  induction n with
  | zero => intro _ j hj; omega
  | succ n ih =>
    intro h j hj
    rw [sumLeft] at h
    rcases Nat.lt_or_eq_of_le (Nat.le_of_lt_succ hj) with h1 | rfl
    · exact ih (by omega) j h1
    · omega
theorem turns_cons {n : Nat} {left : Nat → Nat} {j : Nat} {t : List Nat} : TurnsOf n left (j :: t) ↔ j < n ∧ left j ≠ 0 ∧ TurnsOf n (setN left j (left j - 1)) t := by
  constructor
  · rintro ⟨h1, h2⟩
    have hj := h1 j (by simp)
    have hc := h2 j hj
    rw [List.count_cons_self] at hc
    refine ⟨hj, by omega, fun x hx => h1 x (by simp [hx]), fun i hi => ?_⟩
    have := h2 i hi
    by_cases e : i = j
    · subst e; rw [setN_at]; omega
    · rw [setN_ne _ _ e, ← this, List.count_cons_of_ne (fun h => e h.symm)]
  · rintro ⟨hj, h0, h1, h2⟩
    refine ⟨fun x hx => ?_, fun i hi => ?_⟩
    · rcases List.mem_cons.1 hx with rfl | hx
      · exact hj
      · exact h1 x hx
    · have := h2 i hi
      by_cases e : i = j
      · subst e; rw [setN_at] at this; rw [List.count_cons_self]; omega
      · rw [setN_ne _ _ e] at this; rw [List.count_cons_of_ne (fun h => e h.symm)]; exact this
theorem bestFS_is {val : List Nat → Int} (hv : ∀ l, 0 ≤ val l) {n : Nat} : ∀ f h left, sumLeft left n = f → ∃ t, bestFS val n f h left = (h ++ t, val (h ++ t)) ∧ TurnsOf n left t ∧
    (∀ m, TurnsOf n left m → val (h ++ t) ≤ val (h ++ m)) ∧ ∀ m, TurnsOf n left m → val (h ++ m) = val (h ++ t) → lexLe t m := by
  intro f
  induction f with
  | zero =>
    intro h left h0
    have hz := sumLeft_zero n h0
    have only : ∀ m, TurnsOf n left m → m = [] := by
      intro m hm
      cases m with
      | nil => rfl
      | cons x m => have h1 := (turns_cons.1 hm); exact absurd (hz x h1.1) h1.2.1
    refine ⟨[], by rw [bestFS, List.append_nil], ⟨fun x hx => (by cases hx), fun j hj => (hz j hj).symm⟩, fun m hm => by rw [only m hm]; exact Int.le_refl _, fun m _ _ => trivial⟩
  | succ f ih =>
    intro h left hf
    have hrec := fun j (hj : j < n) (h0 : left j ≠ 0) => ih (h ++ [j]) (setN left j (left j - 1)) (by have := sumLeft_set h0 n hj; omega)
    have hg : ∀ j, j < n → left j ≠ 0 → 0 ≤ (bestFS val n f (h ++ [j]) (setN left j (left j - 1))).2 := by
      intro j hj h0
      obtain ⟨t, e, _⟩ := hrec j hj h0
      rw [e]; exact hv _
    have hcong : ∀ k, k ≤ n → scanB left (fun j => bestFS val n f (h ++ [j]) (setN left j (left j - 1))) k = scanB left (fun j => if j < n then bestFS val n f (h ++ [j]) (setN left j (left j - 1)) else ([], 0)) k := by
      intro k
      induction k with
      | zero => intro _; rfl
      | succ k ihk =>
        intro hk
        rw [scanB, scanB, ihk (by omega)]
        simp only [show k < n by omega, if_true]
    rw [bestFS, hcong n (Nat.le_refl _)]
    rcases scanB_is (left := left) (g := fun j => if j < n then bestFS val n f (h ++ [j]) (setN left j (left j - 1)) else ([], 0)) (fun j h0 => by
      split
      · rename_i hj; exact hg j hj h0
      · exact Int.le_refl _) n with ⟨h1, _⟩ | ⟨j, hj, h1, h2, h3, h4⟩
    · obtain ⟨j, hj, h0⟩ := sumLeft_pos n (by omega : sumLeft left n ≠ 0)
      exact absurd (h1 j hj) h0
    · rw [h2]
      simp only [hj, if_true] at h3 h4 ⊢
      obtain ⟨t, e, e1, e2, e3⟩ := hrec j hj h1
      rw [e] at h3 h4 ⊢
      simp only [List.append_assoc, List.singleton_append] at e2 e3 h3 h4 ⊢
      refine ⟨j :: t, rfl, turns_cons.2 ⟨hj, h1, e1⟩, fun m hm => ?_, fun m hm hme => ?_⟩
      · cases m with
        | nil => have := hm.2 j hj; simp at this; omega
        | cons x m =>
          obtain ⟨hx, hx0, hm'⟩ := turns_cons.1 hm
          obtain ⟨u, f1, f2, f3, _⟩ := hrec x hx hx0
          have := h3 x hx hx0
          rw [if_pos hx, f1] at this
          have h5 := f3 m hm'
          simp only [List.append_assoc, List.singleton_append] at this h5
          omega
      · cases m with
        | nil => have := hm.2 j hj; simp at this; omega
        | cons x m =>
          obtain ⟨hx, hx0, hm'⟩ := turns_cons.1 hm
          obtain ⟨u, f1, f2, f3, _⟩ := hrec x hx hx0
          have h5 := f3 m hm'
          simp only [List.append_assoc, List.singleton_append] at h5
          rcases Nat.lt_trichotomy j x with hlt | rfl | hgt
          · exact .inl hlt
          · exact .inr ⟨rfl, e3 m hm' hme⟩
          · have := h4 x hgt hx0
            rw [if_pos hx, f1] at this
            simp only [List.append_assoc, List.singleton_append] at this
            omega
theorem bestFS_best {val : List Nat → Int} (hv : ∀ l, 0 ≤ val l) (n : Nat) (left : Nat → Nat) : BestB val n left (bestFS val n (sumLeft left n) [] left).1 (bestFS val n (sumLeft left n) [] left).2 := by
  obtain ⟨t, e, h1, h2, h3⟩ := bestFS_is hv (n := n) (sumLeft left n) [] left rfl
  rw [e]
  exact ⟨h1, rfl, h2, h3⟩
end Go.Proofs.Ytkebdelfklmigae
namespace Go.Proofs.Ytkebdelfklmigae
open Go.RowKit Go.WideShapes

theorem Try.infoIntSh : (Try.prog.info? 3).map (fun i => (i.zero, i.size, i.bytes)) = some (some (.int .i64 0), 1, 8) := by kernel_rfl
def turnsM (shop : List (List (List Int))) (ts : List Int) : Bool := ts.all (inB 0 ((shop.length : Int) - 1)) && (List.range shop.length).all (fun j => decide (ts.count (j : Int) = slen shop j))
theorem turns_out {shop : List (List (List Int))} {ts : List Int} {k : Nat} {x : Int} (h : ts[k]? = some x) (hx : inB 0 ((shop.length : Int) - 1) x = false) : turnsM shop ts = false := by
  unfold turnsM
  rw [List.all_eq_false.2 ⟨x, List.mem_of_getElem? h, by rw [hx]; simp⟩]; rfl
theorem turns_not {shop : List (List (List Int))} {ts : List Int} {j : Nat} (hj : j < shop.length) (hc : ts.count (j : Int) ≠ slen shop j) : turnsM shop ts = false := by
  unfold turnsM
  rw [List.all_eq_false.2 ⟨j, List.mem_range.2 hj, by rw [decide_eq_false hc]; simp⟩, Bool.and_false]
theorem turns_mk {shop : List (List (List Int))} {ts : List Int} (h : ts.all (inB 0 ((shop.length : Int) - 1)) = true) (hc : ∀ j, j < shop.length → ts.count (j : Int) = slen shop j) : turnsM shop ts = true := by
  unfold turnsM
  rw [h, List.all_eq_true.2 (fun j hj => decide_eq_true (hc j (List.mem_range.1 hj)))]; rfl
end Go.Proofs.Ytkebdelfklmigae
namespace Go.Proofs.Ytkebdelfklmigae

-- when steps begin, by rows (plain)
/-- row j, as it is known -/
def rowS (s : ShopS) (j : Nat) : List Int := tab (s.b j) (s.nx j)
def rowsS (s : ShopS) (n : Nat) : List (List Int) := (List.range n).map (rowS s)
theorem rowS_len (s : ShopS) (j : Nat) : (rowS s j).length = s.nx j := tab_length _ _
theorem rowsS_len (s : ShopS) (n : Nat) : (rowsS s n).length = n := by simp [rowsS]
theorem rowsS_get (s : ShopS) {n j : Nat} (h : j < n) : (rowsS s n)[j]? = some (rowS s j) := by simp [rowsS, h]
theorem tab_cong {f g : Nat → Int} {n : Nat} (h : ∀ q, q < n → f q = g q) : tab f n = tab g n := by
  induction n with
  | zero => rfl
  | succ n ih => rw [tab_succ, tab_succ, ih (fun q hq => h q (by omega)), h n (by omega)]
theorem rowS_turn (m : Nat → Nat → Nat) (p : Nat → Nat → Int) (s : ShopS) (j : Nat) : rowS (turnS m p s j) j = rowS s j ++ [beginS m s j] := by
  unfold rowS turnS
  simp only [setN_at]
  rw [tab_succ, setN_at]
  congr 1
  exact tab_cong fun q hq => setN_ne _ _ (by omega)
theorem rowS_other (m : Nat → Nat → Nat) (p : Nat → Nat → Int) (s : ShopS) {i j : Nat} (h : i ≠ j) : rowS (turnS m p s j) i = rowS s i := by
  unfold rowS turnS
  simp only
  rw [setN_ne _ _ h, setN_ne _ _ h]
theorem runS_bd {m : Nat → Nat → Nat} {p : Nat → Nat → Int} (hp : ∀ j k, 0 ≤ p j k ∧ p j k ≤ 9) (l : List Nat) : (runS m p shop0 l).all ≤ 9 * (l.length : Int) := by
  have key : ∀ r : List Nat, (runS m p shop0 r.reverse).all ≤ 9 * (r.length : Int) := by
    intro r
    induction r with
    | nil => exact Int.le_refl _
    | cons x r ih =>
      have hi := runS_inv (fun j k => (hp j k).1) r.reverse shop0 (shop0_inv m p)
      rw [List.reverse_cons, runS_snoc]
      generalize runS m p shop0 r.reverse = s at ih hi
      have h1 := hi.upR x
      have h2 := hi.upF (m x (s.nx x))
      have h3 := hp x (s.nx x)
      show max s.all (beginS m s x + p x (s.nx x)) ≤ _
      unfold beginS
      rw [List.length_cons]
      push_cast
      omega
  have := key l.reverse
  rwa [List.reverse_reverse, List.length_reverse] at this
end Go.Proofs.Ytkebdelfklmigae
namespace Go.Proofs.Ytkebdelfklmigae

-- turns as numbers of jobs (plain)
theorem len_sum {n : Nat} : ∀ l : List Nat, (∀ x ∈ l, x < n) → l.length = sumLeft (fun j => l.count j) n
  | [], _ => by
    induction n with
    | zero => rfl
    | succ n ih => rw [sumLeft]; simpa using ih
  | x :: l, h => by
    have h1 := sumLeft_set (left := fun j => (x :: l).count j) (j := x) (by simp) n (h x (by simp))
    have e : setN (fun j => (x :: l).count j) x ((x :: l).count x - 1) = fun j => l.count j := by
      funext j
      by_cases hj : j = x
      · subst hj; rw [setN_at]; simp
      · rw [setN_ne _ _ hj]; exact List.count_cons_of_ne (fun h => hj h.symm)
    rw [e, ← len_sum l (fun y hy => h y (by simp [hy]))] at h1
    rw [← h1]; rfl
theorem sumLeft_le {c : Nat} {f : Nat → Nat} : ∀ n, (∀ j, j < n → f j ≤ c) → sumLeft f n ≤ c * n
  | 0, _ => Nat.zero_le _
  | n + 1, h => by have := sumLeft_le n (fun j hj => h j (by omega)); have := h n (by omega); rw [sumLeft, Nat.mul_succ]; omega
theorem turnsOf_cnt {n : Nat} {left : Nat → Nat} {l : List Nat} (h : TurnsOf n left l) (j : Nat) : l.count j ≤ left j := by
  by_cases hj : j < n
  · exact Nat.le_of_eq (h.2 j hj)
  · rw [List.count_eq_zero.2 (fun hm => hj (h.1 j hm))]; exact Nat.zero_le _
theorem turnsOf_len {shop : List (List (List Int))} (hv : shopM shop = true) {l : List Nat} (h1 : ∀ x ∈ l, x < shop.length) (h2 : ∀ j, l.count j ≤ slen shop j) : l.length ≤ 9 := by
  rw [len_sum l h1]
  have h3 := (shop_get hv).1
  have h4 := sumLeft_le (c := 3) (f := fun j => l.count j) shop.length (fun j _ => Nat.le_trans (h2 j) (slen_le hv j))
  omega
theorem count_cast (l : List Nat) (j : Nat) : (l.map (fun x : Nat => (x : Int))).count (j : Int) = l.count j := by
  induction l with
  | nil => rfl
  | cons x l ih =>
    rw [List.map_cons]
    by_cases e : x = j
    · subst e; rw [List.count_cons_self, List.count_cons_self, ih]
    · rw [List.count_cons_of_ne (by omega), List.count_cons_of_ne e, ih]
theorem turns_list {shop : List (List (List Int))} {ts : List Int} (h : turnsM shop ts = true) : ∃ l : List Nat, ts = l.map (fun x : Nat => (x : Int)) ∧ TurnsOf shop.length (slen shop) l := by
  unfold turnsM at h
  rw [Bool.and_eq_true, List.all_eq_true, List.all_eq_true] at h
  have hb : ∀ x ∈ ts, 0 ≤ x ∧ x ≤ (shop.length : Int) - 1 := fun x hx => by simpa [inB] using h.1 x hx
  have e : ts = (ts.map Int.toNat).map (fun x : Nat => (x : Int)) := by
    rw [List.map_map]
    conv => lhs; rw [← List.map_id ts]
    exact List.map_congr_left fun x hx => by have := hb x hx; show x = ((x.toNat : Nat) : Int); omega
  refine ⟨ts.map Int.toNat, e, fun x hx => ?_, fun j hj => ?_⟩
  · obtain ⟨y, hy, rfl⟩ := List.mem_map.1 hx
    have := hb y hy; omega
  · have := of_decide_eq_true (h.2 j (List.mem_range.2 hj))
    rw [e, count_cast] at this
    exact this
theorem list_turns {shop : List (List (List Int))} {l : List Nat} (h : TurnsOf shop.length (slen shop) l) : turnsM shop (l.map (fun x : Nat => (x : Int))) = true := by
  refine turns_mk (List.all_eq_true.2 fun x hx => ?_) (fun j hj => by rw [count_cast]; exact h.2 j hj)
  obtain ⟨y, hy, rfl⟩ := List.mem_map.1 hx
  have := h.1 y hy
  simp [inB]; omega
/-- when the steps begin, and when all are done, by turns -/
def runOf (shop : List (List (List Int))) (ts : List Int) : ShopS := runS (smach shop) (stime shop) shop0 (ts.map Int.toNat)
def timesRows (shop : List (List (List Int))) (ts : List Int) : List (List Int) := if shopM shop && turnsM shop ts then rowsS (runOf shop ts) shop.length else []
def timesN (shop : List (List (List Int))) (ts : List Int) : Int := if shopM shop && turnsM shop ts then (runOf shop ts).all else -1
theorem toNat_cast (l : List Nat) : (l.map (fun x : Nat => (x : Int))).map Int.toNat = l := by
  rw [List.map_map]; conv => rhs; rw [← List.map_id l]
  exact List.map_congr_left fun x _ => by show ((x : Int)).toNat = x; omega
end Go.Proofs.Ytkebdelfklmigae
namespace Go.Proofs.Ytkebdelfklmigae
open Go.RowKit
/-- a slice of new ints that may be written, and a number -/
def ResPostI (w : World) (xs : List Int) (v : Int) (e : Ending) (w' : World) : Prop := ∃ (a : Option Addr) (len cap : Nat), e = .returned (.tuple #[.slice a len cap, .int .i64 v]) ∧ IntsAt w' (fun b => w.heap.size ≤ b ∧ b < w'.heap.size) a len xs ∧
  (Free w' (fun b => w.heap.size ≤ b ∧ b < w'.heap.size) a len ∧ len ≤ cap) ∧ Below w.heap.size w w'
def NewIntsI (w : World) (xs : List Int) (v : Int) (e : Ending) (w' : World) : Prop := ∃ (a : Option Addr) (len cap : Nat), e = .returned (.tuple #[.slice a len cap, .int .i64 v]) ∧ IntsAt w' (fun b => w.heap.size ≤ b ∧ b < w'.heap.size) a len xs ∧ len ≤ cap ∧ Below w.heap.size w w'
end Go.Proofs.Ytkebdelfklmigae
namespace Go.Proofs.Ytkebdelfklmigae
open Go.RowKit Go.WideShapes

/-- append of a list that may be empty, at whatever address, to a list of the call's own -/
theorem wpAppAny {ops : Array Oper} {rest : List Oper} {o : Oper} {a : Act} {Q : Exit → Act → World → Prop} {wo : World} (hgd : o.guard = none) (s x : Operand)
    (ho : o.op = .call { callee := .builtin .append, args := #[s, x], argTypes := #[23, 23] })
    (base k cp : Nat) (ax : Option Addr) (xs : List Int) (S : Nat → Prop) (ay : Option Addr) (m c : Nat) (ys : List Int) (hs : a.eval s = .slice ax k cp)
    (hown : wo.ownsRow base 3 1 (.slice ax k cp) k (xs.map (.int .i64))) (hx : a.eval x = .slice ay m c) (hy : IntsAt wo S ay m ys)
    (hbase : base ≤ wo.heap.size) (hk : k + m ≤ 1048576)
    (h : ∀ (a6 : Option Addr) (c6 : Nat) (w' : World), w'.ownsRow base 3 1 (.slice a6 (k + m) c6) (k + m) ((xs ++ ys).map (.int .i64)) → k + m ≤ c6 → wo.grownBy w' (Value.slice ax k cp).ownBlock →
      wpList Try.prog ops Q rest (a.put o.dst (.slice a6 (k + m) c6)) w') :
    wpList Try.prog ops Q (o :: rest) a wo := by
  by_cases hm : 0 < m
  · obtain ⟨b, off, rfl, _, _⟩ := hy.cells hm
    exact wpAppN hgd s x ho base k cp ax xs S b off m c ys hs hown hx hy hbase hk (fun a6 c6 w' h1 h2 h3 => h a6 c6 w' (by rw [List.map_append]; exact h1) h2 h3)
  · obtain rfl : m = 0 := by omega
    have hy0 : ys = [] := List.eq_nil_of_length_eq_zero hy.lenEq
    subst hy0
    obtain ⟨a', cp', e, hle⟩ := own_slice hown
    injection e with _ _ e2
    subst e2
    obtain ⟨i0, hi, hz0, hz1, hz2⟩ := info_parts Try.infoIntO
    have hsrc : Src Try.prog i0.size 23 (.slice ay 0 c) 0 [] wo := by
      cases ay with
      | none => exact Src.ofNil wo Try.underlying23 c
      | some ad => exact Src.ofSlice wo Try.underlying23 ad 0 c [] (by simp) (fun j u hj => by simp at hj) (fun u hu => by cases hu)
    have hrun := run_append_nothing (P := Try.prog) wo 23 23 o.type 3 i0 Try.underlying23 hi ax k cp hle (.slice ay 0 c) hsrc
    refine wpList_plain hgd fun K hK => ?_
    unfold Oper.wp
    simp [execOp, ho, resolve, invoke, builtin, hs, hx, hrun, Result.andThen]
    exact hK _ _ (h ax cp wo (by rw [List.append_nil]; exact hown) hle (grown_refl _ _))
end Go.Proofs.Ytkebdelfklmigae
namespace Go.Proofs.Ytkebdelfklmigae
open Go.RowKit Go.WideShapes

end Go.Proofs.Ytkebdelfklmigae
namespace Go.Proofs.Ytkebdelfklmigae
open Go.RowKit Go.WideShapes

/-- v is a slice of the call's own (from block B0 on), of rows of its own (from block B1 on) -/
def OwnRowsW (w : World) (B0 B1 : Nat) (v : Value) (k : Nat) (rows : List (List Int)) : Prop := ∃ us : List Value, w.ownsRow B0 23 1 v k us ∧ rows.length = k ∧
    ∀ (q : Nat) (u : Value), us[q]? = some u → ∃ (a : Option Addr) (l c : Nat) (r : List Int), rows[q]? = some r ∧ u = .slice a l c ∧ l ≤ c ∧ l ≤ 1048576 ∧ w.ownsRow B1 3 1 u l (r.map (.int .i64))
theorem OwnRowsW.kept {w w' : World} {B0 B1 k : Nat} {v : Value} {rows : List (List Int)} {row : Option Nat} (h : OwnRowsW w B0 B1 v k rows) (hg : w.grownBy w' row) (hv : v.ownBlock = none ∨ v.ownBlock ≠ row) (hr : ∀ b, row = some b → b < B1) : OwnRowsW w' B0 B1 v k rows := by
  obtain ⟨us, h1, h2, h3⟩ := h
  refine ⟨us, h1.kept hg hv, h2, fun q u hq => ?_⟩
  obtain ⟨a, l, c, r, e1, e2, e3, e4, e5⟩ := h3 q u hq
  refine ⟨a, l, c, r, e1, e2, e3, e4, e5.kept hg ?_⟩
  cases hb : u.ownBlock with
  | none => exact .inl rfl
  | some b => exact .inr fun e => by have := (e5.lt b hb).1; have := hr b e.symm; omega
/-- a row lies on when nothing that was there is written -/
theorem own_later {w w' : World} {B n s : Nat} {e : TypeId} {v : Value} {xs : List Value} (h : w.ownsRow B e s v n xs) (hb : Below w.heap.size w w') : w'.ownsRow B e s v n xs := by
  refine ⟨h.1, ?_⟩
  rcases h.2 with h1 | ⟨g, cap, cur, e1, h1, h2, h3⟩
  · exact .inl h1
  · exact .inr ⟨g, cap, cur, e1, h1, (hb.block g (Array.getElem?_eq_some_iff.1 h2).1).trans h2, h3⟩
theorem OwnRowsW.later {w w' : World} {B0 B1 k : Nat} {v : Value} {rows : List (List Int)} (h : OwnRowsW w B0 B1 v k rows) (hb : Below w.heap.size w w') : OwnRowsW w' B0 B1 v k rows := by
  obtain ⟨us, h1, h2, h3⟩ := h
  refine ⟨us, own_later h1 hb, h2, fun q u hq => ?_⟩
  obtain ⟨a, l, c, r, e1, e2, e3, e4, e5⟩ := h3 q u hq
  exact ⟨a, l, c, r, e1, e2, e3, e4, own_later e5 hb⟩
theorem OwnRowsW.alloc {w : World} {B0 B1 k : Nat} {v : Value} {rows : List (List Int)} (h : OwnRowsW w B0 B1 v k rows) (o : Obj) : OwnRowsW (w.alloc o) B0 B1 v k rows :=
  h.kept (World.grownBy_alloc w o none) (by cases v.ownBlock <;> simp) (fun b e => by cases e)
theorem OwnRowsW.drewN {w : World} {B0 B1 k : Nat} {v : Value} {rows : List (List Int)} (h : OwnRowsW w B0 B1 v k rows) (n : Nat) : OwnRowsW (w.drewN n) B0 B1 v k rows :=
  h.kept (grownBy_drewN w n none) (by cases v.ownBlock <;> simp) (fun b e => by cases e)
/-- a store into a block of ints that lies below the rows -/
theorem OwnRowsW.ints {w : World} {B0 B1 k g n cap j : Nat} {v : Value} {rows : List (List Int)} {xs : List Value} {B : Nat} (h : OwnRowsW w B0 B1 v k rows) (hi : w.ownsRow B 3 1 (.slice (some ⟨g, 0, none⟩) n cap) n xs) (hg : g < B1) (u : Value) : OwnRowsW (w.setCell ⟨g, j, none⟩ u) B0 B1 v k rows := by
  have hgr := (hi.stored j u).2
  refine h.kept hgr ?_ (fun b e => by cases e; exact hg)
  obtain ⟨us, h1, _⟩ := h
  exact own_ne h1 hi (by decide)
theorem OwnRowsW.at {w : World} {B0 B1 k j : Nat} {v : Value} {rows : List (List Int)} (h : OwnRowsW w B0 B1 v k rows) (hj : j < k) : ∃ (G cap : Nat) (a : Option Addr) (l c : Nat) (r : List Int), v = .slice (some ⟨G, 0, none⟩) k cap ∧ B0 ≤ G ∧ G < w.heap.size ∧ rows[j]? = some r ∧
    w.cell? ⟨G, j, none⟩ = some (.slice a l c) ∧ w.frozen? ⟨G, j, none⟩ = false ∧ l ≤ c ∧ l ≤ 1048576 ∧ w.ownsRow B1 3 1 (.slice a l c) l (r.map (.int .i64)) := by
  obtain ⟨us, h1, h2, h3⟩ := h
  have hul : us.length = k := by have := h1.1; simpa using this
  have hlt := h1.lt
  rcases h1.2 with ⟨e1, e2⟩ | ⟨g, cp, cur, e1, e2, _⟩
  · omega
  · subst e1
    have hu : us[j]? = some (us[j]'(by omega)) := List.getElem?_eq_getElem (by omega)
    obtain ⟨a, l, c, r, q1, q2, q3, q4, q5⟩ := h3 j _ hu
    rw [q2] at q5 hu
    exact ⟨g, cp, a, l, c, r, rfl, e2, (hlt g rfl).2, q1, by rw [h1.cellAt j (by omega)]; exact hu, h1.frozenAt j, q3, q4, q5⟩
/-- a row is set anew -/
theorem OwnRowsW.put {w : World} {B0 B1 G k cap j l c : Nat} {a : Option Addr} {rows : List (List Int)} {r : List Int} (h : OwnRowsW w B0 B1 (.slice (some ⟨G, 0, none⟩) k cap) k rows) (hj : j < k) (hu : w.ownsRow B1 3 1 (.slice a l c) l (r.map (.int .i64))) (hlc : l ≤ c) (hl : l ≤ 1048576) :
    OwnRowsW (w.setCell ⟨G, j, none⟩ (.slice a l c)) B0 B1 (.slice (some ⟨G, 0, none⟩) k cap) k (rows.set j r) := by
  obtain ⟨us, h1, h2, h3⟩ := h
  have hul : us.length = k := by have := h1.1; simpa using this
  obtain ⟨s1, s2⟩ := h1.stored j (.slice a l c)
  refine ⟨us.set j (.slice a l c), s1, by rw [List.length_set]; exact h2, fun q u hq => ?_⟩
  rw [List.getElem?_set] at hq
  by_cases e : j = q
  · subst e
    rw [if_pos rfl, if_pos (by omega)] at hq
    cases hq
    exact ⟨a, l, c, r, by rw [List.getElem?_set, if_pos rfl, if_pos (by omega)], rfl, hlc, hl, hu.kept s2 (own_ne hu h1 (by decide))⟩
  · rw [if_neg e] at hq
    obtain ⟨a', l', c', r', q1, q2, q3, q4, q5⟩ := h3 q u hq
    exact ⟨a', l', c', r', by rw [List.getElem?_set, if_neg e]; exact q1, q2, q3, q4, q5.kept s2 (own_ne q5 h1 (by decide))⟩
theorem OwnRowsW.push {w w' : World} {B0 B1 k l : Nat} {v v' : Value} {a : Option Addr} {c : Nat} {rows : List (List Int)} {r : List Int} {us : List Value} (hv : w.ownsRow B0 23 1 v k us) (hl : rows.length = k)
    (hus : ∀ (q : Nat) (u : Value), us[q]? = some u → ∃ (a : Option Addr) (l c : Nat) (r : List Int), rows[q]? = some r ∧ u = .slice a l c ∧ l ≤ c ∧ l ≤ 1048576 ∧ w.ownsRow B1 3 1 u l (r.map (.int .i64)))
    (hu : w.ownsRow B1 3 1 (.slice a l c) l (r.map (.int .i64))) (hlc : l ≤ c) (hl2 : l ≤ 1048576) (hv' : w'.ownsRow B0 23 1 v' (k + 1) (us ++ [.slice a l c])) (hg : w.grownBy w' v.ownBlock) : OwnRowsW w' B0 B1 v' (k + 1) (rows ++ [r]) := by
  have hul : us.length = k := by have := hv.1; simpa using this
  refine ⟨_, hv', by simp [hl], fun q u hq => ?_⟩
  rcases Nat.lt_or_ge q us.length with h | h
  · rw [List.getElem?_append_left h] at hq
    obtain ⟨a', l', c', r', h1, h2, h3, h4, h5⟩ := hus q u hq
    exact ⟨a', l', c', r', by rw [List.getElem?_append_left (by omega)]; exact h1, h2, h3, h4, h5.kept hg (own_ne h5 hv (by decide))⟩
  · rw [List.getElem?_append_right h] at hq
    have hq0 : q - us.length = 0 := by
      have := (List.getElem?_eq_some_iff.1 hq).1; simp at this; omega
    rw [hq0] at hq
    simp only [List.getElem?_cons_zero, Option.some.injEq] at hq
    subst hq
    exact ⟨a, l, c, r, by rw [List.getElem?_append_right (by omega), show q - rows.length = 0 by omega]; rfl, rfl, hlc, hl2, hu.kept hg (own_ne hu hv (by decide))⟩
theorem OwnRowsW.rows {w : World} {B0 B1 k : Nat} {a : Option Addr} {cap : Nat} {rows : List (List Int)} (h : OwnRowsW w B0 B1 (.slice a k cap) k rows) (hk : k ≤ 1048576) (hB : B0 ≤ B1) :
    RowsAt w (fun b => B0 ≤ b ∧ b < w.heap.size) a k rows := by
  obtain ⟨us, h1, h2, h3⟩ := h
  have hul : us.length = k := by have := h1.1; simpa using this
  refine ⟨h2, by omega, fun h0 => ?_⟩
  have hlt := h1.lt
  rcases h1.2 with ⟨e1, e2⟩ | ⟨g, cp, cur, e1, e2, _⟩
  · omega
  · injection e1 with e3 _ _
    subst e3
    refine ⟨g, 0, rfl, hlt g rfl, fun i r hr => ?_⟩
    have hi : i < us.length := by have := (List.getElem?_eq_some_iff.1 hr).1; omega
    have hu := List.getElem?_eq_getElem hi
    obtain ⟨a', l, c, r', hr', hue, hlc, hl, hown⟩ := h3 i us[i] hu
    rw [hr] at hr'
    injection hr' with hr'
    subst hr'
    rw [hue] at hown hu
    obtain ⟨a2, c2, e4, _, hints⟩ := own_ints hown (by omega)
    injection e4 with e5 _ _
    subst e5
    refine ⟨a', l, c, ?_, hlc, hints.to fun b hb => ⟨⟨by omega, hb.2⟩, rfl⟩⟩
    rw [Nat.zero_add, h1.cellAt i (by omega)]
    exact hu
end Go.Proofs.Ytkebdelfklmigae
namespace Go.Proofs.Ytkebdelfklmigae
open Go.RowKit Go.WideShapes

/-- block g of the call's own holds these ints -/
def OwnI (w : World) (B g len : Nat) (f : Nat → Int) : Prop := w.ownsRow B 3 1 (.slice (some ⟨g, 0, none⟩) len len) len ((tab f len).map (.int .i64))
theorem OwnI.cell {w : World} {B g len q : Nat} {f : Nat → Int} (h : OwnI w B g len f) (hq : q < len) : w.cell? ⟨g, q, none⟩ = some (.int .i64 (f q)) ∧ w.frozen? ⟨g, q, none⟩ = false := by
  refine ⟨?_, h.frozenAt q⟩
  rw [h.cellAt q (by simpa [tab_length] using hq), List.getElem?_map, tab_at f hq]; rfl
theorem OwnI.put {w : World} {B g len : Nat} {f : Nat → Int} (h : OwnI w B g len f) (k : Nat) (v : Int) : OwnI (w.setCell ⟨g, k, none⟩ (.int .i64 v)) B g len (setN f k v) := by
  have h1 := (World.ownsRow.stored h k (.int .i64 v)).1
  unfold OwnI
  have : setN f k v = (fun q => if q = k then v else f q) := rfl
  rw [this, ← tab_set, List.map_set]; exact h1
theorem OwnI.kept {w w' : World} {B g len : Nat} {f : Nat → Int} {row : Option Nat} (h : OwnI w B g len f) (hg : w.grownBy w' row) (hr : row ≠ some g) : OwnI w' B g len f :=
  World.ownsRow.kept h hg (.inr (by simp [Value.ownBlock]; exact fun e => hr e.symm))
theorem OwnI.later {w w' : World} {B g len : Nat} {f : Nat → Int} (h : OwnI w B g len f) (hb : Below w.heap.size w w') : OwnI w' B g len f := own_later h hb
theorem OwnI.new (w : World) {B len : Nat} (hB : B ≤ w.heap.size) (hs : len ≤ 1048576) : OwnI (w.alloc (.cells (madeCells #[.int .i64 0] len) 3)) B w.heap.size len (fun _ => 0) := by
  have h := (OwnF.start w len hs).own
  exact own_base h hB
theorem OwnI.lt {w : World} {B g len : Nat} {f : Nat → Int} (h : OwnI w B g len f) : g < w.heap.size := (World.ownsRow.lt h g rfl).2
theorem OwnI.congr {w : World} {B g len : Nat} {f f' : Nat → Int} (h : OwnI w B g len f) (e : ∀ q, q < len → f q = f' q) : OwnI w B g len f' := by
  unfold OwnI; rw [← tab_congr e]; exact h
/-- append of a new empty row to rows of the call's own -/
theorem wpAppRow0 {ops : Array Oper} {rest : List Oper} {o : Oper} {a : Act} {Q : Exit → Act → World → Prop} {wo : World} (hgd : o.guard = none) (s x : Operand)
    (ho : o.op = .call { callee := .builtin .append, args := #[s, x], argTypes := #[24, 24] })
    (B0 B1 k cp : Nat) (ax : Option Addr) (rows : List (List Int)) (hs : a.eval s = .slice ax k cp)
    (hown : OwnRowsW wo B0 B1 (.slice ax k cp) k rows) (hx : a.eval x = .slice (some ⟨wo.heap.size + 1, 0, none⟩) 1 1)
    (hbase : B1 ≤ wo.heap.size) (hB : B0 ≤ B1) (hk : k ≤ 1048576)
    (h : ∀ (a6 : Option Addr) (c6 : Nat) (w' : World), OwnRowsW w' B0 B1 (.slice a6 (k + 1) c6) (k + 1) (rows ++ [[]]) → k + 1 ≤ c6 → wo.grownBy w' (Value.slice ax k cp).ownBlock →
      wpList Try.prog ops Q rest (a.put o.dst (.slice a6 (k + 1) c6)) w') :
    wpList Try.prog ops Q (o :: rest) a ((wo.alloc (.cells #[] 3)).alloc (.cells #[.slice (some ⟨wo.heap.size, 0, none⟩) 0 0] 23)) := by
  obtain ⟨i1, hj, hy0, hy1, hy2⟩ := info_parts Try.infoInts
  obtain ⟨us, hv, hlr, hus⟩ := hown
  have hsz : (wo.alloc (.cells #[] 3)).heap.size = wo.heap.size + 1 := by simp
  have hone := one_new (wo.alloc (.cells #[] 3)) (.slice (some ⟨wo.heap.size, 0, none⟩) 0 0) 23
  rw [hsz] at hone
  refine wpList_append_own _ hgd s x 24 ho B0 23 i1 (.slice none 0 0) 1 24 Try.underlying24 hj hy0 hy1 hy2 rfl (by decide) _ k us hs ((hv.alloc _).alloc _) ⟨wo.heap.size + 1, 0, none⟩ 1 1 [.slice (some ⟨wo.heap.size, 0, none⟩) 0 0] hx rfl hone (fun u hu => by rw [List.mem_singleton.1 hu]; rfl) (by unfold maxLen; omega) (by omega) (by simp; omega) ?_
  intro v' w6 hown6 hgrow _
  obtain ⟨a6, c6, rfl, hc⟩ := own_slice hown6
  have hnew : ((wo.alloc (.cells #[] 3)).alloc (.cells #[.slice (some ⟨wo.heap.size, 0, none⟩) 0 0] 23)).ownsRow B1 3 1 (.slice (some ⟨wo.heap.size, 0, none⟩) 0 0) 0 (([] : List Int).map (.int .i64)) :=
    (World.ownsRow_made wo #[] 0 hbase (Nat.zero_le _) rfl).alloc _
  refine h a6 c6 w6 (OwnRowsW.push (a := some ⟨wo.heap.size, 0, none⟩) (c := 0) (l := 0) ((hv.alloc _).alloc _) hlr (fun q u hq => ?_) hnew (Nat.le_refl _) (by omega) hown6 hgrow) hc ?_
  · obtain ⟨a', l', c', r', e1, e2, e3, e4, e5⟩ := hus q u hq
    exact ⟨a', l', c', r', e1, e2, e3, e4, (e5.alloc _).alloc _⟩
  · exact grown_comp (World.grownBy_alloc wo _ _) (grown_comp (World.grownBy_alloc _ _ _) hgrow)
theorem step_mem {w : World} {n b off len j k b1 off1 l1 c1 b2 off2 c2 : Nat} {shop : List (List (List Int))} (h : ShopAt w (· < n) (some ⟨b, off, none⟩) len shop) (hj : j < len) (hk : k < l1) (d1 : w.cell? ⟨b, off + j, none⟩ = some (.slice (some ⟨b1, off1, none⟩) l1 c1)) (d3 : w.cell? ⟨b1, off1 + k, none⟩ = some (.slice (some ⟨b2, off2, none⟩) 2 c2)) : b < n ∧ b1 < n ∧ b2 < n := by
  have hb := h.mem (by omega)
  obtain ⟨b', off', job, a', l, c, e, hjob, hc, _, hr⟩ := h.get hj
  cases e
  rw [d1] at hc
  cases hc
  have hb1 : b1 < n := by
    obtain ⟨b'', off'', e, hs, _⟩ := hr.cells (by omega)
    cases e
    exact hs
  obtain ⟨b3, off3, r, a3, l3, c3, e, hrr, hc3, _, hi⟩ := hr.get hk
  cases e
  rw [d3] at hc3
  cases hc3
  exact ⟨hb, hb1, hi.mem (by omega)⟩
/-- rows, and a number -/
def RowsInt (w : World) (rows : List (List Int)) (n : Int) (e : Ending) (w' : World) : Prop := ∃ (a : Option Addr) (len cap : Nat), e = .returned (.tuple #[.slice a len cap, .int .i64 n]) ∧ RowsAt w' (fun b => w.heap.size ≤ b ∧ b < w'.heap.size) a len rows ∧ len ≤ cap ∧ Below w.heap.size w w'
theorem Try.infoIntBg : (Try.prog.info? 3).map (fun i => (i.zero, i.size, i.bytes)) = some (some (.int .i64 0), 1, 8) := by kernel_rfl
end Go.Proofs.Ytkebdelfklmigae
