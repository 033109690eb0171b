import Derived.Test.YtkebdelfklmigaeRows
import Derived.WalkKit
import Derived.LoopTactic
import Derived.Outline
import Derived.WalkSpells
import Derived.WalkLawsBesides
import Derived.ProofKit
import Derived.Lib.Hide
import Derived.IntWalk
import Derived.Deep.QuietTactic
import Derived.BigQuiet
import Derived.StillTailTactics
import Derived.Shelf.RegionOpenPlain
import Derived.Test.YtkebdelfklmigaeM0
import Derived.Test.YtkebdelfklmigaeM1
import Derived.Test.YtkebdelfklmigaeM2
import Derived.Test.YtkebdelfklmigaeM13
import Derived.Deep.AppendLies
import Derived.RegionTactic
import Derived.BigRegion
import Derived.Test.YtkebdelfklmigaeM4
import Derived.Test.YtkebdelfklmigaeM12
namespace Go.Proofs.Ytkebdelfklmigae
open Go.RowKit Go.WideShapes

def nat7 (h : List Nat) : List Int := h.map (fun x : Nat => (x : Int))
/-- turns, and a number -/
def TurnsInt (B : Nat) (w : World) (t : List Nat) (v : Int) (e : Ending) (w' : World) : Prop := ∃ (a : Option Addr) (len cap : Nat), e = .returned (.tuple #[.slice a len cap, .int .i64 v]) ∧ IntsAt w' (fun b => B ≤ b ∧ b < w'.heap.size) a len (nat7 t) ∧ len ≤ cap ∧ Below w.heap.size w w'
def valB (shop : List (List (List Int))) (l : List Nat) : Int := (runS (smach shop) (stime shop) shop0 l).all
def doneB (left : Nat → Nat) (j : Nat) : Bool := decide (∀ i, i < j → left i = 0)
theorem doneB_skip {left : Nat → Nat} {j : Nat} (h : left j = 0) : doneB left (j + 1) = doneB left j := by
  unfold doneB
  rw [Bool.eq_iff_iff]; simp only [decide_eq_true_eq]
  refine ⟨fun g i hi => g i (by omega), fun g i hi => ?_⟩
  rcases Nat.lt_or_eq_of_le (Nat.le_of_lt_succ hi) with h1 | rfl
  · exact g i h1
  · exact h
theorem doneB_not {left : Nat → Nat} {j n : Nat} (h : left j ≠ 0) (hj : j < n) : doneB left n = false := decide_eq_false fun g => h (g j hj)
end Go.Proofs.Ytkebdelfklmigae
namespace Go.Proofs.Ytkebdelfklmigae
open Go.RowKit Go.WideShapes

theorem slen_job {shop : List (List (List Int))} {k : Nat} {job : List (List Int)} (h : shop[k]? = some job) : slen shop k = job.length := by
  unfold slen; rw [List.getD_eq_getElem?_getD, h]; rfl
/-- the best turns, and when all is done by them -/
def bestT (shop : List (List (List Int))) : List Nat := if shopM shop then (bestFS (valB shop) shop.length (sumLeft (slen shop) shop.length) [] (slen shop)).1 else []
def bestN (shop : List (List (List Int))) : Int := if shopM shop then (bestFS (valB shop) shop.length (sumLeft (slen shop) shop.length) [] (slen shop)).2 else -1
/-- as ints -/
def bestI (shop : List (List (List Int))) : List Int := nat7 (bestT shop)
theorem valB_nn {shop : List (List (List Int))} (hv : shopM shop = true) (l : List Nat) : 0 ≤ valB shop l :=
  (runS_inv (fun j k => (stime_bd hv j k).1) l shop0 (shop0_inv (smach shop) (stime shop))).nn.1
theorem best_is {shop : List (List (List Int))} (hv : shopM shop = true) : BestB (valB shop) shop.length (slen shop) (bestT shop) (bestN shop) := by
  unfold bestT bestN
  rw [if_pos hv, if_pos hv]
  exact bestFS_best (valB_nn hv) shop.length (slen shop)
theorem bestI_len (shop : List (List (List Int))) : (bestI shop).length ≤ 1048576 := by
  unfold bestI nat7
  rw [List.length_map]
  cases hv : shopM shop
  · unfold bestT; rw [hv]; simp
  · have h := (best_is hv).turns
    have := turnsOf_len hv h.1 (turnsOf_cnt h)
    omega
theorem sumLeft_shop {shop : List (List (List Int))} (hv : shopM shop = true) : sumLeft (slen shop) shop.length ≤ 9 := by
  have h3 := (shop_get hv).1
  have h4 := sumLeft_le (c := 3) (f := slen shop) shop.length (fun j _ => slen_le hv j)
  omega
end Go.Proofs.Ytkebdelfklmigae
namespace Go.Proofs.Ytkebdelfklmigae

-- plans of shops (plain): what was put to each machine last
def lastF (m : Nat → Nat → Nat) (s : (Nat → Nat) × (Nat → Option (Nat × Nat))) (j : Nat) : (Nat → Nat) × (Nat → Option (Nat × Nat)) :=
  (setN s.1 j (s.1 j + 1), setN s.2 (m j (s.1 j)) (some (j, s.1 j)))
def lastL (m : Nat → Nat → Nat) (l : List Nat) : Nat → Option (Nat × Nat) := (l.foldl (lastF m) (fun _ => 0, fun _ => none)).2
theorem lastF_cnt (m : Nat → Nat → Nat) : ∀ (l : List Nat) (s : (Nat → Nat) × (Nat → Option (Nat × Nat))) (j : Nat), (l.foldl (lastF m) s).1 j = s.1 j + l.count j
  | [], s, j => by simp
  | i :: l, s, j => by
    rw [List.foldl_cons, lastF_cnt m l, List.count_cons]
    show setN s.1 i (s.1 i + 1) j + _ = _
    by_cases e : j = i
    · subst e; rw [setN_at]; simp; omega
    · rw [setN_ne _ _ e]; simp [beq_eq_false_iff_ne.2 (fun h => e h.symm)]
theorem lastL_nil (m : Nat → Nat → Nat) (M : Nat) : lastL m [] M = none := rfl
theorem lastL_snoc (m : Nat → Nat → Nat) (l : List Nat) (j : Nat) : lastL m (l ++ [j]) = setN (lastL m l) (m j (l.count j)) (some (j, l.count j)) := by
  have e : (l.foldl (lastF m) (fun _ => 0, fun _ => none)).1 j = l.count j := by rw [lastF_cnt]; exact Nat.zero_add _
  unfold lastL
  rw [List.foldl_append]
  show setN (l.foldl (lastF m) (fun _ => 0, fun _ => none)).2 (m j ((l.foldl (lastF m) (fun _ => 0, fun _ => none)).1 j)) (some (j, (l.foldl (lastF m) (fun _ => 0, fun _ => none)).1 j)) = _
  rw [e]
def endV (p : Nat → Nat → Int) (b : Nat → Nat → Int) : Option (Nat × Nat) → Int
  | none => 0
  | some x => b x.1 x.2 + p x.1 x.2
def prevO (j k : Nat) : Option (Nat × Nat) := if k = 0 then none else some (j, k - 1)
theorem run_nx (m : Nat → Nat → Nat) (p : Nat → Nat → Int) (l : List Nat) (j : Nat) : (runS m p shop0 l).nx j = l.count j := by
  rw [runS_nx]; show 0 + _ = _; omega
theorem snoc_ind {α : Type} {P : List α → Prop} (h0 : P []) (h1 : ∀ l x, P l → P (l ++ [x])) (l : List α) : P l := by
  have key : ∀ r : List α, P r.reverse := by
    intro r
    induction r with
    | nil => exact h0
    | cons x r ih => rw [List.reverse_cons]; exact h1 _ _ ih
  have := key l.reverse
  rwa [List.reverse_reverse] at this
theorem count_snoc (l : List Nat) (i j : Nat) : (l ++ [i]).count j = if j = i then l.count j + 1 else l.count j := by
  rw [List.count_append]
  split
  · rename_i e; subst e; simp
  · rename_i e; rw [List.count_cons_of_ne (fun h => e h.symm)]; simp
theorem last_in (m : Nat → Nat → Nat) (l : List Nat) : ∀ M x, lastL m l M = some x → x.2 < l.count x.1 ∧ m x.1 x.2 = M := by
  refine snoc_ind (P := fun l => ∀ M x, lastL m l M = some x → x.2 < l.count x.1 ∧ m x.1 x.2 = M) (fun M x h => by rw [lastL_nil] at h; cases h) (fun l i ih M x h => ?_) l
  rw [lastL_snoc] at h
  by_cases e : M = m i (l.count i)
  · subst e
    rw [setN_at] at h
    cases h
    rw [count_snoc, if_pos rfl]
    exact ⟨Nat.lt_succ_self _, rfl⟩
  · rw [setN_ne _ _ e] at h
    obtain ⟨h1, h2⟩ := ih M x h
    refine ⟨?_, h2⟩
    rw [count_snoc]; split <;> omega
theorem turn_b (m : Nat → Nat → Nat) (p : Nat → Nat → Int) (s : ShopS) (i j k : Nat) (h : ¬ (j = i ∧ k = s.nx i)) : (turnS m p s i).b j k = s.b j k := by
  show setN s.b i (setN (s.b i) (s.nx i) (beginS m s i)) j k = _
  by_cases hi : j = i
  · subst hi
    rw [setN_at, setN_ne _ _ (fun e => h ⟨rfl, e⟩)]
  · rw [setN_ne _ _ hi]
theorem turn_b_at (m : Nat → Nat → Nat) (p : Nat → Nat → Int) (s : ShopS) (i : Nat) : (turnS m p s i).b i (s.nx i) = beginS m s i := by
  show setN s.b i (setN (s.b i) (s.nx i) (beginS m s i)) i (s.nx i) = _
  rw [setN_at, setN_at]
theorem last_fr (m : Nat → Nat → Nat) (p : Nat → Nat → Int) (l : List Nat) : ∀ M, (runS m p shop0 l).fr M = endV p (runS m p shop0 l).b (lastL m l M) := by
  refine snoc_ind (P := fun l => ∀ M, (runS m p shop0 l).fr M = endV p (runS m p shop0 l).b (lastL m l M)) (fun M => rfl) (fun l i ih M => ?_) l
  rw [runS_snoc, lastL_snoc]
  have hn := run_nx m p l i
  show setN (runS m p shop0 l).fr (m i ((runS m p shop0 l).nx i)) _ M = _
  rw [hn]
  by_cases e : M = m i (l.count i)
  · subst e
    rw [setN_at, setN_at]
    show _ = (turnS m p (runS m p shop0 l) i).b i (l.count i) + p i (l.count i)
    rw [← hn, turn_b_at]
  · rw [setN_ne _ _ e, setN_ne _ _ e, ih]
    cases hx : lastL m l M with
    | none => rfl
    | some x =>
      have := (last_in m l M x hx).1
      show _ = (turnS m p (runS m p shop0 l) i).b x.1 x.2 + p x.1 x.2
      rw [turn_b m p _ i x.1 x.2 (fun h => by rw [hn] at h; obtain ⟨h1, h2⟩ := h; rw [h1] at this; omega)]
      rfl
theorem last_rd (m : Nat → Nat → Nat) (p : Nat → Nat → Int) (l : List Nat) : ∀ j, (runS m p shop0 l).rd j = endV p (runS m p shop0 l).b (prevO j (l.count j)) := by
  refine snoc_ind (P := fun l => ∀ j, (runS m p shop0 l).rd j = endV p (runS m p shop0 l).b (prevO j (l.count j))) (fun j => rfl) (fun l i ih j => ?_) l
  rw [runS_snoc, count_snoc]
  have hn := run_nx m p l i
  show setN (runS m p shop0 l).rd i _ j = _
  by_cases e : j = i
  · subst e
    rw [setN_at, if_pos rfl]
    show _ = endV p (turnS m p (runS m p shop0 l) j).b (prevO j (l.count j + 1))
    unfold prevO
    rw [if_neg (by omega)]
    show _ = (turnS m p (runS m p shop0 l) j).b j (l.count j + 1 - 1) + p j (l.count j + 1 - 1)
    rw [Nat.add_sub_cancel, hn]
    conv => rhs; rw [← hn, turn_b_at]
    rw [hn]
  · rw [setN_ne _ _ e, if_neg e, ih]
    unfold prevO
    split
    · rfl
    · show (runS m p shop0 l).b j (l.count j - 1) + _ = (turnS m p (runS m p shop0 l) i).b j (l.count j - 1) + _
      rw [turn_b m p _ i j _ (fun h => e h.1)]
/-- all is done when each machine is -/
theorem last_all {m : Nat → Nat → Nat} {p : Nat → Nat → Int} (hp : ∀ j k, 0 ≤ p j k) (hm : ∀ j k, m j k < 3) (l : List Nat) :
    (runS m p shop0 l).all = max (max (max 0 (endV p (runS m p shop0 l).b (lastL m l 0))) (endV p (runS m p shop0 l).b (lastL m l 1))) (endV p (runS m p shop0 l).b (lastL m l 2)) := by
  rw [← last_fr, ← last_fr, ← last_fr]
  have h := runS_inv hp l shop0 (shop0_inv m p)
  have h0 := h.upF 0
  have h1 := h.upF 1
  have h2 := h.upF 2
  have hn := h.nn.1
  rcases h.is with e | ⟨j, k, hk, e⟩
  · omega
  · have hf := h.free j k hk
    have hmm := hm j k
    have : m j k = 0 ∨ m j k = 1 ∨ m j k = 2 := by omega
    rcases this with q | q | q <;> rw [q] at hf <;> omega
/-- a plan's memory: which steps were put, and when; what lay on a step's machine ahead of it -/
def OnOk (m : Nat → Nat → Nat) (l : List Nat) (on : Nat → Nat → Option (Nat × Nat)) : Prop := ∀ l1 j l2, l = l1 ++ j :: l2 → on j (l1.count j) = lastL m l1 (m j (l1.count j))
def BgOk (m : Nat → Nat → Nat) (p : Nat → Nat → Int) (l : List Nat) (bg : Nat → Nat → Int) : Prop := ∀ j k, k < l.count j → bg j k = (runS m p shop0 l).b j k
def set2 {α : Type} (f : Nat → Nat → α) (j k : Nat) (v : α) : Nat → Nat → α := setN f j (setN (f j) k v)
theorem set2_at {α : Type} (f : Nat → Nat → α) (j k : Nat) (v : α) : set2 f j k v j k = v := by unfold set2; rw [setN_at, setN_at]
theorem set2_ne {α : Type} (f : Nat → Nat → α) {j k j' k' : Nat} (v : α) (h : ¬ (j' = j ∧ k' = k)) : set2 f j k v j' k' = f j' k' := by
  unfold set2
  by_cases e : j' = j
  · subst e; rw [setN_at, setN_ne _ _ (fun e => h ⟨rfl, e⟩)]
  · rw [setN_ne _ _ e]
theorem onOk_nil (m : Nat → Nat → Nat) (on : Nat → Nat → Option (Nat × Nat)) : OnOk m [] on := fun l1 j l2 h => by simp at h
theorem bgOk_nil (m : Nat → Nat → Nat) (p : Nat → Nat → Int) (bg : Nat → Nat → Int) : BgOk m p [] bg := fun j k h => by simp at h
theorem onOk_snoc {m : Nat → Nat → Nat} {l : List Nat} {on : Nat → Nat → Option (Nat × Nat)} (h : OnOk m l on) (i : Nat) : OnOk m (l ++ [i]) (set2 on i (l.count i) (lastL m l (m i (l.count i)))) := by
  intro l1 j l2 e
  rcases List.eq_nil_or_concat l2 with rfl | ⟨l3, x, rfl⟩
  · obtain ⟨rfl, e2⟩ := List.append_inj' e rfl
    cases e2
    rw [set2_at]
  · rw [List.concat_eq_append, ← List.cons_append, ← List.append_assoc] at e
    obtain ⟨e1, e2⟩ := List.append_inj' e rfl
    rw [set2_ne]
    · exact h l1 j l3 e1
    · rintro ⟨rfl, hc⟩
      have := congrArg (List.count j) e1
      rw [List.count_append, List.count_cons_self] at this
      omega
theorem onOk_back {m : Nat → Nat → Nat} {l : List Nat} {on : Nat → Nat → Option (Nat × Nat)} {i : Nat} (h : OnOk m (l ++ [i]) on) : OnOk m l on ∧ on i (l.count i) = lastL m l (m i (l.count i)) :=
  ⟨fun l1 j l2 e => h l1 j (l2 ++ [i]) (by rw [e]; simp), h l i [] rfl⟩
theorem bgOk_snoc {m : Nat → Nat → Nat} {p : Nat → Nat → Int} {l : List Nat} {bg : Nat → Nat → Int} (h : BgOk m p l bg) (i : Nat) : BgOk m p (l ++ [i]) (set2 bg i (l.count i) (beginS m (runS m p shop0 l) i)) := by
  intro j k hk
  have hn := run_nx m p l i
  rw [runS_snoc]
  by_cases e : j = i ∧ k = l.count i
  · obtain ⟨rfl, rfl⟩ := e
    rw [set2_at]
    conv => rhs; rw [← hn, turn_b_at]
  · rw [set2_ne _ _ e, turn_b m p _ i j k (by rw [hn]; exact e)]
    refine h j k ?_
    rw [count_snoc] at hk
    split at hk
    · rename_i e2; subst e2
      have : k ≠ l.count j := fun h => e ⟨rfl, h⟩
      omega
    · exact hk
theorem bgOk_back {m : Nat → Nat → Nat} {p : Nat → Nat → Int} {l : List Nat} {bg : Nat → Nat → Int} {i : Nat} (h : BgOk m p (l ++ [i]) bg) : BgOk m p l bg := by
  intro j k hk
  rw [h j k (by rw [count_snoc]; split <;> omega), runS_snoc, turn_b]
  rw [run_nx]
  rintro ⟨rfl, rfl⟩
  omega
theorem last_back (m : Nat → Nat → Nat) (l : List Nat) (i : Nat) : setN (lastL m (l ++ [i])) (m i (l.count i)) (lastL m l (m i (l.count i))) = lastL m l := by
  funext M
  by_cases e : M = m i (l.count i)
  · rw [e, setN_at]
  · rw [setN_ne _ _ e, lastL_snoc, setN_ne _ _ e]
theorem endV_cong {m : Nat → Nat → Nat} {p : Nat → Nat → Int} {l : List Nat} {bg : Nat → Nat → Int} (h : BgOk m p l bg) (M : Nat) : endV p bg (lastL m l M) = endV p (runS m p shop0 l).b (lastL m l M) := by
  cases hx : lastL m l M with
  | none => rfl
  | some x => show bg x.1 x.2 + _ = _; rw [h x.1 x.2 (last_in m l M x hx).1]; rfl
theorem endV_prev {m : Nat → Nat → Nat} {p : Nat → Nat → Int} {l : List Nat} {bg : Nat → Nat → Int} (h : BgOk m p l bg) (j : Nat) : endV p bg (prevO j (l.count j)) = endV p (runS m p shop0 l).b (prevO j (l.count j)) := by
  unfold prevO
  split
  · rfl
  · show bg j (l.count j - 1) + _ = _; rw [h j _ (by omega)]; rfl
/-- when the next step of job j begins, by what is put -/
theorem begin_ends {m : Nat → Nat → Nat} {p : Nat → Nat → Int} {l : List Nat} {bg : Nat → Nat → Int} (h : BgOk m p l bg) (j : Nat) :
    max (endV p bg (prevO j (l.count j))) (endV p bg (lastL m l (m j (l.count j)))) = beginS m (runS m p shop0 l) j := by
  rw [endV_cong h, endV_prev h, ← last_fr, ← last_rd]
  unfold beginS
  rw [run_nx]
theorem ends_bd {m : Nat → Nat → Nat} {p : Nat → Nat → Int} (hp : ∀ j k, 0 ≤ p j k ∧ p j k ≤ 9) {l : List Nat} (hl : l.length ≤ 9) {bg : Nat → Nat → Int} (h : BgOk m p l bg) (j k : Nat) (hk : k < l.count j) : 0 ≤ bg j k ∧ bg j k ≤ 81 := by
  have hi := runS_inv (fun j k => (hp j k).1) l shop0 (shop0_inv m p)
  have hb := runS_bd (m := m) hp l
  rw [h j k hk]
  have h1 := hi.pos j k (by rw [run_nx]; exact hk)
  have h2 := hi.last j k (by rw [run_nx]; exact hk)
  have h3 := hi.upR j
  have h4 := hp j k
  omega
end Go.Proofs.Ytkebdelfklmigae
namespace Go.Proofs.Ytkebdelfklmigae
open Go.RowKit Go.WideShapes

-- blocks, whole
theorem heap_set {w : World} {b i : Nat} {cs : Array Value} {t : TypeId} {fr : Nat × Nat} (h : w.heap[b]? = some (.cells cs t fr)) (v : Value) :
    (w.setCell ⟨b, i, none⟩ v).heap[b]? = some (.cells (cs.setIfInBounds i v) t fr) := by
  simp [World.setCell, Array.getElem?_modify, h]
theorem heap_set_ne {w : World} {b c i : Nat} (h : c ≠ b) (v : Value) : (w.setCell ⟨b, i, none⟩ v).heap[c]? = w.heap[c]? := Below.heap_setCell _ _ _ _ h
theorem frozen_row {w : World} {b : Nat} {cs : Array Value} {t : TypeId} (h : w.heap[b]? = some (.cells cs t (0, 0))) (i : Nat) : w.frozen? ⟨b, i, none⟩ = false := by
  simp [World.frozen?, h]
theorem ne_type {w : World} {b c : Nat} {cs ds : Array Value} {t u : TypeId} {fr gr : Nat × Nat} (h : w.heap[b]? = some (.cells cs t fr)) (g : w.heap[c]? = some (.cells ds u gr)) (hn : t ≠ u) : b ≠ c := by
  rintro rfl
  rw [h] at g
  simp only [Option.some.injEq, Obj.cells.injEq] at g
  exact hn g.2.1
theorem lt_heap {w : World} {b : Nat} {o : Obj} (h : w.heap[b]? = some o) : b < w.heap.size := (Array.getElem?_eq_some_iff.1 h).1

def tabV (f : Nat → Value) (n : Nat) : Array Value := ((List.range n).map f).toArray
theorem tabV_get (f : Nat → Value) {n j : Nat} (h : j < n) : (tabV f n)[j]? = some (f j) := by simp [tabV, h]
theorem tabV_congr {f g : Nat → Value} {n : Nat} (h : ∀ j, j < n → f j = g j) : tabV f n = tabV g n := by
  unfold tabV
  rw [List.map_congr_left fun j hj => h j (List.mem_range.1 hj)]
theorem tabV_set (f : Nat → Value) (n j : Nat) (v : Value) : (tabV f n).setIfInBounds j v = tabV (setN f j v) n := by
  apply Array.ext_getElem?
  intro i
  rw [Array.getElem?_setIfInBounds]
  by_cases hi : i < n
  · rw [tabV_get _ hi, tabV_get _ hi]
    by_cases e : j = i
    · subst e; rw [if_pos rfl, setN_at, if_pos (by simp [tabV, hi])]
    · rw [if_neg e, setN_ne _ _ (fun h => e h.symm)]
  · have h1 : (tabV f n)[i]? = none := by simp [tabV]; omega
    have h2 : (tabV (setN f j v) n)[i]? = none := by simp [tabV]; omega
    rw [h1, h2]
    split
    · rw [if_neg (by simp [tabV]; omega)]
    · rfl
end Go.Proofs.Ytkebdelfklmigae
namespace Go.Proofs.Ytkebdelfklmigae
open Go.RowKit Go.WideShapes

-- a plan of a shop, in memory
/-- where a plan lies: its blocks, all of them from B on and below top -/
structure PD where
  B : Nat
  top : Nat
  P : Nat
  J : Nat
  X : Nat
  aR : Nat → Option Addr
  cR : Nat → Nat
  R : Nat → Nat
  Q : Nat → Nat → Nat
def PD.addr (D : PD) : Option (Nat × Nat) → Option Addr
  | none => none
  | some x => some ⟨D.Q x.1 x.2, 0, none⟩
def PD.ptr (D : PD) (o : Option (Nat × Nat)) : Value := .pointer (D.addr o)
structure PD.Ok (D : PD) (n : Nat) (sl : Nat → Nat) : Prop where
  bt : D.B ≤ D.top
  p : D.B ≤ D.P ∧ D.P < D.top
  j : D.B ≤ D.J ∧ D.J < D.top
  x : D.B ≤ D.X ∧ D.X < D.top
  row0 : ∀ j, j < n → sl j = 0 → D.aR j = none ∧ D.cR j = 0
  row : ∀ j, j < n → sl j ≤ D.cR j ∧ (0 < sl j → D.aR j = some ⟨D.R j, 0, none⟩ ∧ D.B ≤ D.R j ∧ D.R j < D.top)
  step : ∀ j k, j < n → k < sl j → D.B ≤ D.Q j k ∧ D.Q j k < D.top
  inj : ∀ j k i h, j < n → k < sl j → i < n → h < sl i → D.Q j k = D.Q i h → j = i ∧ k = h
/-- nx: how many steps of each job are put; lp: what lies on each machine last; v: the turns; bg, on: when the steps begin, and what they wait for on their machines -/
structure PlanW (w : World) (D : PD) (shop : List (List (List Int))) (nx : Nat → Nat) (lp : Nat → Option (Nat × Nat)) (v : Value) (bg : Nat → Nat → Int) (on : Nat → Nat → Option (Nat × Nat)) : Prop where
  ok : D.Ok shop.length (slen shop)
  plan : w.heap[D.P]? = some (.cells #[.slice (some ⟨D.J, 0, none⟩) shop.length shop.length, .slice (some ⟨D.X, 0, none⟩) shop.length shop.length, D.ptr (lp 0), D.ptr (lp 1), D.ptr (lp 2), v] 101 (0, 0))
  jobs : w.heap[D.J]? = some (.cells (tabV (fun j => .slice (D.aR j) (slen shop j) (D.cR j)) shop.length) 104 (0, 0))
  next : w.heap[D.X]? = some (.cells (tabV (fun j => .int .i64 (nx j : Nat)) shop.length) 3 (0, 0))
  rows : ∀ j, j < shop.length → 0 < slen shop j → ∃ cs, w.heap[D.R j]? = some (.cells cs 98 (0, 0)) ∧ ∀ k, k < slen shop j → cs[k]? = some (D.ptr (some (j, k)))
  steps : ∀ j k, j < shop.length → k < slen shop j → w.heap[D.Q j k]? = some (.cells #[.int .i64 (j : Nat), .int .i64 (smach shop j k : Nat), .int .i64 (stime shop j k), .int .i64 (bg j k), D.ptr (prevO j k), D.ptr (on j k)] 103 (0, 0))
section
variable {w : World} {D : PD} {shop : List (List (List Int))} {nx : Nat → Nat} {lp : Nat → Option (Nat × Nat)} {v : Value} {bg : Nat → Nat → Int} {on : Nat → Nat → Option (Nat × Nat)}
theorem PlanW.to {w' : World} (h : PlanW w D shop nx lp v bg on) (hg : ∀ b, D.B ≤ b → b < D.top → w'.heap[b]? = w.heap[b]?) : PlanW w' D shop nx lp v bg on :=
  ⟨h.ok, (hg _ h.ok.p.1 h.ok.p.2).trans h.plan, (hg _ h.ok.j.1 h.ok.j.2).trans h.jobs, (hg _ h.ok.x.1 h.ok.x.2).trans h.next, fun j hj hs => by
    obtain ⟨cs, h1, h2⟩ := h.rows j hj hs
    have := ((h.ok.row j hj).2 hs).2
    exact ⟨cs, (hg _ this.1 this.2).trans h1, h2⟩, fun j k hj hk => by
    have := h.ok.step j k hj hk
    exact (hg _ this.1 this.2).trans (h.steps j k hj hk)⟩
theorem PlanW.cells (h : PlanW w D shop nx lp v bg on) : w.cell? ⟨D.P, 0, none⟩ = some (.slice (some ⟨D.J, 0, none⟩) shop.length shop.length) ∧ w.cell? ⟨D.P, 1, none⟩ = some (.slice (some ⟨D.X, 0, none⟩) shop.length shop.length) ∧
    w.cell? ⟨D.P, 2, none⟩ = some (D.ptr (lp 0)) ∧ w.cell? ⟨D.P, 3, none⟩ = some (D.ptr (lp 1)) ∧ w.cell? ⟨D.P, 4, none⟩ = some (D.ptr (lp 2)) ∧ w.cell? ⟨D.P, 5, none⟩ = some v := by
  refine ⟨?_, ?_, ?_, ?_, ?_, ?_⟩ <;> rw [cell_of_row _ _ _ _ _ _ h.plan] <;> rfl
theorem PlanW.lastCell (h : PlanW w D shop nx lp v bg on) {M : Nat} (hM : M < 3) : w.cell? ⟨D.P, 2 + M, none⟩ = some (D.ptr (lp M)) := by
  have : M = 0 ∨ M = 1 ∨ M = 2 := by omega
  rcases this with rfl | rfl | rfl
  · exact h.cells.2.2.1
  · exact h.cells.2.2.2.1
  · exact h.cells.2.2.2.2.1
theorem PlanW.jobCell (h : PlanW w D shop nx lp v bg on) {j : Nat} (hj : j < shop.length) : w.cell? ⟨D.J, j, none⟩ = some (.slice (D.aR j) (slen shop j) (D.cR j)) := by
  rw [cell_of_row _ _ _ _ _ _ h.jobs, tabV_get _ hj]
theorem PlanW.nextCell (h : PlanW w D shop nx lp v bg on) {j : Nat} (hj : j < shop.length) : w.cell? ⟨D.X, j, none⟩ = some (.int .i64 (nx j : Nat)) := by
  rw [cell_of_row _ _ _ _ _ _ h.next, tabV_get _ hj]
theorem PlanW.rowCell (h : PlanW w D shop nx lp v bg on) {j k : Nat} (hj : j < shop.length) (hk : k < slen shop j) : w.cell? ⟨D.R j, k, none⟩ = some (.pointer (some ⟨D.Q j k, 0, none⟩)) := by
  obtain ⟨cs, h1, h2⟩ := h.rows j hj (by omega)
  rw [cell_of_row _ _ _ _ _ _ h1, h2 k hk]; rfl
theorem PlanW.stepCells (h : PlanW w D shop nx lp v bg on) {j k : Nat} (hj : j < shop.length) (hk : k < slen shop j) :
    w.cell? ⟨D.Q j k, 0, none⟩ = some (.int .i64 (j : Nat)) ∧ w.cell? ⟨D.Q j k, 1, none⟩ = some (.int .i64 (smach shop j k : Nat)) ∧ w.cell? ⟨D.Q j k, 2, none⟩ = some (.int .i64 (stime shop j k)) ∧
    w.cell? ⟨D.Q j k, 3, none⟩ = some (.int .i64 (bg j k)) ∧ w.cell? ⟨D.Q j k, 4, none⟩ = some (D.ptr (prevO j k)) ∧ w.cell? ⟨D.Q j k, 5, none⟩ = some (D.ptr (on j k)) := by
  have := h.steps j k hj hk
  refine ⟨?_, ?_, ?_, ?_, ?_, ?_⟩ <;> rw [cell_of_row _ _ _ _ _ _ this] <;> rfl
theorem PlanW.frozen (h : PlanW w D shop nx lp v bg on) : (∀ i, w.frozen? ⟨D.P, i, none⟩ = false) ∧ (∀ i, w.frozen? ⟨D.X, i, none⟩ = false) ∧ ∀ j k, j < shop.length → k < slen shop j → ∀ i, w.frozen? ⟨D.Q j k, i, none⟩ = false :=
  ⟨frozen_row h.plan, frozen_row h.next, fun j k hj hk => frozen_row (h.steps j k hj hk)⟩
/-- a store into the plan's own block -/
theorem PlanW.setP (h : PlanW w D shop nx lp v bg on) {i : Nat} {u : Value} {lp' : Nat → Option (Nat × Nat)} {v' : Value}
    (e : (#[.slice (some ⟨D.J, 0, none⟩) shop.length shop.length, .slice (some ⟨D.X, 0, none⟩) shop.length shop.length, D.ptr (lp 0), D.ptr (lp 1), D.ptr (lp 2), v] : Array Value).setIfInBounds i u = #[.slice (some ⟨D.J, 0, none⟩) shop.length shop.length, .slice (some ⟨D.X, 0, none⟩) shop.length shop.length, D.ptr (lp' 0), D.ptr (lp' 1), D.ptr (lp' 2), v']) :
    PlanW (w.setCell ⟨D.P, i, none⟩ u) D shop nx lp' v' bg on :=
  ⟨h.ok, by rw [heap_set h.plan, e], by rw [heap_set_ne (ne_type h.jobs h.plan (by decide))]; exact h.jobs, by rw [heap_set_ne (ne_type h.next h.plan (by decide))]; exact h.next,
   fun j hj hs => by
    obtain ⟨cs, h1, h2⟩ := h.rows j hj hs
    exact ⟨cs, by rw [heap_set_ne (ne_type h1 h.plan (by decide))]; exact h1, h2⟩,
   fun j k hj hk => by rw [heap_set_ne (ne_type (h.steps j k hj hk) h.plan (by decide))]; exact h.steps j k hj hk⟩
theorem PlanW.setLast (h : PlanW w D shop nx lp v bg on) {M : Nat} (hM : M < 3) (x : Option (Nat × Nat)) : PlanW (w.setCell ⟨D.P, 2 + M, none⟩ (D.ptr x)) D shop nx (setN lp M x) v bg on := by
  refine h.setP ?_
  have : M = 0 ∨ M = 1 ∨ M = 2 := by omega
  rcases this with rfl | rfl | rfl <;> rfl
theorem PlanW.setTurns (h : PlanW w D shop nx lp v bg on) (v' : Value) : PlanW (w.setCell ⟨D.P, 5, none⟩ v') D shop nx lp v' bg on := h.setP rfl
theorem PlanW.setNext (h : PlanW w D shop nx lp v bg on) (j n : Nat) : PlanW (w.setCell ⟨D.X, j, none⟩ (.int .i64 (n : Nat))) D shop (setN nx j n) lp v bg on :=
  ⟨h.ok, by rw [heap_set_ne (ne_type h.plan h.next (by decide))]; exact h.plan, by rw [heap_set_ne (ne_type h.jobs h.next (by decide))]; exact h.jobs, by
    rw [heap_set h.next, tabV_set]
    congr 3
    funext i
    unfold setN
    split <;> rfl,
   fun j hj hs => by
    obtain ⟨cs, h1, h2⟩ := h.rows j hj hs
    exact ⟨cs, by rw [heap_set_ne (ne_type h1 h.next (by decide))]; exact h1, h2⟩,
   fun j k hj hk => by rw [heap_set_ne (ne_type (h.steps j k hj hk) h.next (by decide))]; exact h.steps j k hj hk⟩
/-- a store into a step -/
theorem PlanW.setQ (h : PlanW w D shop nx lp v bg on) {j k : Nat} (hj : j < shop.length) (hk : k < slen shop j) {i : Nat} {u : Value} {b : Int} {o : Option (Nat × Nat)}
    (e : (#[.int .i64 (j : Nat), .int .i64 (smach shop j k : Nat), .int .i64 (stime shop j k), .int .i64 (bg j k), D.ptr (prevO j k), D.ptr (on j k)] : Array Value).setIfInBounds i u = #[.int .i64 (j : Nat), .int .i64 (smach shop j k : Nat), .int .i64 (stime shop j k), .int .i64 b, D.ptr (prevO j k), D.ptr o]) :
    PlanW (w.setCell ⟨D.Q j k, i, none⟩ u) D shop nx lp v (set2 bg j k b) (set2 on j k o) := by
  have hq := h.steps j k hj hk
  refine ⟨h.ok, by rw [heap_set_ne (ne_type h.plan hq (by decide))]; exact h.plan, by rw [heap_set_ne (ne_type h.jobs hq (by decide))]; exact h.jobs, by rw [heap_set_ne (ne_type h.next hq (by decide))]; exact h.next,
   fun j hj hs => by
    obtain ⟨cs, h1, h2⟩ := h.rows j hj hs
    exact ⟨cs, by rw [heap_set_ne (ne_type h1 hq (by decide))]; exact h1, h2⟩,
   fun j' k' hj' hk' => ?_⟩
  by_cases e2 : j' = j ∧ k' = k
  · obtain ⟨rfl, rfl⟩ := e2
    rw [heap_set hq, e, set2_at, set2_at]
  · rw [heap_set_ne (fun e3 => e2 (h.ok.inj j' k' j k hj' hk' hj hk e3)), set2_ne _ _ e2, set2_ne _ _ e2]
    exact h.steps j' k' hj' hk'
theorem set2_self {α : Type} (f : Nat → Nat → α) (j k : Nat) : set2 f j k (f j k) = f := by
  funext i h
  by_cases e : i = j ∧ h = k
  · obtain ⟨rfl, rfl⟩ := e; rw [set2_at]
  · rw [set2_ne _ _ e]
theorem PlanW.setOn (h : PlanW w D shop nx lp v bg on) {j k : Nat} (hj : j < shop.length) (hk : k < slen shop j) (o : Option (Nat × Nat)) : PlanW (w.setCell ⟨D.Q j k, 5, none⟩ (D.ptr o)) D shop nx lp v bg (set2 on j k o) := by
  have := h.setQ (i := 5) (u := D.ptr o) (b := bg j k) (o := o) hj hk rfl
  rwa [set2_self] at this
theorem PlanW.setBegin (h : PlanW w D shop nx lp v bg on) {j k : Nat} (hj : j < shop.length) (hk : k < slen shop j) (b : Int) : PlanW (w.setCell ⟨D.Q j k, 3, none⟩ (.int .i64 b)) D shop nx lp v (set2 bg j k b) on := by
  have := h.setQ (i := 3) (u := .int .i64 b) (b := b) (o := on j k) hj hk rfl
  rwa [set2_self] at this
theorem PlanW.drewN (h : PlanW w D shop nx lp v bg on) (q : Nat) : PlanW (w.drewN q) D shop nx lp v bg on := h.to (fun _ _ _ => rfl)
theorem PlanW.drew (h : PlanW w D shop nx lp v bg on) {w' : World} (d : Drew w w') : PlanW w' D shop nx lp v bg on := by
  obtain ⟨q, rfl⟩ := d; exact h.drewN q
theorem PlanW.topSize (h : PlanW w D shop nx lp v bg on) (ht : D.top ≤ w.heap.size) : D.P < w.heap.size ∧ D.X < w.heap.size ∧ D.J < w.heap.size := ⟨lt_heap h.plan, lt_heap h.next, lt_heap h.jobs⟩
end
/-- the turns lie in a block of their own, behind the plan -/
def TurnsOwn (w : World) (D : PD) (v : Value) (l : List Nat) : Prop := w.ownsRow D.top 3 1 v l.length ((l.map (fun x : Nat => (x : Int))).map (.int .i64))
theorem grown_set (w : World) (b i : Nat) (u : Value) : w.grownBy (w.setCell ⟨b, i, none⟩ u) (some b) :=
  ⟨rfl, rfl, rfl, by simp [World.setCell], fun k _ hk => heap_set_ne (fun e => hk (by rw [e])) u⟩
theorem TurnsOwn.set {w : World} {D : PD} {v : Value} {l : List Nat} (h : TurnsOwn w D v l) {b : Nat} (i : Nat) (u : Value) (hb : b < D.top) : TurnsOwn (w.setCell ⟨b, i, none⟩ u) D v l :=
  h.kept (grown_set w b i u) (ne_low h hb)
theorem TurnsOwn.drewN {w : World} {D : PD} {v : Value} {l : List Nat} (h : TurnsOwn w D v l) (q : Nat) : TurnsOwn (w.drewN q) D v l := own_drewN h q
/-- what changes at most: the plan's blocks and the turns -/
structure PFr (D : PD) (v : Value) (w w' : World) : Prop where
  os : w'.os = w.os
  tape : w'.tape = w.tape
  output : w'.output = w.output
  size : w.heap.size ≤ w'.heap.size
  rest : ∀ b, b < w.heap.size → (b < D.B ∨ D.top ≤ b) → v.ownBlock ≠ some b → w'.heap[b]? = w.heap[b]?
theorem PFr.refl (D : PD) (v : Value) (w : World) : PFr D v w w := ⟨rfl, rfl, rfl, Nat.le_refl _, fun _ _ _ _ => rfl⟩
theorem PFr.trans {D : PD} {v v' : Value} {w w1 w2 : World} (h : PFr D v w w1) (g : PFr D v' w1 w2) (hv : v'.ownBlock = v.ownBlock ∨ ∀ b, v'.ownBlock = some b → w.heap.size ≤ b) : PFr D v w w2 :=
  ⟨g.os.trans h.os, g.tape.trans h.tape, g.output.trans h.output, Nat.le_trans h.size g.size, fun b hb hr hn => by
    rw [g.rest b (Nat.lt_of_lt_of_le hb h.size) hr (fun e => by rcases hv with h1 | h1; exact hn (by rw [← h1]; exact e); have := h1 b e; omega), h.rest b hb hr hn]⟩
theorem PFr.drew {D : PD} {v : Value} {w w1 w2 : World} (h : PFr D v w w1) (d : Drew w1 w2) : PFr D v w w2 := by
  obtain ⟨q, rfl⟩ := d
  exact ⟨h.os, h.tape, h.output, h.size, h.rest⟩
theorem PFr.set {D : PD} {v : Value} {w w1 : World} (h : PFr D v w w1) {b i : Nat} (u : Value) (hb : D.B ≤ b ∧ b < D.top) : PFr D v w (w1.setCell ⟨b, i, none⟩ u) :=
  ⟨h.os, h.tape, h.output, by simpa [World.setCell] using h.size, fun c hc hr hn => by rw [heap_set_ne (by omega)]; exact h.rest c hc hr hn⟩
theorem PFr.grown {D : PD} {v : Value} {w w1 w2 : World} (h : PFr D v w w1) (g : w1.grownBy w2 v.ownBlock) : PFr D v w w2 :=
  ⟨g.os.trans h.os, g.tape.trans h.tape, g.output.trans h.output, Nat.le_trans h.size g.size, fun b hb hr hn => by
    rw [g.block b (Nat.lt_of_lt_of_le hb h.size) (fun e => hn e.symm), h.rest b hb hr hn]⟩
theorem PFr.alloc {D : PD} {v : Value} {w w1 : World} (h : PFr D v w w1) (o : Obj) : PFr D v w (w1.alloc o) :=
  ⟨h.os, h.tape, h.output, by have := h.size; simp; omega, fun b hb hr hn => by rw [Below.heap_alloc _ _ _ (Nat.lt_of_lt_of_le hb h.size)]; exact h.rest b hb hr hn⟩
theorem PFr.below {D : PD} {v : Value} {w w1 : World} (h : PFr D v w w1) {n : Nat} (hn : n ≤ D.B) (hs : n ≤ w.heap.size) (hv : ∀ b, v.ownBlock = some b → n ≤ b) : Below n w w1 :=
  ⟨h.os, h.tape, h.output, h.size, fun b hb => h.rest b (by omega) (.inl (by omega)) (fun e => by have := hv b e; omega)⟩
/-- the plan, with these turns put -/
structure PlanAt (w : World) (D : PD) (shop : List (List (List Int))) (v : Value) (l : List Nat) : Prop where
  mem : ∃ bg on, PlanW w D shop (fun j => l.count j) (lastL (smach shop) l) v bg on ∧ BgOk (smach shop) (stime shop) l bg ∧ OnOk (smach shop) l on
  own : TurnsOwn w D v l
  top : D.top ≤ w.heap.size
  jobs : ∀ x ∈ l, x < shop.length
  cnt : ∀ j, l.count j ≤ slen shop j
theorem PlanAt.len {w : World} {D : PD} {shop : List (List (List Int))} {v : Value} {l : List Nat} (h : PlanAt w D shop v l) (hv : shopM shop = true) : l.length ≤ 9 := turnsOf_len hv h.jobs h.cnt
theorem PlanAt.drew {w w' : World} {D : PD} {shop : List (List (List Int))} {v : Value} {l : List Nat} (h : PlanAt w D shop v l) (d : Drew w w') : PlanAt w' D shop v l := by
  obtain ⟨q, rfl⟩ := d
  obtain ⟨bg, on, h1, h2, h3⟩ := h.mem
  exact ⟨⟨bg, on, h1.drewN q, h2, h3⟩, own_drewN h.own q, h.top, h.jobs, h.cnt⟩
end Go.Proofs.Ytkebdelfklmigae
namespace Go.Proofs.Ytkebdelfklmigae
open Go.RowKit Go.WideShapes

-- what reads a plan
def stepOk (D : PD) (shop : List (List (List Int))) (bg : Nat → Nat → Int) : Option (Nat × Nat) → Prop
  | none => True
  | some x => x.1 < shop.length ∧ x.2 < slen shop x.1 ∧ 0 ≤ bg x.1 x.2 ∧ bg x.1 x.2 ≤ 81
theorem stepOk_put {D : PD} {shop : List (List (List Int))} {l : List Nat} {bg : Nat → Nat → Int} (hv : shopM shop = true) (hbg : BgOk (smach shop) (stime shop) l bg) (hl : l.length ≤ 9) (hjobs : ∀ x ∈ l, x < shop.length) (hcnt : ∀ j, l.count j ≤ slen shop j) {i k : Nat} (h : k < l.count i) :
    stepOk D shop bg (some (i, k)) :=
  ⟨hjobs i (List.count_pos_iff.1 (by omega)), Nat.lt_of_lt_of_le h (hcnt i), (ends_bd (stime_bd hv) hl hbg i k h).1, (ends_bd (stime_bd hv) hl hbg i k h).2⟩
theorem stepOk_prev {D : PD} {shop : List (List (List Int))} {l : List Nat} {bg : Nat → Nat → Int} (hv : shopM shop = true) (hbg : BgOk (smach shop) (stime shop) l bg) (hl : l.length ≤ 9) (hjobs : ∀ x ∈ l, x < shop.length) (hcnt : ∀ j, l.count j ≤ slen shop j) (j : Nat) :
    stepOk D shop bg (prevO j (l.count j)) := by
  unfold prevO
  split
  · exact trivial
  · exact stepOk_put hv hbg hl hjobs hcnt (by omega)
theorem stepOk_last {D : PD} {shop : List (List (List Int))} {l : List Nat} {bg : Nat → Nat → Int} (hv : shopM shop = true) (hbg : BgOk (smach shop) (stime shop) l bg) (hl : l.length ≤ 9) (hjobs : ∀ x ∈ l, x < shop.length) (hcnt : ∀ j, l.count j ≤ slen shop j) (M : Nat) :
    stepOk D shop bg (lastL (smach shop) l M) := by
  cases hx : lastL (smach shop) l M with
  | none => exact trivial
  | some x => exact stepOk_put hv hbg hl hjobs hcnt (last_in _ _ _ _ hx).1
theorem endV_bd {D : PD} {shop : List (List (List Int))} (hv : shopM shop = true) {bg : Nat → Nat → Int} {o : Option (Nat × Nat)} (h : stepOk D shop bg o) : 0 ≤ endV (stime shop) bg o ∧ endV (stime shop) bg o ≤ 90 := by
  cases o with
  | none => exact ⟨Int.le_refl _, by show (0 : Int) ≤ 90; omega⟩
  | some x =>
    obtain ⟨_, _, h1, h2⟩ := h
    have := stime_bd hv x.1 x.2
    show 0 ≤ bg x.1 x.2 + stime shop x.1 x.2 ∧ bg x.1 x.2 + stime shop x.1 x.2 ≤ 90
    omega
set_option maxRecDepth 100000 in
set_option maxHeartbeats 4000000 in
theorem stepEnd_any {w : World} {D : PD} {shop : List (List (List Int))} {nx : Nat → Nat} {lp : Nat → Option (Nat × Nat)} {v : Value} {bg : Nat → Nat → Int} {on : Nat → Nat → Option (Nat × Nat)} (h : PlanW w D shop nx lp v bg on) (hv : shopM shop = true) (o : Option (Nat × Nat)) (ho : stepOk D shop bg o) :
    Calls Try.prog 79 #[D.ptr o] w fun e w' => e = .returned (.int .i64 (endV (stime shop) bg o)) ∧ ∃ m, w' = w.drewN m := by
  cases o with
  | none =>
    show Calls Try.prog 79 #[.pointer none] w _
    go_enter Try.func79, Try.ntmps79
    go_wp2
    go_ret
    exact ⟨rfl, 0, rfl⟩
  | some x =>
    obtain ⟨j, k⟩ := x
    obtain ⟨hj, hk, h0, h1⟩ := ho
    obtain ⟨c0, c1, c2, c3, c4, c5⟩ := h.stepCells hj hk
    have ht := stime_bd hv j k
    show Calls Try.prog 79 #[.pointer (some ⟨D.Q j k, 0, none⟩)] w fun e w' => e = .returned (.int .i64 (bg j k + stime shop j k)) ∧ _
    generalize bg j k = b at h0 h1 c3 ⊢
    generalize stime shop j k = t at ht c2 ⊢
    generalize D.Q j k = q at c2 c3
    clear c0 c1 c4 c5 h
    go_enter Try.func79, Try.ntmps79
    go_wp2
    go_quiet (fail)
    go_wp2
    go_ret
    exact ⟨rfl, _, rfl⟩
/-- the steps that are left, of s, behind x that are put -/
def LeftPost (w : World) (s x R : Nat) (e : Ending) (w' : World) : Prop := ∃ (a : Option Addr) (c : Nat), e = .returned (.slice a (s - x) c) ∧ (x < s → a = some ⟨R, x, none⟩) ∧ ∃ m, w' = w.drewN m
set_option maxRecDepth 100000 in
set_option maxHeartbeats 4000000 in
theorem left_any {w : World} {D : PD} {shop : List (List (List Int))} {nx : Nat → Nat} {lp : Nat → Option (Nat × Nat)} {v : Value} {bg : Nat → Nat → Int} {on : Nat → Nat → Option (Nat × Nat)} (h : PlanW w D shop nx lp v bg on) (hv : shopM shop = true) (j : Nat) (hj : j < shop.length) (hn : nx j ≤ slen shop j) :
    Calls Try.prog 80 #[.pointer (some ⟨D.P, 0, none⟩), .int .i64 j] w (LeftPost w (slen shop j) (nx j) (D.R j)) := by
  obtain ⟨c0, c1, _, _, _, _⟩ := h.cells
  have cj := h.jobCell hj
  have cx := h.nextCell hj
  have hsl := slen_le hv j
  have hl3 := (shop_get hv).1
  have hrow := (h.ok.row j hj).1
  by_cases h0 : slen shop j = 0
  · obtain ⟨ha, hc⟩ := h.ok.row0 j hj h0
    have hn0 : nx j = 0 := by omega
    rw [ha, hc, h0] at cj
    rw [hn0] at cx
    rw [h0, hn0]
    generalize shop.length = n at *
    generalize D.P = P at *
    generalize D.J = J at *
    generalize D.X = X at *
    clear h hv
    go_enter Try.func80, Try.ntmps80
    go_wp2
    go_quiet (fail)
    go_wp2
    go_ret
    exact ⟨_, _, rfl, fun h => by omega, _, rfl⟩
  · obtain ⟨ha, hb⟩ := (h.ok.row j hj).2 (by omega)
    rw [ha] at cj
    generalize hX : nx j = x at *
    generalize slen shop j = s at *
    generalize D.cR j = c at *
    generalize shop.length = n at *
    generalize D.R j = R at *
    generalize D.P = P at *
    generalize D.J = J at *
    generalize D.X = X at *
    clear h hv
    go_enter Try.func80, Try.ntmps80
    go_wp2
    go_quiet (fail)
    go_wp2
    all_goals (go_ret; first | exact ⟨_, _, rfl, fun _ => rfl, _, rfl⟩ | exact ⟨_, _, rfl, fun h => by omega, _, rfl⟩)
end Go.Proofs.Ytkebdelfklmigae
