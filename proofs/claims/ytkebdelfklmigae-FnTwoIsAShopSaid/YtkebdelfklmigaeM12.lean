import Derived.Test.YtkebdelfklmigaeRows
import Derived.WalkKit
import Derived.LoopTactic
import Derived.Outline
import Derived.WalkSpells
import Derived.WalkLawsBesides
import Derived.ProofKit
import Derived.Lib.Hide
import Derived.Deep.RegionLaw
import Derived.Deep.AppendLies
import Derived.Deep.RegionHeld3
import Derived.Test.YtkebdelfklmigaeM0
import Derived.Test.YtkebdelfklmigaeM1
import Derived.Test.YtkebdelfklmigaeM2
import Derived.Test.YtkebdelfklmigaeM4
import Derived.Test.YtkebdelfklmigaeM8
namespace Go.Proofs.Ytkebdelfklmigae
open Go.RowKit Go.WideShapes

/-- v is a slice of the call's own, of rows of its own -/
def OwnRowsV (w : World) (B : Nat) (v : Value) (k : Nat) (rows : List (List Int)) : Prop := ∃ us : List Value, w.ownsRow B 23 1 v k us ∧ rows.length = k ∧
  ∀ (q : Nat) (u : Value), us[q]? = some u → ∃ (a : Option Addr) (l c : Nat) (r : List Int), rows[q]? = some r ∧ u = .slice a l c ∧ l ≤ c ∧ l ≤ 1048576 ∧ w.ownsRow B 3 1 u l (r.map (.int .i64))
theorem own_two (w : World) {B : Nat} (hB : B ≤ w.heap.size) (x y : Int) : (w.alloc (.cells #[.int .i64 x, .int .i64 y] 3)).ownsRow B 3 1 (.slice (some ⟨w.heap.size, 0, none⟩) 2 2) 2 ([x, y].map (.int .i64)) :=
  ⟨rfl, .inr ⟨w.heap.size, 2, _, rfl, hB, heap_alloc_new w _, Nat.le_refl _, by unfold maxLen; omega, rfl, rfl⟩⟩
theorem OwnRowsV.rows {w : World} {B k : Nat} {a : Option Addr} {cap : Nat} {rows : List (List Int)} (h : OwnRowsV w B (.slice a k cap) k rows) (hk : k ≤ 1048576) :
    RowsAt w (fun b => B ≤ b ∧ b < w.heap.size) a k rows := by
  obtain ⟨us, h1, h2, h3⟩ := h
  have hul : us.length = k := by have := h1.1; simpa using this
  refine ⟨h2, by omega, fun h0 => ?_⟩
  have hc := fun g hg => h1.cells (g := g) hg
  have hlt := h1.lt
  rcases h1.2 with ⟨e1, e2⟩ | ⟨g, cp, cur, e1, e2, _⟩
  · omega
  · injection e1 with e3 _ _
    subst e3
    refine ⟨g, 0, rfl, hlt g rfl, fun i r hr => ?_⟩
    have hi : i < us.length := by have := (List.getElem?_eq_some_iff.1 hr).1; omega
    obtain ⟨a', l, c, r', hr', hu, hlc, hl, hown⟩ := h3 i us[i] (List.getElem?_eq_getElem hi)
    rw [hr] at hr'
    injection hr' with hr'
    subst hr'
    rw [hu] at hown
    obtain ⟨a2, c2, e4, _, hints⟩ := own_ints hown (by omega)
    injection e4 with e5 _ _
    subst e5
    refine ⟨a', l, c, ?_, hlc, hints⟩
    have := hc g rfl i us[i] (List.getElem?_eq_getElem hi)
    rw [hu, add_plain] at this
    exact this
theorem OwnRowsV.push {w w' : World} {B k l : Nat} {v v' : Value} {a : Option Addr} {c : Nat} {rows : List (List Int)} {r : List Int} {us : List Value} (hv : w.ownsRow B 23 1 v k us) (hl : rows.length = k)
    (hus : ∀ (q : Nat) (u : Value), us[q]? = some u → ∃ (a : Option Addr) (l c : Nat) (r : List Int), rows[q]? = some r ∧ u = .slice a l c ∧ l ≤ c ∧ l ≤ 1048576 ∧ w.ownsRow B 3 1 u l (r.map (.int .i64)))
    (hu : w.ownsRow B 3 1 (.slice a l c) l (r.map (.int .i64))) (hlc : l ≤ c) (hl2 : l ≤ 1048576) (hv' : w'.ownsRow B 23 1 v' (k + 1) (us ++ [.slice a l c])) (hg : w.grownBy w' v.ownBlock) : OwnRowsV w' B v' (k + 1) (rows ++ [r]) := by
  have hul : us.length = k := by have := hv.1; simpa using this
  refine ⟨_, hv', by simp [hl], fun q u hq => ?_⟩
  rcases Nat.lt_or_ge q us.length with h | h
  · rw [List.getElem?_append_left h] at hq
    obtain ⟨a', l', c', r', h1, h2, h3, h4, h5⟩ := hus q u hq
    exact ⟨a', l', c', r', by rw [List.getElem?_append_left (by omega)]; exact h1, h2, h3, h4, h5.kept hg (own_ne h5 hv (by decide))⟩
  · rw [List.getElem?_append_right h] at hq
    have hq0 : q - us.length = 0 := by
      have := (List.getElem?_eq_some_iff.1 hq).1; simp at this; omega
    rw [hq0] at hq
    simp only [List.getElem?_cons_zero, Option.some.injEq] at hq
    subst hq
    exact ⟨a, l, c, r, by rw [List.getElem?_append_right (by omega), show q - rows.length = 0 by omega]; rfl, rfl, hlc, hl2, hu.kept hg (own_ne hu hv (by decide))⟩
def turnP (rows : List (List Int)) : List (List Int) := rows.map (fun r => [r.getD 1 0, r.getD 0 0])
end Go.Proofs.Ytkebdelfklmigae
namespace Go.Proofs.Ytkebdelfklmigae
open Go.RowKit Go.WideShapes

def revM (xs : List Int) : List Int := tab (fun q => xs.getD (xs.length - 1 - q) 0) xs.length
theorem revM_length (xs : List Int) : (revM xs).length = xs.length := tab_length _ _
theorem revM_getD (xs : List Int) {q : Nat} (h : q < xs.length) : (revM xs).getD q 0 = xs.getD (xs.length - 1 - q) 0 := tab_getD _ h
end Go.Proofs.Ytkebdelfklmigae
namespace Go.Proofs.Ytkebdelfklmigae
open Go.RowKit Go.WideShapes

theorem turnP_len (rows : List (List Int)) : (turnP rows).length = rows.length := by simp [turnP]
theorem turnP_get (rows : List (List Int)) (x : Nat) : (turnP rows)[x]? = (rows[x]?).map (fun r => [r.getD 1 0, r.getD 0 0]) := by simp [turnP]
theorem turnP_ta (rows : List (List Int)) : ta (turnP rows) = tb rows := by
  funext x
  unfold ta tb
  rw [List.getD_eq_getElem?_getD (l := turnP rows), List.getD_eq_getElem?_getD (l := rows), turnP_get]
  cases rows[x]? <;> rfl
theorem turnP_tb (rows : List (List Int)) : tb (turnP rows) = ta rows := by
  funext x
  unfold ta tb
  rw [List.getD_eq_getElem?_getD (l := turnP rows), List.getD_eq_getElem?_getD (l := rows), turnP_get]
  cases rows[x]? <;> rfl
theorem turnP_pairs {rows : List (List Int)} (h : pairsM rows = true) : pairsM (turnP rows) = true := by
  simp only [pairsM, Bool.and_eq_true, decide_eq_true_eq, List.all_eq_true] at h ⊢
  refine ⟨fun r hr => ?_, by rw [turnP_len]; exact h.2⟩
  obtain ⟨s, hs, rfl⟩ := List.mem_map.1 hr
  have := h.1 s hs
  simp only [pairB, Bool.and_eq_true] at this ⊢
  exact ⟨rfl, this.2.2, this.2.1⟩
theorem revM_is (xs : List Int) : revM xs = xs.reverse := by
  apply List.ext_getElem?
  intro i
  rcases Nat.lt_or_ge i xs.length with h | h
  · rw [List.getElem?_reverse h, get_getD (by rw [revM_length]; exact h), revM_getD xs h, get_getD (by omega)]
  · rw [List.getElem?_eq_none (by rw [revM_length]; exact h), List.getElem?_eq_none (by simpa using h)]
theorem rev_order {o : List Int} {n : Nat} (h : orderP o n) : orderP (revM o) n := by
  rw [revM_is]
  obtain ⟨⟨h1, h2⟩, h3⟩ := h
  exact ⟨⟨fun x hx => h1 x (List.mem_reverse.1 hx), (List.reverse_perm o).symm.nodup h2⟩, by rw [List.length_reverse, h3]⟩
theorem span_turns {rows : List (List Int)} {o : List Int} (h : spanFine rows o = true) : spanRes (turnP rows) (revM o) = spanRes rows o := by
  obtain ⟨h1, h2⟩ := spanFine_get h
  have h3 : spanFine (turnP rows) (revM o) = true := by
    unfold spanFine
    rw [turnP_pairs h1, turnP_len, Bool.true_and]
    exact decide_eq_true (rev_order h2)
  rw [spanRes_yes h, spanRes_yes h3, turnP_ta, turnP_tb, revM_is]
  have e : nO o.reverse = (nO o).reverse := by unfold nO; rw [List.map_reverse]
  rw [e]
  exact span_turned (fun x => (t_bd h1 x).1.1) (fun x => (t_bd h1 x).2.1) _
theorem spanRes_nn {rows : List (List Int)} {o : List Int} (h : spanFine rows o = true) : 0 ≤ spanRes rows o := by
  rw [spanRes_yes h]
  have h1 := (spanFine_get h).1
  exact span_nn (fun x => (t_bd h1 x).1.1) (fun x => (t_bd h1 x).2.1) _
theorem sum_range (f : Nat → Int) (i : Nat) : sumL f (List.range (i + 1)) = sumL f (List.range i) + f i := by
  rw [List.range_succ, sumL_append]; simp [sumL]
theorem sum_box {rows : List (List Int)} (h : pairsM rows = true) (i : Nat) : (0 ≤ sumL (ta rows) (List.range i) ∧ sumL (ta rows) (List.range i) ≤ 9 * (i : Int)) ∧ (0 ≤ sumL (tb rows) (List.range i) ∧ sumL (tb rows) (List.range i) ≤ 9 * (i : Int)) := by
  have h1 := sumL_nn (fun x => (t_bd h x).1.1) (List.range i)
  have h2 := sumL_nn (fun x => (t_bd h x).2.1) (List.range i)
  have h3 := sumL_bd (fun x => (t_bd h x).1.2) (List.range i)
  have h4 := sumL_bd (fun x => (t_bd h x).2.2) (List.range i)
  rw [List.length_range] at h3 h4
  exact ⟨⟨h1, h3⟩, ⟨h2, h4⟩⟩
theorem span_between {rows : List (List Int)} {o : List Int} (h : spanFine rows o = true) : sumL (ta rows) (List.range rows.length) ≤ spanRes rows o ∧ sumL (tb rows) (List.range rows.length) ≤ spanRes rows o ∧
    spanRes rows o ≤ sumL (ta rows) (List.range rows.length) + sumL (tb rows) (List.range rows.length) := by
  have h1 := (spanFine_get h).1
  have h2 := nO_perm (spanFine_get h).2
  rw [spanRes_yes h, ← sumL_perm h2, ← sumL_perm h2]
  exact span_sums (fun x => (t_bd h1 x).1.1) (fun x => (t_bd h1 x).2.1) _
end Go.Proofs.Ytkebdelfklmigae
namespace Go.Proofs.Ytkebdelfklmigae
open Go.RowKit Go.WideShapes

theorem runT_congr {a b a' b' : Nat → Int} : ∀ (l : List Nat) (s : Int × Int), (∀ x ∈ l, a x = a' x ∧ b x = b' x) → runT a b s l = runT a' b' s l := by
  intro l
  induction l with
  | nil => intro s _; rfl
  | cons x l ih =>
    intro s h
    have hx := h x (by simp)
    have e : stT a b s x = stT a' b' s x := by unfold stT; rw [hx.1, hx.2]
    rw [runT_cons, runT_cons, e]
    exact ih _ (fun y hy => h y (by simp [hy]))
theorem LeastO.congr {a b a' b' : Nat → Int} {n : Nat} {v : Int} (h : LeastO a b n v) (e : ∀ x, x < n → a x = a' x ∧ b x = b' x) : LeastO a' b' n v := by
  have key : ∀ l : List Nat, l.Perm (List.range n) → spanT a b l = spanT a' b' l := fun l hl => by
    unfold spanT
    rw [runT_congr l _ (fun x hx => e x (by have := hl.mem_iff.1 hx; simpa using this))]
  obtain ⟨⟨l, hl, hv⟩, h2⟩ := h
  exact ⟨⟨l, hl, by rw [← key l hl]; exact hv⟩, fun m hm => by rw [← key m hm]; exact h2 m hm⟩
theorem tried_lst {rows : List (List Int)} (h : triedFine rows = true) : LeastO (ta rows) (tb rows) rows.length (triedRes rows) := by
  have hp : pairsM rows = true := by unfold triedFine at h; simp only [Bool.and_eq_true] at h; exact h.1
  rw [triedRes_yes h]
  exact tried_is (fun x => (t_bd hp x).1.1) (fun x => (t_bd hp x).2.1) _
theorem triedFine_get {rows : List (List Int)} (h : triedFine rows = true) : pairsM rows = true ∧ rows.length ≤ 5 := by
  unfold triedFine at h
  simpa [Bool.and_eq_true] using h
theorem tried_turned {rows : List (List Int)} (h : triedFine rows = true) : triedRes (turnP rows) = triedRes rows := by
  obtain ⟨hp, h5⟩ := triedFine_get h
  have h2 : triedFine (turnP rows) = true := by unfold triedFine; rw [turnP_pairs hp, turnP_len, decide_eq_true h5]; rfl
  have h3 := tried_lst h2
  rw [turnP_ta, turnP_tb, turnP_len] at h3
  exact h3.uniq (least_turned (fun x => (t_bd hp x).1.1) (fun x => (t_bd hp x).2.1) (tried_lst h))
theorem tried_fewer {rows : List (List Int)} {n : Nat} (h : triedFine rows = true) (hn : rows.length = n + 1) : triedRes (rows.take n) ≤ triedRes rows := by
  obtain ⟨hp, h5⟩ := triedFine_get h
  have hl : (rows.take n).length = n := by rw [List.length_take]; omega
  have hp2 : pairsM (rows.take n) = true := by
    simp only [pairsM, Bool.and_eq_true, decide_eq_true_eq, List.all_eq_true] at hp ⊢
    exact ⟨fun r hr => hp.1 r (List.mem_of_mem_take hr), by omega⟩
  have h2 : triedFine (rows.take n) = true := by unfold triedFine; rw [hp2, hl, decide_eq_true (by omega)]; rfl
  have h3 := tried_lst h2
  rw [hl] at h3
  have h4 := h3.congr (a' := ta rows) (b' := tb rows) (fun x hx => by
    unfold ta tb
    rw [List.getD_eq_getElem?_getD (l := rows.take n), List.getD_eq_getElem?_getD (l := rows), List.getElem?_take, if_pos hx]
    exact ⟨rfl, rfl⟩)
  have h6 := tried_lst h
  rw [hn] at h6
  exact least_fewer (fun x => (t_bd hp x).1.1) (fun x => (t_bd hp x).2.1) h6 h4
theorem tried_nn {rows : List (List Int)} (h : triedFine rows = true) : 0 ≤ triedRes rows := by
  obtain ⟨hp, _⟩ := triedFine_get h
  obtain ⟨⟨l, _, hv⟩, _⟩ := tried_lst h
  rw [← hv]
  exact span_nn (fun x => (t_bd hp x).1.1) (fun x => (t_bd hp x).2.1) _
theorem tried_nil : triedRes [] = 0 := rfl
end Go.Proofs.Ytkebdelfklmigae
namespace Go.Proofs.Ytkebdelfklmigae
open Go.RowKit

/-- the slice (a, len) of slices of slices of ints reads as shop, in blocks of S -/
structure ShopAt (w : World) (S : Nat → Prop) (a : Option Addr) (len : Nat) (shop : List (List (List Int))) : Prop where
  lenEq : shop.length = len
  small : len ≤ 9223372036854775807
  cells : 0 < len → ∃ b off, a = some ⟨b, off, none⟩ ∧ S b ∧ ∀ i job, shop[i]? = some job → ∃ a' l c, w.cell? ⟨b, off + i, none⟩ = some (.slice a' l c) ∧ l ≤ c ∧ RowsAt w S a' l job

theorem ShopAt.get {w : World} {S : Nat → Prop} {a : Option Addr} {len : Nat} {shop : List (List (List Int))} (h : ShopAt w S a len shop) {k : Nat} (hk : k < len) :
    ∃ b off job a' l c, a = some ⟨b, off, none⟩ ∧ shop[k]? = some job ∧ w.cell? ⟨b, off + k, none⟩ = some (.slice a' l c) ∧ l ≤ c ∧ RowsAt w S a' l job := by
  obtain ⟨b, off, ha, _, hc⟩ := h.cells (by omega)
  have hl := h.lenEq
  have hx : shop[k]? = some shop[k] := List.getElem?_eq_getElem (by omega)
  obtain ⟨a', l, c, h1, h2, h3⟩ := hc _ _ hx
  exact ⟨b, off, _, a', l, c, ha, hx, h1, h2, h3⟩
theorem ShopAt.to {w w' : World} {S S' : Nat → Prop} {a : Option Addr} {len : Nat} {shop : List (List (List Int))} (h : ShopAt w S a len shop)
    (hg : ∀ b, S b → S' b ∧ w'.heap[b]? = w.heap[b]?) : ShopAt w' S' a len shop := by
  refine ⟨h.lenEq, h.small, fun hl => ?_⟩
  obtain ⟨b, off, ha, hs, hc⟩ := h.cells hl
  refine ⟨b, off, ha, (hg b hs).1, fun i r hr => ?_⟩
  obtain ⟨a', l, c, h1, h2, h3⟩ := hc i r hr
  exact ⟨a', l, c, by rw [World.cell?_of_block (w := w) (hg b hs).2]; exact h1, h2, h3.to hg⟩
theorem ShopAt.below {w w' : World} {n : Nat} {a : Option Addr} {len : Nat} {shop : List (List (List Int))} (h : ShopAt w (· < n) a len shop) (hb : Below n w w') : ShopAt w' (· < n) a len shop :=
  h.to fun b hb' => ⟨hb', hb.block b hb'⟩
theorem ShopAt.mem {w : World} {S : Nat → Prop} {b off len : Nat} {shop : List (List (List Int))} (h : ShopAt w S (some ⟨b, off, none⟩) len shop) (h0 : 0 < len) : S b := by
  obtain ⟨b', off', e, hs, _⟩ := h.cells h0
  cases e
  exact hs
theorem ShopAt.take {w : World} {S : Nat → Prop} {a : Option Addr} {len : Nat} {shop : List (List (List Int))} (h : ShopAt w S a len shop) (k : Nat) (hk : k ≤ len) : ShopAt w S a k (shop.take k) := by
  have hl := h.lenEq
  have hs := h.small
  refine ⟨by simp; omega, by omega, fun h0 => ?_⟩
  obtain ⟨b, off, ha, hs, hc⟩ := h.cells (by omega)
  refine ⟨b, off, ha, hs, fun i r hr => hc i r ?_⟩
  rw [List.getElem?_take] at hr
  split at hr
  · exact hr
  · cases hr
theorem Drew.shop {w wr : World} {S : Nat → Prop} {a : Option Addr} {len : Nat} {shop : List (List (List Int))} (h : ShopAt w S a len shop) (d : Drew w wr) : ShopAt wr S a len shop := by
  obtain ⟨q, rfl⟩ := d
  exact h.to (fun b hb => ⟨hb, rfl⟩)

-- shops
def stepB (r : List Int) : Bool := r.length == 2 && (inB 0 2 (r.getD 0 0) && inB 1 9 (r.getD 1 0))
def machsOf (job : List (List Int)) : List Int := job.map (fun r => r.getD 0 0)
def sjobB (job : List (List Int)) : Bool := job.all stepB && decide (machsOf job).Nodup
def shopM (shop : List (List (List Int))) : Bool := shop.all sjobB && decide (shop.length ≤ 3)
theorem shop_false {shop : List (List (List Int))} {k : Nat} {job : List (List Int)} (h : shop[k]? = some job) (hr : sjobB job = false) : shopM shop = false := by
  unfold shopM
  rw [List.all_eq_false.2 ⟨job, List.mem_of_getElem? h, by rw [hr]; simp⟩]; rfl
theorem sjob_step {job : List (List Int)} {k : Nat} {r : List Int} (h : job[k]? = some r) (hr : stepB r = false) : sjobB job = false := by
  unfold sjobB
  rw [List.all_eq_false.2 ⟨r, List.mem_of_getElem? h, by rw [hr]; simp⟩]; rfl
theorem sjob_twice {job : List (List Int)} {k : Nat} {r : List Int} (h : job[k]? = some r) (hr : r.getD 0 0 ∈ machsOf (job.take k)) : sjobB job = false := by
  unfold sjobB
  rw [decide_eq_false, Bool.and_false]
  intro hn
  have h2 : (machsOf (job.take (k + 1))).Nodup := hn.sublist ((List.take_sublist _ _).map _)
  rw [take_get h] at h2
  simp only [machsOf, List.map_append, List.map_cons, List.map_nil] at h2
  exact (List.nodup_append.1 h2).2.2 _ hr _ (by simp) rfl
/-- the machine and the time of a step -/
def smach (shop : List (List (List Int))) (j k : Nat) : Nat := (((shop.getD j []).getD k []).getD 0 0).toNat
def stime (shop : List (List (List Int))) (j k : Nat) : Int := ((shop.getD j []).getD k []).getD 1 0
def slen (shop : List (List (List Int))) (j : Nat) : Nat := (shop.getD j []).length
theorem shop_get {shop : List (List (List Int))} (h : shopM shop = true) : shop.length ≤ 3 ∧ ∀ job ∈ shop, job.length ≤ 3 ∧ (machsOf job).Nodup ∧ ∀ r ∈ job, r.length = 2 ∧ (0 ≤ r.getD 0 0 ∧ r.getD 0 0 ≤ 2) ∧ (1 ≤ r.getD 1 0 ∧ r.getD 1 0 ≤ 9) := by
  simp only [shopM, Bool.and_eq_true, decide_eq_true_eq, List.all_eq_true] at h
  refine ⟨h.2, fun job hj => ?_⟩
  have h1 := h.1 job hj
  simp only [sjobB, Bool.and_eq_true, decide_eq_true_eq, List.all_eq_true] at h1
  have h2 : ∀ r ∈ job, r.length = 2 ∧ (0 ≤ r.getD 0 0 ∧ r.getD 0 0 ≤ 2) ∧ (1 ≤ r.getD 1 0 ∧ r.getD 1 0 ≤ 9) := fun r hr => by
    have := h1.1 r hr
    simp only [stepB, Bool.and_eq_true, beq_iff_eq] at this
    exact ⟨this.1, by simpa [inB] using this.2.1, by simpa [inB] using this.2.2⟩
  refine ⟨?_, h1.2, h2⟩
  have hsub : machsOf job ⊆ [0, 1, 2] := fun x hx => by
    obtain ⟨r, hr, rfl⟩ := List.mem_map.1 hx
    have := (h2 r hr).2.1
    simp only [List.mem_cons, List.not_mem_nil, or_false]
    omega
  have := h1.2.length_le_of_subset hsub
  simpa [machsOf] using this
theorem smach_lt {shop : List (List (List Int))} (h : shopM shop = true) (j k : Nat) : smach shop j k < 3 := by
  unfold smach
  rcases Nat.lt_or_ge j shop.length with hj | hj
  · rw [List.getD_eq_getElem?_getD (l := shop), List.getElem?_eq_getElem hj]
    rcases Nat.lt_or_ge k shop[j].length with hk | hk
    · have := ((shop_get h).2 shop[j] (List.getElem_mem hj)).2.2 shop[j][k] (List.getElem_mem hk)
      rw [Option.getD_some, List.getD_eq_getElem?_getD (l := shop[j]), List.getElem?_eq_getElem hk, Option.getD_some]
      omega
    · rw [Option.getD_some, List.getD_eq_getElem?_getD (l := shop[j]), List.getElem?_eq_none hk]; simp
  · rw [List.getD_eq_getElem?_getD (l := shop), List.getElem?_eq_none hj]; simp
theorem stime_bd {shop : List (List (List Int))} (h : shopM shop = true) (j k : Nat) : 0 ≤ stime shop j k ∧ stime shop j k ≤ 9 := by
  unfold stime
  rcases Nat.lt_or_ge j shop.length with hj | hj
  · rw [List.getD_eq_getElem?_getD (l := shop), List.getElem?_eq_getElem hj]
    rcases Nat.lt_or_ge k shop[j].length with hk | hk
    · have := ((shop_get h).2 shop[j] (List.getElem_mem hj)).2.2 shop[j][k] (List.getElem_mem hk)
      rw [Option.getD_some, List.getD_eq_getElem?_getD (l := shop[j]), List.getElem?_eq_getElem hk, Option.getD_some]
      omega
    · rw [Option.getD_some, List.getD_eq_getElem?_getD (l := shop[j]), List.getElem?_eq_none hk]; simp
  · rw [List.getD_eq_getElem?_getD (l := shop), List.getElem?_eq_none hj]; simp
theorem slen_le {shop : List (List (List Int))} (h : shopM shop = true) (j : Nat) : slen shop j ≤ 3 := by
  unfold slen
  rcases Nat.lt_or_ge j shop.length with hj | hj
  · rw [List.getD_eq_getElem?_getD (l := shop), List.getElem?_eq_getElem hj]
    exact ((shop_get h).2 shop[j] (List.getElem_mem hj)).1
  · rw [List.getD_eq_getElem?_getD (l := shop), List.getElem?_eq_none hj]; simp
/-- where a step stands -/
theorem step_at {w : World} {S : Nat → Prop} {a : Option Addr} {len : Nat} {shop : List (List (List Int))} (h : ShopAt w S a len shop) (hv : shopM shop = true) {j k : Nat} (hj : j < len) (hk : k < slen shop j) :
    ∃ (b off b1 off1 c1 b2 off2 c2 : Nat), a = some ⟨b, off, none⟩ ∧ w.cell? ⟨b, off + j, none⟩ = some (.slice (some ⟨b1, off1, none⟩) (slen shop j) c1) ∧ slen shop j ≤ c1 ∧ w.cell? ⟨b1, off1 + k, none⟩ = some (.slice (some ⟨b2, off2, none⟩) 2 c2) ∧ 2 ≤ c2 ∧
      w.cell? ⟨b2, off2, none⟩ = some (.int .i64 (smach shop j k : Nat)) ∧ w.cell? ⟨b2, off2 + 1, none⟩ = some (.int .i64 (stime shop j k)) := by
  obtain ⟨b, off, job, a', l, c1, rfl, hjob, hc1, hl1, hr⟩ := h.get hj
  have e1 : shop.getD j [] = job := by rw [List.getD_eq_getElem?_getD, hjob]; rfl
  unfold slen smach stime at *
  rw [e1] at hk ⊢
  have hl := hr.lenEq
  subst hl
  obtain ⟨b1, off1, r, a2, l2, c2, rfl, hrr, hc2, hl2, hi⟩ := hr.get hk
  have e2 : job.getD k [] = r := by rw [List.getD_eq_getElem?_getD, hrr]; rfl
  rw [e2]
  have hb := ((shop_get hv).2 job (List.mem_of_getElem? hjob)).2.2 r (List.mem_of_getElem? hrr)
  have hl22 : l2 = 2 := by rw [← hi.lenEq]; exact hb.1
  subst hl22
  obtain ⟨b2, off2, x, rfl, hx, hcx⟩ := hi.get (k := 0) (by omega)
  obtain ⟨b3, off3, y, e3, hy, hcy⟩ := hi.get (k := 1) (by omega)
  cases e3
  have ex : r.getD 0 0 = x := by rw [List.getD_eq_getElem?_getD, hx]; rfl
  have ey : r.getD 1 0 = y := by rw [List.getD_eq_getElem?_getD, hy]; rfl
  rw [ex, ey]
  rw [Nat.add_zero] at hcx
  exact ⟨b, off, b1, off1, c1, b2, off2, c2, rfl, hc1, hl1, hc2, hl2, by rw [Int.toNat_of_nonneg (by rw [← ex]; exact hb.2.1.1)]; exact hcx, hcy⟩
end Go.Proofs.Ytkebdelfklmigae
namespace Go.Proofs.Ytkebdelfklmigae

-- shops (plain): m the machine, p the time of a job's step
def setN {α : Type} (f : Nat → α) (j : Nat) (v : α) : Nat → α := fun i => if i = j then v else f i
theorem setN_at {α : Type} (f : Nat → α) (j : Nat) (v : α) : setN f j v j = v := if_pos rfl
theorem setN_ne {α : Type} (f : Nat → α) {i j : Nat} (v : α) (h : i ≠ j) : setN f j v i = f i := if_neg h
/-- what is known behind some turns: the next step of each job, when steps began, when jobs and machines are free, when all is done, and the steps done, in their order -/
structure ShopS where
  nx : Nat → Nat
  b : Nat → Nat → Int
  rd : Nat → Int
  fr : Nat → Int
  all : Int
  done : List (Nat × Nat)
def shop0 : ShopS := ⟨fun _ => 0, fun _ _ => 0, fun _ => 0, fun _ => 0, 0, []⟩
/-- when the next step of job j begins -/
def beginS (m : Nat → Nat → Nat) (s : ShopS) (j : Nat) : Int := max (s.rd j) (s.fr (m j (s.nx j)))
def turnS (m : Nat → Nat → Nat) (p : Nat → Nat → Int) (s : ShopS) (j : Nat) : ShopS :=
  ⟨setN s.nx j (s.nx j + 1), setN s.b j (setN (s.b j) (s.nx j) (beginS m s j)), setN s.rd j (beginS m s j + p j (s.nx j)), setN s.fr (m j (s.nx j)) (beginS m s j + p j (s.nx j)),
   max s.all (beginS m s j + p j (s.nx j)), s.done ++ [(j, s.nx j)]⟩
def runS (m : Nat → Nat → Nat) (p : Nat → Nat → Int) (s : ShopS) (l : List Nat) : ShopS := l.foldl (turnS m p) s
theorem runS_snoc (m : Nat → Nat → Nat) (p : Nat → Nat → Int) (s : ShopS) (l : List Nat) (j : Nat) : runS m p s (l ++ [j]) = turnS m p (runS m p s l) j := by simp [runS]
theorem runS_cons (m : Nat → Nat → Nat) (p : Nat → Nat → Int) (s : ShopS) (l : List Nat) (j : Nat) : runS m p s (j :: l) = runS m p (turnS m p s j) l := rfl
/-- the times of some steps on a machine -/
def onM (m : Nat → Nat → Nat) (p : Nat → Nat → Int) (M : Nat) : List (Nat × Nat) → Int
  | [] => 0
  | x :: l => (if m x.1 x.2 = M then p x.1 x.2 else 0) + onM m p M l
theorem onM_append (m : Nat → Nat → Nat) (p : Nat → Nat → Int) (M : Nat) (l k : List (Nat × Nat)) : onM m p M (l ++ k) = onM m p M l + onM m p M k := by
  induction l with
  | nil => simp [onM]
  | cons x l ih => rw [List.cons_append, onM, onM, ih]; omega
theorem onM_perm {m : Nat → Nat → Nat} {p : Nat → Nat → Int} {M : Nat} {l k : List (Nat × Nat)} (h : l.Perm k) : onM m p M l = onM m p M k := by
  induction h with
  | nil => rfl
  | cons x _ ih => rw [onM, onM, ih]
  | swap x y l => simp only [onM]; omega
  | trans _ _ ih1 ih2 => rw [ih1, ih2]
/-- the times of the first steps of a job -/
def stepsTo (p : Nat → Nat → Int) (j : Nat) : Nat → Int
  | 0 => 0
  | k + 1 => stepsTo p j k + p j k
structure ShopI (m : Nat → Nat → Nat) (p : Nat → Nat → Int) (s : ShopS) : Prop where
  nn : 0 ≤ s.all ∧ (∀ j, 0 ≤ s.rd j) ∧ (∀ M, 0 ≤ s.fr M)
  pos : ∀ j k, k < s.nx j → 0 ≤ s.b j k
  last : ∀ j k, k < s.nx j → s.b j k + p j k ≤ s.rd j
  work : ∀ j, stepsTo p j (s.nx j) ≤ s.rd j
  chain : ∀ j k, k + 1 < s.nx j → s.b j k + p j k ≤ s.b j (k + 1)
  free : ∀ j k, k < s.nx j → s.b j k + p j k ≤ s.fr (m j k)
  mach : ∀ M, onM m p M s.done ≤ s.fr M
  upR : ∀ j, s.rd j ≤ s.all
  upF : ∀ M, s.fr M ≤ s.all
  is : s.all = 0 ∨ ∃ j k, k < s.nx j ∧ s.all = s.b j k + p j k
  apart : ∀ j k i h, k < s.nx j → h < s.nx i → (j, k) ≠ (i, h) → m j k = m i h → s.b j k + p j k ≤ s.b i h ∨ s.b i h + p i h ≤ s.b j k
  mem : ∀ j k, (j, k) ∈ s.done ↔ k < s.nx j
  nod : s.done.Nodup
theorem shop0_inv (m : Nat → Nat → Nat) (p : Nat → Nat → Int) : ShopI m p shop0 := by
  refine ⟨⟨Int.le_refl _, fun _ => Int.le_refl _, fun _ => Int.le_refl _⟩, ?_, ?_, fun _ => Int.le_refl _, ?_, ?_, fun _ => Int.le_refl _, fun _ => Int.le_refl _, fun _ => Int.le_refl _, .inl rfl, ?_, ?_, List.nodup_nil⟩
  all_goals simp [shop0]
theorem ShopI.turn {m : Nat → Nat → Nat} {p : Nat → Nat → Int} (hp : ∀ j k, 0 ≤ p j k) {s : ShopS} (h : ShopI m p s) (j : Nat) : ShopI m p (turnS m p s j) := by
  have ht1 : s.rd j ≤ beginS m s j := by unfold beginS; omega
  have ht2 : s.fr (m j (s.nx j)) ≤ beginS m s j := by unfold beginS; omega
  have ht3 : beginS m s j ≤ s.all := by unfold beginS; have := h.upR j; have := h.upF (m j (s.nx j)); omega
  have ht0 := h.nn.2.1 j
  have hpj := hp j (s.nx j)
  generalize hT : beginS m s j = t at ht1 ht2 ht3
  have e : turnS m p s j = ⟨setN s.nx j (s.nx j + 1), setN s.b j (setN (s.b j) (s.nx j) t), setN s.rd j (t + p j (s.nx j)), setN s.fr (m j (s.nx j)) (t + p j (s.nx j)), max s.all (t + p j (s.nx j)), s.done ++ [(j, s.nx j)]⟩ := by
    unfold turnS; rw [hT]
  rw [e]
  clear e hT
  have hb : ∀ i k, (i = j ∧ k = s.nx j ∧ setN s.b j (setN (s.b j) (s.nx j) t) i k = t) ∨ (¬ (i = j ∧ k = s.nx j) ∧ setN s.b j (setN (s.b j) (s.nx j) t) i k = s.b i k) := by
    intro i k
    by_cases hi : i = j
    · subst hi
      rw [setN_at]
      by_cases hk : k = s.nx i
      · subst hk; exact .inl ⟨rfl, rfl, setN_at _ _ _⟩
      · exact .inr ⟨fun h => hk h.2, setN_ne _ _ hk⟩
    · rw [setN_ne _ _ hi]; exact .inr ⟨fun h => hi h.1, rfl⟩
  have hn : ∀ i k, k < setN s.nx j (s.nx j + 1) i ↔ k < s.nx i ∨ (i = j ∧ k = s.nx j) := by
    intro i k
    by_cases hi : i = j
    · subst hi; rw [setN_at]; constructor
      · intro h; omega
      · rintro (h | h) <;> omega
    · rw [setN_ne _ _ hi]; constructor
      · exact .inl
      · rintro (h | h)
        · exact h
        · exact absurd h.1 hi
  have hr : ∀ i, setN s.rd j (t + p j (s.nx j)) i = if i = j then t + p j (s.nx j) else s.rd i := fun _ => rfl
  have hf : ∀ M, setN s.fr (m j (s.nx j)) (t + p j (s.nx j)) M = if M = m j (s.nx j) then t + p j (s.nx j) else s.fr M := fun _ => rfl
  refine ⟨⟨?_, fun i => ?_, fun M => ?_⟩, fun i k hk => ?_, fun i k hk => ?_, fun i => ?_, fun i k hk => ?_, fun i k hk => ?_, fun M => ?_, fun i => ?_, fun M => ?_, ?_, fun i k i' k' hk hk' hne hm => ?_, fun i k => ?_, ?_⟩
  · show 0 ≤ max s.all _; have := h.nn.1; omega
  · show 0 ≤ setN s.rd j _ i; rw [hr]; split
    · omega
    · exact h.nn.2.1 i
  · show 0 ≤ setN s.fr _ _ M; rw [hf]; split
    · omega
    · exact h.nn.2.2 M
  · show 0 ≤ setN s.b j _ i k
    rcases hb i k with ⟨_, _, e⟩ | ⟨hn', e⟩
    · rw [e]; omega
    · rw [e]; rcases (hn i k).1 hk with h1 | h1
      · exact h.pos i k h1
      · exact absurd h1 hn'
  · show setN s.b j _ i k + p i k ≤ setN s.rd j _ i
    rw [hr]
    rcases hb i k with ⟨e1, e2, e⟩ | ⟨hn', e⟩
    · rw [e, e1, e2, if_pos rfl]; exact Int.le_refl _
    · rw [e]; rcases (hn i k).1 hk with h1 | h1
      · have := h.last i k h1
        split
        · rename_i e3; subst e3; omega
        · exact this
      · exact absurd h1 hn'
  · show stepsTo p i (setN s.nx j _ i) ≤ setN s.rd j _ i
    rw [hr]
    by_cases hi : i = j
    · subst hi; rw [setN_at, if_pos rfl, stepsTo]; have := h.work i; omega
    · rw [setN_ne _ _ hi, if_neg hi]; exact h.work i
  · show setN s.b j _ i k + p i k ≤ setN s.b j _ i (k + 1)
    have hk1 : k < s.nx i := by
      rcases (hn i (k + 1)).1 hk with h1 | ⟨h1, h2⟩
      · omega
      · subst h1; omega
    rcases hb i k with ⟨e1, e2, _⟩ | ⟨_, ek⟩
    · subst e1; omega
    · rw [ek]
      rcases hb i (k + 1) with ⟨e1, e2, e3⟩ | ⟨hn', e3⟩
      · rw [e3]; subst e1; have := h.last i k hk1; omega
      · rw [e3]; rcases (hn i (k + 1)).1 hk with h1 | h1
        · exact h.chain i k h1
        · exact absurd h1 hn'
  · show setN s.b j _ i k + p i k ≤ setN s.fr _ _ (m i k)
    rw [hf]
    rcases hb i k with ⟨e1, e2, e⟩ | ⟨hn', e⟩
    · rw [e, e1, e2, if_pos rfl]; exact Int.le_refl _
    · rw [e]; rcases (hn i k).1 hk with h1 | h1
      · have := h.free i k h1
        split
        · rename_i e3; rw [e3] at this; omega
        · exact this
      · exact absurd h1 hn'
  · show onM m p M (s.done ++ [(j, s.nx j)]) ≤ setN s.fr _ _ M
    rw [hf, onM_append]
    show onM m p M s.done + ((if m j (s.nx j) = M then p j (s.nx j) else 0) + 0) ≤ _
    have := h.mach M
    by_cases e : M = m j (s.nx j)
    · rw [if_pos e, if_pos e.symm]; rw [e] at this ⊢; omega
    · rw [if_neg e, if_neg (fun e' => e e'.symm)]; omega
  · show setN s.rd j _ i ≤ max s.all _
    rw [hr]; have := h.upR i; split <;> omega
  · show setN s.fr _ _ M ≤ max s.all _
    rw [hf]; have := h.upF M; split <;> omega
  · show max s.all (t + p j (s.nx j)) = 0 ∨ ∃ i k, k < setN s.nx j _ i ∧ max s.all (t + p j (s.nx j)) = setN s.b j _ i k + p i k
    by_cases hle : s.all ≤ t + p j (s.nx j)
    · refine .inr ⟨j, s.nx j, (hn j _).2 (.inr ⟨rfl, rfl⟩), ?_⟩
      rcases hb j (s.nx j) with ⟨_, _, e⟩ | ⟨hn', _⟩
      · rw [e]; omega
      · exact absurd ⟨rfl, rfl⟩ hn'
    · rcases h.is with h0 | ⟨i, k, hk, e⟩
      · omega
      · refine .inr ⟨i, k, (hn i k).2 (.inl hk), ?_⟩
        rcases hb i k with ⟨e1, e2, _⟩ | ⟨_, e3⟩
        · subst e1; omega
        · rw [e3]; omega
  · show setN s.b j _ i k + p i k ≤ setN s.b j _ i' k' ∨ setN s.b j _ i' k' + p i' k' ≤ setN s.b j _ i k
    rcases hb i k with ⟨e1, e2, e⟩ | ⟨hn1, e⟩
    · rcases hb i' k' with ⟨f1, f2, f⟩ | ⟨hn2, f⟩
      · exact absurd (by rw [e1, e2, f1, f2]) hne
      · rcases (hn i' k').1 hk' with h1 | h1
        · right; rw [e, f]; have := h.free i' k' h1; rw [← hm, e1, e2] at this; omega
        · exact absurd h1 hn2
    · rcases (hn i k).1 hk with h1 | h1
      · rcases hb i' k' with ⟨f1, f2, f⟩ | ⟨hn2, f⟩
        · left; rw [e, f]; have := h.free i k h1; rw [hm, f1, f2] at this; omega
        · rcases (hn i' k').1 hk' with h2 | h2
          · rw [e, f]; exact h.apart i k i' k' h1 h2 hne hm
          · exact absurd h2 hn2
      · exact absurd h1 hn1
  · show (i, k) ∈ s.done ++ [(j, s.nx j)] ↔ k < setN s.nx j _ i
    rw [hn, List.mem_append, h.mem, List.mem_singleton, Prod.mk.injEq]
  · exact (List.perm_append_singleton _ _).symm.nodup (List.nodup_cons.2 ⟨fun hm => by have := (h.mem j (s.nx j)).1 hm; omega, h.nod⟩)
theorem runS_inv {m : Nat → Nat → Nat} {p : Nat → Nat → Int} (hp : ∀ j k, 0 ≤ p j k) (l : List Nat) : ∀ s, ShopI m p s → ShopI m p (runS m p s l) := by
  induction l with
  | nil => intro s h; exact h
  | cons j l ih => intro s h; exact ih _ (h.turn hp j)
theorem runS_nx (m : Nat → Nat → Nat) (p : Nat → Nat → Int) (l : List Nat) : ∀ s j, (runS m p s l).nx j = s.nx j + l.count j := by
  induction l with
  | nil => intro s j; simp [runS]
  | cons i l ih =>
    intro s j
    rw [runS_cons, ih, List.count_cons]
    show setN s.nx i (s.nx i + 1) j + _ = _
    by_cases e : j = i
    · subst e; rw [setN_at]; simp; omega
    · rw [setN_ne _ _ e]; simp [beq_eq_false_iff_ne.2 (fun h => e h.symm)]
end Go.Proofs.Ytkebdelfklmigae
