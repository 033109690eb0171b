import Derived.Test.YthmlgicjedhgfaaRows
import Derived.WalkKit
import Derived.LoopTactic
import Derived.Outline
import Derived.WalkSpells
import Derived.WalkLawsBesides
import Derived.ProofKit
import Derived.Test.YthmlgicjedhgfaaM0
import Derived.Test.YthmlgicjedhgfaaM1
import Derived.Test.YthmlgicjedhgfaaM10
import Derived.Test.YthmlgicjedhgfaaM2
import Derived.Test.YthmlgicjedhgfaaM3
import Derived.Deep.RegionHeld3
import Derived.Test.YthmlgicjedhgfaaM6
import Derived.Deep.Matrix
import Derived.Deep.Slices
namespace Go.Proofs.Ythmlgicjedhgfaa
open Go.RowKit Go.WideShapes

theorem Try.infoIntD : (Try.prog.info? 3).map (fun i => (i.zero, i.size, i.bytes)) = some (some (.int .i64 0), 1, 8) := by kernel_rfl

/-- the days that are drawn -/
def DaysOk (xs : List Int) : Prop := xs.length ≤ 9 ∧ (∀ k, -1 ≤ xs.getD k 0) ∧ (∀ k, xs.getD k 0 ≤ if k = 0 then 21 else 12)
theorem daysOk_of {xs : List Int} (hl : xs.length ≤ 9) (h : ∀ x ∈ xs, 0 ≤ x ∧ x ≤ 12) : DaysOk xs := by
  have key : ∀ k, 0 ≤ xs.getD k 0 ∧ xs.getD k 0 ≤ 12 := by
    intro k
    rcases Nat.lt_or_ge k xs.length with h' | h'
    · exact h _ (List.mem_of_getElem? (get_getD h'))
    · rw [getD_past h']; omega
  exact ⟨hl, fun k => by have := key k; omega, fun k => by have := key k; split <;> omega⟩
theorem daysOk_set {xs : List Int} {x : Int} (hl : xs.length ≤ 9) (h : ∀ x ∈ xs, 0 ≤ x ∧ x ≤ 12) (hx : x = -1 ∨ x = 21) : DaysOk (xs.set 0 x) := by
  have key : ∀ k, 0 ≤ xs.getD k 0 ∧ xs.getD k 0 ≤ 12 := by
    intro k
    rcases Nat.lt_or_ge k xs.length with h' | h'
    · exact h _ (List.mem_of_getElem? (get_getD h'))
    · rw [getD_past h']; omega
  have e : ∀ k, (xs.set 0 x).getD k 0 = if k = 0 ∧ 0 < xs.length then x else xs.getD k 0 := by
    intro k
    rw [List.getD_eq_getElem?_getD, List.getD_eq_getElem?_getD, List.getElem?_set]
    by_cases hk : 0 = k
    · subst hk
      by_cases hp : 0 < xs.length
      · rw [if_pos rfl, if_pos hp, if_pos ⟨rfl, hp⟩]; rfl
      · rw [if_pos rfl, if_neg hp, if_neg (by omega), List.getElem?_eq_none (by omega)]
    · rw [if_neg hk, if_neg (by omega)]
  refine ⟨by rw [List.length_set]; exact hl, fun k => ?_, fun k => ?_⟩
  · rw [e]; have := key k; split <;> omega
  · rw [e]; have := key k; split <;> split <;> omega

def DaysPost (w : World) (R p : Nat) (e : Ending) (w' : World) : Prop := ∃ (a : Option Addr) (len cap : Nat) (xs : List Int) (p' : Nat), e = .returned (.slice a len cap) ∧
  w'.ownsRow w.heap.size 3 1 (.slice a len cap) len (xs.map (.int .i64)) ∧ len ≤ cap ∧ len ≤ 9 ∧ DaysOk xs ∧ Rd w' R p' ∧ p' ≤ p + 100 ∧ w.grownBy w' (some R)
theorem DaysPost.mk {w w' : World} {R p p' : Nat} {a : Option Addr} {len cap : Nat} {xs : List Int} (h : w'.ownsRow w.heap.size 3 1 (.slice a len cap) len (xs.map (.int .i64))) (hl : len ≤ 9) (hd : DaysOk xs) (hr : Rd w' R p') (hp : p' ≤ p + 100) (hg : w.grownBy w' (some R)) :
    DaysPost w R p (.returned (.slice a len cap)) w' := by
  obtain ⟨a', cap', e, hc⟩ := own_slice h
  simp only [Value.slice.injEq] at e
  obtain ⟨rfl, _, rfl⟩ := e
  exact ⟨_, _, _, xs, p', rfl, h, hc, hl, hd, hr, hp, hg⟩
theorem ro {R : Nat} : ∀ k, some R = some k → k = R ∨ False := by intro k e; cases e; exact Or.inl rfl

theorem most_n {n : Int} (h : n ∈ [6, 12, 3]) : 3 ≤ n ∧ n ≤ 12 := by simp at h; omega
theorem days_n {n : Int} (h : n ∈ [5, 6, 4, 8, 3, 2, 1, 0, 9]) : ∃ m : Nat, n = (m : Int) ∧ m ≤ 9 := by simp at h; exact ⟨n.toNat, by omega, by omega⟩
theorem grown_r {a b c : World} {R : Nat} (h : a.grownBy b (some R)) (g : b.grownBy c (some R)) : a.grownBy c (some R) := grown_trans h g (fun k e => by cases e; exact Or.inl rfl)

end Go.Proofs.Ythmlgicjedhgfaa
namespace Go.Proofs.Ythmlgicjedhgfaa
open Go.RowKit Go.WideShapes

/-- a list that is drawn: numbers in lo..hi -/
def ListPost (w : World) (R p n : Nat) (lo hi : Int) (e : Ending) (w' : World) : Prop := ∃ (a : Option Addr) (cap : Nat) (xs : List Int), e = .returned (.slice a n cap) ∧
  w'.ownsRow w.heap.size 3 1 (.slice a n cap) n (xs.map (.int .i64)) ∧ n ≤ cap ∧ xs.length = n ∧ (∀ x ∈ xs, lo ≤ x ∧ x ≤ hi) ∧ Rd w' R (p + n) ∧ w.grownBy w' (some R)

end Go.Proofs.Ythmlgicjedhgfaa
namespace Go.Proofs.Ythmlgicjedhgfaa
open Go.RowKit Go.WideShapes

theorem Try.infoInt : (Try.prog.info? 3).map (fun i => (i.zero, i.size, i.bytes)) = some (some (.int .i64 0), 1, 8) := by kernel_rfl
theorem Try.infoInts : (Try.prog.info? 32).map (fun i => (i.zero, i.size, i.bytes)) = some (some (.slice none 0 0), 1, 24) := by kernel_rfl

theorem bill_n {n : Int} (h : n ∈ [4, 5, 3, 6, 2, 1, 0]) : ∃ m : Nat, n = (m : Int) ∧ m ≤ 6 := by
  simp at h
  exact ⟨n.toNat, by omega, by omega⟩

def BillPost (w : World) (R p : Nat) (e : Ending) (w' : World) : Prop := ∃ (a : Option Addr) (len cap : Nat) (rows : List (List Int)) (p' : Nat), e = .returned (.slice a len cap) ∧
      RowsAt w' (fun b => w.heap.size ≤ b ∧ b < w'.heap.size) a len rows ∧ len ≤ cap ∧ len ≤ 6 ∧ Rd w' R p' ∧ p' ≤ p + 1000 ∧ w.grownBy w' (some R)
theorem billPost_mk {w w' : World} {R p p' len cap M : Nat} {a : Option Addr} (h : OwnRows w' w.heap.size M (.slice a len cap) len) (hl : len ≤ cap) (h6 : len ≤ 6) (hr : Rd w' R p') (hp : p' ≤ p + 1000)
    (hg : w.grownBy w' (some R)) : BillPost w R p (.returned (.slice a len cap)) w' := by
  obtain ⟨a', cap', rows, hv, _, hrows⟩ := h.rows (by omega)
  simp only [Value.slice.injEq] at hv
  obtain ⟨rfl, _, rfl⟩ := hv
  exact ⟨_, _, _, rows, p', rfl, hrows, hl, h6, hr, hp, hg⟩

end Go.Proofs.Ythmlgicjedhgfaa
namespace Go.Proofs.Ythmlgicjedhgfaa
open Go.RowKit Go.WideShapes

/-- u is a job of the call's own: rows, in a block below M -/
def OwnJob (w : World) (B M : Nat) (u : Value) : Prop := ∃ n : Nat, OwnRows w B M u n ∧ n ≤ 3 ∧ ∀ k, u.ownBlock = some k → k < M
/-- v is a slice of k such -/
def OwnShop (w : World) (B M : Nat) (v : Value) (k : Nat) : Prop := ∃ us : List Value, w.ownsRow B 31 1 v k us ∧ ∀ u ∈ us, OwnJob w B M u
theorem OwnRows.base {w : World} {B B' M k : Nat} {v : Value} (h : OwnRows w B M v k) (hb : B' ≤ B) : OwnRows w B' M v k := by
  obtain ⟨us, h1, h2⟩ := h
  exact ⟨us, own_base h1 hb, fun u hu => by obtain ⟨l, xs, h3, h4⟩ := h2 u hu; exact ⟨l, xs, own_base h3 hb, h4⟩⟩
theorem OwnJob.kept {w w' : World} {B M : Nat} {u : Value} {r : Option Nat} (h : OwnJob w B M u) (hg : w.grownBy w' r) (hr : ∀ k, r = some k → k < B ∨ M ≤ k) : OwnJob w' B M u := by
  obtain ⟨n, h, hn, hl⟩ := h
  refine ⟨n, h.kept hg hr ?_, hn, hl⟩
  obtain ⟨us, h1, _⟩ := h
  cases hv : u.ownBlock with
  | none => exact Or.inl rfl
  | some k => right; intro e; have := h1.lt k hv; have := hl k hv; have := hr k e.symm; omega
theorem OwnShop.kept {w w' : World} {B M k : Nat} {v : Value} {r : Option Nat} (h : OwnShop w B M v k) (hg : w.grownBy w' r) (hr : ∀ k, r = some k → k < B ∨ M ≤ k)
    (hv : v.ownBlock = none ∨ v.ownBlock ≠ r) : OwnShop w' B M v k := by
  obtain ⟨us, h, hu⟩ := h
  exact ⟨us, h.kept hg hv, fun u hu' => (hu u hu').kept hg hr⟩
theorem OwnShop.low {w w' : World} {B M k R : Nat} {v : Value} (h : OwnShop w B M v k) (hg : w.grownBy w' (some R)) (hR : R < B) : OwnShop w' B M v k := by
  refine h.kept hg (fun k e => by cases e; exact Or.inl hR) ?_
  obtain ⟨us, h, _⟩ := h
  exact ne_low h hR
theorem OwnShop.alloc {w : World} {B M k : Nat} {v : Value} (h : OwnShop w B M v k) (o : Obj) : OwnShop (w.alloc o) B M v k :=
  h.kept (World.grownBy_alloc w o none) (fun k e => by cases e) (by cases v.ownBlock <;> simp)
/-- an append to rows that are newer than the shop -/
theorem OwnShop.rows {w w' : World} {B M M' k n : Nat} {v u : Value} (h : OwnShop w B M v k) (hu : OwnRows w M M' u n) (hg : w.grownBy w' u.ownBlock) : OwnShop w' B M v k := by
  obtain ⟨ys, hu, _⟩ := hu
  refine h.kept hg (fun k e => Or.inr (hu.lt k e).1) ?_
  obtain ⟨us, h, _⟩ := h
  exact own_ne h hu (by decide)
theorem OwnShop.slice {w : World} {B M k : Nat} {v : Value} (h : OwnShop w B M v k) : ∃ a cap, v = .slice a k cap ∧ k ≤ cap := by
  obtain ⟨us, h, _⟩ := h
  exact own_slice h
theorem OwnShop.nil {w w1 : World} {B M r : Nat} (hB : B = w.heap.size) (hg : (w.alloc (.cells #[] 31)).grownBy w1 (some r)) (hr : r < B) : OwnShop w1 B M (.slice (some ⟨B, 0, none⟩) 0 0) 0 := by
  subst hB
  have h0 := World.ownsRow_made (base := w.heap.size) (size := 1) (e := 31) w #[] 0 (Nat.le_refl _) (Nat.zero_le _) rfl
  refine ⟨[], (h0.kept hg (ne_low h0 hr)), fun u hu => by cases hu⟩
theorem OwnShop.up {w : World} {B M M' k : Nat} {v : Value} (h : OwnShop w B M v k) (hM : M ≤ M') : OwnShop w B M' v k := by
  obtain ⟨us, h, hu⟩ := h
  refine ⟨us, h, fun u hu' => ?_⟩
  obtain ⟨n, h1, h2, h3⟩ := hu u hu'
  exact ⟨n, h1.up hM, h2, fun k hk => Nat.lt_of_lt_of_le (h3 k hk) hM⟩
/-- a job lies on when the shop's own block grows -/
theorem OwnRows.beside {w w' : World} {B B' M n k : Nat} {x v : Value} {us : List Value} (h : OwnRows w B M x n) (hv : w.ownsRow B' 31 1 v k us) (hg : w.grownBy w' v.ownBlock) : OwnRows w' B w'.heap.size x n := by
  obtain ⟨ys, h1, h2⟩ := h
  refine ⟨ys, h1.kept hg (own_ne h1 hv (by decide)), fun y hy => ?_⟩
  obtain ⟨l, xs, h3, _⟩ := h2 y hy
  have h4 := h3.kept hg (own_ne h3 hv (by decide))
  exact ⟨l, xs, h4, fun k hk => (h4.lt k hk).2⟩
theorem OwnRows.job {w : World} {B n : Nat} {x : Value} (h : OwnRows w B w.heap.size x n) (hn : n ≤ 3) : OwnJob w B w.heap.size x := by
  have h0 := h
  obtain ⟨ys, h1, _⟩ := h
  exact ⟨n, h0, hn, fun k hk => (h1.lt k hk).2⟩
/-- the job is done, and put to the shop -/
theorem OwnShop.push {w w' : World} {B M M' n k : Nat} {v v' u : Value} {us : List Value} (hu : OwnRows w M M' u n) (hn : n ≤ 3) (hM : B ≤ M)
    (hv : w.ownsRow B 31 1 v k us) (hus : ∀ u ∈ us, OwnJob w B M u) (hv' : w'.ownsRow B 31 1 v' (k + 1) (us ++ [u])) (hg : w.grownBy w' v.ownBlock) : OwnShop w' B w'.heap.size v' (k + 1) := by
  refine ⟨us ++ [u], hv', fun x hx => ?_⟩
  rcases List.mem_append.1 hx with hx | hx
  · obtain ⟨l, h, hl, _⟩ := hus x hx
    exact (h.beside hv hg).job hl
  · simp only [List.mem_singleton] at hx
    subst hx
    exact ((hu.base hM).beside hv hg).job hn
theorem OwnShop.addr {w : World} {B M k cap : Nat} {a : Option Addr} (h : OwnShop w B M (.slice a k cap) k) (hk : 0 < k) : ∃ g, a = some ⟨g, 0, none⟩ ∧ B ≤ g := by
  obtain ⟨us, hv, _⟩ := h
  rcases hv.2 with ⟨h1, h2⟩ | ⟨g, c, cur, h1, h2, _⟩
  · omega
  · simp only [Value.slice.injEq] at h1
    exact ⟨g, h1.1, h2⟩
theorem OwnShop.cell {w : World} {B M g k cap j : Nat} (h : OwnShop w B M (.slice (some ⟨g, 0, none⟩) k cap) k) (hj : j < k) : ∃ v, w.cell? ⟨g, j, none⟩ = some v ∧ w.frozen? ⟨g, j, none⟩ = false ∧ OwnJob w B M v := by
  obtain ⟨us, hv, hus⟩ := h
  have hl := hv.1
  refine ⟨us[j]'(by omega), ?_, hv.frozenAt j, hus _ (List.getElem_mem _)⟩
  rw [hv.cellAt j (by omega)]
  exact List.getElem?_eq_getElem _
/-- a row of a job is set -/
theorem OwnShop.store {w : World} {B M g k n cap j l : Nat} {v u : Value} {xs : List Int} (h : OwnShop w B M v k) (hj : OwnRows w B M (.slice (some ⟨g, 0, none⟩) n cap) n) (hu : w.ownsRow B 3 1 u l (xs.map (.int .i64))) :
    OwnShop (w.setCell ⟨g, j, none⟩ u) B w.heap.size v k ∧ w.grownBy (w.setCell ⟨g, j, none⟩ u) (some g) := by
  have hg := (hj.store (j := j) hu).2
  have hsz : (w.setCell ⟨g, j, none⟩ u).heap.size = w.heap.size := by simp
  obtain ⟨us, hv, hus⟩ := h
  obtain ⟨zs, hz, _⟩ := hj
  refine ⟨⟨us, hv.kept hg (own_ne hv hz (by decide)), fun x hx => ?_⟩, hg⟩
  obtain ⟨n', hx', hn', hlt⟩ := hus x hx
  have hxl : ∀ k, x.ownBlock = some k → k < w.heap.size := fun k hk => by
    obtain ⟨ys, h1, _⟩ := hx'
    exact (h1.lt k hk).2
  by_cases e : x.ownBlock = some g
  · obtain ⟨a, c, rfl, _⟩ := hx'.slice
    have hx2 := hx'
    obtain ⟨ys, h1, _⟩ := hx'
    rcases h1.2 with ⟨h2, _⟩ | ⟨g', c', cur, h2, _⟩
    · rw [h2] at e; simp [Value.ownBlock] at e
    · simp only [Value.slice.injEq] at h2
      obtain ⟨rfl, _, _⟩ := h2
      have eg : g' = g := by simpa [Value.ownBlock] using e
      subst eg
      exact ⟨n', (hx2.store (j := j) hu).1, hn', hxl⟩
  · obtain ⟨ys, h1, h2⟩ := hx'
    refine ⟨n', ⟨ys, h1.kept hg (.inr e), fun y hy => ?_⟩, hn', hxl⟩
    obtain ⟨l', xs', h3, _⟩ := h2 y hy
    exact ⟨l', xs', h3.kept hg (own_ne h3 hz (by decide)), fun k hk => (h3.lt k hk).2⟩
theorem OwnShop.shop {w : World} {B M k : Nat} {v : Value} (h : OwnShop w B M v k) (hk : k ≤ 9223372036854775807) :
    ∃ a cap shop, v = .slice a k cap ∧ k ≤ cap ∧ ShopAt w (fun b => B ≤ b ∧ b < w.heap.size) a k shop ∧ ∀ job ∈ shop, job.length ≤ 3 := by
  obtain ⟨us, h, hu⟩ := h
  have hlen : us.length = k := by have := h.1; simpa using this
  have hlt := h.lt
  have hc := fun g hg => h.cells (g := g) hg
  obtain ⟨shop, hr1, hr2⟩ := all_choose (Q := fun (u : Value) (r : List (List Int)) => ∃ a' l c, u = .slice a' l c ∧ l ≤ c ∧ RowsAt w (fun b => B ≤ b ∧ b < w.heap.size) a' l r ∧ l ≤ 3) us (fun u hu' => by
    obtain ⟨n, h1, hn, _⟩ := hu u hu'
    obtain ⟨a, cap, rows, h3, h4, h5⟩ := h1.rows (by omega)
    exact ⟨rows, a, n, cap, h3, h4, h5, hn⟩)
  have hall : ∀ job ∈ shop, job.length ≤ 3 := fun job hj => by
    obtain ⟨i, hi⟩ := List.mem_iff_getElem?.1 hj
    obtain ⟨_, _, _, l, _, _, _, h3, h4⟩ := hr2 i job hi
    rw [h3.lenEq]; exact h4
  rcases h.2 with ⟨rfl, rfl⟩ | ⟨g, cap, cur, rfl, _, _, hcap, _⟩
  · exact ⟨none, 0, shop, rfl, Nat.le_refl _, ⟨by omega, hk, fun h0 => absurd h0 (by omega)⟩, hall⟩
  · refine ⟨some ⟨g, 0, none⟩, cap, shop, rfl, hcap, ⟨by omega, hk, fun h0 => ⟨g, 0, rfl, hlt g rfl, fun i r hr => ?_⟩⟩, hall⟩
    obtain ⟨u, hu1, a', l, c, rfl, h4, h5, _⟩ := hr2 i r hr
    have := hc g rfl i _ hu1
    rw [add_plain] at this
    exact ⟨a', l, c, this, h4, h5⟩
end Go.Proofs.Ythmlgicjedhgfaa
namespace Go.Proofs.Ythmlgicjedhgfaa
open Go.RowKit Go.WideShapes

def ShopPost (w : World) (R p : Nat) (e : Ending) (w' : World) : Prop := ∃ (a : Option Addr) (len cap : Nat) (shop : List (List (List Int))) (p' : Nat), e = .returned (.slice a len cap) ∧
      ShopAt w' (fun b => w.heap.size ≤ b ∧ b < w'.heap.size) a len shop ∧ (∀ job ∈ shop, job.length ≤ 3) ∧ len ≤ cap ∧ len ≤ 3 ∧ Rd w' R p' ∧ p' ≤ p + 100 ∧ w.grownBy w' (some R)
theorem shopPost_mk {w w' : World} {R p p' len cap M : Nat} {a : Option Addr} (h : OwnShop w' w.heap.size M (.slice a len cap) len) (hl : len ≤ cap) (h3 : len ≤ 3) (hr : Rd w' R p') (hp : p' ≤ p + 100)
    (hg : w.grownBy w' (some R)) : ShopPost w R p (.returned (.slice a len cap)) w' := by
  obtain ⟨a', cap', shop, hv, _, hs, hall⟩ := h.shop (by omega)
  simp only [Value.slice.injEq] at hv
  obtain ⟨rfl, _, rfl⟩ := hv
  exact ⟨_, _, _, shop, p', rfl, hs, hall, hl, h3, hr, hp, hg⟩
theorem Try.infoIntss7 : (Try.prog.info? 31).map (fun i => (i.zero, i.size, i.bytes)) = some (some (.slice none 0 0), 1, 24) := by kernel_rfl
theorem shop_n {n : Int} (h : n ∈ [2, 3, 2, 1, 0]) : ∃ m : Nat, n = (m : Int) ∧ m ≤ 3 := by
  simp at h
  exact ⟨n.toNat, by omega, by omega⟩
theorem own_lit2 (w : World) {B : Nat} (hB : B ≤ w.heap.size) (x y : Int) : (w.alloc (.cells #[.int .i64 x, .int .i64 y] 3)).ownsRow B 3 1 (.slice (some ⟨w.heap.size, 0, none⟩) 2 2) 2 ([x, y].map (.int .i64)) :=
  ⟨rfl, .inr ⟨w.heap.size, 2, _, rfl, hB, heap_alloc_new w _, Nat.le_refl _, by unfold maxLen; omega, rfl, rfl⟩⟩
set_option maxRecDepth 100000 in
set_option maxHeartbeats 4000000 in
theorem someShop_any (R p : Nat) (w : World) (h : Rd w R p) (hp : p ≤ 900000) :
    Calls Try.prog 16 #[.pointer (some ⟨R, 0, none⟩)] w (ShopPost w R p) := by
  have hR := h.lt
  obtain ⟨i1, hj, hy0, hy1, hy2⟩ := info_parts Try.infoInts
  obtain ⟨i2, hj2, hz0, hz1, hz2⟩ := info_parts Try.infoIntss7
  go_enter Try.func16, Try.ntmps16
  go_wp2_with fail
  refine (one_any (fun k => k = w.heap.size + 1) R p _ 5 5 [2, 3, 2, 1, 0] _ ((h.alloc _).alloc _) (IntsAt.lit rfl rfl (by simp) (by omega)) (by intro b hb; simp; omega) (by omega) (by omega)).mono ?_
  rintro e w1 ⟨n, hn, rfl, hr1, hg1⟩
  obtain ⟨m, rfl, hm⟩ := shop_n hn
  clear hn
  have hg2 : w.grownBy w1 (some R) := grown_r (World.grownBy_alloc w _ _) (grown_r (World.grownBy_alloc _ _ _) hg1)
  have ho1 : OwnShop w1 w.heap.size w1.heap.size (.slice (some ⟨w.heap.size, 0, none⟩) 0 0) 0 :=
    OwnShop.nil rfl (grown_r (World.grownBy_alloc _ _ _) hg1) hR
  go_wp2_with fail
  go_loopw [3] (fun v wr => ∃ (k p' cap : Nat) (a : Option Addr), v = .slice a k cap ∧ k ≤ cap ∧ OwnShop wr w.heap.size wr.heap.size v k ∧ k ≤ m ∧ Rd wr R p' ∧ p' ≤ p + 1 + 10 * k ∧ w.grownBy wr (some R)) (fun v _ => m - capOf v)
  case atStart => exact ⟨0, p + 1, 0, _, rfl, Nat.le_refl _, ho1, Nat.zero_le _, hr1, Nat.le_refl _, hg2⟩
  case round =>
    clear ho1
    obtain ⟨k, p', cap, a, rfl, hkc, ho, hkm, hr, hpp, hg⟩ := hrel
    obtain ⟨wo, rfl⟩ : ∃ wo : World, wo = wr := ⟨_, rfl⟩
    have hw0 : w.heap.size ≤ wo.heap.size := hg.size
    by_cases hlt : k < m
    · go_wp2_with fail
      refine (pick_any R p' 3 _ (hr.alloc _) (by omega)).mono ?_
      rintro e w2 ⟨q1, rfl, hq1, hr2, hgA⟩
      go_wp2_with fail
      refine (pick_any R (p' + 1) 2 w2 hr2 (by omega)).mono ?_
      rintro e w3 ⟨q2, rfl, hq2, hr3, hgB⟩
      go_wp2_with fail
      refine (one_any (fun b => b = w3.heap.size) R (p' + 1 + 1) _ 5 5 [2, 3, 2, 1, 0] _ (hr3.alloc _) (IntsAt.lit rfl rfl rfl (by omega)) (by intro b hb; have := hr3.lt; simp; omega) (by omega) (by omega)).mono ?_
      rintro e w4 ⟨nn, hnn, rfl, hr4, hgC⟩
      obtain ⟨mj, rfl, hmj⟩ := shop_n hnn
      clear hnn
      have gab : (wo.alloc (.cells #[] 32)).grownBy w4 (some R) := grown_r (grown_trans hgA hgB (by intro k e; cases e; exact Or.inl rfl)) (grown_r (World.grownBy_alloc w3 _ _) hgC)
      have hRo : R < wo.heap.size := hr.lt
      have hj0 : OwnRows w4 wo.heap.size w4.heap.size (.slice (some ⟨wo.heap.size, 0, none⟩) 0 0) 0 := OwnRows.nil rfl gab hRo
      have gwo : wo.grownBy w4 (some R) := grown_r (World.grownBy_alloc wo _ _) gab
      have ho4 : OwnShop w4 w.heap.size wo.heap.size (.slice a k cap) k := ho.low gwo hR
      have hg4 := grown_r hg gwo
      have hwo4 := gwo.size
      clear hr hr2 hr3 hgA hgB hgC gab gwo hg ho
      go_wp2_with fail
      go_loopw [5] (fun v wr => ∃ (j p2 cj : Nat) (aj : Option Addr), v = .slice aj j cj ∧ j ≤ cj ∧ OwnRows wr wo.heap.size wr.heap.size v j ∧ OwnShop wr w.heap.size wo.heap.size (.slice a k cap) k ∧ j ≤ mj ∧ Rd wr R p2 ∧ p2 ≤ p' + 3 + j ∧ wo.heap.size ≤ wr.heap.size ∧ w.grownBy wr (some R)) (fun v _ => mj - capOf v)
      case atStart => exact ⟨0, p' + 1 + 1 + 1, 0, _, rfl, Nat.le_refl _, hj0, ho4, Nat.zero_le _, hr4, by omega, hwo4, hg4⟩
      case round =>
        clear hj0 ho4 hr4 hg4 hwo4
        obtain ⟨j, p2, cj, aj, rfl, hjc, hjr, hos, hjm, hr5, hpp2, hwo, hg5⟩ := hrel
        obtain ⟨wi, rfl⟩ : ∃ wi : World, wi = wr := ⟨_, rfl⟩
        by_cases hlj : j < mj
        · have hq1b : q1 ≤ 2 := by omega
          have hq2b : q2 ≤ 1 := by omega
          have hj2 : j ≤ 2 := by omega
          have hmb : 0 ≤ (1 + (q2 : Int)) * (j : Int) ∧ (1 + (q2 : Int)) * (j : Int) ≤ 2 * 2 := ⟨Int.mul_nonneg (by omega) (by omega), Int.mul_le_mul (by omega) (by omega) (by omega) (by omega)⟩
          go_wp2_with fail
          refine (pick_any R p2 6 _ hr5 (by omega)).mono ?_
          rintro e w5 ⟨q3, rfl, hq3, hr6, hg6⟩
          have hjr5 := hjr.low hg6 hRo
          have hos5 := hos.low hg6 hR
          have hlit := own_lit2 w5 (B := wi.heap.size) hg6.size (((q1 : Int) + (1 + (q2 : Int)) * (j : Int)) % 3) (1 + (q3 : Int))
          obtain ⟨us, hout, hus⟩ := hjr5.alloc (.cells #[.int .i64 (((q1 : Int) + (1 + (q2 : Int)) * (j : Int)) % 3), .int .i64 (1 + (q3 : Int))] 3)
          have hos6 := hos5.alloc (.cells #[.int .i64 (((q1 : Int) + (1 + (q2 : Int)) * (j : Int)) % 3), .int .i64 (1 + (q3 : Int))] 3)
          have hr8 := hr6.alloc (.cells #[.int .i64 (((q1 : Int) + (1 + (q2 : Int)) * (j : Int)) % 3), .int .i64 (1 + (q3 : Int))] 3)
          have hg8 := grown_alloc (grown_r hg5 hg6) (.cells #[.int .i64 (((q1 : Int) + (1 + (q2 : Int)) * (j : Int)) % 3), .int .i64 (1 + (q3 : Int))] 3)
          have hsz5 := hg6.size
          have hsz8 : (w5.alloc (.cells #[.int .i64 (((q1 : Int) + (1 + (q2 : Int)) * (j : Int)) % 3), .int .i64 (1 + (q3 : Int))] 3)).heap.size = w5.heap.size + 1 := by simp
          obtain ⟨w8, hw8⟩ : ∃ w8, (w5.alloc (.cells #[.int .i64 (((q1 : Int) + (1 + (q2 : Int)) * (j : Int)) % 3), .int .i64 (1 + (q3 : Int))] 3)) = w8 := ⟨_, rfl⟩
          rw [hw8] at hlit hout hus hr8 hg8 hsz8 hos6
          have HW8 := Lib.hid hw8
          have HSZ := Lib.hid hsz8
          clear hw8 hsz8 hjr5 hos5 hr6 hg6 hjr hos hr5 hg5
          have HLIT := Lib.hid hlit
          have HOUT := Lib.hid hout
          have HUS := Lib.hid hus
          have HR8 := Lib.hid hr8
          have HG8 := Lib.hid hg8
          have HOS := Lib.hid hos6
          clear hlit hout hus hr8 hg8 hos6
          go_wp2_with (at_builtin; rw [HW8.out]; refine wpList_append_own _ rfl _ _ 31 rfl wo.heap.size 32 i1 (.slice none 0 0) 1 24 Try.underlying31 hj hy0 hy1 hy2 rfl (by decide) _ _ _ rfl (HOUT.out.alloc _) ⟨w8.heap.size, 0, none⟩ 1 1 [.slice (some ⟨w5.heap.size, 0, none⟩) 2 2] (by rw [HSZ.out]; rfl) rfl ?c1 ?c2 ?c3 ?c4 ?c5 ?_)
          case c1 => exact one_new _ _ _
          case c2 => exact one_cell_slice _ _ _
          case c3 => unfold maxLen; omega
          case c4 => omega
          case c5 => have := HSZ.out; simp; omega
          intro v' w9 hown hgrow _
          obtain ⟨a6, c6, rfl, hjc6⟩ := own_slice hown
          have hgr : w8.grownBy w9 (Value.slice aj j cj).ownBlock := grown_comp (World.grownBy_alloc w8 _ _) hgrow
          have HPUSH := Lib.hid (OwnRows.push HLIT.out hwo HOUT.out HUS.out hown hgr)
          have HOS9 := Lib.hid (HOS.out.rows (⟨us, HOUT.out, HUS.out⟩ : OwnRows w8 wo.heap.size wi.heap.size (.slice aj j cj) j) hgr)
          have HR9 := Lib.hid (HR8.out.grown hgr (by intro b hb; have := (HOUT.out.lt b hb).1; omega))
          have HG9 := Lib.hid (grown_trans HG8.out hgr (by intro b hb; have := (HOUT.out.lt b hb).1; omega))
          have HWO := Lib.hid (show wo.heap.size ≤ w9.heap.size by have := hgr.size; have := HSZ.out; omega)
          clear hown hgrow hgr
          go_wp2_with fail
          go_roundw
          case rel => exact ⟨j + 1, p2 + 1, c6, a6, rfl, hjc6, HPUSH.out, HOS9.out, by omega, HR9.out, by omega, HWO.out, HG9.out⟩
          case measure => simp [capOf] <;> omega
        · obtain rfl : j = mj := by omega
          obtain ⟨us, hout, hus⟩ := hos
          have hwo0 : w.heap.size ≤ wo.heap.size := hw0
          go_wp2_with (at_builtin; refine wpList_append_own _ rfl _ _ 23 rfl w.heap.size 31 i2 (.slice none 0 0) 1 24 Try.underlying23 hj2 hz0 hz1 hz2 rfl (by decide) _ _ _ rfl (hout.alloc _) ⟨wi.heap.size, 0, none⟩ 1 1 [.slice aj j cj] rfl rfl ?c1 ?c2 ?c3 ?c4 ?c5 ?_)
          case c1 => exact one_new _ _ _
          case c2 => exact one_cell_slice _ _ _
          case c3 => unfold maxLen; omega
          case c4 => omega
          case c5 => simp; omega
          intro v' w6 hown hgrow _
          obtain ⟨a6, c6, rfl, hjc6⟩ := own_slice hown
          have hgr : wi.grownBy w6 (Value.slice a k cap).ownBlock := grown_comp (World.grownBy_alloc wi _ _) hgrow
          have HPU := Lib.hid (OwnShop.push hjr (by omega) hwo0 hout hus hown hgr)
          have HR9 := Lib.hid (hr5.grown hgr (by intro b hb; have := (hout.lt b hb).1; omega))
          have HG9 := Lib.hid (grown_trans hg5 hgr (by intro b hb; have := (hout.lt b hb).1; omega))
          clear hown hgrow hgr
          go_wp2_with fail
          go_roundw
          case rel => exact ⟨k + 1, p2, c6, a6, rfl, hjc6, HPU.out, by omega, HR9.out, by omega, HG9.out⟩
          case measure => simp [capOf] <;> omega
    · by_cases hk0 : 0 < k
      · obtain ⟨g, rfl, hgB⟩ := ho.addr hk0
        obtain ⟨v, hc0, hf0, n, hrow, hn3, hltn⟩ := ho.cell (j := 0) hk0
        obtain ⟨a2, c2, rfl, hnc⟩ := hrow.slice
        by_cases hn0 : 0 < n
        · obtain ⟨g2, rfl, hg2B⟩ := hrow.addr hn0
          go_wp2_with fail
          refine (pick_any R p' 30 wo hr (by omega)).mono ?_
          rintro e w2 ⟨q, rfl, _, hr2, hg3⟩
          have ho2 := ho.low hg3 hR
          have hrow2 := hrow.low hg3 hR
          have hg4 := grown_r hg hg3
          have hsz3 := hg3.size
          have hgs : g < wo.heap.size := World.block_lt_of_cell? wo _ hc0
          have hcw : w2.cell? ⟨g, 0, none⟩ = some (.slice (some ⟨g2, 0, none⟩) n c2) := hg3.cell hc0 (by simp; omega)
          by_cases hq : q = 0
          · subst hq
            have hkA : ∀ o, (w2.alloc o).cell? ⟨g, 0, none⟩ = some (.slice (some ⟨g2, 0, none⟩) n c2) := fun o => by
              rw [World.cell?_of_block (w := w2) (Below.heap_alloc _ _ _ (by show g < _; omega))]; exact hcw
            have hli : IntsAt (w2.alloc (.cells #[.int .i64 3, .int .i64 (-1)] 3)) (fun b => b = w2.heap.size) (some ⟨w2.heap.size, 0, none⟩) 2 [3, -1] := IntsAt.lit rfl rfl rfl (by omega)
            have HLI := Lib.hid (Drew.ints (wr := (w2.alloc (.cells #[.int .i64 3, .int .i64 (-1)] 3)).drew) hli ⟨1, rfl⟩)
            clear hli
            have HGA := Lib.hid (show w2.grownBy (w2.alloc (.cells #[.int .i64 3, .int .i64 (-1)] 3)).drew (some R) from (grown_r (World.grownBy_alloc w2 _ _) (grownBy_drewN _ 1 _)))
            have HRA := Lib.hid (show Rd (w2.alloc (.cells #[.int .i64 3, .int .i64 (-1)] 3)).drew R (p' + 1) from (hr2.alloc _).grown (grownBy_drewN _ 1 none) (fun k e => by cases e))
            have HNE : Hid (∀ b, b = w2.heap.size → b ≠ R ∧ b < ((w2.alloc (.cells #[.int .i64 3, .int .i64 (-1)] 3)).drew).heap.size) := Lib.hid (by intro b hb; have := hr2.lt; subst hb; exact ⟨by omega, by show _ < (w2.alloc _).heap.size; simp⟩)
            have HO2 := Lib.hid ho2
            have HROW := Lib.hid hrow2
            have HG4 := Lib.hid hg4
            have hgR : g ≠ R := by omega
            have hgg : g ≠ g2 := by
              obtain ⟨us, hv, _⟩ := ho
              obtain ⟨ys, hy, _⟩ := hrow
              have := own_ne hv hy (by decide)
              simpa [Value.ownBlock] using this
            clear ho2 hrow2 ho hrow hg4 hg3 hr hg hr2 hc0 hf0
            go_wp2_with fail
            go_region_held3 (fun w' => w'.cell? ⟨g, 0, none⟩ = some (.slice (some ⟨g2, 0, none⟩) n c2)) (first | go_keep | exact hkA _ | exact k4)
              (first | (go_at_call 24; refine (one_any _ R (p' + 1) _ 2 2 [3, -1] _ HRA.out HLI.out HNE.out (by omega) (by omega)).mono ?_; rintro e w5 ⟨x, _, rfl, hr5, hg5⟩; have k1 : w5.cell? ⟨g, 0, none⟩ = some (.slice (some ⟨g2, 0, none⟩) n c2) := hg5.cell (hkA _) (by simp; omega); have gw5 := grown_r HGA.out hg5; have hx5 := (HROW.out.low gw5 hR).alloc (.cells #[.int .i64 x, .int .i64 1] 3); have hz5 := gw5.size; obtain ⟨v1, k2, k3⟩ := hx5.cell (j := 0) hn0; have k1a : (w5.alloc (.cells #[.int .i64 x, .int .i64 1] 3)).cell? ⟨g, 0, none⟩ = some (.slice (some ⟨g2, 0, none⟩) n c2) := (World.grownBy_alloc w5 (.cells #[.int .i64 x, .int .i64 1] 3) none).cell k1 (by simp); have k4 := (hx5.store (j := 0) (own_lit2 w5 (B := w.heap.size) (by omega) x 1)).2.cell k1a (by simp; exact hgg)))
            have gW := grown_alloc (grown_r HG4.out gw5) (.cells #[.int .i64 x, .int .i64 1] 3)
            have hsW : OwnShop (w5.alloc (.cells #[.int .i64 x, .int .i64 1] 3)) w.heap.size wo.heap.size (.slice (some ⟨g, 0, none⟩) k cap) k := (HO2.out.low gw5 hR).alloc _
            obtain ⟨h1, h2⟩ := OwnShop.store (j := 0) hsW hx5 (own_lit2 w5 (B := w.heap.size) (by omega) x 1)
            have H1 := Lib.hid h1
            have H2 := Lib.hid h2
            have GW := Lib.hid gW
            have HR5 := Lib.hid hr5
            clear h1 h2 gW hsW hr5 hx5 gw5 hg5 k1 k1a k2 k3 k4
            go_wp2
            go_ret
            exact shopPost_mk H1.out hkc (by omega) ((HR5.out.alloc _).grown H2.out (by intro b hb; injection hb; omega)) (by omega) (grown_trans GW.out H2.out (by intro b hb; injection hb; omega))
          · have hqe : ((q : Int) == 0) = false := by simp; omega
            go_wp2
            go_ret
            exact shopPost_mk ho2 hkc (by omega) hr2 (by omega) hg4
        · have hn00 : ¬ (0 : Int) < (n : Int) := by omega
          go_wp2
          go_ret
          exact shopPost_mk ho hkc (by omega) hr (by omega) hg
      · have hk1' : ¬ (0 : Int) < (k : Int) := by omega
        go_wp2
        go_ret
        exact shopPost_mk ho hkc (by omega) hr (by omega) hg
end Go.Proofs.Ythmlgicjedhgfaa
namespace Go.Proofs.Ythmlgicjedhgfaa
open Go.RowKit Go.WideShapes

/-- a drawn shop -/
def DrawnS (w : World) (e : Ending) (w' : World) : Prop := ∃ (a : Option Addr) (l c : Nat) (shop : List (List (List Int))), e = .returned (.slice a l c) ∧ ShopAt w' (· < w'.heap.size) a l shop ∧ (∀ job ∈ shop, job.length ≤ 3) ∧ l ≤ c ∧ l ≤ 3 ∧ Below w.heap.size w w'
theorem drawValidShop_any (a : Option Addr) (len cap : Nat) (w : World) (hb : BytesAt w w.heap.size a len) (hl : len ≤ cap) (hs : len ≤ 9223372036854775807) :
    Calls Try.prog 7 #[.slice a len cap] w (DrawnS w) := by
  go_enter Try.func7, Try.ntmps7
  go_wp2_with fail
  refine (newReader_any a len cap w hb hl hs).mono ?_
  rintro e w1 ⟨rfl, hr, hb1⟩
  go_wp2_with fail
  refine (someShop_any w.heap.size 0 w1 hr (by omega)).mono ?_
  rintro e w2 ⟨a2, l2, c2, shop, p2, rfl, h1, hj, h2, h3, hr2, hp2, hg⟩
  have hbb : Below w.heap.size w w2 := grown_below hg hb1 hb1.size
  go_wp2_with fail
  go_ret
  exact ⟨a2, l2, c2, shop, rfl, h1.to (fun b hb => ⟨hb.2, rfl⟩), hj, h2, h3, hbb⟩
theorem drawLeastShop_any (a : Option Addr) (len cap : Nat) (w : World) (hb : BytesAt w w.heap.size a len) (hl : len ≤ cap) (hs : len ≤ 9223372036854775807) :
    Calls Try.prog 13 #[.slice a len cap] w (DrawnS w) := by
  go_enter Try.func13, Try.ntmps13
  go_wp2_with fail
  refine (newReader_any a len cap w hb hl hs).mono ?_
  rintro e w1 ⟨rfl, hr, hb1⟩
  go_wp2_with fail
  refine (someShop_any w.heap.size 0 w1 hr (by omega)).mono ?_
  rintro e w2 ⟨a2, l2, c2, shop, p2, rfl, h1, hj, h2, h3, hr2, hp2, hg⟩
  have hbb : Below w.heap.size w w2 := grown_below hg hb1 hb1.size
  go_wp2_with fail
  go_ret
  exact ⟨a2, l2, c2, shop, rfl, h1.to (fun b hb => ⟨hb.2, rfl⟩), hj, h2, h3, hbb⟩
end Go.Proofs.Ythmlgicjedhgfaa
namespace Go.Proofs.Ythmlgicjedhgfaa
open Go.RowKit Go.ChangeShapes Go.WideShapes Go.Deep

section
variable {H : Type} {enc : TypeId × Value → H} {P : Program} {W : World}
theorem open_rows_cs {t e q : TypeId} {fuel : Nat} {cs : List Value} {x : DataW H × List MemPlace} (ht : P.underlying t = some (.slice e)) (he : P.underlying e = some (.slice q)) (hq : P.underlying q = some (.int .i64))
    (ce : P.cellsOf e = 1) (cq : P.cellsOf q = 1) (h : DataW.trod enc P W 0 (fun _ => true) true fuel t cs = some x) : ∃ a len cap rows, cs = [.slice a len cap] ∧ len ≤ cap ∧ RowsAt W (· < W.heap.size) a len rows := by
  rcases open_int_rows ht he hq ce cq h with ⟨hcs, _⟩ | ⟨a, len', cap', A, L, C, Z, hcs, _, hl, hmx, _, hx⟩
  · exact ⟨none, 0, 0, [], hcs, Nat.le_refl _, rfl, Nat.zero_le _, fun h => absurd h (by omega)⟩
  · exact ⟨some a, len', cap', _, hcs, hl, rowsAt_of hl hmx hx⟩
theorem choose_list {Q : Nat → List (List Int) → Prop} : ∀ n, (∀ i, i < n → ∃ r, Q i r) → ∃ shop : List (List (List Int)), shop.length = n ∧ ∀ i r, shop[i]? = some r → Q i r
  | 0, _ => ⟨[], rfl, fun i r h => by simp at h⟩
  | n + 1, h => by
    obtain ⟨l, h1, h2⟩ := choose_list n (fun i hi => h i (by omega))
    obtain ⟨r, hr⟩ := h n (by omega)
    refine ⟨l ++ [r], by simp [h1], fun i x hx => ?_⟩
    rcases Nat.lt_or_ge i l.length with hi | hi
    · rw [List.getElem?_append_left hi] at hx; exact h2 i x hx
    · rw [List.getElem?_append_right hi] at hx
      have h0 : i - l.length = 0 := by have := (List.getElem?_eq_some_iff.1 hx).1; simp at this; omega
      rw [h0] at hx
      simp only [List.getElem?_cons_zero, Option.some.injEq] at hx
      subst hx
      rw [show i = n by omega]; exact hr
theorem open_shop_arg {t e f q : TypeId} {a : Option Addr} {len cap : Nat} {d : DataW H} {p : List MemPlace} (ht : P.underlying t = some (.slice e)) (he : P.underlying e = some (.slice f)) (hf : P.underlying f = some (.slice q)) (hq : P.underlying q = some (.int .i64))
    (ce : P.cellsOf e = 1) (cf : P.cellsOf f = 1) (cq : P.cellsOf q = 1) (h : DataW.Trod enc P W 0 (fun _ => true) true t (.slice a len cap) d p) : ∃ shop, ShopAt W (· < W.heap.size) a len shop := by
  obtain ⟨fuel, hfu⟩ := h
  rcases open_slice1 ht ce hfu with ⟨hcs, _⟩ | ⟨a', len', cap', m, n, V, D, Pl, hcs, _, hl, hmx, hm, _, hx⟩
  · simp [Value.cells] at hcs
    obtain ⟨rfl, rfl, rfl⟩ := hcs
    exact ⟨[], rfl, Nat.zero_le _, fun h => absurd h (by omega)⟩
  · simp [Value.cells] at hcs
    obtain ⟨rfl, rfl, rfl⟩ := hcs
    simp only [if_true] at hm
    subst hm
    obtain ⟨shop, hlen, hshop⟩ := choose_list (Q := fun i r => ∃ a2 l c, V i = .slice a2 l c ∧ l ≤ c ∧ RowsAt W (· < W.heap.size) a2 l r) len (fun i hi => by
      obtain ⟨a2, l, c, rows, h1, h2, h3⟩ := open_rows_cs he hf hq cf cq (hx i (by omega)).2
      simp only [List.cons.injEq, and_true] at h1
      exact ⟨rows, a2, l, c, h1, h2, h3⟩)
    refine ⟨shop, hlen, by unfold maxLen at hmx; omega, fun h0 => ?_⟩
    obtain ⟨b, off, spot⟩ := a'
    have hspot : spot = none := by simpa [Addr.add] using World.cell?_spot (hx 0 (by omega)).1
    subst hspot
    refine ⟨b, off, rfl, lt_of_cell (o := off + 0) (by rw [← add_plain]; exact (hx 0 (by omega)).1), fun i r hr => ?_⟩
    have hi : i < shop.length := (List.getElem?_eq_some_iff.1 hr).1
    obtain ⟨a2, l, c, h1, h2, h3⟩ := hshop i r hr
    exact ⟨a2, l, c, by rw [← add_plain, (hx i (by omega)).1, h1], h2, h3⟩
end
end Go.Proofs.Ythmlgicjedhgfaa
