import Derived.Test.YthmifadnfaajbacRows
import Derived.WalkKit
import Derived.ProofKit
import Derived.Test.YthmifadnfaajbacM0
import Derived.Test.YthmifadnfaajbacM1
import Derived.LoopTactic
import Derived.Outline
import Derived.WalkSpells
import Derived.WalkLawsBesides
import Derived.Deep.QuietTactic
import Derived.BigQuiet
namespace Go.Proofs.Ythmifadnfaajbac
open Go.RowKit Go.WideShapes

theorem Try.infoIntO : (Try.prog.info? 3).map (fun i => (i.zero, i.size, i.bytes)) = some (some (.int .i64 0), 1, 8) := by kernel_rfl
/-- a new slice of these ints -/
def NewInts (w : World) (xs : List Int) (e : Ending) (w' : World) : Prop := ∃ (a : Option Addr) (len cap : Nat), e = .returned (.slice a len cap) ∧ IntsAt w' (fun b => w.heap.size ≤ b ∧ b < w'.heap.size) a len xs ∧ len ≤ cap ∧ Below w.heap.size w w'
theorem newInts_nil (w : World) : NewInts w [] (.returned (.slice none 0 0)) w :=
  ⟨none, 0, 0, rfl, ⟨rfl, Nat.zero_le _, fun h => absurd h (by omega)⟩, Nat.le_refl _, Below.refl _ _⟩
theorem newInts_own {w wr : World} {k cp : Nat} {ax : Option Addr} {xs : List Int} (h : wr.ownsRow w.heap.size 3 1 (.slice ax k cp) k (xs.map (.int .i64))) (hb : Below w.heap.size w wr) (hk : k ≤ 9223372036854775807) :
    NewInts w xs (.returned (.slice ax k cp)) wr := by
  obtain ⟨ay, cy, hve, hcc, hints⟩ := own_ints h hk
  simp only [Value.slice.injEq] at hve
  obtain ⟨rfl, _, rfl⟩ := hve
  exact ⟨_, _, _, rfl, hints, hcc, hb⟩
/-- a new slice of these ints, that is the call's own -/
def NewOwn (w : World) (xs : List Int) (e : Ending) (w' : World) : Prop := ∃ (a : Option Addr) (len cap : Nat), e = .returned (.slice a len cap) ∧ len ≤ 9223372036854775807 ∧
  w'.ownsRow w.heap.size 3 1 (.slice a len cap) len (xs.map (.int .i64)) ∧ Below w.heap.size w w'
theorem NewOwn.ints {w w' : World} {xs : List Int} {e : Ending} (h : NewOwn w xs e w') : NewInts w xs e w' := by
  obtain ⟨a, len, cap, rfl, hs, h1, h2⟩ := h
  exact newInts_own h1 h2 hs
theorem newOwn_alloc {w : World} {xs : List Int} {len : Nat} (hl : xs.length = len) (hs : len ≤ 1048576) :
    NewOwn w xs (.returned (.slice (some ⟨w.heap.size, 0, none⟩) len len)) (w.alloc (.cells (cellsOf xs) 3)) :=
  ⟨_, _, _, rfl, by omega, ⟨by simp [hl], .inr ⟨w.heap.size, len, cellsOf xs, rfl, Nat.le_refl _, heap_alloc_new w _, Nat.le_refl _, by unfold maxLen; omega, by simp [cellsOf, hl], by simp [cellsOf]; exact List.take_of_length_le (by simp [hl])⟩⟩, (Below.refl _ _).alloc (Nat.le_refl _) _⟩
theorem own_drewN {w : World} {B e s n : Nat} {v : Value} {xs : List Value} (h : w.ownsRow B e s v n xs) (q : Nat) : (w.drewN q).ownsRow B e s v n xs :=
  h.kept (grownBy_drewN w q none) (by cases v.ownBlock <;> simp)
/-- the call's own block of ints, told by their place -/
structure OwnF (w wr : World) (len : Nat) (f : Nat → Int) : Prop where
  own : wr.ownsRow w.heap.size 3 1 (.slice (some ⟨w.heap.size, 0, none⟩) len len) len ((tab f len).map (.int .i64))
  below : Below w.heap.size w wr
theorem OwnF.start (w : World) (len : Nat) (hs : len ≤ 1048576) : OwnF w (w.alloc (.cells (madeCells #[.int .i64 0] len) 3)) len (fun _ => 0) := by
  have e : madeCells #[.int .i64 0] len = cellsOf (tab (fun _ => 0) len) := (ArrIs.made len).tab
  rw [e]
  obtain ⟨a, l, c, e1, _, h1, h2⟩ := newOwn_alloc (w := w) (tab_length (fun _ => 0) len) hs
  simp only [Ending.returned.injEq, Value.slice.injEq] at e1
  obtain ⟨rfl, rfl, rfl⟩ := e1
  exact ⟨h1, h2⟩
theorem OwnF.congr {w wr : World} {len : Nat} {f g : Nat → Int} (h : OwnF w wr len f) (e : ∀ q, q < len → f q = g q) : OwnF w wr len g := ⟨by rw [← tab_congr e]; exact h.own, h.below⟩
theorem OwnF.cell {w wr : World} {len q : Nat} {f : Nat → Int} (h : OwnF w wr len f) (hq : q < len) : wr.cell? ⟨w.heap.size, q, none⟩ = some (.int .i64 (f q)) ∧ wr.frozen? ⟨w.heap.size, q, none⟩ = false := by
  refine ⟨?_, h.own.frozenAt q⟩
  rw [h.own.cellAt q (by simpa [tab_length] using hq), List.getElem?_map, tab_at f hq]; rfl
theorem OwnF.heap {w wr : World} {len : Nat} {f : Nat → Int} (h : OwnF w wr len f) : wr.heap[w.heap.size]? = some (.cells ((tab f len).map (.int .i64)).toArray 3 (0, 0)) := by
  rcases h.own.2 with ⟨e, _⟩ | ⟨k, cap, cur, e, _, hh, _, _, hz, ht⟩
  · cases e
  · simp only [Value.slice.injEq, Option.some.injEq, Addr.mk.injEq] at e
    obtain ⟨⟨rfl, _⟩, _, rfl⟩ := e
    rw [hh, ← ht]
    have : cur.toList.take (len * 1) = cur.toList := List.take_of_length_le (by simp at hz ⊢; omega)
    simp [List.take_of_length_le (show cur.toList.length ≤ len by simpa using Nat.le_of_eq hz)]
theorem OwnF.drew {w wr : World} {len : Nat} {f : Nat → Int} (h : OwnF w wr len f) (n : Nat) : OwnF w (wr.drewN n) len f :=
  ⟨h.own.kept (grownBy_drewN wr n none) (by simp [Value.ownBlock]), h.below.trans (Drew.below (w := wr) (wr := wr.drewN n) ⟨n, rfl⟩ _)⟩
theorem OwnF.drew1 {w wr : World} {len : Nat} {f : Nat → Int} (h : OwnF w wr len f) : OwnF w wr.drew len f := h.drew 1
theorem tab_set (f : Nat → Int) (len k : Nat) (v : Int) : (tab f len).set k v = tab (fun q => if q = k then v else f q) len := by
  apply List.ext_getElem?
  intro i
  rw [List.getElem?_set]
  by_cases hi : i < len
  · by_cases e : k = i
    · subst e; rw [if_pos rfl, if_pos (by rw [tab_length]; exact hi), tab_at _ hi, if_pos rfl]
    · rw [if_neg e, tab_at _ hi, tab_at _ hi, if_neg (fun e' => e e'.symm)]
  · have h1 : (tab f len)[i]? = none := List.getElem?_eq_none (by rw [tab_length]; omega)
    have h2 : (tab (fun q => if q = k then v else f q) len)[i]? = none := List.getElem?_eq_none (by rw [tab_length]; omega)
    rw [h2]
    by_cases e : k = i
    · subst e; rw [if_pos rfl, if_neg (by rw [tab_length]; exact hi)]
    · rw [if_neg e, h1]
theorem OwnF.put {w wr : World} {len : Nat} {f : Nat → Int} (h : OwnF w wr len f) (k : Nat) (v : Int) : OwnF w (wr.setCell ⟨w.heap.size, k, none⟩ (.int .i64 v)) len (fun q => if q = k then v else f q) := by
  obtain ⟨h1, h2⟩ := h.own.stored k (.int .i64 v)
  refine ⟨?_, h.below.setCell (Nat.le_refl _) _⟩
  rw [← tab_set, List.map_set]; exact h1
theorem OwnF.done {w wr : World} {len : Nat} {f : Nat → Int} (h : OwnF w wr len f) (hs : len ≤ 1048576) : NewOwn w (tab f len) (.returned (.slice (some ⟨w.heap.size, 0, none⟩) len len)) wr :=
  ⟨_, _, _, rfl, by omega, h.own, h.below⟩
/-- a place of a row of ints that is the call's own -/
theorem own_place {w : World} {B n cap : Nat} {a : Option Addr} {xs : List Int} (h : w.ownsRow B 3 1 (.slice a n cap) n (xs.map (.int .i64))) {j : Nat} (hj : j < n) :
    ∃ g v, a = some ⟨g, 0, none⟩ ∧ B ≤ g ∧ w.cell? ⟨g, j, none⟩ = some v ∧ w.frozen? ⟨g, j, none⟩ = false := by
  have hl := h.1
  have h' := h
  rcases h'.2 with ⟨h1, h2⟩ | ⟨g, c, cur, h1, h2, _⟩
  · omega
  · simp only [Value.slice.injEq] at h1
    obtain ⟨rfl, _, rfl⟩ := h1
    refine ⟨g, (xs.map (Value.int .i64))[j]'(by omega), rfl, h2, ?_, h.frozenAt j⟩
    rw [h.cellAt j (by omega)]
    exact List.getElem?_eq_getElem _
theorem newInts_alloc {w : World} {xs : List Int} {len : Nat} (hl : xs.length = len) (hs : len ≤ 1048576) :
    NewInts w xs (.returned (.slice (some ⟨w.heap.size, 0, none⟩) len len)) (w.alloc (.cells (cellsOf xs) 3)) := by
  obtain ⟨a, l, c, e, h1, _, h3⟩ := resPost_alloc (w := w) (t := 3) hl hs
  simp only [Ending.returned.injEq, Value.slice.injEq] at e
  obtain ⟨rfl, rfl, rfl⟩ := e
  exact ⟨_, _, _, rfl, h1, Nat.le_refl _, h3⟩
end Go.Proofs.Ythmifadnfaajbac
namespace Go.Proofs.Ythmifadnfaajbac
open Go.RowKit

set_option maxHeartbeats 400000 in
theorem equalInts_any (S T : Nat → Prop) (a a2 : Option Addr) (len cap len2 cap2 : Nat) (xs ys : List Int) (w : World) (h : IntsAt w S a len xs) (g : IntsAt w T a2 len2 ys) :
    Calls Try.prog 9 #[.slice a len cap, .slice a2 len2 cap2] w (EqPost w (eqB xs ys)) := by
  have hs := h.small
  have hs2 := g.small
  by_cases hll : len = len2
  · subst hll
    go_enter Try.func9, Try.ntmps9
    go_wp2
    go_loopw [5] (fun i wr => ∃ k : Nat, k ≤ len ∧ i = .int .i64 k ∧ xs.take k = ys.take k ∧ Drew w wr) (fun i _ => len - (intOf i).toNat)
    case atStart => exact ⟨0, Nat.zero_le _, rfl, rfl, Drew.refl w⟩
    case round =>
      obtain ⟨k, hk, rfl, ht, hd⟩ := hrel
      have HT := Lib.hid ht
      clear ht
      by_cases hlt : k < len
      · obtain ⟨b, off, x, rfl, hx, hc⟩ := (Drew.ints h hd).get hlt
        obtain ⟨b2, off2, y, rfl, hy, hc2⟩ := (Drew.ints g hd).get hlt
        have HX := Lib.hid hx
        have HY := Lib.hid hy
        clear hx hy
        by_cases hxy : x = y
        · subst hxy
          go_wp2
          go_quiet (fail)
          go_wp2
          go_roundw
          case rel => exact ⟨k + 1, by omega, by go_num, take_eq_step HX.out HY.out HT.out, hd.drew _⟩
          case measure => simp [intOf]; omega
        · go_wp2
          go_quiet (fail)
          go_wp2
          go_ret
          exact ⟨ret_bool (decide_eq_false (ne_of_get HX.out HY.out hxy)).symm, hd.drew _⟩
      · go_wp2
        go_ret
        have e1 := h.lenEq
        have e2 := g.lenEq
        have ht := HT.out
        rw [List.take_of_length_le (by omega), List.take_of_length_le (by omega)] at ht
        exact ⟨ret_bool (decide_eq_true ht).symm, hd⟩
  · have hne : xs ≠ ys := by rintro rfl; exact hll (h.lenEq.symm.trans g.lenEq)
    go_enter Try.func9, Try.ntmps9
    go_wp2
    go_ret
    exact ⟨ret_bool (decide_eq_false hne).symm, Drew.refl w⟩
/-- the sum of numbers -/
def totalM (xs : List Int) : Int := xs.foldl (· + ·) 0
theorem totalM_snoc (xs : List Int) (x : Int) : totalM (xs ++ [x]) = totalM xs + x := by simp [totalM]
theorem totalM_bd {B : Int} (hB : 0 ≤ B) : ∀ {xs : List Int}, (∀ x ∈ xs, -B ≤ x ∧ x ≤ B) → -(B * xs.length) ≤ totalM xs ∧ totalM xs ≤ B * xs.length := by
  have key : ∀ (xs : List Int) (s : Int), (∀ x ∈ xs, -B ≤ x ∧ x ≤ B) → s - B * xs.length ≤ xs.foldl (· + ·) s ∧ xs.foldl (· + ·) s ≤ s + B * xs.length := by
    intro xs
    induction xs with
    | nil => intro s _; simp
    | cons x xs ih =>
      intro s h
      have h1 := h x List.mem_cons_self
      have h2 := ih (s + x) (fun y hy => h y (List.mem_cons_of_mem _ hy))
      have e : B * ((x :: xs).length : Int) = B * (xs.length : Int) + B := by rw [List.length_cons]; push_cast; rw [Int.mul_add, Int.mul_one]
      simp only [List.foldl_cons]
      rw [e]
      omega
  intro xs h
  have := key xs 0 h
  unfold totalM
  omega
theorem totalM_zero : ∀ {xs : List Int}, (∀ x ∈ xs, 0 ≤ x) → (totalM xs = 0 ↔ ∀ x ∈ xs, x = 0) := by
  have key : ∀ (xs : List Int) (s : Int), 0 ≤ s → (∀ x ∈ xs, 0 ≤ x) → (0 ≤ xs.foldl (· + ·) s ∧ (xs.foldl (· + ·) s = 0 ↔ s = 0 ∧ ∀ x ∈ xs, x = 0)) := by
    intro xs
    induction xs with
    | nil => intro s hs _; simp; exact hs
    | cons x xs ih =>
      intro s hs h
      have h1 := h x List.mem_cons_self
      obtain ⟨i1, i2⟩ := ih (s + x) (by omega) (fun y hy => h y (List.mem_cons_of_mem _ hy))
      simp only [List.foldl_cons]
      refine ⟨i1, ?_⟩
      rw [i2]
      simp only [List.mem_cons, forall_eq_or_imp]
      constructor
      · rintro ⟨e1, e2⟩; exact ⟨by omega, by omega, e2⟩
      · rintro ⟨e1, e2, e3⟩; exact ⟨by omega, e3⟩
  intro xs h
  have := (key xs 0 (Int.le_refl _) h).2
  unfold totalM
  rw [this]; simp
theorem take_mem {α : Type} {xs : List α} {k : Nat} {x : α} (h : x ∈ xs.take k) : x ∈ xs := List.mem_of_mem_take h

end Go.Proofs.Ythmifadnfaajbac
namespace Go.Proofs.Ythmifadnfaajbac
open Go.RowKit

/-- a new slice of these ints that may be written, not longer than its array -/
def ResPostC (w : World) (xs : List Int) (e : Ending) (w' : World) : Prop := ∃ (a : Option Addr) (len cap : Nat), e = .returned (.slice a len cap) ∧ IntsAt w' (fun b => w.heap.size ≤ b ∧ b < w'.heap.size) a len xs ∧
  Free w' (fun b => w.heap.size ≤ b ∧ b < w'.heap.size) a len ∧ len ≤ cap ∧ Below w.heap.size w w'
theorem resPostC_nil (w : World) : ResPostC w [] (.returned (.slice none 0 0)) w :=
  ⟨none, 0, 0, rfl, ⟨rfl, Nat.zero_le _, fun h => absurd h (by omega)⟩, ⟨Nat.zero_le _, fun h => absurd h (by omega)⟩, Nat.le_refl _, Below.refl _ _⟩
theorem resPostC_of {w w' : World} {xs : List Int} {a : Option Addr} {len cap : Nat} (h : ResPost w xs (.returned (.slice a len cap)) w') (hc : len ≤ cap) : ResPostC w xs (.returned (.slice a len cap)) w' := by
  obtain ⟨a', l', c', e, h1, h2, h3⟩ := h
  simp only [Ending.returned.injEq, Value.slice.injEq] at e
  obtain ⟨rfl, rfl, rfl⟩ := e
  exact ⟨_, _, _, rfl, h1, h2, hc, h3⟩
theorem ResPostC.res {w w' : World} {xs : List Int} {e : Ending} (h : ResPostC w xs e w') : ResPost w xs e w' := by
  obtain ⟨a', l', c', e1, h1, h2, _, h3⟩ := h
  exact ⟨a', l', c', e1, h1, h2, h3⟩
end Go.Proofs.Ythmifadnfaajbac
namespace Go.Proofs.Ythmifadnfaajbac
open Go.RowKit

/-- the slice (a, len) of slices of slices of ints reads as shop, in blocks of S -/
structure ShopAt (w : World) (S : Nat → Prop) (a : Option Addr) (len : Nat) (shop : List (List (List Int))) : Prop where
  lenEq : shop.length = len
  small : len ≤ 9223372036854775807
  cells : 0 < len → ∃ b off, a = some ⟨b, off, none⟩ ∧ S b ∧ ∀ i job, shop[i]? = some job → ∃ a' l c, w.cell? ⟨b, off + i, none⟩ = some (.slice a' l c) ∧ l ≤ c ∧ RowsAt w S a' l job

theorem ShopAt.get {w : World} {S : Nat → Prop} {a : Option Addr} {len : Nat} {shop : List (List (List Int))} (h : ShopAt w S a len shop) {k : Nat} (hk : k < len) :
    ∃ b off job a' l c, a = some ⟨b, off, none⟩ ∧ shop[k]? = some job ∧ w.cell? ⟨b, off + k, none⟩ = some (.slice a' l c) ∧ l ≤ c ∧ RowsAt w S a' l job := by
  obtain ⟨b, off, ha, _, hc⟩ := h.cells (by omega)
  have hl := h.lenEq
  have hx : shop[k]? = some shop[k] := List.getElem?_eq_getElem (by omega)
  obtain ⟨a', l, c, h1, h2, h3⟩ := hc _ _ hx
  exact ⟨b, off, _, a', l, c, ha, hx, h1, h2, h3⟩
theorem ShopAt.to {w w' : World} {S S' : Nat → Prop} {a : Option Addr} {len : Nat} {shop : List (List (List Int))} (h : ShopAt w S a len shop)
    (hg : ∀ b, S b → S' b ∧ w'.heap[b]? = w.heap[b]?) : ShopAt w' S' a len shop := by
  refine ⟨h.lenEq, h.small, fun hl => ?_⟩
  obtain ⟨b, off, ha, hs, hc⟩ := h.cells hl
  refine ⟨b, off, ha, (hg b hs).1, fun i r hr => ?_⟩
  obtain ⟨a', l, c, h1, h2, h3⟩ := hc i r hr
  exact ⟨a', l, c, by rw [World.cell?_of_block (w := w) (hg b hs).2]; exact h1, h2, h3.to hg⟩
theorem ShopAt.below {w w' : World} {n : Nat} {a : Option Addr} {len : Nat} {shop : List (List (List Int))} (h : ShopAt w (· < n) a len shop) (hb : Below n w w') : ShopAt w' (· < n) a len shop :=
  h.to fun b hb' => ⟨hb', hb.block b hb'⟩
theorem ShopAt.mem {w : World} {S : Nat → Prop} {b off len : Nat} {shop : List (List (List Int))} (h : ShopAt w S (some ⟨b, off, none⟩) len shop) (h0 : 0 < len) : S b := by
  obtain ⟨b', off', e, hs, _⟩ := h.cells h0
  cases e
  exact hs
theorem ShopAt.take {w : World} {S : Nat → Prop} {a : Option Addr} {len : Nat} {shop : List (List (List Int))} (h : ShopAt w S a len shop) (k : Nat) (hk : k ≤ len) : ShopAt w S a k (shop.take k) := by
  have hl := h.lenEq
  have hs := h.small
  refine ⟨by simp; omega, by omega, fun h0 => ?_⟩
  obtain ⟨b, off, ha, hs, hc⟩ := h.cells (by omega)
  refine ⟨b, off, ha, hs, fun i r hr => hc i r ?_⟩
  rw [List.getElem?_take] at hr
  split at hr
  · exact hr
  · cases hr
theorem Drew.shop {w wr : World} {S : Nat → Prop} {a : Option Addr} {len : Nat} {shop : List (List (List Int))} (h : ShopAt w S a len shop) (d : Drew w wr) : ShopAt wr S a len shop := by
  obtain ⟨q, rfl⟩ := d
  exact h.to (fun b hb => ⟨hb, rfl⟩)

-- shops
def stepB (r : List Int) : Bool := r.length == 2 && (inB 0 2 (r.getD 0 0) && inB 1 9 (r.getD 1 0))
def machsOf (job : List (List Int)) : List Int := job.map (fun r => r.getD 0 0)
def sjobB (job : List (List Int)) : Bool := job.all stepB && decide (machsOf job).Nodup
def shopM (shop : List (List (List Int))) : Bool := shop.all sjobB && decide (shop.length ≤ 3)
theorem shop_false {shop : List (List (List Int))} {k : Nat} {job : List (List Int)} (h : shop[k]? = some job) (hr : sjobB job = false) : shopM shop = false := by
  unfold shopM
  rw [List.all_eq_false.2 ⟨job, List.mem_of_getElem? h, by rw [hr]; simp⟩]; rfl
theorem sjob_step {job : List (List Int)} {k : Nat} {r : List Int} (h : job[k]? = some r) (hr : stepB r = false) : sjobB job = false := by
  unfold sjobB
  rw [List.all_eq_false.2 ⟨r, List.mem_of_getElem? h, by rw [hr]; simp⟩]; rfl
theorem sjob_twice {job : List (List Int)} {k : Nat} {r : List Int} (h : job[k]? = some r) (hr : r.getD 0 0 ∈ machsOf (job.take k)) : sjobB job = false := by
  unfold sjobB
  rw [decide_eq_false, Bool.and_false]
  intro hn
  have h2 : (machsOf (job.take (k + 1))).Nodup := hn.sublist ((List.take_sublist _ _).map _)
  rw [take_get h] at h2
  simp only [machsOf, List.map_append, List.map_cons, List.map_nil] at h2
  exact (List.nodup_append.1 h2).2.2 _ hr _ (by simp) rfl
/-- the machine and the time of a step -/
def smach (shop : List (List (List Int))) (j k : Nat) : Nat := (((shop.getD j []).getD k []).getD 0 0).toNat
def stime (shop : List (List (List Int))) (j k : Nat) : Int := ((shop.getD j []).getD k []).getD 1 0
def slen (shop : List (List (List Int))) (j : Nat) : Nat := (shop.getD j []).length
theorem shop_get {shop : List (List (List Int))} (h : shopM shop = true) : shop.length ≤ 3 ∧ ∀ job ∈ shop, job.length ≤ 3 ∧ (machsOf job).Nodup ∧ ∀ r ∈ job, r.length = 2 ∧ (0 ≤ r.getD 0 0 ∧ r.getD 0 0 ≤ 2) ∧ (1 ≤ r.getD 1 0 ∧ r.getD 1 0 ≤ 9) := by
  simp only [shopM, Bool.and_eq_true, decide_eq_true_eq, List.all_eq_true] at h
  refine ⟨h.2, fun job hj => ?_⟩
  have h1 := h.1 job hj
  simp only [sjobB, Bool.and_eq_true, decide_eq_true_eq, List.all_eq_true] at h1
  have h2 : ∀ r ∈ job, r.length = 2 ∧ (0 ≤ r.getD 0 0 ∧ r.getD 0 0 ≤ 2) ∧ (1 ≤ r.getD 1 0 ∧ r.getD 1 0 ≤ 9) := fun r hr => by
    have := h1.1 r hr
    simp only [stepB, Bool.and_eq_true, beq_iff_eq] at this
    exact ⟨this.1, by simpa [inB] using this.2.1, by simpa [inB] using this.2.2⟩
  refine ⟨?_, h1.2, h2⟩
  have hsub : machsOf job ⊆ [0, 1, 2] := fun x hx => by
    obtain ⟨r, hr, rfl⟩ := List.mem_map.1 hx
    have := (h2 r hr).2.1
    simp only [List.mem_cons, List.not_mem_nil, or_false]
    omega
  have := h1.2.length_le_of_subset hsub
  simpa [machsOf] using this
theorem smach_lt {shop : List (List (List Int))} (h : shopM shop = true) (j k : Nat) : smach shop j k < 3 := by
  unfold smach
  rcases Nat.lt_or_ge j shop.length with hj | hj
  · rw [List.getD_eq_getElem?_getD (l := shop), List.getElem?_eq_getElem hj]
    rcases Nat.lt_or_ge k shop[j].length with hk | hk
    · have := ((shop_get h).2 shop[j] (List.getElem_mem hj)).2.2 shop[j][k] (List.getElem_mem hk)
      rw [Option.getD_some, List.getD_eq_getElem?_getD (l := shop[j]), List.getElem?_eq_getElem hk, Option.getD_some]
      omega
    · rw [Option.getD_some, List.getD_eq_getElem?_getD (l := shop[j]), List.getElem?_eq_none hk]; simp
  · rw [List.getD_eq_getElem?_getD (l := shop), List.getElem?_eq_none hj]; simp
theorem stime_bd {shop : List (List (List Int))} (h : shopM shop = true) (j k : Nat) : 0 ≤ stime shop j k ∧ stime shop j k ≤ 9 := by
  unfold stime
  rcases Nat.lt_or_ge j shop.length with hj | hj
  · rw [List.getD_eq_getElem?_getD (l := shop), List.getElem?_eq_getElem hj]
    rcases Nat.lt_or_ge k shop[j].length with hk | hk
    · have := ((shop_get h).2 shop[j] (List.getElem_mem hj)).2.2 shop[j][k] (List.getElem_mem hk)
      rw [Option.getD_some, List.getD_eq_getElem?_getD (l := shop[j]), List.getElem?_eq_getElem hk, Option.getD_some]
      omega
    · rw [Option.getD_some, List.getD_eq_getElem?_getD (l := shop[j]), List.getElem?_eq_none hk]; simp
  · rw [List.getD_eq_getElem?_getD (l := shop), List.getElem?_eq_none hj]; simp
theorem slen_le {shop : List (List (List Int))} (h : shopM shop = true) (j : Nat) : slen shop j ≤ 3 := by
  unfold slen
  rcases Nat.lt_or_ge j shop.length with hj | hj
  · rw [List.getD_eq_getElem?_getD (l := shop), List.getElem?_eq_getElem hj]
    exact ((shop_get h).2 shop[j] (List.getElem_mem hj)).1
  · rw [List.getD_eq_getElem?_getD (l := shop), List.getElem?_eq_none hj]; simp
/-- where a step stands -/
theorem step_at {w : World} {S : Nat → Prop} {a : Option Addr} {len : Nat} {shop : List (List (List Int))} (h : ShopAt w S a len shop) (hv : shopM shop = true) {j k : Nat} (hj : j < len) (hk : k < slen shop j) :
    ∃ (b off b1 off1 c1 b2 off2 c2 : Nat), a = some ⟨b, off, none⟩ ∧ w.cell? ⟨b, off + j, none⟩ = some (.slice (some ⟨b1, off1, none⟩) (slen shop j) c1) ∧ slen shop j ≤ c1 ∧ w.cell? ⟨b1, off1 + k, none⟩ = some (.slice (some ⟨b2, off2, none⟩) 2 c2) ∧ 2 ≤ c2 ∧
      w.cell? ⟨b2, off2, none⟩ = some (.int .i64 (smach shop j k : Nat)) ∧ w.cell? ⟨b2, off2 + 1, none⟩ = some (.int .i64 (stime shop j k)) := by
  obtain ⟨b, off, job, a', l, c1, rfl, hjob, hc1, hl1, hr⟩ := h.get hj
  have e1 : shop.getD j [] = job := by rw [List.getD_eq_getElem?_getD, hjob]; rfl
  unfold slen smach stime at *
  rw [e1] at hk ⊢
  have hl := hr.lenEq
  subst hl
  obtain ⟨b1, off1, r, a2, l2, c2, rfl, hrr, hc2, hl2, hi⟩ := hr.get hk
  have e2 : job.getD k [] = r := by rw [List.getD_eq_getElem?_getD, hrr]; rfl
  rw [e2]
  have hb := ((shop_get hv).2 job (List.mem_of_getElem? hjob)).2.2 r (List.mem_of_getElem? hrr)
  have hl22 : l2 = 2 := by rw [← hi.lenEq]; exact hb.1
  subst hl22
  obtain ⟨b2, off2, x, rfl, hx, hcx⟩ := hi.get (k := 0) (by omega)
  obtain ⟨b3, off3, y, e3, hy, hcy⟩ := hi.get (k := 1) (by omega)
  cases e3
  have ex : r.getD 0 0 = x := by rw [List.getD_eq_getElem?_getD, hx]; rfl
  have ey : r.getD 1 0 = y := by rw [List.getD_eq_getElem?_getD, hy]; rfl
  rw [ex, ey]
  rw [Nat.add_zero] at hcx
  exact ⟨b, off, b1, off1, c1, b2, off2, c2, rfl, hc1, hl1, hc2, hl2, by rw [Int.toNat_of_nonneg (by rw [← ex]; exact hb.2.1.1)]; exact hcx, hcy⟩
end Go.Proofs.Ythmifadnfaajbac
