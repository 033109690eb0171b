import Derived.Test.YtjcbpnffmebihaaGreatDoorA7
import Derived.Test.YtjcbpnffmebihaaGreatDoorRows
import Derived.WalkKit
import Derived.ProofKit
import Derived.WalkSpells
import Derived.WalkLawsBesides
import Derived.Lib.Hide
import Derived.LoopTactic
import Derived.Outline
import Derived.RangeFuncWrites
import Derived.RangeFuncLeaves
import Derived.RangeFuncCalls
import Derived.RangeFuncNested
import Derived.RangeFuncBound
set_option linter.unusedVariables false
set_option linter.unusedSimpArgs false
namespace Go.Proofs.YtjcbpnffmebihaaGreatDoor
open Go.RowKit Go.WideShapes

theorem Tryz.infoIntO : (Tryz.prog.info? 3).map (fun i => (i.zero, i.size, i.bytes)) = some (some (.int .i64 0), 1, 8) := by kernel_rfl
/-- a new slice of these ints -/
def NewInts (w : World) (xs : List Int) (e : Ending) (w' : World) : Prop := ∃ (a : Option Addr) (len cap : Nat), e = .returned (.slice a len cap) ∧ IntsAt w' (fun b => w.heap.size ≤ b ∧ b < w'.heap.size) a len xs ∧ len ≤ cap ∧ Below w.heap.size w w'
theorem newInts_nil (w : World) : NewInts w [] (.returned (.slice none 0 0)) w :=
  ⟨none, 0, 0, rfl, ⟨rfl, Nat.zero_le _, fun h => absurd h (by omega)⟩, Nat.le_refl _, Below.refl _ _⟩
theorem newInts_own {w wr : World} {k cp : Nat} {ax : Option Addr} {xs : List Int} (h : wr.ownsRow w.heap.size 3 1 (.slice ax k cp) k (xs.map (.int .i64))) (hb : Below w.heap.size w wr) (hk : k ≤ 9223372036854775807) :
    NewInts w xs (.returned (.slice ax k cp)) wr := by
  obtain ⟨ay, cy, hve, hcc, hints⟩ := own_ints h hk
  simp only [Value.slice.injEq] at hve
  obtain ⟨rfl, _, rfl⟩ := hve
  exact ⟨_, _, _, rfl, hints, hcc, hb⟩
/-- a new slice of these ints, that is the call's own -/
def NewOwn (w : World) (xs : List Int) (e : Ending) (w' : World) : Prop := ∃ (a : Option Addr) (len cap : Nat), e = .returned (.slice a len cap) ∧ len ≤ 9223372036854775807 ∧
  w'.ownsRow w.heap.size 3 1 (.slice a len cap) len (xs.map (.int .i64)) ∧ Below w.heap.size w w'
theorem NewOwn.ints {w w' : World} {xs : List Int} {e : Ending} (h : NewOwn w xs e w') : NewInts w xs e w' := by
  obtain ⟨a, len, cap, rfl, hs, h1, h2⟩ := h
  exact newInts_own h1 h2 hs
theorem newOwn_alloc {w : World} {xs : List Int} {len : Nat} (hl : xs.length = len) (hs : len ≤ 1048576) :
    NewOwn w xs (.returned (.slice (some ⟨w.heap.size, 0, none⟩) len len)) (w.alloc (.cells (cellsOf xs) 3)) :=
  ⟨_, _, _, rfl, by omega, ⟨by simp [hl], .inr ⟨w.heap.size, len, cellsOf xs, rfl, Nat.le_refl _, heap_alloc_new w _, Nat.le_refl _, by unfold maxLen; omega, by simp [cellsOf, hl], by simp [cellsOf]; exact List.take_of_length_le (by simp [hl])⟩⟩, (Below.refl _ _).alloc (Nat.le_refl _) _⟩
theorem own_drewN {w : World} {B e s n : Nat} {v : Value} {xs : List Value} (h : w.ownsRow B e s v n xs) (q : Nat) : (w.drewN q).ownsRow B e s v n xs :=
  h.kept (grownBy_drewN w q none) (by cases v.ownBlock <;> simp)
/-- the call's own block of ints, told by their place -/
structure OwnF (w wr : World) (len : Nat) (f : Nat → Int) : Prop where
  own : wr.ownsRow w.heap.size 3 1 (.slice (some ⟨w.heap.size, 0, none⟩) len len) len ((tab f len).map (.int .i64))
  below : Below w.heap.size w wr
theorem OwnF.start (w : World) (len : Nat) (hs : len ≤ 1048576) : OwnF w (w.alloc (.cells (madeCells #[.int .i64 0] len) 3)) len (fun _ => 0) := by
  have e : madeCells #[.int .i64 0] len = cellsOf (tab (fun _ => 0) len) := (ArrIs.made len).tab
  rw [e]
  obtain ⟨a, l, c, e1, _, h1, h2⟩ := newOwn_alloc (w := w) (tab_length (fun _ => 0) len) hs
  simp only [Ending.returned.injEq, Value.slice.injEq] at e1
  obtain ⟨rfl, rfl, rfl⟩ := e1
  exact ⟨h1, h2⟩
theorem OwnF.congr {w wr : World} {len : Nat} {f g : Nat → Int} (h : OwnF w wr len f) (e : ∀ q, q < len → f q = g q) : OwnF w wr len g := ⟨by rw [← tab_congr e]; exact h.own, h.below⟩
theorem OwnF.cell {w wr : World} {len q : Nat} {f : Nat → Int} (h : OwnF w wr len f) (hq : q < len) : wr.cell? ⟨w.heap.size, q, none⟩ = some (.int .i64 (f q)) ∧ wr.frozen? ⟨w.heap.size, q, none⟩ = false := by
  refine ⟨?_, h.own.frozenAt q⟩
  rw [h.own.cellAt q (by simpa [tab_length] using hq), List.getElem?_map, tab_at f hq]; rfl
theorem OwnF.heap {w wr : World} {len : Nat} {f : Nat → Int} (h : OwnF w wr len f) : wr.heap[w.heap.size]? = some (.cells ((tab f len).map (.int .i64)).toArray 3 (0, 0)) := by
  rcases h.own.2 with ⟨e, _⟩ | ⟨k, cap, cur, e, _, hh, _, _, hz, ht⟩
  · cases e
  · simp only [Value.slice.injEq, Option.some.injEq, Addr.mk.injEq] at e
    obtain ⟨⟨rfl, _⟩, _, rfl⟩ := e
    rw [hh, ← ht]
    have : cur.toList.take (len * 1) = cur.toList := List.take_of_length_le (by simp at hz ⊢; omega)
    simp [List.take_of_length_le (show cur.toList.length ≤ len by simpa using Nat.le_of_eq hz)]
theorem OwnF.drew {w wr : World} {len : Nat} {f : Nat → Int} (h : OwnF w wr len f) (n : Nat) : OwnF w (wr.drewN n) len f :=
  ⟨h.own.kept (grownBy_drewN wr n none) (by simp [Value.ownBlock]), h.below.trans (Drew.below (w := wr) (wr := wr.drewN n) ⟨n, rfl⟩ _)⟩
theorem tab_set (f : Nat → Int) (len k : Nat) (v : Int) : (tab f len).set k v = tab (fun q => if q = k then v else f q) len := by
  apply List.ext_getElem?
  intro i
  rw [List.getElem?_set]
  by_cases hi : i < len
  · by_cases e : k = i
    · subst e; rw [if_pos rfl, if_pos (by rw [tab_length]; exact hi), tab_at _ hi, if_pos rfl]
    · rw [if_neg e, tab_at _ hi, tab_at _ hi, if_neg (fun e' => e e'.symm)]
  · have h1 : (tab f len)[i]? = none := List.getElem?_eq_none (by rw [tab_length]; omega)
    have h2 : (tab (fun q => if q = k then v else f q) len)[i]? = none := List.getElem?_eq_none (by rw [tab_length]; omega)
    rw [h2]
    by_cases e : k = i
    · subst e; rw [if_pos rfl, if_neg (by rw [tab_length]; exact hi)]
    · rw [if_neg e, h1]
theorem OwnF.put {w wr : World} {len : Nat} {f : Nat → Int} (h : OwnF w wr len f) (k : Nat) (v : Int) : OwnF w (wr.setCell ⟨w.heap.size, k, none⟩ (.int .i64 v)) len (fun q => if q = k then v else f q) := by
  obtain ⟨h1, h2⟩ := h.own.stored k (.int .i64 v)
  refine ⟨?_, h.below.setCell (Nat.le_refl _) _⟩
  rw [← tab_set, List.map_set]; exact h1
theorem OwnF.done {w wr : World} {len : Nat} {f : Nat → Int} (h : OwnF w wr len f) (hs : len ≤ 1048576) : NewOwn w (tab f len) (.returned (.slice (some ⟨w.heap.size, 0, none⟩) len len)) wr :=
  ⟨_, _, _, rfl, by omega, h.own, h.below⟩
/-- a place of a row of ints that is the call's own -/
theorem own_place {w : World} {B n cap : Nat} {a : Option Addr} {xs : List Int} (h : w.ownsRow B 3 1 (.slice a n cap) n (xs.map (.int .i64))) {j : Nat} (hj : j < n) :
    ∃ g v, a = some ⟨g, 0, none⟩ ∧ B ≤ g ∧ w.cell? ⟨g, j, none⟩ = some v ∧ w.frozen? ⟨g, j, none⟩ = false := by
  have hl := h.1
  have h' := h
  rcases h'.2 with ⟨h1, h2⟩ | ⟨g, c, cur, h1, h2, _⟩
  · omega
  · simp only [Value.slice.injEq] at h1
    obtain ⟨rfl, _, rfl⟩ := h1
    refine ⟨g, (xs.map (Value.int .i64))[j]'(by omega), rfl, h2, ?_, h.frozenAt j⟩
    rw [h.cellAt j (by omega)]
    exact List.getElem?_eq_getElem _
end Go.Proofs.YtjcbpnffmebihaaGreatDoor
namespace Go.Proofs.YtjcbpnffmebihaaGreatDoor
open Go.RowKit

def validDaysM (xs : List Int) : Bool := decide (xs.length ≤ 8) && allIn 0 20 xs
theorem allIn_get {lo hi : Int} {xs : List Int} (h : allIn lo hi xs = true) {k : Nat} {x : Int} (hx : xs[k]? = some x) : lo ≤ x ∧ x ≤ hi := by
  have := List.all_eq_true.1 h x (List.mem_of_getElem? hx)
  simpa [inB] using this
theorem allIn_getD {lo hi : Int} {xs : List Int} (h : allIn lo hi xs = true) (h0 : lo ≤ 0) (h1 : 0 ≤ hi) (k : Nat) : lo ≤ xs.getD k 0 ∧ xs.getD k 0 ≤ hi := by
  rcases Nat.lt_or_ge k xs.length with h' | h'
  · exact allIn_get h (get_getD h')
  · rw [getD_past h']; omega
theorem validDays_len {xs : List Int} (h : validDaysM xs = true) : xs.length ≤ 8 := by simp [validDaysM] at h; exact h.1
theorem validDays_all {xs : List Int} (h : validDaysM xs = true) : allIn 0 20 xs = true := by simp [validDaysM] at h; exact h.2
theorem validDays_at {xs : List Int} (h : validDaysM xs = true) (k : Nat) : 0 ≤ xs.getD k 0 ∧ xs.getD k 0 ≤ 20 := allIn_getD (validDays_all h) (by omega) (by omega) k
/-- the sum of the first k -/
def sumN (xs : List Int) : Nat → Int
  | 0 => 0
  | k + 1 => sumN xs k + xs.getD k 0
theorem totalM_take (xs : List Int) (k : Nat) (hk : k ≤ xs.length) : totalM (xs.take k) = sumN xs k := by
  induction k with
  | zero => rfl
  | succ k ih => rw [take_get (get_getD (xs := xs) (k := k) (by omega)), totalM_snoc, ih (by omega), sumN]
theorem totalM_eq (xs : List Int) : totalM xs = sumN xs xs.length := by
  have := totalM_take xs xs.length (Nat.le_refl _)
  rwa [List.take_length] at this
theorem sumN_bd {xs : List Int} {B : Int} (h : ∀ k, 0 ≤ xs.getD k 0 ∧ xs.getD k 0 ≤ B) (k : Nat) : 0 ≤ sumN xs k ∧ sumN xs k ≤ B * (k : Int) := by
  induction k with
  | zero => simp [sumN]
  | succ k ih =>
    have := h k
    have e : B * ((k + 1 : Nat) : Int) = B * (k : Int) + B := by push_cast; rw [Int.mul_add, Int.mul_one]
    rw [sumN, e]; omega
/-- the sum of j numbers from place a on -/
theorem totalM_part (xs : List Int) (a j : Nat) (h : a + j ≤ xs.length) : totalM ((xs.drop a).take j) = sumN xs (a + j) - sumN xs a := by
  induction j with
  | zero => simp [totalM]
  | succ j ih =>
    have hx : (xs.drop a)[j]? = some (xs.getD (a + j) 0) := by rw [List.getElem?_drop]; exact get_getD (by omega)
    rw [take_get hx, totalM_snoc, ih (by omega), show a + (j + 1) = (a + j) + 1 by omega, sumN]; omega

end Go.Proofs.YtjcbpnffmebihaaGreatDoor
namespace Go.Proofs.YtjcbpnffmebihaaGreatDoor

-- nets of tokens: dead nets, and when workers begin (plain)
structure Gr where
  n : Nat
  m : Nat
  f : Nat → Nat
  t : Nat → Nat
  c : Nat → Nat
  tm : Nat → Int
structure Gr.Ok (g : Gr) : Prop where
  n4 : g.n ≤ 4
  m7 : g.m ≤ 7
  ways : ∀ k, k < g.m → g.f k < g.n ∧ g.t k < g.n ∧ g.c k ≤ 3
  times : ∀ v, 0 ≤ g.tm v ∧ g.tm v ≤ 9
/-- the greatest of base and of those that are told -/
def mxP (P : Nat → Bool) (h : Nat → Int) (base : Int) : Nat → Int
  | 0 => base
  | j + 1 => if P j = true then max (mxP P h base j) (h j) else mxP P h base j
def Gr.from (g : Gr) (r v k : Nat) : Bool := decide (g.t k = v ∧ g.c k ≤ r)
def Gr.stepB (g : Gr) (X : Nat → Nat → Int) (r v : Nat) : Int := mxP (g.from r v) (fun k => X (r - g.c k) (g.f k) + g.tm (g.f k)) 0 g.m
def Gr.bF (g : Gr) : Nat → Nat → Nat → Int
  | 0, _, _ => 0
  | q + 1, r, v => g.stepB (g.bF q) r v
def Gr.b (g : Gr) (r v : Nat) : Int := g.bF 200 r v
end Go.Proofs.YtjcbpnffmebihaaGreatDoor
namespace Go.Proofs.YtjcbpnffmebihaaGreatDoor
open Go.RowKit Go.WideShapes

/-- append of one int to a list of the call's own -/
theorem wpApp1 {ops : Array Oper} {rest : List Oper} {o : Oper} {a : Act} {Q : Exit → Act → World → Prop} {wo : World} (hgd : o.guard = none) (s x : Operand)
    (ho : o.op = .call { callee := .builtin .append, args := #[s, x], argTypes := #[35, 35] })
    (base k cp : Nat) (ax : Option Addr) (xs : List Int) (v : Int) (hs : a.eval s = .slice ax k cp)
    (hown : wo.ownsRow base 3 1 (.slice ax k cp) k (xs.map (.int .i64))) (hx : a.eval x = .slice (some ⟨wo.heap.size, 0, none⟩) 1 1)
    (hbase : base ≤ wo.heap.size) (hk : k ≤ 1048576)
    (h : ∀ (a6 : Option Addr) (c6 : Nat) (w' : World), w'.ownsRow base 3 1 (.slice a6 (k + 1) c6) (k + 1) (xs.map (.int .i64) ++ [.int .i64 v]) → k + 1 ≤ c6 → wo.grownBy w' (Value.slice ax k cp).ownBlock →
      wpList Tryz.prog ops Q rest (a.put o.dst (.slice a6 (k + 1) c6)) w') :
    wpList Tryz.prog ops Q (o :: rest) a (wo.alloc (.cells #[.int .i64 v] 3)) := by
  obtain ⟨i0, hi, hz0, hz1, hz2⟩ := info_parts Tryz.infoIntO
  refine wpList_append_own _ hgd s x 35 ho base 3 i0 (.int .i64 0) 1 8 Tryz.underlying35 hi hz0 hz1 hz2 rfl (by decide) _ k _ hs (hown.alloc _) ⟨wo.heap.size, 0, none⟩ 1 1 [.int .i64 v] hx rfl (one_new _ _ _) (one_cell_int _ _) (by unfold maxLen; omega) (by omega) (by simp; omega) ?_
  intro v' w6 hown6 hgrow _
  obtain ⟨a6, c6, rfl, hc⟩ := own_slice hown6
  exact h a6 c6 w6 hown6 hc (grown_comp (World.grownBy_alloc wo _ _) hgrow)
theorem own_block {w : World} {B e s n : Nat} {v : Value} {xs : List Value} (h : w.ownsRow B e s v n xs) : ∀ k, v.ownBlock = some k → B ≤ k := fun k e => (h.lt k e).1
theorem own_snoc {w : World} {B n : Nat} {u : Value} {xs : List Int} {x : Int} (h : w.ownsRow B 3 1 u n (xs.map (.int .i64) ++ [.int .i64 x])) : w.ownsRow B 3 1 u n ((xs ++ [x]).map (.int .i64)) := by
  rw [List.map_append]; exact h
end Go.Proofs.YtjcbpnffmebihaaGreatDoor
namespace Go.Proofs.YtjcbpnffmebihaaGreatDoor

/-- the days of a lot behind its first one, each times what is wanted on it -/
def hsum (xs : List Int) (i : Nat) : Nat → Int
  | 0 => 0
  | d + 1 => hsum xs i d + (d : Int) * xs.getD (i + d) 0
/-- what it costs to make d days at the day i -/
def runD (xs : List Int) (s h : Int) (i d : Nat) : Int := h * hsum xs i d + (if 0 < sumN xs (i + d) - sumN xs i then s else 0)
theorem sumN_mono {xs : List Int} (hx : ∀ k, 0 ≤ xs.getD k 0) (i d : Nat) : sumN xs i ≤ sumN xs (i + d) := by
  induction d with
  | zero => exact Int.le_refl _
  | succ d ih => have := hx (i + d); rw [← Nat.add_assoc, sumN]; omega
theorem sumN_le {xs : List Int} (hx : ∀ k, 0 ≤ xs.getD k 0) {i k : Nat} (h : i ≤ k) : sumN xs i ≤ sumN xs k := by
  have := sumN_mono hx i (k - i); rwa [show i + (k - i) = k by omega] at this
theorem hsum_nonneg {xs : List Int} (hx : ∀ k, 0 ≤ xs.getD k 0) (i d : Nat) : 0 ≤ hsum xs i d := by
  induction d with
  | zero => exact Int.le_refl _
  | succ d ih => have := Int.mul_nonneg (show (0 : Int) ≤ d by omega) (hx (i + d)); rw [hsum]; omega
theorem hsum_bd {xs : List Int} {B : Int} (hx : ∀ k, 0 ≤ xs.getD k 0 ∧ xs.getD k 0 ≤ B) (i d : Nat) (hd : d ≤ 8) : hsum xs i d ≤ 8 * B * d := by
  induction d with
  | zero => simp [hsum]
  | succ d ih =>
    have h1 := hx (i + d)
    have h2 : (d : Int) * xs.getD (i + d) 0 ≤ 8 * B := Int.mul_le_mul (by omega) h1.2 h1.1 (by omega)
    have := ih (by omega)
    rw [hsum]; push_cast; rw [Int.mul_add, Int.mul_one]; omega
theorem runD_nonneg {xs : List Int} {s h : Int} (hx : ∀ k, 0 ≤ xs.getD k 0) (hs : 0 ≤ s) (hh : 0 ≤ h) (i d : Nat) : 0 ≤ runD xs s h i d := by
  have := Int.mul_nonneg hh (hsum_nonneg hx i d)
  unfold runD; split <;> omega
theorem runD_bd {xs : List Int} {s h : Int} (hx : ∀ k, 0 ≤ xs.getD k 0 ∧ xs.getD k 0 ≤ 20) (hs : 0 ≤ s ∧ s ≤ 31) (hh : 0 ≤ h ∧ h ≤ 31) (i d : Nat) (hd : d ≤ 8) : 0 ≤ runD xs s h i d ∧ runD xs s h i d ≤ 40000 := by
  refine ⟨runD_nonneg (fun k => (hx k).1) hs.1 hh.1 i d, ?_⟩
  have h1 := hsum_bd hx i d hd
  have h0 := hsum_nonneg (fun k => (hx k).1) i d
  have h2 : h * hsum xs i d ≤ 31 * 1280 := Int.mul_le_mul hh.2 (by omega) h0 (by omega)
  unfold runD; split <;> omega
/-- the days from i on can be made in lots for c -/
inductive PC (xs : List Int) (s h : Int) : Nat → Int → Prop where
  | done : PC xs s h xs.length 0
  | lot (i d : Nat) (c : Int) (hd : i + (d + 1) ≤ xs.length) (hc : PC xs s h (i + (d + 1)) c) : PC xs s h i (runD xs s h i (d + 1) + c)
theorem PC.nonneg {xs : List Int} {s h : Int} (hx : ∀ k, 0 ≤ xs.getD k 0) (hs : 0 ≤ s) (hh : 0 ≤ h) {i : Nat} {c : Int} (p : PC xs s h i c) : 0 ≤ c := by
  induction p with
  | done => exact Int.le_refl _
  | lot i d c hd _ ih => have := runD_nonneg hx hs hh i (d + 1); omega
/-- the least of f 0 .. f m -/
def minTo (f : Nat → Int) : Nat → Int
  | 0 => f 0
  | m + 1 => min (minTo f m) (f (m + 1))
theorem minTo_le {f : Nat → Int} {m d : Nat} (h : d ≤ m) : minTo f m ≤ f d := by
  induction m with
  | zero => obtain rfl : d = 0 := by omega
            exact Int.le_refl _
  | succ m ih =>
    rw [minTo]
    by_cases e : d = m + 1
    · subst e; omega
    · have := ih (by omega); omega
theorem minTo_at (f : Nat → Int) (m : Nat) : ∃ d, d ≤ m ∧ minTo f m = f d := by
  induction m with
  | zero => exact ⟨0, Nat.le_refl _, rfl⟩
  | succ m ih =>
    obtain ⟨d, hd, e⟩ := ih
    rw [minTo]
    by_cases h : minTo f m ≤ f (m + 1)
    · exact ⟨d, by omega, by omega⟩
    · exact ⟨m + 1, Nat.le_refl _, by omega⟩
theorem minTo_congr {f g : Nat → Int} {m : Nat} (h : ∀ d, d ≤ m → f d = g d) : minTo f m = minTo g m := by
  induction m with
  | zero => exact h 0 (Nat.le_refl _)
  | succ m ih => rw [minTo, minTo, ih (fun d hd => h d (by omega)), h (m + 1) (Nat.le_refl _)]
def bestF (xs : List Int) (s h : Int) : Nat → Nat → Int
  | 0, _ => 0
  | m + 1, q => if q = m + 1 then minTo (fun d => runD xs s h (xs.length - (m + 1)) (d + 1) + bestF xs s h m (m - d)) m else bestF xs s h m q
/-- the least cost of the days from i on -/
def bst (xs : List Int) (s h : Int) (i : Nat) : Int := bestF xs s h (xs.length - i) (xs.length - i)
theorem bestF_low (xs : List Int) (s h : Int) (m : Nat) : ∀ q, q ≤ m → bestF xs s h m q = bestF xs s h q q := by
  induction m with
  | zero => intro q hq; obtain rfl : q = 0 := by omega
            rfl
  | succ m ih =>
    intro q hq
    by_cases e : q = m + 1
    · subst e; rfl
    · rw [bestF, if_neg e]; exact ih q (by omega)
theorem bst_end (xs : List Int) (s h : Int) : bst xs s h xs.length = 0 := by unfold bst; rw [Nat.sub_self]; rfl
theorem bst_rec {xs : List Int} {s h : Int} {i : Nat} (hi : i < xs.length) : bst xs s h i = minTo (fun d => runD xs s h i (d + 1) + bst xs s h (i + (d + 1))) (xs.length - 1 - i) := by
  obtain ⟨m, hm⟩ : ∃ m, xs.length - i = m + 1 := ⟨xs.length - i - 1, by omega⟩
  unfold bst
  rw [hm, bestF, if_pos rfl, show xs.length - 1 - i = m by omega]
  refine minTo_congr (fun d hd => ?_)
  rw [show xs.length - (m + 1) = i by omega, bestF_low xs s h m (m - d) (by omega), show xs.length - (i + (d + 1)) = m - d by omega]
def LeastC (xs : List Int) (s h : Int) (i : Nat) (b : Int) : Prop := PC xs s h i b ∧ ∀ c, PC xs s h i c → b ≤ c
theorem bst_least (xs : List Int) (s h : Int) : ∀ (m i : Nat), i + m = xs.length → LeastC xs s h i (bst xs s h i) := by
  intro m
  induction m using Nat.strongRecOn with
  | ind m ih =>
    intro i hi
    by_cases h0 : i = xs.length
    · subst h0
      rw [bst_end]
      refine ⟨PC.done, fun c hc => ?_⟩
      generalize hn : xs.length = n at hc
      cases hc with
      | done => exact Int.le_refl _
      | lot _ d c hd _ => omega
    · have hlt : i < xs.length := by omega
      have hsub : ∀ d, i + (d + 1) ≤ xs.length → LeastC xs s h (i + (d + 1)) (bst xs s h (i + (d + 1))) := fun d hd => ih (xs.length - (i + (d + 1))) (by omega) _ (by omega)
      rw [bst_rec hlt]
      refine ⟨?_, fun c hc => ?_⟩
      · obtain ⟨d, hd, e⟩ := minTo_at (fun d => runD xs s h i (d + 1) + bst xs s h (i + (d + 1))) (xs.length - 1 - i)
        rw [e]
        exact PC.lot i d _ (by omega) (hsub d (by omega)).1
      · cases hc with
        | done => omega
        | lot _ d c hd hc' =>
          have h1 := (hsub d hd).2 c hc'
          have h2 := minTo_le (f := fun d => runD xs s h i (d + 1) + bst xs s h (i + (d + 1))) (m := xs.length - 1 - i) (d := d) (by omega)
          omega
theorem bst_is {xs : List Int} {s h : Int} {i : Nat} (hi : i ≤ xs.length) : LeastC xs s h i (bst xs s h i) := bst_least xs s h (xs.length - i) i (by omega)
theorem bst_nonneg {xs : List Int} {s h : Int} (hx : ∀ k, 0 ≤ xs.getD k 0) (hs : 0 ≤ s) (hh : 0 ≤ h) {i : Nat} (hi : i ≤ xs.length) : 0 ≤ bst xs s h i := (bst_is hi).1.nonneg hx hs hh
theorem bst_bd {xs : List Int} {s h : Int} (hl : xs.length ≤ 8) (hx : ∀ k, 0 ≤ xs.getD k 0 ∧ xs.getD k 0 ≤ 20) (hs : 0 ≤ s ∧ s ≤ 31) (hh : 0 ≤ h ∧ h ≤ 31) {i : Nat} (hi : i ≤ xs.length) : 0 ≤ bst xs s h i ∧ bst xs s h i ≤ 40000 := by
  refine ⟨bst_nonneg (fun k => (hx k).1) hs.1 hh.1 hi, ?_⟩
  by_cases h0 : i = xs.length
  · subst h0; rw [bst_end]; omega
  · have h1 := (bst_is (s := s) (h := h) hi).2 _ (PC.lot i (xs.length - i - 1) 0 (by omega) (by rw [show i + (xs.length - i - 1 + 1) = xs.length by omega]; exact PC.done))
    have h2 := runD_bd hx hs hh i (xs.length - i - 1 + 1) (by omega)
    omega

-- plans
end Go.Proofs.YtjcbpnffmebihaaGreatDoor
namespace Go.Proofs.YtjcbpnffmebihaaGreatDoor
open Go.RowKit Go.WideShapes

/-- the days that are drawn -/
def DaysOk (xs : List Int) : Prop := xs.length ≤ 9 ∧ (∀ k, -1 ≤ xs.getD k 0) ∧ (∀ k, xs.getD k 0 ≤ if k = 0 then 21 else 12)
def DaysPost (w : World) (R p : Nat) (e : Ending) (w' : World) : Prop := ∃ (a : Option Addr) (len cap : Nat) (xs : List Int) (p' : Nat), e = .returned (.slice a len cap) ∧
  w'.ownsRow w.heap.size 3 1 (.slice a len cap) len (xs.map (.int .i64)) ∧ len ≤ cap ∧ len ≤ 9 ∧ DaysOk xs ∧ Rd w' R p' ∧ p' ≤ p + 100 ∧ w.grownBy w' (some R)
theorem DaysPost.mk {w w' : World} {R p p' : Nat} {a : Option Addr} {len cap : Nat} {xs : List Int} (h : w'.ownsRow w.heap.size 3 1 (.slice a len cap) len (xs.map (.int .i64))) (hl : len ≤ 9) (hd : DaysOk xs) (hr : Rd w' R p') (hp : p' ≤ p + 100) (hg : w.grownBy w' (some R)) :
    DaysPost w R p (.returned (.slice a len cap)) w' := by
  obtain ⟨a', cap', e, hc⟩ := own_slice h
  simp only [Value.slice.injEq] at e
  obtain ⟨rfl, _, rfl⟩ := e
  exact ⟨_, _, _, xs, p', rfl, h, hc, hl, hd, hr, hp, hg⟩
end Go.Proofs.YtjcbpnffmebihaaGreatDoor
namespace Go.Proofs.YtjcbpnffmebihaaGreatDoor
open Go.RowKit

theorem small8 {len : Nat} {xs : List Int} (hl : xs.length = len) (h : ¬ len ≤ 8) (b : Bool) : (decide (xs.length ≤ 8) && b) = false := by
  rw [decide_eq_false (by omega)]; rfl
theorem small8' {len : Nat} {xs : List Int} (hl : xs.length = len) (h : len ≤ 8) (b : Bool) : (decide (xs.length ≤ 8) && b) = b := by
  rw [decide_eq_true (by omega)]; rfl
theorem areDays_any (S : Nat → Prop) (a : Option Addr) (len cap : Nat) (xs : List Int) (lim : Int) (w : World) (h : IntsAt w S a len xs) :
    Calls Tryz.prog 119 #[.slice a len cap, .int .i64 lim] w fun e w' => e = .returned (.bool (decide (xs.length ≤ 8) && allIn 0 lim xs)) ∧ w = w' := by
  have HL := Lib.hid h.lenEq
  have hs := h.small
  by_cases h8 : len ≤ 8
  · go_enter Tryz.func119, Tryz.ntmps119
    go_wp2_with (go_at_call 105; refine (allUpTo_any _ _ _ _ xs lim _ h).mono ?_; rintro e w' ⟨rfl, rfl⟩)
    go_ret
    exact ⟨ret_bool (small8' HL.out h8 _).symm, rfl⟩
  · go_enter Tryz.func119, Tryz.ntmps119
    go_wp2
    go_ret
    exact ⟨ret_bool (small8 HL.out h8 _).symm, rfl⟩
theorem validDays_impl (S : Nat → Prop) (a : Option Addr) (len cap : Nat) (xs : List Int) (w : World) (h : IntsAt w S a len xs) :
    Calls Tryz.prog 91 #[.slice a len cap] w fun e w' => e = .returned (.bool (validDaysM xs)) ∧ w = w' := by
  go_enter Tryz.func91, Tryz.ntmps91
  go_wp2_with (go_at_call 119; refine (areDays_any _ _ _ _ xs 20 _ h).mono ?_; rintro e w' ⟨rfl, rfl⟩)
  go_ret
  exact ⟨rfl, rfl⟩
def wantsM (n : Int) (xs : List Int) : Bool := allIn 0 20 xs && decide ((xs.length : Int) = n)
theorem wantsM_false {n : Int} {xs : List Int} {k : Nat} {x : Int} (h : xs[k]? = some x) (hx : inB 0 20 x = false) : wantsM n xs = false := by rw [wantsM, allIn_false h hx]; rfl
theorem wantsM_of {n : Int} {len : Nat} {xs : List Int} (hl : xs.length = len) (ha : allIn 0 20 (xs.take len) = true) : wantsM n xs = ((len : Int) == n) := by
  rw [List.take_of_length_le (by omega)] at ha
  rw [wantsM, ha, hl]; simp; rfl
theorem wantsM_len (xs : List Int) : wantsM xs.length xs = allIn 0 20 xs := by simp [wantsM]
theorem validWants_any (S : Nat → Prop) (a : Option Addr) (len cap : Nat) (xs : List Int) (n : Int) (w : World) (h : IntsAt w S a len xs) :
    Calls Tryz.prog 77 #[.slice a len cap, .int .i64 n] w fun e w' => e = .returned (.bool (wantsM n xs)) ∧ w = w' := by
  have hs := h.small
  go_enter Tryz.func77, Tryz.ntmps77
  go_wp2
  go_loop [5] (fun i => ∃ k : Nat, k ≤ len ∧ i = .int .i64 k ∧ allIn 0 20 (xs.take k) = true) (fun i => len - (intOf i).toNat)
  case atStart => exact ⟨0, Nat.zero_le _, rfl, rfl⟩
  case round =>
    obtain ⟨k, hk, rfl, ha⟩ := hrel
    have HA := Lib.hid ha
    clear ha
    by_cases hlt : k < len
    · obtain ⟨b, off, x, rfl, hx, hc⟩ := h.get hlt
      have HX := Lib.hid hx
      clear hx
      cases hq : inB 0 20 x
      · go_wp2_with (go_at_call 54; refine (inRange_any _ _ _ _).mono ?_; rintro e w' ⟨rfl, rfl⟩)
        go_ret
        exact ⟨ret_bool (wantsM_false HX.out hq).symm, rfl⟩
      · go_wp2_with (go_at_call 54; refine (inRange_any _ _ _ _).mono ?_; rintro e w' ⟨rfl, rfl⟩)
        go_round
        case rel => exact ⟨k + 1, by omega, by go_num, allIn_step HX.out HA.out hq⟩
        case measure => simp [intOf]; omega
    · obtain rfl : k = len := by omega
      go_wp2
      go_ret
      exact ⟨ret_bool (wantsM_of h.lenEq HA.out).symm, rfl⟩
theorem validDays_spec0 (S : Nat → Prop) (a : Option Addr) (len cap : Nat) (xs : List Int) (w : World) (h : IntsAt w S a len xs) :
    Calls Tryz.prog 57 #[.slice a len cap] w fun e w' => e = .returned (.bool (validDaysM xs)) ∧ w = w' := by
  have HL := Lib.hid h.lenEq
  have hs := h.small
  have key : validDaysM xs = (wantsM len xs && decide ((len : Int) ≤ 8)) := by
    rw [← HL.out, wantsM_len, validDaysM, Bool.and_comm]; congr 1; simp; omega
  have KEY := Lib.hid key
  clear key
  cases hq : wantsM len xs
  · go_enter Tryz.func57, Tryz.ntmps57
    go_wp2_with (go_at_call 77; refine (validWants_any _ _ _ _ xs _ _ h).mono ?_; rintro e w' ⟨rfl, rfl⟩)
    go_ret
    exact ⟨ret_bool (by rw [KEY.out, hq]; rfl), rfl⟩
  · go_enter Tryz.func57, Tryz.ntmps57
    go_wp2_with (go_at_call 77; refine (validWants_any _ _ _ _ xs _ _ h).mono ?_; rintro e w' ⟨rfl, rfl⟩)
    go_ret
    exact ⟨ret_bool (by rw [KEY.out, hq]; simp), rfl⟩
end Go.Proofs.YtjcbpnffmebihaaGreatDoor
namespace Go.Proofs.YtjcbpnffmebihaaGreatDoor
open Go.RowKit Go.WideShapes

/-- where a net lies -/
structure NV where
  aT : Option Addr
  lT : Nat
  cT : Nat
  aW : Option Addr
  lW : Nat
  cW : Nat
def NV.v (d : NV) : Value := .agg #[.slice d.aT d.lT d.cT, .slice d.aW d.lW d.cW]
structure NetAt (w : World) (S : Nat → Prop) (d : NV) (ts : List Int) (rows : List (List Int)) : Prop where
  t : IntsAt w S d.aT d.lT ts
  r : RowsAt w S d.aW d.lW rows
  ct : d.lT ≤ d.cT
  cw : d.lW ≤ d.cW
theorem NetAt.to {w w' : World} {S S' : Nat → Prop} {d : NV} {ts : List Int} {rows : List (List Int)} (h : NetAt w S d ts rows) (hg : ∀ b, S b → S' b ∧ w'.heap[b]? = w.heap[b]?) : NetAt w' S' d ts rows :=
  ⟨h.t.to hg, h.r.to hg, h.ct, h.cw⟩
theorem NetAt.below {w w' : World} {n : Nat} {d : NV} {ts : List Int} {rows : List (List Int)} (h : NetAt w (· < n) d ts rows) (hb : Below n w w') : NetAt w' (· < n) d ts rows := ⟨h.t.below hb, h.r.below hb, h.ct, h.cw⟩
/-- block b holds the two slices of a net -/
def NetB (w : World) (b : Nat) (d : NV) : Prop := w.cell? ⟨b, 0, none⟩ = some (.slice d.aT d.lT d.cT) ∧ w.cell? ⟨b, 1, none⟩ = some (.slice d.aW d.lW d.cW)
theorem NetB.block {w w' : World} {b : Nat} {d : NV} (h : NetB w b d) (e : w'.heap[b]? = w.heap[b]?) : NetB w' b d :=
  ⟨by rw [World.cell?_of_block (w := w) e]; exact h.1, by rw [World.cell?_of_block (w := w) e]; exact h.2⟩
theorem NetB.lt {w : World} {b : Nat} {d : NV} (h : NetB w b d) : b < w.heap.size := World.block_lt_of_cell? w _ h.1
theorem NetB.below {w w' : World} {b n : Nat} {d : NV} (h : NetB w b d) (hb : Below n w w') (hn : b < n) : NetB w' b d := h.block (hb.block b hn)
/-- the answer, and what lay below lies as it lay -/
def valN (w : World) (v : Value) (e : Ending) (w' : World) : Prop := e = .returned v ∧ Below w.heap.size w w'
theorem below_drewN {w w' : World} {n : Nat} (h : Below n w w') (q : Nat) : Below n w (w'.drewN q) := h.trans (Drew.below ⟨q, rfl⟩ n)
theorem NetB.drewN {w : World} {b : Nat} {d : NV} (h : NetB w b d) (q : Nat) : NetB (w.drewN q) b d := h.block rfl
/-- a net in its box -/
structure NetOn (w : World) (b : Nat) (d : NV) (ts : List Int) (rows : List (List Int)) : Prop where
  box : NetB w b d
  at' : NetAt w (· < w.heap.size) d ts rows
end Go.Proofs.YtjcbpnffmebihaaGreatDoor
namespace Go.Proofs.YtjcbpnffmebihaaGreatDoor

-- paces that are kept (plain)
/-- what a way adds, at the pace up by down, times down -/
def Gr.w (g : Gr) (up down : Int) (k : Nat) : Int := down * g.tm (g.f k) - up * (g.c k : Int)
def Gr.Pot (g : Gr) (up down : Int) (p : Nat → Int) : Prop := ∀ k, k < g.m → p (g.f k) + g.w up down k ≤ p (g.t k)
def Gr.keeps (g : Gr) (up down : Int) : Prop := ∃ p, g.Pot up down p
def Gr.into (g : Gr) (v k : Nat) : Bool := decide (g.t k = v)
/-- the heaviest of all walks of at most so many ways to v -/
def Gr.D (g : Gr) (up down : Int) : Nat → Nat → Int
  | 0, _ => 0
  | i + 1, v => mxP (g.into v) (fun k => g.D up down i (g.f k) + g.w up down k) (g.D up down i v) g.m
section
variable {g : Gr} {up down : Int}
/-- rounds back to s, from v on, past those of P -/
inductive Gr.Back (g : Gr) (s : Nat) (ok : Nat → Prop) : List Nat → Nat → Int → Nat → Prop
  | close {P : List Nat} {k : Nat} : k < g.m → g.t k = s → Gr.Back g s ok P (g.f k) (g.tm (g.f k)) (g.c k)
  | step {P : List Nat} {k : Nat} {T : Int} {C : Nat} : k < g.m → g.t k ≠ s → ¬ g.t k ∈ P → ok (g.t k) → Gr.Back g s ok (g.t k :: P) (g.t k) T C → Gr.Back g s ok P (g.f k) (g.tm (g.f k) + T) (g.c k + C)
end
end Go.Proofs.YtjcbpnffmebihaaGreatDoor
namespace Go.Proofs.YtjcbpnffmebihaaGreatDoor
open Go.RowKit Go.Shelf Go.Deep

/-- a boxed row of ints of the call's own: its place g, its box x -/
structure BoxInv (w wr : World) (g x len cap : Nat) (f : Nat → Int) : Prop where
  low : w.heap.size ≤ g
  up : g < x
  box : wr.cell? ⟨x, 0, none⟩ = some (.slice (some ⟨g, 0, none⟩) len cap)
  cells : ∀ q, q < len → wr.cell? ⟨g, q, none⟩ = some (.int .i64 (f q)) ∧ wr.frozen? ⟨g, q, none⟩ = false
  below : Below w.heap.size w wr
theorem BoxInv.kept {w a b : World} {g x len cap : Nat} {f : Nat → Int} (h : BoxInv w a g x len cap f) {row : Option Nat} (hg : a.grownBy b row) (hr : ∀ r, row = some r → w.heap.size ≤ r ∧ ∃ o : Obj, a.heap[r]? = some o ∧ o.isCells = false) : BoxInv w b g x len cap f :=
  ⟨h.low, h.up, cell_kept h.box hg (fun r e => (hr r e).2), fun q hq => ⟨cell_kept (h.cells q hq).1 hg (fun r e => (hr r e).2), (frozen_kept (h.cells q hq).1 hg (fun r e => (hr r e).2)).trans (h.cells q hq).2⟩,
    h.below.grown hg h.below.size (fun k e => (hr k e).1)⟩
theorem BoxInv.alloc {w a : World} {g x len cap : Nat} {f : Nat → Int} (h : BoxInv w a g x len cap f) (o : Obj) : BoxInv w (a.alloc o) g x len cap f :=
  h.kept (World.grownBy_alloc a o none) (fun r e => by cases e)
theorem BoxInv.congr {w a : World} {g x len cap : Nat} {f f' : Nat → Int} (h : BoxInv w a g x len cap f) (e : ∀ q, q < len → f q = f' q) : BoxInv w a g x len cap f' :=
  ⟨h.low, h.up, h.box, fun q hq => by rw [← e q hq]; exact h.cells q hq, h.below⟩
theorem BoxInv.put {w a : World} {g x len cap : Nat} {f : Nat → Int} (h : BoxInv w a g x len cap f) {k : Nat} {v : Int} : BoxInv w (a.drew.setCell ⟨g, k, none⟩ (.int .i64 v)) g x len cap (fun q => if q = k then v else f q) := by
  refine ⟨h.low, h.up, ?_, fun q hq => ⟨?_, ?_⟩, h.below.drew.setCell h.low _⟩
  · have := h.up
    rw [World.cell?_setCell_other _ _ _ _ (by intro e; injection e; omega)]; exact h.box
  · by_cases e : q = k
    · subst e
      rw [if_pos rfl]
      exact World.cell?_setCell_same _ _ _ (h.cells q hq).1
    · rw [World.cell?_setCell_other _ _ _ _ (by intro e'; injection e'; omega), if_neg e]
      exact (h.cells q hq).1
  · rw [World.frozen?_setCell]; exact (h.cells q hq).2
end Go.Proofs.YtjcbpnffmebihaaGreatDoor
