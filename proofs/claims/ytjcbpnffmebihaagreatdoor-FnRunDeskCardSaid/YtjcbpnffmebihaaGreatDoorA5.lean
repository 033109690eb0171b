import Derived.Test.YtjcbpnffmebihaaGreatDoorA1
import Derived.Test.YtjcbpnffmebihaaGreatDoorA2
import Derived.Laws.AppendOwn
import Derived.WideShapes
import Derived.Test.YtjcbpnffmebihaaGreatDoorRows
import Derived.WalkKit
import Derived.LoopTactic
import Derived.Outline
import Derived.WalkSpells
import Derived.WalkLawsBesides
import Derived.ProofKit
import Derived.Lib.Hide
set_option linter.unusedVariables false
set_option linter.unusedSimpArgs false
namespace Go.Proofs.YtjcbpnffmebihaaGreatDoor
open Go.RowKit Go.WideShapes

theorem Rd.grown {w w' : World} {R p : Nat} {r : Option Nat} (h : Rd w R p) (hg : w.grownBy w' r) (hr : ∀ k, r = some k → R < k) : Rd w' R p := by
  have hlt := h.lt
  obtain ⟨a, n, cap, h1, h2, h3⟩ := h.code
  have hR : some R ≠ r := fun e => by have := hr R e.symm; omega
  refine ⟨hg.cell h.pos hR, ?_, a, n, cap, hg.cell h1 hR, h2, fun hn => ?_⟩
  · rw [World.frozen?_of_block (w := w) (hg.block R hlt hR)]; exact h.free
  · obtain ⟨b, off, ha, hb, hc⟩ := h3 hn
    refine ⟨b, off, ha, hb, fun i hi => ?_⟩
    obtain ⟨x, hx, hx'⟩ := hc i hi
    exact ⟨x, hx, hg.cell hx' (fun e => by have := hr b e.symm; omega)⟩
theorem Rd.alloc {w : World} {R p : Nat} (h : Rd w R p) (o : Obj) : Rd (w.alloc o) R p :=
  h.grown (World.grownBy_alloc w o none) (fun k e => by cases e)

theorem grown_comp {a b c : World} {r : Option Nat} (h : a.grownBy b r) (g : b.grownBy c r) : a.grownBy c r :=
  ⟨g.os.trans h.os, g.tape.trans h.tape, g.output.trans h.output, Nat.le_trans h.size g.size, fun k hk hne => by
    rw [g.block k (Nat.lt_of_lt_of_le hk h.size) hne, h.block k hk hne]⟩
theorem grown_refl (w : World) (r : Option Nat) : w.grownBy w r := ⟨rfl, rfl, rfl, Nat.le_refl _, fun _ _ _ => rfl⟩
/-- two rows of different kinds lie in different blocks -/
theorem own_ne {w : World} {B B' e e' s s' n m : Nat} {v u : Value} {xs ys : List Value} (h : w.ownsRow B e s v n xs) (g : w.ownsRow B' e' s' u m ys) (he : e ≠ e') :
    v.ownBlock = none ∨ v.ownBlock ≠ u.ownBlock := by
  rcases h.2 with ⟨rfl, _⟩ | ⟨k, cap, cur, rfl, _, hk, _⟩
  · exact Or.inl rfl
  · right
    rcases g.2 with ⟨rfl, _⟩ | ⟨k', cap', cur', rfl, _, hk', _⟩
    · simp [Value.ownBlock]
    · intro e0
      simp only [Value.ownBlock, Option.some.injEq] at e0
      subst e0
      rw [hk] at hk'
      simp only [Option.some.injEq, Obj.cells.injEq] at hk'
      exact he hk'.2.1

theorem own_base {w : World} {B B' e s n : Nat} {v : Value} {xs : List Value} (h : w.ownsRow B e s v n xs) (hb : B' ≤ B) : w.ownsRow B' e s v n xs := by
  refine ⟨h.1, ?_⟩
  rcases h.2 with h2 | ⟨k, cap, cur, h1, h2, h3⟩
  · exact Or.inl h2
  · exact Or.inr ⟨k, cap, cur, h1, Nat.le_trans hb h2, h3⟩
theorem ne_low {w : World} {B e s n R : Nat} {v : Value} {xs : List Value} (h : w.ownsRow B e s v n xs) (hR : R < B) : v.ownBlock = none ∨ v.ownBlock ≠ some R := by
  cases hv : v.ownBlock with
  | none => exact Or.inl rfl
  | some k => right; have := h.lt k hv; simp; omega

theorem own_slice {w : World} {B e s n : Nat} {v : Value} {xs : List Value} (h : w.ownsRow B e s v n xs) : ∃ a cap, v = .slice a n cap ∧ n ≤ cap := by
  rcases h.2 with ⟨rfl, rfl⟩ | ⟨k, cap, cur, h1, _, _, h3, _⟩
  · exact ⟨none, 0, rfl, Nat.le_refl _⟩
  · exact ⟨_, cap, h1, h3⟩
/-- u is an int slice of the call's own, in a block below M -/
def OwnInts (w : World) (B M : Nat) (u : Value) : Prop := ∃ (l : Nat) (xs : List Int), w.ownsRow B 3 1 u l (xs.map (.int .i64)) ∧ ∀ k, u.ownBlock = some k → k < M
/-- v is a slice of k such -/
def OwnRows (w : World) (B M : Nat) (v : Value) (k : Nat) : Prop := ∃ us : List Value, w.ownsRow B 35 1 v k us ∧ ∀ u ∈ us, OwnInts w B M u

theorem OwnInts.kept {w w' : World} {B M : Nat} {u : Value} {r : Option Nat} (h : OwnInts w B M u) (hg : w.grownBy w' r) (hr : ∀ k, r = some k → k < B ∨ M ≤ k) : OwnInts w' B M u := by
  obtain ⟨l, xs, h, hl⟩ := h
  refine ⟨l, xs, h.kept hg ?_, hl⟩
  cases hv : u.ownBlock with
  | none => exact Or.inl rfl
  | some k => right; intro e; have := h.lt k hv; have := hl k hv; have := hr k e.symm; omega
theorem OwnRows.kept {w w' : World} {B M k : Nat} {v : Value} {r : Option Nat} (h : OwnRows w B M v k) (hg : w.grownBy w' r) (hr : ∀ k, r = some k → k < B ∨ M ≤ k)
    (hv : v.ownBlock = none ∨ v.ownBlock ≠ r) : OwnRows w' B M v k := by
  obtain ⟨us, h, hu⟩ := h
  exact ⟨us, h.kept hg hv, fun u hu' => (hu u hu').kept hg hr⟩
theorem OwnRows.low {w w' : World} {B M k R : Nat} {v : Value} (h : OwnRows w B M v k) (hg : w.grownBy w' (some R)) (hR : R < B) : OwnRows w' B M v k := by
  refine h.kept hg (fun k e => by cases e; exact Or.inl hR) ?_
  obtain ⟨us, h, _⟩ := h
  exact ne_low h hR
theorem OwnRows.alloc {w : World} {B M k : Nat} {v : Value} (h : OwnRows w B M v k) (o : Obj) : OwnRows (w.alloc o) B M v k :=
  h.kept (World.grownBy_alloc w o none) (fun k e => by cases e) (by cases v.ownBlock <;> simp)
/-- an append to a row of ints that is newer than the rows -/
theorem OwnRows.ints {w w' : World} {B M k n : Nat} {v u : Value} {xs : List Value} (h : OwnRows w B M v k) (hu : w.ownsRow M 3 1 u n xs) (hg : w.grownBy w' u.ownBlock) : OwnRows w' B M v k := by
  refine h.kept hg (fun k e => Or.inr (hu.lt k e).1) ?_
  obtain ⟨us, h, _⟩ := h
  exact own_ne h hu (by decide)
/-- the row is done, and put to the rows -/
theorem OwnRows.push {w w' : World} {B M n k : Nat} {v v' u : Value} {xs : List Int} {us : List Value} (hu : w.ownsRow M 3 1 u n (xs.map (.int .i64))) (hM : B ≤ M)
    (hv : w.ownsRow B 35 1 v k us) (hus : ∀ u ∈ us, OwnInts w B M u) (hv' : w'.ownsRow B 35 1 v' (k + 1) (us ++ [u])) (hg : w.grownBy w' v.ownBlock) : OwnRows w' B w'.heap.size v' (k + 1) := by
  refine ⟨us ++ [u], hv', fun x hx => ?_⟩
  have key : ∀ (x : Value) (l : Nat) (ys : List Int), w.ownsRow B 3 1 x l (ys.map (.int .i64)) → OwnInts w' B w'.heap.size x := by
    intro x l ys h
    have h' := h.kept hg (own_ne h hv (by decide))
    exact ⟨l, ys, h', fun k hk => (h'.lt k hk).2⟩
  rcases List.mem_append.1 hx with hx | hx
  · obtain ⟨l, ys, h, _⟩ := hus x hx
    exact key x l ys h
  · simp only [List.mem_singleton] at hx
    subst hx
    exact key x n xs (own_base hu hM)
theorem OwnRows.slice {w : World} {B M k : Nat} {v : Value} (h : OwnRows w B M v k) : ∃ a cap, v = .slice a k cap ∧ k ≤ cap := by
  obtain ⟨us, h, _⟩ := h
  exact own_slice h
theorem OwnRows.nil {w w1 : World} {B M r : Nat} (hB : B = w.heap.size) (hg : (w.alloc (.cells #[] 35)).grownBy w1 (some r)) (hr : r < B) : OwnRows w1 B M (.slice (some ⟨B, 0, none⟩) 0 0) 0 := by
  subst hB
  have h0 := World.ownsRow_made (base := w.heap.size) (size := 1) (e := 35) w #[] 0 (Nat.le_refl _) (Nat.zero_le _) rfl
  refine ⟨[], (h0.kept hg (ne_low h0 hr)), fun u hu => by cases hu⟩
theorem OwnRows.up {w : World} {B M M' k : Nat} {v : Value} (h : OwnRows w B M v k) (hM : M ≤ M') : OwnRows w B M' v k := by
  obtain ⟨us, h, hu⟩ := h
  refine ⟨us, h, fun u hu' => ?_⟩
  obtain ⟨l, xs, h1, h2⟩ := hu u hu'
  exact ⟨l, xs, h1, fun k hk => Nat.lt_of_lt_of_le (h2 k hk) hM⟩

theorem OwnRows.store {w : World} {B M g k cap j l : Nat} {u : Value} {xs : List Int} (h : OwnRows w B M (.slice (some ⟨g, 0, none⟩) k cap) k) (hu : w.ownsRow B 3 1 u l (xs.map (.int .i64))) :
    OwnRows (w.setCell ⟨g, j, none⟩ u) B w.heap.size (.slice (some ⟨g, 0, none⟩) k cap) k ∧ w.grownBy (w.setCell ⟨g, j, none⟩ u) (some g) := by
  obtain ⟨us, hv, hus⟩ := h
  obtain ⟨h1, h2⟩ := hv.stored j u
  have hv0 := hv
  refine ⟨⟨us.set j u, h1, fun y hy => ?_⟩, h2⟩
  have key : ∀ (y : Value) (l : Nat) (ys : List Int), w.ownsRow B 3 1 y l (ys.map (.int .i64)) → OwnInts (w.setCell ⟨g, j, none⟩ u) B w.heap.size y := by
    intro y l ys h
    exact ⟨l, ys, h.kept h2 (own_ne h hv0 (by decide)), fun k hk => (h.lt k hk).2⟩
  rcases List.mem_or_eq_of_mem_set hy with hy | rfl
  · obtain ⟨l, ys, h, _⟩ := hus y hy
    exact key y l ys h
  · exact key _ l xs hu
theorem OwnRows.cell {w : World} {B M g k cap j : Nat} (h : OwnRows w B M (.slice (some ⟨g, 0, none⟩) k cap) k) (hj : j < k) : ∃ v, w.cell? ⟨g, j, none⟩ = some v ∧ w.frozen? ⟨g, j, none⟩ = false := by
  obtain ⟨us, hv, _⟩ := h
  have hl := hv.1
  refine ⟨us[j]'(by omega), ?_, hv.frozenAt j⟩
  rw [hv.cellAt j (by omega)]
  exact List.getElem?_eq_getElem _

theorem own_ints {w : World} {B l : Nat} {u : Value} {xs : List Int} (h : w.ownsRow B 3 1 u l (xs.map (.int .i64))) (hl : l ≤ 9223372036854775807) :
    ∃ a cap, u = .slice a l cap ∧ l ≤ cap ∧ IntsAt w (fun b => B ≤ b ∧ b < w.heap.size) a l xs := by
  have hlen : xs.length = l := by have := h.1; simpa using this
  have hlt := h.lt
  have hc := fun g hg => h.cells (g := g) hg
  rcases h.2 with ⟨rfl, rfl⟩ | ⟨g, cap, cur, rfl, _, _, hcap, _⟩
  · exact ⟨none, 0, rfl, Nat.le_refl _, hlen, hl, fun h0 => absurd h0 (by omega)⟩
  · refine ⟨some ⟨g, 0, none⟩, cap, rfl, hcap, hlen, hl, fun h0 => ⟨g, 0, rfl, hlt g rfl, fun i x hx => ?_⟩⟩
    have := hc g rfl i (.int .i64 x) (by rw [List.getElem?_map, hx]; rfl)
    rw [add_plain] at this
    exact this
theorem one_new (w : World) (x : Value) (t : TypeId) : ∀ (j : Nat) (u : Value), [x][j]? = some u → (w.alloc (.cells #[x] t)).cell? ((⟨w.heap.size, 0, none⟩ : Addr).add j) = some u := by
  intro j u h
  rw [add_plain, Nat.zero_add, World.cell?_alloc_new, ← Array.getElem?_toList]; exact h
theorem one_cell_int (k : IntKind) (x : Int) : ∀ u ∈ [Value.int k x], u.oneCell' = true := by simp [Value.oneCell']
theorem all_choose {α β : Type} {Q : α → β → Prop} : ∀ (us : List α), (∀ u ∈ us, ∃ r, Q u r) → ∃ rows : List β, rows.length = us.length ∧ ∀ (i : Nat) (r : β), rows[i]? = some r → ∃ u, us[i]? = some u ∧ Q u r := by
  intro us
  induction us with
  | nil => exact fun _ => ⟨[], rfl, fun i r h => by simp at h⟩
  | cons a l ih =>
    intro h
    obtain ⟨rows, h1, h2⟩ := ih (fun u hu => h u (List.mem_cons_of_mem _ hu))
    obtain ⟨r0, hr0⟩ := h a List.mem_cons_self
    refine ⟨r0 :: rows, by simp [h1], fun i r hr => ?_⟩
    cases i with
    | zero => simp at hr; subst hr; exact ⟨a, by simp, hr0⟩
    | succ i => simp at hr; obtain ⟨u, hu1, hu2⟩ := h2 i r hr; exact ⟨u, by simpa using hu1, hu2⟩
theorem OwnRows.rows {w : World} {B M k : Nat} {v : Value} (h : OwnRows w B M v k) (hk : k ≤ 9223372036854775807) :
    ∃ a cap rows, v = .slice a k cap ∧ k ≤ cap ∧ RowsAt w (fun b => B ≤ b ∧ b < w.heap.size) a k rows := by
  obtain ⟨us, h, hu⟩ := h
  have hlen : us.length = k := by have := h.1; simpa using this
  have hlt := h.lt
  have hc := fun g hg => h.cells (g := g) hg
  obtain ⟨rows, hr1, hr2⟩ := all_choose (Q := fun (u : Value) (r : List Int) => ∃ a' l c, u = .slice a' l c ∧ l ≤ c ∧ IntsAt w (fun b => B ≤ b ∧ b < w.heap.size) a' l r) us (fun u hu' => by
    obtain ⟨l, xs, h1, h2⟩ := hu u hu'
    have hl : l ≤ 9223372036854775807 := by
      rcases h1.2 with ⟨_, rfl⟩ | ⟨_, cap, _, _, _, _, hcap, hm, _⟩
      · omega
      · unfold maxLen at hm; omega
    obtain ⟨a, cap, h3, h4, h5⟩ := own_ints h1 hl
    exact ⟨xs, a, l, cap, h3, h4, h5⟩)
  rcases h.2 with ⟨rfl, rfl⟩ | ⟨g, cap, cur, rfl, _, _, hcap, _⟩
  · exact ⟨none, 0, rows, rfl, Nat.le_refl _, by omega, hk, fun h0 => absurd h0 (by omega)⟩
  · refine ⟨some ⟨g, 0, none⟩, cap, rows, rfl, hcap, by omega, hk, fun h0 => ⟨g, 0, rfl, hlt g rfl, fun i r hr => ?_⟩⟩
    obtain ⟨u, hu1, a', l, c, rfl, h4, h5⟩ := hr2 i r hr
    have := hc g rfl i _ hu1
    rw [add_plain] at this
    exact ⟨a', l, c, this, h4, h5⟩
end Go.Proofs.YtjcbpnffmebihaaGreatDoor
namespace Go.Proofs.YtjcbpnffmebihaaGreatDoor
open Go.RowKit Go.WideShapes

theorem toList_ne {a b : ByteArray} (h : a ≠ b) : (a.toList == b.toList) = false := by
  rw [beq_eq_false_iff_ne]
  intro e
  rw [ByteArray.toList_eq, ByteArray.toList_eq] at e
  exact h (ByteArray.ext (Array.ext' e))
theorem toList_nil {a : ByteArray} (h : a ≠ ByteArray.empty) : (a.toList == []) = false := by
  rw [beq_eq_false_iff_ne]
  intro e
  rw [ByteArray.toList_eq] at e
  exact h (ByteArray.ext (Array.ext' e))
theorem readB_none {s : ByteArray} (h : readFrom s 0 0 = -1) : readB s = -1 := by rw [readB, if_pos h]
theorem readB_empty : readB ByteArray.empty = -1 := by rw [readB]; split; rfl; rw [if_pos rfl]
theorem readB_other {s : ByteArray} {n : Int} (h : readFrom s 0 0 = n) (hn : numB n ≠ s) : readB s = -1 := by
  rw [readB, h]
  split
  · rfl
  · split
    · rfl
    · rfl
theorem readB_num {n : Int} {s : ByteArray} (h : readFrom s 0 0 = n) (h0 : 0 ≤ n) (hn : numB n = s) : readB s = n := by
  rw [readB, h, if_neg (by omega), if_neg ?_, if_pos hn]
  rintro rfl
  have := numB_pos n
  rw [hn] at this
  exact absurd this (by decide)
set_option maxRecDepth 100000 in
set_option maxHeartbeats 2000000 in
/-- the model's reading of a number -/
theorem readNumber_any (s : ByteArray) (w : World) (hs : s.size ≤ 1048576) :
    Calls Tryz.prog 39 #[.string s] w fun e w' => e = .returned (.int .i64 (readB s)) ∧ w' = w := by
  go_enter Tryz.func39, Tryz.ntmps39
  go_wp2
  go_loop [3, 4] (fun v i => ∃ k m : Nat, k ≤ s.size ∧ m ≤ 10009 ∧ i = .int .i64 k ∧ v = .int .i64 m ∧ readFrom s k m = readFrom s 0 0) (fun _ i => s.size - (intOf i).toNat)
  case atStart => exact ⟨0, 0, Nat.zero_le _, Nat.zero_le _, rfl, rfl, rfl⟩
  case round =>
    obtain ⟨k, m, hk, hm, rfl, rfl, hrd⟩ := hrel
    have HR := Lib.hid hrd
    clear hrd
    by_cases hlt : k < s.size
    · have hki : (k : Int) < (s.size : Int) := by omega
      by_cases hbad : (s[k].toNat : Int) < 48 ∨ 57 < (s[k].toNat : Int) ∨ 1000 < (m : Int)
      · have HE := Lib.hid (show readB s = -1 from readB_none (by rw [← HR.out, readFrom_bad hlt hbad]))
        have HD := Lib.hid hbad
        clear hbad
        obtain ⟨d, hd⟩ : ∃ d : Nat, d = s[k].toNat := ⟨_, rfl⟩
        rw [← hd] at HD
        rcases HD.out with h1 | h1
        · have h1' : (s[k].toNat : Int) < 48 := by rw [← hd]; exact h1
          clear hd HD h1
          go_wp2
          go_ret
          exact ⟨ret_int HE.out.symm, rfl⟩
        · by_cases h2 : (d : Int) < 48
          · have h1' : (s[k].toNat : Int) < 48 := by rw [← hd]; exact h2
            clear hd HD h1 h2
            go_wp2
            go_ret
            exact ⟨ret_int HE.out.symm, rfl⟩
          · have h2' : ¬ (s[k].toNat : Int) < 48 := by rw [← hd]; exact h2
            by_cases h3 : 57 < (d : Int)
            · have h3' : 57 < (s[k].toNat : Int) := by rw [← hd]; exact h3
              clear hd HD h1 h2 h3
              go_wp2
              go_ret
              exact ⟨ret_int HE.out.symm, rfl⟩
            · have h3' : ¬ 57 < (s[k].toNat : Int) := by rw [← hd]; exact h3
              have h4 : 1000 < (m : Int) := by omega
              clear hd HD h1 h2 h3
              go_wp2
              go_ret
              exact ⟨ret_int HE.out.symm, rfl⟩
      · have HE := Lib.hid (show readFrom s (k + 1) (10 * (m : Int) + ((s[k].toNat : Int) - 48)) = readFrom s 0 0 by rw [← HR.out, readFrom_go hlt hbad])
        have h1 : ¬ (s[k].toNat : Int) < 48 := by omega
        have h2 : ¬ 57 < (s[k].toNat : Int) := by omega
        have h3 : ¬ 1000 < (m : Int) := by omega
        have hw1 : IntKind.u8.wrap ((s[k].toNat : Int) - 48) = (s[k].toNat : Int) - 48 := IntWalk.u8_in _ (by omega)
        have hw2 : IntKind.i64.wrap ((s[k].toNat : Int) - 48) = (s[k].toNat : Int) - 48 := IntWalk.i64_in _ (by omega)
        have hw3 : IntKind.i64.wrap (10 * (m : Int)) = 10 * (m : Int) := IntWalk.i64_in _ (by omega)
        have hw4 : IntKind.i64.wrap (10 * (m : Int) + ((s[k].toNat : Int) - 48)) = 10 * (m : Int) + ((s[k].toNat : Int) - 48) := IntWalk.i64_in _ (by omega)
        obtain ⟨r, hr⟩ : ∃ r : Nat, (r : Int) = 10 * (m : Int) + ((s[k].toNat : Int) - 48) := ⟨(10 * (m : Int) + ((s[k].toNat : Int) - 48)).toNat, by omega⟩
        have HRR := Lib.hid hr
        have hrb : r ≤ 10009 := by omega
        clear hbad hr
        go_wp2
        go_round
        case rel => exact ⟨k + 1, r, by omega, hrb, by go_num, by rw [HRR.out], by rw [HRR.out]; exact HE.out⟩
        case measure => simp [intOf] <;> omega
    · have hki : ¬ (k : Int) < (s.size : Int) := by omega
      have hend := (readFrom_end (n := (m : Int)) hlt).symm.trans HR.out
      have HC := Lib.hid (number_any (m : Int) w (by omega) (by omega))
      by_cases he : s = ByteArray.empty
      · have HE := Lib.hid (show readB s = -1 by rw [he]; exact readB_empty)
        have hee : (s.toList == ByteArray.toList ⟨#[]⟩) = true := by rw [he]; exact beq_self_eq_true _
        have hee2 : (s.toList == []) = true := by rw [he, ByteArray.toList_eq]; rfl
        clear he hend
        go_wp2_with fail
        go_ret
        exact ⟨ret_int HE.out.symm, rfl⟩
      · have hee : (s.toList == ByteArray.toList ⟨#[]⟩) = false := toList_ne he
        have hee2 : (s.toList == []) = false := toList_nil he
        by_cases hn : numB (m : Int) = s
        · have HE := Lib.hid (readB_num hend.symm (by omega) hn)
          have hne : ((numB (m : Int)).toList == s.toList) = true := by rw [hn]; exact beq_self_eq_true _
          generalize numB (m : Int) = X at *
          clear hn hend he
          go_wp2_with fail
          refine HC.out.mono ?_
          rintro e w1 ⟨rfl, hw⟩
          subst hw
          go_wp2_with fail
          go_ret
          exact ⟨ret_int HE.out.symm, rfl⟩
        · have HE := Lib.hid (readB_other hend.symm hn)
          have hne : ((numB (m : Int)).toList == s.toList) = false := toList_ne hn
          generalize numB (m : Int) = X at *
          clear hn hend he
          go_wp2_with fail
          refine HC.out.mono ?_
          rintro e w1 ⟨rfl, hw⟩
          subst hw
          go_wp2_with fail
          go_ret
          exact ⟨ret_int HE.out.symm, rfl⟩
end Go.Proofs.YtjcbpnffmebihaaGreatDoor
