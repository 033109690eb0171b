import Derived.Test.YtiapaddmnbeheaaRows
import Derived.WalkKit
import Derived.ProofKit
import Derived.Lib.Hide
import Derived.Test.YtiapaddmnbeheaaLib
import Derived.Test.YtiapaddmnbeheaaGen
import Derived.Test.YtiapaddmnbeheaaOwn1
import Derived.Test.YtiapaddmnbeheaaApp
import Derived.Test.YtiapaddmnbeheaaBill
namespace Go.Proofs.Ytiapaddmnbeheaa
open Go.RowKit Go.WideShapes

/-- v is a slice of the call's own (from block B0 on), of rows of its own (from block B1 on) -/
def OwnRowsW (w : World) (B0 B1 : Nat) (v : Value) (k : Nat) (rows : List (List Int)) : Prop := ∃ us : List Value, w.ownsRow B0 23 1 v k us ∧ rows.length = k ∧
    ∀ (q : Nat) (u : Value), us[q]? = some u → ∃ (a : Option Addr) (l c : Nat) (r : List Int), rows[q]? = some r ∧ u = .slice a l c ∧ l ≤ c ∧ l ≤ 1048576 ∧ w.ownsRow B1 3 1 u l (r.map (.int .i64))
theorem OwnRowsW.kept {w w' : World} {B0 B1 k : Nat} {v : Value} {rows : List (List Int)} {row : Option Nat} (h : OwnRowsW w B0 B1 v k rows) (hg : w.grownBy w' row) (hv : v.ownBlock = none ∨ v.ownBlock ≠ row) (hr : ∀ b, row = some b → b < B1) : OwnRowsW w' B0 B1 v k rows := by
  obtain ⟨us, h1, h2, h3⟩ := h
  refine ⟨us, h1.kept hg hv, h2, fun q u hq => ?_⟩
  obtain ⟨a, l, c, r, e1, e2, e3, e4, e5⟩ := h3 q u hq
  refine ⟨a, l, c, r, e1, e2, e3, e4, e5.kept hg ?_⟩
  cases hb : u.ownBlock with
  | none => exact .inl rfl
  | some b => exact .inr fun e => by have := (e5.lt b hb).1; have := hr b e.symm; omega
/-- a row lies on when nothing that was there is written -/
theorem own_later {w w' : World} {B n s : Nat} {e : TypeId} {v : Value} {xs : List Value} (h : w.ownsRow B e s v n xs) (hb : Below w.heap.size w w') : w'.ownsRow B e s v n xs := by
  refine ⟨h.1, ?_⟩
  rcases h.2 with h1 | ⟨g, cap, cur, e1, h1, h2, h3⟩
  · exact .inl h1
  · exact .inr ⟨g, cap, cur, e1, h1, (hb.block g (Array.getElem?_eq_some_iff.1 h2).1).trans h2, h3⟩
theorem OwnRowsW.later {w w' : World} {B0 B1 k : Nat} {v : Value} {rows : List (List Int)} (h : OwnRowsW w B0 B1 v k rows) (hb : Below w.heap.size w w') : OwnRowsW w' B0 B1 v k rows := by
  obtain ⟨us, h1, h2, h3⟩ := h
  refine ⟨us, own_later h1 hb, h2, fun q u hq => ?_⟩
  obtain ⟨a, l, c, r, e1, e2, e3, e4, e5⟩ := h3 q u hq
  exact ⟨a, l, c, r, e1, e2, e3, e4, own_later e5 hb⟩
theorem OwnRowsW.alloc {w : World} {B0 B1 k : Nat} {v : Value} {rows : List (List Int)} (h : OwnRowsW w B0 B1 v k rows) (o : Obj) : OwnRowsW (w.alloc o) B0 B1 v k rows :=
  h.kept (World.grownBy_alloc w o none) (by cases v.ownBlock <;> simp) (fun b e => by cases e)
theorem OwnRowsW.drewN {w : World} {B0 B1 k : Nat} {v : Value} {rows : List (List Int)} (h : OwnRowsW w B0 B1 v k rows) (n : Nat) : OwnRowsW (w.drewN n) B0 B1 v k rows :=
  h.kept (grownBy_drewN w n none) (by cases v.ownBlock <;> simp) (fun b e => by cases e)
/-- a store into a block of ints that lies below the rows -/
theorem OwnRowsW.ints {w : World} {B0 B1 k g n cap j : Nat} {v : Value} {rows : List (List Int)} {xs : List Value} {B : Nat} (h : OwnRowsW w B0 B1 v k rows) (hi : w.ownsRow B 3 1 (.slice (some ⟨g, 0, none⟩) n cap) n xs) (hg : g < B1) (u : Value) : OwnRowsW (w.setCell ⟨g, j, none⟩ u) B0 B1 v k rows := by
  have hgr := (hi.stored j u).2
  refine h.kept hgr ?_ (fun b e => by cases e; exact hg)
  obtain ⟨us, h1, _⟩ := h
  exact own_ne h1 hi (by decide)
theorem OwnRowsW.at {w : World} {B0 B1 k j : Nat} {v : Value} {rows : List (List Int)} (h : OwnRowsW w B0 B1 v k rows) (hj : j < k) : ∃ (G cap : Nat) (a : Option Addr) (l c : Nat) (r : List Int), v = .slice (some ⟨G, 0, none⟩) k cap ∧ B0 ≤ G ∧ G < w.heap.size ∧ rows[j]? = some r ∧
    w.cell? ⟨G, j, none⟩ = some (.slice a l c) ∧ w.frozen? ⟨G, j, none⟩ = false ∧ l ≤ c ∧ l ≤ 1048576 ∧ w.ownsRow B1 3 1 (.slice a l c) l (r.map (.int .i64)) := by
  obtain ⟨us, h1, h2, h3⟩ := h
  have hul : us.length = k := by have := h1.1; simpa using this
  have hlt := h1.lt
  rcases h1.2 with ⟨e1, e2⟩ | ⟨g, cp, cur, e1, e2, _⟩
  · omega
  · subst e1
    have hu : us[j]? = some (us[j]'(by omega)) := List.getElem?_eq_getElem (by omega)
    obtain ⟨a, l, c, r, q1, q2, q3, q4, q5⟩ := h3 j _ hu
    rw [q2] at q5 hu
    exact ⟨g, cp, a, l, c, r, rfl, e2, (hlt g rfl).2, q1, by rw [h1.cellAt j (by omega)]; exact hu, h1.frozenAt j, q3, q4, q5⟩
/-- a row is set anew -/
theorem OwnRowsW.put {w : World} {B0 B1 G k cap j l c : Nat} {a : Option Addr} {rows : List (List Int)} {r : List Int} (h : OwnRowsW w B0 B1 (.slice (some ⟨G, 0, none⟩) k cap) k rows) (hj : j < k) (hu : w.ownsRow B1 3 1 (.slice a l c) l (r.map (.int .i64))) (hlc : l ≤ c) (hl : l ≤ 1048576) :
    OwnRowsW (w.setCell ⟨G, j, none⟩ (.slice a l c)) B0 B1 (.slice (some ⟨G, 0, none⟩) k cap) k (rows.set j r) := by
  obtain ⟨us, h1, h2, h3⟩ := h
  have hul : us.length = k := by have := h1.1; simpa using this
  obtain ⟨s1, s2⟩ := h1.stored j (.slice a l c)
  refine ⟨us.set j (.slice a l c), s1, by rw [List.length_set]; exact h2, fun q u hq => ?_⟩
  rw [List.getElem?_set] at hq
  by_cases e : j = q
  · subst e
    rw [if_pos rfl, if_pos (by omega)] at hq
    cases hq
    exact ⟨a, l, c, r, by rw [List.getElem?_set, if_pos rfl, if_pos (by omega)], rfl, hlc, hl, hu.kept s2 (own_ne hu h1 (by decide))⟩
  · rw [if_neg e] at hq
    obtain ⟨a', l', c', r', q1, q2, q3, q4, q5⟩ := h3 q u hq
    exact ⟨a', l', c', r', by rw [List.getElem?_set, if_neg e]; exact q1, q2, q3, q4, q5.kept s2 (own_ne q5 h1 (by decide))⟩
theorem OwnRowsW.push {w w' : World} {B0 B1 k l : Nat} {v v' : Value} {a : Option Addr} {c : Nat} {rows : List (List Int)} {r : List Int} {us : List Value} (hv : w.ownsRow B0 23 1 v k us) (hl : rows.length = k)
    (hus : ∀ (q : Nat) (u : Value), us[q]? = some u → ∃ (a : Option Addr) (l c : Nat) (r : List Int), rows[q]? = some r ∧ u = .slice a l c ∧ l ≤ c ∧ l ≤ 1048576 ∧ w.ownsRow B1 3 1 u l (r.map (.int .i64)))
    (hu : w.ownsRow B1 3 1 (.slice a l c) l (r.map (.int .i64))) (hlc : l ≤ c) (hl2 : l ≤ 1048576) (hv' : w'.ownsRow B0 23 1 v' (k + 1) (us ++ [.slice a l c])) (hg : w.grownBy w' v.ownBlock) : OwnRowsW w' B0 B1 v' (k + 1) (rows ++ [r]) := by
  have hul : us.length = k := by have := hv.1; simpa using this
  refine ⟨_, hv', by simp [hl], fun q u hq => ?_⟩
  rcases Nat.lt_or_ge q us.length with h | h
  · rw [List.getElem?_append_left h] at hq
    obtain ⟨a', l', c', r', h1, h2, h3, h4, h5⟩ := hus q u hq
    exact ⟨a', l', c', r', by rw [List.getElem?_append_left (by omega)]; exact h1, h2, h3, h4, h5.kept hg (own_ne h5 hv (by decide))⟩
  · rw [List.getElem?_append_right h] at hq
    have hq0 : q - us.length = 0 := by
      have := (List.getElem?_eq_some_iff.1 hq).1; simp at this; omega
    rw [hq0] at hq
    simp only [List.getElem?_cons_zero, Option.some.injEq] at hq
    subst hq
    exact ⟨a, l, c, r, by rw [List.getElem?_append_right (by omega), show q - rows.length = 0 by omega]; rfl, rfl, hlc, hl2, hu.kept hg (own_ne hu hv (by decide))⟩
theorem OwnRowsW.rows {w : World} {B0 B1 k : Nat} {a : Option Addr} {cap : Nat} {rows : List (List Int)} (h : OwnRowsW w B0 B1 (.slice a k cap) k rows) (hk : k ≤ 1048576) (hB : B0 ≤ B1) :
    RowsAt w (fun b => B0 ≤ b ∧ b < w.heap.size) a k rows := by
  obtain ⟨us, h1, h2, h3⟩ := h
  have hul : us.length = k := by have := h1.1; simpa using this
  refine ⟨h2, by omega, fun h0 => ?_⟩
  have hlt := h1.lt
  rcases h1.2 with ⟨e1, e2⟩ | ⟨g, cp, cur, e1, e2, _⟩
  · omega
  · injection e1 with e3 _ _
    subst e3
    refine ⟨g, 0, rfl, hlt g rfl, fun i r hr => ?_⟩
    have hi : i < us.length := by have := (List.getElem?_eq_some_iff.1 hr).1; omega
    have hu := List.getElem?_eq_getElem hi
    obtain ⟨a', l, c, r', hr', hue, hlc, hl, hown⟩ := h3 i us[i] hu
    rw [hr] at hr'
    injection hr' with hr'
    subst hr'
    rw [hue] at hown hu
    obtain ⟨a2, c2, e4, _, hints⟩ := own_ints hown (by omega)
    injection e4 with e5 _ _
    subst e5
    refine ⟨a', l, c, ?_, hlc, hints.to fun b hb => ⟨⟨by omega, hb.2⟩, rfl⟩⟩
    rw [Nat.zero_add, h1.cellAt i (by omega)]
    exact hu
end Go.Proofs.Ytiapaddmnbeheaa
