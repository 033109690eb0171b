import Derived.Test.YthmlgicjedhgfabRows
import Derived.WalkKit
import Derived.LoopTactic
import Derived.Outline
import Derived.WalkSpells
import Derived.WalkLawsBesides
import Derived.Deep.QuietTactic
import Derived.BigQuiet
import Derived.IntWalk
import Derived.Test.YthmlgicjedhgfabM0
import Derived.ProofKit
import Derived.Test.YthmlgicjedhgfabM1
import Derived.Lib.Hide
import Derived.Test.YthmlgicjedhgfabM2
import Derived.Test.YthmlgicjedhgfabM6
namespace Go.Proofs.Ythmlgicjedhgfab
open Go.RowKit

set_option maxRecDepth 100000 in
set_option maxHeartbeats 1000000 in
theorem pick_any (R p : Nat) (n : Int) (w : World) (h : Rd w R p) (hp : p ≤ 1099511627776) :
    Calls Try.prog 48 #[.pointer (some ⟨R, 0, none⟩), .int .i64 n] w fun e w' => ∃ k : Nat, e = .returned (.int .i64 k) ∧ (k : Int) < max n 1 ∧ Rd w' R (p + 1) ∧ w.grownBy w' (some R) := by
  have HR := Lib.hid h
  obtain ⟨h1, hf, a, m, cap, h0, hm, hb⟩ := h
  by_cases hn : n < 1
  · go_enter Try.func48, Try.ntmps48
    go_wp2
    go_ret
    exact ⟨0, rfl, by omega, HR.out.stored0⟩
  · by_cases hm0 : m = 0
    · subst hm0
      go_enter Try.func48, Try.ntmps48
      go_wp2
      go_ret
      exact ⟨0, rfl, by omega, HR.out.stored0⟩
    · obtain ⟨b, off, rfl, hbR, hby⟩ := hb (by omega)
      by_cases hlt : p < m
      · obtain ⟨x, hx, hc⟩ := hby p hlt
        have hc' : (w.setCell ⟨R, 1, none⟩ (.int .i64 ((p : Int) + 1))).cell? ⟨b, off + p, none⟩ = some (.int .u8 x) := by
          rw [World.cell?_setCell_other _ _ _ _ (by intro e; injection e; omega)]; exact hc
        clear hby hb
        go_enter Try.func48, Try.ntmps48
        go_wp2
        go_ret
        have e1 : 0 ≤ (x : Int) % n := Int.emod_nonneg _ (by omega)
        have e2 : (x : Int) % n < n := Int.emod_lt_of_pos _ (by omega)
        exact ⟨((x : Int) % n).toNat, ret_int (by omega), by omega, HR.out.stored0⟩
      · have hm1 : 1 ≤ m := by omega
        obtain ⟨x1, hx1, hc1⟩ := hby (p % m) (Nat.mod_lt _ (by omega))
        obtain ⟨x2, hx2, hc2⟩ := hby ((p * 7 + 3) % m) (Nat.mod_lt _ (by omega))
        have hd1 : (w.setCell ⟨R, 1, none⟩ (.int .i64 ((p : Int) + 1))).cell? ⟨b, off + p % m, none⟩ = some (.int .u8 x1) := by
          rw [World.cell?_setCell_other _ _ _ _ (by intro e; injection e; omega)]; exact hc1
        have hd2 : (w.setCell ⟨R, 1, none⟩ (.int .i64 ((p : Int) + 1))).cell? ⟨b, off + (p * 7 + 3) % m, none⟩ = some (.int .u8 x2) := by
          rw [World.cell?_setCell_other _ _ _ _ (by intro e; injection e; omega)]; exact hc2
        clear hc1 hc2 hby hb
        have b1 : p % m < m := Nat.mod_lt _ (by omega)
        have b2 : (p * 7 + 3) % m < m := Nat.mod_lt _ (by omega)
        have g1 : 0 ≤ ((p : Int) * 7 + 3) % (m : Int) := Int.emod_nonneg _ (by omega)
        have g2 : ((p : Int) * 7 + 3) % (m : Int) < (m : Int) := Int.emod_lt_of_pos _ (by omega)
        have g3 : 0 ≤ (p : Int) / (m : Int) := Int.ediv_nonneg (by omega) (by omega)
        have g4 : (p : Int) / (m : Int) ≤ p := Int.ediv_le_self _ (by omega)
        go_enter Try.func48, Try.ntmps48
        go_wp2
        go_quiet (fail)
        go_wp2
        go_ret
        obtain ⟨k, hk, hk'⟩ := mixed ((x1 : Int) * 131 + x2 * 1117 + p * 29 + (p : Int) / (m : Int) * 53) n (by omega) (by omega) hn
        exact ⟨k, ret_int hk, by omega, HR.out.stored _⟩

theorem one_any (S : Nat → Prop) (R p : Nat) (a : Option Addr) (len cap : Nat) (xs : List Int) (w : World) (h : Rd w R p) (hx : IntsAt w S a len xs) (hne : ∀ b, S b → b ≠ R ∧ b < w.heap.size) (hl : 1 ≤ len) (hp : p ≤ 1099511627776) :
    Calls Try.prog 47 #[.pointer (some ⟨R, 0, none⟩), .slice a len cap] w fun e w' => ∃ x, x ∈ xs ∧ e = .returned (.int .i64 x) ∧ Rd w' R (p + 1) ∧ w.grownBy w' (some R) := by
  have hs := hx.small
  go_enter Try.func47, Try.ntmps47
  go_wp2_with fail
  refine (pick_any R p (len : Int) w h hp).mono ?_
  rintro e w' ⟨k, rfl, hk, hr, hg⟩
  obtain ⟨b, off, x, rfl, hx1, hx2⟩ := (hx.to (S' := S) (w' := w') fun b hb => ⟨hb, hg.block b (hne b hb).2 (by have := (hne b hb).1; simpa using this)⟩).get (k := k) (by omega)
  have HX := Lib.hid hx1
  clear hx1
  have hk' : k < len := by omega
  go_wp2
  go_ret
  exact ⟨x, List.mem_of_getElem? HX.out, rfl, hr, hg⟩
end Go.Proofs.Ythmlgicjedhgfab
namespace Go.Proofs.Ythmlgicjedhgfab
open Go.RowKit Go.WideShapes

theorem Try.infoInt : (Try.prog.info? 3).map (fun i => (i.zero, i.size, i.bytes)) = some (some (.int .i64 0), 1, 8) := by kernel_rfl
theorem Try.infoInts : (Try.prog.info? 24).map (fun i => (i.zero, i.size, i.bytes)) = some (some (.slice none 0 0), 1, 24) := by kernel_rfl

theorem bill_n {n : Int} (h : n ∈ [4, 5, 3, 6, 2, 1, 0]) : ∃ m : Nat, n = (m : Int) ∧ m ≤ 6 := by
  simp at h
  exact ⟨n.toNat, by omega, by omega⟩

def BillPost (w : World) (R p : Nat) (e : Ending) (w' : World) : Prop := ∃ (a : Option Addr) (len cap : Nat) (rows : List (List Int)) (p' : Nat), e = .returned (.slice a len cap) ∧
      RowsAt w' (fun b => w.heap.size ≤ b ∧ b < w'.heap.size) a len rows ∧ len ≤ cap ∧ len ≤ 6 ∧ Rd w' R p' ∧ p' ≤ p + 1000 ∧ w.grownBy w' (some R)
theorem billPost_mk {w w' : World} {R p p' len cap M : Nat} {a : Option Addr} (h : OwnRows w' w.heap.size M (.slice a len cap) len) (hl : len ≤ cap) (h6 : len ≤ 6) (hr : Rd w' R p') (hp : p' ≤ p + 1000)
    (hg : w.grownBy w' (some R)) : BillPost w R p (.returned (.slice a len cap)) w' := by
  obtain ⟨a', cap', rows, hv, _, hrows⟩ := h.rows (by omega)
  simp only [Value.slice.injEq] at hv
  obtain ⟨rfl, _, rfl⟩ := hv
  exact ⟨_, _, _, rows, p', rfl, hrows, hl, h6, hr, hp, hg⟩

end Go.Proofs.Ythmlgicjedhgfab
namespace Go.Proofs.Ythmlgicjedhgfab
open Go.RowKit Go.WideShapes

/-- v is a slice of the call's own (from block B0 on), of rows of its own (from block B1 on) -/
def OwnRowsW (w : World) (B0 B1 : Nat) (v : Value) (k : Nat) (rows : List (List Int)) : Prop := ∃ us : List Value, w.ownsRow B0 24 1 v k us ∧ rows.length = k ∧
    ∀ (q : Nat) (u : Value), us[q]? = some u → ∃ (a : Option Addr) (l c : Nat) (r : List Int), rows[q]? = some r ∧ u = .slice a l c ∧ l ≤ c ∧ l ≤ 1048576 ∧ w.ownsRow B1 3 1 u l (r.map (.int .i64))
theorem OwnRowsW.kept {w w' : World} {B0 B1 k : Nat} {v : Value} {rows : List (List Int)} {row : Option Nat} (h : OwnRowsW w B0 B1 v k rows) (hg : w.grownBy w' row) (hv : v.ownBlock = none ∨ v.ownBlock ≠ row) (hr : ∀ b, row = some b → b < B1) : OwnRowsW w' B0 B1 v k rows := by
  obtain ⟨us, h1, h2, h3⟩ := h
  refine ⟨us, h1.kept hg hv, h2, fun q u hq => ?_⟩
  obtain ⟨a, l, c, r, e1, e2, e3, e4, e5⟩ := h3 q u hq
  refine ⟨a, l, c, r, e1, e2, e3, e4, e5.kept hg ?_⟩
  cases hb : u.ownBlock with
  | none => exact .inl rfl
  | some b => exact .inr fun e => by have := (e5.lt b hb).1; have := hr b e.symm; omega
/-- a row lies on when nothing that was there is written -/
theorem own_later {w w' : World} {B n s : Nat} {e : TypeId} {v : Value} {xs : List Value} (h : w.ownsRow B e s v n xs) (hb : Below w.heap.size w w') : w'.ownsRow B e s v n xs := by
  refine ⟨h.1, ?_⟩
  rcases h.2 with h1 | ⟨g, cap, cur, e1, h1, h2, h3⟩
  · exact .inl h1
  · exact .inr ⟨g, cap, cur, e1, h1, (hb.block g (Array.getElem?_eq_some_iff.1 h2).1).trans h2, h3⟩
theorem OwnRowsW.later {w w' : World} {B0 B1 k : Nat} {v : Value} {rows : List (List Int)} (h : OwnRowsW w B0 B1 v k rows) (hb : Below w.heap.size w w') : OwnRowsW w' B0 B1 v k rows := by
  obtain ⟨us, h1, h2, h3⟩ := h
  refine ⟨us, own_later h1 hb, h2, fun q u hq => ?_⟩
  obtain ⟨a, l, c, r, e1, e2, e3, e4, e5⟩ := h3 q u hq
  exact ⟨a, l, c, r, e1, e2, e3, e4, own_later e5 hb⟩
theorem OwnRowsW.alloc {w : World} {B0 B1 k : Nat} {v : Value} {rows : List (List Int)} (h : OwnRowsW w B0 B1 v k rows) (o : Obj) : OwnRowsW (w.alloc o) B0 B1 v k rows :=
  h.kept (World.grownBy_alloc w o none) (by cases v.ownBlock <;> simp) (fun b e => by cases e)
theorem OwnRowsW.drewN {w : World} {B0 B1 k : Nat} {v : Value} {rows : List (List Int)} (h : OwnRowsW w B0 B1 v k rows) (n : Nat) : OwnRowsW (w.drewN n) B0 B1 v k rows :=
  h.kept (grownBy_drewN w n none) (by cases v.ownBlock <;> simp) (fun b e => by cases e)
/-- a store into a block of ints that lies below the rows -/
theorem OwnRowsW.ints {w : World} {B0 B1 k g n cap j : Nat} {v : Value} {rows : List (List Int)} {xs : List Value} {B : Nat} (h : OwnRowsW w B0 B1 v k rows) (hi : w.ownsRow B 3 1 (.slice (some ⟨g, 0, none⟩) n cap) n xs) (hg : g < B1) (u : Value) : OwnRowsW (w.setCell ⟨g, j, none⟩ u) B0 B1 v k rows := by
  have hgr := (hi.stored j u).2
  refine h.kept hgr ?_ (fun b e => by cases e; exact hg)
  obtain ⟨us, h1, _⟩ := h
  exact own_ne h1 hi (by decide)
theorem OwnRowsW.at {w : World} {B0 B1 k j : Nat} {v : Value} {rows : List (List Int)} (h : OwnRowsW w B0 B1 v k rows) (hj : j < k) : ∃ (G cap : Nat) (a : Option Addr) (l c : Nat) (r : List Int), v = .slice (some ⟨G, 0, none⟩) k cap ∧ B0 ≤ G ∧ G < w.heap.size ∧ rows[j]? = some r ∧
    w.cell? ⟨G, j, none⟩ = some (.slice a l c) ∧ w.frozen? ⟨G, j, none⟩ = false ∧ l ≤ c ∧ l ≤ 1048576 ∧ w.ownsRow B1 3 1 (.slice a l c) l (r.map (.int .i64)) := by
  obtain ⟨us, h1, h2, h3⟩ := h
  have hul : us.length = k := by have := h1.1; simpa using this
  have hlt := h1.lt
  rcases h1.2 with ⟨e1, e2⟩ | ⟨g, cp, cur, e1, e2, _⟩
  · omega
  · subst e1
    have hu : us[j]? = some (us[j]'(by omega)) := List.getElem?_eq_getElem (by omega)
    obtain ⟨a, l, c, r, q1, q2, q3, q4, q5⟩ := h3 j _ hu
    rw [q2] at q5 hu
    exact ⟨g, cp, a, l, c, r, rfl, e2, (hlt g rfl).2, q1, by rw [h1.cellAt j (by omega)]; exact hu, h1.frozenAt j, q3, q4, q5⟩
/-- a row is set anew -/
theorem OwnRowsW.put {w : World} {B0 B1 G k cap j l c : Nat} {a : Option Addr} {rows : List (List Int)} {r : List Int} (h : OwnRowsW w B0 B1 (.slice (some ⟨G, 0, none⟩) k cap) k rows) (hj : j < k) (hu : w.ownsRow B1 3 1 (.slice a l c) l (r.map (.int .i64))) (hlc : l ≤ c) (hl : l ≤ 1048576) :
    OwnRowsW (w.setCell ⟨G, j, none⟩ (.slice a l c)) B0 B1 (.slice (some ⟨G, 0, none⟩) k cap) k (rows.set j r) := by
  obtain ⟨us, h1, h2, h3⟩ := h
  have hul : us.length = k := by have := h1.1; simpa using this
  obtain ⟨s1, s2⟩ := h1.stored j (.slice a l c)
  refine ⟨us.set j (.slice a l c), s1, by rw [List.length_set]; exact h2, fun q u hq => ?_⟩
  rw [List.getElem?_set] at hq
  by_cases e : j = q
  · subst e
    rw [if_pos rfl, if_pos (by omega)] at hq
    cases hq
    exact ⟨a, l, c, r, by rw [List.getElem?_set, if_pos rfl, if_pos (by omega)], rfl, hlc, hl, hu.kept s2 (own_ne hu h1 (by decide))⟩
  · rw [if_neg e] at hq
    obtain ⟨a', l', c', r', q1, q2, q3, q4, q5⟩ := h3 q u hq
    exact ⟨a', l', c', r', by rw [List.getElem?_set, if_neg e]; exact q1, q2, q3, q4, q5.kept s2 (own_ne q5 h1 (by decide))⟩
theorem OwnRowsW.push {w w' : World} {B0 B1 k l : Nat} {v v' : Value} {a : Option Addr} {c : Nat} {rows : List (List Int)} {r : List Int} {us : List Value} (hv : w.ownsRow B0 24 1 v k us) (hl : rows.length = k)
    (hus : ∀ (q : Nat) (u : Value), us[q]? = some u → ∃ (a : Option Addr) (l c : Nat) (r : List Int), rows[q]? = some r ∧ u = .slice a l c ∧ l ≤ c ∧ l ≤ 1048576 ∧ w.ownsRow B1 3 1 u l (r.map (.int .i64)))
    (hu : w.ownsRow B1 3 1 (.slice a l c) l (r.map (.int .i64))) (hlc : l ≤ c) (hl2 : l ≤ 1048576) (hv' : w'.ownsRow B0 24 1 v' (k + 1) (us ++ [.slice a l c])) (hg : w.grownBy w' v.ownBlock) : OwnRowsW w' B0 B1 v' (k + 1) (rows ++ [r]) := by
  have hul : us.length = k := by have := hv.1; simpa using this
  refine ⟨_, hv', by simp [hl], fun q u hq => ?_⟩
  rcases Nat.lt_or_ge q us.length with h | h
  · rw [List.getElem?_append_left h] at hq
    obtain ⟨a', l', c', r', h1, h2, h3, h4, h5⟩ := hus q u hq
    exact ⟨a', l', c', r', by rw [List.getElem?_append_left (by omega)]; exact h1, h2, h3, h4, h5.kept hg (own_ne h5 hv (by decide))⟩
  · rw [List.getElem?_append_right h] at hq
    have hq0 : q - us.length = 0 := by
      have := (List.getElem?_eq_some_iff.1 hq).1; simp at this; omega
    rw [hq0] at hq
    simp only [List.getElem?_cons_zero, Option.some.injEq] at hq
    subst hq
    exact ⟨a, l, c, r, by rw [List.getElem?_append_right (by omega), show q - rows.length = 0 by omega]; rfl, rfl, hlc, hl2, hu.kept hg (own_ne hu hv (by decide))⟩
theorem OwnRowsW.rows {w : World} {B0 B1 k : Nat} {a : Option Addr} {cap : Nat} {rows : List (List Int)} (h : OwnRowsW w B0 B1 (.slice a k cap) k rows) (hk : k ≤ 1048576) (hB : B0 ≤ B1) :
    RowsAt w (fun b => B0 ≤ b ∧ b < w.heap.size) a k rows := by
  obtain ⟨us, h1, h2, h3⟩ := h
  have hul : us.length = k := by have := h1.1; simpa using this
  refine ⟨h2, by omega, fun h0 => ?_⟩
  have hlt := h1.lt
  rcases h1.2 with ⟨e1, e2⟩ | ⟨g, cp, cur, e1, e2, _⟩
  · omega
  · injection e1 with e3 _ _
    subst e3
    refine ⟨g, 0, rfl, hlt g rfl, fun i r hr => ?_⟩
    have hi : i < us.length := by have := (List.getElem?_eq_some_iff.1 hr).1; omega
    have hu := List.getElem?_eq_getElem hi
    obtain ⟨a', l, c, r', hr', hue, hlc, hl, hown⟩ := h3 i us[i] hu
    rw [hr] at hr'
    injection hr' with hr'
    subst hr'
    rw [hue] at hown hu
    obtain ⟨a2, c2, e4, _, hints⟩ := own_ints hown (by omega)
    injection e4 with e5 _ _
    subst e5
    refine ⟨a', l, c, ?_, hlc, hints.to fun b hb => ⟨⟨by omega, hb.2⟩, rfl⟩⟩
    rw [Nat.zero_add, h1.cellAt i (by omega)]
    exact hu
end Go.Proofs.Ythmlgicjedhgfab
