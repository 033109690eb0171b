import Derived.Test.YtkjmpkincaainadRows
import Derived.WalkKit
import Derived.ProofKit
import Derived.Lib.Hide
import Derived.Test.YtkjmpkincaainadM0
import Derived.Test.YtkjmpkincaainadM1
import Derived.Test.YtkjmpkincaainadM5
import Derived.LoopTactic
import Derived.Outline
import Derived.WalkSpells
import Derived.WalkLawsBesides
import Derived.Test.YtkjmpkincaainadM4
namespace Go.Proofs.Ytkjmpkincaainad
open Go.RowKit Go.WideShapes

/-- where a net lies -/
structure NV where
  aT : Option Addr
  lT : Nat
  cT : Nat
  aW : Option Addr
  lW : Nat
  cW : Nat
def NV.v (d : NV) : Value := .agg #[.slice d.aT d.lT d.cT, .slice d.aW d.lW d.cW]
structure NetAt (w : World) (S : Nat → Prop) (d : NV) (ts : List Int) (rows : List (List Int)) : Prop where
  t : IntsAt w S d.aT d.lT ts
  r : RowsAt w S d.aW d.lW rows
  ct : d.lT ≤ d.cT
  cw : d.lW ≤ d.cW
theorem NetAt.to {w w' : World} {S S' : Nat → Prop} {d : NV} {ts : List Int} {rows : List (List Int)} (h : NetAt w S d ts rows) (hg : ∀ b, S b → S' b ∧ w'.heap[b]? = w.heap[b]?) : NetAt w' S' d ts rows :=
  ⟨h.t.to hg, h.r.to hg, h.ct, h.cw⟩
theorem NetAt.below {w w' : World} {n : Nat} {d : NV} {ts : List Int} {rows : List (List Int)} (h : NetAt w (· < n) d ts rows) (hb : Below n w w') : NetAt w' (· < n) d ts rows := ⟨h.t.below hb, h.r.below hb, h.ct, h.cw⟩
theorem net_lift {w w' : World} {d : NV} {ts : List Int} {rows : List (List Int)} (h : NetAt w (· < w.heap.size) d ts rows) (hb : Below w.heap.size w w') : NetAt w' (· < w'.heap.size) d ts rows :=
  (h.below hb).to fun b hb' => ⟨Nat.lt_of_lt_of_le hb' hb.size, rfl⟩
/-- the box of a net, as it is made -/
def netObj (aT : Option Addr) (lT cT : Nat) (aW : Option Addr) (lW cW : Nat) : Array Value := #[.slice aT lT cT, .slice aW lW cW]
/-- block b holds the two slices of a net -/
def NetB (w : World) (b : Nat) (d : NV) : Prop := w.cell? ⟨b, 0, none⟩ = some (.slice d.aT d.lT d.cT) ∧ w.cell? ⟨b, 1, none⟩ = some (.slice d.aW d.lW d.cW)
theorem NetB.block {w w' : World} {b : Nat} {d : NV} (h : NetB w b d) (e : w'.heap[b]? = w.heap[b]?) : NetB w' b d :=
  ⟨by rw [World.cell?_of_block (w := w) e]; exact h.1, by rw [World.cell?_of_block (w := w) e]; exact h.2⟩
theorem NetB.lt {w : World} {b : Nat} {d : NV} (h : NetB w b d) : b < w.heap.size := World.block_lt_of_cell? w _ h.1
theorem NetB.below {w w' : World} {b n : Nat} {d : NV} (h : NetB w b d) (hb : Below n w w') (hn : b < n) : NetB w' b d := h.block (hb.block b hn)
theorem netB_new (w : World) (aT : Option Addr) (lT cT : Nat) (aW : Option Addr) (lW cW : Nat) (t : TypeId) : NetB (w.alloc (.cells #[.slice aT lT cT, .slice aW lW cW] t)) w.heap.size ⟨aT, lT, cT, aW, lW, cW⟩ :=
  ⟨by rw [World.cell?_alloc_new]; rfl, by rw [World.cell?_alloc_new]; rfl⟩
/-- the answer, and what lay below lies as it lay -/
def valN (w : World) (v : Value) (e : Ending) (w' : World) : Prop := e = .returned v ∧ Below w.heap.size w w'
theorem below_drewN {w w' : World} {n : Nat} (h : Below n w w') (q : Nat) : Below n w (w'.drewN q) := h.trans (Drew.below ⟨q, rfl⟩ n)
theorem NetB.drewN {w : World} {b : Nat} {d : NV} (h : NetB w b d) (q : Nat) : NetB (w.drewN q) b d := h.block rfl
/-- a net in its box -/
structure NetOn (w : World) (b : Nat) (d : NV) (ts : List Int) (rows : List (List Int)) : Prop where
  box : NetB w b d
  at' : NetAt w (· < w.heap.size) d ts rows
theorem NetOn.lift {w w' : World} {b : Nat} {d : NV} {ts : List Int} {rows : List (List Int)} (h : NetOn w b d ts rows) (hb : Below w.heap.size w w') : NetOn w' b d ts rows := ⟨h.box.below hb h.box.lt, net_lift h.at' hb⟩
theorem netOn_new {w : World} {aT : Option Addr} {lT cT : Nat} {aW : Option Addr} {lW cW : Nat} {ts : List Int} {rows : List (List Int)} (h : NetAt w (· < w.heap.size) ⟨aT, lT, cT, aW, lW, cW⟩ ts rows) (t : TypeId) : NetOn (w.alloc (.cells #[.slice aT lT cT, .slice aW lW cW] t)) w.heap.size ⟨aT, lT, cT, aW, lW, cW⟩ ts rows :=
  ⟨netB_new w aT lT cT aW lW cW t, net_lift h ((Below.refl _ _).alloc (Nat.le_refl _) _)⟩
end Go.Proofs.Ytkjmpkincaainad
namespace Go.Proofs.Ytkjmpkincaainad
open Go.RowKit Go.WideShapes

/-- two cells of a block, that may be written -/
def Two (w : World) (b : Nat) (x y : Value) : Prop := (w.cell? ⟨b, 0, none⟩ = some x ∧ w.frozen? ⟨b, 0, none⟩ = false) ∧ w.cell? ⟨b, 1, none⟩ = some y ∧ w.frozen? ⟨b, 1, none⟩ = false
theorem Two.block {w w' : World} {b : Nat} {x y : Value} (h : Two w b x y) (e : w'.heap[b]? = w.heap[b]?) : Two w' b x y :=
  ⟨⟨by rw [World.cell?_of_block (w := w) e]; exact h.1.1, by rw [World.frozen?_of_block (w := w) e]; exact h.1.2⟩, by rw [World.cell?_of_block (w := w) e]; exact h.2.1, by rw [World.frozen?_of_block (w := w) e]; exact h.2.2⟩
theorem Two.lt {w : World} {b : Nat} {x y : Value} (h : Two w b x y) : b < w.heap.size := World.block_lt_of_cell? w _ h.1.1
theorem Two.grown {w w' : World} {b : Nat} {x y : Value} {r : Option Nat} (h : Two w b x y) (hg : w.grownBy w' r) (hr : some b ≠ r) : Two w' b x y := h.block (hg.block b h.lt hr)
theorem two_new (w : World) (x y : Value) (t : TypeId) : Two (w.alloc (.cells #[x, y] t)) w.heap.size x y :=
  ⟨⟨by rw [World.cell?_alloc_new]; rfl, World.frozen?_alloc_new w _ _ _⟩, by rw [World.cell?_alloc_new]; rfl, World.frozen?_alloc_new w _ _ _⟩
theorem Two.set0 {w : World} {b : Nat} {x y : Value} (h : Two w b x y) (u : Value) : Two (w.setCell ⟨b, 0, none⟩ u) b u y := by
  refine ⟨⟨World.cell?_setCell_same _ _ _ h.1.1, by rw [World.frozen?_setCell]; exact h.1.2⟩, ?_, by rw [World.frozen?_setCell]; exact h.2.2⟩
  rw [World.cell?_setCell_other _ _ _ _ (by intro e; injection e with _ e2; exact absurd e2 (by omega))]; exact h.2.1
theorem Two.set1 {w : World} {b : Nat} {x y : Value} (h : Two w b x y) (u : Value) : Two (w.setCell ⟨b, 1, none⟩ u) b x u := by
  refine ⟨⟨?_, by rw [World.frozen?_setCell]; exact h.1.2⟩, World.cell?_setCell_same _ _ _ h.2.1, by rw [World.frozen?_setCell]; exact h.2.2⟩
  rw [World.cell?_setCell_other _ _ _ _ (by intro e; injection e with _ e2; exact absurd e2 (by omega))]; exact h.1.1
/-- a drawn net, behind a reader -/
def NetPost (w : World) (R p : Nat) (e : Ending) (w' : World) : Prop := ∃ (d : NV) (ts : List Int) (rows : List (List Int)) (p' : Nat), e = .returned (.agg #[.slice d.aT d.lT d.cT, .slice d.aW d.lW d.cW]) ∧
  NetAt w' (fun b => w.heap.size ≤ b ∧ b < w'.heap.size) d ts rows ∧ d.lT ≤ 4 ∧ d.lW ≤ 8 ∧ Rd w' R p' ∧ p' ≤ p + 100 ∧ w.grownBy w' (some R)
theorem netw_n {n : Int} (h : n ∈ [4, 5, 3, 6, 7, 2, 0]) : ∃ m : Nat, n = (m : Int) ∧ m ≤ 7 := by
  simp at h
  exact ⟨n.toNat, by omega, by omega⟩
theorem netv_n {n : Int} (h : n ∈ [3, 2, 4, 1, 0]) : ∃ m : Nat, n = (m : Int) ∧ m ≤ 4 := by
  simp at h
  exact ⟨n.toNat, by omega, by omega⟩
theorem nett_n {n : Int} (h : n ∈ [5, 9]) : 5 ≤ n ∧ n ≤ 9 := by simp at h; omega
/-- where a net that is drawn lies, with k ways -/
structure NetSt (w wr : World) (R NB L0 m : Nat) (aT : Option Addr) (cT : Nat) (a : Option Addr) (k cap : Nat) (xs : List Int) : Prop where
  res : Two wr w.heap.size (.slice none 0 0) (.slice none 0 0)
  net : Two wr NB (.slice aT m cT) (.slice a k cap)
  own : wr.ownsRow L0 3 1 (.slice aT m cT) m (xs.map (.int .i64))
  tlt : ∀ b, (Value.slice aT m cT).ownBlock = some b → b < NB
  rows : OwnRows wr (NB + 1) wr.heap.size (.slice a k cap) k
  g : w.grownBy wr (some R)
theorem NetSt.low {w wr w' : World} {R NB L0 m : Nat} {aT : Option Addr} {cT : Nat} {a : Option Addr} {k cap : Nat} {xs : List Int} (h : NetSt w wr R NB L0 m aT cT a k cap xs) (hg : wr.grownBy w' (some R)) (hR : R < w.heap.size) (h0 : w.heap.size < L0) (h1 : L0 ≤ NB) : NetSt w w' R NB L0 m aT cT a k cap xs := by
  refine ⟨h.res.grown hg (by simp; omega), h.net.grown hg (by simp; omega), h.own.kept hg (ne_low h.own (by omega)), h.tlt, (h.rows.low hg (by omega)).up hg.size, grown_r h.g hg⟩
theorem NetSt.alloc {w wr : World} {R NB L0 m : Nat} {aT : Option Addr} {cT : Nat} {a : Option Addr} {k cap : Nat} {xs : List Int} (h : NetSt w wr R NB L0 m aT cT a k cap xs) (hR : R < w.heap.size) (h0 : w.heap.size < L0) (h1 : L0 ≤ NB) (o : Obj) : NetSt w (wr.alloc o) R NB L0 m aT cT a k cap xs := h.low (World.grownBy_alloc _ _ _) hR h0 h1
theorem NetSt.push {w wr w8 w9 : World} {R NB L0 m : Nat} {aT : Option Addr} {cT : Nat} {a : Option Addr} {k cap : Nat} {xs : List Int} (h : NetSt w wr R NB L0 m aT cT a k cap xs) (hR : R < w.heap.size) (h0 : w.heap.size < L0) (h1 : L0 ≤ NB) {u : Value} {us : List Value} {n : Nat} {r : List Int} {a6 : Option Addr} {c6 : Nat}
    {M : Nat} (hM : NB + 1 ≤ M) (hu : wr.ownsRow M 3 1 u n (r.map (.int .i64))) (hus : ∀ u ∈ us, OwnInts wr (NB + 1) M u) (hv : wr.ownsRow (NB + 1) 23 1 (.slice a k cap) k us)
    (hown : w9.ownsRow (NB + 1) 23 1 (.slice a6 (k + 1) c6) (k + 1) (us ++ [u])) (hg : wr.grownBy w9 (Value.slice a k cap).ownBlock) (hw : w8 = w9.setCell ⟨NB, 1, none⟩ (.slice a6 (k + 1) c6)) : NetSt w w8 R NB L0 m aT cT a6 (k + 1) c6 xs ∧ wr.grownBy w9 (Value.slice a k cap).ownBlock := by
  subst hw
  have hlow : ∀ b, (Value.slice a k cap).ownBlock = some b → NB + 1 ≤ b := fun b e => (hv.lt b e).1
  have hgs : w9.grownBy (w9.setCell ⟨NB, 1, none⟩ (.slice a6 (k + 1) c6)) (some NB) := grownBy_setCell _ _ _
  have hnb := h.net.lt
  have hpu : OwnRows w9 (NB + 1) w9.heap.size (.slice a6 (k + 1) c6) (k + 1) := OwnRows.push hu hM hv hus hown hg
  refine ⟨⟨?_, ?_, ?_, h.tlt, ?_, ?_⟩, hg⟩
  · refine (h.res.grown hg (fun e => by have := hlow _ e.symm; omega)).grown hgs (by simp; omega)
  · exact (h.net.grown hg (fun e => by have := hlow _ e.symm; omega)).set1 _
  · refine (h.own.kept hg ?_).kept hgs ?_
    · cases e : (Value.slice aT m cT).ownBlock with
      | none => exact .inl rfl
      | some b =>
        right
        intro e2
        have := hlow b e2.symm
        have := h.tlt b e
        omega
    · cases e : (Value.slice aT m cT).ownBlock with
      | none => exact .inl rfl
      | some b =>
        right
        intro e2
        have := h.tlt b e
        simp only [Option.some.injEq] at e2
        omega
  · have := hpu.low hgs (by omega)
    exact this.up hgs.size
  · exact grown_trans (grown_trans h.g hg (fun b e => .inr (by have := hlow b e; omega))) hgs (fun b e => .inr (by simp only [Option.some.injEq] at e; omega))
theorem NetSt.post {w wr : World} {R NB L0 m p p' : Nat} {aT : Option Addr} {cT : Nat} {a : Option Addr} {k cap : Nat} {xs : List Int} (h : NetSt w wr R NB L0 m aT cT a k cap xs) (h0 : w.heap.size < L0) (h1 : L0 ≤ NB) (hm : m ≤ 4) (hk : k ≤ 8) (hr : Rd wr R p') (hp : p' ≤ p + 100) (hR : R < w.heap.size) {w' : World} (hw : w' = (wr.setCell ⟨w.heap.size, 0, none⟩ (.slice aT m cT)).setCell ⟨w.heap.size, 1, none⟩ (.slice a k cap)) : NetPost w R p (.returned (.agg #[.slice aT m cT, .slice a k cap])) w' := by
  subst hw
  have hg1 : wr.grownBy (wr.setCell ⟨w.heap.size, 0, none⟩ (.slice aT m cT)) (some w.heap.size) := grownBy_setCell _ _ _
  have hg2 : (wr.setCell ⟨w.heap.size, 0, none⟩ (.slice aT m cT)).grownBy ((wr.setCell ⟨w.heap.size, 0, none⟩ (.slice aT m cT)).setCell ⟨w.heap.size, 1, none⟩ (.slice a k cap)) (some w.heap.size) := grownBy_setCell _ _ _
  have hg := grown_comp hg1 hg2
  have hsz := h.g.size
  have hnb := h.net.lt
  obtain ⟨a1, c1, e1, hc1, hi⟩ := own_ints h.own (by omega)
  simp only [Value.slice.injEq, true_and] at e1
  obtain ⟨rfl, rfl⟩ := e1
  obtain ⟨a2, c2, rows, e2, hc2, hrw⟩ := h.rows.rows (by omega)
  simp only [Value.slice.injEq, true_and] at e2
  obtain ⟨rfl, rfl⟩ := e2
  refine ⟨⟨aT, m, cT, a, k, cap⟩, xs, rows, p', rfl, ⟨hi.to fun b hb => ⟨⟨by omega, Nat.lt_of_lt_of_le hb.2 hg.size⟩, hg.block b hb.2 (by simp; omega)⟩, hrw.to fun b hb => ⟨⟨by omega, Nat.lt_of_lt_of_le hb.2 hg.size⟩, hg.block b hb.2 (by simp; omega)⟩, hc1, hc2⟩, hm, hk, hr.grown hg (by simp; omega), hp, grown_trans h.g hg (fun b e => .inr (by simp only [Option.some.injEq] at e; omega))⟩
theorem NetSt.time {w wr : World} {R NB L0 m : Nat} {aT : Option Addr} {cT : Nat} {a : Option Addr} {k cap : Nat} {xs : List Int} (h : NetSt w wr R NB L0 m aT cT a k cap xs) (hR : R < w.heap.size) (h0 : w.heap.size < L0) (h1 : L0 ≤ NB) (hm : 0 < m) (x : Int) :
    ∃ g, aT = some ⟨g, 0, none⟩ ∧ L0 ≤ g ∧ g < NB ∧ (∃ y, wr.cell? ⟨g, 0, none⟩ = some (.int .i64 y)) ∧ wr.frozen? ⟨g, 0, none⟩ = false ∧ NetSt w (wr.setCell ⟨g, 0, none⟩ (.int .i64 x)) R NB L0 m aT cT a k cap (xs.set 0 x) := by
  have hl : xs.length = m := by have := h.own.1; simpa using this
  obtain ⟨g, c', e, hb, _⟩ := World.ownsRow.form h.own hm
  simp only [Value.slice.injEq, true_and] at e
  obtain ⟨rfl, rfl⟩ := e
  have hgN := h.tlt g rfl
  have hgL := (h.own.lt g rfl).1
  have hgs : wr.grownBy (wr.setCell ⟨g, 0, none⟩ (.int .i64 x)) (some g) := grownBy_setCell _ _ _
  have hc := h.own.cellAt 0 (by omega)
  rw [List.getElem?_map, List.getElem?_eq_getElem (show 0 < xs.length by omega)] at hc
  obtain ⟨st, _⟩ := h.own.stored 0 (.int .i64 x)
  rw [← List.map_set] at st
  refine ⟨g, rfl, hgL, hgN, ⟨_, hc⟩, h.own.frozenAt 0, ⟨h.res.grown hgs (by simp; omega), h.net.grown hgs (by simp; omega), st, h.tlt, (h.rows.low hgs (by omega)).up hgs.size, grown_trans h.g hgs (fun b e => .inr (by simp only [Option.some.injEq] at e; omega))⟩⟩
set_option maxRecDepth 100000 in
set_option maxHeartbeats 4000000 in
theorem someNet_any (R p : Nat) (w : World) (h : Rd w R p) (hp : p ≤ 900000) :
    Calls Try.prog 21 #[.pointer (some ⟨R, 0, none⟩)] w (NetPost w R p) := by
  have hR := h.lt
  obtain ⟨i1, hj, hy0, hy1, hy2⟩ := info_parts Try.infoInts
  go_enter Try.func21, Try.ntmps21
  go_wp2_with fail
  refine (one_any (fun k => k = w.heap.size + 1) R p _ 5 5 [3, 2, 4, 1, 0] _ ((h.alloc _).alloc _) (IntsAt.lit rfl rfl (by simp) (by omega)) (by intro b hb; simp; omega) (by omega) (by omega)).mono ?_
  rintro e w1 ⟨n, hn, rfl, hr1, hg1⟩
  obtain ⟨m, rfl, hm⟩ := netv_n hn
  clear hn
  have hga : (w.alloc (.cells #[.slice none 0 0, .slice none 0 0] 26)).grownBy w1 (some R) := grown_r (World.grownBy_alloc _ _ _) hg1
  have hg01 : w.grownBy w1 (some R) := grown_r (World.grownBy_alloc w _ _) hga
  have ht1 : Two w1 w.heap.size (.slice none 0 0) (.slice none 0 0) := (two_new w _ _ _).grown hga (by simp; omega)
  clear hg1 hga
  go_wp2_with fail
  refine (one_any (fun b => b = w1.heap.size) R (p + 1) _ 2 2 [5, 9] _ (hr1.alloc _) (IntsAt.lit rfl rfl rfl (by omega)) (by intro b hb; have := hr1.lt; simp; omega) (by omega) (by omega)).mono ?_
  rintro e w2 ⟨hi, hhi, rfl, hr2, hg2⟩
  obtain ⟨hi1, hi2⟩ := nett_n hhi
  have hg12 : w1.grownBy w2 (some R) := grown_r (World.grownBy_alloc w1 _ _) hg2
  clear hhi hg2
  go_wp2_with fail
  refine (listOf_any R (p + 1 + 1) m 0 hi w2 hr2 (by omega) (by omega) (by omega) (by omega) (by omega)).mono ?_
  rintro e w3 ⟨aT, cT, xs, rfl, ho3, hc3, hl3, _, hr3, hg3⟩
  have hs12 := hg12.size
  have hs01 := hg01.size
  have hs3 := hg3.size
  have ht3 := (ht1.grown hg12 (by simp; omega)).grown hg3 (by simp; omega)
  have h1lt := ht1.lt
  have hs0 : NetSt w (w3.alloc (.cells #[.slice aT m cT, .slice none 0 0] 26)) R w3.heap.size w2.heap.size m aT cT none 0 0 xs := by
    refine ⟨ht3.grown (World.grownBy_alloc _ _ none) (by simp), two_new _ _ _ _, ho3.alloc _, fun b e => (ho3.lt b e).2, ⟨[], World.ownsRow_nil _ _ _ _, by simp⟩, grown_alloc (grown_r (grown_r hg01 hg12) hg3) _⟩
  have hr3a := hr3.alloc (.cells #[.slice aT m cT, .slice none 0 0] 26)
  have hLw : w.heap.size < w2.heap.size := by omega
  have hLN : w2.heap.size ≤ w3.heap.size := hs3
  have hz4 : (w3.alloc (.cells #[.slice aT m cT, .slice none 0 0] 26)).heap.size = w3.heap.size + 1 := by simp
  have HS0 := Lib.hid hs0
  have HR3 := Lib.hid hr3a
  obtain ⟨w4, hw4⟩ : ∃ w4, (w3.alloc (.cells #[.slice aT m cT, .slice none 0 0] 26)) = w4 := ⟨_, rfl⟩
  rw [hw4] at HS0 HR3 hz4
  have HW4 := Lib.hid hw4
  have HZ4 := Lib.hid hz4
  clear hs0 hr3a hw4 ht3 ht1 hr3 hg3 hg12 hg01 ho3 hr1 hr2 hz4
  go_wp2_with fail
  rw [HW4.out]
  refine (one_any (fun b => b = w3.heap.size + 1) R (p + 1 + 1 + m) (some ⟨w3.heap.size + 1, 0, none⟩) 7 7 [4, 5, 3, 6, 7, 2, 0] _ (HR3.out.alloc _) (IntsAt.lit rfl rfl HZ4.out.symm (by omega)) (by intro b hb; have := HR3.out.lt; have := HZ4.out; simp; omega) (by omega) (by omega)).mono ?_
  rintro e w5 ⟨kk, hkk, rfl, hr5, hg5⟩
  obtain ⟨n7, rfl, hn7⟩ := netw_n hkk
  clear hkk
  have hg45 : w4.grownBy w5 (some R) := grown_r (World.grownBy_alloc w4 _ _) hg5
  have HS5 := Lib.hid (HS0.out.low hg45 hR hLw hLN)
  have hs5 : w3.heap.size < w5.heap.size := by have := hg45.size; have := HZ4.out; omega
  generalize w3.heap.size = NB at *
  generalize w2.heap.size = L0 at *
  clear hg5 hg45 HR3 HS0 HW4 HZ4 hs01 hs12 hs3 h1lt
  go_wp2_with fail
  go_loopw [5] (fun v wr => ∃ (k q p' cap : Nat) (a : Option Addr), v = .int .i64 q ∧ k + q = n7 ∧ NetSt w wr R NB L0 m aT cT a k cap xs ∧ NB < wr.heap.size ∧ Rd wr R p' ∧ p' ≤ p + 7 + 5 * k) (fun v _ => (intOf v).toNat)
  case atStart => exact ⟨0, n7, p + 1 + 1 + m + 1, 0, none, rfl, by omega, HS5.out, hs5, hr5, by omega⟩
  case round =>
    clear HS5 hr5 hs5
    obtain ⟨k, q, p', cap, a, rfl, hkq, hst, hnbw, hr, hpp⟩ := hrel
    obtain ⟨wo, rfl⟩ : ∃ wo : World, wo = wr := ⟨_, rfl⟩
    have HST := Lib.hid hst
    clear hst
    by_cases hq0 : 0 < q
    · by_cases hm0 : 0 < m
      · have hqI : (0 : Int) < (q : Int) := by omega
        have hmI : (0 : Int) < (m : Int) := by omega
        have hmx : max (m : Int) 1 = m := by omega
        go_wp2_with fail
        refine (pick_any R p' m wo hr (by omega)).mono ?_
        rintro e w6 ⟨x, rfl, hx, hr6, hg6⟩
        go_wp2_with fail
        refine (pick_any R (p' + 1) m w6 hr6 (by omega)).mono ?_
        rintro e w7 ⟨y, rfl, hy, hr7, hg7⟩
        go_wp2_with fail
        refine (one_any (fun b => b = w7.heap.size) R (p' + 1 + 1) _ 5 5 [1, 1, 2, 3, 0] _ (hr7.alloc _) (IntsAt.lit rfl rfl rfl (by omega)) (by intro b hb; have := hr7.lt; simp; omega) (by omega) (by omega)).mono ?_
        rintro e w8 ⟨z, hz, rfl, hr8, hg8⟩
        clear hz
        have gA : wo.grownBy w8 (some R) := grown_r (grown_r hg6 hg7) (grown_r (World.grownBy_alloc w7 _ _) hg8)
        clear hr6 hr7 hg6 hg7 hg8 hr
        by_cases hxy : x < y
        · have hxyI : (x : Int) < (y : Int) := by omega
          go_wp2_with fail
          refine (one_any (fun b => b = w8.heap.size) R (p' + 1 + 1 + 1) _ 3 3 [0, 0, 1] _ (hr8.alloc _) (IntsAt.lit rfl rfl rfl (by omega)) (by intro b hb; have := hr8.lt; simp; omega) (by omega) (by omega)).mono ?_
          rintro e w10 ⟨z2, hz2, rfl, hr10, hg10⟩
          clear hz2
          have gB : wo.grownBy w10 (some R) := grown_r gA (grown_r (World.grownBy_alloc w8 _ _) hg10)
          clear hg10 gA hr8
          have HS := Lib.hid (HST.out.low gB hR hLw hLN)
          have hlit := own_lit3 w10 (B := w10.heap.size) (Nat.le_refl _) ((x : Int)) ((y : Int)) (z2)
          have hs8 := HS.out.alloc hR hLw hLN (.cells #[.int .i64 ((x : Int)), .int .i64 ((y : Int)), .int .i64 (z2)] 3)
          obtain ⟨us, hout, hus⟩ := HS.out.rows.alloc (.cells #[.int .i64 ((x : Int)), .int .i64 ((y : Int)), .int .i64 (z2)] 3)
          have hrq := (hr10).alloc (.cells #[.int .i64 ((x : Int)), .int .i64 ((y : Int)), .int .i64 (z2)] 3)
          have hszq : (w10.alloc (.cells #[.int .i64 ((x : Int)), .int .i64 ((y : Int)), .int .i64 (z2)] 3)).heap.size = w10.heap.size + 1 := by simp
          obtain ⟨n1, _⟩ := HS.out.net.2
          have hsW : NB + 1 ≤ w10.heap.size := HS.out.net.lt
          obtain ⟨wq, hwq⟩ : ∃ wq, (w10.alloc (.cells #[.int .i64 ((x : Int)), .int .i64 ((y : Int)), .int .i64 (z2)] 3)) = wq := ⟨_, rfl⟩
          rw [hwq] at hlit hout hus hs8 hszq hrq
          have HWq := Lib.hid hwq
          have HSZ := Lib.hid hszq
          have HLIT := Lib.hid hlit
          have HOUT := Lib.hid hout
          have HUS := Lib.hid hus
          have HS8 := Lib.hid hs8
          have HRQ := Lib.hid hrq
          clear hwq hszq hlit hout hus hs8 hrq
          go_wp2_with (at_builtin; rw [HWq.out]; refine wpList_append_own _ rfl _ _ 24 rfl (NB + 1) 23 i1 (.slice none 0 0) 1 24 Try.underlying24 hj hy0 hy1 hy2 rfl (by decide) _ _ _ rfl (HOUT.out.alloc _) ⟨wq.heap.size, 0, none⟩ 1 1 [.slice (some ⟨w10.heap.size, 0, none⟩) 3 3] (by rw [HSZ.out]; rfl) rfl ?c1 ?c2 ?c3 ?c4 ?c5 ?_)
          case c1 => exact one_new _ _ _
          case c2 => exact one_cell_slice _ _ _
          case c3 => unfold maxLen; omega
          case c4 => omega
          case c5 => have := HSZ.out; simp; omega
          intro v' w9 hown hgrow _
          obtain ⟨a6, c6, rfl, hjc6⟩ := own_slice hown
          have hgr : wq.grownBy w9 (Value.slice a k cap).ownBlock := grown_comp (World.grownBy_alloc wq _ _) hgrow
          have hlow : ∀ b, (Value.slice a k cap).ownBlock = some b → NB + 1 ≤ b := fun b e => (HOUT.out.lt b e).1
          obtain ⟨⟨n0', f0'⟩, n1', f1'⟩ := HS8.out.net.grown hgr (fun e => by have := hlow _ e.symm; omega)
          have HPU := Lib.hid (HS8.out.push (w8 := w9.setCell ⟨NB, 1, none⟩ (.slice a6 (k + 1) c6)) hR hLw hLN hsW HLIT.out HUS.out HOUT.out hown hgr rfl).1
          have HR9 := Lib.hid ((HRQ.out.grown hgr (fun b e => by have := hlow _ e; omega)).grown (grownBy_setCell w9 ⟨NB, 1, none⟩ (.slice a6 (k + 1) c6)) (by simp; omega))
          clear hown hgrow hgr
          go_wp2_with fail
          go_roundw
          case rel => exact ⟨k + 1, q - 1, p' + 1 + 1 + 1 + 1, c6, a6, by congr 1; omega, by omega, HPU.out, by have := HPU.out.net.lt; exact this, HR9.out, by omega⟩
          case measure => simp [intOf]; omega
        · have hxyI : ¬ (x : Int) < (y : Int) := by omega
          have HS := Lib.hid (HST.out.low gA hR hLw hLN)
          have hlit := own_lit3 w8 (B := w8.heap.size) (Nat.le_refl _) ((x : Int)) ((y : Int)) (z)
          have hs8 := HS.out.alloc hR hLw hLN (.cells #[.int .i64 ((x : Int)), .int .i64 ((y : Int)), .int .i64 (z)] 3)
          obtain ⟨us, hout, hus⟩ := HS.out.rows.alloc (.cells #[.int .i64 ((x : Int)), .int .i64 ((y : Int)), .int .i64 (z)] 3)
          have hrq := (hr8).alloc (.cells #[.int .i64 ((x : Int)), .int .i64 ((y : Int)), .int .i64 (z)] 3)
          have hszq : (w8.alloc (.cells #[.int .i64 ((x : Int)), .int .i64 ((y : Int)), .int .i64 (z)] 3)).heap.size = w8.heap.size + 1 := by simp
          obtain ⟨n1, _⟩ := HS.out.net.2
          have hsW : NB + 1 ≤ w8.heap.size := HS.out.net.lt
          obtain ⟨wq, hwq⟩ : ∃ wq, (w8.alloc (.cells #[.int .i64 ((x : Int)), .int .i64 ((y : Int)), .int .i64 (z)] 3)) = wq := ⟨_, rfl⟩
          rw [hwq] at hlit hout hus hs8 hszq hrq
          have HWq := Lib.hid hwq
          have HSZ := Lib.hid hszq
          have HLIT := Lib.hid hlit
          have HOUT := Lib.hid hout
          have HUS := Lib.hid hus
          have HS8 := Lib.hid hs8
          have HRQ := Lib.hid hrq
          clear hwq hszq hlit hout hus hs8 hrq
          go_wp2_with (at_builtin; rw [HWq.out]; refine wpList_append_own _ rfl _ _ 24 rfl (NB + 1) 23 i1 (.slice none 0 0) 1 24 Try.underlying24 hj hy0 hy1 hy2 rfl (by decide) _ _ _ rfl (HOUT.out.alloc _) ⟨wq.heap.size, 0, none⟩ 1 1 [.slice (some ⟨w8.heap.size, 0, none⟩) 3 3] (by rw [HSZ.out]; rfl) rfl ?c1 ?c2 ?c3 ?c4 ?c5 ?_)
          case c1 => exact one_new _ _ _
          case c2 => exact one_cell_slice _ _ _
          case c3 => unfold maxLen; omega
          case c4 => omega
          case c5 => have := HSZ.out; simp; omega
          intro v' w9 hown hgrow _
          obtain ⟨a6, c6, rfl, hjc6⟩ := own_slice hown
          have hgr : wq.grownBy w9 (Value.slice a k cap).ownBlock := grown_comp (World.grownBy_alloc wq _ _) hgrow
          have hlow : ∀ b, (Value.slice a k cap).ownBlock = some b → NB + 1 ≤ b := fun b e => (HOUT.out.lt b e).1
          obtain ⟨⟨n0', f0'⟩, n1', f1'⟩ := HS8.out.net.grown hgr (fun e => by have := hlow _ e.symm; omega)
          have HPU := Lib.hid (HS8.out.push (w8 := w9.setCell ⟨NB, 1, none⟩ (.slice a6 (k + 1) c6)) hR hLw hLN hsW HLIT.out HUS.out HOUT.out hown hgr rfl).1
          have HR9 := Lib.hid ((HRQ.out.grown hgr (fun b e => by have := hlow _ e; omega)).grown (grownBy_setCell w9 ⟨NB, 1, none⟩ (.slice a6 (k + 1) c6)) (by simp; omega))
          clear hown hgrow hgr
          go_wp2_with fail
          go_roundw
          case rel => exact ⟨k + 1, q - 1, p' + 1 + 1 + 1, c6, a6, by congr 1; omega, by omega, HPU.out, by have := HPU.out.net.lt; exact this, HR9.out, by omega⟩
          case measure => simp [intOf]; omega
      · obtain rfl : m = 0 := by omega
        have hqI : (0 : Int) < (q : Int) := by omega
        go_wp2_with fail
        refine (pick_any R p' 40 wo hr (by omega)).mono ?_
        rintro e w6 ⟨qq, rfl, _, hr6, hg6⟩
        have HS6 := Lib.hid (HST.out.low hg6 hR hLw hLN)
        by_cases hq00 : qq = 0
        · subst hq00
          have HS := Lib.hid (HST.out.low hg6 hR hLw hLN)
          have hlit := own_lit3 w6 (B := w6.heap.size) (Nat.le_refl _) ((0 : Int)) ((0 : Int)) ((1 : Int))
          have hs8 := HS.out.alloc hR hLw hLN (.cells #[.int .i64 ((0 : Int)), .int .i64 ((0 : Int)), .int .i64 ((1 : Int))] 3)
          obtain ⟨us, hout, hus⟩ := HS.out.rows.alloc (.cells #[.int .i64 ((0 : Int)), .int .i64 ((0 : Int)), .int .i64 ((1 : Int))] 3)
          have hrq := (hr6).alloc (.cells #[.int .i64 ((0 : Int)), .int .i64 ((0 : Int)), .int .i64 ((1 : Int))] 3)
          have hszq : (w6.alloc (.cells #[.int .i64 ((0 : Int)), .int .i64 ((0 : Int)), .int .i64 ((1 : Int))] 3)).heap.size = w6.heap.size + 1 := by simp
          obtain ⟨n1, _⟩ := HS.out.net.2
          have hsW : NB + 1 ≤ w6.heap.size := HS.out.net.lt
          obtain ⟨wq, hwq⟩ : ∃ wq, (w6.alloc (.cells #[.int .i64 ((0 : Int)), .int .i64 ((0 : Int)), .int .i64 ((1 : Int))] 3)) = wq := ⟨_, rfl⟩
          rw [hwq] at hlit hout hus hs8 hszq hrq
          have HWq := Lib.hid hwq
          have HSZ := Lib.hid hszq
          have HLIT := Lib.hid hlit
          have HOUT := Lib.hid hout
          have HUS := Lib.hid hus
          have HS8 := Lib.hid hs8
          have HRQ := Lib.hid hrq
          clear hwq hszq hlit hout hus hs8 hrq
          go_wp2_with (at_builtin; rw [HWq.out]; refine wpList_append_own _ rfl _ _ 24 rfl (NB + 1) 23 i1 (.slice none 0 0) 1 24 Try.underlying24 hj hy0 hy1 hy2 rfl (by decide) _ _ _ rfl (HOUT.out.alloc _) ⟨wq.heap.size, 0, none⟩ 1 1 [.slice (some ⟨w6.heap.size, 0, none⟩) 3 3] (by rw [HSZ.out]; rfl) rfl ?c1 ?c2 ?c3 ?c4 ?c5 ?_)
          case c1 => exact one_new _ _ _
          case c2 => exact one_cell_slice _ _ _
          case c3 => unfold maxLen; omega
          case c4 => omega
          case c5 => have := HSZ.out; simp; omega
          intro v' w9 hown hgrow _
          obtain ⟨a6, c6, rfl, hjc6⟩ := own_slice hown
          have hgr : wq.grownBy w9 (Value.slice a k cap).ownBlock := grown_comp (World.grownBy_alloc wq _ _) hgrow
          have hlow : ∀ b, (Value.slice a k cap).ownBlock = some b → NB + 1 ≤ b := fun b e => (HOUT.out.lt b e).1
          obtain ⟨⟨n0', f0'⟩, n1', f1'⟩ := HS8.out.net.grown hgr (fun e => by have := hlow _ e.symm; omega)
          have HPU := Lib.hid (HS8.out.push (w8 := w9.setCell ⟨NB, 1, none⟩ (.slice a6 (k + 1) c6)) hR hLw hLN hsW HLIT.out HUS.out HOUT.out hown hgr rfl).1
          have HR9 := Lib.hid ((HRQ.out.grown hgr (fun b e => by have := hlow _ e; omega)).grown (grownBy_setCell w9 ⟨NB, 1, none⟩ (.slice a6 (k + 1) c6)) (by simp; omega))
          clear hown hgrow hgr
          obtain ⟨⟨m0, e0⟩, m1, e1⟩ := HPU.out.net
          obtain ⟨⟨r0, z0⟩, r1, z1⟩ := HPU.out.res
          go_wp2_with fail
          refine bodyPost_ret (v := .agg #[.slice aT 0 cT, .slice a6 (k + 1) c6]) ?_ rfl ?_
          · have v0 : (((w9.setCell ⟨NB, 1, none⟩ (.slice a6 (k + 1) c6)).setCell ⟨w.heap.size, 0, none⟩ (.slice aT 0 cT)).setCell ⟨w.heap.size, 1, none⟩ (.slice a6 (k + 1) c6)).cell? ⟨w.heap.size, 0, none⟩ = some (.slice aT 0 cT) := ((HPU.out.res.set0 _).set1 _).1.1
            have v1 : (((w9.setCell ⟨NB, 1, none⟩ (.slice a6 (k + 1) c6)).setCell ⟨w.heap.size, 0, none⟩ (.slice aT 0 cT)).setCell ⟨w.heap.size, 1, none⟩ (.slice a6 (k + 1) c6)).cell? ⟨w.heap.size, 1, none⟩ = some (.slice a6 (k + 1) c6) := ((HPU.out.res.set0 _).set1 _).2.1
            simp [results, Try.results21, go_sem, v0, v1]
          · exact HPU.out.post hLw hLN (by omega) (by omega) HR9.out (by omega) hR rfl
        · have hqq0 : ((qq : Int) == 0) = false := by simp; omega
          by_cases hq01 : qq = 1
          · subst hq01
            obtain ⟨⟨m0, e0⟩, m1, e1⟩ := HS6.out.net
            obtain ⟨⟨r0, z0⟩, r1, z1⟩ := HS6.out.res
            go_wp2_with fail
            refine bodyPost_ret (v := .agg #[.slice aT 0 cT, .slice a k cap]) ?_ rfl ?_
            · have v0 : ((w6.setCell ⟨w.heap.size, 0, none⟩ (.slice aT 0 cT)).setCell ⟨w.heap.size, 1, none⟩ (.slice a k cap)).cell? ⟨w.heap.size, 0, none⟩ = some (.slice aT 0 cT) := ((HS6.out.res.set0 _).set1 _).1.1
              have v1 : ((w6.setCell ⟨w.heap.size, 0, none⟩ (.slice aT 0 cT)).setCell ⟨w.heap.size, 1, none⟩ (.slice a k cap)).cell? ⟨w.heap.size, 1, none⟩ = some (.slice a k cap) := ((HS6.out.res.set0 _).set1 _).2.1
              simp [results, Try.results21, go_sem, v0, v1]
            · exact HS6.out.post hLw hLN (by omega) (by omega) hr6 (by omega) hR rfl
          · have hqq1 : ((qq : Int) == 1) = false := by simp; omega
            obtain ⟨⟨m0, e0⟩, m1, e1⟩ := HS6.out.net
            obtain ⟨⟨r0, z0⟩, r1, z1⟩ := HS6.out.res
            go_wp2_with fail
            refine bodyPost_ret (v := .agg #[.slice aT 0 cT, .slice a k cap]) ?_ rfl ?_
            · have v0 : ((w6.setCell ⟨w.heap.size, 0, none⟩ (.slice aT 0 cT)).setCell ⟨w.heap.size, 1, none⟩ (.slice a k cap)).cell? ⟨w.heap.size, 0, none⟩ = some (.slice aT 0 cT) := ((HS6.out.res.set0 _).set1 _).1.1
              have v1 : ((w6.setCell ⟨w.heap.size, 0, none⟩ (.slice aT 0 cT)).setCell ⟨w.heap.size, 1, none⟩ (.slice a k cap)).cell? ⟨w.heap.size, 1, none⟩ = some (.slice a k cap) := ((HS6.out.res.set0 _).set1 _).2.1
              simp [results, Try.results21, go_sem, v0, v1]
            · exact HS6.out.post hLw hLN (by omega) (by omega) hr6 (by omega) hR rfl
    · obtain rfl : q = 0 := by omega
      go_wp2_with fail
      refine (pick_any R p' 40 wo hr (by omega)).mono ?_
      rintro e w6 ⟨qq, rfl, _, hr6, hg6⟩
      have HS6 := Lib.hid (HST.out.low hg6 hR hLw hLN)
      by_cases hq00 : qq = 0
      · subst hq00
        have HS := Lib.hid (HST.out.low hg6 hR hLw hLN)
        have hlit := own_lit3 w6 (B := w6.heap.size) (Nat.le_refl _) ((0 : Int)) ((m : Int)) ((1 : Int))
        have hs8 := HS.out.alloc hR hLw hLN (.cells #[.int .i64 ((0 : Int)), .int .i64 ((m : Int)), .int .i64 ((1 : Int))] 3)
        obtain ⟨us, hout, hus⟩ := HS.out.rows.alloc (.cells #[.int .i64 ((0 : Int)), .int .i64 ((m : Int)), .int .i64 ((1 : Int))] 3)
        have hrq := (hr6).alloc (.cells #[.int .i64 ((0 : Int)), .int .i64 ((m : Int)), .int .i64 ((1 : Int))] 3)
        have hszq : (w6.alloc (.cells #[.int .i64 ((0 : Int)), .int .i64 ((m : Int)), .int .i64 ((1 : Int))] 3)).heap.size = w6.heap.size + 1 := by simp
        obtain ⟨n1, _⟩ := HS.out.net.2
        have hsW : NB + 1 ≤ w6.heap.size := HS.out.net.lt
        obtain ⟨wq, hwq⟩ : ∃ wq, (w6.alloc (.cells #[.int .i64 ((0 : Int)), .int .i64 ((m : Int)), .int .i64 ((1 : Int))] 3)) = wq := ⟨_, rfl⟩
        rw [hwq] at hlit hout hus hs8 hszq hrq
        have HWq := Lib.hid hwq
        have HSZ := Lib.hid hszq
        have HLIT := Lib.hid hlit
        have HOUT := Lib.hid hout
        have HUS := Lib.hid hus
        have HS8 := Lib.hid hs8
        have HRQ := Lib.hid hrq
        clear hwq hszq hlit hout hus hs8 hrq
        go_wp2_with (at_builtin; rw [HWq.out]; refine wpList_append_own _ rfl _ _ 24 rfl (NB + 1) 23 i1 (.slice none 0 0) 1 24 Try.underlying24 hj hy0 hy1 hy2 rfl (by decide) _ _ _ rfl (HOUT.out.alloc _) ⟨wq.heap.size, 0, none⟩ 1 1 [.slice (some ⟨w6.heap.size, 0, none⟩) 3 3] (by rw [HSZ.out]; rfl) rfl ?c1 ?c2 ?c3 ?c4 ?c5 ?_)
        case c1 => exact one_new _ _ _
        case c2 => exact one_cell_slice _ _ _
        case c3 => unfold maxLen; omega
        case c4 => omega
        case c5 => have := HSZ.out; simp; omega
        intro v' w9 hown hgrow _
        obtain ⟨a6, c6, rfl, hjc6⟩ := own_slice hown
        have hgr : wq.grownBy w9 (Value.slice a k cap).ownBlock := grown_comp (World.grownBy_alloc wq _ _) hgrow
        have hlow : ∀ b, (Value.slice a k cap).ownBlock = some b → NB + 1 ≤ b := fun b e => (HOUT.out.lt b e).1
        obtain ⟨⟨n0', f0'⟩, n1', f1'⟩ := HS8.out.net.grown hgr (fun e => by have := hlow _ e.symm; omega)
        have HPU := Lib.hid (HS8.out.push (w8 := w9.setCell ⟨NB, 1, none⟩ (.slice a6 (k + 1) c6)) hR hLw hLN hsW HLIT.out HUS.out HOUT.out hown hgr rfl).1
        have HR9 := Lib.hid ((HRQ.out.grown hgr (fun b e => by have := hlow _ e; omega)).grown (grownBy_setCell w9 ⟨NB, 1, none⟩ (.slice a6 (k + 1) c6)) (by simp; omega))
        clear hown hgrow hgr
        obtain ⟨⟨m0, e0⟩, m1, e1⟩ := HPU.out.net
        obtain ⟨⟨r0, z0⟩, r1, z1⟩ := HPU.out.res
        go_wp2_with fail
        refine bodyPost_ret (v := .agg #[.slice aT m cT, .slice a6 (k + 1) c6]) ?_ rfl ?_
        · have v0 : (((w9.setCell ⟨NB, 1, none⟩ (.slice a6 (k + 1) c6)).setCell ⟨w.heap.size, 0, none⟩ (.slice aT m cT)).setCell ⟨w.heap.size, 1, none⟩ (.slice a6 (k + 1) c6)).cell? ⟨w.heap.size, 0, none⟩ = some (.slice aT m cT) := ((HPU.out.res.set0 _).set1 _).1.1
          have v1 : (((w9.setCell ⟨NB, 1, none⟩ (.slice a6 (k + 1) c6)).setCell ⟨w.heap.size, 0, none⟩ (.slice aT m cT)).setCell ⟨w.heap.size, 1, none⟩ (.slice a6 (k + 1) c6)).cell? ⟨w.heap.size, 1, none⟩ = some (.slice a6 (k + 1) c6) := ((HPU.out.res.set0 _).set1 _).2.1
          simp [results, Try.results21, go_sem, v0, v1]
        · exact HPU.out.post hLw hLN (by omega) (by omega) HR9.out (by omega) hR rfl
      · have hqq0 : ((qq : Int) == 0) = false := by simp; omega
        by_cases hq01 : qq = 1
        · subst hq01
          by_cases hm0 : 0 < m
          · have hmI : (0 : Int) < (m : Int) := by omega
            obtain ⟨g, rfl, hgL, hgN, ⟨y, c0⟩, f0, hst2⟩ := HS6.out.time hR hLw hLN hm0 10
            have HX := Lib.hid hst2
            have HR9 := Lib.hid (hr6.grown (grownBy_setCell w6 ⟨g, 0, none⟩ (.int .i64 10)) (by simp; omega))
            obtain ⟨⟨n0, _⟩, n1, _⟩ := HS6.out.net
            clear hst2 hr6
            obtain ⟨⟨m0, e0⟩, m1, e1⟩ := HX.out.net
            obtain ⟨⟨r0, z0⟩, r1, z1⟩ := HX.out.res
            go_wp2_with fail
            refine bodyPost_ret (v := .agg #[.slice (some ⟨g, 0, none⟩) m cT, .slice a k cap]) ?_ rfl ?_
            · have v0 : (((w6.setCell ⟨g, 0, none⟩ (.int .i64 10)).setCell ⟨w.heap.size, 0, none⟩ (.slice (some ⟨g, 0, none⟩) m cT)).setCell ⟨w.heap.size, 1, none⟩ (.slice a k cap)).cell? ⟨w.heap.size, 0, none⟩ = some (.slice (some ⟨g, 0, none⟩) m cT) := ((HX.out.res.set0 _).set1 _).1.1
              have v1 : (((w6.setCell ⟨g, 0, none⟩ (.int .i64 10)).setCell ⟨w.heap.size, 0, none⟩ (.slice (some ⟨g, 0, none⟩) m cT)).setCell ⟨w.heap.size, 1, none⟩ (.slice a k cap)).cell? ⟨w.heap.size, 1, none⟩ = some (.slice a k cap) := ((HX.out.res.set0 _).set1 _).2.1
              simp [results, Try.results21, go_sem, v0, v1]
            · exact HX.out.post hLw hLN (by omega) (by omega) HR9.out (by omega) hR rfl
          · have hmI : ¬ (0 : Int) < (m : Int) := by omega
            obtain ⟨⟨m0, e0⟩, m1, e1⟩ := HS6.out.net
            obtain ⟨⟨r0, z0⟩, r1, z1⟩ := HS6.out.res
            go_wp2_with fail
            refine bodyPost_ret (v := .agg #[.slice aT m cT, .slice a k cap]) ?_ rfl ?_
            · have v0 : ((w6.setCell ⟨w.heap.size, 0, none⟩ (.slice aT m cT)).setCell ⟨w.heap.size, 1, none⟩ (.slice a k cap)).cell? ⟨w.heap.size, 0, none⟩ = some (.slice aT m cT) := ((HS6.out.res.set0 _).set1 _).1.1
              have v1 : ((w6.setCell ⟨w.heap.size, 0, none⟩ (.slice aT m cT)).setCell ⟨w.heap.size, 1, none⟩ (.slice a k cap)).cell? ⟨w.heap.size, 1, none⟩ = some (.slice a k cap) := ((HS6.out.res.set0 _).set1 _).2.1
              simp [results, Try.results21, go_sem, v0, v1]
            · exact HS6.out.post hLw hLN (by omega) (by omega) hr6 (by omega) hR rfl
        · have hqq1 : ((qq : Int) == 1) = false := by simp; omega
          obtain ⟨⟨m0, e0⟩, m1, e1⟩ := HS6.out.net
          obtain ⟨⟨r0, z0⟩, r1, z1⟩ := HS6.out.res
          go_wp2_with fail
          refine bodyPost_ret (v := .agg #[.slice aT m cT, .slice a k cap]) ?_ rfl ?_
          · have v0 : ((w6.setCell ⟨w.heap.size, 0, none⟩ (.slice aT m cT)).setCell ⟨w.heap.size, 1, none⟩ (.slice a k cap)).cell? ⟨w.heap.size, 0, none⟩ = some (.slice aT m cT) := ((HS6.out.res.set0 _).set1 _).1.1
            have v1 : ((w6.setCell ⟨w.heap.size, 0, none⟩ (.slice aT m cT)).setCell ⟨w.heap.size, 1, none⟩ (.slice a k cap)).cell? ⟨w.heap.size, 1, none⟩ = some (.slice a k cap) := ((HS6.out.res.set0 _).set1 _).2.1
            simp [results, Try.results21, go_sem, v0, v1]
          · exact HS6.out.post hLw hLN (by omega) (by omega) hr6 (by omega) hR rfl
end Go.Proofs.Ytkjmpkincaainad
