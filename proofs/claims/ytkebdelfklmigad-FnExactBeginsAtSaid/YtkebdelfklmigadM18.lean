import Derived.Test.YtkebdelfklmigadRows
import Derived.WalkKit
import Derived.LoopTactic
import Derived.Outline
import Derived.WalkSpells
import Derived.WalkLawsBesides
import Derived.ProofKit
import Derived.Lib.Hide
import Derived.IntWalk
import Derived.Test.YtkebdelfklmigadM0
import Derived.Test.YtkebdelfklmigadM2
import Derived.Test.YtkebdelfklmigadM8
import Derived.Test.YtkebdelfklmigadM17
import Derived.Test.YtkebdelfklmigadM7
import Derived.Deep.RegionLaw
import Derived.Deep.AppendLies
import Derived.Deep.RegionHeld3
import Derived.Test.YtkebdelfklmigadM1
import Derived.Test.YtkebdelfklmigadM3
import Derived.Test.YtkebdelfklmigadM4
import Derived.Deep.QuietTactic
import Derived.BigQuiet
import Derived.Test.YtkebdelfklmigadM15
namespace Go.Proofs.Ytkebdelfklmigad
open Go.RowKit Go.WideShapes

-- pairs
def pairB (r : List Int) : Bool := r.length == 2 && (inB 0 9 (r.getD 0 0) && inB 0 9 (r.getD 1 0))
def pairsM (rows : List (List Int)) : Bool := rows.all pairB && decide (rows.length ≤ 8)
theorem pairs_false {rows : List (List Int)} {k : Nat} {r : List Int} (h : rows[k]? = some r) (hr : pairB r = false) : pairsM rows = false := by
  unfold pairsM
  rw [List.all_eq_false.2 ⟨r, List.mem_of_getElem? h, by rw [hr]; simp⟩]; rfl
theorem pairs_get {rows : List (List Int)} (h : pairsM rows = true) : rows.length ≤ 8 ∧ ∀ r ∈ rows, r.length = 2 ∧ (0 ≤ r.getD 0 0 ∧ r.getD 0 0 ≤ 9) ∧ (0 ≤ r.getD 1 0 ∧ r.getD 1 0 ≤ 9) := by
  simp only [pairsM, Bool.and_eq_true, decide_eq_true_eq, List.all_eq_true] at h
  refine ⟨h.2, fun r hr => ?_⟩
  have := h.1 r hr
  simp only [pairB, Bool.and_eq_true, beq_iff_eq] at this
  exact ⟨this.1, by simpa [inB] using this.2.1, by simpa [inB] using this.2.2⟩
/-- the times of a job -/
def ta (rows : List (List Int)) (x : Nat) : Int := (rows.getD x []).getD 0 0
def tb (rows : List (List Int)) (x : Nat) : Int := (rows.getD x []).getD 1 0
theorem t_bd {rows : List (List Int)} (h : pairsM rows = true) (x : Nat) : (0 ≤ ta rows x ∧ ta rows x ≤ 9) ∧ (0 ≤ tb rows x ∧ tb rows x ≤ 9) := by
  obtain ⟨_, h2⟩ := pairs_get h
  unfold ta tb
  rcases Nat.lt_or_ge x rows.length with hx | hx
  · rw [List.getD_eq_getElem?_getD (l := rows), List.getElem?_eq_getElem hx]
    have := h2 rows[x] (List.getElem_mem hx)
    exact ⟨this.2.1, this.2.2⟩
  · rw [List.getD_eq_getElem?_getD (l := rows), List.getElem?_eq_none hx]; simp
theorem t_at {rows : List (List Int)} {x : Nat} {r : List Int} (h : rows[x]? = some r) : ta rows x = r.getD 0 0 ∧ tb rows x = r.getD 1 0 := by
  unfold ta tb; rw [List.getD_eq_getElem?_getD (l := rows), h]; exact ⟨rfl, rfl⟩
-- orders
def orderP (o : List Int) (n : Nat) : Prop := ((∀ x ∈ o, 0 ≤ x ∧ x < (n : Int)) ∧ o.Nodup) ∧ o.length = n
instance (o : List Int) (n : Nat) : Decidable (orderP o n) := by unfold orderP; infer_instance
def orderM (o : List Int) (n : Nat) : Bool := decide (orderP o n)
theorem orderM_get {o : List Int} {n : Nat} (h : orderM o n = true) : orderP o n := of_decide_eq_true h
def nO (o : List Int) : List Nat := o.map Int.toNat
theorem nO_perm {o : List Int} {n : Nat} (h : orderP o n) : (nO o).Perm (List.range n) := by
  obtain ⟨⟨h1, h2⟩, h3⟩ := h
  have hn : (nO o).Nodup := by
    refine List.pairwise_map.2 (h2.imp_of_mem (fun {x y} hx hy hne e => hne ?_))
    have := h1 x hx; have := h1 y hy; omega
  have hs : nO o ⊆ List.range n := fun x hx => by
    obtain ⟨y, hy, rfl⟩ := List.mem_map.1 hx
    have := h1 y hy; simp; omega
  refine (List.perm_ext_iff_of_nodup hn List.nodup_range).2 (fun x => ⟨fun hx => hs hx, fun hx => ?_⟩)
  apply Classical.byContradiction
  intro hm
  have : (x :: nO o).length ≤ (List.range n).length := List.Nodup.length_le_of_subset (List.nodup_cons.2 ⟨hm, hn⟩) (fun y hy => by
    rcases List.mem_cons.1 hy with rfl | hy
    · exact hx
    · exact hs hy)
  simp [nO] at this; omega
theorem order_bad {o : List Int} {n k : Nat} {x : Int} (h : o[k]? = some x) (hx : inB 0 ((n : Int) - 1) x = false) : orderM o n = false := by
  refine decide_eq_false (fun hp => ?_)
  have := hp.1.1 x (List.mem_of_getElem? h)
  unfold inB at hx
  simp only [decide_eq_false_iff_not] at hx
  omega
theorem order_twice {o : List Int} {n k : Nat} {x : Int} (h : o[k]? = some x) (hx : x ∈ o.take k) : orderM o n = false := by
  refine decide_eq_false (fun hp => ?_)
  have hn := hp.1.2
  have h2 : (o.take (k + 1)).Nodup := hn.sublist (List.take_sublist _ _)
  rw [take_get h] at h2
  exact (List.nodup_append.1 h2).2.2 x hx x (by simp) rfl
theorem nO_snoc {o : List Int} {k : Nat} {x : Int} (h : o[k]? = some x) : nO (o.take (k + 1)) = nO (o.take k) ++ [x.toNat] := by
  rw [take_get h]; simp [nO]
theorem run_bd {rows : List (List Int)} (hp : pairsM rows = true) (l : List Nat) : (0 ≤ (runT (ta rows) (tb rows) (0, 0) l).1 ∧ (runT (ta rows) (tb rows) (0, 0) l).1 ≤ 9 * (l.length : Int)) ∧ (0 ≤ (runT (ta rows) (tb rows) (0, 0) l).2 ∧ (runT (ta rows) (tb rows) (0, 0) l).2 ≤ 18 * (l.length : Int)) := by
  have h1 := runT_fst (ta rows) (tb rows) l (0, 0)
  have h2 := sumL_nn (fun x => (t_bd hp x).1.1) l
  have h3 := sumL_bd (fun x => (t_bd hp x).1.2) l
  have h4 := sumL_bd (fun x => (t_bd hp x).2.2) l
  have h5 := span_sums (fun x => (t_bd hp x).1.1) (fun x => (t_bd hp x).2.1) l
  have h6 := sumL_nn (fun x => (t_bd hp x).2.1) l
  unfold spanT at h5
  simp only at h1
  omega
/-- what SpanOf answers -/
def spanFine (rows : List (List Int)) (o : List Int) : Bool := pairsM rows && orderM o rows.length
def spanRes (rows : List (List Int)) (o : List Int) : Int := if spanFine rows o then spanT (ta rows) (tb rows) (nO o) else -1
theorem spanRes_no {rows : List (List Int)} {o : List Int} (h : spanFine rows o = false) : spanRes rows o = -1 := by unfold spanRes; rw [h]; rfl
theorem spanRes_yes {rows : List (List Int)} {o : List Int} (h : spanFine rows o = true) : spanRes rows o = spanT (ta rows) (tb rows) (nO o) := by unfold spanRes; rw [h]; rfl
theorem spanFine_get {rows : List (List Int)} {o : List Int} (h : spanFine rows o = true) : pairsM rows = true ∧ orderP o rows.length := by
  simp only [spanFine, Bool.and_eq_true] at h; exact ⟨h.1, orderM_get h.2⟩
end Go.Proofs.Ytkebdelfklmigad
namespace Go.Proofs.Ytkebdelfklmigad
open Go.RowKit Go.WideShapes

/-- v is a slice of the call's own, of rows of its own -/
def OwnRowsV (w : World) (B : Nat) (v : Value) (k : Nat) (rows : List (List Int)) : Prop := ∃ us : List Value, w.ownsRow B 23 1 v k us ∧ rows.length = k ∧
  ∀ (q : Nat) (u : Value), us[q]? = some u → ∃ (a : Option Addr) (l c : Nat) (r : List Int), rows[q]? = some r ∧ u = .slice a l c ∧ l ≤ c ∧ l ≤ 1048576 ∧ w.ownsRow B 3 1 u l (r.map (.int .i64))
theorem own_two (w : World) {B : Nat} (hB : B ≤ w.heap.size) (x y : Int) : (w.alloc (.cells #[.int .i64 x, .int .i64 y] 3)).ownsRow B 3 1 (.slice (some ⟨w.heap.size, 0, none⟩) 2 2) 2 ([x, y].map (.int .i64)) :=
  ⟨rfl, .inr ⟨w.heap.size, 2, _, rfl, hB, heap_alloc_new w _, Nat.le_refl _, by unfold maxLen; omega, rfl, rfl⟩⟩
theorem OwnRowsV.rows {w : World} {B k : Nat} {a : Option Addr} {cap : Nat} {rows : List (List Int)} (h : OwnRowsV w B (.slice a k cap) k rows) (hk : k ≤ 1048576) :
    RowsAt w (fun b => B ≤ b ∧ b < w.heap.size) a k rows := by
  obtain ⟨us, h1, h2, h3⟩ := h
  have hul : us.length = k := by have := h1.1; simpa using this
  refine ⟨h2, by omega, fun h0 => ?_⟩
  have hc := fun g hg => h1.cells (g := g) hg
  have hlt := h1.lt
  rcases h1.2 with ⟨e1, e2⟩ | ⟨g, cp, cur, e1, e2, _⟩
  · omega
  · injection e1 with e3 _ _
    subst e3
    refine ⟨g, 0, rfl, hlt g rfl, fun i r hr => ?_⟩
    have hi : i < us.length := by have := (List.getElem?_eq_some_iff.1 hr).1; omega
    obtain ⟨a', l, c, r', hr', hu, hlc, hl, hown⟩ := h3 i us[i] (List.getElem?_eq_getElem hi)
    rw [hr] at hr'
    injection hr' with hr'
    subst hr'
    rw [hu] at hown
    obtain ⟨a2, c2, e4, _, hints⟩ := own_ints hown (by omega)
    injection e4 with e5 _ _
    subst e5
    refine ⟨a', l, c, ?_, hlc, hints⟩
    have := hc g rfl i us[i] (List.getElem?_eq_getElem hi)
    rw [hu, add_plain] at this
    exact this
theorem OwnRowsV.push {w w' : World} {B k l : Nat} {v v' : Value} {a : Option Addr} {c : Nat} {rows : List (List Int)} {r : List Int} {us : List Value} (hv : w.ownsRow B 23 1 v k us) (hl : rows.length = k)
    (hus : ∀ (q : Nat) (u : Value), us[q]? = some u → ∃ (a : Option Addr) (l c : Nat) (r : List Int), rows[q]? = some r ∧ u = .slice a l c ∧ l ≤ c ∧ l ≤ 1048576 ∧ w.ownsRow B 3 1 u l (r.map (.int .i64)))
    (hu : w.ownsRow B 3 1 (.slice a l c) l (r.map (.int .i64))) (hlc : l ≤ c) (hl2 : l ≤ 1048576) (hv' : w'.ownsRow B 23 1 v' (k + 1) (us ++ [.slice a l c])) (hg : w.grownBy w' v.ownBlock) : OwnRowsV w' B v' (k + 1) (rows ++ [r]) := by
  have hul : us.length = k := by have := hv.1; simpa using this
  refine ⟨_, hv', by simp [hl], fun q u hq => ?_⟩
  rcases Nat.lt_or_ge q us.length with h | h
  · rw [List.getElem?_append_left h] at hq
    obtain ⟨a', l', c', r', h1, h2, h3, h4, h5⟩ := hus q u hq
    exact ⟨a', l', c', r', by rw [List.getElem?_append_left (by omega)]; exact h1, h2, h3, h4, h5.kept hg (own_ne h5 hv (by decide))⟩
  · rw [List.getElem?_append_right h] at hq
    have hq0 : q - us.length = 0 := by
      have := (List.getElem?_eq_some_iff.1 hq).1; simp at this; omega
    rw [hq0] at hq
    simp only [List.getElem?_cons_zero, Option.some.injEq] at hq
    subst hq
    exact ⟨a, l, c, r, by rw [List.getElem?_append_right (by omega), show q - rows.length = 0 by omega]; rfl, rfl, hlc, hl2, hu.kept hg (own_ne hu hv (by decide))⟩
def turnP (rows : List (List Int)) : List (List Int) := rows.map (fun r => [r.getD 1 0, r.getD 0 0])
end Go.Proofs.Ytkebdelfklmigad
namespace Go.Proofs.Ytkebdelfklmigad
open Go.RowKit Go.WideShapes

theorem one_cell_row (b m : Nat) (cp : Nat) : ∀ u ∈ ([.slice (some ⟨b, 0, none⟩) m cp] : List Value), u.oneCell' := fun u hu => by
  rw [List.mem_singleton.1 hu]; rfl
theorem own_lits (w : World) {B : Nat} (hB : B ≤ w.heap.size) {cs : Array Value} {r : List Int} {m : Nat} (hcs : cs.toList = r.map (.int .i64)) (hm : r.length = m) (hs : m ≤ 1048576) : (w.alloc (.cells cs 3)).ownsRow B 3 1 (.slice (some ⟨w.heap.size, 0, none⟩) m m) m (r.map (.int .i64)) := by
  have hz : cs.size = m := by rw [← Array.length_toList, hcs, List.length_map, hm]
  refine ⟨by simp [hm], .inr ⟨w.heap.size, m, cs, rfl, hB, heap_alloc_new w _, Nat.le_refl _, by unfold maxLen; omega, by rw [hz]; simp, ?_⟩⟩
  rw [hcs, List.take_of_length_le (by simp [hm])]
/-- append of a new row to rows of the call's own -/
theorem wpAppRow {ops : Array Oper} {rest : List Oper} {o : Oper} {a : Act} {Q : Exit → Act → World → Prop} {wo : World} (hgd : o.guard = none) (s x : Operand)
    (ho : o.op = .call { callee := .builtin .append, args := #[s, x], argTypes := #[24, 24] })
    (base k cp : Nat) (ax : Option Addr) (rows : List (List Int)) (r : List Int) (cs : Array Value) (m : Nat) (hs : a.eval s = .slice ax k cp)
    (hown : OwnRowsV wo base (.slice ax k cp) k rows) (hcs : cs.toList = r.map (.int .i64)) (hm : r.length = m) (hm2 : m ≤ 1048576) (hx : a.eval x = .slice (some ⟨wo.heap.size + 1, 0, none⟩) 1 1)
    (hbase : base ≤ wo.heap.size) (hk : k ≤ 1048576)
    (h : ∀ (a6 : Option Addr) (c6 : Nat) (w' : World), OwnRowsV w' base (.slice a6 (k + 1) c6) (k + 1) (rows ++ [r]) → k + 1 ≤ c6 → (∀ B w, B ≤ base → Below B w wo → Below B w w') →
      wpList Try.prog ops Q rest (a.put o.dst (.slice a6 (k + 1) c6)) w') :
    wpList Try.prog ops Q (o :: rest) a ((wo.alloc (.cells cs 3)).alloc (.cells #[.slice (some ⟨wo.heap.size, 0, none⟩) m m] 23)) := by
  obtain ⟨i1, hj, hy0, hy1, hy2⟩ := info_parts Try.infoInts
  obtain ⟨us, hv, hlr, hus⟩ := hown
  have hsz : (wo.alloc (.cells cs 3)).heap.size = wo.heap.size + 1 := by simp
  have hone := one_new (wo.alloc (.cells cs 3)) (.slice (some ⟨wo.heap.size, 0, none⟩) m m) 23
  rw [hsz] at hone
  refine wpList_append_own _ hgd s x 24 ho base 23 i1 (.slice none 0 0) 1 24 Try.underlying24 hj hy0 hy1 hy2 rfl (by decide) _ k us hs ((hv.alloc _).alloc _) ⟨wo.heap.size + 1, 0, none⟩ 1 1 [.slice (some ⟨wo.heap.size, 0, none⟩) m m] hx rfl hone (one_cell_row _ _ _) (by unfold maxLen; omega) (by omega) (by simp; omega) ?_
  intro v' w6 hown6 hgrow _
  obtain ⟨a6, c6, rfl, hc⟩ := own_slice hown6
  refine h a6 c6 w6 (OwnRowsV.push (a := some ⟨wo.heap.size, 0, none⟩) (c := m) (l := m) ((hv.alloc _).alloc _) hlr (fun q u hq => ?_) ((own_lits wo hbase hcs hm hm2).alloc _) (Nat.le_refl _) hm2 hown6 hgrow) hc (fun B w hB hb => ?_)
  · obtain ⟨a', l', c', r', e1, e2, e3, e4, e5⟩ := hus q u hq
    exact ⟨a', l', c', r', e1, e2, e3, e4, (e5.alloc _).alloc _⟩
  · refine ((hb.alloc (by omega) _).alloc (by simp; omega) _).grown hgrow (by simp; omega) (fun g hg => ?_)
    exact Nat.le_trans hB (own_block hv g hg)
end Go.Proofs.Ytkebdelfklmigad
namespace Go.Proofs.Ytkebdelfklmigad
open Go.RowKit Go.WideShapes

def keepRes (ts : List Int) (rows : List (List Int)) (up down : Int) : Bool := tokM ts rows && (inB 0 40 up && (inB 1 40 down && (grOf ts rows).keepB up down))
/-- block b holds these numbers, one to a worker, and may be written -/
def NumsB (w : World) (b n : Nat) (f : Nat → Int) : Prop := ∀ j, j < n → w.cell? ⟨b, j, none⟩ = some (.int .i64 (f j)) ∧ w.frozen? ⟨b, j, none⟩ = false
theorem NumsB.block {w w' : World} {b n : Nat} {f : Nat → Int} (h : NumsB w b n f) (e : w'.heap[b]? = w.heap[b]?) : NumsB w' b n f := fun j hj =>
  ⟨by rw [World.cell?_of_block (w := w) e]; exact (h j hj).1, by rw [World.frozen?_of_block (w := w) e]; exact (h j hj).2⟩
theorem NumsB.put {w : World} {b n : Nat} {f : Nat → Int} (h : NumsB w b n f) {k : Nat} (hk : k < n) (x : Int) : NumsB (w.setCell ⟨b, k, none⟩ (.int .i64 x)) b n (fun j => if j = k then x else f j) := fun j hj => by
  refine ⟨?_, by rw [World.frozen?_setCell]; exact (h j hj).2⟩
  dsimp only
  by_cases e : j = k
  · subst e
    rw [if_pos rfl]
    exact World.cell?_setCell_same _ _ _ (h j hj).1
  · rw [if_neg e, World.cell?_setCell_other _ _ _ _ (by intro e'; injection e' with _ e2; exact e e2.symm)]
    exact (h j hj).1
theorem numsB_new (w : World) (n : Nat) : NumsB (w.alloc (.cells (madeCells #[.int .i64 0] n) 3)) w.heap.size n (fun _ => 0) := fun j hj => by
  refine ⟨?_, World.frozen?_alloc_new w _ _ _⟩
  rw [World.cell?_alloc_new]
  simp [madeCells, hj, Nat.mod_one]
theorem Try.infoInt8 : (Try.prog.info? 3).map (fun i => (i.zero, i.size, i.bytes)) = some (some (.int .i64 0), 1, 8) := by kernel_rfl
theorem pas_step1 {g : Gr} {up down : Int} (a : Nat → Int) (j : Nat) (h : (g.pas up down a j).1 (g.t j) < (g.pas up down a j).1 (g.f j) + g.w up down j) : g.pas up down a (j + 1) = (fun q => if q = g.t j then (g.pas up down a j).1 (g.f j) + g.w up down j else (g.pas up down a j).1 q, true) := by rw [Gr.pas, if_pos h]
theorem pas_step0 {g : Gr} {up down : Int} (a : Nat → Int) (j : Nat) (h : ¬ (g.pas up down a j).1 (g.t j) < (g.pas up down a j).1 (g.f j) + g.w up down j) : g.pas up down a (j + 1) = g.pas up down a j := by rw [Gr.pas, if_neg h]
/-- the three numbers of a way, where they lie -/
theorem way_at {w : World} {S : Nat → Prop} {aW : Option Addr} {lW : Nat} {rows : List (List Int)} {ts : List Int} (h : RowsAt w S aW lW rows) (hv : tokM ts rows = true) {q : Nat} (hq : q < lW) :
    ∃ b off b' off' c, aW = some ⟨b, off, none⟩ ∧ w.cell? ⟨b, off + q, none⟩ = some (.slice (some ⟨b', off', none⟩) 3 c) ∧ w.cell? ⟨b', off', none⟩ = some (.int .i64 ((grOf ts rows).f q : Nat)) ∧ w.cell? ⟨b', off' + 1, none⟩ = some (.int .i64 ((grOf ts rows).t q : Nat)) ∧ w.cell? ⟨b', off' + 2, none⟩ = some (.int .i64 ((grOf ts rows).c q : Nat)) := by
  obtain ⟨b, off, r, a', lr, cr, rfl, hr, dr, _, hri⟩ := h.get hq
  obtain ⟨l3, e0, _, e1, _, e2, _⟩ := (tok_get hv).2.2.2 q r hr
  have hl3 : lr = 3 := by have := hri.lenEq; omega
  subst hl3
  obtain ⟨b', off', r0, rfl, hy, hd⟩ := hri.get (k := 0) (by omega)
  obtain ⟨b2, off2, r1, e', hy2, hd2⟩ := hri.get (k := 1) (by omega)
  cases e'
  obtain ⟨b3, off3, r2, e', hy3, hd3⟩ := hri.get (k := 2) (by omega)
  cases e'
  rw [Nat.add_zero] at hd
  rw [getD_of hy] at e0
  rw [getD_of hy2] at e1
  rw [getD_of hy3] at e2
  subst e0
  subst e1
  subst e2
  exact ⟨b, off, b', off', cr, rfl, dr, hd, hd2, hd3⟩
end Go.Proofs.Ytkebdelfklmigad
