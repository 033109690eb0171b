import Derived.Test.YtkjmpkincaainadRows
import Derived.WalkKit
import Derived.LoopTactic
import Derived.Outline
import Derived.WalkSpells
import Derived.WalkLawsBesides
import Derived.ProofKit
import Derived.Lib.Hide
import Derived.IntWalk
import Derived.Test.YtkjmpkincaainadM0
import Derived.Test.YtkjmpkincaainadM1
import Derived.Test.YtkjmpkincaainadM7
import Derived.Test.YtkjmpkincaainadM16
import Derived.Test.YtkjmpkincaainadM2
import Derived.Deep.RegionLaw
import Derived.Deep.AppendLies
import Derived.Deep.RegionHeld3
import Derived.Test.YtkjmpkincaainadM4
import Derived.Test.YtkjmpkincaainadM5
import Derived.Deep.QuietTactic
import Derived.BigQuiet
import Derived.Deep.LoopGhost
import Derived.StillTailTactics
import Derived.Test.YtkjmpkincaainadM15
import Derived.Test.YtkjmpkincaainadM6
import Derived.Test.YtkjmpkincaainadM11
import Derived.Test.YtkjmpkincaainadM12
namespace Go.Proofs.Ytkjmpkincaainad
open Go.RowKit Go.WideShapes

-- pairs
def pairB (r : List Int) : Bool := r.length == 2 && (inB 0 9 (r.getD 0 0) && inB 0 9 (r.getD 1 0))
def pairsM (rows : List (List Int)) : Bool := rows.all pairB && decide (rows.length ≤ 8)
theorem pairs_false {rows : List (List Int)} {k : Nat} {r : List Int} (h : rows[k]? = some r) (hr : pairB r = false) : pairsM rows = false := by
  unfold pairsM
  rw [List.all_eq_false.2 ⟨r, List.mem_of_getElem? h, by rw [hr]; simp⟩]; rfl
theorem pairs_get {rows : List (List Int)} (h : pairsM rows = true) : rows.length ≤ 8 ∧ ∀ r ∈ rows, r.length = 2 ∧ (0 ≤ r.getD 0 0 ∧ r.getD 0 0 ≤ 9) ∧ (0 ≤ r.getD 1 0 ∧ r.getD 1 0 ≤ 9) := by
  simp only [pairsM, Bool.and_eq_true, decide_eq_true_eq, List.all_eq_true] at h
  refine ⟨h.2, fun r hr => ?_⟩
  have := h.1 r hr
  simp only [pairB, Bool.and_eq_true, beq_iff_eq] at this
  exact ⟨this.1, by simpa [inB] using this.2.1, by simpa [inB] using this.2.2⟩
/-- the times of a job -/
def ta (rows : List (List Int)) (x : Nat) : Int := (rows.getD x []).getD 0 0
def tb (rows : List (List Int)) (x : Nat) : Int := (rows.getD x []).getD 1 0
theorem t_bd {rows : List (List Int)} (h : pairsM rows = true) (x : Nat) : (0 ≤ ta rows x ∧ ta rows x ≤ 9) ∧ (0 ≤ tb rows x ∧ tb rows x ≤ 9) := by
  obtain ⟨_, h2⟩ := pairs_get h
  unfold ta tb
  rcases Nat.lt_or_ge x rows.length with hx | hx
  · rw [List.getD_eq_getElem?_getD (l := rows), List.getElem?_eq_getElem hx]
    have := h2 rows[x] (List.getElem_mem hx)
    exact ⟨this.2.1, this.2.2⟩
  · rw [List.getD_eq_getElem?_getD (l := rows), List.getElem?_eq_none hx]; simp
theorem t_at {rows : List (List Int)} {x : Nat} {r : List Int} (h : rows[x]? = some r) : ta rows x = r.getD 0 0 ∧ tb rows x = r.getD 1 0 := by
  unfold ta tb; rw [List.getD_eq_getElem?_getD (l := rows), h]; exact ⟨rfl, rfl⟩
-- orders
def orderP (o : List Int) (n : Nat) : Prop := ((∀ x ∈ o, 0 ≤ x ∧ x < (n : Int)) ∧ o.Nodup) ∧ o.length = n
instance (o : List Int) (n : Nat) : Decidable (orderP o n) := by unfold orderP; infer_instance
def orderM (o : List Int) (n : Nat) : Bool := decide (orderP o n)
theorem orderM_get {o : List Int} {n : Nat} (h : orderM o n = true) : orderP o n := of_decide_eq_true h
def nO (o : List Int) : List Nat := o.map Int.toNat
theorem nO_perm {o : List Int} {n : Nat} (h : orderP o n) : (nO o).Perm (List.range n) := by
  obtain ⟨⟨h1, h2⟩, h3⟩ := h
  have hn : (nO o).Nodup := by
    refine List.pairwise_map.2 (h2.imp_of_mem (fun {x y} hx hy hne e => hne ?_))
    have := h1 x hx; have := h1 y hy; omega
  have hs : nO o ⊆ List.range n := fun x hx => by
    obtain ⟨y, hy, rfl⟩ := List.mem_map.1 hx
    have := h1 y hy; simp; omega
  refine (List.perm_ext_iff_of_nodup hn List.nodup_range).2 (fun x => ⟨fun hx => hs hx, fun hx => ?_⟩)
  apply Classical.byContradiction
  intro hm
  have : (x :: nO o).length ≤ (List.range n).length := List.Nodup.length_le_of_subset (List.nodup_cons.2 ⟨hm, hn⟩) (fun y hy => by
    rcases List.mem_cons.1 hy with rfl | hy
    · exact hx
    · exact hs hy)
  simp [nO] at this; omega
theorem order_bad {o : List Int} {n k : Nat} {x : Int} (h : o[k]? = some x) (hx : inB 0 ((n : Int) - 1) x = false) : orderM o n = false := by
  refine decide_eq_false (fun hp => ?_)
  have := hp.1.1 x (List.mem_of_getElem? h)
  unfold inB at hx
  simp only [decide_eq_false_iff_not] at hx
  omega
theorem order_twice {o : List Int} {n k : Nat} {x : Int} (h : o[k]? = some x) (hx : x ∈ o.take k) : orderM o n = false := by
  refine decide_eq_false (fun hp => ?_)
  have hn := hp.1.2
  have h2 : (o.take (k + 1)).Nodup := hn.sublist (List.take_sublist _ _)
  rw [take_get h] at h2
  exact (List.nodup_append.1 h2).2.2 x hx x (by simp) rfl
theorem nO_snoc {o : List Int} {k : Nat} {x : Int} (h : o[k]? = some x) : nO (o.take (k + 1)) = nO (o.take k) ++ [x.toNat] := by
  rw [take_get h]; simp [nO]
theorem run_bd {rows : List (List Int)} (hp : pairsM rows = true) (l : List Nat) : (0 ≤ (runT (ta rows) (tb rows) (0, 0) l).1 ∧ (runT (ta rows) (tb rows) (0, 0) l).1 ≤ 9 * (l.length : Int)) ∧ (0 ≤ (runT (ta rows) (tb rows) (0, 0) l).2 ∧ (runT (ta rows) (tb rows) (0, 0) l).2 ≤ 18 * (l.length : Int)) := by
  have h1 := runT_fst (ta rows) (tb rows) l (0, 0)
  have h2 := sumL_nn (fun x => (t_bd hp x).1.1) l
  have h3 := sumL_bd (fun x => (t_bd hp x).1.2) l
  have h4 := sumL_bd (fun x => (t_bd hp x).2.2) l
  have h5 := span_sums (fun x => (t_bd hp x).1.1) (fun x => (t_bd hp x).2.1) l
  have h6 := sumL_nn (fun x => (t_bd hp x).2.1) l
  unfold spanT at h5
  simp only at h1
  omega
/-- what SpanOf answers -/
def spanFine (rows : List (List Int)) (o : List Int) : Bool := pairsM rows && orderM o rows.length
def spanRes (rows : List (List Int)) (o : List Int) : Int := if spanFine rows o then spanT (ta rows) (tb rows) (nO o) else -1
theorem spanRes_no {rows : List (List Int)} {o : List Int} (h : spanFine rows o = false) : spanRes rows o = -1 := by unfold spanRes; rw [h]; rfl
theorem spanRes_yes {rows : List (List Int)} {o : List Int} (h : spanFine rows o = true) : spanRes rows o = spanT (ta rows) (tb rows) (nO o) := by unfold spanRes; rw [h]; rfl
theorem spanFine_get {rows : List (List Int)} {o : List Int} (h : spanFine rows o = true) : pairsM rows = true ∧ orderP o rows.length := by
  simp only [spanFine, Bool.and_eq_true] at h; exact ⟨h.1, orderM_get h.2⟩
end Go.Proofs.Ytkjmpkincaainad
namespace Go.Proofs.Ytkjmpkincaainad
open Go.RowKit Go.WideShapes

/-- v is a slice of the call's own, of rows of its own -/
def OwnRowsV (w : World) (B : Nat) (v : Value) (k : Nat) (rows : List (List Int)) : Prop := ∃ us : List Value, w.ownsRow B 23 1 v k us ∧ rows.length = k ∧
  ∀ (q : Nat) (u : Value), us[q]? = some u → ∃ (a : Option Addr) (l c : Nat) (r : List Int), rows[q]? = some r ∧ u = .slice a l c ∧ l ≤ c ∧ l ≤ 1048576 ∧ w.ownsRow B 3 1 u l (r.map (.int .i64))
theorem own_two (w : World) {B : Nat} (hB : B ≤ w.heap.size) (x y : Int) : (w.alloc (.cells #[.int .i64 x, .int .i64 y] 3)).ownsRow B 3 1 (.slice (some ⟨w.heap.size, 0, none⟩) 2 2) 2 ([x, y].map (.int .i64)) :=
  ⟨rfl, .inr ⟨w.heap.size, 2, _, rfl, hB, heap_alloc_new w _, Nat.le_refl _, by unfold maxLen; omega, rfl, rfl⟩⟩
theorem OwnRowsV.rows {w : World} {B k : Nat} {a : Option Addr} {cap : Nat} {rows : List (List Int)} (h : OwnRowsV w B (.slice a k cap) k rows) (hk : k ≤ 1048576) :
    RowsAt w (fun b => B ≤ b ∧ b < w.heap.size) a k rows := by
  obtain ⟨us, h1, h2, h3⟩ := h
  have hul : us.length = k := by have := h1.1; simpa using this
  refine ⟨h2, by omega, fun h0 => ?_⟩
  have hc := fun g hg => h1.cells (g := g) hg
  have hlt := h1.lt
  rcases h1.2 with ⟨e1, e2⟩ | ⟨g, cp, cur, e1, e2, _⟩
  · omega
  · injection e1 with e3 _ _
    subst e3
    refine ⟨g, 0, rfl, hlt g rfl, fun i r hr => ?_⟩
    have hi : i < us.length := by have := (List.getElem?_eq_some_iff.1 hr).1; omega
    obtain ⟨a', l, c, r', hr', hu, hlc, hl, hown⟩ := h3 i us[i] (List.getElem?_eq_getElem hi)
    rw [hr] at hr'
    injection hr' with hr'
    subst hr'
    rw [hu] at hown
    obtain ⟨a2, c2, e4, _, hints⟩ := own_ints hown (by omega)
    injection e4 with e5 _ _
    subst e5
    refine ⟨a', l, c, ?_, hlc, hints⟩
    have := hc g rfl i us[i] (List.getElem?_eq_getElem hi)
    rw [hu, add_plain] at this
    exact this
theorem OwnRowsV.push {w w' : World} {B k l : Nat} {v v' : Value} {a : Option Addr} {c : Nat} {rows : List (List Int)} {r : List Int} {us : List Value} (hv : w.ownsRow B 23 1 v k us) (hl : rows.length = k)
    (hus : ∀ (q : Nat) (u : Value), us[q]? = some u → ∃ (a : Option Addr) (l c : Nat) (r : List Int), rows[q]? = some r ∧ u = .slice a l c ∧ l ≤ c ∧ l ≤ 1048576 ∧ w.ownsRow B 3 1 u l (r.map (.int .i64)))
    (hu : w.ownsRow B 3 1 (.slice a l c) l (r.map (.int .i64))) (hlc : l ≤ c) (hl2 : l ≤ 1048576) (hv' : w'.ownsRow B 23 1 v' (k + 1) (us ++ [.slice a l c])) (hg : w.grownBy w' v.ownBlock) : OwnRowsV w' B v' (k + 1) (rows ++ [r]) := by
  have hul : us.length = k := by have := hv.1; simpa using this
  refine ⟨_, hv', by simp [hl], fun q u hq => ?_⟩
  rcases Nat.lt_or_ge q us.length with h | h
  · rw [List.getElem?_append_left h] at hq
    obtain ⟨a', l', c', r', h1, h2, h3, h4, h5⟩ := hus q u hq
    exact ⟨a', l', c', r', by rw [List.getElem?_append_left (by omega)]; exact h1, h2, h3, h4, h5.kept hg (own_ne h5 hv (by decide))⟩
  · rw [List.getElem?_append_right h] at hq
    have hq0 : q - us.length = 0 := by
      have := (List.getElem?_eq_some_iff.1 hq).1; simp at this; omega
    rw [hq0] at hq
    simp only [List.getElem?_cons_zero, Option.some.injEq] at hq
    subst hq
    exact ⟨a, l, c, r, by rw [List.getElem?_append_right (by omega), show q - rows.length = 0 by omega]; rfl, rfl, hlc, hl2, hu.kept hg (own_ne hu hv (by decide))⟩
def turnP (rows : List (List Int)) : List (List Int) := rows.map (fun r => [r.getD 1 0, r.getD 0 0])
end Go.Proofs.Ytkjmpkincaainad
namespace Go.Proofs.Ytkjmpkincaainad
open Go.RowKit Go.WideShapes

theorem one_cell_row (b m : Nat) (cp : Nat) : ∀ u ∈ ([.slice (some ⟨b, 0, none⟩) m cp] : List Value), u.oneCell' := fun u hu => by
  rw [List.mem_singleton.1 hu]; rfl
theorem own_lits (w : World) {B : Nat} (hB : B ≤ w.heap.size) {cs : Array Value} {r : List Int} {m : Nat} (hcs : cs.toList = r.map (.int .i64)) (hm : r.length = m) (hs : m ≤ 1048576) : (w.alloc (.cells cs 3)).ownsRow B 3 1 (.slice (some ⟨w.heap.size, 0, none⟩) m m) m (r.map (.int .i64)) := by
  have hz : cs.size = m := by rw [← Array.length_toList, hcs, List.length_map, hm]
  refine ⟨by simp [hm], .inr ⟨w.heap.size, m, cs, rfl, hB, heap_alloc_new w _, Nat.le_refl _, by unfold maxLen; omega, by rw [hz]; simp, ?_⟩⟩
  rw [hcs, List.take_of_length_le (by simp [hm])]
/-- append of a new row to rows of the call's own -/
theorem wpAppRow {ops : Array Oper} {rest : List Oper} {o : Oper} {a : Act} {Q : Exit → Act → World → Prop} {wo : World} (hgd : o.guard = none) (s x : Operand)
    (ho : o.op = .call { callee := .builtin .append, args := #[s, x], argTypes := #[24, 24] })
    (base k cp : Nat) (ax : Option Addr) (rows : List (List Int)) (r : List Int) (cs : Array Value) (m : Nat) (hs : a.eval s = .slice ax k cp)
    (hown : OwnRowsV wo base (.slice ax k cp) k rows) (hcs : cs.toList = r.map (.int .i64)) (hm : r.length = m) (hm2 : m ≤ 1048576) (hx : a.eval x = .slice (some ⟨wo.heap.size + 1, 0, none⟩) 1 1)
    (hbase : base ≤ wo.heap.size) (hk : k ≤ 1048576)
    (h : ∀ (a6 : Option Addr) (c6 : Nat) (w' : World), OwnRowsV w' base (.slice a6 (k + 1) c6) (k + 1) (rows ++ [r]) → k + 1 ≤ c6 → (∀ B w, B ≤ base → Below B w wo → Below B w w') →
      wpList Try.prog ops Q rest (a.put o.dst (.slice a6 (k + 1) c6)) w') :
    wpList Try.prog ops Q (o :: rest) a ((wo.alloc (.cells cs 3)).alloc (.cells #[.slice (some ⟨wo.heap.size, 0, none⟩) m m] 23)) := by
  obtain ⟨i1, hj, hy0, hy1, hy2⟩ := info_parts Try.infoInts
  obtain ⟨us, hv, hlr, hus⟩ := hown
  have hsz : (wo.alloc (.cells cs 3)).heap.size = wo.heap.size + 1 := by simp
  have hone := one_new (wo.alloc (.cells cs 3)) (.slice (some ⟨wo.heap.size, 0, none⟩) m m) 23
  rw [hsz] at hone
  refine wpList_append_own _ hgd s x 24 ho base 23 i1 (.slice none 0 0) 1 24 Try.underlying24 hj hy0 hy1 hy2 rfl (by decide) _ k us hs ((hv.alloc _).alloc _) ⟨wo.heap.size + 1, 0, none⟩ 1 1 [.slice (some ⟨wo.heap.size, 0, none⟩) m m] hx rfl hone (one_cell_row _ _ _) (by unfold maxLen; omega) (by omega) (by simp; omega) ?_
  intro v' w6 hown6 hgrow _
  obtain ⟨a6, c6, rfl, hc⟩ := own_slice hown6
  refine h a6 c6 w6 (OwnRowsV.push (a := some ⟨wo.heap.size, 0, none⟩) (c := m) (l := m) ((hv.alloc _).alloc _) hlr (fun q u hq => ?_) ((own_lits wo hbase hcs hm hm2).alloc _) (Nat.le_refl _) hm2 hown6 hgrow) hc (fun B w hB hb => ?_)
  · obtain ⟨a', l', c', r', e1, e2, e3, e4, e5⟩ := hus q u hq
    exact ⟨a', l', c', r', e1, e2, e3, e4, (e5.alloc _).alloc _⟩
  · refine ((hb.alloc (by omega) _).alloc (by simp; omega) _).grown hgrow (by simp; omega) (fun g hg => ?_)
    exact Nat.le_trans hB (own_block hv g hg)
end Go.Proofs.Ytkjmpkincaainad
namespace Go.Proofs.Ytkjmpkincaainad
open Go.RowKit Go.WideShapes

theorem OwnRowsV.keep0 {w w' : World} {B k : Nat} {v : Value} {rows : List (List Int)} (h : OwnRowsV w B v k rows) (hg : Below w.heap.size w w') : OwnRowsV w' B v k rows := by
  obtain ⟨us, h1, h2, h3⟩ := h
  have g0 : w.grownBy w' none := ⟨hg.os, hg.tape, hg.output, hg.size, fun b hb _ => hg.block b hb⟩
  exact ⟨us, h1.kept g0 (by cases v.ownBlock <;> simp), h2, fun q u hq => by
    obtain ⟨a, l, c, r, e1, e2, e3, e4, e5⟩ := h3 q u hq
    exact ⟨a, l, c, r, e1, e2, e3, e4, e5.kept g0 (by cases u.ownBlock <;> simp)⟩⟩
/-- append of a row of the call's own to rows of the call's own -/
theorem wpAppOwn {ops : Array Oper} {rest : List Oper} {o : Oper} {a : Act} {Q : Exit → Act → World → Prop} {wo : World} (hgd : o.guard = none) (s x : Operand)
    (ho : o.op = .call { callee := .builtin .append, args := #[s, x], argTypes := #[24, 24] })
    (base k cp : Nat) (ax : Option Addr) (rows : List (List Int)) (ar : Option Addr) (l c : Nat) (r : List Int) (hs : a.eval s = .slice ax k cp)
    (hown : OwnRowsV wo base (.slice ax k cp) k rows) (hu : wo.ownsRow base 3 1 (.slice ar l c) l (r.map (.int .i64))) (hlc : l ≤ c) (hl2 : l ≤ 1048576) (hx : a.eval x = .slice (some ⟨wo.heap.size, 0, none⟩) 1 1)
    (hbase : base ≤ wo.heap.size) (hk : k ≤ 1048576)
    (h : ∀ (a6 : Option Addr) (c6 : Nat) (w' : World), OwnRowsV w' base (.slice a6 (k + 1) c6) (k + 1) (rows ++ [r]) → k + 1 ≤ c6 → (∀ B w, B ≤ base → Below B w wo → Below B w w') →
      wpList Try.prog ops Q rest (a.put o.dst (.slice a6 (k + 1) c6)) w') :
    wpList Try.prog ops Q (o :: rest) a (wo.alloc (.cells #[.slice ar l c] 23)) := by
  obtain ⟨i1, hj, hy0, hy1, hy2⟩ := info_parts Try.infoInts
  obtain ⟨us, hv, hlr, hus⟩ := hown
  have hone := one_new wo (.slice ar l c) 23
  refine wpList_append_own _ hgd s x 24 ho base 23 i1 (.slice none 0 0) 1 24 Try.underlying24 hj hy0 hy1 hy2 rfl (by decide) _ k us hs (hv.alloc _) ⟨wo.heap.size, 0, none⟩ 1 1 [.slice ar l c] hx rfl hone (fun u hu => by rw [List.mem_singleton.1 hu]; rfl) (by unfold maxLen; omega) (by omega) (by simp; omega) ?_
  intro v' w6 hown6 hgrow _
  obtain ⟨a6, c6, rfl, hc⟩ := own_slice hown6
  refine h a6 c6 w6 (OwnRowsV.push (a := ar) (c := c) (l := l) (hv.alloc _) hlr (fun q u hq => ?_) (hu.alloc _) hlc hl2 hown6 hgrow) hc (fun B w hB hb => ?_)
  · obtain ⟨a', l', c', r', e1, e2, e3, e4, e5⟩ := hus q u hq
    exact ⟨a', l', c', r', e1, e2, e3, e4, e5.alloc _⟩
  · refine (hb.alloc (by omega) _).grown hgrow (by simp; omega) (fun g hg => ?_)
    exact Nat.le_trans hB (own_block hv g hg)
def RowsP (w : World) (rows : List (List Int)) (e : Ending) (w' : World) : Prop := ∃ (a : Option Addr) (len cap : Nat), e = .returned (.slice a len cap) ∧ RowsAt w' (fun b => w.heap.size ≤ b ∧ b < w'.heap.size) a len rows ∧ len ≤ cap ∧ Below w.heap.size w w'
set_option maxRecDepth 100000 in
set_option maxHeartbeats 8000000 in
theorem begins_any (d : NV) (ts : List Int) (rows : List (List Int)) (R : Nat) (w : World) (h : NetAt w (· < w.heap.size) d ts rows) (hal : aliveB ts rows = true) (hR : R ≤ 40) :
    Calls Try.prog 32 #[.agg #[.slice d.aT d.lT d.cT, .slice d.aW d.lW d.cW], .int .i64 R] w (RowsP w (bRows ts rows R)) := by
  obtain ⟨hv, hnd⟩ := alive_get hal
  have hok := gr_ok hv
  obtain ⟨rk, hrk⟩ := rank_of hok hnd
  have HA := Lib.hid (fun w' (hb : Below w.heap.size w w') => net_lift h hb)
  obtain ⟨aT, lT, cT, aW, lW, cW⟩ := d
  have hTL : ts.length = lT := h.t.lenEq
  have hWL : rows.length = lW := h.r.lenEq
  clear h
  have HG := Lib.hid (fun (w' : World) (hb : Below w.heap.size w w') (q : Nat) (hq : q < lW) => way_at (HA.out w' hb).r hv hq)
  have HTM := Lib.hid (fun (w' : World) (hb : Below w.heap.size w w') (v : Nat) (hv : v < lT) => (show ∃ b off, aT = some ⟨b, off, none⟩ ∧ w'.cell? ⟨b, off + v, none⟩ = some (.int .i64 ((grOf ts rows).tm v)) by
    obtain ⟨b, off, x, e, hx, hc⟩ := (HA.out w' hb).t.get hv
    exact ⟨b, off, e, by rw [hc]; show _ = some (Value.int .i64 (ts.getD v 0)); rw [getD_of hx]⟩))
  have hn : (grOf ts rows).n = lT := hTL
  have hm : (grOf ts rows).m = lW := hWL
  have HSN := Lib.hid (fun r => bRows_snoc ts rows r)
  have HBG := Lib.hid (fun (r q : Nat) (h : q < r) => @bRows_get ts rows r q h)
  rw [hTL] at HSN HBG
  have HBL := Lib.hid (fun r => bRows_len ts rows r)
  obtain ⟨g, hg⟩ : ∃ g, grOf ts rows = g := ⟨_, rfl⟩
  rw [hg] at hok hrk HG HTM hn hm HSN HBG
  obtain ⟨BR, hBR⟩ : ∃ BR, bRows ts rows = BR := ⟨_, rfl⟩
  rw [hBR] at HSN HBG HBL ⊢
  have HB00 : Hid (BR 0 = []) := Lib.hid (by rw [← hBR]; rfl)
  have h4 := hok.n4
  have h7 := hok.m7
  rw [hn] at h4
  rw [hm] at h7
  have HOK := Lib.hid hok
  have HRK := Lib.hid hrk
  have HN := Lib.hid hn
  have HM := Lib.hid hm
  have HTI := Lib.hid hok.times
  have HWY := Lib.hid (fun k (hk : k < lW) => (show g.f k < lT ∧ g.t k < lT ∧ g.c k ≤ 3 by have := hok.ways k (by rw [hm]; exact hk); rw [hn] at this; exact this))
  have HBD := Lib.hid (fun r v (hr : r ≤ 40) (hv : v < lT) => b_bd2 hok hrk (r := r) (v := v) hr (by rw [hn]; exact hv))
  have hmk := fun w => run_make_row' (P := Try.prog) 23 3 (.int .i64 0) 8 Try.underlying23 Try.infoInt8 rfl .i64 .i64 lT (by omega) (by omega) w
  clear hal hv hnd hok hrk hTL hWL hg hBR hn hm
  have hb0 := (Below.refl w.heap.size w).alloc (Nat.le_refl _) (.cells #[.slice aT lT cT, .slice aW lW cW] 26)
  have hn0 := netB_new w aT lT cT aW lW cW 26
  have hz0 : (w.alloc (.cells #[.slice aT lT cT, .slice aW lW cW] 26)).heap.size = w.heap.size + 1 := by simp
  obtain ⟨w1, hw1⟩ : ∃ w1, (w.alloc (.cells #[.slice aT lT cT, .slice aW lW cW] 26)) = w1 := ⟨_, rfl⟩
  rw [hw1] at hb0 hn0 hz0
  have HW1 := Lib.hid hw1
  have ho2 : OwnRowsV (w1.alloc (.cells #[] 23)) (w.heap.size + 1) (.slice (some ⟨w.heap.size + 1, 0, none⟩) 0 0) 0 (BR 0) := by
    rw [HB00.out, ← hz0]
    exact ⟨[], World.ownsRow_made (e := 23) (size := 1) w1 #[] 0 (Nat.le_refl _) (Nat.zero_le _) rfl, rfl, fun q u hq => by cases hq⟩
  have hb2 := hb0.alloc (by omega) (.cells #[] 23)
  have hn2 : NetB (w1.alloc (.cells #[] 23)) w.heap.size ⟨aT, lT, cT, aW, lW, cW⟩ := hn0.block (Below.heap_alloc _ _ _ (by omega))
  have hz2 : w.heap.size + 1 ≤ (w1.alloc (.cells #[] 23)).heap.size := by simp; omega
  obtain ⟨w2, hw2⟩ : ∃ w2, (w1.alloc (.cells #[] 23)) = w2 := ⟨_, rfl⟩
  rw [hw2] at ho2 hb2 hn2 hz2
  have HW2 := Lib.hid hw2
  have HZ0 := Lib.hid hz0
  have HO2 := Lib.hid ho2
  have HB2 := Lib.hid hb2
  have HN2 := Lib.hid hn2
  have HZ2 := Lib.hid hz2
  clear hw1 hw2 hb0 hn0 hz0 ho2 hb2 hn2 hz2
  go_enter Try.func32, Try.ntmps32
  go_wp2_with fail
  rw [HW1.out, HW2.out]
  go_loopw [5, 6] (fun s5 s6 wr => ∃ (r cp : Nat) (ax : Option Addr), s6 = .int .i64 r ∧ s5 = .slice ax r cp ∧ r ≤ R ∧ r ≤ cp ∧ OwnRowsV wr (w.heap.size + 1) (.slice ax r cp) r (BR r) ∧ NetB wr w.heap.size ⟨aT, lT, cT, aW, lW, cW⟩ ∧ Below w.heap.size w wr ∧ w.heap.size + 1 ≤ wr.heap.size) (fun _ s6 _ => R - (intOf s6).toNat)
  case atStart => exact ⟨0, 0, _, rfl, rfl, by omega, by omega, HO2.out, HN2.out, HB2.out, HZ2.out⟩
  case round =>
    clear HO2 HN2 HB2 HZ2
    obtain ⟨r, cp, ax, rfl, rfl, hr, hrc, hown, hnb, hb, hsz⟩ := hrel
    obtain ⟨ws, rfl⟩ : ∃ ws : World, ws = wr := ⟨_, rfl⟩
    have HOWN := Lib.hid hown
    have HNB := Lib.hid hnb
    have HB := Lib.hid hb
    clear hown hnb hb
    by_cases hrR : r < R
    · have hrI : (r : Int) < (R : Int) := by omega
      obtain ⟨n0, n1⟩ := HNB.out
      dsimp only at n0 n1
      go_wp2_with fail
      clear hmk n0 n1
      have HF0 := Lib.hid (OwnF.start ws lT (by omega))
      have HL0 : Hid (g.low r (fun _ => 0)) := Lib.hid (fun v hv => ⟨Int.le_refl _, b_nn g r v⟩)
      have HNBX := Lib.hid (fun w' (h : Below ws.heap.size ws w') => And.intro (HNB.out.block (h.block _ HNB.out.lt)) (HB.out.trans (h.mono HB.out.size)))
      go_loopg [8] (mu (fun v => g.b r v - 0) g.n + 1) (fun gh s8 wb => ∃ (ag : Bool) (X : Nat → Int), s8 = .bool ag ∧ gh = (if ag = true then mu (fun v => g.b r v - X v) g.n + 1 else 0) ∧ OwnF ws wb lT X ∧ g.low r X ∧ (ag = false → ∀ k, k < g.m → g.c k ≤ r → g.val r X k ≤ X (g.t k)))
      case atStart => exact ⟨true, fun _ => 0, rfl, rfl, HF0.out, HL0.out, fun e => by cases e⟩
      case round =>
        clear HF0 HL0
        obtain ⟨ag, X, rfl, hgk, hof, hlow, hdone⟩ := hrel
        obtain ⟨wb, rfl⟩ : ∃ wb : World, wb = wr := ⟨_, rfl⟩
        have HGK := Lib.hid hgk
        have HOFB := Lib.hid hof
        have HLOWB := Lib.hid hlow
        have HDONE := Lib.hid hdone
        clear hgk hof hlow hdone
        cases ag
        · -- nothing rises any more
          have hX := row_done HOK.out HRK.out (show r ≤ 40 by omega) HLOWB.out (HDONE.out rfl)
          have HTAB : Hid (BR r ++ [tab X lT] = BR (r + 1)) := Lib.hid (by rw [HSN.out r, tab_congr (fun v hv => hX v (by rw [HN.out]; exact hv))])
          have HOB := Lib.hid (HOWN.out.keep0 HOFB.out.below)
          have HU : Hid (wb.ownsRow (w.heap.size + 1) 3 1 (.slice (some ⟨ws.heap.size, 0, none⟩) lT lT) lT ((tab X lT).map (.int .i64))) := Lib.hid (own_base HOFB.out.own hsz)
          have HBB := Lib.hid (HNBX.out wb HOFB.out.below)
          have hsb : w.heap.size + 1 ≤ wb.heap.size := Nat.le_trans hsz HOFB.out.below.size
          clear hX
          go_wp2_with (at_builtin; refine wpAppOwn (wo := wb) rfl _ _ rfl (w.heap.size + 1) r cp ax (BR r) (some ⟨ws.heap.size, 0, none⟩) lT lT (tab X lT) rfl HOB.out HU.out (Nat.le_refl _) (by omega) rfl hsb (by omega) ?_)
          intro a6 c6 w6 hown6 hc6 hbel6
          rw [HTAB.out] at hown6
          have HO6 := Lib.hid hown6
          have HB6 := Lib.hid (hbel6 w.heap.size w (Nat.le_succ _) HBB.out.2)
          have HBX6 := Lib.hid (hbel6 (w.heap.size + 1) wb (Nat.le_refl _) (Below.refl _ _))
          have HN6 := Lib.hid (HBB.out.1.block (HBX6.out.block _ (Nat.lt_succ_self _)))
          have hs6 : w.heap.size + 1 ≤ w6.heap.size := Nat.le_trans hsb HBX6.out.size
          clear hown6 hbel6
          go_wp2_with fail
          go_roundw
          case rel => exact ⟨r + 1, c6, a6, by go_num, rfl, by omega, hc6, HO6.out, HN6.out, HB6.out, hs6⟩
          case measure => simp [intOf]; omega
        · go_wp2_with fail
          go_loopw [8, 9] (fun s8 s9 wc => ∃ (k : Nat) (cg : Bool) (Y : Nat → Int), s9 = .int .i64 k ∧ s8 = .bool cg ∧ k ≤ lW ∧ OwnF ws wc lT Y ∧ g.low r Y ∧ mu (fun v => g.b r v - Y v) g.n ≤ mu (fun v => g.b r v - X v) g.n ∧ (cg = true → mu (fun v => g.b r v - Y v) g.n < mu (fun v => g.b r v - X v) g.n) ∧ (cg = false → ∀ q, q < k → g.c q ≤ r → g.val r Y q ≤ Y (g.t q))) (fun _ s9 _ => lW - (intOf s9).toNat)
          case atStart => exact ⟨0, false, X, rfl, rfl, by omega, HOFB.out, HLOWB.out, Nat.le_refl _, (by intro e; cases e), (fun _ q hq => by omega)⟩
          case round =>
            clear HOFB HLOWB
            obtain ⟨k, cg, Y, rfl, rfl, hk, hof, hlow, hmu, hmu2, hall⟩ := hrel
            obtain ⟨wi, rfl⟩ : ∃ wi : World, wi = wr := ⟨_, rfl⟩
            have HOF := Lib.hid hof
            have HLOW := Lib.hid hlow
            have HMU := Lib.hid hmu
            have HMUT := Lib.hid hmu2
            have HALL := Lib.hid hall
            clear hof hlow hmu hmu2 hall
            obtain ⟨hnb, hbw⟩ := HNBX.out wi HOF.out.below
            obtain ⟨n0, n1⟩ := hnb
            dsimp only at n0 n1
            by_cases hkl : k < lW
            · have hkI : (k : Int) < (lW : Int) := by omega
              obtain ⟨b, off, b', off', c, rfl, dr, d0, d1, d2⟩ := HG.out wi hbw k hkl
              obtain ⟨hf, ht, hc⟩ := HWY.out k hkl
              obtain ⟨bt, ot, rfl, dt⟩ := HTM.out wi hbw (g.f k) hf
              have hr40 : r ≤ 40 := by omega
              have hti := HTI.out (g.f k)
              have hfI : (((g.f k : Nat) : Int)) < (lT : Int) := by omega
              have htI : (((g.t k : Nat) : Int)) < (lT : Int) := by omega
              have hk7 : k < 7 := by omega
              by_cases hcr : g.c k ≤ r
              · have hneg : ¬ (r : Int) - ((g.c k : Nat) : Int) < 0 := by omega
                have hlf := HLOW.out (g.f k) (by rw [HN.out]; exact hf)
                have hlt' := HLOW.out (g.t k) (by rw [HN.out]; exact ht)
                have hbf := HBD.out r (g.f k) hr40 hf
                have hbt := HBD.out r (g.t k) hr40 ht
                obtain ⟨cf, _⟩ := HOF.out.cell hf
                obtain ⟨ct, ft⟩ := HOF.out.cell ht
                by_cases hc0 : g.c k = 0
                · have HFX := Lib.hid (show ∀ w' : World, w'.heap = wi.heap → w'.cell? ⟨w.heap.size, 0, none⟩ = some (.slice (some ⟨bt, ot, none⟩) lT cT) ∧ w'.cell? ⟨b', off', none⟩ = some (.int .i64 (g.f k)) ∧ w'.cell? ⟨b', off' + 1, none⟩ = some (.int .i64 (g.t k)) ∧ w'.cell? ⟨bt, ot + g.f k, none⟩ = some (.int .i64 (g.tm (g.f k))) ∧ w'.cell? ⟨ws.heap.size, g.t k, none⟩ = some (.int .i64 (Y (g.t k))) ∧ w'.frozen? ⟨ws.heap.size, g.t k, none⟩ = false from fun w' e => by have e2 : ∀ p, w'.cell? p = wi.cell? p := fun p => World.cell?_of_block (w := wi) (by rw [e]); have e3 : ∀ p, w'.frozen? p = wi.frozen? p := fun p => World.frozen?_of_block (w := wi) (by rw [e]); rw [e2, e2, e2, e2, e2, e3]; exact ⟨n0, d0, d1, dt, ct, ft⟩)
                  have HVAL : Hid (g.val r Y k = Y (g.f k) + g.tm (g.f k)) := Lib.hid (by unfold Gr.val; rw [if_pos hc0])
                  have hfr : ¬ (r : Int) - ((g.c k : Nat) : Int) < (r : Int) := by omega
                  by_cases hlt : Y (g.t k) < Y (g.f k) + g.tm (g.f k)
                  · have HPUT := Lib.hid (HOF.out.put (g.t k) (Y (g.f k) + g.tm (g.f k)))
                    have HLW := Lib.hid (low_put HOK.out HRK.out hr40 (by rw [HM.out]; exact hkl) hcr HLOW.out)
                    have HMU2 := Lib.hid (mu_put HOK.out HRK.out hr40 (by rw [HM.out]; exact hkl) hcr HLOW.out (by rw [HVAL.out]; exact hlt))
                    rw [HVAL.out] at HLW HMU2
                    go_wp2_with fail
                    go_quiet (fail)
                    obtain ⟨wz, hwz⟩ : ∃ x, wi.drewN nq = x := ⟨_, rfl⟩
                    rw [hwz]
                    have HEwz : Hid (wz.heap = wi.heap) := Lib.hid (by rw [← hwz]; rfl)
                    have HDwz : Hid (Drew wi wz) := Lib.hid (by rw [← hwz]; exact ⟨nq, rfl⟩)
                    clear hwz
                    obtain ⟨g0, g1, g2, g3, g4, g5⟩ := HFX.out wz HEwz.out
                    clear n0 d0 d1 dt ct ft cf
                    go_wp2_with fail
                    go_still_tail 14, (by kernel_rfl)
                    go_wp2_with fail
                    go_roundw
                    case rel => exact ⟨k + 1, true, fun v => if v = g.t k then Y (g.f k) + g.tm (g.f k) else Y v, by go_num, rfl, by omega, by obtain ⟨qq, rfl⟩ := HDwz.out; exact ((HOF.out.drew qq).put (g.t k) (Y (g.f k) + g.tm (g.f k))).drew1, HLW.out, Nat.le_of_lt (Nat.lt_of_lt_of_le HMU2.out HMU.out), fun _ => Nat.lt_of_lt_of_le HMU2.out HMU.out, by intro e; cases e⟩
                    case measure => simp [intOf]; omega
                  · go_wp2_with fail
                    go_quiet (fail)
                    obtain ⟨wz, hwz⟩ : ∃ x, wi.drewN nq = x := ⟨_, rfl⟩
                    rw [hwz]
                    have HEwz : Hid (wz.heap = wi.heap) := Lib.hid (by rw [← hwz]; rfl)
                    have HDwz : Hid (Drew wi wz) := Lib.hid (by rw [← hwz]; exact ⟨nq, rfl⟩)
                    clear hwz
                    obtain ⟨g0, g1, g2, g3, g4, g5⟩ := HFX.out wz HEwz.out
                    go_wp2_with fail
                    go_roundw
                    case rel => exact ⟨k + 1, cg, Y, by go_num, rfl, by omega, by obtain ⟨qq, rfl⟩ := HDwz.out; exact HOF.out.drew qq, HLOW.out, HMU.out, HMUT.out, fun e q hq hcq => by
                      rcases Nat.lt_or_ge q k with h' | h'
                      · exact HALL.out e q h' hcq
                      · have : q = k := by omega
                        subst this; rw [HVAL.out]; omega⟩
                    case measure => simp [intOf]; omega
                · have HRO := Lib.hid (HOWN.out.rows (by omega))
                  have HFX := Lib.hid (show ∀ w' : World, w'.heap = wi.heap → w'.cell? ⟨w.heap.size, 0, none⟩ = some (.slice (some ⟨bt, ot, none⟩) lT cT) ∧ w'.cell? ⟨b', off', none⟩ = some (.int .i64 (g.f k)) ∧ w'.cell? ⟨b', off' + 1, none⟩ = some (.int .i64 (g.t k)) ∧ w'.cell? ⟨bt, ot + g.f k, none⟩ = some (.int .i64 (g.tm (g.f k))) ∧ w'.cell? ⟨ws.heap.size, g.t k, none⟩ = some (.int .i64 (Y (g.t k))) ∧ w'.frozen? ⟨ws.heap.size, g.t k, none⟩ = false from fun w' e => by have e2 : ∀ p, w'.cell? p = wi.cell? p := fun p => World.cell?_of_block (w := wi) (by rw [e]); have e3 : ∀ p, w'.frozen? p = wi.frozen? p := fun p => World.frozen?_of_block (w := wi) (by rw [e]); rw [e2, e2, e2, e2, e2, e3]; exact ⟨n0, d0, d1, dt, ct, ft⟩)
                  have HVAL : Hid (g.val r Y k = g.b (r - g.c k) (g.f k) + g.tm (g.f k)) := Lib.hid (by unfold Gr.val; rw [if_neg hc0])
                  have hfr : (r : Int) - ((g.c k : Nat) : Int) < (r : Int) := by omega
                  obtain ⟨q, hq⟩ : ∃ q, r - g.c k = q := ⟨_, rfl⟩
                  have hqI : (r : Int) - ((g.c k : Nat) : Int) = (q : Int) := by omega
                  have hqr : q < r := by omega
                  rw [hq] at HVAL
                  have hqb := HBD.out q (g.f k) (by omega) hf
                  have hqn := b_nn g q (g.f k)
                  obtain ⟨bo, oo, row, ao, lo, co, rfl, hrow, hco, hloc, hri⟩ := HRO.out.get hqr
                  rw [HBG.out r q hqr] at hrow
                  injection hrow with hrow
                  subst hrow
                  have hlo : lo = lT := by rw [← hri.lenEq, tab_length]
                  subst hlo
                  obtain ⟨b5, o5, x5, rfl, h5, hc5⟩ := hri.get hf
                  rw [tab_at _ hf] at h5
                  injection h5 with h5
                  subst h5
                  have hmo : bo < ws.heap.size := (HRO.out.mem (by omega)).2
                  have hm5 : b5 < ws.heap.size := (hri.mem (by omega)).2
                  have HCO := Lib.hid (fun w' (h : Below ws.heap.size ws w') => And.intro ((h.cell (p := ⟨bo, oo + q, none⟩) hmo).trans hco) ((h.cell (p := ⟨b5, o5 + g.f k, none⟩) hm5).trans hc5))
                  obtain ⟨y0, y1⟩ := HCO.out wi HOF.out.below
                  clear hco hc5 hri hq
                  by_cases hlt : Y (g.t k) < g.b q (g.f k) + g.tm (g.f k)
                  · have HPUT := Lib.hid (HOF.out.put (g.t k) (g.b q (g.f k) + g.tm (g.f k)))
                    have HLW := Lib.hid (low_put HOK.out HRK.out hr40 (by rw [HM.out]; exact hkl) hcr HLOW.out)
                    have HMU2 := Lib.hid (mu_put HOK.out HRK.out hr40 (by rw [HM.out]; exact hkl) hcr HLOW.out (by rw [HVAL.out]; exact hlt))
                    rw [HVAL.out] at HLW HMU2
                    go_wp2_with fail
                    go_quiet (fail)
                    obtain ⟨wq, hwq⟩ : ∃ x, wi.drewN nq = x := ⟨_, rfl⟩
                    rw [hwq]
                    have HEwq : Hid (wq.heap = wi.heap) := Lib.hid (by rw [← hwq]; rfl)
                    have HDwq : Hid (Drew wi wq) := Lib.hid (by rw [← hwq]; exact ⟨nq, rfl⟩)
                    clear hwq
                    obtain ⟨g0, g1, g2, g3, g4, g5⟩ := HFX.out wq HEwq.out
                    clear n0 d0 d1 dt ct ft cf
                    go_wp2_with fail
                    go_quiet (fail)
                    obtain ⟨wz, hwz⟩ : ∃ x, wq.drewN nq = x := ⟨_, rfl⟩
                    rw [hwz]
                    have HEwz : Hid (wz.heap = wi.heap) := Lib.hid (by rw [← hwz]; exact HEwq.out)
                    have HDwz : Hid (Drew wi wz) := Lib.hid (by rw [← hwz]; exact HDwq.out.drew nq)
                    clear hwz
                    obtain ⟨g0, g1, g2, g3, g4, g5⟩ := HFX.out wz HEwz.out
                    go_wp2_with fail
                    go_still_tail 14, (by kernel_rfl)
                    go_wp2_with fail
                    go_roundw
                    case rel => exact ⟨k + 1, true, fun v => if v = g.t k then g.b q (g.f k) + g.tm (g.f k) else Y v, by go_num, rfl, by omega, by obtain ⟨qq, rfl⟩ := HDwz.out; exact ((HOF.out.drew qq).put (g.t k) (g.b q (g.f k) + g.tm (g.f k))).drew1, HLW.out, Nat.le_of_lt (Nat.lt_of_lt_of_le HMU2.out HMU.out), fun _ => Nat.lt_of_lt_of_le HMU2.out HMU.out, by intro e; cases e⟩
                    case measure => simp [intOf]; omega
                  · go_wp2_with fail
                    go_quiet (fail)
                    obtain ⟨wq, hwq⟩ : ∃ x, wi.drewN nq = x := ⟨_, rfl⟩
                    rw [hwq]
                    have HEwq : Hid (wq.heap = wi.heap) := Lib.hid (by rw [← hwq]; rfl)
                    have HDwq : Hid (Drew wi wq) := Lib.hid (by rw [← hwq]; exact ⟨nq, rfl⟩)
                    clear hwq
                    obtain ⟨g0, g1, g2, g3, g4, g5⟩ := HFX.out wq HEwq.out
                    clear n0 d0 d1 dt ct ft cf
                    go_wp2_with fail
                    go_quiet (fail)
                    obtain ⟨wz, hwz⟩ : ∃ x, wq.drewN nq = x := ⟨_, rfl⟩
                    rw [hwz]
                    have HEwz : Hid (wz.heap = wi.heap) := Lib.hid (by rw [← hwz]; exact HEwq.out)
                    have HDwz : Hid (Drew wi wz) := Lib.hid (by rw [← hwz]; exact HDwq.out.drew nq)
                    clear hwz
                    obtain ⟨g0, g1, g2, g3, g4, g5⟩ := HFX.out wz HEwz.out
                    go_wp2_with fail
                    go_roundw
                    case rel => exact ⟨k + 1, cg, Y, by go_num, rfl, by omega, by obtain ⟨qq, rfl⟩ := HDwz.out; exact HOF.out.drew qq, HLOW.out, HMU.out, HMUT.out, fun e q hq hcq => by
                      rcases Nat.lt_or_ge q k with h' | h'
                      · exact HALL.out e q h' hcq
                      · have : q = k := by omega
                        subst this; rw [HVAL.out]; omega⟩
                    case measure => simp [intOf]; omega
              · have hneg : (r : Int) - ((g.c k : Nat) : Int) < 0 := by omega
                go_wp2_with fail
                go_roundw
                case rel => exact ⟨k + 1, cg, Y, by go_num, rfl, by omega, HOF.out, HLOW.out, HMU.out, HMUT.out, fun e q hq hcq => by
                  rcases Nat.lt_or_ge q k with h' | h'
                  · exact HALL.out e q h' hcq
                  · have : q = k := by omega
                    subst this; omega⟩
                case measure => simp [intOf]; omega
            · have hke : k = lW := by omega
              subst hke
              have hkI : ¬ (k : Int) < (k : Int) := by omega
              go_wp2_with fail
              go_roundg (if cg = true then mu (fun v => g.b r v - Y v) g.n + 1 else 0)
              case measure =>
                have h9 := HGK.out
                simp only [if_true] at h9
                cases cg
                · simp; omega
                · have h8 := HMUT.out rfl; simp; omega
              case rel => exact ⟨cg, Y, rfl, rfl, HOF.out, HLOW.out, fun e q hq hcq => HALL.out e q (by rw [HM.out] at hq; exact hq) hcq⟩
    · have hre : r = R := by omega
      subst hre
      have hrI : ¬ (r : Int) < (r : Int) := by omega
      go_wp2_with fail
      go_ret
      exact ⟨ax, r, cp, rfl, (HOWN.out.rows (by omega)).to (fun b hb => ⟨⟨by have := hb.1; omega, hb.2⟩, rfl⟩), hrc, HB.out⟩
end Go.Proofs.Ytkjmpkincaainad
