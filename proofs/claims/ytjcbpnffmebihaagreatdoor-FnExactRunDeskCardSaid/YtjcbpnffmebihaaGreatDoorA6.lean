import Derived.Test.YtjcbpnffmebihaaGreatDoorA5
import Derived.Test.YtjcbpnffmebihaaGreatDoorRows
import Derived.WalkKit
import Derived.LoopTactic
import Derived.Outline
import Derived.WalkSpells
import Derived.WalkLawsBesides
import Derived.ProofKit
import Derived.Lib.Hide
import Derived.IntWalk
import Derived.Deep.RegionLaw
import Derived.Deep.AppendLies
namespace Go.Proofs.YtjcbpnffmebihaaGreatDoor
open Go.RowKit Go.WideShapes

-- pairs
def pairB (r : List Int) : Bool := r.length == 2 && (inB 0 9 (r.getD 0 0) && inB 0 9 (r.getD 1 0))
def pairsM (rows : List (List Int)) : Bool := rows.all pairB && decide (rows.length ≤ 8)
theorem pairs_false {rows : List (List Int)} {k : Nat} {r : List Int} (h : rows[k]? = some r) (hr : pairB r = false) : pairsM rows = false := by
  unfold pairsM
  rw [List.all_eq_false.2 ⟨r, List.mem_of_getElem? h, by rw [hr]; simp⟩]; rfl
theorem pairs_get {rows : List (List Int)} (h : pairsM rows = true) : rows.length ≤ 8 ∧ ∀ r ∈ rows, r.length = 2 ∧ (0 ≤ r.getD 0 0 ∧ r.getD 0 0 ≤ 9) ∧ (0 ≤ r.getD 1 0 ∧ r.getD 1 0 ≤ 9) := by
  simp only [pairsM, Bool.and_eq_true, decide_eq_true_eq, List.all_eq_true] at h
  refine ⟨h.2, fun r hr => ?_⟩
  have := h.1 r hr
  simp only [pairB, Bool.and_eq_true, beq_iff_eq] at this
  exact ⟨this.1, by simpa [inB] using this.2.1, by simpa [inB] using this.2.2⟩
theorem validPairs_any (S : Nat → Prop) (a : Option Addr) (len cap : Nat) (rows : List (List Int)) (w : World) (h : RowsAt w S a len rows) :
    Calls Tryz.prog 33 #[.slice a len cap] w fun e w' => e = .returned (.bool (pairsM rows)) ∧ w = w' := by
  have hs := h.small
  have HL := Lib.hid h.lenEq
  go_enter Tryz.func33, Tryz.ntmps33
  go_wp2
  go_loop [3] (fun i => ∃ k : Nat, k ≤ len ∧ i = .int .i64 k ∧ (rows.take k).all pairB = true) (fun i => len - (intOf i).toNat)
  case atStart => exact ⟨0, Nat.zero_le _, rfl, rfl⟩
  case round =>
    obtain ⟨k, hk, rfl, ha⟩ := hrel
    have HA := Lib.hid ha
    clear ha
    by_cases hlt : k < len
    · obtain ⟨b, off, r, a', l, c, rfl, hx, hc, _, hr⟩ := h.get hlt
      have HX := Lib.hid hx
      have HRL := Lib.hid hr.lenEq
      have hrs := hr.small
      clear hx
      by_cases hl2 : l = 2
      · subst hl2
        obtain ⟨b', off', x, rfl, hy, hd⟩ := hr.get (k := 0) (by omega)
        obtain ⟨b2, off2, y, e2, hy2, hd2⟩ := hr.get (k := 1) (by omega)
        cases e2
        rw [Nat.add_zero] at hd
        have HY := Lib.hid (getD_of hy)
        have HY2 := Lib.hid (getD_of hy2)
        clear hy hy2
        cases hq : inB 0 9 x
        · go_wp2_with (go_at_call 54; refine (inRange_any _ _ _ _).mono ?_; rintro e w' ⟨rfl, rfl⟩)
          go_ret
          exact ⟨ret_bool (by rw [pairs_false HX.out (by unfold pairB; rw [HY.out, hq]; simp)]), rfl⟩
        · cases hq2 : inB 0 9 y
          · go_wp2_with (go_at_call 54; refine (inRange_any _ _ _ _).mono ?_; rintro e w' ⟨rfl, rfl⟩)
            go_ret
            exact ⟨ret_bool (by rw [pairs_false HX.out (by unfold pairB; rw [HY2.out, hq2]; simp)]), rfl⟩
          · go_wp2_with (go_at_call 54; refine (inRange_any _ _ _ _).mono ?_; rintro e w' ⟨rfl, rfl⟩)
            go_round
            case rel => exact ⟨k + 1, by omega, by go_num, by
              rw [take_get HX.out, List.all_append, HA.out]
              simp only [List.all_cons, List.all_nil, Bool.and_true, Bool.true_and]
              unfold pairB; rw [HY.out, HY2.out, hq, hq2, HRL.out]; rfl⟩
            case measure => simp [intOf]; omega
      · have hle : ((l : Int) != 2) = true := by simp; omega
        go_wp2
        go_ret
        exact ⟨ret_bool (by rw [pairs_false HX.out (by unfold pairB; rw [HRL.out, beq_eq_false_iff_ne.2 hl2]; rfl)]), rfl⟩
    · go_wp2
      go_ret
      have ha := HA.out
      have hl := HL.out
      rw [List.take_of_length_le (by omega)] at ha
      exact ⟨ret_bool (by rw [pairsM, ha, hl, Bool.true_and]; exact decide_eq_decide.2 (by omega)), rfl⟩
/-- the times of a job -/
def ta (rows : List (List Int)) (x : Nat) : Int := (rows.getD x []).getD 0 0
def tb (rows : List (List Int)) (x : Nat) : Int := (rows.getD x []).getD 1 0
theorem t_bd {rows : List (List Int)} (h : pairsM rows = true) (x : Nat) : (0 ≤ ta rows x ∧ ta rows x ≤ 9) ∧ (0 ≤ tb rows x ∧ tb rows x ≤ 9) := by
  obtain ⟨_, h2⟩ := pairs_get h
  unfold ta tb
  rcases Nat.lt_or_ge x rows.length with hx | hx
  · rw [List.getD_eq_getElem?_getD (l := rows), List.getElem?_eq_getElem hx]
    have := h2 rows[x] (List.getElem_mem hx)
    exact ⟨this.2.1, this.2.2⟩
  · rw [List.getD_eq_getElem?_getD (l := rows), List.getElem?_eq_none hx]; simp
theorem t_at {rows : List (List Int)} {x : Nat} {r : List Int} (h : rows[x]? = some r) : ta rows x = r.getD 0 0 ∧ tb rows x = r.getD 1 0 := by
  unfold ta tb; rw [List.getD_eq_getElem?_getD (l := rows), h]; exact ⟨rfl, rfl⟩
-- orders
def orderP (o : List Int) (n : Nat) : Prop := ((∀ x ∈ o, 0 ≤ x ∧ x < (n : Int)) ∧ o.Nodup) ∧ o.length = n
instance (o : List Int) (n : Nat) : Decidable (orderP o n) := by unfold orderP; infer_instance
def orderM (o : List Int) (n : Nat) : Bool := decide (orderP o n)
theorem orderM_get {o : List Int} {n : Nat} (h : orderM o n = true) : orderP o n := of_decide_eq_true h
def nO (o : List Int) : List Nat := o.map Int.toNat
theorem nO_perm {o : List Int} {n : Nat} (h : orderP o n) : (nO o).Perm (List.range n) := by
  obtain ⟨⟨h1, h2⟩, h3⟩ := h
  have hn : (nO o).Nodup := by
    refine List.pairwise_map.2 (h2.imp_of_mem (fun {x y} hx hy hne e => hne ?_))
    have := h1 x hx; have := h1 y hy; omega
  have hs : nO o ⊆ List.range n := fun x hx => by
    obtain ⟨y, hy, rfl⟩ := List.mem_map.1 hx
    have := h1 y hy; simp; omega
  refine (List.perm_ext_iff_of_nodup hn List.nodup_range).2 (fun x => ⟨fun hx => hs hx, fun hx => ?_⟩)
  apply Classical.byContradiction
  intro hm
  have : (x :: nO o).length ≤ (List.range n).length := List.Nodup.length_le_of_subset (List.nodup_cons.2 ⟨hm, hn⟩) (fun y hy => by
    rcases List.mem_cons.1 hy with rfl | hy
    · exact hx
    · exact hs hy)
  simp [nO] at this; omega
theorem order_bad {o : List Int} {n k : Nat} {x : Int} (h : o[k]? = some x) (hx : inB 0 ((n : Int) - 1) x = false) : orderM o n = false := by
  refine decide_eq_false (fun hp => ?_)
  have := hp.1.1 x (List.mem_of_getElem? h)
  unfold inB at hx
  simp only [decide_eq_false_iff_not] at hx
  omega
theorem nO_snoc {o : List Int} {k : Nat} {x : Int} (h : o[k]? = some x) : nO (o.take (k + 1)) = nO (o.take k) ++ [x.toNat] := by
  rw [take_get h]; simp [nO]
theorem run_bd {rows : List (List Int)} (hp : pairsM rows = true) (l : List Nat) : (0 ≤ (runT (ta rows) (tb rows) (0, 0) l).1 ∧ (runT (ta rows) (tb rows) (0, 0) l).1 ≤ 9 * (l.length : Int)) ∧ (0 ≤ (runT (ta rows) (tb rows) (0, 0) l).2 ∧ (runT (ta rows) (tb rows) (0, 0) l).2 ≤ 18 * (l.length : Int)) := by
  have h1 := runT_fst (ta rows) (tb rows) l (0, 0)
  have h2 := sumL_nn (fun x => (t_bd hp x).1.1) l
  have h3 := sumL_bd (fun x => (t_bd hp x).1.2) l
  have h4 := sumL_bd (fun x => (t_bd hp x).2.2) l
  have h5 := span_sums (fun x => (t_bd hp x).1.1) (fun x => (t_bd hp x).2.1) l
  have h6 := sumL_nn (fun x => (t_bd hp x).2.1) l
  unfold spanT at h5
  simp only at h1
  omega
set_option maxHeartbeats 1000000 in
theorem span_any (S T : Nat → Prop) (a : Option Addr) (len cap : Nat) (rows : List (List Int)) (a2 : Option Addr) (len2 cap2 : Nat) (o : List Int) (w : World) (h : RowsAt w S a len rows) (g : IntsAt w T a2 len2 o) (hp : pairsM rows = true) (ho : ∀ x ∈ o, 0 ≤ x ∧ x < (len : Int)) (hl : len2 ≤ 8) :
    Calls Tryz.prog 35 #[.slice a len cap, .slice a2 len2 cap2] w fun e w' => e = .returned (.int .i64 (spanT (ta rows) (tb rows) (nO o))) ∧ w = w' := by
  have HL := Lib.hid g.lenEq
  have HP := Lib.hid (pairs_get hp).2
  have HBD := Lib.hid (run_bd hp)
  have HO := Lib.hid ho
  clear hp ho
  go_enter Tryz.func35, Tryz.ntmps35
  go_wp2_with fail
  go_loop [5, 6, 7] (fun av bv i => ∃ k : Nat, k ≤ len2 ∧ i = .int .i64 k ∧ av = .int .i64 (runT (ta rows) (tb rows) (0, 0) (nO (o.take k))).1 ∧ bv = .int .i64 (runT (ta rows) (tb rows) (0, 0) (nO (o.take k))).2) (fun _ _ i => len2 - (intOf i).toNat)
  case atStart => exact ⟨0, Nat.zero_le _, rfl, rfl, rfl⟩
  case round =>
    obtain ⟨k, hk, rfl, rfl, rfl⟩ := hrel
    by_cases hlt : k < len2
    · obtain ⟨b, off, x, rfl, hx, hc⟩ := g.get hlt
      have hxb := HO.out x (List.mem_of_getElem? hx)
      obtain ⟨q, rfl⟩ : ∃ q : Nat, x = (q : Int) := ⟨x.toNat, by omega⟩
      have hql : q < len := by omega
      obtain ⟨b2, off2, r, a', l, c, rfl, hr, hcr, _, hri⟩ := h.get hql
      obtain ⟨hr2, hra, hrb⟩ := HP.out r (List.mem_of_getElem? hr)
      have hl2 : l = 2 := by rw [← hri.lenEq, hr2]
      subst hl2
      obtain ⟨b3, off3, x3, rfl, h3, hc3⟩ := hri.get (k := 0) (by omega)
      obtain ⟨b4, off4, x4, e4, h4, hc4⟩ := hri.get (k := 1) (by omega)
      cases e4
      rw [Nat.add_zero] at hc3
      rw [getD_of h3] at hra
      rw [getD_of h4] at hrb
      have ht := t_at hr
      rw [getD_of h3, getD_of h4] at ht
      have hb := HBD.out (nO (o.take k))
      have hkl : ((nO (o.take k)).length : Int) ≤ 8 := by unfold nO; rw [List.length_map, List.length_take]; omega
      have HN := Lib.hid (show runT (ta rows) (tb rows) (0, 0) (nO (o.take (k + 1))) = stT (ta rows) (tb rows) (runT (ta rows) (tb rows) (0, 0) (nO (o.take k))) q by
        rw [nO_snoc hx, runT_snoc, Int.toNat_natCast])
      have HN1 := Lib.hid (show (runT (ta rows) (tb rows) (0, 0) (nO (o.take (k + 1)))).1 = (runT (ta rows) (tb rows) (0, 0) (nO (o.take k))).1 + x3 by rw [HN.out]; show _ + ta rows q = _; rw [ht.1])
      have HN2 := Lib.hid (show (runT (ta rows) (tb rows) (0, 0) (nO (o.take (k + 1)))).2 = max ((runT (ta rows) (tb rows) (0, 0) (nO (o.take k))).1 + x3) (runT (ta rows) (tb rows) (0, 0) (nO (o.take k))).2 + x4 by rw [HN.out]; show max (_ + ta rows q) _ + tb rows q = _; rw [ht.1, ht.2])
      have hqi : (q : Int) < (len : Int) := by omega
      clear hx hr hr2 h3 h4 ht HN
      generalize (runT (ta rows) (tb rows) (0, 0) (nO (o.take k))).1 = va at *
      generalize (runT (ta rows) (tb rows) (0, 0) (nO (o.take k))).2 = vb at *
      by_cases hmx : va + x3 < vb
      · have HM := Lib.hid (HN2.out.trans (show _ = vb + x4 by rw [show max (va + x3) vb = vb by omega]))
        go_wp2_with fail
        go_round
        case rel => exact ⟨k + 1, by omega, by go_num, by rw [HN1.out], by rw [HM.out]⟩
        case measure => simp [intOf] <;> omega
      · have HM := Lib.hid (HN2.out.trans (show _ = va + x3 + x4 by rw [show max (va + x3) vb = va + x3 by omega]))
        go_wp2_with fail
        go_round
        case rel => exact ⟨k + 1, by omega, by go_num, by rw [HN1.out], by rw [HM.out]⟩
        case measure => simp [intOf] <;> omega
    · obtain rfl : k = len2 := by omega
      have HE := Lib.hid (show (runT (ta rows) (tb rows) (0, 0) (nO (o.take k))).2 = spanT (ta rows) (tb rows) (nO o) by rw [List.take_of_length_le (by rw [HL.out]; omega)]; rfl)
      go_wp2_with fail
      go_ret
      exact ⟨ret_int HE.out, rfl⟩
/-- what SpanOf answers -/
def spanFine (rows : List (List Int)) (o : List Int) : Bool := pairsM rows && orderM o rows.length
def spanRes (rows : List (List Int)) (o : List Int) : Int := if spanFine rows o then spanT (ta rows) (tb rows) (nO o) else -1
theorem spanRes_no {rows : List (List Int)} {o : List Int} (h : spanFine rows o = false) : spanRes rows o = -1 := by unfold spanRes; rw [h]; rfl
theorem spanRes_yes {rows : List (List Int)} {o : List Int} (h : spanFine rows o = true) : spanRes rows o = spanT (ta rows) (tb rows) (nO o) := by unfold spanRes; rw [h]; rfl
theorem spanFine_get {rows : List (List Int)} {o : List Int} (h : spanFine rows o = true) : pairsM rows = true ∧ orderP o rows.length := by
  simp only [spanFine, Bool.and_eq_true] at h; exact ⟨h.1, orderM_get h.2⟩
end Go.Proofs.YtjcbpnffmebihaaGreatDoor
namespace Go.Proofs.YtjcbpnffmebihaaGreatDoor
open Go.RowKit Go.WideShapes

/-- the days that are drawn -/
def DaysOk (xs : List Int) : Prop := xs.length ≤ 9 ∧ (∀ k, -1 ≤ xs.getD k 0) ∧ (∀ k, xs.getD k 0 ≤ if k = 0 then 21 else 12)
def DaysPost (w : World) (R p : Nat) (e : Ending) (w' : World) : Prop := ∃ (a : Option Addr) (len cap : Nat) (xs : List Int) (p' : Nat), e = .returned (.slice a len cap) ∧
  w'.ownsRow w.heap.size 3 1 (.slice a len cap) len (xs.map (.int .i64)) ∧ len ≤ cap ∧ len ≤ 9 ∧ DaysOk xs ∧ Rd w' R p' ∧ p' ≤ p + 100 ∧ w.grownBy w' (some R)
theorem DaysPost.mk {w w' : World} {R p p' : Nat} {a : Option Addr} {len cap : Nat} {xs : List Int} (h : w'.ownsRow w.heap.size 3 1 (.slice a len cap) len (xs.map (.int .i64))) (hl : len ≤ 9) (hd : DaysOk xs) (hr : Rd w' R p') (hp : p' ≤ p + 100) (hg : w.grownBy w' (some R)) :
    DaysPost w R p (.returned (.slice a len cap)) w' := by
  obtain ⟨a', cap', e, hc⟩ := own_slice h
  simp only [Value.slice.injEq] at e
  obtain ⟨rfl, _, rfl⟩ := e
  exact ⟨_, _, _, xs, p', rfl, h, hc, hl, hd, hr, hp, hg⟩
end Go.Proofs.YtjcbpnffmebihaaGreatDoor
namespace Go.Proofs.YtjcbpnffmebihaaGreatDoor
open Go.RowKit Go.WideShapes

/-- a list made behind the reader R, ahead of block B -/
def LAt (w : World) (R B : Nat) (a : Option Addr) (l : Nat) (xs : List Int) : Prop := IntsAt w (fun b => R < b ∧ b < B) a l xs ∧ B ≤ w.heap.size
theorem LAt.step {w w' : World} {R B l : Nat} {a : Option Addr} {xs : List Int} (h : LAt w R B a l xs) (hg : w.grownBy w' (some R)) : LAt w' R B a l xs :=
  ⟨h.1.to (fun b hb => ⟨hb, hg.block b (Nat.lt_of_lt_of_le hb.2 h.2) (by intro e; injection e; omega)⟩), Nat.le_trans h.2 hg.size⟩
theorem LAt.alloc {w : World} {R B l : Nat} {a : Option Addr} {xs : List Int} (h : LAt w R B a l xs) (o : Obj) : LAt (w.alloc o) R B a l xs := h.step (World.grownBy_alloc _ _ _)
theorem LAt.low {w : World} {R B l : Nat} {a : Option Addr} {xs : List Int} (h : LAt w R B a l xs) : IntsAt w (· < w.heap.size) a l xs := h.1.to (fun _ hb => ⟨Nat.lt_of_lt_of_le hb.2 h.2, rfl⟩)
theorem own_low {w : World} {B l cp : Nat} {a : Option Addr} {xs : List Int} (h : w.ownsRow B 3 1 (.slice a l cp) l (xs.map (.int .i64))) (hl : l ≤ 9223372036854775807) : IntsAt w (· < w.heap.size) a l xs := by
  obtain ⟨ay, cy, hve, _, hints⟩ := own_ints h hl
  simp only [Value.slice.injEq] at hve
  obtain ⟨rfl, _, rfl⟩ := hve
  exact hints.to (fun _ hb => ⟨hb.2, rfl⟩)
theorem grown_of_below {w w' : World} (h : Below w.heap.size w w') (r : Option Nat) : w.grownBy w' r := ⟨h.os, h.tape, h.output, h.size, fun b hb _ => h.block b hb⟩
theorem Rd.step {w w' : World} {R p : Nat} (h : Rd w R p) (hb : Below w.heap.size w w') : Rd w' R p :=
  h.grown (r := none) (grown_of_below hb none) (fun k e => by cases e)
end Go.Proofs.YtjcbpnffmebihaaGreatDoor
namespace Go.Proofs.YtjcbpnffmebihaaGreatDoor
open Go.RowKit Go.WideShapes

set_option maxRecDepth 100000 in
/-- append of a list to a list of the call's own, at a step of a region that draws; the source may be empty -/
theorem stepApp {ops : Array Oper} {o : Oper} {a : Act} {K : Act → World → Prop} {Q : Exit → Act → World → Prop} {E : Prop} {wo : World} (hgd : o.guard = none) (s x : Operand)
    (ho : o.op = .call { callee := .builtin .append, args := #[s, x], argTypes := #[35, 35] })
    (base k cp gx : Nat) (xs : List Int) (S : Nat → Prop) (b off m c : Nat) (ys : List Int) (hs : a.eval s = .slice (some ⟨gx, 0, none⟩) k cp)
    (hown : wo.ownsRow base 3 1 (.slice (some ⟨gx, 0, none⟩) k cp) k (xs.map (.int .i64))) (hx : a.eval x = .slice (some ⟨b, off, none⟩) m c) (hy : IntsAt wo S (some ⟨b, off, none⟩) m ys)
    (hbase : base ≤ wo.heap.size) (km : Nat) (hkm : k + m = km) (zs : List Int) (hzs : xs ++ ys = zs) (hk : km ≤ 1048576)
    (h : ∀ (g6 c6 : Nat) (w' : World), w'.ownsRow base 3 1 (.slice (some ⟨g6, 0, none⟩) km c6) km (zs.map (.int .i64)) → km ≤ c6 → wo.grownBy w' (some gx) → base ≤ g6 → g6 < w'.heap.size →
      K (a.put o.dst (.slice (some ⟨g6, 0, none⟩) km c6)) w') :
    if Region.wanted o (yielded ops a.tmps) = true then Oper.wp Tryz.prog o a wo K Q else E := by
  subst hkm
  subst hzs
  have hw : Region.wanted o (yielded ops a.tmps) = true := by simp [Region.wanted, hgd]
  rw [if_pos hw]
  obtain ⟨i0, hi, hz0, hz1, hz2⟩ := info_parts Tryz.infoIntO
  obtain ⟨v', w', hr, h2, h3, h4, _⟩ := run_append_own_at (P := Tryz.prog) wo base 35 o.type 3 i0 (.int .i64 0) 1 8 Tryz.underlying35 hi hz0 hz1 hz2 rfl (by decide) _ k _ hown ⟨b, off, none⟩ m c (ys.map (.int .i64)) (by simp [hy.lenEq]) (by
    intro j u hj
    rw [List.getElem?_map] at hj
    cases hq : ys[j]? with
    | none => rw [hq] at hj; cases hj
    | some z =>
      rw [hq] at hj
      simp only [Option.map_some, Option.some.injEq] at hj
      have hlt : j < ys.length := (List.getElem?_eq_some_iff.1 hq).1
      obtain ⟨b', off', e, _, hc⟩ := hy.cells (by have := hy.lenEq; omega)
      cases e
      rw [add_plain, hc _ _ hq, ← hj]) (by
    intro u hu
    obtain ⟨x, _, rfl⟩ := List.mem_map.1 hu
    rfl) (by unfold maxLen; omega) (by omega) hbase
  unfold Oper.wp execOp
  simp only [ho, resolve, invoke, builtin, Sem.run_bind, Sem.run_pure, Result.andThen_ok, List.map_toArray, List.map_cons, List.map_nil, hs, hx, hr]
  obtain ⟨a6, c6, rfl, hc⟩ := own_slice h2
  rcases h2.2 with ⟨e1, e2⟩ | ⟨g, cap, cur, hv, hb, hg, _⟩
  · exact absurd (h4.1 (by injection e1 with e3 _ e4; subst e3; subst e4; rw [e2])).1 (by simp)
  · injection hv with e3 _ e4
    subst e3
    rw [← List.map_append] at h2
    refine h g c6 w' h2 hc h3 hb ?_
    rcases Nat.lt_or_ge g w'.heap.size with hlt | hge
    · exact hlt
    · rw [Array.getElem?_eq_none hge] at hg; cases hg

theorem IntsAt.takeI {w : World} {S : Nat → Prop} {b off len : Nat} {xs : List Int} (h : IntsAt w S (some ⟨b, off, none⟩) len xs) (k : Nat) (hk : k ≤ len) : IntsAt w S (some ⟨b, off, none⟩) k (xs.take k) := by
  have hl := h.lenEq
  have hs := h.small
  refine ⟨by simp; omega, by omega, fun h0 => ?_⟩
  obtain ⟨b', off', e, hS, hc⟩ := h.cells (by omega)
  cases e
  refine ⟨_, _, rfl, hS, fun i x hx => hc i x ?_⟩
  rw [List.getElem?_take] at hx
  split at hx
  · exact hx
  · cases hx
theorem IntsAt.dropI {w : World} {S : Nat → Prop} {b len : Nat} {xs : List Int} (h : IntsAt w S (some ⟨b, 0, none⟩) len xs) (k : Nat) (hk : k ≤ len) : IntsAt w S (some ⟨b, k, none⟩) (len - k) (xs.drop k) := by
  have hl := h.lenEq
  have hs := h.small
  refine ⟨by simp; omega, by omega, fun h0 => ?_⟩
  obtain ⟨b', off', e, hS, hc⟩ := h.cells (by omega)
  cases e
  refine ⟨_, _, rfl, hS, fun i x hx => ?_⟩
  rw [List.getElem?_drop] at hx
  have := hc _ x hx
  rwa [Nat.zero_add] at this
theorem IntsAt.grownEq {W W' w' : World} {b r len : Nat} {xs : List Int} (h : IntsAt W (fun k => k = b) (some ⟨b, 0, none⟩) len xs) (hg : W'.grownBy w' (some r)) (he : W'.heap = W.heap) (hb : b < W'.heap.size) (hr : b ≠ r) :
    IntsAt w' (fun k => k = b) (some ⟨b, 0, none⟩) len xs :=
  h.to fun k hk => ⟨hk, by subst hk; rw [hg.block _ hb (by simp; omega), he]⟩
end Go.Proofs.YtjcbpnffmebihaaGreatDoor
namespace Go.Proofs.YtjcbpnffmebihaaGreatDoor
open Go.RowKit Go.WideShapes

set_option maxHeartbeats 2000000 in
theorem better_any (S : Nat → Prop) (a : Option Addr) (len cap : Nat) (rows : List (List Int)) (i k : Nat) (w : World) (h : RowsAt w S a len rows) (hp : pairsM rows = true) (hi : i < len) (hk : k < len) :
    Calls Tryz.prog 55 #[.slice a len cap, .int .i64 i, .int .i64 k] w fun e w' => e = .returned (.bool (decide (btr (ta rows) (tb rows) i k))) ∧ Drew w w' := by
  have HP := (pairs_get hp).2
  have hs := h.small
  obtain ⟨b, off, r, a1, l1, c1, rfl, hr, hcr, _, hri⟩ := h.get hi
  obtain ⟨b', off', s, a2, l2, c2, e2, hs2, hcs, _, hsi⟩ := h.get hk
  cases e2
  obtain ⟨hr2, hra, hrb⟩ := HP r (List.mem_of_getElem? hr)
  obtain ⟨hs3, hsa, hsb⟩ := HP s (List.mem_of_getElem? hs2)
  have hl1 : l1 = 2 := by rw [← hri.lenEq, hr2]
  have hl2 : l2 = 2 := by rw [← hsi.lenEq, hs3]
  subst hl1 hl2
  obtain ⟨b3, off3, x0, rfl, h3, hc3⟩ := hri.get (k := 0) (by omega)
  obtain ⟨b4, off4, x1, e4, h4, hc4⟩ := hri.get (k := 1) (by omega)
  cases e4
  obtain ⟨b5, off5, y0, rfl, h5, hc5⟩ := hsi.get (k := 0) (by omega)
  obtain ⟨b6, off6, y1, e6, h6, hc6⟩ := hsi.get (k := 1) (by omega)
  cases e6
  rw [Nat.add_zero] at hc3 hc5
  have ht := t_at hr
  rw [getD_of h3, getD_of h4] at ht
  have hu := t_at hs2
  rw [getD_of h5, getD_of h6] at hu
  have HB := Lib.hid (show btr (ta rows) (tb rows) i k ↔ (if x0 < x1 then (if y0 < y1 then (x0 < y0 ∨ (x0 = y0 ∧ i < k)) else True) else (if y0 < y1 then False else (y1 < x1 ∨ (x1 = y1 ∧ i < k)))) by
    unfold btr; rw [ht.1, ht.2, hu.1, hu.2])
  have hii : (i : Int) < (len : Int) := by omega
  have hkk : (k : Int) < (len : Int) := by omega
  clear hr hs2 h3 h4 h5 h6 ht hu hr2 hs3 hra hrb hsa hsb HP hp
  by_cases g1 : x0 < x1
  · have d1 : decide (x0 < x1) = true := decide_eq_true g1
    by_cases g2 : y0 < y1
    · have d2 : decide (y0 < y1) = true := decide_eq_true g2
      by_cases g3 : x0 = y0
      · subst g3
        have HQ := Lib.hid (show decide (btr (ta rows) (tb rows) i k) = decide (i < k) by
          refine decide_eq_decide.2 (HB.out.trans ?_); rw [if_pos g1, if_pos g2]; simp)
        have d3 : (x0 != x0) = false := by simp
        go_enter Tryz.func55, Tryz.ntmps55
        go_wp2_with fail
        go_quiet (fail)
        go_wp2_with fail
        go_quiet (fail)
        go_wp2_with fail
        go_quiet (fail)
        go_wp2_with fail
        go_quiet (fail)
        go_wp2_with fail
        go_ret
        exact ⟨ret_bool HQ.out.symm, by repeat (first | exact Drew.refl _ | refine Drew.drew ?_ _)⟩
      · have HQ := Lib.hid (show decide (btr (ta rows) (tb rows) i k) = decide (x0 < y0) by
          refine decide_eq_decide.2 (HB.out.trans ?_); rw [if_pos g1, if_pos g2]
          exact ⟨fun h => h.elim id (fun h => absurd h.1 g3), Or.inl⟩)
        have d3 : (x0 != y0) = true := by simpa using g3
        go_enter Tryz.func55, Tryz.ntmps55
        go_wp2_with fail
        go_quiet (fail)
        go_wp2_with fail
        go_quiet (fail)
        go_wp2_with fail
        go_quiet (fail)
        go_wp2_with fail
        go_quiet (fail)
        go_wp2_with fail
        go_ret
        exact ⟨ret_bool HQ.out.symm, by repeat (first | exact Drew.refl _ | refine Drew.drew ?_ _)⟩
    · have d2 : decide (y0 < y1) = false := decide_eq_false g2
      have HQ := Lib.hid (show decide (btr (ta rows) (tb rows) i k) = true by
        refine decide_eq_true (HB.out.2 ?_); simp only [g1, g2, if_true, if_false])
      go_enter Tryz.func55, Tryz.ntmps55
      go_wp2_with fail
      go_quiet (fail)
      go_wp2_with fail
      go_quiet (fail)
      go_wp2_with fail
      go_ret
      exact ⟨ret_bool HQ.out.symm, by repeat (first | exact Drew.refl _ | refine Drew.drew ?_ _)⟩
  · have d1 : decide (x0 < x1) = false := decide_eq_false g1
    by_cases g2 : y0 < y1
    · have d2 : decide (y0 < y1) = true := decide_eq_true g2
      have HQ := Lib.hid (show decide (btr (ta rows) (tb rows) i k) = false by
        refine decide_eq_false (fun hb => ?_); have := HB.out.1 hb; simp only [g1, g2, if_true, if_false] at this)
      go_enter Tryz.func55, Tryz.ntmps55
      go_wp2_with fail
      go_quiet (fail)
      go_wp2_with fail
      go_quiet (fail)
      go_wp2_with fail
      go_ret
      exact ⟨ret_bool HQ.out.symm, by repeat (first | exact Drew.refl _ | refine Drew.drew ?_ _)⟩
    · have d2 : decide (y0 < y1) = false := decide_eq_false g2
      by_cases g3 : x1 = y1
      · subst g3
        have HQ := Lib.hid (show decide (btr (ta rows) (tb rows) i k) = decide (i < k) by
          refine decide_eq_decide.2 (HB.out.trans ?_); rw [if_neg g1, if_neg g2]; simp)
        have d3 : (x1 != x1) = false := by simp
        go_enter Tryz.func55, Tryz.ntmps55
        go_wp2_with fail
        go_quiet (fail)
        go_wp2_with fail
        go_quiet (fail)
        go_wp2_with fail
        go_quiet (fail)
        go_wp2_with fail
        go_quiet (fail)
        go_wp2_with fail
        go_ret
        exact ⟨ret_bool HQ.out.symm, by repeat (first | exact Drew.refl _ | refine Drew.drew ?_ _)⟩
      · have HQ := Lib.hid (show decide (btr (ta rows) (tb rows) i k) = decide (y1 < x1) by
          refine decide_eq_decide.2 (HB.out.trans ?_); rw [if_neg g1, if_neg g2]
          exact ⟨fun h => h.elim id (fun h => absurd h.1 g3), Or.inl⟩)
        have d3 : (x1 != y1) = true := by simpa using g3
        go_enter Tryz.func55, Tryz.ntmps55
        go_wp2_with fail
        go_quiet (fail)
        go_wp2_with fail
        go_quiet (fail)
        go_wp2_with fail
        go_quiet (fail)
        go_wp2_with fail
        go_quiet (fail)
        go_wp2_with fail
        go_quiet (fail)
        go_wp2_with fail
        go_ret
        exact ⟨ret_bool HQ.out.symm, by repeat (first | exact Drew.refl _ | refine Drew.drew ?_ _)⟩
end Go.Proofs.YtjcbpnffmebihaaGreatDoor
