import Derived.Test.YtjcbpnffmebihaaGreatDoorA15
import Derived.Test.YtjcbpnffmebihaaGreatDoorA16
import Derived.Test.YtjcbpnffmebihaaGreatDoorRows
import Derived.WalkKit
import Derived.LoopTactic
import Derived.Outline
import Derived.WalkSpells
import Derived.WalkLawsBesides
import Derived.ProofKit
import Derived.Lib.Hide
import Derived.IntWalk
import Derived.Carry
import Derived.Maps.RangeWalk
set_option linter.unusedVariables false
set_option linter.unusedSimpArgs false
namespace Go.Proofs.YtjcbpnffmebihaaGreatDoor
open Go.RowKit Go.WideShapes

-- pairs
def pairB (r : List Int) : Bool := r.length == 2 && (inB 0 9 (r.getD 0 0) && inB 0 9 (r.getD 1 0))
def pairsM (rows : List (List Int)) : Bool := rows.all pairB && decide (rows.length ≤ 8)
theorem pairs_false {rows : List (List Int)} {k : Nat} {r : List Int} (h : rows[k]? = some r) (hr : pairB r = false) : pairsM rows = false := by
  unfold pairsM
  rw [List.all_eq_false.2 ⟨r, List.mem_of_getElem? h, by rw [hr]; simp⟩]; rfl
theorem pairs_get {rows : List (List Int)} (h : pairsM rows = true) : rows.length ≤ 8 ∧ ∀ r ∈ rows, r.length = 2 ∧ (0 ≤ r.getD 0 0 ∧ r.getD 0 0 ≤ 9) ∧ (0 ≤ r.getD 1 0 ∧ r.getD 1 0 ≤ 9) := by
  simp only [pairsM, Bool.and_eq_true, decide_eq_true_eq, List.all_eq_true] at h
  refine ⟨h.2, fun r hr => ?_⟩
  have := h.1 r hr
  simp only [pairB, Bool.and_eq_true, beq_iff_eq] at this
  exact ⟨this.1, by simpa [inB] using this.2.1, by simpa [inB] using this.2.2⟩
theorem validPairs_any (S : Nat → Prop) (a : Option Addr) (len cap : Nat) (rows : List (List Int)) (w : World) (h : RowsAt w S a len rows) :
    Calls Tryz.prog 33 #[.slice a len cap] w fun e w' => e = .returned (.bool (pairsM rows)) ∧ w = w' := by
  have hs := h.small
  have HL := Lib.hid h.lenEq
  go_enter Tryz.func33, Tryz.ntmps33
  go_wp2
  go_loop [3] (fun i => ∃ k : Nat, k ≤ len ∧ i = .int .i64 k ∧ (rows.take k).all pairB = true) (fun i => len - (intOf i).toNat)
  case atStart => exact ⟨0, Nat.zero_le _, rfl, rfl⟩
  case round =>
    obtain ⟨k, hk, rfl, ha⟩ := hrel
    have HA := Lib.hid ha
    clear ha
    by_cases hlt : k < len
    · obtain ⟨b, off, r, a', l, c, rfl, hx, hc, _, hr⟩ := h.get hlt
      have HX := Lib.hid hx
      have HRL := Lib.hid hr.lenEq
      have hrs := hr.small
      clear hx
      by_cases hl2 : l = 2
      · subst hl2
        obtain ⟨b', off', x, rfl, hy, hd⟩ := hr.get (k := 0) (by omega)
        obtain ⟨b2, off2, y, e2, hy2, hd2⟩ := hr.get (k := 1) (by omega)
        cases e2
        rw [Nat.add_zero] at hd
        have HY := Lib.hid (getD_of hy)
        have HY2 := Lib.hid (getD_of hy2)
        clear hy hy2
        cases hq : inB 0 9 x
        · go_wp2_with (go_at_call 54; refine (inRange_any _ _ _ _).mono ?_; rintro e w' ⟨rfl, rfl⟩)
          go_ret
          exact ⟨ret_bool (by rw [pairs_false HX.out (by unfold pairB; rw [HY.out, hq]; simp)]), rfl⟩
        · cases hq2 : inB 0 9 y
          · go_wp2_with (go_at_call 54; refine (inRange_any _ _ _ _).mono ?_; rintro e w' ⟨rfl, rfl⟩)
            go_ret
            exact ⟨ret_bool (by rw [pairs_false HX.out (by unfold pairB; rw [HY2.out, hq2]; simp)]), rfl⟩
          · go_wp2_with (go_at_call 54; refine (inRange_any _ _ _ _).mono ?_; rintro e w' ⟨rfl, rfl⟩)
            go_round
            case rel => exact ⟨k + 1, by omega, by go_num, by
              rw [take_get HX.out, List.all_append, HA.out]
              simp only [List.all_cons, List.all_nil, Bool.and_true, Bool.true_and]
              unfold pairB; rw [HY.out, HY2.out, hq, hq2, HRL.out]; rfl⟩
            case measure => simp [intOf]; omega
      · have hle : ((l : Int) != 2) = true := by simp; omega
        go_wp2
        go_ret
        exact ⟨ret_bool (by rw [pairs_false HX.out (by unfold pairB; rw [HRL.out, beq_eq_false_iff_ne.2 hl2]; rfl)]), rfl⟩
    · go_wp2
      go_ret
      have ha := HA.out
      have hl := HL.out
      rw [List.take_of_length_le (by omega)] at ha
      exact ⟨ret_bool (by rw [pairsM, ha, hl, Bool.true_and]; exact decide_eq_decide.2 (by omega)), rfl⟩
/-- the times of a job -/
def ta (rows : List (List Int)) (x : Nat) : Int := (rows.getD x []).getD 0 0
def tb (rows : List (List Int)) (x : Nat) : Int := (rows.getD x []).getD 1 0
theorem t_bd {rows : List (List Int)} (h : pairsM rows = true) (x : Nat) : (0 ≤ ta rows x ∧ ta rows x ≤ 9) ∧ (0 ≤ tb rows x ∧ tb rows x ≤ 9) := by
  obtain ⟨_, h2⟩ := pairs_get h
  unfold ta tb
  rcases Nat.lt_or_ge x rows.length with hx | hx
  · rw [List.getD_eq_getElem?_getD (l := rows), List.getElem?_eq_getElem hx]
    have := h2 rows[x] (List.getElem_mem hx)
    exact ⟨this.2.1, this.2.2⟩
  · rw [List.getD_eq_getElem?_getD (l := rows), List.getElem?_eq_none hx]; simp
theorem t_at {rows : List (List Int)} {x : Nat} {r : List Int} (h : rows[x]? = some r) : ta rows x = r.getD 0 0 ∧ tb rows x = r.getD 1 0 := by
  unfold ta tb; rw [List.getD_eq_getElem?_getD (l := rows), h]; exact ⟨rfl, rfl⟩
-- orders
def orderP (o : List Int) (n : Nat) : Prop := ((∀ x ∈ o, 0 ≤ x ∧ x < (n : Int)) ∧ o.Nodup) ∧ o.length = n
instance (o : List Int) (n : Nat) : Decidable (orderP o n) := by unfold orderP; infer_instance
def orderM (o : List Int) (n : Nat) : Bool := decide (orderP o n)
theorem orderM_get {o : List Int} {n : Nat} (h : orderM o n = true) : orderP o n := of_decide_eq_true h
def nO (o : List Int) : List Nat := o.map Int.toNat
theorem nO_perm {o : List Int} {n : Nat} (h : orderP o n) : (nO o).Perm (List.range n) := by
  obtain ⟨⟨h1, h2⟩, h3⟩ := h
  have hn : (nO o).Nodup := by
    refine List.pairwise_map.2 (h2.imp_of_mem (fun {x y} hx hy hne e => hne ?_))
    have := h1 x hx; have := h1 y hy; omega
  have hs : nO o ⊆ List.range n := fun x hx => by
    obtain ⟨y, hy, rfl⟩ := List.mem_map.1 hx
    have := h1 y hy; simp; omega
  refine (List.perm_ext_iff_of_nodup hn List.nodup_range).2 (fun x => ⟨fun hx => hs hx, fun hx => ?_⟩)
  apply Classical.byContradiction
  intro hm
  have : (x :: nO o).length ≤ (List.range n).length := List.Nodup.length_le_of_subset (List.nodup_cons.2 ⟨hm, hn⟩) (fun y hy => by
    rcases List.mem_cons.1 hy with rfl | hy
    · exact hx
    · exact hs hy)
  simp [nO] at this; omega
theorem order_bad {o : List Int} {n k : Nat} {x : Int} (h : o[k]? = some x) (hx : inB 0 ((n : Int) - 1) x = false) : orderM o n = false := by
  refine decide_eq_false (fun hp => ?_)
  have := hp.1.1 x (List.mem_of_getElem? h)
  unfold inB at hx
  simp only [decide_eq_false_iff_not] at hx
  omega
theorem nO_snoc {o : List Int} {k : Nat} {x : Int} (h : o[k]? = some x) : nO (o.take (k + 1)) = nO (o.take k) ++ [x.toNat] := by
  rw [take_get h]; simp [nO]
theorem run_bd {rows : List (List Int)} (hp : pairsM rows = true) (l : List Nat) : (0 ≤ (runT (ta rows) (tb rows) (0, 0) l).1 ∧ (runT (ta rows) (tb rows) (0, 0) l).1 ≤ 9 * (l.length : Int)) ∧ (0 ≤ (runT (ta rows) (tb rows) (0, 0) l).2 ∧ (runT (ta rows) (tb rows) (0, 0) l).2 ≤ 18 * (l.length : Int)) := by
  have h1 := runT_fst (ta rows) (tb rows) l (0, 0)
  have h2 := sumL_nn (fun x => (t_bd hp x).1.1) l
  have h3 := sumL_bd (fun x => (t_bd hp x).1.2) l
  have h4 := sumL_bd (fun x => (t_bd hp x).2.2) l
  have h5 := span_sums (fun x => (t_bd hp x).1.1) (fun x => (t_bd hp x).2.1) l
  have h6 := sumL_nn (fun x => (t_bd hp x).2.1) l
  unfold spanT at h5
  simp only at h1
  omega
set_option maxHeartbeats 1000000 in
theorem span_any (S T : Nat → Prop) (a : Option Addr) (len cap : Nat) (rows : List (List Int)) (a2 : Option Addr) (len2 cap2 : Nat) (o : List Int) (w : World) (h : RowsAt w S a len rows) (g : IntsAt w T a2 len2 o) (hp : pairsM rows = true) (ho : ∀ x ∈ o, 0 ≤ x ∧ x < (len : Int)) (hl : len2 ≤ 8) :
    Calls Tryz.prog 35 #[.slice a len cap, .slice a2 len2 cap2] w fun e w' => e = .returned (.int .i64 (spanT (ta rows) (tb rows) (nO o))) ∧ w = w' := by
  have HL := Lib.hid g.lenEq
  have HP := Lib.hid (pairs_get hp).2
  have HBD := Lib.hid (run_bd hp)
  have HO := Lib.hid ho
  clear hp ho
  go_enter Tryz.func35, Tryz.ntmps35
  go_wp2_with fail
  go_loop [5, 6, 7] (fun av bv i => ∃ k : Nat, k ≤ len2 ∧ i = .int .i64 k ∧ av = .int .i64 (runT (ta rows) (tb rows) (0, 0) (nO (o.take k))).1 ∧ bv = .int .i64 (runT (ta rows) (tb rows) (0, 0) (nO (o.take k))).2) (fun _ _ i => len2 - (intOf i).toNat)
  case atStart => exact ⟨0, Nat.zero_le _, rfl, rfl, rfl⟩
  case round =>
    obtain ⟨k, hk, rfl, rfl, rfl⟩ := hrel
    by_cases hlt : k < len2
    · obtain ⟨b, off, x, rfl, hx, hc⟩ := g.get hlt
      have hxb := HO.out x (List.mem_of_getElem? hx)
      obtain ⟨q, rfl⟩ : ∃ q : Nat, x = (q : Int) := ⟨x.toNat, by omega⟩
      have hql : q < len := by omega
      obtain ⟨b2, off2, r, a', l, c, rfl, hr, hcr, _, hri⟩ := h.get hql
      obtain ⟨hr2, hra, hrb⟩ := HP.out r (List.mem_of_getElem? hr)
      have hl2 : l = 2 := by rw [← hri.lenEq, hr2]
      subst hl2
      obtain ⟨b3, off3, x3, rfl, h3, hc3⟩ := hri.get (k := 0) (by omega)
      obtain ⟨b4, off4, x4, e4, h4, hc4⟩ := hri.get (k := 1) (by omega)
      cases e4
      rw [Nat.add_zero] at hc3
      rw [getD_of h3] at hra
      rw [getD_of h4] at hrb
      have ht := t_at hr
      rw [getD_of h3, getD_of h4] at ht
      have hb := HBD.out (nO (o.take k))
      have hkl : ((nO (o.take k)).length : Int) ≤ 8 := by unfold nO; rw [List.length_map, List.length_take]; omega
      have HN := Lib.hid (show runT (ta rows) (tb rows) (0, 0) (nO (o.take (k + 1))) = stT (ta rows) (tb rows) (runT (ta rows) (tb rows) (0, 0) (nO (o.take k))) q by
        rw [nO_snoc hx, runT_snoc, Int.toNat_natCast])
      have HN1 := Lib.hid (show (runT (ta rows) (tb rows) (0, 0) (nO (o.take (k + 1)))).1 = (runT (ta rows) (tb rows) (0, 0) (nO (o.take k))).1 + x3 by rw [HN.out]; show _ + ta rows q = _; rw [ht.1])
      have HN2 := Lib.hid (show (runT (ta rows) (tb rows) (0, 0) (nO (o.take (k + 1)))).2 = max ((runT (ta rows) (tb rows) (0, 0) (nO (o.take k))).1 + x3) (runT (ta rows) (tb rows) (0, 0) (nO (o.take k))).2 + x4 by rw [HN.out]; show max (_ + ta rows q) _ + tb rows q = _; rw [ht.1, ht.2])
      have hqi : (q : Int) < (len : Int) := by omega
      clear hx hr hr2 h3 h4 ht HN
      generalize (runT (ta rows) (tb rows) (0, 0) (nO (o.take k))).1 = va at *
      generalize (runT (ta rows) (tb rows) (0, 0) (nO (o.take k))).2 = vb at *
      by_cases hmx : va + x3 < vb
      · have HM := Lib.hid (HN2.out.trans (show _ = vb + x4 by rw [show max (va + x3) vb = vb by omega]))
        go_wp2_with fail
        go_round
        case rel => exact ⟨k + 1, by omega, by go_num, by rw [HN1.out], by first | (rw [HM.out]; done) | (rw [HM.out]; congr 1; omega)⟩
        case measure => simp [intOf] <;> omega
      · have HM := Lib.hid (HN2.out.trans (show _ = va + x3 + x4 by rw [show max (va + x3) vb = va + x3 by omega]))
        go_wp2_with fail
        go_round
        case rel => exact ⟨k + 1, by omega, by go_num, by rw [HN1.out], by first | (rw [HM.out]; done) | (rw [HM.out]; congr 1; omega)⟩
        case measure => simp [intOf] <;> omega
    · obtain rfl : k = len2 := by omega
      have HE := Lib.hid (show (runT (ta rows) (tb rows) (0, 0) (nO (o.take k))).2 = spanT (ta rows) (tb rows) (nO o) by rw [List.take_of_length_le (by rw [HL.out]; omega)]; rfl)
      go_wp2_with fail
      go_ret
      exact ⟨ret_int HE.out, rfl⟩
/-- what SpanOf answers -/
def spanFine (rows : List (List Int)) (o : List Int) : Bool := pairsM rows && orderM o rows.length
def spanRes (rows : List (List Int)) (o : List Int) : Int := if spanFine rows o then spanT (ta rows) (tb rows) (nO o) else -1
theorem spanRes_no {rows : List (List Int)} {o : List Int} (h : spanFine rows o = false) : spanRes rows o = -1 := by unfold spanRes; rw [h]; rfl
theorem spanRes_yes {rows : List (List Int)} {o : List Int} (h : spanFine rows o = true) : spanRes rows o = spanT (ta rows) (tb rows) (nO o) := by unfold spanRes; rw [h]; rfl
theorem spanFine_get {rows : List (List Int)} {o : List Int} (h : spanFine rows o = true) : pairsM rows = true ∧ orderP o rows.length := by
  simp only [spanFine, Bool.and_eq_true] at h; exact ⟨h.1, orderM_get h.2⟩
end Go.Proofs.YtjcbpnffmebihaaGreatDoor
namespace Go.Proofs.YtjcbpnffmebihaaGreatDoor
open Go.RowKit Go.WideShapes

theorem own_lit (w : World) (xs : List Int) (len : Nat) (hl : xs.length = len) (hs : len ≤ 1048576) : (w.alloc (.cells (cellsOf xs) 3)).ownsRow w.heap.size 3 1 (.slice (some ⟨w.heap.size, 0, none⟩) len len) len (xs.map (.int .i64)) :=
  ⟨by simp [hl], .inr ⟨w.heap.size, len, cellsOf xs, rfl, Nat.le_refl _, heap_alloc_new w _, Nat.le_refl _, by unfold maxLen; omega, by simp [cellsOf, hl], by simp [cellsOf]; exact List.take_of_length_le (by simp [hl])⟩⟩
theorem drew_two {a b c : World} (h1 : Drew a b) (h2 : Drew b c) : Drew a c := by obtain ⟨q, rfl⟩ := h2; exact h1.drew q
end Go.Proofs.YtjcbpnffmebihaaGreatDoor
namespace Go.Proofs.YtjcbpnffmebihaaGreatDoor

-- plain: what is cut from each roll, and its loads
section
variable {α : Type} {f : α → Int}
def sumI (l : List Int) : Int := wsum (lenT l) (fun _ => true) l.length
theorem wsum_all1 {f g : Nat → Int} (n : Nat) (h : ∀ i, i < n → f i = g i) : wsum f (fun _ => true) n = wsum g (fun _ => true) n := wsum_congr n (fun _ _ => rfl) (fun i hi _ => h i hi)
theorem sumI_snoc (l : List Int) (y : Int) : sumI (l ++ [y]) = sumI l + y := by
  unfold sumI
  rw [List.length_append, List.length_singleton, wsum, if_pos rfl, wsum_all1 (g := lenT l) l.length (fun i hi => by unfold lenT; rw [getD_snocI, if_pos hi])]
  unfold lenT
  rw [getD_snocI, if_neg (by omega), if_pos rfl]
theorem sumI_pre (l : List Int) (j : Nat) (hj : j < l.length) : wsum (lenT l) (fun _ => true) (j + 1) = wsum (lenT l) (fun _ => true) j + l.getD j 0 := by
  rw [wsum, if_pos rfl]; rfl
theorem sumI_bd {l : List Int} (h : ∀ x ∈ l, 0 ≤ x ∧ x ≤ 20) : ∀ j : Nat, j ≤ l.length → 0 ≤ wsum (lenT l) (fun _ => true) j ∧ wsum (lenT l) (fun _ => true) j ≤ 20 * (j : Int)
  | 0, _ => by simp [wsum]
  | j + 1, hj => by
    have ih := sumI_bd h j (by omega)
    have := h (l.getD j 0) (by rw [List.getD_eq_getElem?_getD, List.getElem?_eq_getElem (by omega)]; exact List.getElem_mem _)
    rw [sumI_pre l j (by omega)]
    push_cast; omega
def putRow (rows : List (List α)) (k : Nat) (y : α) : List (List α) := if k = rows.length then rows ++ [[y]] else rows.set k (rows.getD k [] ++ [y])
def loadsOf (f : α → Int) (rows : List (List α)) : List Int := rows.map (fun row => sumI (row.map f))
theorem loads_len (rows : List (List α)) : (loadsOf f rows).length = rows.length := by simp [loadsOf]
theorem loads_get (rows : List (List α)) (k : Nat) : (loadsOf f rows).getD k 0 = sumI ((rows.getD k []).map f) := by
  unfold loadsOf
  rw [List.getD_eq_getElem?_getD, List.getD_eq_getElem?_getD, List.getElem?_map]
  cases rows[k]? <;> rfl
theorem loads_put {rows : List (List α)} {k : Nat} (y : α) : loadsOf f (putRow rows k y) = putR (loadsOf f rows) k (f y) := by
  unfold putRow putR
  rw [loads_len]
  by_cases e : k = rows.length
  · rw [if_pos e, if_pos e]
    unfold loadsOf
    rw [List.map_append]
    simp [sumI, wsum, lenT]
  · rw [if_neg e, if_neg e, loads_get]
    unfold loadsOf
    rw [List.map_set, List.map_append, List.map_singleton, sumI_snoc]
structure RowsOk (f : α → Int) (rows : List (List α)) (n : Nat) : Prop where
  len : rows.length ≤ n
  row : ∀ i, (rows.getD i []).length ≤ n
  val : ∀ i, ∀ x ∈ rows.getD i [], 0 ≤ f x ∧ f x ≤ 20
theorem RowsOk.nil : RowsOk f ([] : List (List α)) 0 := ⟨Nat.le_refl _, fun i => by simp, fun i x hx => by simp at hx⟩
theorem putRow_get {rows : List (List α)} {k : Nat} {y : α} (hk : k ≤ rows.length) (i : Nat) : (putRow rows k y).getD i [] = if i = k then rows.getD k [] ++ [y] else rows.getD i [] := by
  unfold putRow
  by_cases e : k = rows.length
  · rw [if_pos e, List.getD_eq_getElem?_getD]
    by_cases h : i < rows.length
    · rw [if_neg (by omega), List.getElem?_append_left h, List.getD_eq_getElem?_getD]
    · rw [List.getElem?_append_right (by omega)]
      by_cases h2 : i = k
      · rw [if_pos h2, h2, e, Nat.sub_self, List.getD_eq_getElem?_getD, List.getElem?_eq_none (Nat.le_refl _)]; rfl
      · rw [if_neg h2, List.getElem?_eq_none (by simp; omega), List.getD_eq_getElem?_getD, List.getElem?_eq_none (by omega)]
  · rw [if_neg e, List.getD_eq_getElem?_getD, List.getElem?_set]
    by_cases h2 : k = i
    · subst h2; rw [if_pos rfl, if_pos rfl, if_pos (by omega)]; rfl
    · rw [if_neg h2, if_neg (fun e => h2 e.symm), List.getD_eq_getElem?_getD]
theorem putRow_len (rows : List (List α)) (k : Nat) (y : α) : (putRow rows k y).length = if k = rows.length then rows.length + 1 else rows.length := by
  unfold putRow; split <;> simp
theorem RowsOk.put {rows : List (List α)} {n k : Nat} {y : α} (h : RowsOk f rows n) (hk : k ≤ rows.length) (hy : 0 ≤ f y ∧ f y ≤ 20) : RowsOk f (putRow rows k y) (n + 1) := by
  have hl := h.len
  refine ⟨by rw [putRow_len]; split <;> omega, fun i => ?_, fun i x hx => ?_⟩
  · rw [putRow_get hk]
    split
    · have := h.row k
      rw [List.length_append, List.length_singleton]; omega
    · have := h.row i; omega
  · rw [putRow_get hk] at hx
    split at hx
    · rcases List.mem_append.1 hx with g | g
      · exact h.val k x g
      · rw [List.mem_singleton.1 g]; exact hy
    · exact h.val i x hx
/-- the last cut of a roll put back, and the roll, if nothing else is cut from it -/
theorem putRow_back {rows : List (List α)} {k : Nat} {y : α} (hk : k ≤ rows.length) (hne : k < rows.length → rows.getD k [] ≠ []) :
    (k = rows.length → (putRow rows k y).take k = rows ∧ ((putRow rows k y).getD k []).length = 1) ∧ (k < rows.length → (putRow rows k y).set k (((putRow rows k y).getD k []).take ((rows.getD k []).length)) = rows ∧ ((putRow rows k y).getD k []).length = (rows.getD k []).length + 1 ∧ 0 < (rows.getD k []).length) := by
  refine ⟨fun e => ⟨?_, ?_⟩, fun h => ⟨?_, ?_, ?_⟩⟩
  · unfold putRow
    rw [if_pos e, e, List.take_left]
  · rw [putRow_get hk, if_pos rfl, e, List.getD_eq_getElem?_getD, List.getElem?_eq_none (Nat.le_refl _)]; rfl
  · rw [putRow_get hk, if_pos rfl, List.take_left]
    unfold putRow
    rw [if_neg (by omega), List.set_set]
    rw [List.getD_eq_getElem?_getD, List.getElem?_eq_getElem h]
    exact List.set_getElem_self h
  · rw [putRow_get hk, if_pos rfl]; simp
  · have := hne h
    cases e : rows.getD k [] with
    | nil => exact absurd e this
    | cons a b => simp
def NoEmpty (rows : List (List α)) : Prop := ∀ k, k < rows.length → rows.getD k [] ≠ []
theorem NoEmpty.put {rows : List (List α)} {k : Nat} {y : α} (h : NoEmpty rows) (hk : k ≤ rows.length) : NoEmpty (putRow rows k y) := fun i hi => by
  rw [putRow_get hk]
  rw [putRow_len] at hi
  by_cases e : i = k
  · rw [if_pos e]; simp
  · rw [if_neg e]
    refine h i ?_
    split at hi <;> omega
end
end Go.Proofs.YtjcbpnffmebihaaGreatDoor
namespace Go.Proofs.YtjcbpnffmebihaaGreatDoor
open Go.RowKit Go.WideShapes Go.Maps

theorem areC {o u : Int} {b : Bool} (h : (inB 0 30 o && inB 0 30 u) = b) (w : World) : Calls Tryz.prog 90 #[.int .i64 o, .int .i64 u] w fun e w' => e = .returned (.bool b) ∧ w = w' := by
  subst h; exact areCosts_any o u w
theorem vchI {S : Nat → Prop} {a : Option Addr} {len cap : Nat} {xs : List Int} {b : Bool} (hb : chM xs = b) (w : World) (h : IntsAt w S a len xs) : Calls Tryz.prog 97 #[.slice a len cap] w fun e w' => e = .returned (.bool b) ∧ w = w' := by
  subst hb; exact validChances_impl S a len cap xs w h
theorem okO_eq {xs : List Int} {o u : Int} {b c : Bool} (h : chM xs = b) (h2 : (inB 0 30 o && inB 0 30 u) = c) : okO xs o u = (b && c) := by
  unfold okO; rw [Bool.and_assoc, h2, h]
set_option maxRecDepth 100000 in
set_option maxHeartbeats 4000000 in
theorem stockCost_impl (a : Option Addr) (len cap : Nat) (xs : List Int) (s o u : Int) (w : World) (h : IntsAt w (· < w.heap.size) a len xs) :
    Calls Tryz.prog 132 #[.slice a len cap, .int .i64 s, .int .i64 o, .int .i64 u] w (valN w (.int .i64 (stockRes xs s o u))) := by
  cases hc : chM xs
  · rw [stockRes_no (.inl (by rw [okO_eq hc rfl]; rfl))]
    go_enter Tryz.func132, Tryz.ntmps132
    go_wp2_with (go_at_call 97; refine (vchI hc _ h).mono ?_; rintro e w' ⟨rfl, rfl⟩)
    go_ret
    exact ⟨rfl, Below.refl _ _⟩
  · cases hs : inB 0 7 s
    · rw [stockRes_no (.inr hs)]
      go_enter Tryz.func132, Tryz.ntmps132
      go_wp2_with (first | (go_at_call 97; refine (vchI hc _ h).mono ?_; rintro e w' ⟨rfl, rfl⟩) | (go_at_call 118; refine (isUp8 _ _ _ hs).mono ?_; rintro e w' ⟨rfl, rfl⟩))
      go_ret
      exact ⟨rfl, Below.refl _ _⟩
    · cases ho : (inB 0 30 o && inB 0 30 u)
      · rw [stockRes_no (.inl (by rw [okO_eq hc ho]; rfl))]
        go_enter Tryz.func132, Tryz.ntmps132
        go_wp2_with (first | (go_at_call 97; refine (vchI hc _ h).mono ?_; rintro e w' ⟨rfl, rfl⟩) | (go_at_call 118; refine (isUp8 _ _ _ hs).mono ?_; rintro e w' ⟨rfl, rfl⟩) | (go_at_call 90; refine (areC ho _).mono ?_; rintro e w' ⟨rfl, rfl⟩))
        go_ret
        exact ⟨rfl, Below.refl _ _⟩
      · have hok : okO xs o u = true := by rw [okO_eq hc ho]; rfl
        obtain ⟨s, rfl, hs7⟩ : ∃ n : Nat, s = (n : Int) ∧ n ≤ 7 := by simp [inB] at hs; exact ⟨s.toNat, by omega, by omega⟩
        rw [stockRes_yes hok hs7]
        obtain ⟨_, ho0, ho1, hu0, hu1⟩ := okO_at hok
        obtain ⟨hl1, hl7, hx9, _⟩ := chM_at hc
        have hle : xs.length = len := h.lenEq
        have HX9 := Lib.hid hx9
        clear hx9
        have HCO := Lib.hid (show costS xs s o u = sumF (fun v => xs.getD v 0 * unitC s v o u) len by unfold costS; rw [costK_F, hle])
        rw [hle] at hl1 hl7
        clear hle
        go_enter Tryz.func132, Tryz.ntmps132
        go_wp2_with (first | (go_at_call 97; refine (vchI hc _ h).mono ?_; rintro e w' ⟨rfl, rfl⟩) | (go_at_call 118; refine (isUp8 _ _ _ hs).mono ?_; rintro e w' ⟨rfl, rfl⟩) | (go_at_call 90; refine (areC ho _).mono ?_; rintro e w' ⟨rfl, rfl⟩))
        refine (chancesOf_impl a len cap xs _ h hl7 HX9.out).mono ?_
        rintro e w1 ⟨B, n, D, rfl, hB, hn, hown, hm, hb1⟩
        have HM := Lib.hid hm
        have HB1 := Lib.hid hb1
        clear hm hb1 h hc hs ho hok
        go_wp2_with (first
          | (at_range; refine wpList_range_own _ rfl _ 196 rfl 3 3 Tryz.lawI Tryz.underCh _ B n _ rfl hown ?_; intro w0 hrg0 hg0 hs0)
          | fail)
        go_frame
        go_loopw [9] (fun i wr => ∃ (left : Lit → Bool) (cnt : Nat), i = .int .i64 (cameF (fun v => xs.getD v 0 * unitC s v o u) left len) ∧ (∀ kl, left kl = true → has D kl = true) ∧ wr.ranges Tryz.prog 3 (plainElem Tryz.prog 3) B w1.heap.size n D left cnt ∧ Below w1.heap.size w1 wr) (fun _ wr => wr.rangeLeft B w1.heap.size)
        case atStart =>
          refine ⟨_, _, ?_, fun _ h => h, hrg0, ⟨hg0.os, hg0.tape, hg0.output, hg0.size, fun k hk => hg0.block k hk (by simp)⟩⟩
          rw [came_start (fun v hv hh => ?_)]
          rw [HM.out.2.1 v hv] at hh
          have h1 : ¬ 0 < xs.getD v 0 := of_decide_eq_false hh
          have h2 := HX9.out v
          have h3 : xs.getD v 0 = 0 := by omega
          rw [h3, Int.zero_mul]
        case round =>
          clear hrg0 hg0 hs0 hown
          obtain ⟨left, cnt, rfl, hle, hrg, hnx⟩ := hrel
          have HNX := Lib.hid hnx
          have HLE := Lib.hid hle
          have hcb := came_bd (f := fun v => xs.getD v 0 * unitC s v o u) (left := left) (B := 4320) (K := len) (by omega) (fun v hv => termC_bd (HX9.out v) (unit_bd ⟨ho0, ho1⟩ ⟨hu0, hu1⟩ (by omega) (by omega)))
          clear hnx hle
          obtain ⟨c, hc⟩ : ∃ c, cameF (fun v => xs.getD v 0 * unitC s v o u) left len = c := ⟨_, rfl⟩
          rw [hc] at hcb ⊢
          have HC := Lib.hid hc
          clear hc
          have hc0 : 0 ≤ c := hcb.1
          have hc1 : c ≤ 40000 := by omega
          clear hcb
          go_wp2_with (first
            | (at_next; refine wpList_next_ranges_ii _ rfl _ rfl 3 3 .i64 .i64 Tryz.lawI Tryz.underI Tryz.underI B w1.heap.size n _ _ _ rfl hrg ?_ ?_)
            | fail)
          · intro _ hl0
            go_wp2_with fail
            go_ret
            exact ⟨ret_int (by rw [HCO.out, ← HC.out, came_end hl0]), HB1.out.trans (HNX.out.mono HB1.out.size)⟩
          · intro x y w2 cnt1 hwx hwc hlx hat hrg1 hlt hg1 hs1 hen
            obtain ⟨v, hv, rfl, rfl, hp⟩ := HM.out.came HLE.out hlx hat
            have hnx1 := HNX.out.grown hg1 HNX.out.size (fun j hj => by cases hj; exact Nat.le_refl _)
            have HST := Lib.hid (came_step (f := fun v => xs.getD v 0 * unitC s v o u) hlx hv)
            have HN1 := Lib.hid hnx1
            have hx9 := HX9.out v
            clear hnx1 hat
            obtain ⟨d1, e1⟩ : ∃ d1 : Int, ((s - v : Nat) : Int) = d1 := ⟨_, rfl⟩
            obtain ⟨d2, e2⟩ : ∃ d2 : Int, ((v - s : Nat) : Int) = d2 := ⟨_, rfl⟩
            have hF : xs.getD v 0 * unitC s v o u = xs.getD v 0 * (o * d1 + u * d2) := by unfold unitC; rw [e1, e2]
            have hb := termC_bd hx9 (unit_bd (s := s) (v := v) ⟨ho0, ho1⟩ ⟨hu0, hu1⟩ (by omega) (by omega))
            rw [hF] at hb
            have HFF := Lib.hid hF
            clear hF
            have b1 : 0 ≤ o * d1 ∧ o * d1 ≤ 30 * 8 := ⟨Int.mul_nonneg ho0 (by omega), Int.mul_le_mul ho1 (by omega) (by omega) (by omega)⟩
            have b2 : 0 ≤ u * d2 ∧ u * d2 ≤ 30 * 8 := ⟨Int.mul_nonneg hu0 (by omega), Int.mul_le_mul hu1 (by omega) (by omega) (by omega)⟩
            have m1 : (if v < s then (s : Int) - (v : Int) else 0) = d1 := by split <;> omega
            have n1 : (if s < v then (v : Int) - (s : Int) else 0) = d2 := by split <;> omega
            clear e1 e2
            obtain ⟨g, hg⟩ : ∃ g, xs.getD v 0 = g := ⟨_, rfl⟩
            rw [hg] at hb hx9 hp hwc hen HFF ⊢
            have HG := Lib.hid hg
            clear hg hwx hwc
            go_wp2_with fail
            go_roundw
            case rel => exact ⟨_, _, by rw [HST.out, HC.out]; show _ = Value.int .i64 (c + (xs.getD v 0 * unitC s v o u)); rw [HG.out, HFF.out], strike_le HLE.out _, hrg1, HN1.out⟩
            case measure => rw [hrg1.left_eq, hrg.left_eq]; exact hlt
end Go.Proofs.YtjcbpnffmebihaaGreatDoor
