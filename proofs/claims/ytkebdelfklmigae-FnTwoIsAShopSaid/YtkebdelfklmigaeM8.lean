import Derived.Test.YtkebdelfklmigaeRows
import Derived.WalkKit
import Derived.LoopTactic
import Derived.Outline
import Derived.WalkSpells
import Derived.WalkLawsBesides
import Derived.ProofKit
import Derived.Lib.Hide
import Derived.IntWalk
import Derived.Test.YtkebdelfklmigaeM0
import Derived.Test.YtkebdelfklmigaeM2
import Derived.Test.YtkebdelfklmigaeM4
import Derived.Test.YtkebdelfklmigaeM7
import Derived.Test.YtkebdelfklmigaeM1
import Derived.Deep.AppendLies
namespace Go.Proofs.Ytkebdelfklmigae
open Go.RowKit Go.WideShapes

-- pairs
def pairB (r : List Int) : Bool := r.length == 2 && (inB 0 9 (r.getD 0 0) && inB 0 9 (r.getD 1 0))
def pairsM (rows : List (List Int)) : Bool := rows.all pairB && decide (rows.length ≤ 8)
theorem pairs_false {rows : List (List Int)} {k : Nat} {r : List Int} (h : rows[k]? = some r) (hr : pairB r = false) : pairsM rows = false := by
  unfold pairsM
  rw [List.all_eq_false.2 ⟨r, List.mem_of_getElem? h, by rw [hr]; simp⟩]; rfl
theorem pairs_get {rows : List (List Int)} (h : pairsM rows = true) : rows.length ≤ 8 ∧ ∀ r ∈ rows, r.length = 2 ∧ (0 ≤ r.getD 0 0 ∧ r.getD 0 0 ≤ 9) ∧ (0 ≤ r.getD 1 0 ∧ r.getD 1 0 ≤ 9) := by
  simp only [pairsM, Bool.and_eq_true, decide_eq_true_eq, List.all_eq_true] at h
  refine ⟨h.2, fun r hr => ?_⟩
  have := h.1 r hr
  simp only [pairB, Bool.and_eq_true, beq_iff_eq] at this
  exact ⟨this.1, by simpa [inB] using this.2.1, by simpa [inB] using this.2.2⟩
theorem validPairs_any (S : Nat → Prop) (a : Option Addr) (len cap : Nat) (rows : List (List Int)) (w : World) (h : RowsAt w S a len rows) :
    Calls Try.prog 51 #[.slice a len cap] w fun e w' => e = .returned (.bool (pairsM rows)) ∧ w = w' := by
  have hs := h.small
  have HL := Lib.hid h.lenEq
  go_enter Try.func51, Try.ntmps51
  go_wp2
  go_loop [3] (fun i => ∃ k : Nat, k ≤ len ∧ i = .int .i64 k ∧ (rows.take k).all pairB = true) (fun i => len - (intOf i).toNat)
  case atStart => exact ⟨0, Nat.zero_le _, rfl, rfl⟩
  case round =>
    obtain ⟨k, hk, rfl, ha⟩ := hrel
    have HA := Lib.hid ha
    clear ha
    by_cases hlt : k < len
    · obtain ⟨b, off, r, a', l, c, rfl, hx, hc, _, hr⟩ := h.get hlt
      have HX := Lib.hid hx
      have HRL := Lib.hid hr.lenEq
      have hrs := hr.small
      clear hx
      by_cases hl2 : l = 2
      · subst hl2
        obtain ⟨b', off', x, rfl, hy, hd⟩ := hr.get (k := 0) (by omega)
        obtain ⟨b2, off2, y, e2, hy2, hd2⟩ := hr.get (k := 1) (by omega)
        cases e2
        rw [Nat.add_zero] at hd
        have HY := Lib.hid (getD_of hy)
        have HY2 := Lib.hid (getD_of hy2)
        clear hy hy2
        cases hq : inB 0 9 x
        · go_wp2_with (go_at_call 46; refine (inRange_any _ _ _ _).mono ?_; rintro e w' ⟨rfl, rfl⟩)
          go_ret
          exact ⟨ret_bool (by rw [pairs_false HX.out (by unfold pairB; rw [HY.out, hq]; simp)]), rfl⟩
        · cases hq2 : inB 0 9 y
          · go_wp2_with (go_at_call 46; refine (inRange_any _ _ _ _).mono ?_; rintro e w' ⟨rfl, rfl⟩)
            go_ret
            exact ⟨ret_bool (by rw [pairs_false HX.out (by unfold pairB; rw [HY2.out, hq2]; simp)]), rfl⟩
          · go_wp2_with (go_at_call 46; refine (inRange_any _ _ _ _).mono ?_; rintro e w' ⟨rfl, rfl⟩)
            go_round
            case rel => exact ⟨k + 1, by omega, by go_num, by
              rw [take_get HX.out, List.all_append, HA.out]
              simp only [List.all_cons, List.all_nil, Bool.and_true, Bool.true_and]
              unfold pairB; rw [HY.out, HY2.out, hq, hq2, HRL.out]; rfl⟩
            case measure => simp [intOf]; omega
      · have hle : ((l : Int) != 2) = true := by simp; omega
        go_wp2
        go_ret
        exact ⟨ret_bool (by rw [pairs_false HX.out (by unfold pairB; rw [HRL.out, beq_eq_false_iff_ne.2 hl2]; rfl)]), rfl⟩
    · go_wp2
      go_ret
      have ha := HA.out
      have hl := HL.out
      rw [List.take_of_length_le (by omega)] at ha
      exact ⟨ret_bool (by rw [pairsM, ha, hl, Bool.true_and]; exact decide_eq_decide.2 (by omega)), rfl⟩
/-- the times of a job -/
def ta (rows : List (List Int)) (x : Nat) : Int := (rows.getD x []).getD 0 0
def tb (rows : List (List Int)) (x : Nat) : Int := (rows.getD x []).getD 1 0
theorem t_bd {rows : List (List Int)} (h : pairsM rows = true) (x : Nat) : (0 ≤ ta rows x ∧ ta rows x ≤ 9) ∧ (0 ≤ tb rows x ∧ tb rows x ≤ 9) := by
  obtain ⟨_, h2⟩ := pairs_get h
  unfold ta tb
  rcases Nat.lt_or_ge x rows.length with hx | hx
  · rw [List.getD_eq_getElem?_getD (l := rows), List.getElem?_eq_getElem hx]
    have := h2 rows[x] (List.getElem_mem hx)
    exact ⟨this.2.1, this.2.2⟩
  · rw [List.getD_eq_getElem?_getD (l := rows), List.getElem?_eq_none hx]; simp
theorem t_at {rows : List (List Int)} {x : Nat} {r : List Int} (h : rows[x]? = some r) : ta rows x = r.getD 0 0 ∧ tb rows x = r.getD 1 0 := by
  unfold ta tb; rw [List.getD_eq_getElem?_getD (l := rows), h]; exact ⟨rfl, rfl⟩
-- orders
def orderP (o : List Int) (n : Nat) : Prop := ((∀ x ∈ o, 0 ≤ x ∧ x < (n : Int)) ∧ o.Nodup) ∧ o.length = n
instance (o : List Int) (n : Nat) : Decidable (orderP o n) := by unfold orderP; infer_instance
def orderM (o : List Int) (n : Nat) : Bool := decide (orderP o n)
theorem orderM_get {o : List Int} {n : Nat} (h : orderM o n = true) : orderP o n := of_decide_eq_true h
def nO (o : List Int) : List Nat := o.map Int.toNat
theorem nO_perm {o : List Int} {n : Nat} (h : orderP o n) : (nO o).Perm (List.range n) := by
  obtain ⟨⟨h1, h2⟩, h3⟩ := h
  have hn : (nO o).Nodup := by
    refine List.pairwise_map.2 (h2.imp_of_mem (fun {x y} hx hy hne e => hne ?_))
    have := h1 x hx; have := h1 y hy; omega
  have hs : nO o ⊆ List.range n := fun x hx => by
    obtain ⟨y, hy, rfl⟩ := List.mem_map.1 hx
    have := h1 y hy; simp; omega
  refine (List.perm_ext_iff_of_nodup hn List.nodup_range).2 (fun x => ⟨fun hx => hs hx, fun hx => ?_⟩)
  apply Classical.byContradiction
  intro hm
  have : (x :: nO o).length ≤ (List.range n).length := List.Nodup.length_le_of_subset (List.nodup_cons.2 ⟨hm, hn⟩) (fun y hy => by
    rcases List.mem_cons.1 hy with rfl | hy
    · exact hx
    · exact hs hy)
  simp [nO] at this; omega
theorem order_bad {o : List Int} {n k : Nat} {x : Int} (h : o[k]? = some x) (hx : inB 0 ((n : Int) - 1) x = false) : orderM o n = false := by
  refine decide_eq_false (fun hp => ?_)
  have := hp.1.1 x (List.mem_of_getElem? h)
  unfold inB at hx
  simp only [decide_eq_false_iff_not] at hx
  omega
theorem order_twice {o : List Int} {n k : Nat} {x : Int} (h : o[k]? = some x) (hx : x ∈ o.take k) : orderM o n = false := by
  refine decide_eq_false (fun hp => ?_)
  have hn := hp.1.2
  have h2 : (o.take (k + 1)).Nodup := hn.sublist (List.take_sublist _ _)
  rw [take_get h] at h2
  exact (List.nodup_append.1 h2).2.2 x hx x (by simp) rfl
theorem nO_snoc {o : List Int} {k : Nat} {x : Int} (h : o[k]? = some x) : nO (o.take (k + 1)) = nO (o.take k) ++ [x.toNat] := by
  rw [take_get h]; simp [nO]
theorem run_bd {rows : List (List Int)} (hp : pairsM rows = true) (l : List Nat) : (0 ≤ (runT (ta rows) (tb rows) (0, 0) l).1 ∧ (runT (ta rows) (tb rows) (0, 0) l).1 ≤ 9 * (l.length : Int)) ∧ (0 ≤ (runT (ta rows) (tb rows) (0, 0) l).2 ∧ (runT (ta rows) (tb rows) (0, 0) l).2 ≤ 18 * (l.length : Int)) := by
  have h1 := runT_fst (ta rows) (tb rows) l (0, 0)
  have h2 := sumL_nn (fun x => (t_bd hp x).1.1) l
  have h3 := sumL_bd (fun x => (t_bd hp x).1.2) l
  have h4 := sumL_bd (fun x => (t_bd hp x).2.2) l
  have h5 := span_sums (fun x => (t_bd hp x).1.1) (fun x => (t_bd hp x).2.1) l
  have h6 := sumL_nn (fun x => (t_bd hp x).2.1) l
  unfold spanT at h5
  simp only at h1
  omega
set_option maxHeartbeats 1000000 in
theorem span_any (S T : Nat → Prop) (a : Option Addr) (len cap : Nat) (rows : List (List Int)) (a2 : Option Addr) (len2 cap2 : Nat) (o : List Int) (w : World) (h : RowsAt w S a len rows) (g : IntsAt w T a2 len2 o) (hp : pairsM rows = true) (ho : ∀ x ∈ o, 0 ≤ x ∧ x < (len : Int)) (hl : len2 ≤ 8) :
    Calls Try.prog 68 #[.slice a len cap, .slice a2 len2 cap2] w fun e w' => e = .returned (.int .i64 (spanT (ta rows) (tb rows) (nO o))) ∧ w = w' := by
  have HL := Lib.hid g.lenEq
  have HP := Lib.hid (pairs_get hp).2
  have HBD := Lib.hid (run_bd hp)
  have HO := Lib.hid ho
  clear hp ho
  go_enter Try.func68, Try.ntmps68
  go_wp2_with fail
  go_loop [5, 6, 7] (fun av bv i => ∃ k : Nat, k ≤ len2 ∧ i = .int .i64 k ∧ av = .int .i64 (runT (ta rows) (tb rows) (0, 0) (nO (o.take k))).1 ∧ bv = .int .i64 (runT (ta rows) (tb rows) (0, 0) (nO (o.take k))).2) (fun _ _ i => len2 - (intOf i).toNat)
  case atStart => exact ⟨0, Nat.zero_le _, rfl, rfl, rfl⟩
  case round =>
    obtain ⟨k, hk, rfl, rfl, rfl⟩ := hrel
    by_cases hlt : k < len2
    · obtain ⟨b, off, x, rfl, hx, hc⟩ := g.get hlt
      have hxb := HO.out x (List.mem_of_getElem? hx)
      obtain ⟨q, rfl⟩ : ∃ q : Nat, x = (q : Int) := ⟨x.toNat, by omega⟩
      have hql : q < len := by omega
      obtain ⟨b2, off2, r, a', l, c, rfl, hr, hcr, _, hri⟩ := h.get hql
      obtain ⟨hr2, hra, hrb⟩ := HP.out r (List.mem_of_getElem? hr)
      have hl2 : l = 2 := by rw [← hri.lenEq, hr2]
      subst hl2
      obtain ⟨b3, off3, x3, rfl, h3, hc3⟩ := hri.get (k := 0) (by omega)
      obtain ⟨b4, off4, x4, e4, h4, hc4⟩ := hri.get (k := 1) (by omega)
      cases e4
      rw [Nat.add_zero] at hc3
      rw [getD_of h3] at hra
      rw [getD_of h4] at hrb
      have ht := t_at hr
      rw [getD_of h3, getD_of h4] at ht
      have hb := HBD.out (nO (o.take k))
      have hkl : ((nO (o.take k)).length : Int) ≤ 8 := by unfold nO; rw [List.length_map, List.length_take]; omega
      have HN := Lib.hid (show runT (ta rows) (tb rows) (0, 0) (nO (o.take (k + 1))) = stT (ta rows) (tb rows) (runT (ta rows) (tb rows) (0, 0) (nO (o.take k))) q by
        rw [nO_snoc hx, runT_snoc, Int.toNat_natCast])
      have HN1 := Lib.hid (show (runT (ta rows) (tb rows) (0, 0) (nO (o.take (k + 1)))).1 = (runT (ta rows) (tb rows) (0, 0) (nO (o.take k))).1 + x3 by rw [HN.out]; show _ + ta rows q = _; rw [ht.1])
      have HN2 := Lib.hid (show (runT (ta rows) (tb rows) (0, 0) (nO (o.take (k + 1)))).2 = max ((runT (ta rows) (tb rows) (0, 0) (nO (o.take k))).1 + x3) (runT (ta rows) (tb rows) (0, 0) (nO (o.take k))).2 + x4 by rw [HN.out]; show max (_ + ta rows q) _ + tb rows q = _; rw [ht.1, ht.2])
      have hqi : (q : Int) < (len : Int) := by omega
      clear hx hr hr2 h3 h4 ht HN
      generalize (runT (ta rows) (tb rows) (0, 0) (nO (o.take k))).1 = va at *
      generalize (runT (ta rows) (tb rows) (0, 0) (nO (o.take k))).2 = vb at *
      by_cases hmx : va + x3 < vb
      · have HM := Lib.hid (HN2.out.trans (show _ = vb + x4 by rw [show max (va + x3) vb = vb by omega]))
        go_wp2_with fail
        go_round
        case rel => exact ⟨k + 1, by omega, by go_num, by rw [HN1.out], by rw [HM.out]⟩
        case measure => simp [intOf] <;> omega
      · have HM := Lib.hid (HN2.out.trans (show _ = va + x3 + x4 by rw [show max (va + x3) vb = va + x3 by omega]))
        go_wp2_with fail
        go_round
        case rel => exact ⟨k + 1, by omega, by go_num, by rw [HN1.out], by rw [HM.out]⟩
        case measure => simp [intOf] <;> omega
    · obtain rfl : k = len2 := by omega
      have HE := Lib.hid (show (runT (ta rows) (tb rows) (0, 0) (nO (o.take k))).2 = spanT (ta rows) (tb rows) (nO o) by rw [List.take_of_length_le (by rw [HL.out]; omega)]; rfl)
      go_wp2_with fail
      go_ret
      exact ⟨ret_int HE.out, rfl⟩
/-- what SpanOf answers -/
def spanFine (rows : List (List Int)) (o : List Int) : Bool := pairsM rows && orderM o rows.length
def spanRes (rows : List (List Int)) (o : List Int) : Int := if spanFine rows o then spanT (ta rows) (tb rows) (nO o) else -1
theorem spanRes_no {rows : List (List Int)} {o : List Int} (h : spanFine rows o = false) : spanRes rows o = -1 := by unfold spanRes; rw [h]; rfl
theorem spanRes_yes {rows : List (List Int)} {o : List Int} (h : spanFine rows o = true) : spanRes rows o = spanT (ta rows) (tb rows) (nO o) := by unfold spanRes; rw [h]; rfl
theorem spanFine_get {rows : List (List Int)} {o : List Int} (h : spanFine rows o = true) : pairsM rows = true ∧ orderP o rows.length := by
  simp only [spanFine, Bool.and_eq_true] at h; exact ⟨h.1, orderM_get h.2⟩
end Go.Proofs.Ytkebdelfklmigae
namespace Go.Proofs.Ytkebdelfklmigae
open Go.RowKit Go.WideShapes

def natI (h : List Nat) : List Int := h.map (fun x : Nat => (x : Int))
theorem natI_get {h : List Nat} {k : Nat} {x : Int} (hx : (natI h)[k]? = some x) : ∃ y : Nat, x = (y : Int) ∧ h[k]? = some y := by
  unfold natI at hx
  rw [List.getElem?_map] at hx
  cases hq : h[k]? with
  | none => rw [hq] at hx; cases hx
  | some y => rw [hq] at hx; simp only [Option.map_some, Option.some.injEq] at hx; exact ⟨y, hx.symm, rfl⟩
theorem nO_natI (h : List Nat) : nO (natI h) = h := by
  unfold nO natI
  rw [List.map_map]
  conv => rhs; rw [← List.map_id h]
  exact List.map_congr_left (fun x _ => by simp)
theorem natI_mem {h : List Nat} {n : Nat} (hh : ∀ x ∈ h, x < n) : ∀ x ∈ natI h, 0 ≤ x ∧ x < (n : Int) := by
  intro x hx
  obtain ⟨y, hy, rfl⟩ := List.mem_map.1 hx
  have := hh y hy; omega
set_option maxRecDepth 100000 in
set_option maxHeartbeats 4000000 in
theorem spanFrom_any (a : Option Addr) (len cap : Nat) (rows : List (List Int)) (hp : pairsM rows = true) : ∀ (f : Nat) (h : List Nat) (lh b2 cap2 : Nat) (w : World), h.length = lh → lh + f = len → (∀ x ∈ h, x < len) →
    RowsAt w (· < w.heap.size) a len rows → IntsAt w (· < w.heap.size) (some ⟨b2, 0, none⟩) lh (natI h) →
    Calls Try.prog 52 #[.slice a len cap, .slice (some ⟨b2, 0, none⟩) lh cap2] w (fun e w' => e = .returned (.int .i64 (fromT (ta rows) (tb rows) len f h)) ∧ Below w.heap.size w w') := by
  intro f
  induction f with
  | zero =>
    intro h lh b2 cap2 w hlh hf hh hr hx
    have hl8 : len ≤ 8 := by have := (pairs_get hp).1; have := hr.lenEq; omega
    have HRL := Lib.hid hr.lenEq
    obtain rfl : lh = len := by omega
    have HH := Lib.hid (natI_mem hh)
    go_enter Try.func52, Try.ntmps52
    go_wp2_with fail
    refine (span_any _ _ a lh cap rows (some ⟨b2, 0, none⟩) lh cap2 (natI h) w hr hx hp (by intro x hx'; have := HH.out x hx'; omega) hl8).mono ?_
    rintro e w' ⟨rfl, rfl⟩
    go_wp2_with fail
    go_ret
    exact ⟨by rw [nO_natI]; rfl, Below.refl _ _⟩
  | succ f ih =>
    intro h lh b2 cap2 w hlh hf hh hr hx
    have hl8 : len ≤ 8 := by have := (pairs_get hp).1; have := hr.lenEq; omega
    have HLH := Lib.hid hlh
    have IH := Lib.hid ih
    clear ih hlh
    have hne : ((lh : Int) == (len : Int)) = false := by simp; omega
    go_enter Try.func52, Try.ntmps52
    go_wp2_with fail
    go_loopw [5, 6] (fun bv iv wr => ∃ i : Nat, i ≤ len ∧ iv = .int .i64 i ∧ bv = .int .i64 (scanG (fun i => fromT (ta rows) (tb rows) len f (h ++ [i])) h i) ∧ Below w.heap.size w wr) (fun _ iv _ => len - (intOf iv).toNat)
    case atStart => exact ⟨0, Nat.zero_le _, rfl, rfl, Below.refl _ _⟩
    case round =>
      obtain ⟨i, hil, rfl, rfl, hB⟩ := hrel
      obtain ⟨wo, rfl⟩ : ∃ wo : World, wo = wr := ⟨_, rfl⟩
      have HB := Lib.hid hB
      have HR := Lib.hid (hr.below hB)
      have HX := Lib.hid (hx.below hB)
      clear hB
      by_cases hlt : i < len
      · have HST : Hid (scanG (fun i => fromT (ta rows) (tb rows) len f (h ++ [i])) h (i + 1) = if i ∈ h then scanG (fun i => fromT (ta rows) (tb rows) len f (h ++ [i])) h i else if scanG (fun i => fromT (ta rows) (tb rows) len f (h ++ [i])) h i < 0 ∨ fromT (ta rows) (tb rows) len f (h ++ [i]) < scanG (fun i => fromT (ta rows) (tb rows) len f (h ++ [i])) h i then fromT (ta rows) (tb rows) len f (h ++ [i]) else scanG (fun i => fromT (ta rows) (tb rows) len f (h ++ [i])) h i) := Lib.hid rfl
        obtain ⟨sv, hsv⟩ : ∃ sv, scanG (fun i => fromT (ta rows) (tb rows) len f (h ++ [i])) h i = sv := ⟨_, rfl⟩
        have HSV := Lib.hid hsv
        rw [hsv] at HST ⊢
        clear hsv
        go_wp2_with fail
        go_loop [7, 8] (fun uv kv => ∃ k : Nat, k ≤ lh ∧ kv = .int .i64 k ∧ uv = .bool (decide (i ∈ h.take k))) (fun _ kv => lh - (intOf kv).toNat)
        case atStart => exact ⟨0, Nat.zero_le _, rfl, by simp⟩
        case round =>
          obtain ⟨k, hk, rfl, rfl⟩ := hrel
          by_cases hkl : k < lh
          · obtain ⟨b9, off9, x9, e9, hx9, hc9⟩ := HX.out.get hkl
            cases e9
            rw [Nat.zero_add] at hc9
            obtain ⟨y, rfl, hy⟩ := natI_get hx9
            have HTK := Lib.hid (show decide (i ∈ h.take (k + 1)) = (decide (i ∈ h.take k) || decide ((y : Int) = (i : Int))) by
              rw [take_get hy, Bool.eq_iff_iff]
              simp only [decide_eq_true_eq, Bool.or_eq_true, List.mem_append, List.mem_singleton]
              exact or_congr Iff.rfl ⟨fun e => by omega, fun e => by omega⟩)
            clear hx9 hy
            cases hu : decide (i ∈ h.take k)
            · rw [hu] at HTK
              by_cases hyi : (y : Int) = (i : Int)
              · have he : ((y : Int) == (i : Int)) = true := by simpa using hyi
                have HQ := Lib.hid (HTK.out.trans (by rw [decide_eq_true hyi]; rfl : _ = true))
                clear hyi
                go_wp2_with fail
                go_round
                case rel => exact ⟨k + 1, by omega, by go_num, by rw [HQ.out]⟩
                case measure => simp [intOf]; omega
              · have he : ((y : Int) == (i : Int)) = false := by simpa using hyi
                have HQ := Lib.hid (HTK.out.trans (by rw [decide_eq_false hyi]; rfl : _ = false))
                clear hyi
                go_wp2_with fail
                go_round
                case rel => exact ⟨k + 1, by omega, by go_num, by rw [HQ.out]⟩
                case measure => simp [intOf]; omega
            · rw [hu] at HTK
              have HQ := Lib.hid (HTK.out.trans (Bool.true_or _))
              go_wp2_with fail
              go_round
              case rel => exact ⟨k + 1, by omega, by go_num, by rw [HQ.out]⟩
              case measure => simp [intOf]; omega
          · have hall : h.take k = h := List.take_of_length_le (by rw [HLH.out]; omega)
            rw [hall]
            clear hall
            have hkk : ¬ (k : Int) < (lh : Int) := by omega
            by_cases hm : i ∈ h
            · rw [decide_eq_true hm]
              have HS := Lib.hid (HST.out.trans (if_pos hm))
              clear hm
              go_wp2_with fail
              go_roundw
              case rel => exact ⟨i + 1, by omega, by go_num, by rw [HS.out], HB.out⟩
              case measure => simp [intOf]; omega
            · rw [decide_eq_false hm]
              have HS := Lib.hid (HST.out.trans (if_neg hm))
              clear hm
              go_wp2_with (at_builtin; refine wpAppN rfl _ _ rfl wo.heap.size 0 _ _ [] (· < w.heap.size) b2 0 lh cap2 (natI h) rfl (World.ownsRow_made wo #[] 0 (Nat.le_refl _) (Nat.zero_le _) rfl) rfl (HX.out.below ((Below.refl _ _).alloc HB.out.size _)) (by simp) (by omega) ?_)
              intro a6 c6 w6 hown6 hc6 hgr6
              have B6 : Hid (Below wo.heap.size wo w6) := Lib.hid (((Below.refl _ _).alloc (Nat.le_refl _) _).grown hgr6 (by simp) (by intro k e; simp [Value.ownBlock] at e; omega))
              have HO6 : Hid (w6.ownsRow wo.heap.size 3 1 (.slice a6 lh c6) lh ((natI h).map (.int .i64))) := Lib.hid (by simpa using hown6)
              clear hown6 hgr6 hc6
              try rw [Nat.zero_add]
              go_wp2_with (at_builtin; refine wpApp1 rfl _ _ rfl wo.heap.size lh c6 a6 (natI h) i rfl HO6.out rfl B6.out.size (by omega) ?_)
              intro a7 c7 w7 hown7 hc7 hgr7
              have B7 : Hid (Below wo.heap.size wo w7) := Lib.hid (B6.out.grown hgr7 B6.out.size (own_block HO6.out))
              obtain ⟨g7, c8, hv7, hb7, hl7⟩ := World.ownsRow.form hown7 (by omega)
              injection hv7 with e7 _ e8
              subst e7 e8
              have HX7 : Hid (IntsAt w7 (· < w7.heap.size) (some ⟨g7, 0, none⟩) (lh + 1) (natI (h ++ [i]))) := Lib.hid (by
                have h7 : w7.ownsRow wo.heap.size 3 1 (.slice (some ⟨g7, 0, none⟩) (lh + 1) c7) (lh + 1) ((natI (h ++ [i])).map (.int .i64)) := by simpa [natI] using hown7
                obtain ⟨a', c', e', _, h'⟩ := own_ints h7 (by omega)
                injection e' with e1 _ _
                subst e1
                exact h'.to fun b hb => ⟨hb.2, rfl⟩)
              have HR7 : Hid (RowsAt w7 (· < w7.heap.size) a len rows) := Lib.hid ((HR.out.below (B7.out.mono HB.out.size)).to fun b hb => ⟨Nat.lt_of_lt_of_le hb (Nat.le_trans HB.out.size B7.out.size), rfl⟩)
              have hh7 : Hid (∀ x ∈ h ++ [i], x < len) := Lib.hid (fun x hx => by
                rcases List.mem_append.1 hx with hx | hx
                · exact hh x hx
                · simp only [List.mem_singleton] at hx; omega)
              have HL7 : Hid ((h ++ [i]).length = lh + 1) := Lib.hid (by rw [List.length_append, HLH.out]; rfl)
              clear hown7 hgr7 hb7 hl7
              go_wp2_with fail
              refine (IH.out (h ++ [i]) (lh + 1) g7 c7 w7 HL7.out (by omega) hh7.out HR7.out HX7.out).mono ?_
              rintro e w8 ⟨rfl, hB8⟩
              have B8 : Hid (Below w.heap.size w w8) := Lib.hid (HB.out.trans ((B7.out.trans (hB8.mono B7.out.size)).mono HB.out.size))
              clear hB8
              obtain ⟨nv, hnv⟩ : ∃ nv, fromT (ta rows) (tb rows) len f (h ++ [i]) = nv := ⟨_, rfl⟩
              rw [hnv] at HS ⊢
              clear hnv
              by_cases hc : sv < 0 ∨ nv < sv
              · have HS2 := Lib.hid (HS.out.trans (if_pos hc))
                by_cases hs0 : sv < 0
                · clear hc
                  go_wp2_with fail
                  go_roundw
                  case rel => exact ⟨i + 1, by omega, by go_num, by rw [HS2.out], B8.out⟩
                  case measure => simp [intOf]; omega
                · have hn0 : nv < sv := by omega
                  clear hc
                  go_wp2_with fail
                  go_roundw
                  case rel => exact ⟨i + 1, by omega, by go_num, by rw [HS2.out], B8.out⟩
                  case measure => simp [intOf]; omega
              · have HS2 := Lib.hid (HS.out.trans (if_neg hc))
                have hs0 : ¬ sv < 0 := fun h => hc (.inl h)
                have hn0 : ¬ nv < sv := fun h => hc (.inr h)
                clear hc
                go_wp2_with fail
                go_roundw
                case rel => exact ⟨i + 1, by omega, by go_num, by rw [HS2.out], B8.out⟩
                case measure => simp [intOf]; omega
      · obtain rfl : i = len := by omega
        go_wp2_with fail
        go_ret
        exact ⟨rfl, HB.out⟩
end Go.Proofs.Ytkebdelfklmigae
namespace Go.Proofs.Ytkebdelfklmigae
open Go.RowKit Go.WideShapes

/-- what SpanTried answers -/
def triedFine (rows : List (List Int)) : Bool := pairsM rows && decide (rows.length ≤ 5)
def triedRes (rows : List (List Int)) : Int := if triedFine rows then fromT (ta rows) (tb rows) rows.length rows.length [] else -1
theorem triedRes_no {rows : List (List Int)} (h : triedFine rows = false) : triedRes rows = -1 := by unfold triedRes; rw [h]; rfl
theorem triedRes_yes {rows : List (List Int)} (h : triedFine rows = true) : triedRes rows = fromT (ta rows) (tb rows) rows.length rows.length [] := by unfold triedRes; rw [h]; rfl
theorem spanTried_spec (a : Option Addr) (len cap : Nat) (rows : List (List Int)) (w : World) (h : RowsAt w (· < w.heap.size) a len rows) :
    Calls Try.prog 23 #[.slice a len cap] w (fun e w' => e = .returned (.int .i64 (triedRes rows)) ∧ Below w.heap.size w w') := by
  have HL := Lib.hid h.lenEq
  cases hp : pairsM rows
  · rw [triedRes_no (by unfold triedFine; rw [hp]; rfl)]
    go_enter Try.func23, Try.ntmps23
    go_wp2_with fail
    refine (validPairs_any _ a len cap rows w h).mono ?_
    rintro e w' ⟨rfl, rfl⟩
    rw [hp]
    go_wp2_with fail
    go_ret
    exact ⟨rfl, Below.refl _ _⟩
  · by_cases h6 : len ≤ 5
    · rw [triedRes_yes (by unfold triedFine; rw [hp, HL.out, decide_eq_true h6]; rfl), HL.out]
      have h6' : ¬ (5 : Int) < (len : Int) := by omega
      go_enter Try.func23, Try.ntmps23
      go_wp2_with fail
      refine (validPairs_any _ a len cap rows w h).mono ?_
      rintro e w' ⟨rfl, rfl⟩
      rw [hp]
      go_wp2_with fail
      have B1 : Hid (Below w.heap.size w (w.alloc (.cells #[] 3))) := Lib.hid ((Below.refl _ _).alloc (Nat.le_refl _) _)
      refine (spanFrom_any a len cap rows hp len [] 0 w.heap.size 0 (w.alloc (.cells #[] 3)) rfl (by omega) (fun x hx => by cases hx) ((h.below B1.out).to fun b hb => ⟨by simp; omega, rfl⟩) ⟨rfl, by omega, fun h0 => by omega⟩).mono ?_
      rintro e w2 ⟨rfl, hB⟩
      have B2 := Lib.hid (B1.out.trans (hB.mono B1.out.size))
      clear hB
      go_wp2_with fail
      go_ret
      exact ⟨rfl, B2.out⟩
    · rw [triedRes_no (by unfold triedFine; rw [HL.out, decide_eq_false h6]; simp)]
      have h6' : (5 : Int) < (len : Int) := by omega
      go_enter Try.func23, Try.ntmps23
      go_wp2_with fail
      refine (validPairs_any _ a len cap rows w h).mono ?_
      rintro e w' ⟨rfl, rfl⟩
      rw [hp]
      go_wp2_with fail
      go_ret
      exact ⟨rfl, Below.refl _ _⟩
end Go.Proofs.Ytkebdelfklmigae
namespace Go.Proofs.Ytkebdelfklmigae
/-- a part that a row takes, and how many -/
abbrev Part (xs : List Int) := { x : Nat × Int // xs[x.1]? = some x.2 ∧ 0 < x.2 }
def pairAt (xs : List Int) (k : Nat) : List (Nat × Int) :=
  match xs[k]? with
  | some x => if 0 < x then [(k, x)] else []
  | none => []
/-- the parts among the first k -/
def pairsTo (xs : List Int) : Nat → List (Nat × Int)
  | 0 => []
  | k + 1 => pairsTo xs k ++ pairAt xs k
theorem pairAt_yes {xs : List Int} {k : Nat} {x : Int} (h : xs[k]? = some x) (h0 : 0 < x) : pairAt xs k = [(k, x)] := by simp [pairAt, h, h0]
theorem pairAt_no {xs : List Int} {k : Nat} {x : Int} (h : xs[k]? = some x) (h0 : ¬ 0 < x) : pairAt xs k = [] := by simp only [pairAt, h, if_neg h0]
theorem pairsTo_length (xs : List Int) (k : Nat) : (pairsTo xs k).length ≤ k := by
  induction k with
  | zero => simp [pairsTo]
  | succ k ih =>
    have : (pairAt xs k).length ≤ 1 := by
      unfold pairAt
      split
      · split <;> simp
      · simp
    simp only [pairsTo, List.length_append]
    omega
def sumOver (f : Nat → Int → Int) (l : List (Nat × Int)) : Int := l.foldl (fun s p => s + f p.1 p.2) 0
theorem sumOver_snoc (f : Nat → Int → Int) (l : List (Nat × Int)) (p : Nat × Int) : sumOver f (l ++ [p]) = sumOver f l + f p.1 p.2 := by simp [sumOver]
/-- how many of j one of i takes, over d levels -/
def countM (rows : List (List Int)) (j : Nat) : Nat → Nat → Int
  | 0, i => if i = j then 1 else 0
  | d + 1, i => if i = j then 1 else sumOver (fun p c => c * countM rows j d p) (pairsTo (rows.getD i []) (rows.getD i []).length)

theorem pow_le {d : Nat} (h : d ≤ 6) : 18 ^ d ≤ 34012224 := Nat.le_trans (Nat.pow_le_pow_right (by omega) h) (by decide)
theorem mem_pairsTo {xs : List Int} {p : Nat × Int} : ∀ {k : Nat}, p ∈ pairsTo xs k → xs[p.1]? = some p.2 ∧ 0 < p.2 := by
  intro k
  induction k with
  | zero => intro h; simp [pairsTo] at h
  | succ k ih =>
    intro h
    simp only [pairsTo, List.mem_append] at h
    rcases h with h | h
    · exact ih h
    · unfold pairAt at h
      split at h
      · split at h
        · simp only [List.mem_singleton] at h; subst h; exact ⟨by assumption, by assumption⟩
        · cases h
      · cases h
theorem sumOver_bd {f : Nat → Int → Int} {B : Int} : ∀ (l : List (Nat × Int)), (∀ p ∈ l, 0 ≤ f p.1 p.2 ∧ f p.1 p.2 ≤ B) → 0 ≤ sumOver f l ∧ sumOver f l ≤ B * l.length := by
  have key : ∀ (l : List (Nat × Int)) (s : Int), (∀ p ∈ l, 0 ≤ f p.1 p.2 ∧ f p.1 p.2 ≤ B) → s ≤ l.foldl (fun s p => s + f p.1 p.2) s ∧ l.foldl (fun s p => s + f p.1 p.2) s ≤ s + B * l.length := by
    intro l
    induction l with
    | nil => intro s _; simp
    | cons p l ih =>
      intro s h
      have h1 := h p List.mem_cons_self
      have h2 := ih (s + f p.1 p.2) (fun q hq => h q (List.mem_cons_of_mem _ hq))
      have e : B * ((p :: l).length : Int) = B * (l.length : Int) + B := by rw [List.length_cons]; push_cast; rw [Int.mul_add, Int.mul_one]
      simp only [List.foldl_cons]
      rw [e]
      omega
  intro l h
  have := key l 0 h
  unfold sumOver
  omega
/-- what holds of a valid bill's rows -/
theorem okRows_get {rows : List (List Int)} {i : Nat} {r : List Int} (hv : validBillM rows = true) (h : rows[i]? = some r) : r.length = i ∧ (∀ x ∈ r, 0 ≤ x ∧ x ≤ 3) ∧ i < 6 := by
  have hi : i < rows.length := by
    rcases Nat.lt_or_ge i rows.length with h' | h'
    · exact h'
    · simp [List.getElem?_eq_none h'] at h
  simp only [validBillM, Bool.and_eq_true, inB, decide_eq_true_eq] at hv
  have hr : rowOk i r = true := by
    cases hq : rowOk i r with
    | true => rfl
    | false => rw [okRows_false h hq] at hv; cases hv.2
  simp only [rowOk, Bool.and_eq_true, beq_iff_eq, allIn, List.all_eq_true, inB, decide_eq_true_eq] at hr
  exact ⟨hr.1, hr.2, by omega⟩
theorem validBill_len6 {rows : List (List Int)} (hv : validBillM rows = true) : rows.length ≤ 6 := by
  simp only [validBillM, Bool.and_eq_true, inB, decide_eq_true_eq] at hv
  omega
theorem countM_bd {rows : List (List Int)} (hv : validBillM rows = true) (j : Nat) : ∀ (d i : Nat), 0 ≤ countM rows j d i ∧ countM rows j d i ≤ ((18 ^ d : Nat) : Int) := by
  intro d
  induction d with
  | zero => intro i; simp only [countM]; split <;> simp
  | succ d ih =>
    intro i
    have hp : (1 : Nat) ≤ 18 ^ d := Nat.one_le_pow _ _ (by omega)
    have e : (18 ^ (d + 1) : Nat) = 18 * 18 ^ d := by rw [Nat.pow_succ, Nat.mul_comm]
    simp only [countM]
    split
    · omega
    · rw [List.getD_eq_getElem?_getD]
      cases hr : rows[i]? with
      | none => simp only [Option.getD_none, List.length_nil, pairsTo, sumOver, List.foldl_nil]; omega
      | some r =>
        simp only [Option.getD_some]
        obtain ⟨h1, h2, h3⟩ := okRows_get hv hr
        have hb := sumOver_bd (f := fun p c => c * countM rows j d p) (B := 3 * ((18 ^ d : Nat) : Int)) (pairsTo r r.length) (fun p hp => by
          obtain ⟨hp1, hp2⟩ := mem_pairsTo hp
          have hc := h2 p.2 (List.mem_of_getElem? hp1)
          have hq := ih p.1
          refine ⟨Int.mul_nonneg hc.1 hq.1, ?_⟩
          have := Int.mul_le_mul hc.2 hq.2 hq.1 (by omega)
          exact this)
        have hl := pairsTo_length r r.length
        have hm : 3 * ((18 ^ d : Nat) : Int) * ((pairsTo r r.length).length : Int) ≤ 3 * ((18 ^ d : Nat) : Int) * 6 := Int.mul_le_mul_of_nonneg_left (by omega) (by omega)
        refine ⟨hb.1, Int.le_trans hb.2 ?_⟩
        omega

theorem countM_low {rows : List (List Int)} (hv : validBillM rows = true) (j : Nat) : ∀ (d i : Nat), i < j → countM rows j d i = 0 := by
  intro d
  induction d with
  | zero => intro i h; simp only [countM]; rw [if_neg (by omega)]
  | succ d ih =>
    intro i h
    simp only [countM]
    rw [if_neg (by omega), List.getD_eq_getElem?_getD]
    cases hr : rows[i]? with
    | none => rfl
    | some r =>
      simp only [Option.getD_some]
      obtain ⟨h1, _, _⟩ := okRows_get hv hr
      have hb := sumOver_bd (f := fun p c => c * countM rows j d p) (B := 0) (pairsTo r r.length) (fun p hp => by
        obtain ⟨hp1, hp2⟩ := mem_pairsTo hp
        have hpl : p.1 < r.length := by
          rcases Nat.lt_or_ge p.1 r.length with h' | h'
          · exact h'
          · simp [List.getElem?_eq_none h'] at hp1
        have := ih p.1 (by omega)
        show 0 ≤ p.2 * countM rows j d p.1 ∧ p.2 * countM rows j d p.1 ≤ 0
        rw [this, Int.mul_zero]
        exact ⟨Int.le_refl _, Int.le_refl _⟩)
      omega
/-- the bounds of one summand, and of a part of the sum -/
theorem term_bd {rows : List (List Int)} {r : List Int} {i d : Nat} (hv : validBillM rows = true) (hr : rows[i]? = some r) (hd : d ≤ 6) (j : Nat) {k : Nat} {x : Int} (hx : r[k]? = some x) :
    0 ≤ x * countM rows j d k ∧ x * countM rows j d k ≤ 102036672 := by
  obtain ⟨_, h2, _⟩ := okRows_get hv hr
  have hz := h2 x (List.mem_of_getElem? hx)
  have hy := countM_bd hv j d k
  have hpw := pow_le hd
  have hm := Int.mul_le_mul hz.2 hy.2 hy.1 (by omega)
  exact ⟨Int.mul_nonneg hz.1 hy.1, by omega⟩
theorem part_bd {rows : List (List Int)} {r : List Int} {i d : Nat} (hv : validBillM rows = true) (hr : rows[i]? = some r) (hd : d ≤ 6) (j : Nat) (k : Nat) (hk : k ≤ 6) :
    0 ≤ sumOver (fun p c => c * countM rows j d p) (pairsTo r k) ∧ sumOver (fun p c => c * countM rows j d p) (pairsTo r k) ≤ 612220032 := by
  have hb := sumOver_bd (f := fun p c => c * countM rows j d p) (B := 102036672) (pairsTo r k) (fun p hp => term_bd hv hr hd j (mem_pairsTo hp).1)
  have hl := pairsTo_length r k
  have : (102036672 : Int) * ((pairsTo r k).length : Int) ≤ 102036672 * 6 := Int.mul_le_mul_of_nonneg_left (by omega) (by omega)
  exact ⟨hb.1, Int.le_trans hb.2 this⟩
theorem countM_eq {rows : List (List Int)} {r : List Int} {i d j : Nat} (hr : rows[i]? = some r) (hij : i ≠ j) : countM rows j (d + 1) i = sumOver (fun p c => c * countM rows j d p) (pairsTo r r.length) := by
  rw [countM, if_neg hij, List.getD_eq_getElem?_getD, hr, Option.getD_some]
theorem countM_self (rows : List (List Int)) (d i : Nat) : countM rows i d i = 1 := by
  cases d <;> simp [countM]
end Go.Proofs.Ytkebdelfklmigae
