import Derived.Test.YtcikgbkehfepdacRows
import Derived.WalkKit
import Derived.LoopTactic
import Derived.Outline
import Derived.WalkSpells
import Derived.WalkLawsBesides
import Derived.ProofKit
import Derived.Lib.Hide
import Derived.Deep.QuietTactic
import Derived.BigQuiet
import Derived.IntWalk
import Derived.Test.YtcikgbkehfepdacM0
import Derived.Test.YtcikgbkehfepdacM1
import Derived.Test.YtcikgbkehfepdacM2
import Derived.Test.YtcikgbkehfepdacM4
import Derived.Test.YtcikgbkehfepdacM14
import Derived.Test.YtcikgbkehfepdacM6
import Derived.Test.YtcikgbkehfepdacM7
import Derived.Test.YtcikgbkehfepdacM3
import Derived.Test.YtcikgbkehfepdacM8
import Derived.Test.YtcikgbkehfepdacM12
import Derived.Test.YtcikgbkehfepdacM13
namespace Go.Proofs.Ytcikgbkehfepdac
open Go.RowKit Go.WideShapes

/-- the greatest number, 0 if there is none -/
def greatM : List Int → Int
  | xs => xs.foldl max 0
theorem greatM_snoc (xs : List Int) (x : Int) : greatM (xs ++ [x]) = max (greatM xs) x := by simp [greatM]
theorem greatM_nn (xs : List Int) : 0 ≤ greatM xs := by
  have key : ∀ (xs : List Int) (s : Int), s ≤ xs.foldl max s := by
    intro xs
    induction xs with
    | nil => intro s; exact Int.le_refl _
    | cons a l ih => intro s; have := ih (max s a); simp only [List.foldl_cons]; omega
  exact key xs 0
theorem greatM_ge {xs : List Int} : ∀ x ∈ xs, x ≤ greatM xs := by
  have key : ∀ (xs : List Int) (s : Int), s ≤ xs.foldl max s ∧ ∀ x ∈ xs, x ≤ xs.foldl max s := by
    intro xs
    induction xs with
    | nil => intro s; exact ⟨Int.le_refl _, fun x hx => by cases hx⟩
    | cons a l ih =>
      intro s
      obtain ⟨h1, h2⟩ := ih (max s a)
      simp only [List.foldl_cons]
      refine ⟨by omega, fun x hx => ?_⟩
      rcases List.mem_cons.1 hx with rfl | hx
      · omega
      · exact h2 x hx
  exact (key xs 0).2
theorem greatM_le {xs : List Int} {B : Int} (hB : 0 ≤ B) (h : ∀ x ∈ xs, x ≤ B) : greatM xs ≤ B := by
  have key : ∀ (xs : List Int) (s : Int), s ≤ B → (∀ x ∈ xs, x ≤ B) → xs.foldl max s ≤ B := by
    intro xs
    induction xs with
    | nil => intro s hs _; exact hs
    | cons a l ih => intro s hs h; simp only [List.foldl_cons]; exact ih _ (by have := h a List.mem_cons_self; omega) (fun x hx => h x (List.mem_cons_of_mem _ hx))
  exact key xs 0 hB h
def inM (xs : List Int) (x : Int) : Bool := xs.any (· == x)
theorem inM_iff {xs : List Int} {x : Int} : inM xs x = true ↔ x ∈ xs := by simp [inM]
theorem isIn_any (S : Nat → Prop) (a : Option Addr) (len cap : Nat) (xs : List Int) (n : Int) (w : World) (h : IntsAt w S a len xs) :
    Calls Try.prog 33 #[.slice a len cap, .int .i64 n] w fun e w' => e = .returned (.bool (inM xs n)) ∧ w = w' := by
  have hs := h.small
  have HL := Lib.hid h.lenEq
  go_enter Try.func33, Try.ntmps33
  go_wp2
  go_loop [5] (fun i => ∃ k : Nat, k ≤ len ∧ i = .int .i64 k ∧ inM (xs.take k) n = false) (fun i => len - (intOf i).toNat)
  case atStart => exact ⟨0, Nat.zero_le _, rfl, rfl⟩
  case round =>
    obtain ⟨k, hk, rfl, hi⟩ := hrel
    have HI := Lib.hid hi
    clear hi
    by_cases hlt : k < len
    · obtain ⟨b, off, x, rfl, hx, hc⟩ := h.get hlt
      have HX := Lib.hid hx
      clear hx
      by_cases hxn : x = n
      · subst hxn
        go_wp2
        go_ret
        exact ⟨ret_bool (inM_iff.2 (List.mem_of_getElem? HX.out)).symm, rfl⟩
      · have hxe : (x == n) = false := by simpa using hxn
        have HXE := Lib.hid hxe
        go_wp2
        go_round
        case rel => exact ⟨k + 1, by omega, by go_num, by have := HI.out; unfold inM at this ⊢; rw [take_get HX.out, List.any_append, this]; simp [HXE.out]⟩
        case measure => simp [intOf] <;> omega
    · go_wp2
      go_ret
      exact ⟨ret_bool (by have := HI.out; rw [List.take_of_length_le (by rw [HL.out]; omega)] at this; exact this.symm), rfl⟩
/-- how many numbers are different -/
def diffM (xs : List Int) : Nat → Nat
  | 0 => 0
  | k + 1 => diffM xs k + (if inM (xs.take k) (xs.getD k 0) then 0 else 1)
theorem diffM_le (xs : List Int) : ∀ k, diffM xs k ≤ k := by
  intro k
  induction k with
  | zero => exact Nat.le_refl _
  | succ k ih => rw [diffM]; split <;> omega
theorem ints_take {w : World} {S : Nat → Prop} {b off len : Nat} {xs : List Int} (h : IntsAt w S (some ⟨b, off, none⟩) len xs) {k : Nat} (hk : k ≤ len) : IntsAt w S (some ⟨b, off, none⟩) k (xs.take k) := by
  have hl := h.lenEq
  have hs := h.small
  refine ⟨by simp; omega, by omega, fun h0 => ?_⟩
  obtain ⟨b', off', e, hS, hc⟩ := h.cells (by omega)
  cases e
  refine ⟨b, off, rfl, hS, fun i x hx => ?_⟩
  rw [List.getElem?_take] at hx
  split at hx
  · exact hc _ _ hx
  · cases hx
set_option maxHeartbeats 1000000 in
theorem different_any (S : Nat → Prop) (a : Option Addr) (len cap : Nat) (xs : List Int) (w : World) (h : IntsAt w S a len xs) (hc : len ≤ cap) :
    Calls Try.prog 13 #[.slice a len cap] w fun e w' => e = .returned (.int .i64 (diffM xs len : Nat)) ∧ Drew w w' := by
  have hs := h.small
  go_enter Try.func13, Try.ntmps13
  go_wp2
  go_loopw [3, 4] (fun n i wr => ∃ k : Nat, k ≤ len ∧ i = .int .i64 k ∧ n = .int .i64 (diffM xs k : Nat) ∧ Drew w wr) (fun _ i _ => len - (intOf i).toNat)
  case atStart => exact ⟨0, Nat.zero_le _, rfl, rfl, Drew.refl _⟩
  case round =>
    obtain ⟨k, hk, rfl, rfl, hdw⟩ := hrel
    by_cases hlt : k < len
    · have hr := Drew.ints h hdw
      obtain ⟨b, off, x, rfl, hx, hcx⟩ := hr.get hlt
      have HN := Lib.hid (show diffM xs (k + 1) = diffM xs k + (if inM (xs.take k) x then 0 else 1) by rw [diffM, getD_of hx])
      have HIN := Lib.hid (fun z => isIn_any S (some ⟨b, off, none⟩) k cap (xs.take k) x (wr.drewN z) (ints_take (Drew.ints hr ⟨z, rfl⟩) (by omega)))
      have hdb := diffM_le xs k
      have hne : ¬ cap = 0 := by omega
      have hkc : k ≤ cap := by omega
      have hkl : (k : Int) < (len : Int) := by omega
      clear hx hr
      generalize diffM xs k = d at HN hdb ⊢
      cases hin : inM (xs.take k) x
      · have HM := Lib.hid (show diffM xs (k + 1) = d + 1 by rw [HN.out, hin]; rfl)
        have HIN2 := Lib.hid (fun z => (HIN.out z).mono (fun e w' (he : e = .returned (.bool (inM (xs.take k) x)) ∧ wr.drewN z = w') => (⟨by rw [he.1, hin], he.2.symm⟩ : e = .returned (.bool false) ∧ w' = wr.drewN z)))
        clear hin
        go_wp2_with fail
        go_quiet ((go_at_call 33; exact Calls.quiet_of_same (HIN2.out _)))
        clear hcx
        go_wp2_with fail
        go_roundw
        case rel => exact ⟨k + 1, by omega, by go_num, by rw [HM.out]; go_num, hdw.drew _⟩
        case measure => simp [intOf] <;> omega
      · have HM := Lib.hid (show diffM xs (k + 1) = d by rw [HN.out, hin]; rfl)
        have HIN2 := Lib.hid (fun z => (HIN.out z).mono (fun e w' (he : e = .returned (.bool (inM (xs.take k) x)) ∧ wr.drewN z = w') => (⟨by rw [he.1, hin], he.2.symm⟩ : e = .returned (.bool true) ∧ w' = wr.drewN z)))
        clear hin
        go_wp2_with fail
        go_quiet ((go_at_call 33; exact Calls.quiet_of_same (HIN2.out _)))
        clear hcx
        go_wp2_with fail
        go_roundw
        case rel => exact ⟨k + 1, by omega, by go_num, by rw [HM.out], hdw.drew _⟩
        case measure => simp [intOf] <;> omega
    · obtain rfl : k = len := by omega
      go_wp2
      go_ret
      exact ⟨rfl, hdw⟩
end Go.Proofs.Ytcikgbkehfepdac
namespace Go.Proofs.Ytcikgbkehfepdac
open Go.RowKit Go.WideShapes

theorem diffM_nodup {xs : List Int} (h : xs.Nodup) : ∀ k, k ≤ xs.length → diffM xs k = k := by
  intro k
  induction k with
  | zero => intro _; rfl
  | succ k ih =>
    intro hk
    have hx : xs[k]? = some xs[k] := List.getElem?_eq_getElem (by omega)
    have h2 : (xs.take (k + 1)).Nodup := h.sublist (List.take_sublist _ _)
    rw [take_get hx] at h2
    have h3 : inM (xs.take k) (xs.getD k 0) = false := by
      rw [getD_of hx]
      unfold inM
      simp only [decide_eq_false_iff_not, List.contains_eq_mem, List.any_eq_false, beq_iff_eq]
      exact fun y hy e => (List.nodup_append.1 h2).2.2 y hy _ (by simp) e
    rw [diffM, ih (by omega), h3]; rfl
theorem ruleI_order {rows : List (List Int)} : orderP (ruleI rows rows.length) rows.length := by
  have hp := ruleT_perm (ta rows) (tb rows) rows.length
  refine ⟨⟨fun x hx => ?_, ?_⟩, ruleI_len _ _⟩
  · obtain ⟨y, hy, rfl⟩ := List.mem_map.1 hx
    have := hp.mem_iff.1 hy
    simp at this
    omega
  · exact List.pairwise_map.2 ((hp.symm.nodup List.nodup_range).imp (fun {x y} hne e => hne (by omega)))
theorem nO_ruleI (rows : List (List Int)) (n : Nat) : nO (ruleI rows n) = ruleT (ta rows) (tb rows) n := by
  unfold nO ruleI
  rw [List.map_map]
  conv => rhs; rw [← List.map_id (ruleT (ta rows) (tb rows) n)]
  exact List.map_congr_left (fun x _ => by simp)
theorem rule_fine {rows : List (List Int)} (h : pairsM rows = true) : spanFine rows (ruleRes rows) = true := by
  unfold spanFine
  rw [h, ruleRes_yes h, Bool.true_and]
  exact decide_eq_true ruleI_order
theorem rule_tried {rows : List (List Int)} (h : pairsM rows = true) : triedRes rows = -1 ∨ triedRes rows = spanRes rows (ruleRes rows) := by
  cases ht : triedFine rows
  · exact .inl (triedRes_no ht)
  · right
    rw [spanRes_yes (rule_fine h), ruleRes_yes h, nO_ruleI]
    exact (tried_lst ht).uniq (rule_least _ _ _)
theorem rule_diff {rows : List (List Int)} (h : pairsM rows = true) : diffM (ruleRes rows) rows.length = rows.length := by
  rw [ruleRes_yes h]
  exact diffM_nodup ruleI_order.1.2 _ (by rw [ruleI_len]; exact Nat.le_refl _)
end Go.Proofs.Ytcikgbkehfepdac
namespace Go.Proofs.Ytcikgbkehfepdac
open Go.RowKit Go.WideShapes

theorem one_cell_row (b m : Nat) (cp : Nat) : ∀ u ∈ ([.slice (some ⟨b, 0, none⟩) m cp] : List Value), u.oneCell' := fun u hu => by
  rw [List.mem_singleton.1 hu]; rfl
theorem own_lits (w : World) {B : Nat} (hB : B ≤ w.heap.size) {cs : Array Value} {r : List Int} {m : Nat} (hcs : cs.toList = r.map (.int .i64)) (hm : r.length = m) (hs : m ≤ 1048576) : (w.alloc (.cells cs 3)).ownsRow B 3 1 (.slice (some ⟨w.heap.size, 0, none⟩) m m) m (r.map (.int .i64)) := by
  have hz : cs.size = m := by rw [← Array.length_toList, hcs, List.length_map, hm]
  refine ⟨by simp [hm], .inr ⟨w.heap.size, m, cs, rfl, hB, heap_alloc_new w _, Nat.le_refl _, by unfold maxLen; omega, by rw [hz]; simp, ?_⟩⟩
  rw [hcs, List.take_of_length_le (by simp [hm])]
/-- append of a new row to rows of the call's own -/
theorem wpAppRow {ops : Array Oper} {rest : List Oper} {o : Oper} {a : Act} {Q : Exit → Act → World → Prop} {wo : World} (hgd : o.guard = none) (s x : Operand)
    (ho : o.op = .call { callee := .builtin .append, args := #[s, x], argTypes := #[23, 23] })
    (base k cp : Nat) (ax : Option Addr) (rows : List (List Int)) (r : List Int) (cs : Array Value) (m : Nat) (hs : a.eval s = .slice ax k cp)
    (hown : OwnRowsV wo base (.slice ax k cp) k rows) (hcs : cs.toList = r.map (.int .i64)) (hm : r.length = m) (hm2 : m ≤ 1048576) (hx : a.eval x = .slice (some ⟨wo.heap.size + 1, 0, none⟩) 1 1)
    (hbase : base ≤ wo.heap.size) (hk : k ≤ 1048576)
    (h : ∀ (a6 : Option Addr) (c6 : Nat) (w' : World), OwnRowsV w' base (.slice a6 (k + 1) c6) (k + 1) (rows ++ [r]) → k + 1 ≤ c6 → (∀ B w, B ≤ base → Below B w wo → Below B w w') →
      wpList Try.prog ops Q rest (a.put o.dst (.slice a6 (k + 1) c6)) w') :
    wpList Try.prog ops Q (o :: rest) a ((wo.alloc (.cells cs 3)).alloc (.cells #[.slice (some ⟨wo.heap.size, 0, none⟩) m m] 25)) := by
  obtain ⟨i1, hj, hy0, hy1, hy2⟩ := info_parts Try.infoInts
  obtain ⟨us, hv, hlr, hus⟩ := hown
  have hsz : (wo.alloc (.cells cs 3)).heap.size = wo.heap.size + 1 := by simp
  have hone := one_new (wo.alloc (.cells cs 3)) (.slice (some ⟨wo.heap.size, 0, none⟩) m m) 25
  rw [hsz] at hone
  refine wpList_append_own _ hgd s x 23 ho base 25 i1 (.slice none 0 0) 1 24 Try.underlying23 hj hy0 hy1 hy2 rfl (by decide) _ k us hs ((hv.alloc _).alloc _) ⟨wo.heap.size + 1, 0, none⟩ 1 1 [.slice (some ⟨wo.heap.size, 0, none⟩) m m] hx rfl hone (one_cell_row _ _ _) (by unfold maxLen; omega) (by omega) (by simp; omega) ?_
  intro v' w6 hown6 hgrow _
  obtain ⟨a6, c6, rfl, hc⟩ := own_slice hown6
  refine h a6 c6 w6 (OwnRowsV.push (a := some ⟨wo.heap.size, 0, none⟩) (c := m) (l := m) ((hv.alloc _).alloc _) hlr (fun q u hq => ?_) ((own_lits wo hbase hcs hm hm2).alloc _) (Nat.le_refl _) hm2 hown6 hgrow) hc (fun B w hB hb => ?_)
  · obtain ⟨a', l', c', r', e1, e2, e3, e4, e5⟩ := hus q u hq
    exact ⟨a', l', c', r', e1, e2, e3, e4, (e5.alloc _).alloc _⟩
  · refine ((hb.alloc (by omega) _).alloc (by simp; omega) _).grown hgrow (by simp; omega) (fun g hg => ?_)
    exact Nat.le_trans hB (own_block hv g hg)
end Go.Proofs.Ytcikgbkehfepdac
namespace Go.Proofs.Ytcikgbkehfepdac
open Go.RowKit Go.WideShapes

/-- pairs without times on the second machine -/
def zeroP (rows : List (List Int)) : List (List Int) := rows.map (fun r => [r.getD 0 0, 0])
theorem zeroP_len (rows : List (List Int)) : (zeroP rows).length = rows.length := by simp [zeroP]
theorem zeroP_ta (rows : List (List Int)) : ta (zeroP rows) = ta rows := by
  funext x
  unfold ta zeroP
  rw [List.getD_eq_getElem?_getD (l := rows.map _), List.getD_eq_getElem?_getD (l := rows), List.getElem?_map]
  cases rows[x]? <;> rfl
theorem zeroP_tb (rows : List (List Int)) : tb (zeroP rows) = fun _ => 0 := by
  funext x
  unfold tb zeroP
  rw [List.getD_eq_getElem?_getD (l := rows.map _), List.getElem?_map]
  cases rows[x]? <;> rfl
theorem zeroP_pairs {rows : List (List Int)} (h : pairsM rows = true) : pairsM (zeroP rows) = true := by
  simp only [pairsM, Bool.and_eq_true, decide_eq_true_eq, List.all_eq_true] at h ⊢
  refine ⟨fun r hr => ?_, by rw [zeroP_len]; exact h.2⟩
  obtain ⟨s, hs, rfl⟩ := List.mem_map.1 hr
  have := h.1 s hs
  simp only [pairB, Bool.and_eq_true] at this ⊢
  exact ⟨rfl, this.2.1, rfl⟩
theorem zeroP_step {rows : List (List Int)} {k : Nat} {r : List Int} (h : rows[k]? = some r) : zeroP (rows.take (k + 1)) = zeroP (rows.take k) ++ [[r.getD 0 0, 0]] := by
  rw [take_get h]; unfold zeroP; rw [List.map_append]; rfl
theorem zero_span {rows : List (List Int)} {o : List Int} (h : spanFine rows o = true) : spanRes (zeroP rows) o = sumL (ta rows) (List.range rows.length) := by
  obtain ⟨h1, h2⟩ := spanFine_get h
  have h3 : spanFine (zeroP rows) o = true := by
    unfold spanFine
    rw [zeroP_pairs h1, zeroP_len, Bool.true_and]
    exact decide_eq_true h2
  rw [spanRes_yes h3, zeroP_ta, zeroP_tb, span_zero (fun x => (t_bd h1 x).1.1), sumL_perm (nO_perm h2)]
end Go.Proofs.Ytcikgbkehfepdac
