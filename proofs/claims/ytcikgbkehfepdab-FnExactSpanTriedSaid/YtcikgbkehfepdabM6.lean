import Derived.Test.YtcikgbkehfepdabRows
import Derived.WalkKit
import Derived.ProofKit
import Derived.WalkSpells
import Derived.WalkLawsBesides
import Derived.Lib.Hide
import Derived.Test.YtcikgbkehfepdabM0
import Derived.Test.YtcikgbkehfepdabM1
import Derived.Test.YtcikgbkehfepdabM2
import Derived.Test.YtcikgbkehfepdabM5
import Derived.LoopTactic
import Derived.Outline
import Derived.IntWalk
import Derived.Test.YtcikgbkehfepdabM3
namespace Go.Proofs.Ytcikgbkehfepdab
open Go.RowKit Go.WideShapes

/-- append of one int to a list of the call's own -/
theorem wpApp1 {ops : Array Oper} {rest : List Oper} {o : Oper} {a : Act} {Q : Exit → Act → World → Prop} {wo : World} (hgd : o.guard = none) (s x : Operand)
    (ho : o.op = .call { callee := .builtin .append, args := #[s, x], argTypes := #[24, 24] })
    (base k cp : Nat) (ax : Option Addr) (xs : List Int) (v : Int) (hs : a.eval s = .slice ax k cp)
    (hown : wo.ownsRow base 3 1 (.slice ax k cp) k (xs.map (.int .i64))) (hx : a.eval x = .slice (some ⟨wo.heap.size, 0, none⟩) 1 1)
    (hbase : base ≤ wo.heap.size) (hk : k ≤ 1048576)
    (h : ∀ (a6 : Option Addr) (c6 : Nat) (w' : World), w'.ownsRow base 3 1 (.slice a6 (k + 1) c6) (k + 1) (xs.map (.int .i64) ++ [.int .i64 v]) → k + 1 ≤ c6 → wo.grownBy w' (Value.slice ax k cp).ownBlock →
      wpList Try.prog ops Q rest (a.put o.dst (.slice a6 (k + 1) c6)) w') :
    wpList Try.prog ops Q (o :: rest) a (wo.alloc (.cells #[.int .i64 v] 3)) := by
  obtain ⟨i0, hi, hz0, hz1, hz2⟩ := info_parts Try.infoIntO
  refine wpList_append_own _ hgd s x 24 ho base 3 i0 (.int .i64 0) 1 8 Try.underlying24 hi hz0 hz1 hz2 rfl (by decide) _ k _ hs (hown.alloc _) ⟨wo.heap.size, 0, none⟩ 1 1 [.int .i64 v] hx rfl (one_new _ _ _) (one_cell_int _ _) (by unfold maxLen; omega) (by omega) (by simp; omega) ?_
  intro v' w6 hown6 hgrow _
  obtain ⟨a6, c6, rfl, hc⟩ := own_slice hown6
  exact h a6 c6 w6 hown6 hc (grown_comp (World.grownBy_alloc wo _ _) hgrow)
/-- append of a list to a list of the call's own -/
theorem wpAppN {ops : Array Oper} {rest : List Oper} {o : Oper} {a : Act} {Q : Exit → Act → World → Prop} {wo : World} (hgd : o.guard = none) (s x : Operand)
    (ho : o.op = .call { callee := .builtin .append, args := #[s, x], argTypes := #[24, 24] })
    (base k cp : Nat) (ax : Option Addr) (xs : List Int) (S : Nat → Prop) (b off m c : Nat) (ys : List Int) (hs : a.eval s = .slice ax k cp)
    (hown : wo.ownsRow base 3 1 (.slice ax k cp) k (xs.map (.int .i64))) (hx : a.eval x = .slice (some ⟨b, off, none⟩) m c) (hy : IntsAt wo S (some ⟨b, off, none⟩) m ys)
    (hbase : base ≤ wo.heap.size) (hk : k + m ≤ 1048576)
    (h : ∀ (a6 : Option Addr) (c6 : Nat) (w' : World), w'.ownsRow base 3 1 (.slice a6 (k + m) c6) (k + m) (xs.map (.int .i64) ++ ys.map (.int .i64)) → k + m ≤ c6 → wo.grownBy w' (Value.slice ax k cp).ownBlock →
      wpList Try.prog ops Q rest (a.put o.dst (.slice a6 (k + m) c6)) w') :
    wpList Try.prog ops Q (o :: rest) a wo := by
  obtain ⟨i0, hi, hz0, hz1, hz2⟩ := info_parts Try.infoIntO
  refine wpList_append_own _ hgd s x 24 ho base 3 i0 (.int .i64 0) 1 8 Try.underlying24 hi hz0 hz1 hz2 rfl (by decide) _ k _ hs hown ⟨b, off, none⟩ m c (ys.map (.int .i64)) hx (by simp [hy.lenEq]) ?_ ?_ (by unfold maxLen; omega) (by omega) hbase ?_
  · intro j u hj
    rw [List.getElem?_map] at hj
    cases hq : ys[j]? with
    | none => rw [hq] at hj; cases hj
    | some z =>
      rw [hq] at hj
      simp only [Option.map_some, Option.some.injEq] at hj
      have hlt : j < ys.length := (List.getElem?_eq_some_iff.1 hq).1
      obtain ⟨b', off', e, _, hc⟩ := hy.cells (by have := hy.lenEq; omega)
      cases e
      rw [add_plain, hc _ _ hq, ← hj]
  · intro u hu
    obtain ⟨x, _, rfl⟩ := List.mem_map.1 hu
    rfl
  intro v' w6 hown6 hgrow _
  obtain ⟨a6, c6, rfl, hc⟩ := own_slice hown6
  exact h a6 c6 w6 hown6 hc hgrow
theorem own_block {w : World} {B e s n : Nat} {v : Value} {xs : List Value} (h : w.ownsRow B e s v n xs) : ∀ k, v.ownBlock = some k → B ≤ k := fun k e => (h.lt k e).1
theorem own_snoc {w : World} {B n : Nat} {u : Value} {xs : List Int} {x : Int} (h : w.ownsRow B 3 1 u n (xs.map (.int .i64) ++ [.int .i64 x])) : w.ownsRow B 3 1 u n ((xs ++ [x]).map (.int .i64)) := by
  rw [List.map_append]; exact h
end Go.Proofs.Ytcikgbkehfepdab
namespace Go.Proofs.Ytcikgbkehfepdab
open Go.RowKit Go.WideShapes

def bI (x j : Nat) : Int := if x.testBit j then 1 else 0
theorem bI_bd (x j : Nat) : 0 ≤ bI x j ∧ bI x j ≤ 1 := by unfold bI; split <;> omega
theorem bit_at (x j : Nat) (hx : x ≤ 1048576) (hj : j ≤ 20) (w : World) :
    Calls Try.prog 36 #[.int .i64 x, .int .i64 j] w fun e w' => e = .returned (.int .i64 (bI x j)) ∧ w = w' := by
  have hb := p2_bd hj
  have HB := Lib.hid (show bI x j = (x : Int) / ((2 ^ j : Nat) : Int) % 2 by
    have := bitN_test x j; unfold bitN at this; unfold bI; rw [show (x : Int) / ((2 ^ j : Nat) : Int) % 2 = ((x / 2 ^ j % 2 : Nat) : Int) by push_cast; rfl, this]; split <;> rfl)
  have HP := Lib.hid (powV_eq j hj)
  go_enter Try.func36, Try.ntmps36
  go_wp2_with fail
  refine (power_all j (by omega) w).mono ?_
  rintro e w' ⟨rfl, rfl⟩
  rw [HP.out]
  generalize 2 ^ j = p at hb HB ⊢
  have h1 : 0 ≤ (x : Int) / (p : Int) := Int.ediv_nonneg (by omega) (by omega)
  have h2 : (x : Int) / (p : Int) ≤ x := Int.ediv_le_self _ (by omega)
  go_wp2
  go_ret
  exact ⟨ret_int HB.out.symm, rfl⟩
theorem csum_range {T : List Int} (hT : ∀ k, 0 ≤ T.getD k 0 ∧ T.getD k 0 ≤ 9) (P : Nat → Bool) : ∀ n : Nat, 0 ≤ csum T P n ∧ csum T P n ≤ 9 * (n : Int)
  | 0 => by simp [csum]
  | n + 1 => by have := csum_range hT P n; have := hT n; rw [csum]; push_cast; split <;> omega
def natsOf (ys : List Int) : List Nat := ys.map Int.toNat
theorem natsOf_len (ys : List Int) : (natsOf ys).length = ys.length := by simp [natsOf]
theorem natsOf_get {ys : List Int} {n : Nat} (h : powIn ys n) {i : Nat} (hi : i < n) : (((natsOf ys).getD i 0 : Nat) : Int) = ys.getD i 0 := by
  have := h i hi
  simp only [natsOf, List.getD_eq_getElem?_getD, List.getElem?_map] at this ⊢
  cases hq : ys[i]? with
  | none => simp
  | some z => rw [hq] at this; simp at this ⊢; omega
theorem natsOf_lt {ys : List Int} (h : powIn ys ys.length) (i : Nat) : (natsOf ys).getD i 0 < 2 ^ i := by
  have := Nat.two_pow_pos i
  by_cases hi : i < ys.length
  · have h1 := natsOf_get h hi; have h2 := h i hi; omega
  · simp only [List.getD_eq_getElem?_getD]; rw [List.getElem?_eq_none (by rw [natsOf_len]; omega)]; simpa using this
theorem natsOf_small {ys : List Int} (h : powIn ys ys.length) {i : Nat} (hi : i ≤ 6) : (natsOf ys).getD i 0 ≤ 64 := by
  have := natsOf_lt h i; have := Nat.pow_le_pow_right (n := 2) (by omega) hi; omega
theorem natsOf_hA {ys : List Int} (h : powIn ys ys.length) : ∀ i k, ((natsOf ys).getD i 0).testBit k = true → k < i := by
  intro i k hk
  rcases Nat.lt_or_ge k i with h1 | h1
  · exact h1
  · rw [Nat.testBit_lt_two_pow (Nat.lt_of_lt_of_le (natsOf_lt h i) (Nat.pow_le_pow_right (by omega) h1))] at hk; cases hk
theorem tasks_at {T : List Int} (h : allIn 1 9 T = true) : (∀ k, 0 ≤ T.getD k 0 ∧ T.getD k 0 ≤ 9) ∧ ∀ k, k < T.length → 1 ≤ T.getD k 0 := by
  have key : ∀ k, k < T.length → 1 ≤ T.getD k 0 ∧ T.getD k 0 ≤ 9 := by
    intro k hk
    unfold allIn at h
    rw [List.all_eq_true] at h
    have := h (T.getD k 0) (by rw [List.getD_eq_getElem?_getD, List.getElem?_eq_getElem hk]; simp)
    simpa [inB] using this
  refine ⟨fun k => ?_, fun k hk => (key k hk).1⟩
  by_cases hk : k < T.length
  · have := key k hk; omega
  · rw [List.getD_eq_getElem?_getD, List.getElem?_eq_none (by omega)]; simp
end Go.Proofs.Ytcikgbkehfepdab
namespace Go.Proofs.Ytcikgbkehfepdab
open Go.RowKit Go.WideShapes

-- pairs
def pairB (r : List Int) : Bool := r.length == 2 && (inB 0 9 (r.getD 0 0) && inB 0 9 (r.getD 1 0))
def pairsM (rows : List (List Int)) : Bool := rows.all pairB && decide (rows.length ≤ 8)
theorem pairs_false {rows : List (List Int)} {k : Nat} {r : List Int} (h : rows[k]? = some r) (hr : pairB r = false) : pairsM rows = false := by
  unfold pairsM
  rw [List.all_eq_false.2 ⟨r, List.mem_of_getElem? h, by rw [hr]; simp⟩]; rfl
theorem pairs_get {rows : List (List Int)} (h : pairsM rows = true) : rows.length ≤ 8 ∧ ∀ r ∈ rows, r.length = 2 ∧ (0 ≤ r.getD 0 0 ∧ r.getD 0 0 ≤ 9) ∧ (0 ≤ r.getD 1 0 ∧ r.getD 1 0 ≤ 9) := by
  simp only [pairsM, Bool.and_eq_true, decide_eq_true_eq, List.all_eq_true] at h
  refine ⟨h.2, fun r hr => ?_⟩
  have := h.1 r hr
  simp only [pairB, Bool.and_eq_true, beq_iff_eq] at this
  exact ⟨this.1, by simpa [inB] using this.2.1, by simpa [inB] using this.2.2⟩
theorem validPairs_any (S : Nat → Prop) (a : Option Addr) (len cap : Nat) (rows : List (List Int)) (w : World) (h : RowsAt w S a len rows) :
    Calls Try.prog 24 #[.slice a len cap] w fun e w' => e = .returned (.bool (pairsM rows)) ∧ w = w' := by
  have hs := h.small
  have HL := Lib.hid h.lenEq
  go_enter Try.func24, Try.ntmps24
  go_wp2
  go_loop [3] (fun i => ∃ k : Nat, k ≤ len ∧ i = .int .i64 k ∧ (rows.take k).all pairB = true) (fun i => len - (intOf i).toNat)
  case atStart => exact ⟨0, Nat.zero_le _, rfl, rfl⟩
  case round =>
    obtain ⟨k, hk, rfl, ha⟩ := hrel
    have HA := Lib.hid ha
    clear ha
    by_cases hlt : k < len
    · obtain ⟨b, off, r, a', l, c, rfl, hx, hc, _, hr⟩ := h.get hlt
      have HX := Lib.hid hx
      have HRL := Lib.hid hr.lenEq
      have hrs := hr.small
      clear hx
      by_cases hl2 : l = 2
      · subst hl2
        obtain ⟨b', off', x, rfl, hy, hd⟩ := hr.get (k := 0) (by omega)
        obtain ⟨b2, off2, y, e2, hy2, hd2⟩ := hr.get (k := 1) (by omega)
        cases e2
        rw [Nat.add_zero] at hd
        have HY := Lib.hid (getD_of hy)
        have HY2 := Lib.hid (getD_of hy2)
        clear hy hy2
        cases hq : inB 0 9 x
        · go_wp2_with (go_at_call 35; refine (inRange_any _ _ _ _).mono ?_; rintro e w' ⟨rfl, rfl⟩)
          go_ret
          exact ⟨ret_bool (by rw [pairs_false HX.out (by unfold pairB; rw [HY.out, hq]; simp)]), rfl⟩
        · cases hq2 : inB 0 9 y
          · go_wp2_with (go_at_call 35; refine (inRange_any _ _ _ _).mono ?_; rintro e w' ⟨rfl, rfl⟩)
            go_ret
            exact ⟨ret_bool (by rw [pairs_false HX.out (by unfold pairB; rw [HY2.out, hq2]; simp)]), rfl⟩
          · go_wp2_with (go_at_call 35; refine (inRange_any _ _ _ _).mono ?_; rintro e w' ⟨rfl, rfl⟩)
            go_round
            case rel => exact ⟨k + 1, by omega, by go_num, by
              rw [take_get HX.out, List.all_append, HA.out]
              simp only [List.all_cons, List.all_nil, Bool.and_true, Bool.true_and]
              unfold pairB; rw [HY.out, HY2.out, hq, hq2, HRL.out]; rfl⟩
            case measure => simp [intOf]; omega
      · have hle : ((l : Int) != 2) = true := by simp; omega
        go_wp2
        go_ret
        exact ⟨ret_bool (by rw [pairs_false HX.out (by unfold pairB; rw [HRL.out, beq_eq_false_iff_ne.2 hl2]; rfl)]), rfl⟩
    · go_wp2
      go_ret
      have ha := HA.out
      have hl := HL.out
      rw [List.take_of_length_le (by omega)] at ha
      exact ⟨ret_bool (by rw [pairsM, ha, hl, Bool.true_and]; exact decide_eq_decide.2 (by omega)), rfl⟩
/-- the times of a job -/
def ta (rows : List (List Int)) (x : Nat) : Int := (rows.getD x []).getD 0 0
def tb (rows : List (List Int)) (x : Nat) : Int := (rows.getD x []).getD 1 0
theorem t_bd {rows : List (List Int)} (h : pairsM rows = true) (x : Nat) : (0 ≤ ta rows x ∧ ta rows x ≤ 9) ∧ (0 ≤ tb rows x ∧ tb rows x ≤ 9) := by
  obtain ⟨_, h2⟩ := pairs_get h
  unfold ta tb
  rcases Nat.lt_or_ge x rows.length with hx | hx
  · rw [List.getD_eq_getElem?_getD (l := rows), List.getElem?_eq_getElem hx]
    have := h2 rows[x] (List.getElem_mem hx)
    exact ⟨this.2.1, this.2.2⟩
  · rw [List.getD_eq_getElem?_getD (l := rows), List.getElem?_eq_none hx]; simp
theorem t_at {rows : List (List Int)} {x : Nat} {r : List Int} (h : rows[x]? = some r) : ta rows x = r.getD 0 0 ∧ tb rows x = r.getD 1 0 := by
  unfold ta tb; rw [List.getD_eq_getElem?_getD (l := rows), h]; exact ⟨rfl, rfl⟩
-- orders
def orderP (o : List Int) (n : Nat) : Prop := ((∀ x ∈ o, 0 ≤ x ∧ x < (n : Int)) ∧ o.Nodup) ∧ o.length = n
instance (o : List Int) (n : Nat) : Decidable (orderP o n) := by unfold orderP; infer_instance
def orderM (o : List Int) (n : Nat) : Bool := decide (orderP o n)
theorem orderM_get {o : List Int} {n : Nat} (h : orderM o n = true) : orderP o n := of_decide_eq_true h
def nO (o : List Int) : List Nat := o.map Int.toNat
theorem nO_perm {o : List Int} {n : Nat} (h : orderP o n) : (nO o).Perm (List.range n) := by
  obtain ⟨⟨h1, h2⟩, h3⟩ := h
  have hn : (nO o).Nodup := by
    refine List.pairwise_map.2 (h2.imp_of_mem (fun {x y} hx hy hne e => hne ?_))
    have := h1 x hx; have := h1 y hy; omega
  have hs : nO o ⊆ List.range n := fun x hx => by
    obtain ⟨y, hy, rfl⟩ := List.mem_map.1 hx
    have := h1 y hy; simp; omega
  refine (List.perm_ext_iff_of_nodup hn List.nodup_range).2 (fun x => ⟨fun hx => hs hx, fun hx => ?_⟩)
  apply Classical.byContradiction
  intro hm
  have : (x :: nO o).length ≤ (List.range n).length := List.Nodup.length_le_of_subset (List.nodup_cons.2 ⟨hm, hn⟩) (fun y hy => by
    rcases List.mem_cons.1 hy with rfl | hy
    · exact hx
    · exact hs hy)
  simp [nO] at this; omega
theorem order_bad {o : List Int} {n k : Nat} {x : Int} (h : o[k]? = some x) (hx : inB 0 ((n : Int) - 1) x = false) : orderM o n = false := by
  refine decide_eq_false (fun hp => ?_)
  have := hp.1.1 x (List.mem_of_getElem? h)
  unfold inB at hx
  simp only [decide_eq_false_iff_not] at hx
  omega
theorem order_twice {o : List Int} {n k : Nat} {x : Int} (h : o[k]? = some x) (hx : x ∈ o.take k) : orderM o n = false := by
  refine decide_eq_false (fun hp => ?_)
  have hn := hp.1.2
  have h2 : (o.take (k + 1)).Nodup := hn.sublist (List.take_sublist _ _)
  rw [take_get h] at h2
  exact (List.nodup_append.1 h2).2.2 x hx x (by simp) rfl
set_option maxHeartbeats 1000000 in
theorem validOrder_any (S : Nat → Prop) (a : Option Addr) (len cap : Nat) (o : List Int) (n : Nat) (w : World) (h : IntsAt w S a len o) (hn : n ≤ 8) :
    Calls Try.prog 25 #[.slice a len cap, .int .i64 n] w fun e w' => e = .returned (.bool (orderM o n)) ∧ w = w' := by
  have hs := h.small
  have HL := Lib.hid h.lenEq
  go_enter Try.func25, Try.ntmps25
  go_wp2_with fail
  go_loop [5, 6] (fun s i => ∃ k D : Nat, k ≤ len ∧ i = .int .i64 k ∧ s = .int .i64 (D : Int) ∧ (∀ x ∈ o.take k, 0 ≤ x ∧ x < (n : Int)) ∧ (o.take k).Nodup ∧ ∀ i, D.testBit i = decide ((i : Int) ∈ o.take k)) (fun _ i => len - (intOf i).toNat)
  case atStart => exact ⟨0, 0, Nat.zero_le _, rfl, rfl, fun x hx => by simp at hx, by simp, fun i => by simp⟩
  case round =>
    obtain ⟨k, D, hk, rfl, rfl, h1, h2, h3⟩ := hrel
    have hD : D < 2 ^ n := Nat.lt_pow_two_of_testBit _ (fun i hi => by
      rw [h3]; exact decide_eq_false (fun hm => by have := h1 _ hm; omega))
    have hp8 : 2 ^ n ≤ 256 := Nat.pow_le_pow_right (n := 2) (j := 8) (by omega) hn
    have H1 := Lib.hid h1
    have H2 := Lib.hid h2
    have H3 := Lib.hid h3
    clear h1 h2 h3
    by_cases hlt : k < len
    · obtain ⟨b, off, x, rfl, hx, hc⟩ := h.get hlt
      have HX := Lib.hid hx
      clear hx
      cases hq : inB 0 ((n : Int) - 1) x
      · go_wp2_with fail
        refine (inRange_any _ _ _ _).mono ?_
        rintro e w' ⟨rfl, rfl⟩
        rw [hq]
        go_wp2_with fail
        go_ret
        exact ⟨ret_bool (order_bad HX.out hq).symm, rfl⟩
      · have hxb : 0 ≤ x ∧ x ≤ (n : Int) - 1 := by simpa [inB] using hq
        obtain ⟨q, rfl⟩ : ∃ q : Nat, x = (q : Int) := ⟨x.toNat, by omega⟩
        have HBIT := Lib.hid (bit_at D q (by omega) (by omega) w)
        by_cases hm : (q : Int) ∈ o.take k
        · have HB := Lib.hid (show bI D q = 1 by unfold bI; rw [H3.out, decide_eq_true hm]; rfl)
          have HM := Lib.hid hm
          clear hm
          go_wp2_with fail
          refine (inRange_any _ _ _ _).mono ?_
          rintro e w' ⟨rfl, rfl⟩
          rw [hq]
          go_wp2_with fail
          refine HBIT.out.mono ?_
          rintro e w' ⟨rfl, rfl⟩
          rw [HB.out]
          go_wp2_with fail
          go_ret
          exact ⟨ret_bool (order_twice HX.out HM.out).symm, rfl⟩
        · have HB := Lib.hid (show bI D q = 0 by unfold bI; rw [H3.out, decide_eq_false hm]; rfl)
          have HM := Lib.hid hm
          have hDq : D.testBit q = false := by rw [H3.out]; exact decide_eq_false hm
          have HDQ := Lib.hid hDq
          have HPW := Lib.hid (powV_eq q (by omega))
          have hpq : 2 ^ q ≤ 256 := Nat.pow_le_pow_right (n := 2) (j := 8) (by omega) (by omega)
          obtain ⟨pq, hpqe⟩ : ∃ pq, 2 ^ q = pq := ⟨_, rfl⟩
          have HPQ := Lib.hid hpqe
          rw [hpqe] at hpq HPW
          clear hm hDq hpqe
          go_wp2_with fail
          refine (inRange_any _ _ _ _).mono ?_
          rintro e w' ⟨rfl, rfl⟩
          rw [hq]
          go_wp2_with fail
          refine HBIT.out.mono ?_
          rintro e w' ⟨rfl, rfl⟩
          rw [HB.out]
          go_wp2_with fail
          refine (power_all q (by omega) w).mono ?_
          rintro e w' ⟨rfl, rfl⟩
          rw [HPW.out]
          go_wp2_with fail
          go_round
          case rel => exact ⟨k + 1, D + pq, by omega, by go_num, by go_num, fun x hx => by
              rw [take_get HX.out] at hx
              rcases List.mem_append.1 hx with hx | hx
              · exact H1.out x hx
              · simp at hx; omega, by
              rw [take_get HX.out]
              exact (List.perm_append_singleton _ _).symm.nodup (List.nodup_cons.2 ⟨HM.out, H2.out⟩), fun i => by
              rw [← HPQ.out, add_bit HDQ.out, H3.out, take_get HX.out, Bool.eq_iff_iff]
              simp only [Bool.or_eq_true, decide_eq_true_eq, List.mem_append, List.mem_singleton]
              constructor
              · rintro (h | h)
                · exact .inl h
                · right; omega
              · rintro (h | h)
                · exact .inl h
                · right; omega⟩
          case measure => simp [intOf] <;> omega
    · obtain rfl : k = len := by omega
      have hall : o.take k = o := List.take_of_length_le (by rw [HL.out]; omega)
      have h1 := H1.out
      have h2 := H2.out
      rw [hall] at h1 h2
      have HF := Lib.hid (show orderM o n = ((k : Int) == (n : Int)) by
        rw [Bool.eq_iff_iff, beq_iff_eq]
        unfold orderM
        rw [decide_eq_true_eq]
        exact ⟨fun hp => by have := hp.2; rw [HL.out] at this; omega, fun e => ⟨⟨h1, h2⟩, by rw [HL.out]; omega⟩⟩)
      clear h1 h2 hall
      go_wp2_with fail
      go_ret
      exact ⟨ret_bool HF.out.symm, rfl⟩
-- the span
theorem nO_snoc {o : List Int} {k : Nat} {x : Int} (h : o[k]? = some x) : nO (o.take (k + 1)) = nO (o.take k) ++ [x.toNat] := by
  rw [take_get h]; simp [nO]
theorem run_bd {rows : List (List Int)} (hp : pairsM rows = true) (l : List Nat) : (0 ≤ (runT (ta rows) (tb rows) (0, 0) l).1 ∧ (runT (ta rows) (tb rows) (0, 0) l).1 ≤ 9 * (l.length : Int)) ∧ (0 ≤ (runT (ta rows) (tb rows) (0, 0) l).2 ∧ (runT (ta rows) (tb rows) (0, 0) l).2 ≤ 18 * (l.length : Int)) := by
  have h1 := runT_fst (ta rows) (tb rows) l (0, 0)
  have h2 := sumL_nn (fun x => (t_bd hp x).1.1) l
  have h3 := sumL_bd (fun x => (t_bd hp x).1.2) l
  have h4 := sumL_bd (fun x => (t_bd hp x).2.2) l
  have h5 := span_sums (fun x => (t_bd hp x).1.1) (fun x => (t_bd hp x).2.1) l
  have h6 := sumL_nn (fun x => (t_bd hp x).2.1) l
  unfold spanT at h5
  simp only at h1
  omega
set_option maxHeartbeats 1000000 in
theorem span_any (S T : Nat → Prop) (a : Option Addr) (len cap : Nat) (rows : List (List Int)) (a2 : Option Addr) (len2 cap2 : Nat) (o : List Int) (w : World) (h : RowsAt w S a len rows) (g : IntsAt w T a2 len2 o) (hp : pairsM rows = true) (ho : ∀ x ∈ o, 0 ≤ x ∧ x < (len : Int)) (hl : len2 ≤ 8) :
    Calls Try.prog 39 #[.slice a len cap, .slice a2 len2 cap2] w fun e w' => e = .returned (.int .i64 (spanT (ta rows) (tb rows) (nO o))) ∧ w = w' := by
  have HL := Lib.hid g.lenEq
  have HP := Lib.hid (pairs_get hp).2
  have HBD := Lib.hid (run_bd hp)
  have HO := Lib.hid ho
  clear hp ho
  go_enter Try.func39, Try.ntmps39
  go_wp2_with fail
  go_loop [5, 6, 7] (fun av bv i => ∃ k : Nat, k ≤ len2 ∧ i = .int .i64 k ∧ av = .int .i64 (runT (ta rows) (tb rows) (0, 0) (nO (o.take k))).1 ∧ bv = .int .i64 (runT (ta rows) (tb rows) (0, 0) (nO (o.take k))).2) (fun _ _ i => len2 - (intOf i).toNat)
  case atStart => exact ⟨0, Nat.zero_le _, rfl, rfl, rfl⟩
  case round =>
    obtain ⟨k, hk, rfl, rfl, rfl⟩ := hrel
    by_cases hlt : k < len2
    · obtain ⟨b, off, x, rfl, hx, hc⟩ := g.get hlt
      have hxb := HO.out x (List.mem_of_getElem? hx)
      obtain ⟨q, rfl⟩ : ∃ q : Nat, x = (q : Int) := ⟨x.toNat, by omega⟩
      have hql : q < len := by omega
      obtain ⟨b2, off2, r, a', l, c, rfl, hr, hcr, _, hri⟩ := h.get hql
      obtain ⟨hr2, hra, hrb⟩ := HP.out r (List.mem_of_getElem? hr)
      have hl2 : l = 2 := by rw [← hri.lenEq, hr2]
      subst hl2
      obtain ⟨b3, off3, x3, rfl, h3, hc3⟩ := hri.get (k := 0) (by omega)
      obtain ⟨b4, off4, x4, e4, h4, hc4⟩ := hri.get (k := 1) (by omega)
      cases e4
      rw [Nat.add_zero] at hc3
      rw [getD_of h3] at hra
      rw [getD_of h4] at hrb
      have ht := t_at hr
      rw [getD_of h3, getD_of h4] at ht
      have hb := HBD.out (nO (o.take k))
      have hkl : ((nO (o.take k)).length : Int) ≤ 8 := by unfold nO; rw [List.length_map, List.length_take]; omega
      have HN := Lib.hid (show runT (ta rows) (tb rows) (0, 0) (nO (o.take (k + 1))) = stT (ta rows) (tb rows) (runT (ta rows) (tb rows) (0, 0) (nO (o.take k))) q by
        rw [nO_snoc hx, runT_snoc, Int.toNat_natCast])
      have HN1 := Lib.hid (show (runT (ta rows) (tb rows) (0, 0) (nO (o.take (k + 1)))).1 = (runT (ta rows) (tb rows) (0, 0) (nO (o.take k))).1 + x3 by rw [HN.out]; show _ + ta rows q = _; rw [ht.1])
      have HN2 := Lib.hid (show (runT (ta rows) (tb rows) (0, 0) (nO (o.take (k + 1)))).2 = max ((runT (ta rows) (tb rows) (0, 0) (nO (o.take k))).1 + x3) (runT (ta rows) (tb rows) (0, 0) (nO (o.take k))).2 + x4 by rw [HN.out]; show max (_ + ta rows q) _ + tb rows q = _; rw [ht.1, ht.2])
      have hqi : (q : Int) < (len : Int) := by omega
      clear hx hr hr2 h3 h4 ht HN
      generalize (runT (ta rows) (tb rows) (0, 0) (nO (o.take k))).1 = va at *
      generalize (runT (ta rows) (tb rows) (0, 0) (nO (o.take k))).2 = vb at *
      by_cases hmx : va + x3 < vb
      · have HM := Lib.hid (HN2.out.trans (show _ = vb + x4 by rw [show max (va + x3) vb = vb by omega]))
        go_wp2_with fail
        go_round
        case rel => exact ⟨k + 1, by omega, by go_num, by rw [HN1.out], by rw [HM.out]⟩
        case measure => simp [intOf] <;> omega
      · have HM := Lib.hid (HN2.out.trans (show _ = va + x3 + x4 by rw [show max (va + x3) vb = va + x3 by omega]))
        go_wp2_with fail
        go_round
        case rel => exact ⟨k + 1, by omega, by go_num, by rw [HN1.out], by rw [HM.out]⟩
        case measure => simp [intOf] <;> omega
    · obtain rfl : k = len2 := by omega
      have HE := Lib.hid (show (runT (ta rows) (tb rows) (0, 0) (nO (o.take k))).2 = spanT (ta rows) (tb rows) (nO o) by rw [List.take_of_length_le (by rw [HL.out]; omega)]; rfl)
      go_wp2_with fail
      go_ret
      exact ⟨ret_int HE.out, rfl⟩
/-- what SpanOf answers -/
def spanFine (rows : List (List Int)) (o : List Int) : Bool := pairsM rows && orderM o rows.length
def spanRes (rows : List (List Int)) (o : List Int) : Int := if spanFine rows o then spanT (ta rows) (tb rows) (nO o) else -1
theorem spanRes_no {rows : List (List Int)} {o : List Int} (h : spanFine rows o = false) : spanRes rows o = -1 := by unfold spanRes; rw [h]; rfl
theorem spanRes_yes {rows : List (List Int)} {o : List Int} (h : spanFine rows o = true) : spanRes rows o = spanT (ta rows) (tb rows) (nO o) := by unfold spanRes; rw [h]; rfl
theorem spanFine_get {rows : List (List Int)} {o : List Int} (h : spanFine rows o = true) : pairsM rows = true ∧ orderP o rows.length := by
  simp only [spanFine, Bool.and_eq_true] at h; exact ⟨h.1, orderM_get h.2⟩
end Go.Proofs.Ytcikgbkehfepdab
namespace Go.Proofs.Ytcikgbkehfepdab
open Go.RowKit Go.WideShapes

/-- where the job that comes at place k stands, and its times -/
theorem job_at {w : World} {S T : Nat → Prop} {a a2 : Option Addr} {len len2 : Nat} {rows : List (List Int)} {o : List Int} (h : RowsAt w S a len rows) (g : IntsAt w T a2 len2 o) (hP : ∀ r ∈ rows, r.length = 2 ∧ (0 ≤ r.getD 0 0 ∧ r.getD 0 0 ≤ 9) ∧ (0 ≤ r.getD 1 0 ∧ r.getD 1 0 ≤ 9))
    (ho : ∀ x ∈ o, 0 ≤ x ∧ x < (len : Int)) {k : Nat} (hk : k < len2) : ∃ (b off q b2 off2 b3 off3 c : Nat), a2 = some ⟨b, off, none⟩ ∧ a = some ⟨b2, off2, none⟩ ∧ o[k]? = some (q : Int) ∧ q < len ∧ w.cell? ⟨b, off + k, none⟩ = some (.int .i64 (q : Int)) ∧
      w.cell? ⟨b2, off2 + q, none⟩ = some (.slice (some ⟨b3, off3, none⟩) 2 c) ∧ w.cell? ⟨b3, off3, none⟩ = some (.int .i64 (ta rows q)) ∧ w.cell? ⟨b3, off3 + 1, none⟩ = some (.int .i64 (tb rows q)) := by
  obtain ⟨b, off, x, rfl, hx, hc⟩ := g.get hk
  have hxb := ho x (List.mem_of_getElem? hx)
  obtain ⟨q, rfl⟩ : ∃ q : Nat, x = (q : Int) := ⟨x.toNat, by omega⟩
  have hql : q < len := by omega
  obtain ⟨b2, off2, r, a', l, c, rfl, hr, hcr, _, hri⟩ := h.get hql
  obtain ⟨hr2, _, _⟩ := hP r (List.mem_of_getElem? hr)
  have hl2 : l = 2 := by rw [← hri.lenEq, hr2]
  subst hl2
  obtain ⟨b3, off3, x3, rfl, h3, hc3⟩ := hri.get (k := 0) (by omega)
  obtain ⟨b4, off4, x4, e4, h4, hc4⟩ := hri.get (k := 1) (by omega)
  cases e4
  have ht := t_at hr
  rw [getD_of h3, getD_of h4] at ht
  rw [Nat.add_zero] at hc3
  exact ⟨b, off, q, b2, off2, b3, off3, c, rfl, rfl, hx, hql, hc, hcr, by rw [ht.1]; exact hc3, by rw [ht.2]; exact hc4⟩
def turnsRes (rows : List (List Int)) (o : List Int) : Int := spanRes rows o
theorem nO_take (o : List Int) (k : Nat) : nO (o.take k) = (nO o).take k := by simp [nO, List.map_take]
theorem nO_length (o : List Int) : (nO o).length = o.length := by simp [nO]
theorem sum_take_snoc {o : List Int} {k q : Nat} (f : Nat → Int) (h : o[k]? = some (q : Int)) : sumL f ((nO o).take (k + 1)) = sumL f ((nO o).take k) + f q := by
  rw [← nO_take, ← nO_take, nO_snoc h, sumL_append, Int.toNat_natCast, sumL, sumL, Int.add_zero]
theorem sum_mid_snoc {o : List Int} {i k q : Nat} (f : Nat → Int) (h : o[i]? = some (q : Int)) (hki : k ≤ i) : sumL f (((nO o).take (i + 1)).drop k) = sumL f (((nO o).take i).drop k) + f q := by
  have hi : i < o.length := (List.getElem?_eq_some_iff.1 h).1
  rw [← nO_take, ← nO_take, nO_snoc h, List.drop_append_of_le_length (by rw [nO_length, List.length_take]; omega), sumL_append, Int.toNat_natCast, sumL, sumL, Int.add_zero]
set_option maxRecDepth 100000 in
set_option maxHeartbeats 4000000 in
theorem spanByTurns_spec (S T : Nat → Prop) (a : Option Addr) (len cap : Nat) (rows : List (List Int)) (a2 : Option Addr) (len2 cap2 : Nat) (o : List Int) (w : World) (h : RowsAt w S a len rows) (g : IntsAt w T a2 len2 o) :
    Calls Try.prog 9 #[.slice a len cap, .slice a2 len2 cap2] w fun e w' => e = .returned (.int .i64 (spanRes rows o)) ∧ w = w' := by
  have HL := Lib.hid h.lenEq
  cases hp : pairsM rows
  · rw [spanRes_no (by unfold spanFine; rw [hp]; rfl)]
    go_enter Try.func9, Try.ntmps9
    go_wp2_with fail
    refine (validPairs_any S a len cap rows w h).mono ?_
    rintro e w' ⟨rfl, rfl⟩
    rw [hp]
    go_wp2_with fail
    go_ret
    exact ⟨rfl, rfl⟩
  · have hl8 : len ≤ 8 := by have := (pairs_get hp).1; have := HL.out; omega
    cases ho : orderM o len
    · rw [spanRes_no (by unfold spanFine; rw [HL.out, ho]; simp)]
      go_enter Try.func9, Try.ntmps9
      go_wp2_with fail
      refine (validPairs_any S a len cap rows w h).mono ?_
      rintro e w' ⟨rfl, rfl⟩
      rw [hp]
      go_wp2_with fail
      refine (validOrder_any T a2 len2 cap2 o len w g hl8).mono ?_
      rintro e w' ⟨rfl, rfl⟩
      rw [ho]
      go_wp2_with fail
      go_ret
      exact ⟨rfl, rfl⟩
    · rw [spanRes_yes (by unfold spanFine; rw [HL.out, hp, ho]; rfl)]
      have hO := orderM_get ho
      have hl2 : len2 ≤ 8 := by rw [← g.lenEq, hO.2]; exact hl8
      have HLO := Lib.hid (show (nO o).length = len2 by rw [nO_length]; exact g.lenEq)
      have HJ := Lib.hid (fun k (hk : k < len2) => job_at h g (pairs_get hp).2 hO.1.1 (k := k) hk)
      have HBA := Lib.hid (fun x => (t_bd hp x).1)
      have HBB := Lib.hid (fun x => (t_bd hp x).2)
      have HSP := Lib.hid (show turnsTo (ta rows) (tb rows) (nO o) len2 = spanT (ta rows) (tb rows) (nO o) by rw [← HLO.out]; exact turns_span (fun x => (t_bd hp x).1.1) (fun x => (t_bd hp x).2.1) _)
      have HVP := Lib.hid (validPairs_any S a len cap rows w h)
      rw [hp] at HVP
      have HVO := Lib.hid (validOrder_any T a2 len2 cap2 o len w g hl8)
      rw [ho] at HVO
      have HTB := Lib.hid (fun k => turnsTo_nn (ta rows) (tb rows) (nO o) k)
      have HTU := Lib.hid (show ∀ k, turnsTo (ta rows) (tb rows) (nO o) k ≤ 200 from fun k => by
        rcases turnsTo_is (ta rows) (tb rows) (nO o) k with e | ⟨j, _, e⟩
        · omega
        · rw [e]; unfold turnT
          have h1 := sumL_bd (fun x => (t_bd hp x).1.2) ((nO o).take (j + 1))
          have h2 := sumL_bd (fun x => (t_bd hp x).2.2) ((nO o).drop j)
          have h3 : ((nO o).take (j + 1)).length ≤ 8 := by rw [List.length_take]; have := HLO.out; omega
          have h4 : ((nO o).drop j).length ≤ 8 := by rw [List.length_drop]; have := HLO.out; omega
          omega)
      have HSA := Lib.hid (show ∀ i, 0 ≤ sumL (ta rows) ((nO o).take i) ∧ sumL (ta rows) ((nO o).take i) ≤ 72 from fun i => by
        have h1 := sumL_bd (fun x => (t_bd hp x).1.2) ((nO o).take i)
        have h2 := sumL_nn (fun x => (t_bd hp x).1.1) ((nO o).take i)
        have h3 : ((nO o).take i).length ≤ 8 := by rw [List.length_take]; have := HLO.out; omega
        omega)
      have HSB := Lib.hid (show ∀ i k, 0 ≤ sumL (tb rows) (((nO o).take i).drop k) ∧ sumL (tb rows) (((nO o).take i).drop k) ≤ 72 from fun i k => by
        have h1 := sumL_bd (fun x => (t_bd hp x).2.2) (((nO o).take i).drop k)
        have h2 := sumL_nn (fun x => (t_bd hp x).2.1) (((nO o).take i).drop k)
        have h3 : (((nO o).take i).drop k).length ≤ 8 := by rw [List.length_drop, List.length_take]; have := HLO.out; omega
        omega)
      clear hp ho hO
      go_enter Try.func9, Try.ntmps9
      go_wp2_with fail
      refine HVP.out.mono ?_
      rintro e w' ⟨rfl, rfl⟩
      go_wp2_with fail
      refine HVO.out.mono ?_
      rintro e w' ⟨rfl, rfl⟩
      clear HVP HVO
      go_wp2_with fail
      go_loop [5, 6] (fun ov kv => ∃ k : Nat, k ≤ len2 ∧ kv = .int .i64 (k : Int) ∧ ov = .int .i64 (turnsTo (ta rows) (tb rows) (nO o) k)) (fun _ kv => len2 - (intOf kv).toNat)
      case atStart => exact ⟨0, Nat.zero_le _, rfl, rfl⟩
      case round =>
        obtain ⟨k, hk, rfl, rfl⟩ := hrel
        by_cases hkl : k < len2
        · have hkli : (k : Int) < (len2 : Int) := by omega
          have ht0 := HTB.out k
          have ht1 := HTU.out k
          have HN := Lib.hid (show turnsTo (ta rows) (tb rows) (nO o) (k + 1) = max (turnsTo (ta rows) (tb rows) (nO o) k) (turnT (ta rows) (tb rows) (nO o) k) from rfl)
          generalize turnsTo (ta rows) (tb rows) (nO o) k = tt at *
          go_wp2_with fail
          go_loop [7, 8] (fun nv iv => ∃ i : Nat, i ≤ k + 1 ∧ iv = .int .i64 (i : Int) ∧ nv = .int .i64 (sumL (ta rows) ((nO o).take i))) (fun _ iv => k + 1 - (intOf iv).toNat)
          case atStart => exact ⟨0, Nat.zero_le _, rfl, rfl⟩
          case round =>
            obtain ⟨i, hi, rfl, rfl⟩ := hrel
            by_cases hik : i ≤ k
            · have hiki : (i : Int) ≤ (k : Int) := by omega
              obtain ⟨b, off, q, b2, off2, b3, off3, c, rfl, rfl, hoq, hql, c1, c2, c3, c4⟩ := HJ.out i (by omega)
              have HS := Lib.hid (sum_take_snoc (ta rows) hoq)
              have hqb := HBA.out q
              have hsb := HSA.out i
              have hil : (i : Int) < (len2 : Int) := by omega
              have hil2 : i < len2 := by omega
              have hqli : (q : Int) < (len : Int) := by omega
              clear hoq
              generalize sumL (ta rows) ((nO o).take i) = sm at *
              generalize ta rows q = tq at *
              go_wp2_with fail
              go_round
              case rel => exact ⟨i + 1, by omega, by go_num, by rw [HS.out]⟩
              case measure => simp [intOf] <;> omega
            · obtain rfl : i = k + 1 := by omega
              have hiki : ¬ ((k + 1 : Nat) : Int) ≤ (k : Int) := by omega
              have hsa := HSA.out (k + 1)
              obtain ⟨sa, hsae⟩ : ∃ sa, sumL (ta rows) ((nO o).take (k + 1)) = sa := ⟨_, rfl⟩
              have HSAE := Lib.hid hsae
              rw [hsae] at hsa ⊢
              clear hsae
              go_wp2_with fail
              go_loop [7, 9] (fun nv iv => ∃ i : Nat, k ≤ i ∧ i ≤ len2 ∧ iv = .int .i64 (i : Int) ∧ nv = .int .i64 (sa + sumL (tb rows) (((nO o).take i).drop k))) (fun _ iv => len2 - (intOf iv).toNat)
              case atStart => exact ⟨k, Nat.le_refl _, hk, rfl, by rw [List.drop_eq_nil_of_le (by rw [List.length_take]; omega), sumL, Int.add_zero]⟩
              case round =>
                obtain ⟨i, hi1, hi2, rfl, rfl⟩ := hrel
                by_cases hil2 : i < len2
                · obtain ⟨b, off, q, b2, off2, b3, off3, c, rfl, rfl, hoq, hql, c1, c2, c3, c4⟩ := HJ.out i hil2
                  have HS := Lib.hid (sum_mid_snoc (tb rows) hoq hi1)
                  have hqb := HBB.out q
                  have hsb := HSB.out i k
                  have hil : (i : Int) < (len2 : Int) := by omega
                  have hqli : (q : Int) < (len : Int) := by omega
                  clear hoq
                  generalize sumL (tb rows) (((nO o).take i).drop k) = sm at *
                  generalize tb rows q = tq at *
                  go_wp2_with fail
                  go_round
                  case rel => exact ⟨i + 1, by omega, by omega, by go_num, by rw [HS.out]; congr 1; omega⟩
                  case measure => simp [intOf] <;> omega
                · obtain rfl : i = len2 := by omega
                  have hsb := HSB.out i k
                  have HT := Lib.hid (show turnT (ta rows) (tb rows) (nO o) k = sa + sumL (tb rows) (((nO o).take i).drop k) by unfold turnT; rw [HSAE.out, List.take_of_length_le (l := nO o) (i := i) (by rw [HLO.out]; exact Nat.le_refl _)])
                  rw [HT.out] at HN
                  generalize sumL (tb rows) (((nO o).take i).drop k) = sm at *
                  by_cases hmx : tt < sa + sm
                  · have HM := Lib.hid (HN.out.trans (show _ = sa + sm by omega))
                    go_wp2_with fail
                    go_round
                    case rel => exact ⟨k + 1, by omega, by go_num, by rw [HM.out]⟩
                    case measure => simp [intOf] <;> omega
                  · have HM := Lib.hid (HN.out.trans (show _ = tt by omega))
                    go_wp2_with fail
                    go_round
                    case rel => exact ⟨k + 1, by omega, by go_num, by rw [HM.out]⟩
                    case measure => simp [intOf] <;> omega
        · obtain rfl : k = len2 := by omega
          go_wp2_with fail
          go_ret
          exact ⟨ret_int HSP.out, rfl⟩
end Go.Proofs.Ytcikgbkehfepdab
namespace Go.Proofs.Ytcikgbkehfepdab
open Go.RowKit

/-- a new slice of these ints that may be written, not longer than its array -/
def ResPostC (w : World) (xs : List Int) (e : Ending) (w' : World) : Prop := ∃ (a : Option Addr) (len cap : Nat), e = .returned (.slice a len cap) ∧ IntsAt w' (fun b => w.heap.size ≤ b ∧ b < w'.heap.size) a len xs ∧
  Free w' (fun b => w.heap.size ≤ b ∧ b < w'.heap.size) a len ∧ len ≤ cap ∧ Below w.heap.size w w'
theorem resPostC_nil (w : World) : ResPostC w [] (.returned (.slice none 0 0)) w :=
  ⟨none, 0, 0, rfl, ⟨rfl, Nat.zero_le _, fun h => absurd h (by omega)⟩, ⟨Nat.zero_le _, fun h => absurd h (by omega)⟩, Nat.le_refl _, Below.refl _ _⟩
theorem resPostC_of {w w' : World} {xs : List Int} {a : Option Addr} {len cap : Nat} (h : ResPost w xs (.returned (.slice a len cap)) w') (hc : len ≤ cap) : ResPostC w xs (.returned (.slice a len cap)) w' := by
  obtain ⟨a', l', c', e, h1, h2, h3⟩ := h
  simp only [Ending.returned.injEq, Value.slice.injEq] at e
  obtain ⟨rfl, rfl, rfl⟩ := e
  exact ⟨_, _, _, rfl, h1, h2, hc, h3⟩
theorem ResPostC.res {w w' : World} {xs : List Int} {e : Ending} (h : ResPostC w xs e w') : ResPost w xs e w' := by
  obtain ⟨a', l', c', e1, h1, h2, _, h3⟩ := h
  exact ⟨a', l', c', e1, h1, h2, h3⟩
end Go.Proofs.Ytcikgbkehfepdab
