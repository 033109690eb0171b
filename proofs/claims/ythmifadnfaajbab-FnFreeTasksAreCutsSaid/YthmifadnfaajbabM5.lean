import Derived.Test.YthmifadnfaajbabRows
import Derived.WalkKit
import Derived.LoopTactic
import Derived.Outline
import Derived.WalkSpells
import Derived.WalkLawsBesides
import Derived.ProofKit
import Derived.Lib.Hide
import Derived.IntWalk
import Derived.Test.YthmifadnfaajbabM0
import Derived.Test.YthmifadnfaajbabM1
import Derived.Test.YthmifadnfaajbabM4
import Derived.Deep.QuietTactic
import Derived.BigQuiet
namespace Go.Proofs.Ythmifadnfaajbab
open Go.RowKit Go.WideShapes

theorem p2_bd {n : Nat} (h : n ≤ 20) : 1 ≤ 2 ^ n ∧ 2 ^ n ≤ 1048576 := ⟨Nat.pow_pos (by omega), Nat.pow_le_pow_right (n := 2) (by omega) h⟩
/-- 2 to n, as far as it goes. -/
def powV : Nat → Int
  | 0 => 1
  | n + 1 => wrap64 (2 * powV n)
theorem powV_bd : ∀ n, -9223372036854775808 ≤ powV n ∧ powV n ≤ 9223372036854775807
  | 0 => by decide
  | n + 1 => w64_bd _
theorem powV_eq : ∀ n, n ≤ 20 → powV n = ((2 ^ n : Nat) : Int)
  | 0, _ => rfl
  | n + 1, h => by
    have hb := p2_bd (n := n) (by omega)
    rw [powV, powV_eq n (by omega), w64_id (by omega) (by omega), Nat.pow_succ]; push_cast; omega
theorem power_all (n : Nat) (hn : n ≤ 1048576) (w : World) :
    Calls Try.prog 34 #[.int .i64 n] w fun e w' => e = .returned (.int .i64 (powV n)) ∧ w = w' := by
  go_enter Try.func34, Try.ntmps34
  go_wp2
  go_loop [0, 3] (fun i o => ∃ (k : Nat), k ≤ n ∧ i = .int .i64 k ∧ o = .int .i64 (powV (n - k))) (fun i _ => (intOf i).toNat)
  case atStart => exact ⟨n, Nat.le_refl _, rfl, by rw [Nat.sub_self]; rfl⟩
  case round =>
    obtain ⟨k, hk, rfl, rfl⟩ := hrel
    by_cases h0 : 0 < k
    · have HN := Lib.hid (show powV (n - (k - 1)) = wrap64 (2 * powV (n - k)) by rw [show n - (k - 1) = (n - k) + 1 by omega]; rfl)
      have hb := powV_bd (n - k)
      generalize powV (n - k) = v at hb HN ⊢
      go_wp2
      go_round
      case rel => exact ⟨k - 1, by omega, by congr 1; omega, by rw [HN.out]⟩
      case measure => simp [intOf] <;> omega
    · obtain rfl : k = 0 := by omega
      go_wp2
      go_ret
      exact ⟨rfl, rfl⟩

/-- Tasks. -/
def powIn (ys : List Int) (n : Nat) : Prop := ∀ i, i < n → 0 ≤ ys.getD i 0 ∧ ys.getD i 0 ≤ ((2 ^ i : Nat) : Int) - 1
def tasksP (T ys : List Int) : Prop := (allIn 1 9 T = true ∧ powIn ys ys.length) ∧ ys.length = T.length ∧ T.length ≤ 6
instance (ys : List Int) (n : Nat) : Decidable (powIn ys n) := by unfold powIn; infer_instance
instance (T ys : List Int) : Decidable (tasksP T ys) := by unfold tasksP; infer_instance
def tasksM (T ys : List Int) : Bool := decide (tasksP T ys)
theorem tasksM_yes {T ys : List Int} (h : tasksP T ys) : tasksM T ys = true := by unfold tasksM; exact decide_eq_true h
theorem tasksM_no {T ys : List Int} (h : ¬ tasksP T ys) : tasksM T ys = false := by unfold tasksM; exact decide_eq_false h
theorem tasksM_get {T ys : List Int} (h : tasksM T ys = true) : tasksP T ys := by unfold tasksM at h; exact of_decide_eq_true h
set_option maxRecDepth 100000 in
set_option maxHeartbeats 2000000 in
theorem validTasks_any (S : Nat → Prop) (a a2 : Option Addr) (len cap len2 cap2 : Nat) (T ys : List Int) (w : World) (ht : IntsAt w S a len T) (hy : IntsAt w S a2 len2 ys) (hl : len2 ≤ 1048576) :
    Calls Try.prog 48 #[.slice a len cap, .slice a2 len2 cap2] w fun e w' => e = .returned (.bool (tasksM T ys)) ∧ Drew w w' := by
  have HT := Lib.hid ht.lenEq
  have HY := Lib.hid hy.lenEq
  have hs := ht.small
  have hs2 := hy.small
  go_enter Try.func48, Try.ntmps48
  go_wp2
  go_loop [5] (fun i => ∃ k : Nat, k ≤ len ∧ i = .int .i64 k ∧ allIn 1 9 (T.take k) = true) (fun i => len - (intOf i).toNat)
  case atStart => exact ⟨0, Nat.zero_le _, rfl, rfl⟩
  case round =>
    obtain ⟨k, hk, rfl, ha⟩ := hrel
    have HA := Lib.hid ha
    clear ha
    by_cases hlt : k < len
    · obtain ⟨b, off, x, rfl, hx, hc⟩ := ht.get hlt
      have HX := Lib.hid hx
      clear hx
      cases hq : inB 1 9 x
      · go_wp2_with (go_at_call 37; refine (inRange_any _ _ _ _).mono ?_; rintro e w' ⟨rfl, rfl⟩)
        go_ret
        exact ⟨ret_bool (tasksM_no fun h => by have h := h.1.1; rw [allIn_false HX.out hq] at h; cases h).symm, Drew.refl _⟩
      · go_wp2_with (go_at_call 37; refine (inRange_any _ _ _ _).mono ?_; rintro e w' ⟨rfl, rfl⟩)
        go_round
        case rel => exact ⟨k + 1, by omega, by go_num, allIn_step HX.out HA.out hq⟩
        case measure => simp [intOf]; omega
    · obtain rfl : len = k := by omega
      have HA2 := Lib.hid (show allIn 1 9 T = true by have := HA.out; rwa [List.take_of_length_le (by rw [HT.out]; omega)] at this)
      go_wp2_with fail
      go_loopw [6] (fun i wr => ∃ k : Nat, k ≤ len2 ∧ i = .int .i64 k ∧ Drew w wr ∧ ∀ i, i < k → i ≤ 6 → 0 ≤ ys.getD i 0 ∧ ys.getD i 0 ≤ ((2 ^ i : Nat) : Int) - 1) (fun i _ => len2 - (intOf i).toNat)
      case atStart => exact ⟨0, Nat.zero_le _, rfl, Drew.refl _, fun i h => absurd h (by omega)⟩
      case round =>
        obtain ⟨k, hk, rfl, hdw, hp⟩ := hrel
        have HP := Lib.hid hp
        clear hp
        by_cases hlt : k < len2
        · have hyw := Drew.ints hy hdw
          obtain ⟨b, off, x, rfl, hx, hc⟩ := hyw.get hlt
          have HX := Lib.hid hx
          have HG := Lib.hid (getD_of hx)
          clear hx hyw
          have hb := powV_bd k
          have HPV := Lib.hid (powV_eq k)
          have HPW := Lib.hid (show ∀ z, Calls Try.prog 34 #[.int .i64 k] (wr.drewN z) (fun e w' => e = .returned (.int .i64 (powV k)) ∧ ∃ q, w' = (wr.drewN z).drewN q) from fun z =>
            (power_all k (by omega) (wr.drewN z)).mono (fun e w' he => ⟨he.1, 0, by rw [← he.2]; rfl⟩))
          have HIR := Lib.hid (show ∀ z, Calls Try.prog 37 #[.int .i64 x, .int .i64 0, .int .i64 (wrap64 (powV k - 1))] (wr.drewN z) (fun e w' => e = .returned (.bool (inB 0 (wrap64 (powV k - 1)) x)) ∧ ∃ q, w' = (wr.drewN z).drewN q) from fun z =>
            (inRange_any _ _ _ (wr.drewN z)).mono (fun e w' he => ⟨he.1, 0, by rw [← he.2]; rfl⟩))
          have HPE := Lib.hid (show k ≤ 20 → wrap64 (powV k - 1) = ((2 ^ k : Nat) : Int) - 1 by
            intro h; have := p2_bd h; rw [powV_eq k h, w64_id (by omega) (by omega)])
          have hw := w64_bd (powV k - 1)
          generalize hpv : powV k = pv at hb HPV HPW HIR HPE hw
          have hlt2 : (k : Int) < (len2 : Int) := by omega
          cases hq : inB 0 (wrap64 (pv - 1)) x
          · rw [hq] at HIR
            go_wp2_with fail
            go_quiet (first | (go_at_call 34; exact Calls.quiet_of (HPW.out _)) | (go_at_call 37; exact Calls.quiet_of (HIR.out _)))
            go_wp2_with fail
            go_ret
            refine ⟨ret_bool (tasksM_no fun h => ?_).symm, hdw.drew _⟩
            have h1 := h.1.2 k (by rw [HY.out]; exact hlt)
            have h2 := h.2; have hY := HY.out
            rw [HPE.out (by omega), HG.out.symm, inB_true h1.1 h1.2] at hq
            cases hq
          · rw [hq] at HIR
            go_wp2_with fail
            go_quiet (first | (go_at_call 34; exact Calls.quiet_of (HPW.out _)) | (go_at_call 37; exact Calls.quiet_of (HIR.out _)))
            go_wp2_with fail
            go_roundw
            case rel => 
              refine ⟨k + 1, by omega, by go_num, hdw.drew _, fun i hi h6 => ?_⟩
              rcases Nat.lt_or_eq_of_le (Nat.le_of_lt_succ hi) with h | rfl
              · exact HP.out i h h6
              · rw [HPE.out (by omega), ← HG.out] at hq
                simpa [inB] using hq
            case measure => simp [intOf]; omega
        · obtain rfl : len2 = k := by omega
          have hdw2 := hdw
          have HF := Lib.hid (show tasksM T ys = ((len2 : Int) == (len : Int) && decide ((len : Int) ≤ 6)) by
            have hT := HT.out; have hY := HY.out
            by_cases h : len2 = len ∧ len ≤ 6
            · rw [tasksM_yes ⟨⟨HA2.out, fun i hi => HP.out i (by omega) (by omega)⟩, by omega, by omega⟩]; simp; omega
            · rw [tasksM_no fun h2 => h ⟨by have := h2.2.1; omega, by have := h2.2.2; omega⟩]; symm; simp; omega)
          by_cases h1 : len2 = len
          · have e1 : ((len2 : Int) == (len : Int)) = true := by simp; omega
            rw [e1, Bool.true_and] at HF
            go_wp2
            go_ret
            exact ⟨ret_bool HF.out.symm, hdw2⟩
          · have e1 : ((len2 : Int) == (len : Int)) = false := by simp; omega
            rw [e1, Bool.false_and] at HF
            go_wp2
            go_ret
            exact ⟨ret_bool HF.out.symm, hdw2⟩
end Go.Proofs.Ythmifadnfaajbab
namespace Go.Proofs.Ythmifadnfaajbab
open Go.RowKit Go.WideShapes

/-- append of one int to a list of the call's own -/
theorem wpApp1 {ops : Array Oper} {rest : List Oper} {o : Oper} {a : Act} {Q : Exit → Act → World → Prop} {wo : World} (hgd : o.guard = none) (s x : Operand)
    (ho : o.op = .call { callee := .builtin .append, args := #[s, x], argTypes := #[22, 22] })
    (base k cp : Nat) (ax : Option Addr) (xs : List Int) (v : Int) (hs : a.eval s = .slice ax k cp)
    (hown : wo.ownsRow base 3 1 (.slice ax k cp) k (xs.map (.int .i64))) (hx : a.eval x = .slice (some ⟨wo.heap.size, 0, none⟩) 1 1)
    (hbase : base ≤ wo.heap.size) (hk : k ≤ 1048576)
    (h : ∀ (a6 : Option Addr) (c6 : Nat) (w' : World), w'.ownsRow base 3 1 (.slice a6 (k + 1) c6) (k + 1) (xs.map (.int .i64) ++ [.int .i64 v]) → k + 1 ≤ c6 → wo.grownBy w' (Value.slice ax k cp).ownBlock →
      wpList Try.prog ops Q rest (a.put o.dst (.slice a6 (k + 1) c6)) w') :
    wpList Try.prog ops Q (o :: rest) a (wo.alloc (.cells #[.int .i64 v] 3)) := by
  obtain ⟨i0, hi, hz0, hz1, hz2⟩ := info_parts Try.infoIntO
  refine wpList_append_own _ hgd s x 22 ho base 3 i0 (.int .i64 0) 1 8 Try.underlying22 hi hz0 hz1 hz2 rfl (by decide) _ k _ hs (hown.alloc _) ⟨wo.heap.size, 0, none⟩ 1 1 [.int .i64 v] hx rfl (one_new _ _ _) (one_cell_int _ _) (by unfold maxLen; omega) (by omega) (by simp; omega) ?_
  intro v' w6 hown6 hgrow _
  obtain ⟨a6, c6, rfl, hc⟩ := own_slice hown6
  exact h a6 c6 w6 hown6 hc (grown_comp (World.grownBy_alloc wo _ _) hgrow)
/-- append of a list to a list of the call's own -/
theorem wpAppN {ops : Array Oper} {rest : List Oper} {o : Oper} {a : Act} {Q : Exit → Act → World → Prop} {wo : World} (hgd : o.guard = none) (s x : Operand)
    (ho : o.op = .call { callee := .builtin .append, args := #[s, x], argTypes := #[22, 22] })
    (base k cp : Nat) (ax : Option Addr) (xs : List Int) (S : Nat → Prop) (b off m c : Nat) (ys : List Int) (hs : a.eval s = .slice ax k cp)
    (hown : wo.ownsRow base 3 1 (.slice ax k cp) k (xs.map (.int .i64))) (hx : a.eval x = .slice (some ⟨b, off, none⟩) m c) (hy : IntsAt wo S (some ⟨b, off, none⟩) m ys)
    (hbase : base ≤ wo.heap.size) (hk : k + m ≤ 1048576)
    (h : ∀ (a6 : Option Addr) (c6 : Nat) (w' : World), w'.ownsRow base 3 1 (.slice a6 (k + m) c6) (k + m) (xs.map (.int .i64) ++ ys.map (.int .i64)) → k + m ≤ c6 → wo.grownBy w' (Value.slice ax k cp).ownBlock →
      wpList Try.prog ops Q rest (a.put o.dst (.slice a6 (k + m) c6)) w') :
    wpList Try.prog ops Q (o :: rest) a wo := by
  obtain ⟨i0, hi, hz0, hz1, hz2⟩ := info_parts Try.infoIntO
  refine wpList_append_own _ hgd s x 22 ho base 3 i0 (.int .i64 0) 1 8 Try.underlying22 hi hz0 hz1 hz2 rfl (by decide) _ k _ hs hown ⟨b, off, none⟩ m c (ys.map (.int .i64)) hx (by simp [hy.lenEq]) ?_ ?_ (by unfold maxLen; omega) (by omega) hbase ?_
  · intro j u hj
    rw [List.getElem?_map] at hj
    cases hq : ys[j]? with
    | none => rw [hq] at hj; cases hj
    | some z =>
      rw [hq] at hj
      simp only [Option.map_some, Option.some.injEq] at hj
      have hlt : j < ys.length := (List.getElem?_eq_some_iff.1 hq).1
      obtain ⟨b', off', e, _, hc⟩ := hy.cells (by have := hy.lenEq; omega)
      cases e
      rw [add_plain, hc _ _ hq, ← hj]
  · intro u hu
    obtain ⟨x, _, rfl⟩ := List.mem_map.1 hu
    rfl
  intro v' w6 hown6 hgrow _
  obtain ⟨a6, c6, rfl, hc⟩ := own_slice hown6
  exact h a6 c6 w6 hown6 hc hgrow
theorem own_block {w : World} {B e s n : Nat} {v : Value} {xs : List Value} (h : w.ownsRow B e s v n xs) : ∀ k, v.ownBlock = some k → B ≤ k := fun k e => (h.lt k e).1
theorem own_snoc {w : World} {B n : Nat} {u : Value} {xs : List Int} {x : Int} (h : w.ownsRow B 3 1 u n (xs.map (.int .i64) ++ [.int .i64 x])) : w.ownsRow B 3 1 u n ((xs ++ [x]).map (.int .i64)) := by
  rw [List.map_append]; exact h
end Go.Proofs.Ythmifadnfaajbab
namespace Go.Proofs.Ythmifadnfaajbab
open Go.RowKit Go.WideShapes

def bI (x j : Nat) : Int := if x.testBit j then 1 else 0
theorem bI_bd (x j : Nat) : 0 ≤ bI x j ∧ bI x j ≤ 1 := by unfold bI; split <;> omega
theorem bit_at (x j : Nat) (hx : x ≤ 1048576) (hj : j ≤ 20) (w : World) :
    Calls Try.prog 35 #[.int .i64 x, .int .i64 j] w fun e w' => e = .returned (.int .i64 (bI x j)) ∧ w = w' := by
  have hb := p2_bd hj
  have HB := Lib.hid (show bI x j = (x : Int) / ((2 ^ j : Nat) : Int) % 2 by
    have := bitN_test x j; unfold bitN at this; unfold bI; rw [show (x : Int) / ((2 ^ j : Nat) : Int) % 2 = ((x / 2 ^ j % 2 : Nat) : Int) by push_cast; rfl, this]; split <;> rfl)
  have HP := Lib.hid (powV_eq j hj)
  go_enter Try.func35, Try.ntmps35
  go_wp2_with fail
  refine (power_all j (by omega) w).mono ?_
  rintro e w' ⟨rfl, rfl⟩
  rw [HP.out]
  generalize 2 ^ j = p at hb HB ⊢
  have h1 : 0 ≤ (x : Int) / (p : Int) := Int.ediv_nonneg (by omega) (by omega)
  have h2 : (x : Int) / (p : Int) ≤ x := Int.ediv_le_self _ (by omega)
  go_wp2
  go_ret
  exact ⟨ret_int HB.out.symm, rfl⟩
theorem csum_range {T : List Int} (hT : ∀ k, 0 ≤ T.getD k 0 ∧ T.getD k 0 ≤ 9) (P : Nat → Bool) : ∀ n : Nat, 0 ≤ csum T P n ∧ csum T P n ≤ 9 * (n : Int)
  | 0 => by simp [csum]
  | n + 1 => by have := csum_range hT P n; have := hT n; rw [csum]; push_cast; split <;> omega
theorem load_any (S : Nat → Prop) (a : Option Addr) (len cap : Nat) (T : List Int) (s : Nat) (w : World) (hx : IntsAt w S a len T) (hT : ∀ k, 0 ≤ T.getD k 0 ∧ T.getD k 0 ≤ 9) (hl : len ≤ 20) (hs : s ≤ 1048576) :
    Calls Try.prog 38 #[.slice a len cap, .int .i64 s] w fun e w' => e = .returned (.int .i64 (csum T (fun i => s.testBit i) len)) ∧ Drew w w' := by
  have HT := Lib.hid hT
  go_enter Try.func38, Try.ntmps38
  go_wp2_with fail
  go_loopw [5, 6] (fun o i wr => ∃ k : Nat, k ≤ len ∧ i = .int .i64 k ∧ o = .int .i64 (csum T (fun i => s.testBit i) k) ∧ Drew w wr) (fun _ i _ => len - (intOf i).toNat)
  case atStart => exact ⟨0, Nat.zero_le _, rfl, rfl, Drew.refl _⟩
  case round =>
    obtain ⟨k, hk, rfl, rfl, hdw⟩ := hrel
    by_cases hlt : k < len
    · have hxw := Drew.ints hx hdw
      obtain ⟨b, off, x, rfl, hxx, hc⟩ := hxw.get hlt
      have hxb := HT.out k
      have hcr := csum_range HT.out (fun i => s.testBit i) k
      rw [getD_of hxx] at hxb
      have HN := Lib.hid (show csum T (fun i => s.testBit i) (k + 1) = csum T (fun i => s.testBit i) k + bI s k * x by
        rw [csum, getD_of hxx]; unfold bI; split <;> simp)
      have HBT := Lib.hid (show ∀ z, Calls Try.prog 35 #[.int .i64 s, .int .i64 k] (wr.drewN z) (fun e w' => e = .returned (.int .i64 (bI s k)) ∧ ∃ q, w' = (wr.drewN z).drewN q) from fun z =>
        (bit_at s k hs (by omega) (wr.drewN z)).mono (fun e w' he => ⟨he.1, 0, by rw [← he.2]; rfl⟩))
      clear hxx hxw
      generalize csum T (fun i => s.testBit i) k = o at hcr HN
      have hbb := bI_bd s k
      generalize bI s k = bb at hbb HN HBT
      have hmb : 0 ≤ bb * x ∧ bb * x ≤ 9 := by
        have h1 := Int.mul_nonneg hbb.1 hxb.1
        have h2 := Int.mul_le_mul hbb.2 hxb.2 hxb.1 (by omega)
        omega
      have hlk : (k : Int) < (len : Int) := by omega
      have hw1 : IntKind.i64.wrap (bb * x) = bb * x := IntWalk.i64_in _ (by omega)
      have hw2 : IntKind.i64.wrap (o + bb * x) = o + bb * x := IntWalk.i64_in _ (by omega)
      go_wp2_with fail
      go_quiet ((go_at_call 35; exact Calls.quiet_of (HBT.out _)))
      go_wp2_with fail
      go_roundw
      case rel => exact ⟨k + 1, by omega, by go_num, by rw [HN.out], hdw.drew _⟩
      case measure => simp [intOf] <;> omega
    · obtain rfl : len = k := by omega
      have hdw2 := hdw
      go_wp2
      go_ret
      exact ⟨rfl, hdw2⟩
def natsOf (ys : List Int) : List Nat := ys.map Int.toNat
theorem natsOf_len (ys : List Int) : (natsOf ys).length = ys.length := by simp [natsOf]
theorem natsOf_get {ys : List Int} {n : Nat} (h : powIn ys n) {i : Nat} (hi : i < n) : (((natsOf ys).getD i 0 : Nat) : Int) = ys.getD i 0 := by
  have := h i hi
  simp only [natsOf, List.getD_eq_getElem?_getD, List.getElem?_map] at this ⊢
  cases hq : ys[i]? with
  | none => simp
  | some z => rw [hq] at this; simp at this ⊢; omega
theorem natsOf_lt {ys : List Int} (h : powIn ys ys.length) (i : Nat) : (natsOf ys).getD i 0 < 2 ^ i := by
  have := Nat.two_pow_pos i
  by_cases hi : i < ys.length
  · have h1 := natsOf_get h hi; have h2 := h i hi; omega
  · simp only [List.getD_eq_getElem?_getD]; rw [List.getElem?_eq_none (by rw [natsOf_len]; omega)]; simpa using this
theorem natsOf_small {ys : List Int} (h : powIn ys ys.length) {i : Nat} (hi : i ≤ 6) : (natsOf ys).getD i 0 ≤ 64 := by
  have := natsOf_lt h i; have := Nat.pow_le_pow_right (n := 2) (by omega) hi; omega
theorem natsOf_hA {ys : List Int} (h : powIn ys ys.length) : ∀ i k, ((natsOf ys).getD i 0).testBit k = true → k < i := by
  intro i k hk
  rcases Nat.lt_or_ge k i with h1 | h1
  · exact h1
  · rw [Nat.testBit_lt_two_pow (Nat.lt_of_lt_of_le (natsOf_lt h i) (Nat.pow_le_pow_right (by omega) h1))] at hk; cases hk
theorem tasks_at {T : List Int} (h : allIn 1 9 T = true) : (∀ k, 0 ≤ T.getD k 0 ∧ T.getD k 0 ≤ 9) ∧ ∀ k, k < T.length → 1 ≤ T.getD k 0 := by
  have key : ∀ k, k < T.length → 1 ≤ T.getD k 0 ∧ T.getD k 0 ≤ 9 := by
    intro k hk
    unfold allIn at h
    rw [List.all_eq_true] at h
    have := h (T.getD k 0) (by rw [List.getD_eq_getElem?_getD, List.getElem?_eq_getElem hk]; simp)
    simpa [inB] using this
  refine ⟨fun k => ?_, fun k hk => (key k hk).1⟩
  by_cases hk : k < T.length
  · have := key k hk; omega
  · rw [List.getD_eq_getElem?_getD, List.getElem?_eq_none (by omega)]; simp
end Go.Proofs.Ythmifadnfaajbab
namespace Go.Proofs.Ythmifadnfaajbab
open Go.RowKit Go.WideShapes

theorem cloM_false {A : List Nat} {s k : Nat} (h : cloM A s (k + 1) = false) : ∀ n, k < n → cloM A s n = false
  | n + 1, hn => by
    rcases Nat.lt_or_eq_of_le (Nat.le_of_lt_succ hn) with h1 | rfl
    · rw [cloM, cloM_false h n h1]; rfl
    · exact h
end Go.Proofs.Ythmifadnfaajbab
namespace Go.Proofs.Ythmifadnfaajbab

theorem scanP_bd {T : List Int} {c : Int} {t : List Int} {s : Nat} {B : Int} (h0 : -1 ≤ B) (hB : ∀ r, r < s → t.getD r 0 + 1 ≤ B) : ∀ R, R ≤ s → -1 ≤ scanP T c t s R ∧ scanP T c t s R ≤ B
  | 0, _ => ⟨Int.le_refl _, h0⟩
  | R + 1, h => by
    have := scanP_bd (T := T) (c := c) h0 hB R (by omega)
    have h1 := hB R (by omega)
    rw [scanP]; split
    · rename_i h2; have := h2.1.2.1; omega
    · exact this
theorem stP_bd {T : List Int} {A : List Nat} {c : Int} : ∀ N s, s ≤ N → -1 ≤ stP T A c s ∧ stP T A c s ≤ s
  | N, 0, _ => by show (-1 : Int) ≤ 0 ∧ (0 : Int) ≤ 0; omega
  | N + 1, s + 1, h => by
    rw [stP_succ]; unfold nxtP; split
    · exact scanP_bd (B := ((s + 1 : Nat) : Int)) (by omega) (fun r hr => by rw [tabP_at (show r ≤ s by omega)]; have := stP_bd (T := T) (A := A) (c := c) N r (by omega); omega) (s + 1) (Nat.le_refl _)
    · omega
theorem tabP_step (T : List Int) (A : List Nat) (c : Int) {k : Nat} (h : 1 ≤ k) : tabP T A c k = tabP T A c (k - 1) ++ [nxtP T A c (tabP T A c (k - 1)) k] := by
  obtain ⟨d, rfl⟩ : ∃ d, k = d + 1 := ⟨k - 1, by omega⟩
  rfl
theorem tab_bd {T : List Int} {A : List Nat} {c : Int} {k r : Nat} (h : r < k) : -1 ≤ (tabP T A c (k - 1)).getD r 0 ∧ (tabP T A c (k - 1)).getD r 0 ≤ r := by
  rw [tabP_at (show r ≤ k - 1 by omega)]; exact stP_bd r r (Nat.le_refl _)
theorem scan_bd {T : List Int} {A : List Nat} {c : Int} {k R : Nat} (h : R ≤ k) : -1 ≤ scanP T c (tabP T A c (k - 1)) k R ∧ scanP T c (tabP T A c (k - 1)) k R ≤ k :=
  scanP_bd (by omega) (fun r hr => by have := tab_bd (T := T) (A := A) (c := c) hr; omega) R h
end Go.Proofs.Ythmifadnfaajbab
namespace Go.Proofs.Ythmifadnfaajbab
open Go.RowKit

set_option maxRecDepth 100000 in
set_option maxHeartbeats 1000000 in
theorem pick_any (R p : Nat) (n : Int) (w : World) (h : Rd w R p) (hp : p ≤ 1099511627776) :
    Calls Try.prog 43 #[.pointer (some ⟨R, 0, none⟩), .int .i64 n] w fun e w' => ∃ k : Nat, e = .returned (.int .i64 k) ∧ (k : Int) < max n 1 ∧ Rd w' R (p + 1) ∧ w.grownBy w' (some R) := by
  have HR := Lib.hid h
  obtain ⟨h1, hf, a, m, cap, h0, hm, hb⟩ := h
  by_cases hn : n < 1
  · go_enter Try.func43, Try.ntmps43
    go_wp2
    go_ret
    exact ⟨0, rfl, by omega, HR.out.stored0⟩
  · by_cases hm0 : m = 0
    · subst hm0
      go_enter Try.func43, Try.ntmps43
      go_wp2
      go_ret
      exact ⟨0, rfl, by omega, HR.out.stored0⟩
    · obtain ⟨b, off, rfl, hbR, hby⟩ := hb (by omega)
      by_cases hlt : p < m
      · obtain ⟨x, hx, hc⟩ := hby p hlt
        have hc' : (w.setCell ⟨R, 1, none⟩ (.int .i64 ((p : Int) + 1))).cell? ⟨b, off + p, none⟩ = some (.int .u8 x) := by
          rw [World.cell?_setCell_other _ _ _ _ (by intro e; injection e; omega)]; exact hc
        clear hby hb
        go_enter Try.func43, Try.ntmps43
        go_wp2
        go_ret
        have e1 : 0 ≤ (x : Int) % n := Int.emod_nonneg _ (by omega)
        have e2 : (x : Int) % n < n := Int.emod_lt_of_pos _ (by omega)
        exact ⟨((x : Int) % n).toNat, ret_int (by omega), by omega, HR.out.stored0⟩
      · have hm1 : 1 ≤ m := by omega
        obtain ⟨x1, hx1, hc1⟩ := hby (p % m) (Nat.mod_lt _ (by omega))
        obtain ⟨x2, hx2, hc2⟩ := hby ((p * 7 + 3) % m) (Nat.mod_lt _ (by omega))
        have hd1 : (w.setCell ⟨R, 1, none⟩ (.int .i64 ((p : Int) + 1))).cell? ⟨b, off + p % m, none⟩ = some (.int .u8 x1) := by
          rw [World.cell?_setCell_other _ _ _ _ (by intro e; injection e; omega)]; exact hc1
        have hd2 : (w.setCell ⟨R, 1, none⟩ (.int .i64 ((p : Int) + 1))).cell? ⟨b, off + (p * 7 + 3) % m, none⟩ = some (.int .u8 x2) := by
          rw [World.cell?_setCell_other _ _ _ _ (by intro e; injection e; omega)]; exact hc2
        clear hc1 hc2 hby hb
        have b1 : p % m < m := Nat.mod_lt _ (by omega)
        have b2 : (p * 7 + 3) % m < m := Nat.mod_lt _ (by omega)
        have g1 : 0 ≤ ((p : Int) * 7 + 3) % (m : Int) := Int.emod_nonneg _ (by omega)
        have g2 : ((p : Int) * 7 + 3) % (m : Int) < (m : Int) := Int.emod_lt_of_pos _ (by omega)
        have g3 : 0 ≤ (p : Int) / (m : Int) := Int.ediv_nonneg (by omega) (by omega)
        have g4 : (p : Int) / (m : Int) ≤ p := Int.ediv_le_self _ (by omega)
        go_enter Try.func43, Try.ntmps43
        go_wp2
        go_quiet (fail)
        go_wp2
        go_ret
        obtain ⟨k, hk, hk'⟩ := mixed ((x1 : Int) * 131 + x2 * 1117 + p * 29 + (p : Int) / (m : Int) * 53) n (by omega) (by omega) hn
        exact ⟨k, ret_int hk, by omega, HR.out.stored _⟩

theorem one_any (S : Nat → Prop) (R p : Nat) (a : Option Addr) (len cap : Nat) (xs : List Int) (w : World) (h : Rd w R p) (hx : IntsAt w S a len xs) (hne : ∀ b, S b → b ≠ R ∧ b < w.heap.size) (hl : 1 ≤ len) (hp : p ≤ 1099511627776) :
    Calls Try.prog 27 #[.pointer (some ⟨R, 0, none⟩), .slice a len cap] w fun e w' => ∃ x, x ∈ xs ∧ e = .returned (.int .i64 x) ∧ Rd w' R (p + 1) ∧ w.grownBy w' (some R) := by
  have hs := hx.small
  go_enter Try.func27, Try.ntmps27
  go_wp2_with fail
  refine (pick_any R p (len : Int) w h hp).mono ?_
  rintro e w' ⟨k, rfl, hk, hr, hg⟩
  obtain ⟨b, off, x, rfl, hx1, hx2⟩ := (hx.to (S' := S) (w' := w') fun b hb => ⟨hb, hg.block b (hne b hb).2 (by have := (hne b hb).1; simpa using this)⟩).get (k := k) (by omega)
  have HX := Lib.hid hx1
  clear hx1
  have hk' : k < len := by omega
  go_wp2
  go_ret
  exact ⟨x, List.mem_of_getElem? HX.out, rfl, hr, hg⟩
end Go.Proofs.Ythmifadnfaajbab
namespace Go.Proofs.Ythmifadnfaajbab
open Go.RowKit Go.WideShapes

theorem rd_new (w : World) (a : Option Addr) (n cap : Nat) (t : TypeId) (hn : n ≤ 2000) (hb : BytesAt w w.heap.size a n) : Rd (w.alloc (.cells #[.slice a n cap, .int .i64 0] t)) w.heap.size 0 := by
  refine ⟨by rw [World.cell?_alloc_new]; rfl, World.frozen?_alloc_new w _ _ _, a, n, cap, by rw [World.cell?_alloc_new]; rfl, hn, fun h0 => ?_⟩
  obtain ⟨b, off, ha, hb', hc⟩ := hb h0
  refine ⟨b, off, ha, hb', fun i hi => ?_⟩
  obtain ⟨x, hx, hx'⟩ := hc i hi
  exact ⟨x, hx, by rw [World.cell?_alloc_lt _ _ _ hb']; exact hx'⟩

def ReaderPost (w : World) (e : Ending) (w' : World) : Prop := e = .returned (.pointer (some ⟨w.heap.size, 0, none⟩)) ∧ Rd w' w.heap.size 0 ∧ Below w.heap.size w w'

theorem newReader_any (a : Option Addr) (len cap : Nat) (w : World) (hb : BytesAt w w.heap.size a len) (hl : len ≤ cap) (hs : len ≤ 9223372036854775807) :
    Calls Try.prog 25 #[.slice a len cap] w (ReaderPost w) := by
  by_cases h : len ≤ 2000
  · go_enter Try.func25, Try.ntmps25
    go_wp2
    go_ret
    exact ⟨rfl, rd_new w a len cap _ h hb, (Below.refl _ _).alloc (Nat.le_refl _) _⟩
  · obtain ⟨b, off, rfl, hb1, hc⟩ := hb (by omega)
    have h2 : BytesAt w w.heap.size (some ⟨b, off, none⟩) 2000 := fun _ => ⟨b, off, rfl, hb1, fun i hi => hc i (by omega)⟩
    clear hc
    go_enter Try.func25, Try.ntmps25
    go_wp2
    go_ret
    exact ⟨rfl, rd_new w _ 2000 cap _ (by omega) h2, (Below.refl _ _).alloc (Nat.le_refl _) _⟩
end Go.Proofs.Ythmifadnfaajbab
namespace Go.Proofs.Ythmifadnfaajbab
open Go.RowKit Go.WideShapes

/-- a list made behind the reader R, ahead of block B -/
def LAt (w : World) (R B : Nat) (a : Option Addr) (l : Nat) (xs : List Int) : Prop := IntsAt w (fun b => R < b ∧ b < B) a l xs ∧ B ≤ w.heap.size
theorem LAt.step {w w' : World} {R B l : Nat} {a : Option Addr} {xs : List Int} (h : LAt w R B a l xs) (hg : w.grownBy w' (some R)) : LAt w' R B a l xs :=
  ⟨h.1.to (fun b hb => ⟨hb, hg.block b (Nat.lt_of_lt_of_le hb.2 h.2) (by intro e; injection e; omega)⟩), Nat.le_trans h.2 hg.size⟩
theorem LAt.stepR {w w' : World} {R B l : Nat} {a : Option Addr} {xs : List Int} {r : Option Nat} (h : LAt w R B a l xs) (hg : w.grownBy w' r) (hr : ∀ k, r = some k → B ≤ k) : LAt w' R B a l xs :=
  ⟨h.1.to (fun b hb => ⟨hb, hg.block b (Nat.lt_of_lt_of_le hb.2 h.2) (by intro e; have := hr b e.symm; omega)⟩), Nat.le_trans h.2 hg.size⟩
theorem LAt.alloc {w : World} {R B l : Nat} {a : Option Addr} {xs : List Int} (h : LAt w R B a l xs) (o : Obj) : LAt (w.alloc o) R B a l xs := h.step (World.grownBy_alloc _ _ _)
theorem LAt.low {w : World} {R B l : Nat} {a : Option Addr} {xs : List Int} (h : LAt w R B a l xs) : IntsAt w (· < w.heap.size) a l xs := h.1.to (fun _ hb => ⟨Nat.lt_of_lt_of_le hb.2 h.2, rfl⟩)
theorem lat_new {w w' : World} {R l : Nat} {a : Option Addr} {xs : List Int} (h : IntsAt w' (fun b => w.heap.size ≤ b ∧ b < w'.heap.size) a l xs) (hR : R < w.heap.size) : LAt w' R w'.heap.size a l xs :=
  ⟨h.to (fun _ hb => ⟨⟨by omega, hb.2⟩, rfl⟩), Nat.le_refl _⟩
theorem lat_own {w w' : World} {R l cp : Nat} {a : Option Addr} {xs : List Int} (h : w'.ownsRow w.heap.size 3 1 (.slice a l cp) l (xs.map (.int .i64))) (hR : R < w.heap.size) (hl : l ≤ 9223372036854775807) : LAt w' R w'.heap.size a l xs := by
  obtain ⟨ay, cy, hve, _, hints⟩ := own_ints h hl
  simp only [Value.slice.injEq] at hve
  obtain ⟨rfl, _, rfl⟩ := hve
  exact lat_new hints hR
theorem own_low {w : World} {B l cp : Nat} {a : Option Addr} {xs : List Int} (h : w.ownsRow B 3 1 (.slice a l cp) l (xs.map (.int .i64))) (hl : l ≤ 9223372036854775807) : IntsAt w (· < w.heap.size) a l xs := by
  obtain ⟨ay, cy, hve, _, hints⟩ := own_ints h hl
  simp only [Value.slice.injEq] at hve
  obtain ⟨rfl, _, rfl⟩ := hve
  exact hints.to (fun _ hb => ⟨hb.2, rfl⟩)
theorem grown_of_below {w w' : World} (h : Below w.heap.size w w') (r : Option Nat) : w.grownBy w' r := ⟨h.os, h.tape, h.output, h.size, fun b hb _ => h.block b hb⟩
theorem Rd.step {w w' : World} {R p : Nat} (h : Rd w R p) (hb : Below w.heap.size w w') : Rd w' R p :=
  h.grown (r := none) (grown_of_below hb none) (fun k e => by cases e)
theorem own_step {w w' : World} {B R l : Nat} {v : Value} {xs : List Value} (h : w.ownsRow B 3 1 v l xs) (hg : w.grownBy w' (some R)) (hR : R < B) : w'.ownsRow B 3 1 v l xs := h.kept hg (ne_low h hR)
end Go.Proofs.Ythmifadnfaajbab
namespace Go.Proofs.Ythmifadnfaajbab
open Go.RowKit Go.WideShapes

theorem own_lit (w : World) (xs : List Int) (len : Nat) (hl : xs.length = len) (hs : len ≤ 1048576) : (w.alloc (.cells (cellsOf xs) 3)).ownsRow w.heap.size 3 1 (.slice (some ⟨w.heap.size, 0, none⟩) len len) len (xs.map (.int .i64)) :=
  ⟨by simp [hl], .inr ⟨w.heap.size, len, cellsOf xs, rfl, Nat.le_refl _, heap_alloc_new w _, Nat.le_refl _, by unfold maxLen; omega, by simp [cellsOf, hl], by simp [cellsOf]; exact List.take_of_length_le (by simp [hl])⟩⟩
theorem drew_two {a b c : World} (h1 : Drew a b) (h2 : Drew b c) : Drew a c := by obtain ⟨q, rfl⟩ := h2; exact h1.drew q
end Go.Proofs.Ythmifadnfaajbab
