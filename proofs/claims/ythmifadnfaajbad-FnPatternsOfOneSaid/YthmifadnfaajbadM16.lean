import Derived.Test.YthmifadnfaajbadRows
import Derived.WalkKit
import Derived.LoopTactic
import Derived.Outline
import Derived.WalkSpells
import Derived.WalkLawsBesides
import Derived.ProofKit
import Derived.Lib.Hide
import Derived.IntWalk
import Derived.Test.YthmifadnfaajbadM0
import Derived.Test.YthmifadnfaajbadM1
import Derived.Test.YthmifadnfaajbadM8
import Derived.Test.YthmifadnfaajbadM10
import Derived.Test.YthmifadnfaajbadM15
import Derived.Test.YthmifadnfaajbadM11
import Derived.Test.YthmifadnfaajbadM13
import Derived.Test.YthmifadnfaajbadM4
import Derived.Deep.RegionLaw
import Derived.Deep.AppendLies
namespace Go.Proofs.Ythmifadnfaajbad
open Go.RowKit Go.WideShapes

-- chapter 11's code: PatternsOf
set_option maxRecDepth 100000 in
theorem index11_any (S : Nat → Prop) (a : Option Addr) (len cap : Nat) (xs : List Int) (x : Int) (w : World) (h : IntsAt w S a len xs) (hl : len ≤ 1048576) :
    Calls Try.prog 28 #[.slice a len cap, .int .i64 x] w fun e w' => ∃ z : Int, e = .returned (.int .i64 z) ∧ (0 ≤ z ↔ x ∈ xs) ∧ -1 ≤ z ∧ z ≤ 1048576 ∧ w' = w := by
  have HL := Lib.hid h.lenEq
  go_enter Try.func28, Try.ntmps28
  go_wp2_with fail
  go_loop [8] (fun s => ∃ k : Nat, k ≤ len ∧ s = .int .i64 k ∧ ∀ j, j < k → xs.getD j 0 ≠ x) (fun s => len - (intOf s).toNat)
  case atStart => exact ⟨0, Nat.zero_le _, rfl, fun j hj => by omega⟩
  case round =>
    obtain ⟨k, hk, rfl, hne⟩ := hrel
    have HNE := Lib.hid hne
    clear hne
    by_cases hlt : k < len
    · have hkI : (k : Int) < (len : Int) := by omega
      obtain ⟨b, off, y, rfl, hy, hc⟩ := h.get hlt
      have HY := Lib.hid hy
      clear hy
      by_cases hyx : y = x
      · subst hyx
        have hb : (y == y) = true := by simp
        have HM := Lib.hid (List.mem_of_getElem? HY.out)
        go_wp2_with fail
        go_ret
        exact ⟨(k : Int), rfl, ⟨fun _ => HM.out, fun _ => by omega⟩, by omega, by omega, rfl⟩
      · have hb : (x == y) = false := beq_false_of_ne (fun e => hyx e.symm)
        have HS := Lib.hid (show ∀ j, j < k + 1 → xs.getD j 0 ≠ x from fun j hj => by
          by_cases e : j = k
          · rw [e, getD_of HY.out]; exact hyx
          · exact HNE.out j (by omega))
        go_wp2_with fail
        go_round
        case rel => exact ⟨k + 1, by omega, by go_num, HS.out⟩
        case measure => simp [intOf]; omega
    · obtain rfl : k = len := by omega
      have hkI : ¬ (k : Int) < (k : Int) := by omega
      have HN := Lib.hid (show x ∉ xs from fun hm => by
        obtain ⟨j, hj⟩ := List.mem_iff_getElem?.1 hm
        have hlt := (List.getElem?_eq_some_iff.1 hj).1
        exact HNE.out j (by rw [HL.out] at hlt; exact hlt) (getD_of hj))
      go_wp2_with fail
      go_ret
      exact ⟨-1, rfl, ⟨fun h => by omega, fun h => absurd h HN.out⟩, by omega, by omega, rfl⟩
theorem contains11_any (S : Nat → Prop) (a : Option Addr) (len cap : Nat) (xs : List Int) (x : Int) (w : World) (h : IntsAt w S a len xs) (hl : len ≤ 1048576) {z : Bool} (hz : decide (x ∈ xs) = z) :
    Calls Try.prog 21 #[.slice a len cap, .int .i64 x] w fun e w' => e = .returned (.bool z) ∧ w' = w := by
  have HZ := Lib.hid hz
  have HI := Lib.hid (index11_any S a len cap xs x w h hl)
  clear hz h
  go_enter Try.func21, Try.ntmps21
  go_wp2_with fail
  refine HI.out.mono ?_
  rintro e w' ⟨q, rfl, hq, h1, h2, rfl⟩
  have HQ := Lib.hid (show decide (0 ≤ q) = z by rw [← HZ.out, decide_eq_decide]; exact hq)
  clear hq
  go_wp2_with fail
  go_ret
  exact ⟨ret_bool (by rw [← HQ.out]), rfl⟩
/-- the least one of a list -/
def leastI (xs : List Int) : Nat → Int
  | 0 => xs.getD 0 0
  | k + 1 => min (leastI xs k) (xs.getD (k + 1) 0)
theorem leastI_lt (xs : List Int) (L : Int) : ∀ k, L < leastI xs k ↔ ∀ j, j ≤ k → L < xs.getD j 0
  | 0 => ⟨fun h j hj => by rw [Nat.le_zero.1 hj]; exact h, fun h => h 0 (Nat.le_refl _)⟩
  | k + 1 => by
    rw [leastI]
    have ih := leastI_lt xs L k
    constructor
    · intro h j hj
      by_cases e : j = k + 1
      · rw [e]; omega
      · exact ih.1 (by omega) j (by omega)
    · intro h
      have a := ih.2 (fun j hj => h j (by omega))
      have b := h (k + 1) (Nat.le_refl _)
      omega
set_option maxRecDepth 100000 in
theorem min11_any (S : Nat → Prop) (a : Option Addr) (len cap : Nat) (xs : List Int) (w : World) (h : IntsAt w S a len xs) (h0 : 0 < len) (hl : len ≤ 1048576) {z : Int} (hz : leastI xs (len - 1) = z) :
    Calls Try.prog 22 #[.slice a len cap] w fun e w' => e = .returned (.int .i64 z) ∧ w' = w := by
  have HL := Lib.hid h.lenEq
  have HZ := Lib.hid hz
  obtain ⟨b, off, x0, rfl, hx0, hc0⟩ := h.get h0
  have h0I : ¬ (len : Int) < 1 := by omega
  have h0J : (0 : Int) < (len : Int) := by omega
  have H0 := Lib.hid (show leastI xs 0 = x0 from getD_of hx0)
  have c0 : w.cell? ⟨b, off, none⟩ = some (.int .i64 x0) := hc0
  clear hz hx0 hc0
  go_enter Try.func22, Try.ntmps22
  go_wp2_with fail
  clear c0
  go_loop [3, 4] (fun m s => ∃ k : Nat, k < len ∧ s = .int .i64 ((k + 1 : Nat) : Int) ∧ m = .int .i64 (leastI xs k)) (fun _ s => len - (intOf s).toNat)
  case atStart => exact ⟨0, h0, rfl, by rw [H0.out]⟩
  case round =>
    obtain ⟨k, hk, rfl, rfl⟩ := hrel
    by_cases hlt : k + 1 < len
    · have hkI : ((k + 1 : Nat) : Int) < (len : Int) := by omega
      have hkJ : (k : Int) + 1 < (len : Int) := by omega
      obtain ⟨b', off', y, e, hy, hc⟩ := h.get hlt
      injection e with e; injection e with e1 e2
      subst e1 e2
      have HS := Lib.hid (show leastI xs (k + 1) = min (leastI xs k) y by rw [leastI, getD_of hy])
      obtain ⟨m, hm⟩ : ∃ m, leastI xs k = m := ⟨_, rfl⟩
      rw [hm] at HS ⊢
      have hkk : ((k + 1 : Nat) : Int) = (k : Int) + 1 := by omega
      clear hy hm
      by_cases hym : y < m
      · have HM := Lib.hid (show leastI xs (k + 1) = y by rw [HS.out]; omega)
        go_wp2_with fail
        go_round
        case rel => exact ⟨k + 1, by omega, by go_num, by rw [HM.out]⟩
        case measure => simp [intOf]; omega
      · have HM := Lib.hid (show leastI xs (k + 1) = m by rw [HS.out]; omega)
        go_wp2_with fail
        go_round
        case rel => exact ⟨k + 1, by omega, by go_num, by rw [HM.out]⟩
        case measure => simp [intOf]; omega
    · have hkI : ¬ ((k + 1 : Nat) : Int) < (len : Int) := by omega
      have hkJ : ¬ (k : Int) + 1 < (len : Int) := by omega
      have HE := Lib.hid (show leastI xs k = z by rw [← HZ.out, show len - 1 = k by omega])
      rw [HE.out]
      go_wp2_with fail
      go_ret
      exact ⟨rfl, rfl⟩
set_option maxRecDepth 100000 in
set_option maxHeartbeats 2000000 in
theorem areSizes_any (S : Nat → Prop) (a : Option Addr) (len cap : Nat) (ss : List Int) (R : Int) (w : World) (h : IntsAt w S a len ss) (hcap : len ≤ cap) :
    Calls Try.prog 13 #[.slice a len cap, .int .i64 R] w fun e w' => e = .returned (.bool (sizesM ss R)) ∧ w' = w := by
  have HL := Lib.hid h.lenEq
  have hs := h.small
  cases hv : cutsM ss R
  · have HF := Lib.hid (show sizesM ss R = false by unfold sizesM; rw [hv]; rfl)
    have HVJ := Lib.hid (vcutsI (cap := cap) hv w h)
    clear h
    go_enter Try.func13, Try.ntmps13
    go_wp2_with (first | (go_at_call 18; refine HVJ.out.mono ?_; rintro e w' ⟨rfl, rfl⟩) | fail)
    go_ret
    exact ⟨ret_bool HF.out.symm, rfl⟩
  · have HVJ := Lib.hid (vcutsI (cap := cap) hv w h)
    cases h3 : inB 1 3 (len : Int)
    · have HF := Lib.hid (show sizesM ss R = false by
        unfold sizesM
        rw [decide_eq_false (p := 1 ≤ ss.length ∧ ss.length ≤ 3) (by rw [HL.out]; simp [inB] at h3; omega)]; simp)
      clear h
      go_enter Try.func13, Try.ntmps13
      go_wp2_with (first | (go_at_call 18; refine HVJ.out.mono ?_; rintro e w' ⟨rfl, rfl⟩) | (go_at_call 20; refine (fromOne11 _ _ _ h3).mono ?_; rintro e w' ⟨rfl, rfl⟩) | fail)
      go_ret
      exact ⟨ret_bool HF.out.symm, rfl⟩
    · have h13 : 1 ≤ len ∧ len ≤ 3 := by simp [inB] at h3; omega
      have HT := Lib.hid (fun (hd : (ss.take len).Nodup) => show sizesM ss R = true by
        rw [List.take_of_length_le (by rw [HL.out]; exact Nat.le_refl _)] at hd
        unfold sizesM
        rw [hv, decide_eq_true hd, decide_eq_true (p := 1 ≤ ss.length ∧ ss.length ≤ 3) (by rw [HL.out]; exact h13)]; rfl)
      have HF := Lib.hid (fun (hd : ¬ ss.Nodup) => show sizesM ss R = false by unfold sizesM; rw [decide_eq_false hd]; simp)
      go_enter Try.func13, Try.ntmps13
      go_wp2_with (first | (go_at_call 18; refine HVJ.out.mono ?_; rintro e w' ⟨rfl, rfl⟩) | (go_at_call 20; refine (fromOne11 _ _ _ h3).mono ?_; rintro e w' ⟨rfl, rfl⟩) | fail)
      clear hv h3 HVJ
      go_loop [19] (fun s => ∃ i : Nat, i ≤ len ∧ s = .int .i64 i ∧ (ss.take i).Nodup) (fun s => len - (intOf s).toNat)
      case atStart => exact ⟨0, Nat.zero_le _, rfl, by simp⟩
      case round =>
        obtain ⟨i, hi, rfl, hnd⟩ := hrel
        have HND := Lib.hid hnd
        clear hnd
        by_cases hlt : i < len
        · have hiI : (i : Int) < (len : Int) := by omega
          obtain ⟨b, off, x, rfl, hx, hc⟩ := h.get hlt
          have HX := Lib.hid hx
          have hic : (i : Int) ≤ (cap : Int) := by omega
          have hi0 : (0 : Int) ≤ (i : Int) := by omega
          have htk : IntsAt w' S (some ⟨b, off, none⟩) i (ss.take i) := by
            obtain ⟨b', off', e, hb, hc⟩ := h.cells (by omega)
            injection e with e; injection e with e1 e2
            subst e1 e2
            exact ⟨by rw [List.length_take, HL.out]; omega, by omega, fun _ => ⟨b, off, rfl, hb, fun q y hy => by
              have hq := (List.getElem?_eq_some_iff.1 hy).1
              rw [List.length_take] at hq
              rw [List.getElem?_take, if_pos (by omega)] at hy
              exact hc q y hy⟩⟩
          have HTK := Lib.hid htk
          clear hx htk
          cases hm : decide (x ∈ ss.take i)
          · have HCO := Lib.hid (contains11_any S (some ⟨b, off, none⟩) i cap (ss.take i) x w' HTK.out (by omega) hm)
            have HN2 := Lib.hid (nodup_take HND.out HX.out (fun j hj e => by
              have := of_decide_eq_false hm
              refine this (List.mem_iff_getElem?.2 ⟨j, ?_⟩)
              rw [List.getElem?_take, if_pos hj]
              have hjl : j < ss.length := by rw [HL.out]; omega
              rw [List.getD_eq_getElem?_getD, List.getElem?_eq_getElem hjl] at e
              rw [List.getElem?_eq_getElem hjl, ← e]; rfl))
            clear hm
            go_wp2_with (first | (go_at_call 21; refine HCO.out.mono ?_; rintro e w2 ⟨rfl, rfl⟩) | fail)
            go_round
            case rel => exact ⟨i + 1, by omega, by go_num, HN2.out⟩
            case measure => simp [intOf]; omega
          · have HCO := Lib.hid (contains11_any S (some ⟨b, off, none⟩) i cap (ss.take i) x w' HTK.out (by omega) hm)
            have HN2 := Lib.hid (show sizesM ss R = false from HF.out (by
              obtain ⟨j, hj⟩ := List.mem_iff_getElem?.1 (of_decide_eq_true hm)
              have hq := (List.getElem?_eq_some_iff.1 hj).1
              rw [List.length_take] at hq
              rw [List.getElem?_take, if_pos (by omega)] at hj
              exact dup_not (by omega) hj HX.out))
            clear hm
            go_wp2_with (first | (go_at_call 21; refine HCO.out.mono ?_; rintro e w2 ⟨rfl, rfl⟩) | fail)
            go_ret
            exact ⟨ret_bool HN2.out.symm, rfl⟩
        · obtain rfl : i = len := by omega
          have hiI : ¬ (i : Int) < (i : Int) := by omega
          have HTT := Lib.hid (HT.out HND.out)
          go_wp2_with fail
          go_ret
          exact ⟨ret_bool HTT.out.symm, rfl⟩
end Go.Proofs.Ythmifadnfaajbad
namespace Go.Proofs.Ythmifadnfaajbad
open Go.RowKit Go.WideShapes

/-- the patterns that begin with a row: new memory; the row is as it was, but for what lies behind it -/
structure PatC (w w' : World) (B : Nat) (ax : Option Addr) (i cp : Nat) (row : List Int) (v : Value) (rows : List (List Int)) : Prop where
  out : Pats w' w.heap.size v rows
  grown : w.grownBy w' (Value.slice ax i cp).ownBlock
  row : w'.ownsRow B 3 1 (.slice ax i cp) i (row.map (.int .i64))
theorem blk_lt {w : World} {B i cp : Nat} {ax : Option Addr} {row : List Int} (h : w.ownsRow B 3 1 (.slice ax i cp) i (row.map (.int .i64))) : ∀ q, (Value.slice ax i cp).ownBlock = some q → q < w.heap.size := fun q hq => (h.lt q hq).2
set_option maxRecDepth 100000 in
set_option maxHeartbeats 4000000 in
theorem patFrom_impl {B : Nat} {ss : List Int} {m : Int} {a : Option Addr} {len cap : Nat} (hlen : ss.length = len) (h13 : 1 ≤ len ∧ len ≤ 3) (hm : leastI ss (len - 1) = m) (hs : ∀ s ∈ ss, 1 ≤ s ∧ s ≤ 20) :
    ∀ (d : Nat) (row : List Int) (left : Int) (w : World) (ax : Option Addr) (i cp : Nat), row.length = i → i + d = len → w.ownsRow B 3 1 (.slice ax i cp) i (row.map (.int .i64)) → B ≤ w.heap.size → IntsAt w (· < B) a len ss → 0 ≤ left → left ≤ 20 →
    Calls Try.prog 14 #[.slice ax i cp, .slice a len cap, .int .i64 left] w fun e w' => ∃ v, e = .returned v ∧ PatC w w' B ax i cp row v (codeP ss m d row left) := by
  intro d
  induction d with
  | zero =>
    intro row left w ax i cp hri hid hown hB hx hl0 hl20
    obtain rfl : i = len := by omega
    obtain ⟨g, cap0, e, hgB, hgl⟩ := hown.form (by omega)
    injection e with e1 _ e3
    subst e1 e3
    have hlow : IntsAt w (fun b => B ≤ b ∧ b < w.heap.size) (some ⟨g, 0, none⟩) i row := by
      obtain ⟨a', c', e, _, h⟩ := own_intsP hown
      injection e with e1 _ _
      subst e1
      exact h
    have HMN := Lib.hid (min11_any _ a i cap ss w hx (by omega) (by omega) hm)
    have HOWN := Lib.hid hown
    have hee : ((i : Int) == (i : Int)) = true := by simp
    by_cases hml : m ≤ left
    · have HC := Lib.hid (show codeP ss m 0 row left = [] by rw [codeP, if_pos hml])
      rw [HC.out]
      have hge : left ≥ m := hml
      clear hlow hx hown hm
      go_enter Try.func14, Try.ntmps14
      go_wp2_with (first | (go_at_call 22; refine HMN.out.mono ?_; rintro e w' ⟨rfl, rfl⟩) | fail)
      go_ret
      exact ⟨_, rfl, Pats.nil _ _, grown_refl _ _, HOWN.out⟩
    · have HC := Lib.hid (show codeP ss m 0 row left = [row] by rw [codeP, if_neg hml])
      rw [HC.out]
      have hge : ¬ left ≥ m := hml
      have HCL := Lib.hid (clone_any _ g 0 i cp row w hlow (fun b hb => hb.2) (by omega))
      clear hlow hx hown hm
      go_enter Try.func14, Try.ntmps14
      go_wp2_with (first | (go_at_call 22; refine HMN.out.mono ?_; rintro e w' ⟨rfl, rfl⟩) | fail)
      refine HCL.out.mono ?_
      rintro e w2 ⟨a2, l2, c2, rfl, hlc, hown2, hb2⟩
      have hl2 : row.length = l2 := by simpa using hown2.1
      obtain ⟨g2, c3, e, _, _⟩ := hown2.form (by omega)
      injection e with e1 _ e3
      subst e1 e3 hl2
      have HP := Lib.hid (Pats.one (w := w2) hb2.size hown2 (by omega))
      have HB2 := Lib.hid (hb2.alloc hb2.size (.cells #[.slice (some ⟨g2, 0, none⟩) row.length c2] 23))
      rw [hri] at HP HB2
      rw [hri]
      clear hown2 hb2
      go_wp2_with fail
      go_ret
      have hb := HB2.out
      exact ⟨_, rfl, HP.out, ⟨hb.os, hb.tape, hb.output, hb.size, fun q hq _ => hb.block q hq⟩, own_keep HOWN.out (fun q _ _ hq => hb.block q hq)⟩
  | succ d ih =>
    intro row left w ax i cp hri hid hown hB hx hl0 hl20
    have hil : i < len := by omega
    obtain ⟨b, off, s, rfl, hsx, hcs⟩ := hx.get hil
    have hbs : b < B := hx.mem (by omega)
    have hs1 := hs s (List.mem_of_getElem? hsx)
    have HIH := Lib.hid ih
    have hq0 : 0 ≤ left / s := Int.ediv_nonneg hl0 (by omega)
    have hqs : left / s * s ≤ left := Int.ediv_mul_le left (by omega)
    obtain ⟨N, hN⟩ : ∃ N, (left / s).toNat = N := ⟨_, rfl⟩
    have hNe : left / s = (N : Int) := by omega
    rw [hNe] at hqs
    have hNt : left.tdiv s = (N : Int) := by rw [Int.tdiv_eq_ediv_of_nonneg hl0]; exact hNe
    have hs0 : ¬ s = 0 := by omega
    have HN := Lib.hid (fun n : Nat => fun (hn : n ≤ N) => show 0 ≤ (n : Int) * s ∧ (n : Int) * s ≤ left from ⟨Int.mul_nonneg (by omega) (by omega), Int.le_trans (Int.mul_le_mul_of_nonneg_right (by omega) (by omega)) hqs⟩)
    have hN20 : N ≤ 20 := by
      have := Int.mul_le_mul_of_nonneg_left hs1.1 (show (0 : Int) ≤ (N : Int) by omega)
      omega
    have hgs : ss.getD row.length 0 = s := by rw [hri]; exact getD_of hsx
    have HF := Lib.hid (show codeP ss m (d + 1) row left = catD (fun n => codeP ss m d (row ++ [(n : Int)]) (left - n * s)) N (N + 1) by rw [codeP, hgs, hN])
    have HLN := Lib.hid (fun (d' : Nat) (row' : List Int) (left' : Int) (h1 : row'.length + d' = ss.length) (h2 : left' ≤ 20) (h3 : d' ≤ 2) => show (codeP ss m d' row' left').length ≤ 441 by
      rw [codeP_is ss m d' row' left' h1, List.length_map]
      refine Nat.le_trans (List.length_filter_le _ _) (Nat.le_trans (patS_len _ _ h2 (fun s' h' => (hs s' (List.mem_of_mem_drop h')).1)) ?_)
      have b : 21 ^ (ss.drop row'.length).length ≤ 21 ^ 2 := Nat.pow_le_pow_right (by omega) (by rw [List.length_drop]; omega)
      have d : (21 : Nat) ^ 2 = 441 := by decide
      omega)
    have HCL := Lib.hid (fun k (hk : k ≤ N + 1) => show (catD (fun n => codeP ss m d (row ++ [(n : Int)]) (left - n * s)) N k).length ≤ 441 * 21 by
      refine Nat.le_trans (catD_len (m := 441) (fun n => ?_) k) (Nat.mul_le_mul_left _ (by omega))
      exact HLN.out _ _ _ (by rw [List.length_append, List.length_singleton]; omega) (by have := Int.mul_nonneg (show (0 : Int) ≤ (n : Int) by omega) (show 0 ≤ s by omega); omega) (by omega))
    have HST := Lib.hid (fun k => show catD (fun n => codeP ss m d (row ++ [(n : Int)]) (left - n * s)) N (k + 1) = catD (fun n => codeP ss m d (row ++ [(n : Int)]) (left - n * s)) N k ++ codeP ss m d (row ++ [((N - k : Nat) : Int)]) (left - (N - k : Nat) * s) from rfl)
    have HZ := Lib.hid (show catD (fun n => codeP ss m d (row ++ [(n : Int)]) (left - n * s)) N 0 = [] from rfl)
    generalize catD (fun n => codeP ss m d (row ++ [(n : Int)]) (left - n * s)) N = cat at HF HCL HST HZ
    rw [HF.out]
    have hne : ((i : Int) == (len : Int)) = false := beq_false_of_ne (by omega)
    have hiI : (i : Int) < (len : Int) := by omega
    have HOWN := Lib.hid hown
    have HX := Lib.hid hx
    have HRI := Lib.hid hri
    have hbl := blk_lt hown
    have HBL := Lib.hid hbl
    have HLE := Lib.hid hlen
    have HSS := Lib.hid hs
    clear hown hx hri hbl hlen hs hsx hm hqs hq0 hNe hgs ih
    go_enter Try.func14, Try.ntmps14
    go_wp2_with fail
    clear hcs
    go_loopw [8, 9] (fun s8 s9 wr => ∃ k : Nat, k ≤ N + 1 ∧ s9 = .int .i64 ((N : Int) - k) ∧ ∃ (m0 cp0 : Nat) (ax0 : Option Addr), s8 = .slice ax0 m0 cp0 ∧ PatC w wr B ax i cp row (.slice ax0 m0 cp0) (cat k)) (fun _ s9 _ => (intOf s9 + 1).toNat)
    case atStart => exact ⟨0, Nat.zero_le _, by simp, 0, 0, none, rfl, by rw [HZ.out]; exact ⟨Pats.nil _ _, grown_refl _ _, HOWN.out⟩⟩
    case round =>
      obtain ⟨k, hk, rfl, m0, cp0, ax0, rfl, hp⟩ := hrel
      obtain ⟨wo, rfl⟩ : ∃ wo : World, wo = wr := ⟨_, rfl⟩
      have HP := Lib.hid hp
      by_cases hlt : k < N + 1
      · obtain ⟨n, hn⟩ : ∃ n, N - k = n := ⟨_, rfl⟩
        have hnI : (N : Int) - k = (n : Int) := by omega
        rw [hnI]
        obtain ⟨hp0, hp1⟩ := HN.out n (by omega)
        have HSK := Lib.hid (HST.out k)
        rw [hn] at HSK
        have hlk := HCL.out k (by omega)
        obtain ⟨rk, hrk⟩ : ∃ r, cat k = r := ⟨_, rfl⟩
        rw [hrk] at HP HSK hlk
        obtain ⟨pr, hpr⟩ : ∃ pr, (n : Int) * s = pr := ⟨_, rfl⟩
        rw [hpr] at hp0 hp1 HSK
        have hw1 : IntKind.i64.wrap ((n : Int) * s) = pr := by rw [hpr]; exact IntWalk.i64_in _ (by omega)
        have hw2 : IntKind.i64.wrap (left - pr) = left - pr := IntWalk.i64_in _ (by omega)
        have hw3 : IntKind.i64.wrap ((n : Int) - 1) = (n : Int) - 1 := IntWalk.i64_in _ (by omega)
        have hnn : (0 : Int) ≤ (n : Int) := by omega
        have hsz := hp.grown.size
        have HSZ := Lib.hid hsz
        have HNI := Lib.hid hnI
        have HXO := Lib.hid (fun (W : World) (hW : ∀ q, q < B → W.heap[q]? = w.heap[q]?) => HX.out.to (w' := W) (S' := (· < B)) (fun q hq => ⟨hq, hW q hq⟩))
        have hll := HLN.out d (row ++ [(n : Int)]) (left - pr) (by have := HLE.out; have := HRI.out; rw [List.length_append, List.length_singleton]; omega) (by omega) (by omega)
        obtain ⟨rl, hrl⟩ : ∃ r, codeP ss m d (row ++ [(n : Int)]) (left - pr) = r := ⟨_, rfl⟩
        have HRL := Lib.hid hrl
        rw [hrl] at hll HSK
        have hbW : ∀ q, q < B → wo.heap[q]? = w.heap[q]? := fun q hq => hp.grown.block q (by omega) (fun e => by have := (HOWN.out.lt q e.symm).1; omega)
        have HBW := Lib.hid hbW
        have hBo : B ≤ wo.heap.size := by omega
        clear hp hrk hpr hnI hn hrl hbW
        go_wp2_with (at_builtin; refine wpKeep1 rfl _ _ rfl B i cp ax row (n : Int) rfl HP.out.row rfl hBo (by omega) ?_)
        intro a6 c6 w6 hown6 hat6 hg6 hrow6
        have hs6 := hg6.size
        have hne6 : ∀ q, q < wo.heap.size → (Value.slice a6 (i + 1) c6).ownBlock = some q → (Value.slice ax i cp).ownBlock = some q := fun q hq e => by
          rcases hat6 with ⟨h1, h2⟩ | ⟨g, h1, h2⟩
          · subst h1 h2
            cases a6 with
            | none => cases e
            | some ad => exact e
          · subst h1
            simp only [Value.ownBlock, Option.some.injEq] at e
            omega
        have HC6 := Lib.hid (HIH.out (row ++ [(n : Int)]) (left - pr) w6 a6 (i + 1) c6 (by rw [List.length_append, List.length_singleton, HRI.out]) (by omega) (by rw [List.map_append]; exact hown6) (by omega)
          (HXO.out w6 (fun q hq => (hg6.block q (by omega) (fun e => by have := (HOWN.out.lt q e.symm).1; omega)).trans (HBW.out q hq))) (by omega) (by omega))
        rw [HRL.out] at HC6
        have HG6 := Lib.hid hg6
        have HRW6 := Lib.hid hrow6
        have HAT6 := Lib.hid hat6
        have HNE6 := Lib.hid hne6
        clear hown6 hg6 hrow6 hat6 hne6
        go_wp2_with fail
        refine HC6.out.mono ?_
        rintro e w7 ⟨vR, rfl, hpc⟩
        obtain ⟨aR, cR, rfl, _⟩ := hpc.out.slice
        have hs7 := hpc.grown.size
        have HFR := Lib.hid (show ∀ q, w.heap.size ≤ q → q < wo.heap.size → w7.heap[q]? = wo.heap[q]? from fun q h1 h2 => by
          rw [hpc.grown.block q (by omega) (fun e => by have := HBL.out q (HNE6.out q h2 e.symm); omega), HG6.out.block q h2 (fun e => by have := HBL.out q e.symm; omega)])
        have HPC := Lib.hid hpc
        clear hpc
        go_wp2_with (at_builtin; refine wpPats (w0 := wo) rfl _ _ rfl w.heap.size w6.heap.size (.slice ax0 m0 cp0) _ rk rl rfl rfl HP.out.out HFR.out (by omega) HPC.out.out (by omega) (by omega) (by omega) (by omega) ?_)
        intro v' w' hp' hg' hat'
        obtain ⟨a', c', rfl, _⟩ := hp'.slice
        have hnew : PatC w w' B ax i cp row (.slice a' (rk ++ rl).length c') (rk ++ rl) := by
          have hg6 := HG6.out
          have hpc := HPC.out
          have hpo := HP.out.out.own
          have hgr := HP.out.grown
          have hs8 := hg'.size
          refine ⟨hp', ⟨hg'.os.trans (hpc.grown.os.trans (hg6.os.trans hgr.os)), hg'.tape.trans (hpc.grown.tape.trans (hg6.tape.trans hgr.tape)), hg'.output.trans (hpc.grown.output.trans (hg6.output.trans hgr.output)), by omega, fun q hq hne => ?_⟩, ?_⟩
          · rw [hg'.block q (by omega) (fun e => by have := (hpo q e.symm).1; omega), hpc.grown.block q (by omega) (fun e => hne (HNE6.out q (by omega) e.symm).symm), hg6.block q (by omega) hne]
            exact hgr.block q hq hne
          · have h7 : w7.ownsRow B 3 1 (.slice ax i cp) i (row.map (.int .i64)) := by
              rcases HAT6.out with ⟨h1, h2⟩ | ⟨g, h1, h2⟩
              · have hr := hpc.row
                rw [h1, h2] at hr
                have := own_cut hr (k := i) (by omega)
                rwa [Nat.mul_one, List.map_append, List.take_append_of_le_length (by rw [List.length_map, HRI.out]; exact Nat.le_refl _), List.take_of_length_le (by rw [List.length_map, HRI.out]; exact Nat.le_refl _)] at this
              · refine own_keep HRW6.out (fun q hq _ hlt => hpc.grown.block q hlt (fun e => ?_))
                rw [h1] at e
                simp only [Value.ownBlock, Option.some.injEq] at e
                have := HBL.out q hq
                omega
            exact own_keep h7 (fun q hq _ hlt => hg'.block q hlt (fun e => by have := (hpo q e.symm).1; have := HBL.out q hq; omega))
        have HX2 := Lib.hid hnew
        clear hp' hg' hat' hnew
        go_wp2_with fail
        go_roundw
        case rel => exact ⟨k + 1, by omega, by first | (congr 1; have := HNI.out; omega) | (have := HNI.out; omega), _, c', a', (by first | rfl | exact ⟨rfl, rfl, rfl⟩), by rw [HSK.out]; exact HX2.out⟩
        case measure => simp [intOf] <;> omega
      · obtain rfl : k = N + 1 := by omega
        have hnI : (N : Int) - ((N + 1 : Nat) : Int) = -1 := by omega
        rw [hnI]
        clear hp
        go_wp2_with fail
        go_ret
        exact ⟨_, rfl, HP.out⟩
set_option maxRecDepth 100000 in
theorem patternsOf_implP (a : Option Addr) (len cap : Nat) (ss : List Int) (R : Int) (w : World) (h : IntsAt w (· < w.heap.size) a len ss) (hcap : len ≤ cap) :
    Calls Try.prog 6 #[.slice a len cap, .int .i64 R] w (PatP w (patRes ss R)) := by
  have HL := Lib.hid h.lenEq
  have HA := Lib.hid (areSizes_any _ a len cap ss R w h hcap)
  cases hv : sizesM ss R
  · rw [patRes_no hv]
    rw [hv] at HA
    clear h
    go_enter Try.func6, Try.ntmps6
    go_wp2_with (first | (go_at_call 13; refine HA.out.mono ?_; rintro e w' ⟨rfl, rfl⟩) | fail)
    go_ret
    exact ⟨_, rfl, Pats.nil _ _, Below.refl _ _⟩
  · rw [hv] at HA
    obtain ⟨hc, h13, hnd, hs, hR1, hR2⟩ := sizes_get hv
    have hlen := h.lenEq
    have HC := Lib.hid (patFrom_impl (B := w.heap.size) (ss := ss) (a := a) (cap := cap) hlen (by omega) rfl (fun s h => by have := hs s h; omega) ss.length [] R w none 0 0 rfl (by omega) (World.ownsRow_nil _ _ _ _) (Nat.le_refl _) h (by omega) hR2)
    rw [code_patRes hv (fun L => by
      rw [leastI_lt]
      constructor
      · intro hj s hs
        obtain ⟨i, hi⟩ := List.mem_iff_getElem?.1 hs
        have hil := (List.getElem?_eq_some_iff.1 hi).1
        have := hj i (by omega)
        rwa [getD_of hi] at this
      · intro hs j hj
        have hjl : j < ss.length := by omega
        refine hs _ ?_
        rw [List.getD_eq_getElem?_getD, List.getElem?_eq_getElem hjl]
        exact List.getElem_mem _)] at HC
    clear h hv hnd hs hc hlen
    go_enter Try.func6, Try.ntmps6
    go_wp2_with (first | (go_at_call 13; refine HA.out.mono ?_; rintro e w' ⟨rfl, rfl⟩) | fail)
    refine HC.out.mono ?_
    rintro e w2 ⟨v, rfl, hp⟩
    obtain ⟨a', c', rfl, _⟩ := hp.out.slice
    have HP := Lib.hid hp
    clear hp
    go_wp2_with fail
    go_ret
    have hg := HP.out.grown
    exact ⟨_, rfl, HP.out.out, ⟨hg.os, hg.tape, hg.output, hg.size, fun q hq => hg.block q hq (by simp [Value.ownBlock])⟩⟩
theorem patternsOf_impl (a : Option Addr) (len cap : Nat) (ss : List Int) (R : Int) (w : World) (h : IntsAt w (· < w.heap.size) a len ss) (hcap : len ≤ cap) :
    Calls Try.prog 6 #[.slice a len cap, .int .i64 R] w (RowsP11 w (patRes ss R)) :=
  (patternsOf_implP a len cap ss R w h hcap).mono fun e w' ⟨v, he, hp, hb⟩ => by
    obtain ⟨a', c', hv, hc⟩ := hp.slice
    subst hv
    have := patRes_len ss R
    exact ⟨a', _, c', he, hp.rowsAt rfl (by omega), hc, hb⟩
end Go.Proofs.Ythmifadnfaajbad
namespace Go.Proofs.Ythmifadnfaajbad
open Go.RowKit Go.WideShapes

theorem Try.infoIntD : (Try.prog.info? 3).map (fun i => (i.zero, i.size, i.bytes)) = some (some (.int .i64 0), 1, 8) := by kernel_rfl

/-- the days that are drawn -/
def DaysOk (xs : List Int) : Prop := xs.length ≤ 9 ∧ (∀ k, -1 ≤ xs.getD k 0) ∧ (∀ k, xs.getD k 0 ≤ if k = 0 then 21 else 12)
theorem daysOk_of {xs : List Int} (hl : xs.length ≤ 9) (h : ∀ x ∈ xs, 0 ≤ x ∧ x ≤ 12) : DaysOk xs := by
  have key : ∀ k, 0 ≤ xs.getD k 0 ∧ xs.getD k 0 ≤ 12 := by
    intro k
    rcases Nat.lt_or_ge k xs.length with h' | h'
    · exact h _ (List.mem_of_getElem? (get_getD h'))
    · rw [getD_past h']; omega
  exact ⟨hl, fun k => by have := key k; omega, fun k => by have := key k; split <;> omega⟩
theorem daysOk_set {xs : List Int} {x : Int} (hl : xs.length ≤ 9) (h : ∀ x ∈ xs, 0 ≤ x ∧ x ≤ 12) (hx : x = -1 ∨ x = 21) : DaysOk (xs.set 0 x) := by
  have key : ∀ k, 0 ≤ xs.getD k 0 ∧ xs.getD k 0 ≤ 12 := by
    intro k
    rcases Nat.lt_or_ge k xs.length with h' | h'
    · exact h _ (List.mem_of_getElem? (get_getD h'))
    · rw [getD_past h']; omega
  have e : ∀ k, (xs.set 0 x).getD k 0 = if k = 0 ∧ 0 < xs.length then x else xs.getD k 0 := by
    intro k
    rw [List.getD_eq_getElem?_getD, List.getD_eq_getElem?_getD, List.getElem?_set]
    by_cases hk : 0 = k
    · subst hk
      by_cases hp : 0 < xs.length
      · rw [if_pos rfl, if_pos hp, if_pos ⟨rfl, hp⟩]; rfl
      · rw [if_pos rfl, if_neg hp, if_neg (by omega), List.getElem?_eq_none (by omega)]
    · rw [if_neg hk, if_neg (by omega)]
  refine ⟨by rw [List.length_set]; exact hl, fun k => ?_, fun k => ?_⟩
  · rw [e]; have := key k; split <;> omega
  · rw [e]; have := key k; split <;> split <;> omega

def DaysPost (w : World) (R p : Nat) (e : Ending) (w' : World) : Prop := ∃ (a : Option Addr) (len cap : Nat) (xs : List Int) (p' : Nat), e = .returned (.slice a len cap) ∧
  w'.ownsRow w.heap.size 3 1 (.slice a len cap) len (xs.map (.int .i64)) ∧ len ≤ cap ∧ len ≤ 9 ∧ DaysOk xs ∧ Rd w' R p' ∧ p' ≤ p + 100 ∧ w.grownBy w' (some R)
theorem DaysPost.mk {w w' : World} {R p p' : Nat} {a : Option Addr} {len cap : Nat} {xs : List Int} (h : w'.ownsRow w.heap.size 3 1 (.slice a len cap) len (xs.map (.int .i64))) (hl : len ≤ 9) (hd : DaysOk xs) (hr : Rd w' R p') (hp : p' ≤ p + 100) (hg : w.grownBy w' (some R)) :
    DaysPost w R p (.returned (.slice a len cap)) w' := by
  obtain ⟨a', cap', e, hc⟩ := own_slice h
  simp only [Value.slice.injEq] at e
  obtain ⟨rfl, _, rfl⟩ := e
  exact ⟨_, _, _, xs, p', rfl, h, hc, hl, hd, hr, hp, hg⟩
theorem ro {R : Nat} : ∀ k, some R = some k → k = R ∨ False := by intro k e; cases e; exact Or.inl rfl

theorem most_n {n : Int} (h : n ∈ [6, 12, 3]) : 3 ≤ n ∧ n ≤ 12 := by simp at h; omega
theorem days_n {n : Int} (h : n ∈ [5, 6, 4, 8, 3, 2, 1, 0, 9]) : ∃ m : Nat, n = (m : Int) ∧ m ≤ 9 := by simp at h; exact ⟨n.toNat, by omega, by omega⟩
theorem grown_r {a b c : World} {R : Nat} (h : a.grownBy b (some R)) (g : b.grownBy c (some R)) : a.grownBy c (some R) := grown_trans h g (fun k e => by cases e; exact Or.inl rfl)

end Go.Proofs.Ythmifadnfaajbad
namespace Go.Proofs.Ythmifadnfaajbad
open Go.RowKit Go.WideShapes

/-- a list that is drawn: numbers in lo..hi -/
def ListPost (w : World) (R p n : Nat) (lo hi : Int) (e : Ending) (w' : World) : Prop := ∃ (a : Option Addr) (cap : Nat) (xs : List Int), e = .returned (.slice a n cap) ∧
  w'.ownsRow w.heap.size 3 1 (.slice a n cap) n (xs.map (.int .i64)) ∧ n ≤ cap ∧ xs.length = n ∧ (∀ x ∈ xs, lo ≤ x ∧ x ≤ hi) ∧ Rd w' R (p + n) ∧ w.grownBy w' (some R)

end Go.Proofs.Ythmifadnfaajbad
namespace Go.Proofs.Ythmifadnfaajbad
open Go.RowKit Go.WideShapes

set_option maxRecDepth 100000 in
/-- append of a list to a list of the call's own, at a step of a region that draws; the source may be empty -/
theorem stepApp {ops : Array Oper} {o : Oper} {a : Act} {K : Act → World → Prop} {Q : Exit → Act → World → Prop} {E : Prop} {wo : World} (hgd : o.guard = none) (s x : Operand)
    (ho : o.op = .call { callee := .builtin .append, args := #[s, x], argTypes := #[23, 23] })
    (base k cp gx : Nat) (xs : List Int) (S : Nat → Prop) (b off m c : Nat) (ys : List Int) (hs : a.eval s = .slice (some ⟨gx, 0, none⟩) k cp)
    (hown : wo.ownsRow base 3 1 (.slice (some ⟨gx, 0, none⟩) k cp) k (xs.map (.int .i64))) (hx : a.eval x = .slice (some ⟨b, off, none⟩) m c) (hy : IntsAt wo S (some ⟨b, off, none⟩) m ys)
    (hbase : base ≤ wo.heap.size) (km : Nat) (hkm : k + m = km) (zs : List Int) (hzs : xs ++ ys = zs) (hk : km ≤ 1048576)
    (h : ∀ (g6 c6 : Nat) (w' : World), w'.ownsRow base 3 1 (.slice (some ⟨g6, 0, none⟩) km c6) km (zs.map (.int .i64)) → km ≤ c6 → wo.grownBy w' (some gx) → base ≤ g6 → g6 < w'.heap.size →
      K (a.put o.dst (.slice (some ⟨g6, 0, none⟩) km c6)) w') :
    if Region.wanted o (yielded ops a.tmps) = true then Oper.wp Try.prog o a wo K Q else E := by
  subst hkm
  subst hzs
  have hw : Region.wanted o (yielded ops a.tmps) = true := by simp [Region.wanted, hgd]
  rw [if_pos hw]
  obtain ⟨i0, hi, hz0, hz1, hz2⟩ := info_parts Try.infoIntO
  obtain ⟨v', w', hr, h2, h3, h4, _⟩ := run_append_own_at (P := Try.prog) wo base 23 o.type 3 i0 (.int .i64 0) 1 8 Try.underlying23 hi hz0 hz1 hz2 rfl (by decide) _ k _ hown ⟨b, off, none⟩ m c (ys.map (.int .i64)) (by simp [hy.lenEq]) (by
    intro j u hj
    rw [List.getElem?_map] at hj
    cases hq : ys[j]? with
    | none => rw [hq] at hj; cases hj
    | some z =>
      rw [hq] at hj
      simp only [Option.map_some, Option.some.injEq] at hj
      have hlt : j < ys.length := (List.getElem?_eq_some_iff.1 hq).1
      obtain ⟨b', off', e, _, hc⟩ := hy.cells (by have := hy.lenEq; omega)
      cases e
      rw [add_plain, hc _ _ hq, ← hj]) (by
    intro u hu
    obtain ⟨x, _, rfl⟩ := List.mem_map.1 hu
    rfl) (by unfold maxLen; omega) (by omega) hbase
  unfold Oper.wp execOp
  simp only [ho, resolve, invoke, builtin, Sem.run_bind, Sem.run_pure, Result.andThen_ok, List.map_toArray, List.map_cons, List.map_nil, hs, hx, hr]
  obtain ⟨a6, c6, rfl, hc⟩ := own_slice h2
  rcases h2.2 with ⟨e1, e2⟩ | ⟨g, cap, cur, hv, hb, hg, _⟩
  · exact absurd (h4.1 (by injection e1 with e3 _ e4; subst e3; subst e4; rw [e2])).1 (by simp)
  · injection hv with e3 _ e4
    subst e3
    rw [← List.map_append] at h2
    refine h g c6 w' h2 hc h3 hb ?_
    rcases Nat.lt_or_ge g w'.heap.size with hlt | hge
    · exact hlt
    · rw [Array.getElem?_eq_none hge] at hg; cases hg

theorem IntsAt.takeI {w : World} {S : Nat → Prop} {b off len : Nat} {xs : List Int} (h : IntsAt w S (some ⟨b, off, none⟩) len xs) (k : Nat) (hk : k ≤ len) : IntsAt w S (some ⟨b, off, none⟩) k (xs.take k) := by
  have hl := h.lenEq
  have hs := h.small
  refine ⟨by simp; omega, by omega, fun h0 => ?_⟩
  obtain ⟨b', off', e, hS, hc⟩ := h.cells (by omega)
  cases e
  refine ⟨_, _, rfl, hS, fun i x hx => hc i x ?_⟩
  rw [List.getElem?_take] at hx
  split at hx
  · exact hx
  · cases hx
theorem IntsAt.dropI {w : World} {S : Nat → Prop} {b len : Nat} {xs : List Int} (h : IntsAt w S (some ⟨b, 0, none⟩) len xs) (k : Nat) (hk : k ≤ len) : IntsAt w S (some ⟨b, k, none⟩) (len - k) (xs.drop k) := by
  have hl := h.lenEq
  have hs := h.small
  refine ⟨by simp; omega, by omega, fun h0 => ?_⟩
  obtain ⟨b', off', e, hS, hc⟩ := h.cells (by omega)
  cases e
  refine ⟨_, _, rfl, hS, fun i x hx => ?_⟩
  rw [List.getElem?_drop] at hx
  have := hc _ x hx
  rwa [Nat.zero_add] at this
theorem IntsAt.grownEq {W W' w' : World} {b r len : Nat} {xs : List Int} (h : IntsAt W (fun k => k = b) (some ⟨b, 0, none⟩) len xs) (hg : W'.grownBy w' (some r)) (he : W'.heap = W.heap) (hb : b < W'.heap.size) (hr : b ≠ r) :
    IntsAt w' (fun k => k = b) (some ⟨b, 0, none⟩) len xs :=
  h.to fun k hk => ⟨hk, by subst hk; rw [hg.block _ hb (by simp; omega), he]⟩
theorem below_grown {n : Nat} {w w' : World} (h : Below n w w') (hn : n = w.heap.size) (r : Option Nat) : w.grownBy w' r := by
  subst hn
  exact ⟨h.os, h.tape, h.output, h.size, fun k hk _ => h.block k hk⟩
def OrderPost (w : World) (R p n : Nat) (e : Ending) (w' : World) : Prop := ∃ (g cap : Nat) (xs : List Int), e = .returned (.slice (some ⟨g, 0, none⟩) n cap) ∧
  w'.ownsRow w.heap.size 3 1 (.slice (some ⟨g, 0, none⟩) n cap) n (xs.map (.int .i64)) ∧ n ≤ cap ∧ (∀ x ∈ xs, -1 ≤ x ∧ x ≤ n) ∧ w.grownBy w' (some R)
end Go.Proofs.Ythmifadnfaajbad
