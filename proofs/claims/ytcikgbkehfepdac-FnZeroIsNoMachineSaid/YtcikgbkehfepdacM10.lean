import Derived.Test.YtcikgbkehfepdacRows
import Derived.WalkKit
import Derived.LoopTactic
import Derived.Outline
import Derived.WalkSpells
import Derived.WalkLawsBesides
import Derived.ProofKit
import Derived.Lib.Hide
import Derived.IntWalk
import Derived.Test.YtcikgbkehfepdacM0
import Derived.Test.YtcikgbkehfepdacM2
import Derived.Test.YtcikgbkehfepdacM3
import Derived.Test.YtcikgbkehfepdacM4
import Derived.Test.YtcikgbkehfepdacM6
import Derived.Test.YtcikgbkehfepdacM9
import Derived.Test.YtcikgbkehfepdacM7
import Derived.Test.YtcikgbkehfepdacM1
import Derived.RangeFuncCalls
import Derived.RangeFuncWrites
import Derived.TacticsIn
import Derived.StillTail
import Derived.RangeFuncLeaves
import Derived.RangeFuncNested
import Derived.RangeFuncBound
import Derived.Shelf.Abstract
import Derived.Shelf.RegionOpen
import Derived.OwnWalkIn
import Derived.TacticsInMore
import Derived.LoopNIn
import Derived.LoopIn
namespace Go.Proofs.Ytcikgbkehfepdac
open Go.RowKit Go.WideShapes

theorem pair_allIn {r : List Int} (h : r.length = 2) : pairB r = allIn 0 9 r := by
  obtain ⟨x, y, rfl⟩ : ∃ x y, r = [x, y] := by
    cases r with
    | nil => simp at h
    | cons x r => cases r with
      | nil => simp at h
      | cons y r => cases r with
        | nil => exact ⟨x, y, rfl⟩
        | cons z r => simp at h
  simp [pairB, allIn]
theorem validPairs_impl (S : Nat → Prop) (a : Option Addr) (len cap : Nat) (rows : List (List Int)) (w : World) (h : RowsAt w S a len rows) (hc : len ≤ cap) :
    Calls Try.prog 10 #[.slice a len cap] w fun e w' => e = .returned (.bool (pairsM rows)) ∧ Drew w w' := by
  have hs := h.small
  have HL := Lib.hid h.lenEq
  by_cases h8 : len ≤ 8
  · go_enter Try.func10, Try.ntmps10
    go_wp2_with fail
    go_loop [10] (fun i => ∃ k : Nat, k ≤ len ∧ i = .int .i64 k ∧ (rows.take k).all pairB = true) (fun i => len - (intOf i).toNat)
    case atStart => exact ⟨0, Nat.zero_le _, rfl, rfl⟩
    case round =>
      obtain ⟨k, hk, rfl, ha⟩ := hrel
      have HA := Lib.hid ha
      clear ha
      by_cases hlt : k < len
      · obtain ⟨b, off, r, a', l, c, rfl, hx, hcx, _, hr⟩ := h.get hlt
        have HX := Lib.hid hx
        have HRL := Lib.hid hr.lenEq
        have hrs := hr.small
        clear hx
        have hkl : (k : Int) < (len : Int) := by omega
        by_cases hl2 : l = 2
        · subst hl2
          have HP := Lib.hid (pair_allIn HRL.out)
          cases hq : allIn 0 9 r
          · go_wp2_with (go_at_call 31; refine (allUpTo_any _ _ _ _ r 9 _ hr).mono ?_; rintro e w' ⟨rfl, rfl⟩)
            go_ret
            exact ⟨ret_bool (by rw [pairs_false HX.out (by rw [HP.out, hq])]), Drew.refl _⟩
          · go_wp2_with (go_at_call 31; refine (allUpTo_any _ _ _ _ r 9 _ hr).mono ?_; rintro e w' ⟨rfl, rfl⟩)
            go_round
            case rel => exact ⟨k + 1, by omega, by go_num, by
              rw [take_get HX.out, List.all_append, HA.out]
              simp only [List.all_cons, List.all_nil, Bool.and_true, Bool.true_and]
              rw [HP.out, hq]⟩
            case measure => simp [intOf]; omega
        · have hle : ((l : Int) != 2) = true := by simp; omega
          go_wp2_with fail
          go_ret
          exact ⟨ret_bool (by rw [pairs_false HX.out (by unfold pairB; rw [HRL.out, beq_eq_false_iff_ne.2 hl2]; rfl)]), Drew.refl _⟩
      · go_wp2_with fail
        go_ret
        have ha := HA.out
        have hl := HL.out
        rw [List.take_of_length_le (by omega)] at ha
        exact ⟨ret_bool (by rw [pairsM, ha, hl, Bool.true_and]; exact (decide_eq_true h8).symm), Drew.refl _⟩
  · have HF := Lib.hid (show pairsM rows = false by unfold pairsM; rw [HL.out, decide_eq_false h8, Bool.and_false])
    go_enter Try.func10, Try.ntmps10
    go_wp2_with fail
    go_ret
    exact ⟨ret_bool HF.out.symm, Drew.refl _⟩
-- orders
theorem nodup_cover {α : Type} [DecidableEq α] : ∀ (l s : List α), s.Nodup → s ⊆ l → l.length ≤ s.length → l.Nodup := by
  intro l
  induction l with
  | nil => intro s _ _ _; exact List.nodup_nil
  | cons x t ih =>
    intro s hn hs hl
    have hx : x ∉ t := by
      intro hm
      have h1 : s ⊆ t := fun y hy => by
        rcases List.mem_cons.1 (hs hy) with rfl | h
        · exact hm
        · exact h
      have := List.Nodup.length_le_of_subset hn h1
      simp at hl; omega
    refine List.nodup_cons.2 ⟨hx, ih (s.erase x) (hn.erase x) (fun y hy => ?_) ?_⟩
    · have h1 := (List.Nodup.mem_erase_iff hn).1 hy
      rcases List.mem_cons.1 (hs h1.2) with h | h
      · exact absurd h h1.1
      · exact h
    · have : s.length - 1 ≤ (s.erase x).length := by rw [List.length_erase]; split <;> omega
      simp at hl; omega
theorem order_full {o : List Int} {n D : Nat} (hr : ∀ x ∈ o, 0 ≤ x ∧ x < (n : Int)) (hl : o.length = n) (hD : ∀ i, D.testBit i = decide ((i : Int) ∈ o)) : orderM o n = decide (D = 2 ^ n - 1) := by
  rw [Bool.eq_iff_iff, decide_eq_true_eq]
  constructor
  · intro h
    have hp := nO_perm (orderM_get h)
    apply Nat.eq_of_testBit_eq
    intro i
    rw [hD, Nat.testBit_two_pow_sub_one]
    refine decide_eq_decide.2 ⟨fun hm => by have := hr _ hm; omega, fun hi => ?_⟩
    have := hp.mem_iff.2 (List.mem_range.2 hi)
    obtain ⟨y, hy, rfl⟩ := List.mem_map.1 this
    have := hr y hy
    rwa [Int.toNat_of_nonneg this.1]
  · intro h
    subst h
    refine decide_eq_true ⟨⟨hr, ?_⟩, hl⟩
    have hn : (nO o).Nodup := nodup_cover (nO o) (List.range n) List.nodup_range (fun i hi => by
      have hi := List.mem_range.1 hi
      have := hD i
      rw [Nat.testBit_two_pow_sub_one, decide_eq_true hi] at this
      have hm := of_decide_eq_true this.symm
      exact List.mem_map.2 ⟨(i : Int), hm, by simp⟩) (by simp [nO, hl])
    exact (List.pairwise_map.1 hn).imp (fun {x y} h e => h (by rw [e]))
set_option maxHeartbeats 1000000 in
theorem isOrder_any (S : Nat → Prop) (a : Option Addr) (len cap : Nat) (o : List Int) (n : Nat) (w : World) (h : IntsAt w S a len o) (hn : n ≤ 8) :
    Calls Try.prog 54 #[.slice a len cap, .int .i64 n] w fun e w' => e = .returned (.bool (orderM o n)) ∧ w = w' := by
  have hs := h.small
  have HL := Lib.hid h.lenEq
  by_cases hln : len = n
  · subst hln
    have hp8 : 1 ≤ 2 ^ len ∧ 2 ^ len ≤ 256 := ⟨Nat.two_pow_pos _, Nat.pow_le_pow_right (n := 2) (j := 8) (by omega) hn⟩
    have HALL := Lib.hid (fun w => allOf_any len (by omega) w)
    have hneq : ((len : Int) != (len : Int)) = false := by simp
    go_enter Try.func54, Try.ntmps54
    go_wp2_with fail
    go_loop [5, 14] (fun s i => ∃ k D : Nat, k ≤ len ∧ i = .int .i64 k ∧ s = .int .i64 (D : Int) ∧ (∀ x ∈ o.take k, 0 ≤ x ∧ x < (len : Int)) ∧ ∀ i, D.testBit i = decide ((i : Int) ∈ o.take k)) (fun _ i => len - (intOf i).toNat)
    case atStart => exact ⟨0, 0, Nat.zero_le _, rfl, rfl, fun x hx => by simp at hx, fun i => by simp⟩
    case round =>
      obtain ⟨k, D, hk, rfl, rfl, h1, h3⟩ := hrel
      have hD : D < 2 ^ len := Nat.lt_pow_two_of_testBit _ (fun i hi => by
        rw [h3]; exact decide_eq_false (fun hm => by have := h1 _ hm; omega))
      have H1 := Lib.hid h1
      have H3 := Lib.hid h3
      clear h1 h3
      by_cases hlt : k < len
      · obtain ⟨b, off, x, rfl, hx, hc⟩ := h.get hlt
        have HX := Lib.hid hx
        have hkl : (k : Int) < (len : Int) := by omega
        clear hx
        cases hq : inB 0 ((len : Int) - 1) x
        · go_wp2_with (go_at_call 46; refine (isUpTo_any _ _ _).mono ?_; rintro e w' ⟨rfl, rfl⟩)
          go_ret
          exact ⟨ret_bool (order_bad HX.out hq).symm, rfl⟩
        · have hxb : 0 ≤ x ∧ x ≤ (len : Int) - 1 := by simpa [inB] using hq
          obtain ⟨q, rfl⟩ : ∃ q : Nat, x = (q : Int) := ⟨x.toNat, by omega⟩
          have hpq : 1 ≤ 2 ^ q ∧ 2 ^ q ≤ 256 := ⟨Nat.two_pow_pos _, Nat.pow_le_pow_right (n := 2) (j := 8) (by omega) (by omega)⟩
          obtain ⟨pq, hpqe⟩ : ∃ pq, 2 ^ q = pq := ⟨_, rfl⟩
          have HPQ := Lib.hid hpqe
          rw [hpqe] at hpq
          clear hpqe
          go_wp2_with (go_at_call 46; refine (isUpTo_any _ _ _).mono ?_; rintro e w' ⟨rfl, rfl⟩)
          go_round
          case rel => exact ⟨k + 1, D ||| pq, by omega, by go_num, by
              rw [show ((2 : Int) ^ q) = ((pq : Nat) : Int) by rw [← HPQ.out]; push_cast; rfl, w64_id (by omega) (by omega), i_or D pq (by omega) (by omega)], fun x hx => by
              rw [take_get HX.out] at hx
              rcases List.mem_append.1 hx with hx | hx
              · exact H1.out x hx
              · simp at hx; omega, fun i => by
              rw [← HPQ.out, Nat.testBit_or, H3.out, take_get HX.out, Nat.testBit_two_pow, Bool.eq_iff_iff]
              simp only [Bool.or_eq_true, decide_eq_true_eq, List.mem_append, List.mem_singleton]
              exact or_congr Iff.rfl ⟨fun e => by omega, fun e => by omega⟩⟩
          case measure => simp [intOf] <;> omega
      · obtain rfl : k = len := by omega
        have hall : o.take k = o := List.take_of_length_le (by rw [HL.out]; omega)
        have HF := Lib.hid (show orderM o k = ((D : Int) == ((2 ^ k - 1 : Nat) : Int)) by
          have h1 := H1.out
          have h3 := H3.out
          rw [hall] at h1 h3
          rw [order_full h1 HL.out h3, Bool.eq_iff_iff, decide_eq_true_eq, beq_iff_eq]
          omega)
        generalize 2 ^ k - 1 = p at *
        clear hall
        go_wp2_with (go_at_call 56; refine (HALL.out _).mono ?_; rintro e w' ⟨rfl, rfl⟩)
        go_ret
        exact ⟨ret_bool HF.out.symm, rfl⟩
  · have HF := Lib.hid (show orderM o n = false from decide_eq_false fun hp => by have := hp.2; have := HL.out; omega)
    have hne : ((len : Int) != (n : Int)) = true := by simp; omega
    go_enter Try.func54, Try.ntmps54
    go_wp2_with fail
    go_ret
    exact ⟨ret_bool HF.out.symm, rfl⟩
-- the span
set_option maxHeartbeats 1000000 in
theorem spanIn_any (S T : Nat → Prop) (a : Option Addr) (len cap : Nat) (rows : List (List Int)) (a2 : Option Addr) (len2 cap2 : Nat) (o : List Int) (w : World) (h : RowsAt w S a len rows) (g : IntsAt w T a2 len2 o) (hp : pairsM rows = true) (ho : ∀ x ∈ o, 0 ≤ x ∧ x < (len : Int)) (hl : len2 ≤ 8) :
    Calls Try.prog 48 #[.slice a len cap, .slice a2 len2 cap2] w fun e w' => e = .returned (.int .i64 (spanT (ta rows) (tb rows) (nO o))) ∧ w = w' := by
  have HL := Lib.hid g.lenEq
  have HP := Lib.hid (pairs_get hp).2
  have HBD := Lib.hid (run_bd hp)
  have HO := Lib.hid ho
  have HT := Lib.hid (t_bd hp)
  clear hp ho
  go_enter Try.func48, Try.ntmps48
  go_wp2_with fail
  go_loop [5, 6, 11] (fun av bv i => ∃ k : Nat, k ≤ len2 ∧ i = .int .i64 k ∧ av = .int .i64 (runT (ta rows) (tb rows) (0, 0) (nO (o.take k))).1 ∧ bv = .int .i64 (runT (ta rows) (tb rows) (0, 0) (nO (o.take k))).2) (fun _ _ i => len2 - (intOf i).toNat)
  case atStart => exact ⟨0, Nat.zero_le _, rfl, rfl, rfl⟩
  case round =>
    obtain ⟨k, hk, rfl, rfl, rfl⟩ := hrel
    by_cases hlt : k < len2
    · obtain ⟨b, off, q, b2, off2, b3, off3, c, rfl, rfl, hx, hql, hc, hcr, hc3, hc4⟩ := job_at h g HP.out HO.out hlt
      have hb := HBD.out (nO (o.take k))
      have ht := HT.out q
      have hkl : ((nO (o.take k)).length : Int) ≤ 8 := by unfold nO; rw [List.length_map, List.length_take]; omega
      have HN := Lib.hid (show runT (ta rows) (tb rows) (0, 0) (nO (o.take (k + 1))) = stT (ta rows) (tb rows) (runT (ta rows) (tb rows) (0, 0) (nO (o.take k))) q by
        rw [nO_snoc hx, runT_snoc, Int.toNat_natCast])
      have HN1 := Lib.hid (show (runT (ta rows) (tb rows) (0, 0) (nO (o.take (k + 1)))).1 = (runT (ta rows) (tb rows) (0, 0) (nO (o.take k))).1 + ta rows q by rw [HN.out]; rfl)
      have HN2 := Lib.hid (show (runT (ta rows) (tb rows) (0, 0) (nO (o.take (k + 1)))).2 = max ((runT (ta rows) (tb rows) (0, 0) (nO (o.take k))).1 + ta rows q) (runT (ta rows) (tb rows) (0, 0) (nO (o.take k))).2 + tb rows q by rw [HN.out]; rfl)
      have hqi : (q : Int) < (len : Int) := by omega
      have hkk : (k : Int) < (len2 : Int) := by omega
      clear hx HN
      generalize (runT (ta rows) (tb rows) (0, 0) (nO (o.take k))).1 = va at *
      generalize (runT (ta rows) (tb rows) (0, 0) (nO (o.take k))).2 = vb at *
      generalize ta rows q = x3 at *
      generalize tb rows q = x4 at *
      by_cases hmx : vb < va + x3
      · have HM := Lib.hid (HN2.out.trans (show _ = va + x3 + x4 by rw [show max (va + x3) vb = va + x3 by omega]))
        go_wp2_with fail
        go_round
        case rel => exact ⟨k + 1, by omega, by go_num, by rw [HN1.out], by rw [HM.out]⟩
        case measure => simp [intOf] <;> omega
      · have HM := Lib.hid (HN2.out.trans (show _ = vb + x4 by rw [show max (va + x3) vb = vb by omega]))
        go_wp2_with fail
        go_round
        case rel => exact ⟨k + 1, by omega, by go_num, by rw [HN1.out], by rw [HM.out]⟩
        case measure => simp [intOf] <;> omega
    · obtain rfl : k = len2 := by omega
      have HE := Lib.hid (show (runT (ta rows) (tb rows) (0, 0) (nO (o.take k))).2 = spanT (ta rows) (tb rows) (nO o) by rw [List.take_of_length_le (by rw [HL.out]; omega)]; rfl)
      go_wp2_with fail
      go_ret
      exact ⟨ret_int HE.out, rfl⟩
end Go.Proofs.Ytcikgbkehfepdac
namespace Go.Proofs.Ytcikgbkehfepdac
open Go.RowKit Go.WideShapes

/-- a given order fits the pairs -/
theorem fitOne_any (S T : Nat → Prop) (a : Option Addr) (len cap : Nat) (rows : List (List Int)) (a2 : Option Addr) (len2 cap2 : Nat) (o : List Int) (w : World) (h : RowsAt w S a len rows) (g : IntsAt w T a2 len2 o) (hc : len ≤ cap) :
    Calls Try.prog 47 #[.slice a len cap, .iface 48 (.slice a2 len2 cap2)] w fun e w' => e = .returned (.bool (spanFine rows o)) ∧ Drew w w' := by
  have HL := Lib.hid h.lenEq
  have ta1 : ∀ w : World, (Instr.typeAssert (.iface 48 (.slice a2 len2 cap2)) 61 48 true).run Try.prog w = .ok (.tuple #[.slice a2 len2 cap2, .bool true]) w := fun _ => by kernel_rfl
  cases hp : pairsM rows
  · have HF := Lib.hid (show spanFine rows o = false by unfold spanFine; rw [hp]; rfl)
    go_enter Try.func47, Try.ntmps47
    go_wp2_with fail
    refine (validPairs_impl S a len cap rows w h hc).mono ?_
    rintro e w' ⟨rfl, hdw⟩
    rw [hp]
    go_wp2_with fail
    go_ret
    exact ⟨ret_bool HF.out.symm, hdw⟩
  · have hl8 : len ≤ 8 := by have := (pairs_get hp).1; have := HL.out; omega
    have HF := Lib.hid (show spanFine rows o = orderM o len by unfold spanFine; rw [HL.out, hp, Bool.true_and])
    go_enter Try.func47, Try.ntmps47
    go_wp2_with fail
    refine (validPairs_impl S a len cap rows w h hc).mono ?_
    rintro e w' ⟨rfl, hdw⟩
    rw [hp]
    go_wp2_with fail
    refine (isOrder_any T a2 len2 cap2 o len _ (Drew.ints g hdw) hl8).mono ?_
    rintro e w' ⟨rfl, rfl⟩
    go_wp2_with fail
    go_ret
    exact ⟨ret_bool HF.out.symm, hdw⟩
end Go.Proofs.Ytcikgbkehfepdac
namespace Go.Proofs.Ytcikgbkehfepdac
/-- a part that a row takes, and how many -/
abbrev Part (xs : List Int) := { x : Nat × Int // xs[x.1]? = some x.2 ∧ 0 < x.2 }
def pairAt (xs : List Int) (k : Nat) : List (Nat × Int) :=
  match xs[k]? with
  | some x => if 0 < x then [(k, x)] else []
  | none => []
/-- the parts among the first k -/
def pairsTo (xs : List Int) : Nat → List (Nat × Int)
  | 0 => []
  | k + 1 => pairsTo xs k ++ pairAt xs k
theorem pairAt_yes {xs : List Int} {k : Nat} {x : Int} (h : xs[k]? = some x) (h0 : 0 < x) : pairAt xs k = [(k, x)] := by simp [pairAt, h, h0]
theorem pairAt_no {xs : List Int} {k : Nat} {x : Int} (h : xs[k]? = some x) (h0 : ¬ 0 < x) : pairAt xs k = [] := by simp only [pairAt, h, if_neg h0]
theorem pairsTo_length (xs : List Int) (k : Nat) : (pairsTo xs k).length ≤ k := by
  induction k with
  | zero => simp [pairsTo]
  | succ k ih =>
    have : (pairAt xs k).length ≤ 1 := by
      unfold pairAt
      split
      · split <;> simp
      · simp
    simp only [pairsTo, List.length_append]
    omega
def sumOver (f : Nat → Int → Int) (l : List (Nat × Int)) : Int := l.foldl (fun s p => s + f p.1 p.2) 0
theorem sumOver_snoc (f : Nat → Int → Int) (l : List (Nat × Int)) (p : Nat × Int) : sumOver f (l ++ [p]) = sumOver f l + f p.1 p.2 := by simp [sumOver]
/-- how many of j one of i takes, over d levels -/
def countM (rows : List (List Int)) (j : Nat) : Nat → Nat → Int
  | 0, i => if i = j then 1 else 0
  | d + 1, i => if i = j then 1 else sumOver (fun p c => c * countM rows j d p) (pairsTo (rows.getD i []) (rows.getD i []).length)

theorem pow_le {d : Nat} (h : d ≤ 6) : 18 ^ d ≤ 34012224 := Nat.le_trans (Nat.pow_le_pow_right (by omega) h) (by decide)
theorem mem_pairsTo {xs : List Int} {p : Nat × Int} : ∀ {k : Nat}, p ∈ pairsTo xs k → xs[p.1]? = some p.2 ∧ 0 < p.2 := by
  intro k
  induction k with
  | zero => intro h; simp [pairsTo] at h
  | succ k ih =>
    intro h
    simp only [pairsTo, List.mem_append] at h
    rcases h with h | h
    · exact ih h
    · unfold pairAt at h
      split at h
      · split at h
        · simp only [List.mem_singleton] at h; subst h; exact ⟨by assumption, by assumption⟩
        · cases h
      · cases h
theorem sumOver_bd {f : Nat → Int → Int} {B : Int} : ∀ (l : List (Nat × Int)), (∀ p ∈ l, 0 ≤ f p.1 p.2 ∧ f p.1 p.2 ≤ B) → 0 ≤ sumOver f l ∧ sumOver f l ≤ B * l.length := by
  have key : ∀ (l : List (Nat × Int)) (s : Int), (∀ p ∈ l, 0 ≤ f p.1 p.2 ∧ f p.1 p.2 ≤ B) → s ≤ l.foldl (fun s p => s + f p.1 p.2) s ∧ l.foldl (fun s p => s + f p.1 p.2) s ≤ s + B * l.length := by
    intro l
    induction l with
    | nil => intro s _; simp
    | cons p l ih =>
      intro s h
      have h1 := h p List.mem_cons_self
      have h2 := ih (s + f p.1 p.2) (fun q hq => h q (List.mem_cons_of_mem _ hq))
      have e : B * ((p :: l).length : Int) = B * (l.length : Int) + B := by rw [List.length_cons]; push_cast; rw [Int.mul_add, Int.mul_one]
      simp only [List.foldl_cons]
      rw [e]
      omega
  intro l h
  have := key l 0 h
  unfold sumOver
  omega
/-- what holds of a valid bill's rows -/
theorem okRows_get {rows : List (List Int)} {i : Nat} {r : List Int} (hv : validBillM rows = true) (h : rows[i]? = some r) : r.length = i ∧ (∀ x ∈ r, 0 ≤ x ∧ x ≤ 3) ∧ i < 6 := by
  have hi : i < rows.length := by
    rcases Nat.lt_or_ge i rows.length with h' | h'
    · exact h'
    · simp [List.getElem?_eq_none h'] at h
  simp only [validBillM, Bool.and_eq_true, inB, decide_eq_true_eq] at hv
  have hr : rowOk i r = true := by
    cases hq : rowOk i r with
    | true => rfl
    | false => rw [okRows_false h hq] at hv; cases hv.2
  simp only [rowOk, Bool.and_eq_true, beq_iff_eq, allIn, List.all_eq_true, inB, decide_eq_true_eq] at hr
  exact ⟨hr.1, hr.2, by omega⟩
theorem validBill_len6 {rows : List (List Int)} (hv : validBillM rows = true) : rows.length ≤ 6 := by
  simp only [validBillM, Bool.and_eq_true, inB, decide_eq_true_eq] at hv
  omega
theorem countM_bd {rows : List (List Int)} (hv : validBillM rows = true) (j : Nat) : ∀ (d i : Nat), 0 ≤ countM rows j d i ∧ countM rows j d i ≤ ((18 ^ d : Nat) : Int) := by
  intro d
  induction d with
  | zero => intro i; simp only [countM]; split <;> simp
  | succ d ih =>
    intro i
    have hp : (1 : Nat) ≤ 18 ^ d := Nat.one_le_pow _ _ (by omega)
    have e : (18 ^ (d + 1) : Nat) = 18 * 18 ^ d := by rw [Nat.pow_succ, Nat.mul_comm]
    simp only [countM]
    split
    · omega
    · rw [List.getD_eq_getElem?_getD]
      cases hr : rows[i]? with
      | none => simp only [Option.getD_none, List.length_nil, pairsTo, sumOver, List.foldl_nil]; omega
      | some r =>
        simp only [Option.getD_some]
        obtain ⟨h1, h2, h3⟩ := okRows_get hv hr
        have hb := sumOver_bd (f := fun p c => c * countM rows j d p) (B := 3 * ((18 ^ d : Nat) : Int)) (pairsTo r r.length) (fun p hp => by
          obtain ⟨hp1, hp2⟩ := mem_pairsTo hp
          have hc := h2 p.2 (List.mem_of_getElem? hp1)
          have hq := ih p.1
          refine ⟨Int.mul_nonneg hc.1 hq.1, ?_⟩
          have := Int.mul_le_mul hc.2 hq.2 hq.1 (by omega)
          exact this)
        have hl := pairsTo_length r r.length
        have hm : 3 * ((18 ^ d : Nat) : Int) * ((pairsTo r r.length).length : Int) ≤ 3 * ((18 ^ d : Nat) : Int) * 6 := Int.mul_le_mul_of_nonneg_left (by omega) (by omega)
        refine ⟨hb.1, Int.le_trans hb.2 ?_⟩
        omega

theorem countM_low {rows : List (List Int)} (hv : validBillM rows = true) (j : Nat) : ∀ (d i : Nat), i < j → countM rows j d i = 0 := by
  intro d
  induction d with
  | zero => intro i h; simp only [countM]; rw [if_neg (by omega)]
  | succ d ih =>
    intro i h
    simp only [countM]
    rw [if_neg (by omega), List.getD_eq_getElem?_getD]
    cases hr : rows[i]? with
    | none => rfl
    | some r =>
      simp only [Option.getD_some]
      obtain ⟨h1, _, _⟩ := okRows_get hv hr
      have hb := sumOver_bd (f := fun p c => c * countM rows j d p) (B := 0) (pairsTo r r.length) (fun p hp => by
        obtain ⟨hp1, hp2⟩ := mem_pairsTo hp
        have hpl : p.1 < r.length := by
          rcases Nat.lt_or_ge p.1 r.length with h' | h'
          · exact h'
          · simp [List.getElem?_eq_none h'] at hp1
        have := ih p.1 (by omega)
        show 0 ≤ p.2 * countM rows j d p.1 ∧ p.2 * countM rows j d p.1 ≤ 0
        rw [this, Int.mul_zero]
        exact ⟨Int.le_refl _, Int.le_refl _⟩)
      omega
/-- the bounds of one summand, and of a part of the sum -/
theorem term_bd {rows : List (List Int)} {r : List Int} {i d : Nat} (hv : validBillM rows = true) (hr : rows[i]? = some r) (hd : d ≤ 6) (j : Nat) {k : Nat} {x : Int} (hx : r[k]? = some x) :
    0 ≤ x * countM rows j d k ∧ x * countM rows j d k ≤ 102036672 := by
  obtain ⟨_, h2, _⟩ := okRows_get hv hr
  have hz := h2 x (List.mem_of_getElem? hx)
  have hy := countM_bd hv j d k
  have hpw := pow_le hd
  have hm := Int.mul_le_mul hz.2 hy.2 hy.1 (by omega)
  exact ⟨Int.mul_nonneg hz.1 hy.1, by omega⟩
theorem part_bd {rows : List (List Int)} {r : List Int} {i d : Nat} (hv : validBillM rows = true) (hr : rows[i]? = some r) (hd : d ≤ 6) (j : Nat) (k : Nat) (hk : k ≤ 6) :
    0 ≤ sumOver (fun p c => c * countM rows j d p) (pairsTo r k) ∧ sumOver (fun p c => c * countM rows j d p) (pairsTo r k) ≤ 612220032 := by
  have hb := sumOver_bd (f := fun p c => c * countM rows j d p) (B := 102036672) (pairsTo r k) (fun p hp => term_bd hv hr hd j (mem_pairsTo hp).1)
  have hl := pairsTo_length r k
  have : (102036672 : Int) * ((pairsTo r k).length : Int) ≤ 102036672 * 6 := Int.mul_le_mul_of_nonneg_left (by omega) (by omega)
  exact ⟨hb.1, Int.le_trans hb.2 this⟩
theorem countM_eq {rows : List (List Int)} {r : List Int} {i d j : Nat} (hr : rows[i]? = some r) (hij : i ≠ j) : countM rows j (d + 1) i = sumOver (fun p c => c * countM rows j d p) (pairsTo r r.length) := by
  rw [countM, if_neg hij, List.getD_eq_getElem?_getD, hr, Option.getD_some]
theorem countM_self (rows : List (List Int)) (d i : Nat) : countM rows i d i = 1 := by
  cases d <;> simp [countM]
end Go.Proofs.Ytcikgbkehfepdac
namespace Go.Proofs.Ytcikgbkehfepdac
open Go.RowKit

/-- one operation in a round of a wide fence: as everywhere, where it is no defer statement -/
theorem oper_round {P : Program} {o : Oper} {a : Act} {w : World} {next next' : Act → World → Prop} {Q : Exit → Act → World → Prop} (r n : Nat) (hnd : ∀ c, o.op ≠ .defer c)
    (h : Oper.wp P o a w next Q) (hn : ∀ a w, next a w → next' a w) : o.wpIn (Fence.wide.inRound r) n P a w next' Q := by
  refine ⟨fun _ _ => trivial, ?_⟩
  rw [Fence.inRound_round, Oper.semAt_some r a.eval o hnd]
  unfold Oper.wp at h
  cases hx : (execOp a.eval o).run P w with
  | halt x w' =>
    rw [hx] at h
    cases x <;> first | exact h | exact h.elim
  | ok x w' =>
    rw [hx] at h
    cases x with
    | value v => exact hn _ _ h
    | skip => exact hn _ _ h
    | defer d => exact hn _ _ h
    | enter f args =>
      refine ⟨fun e => (by cases e), CallsIn.inRound r (callsIn_wide.2 (Calls.mono h ?_))⟩
      intro e w'' he
      cases e with
      | returned v => exact hn _ _ he
      | panicked c => exact he
      | outgrown => exact he
    | row row args =>
      refine ⟨fun e => (by cases e), ?_⟩
      have h' : RowsIn Fence.wide (n - 1) P row args w' (fun v w'' => next' (a.put o.dst v) w'') := fun c cs _ => by
        obtain ⟨v, w'', hr, hs⟩ := h c cs
        exact ⟨v, w'', hn _ _ hr, stepsIn_wide.2 hs⟩
      exact h'
    | _ => exact h.elim
/-- no operation is a defer statement -/
def noDefer (ops : Array Oper) : Bool := ops.all fun o => match o.op with | .defer _ => false | _ => true
theorem noDefer_spec {ops : Array Oper} (h : noDefer ops = true) {i : Nat} {o : Oper} (ho : ops[i]? = some o) : ∀ c, o.op ≠ .defer c := by
  intro c e
  obtain ⟨hi, rfl⟩ := Array.getElem?_eq_some_iff.1 ho
  have := (Array.all_eq_true.1 h) i hi
  rw [e] at this
  cases this

theorem ops_round {P : Program} {ops : Array Oper} {Q : Exit → Act → World → Prop} (r n : Nat) (hnd : noDefer ops = true) (hQ : ∀ a w, ¬ Q .outgrown a w) :
    ∀ (l : List Nat) (a : Act) (w : World), wpOps P ops Q l a w → wpOpsIn (Fence.wide.inRound r) n P ops Q l a w := by
  intro l
  induction l with
  | nil => exact fun _ _ h => h
  | cons i rest ih =>
    intro a w h
    simp only [wpOps] at h
    simp only [wpOpsIn]
    cases ho : ops[i]? with
    | none => rw [ho] at h; exact ih _ _ h
    | some o =>
      rw [ho] at h
      dsimp only at h ⊢
      by_cases hw : Region.wanted o (yielded ops a.tmps) = true
      · rw [if_pos hw] at h ⊢
        rcases h with h | ⟨_, a0, w0, hq⟩
        · exact oper_round r n (noDefer_spec hnd ho) h ih
        · exact (hQ a0 w0 hq).elim
      · rw [if_neg hw] at h ⊢
        exact ⟨fun _ _ => trivial, ih _ _ h⟩

theorem region_round_any {P : Program} {ops : Array Oper} {Q : Exit → Act → World → Prop} {id : Nat} {a : Act} {w : World} (r n : Nat) (hnd : noDefer ops = true) (hQ : ∀ a w, ¬ Q .outgrown a w) (hm : P.follows .mixedOrders = true)
    (h : wpAny P .any ops Q ops.size (Array.replicate ops.size false) a { w with drawn := w.drawn + 1 }) : (Code.region id ops true).wpIn (Fence.wide.inRound r) n P Q a w :=
  wpIn_region_draw fun t => by
    simp only [Region.schedule, hm, Bool.true_or, if_true]
    exact ops_round r n hnd hQ _ _ _ (wpAny_sound ops.size t _ a _ h)

/-- a region of a round that only reads ahead of its last operations, walked in the order of the text -/
theorem region_round_tail {P : Program} {id : Nat} {Q : Exit → Act → World → Prop} {a : Act} {w : World} {l : List Oper} (r n k : Nat) (hnd : noDefer l.toArray = true) (hQ : ∀ a w, ¬ Q .outgrown a w) (hm : P.follows .mixedOrders = true)
    (hB : Region.lexTailB .any l.toArray k = true)
    (h : wpStill P l.toArray { w with drawn := w.drawn + 1 } (fun a' => wpList P l.toArray Q (l.drop k) a' { w with drawn := w.drawn + 1 }) (l.take k) a) : (Code.region id l.toArray true).wpIn (Fence.wide.inRound r) n P Q a w := by
  simp only [Region.lexTailB, Bool.and_eq_true, decide_eq_true_eq] at hB
  obtain ⟨⟨⟨⟨hsel, hn⟩, hs⟩, hc⟩, hlex⟩ := hB
  have hn' : k < l.length := by simpa using hn
  have htl : (l.take k).length = k := by simp; omega
  have hdl : (l.drop k).length = l.toArray.size - k := by simp
  have inv0 : HeadInv .any l.toArray k (Array.replicate l.toArray.size false) :=
    ⟨by simp, fun j oj _ hl => (by rw [getD_replicate_false] at hl; cases hl), fun t _ ht => getD_in (by simpa using ht) (getD_replicate_false _ _)⟩
  have H := wpAnyL_lex (md := .any) (g := l.toArray.size - k) hsel hs hc hn (l.take k) 0 _ a (fun j hj => by
    have hj' : j < k := by rw [htl] at hj; exact hj
    simp [hj']) (by simpa using htl) inv0 (by rw [htl]; exact hlex) h
  refine region_round_any r n hnd hQ hm ?_
  have := wpAny_of_head (Q' := Q) (g := l.toArray.size - k) (fun listed a' hL => by
    have := wpAny_of_seq (md := .any) (Q' := Q) (l.drop k) k listed a' { w with drawn := w.drawn + 1 } (fun j => by simp [List.getElem?_drop]) (by rw [hdl]; exact hL.1) hL.2
    rwa [hdl] at this) _ _ _ H
  rw [htl, show k + (l.toArray.size - k) = l.toArray.size by omega] at this
  exact this
/-! ### several ranges over functions in one call: one mark each -/
def collected (D : Nat) : Deferred := { target := .collected D, args := #[] }
/-- the blocks of the marks, from B on, no two the same -/
def Marks (w : World) (B : Nat) : List Nat → Prop
  | [] => True
  | D :: Ds => (w.heap[D]? = some (.deferred (some [])) ∧ B ≤ D ∧ ∀ x ∈ Ds, x ≠ D) ∧ Marks w B Ds
theorem Marks.kept {w w' : World} {B : Nat} : ∀ {Ds : List Nat}, Marks w B Ds → (∀ D ∈ Ds, w.heap[D]? = some (.deferred (some [])) → w'.heap[D]? = some (.deferred (some []))) → Marks w' B Ds := by
  intro Ds
  induction Ds with
  | nil => exact fun _ _ => trivial
  | cons D Ds ih => exact fun h g => ⟨⟨g D List.mem_cons_self h.1.1, h.1.2⟩, ih h.2 (fun x hx => g x (List.mem_cons_of_mem _ hx))⟩
theorem Marks.get {w : World} {B D : Nat} : ∀ {Ds : List Nat}, Marks w B Ds → D ∈ Ds → w.heap[D]? = some (.deferred (some [])) ∧ B ≤ D := by
  intro Ds
  induction Ds with
  | nil => intro _ h; cases h
  | cons x Ds ih =>
    intro h hm
    rcases List.mem_cons.1 hm with rfl | hm
    · exact ⟨h.1.1, h.1.2.1⟩
    · exact ih h.2 hm
theorem Marks.lt {w : World} {B D : Nat} {Ds : List Nat} (h : Marks w B Ds) (hm : D ∈ Ds) : D < w.heap.size := by
  have h1 := (h.get hm).1
  rcases Nat.lt_or_ge D w.heap.size with h' | h'
  · exact h'
  · rw [Array.getElem?_eq_none h'] at h1; cases h1
theorem Marks.alloc {w : World} {B : Nat} {Ds : List Nat} (h : Marks w B Ds) (o : Obj) : Marks (w.alloc o) B Ds :=
  h.kept (fun D hD hx => by rw [Below.heap_alloc _ _ _ (h.lt hD)]; exact hx)
theorem Marks.setCell {w : World} {B : Nat} {Ds : List Nat} (h : Marks w B Ds) {p : Addr} {v u : Value} (hp : w.cell? p = some v) : Marks (w.setCell p u) B Ds :=
  h.kept (fun D _ hx => by
    rw [Below.heap_setCell _ _ _ _ (fun e => by subst e; simp [World.cell?, hx] at hp)]
    exact hx)
/-- cells read as they did, and what lay below B lies as it lay -/
structure SameCells (B : Nat) (w w' : World) : Prop where
  cell : ∀ p, w'.cell? p = w.cell? p
  frozen : ∀ p, w'.frozen? p = w.frozen? p
  below : Below B w w'
theorem SameCells.refl (B : Nat) (w : World) : SameCells B w w := ⟨fun _ => rfl, fun _ => rfl, Below.refl _ _⟩
theorem SameCells.trans {B : Nat} {a b c : World} (h : SameCells B a b) (g : SameCells B b c) : SameCells B a c :=
  ⟨fun p => (g.cell p).trans (h.cell p), fun p => (g.frozen p).trans (h.frozen p), h.below.trans g.below⟩
theorem sameCells_put {B D : Nat} {w : World} (h : w.heap[D]? = some (.deferred (some []))) (hB : B ≤ D) : SameCells B w (w.putObj D (.deferred none)) := by
  have hd : D < w.heap.size := by
    rcases Nat.lt_or_ge D w.heap.size with h' | h'
    · exact h'
    · rw [Array.getElem?_eq_none h'] at h; cases h
  have hs : (w.putObj D (.deferred none)).heap[D]? = some (.deferred none) := by simp [World.putObj, hd]
  have hb : Below B w (w.putObj D (.deferred none)) := ⟨rfl, rfl, rfl, by simp, fun k hk => World.putObj_heap_other (by omega)⟩
  refine ⟨fun p => ?_, fun p => ?_, hb⟩
  · by_cases e : p.block = D
    · simp only [World.cell?, e, hs, h]
    · exact World.cell?_of_block (w := w) (World.putObj_heap_other e)
  · by_cases e : p.block = D
    · simp only [World.frozen?, e, hs, h]
    · exact World.frozen?_of_block (w := w) (World.putObj_heap_other e)

theorem leaves_marks {F : Fence} {n B : Nat} {P : Program} {fn : Func} {tmps : Array Value} {R : Ending → World → Prop} {v : Value} (hres : ∀ w, (results fn tmps).run P w = .ok v w) : ∀ (Ds : List Nat) (w : World), Marks w B Ds →
    (∀ w', SameCells B w w' → R (.returned v) w') → LeavesInM F n P fn tmps R (Ds.map collected) .returning w := by
  intro Ds
  induction Ds with
  | nil => exact fun w _ h => ⟨v, hres w, h w (SameCells.refl _ _)⟩
  | cons D Ds ih =>
    intro w hm h
    have hput := sameCells_put hm.1.1 hm.1.2.1
    refine ⟨by simp, Or.inl ⟨D, _, rfl, run_takeDeferred hm.1.1, ih _ (hm.2.kept (fun x hx hx' => ?_)) (fun w' hw' => h w' (hput.trans hw'))⟩⟩
    rw [World.putObj_heap_other (hm.1.2.2 x hx)]
    exact hx'
end Go.Proofs.Ytcikgbkehfepdac
namespace Go.Proofs.Ytcikgbkehfepdac
open Go.RowKit Go.Shelf

attribute [local go_sem] Oper.semAt_some

theorem cell_new_l (W : World) (v : Value) (t : TypeId) : (W.alloc (.cells #[v] t)).cell? ⟨W.heap.size, 0, none⟩ = some v ∧ (W.alloc (.cells #[v] t)).frozen? ⟨W.heap.size, 0, none⟩ = false :=
  ⟨by rw [World.cell?_alloc_new]; rfl, World.frozen?_alloc_new W _ _ _⟩
theorem cell_alloc_l {W : World} {a : Addr} {v : Value} (o : Obj) (h : W.cell? a = some v) : (W.alloc o).cell? a = some v := cell_kept h (World.grownBy_alloc W o none) (fun r e => by cases e)
theorem frozen_alloc_l {W : World} {a : Addr} {v : Value} (o : Obj) (h : W.cell? a = some v) (hf : W.frozen? a = false) : (W.alloc o).frozen? a = false := (frozen_kept h (World.grownBy_alloc W o none) (fun r e => by cases e)).trans hf
theorem lt_cell {W : World} {b o : Nat} {v : Value} (h : W.cell? ⟨b, o, none⟩ = some v) : b < W.heap.size := by
  rcases Nat.lt_or_ge b W.heap.size with h' | h'
  · exact h'
  · simp [World.cell?, Array.getElem?_eq_none h'] at h
def partArgs (xs : List Int) (x : Part xs) : Array Value := #[.int .i64 (x.1.1 : Int), .int .i64 x.1.2]

end Go.Proofs.Ytcikgbkehfepdac
namespace Go.Proofs.Ytcikgbkehfepdac
open Go.RowKit Go.Shelf

attribute [local go_sem] Oper.semAt_some

/-- an element of a list, by its place -/
abbrev IRow (xs : List Int) := { x : Nat × Int // xs[x.1]? = some x.2 }
def backIArgs (xs : List Int) (x : IRow xs) : Array Value := #[.int .i64 (x.1.1 : Int), .int .i64 x.1.2]
/-- all below n and block Bs are as they were -/
def KeepI (n Bs : Nat) (W W' : World) : Prop := Below n W W' ∧ W'.heap[Bs]? = W.heap[Bs]?
theorem KeepI.refl (n Bs : Nat) (W : World) : KeepI n Bs W W := ⟨Below.refl _ _, rfl⟩
theorem KeepI.trans {n Bs : Nat} {A B C : World} (h : KeepI n Bs A B) (g : KeepI n Bs B C) : KeepI n Bs A C := ⟨h.1.trans g.1, g.2.trans h.2⟩
def downI (len j : Nat) : List Nat := (List.range j).map (fun d => len - 1 - d)
theorem downI_succ (len j : Nat) : downI len (j + 1) = downI len j ++ [len - 1 - j] := by simp [downI, List.range_succ]

theorem leaves_marksC {F : Fence} {n B : Nat} {P : Program} {fn : Func} {tmps : Array Value} {R : Ending → World → Prop} {v : Value} : ∀ (Ds : List Nat) (w : World), Marks w B Ds →
    (∀ w', SameCells B w w' → (results fn tmps).run P w' = .ok v w') → (∀ w', SameCells B w w' → R (.returned v) w') → LeavesInM F n P fn tmps R (Ds.map collected) .returning w := by
  intro Ds
  induction Ds with
  | nil => exact fun w _ hres h => ⟨v, hres w (SameCells.refl _ _), h w (SameCells.refl _ _)⟩
  | cons D Ds ih =>
    intro w hm hres h
    have hput := sameCells_put hm.1.1 hm.1.2.1
    refine ⟨by simp, Or.inl ⟨D, _, rfl, run_takeDeferred hm.1.1, ih _ (hm.2.kept (fun x hx hx' => ?_)) (fun w' hw' => hres w' (hput.trans hw')) (fun w' hw' => h w' (hput.trans hw'))⟩⟩
    rw [World.putObj_heap_other (hm.1.2.2 x hx)]
    exact hx'
end Go.Proofs.Ytcikgbkehfepdac
