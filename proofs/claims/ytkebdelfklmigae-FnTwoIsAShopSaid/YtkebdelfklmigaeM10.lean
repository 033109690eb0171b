import Derived.Test.YtkebdelfklmigaeRows
import Derived.WalkKit
import Derived.LoopTactic
import Derived.Outline
import Derived.WalkSpells
import Derived.WalkLawsBesides
import Derived.ProofKit
import Derived.Lib.Hide
import Derived.IntWalk
import Derived.Test.YtkebdelfklmigaeM0
import Derived.Test.YtkebdelfklmigaeM2
import Derived.Test.YtkebdelfklmigaeM4
import Derived.Test.YtkebdelfklmigaeM3
import Derived.Test.YtkebdelfklmigaeM7
import Derived.Test.YtkebdelfklmigaeM9
import Derived.Test.YtkebdelfklmigaeM8
import Derived.Test.YtkebdelfklmigaeM1
import Derived.RangeFuncNested
import Derived.RangeFuncBound
import Derived.RangeFuncCalls
import Derived.RangeFuncLeaves
namespace Go.Proofs.Ytkebdelfklmigae
open Go.RowKit Go.WideShapes

theorem pair_allIn {r : List Int} (h : r.length = 2) : pairB r = allIn 0 9 r := by
  obtain ⟨x, y, rfl⟩ : ∃ x y, r = [x, y] := by
    cases r with
    | nil => simp at h
    | cons x r => cases r with
      | nil => simp at h
      | cons y r => cases r with
        | nil => exact ⟨x, y, rfl⟩
        | cons z r => simp at h
  simp [pairB, allIn]
theorem validPairs_impl (S : Nat → Prop) (a : Option Addr) (len cap : Nat) (rows : List (List Int)) (w : World) (h : RowsAt w S a len rows) (hc : len ≤ cap) :
    Calls Try.prog 77 #[.slice a len cap] w fun e w' => e = .returned (.bool (pairsM rows)) ∧ Drew w w' := by
  have hs := h.small
  have HL := Lib.hid h.lenEq
  by_cases h8 : len ≤ 8
  · go_enter Try.func77, Try.ntmps77
    go_wp2_with fail
    go_loop [10] (fun i => ∃ k : Nat, k ≤ len ∧ i = .int .i64 k ∧ (rows.take k).all pairB = true) (fun i => len - (intOf i).toNat)
    case atStart => exact ⟨0, Nat.zero_le _, rfl, rfl⟩
    case round =>
      obtain ⟨k, hk, rfl, ha⟩ := hrel
      have HA := Lib.hid ha
      clear ha
      by_cases hlt : k < len
      · obtain ⟨b, off, r, a', l, c, rfl, hx, hcx, _, hr⟩ := h.get hlt
        have HX := Lib.hid hx
        have HRL := Lib.hid hr.lenEq
        have hrs := hr.small
        clear hx
        have hkl : (k : Int) < (len : Int) := by omega
        by_cases hl2 : l = 2
        · subst hl2
          have HP := Lib.hid (pair_allIn HRL.out)
          cases hq : allIn 0 9 r
          · go_wp2_with (go_at_call 47; refine (allUpTo_any _ _ _ _ r 9 _ hr).mono ?_; rintro e w' ⟨rfl, rfl⟩)
            go_ret
            exact ⟨ret_bool (by rw [pairs_false HX.out (by rw [HP.out, hq])]), Drew.refl _⟩
          · go_wp2_with (go_at_call 47; refine (allUpTo_any _ _ _ _ r 9 _ hr).mono ?_; rintro e w' ⟨rfl, rfl⟩)
            go_round
            case rel => exact ⟨k + 1, by omega, by go_num, by
              rw [take_get HX.out, List.all_append, HA.out]
              simp only [List.all_cons, List.all_nil, Bool.and_true, Bool.true_and]
              rw [HP.out, hq]⟩
            case measure => simp [intOf]; omega
        · have hle : ((l : Int) != 2) = true := by simp; omega
          go_wp2_with fail
          go_ret
          exact ⟨ret_bool (by rw [pairs_false HX.out (by unfold pairB; rw [HRL.out, beq_eq_false_iff_ne.2 hl2]; rfl)]), Drew.refl _⟩
      · go_wp2_with fail
        go_ret
        have ha := HA.out
        have hl := HL.out
        rw [List.take_of_length_le (by omega)] at ha
        exact ⟨ret_bool (by rw [pairsM, ha, hl, Bool.true_and]; exact (decide_eq_true h8).symm), Drew.refl _⟩
  · have HF := Lib.hid (show pairsM rows = false by unfold pairsM; rw [HL.out, decide_eq_false h8, Bool.and_false])
    go_enter Try.func77, Try.ntmps77
    go_wp2_with fail
    go_ret
    exact ⟨ret_bool HF.out.symm, Drew.refl _⟩
-- orders
theorem nodup_cover {α : Type} [DecidableEq α] : ∀ (l s : List α), s.Nodup → s ⊆ l → l.length ≤ s.length → l.Nodup := by
  intro l
  induction l with
  | nil => intro s _ _ _; exact List.nodup_nil
  | cons x t ih =>
    intro s hn hs hl
    have hx : x ∉ t := by
      intro hm
      have h1 : s ⊆ t := fun y hy => by
        rcases List.mem_cons.1 (hs hy) with rfl | h
        · exact hm
        · exact h
      have := List.Nodup.length_le_of_subset hn h1
      simp at hl; omega
    refine List.nodup_cons.2 ⟨hx, ih (s.erase x) (hn.erase x) (fun y hy => ?_) ?_⟩
    · have h1 := (List.Nodup.mem_erase_iff hn).1 hy
      rcases List.mem_cons.1 (hs h1.2) with h | h
      · exact absurd h h1.1
      · exact h
    · have : s.length - 1 ≤ (s.erase x).length := by rw [List.length_erase]; split <;> omega
      simp at hl; omega
theorem order_full {o : List Int} {n D : Nat} (hr : ∀ x ∈ o, 0 ≤ x ∧ x < (n : Int)) (hl : o.length = n) (hD : ∀ i, D.testBit i = decide ((i : Int) ∈ o)) : orderM o n = decide (D = 2 ^ n - 1) := by
  rw [Bool.eq_iff_iff, decide_eq_true_eq]
  constructor
  · intro h
    have hp := nO_perm (orderM_get h)
    apply Nat.eq_of_testBit_eq
    intro i
    rw [hD, Nat.testBit_two_pow_sub_one]
    refine decide_eq_decide.2 ⟨fun hm => by have := hr _ hm; omega, fun hi => ?_⟩
    have := hp.mem_iff.2 (List.mem_range.2 hi)
    obtain ⟨y, hy, rfl⟩ := List.mem_map.1 this
    have := hr y hy
    rwa [Int.toNat_of_nonneg this.1]
  · intro h
    subst h
    refine decide_eq_true ⟨⟨hr, ?_⟩, hl⟩
    have hn : (nO o).Nodup := nodup_cover (nO o) (List.range n) List.nodup_range (fun i hi => by
      have hi := List.mem_range.1 hi
      have := hD i
      rw [Nat.testBit_two_pow_sub_one, decide_eq_true hi] at this
      have hm := of_decide_eq_true this.symm
      exact List.mem_map.2 ⟨(i : Int), hm, by simp⟩) (by simp [nO, hl])
    exact (List.pairwise_map.1 hn).imp (fun {x y} h e => h (by rw [e]))
set_option maxHeartbeats 1000000 in
theorem isOrder_any (S : Nat → Prop) (a : Option Addr) (len cap : Nat) (o : List Int) (n : Nat) (w : World) (h : IntsAt w S a len o) (hn : n ≤ 8) :
    Calls Try.prog 78 #[.slice a len cap, .int .i64 n] w fun e w' => e = .returned (.bool (orderM o n)) ∧ w = w' := by
  have hs := h.small
  have HL := Lib.hid h.lenEq
  by_cases hln : len = n
  · subst hln
    have hp8 : 1 ≤ 2 ^ len ∧ 2 ^ len ≤ 256 := ⟨Nat.two_pow_pos _, Nat.pow_le_pow_right (n := 2) (j := 8) (by omega) hn⟩
    have HALL := Lib.hid (fun w => allOf_any len (by omega) w)
    have hneq : ((len : Int) != (len : Int)) = false := by simp
    go_enter Try.func78, Try.ntmps78
    go_wp2_with fail
    go_loop [5, 14] (fun s i => ∃ k D : Nat, k ≤ len ∧ i = .int .i64 k ∧ s = .int .i64 (D : Int) ∧ (∀ x ∈ o.take k, 0 ≤ x ∧ x < (len : Int)) ∧ ∀ i, D.testBit i = decide ((i : Int) ∈ o.take k)) (fun _ i => len - (intOf i).toNat)
    case atStart => exact ⟨0, 0, Nat.zero_le _, rfl, rfl, fun x hx => by simp at hx, fun i => by simp⟩
    case round =>
      obtain ⟨k, D, hk, rfl, rfl, h1, h3⟩ := hrel
      have hD : D < 2 ^ len := Nat.lt_pow_two_of_testBit _ (fun i hi => by
        rw [h3]; exact decide_eq_false (fun hm => by have := h1 _ hm; omega))
      have H1 := Lib.hid h1
      have H3 := Lib.hid h3
      clear h1 h3
      by_cases hlt : k < len
      · obtain ⟨b, off, x, rfl, hx, hc⟩ := h.get hlt
        have HX := Lib.hid hx
        have hkl : (k : Int) < (len : Int) := by omega
        clear hx
        cases hq : inB 0 ((len : Int) - 1) x
        · go_wp2_with (go_at_call 35; refine (isUpTo_any _ _ _).mono ?_; rintro e w' ⟨rfl, rfl⟩)
          go_ret
          exact ⟨ret_bool (order_bad HX.out hq).symm, rfl⟩
        · have hxb : 0 ≤ x ∧ x ≤ (len : Int) - 1 := by simpa [inB] using hq
          obtain ⟨q, rfl⟩ : ∃ q : Nat, x = (q : Int) := ⟨x.toNat, by omega⟩
          have hpq : 1 ≤ 2 ^ q ∧ 2 ^ q ≤ 256 := ⟨Nat.two_pow_pos _, Nat.pow_le_pow_right (n := 2) (j := 8) (by omega) (by omega)⟩
          obtain ⟨pq, hpqe⟩ : ∃ pq, 2 ^ q = pq := ⟨_, rfl⟩
          have HPQ := Lib.hid hpqe
          rw [hpqe] at hpq
          clear hpqe
          go_wp2_with (go_at_call 35; refine (isUpTo_any _ _ _).mono ?_; rintro e w' ⟨rfl, rfl⟩)
          go_round
          case rel => exact ⟨k + 1, D ||| pq, by omega, by go_num, by
              rw [show ((2 : Int) ^ q) = ((pq : Nat) : Int) by rw [← HPQ.out]; push_cast; rfl, w64_id (by omega) (by omega), i_or D pq (by omega) (by omega)], fun x hx => by
              rw [take_get HX.out] at hx
              rcases List.mem_append.1 hx with hx | hx
              · exact H1.out x hx
              · simp at hx; omega, fun i => by
              rw [← HPQ.out, Nat.testBit_or, H3.out, take_get HX.out, Nat.testBit_two_pow, Bool.eq_iff_iff]
              simp only [Bool.or_eq_true, decide_eq_true_eq, List.mem_append, List.mem_singleton]
              exact or_congr Iff.rfl ⟨fun e => by omega, fun e => by omega⟩⟩
          case measure => simp [intOf] <;> omega
      · obtain rfl : k = len := by omega
        have hall : o.take k = o := List.take_of_length_le (by rw [HL.out]; omega)
        have HF := Lib.hid (show orderM o k = ((D : Int) == ((2 ^ k - 1 : Nat) : Int)) by
          have h1 := H1.out
          have h3 := H3.out
          rw [hall] at h1 h3
          rw [order_full h1 HL.out h3, Bool.eq_iff_iff, decide_eq_true_eq, beq_iff_eq]
          omega)
        generalize 2 ^ k - 1 = p at *
        clear hall
        go_wp2_with (go_at_call 84; refine (HALL.out _).mono ?_; rintro e w' ⟨rfl, rfl⟩)
        go_ret
        exact ⟨ret_bool HF.out.symm, rfl⟩
  · have HF := Lib.hid (show orderM o n = false from decide_eq_false fun hp => by have := hp.2; have := HL.out; omega)
    have hne : ((len : Int) != (n : Int)) = true := by simp; omega
    go_enter Try.func78, Try.ntmps78
    go_wp2_with fail
    go_ret
    exact ⟨ret_bool HF.out.symm, rfl⟩
-- the span
set_option maxHeartbeats 1000000 in
theorem spanIn_any (S T : Nat → Prop) (a : Option Addr) (len cap : Nat) (rows : List (List Int)) (a2 : Option Addr) (len2 cap2 : Nat) (o : List Int) (w : World) (h : RowsAt w S a len rows) (g : IntsAt w T a2 len2 o) (hp : pairsM rows = true) (ho : ∀ x ∈ o, 0 ≤ x ∧ x < (len : Int)) (hl : len2 ≤ 8) :
    Calls Try.prog 67 #[.slice a len cap, .slice a2 len2 cap2] w fun e w' => e = .returned (.int .i64 (spanT (ta rows) (tb rows) (nO o))) ∧ w = w' := by
  have HL := Lib.hid g.lenEq
  have HP := Lib.hid (pairs_get hp).2
  have HBD := Lib.hid (run_bd hp)
  have HO := Lib.hid ho
  have HT := Lib.hid (t_bd hp)
  clear hp ho
  go_enter Try.func67, Try.ntmps67
  go_wp2_with fail
  go_loop [5, 6, 11] (fun av bv i => ∃ k : Nat, k ≤ len2 ∧ i = .int .i64 k ∧ av = .int .i64 (runT (ta rows) (tb rows) (0, 0) (nO (o.take k))).1 ∧ bv = .int .i64 (runT (ta rows) (tb rows) (0, 0) (nO (o.take k))).2) (fun _ _ i => len2 - (intOf i).toNat)
  case atStart => exact ⟨0, Nat.zero_le _, rfl, rfl, rfl⟩
  case round =>
    obtain ⟨k, hk, rfl, rfl, rfl⟩ := hrel
    by_cases hlt : k < len2
    · obtain ⟨b, off, q, b2, off2, b3, off3, c, rfl, rfl, hx, hql, hc, hcr, hc3, hc4⟩ := job_at h g HP.out HO.out hlt
      have hb := HBD.out (nO (o.take k))
      have ht := HT.out q
      have hkl : ((nO (o.take k)).length : Int) ≤ 8 := by unfold nO; rw [List.length_map, List.length_take]; omega
      have HN := Lib.hid (show runT (ta rows) (tb rows) (0, 0) (nO (o.take (k + 1))) = stT (ta rows) (tb rows) (runT (ta rows) (tb rows) (0, 0) (nO (o.take k))) q by
        rw [nO_snoc hx, runT_snoc, Int.toNat_natCast])
      have HN1 := Lib.hid (show (runT (ta rows) (tb rows) (0, 0) (nO (o.take (k + 1)))).1 = (runT (ta rows) (tb rows) (0, 0) (nO (o.take k))).1 + ta rows q by rw [HN.out]; rfl)
      have HN2 := Lib.hid (show (runT (ta rows) (tb rows) (0, 0) (nO (o.take (k + 1)))).2 = max ((runT (ta rows) (tb rows) (0, 0) (nO (o.take k))).1 + ta rows q) (runT (ta rows) (tb rows) (0, 0) (nO (o.take k))).2 + tb rows q by rw [HN.out]; rfl)
      have hqi : (q : Int) < (len : Int) := by omega
      have hkk : (k : Int) < (len2 : Int) := by omega
      clear hx HN
      generalize (runT (ta rows) (tb rows) (0, 0) (nO (o.take k))).1 = va at *
      generalize (runT (ta rows) (tb rows) (0, 0) (nO (o.take k))).2 = vb at *
      generalize ta rows q = x3 at *
      generalize tb rows q = x4 at *
      by_cases hmx : vb < va + x3
      · have HM := Lib.hid (HN2.out.trans (show _ = va + x3 + x4 by rw [show max (va + x3) vb = va + x3 by omega]))
        go_wp2_with fail
        go_round
        case rel => exact ⟨k + 1, by omega, by go_num, by rw [HN1.out], by rw [HM.out]⟩
        case measure => simp [intOf] <;> omega
      · have HM := Lib.hid (HN2.out.trans (show _ = vb + x4 by rw [show max (va + x3) vb = vb by omega]))
        go_wp2_with fail
        go_round
        case rel => exact ⟨k + 1, by omega, by go_num, by rw [HN1.out], by rw [HM.out]⟩
        case measure => simp [intOf] <;> omega
    · obtain rfl : k = len2 := by omega
      have HE := Lib.hid (show (runT (ta rows) (tb rows) (0, 0) (nO (o.take k))).2 = spanT (ta rows) (tb rows) (nO o) by rw [List.take_of_length_le (by rw [HL.out]; omega)]; rfl)
      go_wp2_with fail
      go_ret
      exact ⟨ret_int HE.out, rfl⟩
end Go.Proofs.Ytkebdelfklmigae
namespace Go.Proofs.Ytkebdelfklmigae
open Go.RowKit Go.WideShapes

/-- a given order fits the pairs -/
theorem fitOne_any (S T : Nat → Prop) (a : Option Addr) (len cap : Nat) (rows : List (List Int)) (a2 : Option Addr) (len2 cap2 : Nat) (o : List Int) (w : World) (h : RowsAt w S a len rows) (g : IntsAt w T a2 len2 o) (hc : len ≤ cap) :
    Calls Try.prog 66 #[.slice a len cap, .iface 110 (.slice a2 len2 cap2)] w fun e w' => e = .returned (.bool (spanFine rows o)) ∧ Drew w w' := by
  have HL := Lib.hid h.lenEq
  have ta1 : ∀ w : World, (Instr.typeAssert (.iface 110 (.slice a2 len2 cap2)) 92 110 true).run Try.prog w = .ok (.tuple #[.slice a2 len2 cap2, .bool true]) w := fun _ => by kernel_rfl
  cases hp : pairsM rows
  · have HF := Lib.hid (show spanFine rows o = false by unfold spanFine; rw [hp]; rfl)
    go_enter Try.func66, Try.ntmps66
    go_wp2_with fail
    refine (validPairs_impl S a len cap rows w h hc).mono ?_
    rintro e w' ⟨rfl, hdw⟩
    rw [hp]
    go_wp2_with fail
    go_ret
    exact ⟨ret_bool HF.out.symm, hdw⟩
  · have hl8 : len ≤ 8 := by have := (pairs_get hp).1; have := HL.out; omega
    have HF := Lib.hid (show spanFine rows o = orderM o len by unfold spanFine; rw [HL.out, hp, Bool.true_and])
    go_enter Try.func66, Try.ntmps66
    go_wp2_with fail
    refine (validPairs_impl S a len cap rows w h hc).mono ?_
    rintro e w' ⟨rfl, hdw⟩
    rw [hp]
    go_wp2_with fail
    refine (isOrder_any T a2 len2 cap2 o len _ (Drew.ints g hdw) hl8).mono ?_
    rintro e w' ⟨rfl, rfl⟩
    go_wp2_with fail
    go_ret
    exact ⟨ret_bool HF.out.symm, hdw⟩
end Go.Proofs.Ytkebdelfklmigae
namespace Go.Proofs.Ytkebdelfklmigae
open Go.RowKit

-- A range over a function that writes memory of its own between its rounds, and whose rounds are never left: told by the number of rounds gone.
/-- all blocks from n on that W has are as they were -/
def KeepsUp (n : Nat) (W W' : World) : Prop := W.heap.size ≤ W'.heap.size ∧ ∀ b, n ≤ b → b < W.heap.size → W'.heap[b]? = W.heap[b]?
theorem KeepsUp.refl (n : Nat) (W : World) : KeepsUp n W W := ⟨Nat.le_refl _, fun _ _ _ => rfl⟩
theorem KeepsUp.trans {n : Nat} {A B C : World} (h : KeepsUp n A B) (g : KeepsUp n B C) : KeepsUp n A C :=
  ⟨Nat.le_trans h.1 g.1, fun b hb hlt => (g.2 b hb (Nat.lt_of_lt_of_le hlt h.1)).trans (h.2 b hb hlt)⟩
theorem KeepsUp.mono {n m : Nat} {A B : World} (h : KeepsUp n A B) (hm : n ≤ m) : KeepsUp m A B := ⟨h.1, fun b hb hlt => h.2 b (Nat.le_trans hm hb) hlt⟩
theorem KeepsUp.setCell (n : Nat) (W : World) {p : Addr} (hp : p.block < n) (v : Value) : KeepsUp n W (W.setCell p v) :=
  ⟨by simp [World.setCell], fun b hb _ => Below.heap_setCell _ _ _ _ (by omega)⟩
theorem KeepsUp.drew (n : Nat) (W : World) : KeepsUp n W W.drew := ⟨Nat.le_refl _, fun _ _ _ => rfl⟩
theorem KeepsUp.putObj {n l : Nat} (W : World) (h : l < n) (o : Obj) : KeepsUp n W (W.putObj l o) := ⟨by simp, fun b hb _ => World.putObj_heap_other (by omega)⟩
theorem below_putObj {n l : Nat} (W : World) (h : n ≤ l) (o : Obj) : Below n W (W.putObj l o) := ⟨rfl, rfl, rfl, by simp, fun k hk => World.putObj_heap_other (by omega)⟩

/-- how a round's body ends: what lies from n on is kept, and the invariant is carried on -/
def countPost (n : Nat) (R : World → Prop) (W : World) : Exit → Act → World → Prop
  | .normal, _, W' => KeepsUp n W W' ∧ R W'
  | _, _, _ => False
/-- the contract of a function that yields: S tells how many rounds there are, E what comes with which -/
def SeqCount {α : Type} (F : Fence) (n : Nat) (P : Program) (gf : Nat) (lb : Array Value) (enc : α → Value) (S : Nat → Prop) (E : Nat → Nat → α → World → Prop) (w : World) : Prop :=
  ∀ (l : Nat) (J : Nat → World → Prop) (W1 : World), Below w.heap.size w W1 → W1.heap.size = w.heap.size + 2 →
    (∀ k A B, J k A → Below W1.heap.size A B → J k B) →
    (∀ k x W, J k W → E W1.heap.size k x W → YieldAt F (n - 1) P l #[enc x] W fun e W' => e = .returned (.bool true) ∧ J (k + 1) W' ∧ KeepsUp W1.heap.size W W') →
    J 0 W1 → CallsIn F n P gf (#[.func (.yield l) #[] #[]] ++ lb) W1 fun e W' => (∃ v, e = .returned v) ∧ ∃ k, S k ∧ J k W'
theorem wpIn_rangeFunc_count {α : Type} {F : Fence} {n : Nat} {P : Program} {g : Operand} {ps : Array Tmp} {assign body : Code} {Q : Exit → Act → World → Prop} {a : Act} {w : World}
    (hro : F.round = none) (h1 : 1 ≤ n) {gf : Nat} {lb : Array Value} (hg : a.eval g = .func (.func gf) #[] lb) (hFg : F.fn gf) (eg : ∀ args w, (callFunc gf args).run P w = .ok (.enter gf args) w)
    {enc : α → Value} {S : Nat → Prop} {E : Nat → Nat → α → World → Prop} (hseq : SeqCount F (n - 1) P gf lb enc S E w) (hps : ps.size = 1)
    (hE : ∀ m k x A B, E m k x A → KeepsUp m A B → E m k x B)
    (I : Nat → World → Prop) (hI : ∀ k A B, I k A → Below w.heap.size A B → I k B) (h0 : I 0 w) (a₁ : α → Act)
    (hassign : ∀ (l : Nat) (x : α) (W : World) (K : Act → World → Prop), K (a₁ x) W →
      assign.wpIn (F.inRound l) (n - 1 - 1) P (Exit.then K (fun _ _ _ => False)) { tmps := (ps.zip #[enc x]).foldl (fun t (p, v) => t.setIfInBounds p v) a.tmps, defers := [] } W)
    (hbody : ∀ (l k : Nat) (x : α) (W : World), I k W → E (w.heap.size + 2) k x W → w.heap.size + 2 ≤ W.heap.size → body.wpIn (F.inRound l) (n - 1 - 1) P (countPost w.heap.size (I (k + 1)) W) (a₁ x) W)
    (hdone : ∀ (D k : Nat) (W : World), w.heap.size ≤ D → S k → I k W → W.heap[D]? = some (.deferred (some [])) → Q .normal { a with defers := { target := .collected D, args := #[] } :: a.defers } W) :
    (Code.rangeFunc g ps assign body).wpIn F n P Q a w := by
  refine wpIn_rangeFunc ?_
  intro fn hfn
  rw [hro]
  obtain ⟨rec, hrec⟩ : ∃ rec : LoopState → Loop, rec = fun st => { state := st, pending := none, fn, tmps := a.tmps, params := ps, assign, body, defers := w.heap.size } := ⟨_, rfl⟩
  obtain ⟨W1, hW1⟩ : ∃ W1, (w.alloc (.deferred (some []))).alloc (.loop (rec .ready)) = W1 := ⟨_, rfl⟩
  have hsz : W1.heap.size = w.heap.size + 2 := by rw [← hW1]; simp
  have hb1 : Below w.heap.size w W1 := by rw [← hW1]; exact ((Below.refl _ w).alloc (Nat.le_refl _) _).alloc (by simp) _
  have hL1 : W1.heap[w.heap.size + 1]? = some (.loop (rec .ready)) := by
    rw [← hW1]; have := World.alloc_heap_new (w.alloc (.deferred (some []))) (.loop (rec .ready)); rwa [World.size_alloc] at this
  have hK1 : W1.heap[w.heap.size]? = some (.deferred (some [])) := by
    rw [← hW1]; exact (Below.heap_alloc _ _ _ (by simp)).trans (World.alloc_heap_new w _)
  refine ⟨w.heap.size + 1, [{ target := .collected w.heap.size, args := #[] }], W1, { target := .fn (.func gf) lb, args := #[.func (.yield (w.heap.size + 1)) #[] #[]] }, W1, gf,
    #[.func (.yield (w.heap.size + 1)) #[] #[]] ++ lb, W1, ?_, ?_, ?_, ?_, fun _ => h1, ?_⟩
  · rw [← hW1, hrec]; exact run_enterLoop_outer _ _ _ _ _
  · simp only [resolve, hg]
    simp [go_sem]
  · intro f' hf'; simp [Target.leads] at hf'; subst hf'; exact hFg
  · simp [invoke, go_sem, eg]
  · refine (hseq (w.heap.size + 1)
      (fun k W => I k W ∧ W.heap[w.heap.size + 1]? = some (.loop (rec .ready)) ∧ W.heap[w.heap.size]? = some (.deferred (some [])))
      W1 hb1 hsz
      (fun k A B hs hb => ⟨hI k A B hs.1 (hb.mono (by omega)), (hb.block _ (by omega)).trans hs.2.1, (hb.block _ (by omega)).trans hs.2.2⟩)
      ?_ ⟨hI 0 _ _ h0 hb1, hL1, hK1⟩).mono ?_
    · rintro k x W ⟨hi, hl, hk⟩ he
      have hlt : w.heap.size + 1 < W.heap.size := (Array.getElem?_eq_some_iff.1 hl).1
      have hy := run_yield (P := P) (args := #[enc x]) hl (by rw [hrec]; exact hps.symm)
      rw [hrec] at hy
      refine ⟨fn, _, assign, body, hy, roundIn_of_wpIn hfn (hassign _ x W _ ⟨_, run_beginRound hl (by rw [hrec]), ?_⟩)⟩
      obtain ⟨W2, hW2⟩ : ∃ W2, W.putObj (w.heap.size + 1) (.loop { rec .ready with state := .busy }) = W2 := ⟨_, rfl⟩
      have hl2 : W2.heap[w.heap.size + 1]? = some (.loop { rec .ready with state := .busy }) := by rw [← hW2]; exact World.putObj_heap_same hlt
      have hk2 : W2.heap[w.heap.size]? = some (.deferred (some [])) := by rw [← hW2]; exact (World.putObj_heap_other (by omega)).trans hk
      have hs2 : W2.heap.size = W.heap.size := by rw [← hW2]; simp
      have hu2 : KeepsUp W1.heap.size W W2 := by rw [← hW2]; exact KeepsUp.putObj _ (by omega) _
      have hi2 : I k W2 := by rw [← hW2]; exact hI k _ _ hi (below_putObj _ (by omega) _)
      rw [hW2]
      refine wpIn_mono (hbody _ k x W2 hi2 (by rw [← hsz]; exact hE _ k x _ _ he hu2) (by omega)) ?_
      rintro e a3 W3 hp
      cases e with
      | normal =>
        obtain ⟨hu3, hi3⟩ := hp
        have hl3 := (hu3.2 _ (by omega) (by omega)).trans hl2
        have hr := run_endRound (P := P) none hl3
        have hlt3 : w.heap.size + 1 < W3.heap.size := (Array.getElem?_eq_some_iff.1 hl3).1
        refine ⟨_, _, hr, rfl, ⟨hI _ _ _ hi3 (below_putObj _ (by omega) _), ?_, (World.putObj_heap_other (by omega)).trans ((hu3.2 _ (by omega) (by omega)).trans hk2)⟩, hu2.trans ((hu3.mono (by omega)).trans (KeepsUp.putObj _ (by omega) _))⟩
        rw [World.putObj_heap_same hlt3, hrec]; rfl
      | ret => exact hp.elim
      | exit id => exact hp.elim
      | goto t => exact hp.elim
      | panic ch => exact hp.elim
      | outgrown => exact hp.elim
    · rintro e W2 ⟨⟨v, rfl⟩, k, hS, hi, hl, hk⟩
      exact ⟨none, _, by have := run_endLoop (P := P) hl (by rw [hrec]; simp); rw [hrec] at this; exact this, hdone _ k _ (Nat.le_refl _) hS (hI _ _ _ hi (below_putObj _ (by omega) _)) ((World.putObj_heap_other (by omega)).trans hk)⟩
end Go.Proofs.Ytkebdelfklmigae
namespace Go.Proofs.Ytkebdelfklmigae

-- orders, one after the other (plain)
def swN (xs : List Nat) (i j : Nat) : List Nat := (xs.set i (xs.getD j 0)).set j (xs.getD i 0)
theorem swN_length (xs : List Nat) (i j : Nat) : (swN xs i j).length = xs.length := by simp [swN]
def revK (xs : List Nat) (lo hi : Nat) : Nat → List Nat
  | 0 => xs
  | f + 1 => if lo < hi then revK (swN xs lo hi) (lo + 1) (hi - 1) f else xs
theorem revK_end {xs : List Nat} {lo hi : Nat} (h : ¬ lo < hi) (f : Nat) : revK xs lo hi f = xs := by
  cases f with
  | zero => rfl
  | succ f => rw [revK, if_neg h]
theorem revK_length : ∀ (f : Nat) (xs : List Nat) (lo hi : Nat), (revK xs lo hi f).length = xs.length := by
  intro f
  induction f with
  | zero => intro xs lo hi; rfl
  | succ f ih => intro xs lo hi; rw [revK]; split
                 · rw [ih, swN_length]
                 · rfl
/-- the last place below k whose number is less than the next one -/
def riseAt (xs : List Nat) : Nat → Option Nat
  | 0 => none
  | k + 1 => if xs.getD (k + 1) 0 ≤ xs.getD k 0 then riseAt xs k else some k
/-- the last place up to k whose number is greater than x -/
def overAt (xs : List Nat) (x : Nat) : Nat → Nat
  | 0 => 0
  | k + 1 => if xs.getD (k + 1) 0 ≤ x then overAt xs x k else k + 1
def nextP (xs : List Nat) : Option (List Nat) :=
  match riseAt xs (xs.length - 1) with
  | none => none
  | some a => some (revK (swN xs a (overAt xs (xs.getD a 0) (xs.length - 1))) (a + 1) (xs.length - 1) xs.length)
def ordK : Nat → List Nat → List (List Nat)
  | 0, _ => []
  | f + 1, xs => xs :: match nextP xs with
    | none => []
    | some ys => ordK f ys
def ordL (n : Nat) : List (List Nat) := ordK 125 (List.range n)
/-- all orders that begin with h -/
def ordF (n : Nat) : Nat → List Nat → List (List Nat)
  | 0, h => [h]
  | f + 1, h => (List.range n).flatMap (fun i => if i ∈ h then [] else ordF n f (h ++ [i]))
theorem ordF_mem {n : Nat} : ∀ (t h : List Nat), (h ++ t).Perm (List.range n) → h ++ t ∈ ordF n t.length h := by
  intro t
  induction t with
  | nil => intro h _; rw [List.append_nil, List.length_nil, ordF]; simp
  | cons x t ih =>
    intro h hp
    have hn := hp.symm.nodup List.nodup_range
    have hx : x < n := by have := hp.mem_iff.1 (show x ∈ h ++ x :: t by simp); simpa using this
    have hxh : x ∉ h := fun hm => (List.nodup_append.1 hn).2.2 x hm x (by simp) rfl
    rw [List.length_cons, ordF, List.mem_flatMap]
    refine ⟨x, List.mem_range.2 hx, ?_⟩
    rw [if_neg hxh]
    have := ih (h ++ [x]) (by simpa using hp)
    simpa using this
def ordOk (n : Nat) : Bool := (ordL n == ordF n n []) && (ordL n)[0]? == some (List.range n) && (ordL n).all (fun l => l.length == n && l.all (fun x => decide (x < n)) && l.isPerm (List.range n))
  && (List.range (ordL n).length).all (fun k => nextP ((ordL n).getD k []) == (ordL n)[k + 1]?)
theorem ordOk_all : ((List.range 6).all ordOk) = true := by decide +kernel
structure OrdIs (n : Nat) : Prop where
  all : ∀ l : List Nat, l.Perm (List.range n) → l ∈ ordL n
  first : (ordL n)[0]? = some (List.range n)
  len : ∀ l ∈ ordL n, l.length = n ∧ (∀ x ∈ l, x < n) ∧ l.Perm (List.range n)
  next : ∀ k, k < (ordL n).length → nextP ((ordL n).getD k []) = (ordL n)[k + 1]?
theorem ord_is {n : Nat} (h : n ≤ 5) : OrdIs n := by
  have := List.all_eq_true.1 ordOk_all n (List.mem_range.2 (by omega))
  simp only [ordOk, Bool.and_eq_true, beq_iff_eq, List.all_eq_true] at this
  obtain ⟨⟨⟨h1, h2⟩, h3⟩, h4⟩ := this
  refine ⟨fun l hp => ?_, h2, fun l hl => ?_, fun k hk => h4 k (List.mem_range.2 hk)⟩
  · rw [h1]
    have hl : l.length = n := by have := hp.length_eq; simpa using this
    have := ordF_mem l [] (by simpa using hp)
    rw [hl] at this
    simpa using this
  · obtain ⟨⟨e1, e2⟩, e3⟩ := h3 l hl
    exact ⟨e1, fun x hx => by simpa using e2 x hx, List.isPerm_iff.1 e3⟩
theorem ordL_pos {n : Nat} (h : n ≤ 5) : 0 < (ordL n).length := (List.getElem?_eq_some_iff.1 (ord_is h).first).1
/-- the least so far of k spans, -1: of none -/
def lstT (sp : Nat → Int) : Nat → Int
  | 0 => -1
  | k + 1 => if lstT sp k < 0 ∨ sp k < lstT sp k then sp k else lstT sp k
theorem lstT_is {sp : Nat → Int} (h : ∀ k, 0 ≤ sp k) : ∀ k, (k = 0 → lstT sp k = -1) ∧ (0 < k → 0 ≤ lstT sp k) ∧ (∀ j, j < k → lstT sp k ≤ sp j) ∧ (0 < k → ∃ j, j < k ∧ lstT sp k = sp j) := by
  intro k
  induction k with
  | zero => exact ⟨fun _ => rfl, fun h => absurd h (by omega), fun j hj => absurd hj (by omega), fun h => absurd h (by omega)⟩
  | succ k ih =>
    obtain ⟨h1, h2, h3, h4⟩ := ih
    have hk := h k
    refine ⟨fun e => by omega, fun _ => ?_, fun j hj => ?_, fun _ => ?_⟩
    · rw [lstT]; split
      · exact hk
      · rename_i hc; omega
    · rw [lstT]; split
      · rename_i hc
        by_cases e : j = k
        · subst e; omega
        · have := h3 j (by omega); have := h2 (by omega); omega
      · rename_i hc
        by_cases e : j = k
        · subst e; omega
        · exact h3 j (by omega)
    · rw [lstT]; split
      · exact ⟨k, by omega, rfl⟩
      · rename_i hc
        have : 0 < k := by
          rcases Nat.eq_zero_or_pos k with e | e
          · have := h1 e; omega
          · exact e
        obtain ⟨j, hj, e⟩ := h4 this
        exact ⟨j, by omega, e⟩
theorem ord_least {a b : Nat → Int} (ha : ∀ x, 0 ≤ a x) (hb : ∀ x, 0 ≤ b x) {n : Nat} (h : n ≤ 5) : LeastO a b n (lstT (fun k => spanT a b ((ordL n).getD k [])) (ordL n).length) := by
  have hO := ord_is h
  have hp := ordL_pos h
  obtain ⟨_, _, h3, h4⟩ := lstT_is (sp := fun k => spanT a b ((ordL n).getD k [])) (fun k => span_nn ha hb _) (ordL n).length
  obtain ⟨j, hj, e⟩ := h4 hp
  refine ⟨⟨(ordL n).getD j [], (hO.len _ ?_).2.2, e.symm⟩, fun l hl => ?_⟩
  · rw [List.getD_eq_getElem?_getD, List.getElem?_eq_getElem hj]; exact List.getElem_mem hj
  · obtain ⟨i, hi, rfl⟩ := List.getElem_of_mem (hO.all l hl)
    have := h3 i hi
    simp only [List.getD_eq_getElem?_getD, List.getElem?_eq_getElem hi, Option.getD_some] at this
    exact this
theorem ord_tried {a b : Nat → Int} (ha : ∀ x, 0 ≤ a x) (hb : ∀ x, 0 ≤ b x) {n : Nat} (h : n ≤ 5) : lstT (fun k => spanT a b ((ordL n).getD k [])) (ordL n).length = fromT a b n n [] :=
  (ord_least ha hb h).uniq (tried_is ha hb n)
end Go.Proofs.Ytkebdelfklmigae
