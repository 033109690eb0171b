import Derived.Test.YthmifadnfaajbadRows
import Derived.WalkKit
import Derived.LoopTactic
import Derived.Outline
import Derived.WalkSpells
import Derived.WalkLawsBesides
import Derived.ProofKit
import Derived.Lib.Hide
import Derived.IntWalk
import Derived.Deep.QuietTactic
import Derived.BigQuiet
import Derived.Test.YthmifadnfaajbadM0
import Derived.Test.YthmifadnfaajbadM1
import Derived.Test.YthmifadnfaajbadM8
import Derived.Test.YthmifadnfaajbadM10
import Derived.Test.YthmifadnfaajbadM11
import Derived.Test.YthmifadnfaajbadM12
import Derived.Test.YthmifadnfaajbadM6
import Derived.Test.YthmifadnfaajbadM7
namespace Go.Proofs.Ythmifadnfaajbad
open Go.RowKit Go.WideShapes

theorem drew_more {w w' : World} (h : Drew w w') (n : Nat) : Drew w (w'.drewN n) := by
  obtain ⟨q, e⟩ := h
  exact ⟨q + n, by rw [e, World.drewN_drewN]⟩
theorem leftA_snoc : ∀ (ss : List Int) (R : Int) (c : List Int) (s x : Int), c.length = ss.length → leftA (ss ++ [s]) R (c ++ [x]) = leftA ss R c - x * s
  | [], R, [], s, x, _ => rfl
  | [], R, _ :: _, _, _, h => by simp at h
  | _ :: _, R, [], _, _, h => by simp at h
  | s' :: ss, R, c' :: c, s, x, h => by
    show leftA (ss ++ [s]) (R - c' * s') (c ++ [x]) = leftA ss (R - c' * s') c - x * s
    exact leftA_snoc ss _ c s x (by simpa using h)
theorem leftA_take {ss c : List Int} {R : Int} (hl : c.length = ss.length) {i : Nat} (hi : i < ss.length) : leftA (ss.take (i + 1)) R (c.take (i + 1)) = leftA (ss.take i) R (c.take i) - c.getD i 0 * ss.getD i 0 := by
  have h1 : ss[i]? = some (ss.getD i 0) := by rw [List.getD_eq_getElem?_getD, List.getElem?_eq_getElem hi]; rfl
  have h2 : c[i]? = some (c.getD i 0) := by rw [List.getD_eq_getElem?_getD, List.getElem?_eq_getElem (by omega)]; rfl
  rw [take_get h1, take_get h2, leftA_snoc _ _ _ _ _ (by rw [List.length_take, List.length_take]; omega)]
theorem leftA_bd {ss c : List Int} {R : Int} (hl : c.length = ss.length) (hs : ∀ s ∈ ss, 1 ≤ s ∧ s ≤ 20) (hc : ∀ x ∈ c, 0 ≤ x ∧ x ≤ 20) : ∀ i : Nat, i ≤ ss.length → R - 400 * (i : Int) ≤ leftA (ss.take i) R (c.take i) ∧ leftA (ss.take i) R (c.take i) ≤ R
  | 0, _ => by simp [leftA]
  | i + 1, h => by
    have ih := leftA_bd (R := R) hl hs hc i (by omega)
    rw [leftA_take hl (by omega)]
    have h1 := hs (ss.getD i 0) (by rw [List.getD_eq_getElem?_getD, List.getElem?_eq_getElem (by omega)]; exact List.getElem_mem _)
    have h2 := hc (c.getD i 0) (by rw [List.getD_eq_getElem?_getD, List.getElem?_eq_getElem (by omega)]; exact List.getElem_mem _)
    have h3 : 0 ≤ c.getD i 0 * ss.getD i 0 ∧ c.getD i 0 * ss.getD i 0 ≤ 20 * 20 := ⟨Int.mul_nonneg h2.1 (by omega), Int.mul_le_mul h2.2 h1.2 (by omega) (by omega)⟩
    push_cast
    omega
theorem less_step {ss : List Int} {L s : Int} {i : Nat} (h : lessAll (ss.take i) L = true) (hx : ss[i]? = some s) (hs : L < s) : lessAll (ss.take (i + 1)) L = true := by
  unfold lessAll at h ⊢
  rw [take_get hx, List.all_append, h]
  simp [hs]
theorem less_false {ss : List Int} {L s : Int} {i : Nat} (hx : ss[i]? = some s) (hs : ¬ L < s) : lessAll ss L = false := by
  unfold lessAll
  rw [List.all_eq_false]
  exact ⟨s, List.mem_of_getElem? hx, by simp; omega⟩
set_option maxRecDepth 100000 in
set_option maxHeartbeats 2000000 in
theorem full_any (S S2 : Nat → Prop) (a a2 : Option Addr) (len cap l2 cap2 : Nat) (ss cs : List Int) (R : Int) (w : World) (h : IntsAt w S a len ss) (h2 : IntsAt w S2 a2 l2 cs) (hl : cs.length = ss.length) (h3 : len ≤ 3) (hR : 0 ≤ R ∧ R ≤ 20) (hs : ∀ s ∈ ss, 1 ≤ s ∧ s ≤ 20) (hc : ∀ x ∈ cs, 0 ≤ x ∧ x ≤ 20) :
    Calls Try.prog 17 #[.slice a len cap, .int .i64 R, .slice a2 l2 cap2] w fun e w' => e = .returned (.bool (lessAll ss (leftA ss R cs))) ∧ Below w.heap.size w w' := by
  have HL := Lib.hid h.lenEq
  have hl2 : l2 = len := by have := h.lenEq; have := h2.lenEq; omega
  subst hl2
  have HBD := Lib.hid (fun i hi => leftA_bd (R := R) hl hs hc i hi)
  have HTK := Lib.hid (fun i (hi : i < ss.length) => leftA_take (R := R) hl hi)
  have HEN := Lib.hid (show leftA (ss.take l2) R (cs.take l2) = leftA ss R cs by rw [List.take_of_length_le (by rw [HL.out]; exact Nat.le_refl _), List.take_of_length_le (by rw [h2.lenEq]; exact Nat.le_refl _)])
  have HSB := Lib.hid hs
  have HCB := Lib.hid hc
  have HH := Lib.hid h
  have HH2 := Lib.hid h2
  have HZ := Lib.hid (show leftA (ss.take 0) R (cs.take 0) = R by simp [leftA])
  have HLL := Lib.hid (fun L => show lessAll (ss.take l2) L = lessAll ss L by rw [List.take_of_length_le (by rw [HL.out]; exact Nat.le_refl _)])
  generalize hlf : (fun i => leftA (ss.take i) R (cs.take i)) = lf at *
  have hlf' : ∀ i, leftA (ss.take i) R (cs.take i) = lf i := fun i => by rw [← hlf]
  have HB2 : Hid (∀ i : Nat, i ≤ ss.length → R - 400 * (i : Int) ≤ lf i ∧ lf i ≤ R) := Lib.hid (fun i hi => by rw [← hlf']; exact HBD.out i hi)
  have HT2 : Hid (∀ i, i < ss.length → lf (i + 1) = lf i - cs.getD i 0 * ss.getD i 0) := Lib.hid (fun i hi => by rw [← hlf', ← hlf']; exact HTK.out i hi)
  have HE2 : Hid (lf l2 = leftA ss R cs) := Lib.hid (by rw [← hlf']; exact HEN.out)
  have HZ2 : Hid (lf 0 = R) := Lib.hid (by rw [← hlf']; exact HZ.out)
  generalize leftA ss R cs = LA at *
  clear h h2 hs hc HBD HTK HEN HZ hlf hlf' hl
  go_enter Try.func17, Try.ntmps17
  go_wp2_with fail
  go_loopw [7, 8] (fun s7 s8 wr => ∃ i : Nat, i ≤ l2 ∧ s8 = .int .i64 i ∧ s7 = .int .i64 (lf i) ∧ Drew w wr) (fun _ s8 _ => l2 - (intOf s8).toNat)
  case atStart => exact ⟨0, Nat.zero_le _, rfl, by rw [HZ2.out], Drew.refl w⟩
  case round =>
    obtain ⟨i, hi, rfl, rfl, hd⟩ := hrel
    have hb := HB2.out i (by rw [HL.out]; exact hi)
    have HD := Lib.hid hd
    by_cases hlt : i < l2
    · have hiI : (i : Int) < (l2 : Int) := by omega
      obtain ⟨b, off, s, rfl, hx, hcx⟩ := (Drew.ints HH.out hd).get hlt
      obtain ⟨b2, off2, x, rfl, hy, hcy⟩ := (Drew.ints HH2.out hd).get hlt
      have h1 := HSB.out s (List.mem_of_getElem? hx)
      have h2 := HCB.out x (List.mem_of_getElem? hy)
      have h3 : 0 ≤ x * s ∧ x * s ≤ 20 * 20 := ⟨Int.mul_nonneg h2.1 (by omega), Int.mul_le_mul h2.2 h1.2 (by omega) (by omega)⟩
      have HST := Lib.hid (show lf (i + 1) = lf i - x * s by rw [HT2.out i (by rw [HL.out]; exact hlt), getD_of hx, getD_of hy])
      obtain ⟨p, hp⟩ : ∃ p, x * s = p := ⟨_, rfl⟩
      rw [hp] at h3 HST
      have hw1 : IntKind.i64.wrap (x * s) = p := by rw [hp]; exact IntWalk.i64_in _ (by omega)
      obtain ⟨L, hL⟩ : ∃ L, lf i = L := ⟨_, rfl⟩
      rw [hL] at hb HST ⊢
      have hw2 : IntKind.i64.wrap (L - p) = L - p := IntWalk.i64_in _ (by omega)
      clear hd hx hy hp hL
      go_wp2_with fail
      go_quiet (fail)
      clear hw1 hw2
      go_wp2_with fail
      go_roundw
      case rel => exact ⟨i + 1, by omega, by go_num, by rw [HST.out], drew_more HD.out nq⟩
      case measure => simp [intOf]; omega
    · obtain rfl : i = l2 := by omega
      have hiI : ¬ (i : Int) < (i : Int) := by omega
      rw [HE2.out] at hb ⊢
      clear hd
      go_wp2_with fail
      generalize wr = wz at *
      go_loop [9] (fun s9 => ∃ j : Nat, j ≤ i ∧ s9 = .int .i64 j ∧ lessAll (ss.take j) LA = true) (fun s9 => i - (intOf s9).toNat)
      case atStart => exact ⟨0, Nat.zero_le _, rfl, rfl⟩
      case round =>
        obtain ⟨j, hj, rfl, hla⟩ := hrel
        have HLA := Lib.hid hla
        clear hla
        by_cases hjl : j < i
        · have hjI : (j : Int) < (i : Int) := by omega
          obtain ⟨b, off, s, rfl, hx, hcx⟩ := (Drew.ints HH.out HD.out).get hjl
          have HX := Lib.hid hx
          clear hx
          by_cases hsl : s ≤ LA
          · have HF := Lib.hid (less_false HX.out (L := LA) (by omega))
            go_wp2_with fail
            go_ret
            exact ⟨ret_bool HF.out.symm, HD.out.below _⟩
          · have HF := Lib.hid (less_step HLA.out HX.out (by omega))
            go_wp2_with fail
            go_round
            case rel => exact ⟨j + 1, by omega, by go_num, HF.out⟩
            case measure => simp [intOf]; omega
        · obtain rfl : j = i := by omega
          have hjI : ¬ (j : Int) < (j : Int) := by omega
          have HF := Lib.hid (show lessAll ss LA = true by rw [← HLL.out]; exact HLA.out)
          go_wp2_with fail
          go_ret
          exact ⟨ret_bool HF.out.symm, HD.out.below _⟩
theorem nodup_take {ss : List Int} {i : Nat} {x : Int} (h : (ss.take i).Nodup) (hx : ss[i]? = some x) (hne : ∀ j, j < i → ss.getD j 0 ≠ x) : (ss.take (i + 1)).Nodup := by
  have hi := (List.getElem?_eq_some_iff.1 hx).1
  rw [take_get hx, List.nodup_append]
  refine ⟨h, by simp, fun a ha b hb e => ?_⟩
  rw [List.mem_singleton] at hb
  subst hb
  obtain ⟨j, hj⟩ := List.mem_iff_getElem?.1 ha
  have hlt := (List.getElem?_eq_some_iff.1 hj).1
  rw [List.length_take] at hlt
  rw [List.getElem?_take, if_pos (by omega)] at hj
  exact hne j (by omega) (by rw [getD_of hj]; exact e)
theorem dup_not {ss : List Int} {k i : Nat} {x : Int} (hki : k < i) (h1 : ss[k]? = some x) (h2 : ss[i]? = some x) : ¬ ss.Nodup := fun h => by
  obtain ⟨a, b⟩ := List.getElem?_eq_some_iff.1 h1
  obtain ⟨c, d⟩ := List.getElem?_eq_some_iff.1 h2
  have := List.pairwise_iff_getElem.1 h k i a c hki
  exact this (b.trans d.symm)
/-- those that pass, of a list of rows: the rows themselves are not copied -/
structure FiltP (w w3 wr : World) (v : Value) (rows : List (List Int)) : Prop where
  outer : ∃ us : List Value, wr.ownsRow w3.heap.size 23 1 v rows.length us ∧ ∀ (q : Nat) (u : Value), us[q]? = some u → ∃ (g c : Nat) (r : List Int), rows[q]? = some r ∧ u = .slice (some ⟨g, 0, none⟩) r.length c ∧ r.length ≤ c ∧
    IntsAt w3 (fun b => w.heap.size ≤ b ∧ b < w3.heap.size) (some ⟨g, 0, none⟩) r.length r
  below : Below w3.heap.size w3 wr
theorem FiltP.push {w w3 w' : World} {v' : Value} {rows : List (List Int)} {us : List Value} {g c : Nat} {r : List Int}
    (hus : ∀ (q : Nat) (u : Value), us[q]? = some u → ∃ (g c : Nat) (r : List Int), rows[q]? = some r ∧ u = .slice (some ⟨g, 0, none⟩) r.length c ∧ r.length ≤ c ∧ IntsAt w3 (fun b => w.heap.size ≤ b ∧ b < w3.heap.size) (some ⟨g, 0, none⟩) r.length r)
    (hul : us.length = rows.length) (hown : w'.ownsRow w3.heap.size 23 1 v' (rows.length + 1) (us ++ [.slice (some ⟨g, 0, none⟩) r.length c])) (hrc : r.length ≤ c) (hri : IntsAt w3 (fun b => w.heap.size ≤ b ∧ b < w3.heap.size) (some ⟨g, 0, none⟩) r.length r) (hb : Below w3.heap.size w3 w') : FiltP w w3 w' v' (rows ++ [r]) := by
  refine ⟨⟨us ++ [.slice (some ⟨g, 0, none⟩) r.length c], by rw [List.length_append, List.length_singleton]; exact hown, fun q u hq => ?_⟩, hb⟩
  by_cases h : q < us.length
  · rw [List.getElem?_append_left h] at hq
    obtain ⟨g, c, r, e1, e2⟩ := hus q u hq
    exact ⟨g, c, r, by rw [List.getElem?_append_left (by omega)]; exact e1, e2⟩
  · rw [List.getElem?_append_right (by omega)] at hq
    have h1 := (List.getElem?_eq_some_iff.1 hq).1
    have h0 : q = us.length := by simp at h1; omega
    subst h0
    rw [Nat.sub_self] at hq
    injection hq with hq
    exact ⟨g, c, r, by rw [List.getElem?_append_right (by omega), hul, Nat.sub_self]; rfl, hq.symm, hrc, hri⟩
theorem FiltP.rows {w w3 wr : World} {v : Value} {rows : List (List Int)} (h : FiltP w w3 wr v rows) (h3 : w.heap.size ≤ w3.heap.size) {a : Option Addr} {k c : Nat} (hv : v = .slice a k c) (hs : k ≤ 1048576) : RowsAt wr (fun b => w.heap.size ≤ b ∧ b < wr.heap.size) a k rows ∧ k ≤ c := by
  obtain ⟨us, h1, h2⟩ := h.outer
  obtain ⟨a', c', e, hc⟩ := own_slice h1
  have hul : us.length = rows.length := by simpa using h1.1
  rw [hv] at e
  injection e with e1 e2 e3
  subst e1 e2 e3
  have hbz := h.below.size
  refine ⟨⟨rfl, by omega, fun h0 => ?_⟩, hc⟩
  obtain ⟨G, C, e, hb, hlt⟩ := h1.form h0
  rw [hv] at e
  injection e with e1 _ e3
  subst e1 e3
  rw [hv] at h1
  refine ⟨G, 0, rfl, ⟨by omega, hlt⟩, fun i r hi => ?_⟩
  have hir := (List.getElem?_eq_some_iff.1 hi).1
  obtain ⟨u, hu⟩ : ∃ u, us[i]? = some u := ⟨us[i]'(by omega), List.getElem?_eq_getElem _⟩
  obtain ⟨g, c, r', f1, f2, f3, f4⟩ := h2 i u hu
  rw [hi] at f1
  injection f1 with f1
  subst f1 f2
  exact ⟨some ⟨g, 0, none⟩, r.length, c, by rw [Nat.zero_add]; exact (h1.cellAt i (by omega)).trans hu, f3, f4.to (fun q hq => ⟨⟨hq.1, by omega⟩, h.below.block q hq.2⟩)⟩
def RowsP11 (w : World) (rows : List (List Int)) (e : Ending) (w' : World) : Prop := ∃ (a : Option Addr) (len cap : Nat), e = .returned (.slice a len cap) ∧ RowsAt w' (fun b => w.heap.size ≤ b ∧ b < w'.heap.size) a len rows ∧ len ≤ cap ∧ Below w.heap.size w w'
theorem rowsP11_nil {w w' : World} (h : Below w.heap.size w w') : RowsP11 w [] (.returned (.slice none 0 0)) w' := ⟨none, 0, 0, rfl, ⟨rfl, Nat.zero_le _, fun h => absurd h (by omega)⟩, Nat.le_refl _, h⟩
set_option maxRecDepth 100000 in
set_option maxHeartbeats 4000000 in
theorem patternsOf_spec (a : Option Addr) (len cap : Nat) (ss : List Int) (R : Int) (w : World) (h : IntsAt w (· < w.heap.size) a len ss) (hcap : len ≤ cap) :
    Calls Try.prog 7 #[.slice a len cap, .int .i64 R] w (RowsP11 w (patRes ss R)) := by
  have HL := Lib.hid h.lenEq
  have hs := h.small
  cases hv : cutsM ss R
  · have HR := Lib.hid (show patRes ss R = [] from patRes_no (by unfold sizesM; rw [hv]; rfl))
    have HVJ := Lib.hid (vcuts (cap := cap) hv w h)
    rw [HR.out]
    clear h
    go_enter Try.func7, Try.ntmps7
    go_wp2_with (first | (go_at_call 15; refine HVJ.out.mono ?_; rintro e w' ⟨rfl, rfl⟩) | fail)
    go_ret
    exact rowsP11_nil (Below.refl _ _)
  · have HVJ := Lib.hid (vcuts (cap := cap) hv w h)
    by_cases h0 : len = 0
    · have HR := Lib.hid (show patRes ss R = [] from patRes_no (by unfold sizesM; rw [decide_eq_false (p := 1 ≤ ss.length ∧ ss.length ≤ 3) (by rw [HL.out]; omega)]; simp))
      rw [HR.out]
      have h0e : ((len : Int) == 0) = true := by simp; omega
      clear h
      subst h0
      go_enter Try.func7, Try.ntmps7
      go_wp2_with (first | (go_at_call 15; refine HVJ.out.mono ?_; rintro e w' ⟨rfl, rfl⟩) | fail)
      go_ret
      exact rowsP11_nil (Below.refl _ _)
    · by_cases h3 : len > 3
      · have HR := Lib.hid (show patRes ss R = [] from patRes_no (by unfold sizesM; rw [decide_eq_false (p := 1 ≤ ss.length ∧ ss.length ≤ 3) (by rw [HL.out]; omega)]; simp))
        rw [HR.out]
        have h0e : ((len : Int) == 0) = false := by simp; omega
        have h3I : (3 : Int) < (len : Int) := by omega
        clear h
        go_enter Try.func7, Try.ntmps7
        go_wp2_with (first | (go_at_call 15; refine HVJ.out.mono ?_; rintro e w' ⟨rfl, rfl⟩) | fail)
        go_ret
        exact rowsP11_nil (Below.refl _ _)
      · obtain ⟨hR1, hR2, hl7, hT⟩ := cuts_get hv
        have h0e : ((len : Int) == 0) = false := by simp; omega
        have h3I : ¬ (3 : Int) < (len : Int) := by omega
        have HNO := Lib.hid (fun (hd : ¬ ss.Nodup) => show patRes ss R = [] from patRes_no (by unfold sizesM; rw [decide_eq_false hd]; simp))
        have HYES := Lib.hid (fun (hd : (ss.take len).Nodup) => show sizesM ss R = true by
          rw [List.take_of_length_le (by rw [HL.out]; exact Nat.le_refl _)] at hd
          unfold sizesM
          rw [hv, decide_eq_true hd, decide_eq_true (p := 1 ≤ ss.length ∧ ss.length ≤ 3) (by rw [HL.out]; omega)]; rfl)
        have HSB := Lib.hid (show ∀ s ∈ ss, 1 ≤ s ∧ s ≤ 20 from fun s hs => by
          obtain ⟨i, hi⟩ := List.mem_iff_getElem?.1 hs
          have := hT i (List.getElem?_eq_some_iff.1 hi).1
          unfold lenT at this
          rw [getD_of hi] at this
          omega)
        have HH := Lib.hid h
        clear h hT hl7
        go_enter Try.func7, Try.ntmps7
        go_wp2_with (first | (go_at_call 15; refine HVJ.out.mono ?_; rintro e w' ⟨rfl, rfl⟩) | fail)
        clear hv h0e h3I HVJ
        go_loopw [5] (fun s5 wr => ∃ i : Nat, i ≤ len ∧ s5 = .int .i64 i ∧ (ss.take i).Nodup ∧ Drew w wr) (fun s5 _ => len - (intOf s5).toNat)
        case atStart => exact ⟨0, Nat.zero_le _, rfl, by simp, Drew.refl _⟩
        case round =>
          obtain ⟨i, hi, rfl, hnd, hd⟩ := hrel
          obtain ⟨wo, rfl⟩ : ∃ wo : World, wo = wr := ⟨_, rfl⟩
          have HND := Lib.hid hnd
          have HD := Lib.hid hd
          clear hnd hd
          by_cases hlt : i < len
          · have hiI : (i : Int) < (len : Int) := by omega
            obtain ⟨b, off, x, rfl, hx, _⟩ := HH.out.get hlt
            have HX := Lib.hid hx
            clear hx
            go_wp2_with fail
            go_loopw [6] (fun s6 wr => ∃ k : Nat, k ≤ i ∧ s6 = .int .i64 k ∧ (∀ j, j < k → ss.getD j 0 ≠ x) ∧ Drew w wr) (fun s6 _ => i - (intOf s6).toNat)
            case atStart => exact ⟨0, Nat.zero_le _, rfl, fun j hj => by omega, HD.out⟩
            case round =>
              clear HD
              obtain ⟨k, hk, rfl, hne, hd⟩ := hrel
              obtain ⟨wi, rfl⟩ : ∃ wi : World, wi = wr := ⟨_, rfl⟩
              have HNE := Lib.hid hne
              clear hne
              by_cases hkl : k < i
              · have hkI : (k : Int) < (i : Int) := by omega
                have hkL : (k : Int) < (len : Int) := by omega
                obtain ⟨b1, off1, y, e1, hy, hcy⟩ := (Drew.ints HH.out hd).get (k := k) (by omega)
                obtain ⟨b2, off2, x2, e2, hx2, hcx⟩ := (Drew.ints HH.out hd).get (k := i) hlt
                injection e1 with e1; injection e1 with e11 e12
                injection e2 with e2; injection e2 with e21 e22
                subst e11 e12 e21 e22
                have hxe : x2 = x := by rw [HX.out] at hx2; injection hx2 with hx2; exact hx2.symm
                subst hxe
                have HD := Lib.hid hd
                have HY := Lib.hid hy
                clear hd hy hx2
                by_cases hyx : y = x2
                · have HR := Lib.hid (HNO.out (dup_not hkl HY.out (by rw [hyx]; exact HX.out)))
                  subst hyx
                  go_wp2_with fail
                  go_quiet (fail)
                  go_wp2_with fail
                  go_ret
                  rw [HR.out]
                  exact rowsP11_nil (Drew.below (drew_more HD.out _) _)
                · have HS := Lib.hid (show ∀ j, j < k + 1 → ss.getD j 0 ≠ x2 from fun j hj => by
                    by_cases e : j = k
                    · rw [e, getD_of HY.out]; exact hyx
                    · exact HNE.out j (by omega))
                  have hyb : (y == x2) = false := beq_false_of_ne hyx
                  go_wp2_with fail
                  go_quiet (fail)
                  go_wp2_with fail
                  go_roundw
                  case rel => exact ⟨k + 1, by omega, by go_num, HS.out, drew_more HD.out _⟩
                  case measure => simp [intOf]; omega
              · obtain rfl : k = i := by omega
                have hkI : ¬ (k : Int) < (k : Int) := by omega
                have HD := Lib.hid hd
                have HN2 := Lib.hid (nodup_take HND.out HX.out HNE.out)
                clear hd
                go_wp2_with fail
                go_roundw
                case rel => exact ⟨k + 1, by omega, by go_num, HN2.out, HD.out⟩
                case measure => simp [intOf]; omega
          · obtain rfl : i = len := by omega
            have hiI : ¬ (i : Int) < (i : Int) := by omega
            have hz := HD.out
            have hsz := hz.size
            have hsm := HYES.out HND.out
            have HPR := Lib.hid (patRes_yes hsm)
            have HSS := Lib.hid (fun c hc => patS_mem ss R c (by omega) (fun s hs => (HSB.out s hs).1) hc)
            have hpl : (patS ss R).length ≤ 9261 := by
              have a := patS_len ss R hR2 (fun s hs => (HSB.out s hs).1)
              have b : 21 ^ ss.length ≤ 21 ^ 3 := Nat.pow_le_pow_right (by omega) (by rw [HL.out]; omega)
              have d : (21 : Nat) ^ 3 = 9261 := by decide
              omega
            have HPF := Lib.hid (patFrom_spec ss R wo a i cap ((Drew.ints HH.out hz).to (fun q hq => ⟨by rw [hsz]; exact hq, rfl⟩)) hcap (by omega) (by omega) hR2 HSB.out)
            clear hz hsm
            go_wp2_with fail
            refine HPF.out.mono ?_
            rintro e w3 ⟨vL, rfl, hpL, hb3⟩
            obtain ⟨aL, cL, rfl, hcL⟩ := hpL.slice
            have HB3 := Lib.hid (show Below w.heap.size w w3 from (HD.out.below _).trans (hb3.mono (by rw [hsz]; exact Nat.le_refl _)))
            rw [hsz] at hpL
            obtain ⟨rl, hrl⟩ : ∃ r, patS ss R = r := ⟨_, rfl⟩
            rw [hrl] at hpL hpl HPR HSS hcL ⊢
            have HPL := Lib.hid hpL
            have HF0 := Lib.hid (show FiltP w w3 (w3.alloc (.cells #[] 23)) (.slice (some ⟨w3.heap.size, 0, none⟩) 0 0) [] from ⟨⟨[], World.ownsRow_made w3 #[] 0 (Nat.le_refl _) (Nat.zero_le _) rfl, fun q u h => by simp at h⟩, (Below.refl _ _).alloc (Nat.le_refl _) _⟩)
            clear hpL hb3 hrl HPF hsz
            go_wp2_with fail
            go_loopw [8, 9] (fun s8 s9 wr => ∃ j : Nat, j ≤ rl.length ∧ s9 = .int .i64 j ∧ ∃ (m cp : Nat) (ax : Option Addr), s8 = .slice ax m cp ∧ FiltP w w3 wr (.slice ax m cp) ((rl.take j).filter (fun c => lessAll ss (leftA ss R c)))) (fun _ s9 _ => rl.length - (intOf s9).toNat)
            case atStart => exact ⟨0, Nat.zero_le _, rfl, 0, 0, _, rfl, by simpa using HF0.out⟩
            case round =>
              clear HF0
              obtain ⟨j, hj, rfl, m, cp, ax, rfl, hf⟩ := hrel
              obtain ⟨wi, rfl⟩ : ∃ wi : World, wi = wr := ⟨_, rfl⟩
              have HF := Lib.hid hf
              by_cases hjl : j < rl.length
              · have hjI : (j : Int) < (rl.length : Int) := by omega
                obtain ⟨G, C, g, c, r, e, hr, hcell, hrc, hri⟩ := HPL.out.get hjl
                injection e with e1 _ e2
                subst e1 e2
                have hGl : G < w3.heap.size := World.block_lt_of_cell? w3 _ hcell
                have hcell1 : wi.cell? ⟨G, j, none⟩ = some (.slice (some ⟨g, 0, none⟩) r.length c) := (hf.below.cell (p := ⟨G, j, none⟩) hGl).trans hcell
                obtain ⟨hrm, hrx, _⟩ := HSS.out r (List.mem_of_getElem? hr)
                have hri1 : IntsAt wi (fun b => w.heap.size ≤ b ∧ b < w3.heap.size) (some ⟨g, 0, none⟩) r.length r := hri.to (fun q hq => ⟨hq, hf.below.block q hq.2⟩)
                have hhi : IntsAt wi (· < w.heap.size) a i ss := HH.out.to (fun q hq => ⟨hq, (hf.below.block q (by have := HB3.out.size; omega)).trans (HB3.out.block q hq)⟩)
                have HFU := Lib.hid (full_any _ _ a (some ⟨g, 0, none⟩) i cap r.length c ss r R wi hhi hri1 hrm (by omega) ⟨by omega, hR2⟩ HSB.out (fun x hx => by have := hrx x hx; omega))
                have HTK := Lib.hid (show (rl.take (j + 1)).filter (fun c => lessAll ss (leftA ss R c)) = (rl.take j).filter (fun c => lessAll ss (leftA ss R c)) ++ (if lessAll ss (leftA ss R r) = true then [r] else []) by
                  rw [take_get hr, List.filter_append]
                  congr 1
                  cases e : lessAll ss (leftA ss R r)
                  · simp [e]
                  · simp [e])
                have HRI := Lib.hid hri
                have hfl : ((rl.take j).filter (fun c => lessAll ss (leftA ss R c))).length ≤ 9261 := Nat.le_trans (List.length_filter_le _ _) (by rw [List.length_take]; omega)
                generalize (rl.take j).filter (fun c => lessAll ss (leftA ss R c)) = rj at *
                clear hri hri1 hhi hf hrx hrm
                cases hq : lessAll ss (leftA ss R r)
                · rw [hq] at HFU HTK
                  go_wp2_with (first | (go_at_call 17; refine HFU.out.mono ?_; rintro e w4 ⟨rfl, hb4⟩) | fail)
                  have HX := Lib.hid (show FiltP w w3 w4 (.slice ax m cp) rj by
                    obtain ⟨⟨us, h1, h2⟩, hb⟩ := HF.out
                    exact ⟨⟨us, own_keep h1 (fun q _ _ hq => hb4.block q hq), h2⟩, hb.trans (hb4.mono hb.size)⟩)
                  clear hb4
                  go_roundw
                  case rel => exact ⟨j + 1, by omega, by go_num, m, cp, ax, rfl, by rw [HTK.out]; simpa using HX.out⟩
                  case measure => simp [intOf]; omega
                · rw [hq] at HFU HTK
                  obtain ⟨i1, hj1, hy0, hy1, hy2⟩ := info_parts Try.infoIntsPt
                  obtain ⟨⟨us, h1, h2⟩, hb⟩ := HF.out
                  have HUL := Lib.hid (show us.length = rj.length by simpa using h1.1)
                  have H1 := Lib.hid h1
                  have H2 := Lib.hid h2
                  have HBB := Lib.hid hb
                  have hm : m = rj.length := by
                    obtain ⟨a', c', e, _⟩ := own_slice h1
                    injection e
                  subst hm
                  have HC1 := Lib.hid hcell1
                  have hGw : G < wi.heap.size := by have := hb.size; omega
                  clear h1 h2 hb
                  go_wp2_with fail
                  refine HFU.out.mono ?_
                  rintro e w4 ⟨rfl, hb4⟩
                  have hcell4 := (hb4.cell (p := ⟨G, j, none⟩) hGw).trans HC1.out
                  have HOW := Lib.hid (own_keep H1.out (w' := w4) (fun q _ _ hq => hb4.block q hq))
                  have hsz4 : w3.heap.size ≤ w4.heap.size := Nat.le_trans HBB.out.size hb4.size
                  have HB4 := Lib.hid (HBB.out.trans (hb4.mono HBB.out.size))
                  have HS4 := Lib.hid (show (w4.alloc (.cells #[.slice (some ⟨g, 0, none⟩) r.length c] 23)).heap.size = w4.heap.size + 1 by simp)
                  clear hb4 hcell1
                  go_wp2_with (at_builtin; refine wpList_append_own _ rfl _ _ 27 rfl w3.heap.size 23 i1 (.slice none 0 0) 1 24 Try.underlying27 hj1 hy0 hy1 hy2 rfl (by decide) (.slice ax rj.length cp) rj.length us rfl (HOW.out.alloc _) ⟨w4.heap.size, 0, none⟩ 1 1 [.slice (some ⟨g, 0, none⟩) r.length c] rfl rfl (one_new w4 (.slice (some ⟨g, 0, none⟩) r.length c) 23) (fun u hu => by rw [List.mem_singleton.1 hu]; rfl) (by unfold maxLen; omega) (by omega) (by have := HS4.out; omega) ?_)
                  intro v' w' hown hgr _
                  obtain ⟨a', c', rfl, _⟩ := own_slice hown
                  have HX := Lib.hid (FiltP.push H2.out HUL.out hown hrc HRI.out ((HB4.out.alloc hsz4 _).grown hgr (by have := HS4.out; omega) (fun q hq => (HOW.out.lt q hq).1)))
                  clear hown hgr hcell4
                  go_wp2_with fail
                  go_roundw
                  case rel => exact ⟨j + 1, by omega, by go_num, _, c', a', rfl, by rw [HTK.out]; exact HX.out⟩
                  case measure => simp [intOf]; omega
              · obtain rfl : j = rl.length := by omega
                have hjI : ¬ (rl.length : Int) < (rl.length : Int) := by omega
                clear hf
                go_wp2_with fail
                go_ret
                have hf := HF.out
                rw [List.take_of_length_le (Nat.le_refl _), ← HPR.out] at hf
                have hmm : m ≤ 1048576 := by
                  obtain ⟨⟨us, h1, _⟩, _⟩ := hf
                  obtain ⟨a', c', e, _⟩ := own_slice h1
                  injection e with _ e _
                  have := patRes_len ss R
                  omega
                obtain ⟨h1, h2⟩ := hf.rows HB3.out.size rfl hmm
                exact ⟨_, _, _, rfl, h1, h2, HB3.out.trans (hf.below.mono HB3.out.size)⟩
end Go.Proofs.Ythmifadnfaajbad
namespace Go.Proofs.Ythmifadnfaajbad

-- chapter 11, plain: fitting one after another
/-- the first of the rolls on which there is room, or how many there are -/
def roomK (lf : List Int) (x : Int) : Nat → Nat → Nat
  | 0, s => s
  | d + 1, s => if x ≤ lf.getD s 0 then s else roomK lf x d (s + 1)
theorem roomK_is (lf : List Int) (x : Int) : ∀ d s, s ≤ roomK lf x d s ∧ roomK lf x d s ≤ s + d ∧ (∀ j, s ≤ j → j < roomK lf x d s → lf.getD j 0 < x) ∧ (roomK lf x d s < s + d → x ≤ lf.getD (roomK lf x d s) 0)
  | 0, s => ⟨Nat.le_refl _, Nat.le_refl _, fun j h1 h2 => by simp only [roomK] at h2; omega, fun h => by simp only [roomK] at h; omega⟩
  | d + 1, s => by
    by_cases h : x ≤ lf.getD s 0
    · have e : roomK lf x (d + 1) s = s := by simp only [roomK]; rw [if_pos h]
      rw [e]
      exact ⟨Nat.le_refl _, by omega, fun j h1 h2 => by omega, fun _ => h⟩
    · have e : roomK lf x (d + 1) s = roomK lf x d (s + 1) := by simp only [roomK]; rw [if_neg h]
      obtain ⟨i1, i2, i3, i4⟩ := roomK_is lf x d (s + 1)
      rw [e]
      refine ⟨by omega, by omega, fun j h1 h2 => ?_, fun h2 => i4 (by omega)⟩
      rcases Nat.eq_or_lt_of_le h1 with h3 | h3
      · rw [← h3]; omega
      · exact i3 j (by omega) h2
def room (lf : List Int) (x : Int) : Nat := roomK lf x lf.length 0
theorem room_le (lf : List Int) (x : Int) : room lf x ≤ lf.length := by have := (roomK_is lf x lf.length 0).2.1; unfold room; omega
theorem room_lt {lf : List Int} {x : Int} {j : Nat} (h : j < room lf x) : lf.getD j 0 < x := (roomK_is lf x lf.length 0).2.2.1 j (Nat.zero_le _) h
theorem room_ge {lf : List Int} {x : Int} (h : room lf x < lf.length) : x ≤ lf.getD (room lf x) 0 := (roomK_is lf x lf.length 0).2.2.2 (by unfold room at h; omega)
theorem room_unique {lf : List Int} {x : Int} {k : Nat} (h1 : k ≤ lf.length) (h2 : ∀ j, j < k → lf.getD j 0 < x) (h3 : k < lf.length → x ≤ lf.getD k 0) : room lf x = k := by
  rcases Nat.lt_trichotomy (room lf x) k with h | h | h
  · have := room_ge (lf := lf) (x := x) (by omega); have := h2 _ h; omega
  · exact h
  · have := room_lt h; have := h3 (Nat.lt_of_lt_of_le h (room_le _ _)); omega
/-- one more is put: what is left on the rolls -/
def putL (R : Int) (lf : List Int) (x : Int) : List Int := (if room lf x = lf.length then lf ++ [R] else lf).set (room lf x) ((if room lf x = lf.length then lf ++ [R] else lf).getD (room lf x) 0 - x)
/-- what is left on the rolls, and each one's roll, behind the first ones of an order -/
def fitS (T : Nat → Int) (R : Int) (o : Nat → Nat) : Nat → List Int × (Nat → Nat)
  | 0 => ([], fun _ => 0)
  | t + 1 => (putL R (fitS T R o t).1 (T (o t)), fun i => if i = o t then room (fitS T R o t).1 (T (o t)) else (fitS T R o t).2 i)
theorem putL_len (R : Int) (lf : List Int) (x : Int) : (putL R lf x).length = if room lf x = lf.length then lf.length + 1 else lf.length := by
  unfold putL; rw [List.length_set]; split <;> simp
theorem putL_getD (R : Int) (lf : List Int) (x : Int) {b : Nat} (hb : b < (putL R lf x).length) : (putL R lf x).getD b 0 = (if b < lf.length then lf.getD b 0 else R) - (if b = room lf x then x else 0) := by
  rw [putL_len] at hb
  have hr := room_le lf x
  have hL : ∀ j, j < (if room lf x = lf.length then lf ++ [R] else lf).length → (if room lf x = lf.length then lf ++ [R] else lf).getD j 0 = if j < lf.length then lf.getD j 0 else R := fun j hj => by
    by_cases e : room lf x = lf.length
    · rw [if_pos e] at hj ⊢
      rw [List.getD_eq_getElem?_getD, List.getD_eq_getElem?_getD, List.getElem?_append]
      by_cases g : j < lf.length
      · rw [if_pos g, if_pos g]
      · rw [if_neg g, if_neg g]
        have : j = lf.length := by simp at hj; omega
        subst this; simp
    · rw [if_neg e] at hj ⊢
      rw [if_pos hj]
  have hlen : (if room lf x = lf.length then lf ++ [R] else lf).length = if room lf x = lf.length then lf.length + 1 else lf.length := by split <;> simp
  have hb2 : b < (if room lf x = lf.length then lf ++ [R] else lf).length := by rw [hlen]; exact hb
  unfold putL
  rw [List.getD_eq_getElem?_getD, List.getElem?_set]
  by_cases e : room lf x = b
  · have hb3 : room lf x < (if room lf x = lf.length then lf ++ [R] else lf).length := by rw [e]; rw [e] at hb2; exact hb2
    rw [if_pos e, if_pos hb3, if_pos e.symm, Option.getD_some, hL _ hb3, e]
  · rw [if_neg e, if_neg (Ne.symm e), ← List.getD_eq_getElem?_getD, hL b hb2]
    omega
structure FitI (T : Nat → Int) (R : Int) (n : Nat) (o : Nat → Nat) (t : Nat) (lf : List Int) (p : Nat → Nat) : Prop where
  low : ∀ j, j < t → p (o j) < lf.length
  full : ∀ b, b < lf.length → ∃ j, j < t ∧ p (o j) = b
  load : ∀ b, b < lf.length → lf.getD b 0 = R - wsum (fun j => T (o j)) (fun j => p (o j) == b) t
  nn : ∀ b, b < lf.length → 0 ≤ lf.getD b 0
  first : ∀ j, j < t → ∀ b, b < p (o j) → lf.getD b 0 < T (o j)
theorem fit_inv {T : Nat → Int} {R : Int} {n : Nat} {o : Nat → Nat} (hT : ∀ i, i < n → 1 ≤ T i ∧ T i ≤ R) (ho : ∀ j, j < n → o j < n) (hinj : ∀ i j, i < n → j < n → o i = o j → i = j) : ∀ t, t ≤ n → FitI T R n o t (fitS T R o t).1 (fitS T R o t).2
  | 0, _ => ⟨fun j h => absurd h (by omega), fun b h => absurd h (by simp [fitS]), fun b h => absurd h (by simp [fitS]), fun b h => absurd h (by simp [fitS]), fun j h => absurd h (by omega)⟩
  | t + 1, h => by
    obtain ⟨i1, i2, i3, i4, i5⟩ := fit_inv hT ho hinj t (by omega)
    obtain ⟨lf, hlf⟩ : ∃ lf, (fitS T R o t).1 = lf := ⟨_, rfl⟩
    obtain ⟨p, hp⟩ : ∃ p, (fitS T R o t).2 = p := ⟨_, rfl⟩
    rw [hlf] at i1 i2 i3 i4 i5
    rw [hp] at i1 i2 i3 i5
    have e1 : (fitS T R o (t + 1)).1 = putL R lf (T (o t)) := by rw [fitS, hlf]
    have e2 : (fitS T R o (t + 1)).2 = fun i => if i = o t then room lf (T (o t)) else p i := by rw [fitS, hlf, hp]
    rw [e1, e2]
    have hlen := putL_len R lf (T (o t))
    have hr := room_le lf (T (o t))
    have hne : ∀ j, j < t → o j ≠ o t := fun j hj e => by have := hinj j t (by omega) (by omega) e; omega
    have hTt := hT (o t) (ho t (by omega))
    refine ⟨fun j hj => ?_, fun b hb => ?_, fun b hb => ?_, fun b hb => ?_, fun j hj b hb => ?_⟩
    · try dsimp only
      rw [hlen]
      by_cases g : j = t
      · subst g; rw [if_pos rfl]; split <;> omega
      · rw [if_neg (hne j (by omega))]; have := i1 j (by omega); split <;> omega
    · try dsimp only
      rw [hlen] at hb
      by_cases g : b = room lf (T (o t))
      · exact ⟨t, by omega, by rw [if_pos rfl, g]⟩
      · obtain ⟨j, hj, e⟩ := i2 b (by split at hb <;> omega)
        exact ⟨j, by omega, by rw [if_neg (hne j hj)]; exact e⟩
    · rw [putL_getD R lf _ hb, wsum]
      rw [hlen] at hb
      have hw : wsum (fun j => T (o j)) (fun j => (if o j = o t then room lf (T (o t)) else p (o j)) == b) t = wsum (fun j => T (o j)) (fun j => p (o j) == b) t := wsum_congr t (fun j hj => by rw [if_neg (hne j hj)]) (fun _ _ _ => rfl)
      try dsimp only
      rw [hw]
      by_cases g : b < lf.length
      · rw [if_pos g, i3 b g]
        by_cases g2 : b = room lf (T (o t))
        · rw [if_pos g2, if_pos (by simp [g2])]; omega
        · rw [if_neg g2, if_neg (by simp; exact fun e => g2 e.symm)]; omega
      · have hb2 : b = lf.length ∧ room lf (T (o t)) = lf.length := by split at hb <;> omega
        rw [if_neg g, if_pos (by omega), if_pos (by simp; omega), wsum_none t (fun j hj => by have := i1 j hj; simp; omega)]
        omega
    · rw [putL_getD R lf _ hb]
      rw [hlen] at hb
      by_cases g2 : b = room lf (T (o t))
      · rw [if_pos g2]
        by_cases g : b < lf.length
        · rw [if_pos g]
          have := room_ge (lf := lf) (x := T (o t)) (by omega)
          rw [← g2] at this; omega
        · rw [if_neg g]; omega
      · rw [if_neg g2]
        have g : b < lf.length := by split at hb <;> omega
        rw [if_pos g]; have := i4 b g; omega
    · have hle : ∀ b, b < lf.length → (putL R lf (T (o t))).getD b 0 ≤ lf.getD b 0 := fun b g => by
        rw [putL_getD R lf _ (by rw [hlen]; split <;> omega), if_pos g]; split <;> omega
      try dsimp only at hb
      by_cases g : j = t
      · subst g
        rw [if_pos rfl] at hb
        have := room_lt hb
        have := hle b (by omega)
        omega
      · rw [if_neg (hne j (by omega))] at hb
        have := i5 j (by omega) b hb
        have := hle b (by have := i1 j (by omega); omega)
        omega
/-- how many rolls, one after another -/
def usedM (T : Nat → Int) (R : Int) (o : Nat → Nat) (t : Nat) : Nat := (fitS T R o t).1.length
theorem used_step (T : Nat → Int) (R : Int) (o : Nat → Nat) (t : Nat) : usedM T R o (t + 1) = usedM T R o t ∨ (usedM T R o (t + 1) = usedM T R o t + 1 ∧ room (fitS T R o t).1 (T (o t)) = usedM T R o t) := by
  unfold usedM
  rw [fitS]
  try dsimp only
  rw [putL_len]
  by_cases h : room (fitS T R o t).1 (T (o t)) = (fitS T R o t).1.length
  · rw [if_pos h]; exact .inr ⟨rfl, h⟩
  · rw [if_neg h]; exact .inl rfl
/-- the last one that began a roll -/
theorem last_new (T : Nat → Int) (R : Int) (o : Nat → Nat) : ∀ t, 0 < usedM T R o t → ∃ s, s < t ∧ usedM T R o (s + 1) = usedM T R o t ∧ usedM T R o s + 1 = usedM T R o t ∧ room (fitS T R o s).1 (T (o s)) = usedM T R o s
  | 0, h => by simp [usedM, fitS] at h
  | t + 1, h => by
    rcases used_step T R o t with e | ⟨e, e2⟩
    · obtain ⟨s, h1, h2, h3, h4⟩ := last_new T R o t (by omega)
      exact ⟨s, by omega, by omega, by omega, h4⟩
    · exact ⟨t, by omega, rfl, by omega, e2⟩
/-- a roll that was given stays -/
theorem fit_stays {T : Nat → Int} {R : Int} {n : Nat} {o : Nat → Nat} (hinj : ∀ i j, i < n → j < n → o i = o j → i = j) {s j : Nat} (hj : j < s) : ∀ d, s + d ≤ n → (fitS T R o (s + d)).2 (o j) = (fitS T R o s).2 (o j)
  | 0, _ => rfl
  | d + 1, h => by
    rw [← Nat.add_assoc, fitS]
    try dsimp only
    rw [if_neg (fun e => by have := hinj j (s + d) (by omega) (by omega) e; omega)]
    exact fit_stays hinj hj d (by omega)
end Go.Proofs.Ythmifadnfaajbad
