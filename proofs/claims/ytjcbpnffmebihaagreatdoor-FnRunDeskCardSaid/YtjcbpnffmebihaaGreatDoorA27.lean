import Derived.Test.YtjcbpnffmebihaaGreatDoorA21
import Derived.Test.YtjcbpnffmebihaaGreatDoorA22
import Derived.Test.YtjcbpnffmebihaaGreatDoorA23
import Derived.Test.YtjcbpnffmebihaaGreatDoorA24
import Derived.Test.YtjcbpnffmebihaaGreatDoorA25
import Derived.Test.YtjcbpnffmebihaaGreatDoorRows
import Derived.WalkKit
import Derived.LoopTactic
import Derived.Outline
import Derived.WalkSpells
import Derived.WalkLawsBesides
import Derived.ProofKit
import Derived.Lib.Hide
import Derived.IntWalk
import Derived.Deep.RegionHeld3
import Derived.Deep.AppendLies
import Derived.StillTailTactics
set_option linter.unusedVariables false
set_option linter.unusedSimpArgs false
namespace Go.Proofs.YtjcbpnffmebihaaGreatDoor
open Go.RowKit Go.WideShapes

def isW (kind : ByteArray) : Bool := kind.toList == [119, 97, 105, 116]
theorem d_isW : isW ⟨#[100, 117, 101]⟩ = false := by kernel_rfl
set_option maxHeartbeats 1000000 in
theorem ahead_due {rows : List (List Int)} {kind : ByteArray} (hp : jobsM rows = true) (hk : isW kind = false) : AheadIs kind rows (ahD (td rows)) := by
  intro S a len cap i k w h hi hkl
  have hkk : (kind.toList == [119, 97, 105, 116]) = isW kind := rfl
  rw [hk] at hkk
  have hs := h.small
  obtain ⟨b2, off2, b3, off3, c3, rfl, hcr, hct, hcw, hcd, _⟩ := row3_at h (jobs_get hp).2 hi
  obtain ⟨b4, off4, b5, off5, c5, e, hcr2, hct2, hcw2, hcd2, _⟩ := row3_at h (jobs_get hp).2 hkl
  cases e
  have HA := Lib.hid (show ahD (td rows) i k = decide (td rows i < td rows k) from rfl)
  have hiI : (i : Int) < (len : Int) := by omega
  have hkI : (k : Int) < (len : Int) := by omega
  generalize td rows i = di at *
  generalize td rows k = dk at *
  go_enter Tryz.func76, Tryz.ntmps76
  go_wp2_with fail
  go_quiet (fail)
  go_wp2_with fail
  go_ret
  exact ⟨ret_bool HA.out.symm, ⟨_, rfl⟩⟩
end Go.Proofs.YtjcbpnffmebihaaGreatDoor
namespace Go.Proofs.YtjcbpnffmebihaaGreatDoor
open Go.RowKit Go.WideShapes

theorem pair_allIn {r : List Int} (h : r.length = 2) : pairB r = allIn 0 9 r := by
  obtain ⟨x, y, rfl⟩ : ∃ x y, r = [x, y] := by
    cases r with
    | nil => simp at h
    | cons x r => cases r with
      | nil => simp at h
      | cons y r => cases r with
        | nil => exact ⟨x, y, rfl⟩
        | cons z r => simp at h
  simp [pairB, allIn]
theorem validPairs_impl (S : Nat → Prop) (a : Option Addr) (len cap : Nat) (rows : List (List Int)) (w : World) (h : RowsAt w S a len rows) (hc : len ≤ cap) :
    Calls Tryz.prog 83 #[.slice a len cap] w fun e w' => e = .returned (.bool (pairsM rows)) ∧ Drew w w' := by
  have hs := h.small
  have HL := Lib.hid h.lenEq
  by_cases h8 : len ≤ 8
  · go_enter Tryz.func83, Tryz.ntmps83
    go_wp2_with fail
    go_loop [10] (fun i => ∃ k : Nat, k ≤ len ∧ i = .int .i64 k ∧ (rows.take k).all pairB = true) (fun i => len - (intOf i).toNat)
    case atStart => exact ⟨0, Nat.zero_le _, rfl, rfl⟩
    case round =>
      obtain ⟨k, hk, rfl, ha⟩ := hrel
      have HA := Lib.hid ha
      clear ha
      by_cases hlt : k < len
      · obtain ⟨b, off, r, a', l, c, rfl, hx, hcx, _, hr⟩ := h.get hlt
        have HX := Lib.hid hx
        have HRL := Lib.hid hr.lenEq
        have hrs := hr.small
        clear hx
        have hkl : (k : Int) < (len : Int) := by omega
        by_cases hl2 : l = 2
        · subst hl2
          have HP := Lib.hid (pair_allIn HRL.out)
          cases hq : allIn 0 9 r
          · go_wp2_with (go_at_call 105; refine (allUpTo_any _ _ _ _ r 9 _ hr).mono ?_; rintro e w' ⟨rfl, rfl⟩)
            go_ret
            exact ⟨ret_bool (by rw [pairs_false HX.out (by rw [HP.out, hq])]), Drew.refl _⟩
          · go_wp2_with (go_at_call 105; refine (allUpTo_any _ _ _ _ r 9 _ hr).mono ?_; rintro e w' ⟨rfl, rfl⟩)
            go_round
            case rel => exact ⟨k + 1, by omega, by go_num, by
              rw [take_get HX.out, List.all_append, HA.out]
              simp only [List.all_cons, List.all_nil, Bool.and_true, Bool.true_and]
              rw [HP.out, hq]⟩
            case measure => simp [intOf]; omega
        · have hle : ((l : Int) != 2) = true := by simp; omega
          go_wp2_with fail
          go_ret
          exact ⟨ret_bool (by rw [pairs_false HX.out (by unfold pairB; rw [HRL.out, beq_eq_false_iff_ne.2 hl2]; rfl)]), Drew.refl _⟩
      · go_wp2_with fail
        go_ret
        have ha := HA.out
        have hl := HL.out
        rw [List.take_of_length_le (by omega)] at ha
        exact ⟨ret_bool (by rw [pairsM, ha, hl, Bool.true_and]; exact (decide_eq_true h8).symm), Drew.refl _⟩
  · have HF := Lib.hid (show pairsM rows = false by unfold pairsM; rw [HL.out, decide_eq_false h8, Bool.and_false])
    go_enter Tryz.func83, Tryz.ntmps83
    go_wp2_with fail
    go_ret
    exact ⟨ret_bool HF.out.symm, Drew.refl _⟩
-- orders
theorem nodup_cover {α : Type} [DecidableEq α] : ∀ (l s : List α), s.Nodup → s ⊆ l → l.length ≤ s.length → l.Nodup := by
  intro l
  induction l with
  | nil => intro s _ _ _; exact List.nodup_nil
  | cons x t ih =>
    intro s hn hs hl
    have hx : x ∉ t := by
      intro hm
      have h1 : s ⊆ t := fun y hy => by
        rcases List.mem_cons.1 (hs hy) with rfl | h
        · exact hm
        · exact h
      have := List.Nodup.length_le_of_subset hn h1
      simp at hl; omega
    refine List.nodup_cons.2 ⟨hx, ih (s.erase x) (hn.erase x) (fun y hy => ?_) ?_⟩
    · have h1 := (List.Nodup.mem_erase_iff hn).1 hy
      rcases List.mem_cons.1 (hs h1.2) with h | h
      · exact absurd h h1.1
      · exact h
    · have : s.length - 1 ≤ (s.erase x).length := by rw [List.length_erase]; split <;> omega
      simp at hl; omega
theorem order_full {o : List Int} {n D : Nat} (hr : ∀ x ∈ o, 0 ≤ x ∧ x < (n : Int)) (hl : o.length = n) (hD : ∀ i, D.testBit i = decide ((i : Int) ∈ o)) : orderM o n = decide (D = 2 ^ n - 1) := by
  rw [Bool.eq_iff_iff, decide_eq_true_eq]
  constructor
  · intro h
    have hp := nO_perm (orderM_get h)
    apply Nat.eq_of_testBit_eq
    intro i
    rw [hD, Nat.testBit_two_pow_sub_one]
    refine decide_eq_decide.2 ⟨fun hm => by have := hr _ hm; omega, fun hi => ?_⟩
    have := hp.mem_iff.2 (List.mem_range.2 hi)
    obtain ⟨y, hy, rfl⟩ := List.mem_map.1 this
    have := hr y hy
    rwa [Int.toNat_of_nonneg this.1]
  · intro h
    subst h
    refine decide_eq_true ⟨⟨hr, ?_⟩, hl⟩
    have hn : (nO o).Nodup := nodup_cover (nO o) (List.range n) List.nodup_range (fun i hi => by
      have hi := List.mem_range.1 hi
      have := hD i
      rw [Nat.testBit_two_pow_sub_one, decide_eq_true hi] at this
      have hm := of_decide_eq_true this.symm
      exact List.mem_map.2 ⟨(i : Int), hm, by simp⟩) (by simp [nO, hl])
    exact (List.pairwise_map.1 hn).imp (fun {x y} h e => h (by rw [e]))
set_option maxHeartbeats 1000000 in
theorem isOrder_any (S : Nat → Prop) (a : Option Addr) (len cap : Nat) (o : List Int) (n : Nat) (w : World) (h : IntsAt w S a len o) (hn : n ≤ 8) :
    Calls Tryz.prog 176 #[.slice a len cap, .int .i64 n] w fun e w' => e = .returned (.bool (orderM o n)) ∧ w = w' := by
  have hs := h.small
  have HL := Lib.hid h.lenEq
  by_cases hln : len = n
  · subst hln
    have hp8 : 1 ≤ 2 ^ len ∧ 2 ^ len ≤ 256 := ⟨Nat.two_pow_pos _, Nat.pow_le_pow_right (n := 2) (j := 8) (by omega) hn⟩
    have HALL := Lib.hid (fun w => allOf_any len (by omega) w)
    have hneq : ((len : Int) != (len : Int)) = false := by simp
    go_enter Tryz.func176, Tryz.ntmps176
    go_wp2_with fail
    go_loop [5, 14] (fun s i => ∃ k D : Nat, k ≤ len ∧ i = .int .i64 k ∧ s = .int .i64 (D : Int) ∧ (∀ x ∈ o.take k, 0 ≤ x ∧ x < (len : Int)) ∧ ∀ i, D.testBit i = decide ((i : Int) ∈ o.take k)) (fun _ i => len - (intOf i).toNat)
    case atStart => exact ⟨0, 0, Nat.zero_le _, rfl, rfl, fun x hx => by simp at hx, fun i => by simp⟩
    case round =>
      obtain ⟨k, D, hk, rfl, rfl, h1, h3⟩ := hrel
      have hD : D < 2 ^ len := Nat.lt_pow_two_of_testBit _ (fun i hi => by
        rw [h3]; exact decide_eq_false (fun hm => by have := h1 _ hm; omega))
      have H1 := Lib.hid h1
      have H3 := Lib.hid h3
      clear h1 h3
      by_cases hlt : k < len
      · obtain ⟨b, off, x, rfl, hx, hc⟩ := h.get hlt
        have HX := Lib.hid hx
        have hkl : (k : Int) < (len : Int) := by omega
        clear hx
        cases hq : inB 0 ((len : Int) - 1) x
        · go_wp2_with (go_at_call 118; refine (isUpTo_any _ _ _).mono ?_; rintro e w' ⟨rfl, rfl⟩)
          go_ret
          exact ⟨ret_bool (order_bad HX.out hq).symm, rfl⟩
        · have hxb : 0 ≤ x ∧ x ≤ (len : Int) - 1 := by simpa [inB] using hq
          obtain ⟨q, rfl⟩ : ∃ q : Nat, x = (q : Int) := ⟨x.toNat, by omega⟩
          have hpq : 1 ≤ 2 ^ q ∧ 2 ^ q ≤ 256 := ⟨Nat.two_pow_pos _, Nat.pow_le_pow_right (n := 2) (j := 8) (by omega) (by omega)⟩
          obtain ⟨pq, hpqe⟩ : ∃ pq, 2 ^ q = pq := ⟨_, rfl⟩
          have HPQ := Lib.hid hpqe
          rw [hpqe] at hpq
          clear hpqe
          go_wp2_with (go_at_call 118; refine (isUpTo_any _ _ _).mono ?_; rintro e w' ⟨rfl, rfl⟩)
          go_round
          case rel => exact ⟨k + 1, D ||| pq, by omega, by go_num, by
              rw [show ((2 : Int) ^ q) = ((pq : Nat) : Int) by rw [← HPQ.out]; push_cast; rfl, w64_id (by omega) (by omega), i_or D pq (by omega) (by omega)], fun x hx => by
              rw [take_get HX.out] at hx
              rcases List.mem_append.1 hx with hx | hx
              · exact H1.out x hx
              · simp at hx; omega, fun i => by
              rw [← HPQ.out, Nat.testBit_or, H3.out, take_get HX.out, Nat.testBit_two_pow, Bool.eq_iff_iff]
              simp only [Bool.or_eq_true, decide_eq_true_eq, List.mem_append, List.mem_singleton]
              exact or_congr Iff.rfl ⟨fun e => by omega, fun e => by omega⟩⟩
          case measure => simp [intOf] <;> omega
      · obtain rfl : k = len := by omega
        have hall : o.take k = o := List.take_of_length_le (by rw [HL.out]; omega)
        have HF := Lib.hid (show orderM o k = ((D : Int) == ((2 ^ k - 1 : Nat) : Int)) by
          have h1 := H1.out
          have h3 := H3.out
          rw [hall] at h1 h3
          rw [order_full h1 HL.out h3, Bool.eq_iff_iff, decide_eq_true_eq, beq_iff_eq]
          omega)
        generalize 2 ^ k - 1 = p at *
        clear hall
        go_wp2_with (go_at_call 190; refine (HALL.out _).mono ?_; rintro e w' ⟨rfl, rfl⟩)
        go_ret
        exact ⟨ret_bool HF.out.symm, rfl⟩
  · have HF := Lib.hid (show orderM o n = false from decide_eq_false fun hp => by have := hp.2; have := HL.out; omega)
    have hne : ((len : Int) != (n : Int)) = true := by simp; omega
    go_enter Tryz.func176, Tryz.ntmps176
    go_wp2_with fail
    go_ret
    exact ⟨ret_bool HF.out.symm, rfl⟩
-- the span
set_option maxHeartbeats 1000000 in
theorem spanIn_any (S T : Nat → Prop) (a : Option Addr) (len cap : Nat) (rows : List (List Int)) (a2 : Option Addr) (len2 cap2 : Nat) (o : List Int) (w : World) (h : RowsAt w S a len rows) (g : IntsAt w T a2 len2 o) (hp : pairsM rows = true) (ho : ∀ x ∈ o, 0 ≤ x ∧ x < (len : Int)) (hl : len2 ≤ 8) :
    Calls Tryz.prog 147 #[.slice a len cap, .slice a2 len2 cap2] w fun e w' => e = .returned (.int .i64 (spanT (ta rows) (tb rows) (nO o))) ∧ w = w' := by
  have HL := Lib.hid g.lenEq
  have HP := Lib.hid (pairs_get hp).2
  have HBD := Lib.hid (run_bd hp)
  have HO := Lib.hid ho
  have HT := Lib.hid (t_bd hp)
  clear hp ho
  go_enter Tryz.func147, Tryz.ntmps147
  go_wp2_with fail
  go_loop [5, 6, 11] (fun av bv i => ∃ k : Nat, k ≤ len2 ∧ i = .int .i64 k ∧ av = .int .i64 (runT (ta rows) (tb rows) (0, 0) (nO (o.take k))).1 ∧ bv = .int .i64 (runT (ta rows) (tb rows) (0, 0) (nO (o.take k))).2) (fun _ _ i => len2 - (intOf i).toNat)
  case atStart => exact ⟨0, Nat.zero_le _, rfl, rfl, rfl⟩
  case round =>
    obtain ⟨k, hk, rfl, rfl, rfl⟩ := hrel
    by_cases hlt : k < len2
    · obtain ⟨b, off, q, b2, off2, b3, off3, c, rfl, rfl, hx, hql, hc, hcr, hc3, hc4⟩ := job_at h g HP.out HO.out hlt
      have hb := HBD.out (nO (o.take k))
      have ht := HT.out q
      have hkl : ((nO (o.take k)).length : Int) ≤ 8 := by unfold nO; rw [List.length_map, List.length_take]; omega
      have HN := Lib.hid (show runT (ta rows) (tb rows) (0, 0) (nO (o.take (k + 1))) = stT (ta rows) (tb rows) (runT (ta rows) (tb rows) (0, 0) (nO (o.take k))) q by
        rw [nO_snoc hx, runT_snoc, Int.toNat_natCast])
      have HN1 := Lib.hid (show (runT (ta rows) (tb rows) (0, 0) (nO (o.take (k + 1)))).1 = (runT (ta rows) (tb rows) (0, 0) (nO (o.take k))).1 + ta rows q by rw [HN.out]; rfl)
      have HN2 := Lib.hid (show (runT (ta rows) (tb rows) (0, 0) (nO (o.take (k + 1)))).2 = max ((runT (ta rows) (tb rows) (0, 0) (nO (o.take k))).1 + ta rows q) (runT (ta rows) (tb rows) (0, 0) (nO (o.take k))).2 + tb rows q by rw [HN.out]; rfl)
      have hqi : (q : Int) < (len : Int) := by omega
      have hkk : (k : Int) < (len2 : Int) := by omega
      clear hx HN
      generalize (runT (ta rows) (tb rows) (0, 0) (nO (o.take k))).1 = va at *
      generalize (runT (ta rows) (tb rows) (0, 0) (nO (o.take k))).2 = vb at *
      generalize ta rows q = x3 at *
      generalize tb rows q = x4 at *
      by_cases hmx : vb < va + x3
      · have HM := Lib.hid (HN2.out.trans (show _ = va + x3 + x4 by rw [show max (va + x3) vb = va + x3 by omega]))
        go_wp2_with fail
        go_round
        case rel => exact ⟨k + 1, by omega, by go_num, by rw [HN1.out], by first | (rw [HM.out]; done) | (rw [HM.out]; congr 1; omega)⟩
        case measure => simp [intOf] <;> omega
      · have HM := Lib.hid (HN2.out.trans (show _ = vb + x4 by rw [show max (va + x3) vb = vb by omega]))
        go_wp2_with fail
        go_round
        case rel => exact ⟨k + 1, by omega, by go_num, by rw [HN1.out], by first | (rw [HM.out]; done) | (rw [HM.out]; congr 1; omega)⟩
        case measure => simp [intOf] <;> omega
    · obtain rfl : k = len2 := by omega
      have HE := Lib.hid (show (runT (ta rows) (tb rows) (0, 0) (nO (o.take k))).2 = spanT (ta rows) (tb rows) (nO o) by rw [List.take_of_length_le (by rw [HL.out]; omega)]; rfl)
      go_wp2_with fail
      go_ret
      exact ⟨ret_int HE.out, rfl⟩
end Go.Proofs.YtjcbpnffmebihaaGreatDoor
namespace Go.Proofs.YtjcbpnffmebihaaGreatDoor
open Go.RowKit Go.WideShapes

/-- what RuleOrder answers -/
def ruleRes (rows : List (List Int)) : List Int := if pairsM rows then ruleI rows rows.length else []
theorem ruleRes_no {rows : List (List Int)} (h : pairsM rows = false) : ruleRes rows = [] := by unfold ruleRes; rw [h]; rfl
theorem ruleRes_yes {rows : List (List Int)} (h : pairsM rows = true) : ruleRes rows = ruleI rows rows.length := by unfold ruleRes; rw [h]; rfl
end Go.Proofs.YtjcbpnffmebihaaGreatDoor
namespace Go.Proofs.YtjcbpnffmebihaaGreatDoor
open Go.RowKit Go.WideShapes

theorem flat_takeP (l : List Int) (k : Nat) : (l.take k).flatMap encP = (l.map (Value.int .i64)).take (k * 1) := by rw [encP_flat, List.map_take, Nat.mul_one]
set_option maxRecDepth 100000 in
set_option maxHeartbeats 4000000 in
theorem putBackP_any {w : World} {B r : Nat} {R : Int} {v : Value} {vs : List Value} {rows : List (List Int)} {n k : Nat} {y : Int} (h : RollsP w B r R v vs (putRow rows k y)) (hlow : B ≤ r) (hB : B ≤ w.heap.size) (hok : RowsOk id (putRow rows k y) n) (hn : n ≤ 20) (hk : k ≤ rows.length) (hne : NoEmpty rows) :
    Calls Tryz.prog 154 #[.pointer (some ⟨r, 0, none⟩), .int .i64 k] w fun e w' => e = .returned (.tuple #[]) ∧ ∃ v' vs', RollsP w' B r R v' vs' rows ∧ Below B w w' := by
  have hkl : k < (putRow rows k y).length := by rw [putRow_len]; split <;> omega
  have HBK := Lib.hid (putRow_back (y := y) hk (hne k))
  have hrl0 := hok.row k
  have hlen := hok.len
  obtain ⟨l, hl⟩ : ∃ l, (putRow rows k y).getD k [] = l := ⟨_, rfl⟩
  rw [hl] at hrl0
  rw [hl] at HBK
  have hgl : l = rows.getD k [] ++ [y] := by rw [← hl, putRow_get hk, if_pos rfl]
  obtain ⟨m, hm⟩ : ∃ m, (rows.getD k []).length = m := ⟨_, rfl⟩
  have hlm : l.length = m + 1 := by rw [hgl, List.length_append, hm, List.length_singleton]
  rw [hm] at HBK
  rw [hlm] at hrl0
  obtain ⟨G, cp1, hv2, hGB, hGl⟩ := h.outer.form (by omega)
  have ho := h.outer
  rw [hv2] at ho
  obtain ⟨u, hu⟩ : ∃ u, vs[k]? = some u := ⟨vs[k]'(by rw [h.lenV]; exact hkl), List.getElem?_eq_getElem _⟩
  have cg := (ho.cellAt k (by omega)).trans hu
  have cgf := ho.frozenAt k
  have hrow := h.row k u hu
  rw [encP_flat, hl, hlm] at hrow
  obtain ⟨ax, cp, hax, hcp⟩ := own_slice hrow
  have hne3 := h.box_ne_outer (by decide)
  obtain ⟨_, c1, f1⟩ := h.cells
  rw [hv2] at c1 hne3
  rw [hax] at hrow cg hu
  have hGR : ¬ G = r := fun e => hne3 (by rw [e]; rfl)
  have d1 : (w.setCell ⟨G, k, none⟩ (.slice ax m cp)).cell? ⟨r, 1, none⟩ = some (.slice (some ⟨G, 0, none⟩) (putRow rows k y).length cp1) := (World.cell?_setCell_other w _ _ _ (by intro e; injection e with e1; exact hGR (by omega))).trans c1
  have g1 : (w.setCell ⟨G, k, none⟩ (.slice ax m cp)).frozen? ⟨r, 1, none⟩ = false := (World.frozen?_of_block (heap_set_ne (fun e => hGR e.symm) _)).trans (f1 1)
  have hst := RollsW.setRow h (u' := .slice ax m cp) (w' := w) (nrow := l.take m) (by decide) (by decide) (by decide) hv2 hu (by rw [flat_takeP, List.length_take, hlm, Nat.min_eq_left (Nat.le_succ m)]; exact own_cut hrow (Nat.le_succ m)) ⟨rfl, rfl, rfl, Nat.le_refl _, fun _ _ _ => rfl⟩ (fun b hb => .inl (by rw [← hb]; cases ax <;> rfl))
  have HST := Lib.hid hst
  have HBL := Lib.hid ((Below.refl B w).setCell (p := ⟨G, k, none⟩) hGB (.slice ax m cp))
  have hkI : (k : Int) < ((putRow rows k y).length : Int) := by omega
  have hkr : ¬ k = rows.length → k < rows.length := fun e => by omega
  have HKR := Lib.hid hkr
  have HLN := Lib.hid (show (putRow rows k y).length ≤ cp1 by rcases ho.2 with ⟨e, _⟩ | ⟨_, _, _, e, _, _, h1, _⟩ <;> injection e <;> omega)
  have hncp := HLN.out
  have hmz : k = rows.length ↔ m = 0 := by
    constructor
    · intro e
      rw [← hm, e, List.getD_eq_getElem?_getD, List.getElem?_eq_none (Nat.le_refl _)]; rfl
    · intro e
      rcases Nat.lt_or_ge k rows.length with g | g
      · have := hne k g
        exact absurd (List.eq_nil_of_length_eq_zero (hm.trans e)) this
      · omega
  obtain ⟨N, hN⟩ : ∃ N, (putRow rows k y).length = N := ⟨_, rfl⟩
  rw [hN] at c1 d1 hkI hkl hlen hncp
  have HN := Lib.hid hN
  have HRO := Lib.hid (show rows.length < 10000 by have := putRow_len rows k y; split at this <;> omega)
  have e1 : ((m + 1 : Nat) : Int) - 1 = (m : Int) := by omega
  have e2 : (m : Int) + 1 - 1 = (m : Int) := by omega
  have hm20 : m ≤ 20 := by omega
  have HMZ := Lib.hid hmz
  have HHM := Lib.hid hm
  have HG := Lib.hid hGR
  have HGL := Lib.hid hgl
  have HV2 := Lib.hid hv2
  have HLOW := Lib.hid hlow
  clear hl hgl hm hlm ho hu hrow hax hne3 f1 hst hkr hmz hN h hok hne hrl0 hv2 hGR HLN
  by_cases hm0 : m = 0
  · have HK2 := Lib.hid (HMZ.out.2 hm0)
    subst hm0
    go_enter Tryz.func154, Tryz.ntmps154
    go_wp2_with fail
    go_still_tail 15, (by kernel_rfl)
    go_wp2_with fail
    go_end0
    have hlk : k ≤ ((putRow rows k y).set k (l.take 0)).length := by rw [List.length_set]; have := HN.out; omega
    have hcut := RollsW.cutOuter HST.out (a := some ⟨G, 0, none⟩) (cap := cp1) (n := (putRow rows k y).length) (k := k) (by decide) (by decide) HV2.out hlk
    have hrr : ((putRow rows k y).set k (l.take 0)).take k = rows := by
      unfold putRow
      rw [if_pos HK2.out, HK2.out, List.set_append_right _ _ (Nat.le_refl _), List.take_left]
    rw [hrr] at hcut
    exact ⟨rfl, _, _, RollsW.keep hcut (fun _ _ _ => rfl), (HBL.out.drew).setCell (p := ⟨r, 1, none⟩) HLOW.out _⟩
  · have hm1 : ¬ (m : Int) = 0 := by omega
    have hmc : (m : Int) ≤ (cp : Int) := by omega
    have hmc2 : m ≤ cp := by omega
    have HK2 := Lib.hid (show k < rows.length from HKR.out (fun e => hm0 (HMZ.out.1 e)))
    go_enter Tryz.func154, Tryz.ntmps154
    go_wp2_with fail
    go_still_tail 15, (by kernel_rfl)
    go_wp2_with fail
    go_end0
    have hst := HST.out
    rw [(HBK.out.2 HK2.out).1] at hst
    exact ⟨rfl, _, _, RollsW.keep hst (fun _ _ _ => rfl), HBL.out.drew⟩
end Go.Proofs.YtjcbpnffmebihaaGreatDoor
