import Derived.Test.YtjcbpnffmebihaaGreatDoorA31
import Derived.Test.YtjcbpnffmebihaaGreatDoorRows
import Derived.WalkKit
import Derived.LoopTactic
import Derived.Outline
import Derived.WalkSpells
import Derived.WalkLawsBesides
import Derived.ProofKit
import Derived.Lib.Hide
import Derived.Deep.QuietTactic
import Derived.BigQuiet
import Derived.IntWalk
import Derived.Deep.LoopGhost
import Derived.Shelf.RegionOpenPlain
import Derived.Deep.RegionHeld3
import Derived.StillTailTactics
set_option linter.unusedVariables false
set_option linter.unusedSimpArgs false
namespace Go.Proofs.YtjcbpnffmebihaaGreatDoor
open Go.RowKit Go.WideShapes

theorem resC_low {w w2 w' : World} {xs : List Int} {e : Ending} (hb : Below w.heap.size w w2) (h : ResPostC w2 xs e w') : ResPostC w xs e w' := by
  obtain ⟨a, l, c, h1, h2, h3, h4, h5⟩ := h
  have hz := hb.size
  exact ⟨a, l, c, h1, h2.to (fun b hb => ⟨⟨Nat.le_trans hz hb.1, hb.2⟩, rfl⟩), h3.to (fun b hb => ⟨⟨Nat.le_trans hz hb.1, hb.2⟩, rfl⟩), h4, hb.trans (h5.mono hz)⟩
/-- less, the same, more -/
def cc6 (p q : Int) : Int := if p < q then -1 else if q < p then 1 else 0
theorem cc6_lt {p q : Int} : cc6 p q < 0 ↔ p < q := by
  unfold cc6; split
  · omega
  · split <;> omega
theorem isNaN6_any (p : Int) (w : World) : Calls Tryz.prog 169 #[.int .i64 p] w fun e w' => e = .returned (.bool false) ∧ w = w' := by
  have h1 : (p != p) = false := by simp
  go_enter Tryz.func169, Tryz.ntmps169
  go_wp2_with fail
  go_ret
  exact ⟨rfl, rfl⟩
theorem compare6_any (p q : Int) (w : World) : Calls Tryz.prog 141 #[.int .i64 p, .int .i64 q] w fun e w' => e = .returned (.int .i64 (cc6 p q)) ∧ w = w' := by
  by_cases h1 : p < q
  · have HC := Lib.hid (show cc6 p q = -1 from if_pos h1)
    go_enter Tryz.func141, Tryz.ntmps141
    go_wp2_with (go_at_call 169; refine (isNaN6_any _ _).mono ?_; rintro e w' ⟨rfl, rfl⟩)
    go_ret
    exact ⟨ret_int HC.out.symm, rfl⟩
  · by_cases h2 : q < p
    · have HC := Lib.hid (show cc6 p q = 1 by unfold cc6; rw [if_neg h1, if_pos h2])
      go_enter Tryz.func141, Tryz.ntmps141
      go_wp2_with (go_at_call 169; refine (isNaN6_any _ _).mono ?_; rintro e w' ⟨rfl, rfl⟩)
      go_ret
      exact ⟨ret_int HC.out.symm, rfl⟩
    · have HC := Lib.hid (show cc6 p q = 0 by unfold cc6; rw [if_neg h1, if_neg h2])
      go_enter Tryz.func141, Tryz.ntmps141
      go_wp2_with (go_at_call 169; refine (isNaN6_any _ _).mono ?_; rintro e w' ⟨rfl, rfl⟩)
      go_ret
      exact ⟨ret_int HC.out.symm, rfl⟩
/-- how a rule compares two jobs -/
def CmpIs (f : Nat) (ah : Int → Int → Int → Int → Int → Int → Bool) : Prop := ∀ (t v d t' v' d' : Int) (w : World), 0 ≤ t ∧ t ≤ 9 → 0 ≤ v ∧ v ≤ 9 → 0 ≤ d ∧ d ≤ 60 → 0 ≤ t' ∧ t' ≤ 9 → 0 ≤ v' ∧ v' ≤ 9 → 0 ≤ d' ∧ d' ≤ 60 →
  ∃ cv : Int, (cv < 0 ↔ ah t v d t' v' d' = true) ∧ Calls Tryz.prog f #[.agg #[.int .i64 t, .int .i64 v, .int .i64 d], .agg #[.int .i64 t', .int .i64 v', .int .i64 d']] w fun e w' => e = .returned (.int .i64 cv) ∧ Below w.heap.size w w'
theorem byDue_any : CmpIs 115 (fun _ _ d _ _ d' => decide (d < d')) := by
  intro t v d t' v' d' w ht hv hd ht' hv' hd'
  refine ⟨cc6 d d', by rw [cc6_lt, decide_eq_true_iff], ?_⟩
  have HC := Lib.hid (fun w => compare6_any d d' w)
  generalize cc6 d d' = cv at *
  go_enter Tryz.func115, Tryz.ntmps115
  go_wp2_with fail
  refine (HC.out _).mono ?_
  rintro e w' ⟨rfl, rfl⟩
  go_wp2_with fail
  go_ret
  exact ⟨rfl, ((Below.refl _ w).alloc (Nat.le_refl _) _).alloc (by simp) _⟩
end Go.Proofs.YtjcbpnffmebihaaGreatDoor
namespace Go.Proofs.YtjcbpnffmebihaaGreatDoor
open Go.RowKit Go.WideShapes

-- chapter 11's code: cuts that are listed (their lengths, and their places), sorted
/-- block b holds the listed cuts of these places, one behind the other; they may be written -/
def PairB (w : World) (b : Nat) (f : Nat → Int) (l : List Nat) : Prop := ∀ (q x : Nat), l[q]? = some x → (w.cell? ⟨b, q * 2, none⟩ = some (.int .i64 (f x)) ∧ w.cell? ⟨b, q * 2 + 1, none⟩ = some (.int .i64 (x : Int))) ∧ (w.frozen? ⟨b, q * 2, none⟩ = false ∧ w.frozen? ⟨b, q * 2 + 1, none⟩ = false)
section
variable {w w' : World} {b : Nat} {f : Nat → Int} {l : List Nat}
theorem PairB.block (h : PairB w b f l) (e : w'.heap[b]? = w.heap[b]?) : PairB w' b f l := by
  intro q x hx
  obtain ⟨⟨h1, h2⟩, h3, h4⟩ := h q x hx
  exact ⟨⟨by rw [World.cell?_of_block (w := w) e]; exact h1, by rw [World.cell?_of_block (w := w) e]; exact h2⟩, by rw [World.frozen?_of_block (w := w) e]; exact h3, by rw [World.frozen?_of_block (w := w) e]; exact h4⟩
theorem PairB.drewN (h : PairB w b f l) (n : Nat) : PairB (w.drewN n) b f l := h
theorem PairB.at {q : Nat} (h : PairB w b f l) (hq : q < l.length) : (w.cell? ⟨b, q * 2, none⟩ = some (.int .i64 (f (l.getD q 0))) ∧ w.cell? ⟨b, q * 2 + 1, none⟩ = some (.int .i64 ((l.getD q 0 : Nat) : Int))) ∧ (w.frozen? ⟨b, q * 2, none⟩ = false ∧ w.frozen? ⟨b, q * 2 + 1, none⟩ = false) := by
  refine h q _ ?_
  rw [List.getD_eq_getElem?_getD, List.getElem?_eq_getElem hq]; rfl
theorem PairB.lt (h : PairB w b f l) (hq : 0 < l.length) : b < w.heap.size := World.block_lt_of_cell? w _ (h.at hq).1.1
theorem PairB.put (h : PairB w b f l) {k : Nat} (hk : k < l.length) (v : Nat) : PairB ((w.setCell ⟨b, k * 2, none⟩ (.int .i64 (f v))).setCell ⟨b, k * 2 + 1, none⟩ (.int .i64 (v : Int))) b f (l.set k v) := by
  obtain ⟨⟨g1, g2⟩, _, _⟩ := h.at hk
  intro q x hx
  rw [List.getElem?_set] at hx
  have hfr : ∀ a, ((w.setCell ⟨b, k * 2, none⟩ (.int .i64 (f v))).setCell ⟨b, k * 2 + 1, none⟩ (.int .i64 (v : Int))).frozen? a = w.frozen? a := fun a => by rw [World.frozen?_setCell, World.frozen?_setCell]
  by_cases e : k = q
  · subst e
    rw [if_pos rfl, if_pos hk] at hx
    injection hx with hx
    subst hx
    refine ⟨⟨?_, ?_⟩, by rw [hfr]; exact (h.at hk).2.1, by rw [hfr]; exact (h.at hk).2.2⟩
    · rw [World.cell?_setCell_other _ _ _ _ (by intro e'; injection e' with _ e2; omega)]
      exact World.cell?_setCell_same _ _ _ g1
    · exact World.cell?_setCell_same _ _ _ ((World.cell?_setCell_other _ _ _ _ (by intro e'; injection e' with _ e2; omega)).trans g2)
  · rw [if_neg e] at hx
    obtain ⟨⟨h1, h2⟩, h3, h4⟩ := h q x hx
    refine ⟨⟨?_, ?_⟩, by rw [hfr]; exact h3, by rw [hfr]; exact h4⟩
    · rw [World.cell?_setCell_other _ _ _ _ (by intro e'; injection e' with _ e2; omega), World.cell?_setCell_other _ _ _ _ (by intro e'; injection e' with _ e2; omega)]
      exact h1
    · rw [World.cell?_setCell_other _ _ _ _ (by intro e'; injection e' with _ e2; omega), World.cell?_setCell_other _ _ _ _ (by intro e'; injection e' with _ e2; omega)]
      exact h2
theorem PairB.swap (h : PairB w b f l) {i j : Nat} (hi : i < l.length) (hj : j < l.length) :
    PairB ((((w.setCell ⟨b, i * 2, none⟩ (.int .i64 (f (l.getD j 0)))).setCell ⟨b, i * 2 + 1, none⟩ (.int .i64 ((l.getD j 0 : Nat) : Int))).setCell ⟨b, j * 2, none⟩ (.int .i64 (f (l.getD i 0)))).setCell ⟨b, j * 2 + 1, none⟩ (.int .i64 ((l.getD i 0 : Nat) : Int))) b f (swN l i j) :=
  (h.put hi (l.getD j 0)).put (by simpa using hj) (l.getD i 0)
end
def pairV (f : Nat → Int) (x : Nat) : Value := .agg #[.int .i64 (f x), .int .i64 (x : Int)]
def cc11 (p q : Int) : Int := if p < q then -1 else if q < p then 1 else 0
theorem cc11_lt {p q : Int} : cc11 p q < 0 ↔ p < q := by
  unfold cc11; split
  · omega
  · split <;> omega
theorem isNaN11_any (p : Int) (w : World) : Calls Tryz.prog 169 #[.int .i64 p] w fun e w' => e = .returned (.bool false) ∧ w = w' := by
  have h1 : (p != p) = false := by simp
  go_enter Tryz.func169, Tryz.ntmps169
  go_wp2_with fail
  go_ret
  exact ⟨rfl, rfl⟩
theorem compare11_any (p q : Int) (w : World) : Calls Tryz.prog 141 #[.int .i64 p, .int .i64 q] w fun e w' => e = .returned (.int .i64 (cc11 p q)) ∧ w' = w := by
  by_cases h1 : p < q
  · have HC := Lib.hid (show cc11 p q = -1 from if_pos h1)
    go_enter Tryz.func141, Tryz.ntmps141
    go_wp2_with (go_at_call 169; refine (isNaN11_any _ _).mono ?_; rintro e w' ⟨rfl, rfl⟩)
    go_ret
    exact ⟨ret_int HC.out.symm, rfl⟩
  · by_cases h2 : q < p
    · have HC := Lib.hid (show cc11 p q = 1 by unfold cc11; rw [if_neg h1, if_pos h2])
      go_enter Tryz.func141, Tryz.ntmps141
      go_wp2_with (go_at_call 169; refine (isNaN11_any _ _).mono ?_; rintro e w' ⟨rfl, rfl⟩)
      go_ret
      exact ⟨ret_int HC.out.symm, rfl⟩
    · have HC := Lib.hid (show cc11 p q = 0 by unfold cc11; rw [if_neg h1, if_neg h2])
      go_enter Tryz.func141, Tryz.ntmps141
      go_wp2_with (go_at_call 169; refine (isNaN11_any _ _).mono ?_; rintro e w' ⟨rfl, rfl⟩)
      go_ret
      exact ⟨ret_int HC.out.symm, rfl⟩
set_option maxRecDepth 100000 in
set_option maxHeartbeats 2000000 in
theorem cutsCmp_any (x i y j : Int) (w : World) : Calls Tryz.prog 156 #[.agg #[.int .i64 x, .int .i64 i], .agg #[.int .i64 y, .int .i64 j]] w fun e w' => e = .returned (.int .i64 (cc11 y x)) ∧ Below w.heap.size w w' := by
  have HL := Lib.hid lenP_any
  have HC := Lib.hid (fun w => compare11_any y x w)
  generalize cc11 y x = cv at HC ⊢
  have HB := Lib.hid (((Below.refl w.heap.size w).alloc (Nat.le_refl _) (.cells #[.int .i64 x, .int .i64 i] 164)).alloc (by simp) (.cells #[.int .i64 y, .int .i64 j] 164))
  go_enter Tryz.func156, Tryz.ntmps156
  go_wp2_with fail
  go_quiet (first | (go_at_call 157; exact Calls.quiet_of_same (HL.out _ _)) | (go_at_call 141; exact Calls.quiet_of_same (HC.out _)))
  go_wp2_with fail
  go_ret
  exact ⟨rfl, below_drewN HB.out _⟩
/-- what the closure answers, whenever it is called -/
def CmpAt11 (f : Nat → Int) (cf : Nat) (lb : Array Value) (ah : Nat → Nat → Bool) (n b : Nat) (w : World) : Prop := ∀ (i y : Nat) (W : World), i < n → y < i → Below b w W →
  ∃ cv : Int, (cv < 0 ↔ ah i y = true) ∧ Calls Tryz.prog cf (#[pairV f i, pairV f y] ++ lb) W fun e w' => e = .returned (.int .i64 cv) ∧ Below W.heap.size W w'
set_option maxRecDepth 100000 in
set_option maxHeartbeats 4000000 in
/-- Go's insertion sort of a block of numbers, by a closure that makes memory -/
theorem insertion11_any (f : Nat → Int) (ah : Nat → Nat → Bool) (b n cp : Nat) (w : World) (hn8 : n ≤ 8) (hb : b < w.heap.size) (hC : CmpAt11 f 156 #[] ah n b w) (hR : PairB w b f (List.range n)) :
    Calls Tryz.prog 191 #[.slice (some ⟨b, 0, none⟩) n cp, .int .i64 0, .int .i64 n, .func (.func 156) #[] #[]] w fun e w' => e = .returned (.tuple #[]) ∧ PairB w' b f (sortE ah n) ∧ Below b w w' := by
  have mixed : Tryz.prog.follows .mixedOrders = true := by kernel_rfl
  have hent := enters_of Tryz.func156 (by kernel_rfl) rfl
  have HCA := Lib.hid hC
  have HR := Lib.hid hR
  clear hC hR
  go_enter Tryz.func191, Tryz.ntmps191
  go_wp2_with fail
  go_loopg [8] n (fun g s8 wr => ∃ i : Nat, s8 = .int .i64 (i : Int) ∧ 1 ≤ i ∧ n - i ≤ g ∧ Below b w wr ∧ (i < n → PairB wr b f (insAt (sortE ah i) i [] n)) ∧ (n ≤ i → PairB wr b f (sortE ah n)))
  case atStart =>
    refine ⟨1, rfl, by omega, by omega, Below.refl _ _, fun h => ?_, fun h => ?_⟩
    · rw [← ins_first ah h]; exact HR.out
    · have : List.range n = sortE ah n := by
        rcases Nat.eq_zero_or_pos n with e | e
        · rw [e]; rfl
        · rw [show n = 1 by omega, sortE_one]; rfl
      rw [← this]; exact HR.out
  case round =>
    obtain ⟨i, rfl, hi1, hg, hB, h1, h2⟩ := hrel
    have H1 := Lib.hid h1
    have H2 := Lib.hid h2
    have HB := Lib.hid hB
    clear h1 h2 hB
    by_cases hlt : i < n
    · have hin : (i : Int) < (n : Int) := by omega
      have HRL := Lib.hid (sortE_len ah i)
      go_wp2_with fail
      go_loopg [9] i (fun g2 s9 wy => ∃ (l1 l2 : List Nat), s9 = .int .i64 (l1.length : Int) ∧ l1.length ≤ g2 ∧ l1 ++ l2 = sortE ah i ∧ (∀ y ∈ l2, ah i y = true) ∧ PairB wy b f (insAt l1 i l2 n) ∧ Below b w wy)
      case atStart => exact ⟨sortE ah i, [], by rw [HRL.out], by rw [HRL.out]; exact Nat.le_refl _, List.append_nil _, (fun y hy => by cases hy), H1.out hlt, HB.out⟩
      case round =>
        obtain ⟨l1, l2, rfl, hg2, hl, h2, hRow, hBy⟩ := hrel
        have H2' := Lib.hid h2
        have HRow := Lib.hid hRow
        have HBy := Lib.hid hBy
        have HLL := Lib.hid hl
        have hll : l1.length + l2.length = i := by have := congrArg List.length hl; simpa [HRL.out] using this
        have hlen := insAt_length (l1 := l1) (l2 := l2) hll hlt
        clear h2 hRow hBy hl
        rcases List.eq_nil_or_concat l1 with rfl | ⟨l, y, rfl⟩
        · have HD := Lib.hid (insE_done HLL.out (fun l z e => by simp at e) H2'.out)
          have hj0 : decide ((0 : Int) < 0) = false := rfl
          rw [List.length_nil]
          go_wp2_with fail
          go_quiet (fail)
          go_wp2_with fail
          go_roundg (n - (i + 1))
          case measure => omega
          case rel => exact ⟨i + 1, by go_num, by omega, by omega, below_drewN HBy.out _, fun h => by
              have := (HRow.out.drewN nq)
              rw [ins_next h HD.out] at this
              exact this, fun h => by
              have := (HRow.out.drewN nq)
              have e : n = i + 1 := by omega
              subst e
              rw [ins_last HD.out] at this
              exact this⟩
        · rw [List.concat_eq_append] at HLL HRow hll hlen ⊢
          rw [List.length_append, List.length_singleton] at hll ⊢
          have c1 := (HRow.out.at (q := l.length + 1) (by omega)).1
          have c2 := (HRow.out.at (q := l.length) (by omega)).1
          have e1 : (insAt (l ++ [y]) i l2 n).getD (l.length + 1) 0 = i := by have := insAt_here (l ++ [y]) l2 i n; simpa using this
          rw [e1] at c1
          rw [insAt_ahead] at c2
          obtain ⟨c1, c1'⟩ := c1
          obtain ⟨c2, c2'⟩ := c2
          have hyi : y < i := by
            have hm : y ∈ sortE ah i := by rw [← HLL.out]; simp
            exact sortE_mem.1 hm
          obtain ⟨cv, hcv, hcall⟩ := HCA.out i y wr.drew hlt hyi HBy.out.drew
          have HCV := Lib.hid hcv
          have HCM := Lib.hid (show Calls Tryz.prog 156 #[.agg #[.int .i64 (f i), .int .i64 (i : Int)], .agg #[.int .i64 (f y), .int .i64 (y : Int)]] wr.drew (fun e w' => e = .returned (.int .i64 cv) ∧ Below wr.drew.heap.size wr.drew w') from hcall)
          have hbw : b < wr.heap.size := Nat.lt_of_lt_of_le hb HBy.out.size
          have e2 : ((l.length + 1 : Nat) : Int) - 1 = (l.length : Int) := by omega
          have e3 : ((l.length + 1 : Nat) : Int) = (l.length : Int) + 1 := by omega
          have hj1 : l.length + 1 < n := by omega
          have hj2 : (l.length : Int) + 1 < (n : Int) := by omega
          have hj3 : (l.length : Int) < (n : Int) := by omega
          have hj4 : (0 : Int) < (l.length : Int) + 1 := by omega
          have hj5 : (0 : Int) ≤ (l.length : Int) + 1 := by omega
          have hj6 : l.length < n := by omega
          rw [e3]
          have HE1 := Lib.hid e1
          have HLEN := Lib.hid hlen
          clear e1 e2 e3 hcall hcv
          have HLL2 := Lib.hid hll
          obtain ⟨j, hj⟩ : ∃ j, l.length = j := ⟨_, rfl⟩
          have HJ := Lib.hid hj
          rw [hj] at c1 c1' c2 c2' hj1 hj2 hj3 hj4 hj5 hj6 ⊢
          clear hj hll hlen
          go_wp2_with fail
          have hw2 : IntKind.i64.wrap (j : Int) = (j : Int) := IntWalk.i64_in _ (by omega)
          have hj7 : (0 : Int) ≤ (j : Int) := by omega
          have hw1 : IntKind.i64.wrap ((j : Int) + 1 - 1) = (j : Int) := by rw [show (j : Int) + 1 - 1 = (j : Int) by omega]; exact IntWalk.i64_in _ (by omega)
          go_region_held3 (fun w' => w'.cell? ⟨b, (j + 1) * 2, none⟩ = some (.int .i64 (f i)) ∧ w'.cell? ⟨b, (j + 1) * 2 + 1, none⟩ = some (.int .i64 (i : Int)) ∧ w'.cell? ⟨b, j * 2, none⟩ = some (.int .i64 (f y)) ∧ w'.cell? ⟨b, j * 2 + 1, none⟩ = some (.int .i64 (y : Int))) (first | go_keep | exact ⟨k1, k1', k2, k2'⟩)
            (first | (go_at_call 156; refine HCM.out.mono ?_; rintro e w3 ⟨rfl, hb3⟩; have k1 := (hb3.cell (p := ⟨b, (j + 1) * 2, none⟩) hbw).trans c1; have k1' := (hb3.cell (p := ⟨b, (j + 1) * 2 + 1, none⟩) hbw).trans c1'; have k2 := (hb3.cell (p := ⟨b, j * 2, none⟩) hbw).trans c2; have k2' := (hb3.cell (p := ⟨b, j * 2 + 1, none⟩) hbw).trans c2'))
          have HRow3 := Lib.hid (show PairB w3 b f (insAt (l ++ [y]) i l2 n) from (HRow.out.drewN 1).block (hb3.block b hbw))
          have HB3 := Lib.hid (HBy.out.drew.trans (hb3.mono (by show b ≤ wr.heap.size; omega)))
          obtain ⟨f1, f1'⟩ := (HRow3.out.at (q := j + 1) (by rw [HLEN.out]; omega)).2
          obtain ⟨f2, f2'⟩ := (HRow3.out.at (q := j) (by rw [HLEN.out]; omega)).2
          clear hw1 hw2 c1 c1' c2 c2' hb3
          by_cases hcb : cv < 0
          · go_wp2_with fail
            go_region_o
            go_wp2_with fail
            have hsw := (HRow3.out).swap (i := l.length + 1) (j := l.length) (by rw [HLEN.out]; have := HJ.out; omega) (by rw [HLEN.out]; have := HJ.out; omega)
            rw [HE1.out, insAt_ahead, insAt_swap, HJ.out] at hsw
            go_roundg j
            case measure => have := HJ.out; simp at hg2; omega
            case rel => exact ⟨l, y :: l2, by rw [HJ.out], by rw [HJ.out]; exact Nat.le_refl _, by simpa using HLL.out, fun z hz => by
                rcases List.mem_cons.1 hz with rfl | hz
                · exact HCV.out.1 hcb
                · exact H2'.out z hz, hsw, ((((HB3.out.setCell (p := ⟨b, (j + 1) * 2, none⟩) (Nat.le_refl _) _).setCell (p := ⟨b, (j + 1) * 2 + 1, none⟩) (Nat.le_refl _) _).setCell (p := ⟨b, j * 2, none⟩) (Nat.le_refl _) _).setCell (p := ⟨b, j * 2 + 1, none⟩) (Nat.le_refl _) _).drew⟩
          · have HD := Lib.hid (insE_done HLL.out (fun l' z e => by
              have : z = y := by have := List.append_inj_right' e rfl; simpa using this.symm
              subst this
              cases hq : ah i z
              · rfl
              · exact absurd (HCV.out.2 hq) hcb) H2'.out)
            go_wp2_with fail
            go_roundg (n - (i + 1))
            case measure => omega
            case rel => exact ⟨i + 1, by go_num, by omega, by omega, HB3.out, fun h => by
                have := HRow3.out
                rw [ins_next h HD.out] at this
                exact this, fun h => by
                have := HRow3.out
                have e : n = i + 1 := by omega
                subst e
                rw [ins_last HD.out] at this
                exact this⟩
    · have hin : ¬ (i : Int) < (n : Int) := by omega
      go_wp2_with fail
      go_end0
      exact ⟨rfl, H2.out (by omega), HB.out⟩
theorem stable11_any (f : Nat → Int) (ah : Nat → Nat → Bool) (b n cp : Nat) (w : World) (hn8 : n ≤ 8) (hb : b < w.heap.size) (hC : CmpAt11 f 156 #[] ah n b w) (hR : PairB w b f (List.range n)) :
    Calls Tryz.prog 178 #[.slice (some ⟨b, 0, none⟩) n cp, .int .i64 n, .func (.func 156) #[] #[]] w fun e w' => e = .returned (.tuple #[]) ∧ PairB w' b f (sortE ah n) ∧ Below b w w' := by
  have HI := Lib.hid (insertion11_any f ah b n cp w hn8 hb hC hR)
  have h20 : ¬ (20 : Int) ≤ (n : Int) := by omega
  have h20' : ¬ (20 : Int) < (n : Int) := by omega
  clear hC hR
  go_enter Tryz.func178, Tryz.ntmps178
  go_wp2_with fail
  go_loopw [7, 8] (fun s7 s8 wr => s7 = .int .i64 0 ∧ s8 = .int .i64 20 ∧ wr = w) (fun _ _ _ => 0)
  case atStart => exact ⟨rfl, rfl, rfl⟩
  case round =>
    obtain ⟨rfl, rfl, rfl⟩ := hrel
    go_wp2_with fail
    refine HI.out.mono ?_
    rintro e w2 ⟨rfl, h1, h2⟩
    have H1 := Lib.hid h1
    have H2 := Lib.hid h2
    clear h1 h2
    go_wp2_with fail
    go_loopw [6] (fun s6 wr => s6 = .int .i64 20 ∧ wr = w2) (fun _ _ => 0)
    case atStart => exact ⟨rfl, rfl⟩
    case round =>
      obtain ⟨rfl, rfl⟩ := hrel
      go_wp2_with fail
      go_end0
      exact ⟨rfl, H1.out, H2.out⟩
theorem sortStable11_any (f : Nat → Int) (ah : Nat → Nat → Bool) (b n cp : Nat) (w : World) (hn8 : n ≤ 8) (hb : b < w.heap.size) (hC : CmpAt11 f 156 #[] ah n b w) (hR : PairB w b f (List.range n)) :
    Calls Tryz.prog 155 #[.slice (some ⟨b, 0, none⟩) n cp, .func (.func 156) #[] #[]] w fun e w' => e = .returned (.tuple #[]) ∧ PairB w' b f (sortE ah n) ∧ Below b w w' := by
  have HI := Lib.hid (stable11_any f ah b n cp w hn8 hb hC hR)
  clear hC hR
  go_enter Tryz.func155, Tryz.ntmps155
  go_wp2_with fail
  refine HI.out.mono ?_
  rintro e w2 ⟨rfl, h1, h2⟩
  go_wp2_with fail
  go_end0
  exact ⟨rfl, h1, h2⟩
end Go.Proofs.YtjcbpnffmebihaaGreatDoor
