import Derived.Test.YthmifadnfaajbaaRows
import Derived.WalkKit
import Derived.LoopTactic
import Derived.Outline
import Derived.WalkSpells
import Derived.WalkLawsBesides
import Derived.ProofKit
import Derived.Lib.Hide
import Derived.Deep.QuietTactic
import Derived.BigQuiet
import Derived.IntWalk
import Derived.Deep.LoopGhost
import Derived.Shelf.RegionOpenPlain
import Derived.Deep.RegionHeld3
import Derived.StillTailTactics
import Derived.Test.YthmifadnfaajbaaM0
import Derived.Test.YthmifadnfaajbaaM1
import Derived.Test.YthmifadnfaajbaaM15
import Derived.Test.YthmifadnfaajbaaM17
import Derived.Test.YthmifadnfaajbaaM13
import Derived.Test.YthmifadnfaajbaaM6
import Derived.Test.YthmifadnfaajbaaM11
import Derived.Test.YthmifadnfaajbaaM12
namespace Go.Proofs.Ythmifadnfaajbaa
open Go.RowKit Go.WideShapes

-- chapter 11's code: cuts that are listed (their lengths, and their places), sorted
/-- block b holds the listed cuts of these places, one behind the other; they may be written -/
def PairB (w : World) (b : Nat) (f : Nat → Int) (l : List Nat) : Prop := ∀ (q x : Nat), l[q]? = some x → (w.cell? ⟨b, q * 2, none⟩ = some (.int .i64 (f x)) ∧ w.cell? ⟨b, q * 2 + 1, none⟩ = some (.int .i64 (x : Int))) ∧ (w.frozen? ⟨b, q * 2, none⟩ = false ∧ w.frozen? ⟨b, q * 2 + 1, none⟩ = false)
section
variable {w w' : World} {b : Nat} {f : Nat → Int} {l : List Nat}
theorem PairB.block (h : PairB w b f l) (e : w'.heap[b]? = w.heap[b]?) : PairB w' b f l := by
  intro q x hx
  obtain ⟨⟨h1, h2⟩, h3, h4⟩ := h q x hx
  exact ⟨⟨by rw [World.cell?_of_block (w := w) e]; exact h1, by rw [World.cell?_of_block (w := w) e]; exact h2⟩, by rw [World.frozen?_of_block (w := w) e]; exact h3, by rw [World.frozen?_of_block (w := w) e]; exact h4⟩
theorem PairB.drewN (h : PairB w b f l) (n : Nat) : PairB (w.drewN n) b f l := h
theorem PairB.at {q : Nat} (h : PairB w b f l) (hq : q < l.length) : (w.cell? ⟨b, q * 2, none⟩ = some (.int .i64 (f (l.getD q 0))) ∧ w.cell? ⟨b, q * 2 + 1, none⟩ = some (.int .i64 ((l.getD q 0 : Nat) : Int))) ∧ (w.frozen? ⟨b, q * 2, none⟩ = false ∧ w.frozen? ⟨b, q * 2 + 1, none⟩ = false) := by
  refine h q _ ?_
  rw [List.getD_eq_getElem?_getD, List.getElem?_eq_getElem hq]; rfl
theorem PairB.lt (h : PairB w b f l) (hq : 0 < l.length) : b < w.heap.size := World.block_lt_of_cell? w _ (h.at hq).1.1
theorem PairB.put (h : PairB w b f l) {k : Nat} (hk : k < l.length) (v : Nat) : PairB ((w.setCell ⟨b, k * 2, none⟩ (.int .i64 (f v))).setCell ⟨b, k * 2 + 1, none⟩ (.int .i64 (v : Int))) b f (l.set k v) := by
  obtain ⟨⟨g1, g2⟩, _, _⟩ := h.at hk
  intro q x hx
  rw [List.getElem?_set] at hx
  have hfr : ∀ a, ((w.setCell ⟨b, k * 2, none⟩ (.int .i64 (f v))).setCell ⟨b, k * 2 + 1, none⟩ (.int .i64 (v : Int))).frozen? a = w.frozen? a := fun a => by rw [World.frozen?_setCell, World.frozen?_setCell]
  by_cases e : k = q
  · subst e
    rw [if_pos rfl, if_pos hk] at hx
    injection hx with hx
    subst hx
    refine ⟨⟨?_, ?_⟩, by rw [hfr]; exact (h.at hk).2.1, by rw [hfr]; exact (h.at hk).2.2⟩
    · rw [World.cell?_setCell_other _ _ _ _ (by intro e'; injection e' with _ e2; omega)]
      exact World.cell?_setCell_same _ _ _ g1
    · exact World.cell?_setCell_same _ _ _ ((World.cell?_setCell_other _ _ _ _ (by intro e'; injection e' with _ e2; omega)).trans g2)
  · rw [if_neg e] at hx
    obtain ⟨⟨h1, h2⟩, h3, h4⟩ := h q x hx
    refine ⟨⟨?_, ?_⟩, by rw [hfr]; exact h3, by rw [hfr]; exact h4⟩
    · rw [World.cell?_setCell_other _ _ _ _ (by intro e'; injection e' with _ e2; omega), World.cell?_setCell_other _ _ _ _ (by intro e'; injection e' with _ e2; omega)]
      exact h1
    · rw [World.cell?_setCell_other _ _ _ _ (by intro e'; injection e' with _ e2; omega), World.cell?_setCell_other _ _ _ _ (by intro e'; injection e' with _ e2; omega)]
      exact h2
theorem PairB.swap (h : PairB w b f l) {i j : Nat} (hi : i < l.length) (hj : j < l.length) :
    PairB ((((w.setCell ⟨b, i * 2, none⟩ (.int .i64 (f (l.getD j 0)))).setCell ⟨b, i * 2 + 1, none⟩ (.int .i64 ((l.getD j 0 : Nat) : Int))).setCell ⟨b, j * 2, none⟩ (.int .i64 (f (l.getD i 0)))).setCell ⟨b, j * 2 + 1, none⟩ (.int .i64 ((l.getD i 0 : Nat) : Int))) b f (swN l i j) :=
  (h.put hi (l.getD j 0)).put (by simpa using hj) (l.getD i 0)
end
def pairV (f : Nat → Int) (x : Nat) : Value := .agg #[.int .i64 (f x), .int .i64 (x : Int)]
def cc11 (p q : Int) : Int := if p < q then -1 else if q < p then 1 else 0
theorem cc11_lt {p q : Int} : cc11 p q < 0 ↔ p < q := by
  unfold cc11; split
  · omega
  · split <;> omega
theorem isNaN11_any (p : Int) (w : World) : Calls Try.prog 46 #[.int .i64 p] w fun e w' => e = .returned (.bool false) ∧ w = w' := by
  have h1 : (p != p) = false := by simp
  go_enter Try.func46, Try.ntmps46
  go_wp2_with fail
  go_ret
  exact ⟨rfl, rfl⟩
theorem compare11_any (p q : Int) (w : World) : Calls Try.prog 41 #[.int .i64 p, .int .i64 q] w fun e w' => e = .returned (.int .i64 (cc11 p q)) ∧ w' = w := by
  by_cases h1 : p < q
  · have HC := Lib.hid (show cc11 p q = -1 from if_pos h1)
    go_enter Try.func41, Try.ntmps41
    go_wp2_with (go_at_call 46; refine (isNaN11_any _ _).mono ?_; rintro e w' ⟨rfl, rfl⟩)
    go_ret
    exact ⟨ret_int HC.out.symm, rfl⟩
  · by_cases h2 : q < p
    · have HC := Lib.hid (show cc11 p q = 1 by unfold cc11; rw [if_neg h1, if_pos h2])
      go_enter Try.func41, Try.ntmps41
      go_wp2_with (go_at_call 46; refine (isNaN11_any _ _).mono ?_; rintro e w' ⟨rfl, rfl⟩)
      go_ret
      exact ⟨ret_int HC.out.symm, rfl⟩
    · have HC := Lib.hid (show cc11 p q = 0 by unfold cc11; rw [if_neg h1, if_neg h2])
      go_enter Try.func41, Try.ntmps41
      go_wp2_with (go_at_call 46; refine (isNaN11_any _ _).mono ?_; rintro e w' ⟨rfl, rfl⟩)
      go_ret
      exact ⟨ret_int HC.out.symm, rfl⟩
set_option maxRecDepth 100000 in
set_option maxHeartbeats 2000000 in
theorem cutsCmp_any (x i y j : Int) (w : World) : Calls Try.prog 40 #[.agg #[.int .i64 x, .int .i64 i], .agg #[.int .i64 y, .int .i64 j]] w fun e w' => e = .returned (.int .i64 (cc11 y x)) ∧ Below w.heap.size w w' := by
  have HL := Lib.hid lenP_any
  have HC := Lib.hid (fun w => compare11_any y x w)
  generalize cc11 y x = cv at HC ⊢
  have HB := Lib.hid (((Below.refl w.heap.size w).alloc (Nat.le_refl _) (.cells #[.int .i64 x, .int .i64 i] 51)).alloc (by simp) (.cells #[.int .i64 y, .int .i64 j] 51))
  go_enter Try.func40, Try.ntmps40
  go_wp2_with fail
  go_quiet (first | (go_at_call 42; exact Calls.quiet_of_same (HL.out _ _)) | (go_at_call 41; exact Calls.quiet_of_same (HC.out _)))
  go_wp2_with fail
  go_ret
  exact ⟨rfl, below_drewN HB.out _⟩
/-- what the closure answers, whenever it is called -/
def CmpAt11 (f : Nat → Int) (cf : Nat) (lb : Array Value) (ah : Nat → Nat → Bool) (n b : Nat) (w : World) : Prop := ∀ (i y : Nat) (W : World), i < n → y < i → Below b w W →
  ∃ cv : Int, (cv < 0 ↔ ah i y = true) ∧ Calls Try.prog cf (#[pairV f i, pairV f y] ++ lb) W fun e w' => e = .returned (.int .i64 cv) ∧ Below W.heap.size W w'
set_option maxRecDepth 100000 in
set_option maxHeartbeats 4000000 in
/-- Go's insertion sort of a block of numbers, by a closure that makes memory -/
theorem insertion11_any (f : Nat → Int) (ah : Nat → Nat → Bool) (b n cp : Nat) (w : World) (hn8 : n ≤ 8) (hb : b < w.heap.size) (hC : CmpAt11 f 40 #[] ah n b w) (hR : PairB w b f (List.range n)) :
    Calls Try.prog 47 #[.slice (some ⟨b, 0, none⟩) n cp, .int .i64 0, .int .i64 n, .func (.func 40) #[] #[]] w fun e w' => e = .returned (.tuple #[]) ∧ PairB w' b f (sortE ah n) ∧ Below b w w' := by
  have mixed : Try.prog.follows .mixedOrders = true := by kernel_rfl
  have hent := enters_of Try.func40 (by kernel_rfl) rfl
  have HCA := Lib.hid hC
  have HR := Lib.hid hR
  clear hC hR
  go_enter Try.func47, Try.ntmps47
  go_wp2_with fail
  go_loopg [8] n (fun g s8 wr => ∃ i : Nat, s8 = .int .i64 (i : Int) ∧ 1 ≤ i ∧ n - i ≤ g ∧ Below b w wr ∧ (i < n → PairB wr b f (insAt (sortE ah i) i [] n)) ∧ (n ≤ i → PairB wr b f (sortE ah n)))
  case atStart =>
    refine ⟨1, rfl, by omega, by omega, Below.refl _ _, fun h => ?_, fun h => ?_⟩
    · rw [← ins_first ah h]; exact HR.out
    · have : List.range n = sortE ah n := by
        rcases Nat.eq_zero_or_pos n with e | e
        · rw [e]; rfl
        · rw [show n = 1 by omega, sortE_one]; rfl
      rw [← this]; exact HR.out
  case round =>
    obtain ⟨i, rfl, hi1, hg, hB, h1, h2⟩ := hrel
    have H1 := Lib.hid h1
    have H2 := Lib.hid h2
    have HB := Lib.hid hB
    clear h1 h2 hB
    by_cases hlt : i < n
    · have hin : (i : Int) < (n : Int) := by omega
      have HRL := Lib.hid (sortE_len ah i)
      go_wp2_with fail
      go_loopg [9] i (fun g2 s9 wy => ∃ (l1 l2 : List Nat), s9 = .int .i64 (l1.length : Int) ∧ l1.length ≤ g2 ∧ l1 ++ l2 = sortE ah i ∧ (∀ y ∈ l2, ah i y = true) ∧ PairB wy b f (insAt l1 i l2 n) ∧ Below b w wy)
      case atStart => exact ⟨sortE ah i, [], by rw [HRL.out], by rw [HRL.out]; exact Nat.le_refl _, List.append_nil _, (fun y hy => by cases hy), H1.out hlt, HB.out⟩
      case round =>
        obtain ⟨l1, l2, rfl, hg2, hl, h2, hRow, hBy⟩ := hrel
        have H2' := Lib.hid h2
        have HRow := Lib.hid hRow
        have HBy := Lib.hid hBy
        have HLL := Lib.hid hl
        have hll : l1.length + l2.length = i := by have := congrArg List.length hl; simpa [HRL.out] using this
        have hlen := insAt_length (l1 := l1) (l2 := l2) hll hlt
        clear h2 hRow hBy hl
        rcases List.eq_nil_or_concat l1 with rfl | ⟨l, y, rfl⟩
        · have HD := Lib.hid (insE_done HLL.out (fun l z e => by simp at e) H2'.out)
          have hj0 : decide ((0 : Int) < 0) = false := rfl
          rw [List.length_nil]
          go_wp2_with fail
          go_quiet (fail)
          go_wp2_with fail
          go_roundg (n - (i + 1))
          case measure => omega
          case rel => exact ⟨i + 1, by go_num, by omega, by omega, below_drewN HBy.out _, fun h => by
              have := (HRow.out.drewN nq)
              rw [ins_next h HD.out] at this
              exact this, fun h => by
              have := (HRow.out.drewN nq)
              have e : n = i + 1 := by omega
              subst e
              rw [ins_last HD.out] at this
              exact this⟩
        · rw [List.concat_eq_append] at HLL HRow hll hlen ⊢
          rw [List.length_append, List.length_singleton] at hll ⊢
          have c1 := (HRow.out.at (q := l.length + 1) (by omega)).1
          have c2 := (HRow.out.at (q := l.length) (by omega)).1
          have e1 : (insAt (l ++ [y]) i l2 n).getD (l.length + 1) 0 = i := by have := insAt_here (l ++ [y]) l2 i n; simpa using this
          rw [e1] at c1
          rw [insAt_ahead] at c2
          obtain ⟨c1, c1'⟩ := c1
          obtain ⟨c2, c2'⟩ := c2
          have hyi : y < i := by
            have hm : y ∈ sortE ah i := by rw [← HLL.out]; simp
            exact sortE_mem.1 hm
          obtain ⟨cv, hcv, hcall⟩ := HCA.out i y wr.drew hlt hyi HBy.out.drew
          have HCV := Lib.hid hcv
          have HCM := Lib.hid (show Calls Try.prog 40 #[.agg #[.int .i64 (f i), .int .i64 (i : Int)], .agg #[.int .i64 (f y), .int .i64 (y : Int)]] wr.drew (fun e w' => e = .returned (.int .i64 cv) ∧ Below wr.drew.heap.size wr.drew w') from hcall)
          have hbw : b < wr.heap.size := Nat.lt_of_lt_of_le hb HBy.out.size
          have e2 : ((l.length + 1 : Nat) : Int) - 1 = (l.length : Int) := by omega
          have e3 : ((l.length + 1 : Nat) : Int) = (l.length : Int) + 1 := by omega
          have hj1 : l.length + 1 < n := by omega
          have hj2 : (l.length : Int) + 1 < (n : Int) := by omega
          have hj3 : (l.length : Int) < (n : Int) := by omega
          have hj4 : (0 : Int) < (l.length : Int) + 1 := by omega
          have hj5 : (0 : Int) ≤ (l.length : Int) + 1 := by omega
          have hj6 : l.length < n := by omega
          rw [e3]
          have HE1 := Lib.hid e1
          have HLEN := Lib.hid hlen
          clear e1 e2 e3 hcall hcv
          have HLL2 := Lib.hid hll
          obtain ⟨j, hj⟩ : ∃ j, l.length = j := ⟨_, rfl⟩
          have HJ := Lib.hid hj
          rw [hj] at c1 c1' c2 c2' hj1 hj2 hj3 hj4 hj5 hj6 ⊢
          clear hj hll hlen
          go_wp2_with fail
          have hw2 : IntKind.i64.wrap (j : Int) = (j : Int) := IntWalk.i64_in _ (by omega)
          have hj7 : (0 : Int) ≤ (j : Int) := by omega
          have hw1 : IntKind.i64.wrap ((j : Int) + 1 - 1) = (j : Int) := by rw [show (j : Int) + 1 - 1 = (j : Int) by omega]; exact IntWalk.i64_in _ (by omega)
          go_region_held3 (fun w' => w'.cell? ⟨b, (j + 1) * 2, none⟩ = some (.int .i64 (f i)) ∧ w'.cell? ⟨b, (j + 1) * 2 + 1, none⟩ = some (.int .i64 (i : Int)) ∧ w'.cell? ⟨b, j * 2, none⟩ = some (.int .i64 (f y)) ∧ w'.cell? ⟨b, j * 2 + 1, none⟩ = some (.int .i64 (y : Int))) (first | go_keep | exact ⟨k1, k1', k2, k2'⟩)
            (first | (go_at_call 40; refine HCM.out.mono ?_; rintro e w3 ⟨rfl, hb3⟩; have k1 := (hb3.cell (p := ⟨b, (j + 1) * 2, none⟩) hbw).trans c1; have k1' := (hb3.cell (p := ⟨b, (j + 1) * 2 + 1, none⟩) hbw).trans c1'; have k2 := (hb3.cell (p := ⟨b, j * 2, none⟩) hbw).trans c2; have k2' := (hb3.cell (p := ⟨b, j * 2 + 1, none⟩) hbw).trans c2'))
          have HRow3 := Lib.hid (show PairB w3 b f (insAt (l ++ [y]) i l2 n) from (HRow.out.drewN 1).block (hb3.block b hbw))
          have HB3 := Lib.hid (HBy.out.drew.trans (hb3.mono (by show b ≤ wr.heap.size; omega)))
          obtain ⟨f1, f1'⟩ := (HRow3.out.at (q := j + 1) (by rw [HLEN.out]; omega)).2
          obtain ⟨f2, f2'⟩ := (HRow3.out.at (q := j) (by rw [HLEN.out]; omega)).2
          clear hw1 hw2 c1 c1' c2 c2' hb3
          by_cases hcb : cv < 0
          · go_wp2_with fail
            go_region_o
            go_wp2_with fail
            have hsw := (HRow3.out).swap (i := l.length + 1) (j := l.length) (by rw [HLEN.out]; have := HJ.out; omega) (by rw [HLEN.out]; have := HJ.out; omega)
            rw [HE1.out, insAt_ahead, insAt_swap, HJ.out] at hsw
            go_roundg j
            case measure => have := HJ.out; simp at hg2; omega
            case rel => exact ⟨l, y :: l2, by rw [HJ.out], by rw [HJ.out]; exact Nat.le_refl _, by simpa using HLL.out, fun z hz => by
                rcases List.mem_cons.1 hz with rfl | hz
                · exact HCV.out.1 hcb
                · exact H2'.out z hz, hsw, ((((HB3.out.setCell (p := ⟨b, (j + 1) * 2, none⟩) (Nat.le_refl _) _).setCell (p := ⟨b, (j + 1) * 2 + 1, none⟩) (Nat.le_refl _) _).setCell (p := ⟨b, j * 2, none⟩) (Nat.le_refl _) _).setCell (p := ⟨b, j * 2 + 1, none⟩) (Nat.le_refl _) _).drew⟩
          · have HD := Lib.hid (insE_done HLL.out (fun l' z e => by
              have : z = y := by have := List.append_inj_right' e rfl; simpa using this.symm
              subst this
              cases hq : ah i z
              · rfl
              · exact absurd (HCV.out.2 hq) hcb) H2'.out)
            go_wp2_with fail
            go_roundg (n - (i + 1))
            case measure => omega
            case rel => exact ⟨i + 1, by go_num, by omega, by omega, HB3.out, fun h => by
                have := HRow3.out
                rw [ins_next h HD.out] at this
                exact this, fun h => by
                have := HRow3.out
                have e : n = i + 1 := by omega
                subst e
                rw [ins_last HD.out] at this
                exact this⟩
    · have hin : ¬ (i : Int) < (n : Int) := by omega
      go_wp2_with fail
      go_end0
      exact ⟨rfl, H2.out (by omega), HB.out⟩
theorem stable11_any (f : Nat → Int) (ah : Nat → Nat → Bool) (b n cp : Nat) (w : World) (hn8 : n ≤ 8) (hb : b < w.heap.size) (hC : CmpAt11 f 40 #[] ah n b w) (hR : PairB w b f (List.range n)) :
    Calls Try.prog 45 #[.slice (some ⟨b, 0, none⟩) n cp, .int .i64 n, .func (.func 40) #[] #[]] w fun e w' => e = .returned (.tuple #[]) ∧ PairB w' b f (sortE ah n) ∧ Below b w w' := by
  have HI := Lib.hid (insertion11_any f ah b n cp w hn8 hb hC hR)
  have h20 : ¬ (20 : Int) ≤ (n : Int) := by omega
  have h20' : ¬ (20 : Int) < (n : Int) := by omega
  clear hC hR
  go_enter Try.func45, Try.ntmps45
  go_wp2_with fail
  go_loopw [7, 8] (fun s7 s8 wr => s7 = .int .i64 0 ∧ s8 = .int .i64 20 ∧ wr = w) (fun _ _ _ => 0)
  case atStart => exact ⟨rfl, rfl, rfl⟩
  case round =>
    obtain ⟨rfl, rfl, rfl⟩ := hrel
    go_wp2_with fail
    refine HI.out.mono ?_
    rintro e w2 ⟨rfl, h1, h2⟩
    have H1 := Lib.hid h1
    have H2 := Lib.hid h2
    clear h1 h2
    go_wp2_with fail
    go_loopw [6] (fun s6 wr => s6 = .int .i64 20 ∧ wr = w2) (fun _ _ => 0)
    case atStart => exact ⟨rfl, rfl⟩
    case round =>
      obtain ⟨rfl, rfl⟩ := hrel
      go_wp2_with fail
      go_end0
      exact ⟨rfl, H1.out, H2.out⟩
theorem sortStable11_any (f : Nat → Int) (ah : Nat → Nat → Bool) (b n cp : Nat) (w : World) (hn8 : n ≤ 8) (hb : b < w.heap.size) (hC : CmpAt11 f 40 #[] ah n b w) (hR : PairB w b f (List.range n)) :
    Calls Try.prog 39 #[.slice (some ⟨b, 0, none⟩) n cp, .func (.func 40) #[] #[]] w fun e w' => e = .returned (.tuple #[]) ∧ PairB w' b f (sortE ah n) ∧ Below b w w' := by
  have HI := Lib.hid (stable11_any f ah b n cp w hn8 hb hC hR)
  clear hC hR
  go_enter Try.func39, Try.ntmps39
  go_wp2_with fail
  refine HI.out.mono ?_
  rintro e w2 ⟨rfl, h1, h2⟩
  go_wp2_with fail
  go_end0
  exact ⟨rfl, h1, h2⟩
end Go.Proofs.Ythmifadnfaajbaa
namespace Go.Proofs.Ythmifadnfaajbaa
open Go.RowKit Go.WideShapes

-- chapter 11's code: kindOf, cutsIn
def CellsC (w : World) (b n : Nat) (f : Nat → Int) : Prop := ∀ j, j < n → w.cell? ⟨b, j, none⟩ = some (.int .i64 (f j)) ∧ w.frozen? ⟨b, j, none⟩ = false
theorem CellsC.put {w : World} {b n : Nat} {f : Nat → Int} (h : CellsC w b n f) {k : Nat} (hk : k < n) (x : Int) : CellsC (w.setCell ⟨b, k, none⟩ (.int .i64 x)) b n (fun j => if j = k then x else f j) := fun j hj => by
  refine ⟨?_, by rw [World.frozen?_setCell]; exact (h j hj).2⟩
  by_cases e : j = k
  · subst e
    dsimp only
    rw [if_pos rfl]
    exact World.cell?_setCell_same _ _ _ (h j hj).1
  · dsimp only
    rw [if_neg e, World.cell?_setCell_other _ _ _ _ (by intro e'; injection e' with _ e2; omega)]
    exact (h j hj).1
/-- the first k places filled -/
def pairC (f : Nat → Int) (k j : Nat) : Int := if j / 2 < k then (if j % 2 = 0 then f (j / 2) else ((j / 2 : Nat) : Int)) else 0
theorem pairC_step {w : World} {b n k : Nat} {f : Nat → Int} (h : CellsC w b (n * 2) (pairC f k)) (hk : k < n) : CellsC ((w.setCell ⟨b, k * 2, none⟩ (.int .i64 (f k))).setCell ⟨b, k * 2 + 1, none⟩ (.int .i64 (k : Int))) b (n * 2) (pairC f (k + 1)) := by
  have := (h.put (k := k * 2) (by omega) (f k)).put (k := k * 2 + 1) (by omega) (k : Int)
  intro j hj
  obtain ⟨h1, h2⟩ := this j hj
  refine ⟨?_, h2⟩
  rw [h1]
  congr 2
  unfold pairC
  dsimp only
  by_cases e : j = k * 2 + 1
  · subst e
    rw [if_pos rfl, show (k * 2 + 1) / 2 = k by omega, if_pos (by omega), if_neg (by omega)]
  · rw [if_neg e]
    by_cases e2 : j = k * 2
    · subst e2
      rw [if_pos rfl, show k * 2 / 2 = k by omega, if_pos (by omega), if_pos (by omega)]
    · rw [if_neg e2]
      by_cases g : j / 2 < k
      · rw [if_pos g, if_pos (show j / 2 < k + 1 by omega)]
      · rw [if_neg g, if_neg (show ¬ j / 2 < k + 1 by omega)]
theorem pairC_all {w : World} {b n : Nat} {f : Nat → Int} (h : CellsC w b (n * 2) (pairC f n)) : PairB w b f (List.range n) := by
  intro q x hx
  obtain ⟨hq, e⟩ := List.getElem?_eq_some_iff.1 hx
  simp at hq e
  subst e
  obtain ⟨h1, h2⟩ := h (q * 2) (by omega)
  obtain ⟨h3, h4⟩ := h (q * 2 + 1) (by omega)
  refine ⟨⟨?_, ?_⟩, h2, h4⟩
  · rw [h1]; unfold pairC; rw [show q * 2 / 2 = q by omega, if_pos hq, if_pos (by omega)]
  · rw [h3]; unfold pairC; rw [show (q * 2 + 1) / 2 = q by omega, if_pos hq, if_neg (by omega)]
theorem Try.infoLC : (Try.prog.info? 51).map (fun i => (i.zero, i.size, i.bytes)) = some (some (.agg #[.int .i64 0, .int .i64 0]), 2, 16) := by kernel_rfl
theorem run_makeListed (n : Nat) (hn : n ≤ 8) (w : World) :
    (Instr.makeSlice 48 (.int .i64 (n : Int)) (.int .i64 (n : Int))).run Try.prog w = .ok (.slice (some ⟨w.heap.size, 0, none⟩) n n) (w.alloc (.cells (madeCells #[.int .i64 0, .int .i64 0] (n * 2)) 51)) := by
  obtain ⟨i, hi, hzz⟩ := Option.map_eq_some_iff.1 Try.infoLC
  simp only [Prod.mk.injEq] at hzz
  obtain ⟨hz, hs, hb⟩ := hzz
  have hr := run_make (P := Try.prog) w 48 51 i _ Try.underlying48 hi hz .i64 .i64 n n (by omega) (Int.le_refl _) (by rw [hb]; omega) (by omega)
  simp only [Int.toNat_natCast, hs] at hr
  exact hr
theorem pairC_start (f : Nat → Int) (w : World) (n : Nat) : CellsC (w.alloc (.cells (madeCells #[.int .i64 0, .int .i64 0] (n * 2)) 51)) w.heap.size (n * 2) (pairC f 0) := fun j hj => by
  refine ⟨?_, World.frozen?_alloc_new w _ _ _⟩
  rw [World.cell?_alloc_new]
  have hj2 : j % 2 = 0 ∨ j % 2 = 1 := by omega
  simp only [madeCells, Array.getElem?_map, Array.getElem?_range, hj, if_true, Option.map_some]
  unfold pairC
  rw [if_neg (by omega)]
  rcases hj2 with e | e <;> simp [e]
/-- the cuts in the order of a kind, in a block of its own -/
def CutsPost (w : World) (n : Nat) (f : Nat → Int) (l : List Nat) (e : Ending) (w' : World) : Prop := ∃ b, e = .returned (.slice (some ⟨b, 0, none⟩) n n) ∧ w.heap.size ≤ b ∧ b < w'.heap.size ∧ PairB w' b f l ∧ Below w.heap.size w w'
def kindO (kind : ByteArray) : Int := if isFirst kind then 1 else if isLong kind then 2 else 0
def cutOrdO (xs : List Int) (o : Int) : List Nat := if o = 2 then sortE (ahL xs) xs.length else List.range xs.length
set_option maxRecDepth 100000 in
set_option maxHeartbeats 4000000 in
theorem cutsIn_any (a : Option Addr) (len cap : Nat) (xs : List Int) (o : Int) (w : World) (h : IntsAt w (· < w.heap.size) a len xs) (hn : len ≤ 7) (ho : 0 ≤ o ∧ o ≤ 2) :
    Calls Try.prog 27 #[.slice a len cap, .int .i64 o] w (CutsPost w len (lenT xs) (cutOrdO xs o)) := by
  have HL := Lib.hid h.lenEq
  have hmk := fun w => run_makeListed len (by omega) w
  have HH := Lib.hid h
  clear h
  go_enter Try.func27, Try.ntmps27
  go_wp2_with fail
  clear hmk
  go_loopw [13] (fun i wr => ∃ k : Nat, k ≤ len ∧ i = .int .i64 k ∧ Below w.heap.size w wr ∧ w.heap.size < wr.heap.size ∧ CellsC wr w.heap.size (len * 2) (pairC (lenT xs) k)) (fun i _ => len - (intOf i).toNat)
  case atStart => exact ⟨0, Nat.zero_le _, rfl, (Below.refl _ _).alloc (Nat.le_refl _) _, by simp, pairC_start _ _ _⟩
  case round =>
    obtain ⟨k, hk, rfl, hb, hsz, hc⟩ := hrel
    have HB := Lib.hid hb
    have HC := Lib.hid hc
    by_cases hlt : k < len
    · have hkI : (k : Int) < (len : Int) := by omega
      obtain ⟨b, off, x, rfl, hx, hcx⟩ := (HH.out.below hb).get hlt
      have HX := Lib.hid (show lenT xs k = x from getD_of hx)
      obtain ⟨g0, f0⟩ := hc (k * 2) (by omega)
      obtain ⟨g1, f1⟩ := hc (k * 2 + 1) (by omega)
      clear hx hc hb
      go_wp2_with fail
      have HC2 := Lib.hid (pairC_step HC.out hlt)
      rw [HX.out] at HC2
      go_roundw
      case rel => exact ⟨k + 1, by omega, by go_num, (HB.out.setCell (p := ⟨w.heap.size, k * 2, none⟩) (Nat.le_refl _) _).setCell (p := ⟨w.heap.size, k * 2 + 1, none⟩) (Nat.le_refl _) _, by simpa [World.setCell] using hsz, HC2.out⟩
      case measure => simp [intOf]; omega
    · obtain rfl : k = len := by omega
      have hkI : ¬ (k : Int) < (k : Int) := by omega
      have HP := Lib.hid (pairC_all hc)
      clear hb hc
      by_cases h2 : o = 2
      · have HO := Lib.hid (show cutOrdO xs o = sortE (ahL xs) k by unfold cutOrdO; rw [if_pos h2, HL.out])
        subst h2
        have hC : CmpAt11 (lenT xs) 40 #[] (ahL xs) k w.heap.size wr := fun i y W hi hy hW =>
          ⟨cc11 (lenT xs y) (lenT xs i), by rw [cc11_lt]; unfold ahL lenT; rw [decide_eq_true_iff], cutsCmp_any _ _ _ _ W⟩
        have HS := Lib.hid (sortStable11_any (lenT xs) (ahL xs) w.heap.size k k wr (by omega) hsz hC HP.out)
        clear hC
        go_wp2_with fail
        refine HS.out.mono ?_
        rintro e w4 ⟨rfl, h4, hb4⟩
        have H4 := Lib.hid h4
        have HB4 := Lib.hid hb4
        clear h4 hb4
        go_wp2_with fail
        go_ret
        exact ⟨w.heap.size, rfl, Nat.le_refl _, Nat.lt_of_lt_of_le hsz HB4.out.size, by rw [HO.out]; exact H4.out, HB.out.trans HB4.out⟩
      · have HO := Lib.hid (show cutOrdO xs o = List.range k by unfold cutOrdO; rw [if_neg h2, HL.out])
        go_wp2_with fail
        go_ret
        exact ⟨w.heap.size, rfl, Nat.le_refl _, hsz, by rw [HO.out]; exact HP.out, HB.out⟩
set_option maxRecDepth 100000 in
theorem kindOf_any (kind : ByteArray) (w : World) : Calls Try.prog 26 #[.string kind] w fun e w' => e = .returned (.int .i64 (kindO kind)) ∧ w' = w := by
  have e1 : (kind.toList == [108, 111, 110, 103]) = isLong kind := rfl
  have e2 : (kind.toList == [102, 105, 114, 115, 116]) = isFirst kind := rfl
  cases h2 : isFirst kind
  · cases h1 : isLong kind
    · have HK := Lib.hid (show kindO kind = 0 by unfold kindO; rw [h1, h2]; rfl)
      rw [h1] at e1
      rw [h2] at e2
      go_enter Try.func26, Try.ntmps26
      go_wp2_with fail
      go_ret
      exact ⟨ret_int HK.out.symm, rfl⟩
    · have HK := Lib.hid (show kindO kind = 2 by unfold kindO; rw [h1, h2]; rfl)
      rw [h1] at e1
      rw [h2] at e2
      go_enter Try.func26, Try.ntmps26
      go_wp2_with fail
      go_ret
      exact ⟨ret_int HK.out.symm, rfl⟩
  · have HK := Lib.hid (show kindO kind = 1 by unfold kindO; rw [h2]; rfl)
    rw [h2] at e2
    go_enter Try.func26, Try.ntmps26
    go_wp2_with fail
    go_ret
    exact ⟨ret_int HK.out.symm, rfl⟩
end Go.Proofs.Ythmifadnfaajbaa
namespace Go.Proofs.Ythmifadnfaajbaa
open Go.RowKit Go.WideShapes

-- rolls of listed cuts
def encL (y : Int × Int) : List Value := [.int .i64 y.1, .int .i64 y.2]
def RollsL (w : World) (B r : Nat) (R : Int) (v : Value) (vs : List Value) (rows : List (List (Int × Int))) : Prop := RollsW encL 2 47 48 51 w B r R v vs rows
theorem encL_get : ∀ (l : List (Int × Int)) (j : Nat) (y : Int × Int), l[j]? = some y → (l.flatMap encL)[j * 2]? = some (.int .i64 y.1) ∧ (l.flatMap encL)[j * 2 + 1]? = some (.int .i64 y.2)
  | [], j, y, h => by simp at h
  | x :: l, 0, y, h => by
    simp at h
    subst h
    exact ⟨rfl, rfl⟩
  | x :: l, j + 1, y, h => by
    have ih := encL_get l j y (by simpa using h)
    rw [List.flatMap_cons]
    show ([Value.int .i64 x.1, Value.int .i64 x.2] ++ _)[(j + 1) * 2]? = _ ∧ ([Value.int .i64 x.1, Value.int .i64 x.2] ++ _)[(j + 1) * 2 + 1]? = _
    rw [List.getElem?_append_right (by simp; omega), List.getElem?_append_right (by simp; omega)]
    rw [show (j + 1) * 2 - [Value.int .i64 x.1, Value.int .i64 x.2].length = j * 2 by simp; omega, show (j + 1) * 2 + 1 - [Value.int .i64 x.1, Value.int .i64 x.2].length = j * 2 + 1 by simp; omega]
    exact ih
theorem own_listed {w : World} {B : Nat} {e : TypeId} {u : Value} {n : Nat} {l : List (Int × Int)} (h : w.ownsRow B e 2 u n (l.flatMap encL)) : ∃ a c, u = .slice a n c ∧ n ≤ c ∧
    ∀ j y, l[j]? = some y → j < n → ∃ g, a = some ⟨g, 0, none⟩ ∧ g < w.heap.size ∧ w.cell? ⟨g, j * 2, none⟩ = some (.int .i64 y.1) ∧ w.cell? ⟨g, j * 2 + 1, none⟩ = some (.int .i64 y.2) := by
  obtain ⟨a, c, rfl, hc⟩ := own_slice h
  refine ⟨a, c, rfl, hc, fun j y hj hn => ?_⟩
  obtain ⟨g, cap, e, hb, hlt⟩ := h.form (by omega)
  injection e with e1 e2 e3
  subst e1 e3
  obtain ⟨g1, g2⟩ := encL_get l j y hj
  exact ⟨g, rfl, hlt, (h.cellAt (j * 2) (by omega)).trans g1, (h.cellAt (j * 2 + 1) (by omega)).trans g2⟩
end Go.Proofs.Ythmifadnfaajbaa
namespace Go.Proofs.Ythmifadnfaajbaa
open Go.RowKit Go.WideShapes

-- chapter 11's code: hasRoom, firstFor of listed cuts
theorem lenL_meth (y p : Int) : ∀ (k : Nat) (w : World), (method (k + 1) 51 (.agg #[.int .i64 y, .int .i64 p]) "loop.example/shopsthatmake/impl.length").run Try.prog w = .ok (42, (.int .i64 y)) w := fun _ _ => by kernel_rfl
theorem map_getD (l : List (Int × Int)) {j : Nat} {x : Int × Int} (h : l[j]? = some x) : (l.map Prod.fst).getD j 0 = x.1 := by
  rw [List.getD_eq_getElem?_getD, List.getElem?_map, h]; rfl
set_option maxRecDepth 100000 in
set_option maxHeartbeats 2000000 in
theorem hasRoomL_any {w : World} {B r : Nat} {R : Int} {v : Value} {vs : List Value} {rows : List (List (Int × Int))} {n : Nat} (h : RollsL w B r R v vs rows) (hok : RowsOk Prod.fst rows n) (hn : n ≤ 20) (hR : 0 ≤ R ∧ R ≤ 20) {k : Nat} (hk : k ≤ rows.length) (y p : Int) :
    Calls Try.prog 43 #[.pointer (some ⟨r, 0, none⟩), .int .i64 k, .agg #[.int .i64 y, .int .i64 p]] w fun e w' => e = .returned (.bool (hasR R (loadsOf Prod.fst rows) k y)) ∧ Below w.heap.size w w' := by
  have hrl0 := lt_heap h.box
  obtain ⟨a0, a1, _⟩ := h.cells
  have hlen := hok.len
  obtain ⟨av, cv, hv, hcv⟩ := own_slice h.outer
  rw [hv] at a1
  have HB0 := Lib.hid ((Below.refl w.heap.size w).alloc (Nat.le_refl _) (.cells #[.int .i64 y, .int .i64 p] 51))
  have c0 : (w.alloc (.cells #[.int .i64 y, .int .i64 p] 51)).cell? ⟨r, 0, none⟩ = some (.int .i64 R) := (World.cell?_of_block (w := w) (Below.heap_alloc _ _ _ hrl0)).trans a0
  have c1 : (w.alloc (.cells #[.int .i64 y, .int .i64 p] 51)).cell? ⟨r, 1, none⟩ = some (.slice av rows.length cv) := (World.cell?_of_block (w := w) (Below.heap_alloc _ _ _ hrl0)).trans a1
  by_cases hkn : k = rows.length
  · have HF := Lib.hid (show hasR R (loadsOf Prod.fst rows) k y = true by unfold hasR; rw [loads_len, decide_eq_true hkn]; rfl)
    subst hkn
    clear hv hok h a0 a1 c0
    go_enter Try.func43, Try.ntmps43
    go_wp2_with fail
    go_ret
    exact ⟨ret_bool HF.out.symm, HB0.out⟩
  · have hkl : k < rows.length := by omega
    have HF := Lib.hid (show hasR R (loadsOf Prod.fst rows) k y = decide (y ≤ R - sumI ((rows.getD k []).map Prod.fst)) by unfold hasR; rw [loads_len, decide_eq_false hkn, loads_get]; simp)
    obtain ⟨g, cap, hv2, _, hgl⟩ := h.outer.form (by omega)
    have ho := h.outer
    rw [hv2] at ho hv
    injection hv with hv1 _ hv3
    subst hv1 hv3
    obtain ⟨u, hu⟩ : ∃ u, vs[k]? = some u := ⟨vs[k]'(by rw [h.lenV]; exact hkl), List.getElem?_eq_getElem _⟩
    have cr0 := (ho.cellAt k (by omega)).trans hu
    have hrow := h.row k u hu
    obtain ⟨au, cu, rfl, hcu, hpairs⟩ := own_listed hrow
    have cr : (w.alloc (.cells #[.int .i64 y, .int .i64 p] 51)).cell? ⟨g, k, none⟩ = _ := (World.cell?_of_block (w := w) (Below.heap_alloc _ _ _ hgl)).trans cr0
    have hrl := hok.row k
    have hrv := hok.val k
    obtain ⟨l, hl⟩ : ∃ l, rows.getD k [] = l := ⟨_, rfl⟩
    rw [hl] at hpairs hrl hrv HF cr
    have hrv2 : ∀ x ∈ l.map Prod.fst, 0 ≤ x ∧ x ≤ 20 := fun x hx => by
      obtain ⟨z, hz, rfl⟩ := List.mem_map.1 hx
      exact hrv z hz
    have hbd := fun j hj => sumI_bd hrv2 j hj
    have HB := Lib.hid hbd
    obtain ⟨m, hm⟩ : ∃ m, l.length = m := ⟨_, rfl⟩
    rw [hm] at hpairs cr hrl
    have HM := Lib.hid hm
    have HM2 := Lib.hid (show (l.map Prod.fst).length = m by rw [List.length_map, hm])
    obtain ⟨L, hL⟩ : ∃ L, l.map Prod.fst = L := ⟨_, rfl⟩
    rw [hL] at HF HB HM2
    have HLL := Lib.hid hL
    have HP := Lib.hid hpairs
    have hknI : ¬ (k : Int) = (rows.length : Int) := by omega
    have hklI : (k : Int) < (rows.length : Int) := by omega
    obtain ⟨N, hN⟩ : ∃ N, rows.length = N := ⟨_, rfl⟩
    rw [hN] at c1 hkl hknI hklI hlen
    have hmeth := lenL_meth
    have HBX := Lib.hid (heap_alloc_new w (.cells #[.int .i64 y, .int .i64 p] 51))
    clear hok h ho hu hrow hpairs hrv hrv2 hbd hv2 hl hm hN hkn hcv hcu hL a0 a1 cr0
    go_enter Try.func43, Try.ntmps43
    go_wp2_with fail
    go_loopw [7, 29] (fun s i wr => ∃ j : Nat, j ≤ m ∧ i = .int .i64 j ∧ s = .int .i64 (R - wsum (lenT L) (fun _ => true) j) ∧ Below (w.heap.size + 1) (w.alloc (.cells #[.int .i64 y, .int .i64 p] 51)) wr) (fun _ i _ => m - (intOf i).toNat)
    case atStart => exact ⟨0, Nat.zero_le _, rfl, by simp [wsum], Below.refl _ _⟩
    case round =>
      obtain ⟨j, hj, rfl, rfl, hbr⟩ := hrel
      have HBR := Lib.hid hbr
      have hsb := HB.out j (by rw [HM2.out]; exact hj)
      by_cases hlt : j < m
      · have hjI : (j : Int) < (m : Int) := by omega
        obtain ⟨x, hx⟩ : ∃ x, l[j]? = some x := ⟨l[j]'(by rw [HM.out]; exact hlt), List.getElem?_eq_getElem _⟩
        obtain ⟨b, rfl, hbl, d0, d1⟩ := HP.out j x hx hlt
        have k0 := (hbr.cell (p := ⟨b, j * 2, none⟩) (by show b < _; omega)).trans ((World.cell?_of_block (w := w) (Below.heap_alloc _ _ _ hbl)).trans d0)
        have k1 := (hbr.cell (p := ⟨b, j * 2 + 1, none⟩) (by show b < _; omega)).trans ((World.cell?_of_block (w := w) (Below.heap_alloc _ _ _ hbl)).trans d1)
        have HST := Lib.hid (show wsum (lenT L) (fun _ => true) (j + 1) = wsum (lenT L) (fun _ => true) j + x.1 by rw [sumI_pre L j (by rw [HM2.out]; exact hlt), ← HLL.out, map_getD l hx])
        have hxb := HB.out (j + 1) (by rw [HM2.out]; exact hlt)
        rw [HST.out] at hxb
        obtain ⟨x1, x2⟩ := x
        dsimp only at k0 k1 HST hxb
        obtain ⟨s, hs⟩ : ∃ s, wsum (lenT L) (fun _ => true) j = s := ⟨_, rfl⟩
        rw [hs] at hsb hxb HST ⊢
        push_cast at hxb
        have hsz := hbr.size
        have HB3 := Lib.hid (HBR.out.alloc (by have : (w.alloc (.cells #[.int .i64 y, .int .i64 p] 51)).heap.size = w.heap.size + 1 := by simp
                                               omega) (.cells #[.int .i64 x1, .int .i64 x2] 51))
        clear hs hx hbr d0 d1 hsz
        go_wp2_with (first | (go_at_call 42; refine (lenP_any _ _).mono ?_; rintro e w' ⟨rfl, rfl⟩) | fail)
        go_roundw
        case rel => exact ⟨j + 1, by omega, by go_num, by rw [HST.out]; simp; omega, HB3.out⟩
        case measure => simp [intOf]; omega
      · obtain rfl : j = m := by omega
        have hjI : ¬ (j : Int) < (j : Int) := by omega
        have HS := Lib.hid (show sumI L = wsum (lenT L) (fun _ => true) j by unfold sumI; rw [HM2.out])
        obtain ⟨s, hs⟩ : ∃ s, wsum (lenT L) (fun _ => true) j = s := ⟨_, rfl⟩
        rw [hs] at HS ⊢
        have e0 : wr.cell? ⟨w.heap.size, 0, none⟩ = some (.int .i64 y) := (hbr.cell (p := ⟨w.heap.size, 0, none⟩) (by show w.heap.size < _; omega)).trans (by rw [cell_of_row _ _ _ _ _ _ HBX.out]; rfl)
        have e1 : wr.cell? ⟨w.heap.size, 1, none⟩ = some (.int .i64 p) := (hbr.cell (p := ⟨w.heap.size, 1, none⟩) (by show w.heap.size < _; omega)).trans (by rw [cell_of_row _ _ _ _ _ _ HBX.out]; rfl)
        clear hs hbr
        go_wp2_with (first | (go_at_call 42; refine (lenP_any _ _).mono ?_; rintro e w' ⟨rfl, rfl⟩) | fail)
        go_ret
        exact ⟨ret_bool (by rw [HF.out, HS.out]), HB0.out.trans (HBR.out.mono (by omega))⟩
end Go.Proofs.Ythmifadnfaajbaa
