import Derived.Test.YtmcongioghkdcabM14
import Derived.Deep.RegionHeld3
import Derived.StillTailTactics
import Derived.Deep.RegionLaw
import Derived.Lib.SliceRun
import Derived.Laws.IdiomCopy
import Derived.Shelf.RegionOpenPlain
namespace Go.Proofs.Ytmcongioghkdcab
open Go.RowKit Go.WideShapes

set_option maxHeartbeats 1000000 in
theorem byRule1_any (f : Nat) (ah : Int → Int → Int → Int → Int → Int → Bool) (hent : ∀ (args : Array Value) (w : World), (callFunc f args).run Try.prog w = .ok (.enter f args) w) (hf : CmpIs f ah)
    (B1 B2 B n x y : Nat) (t v d : Nat → Int) (w : World) (hbd : ∀ q, (0 ≤ t q ∧ t q ≤ 9) ∧ (0 ≤ v q ∧ v q ≤ 9) ∧ (0 ≤ d q ∧ d q ≤ 60))
    (h1 : w.cell? ⟨B1, 0, none⟩ = some (.func (.func f) #[] #[])) (h2 : w.cell? ⟨B2, 0, none⟩ = some (.slice (some ⟨B, 0, none⟩) n n)) (hJ : JobsB w B n t v d) (hx : x < n) (hy : y < n) (hn : n ≤ 8) :
    ∃ cv : Int, (cv < 0 ↔ ah (t x) (v x) (d x) (t y) (v y) (d y) = true) ∧ Calls Try.prog 47 #[.int .i64 (x : Int), .int .i64 (y : Int), .pointer (some ⟨B1, 0, none⟩), .pointer (some ⟨B2, 0, none⟩)] w fun e w' => e = .returned (.int .i64 cv) ∧ Below w.heap.size w w' := by
  obtain ⟨cv, hcv, hC⟩ := hf (t x) (v x) (d x) (t y) (v y) (d y) w.drew (hbd x).1 (hbd x).2.1 (hbd x).2.2 (hbd y).1 (hbd y).2.1 (hbd y).2.2
  refine ⟨cv, hcv, ?_⟩
  have HC := Lib.hid hC
  obtain ⟨g0, g1, g2⟩ := hJ.at hx
  obtain ⟨k0, k1, k2⟩ := hJ.at hy
  have hxI : (x : Int) < (n : Int) := by omega
  have hyI : (y : Int) < (n : Int) := by omega
  clear hJ hcv hC hbd hf
  go_enter Try.func47, Try.ntmps47
  go_wp2_with fail
  go_still_tail 9, (by kernel_rfl)
  change wpList _ _ _ _ _ w.drew
  go_wp2_with fail
  refine HC.out.mono ?_
  rintro e w' ⟨rfl, hb⟩
  go_wp2_with fail
  go_ret
  exact ⟨rfl, (Below.refl _ w).drew.trans hb⟩
/-- what the closure answers, whenever it is called -/
def CmpAt (cf : Nat) (lb : Array Value) (ah : Nat → Nat → Bool) (n b : Nat) (w : World) : Prop := ∀ (i y : Nat) (W : World), i < n → y < i → Below b w W →
  ∃ cv : Int, (cv < 0 ↔ ah i y = true) ∧ Calls Try.prog cf (#[.int .i64 (i : Int), .int .i64 (y : Int)] ++ lb) W fun e w' => e = .returned (.int .i64 cv) ∧ Below W.heap.size W w'
set_option maxRecDepth 100000 in
set_option maxHeartbeats 4000000 in
/-- Go's insertion sort of a block of numbers, by a closure that makes memory -/
theorem insertion6_any (ah : Nat → Nat → Bool) (B1 B2 b n cp : Nat) (w : World) (hn8 : n ≤ 8) (hb : b < w.heap.size) (hC : CmpAt 47 #[.pointer (some ⟨B1, 0, none⟩), .pointer (some ⟨B2, 0, none⟩)] ah n b w) (hR : RowB w b (List.range n)) :
    Calls Try.prog 56 #[.slice (some ⟨b, 0, none⟩) n cp, .int .i64 0, .int .i64 n, .func (.func 47) #[] #[.pointer (some ⟨B1, 0, none⟩), .pointer (some ⟨B2, 0, none⟩)]] w fun e w' => e = .returned (.tuple #[]) ∧ RowB w' b (sortE ah n) ∧ Below b w w' := by
  have mixed : Try.prog.follows .mixedOrders = true := by kernel_rfl
  have hent := enters_of Try.func47 (by kernel_rfl) rfl
  have HCA := Lib.hid hC
  have HR := Lib.hid hR
  clear hC hR
  go_enter Try.func56, Try.ntmps56
  go_wp2_with fail
  go_loopg [8] n (fun g s8 wr => ∃ i : Nat, s8 = .int .i64 (i : Int) ∧ 1 ≤ i ∧ n - i ≤ g ∧ Below b w wr ∧ (i < n → RowB wr b (insAt (sortE ah i) i [] n)) ∧ (n ≤ i → RowB wr b (sortE ah n)))
  case atStart =>
    refine ⟨1, rfl, by omega, by omega, Below.refl _ _, fun h => ?_, fun h => ?_⟩
    · rw [← ins_first ah h]; exact HR.out
    · have : List.range n = sortE ah n := by
        rcases Nat.eq_zero_or_pos n with e | e
        · rw [e]; rfl
        · rw [show n = 1 by omega, sortE_one]; rfl
      rw [← this]; exact HR.out
  case round =>
    obtain ⟨i, rfl, hi1, hg, hB, h1, h2⟩ := hrel
    have H1 := Lib.hid h1
    have H2 := Lib.hid h2
    have HB := Lib.hid hB
    clear h1 h2 hB
    by_cases hlt : i < n
    · have hin : (i : Int) < (n : Int) := by omega
      have HRL := Lib.hid (sortE_len ah i)
      go_wp2_with fail
      go_loopg [9] i (fun g2 s9 wy => ∃ (l1 l2 : List Nat), s9 = .int .i64 (l1.length : Int) ∧ l1.length ≤ g2 ∧ l1 ++ l2 = sortE ah i ∧ (∀ y ∈ l2, ah i y = true) ∧ RowB wy b (insAt l1 i l2 n) ∧ Below b w wy)
      case atStart => exact ⟨sortE ah i, [], by rw [HRL.out], by rw [HRL.out]; exact Nat.le_refl _, List.append_nil _, (fun y hy => by cases hy), H1.out hlt, HB.out⟩
      case round =>
        obtain ⟨l1, l2, rfl, hg2, hl, h2, hRow, hBy⟩ := hrel
        have H2' := Lib.hid h2
        have HRow := Lib.hid hRow
        have HBy := Lib.hid hBy
        have HLL := Lib.hid hl
        have hll : l1.length + l2.length = i := by have := congrArg List.length hl; simpa [HRL.out] using this
        have hlen := insAt_length (l1 := l1) (l2 := l2) hll hlt
        clear h2 hRow hBy hl
        rcases List.eq_nil_or_concat l1 with rfl | ⟨l, y, rfl⟩
        · have HD := Lib.hid (insE_done HLL.out (fun l z e => by simp at e) H2'.out)
          have hj0 : decide ((0 : Int) < 0) = false := rfl
          rw [List.length_nil]
          go_wp2_with fail
          go_quiet (fail)
          go_wp2_with fail
          go_roundg (n - (i + 1))
          case measure => omega
          case rel => exact ⟨i + 1, by go_num, by omega, by omega, below_drewN HBy.out _, fun h => by
              have := (HRow.out.drewN nq)
              rw [ins_next h HD.out] at this
              exact this, fun h => by
              have := (HRow.out.drewN nq)
              have e : n = i + 1 := by omega
              subst e
              rw [ins_last HD.out] at this
              exact this⟩
        · rw [List.concat_eq_append] at HLL HRow hll hlen ⊢
          rw [List.length_append, List.length_singleton] at hll ⊢
          have c1 := (HRow.out.at (q := l.length + 1) (by omega)).1
          have c2 := (HRow.out.at (q := l.length) (by omega)).1
          have e1 : (insAt (l ++ [y]) i l2 n).getD (l.length + 1) 0 = i := by have := insAt_here (l ++ [y]) l2 i n; simpa using this
          rw [e1] at c1
          rw [insAt_ahead] at c2
          have hyi : y < i := by
            have hm : y ∈ sortE ah i := by rw [← HLL.out]; simp
            exact sortE_mem.1 hm
          obtain ⟨cv, hcv, hcall⟩ := HCA.out i y wr.drew hlt hyi HBy.out.drew
          have HCV := Lib.hid hcv
          have HCM := Lib.hid (show Calls Try.prog 47 #[.int .i64 (i : Int), .int .i64 (y : Int), .pointer (some ⟨B1, 0, none⟩), .pointer (some ⟨B2, 0, none⟩)] wr.drew (fun e w' => e = .returned (.int .i64 cv) ∧ Below wr.drew.heap.size wr.drew w') from hcall)
          have hbw : b < wr.heap.size := Nat.lt_of_lt_of_le hb HBy.out.size
          have e2 : ((l.length + 1 : Nat) : Int) - 1 = (l.length : Int) := by omega
          have e3 : ((l.length + 1 : Nat) : Int) = (l.length : Int) + 1 := by omega
          have hj1 : l.length + 1 < n := by omega
          have hj2 : (l.length : Int) + 1 < (n : Int) := by omega
          have hj3 : (l.length : Int) < (n : Int) := by omega
          have hj4 : (0 : Int) < (l.length : Int) + 1 := by omega
          have hj5 : (0 : Int) ≤ (l.length : Int) + 1 := by omega
          have hj6 : l.length < n := by omega
          rw [e3]
          have HE1 := Lib.hid e1
          have HLEN := Lib.hid hlen
          clear e1 e2 e3 hcall hcv
          have HLL2 := Lib.hid hll
          obtain ⟨j, hj⟩ : ∃ j, l.length = j := ⟨_, rfl⟩
          have HJ := Lib.hid hj
          rw [hj] at c1 c2 hj1 hj2 hj3 hj4 hj5 hj6 ⊢
          clear hj hll hlen
          go_wp2_with fail
          have hw2 : IntKind.i64.wrap (j : Int) = (j : Int) := IntWalk.i64_in _ (by omega)
          have hj7 : (0 : Int) ≤ (j : Int) := by omega
          have hw1 : IntKind.i64.wrap ((j : Int) + 1 - 1) = (j : Int) := by rw [show (j : Int) + 1 - 1 = (j : Int) by omega]; exact IntWalk.i64_in _ (by omega)
          go_region_held3 (fun w' => w'.cell? ⟨b, j + 1, none⟩ = some (.int .i64 (i : Int)) ∧ w'.cell? ⟨b, j, none⟩ = some (.int .i64 (y : Int))) (first | go_keep | exact ⟨k1, k2⟩)
            (first | (go_at_call 47; refine HCM.out.mono ?_; rintro e w3 ⟨rfl, hb3⟩; have k1 := (hb3.cell (p := ⟨b, j + 1, none⟩) hbw).trans c1; have k2 := (hb3.cell (p := ⟨b, j, none⟩) hbw).trans c2))
          have HRow3 := Lib.hid (show RowB w3 b (insAt (l ++ [y]) i l2 n) from (HRow.out.drewN 1).block (hb3.block b hbw))
          have HB3 := Lib.hid (HBy.out.drew.trans (hb3.mono (by show b ≤ wr.heap.size; omega)))
          have f1 := (HRow3.out.at (q := j + 1) (by rw [HLEN.out]; omega)).2
          have f2 := (HRow3.out.at (q := j) (by rw [HLEN.out]; omega)).2
          clear hw1 hw2 c1 c2 hb3
          by_cases hcb : cv < 0
          · go_wp2_with fail
            go_region_o
            go_wp2_with fail
            have hsw := (HRow3.out).swap (i := l.length + 1) (j := l.length) (by rw [HLEN.out]; have := HJ.out; omega) (by rw [HLEN.out]; have := HJ.out; omega)
            rw [HE1.out, insAt_ahead, insAt_swap, HJ.out] at hsw
            go_roundg j
            case measure => have := HJ.out; simp at hg2; omega
            case rel => exact ⟨l, y :: l2, by rw [HJ.out], by rw [HJ.out]; exact Nat.le_refl _, by simpa using HLL.out, fun z hz => by
                rcases List.mem_cons.1 hz with rfl | hz
                · exact HCV.out.1 hcb
                · exact H2'.out z hz, hsw, ((HB3.out.setCell (p := ⟨b, j + 1, none⟩) (Nat.le_refl _) _).setCell (p := ⟨b, j, none⟩) (Nat.le_refl _) _).drew⟩
          · have HD := Lib.hid (insE_done HLL.out (fun l' z e => by
              have : z = y := by have := List.append_inj_right' e rfl; simpa using this.symm
              subst this
              cases hq : ah i z
              · rfl
              · exact absurd (HCV.out.2 hq) hcb) H2'.out)
            go_wp2_with fail
            go_roundg (n - (i + 1))
            case measure => omega
            case rel => exact ⟨i + 1, by go_num, by omega, by omega, HB3.out, fun h => by
                have := HRow3.out
                rw [ins_next h HD.out] at this
                exact this, fun h => by
                have := HRow3.out
                have e : n = i + 1 := by omega
                subst e
                rw [ins_last HD.out] at this
                exact this⟩
    · have hin : ¬ (i : Int) < (n : Int) := by omega
      go_wp2_with fail
      go_end0
      exact ⟨rfl, H2.out (by omega), HB.out⟩
theorem stable6_any (ah : Nat → Nat → Bool) (B1 B2 b n cp : Nat) (w : World) (hn8 : n ≤ 8) (hb : b < w.heap.size) (hC : CmpAt 47 #[.pointer (some ⟨B1, 0, none⟩), .pointer (some ⟨B2, 0, none⟩)] ah n b w) (hR : RowB w b (List.range n)) :
    Calls Try.prog 54 #[.slice (some ⟨b, 0, none⟩) n cp, .int .i64 n, .func (.func 47) #[] #[.pointer (some ⟨B1, 0, none⟩), .pointer (some ⟨B2, 0, none⟩)]] w fun e w' => e = .returned (.tuple #[]) ∧ RowB w' b (sortE ah n) ∧ Below b w w' := by
  have HI := Lib.hid (insertion6_any ah B1 B2 b n cp w hn8 hb hC hR)
  have h20 : ¬ (20 : Int) ≤ (n : Int) := by omega
  have h20' : ¬ (20 : Int) < (n : Int) := by omega
  clear hC hR
  go_enter Try.func54, Try.ntmps54
  go_wp2_with fail
  go_loopw [7, 8] (fun s7 s8 wr => s7 = .int .i64 0 ∧ s8 = .int .i64 20 ∧ wr = w) (fun _ _ _ => 0)
  case atStart => exact ⟨rfl, rfl, rfl⟩
  case round =>
    obtain ⟨rfl, rfl, rfl⟩ := hrel
    go_wp2_with fail
    refine HI.out.mono ?_
    rintro e w2 ⟨rfl, h1, h2⟩
    have H1 := Lib.hid h1
    have H2 := Lib.hid h2
    clear h1 h2
    go_wp2_with fail
    go_loopw [6] (fun s6 wr => s6 = .int .i64 20 ∧ wr = w2) (fun _ _ => 0)
    case atStart => exact ⟨rfl, rfl⟩
    case round =>
      obtain ⟨rfl, rfl⟩ := hrel
      go_wp2_with fail
      go_end0
      exact ⟨rfl, H1.out, H2.out⟩
theorem sortStable6_any (ah : Nat → Nat → Bool) (B1 B2 b n cp : Nat) (w : World) (hn8 : n ≤ 8) (hb : b < w.heap.size) (hC : CmpAt 47 #[.pointer (some ⟨B1, 0, none⟩), .pointer (some ⟨B2, 0, none⟩)] ah n b w) (hR : RowB w b (List.range n)) :
    Calls Try.prog 46 #[.slice (some ⟨b, 0, none⟩) n cp, .func (.func 47) #[] #[.pointer (some ⟨B1, 0, none⟩), .pointer (some ⟨B2, 0, none⟩)]] w fun e w' => e = .returned (.tuple #[]) ∧ RowB w' b (sortE ah n) ∧ Below b w w' := by
  have HI := Lib.hid (stable6_any ah B1 B2 b n cp w hn8 hb hC hR)
  clear hC hR
  go_enter Try.func46, Try.ntmps46
  go_wp2_with fail
  refine HI.out.mono ?_
  rintro e w2 ⟨rfl, h1, h2⟩
  go_wp2_with fail
  go_end0
  exact ⟨rfl, h1, h2⟩
/-- the jobs sorted by a rule, in a block of its own -/
def SortedPost (w : World) (n : Nat) (ah : Nat → Nat → Bool) (e : Ending) (w' : World) : Prop := ∃ b, e = .returned (.slice (some ⟨b, 0, none⟩) n n) ∧ w.heap.size ≤ b ∧ b < w'.heap.size ∧ RowB w' b (sortE ah n) ∧ Below w.heap.size w w'
set_option maxHeartbeats 1000000 in
theorem orderByRule_any (f : Nat) (ah : Int → Int → Int → Int → Int → Int → Bool) (hent : ∀ (args : Array Value) (w : World), (callFunc f args).run Try.prog w = .ok (.enter f args) w) (hf : CmpIs f ah)
    (B n : Nat) (t v d : Nat → Int) (w : World) (hbd : ∀ q, (0 ≤ t q ∧ t q ≤ 9) ∧ (0 ≤ v q ∧ v q ≤ 9) ∧ (0 ≤ d q ∧ d q ≤ 60)) (hB : B < w.heap.size) (hJ : JobsB w B n t v d) (hn : n ≤ 8) :
    Calls Try.prog 29 #[.slice (some ⟨B, 0, none⟩) n n, .func (.func f) #[] #[]] w (SortedPost w n (fun i y => ah (t i) (v i) (d i) (t y) (v y) (d y))) := by
  obtain ⟨w1, hw1⟩ : ∃ w1, (w.alloc (.cells #[.slice (some ⟨B, 0, none⟩) n n] 43)).alloc (.cells #[.func (.func f) #[] #[]] 54) = w1 := ⟨_, rfl⟩
  have hs1 : w1.heap.size = w.heap.size + 2 := by rw [← hw1]; simp
  have hb1 : Below w.heap.size w w1 := by rw [← hw1]; exact ((Below.refl _ w).alloc (Nat.le_refl _) _).alloc (by simp) _
  have k1 : w1.cell? ⟨w.heap.size + 1, 0, none⟩ = some (.func (.func f) #[] #[]) := by
    rw [← hw1]
    have z := cell_new_l (w.alloc (.cells #[.slice (some ⟨B, 0, none⟩) n n] 43)) (.func (.func f) #[] #[]) 54
    simp only [World.size_alloc] at z
    exact z.1
  have k2 : w1.cell? ⟨w.heap.size, 0, none⟩ = some (.slice (some ⟨B, 0, none⟩) n n) := by
    rw [← hw1]; exact cell_alloc_l _ (cell_new_l w (.slice (some ⟨B, 0, none⟩) n n) 43).1
  have hJ1 := hJ.block (hb1.block B hB)
  have HFO := Lib.hid (firstOrder_any n w1 hn)
  have HB1 := Lib.hid hb1
  have HK1 := Lib.hid k1
  have HK2 := Lib.hid k2
  have HJ1 := Lib.hid hJ1
  have HW1 := Lib.hid hw1
  have HS1 := Lib.hid hs1
  clear hw1 hb1 k1 k2 hJ1 hJ hs1
  go_enter Try.func29, Try.ntmps29
  go_wp2_with fail
  rw [HW1.out]
  refine HFO.out.mono ?_
  rintro e w2 ⟨rfl, hown⟩
  have hR2 := hown.rowB
  have hlt2 : w1.heap.size < w2.heap.size := (Array.getElem?_eq_some_iff.1 hown.heap).1
  have hb2 := hown.below
  have hC : CmpAt 47 #[.pointer (some ⟨w.heap.size + 1, 0, none⟩), .pointer (some ⟨w.heap.size, 0, none⟩)] (fun i y => ah (t i) (v i) (d i) (t y) (v y) (d y)) n w1.heap.size w2 := fun i y W hi hy hW => by
    have hs := HS1.out
    have hbW := hb2.trans hW
    exact byRule1_any f ah hent hf (w.heap.size + 1) w.heap.size B n i y t v d W hbd ((hbW.cell (p := ⟨w.heap.size + 1, 0, none⟩) (by show w.heap.size + 1 < _; omega)).trans HK1.out) ((hbW.cell (p := ⟨w.heap.size, 0, none⟩) (by show w.heap.size < _; omega)).trans HK2.out)
      (HJ1.out.block (hbW.block B (by omega))) hi (by omega) hn
  have HST := Lib.hid (sortStable6_any _ (w.heap.size + 1) w.heap.size w1.heap.size n n w2 hn hlt2 hC hR2)
  have HB2 := Lib.hid hb2
  clear hown hR2 hb2 hC
  go_wp2_with fail
  refine HST.out.mono ?_
  rintro e w4 ⟨rfl, h4, hb4⟩
  have H4 := Lib.hid h4
  have HB4 := Lib.hid hb4
  clear h4 hb4
  go_wp2_with fail
  go_ret
  exact ⟨w1.heap.size, rfl, by have := HS1.out; omega, Nat.lt_of_lt_of_le hlt2 HB4.out.size, H4.out, HB1.out.trans ((HB2.out.trans HB4.out).mono (by have := HS1.out; omega))⟩
end Go.Proofs.Ytmcongioghkdcab
namespace Go.Proofs.Ytmcongioghkdcab
open Go.RowKit Go.WideShapes

theorem sorted_res {w w' : World} {n : Nat} {ah : Nat → Nat → Bool} {e : Ending} (hn : n ≤ 8) (h : SortedPost w n ah e w') : ResPostC w (srtI ah n) e w' := by
  obtain ⟨b, rfl, h1, h2, h3, h4⟩ := h
  refine ⟨_, _, _, rfl, ?_, ?_, Nat.le_refl _, h4⟩
  · exact h3.ints (sortE_len ah n) (by omega) ⟨h1, h2⟩
  · refine ⟨by omega, fun h => ⟨b, 0, rfl, ⟨h1, h2⟩, fun i hi => ?_⟩⟩
    have := h3.at (q := i) (by rw [sortE_len]; exact hi)
    rw [Nat.zero_add]
    exact ⟨⟨_, this.1⟩, this.2⟩
theorem ruleOf_wait (kind : ByteArray) (w : World) (h : isW kind = true) : Calls Try.prog 28 #[.string kind] w fun e w' => e = .returned (.func (.func 44) #[] #[]) ∧ w = w' := by
  have e1 : (kind.toList == [119, 97, 105, 116]) = isW kind := rfl
  rw [h] at e1
  clear h
  go_enter Try.func28, Try.ntmps28
  go_wp2_with fail
  go_ret
  exact ⟨rfl, rfl⟩
theorem ruleOf_due (kind : ByteArray) (w : World) (h : isW kind = false) (h2 : isD kind = true) : Calls Try.prog 28 #[.string kind] w fun e w' => e = .returned (.func (.func 34) #[] #[]) ∧ w = w' := by
  have e1 : (kind.toList == [119, 97, 105, 116]) = isW kind := rfl
  have e2 : (kind.toList == [100, 117, 101]) = isD kind := rfl
  rw [h] at e1
  rw [h2] at e2
  clear h h2
  go_enter Try.func28, Try.ntmps28
  go_wp2_with fail
  go_ret
  exact ⟨rfl, rfl⟩
theorem ruleOf_none (kind : ByteArray) (w : World) (h : isW kind = false) (h2 : isD kind = false) : Calls Try.prog 28 #[.string kind] w fun e w' => e = .returned .nilFunc ∧ w = w' := by
  have e1 : (kind.toList == [119, 97, 105, 116]) = isW kind := rfl
  have e2 : (kind.toList == [100, 117, 101]) = isD kind := rfl
  rw [h] at e1
  rw [h2] at e2
  clear h h2
  go_enter Try.func28, Try.ntmps28
  go_wp2_with fail
  go_ret
  exact ⟨rfl, rfl⟩
theorem eq_nil1 (w : World) : (binOp .eql 54 (.func (.func 44) #[] #[]) .nilFunc).run Try.prog w = .ok (.bool false) w := by kernel_rfl
theorem eq_nil2 (w : World) : (binOp .eql 54 (.func (.func 34) #[] #[]) .nilFunc).run Try.prog w = .ok (.bool false) w := by kernel_rfl
theorem eq_nil3 (w : World) : (binOp .eql 54 .nilFunc .nilFunc).run Try.prog w = .ok (.bool true) w := by kernel_rfl
theorem orderBy_impl (a : Option Addr) (len cap : Nat) (rows : List (List Int)) (kind : ByteArray) (w : World) (h : RowsAt w (· < w.heap.size) a len rows) (hc : len ≤ cap) :
    Calls Try.prog 10 #[.slice a len cap, .string kind] w (ResPostC w (ordRes rows kind)) := by
  have HL := Lib.hid h.lenEq
  have HD := Lib.hid (dueJobsOf_any a len cap rows w h hc)
  clear h
  cases hp : jobsM rows
  · have HR := Lib.hid (show ordRes rows kind = [] by unfold ordRes; rw [hp]; rfl)
    rw [HR.out]
    have HRU := Lib.hid (show ∀ w, ∃ v : Value, (v = .nilFunc ∨ ∃ f : Nat, v = .func (.func f) #[] #[]) ∧ Calls Try.prog 28 #[.string kind] w fun e w' => e = .returned v ∧ w = w' from fun w => by
      cases h1 : isW kind
      · cases h2 : isD kind
        · exact ⟨_, .inl rfl, ruleOf_none kind w h1 h2⟩
        · exact ⟨_, .inr ⟨_, rfl⟩, ruleOf_due kind w h1 h2⟩
      · exact ⟨_, .inr ⟨_, rfl⟩, ruleOf_wait kind w h1⟩)
    go_enter Try.func10, Try.ntmps10
    go_wp2_with fail
    refine HD.out.mono ?_
    rintro e w1 ⟨hb, ⟨_, rfl⟩ | ⟨hf, _⟩⟩
    · obtain ⟨v, hv, hcall⟩ := HRU.out w1
      have HCA := Lib.hid hcall
      clear hcall
      go_wp2_with fail
      refine HCA.out.mono ?_
      rintro e w' ⟨rfl, rfl⟩
      rcases hv with rfl | ⟨f, rfl⟩
      all_goals
        go_wp2_with fail
        go_ret
        exact resC_low hb (resPostC_nil _)
    · rw [hp] at hf; cases hf
  · have hl8 : len ≤ 8 := by have := (jobs_get hp).1; have := HL.out; omega
    have HBD := Lib.hid (fun q => j_bd hp q)
    have n1 := eq_nil1
    have n2 := eq_nil2
    have n3 := eq_nil3
    cases h1 : isW kind
    · cases h2 : isD kind
      · have HR := Lib.hid (show ordRes rows kind = [] by unfold ordRes; rw [if_pos hp, h1, h2]; rfl)
        rw [HR.out]
        have HCA := Lib.hid (fun w => ruleOf_none kind w h1 h2)
        clear h1 h2
        go_enter Try.func10, Try.ntmps10
        go_wp2_with fail
        refine HD.out.mono ?_
        rintro e w1 ⟨hb, ⟨hf, _⟩ | ⟨_, B, rfl, hB1, hB2, hJ⟩⟩
        · rw [hp] at hf; cases hf
        · clear hJ
          go_wp2_with fail
          refine (HCA.out _).mono ?_
          rintro e w' ⟨rfl, rfl⟩
          go_wp2_with fail
          go_ret
          exact resC_low hb (resPostC_nil _)
      · have HR := Lib.hid (show ordRes rows kind = srtI (ahD (td rows)) len by unfold ordRes; rw [if_pos hp, h1, h2, HL.out]; rfl)
        rw [HR.out]
        have HCA := Lib.hid (fun w => ruleOf_due kind w h1 h2)
        clear h1 h2
        go_enter Try.func10, Try.ntmps10
        go_wp2_with fail
        refine HD.out.mono ?_
        rintro e w1 ⟨hb, ⟨hf, _⟩ | ⟨_, B, rfl, hB1, hB2, hJ⟩⟩
        · rw [hp] at hf; cases hf
        · have HB := Lib.hid hb
          have HS := Lib.hid (orderByRule_any 34 _ (enters_of Try.func34 (by kernel_rfl) rfl) byDue_any B len _ _ _ w1 HBD.out hB2 hJ hl8)
          clear hJ hb
          go_wp2_with fail
          refine (HCA.out _).mono ?_
          rintro e w' ⟨rfl, rfl⟩
          go_wp2_with fail
          refine HS.out.mono ?_
          rintro e w4 hpost
          obtain ⟨b, rfl, q1, q2, q3, q4⟩ := hpost
          go_wp2_with fail
          go_ret
          exact resC_low HB.out (sorted_res hl8 ⟨b, rfl, q1, q2, q3, q4⟩)
    · have HR := Lib.hid (show ordRes rows kind = srtI (ahW (ta rows) (tb rows)) len by unfold ordRes; rw [if_pos hp, h1, HL.out]; rfl)
      rw [HR.out]
      have HCA := Lib.hid (fun w => ruleOf_wait kind w h1)
      clear h1
      go_enter Try.func10, Try.ntmps10
      go_wp2_with fail
      refine HD.out.mono ?_
      rintro e w1 ⟨hb, ⟨hf, _⟩ | ⟨_, B, rfl, hB1, hB2, hJ⟩⟩
      · rw [hp] at hf; cases hf
      · have HB := Lib.hid hb
        have HS := Lib.hid (orderByRule_any 44 _ (enters_of Try.func44 (by kernel_rfl) rfl) byWait_any B len _ _ _ w1 HBD.out hB2 hJ hl8)
        clear hJ hb
        go_wp2_with fail
        refine (HCA.out _).mono ?_
        rintro e w' ⟨rfl, rfl⟩
        go_wp2_with fail
        refine HS.out.mono ?_
        rintro e w4 hpost
        obtain ⟨b, rfl, q1, q2, q3, q4⟩ := hpost
        go_wp2_with fail
        go_ret
        exact resC_low HB.out (sorted_res hl8 ⟨b, rfl, q1, q2, q3, q4⟩)
end Go.Proofs.Ytmcongioghkdcab
namespace Go.Proofs.Ytmcongioghkdcab
open Go.RowKit Go.WideShapes

/-- vs laid over xs from place o on -/
def setL (xs : List Value) : Nat → List Value → List Value
  | _, [] => xs
  | o, v :: r => setL (xs.set o v) (o + 1) r
theorem setL_len (vs : List Value) : ∀ (o : Nat) (xs : List Value), (setL xs o vs).length = xs.length := by
  induction vs with
  | nil => intro _ _; rfl
  | cons v r ih => intro o xs; rw [setL, ih, List.length_set]
theorem setL_get (vs : List Value) : ∀ (o : Nat) (xs : List Value) (q : Nat), o + vs.length ≤ xs.length → (setL xs o vs)[q]? = if o ≤ q ∧ q < o + vs.length then vs[q - o]? else xs[q]? := by
  induction vs with
  | nil => intro o xs q _; rw [setL, if_neg (fun h => by have := h.2; simp at this; omega)]
  | cons v r ih =>
    intro o xs q h
    rw [List.length_cons] at h
    rw [setL, ih (o + 1) _ q (by rw [List.length_set]; omega), List.length_cons]
    by_cases h1 : o = q
    · subst h1
      rw [if_neg (by omega), if_pos (by omega), Nat.sub_self, List.getElem?_set_self (by omega)]; rfl
    · rw [List.getElem?_set_ne h1]
      by_cases h2 : o + 1 ≤ q ∧ q < o + 1 + r.length
      · rw [if_pos h2, if_pos (by omega)]
        obtain ⟨m, hm⟩ : ∃ m, q = o + 1 + m := ⟨q - (o + 1), by omega⟩
        subst hm
        rw [show o + 1 + m - (o + 1) = m by omega, show o + 1 + m - o = m + 1 by omega, List.getElem?_cons_succ]
      · rw [if_neg h2, if_neg (by omega)]
theorem own_setCells {B g n cap : Nat} {e : TypeId} (vs : List Value) : ∀ (o : Nat) (w : World) (xs : List Value), w.ownsRow B e 1 (.slice (some ⟨g, 0, none⟩) n cap) n xs → (w.setCells g o vs).ownsRow B e 1 (.slice (some ⟨g, 0, none⟩) n cap) n (setL xs o vs) := by
  induction vs with
  | nil => intro _ _ _ h; exact h
  | cons v r ih => intro o w xs h; exact ih (o + 1) _ _ (h.stored o v).1
theorem map_erase {α β : Type} (f : α → β) : ∀ (l : List α) (i : Nat), (l.map f).eraseIdx i = (l.eraseIdx i).map f
  | [], _ => rfl
  | _ :: _, 0 => rfl
  | x :: l, i + 1 => by rw [List.map_cons, List.eraseIdx_cons_succ, List.eraseIdx_cons_succ, List.map_cons, map_erase f l i]
/-- a shorter row of the same block -/
theorem own_shorter {w : World} {B g n m cap : Nat} {e : TypeId} {xs : List Value} (h : w.ownsRow B e 1 (.slice (some ⟨g, 0, none⟩) n cap) n xs) (hm : m ≤ n) : w.ownsRow B e 1 (.slice (some ⟨g, 0, none⟩) m cap) m (xs.take m) := by
  obtain ⟨h1, h2⟩ := h
  rcases h2 with ⟨h', _⟩ | ⟨g', cap', cur, h', hb, hg, hnc, hcm, hcs, htake⟩
  · cases h'
  · simp only [Value.slice.injEq, Option.some.injEq, Addr.mk.injEq, and_true, true_and] at h'
    obtain ⟨rfl, rfl⟩ := h'
    refine ⟨by rw [List.length_take]; omega, .inr ⟨g, cap, cur, rfl, hb, hg, by omega, hcm, hcs, ?_⟩⟩
    rw [← htake, List.take_take, Nat.mul_one, Nat.mul_one, Nat.min_eq_left hm]
theorem below_sets {B g : Nat} (hg : B ≤ g) : ∀ (vs : List Value) (o : Nat) (w : World), Below B w (w.setCells g o vs)
  | [], _, w => Below.refl _ _
  | v :: r, o, w => ((Below.refl B w).setCell (p := ⟨g, o, none⟩) hg v).trans (below_sets hg r (o + 1) _)
theorem erase_laid (K : List Value) {i : Nat} (hi : i < K.length) (z : Value) : (setL (setL K i (K.drop (i + 1))) (K.length - 1) [z]).take (K.length - 1) = K.eraseIdx i := by
  apply List.ext_getElem?
  intro q
  rw [List.getElem?_take, List.getElem?_eraseIdx]
  by_cases hq : q < K.length - 1
  · rw [if_pos hq, setL_get _ _ _ _ (by rw [setL_len]; simp; omega), if_neg (by simp; omega), setL_get _ _ _ _ (by simp; omega)]
    by_cases h2 : q < i
    · rw [if_neg (by omega), if_pos h2]
    · rw [if_pos (by simp; omega), if_neg h2, List.getElem?_drop, show i + 1 + (q - i) = q + 1 by omega]
  · rw [if_neg hq]
    by_cases h2 : q < i
    · omega
    · rw [if_neg h2, List.getElem?_eq_none (by omega)]
set_option maxRecDepth 1000000 in
set_option maxHeartbeats 4000000 in
/-- slices.Delete of one place of a row of the call's own -/
theorem delete6_any (B g n cp i j : Nat) (hj : j = i + 1) (K : List Int) (w : World) (h : w.ownsRow B 3 1 (.slice (some ⟨g, 0, none⟩) n cp) n (K.map (.int .i64))) (hi : i < n) (hn : n ≤ 8) (hcp : n ≤ cp) (hg : B ≤ g) :
    Calls Try.prog 36 #[.slice (some ⟨g, 0, none⟩) n cp, .int .i64 i, .int .i64 (j : Int)] w fun e w' => e = .returned (.slice (some ⟨g, 0, none⟩) (n - 1) cp) ∧
      w'.ownsRow B 3 1 (.slice (some ⟨g, 0, none⟩) (n - 1) cp) (n - 1) ((K.eraseIdx i).map (.int .i64)) ∧ Below B w w' ∧ w'.heap.size = w.heap.size := by
  have mixed : Try.prog.follows .mixedOrders = true := by kernel_rfl
  obtain ⟨i0, hi0, hz0, hz1, hz2⟩ := info_parts Try.infoIntO
  have hlen : K.length = n := by have := h.1; simpa using this
  -- the cells that are moved to the left
  obtain ⟨news, hnews⟩ : ∃ news, news = (K.map (Value.int .i64)).drop (i + 1) := ⟨_, rfl⟩
  have hnl : news.length = n - (i + 1) := by rw [hnews]; simp [hlen]
  have hcell : ∀ q, q < n → w.cell? ⟨g, q, none⟩ = (K.map (Value.int .i64))[q]? := fun q hq => h.cellAt q (by simp [hlen]; omega)
  have hsome : ∀ q, q < n → (w.cell? ⟨g, q, none⟩).isSome = true := fun q hq => by rw [hcell q hq, List.getElem?_eq_getElem (by simp [hlen]; omega)]; rfl
  have hfz : ∀ q, w.frozen? ⟨g, q, none⟩ = false := fun q => h.frozenAt q
  obtain ⟨A, hA, hsrc⟩ : ∃ A : Addr, (if cp = i + 1 then some (⟨g, 0, none⟩ : Addr) else some ⟨g, i + 1, none⟩) = some A ∧ Hid (∀ t u, news[t]? = some u → w.drew.cell? (A.add t) = some u) := by
    by_cases hh : cp = i + 1
    · refine ⟨⟨g, 0, none⟩, by simp [hh], fun t u hu => ?_⟩
      have h0 : news.length = 0 := by rw [hnl]; omega
      rw [List.length_eq_zero_iff.1 h0] at hu
      simp at hu
    · refine ⟨⟨g, i + 1, none⟩, by simp [hh], fun t u hu => ?_⟩
      have ht : t < n - (i + 1) := by
        have := (List.getElem?_eq_some_iff.1 hu).1
        rwa [hnl] at this
      rw [hnews, List.getElem?_drop] at hu
      rw [Addr.add_mid]
      exact (hcell (i + 1 + t) (by omega)).trans hu
  have s1 : Hid (news.length = (n - (i + 1)) * 1) := by rw [Nat.mul_one]; exact hnl
  have s2 : Hid (∀ u ∈ news, u.oneCell' = true) := by
    intro u hu
    rw [hnews] at hu
    obtain ⟨x, _, rfl⟩ := List.mem_map.1 (List.mem_of_mem_drop hu)
    rfl
  have s3 : Hid (∀ t, t < news.length → (w.drew.cell? ⟨g, 0 + i * 1 + t, none⟩).isSome = true ∧ w.drew.frozen? ⟨g, 0 + i * 1 + t, none⟩ = false) := by
    intro t ht
    rw [hnl] at ht
    exact ⟨by rw [Nat.mul_one, Nat.zero_add]; exact hsome (i + t) (by omega), hfz _⟩
  obtain ⟨W1, hW1⟩ : ∃ W1, W1 = w.drew.setCells g (0 + i * 1) news := ⟨_, rfl⟩
  have hW : Hid (W1 = w.drew.setCells g (0 + i * 1) news) := hW1
  have hd : w.drew.ownsRow B 3 1 (.slice (some ⟨g, 0, none⟩) n cp) n (K.map (.int .i64)) := own_drewN h 1
  have hO1 : W1.ownsRow B 3 1 (.slice (some ⟨g, 0, none⟩) n cp) n (setL (K.map (.int .i64)) i ((K.map (Value.int .i64)).drop (i + 1))) := by
    rw [hW1, hnews, Nat.mul_one, Nat.zero_add]; exact own_setCells _ _ _ _ hd
  have hsz1 : W1.heap.size = w.heap.size := by
    rw [hW1]
    have : ∀ (vs : List Value) (o : Nat) (w : World), (w.setCells g o vs).heap.size = w.heap.size := fun vs => by
      induction vs with
      | nil => intro _ _; rfl
      | cons v r ih => intro o w; rw [World.setCells, ih]; simp [World.setCell]
    rw [this]; rfl
  have hb1 : Below B w W1 := by rw [hW1]; exact (Below.refl B w).drew.trans (below_sets hg _ _ _)
  have hl1 : (setL (K.map (Value.int .i64)) i ((K.map (Value.int .i64)).drop (i + 1))).length = n := by rw [setL_len]; simp [hlen]
  have hcl : ∀ ty, (Builtin.clear_ #[24] ty #[.slice (some ⟨g, n - 1, none⟩) 1 (cp - (n - 1))]).run Try.prog W1 = .ok (.tuple #[]) (W1.setCells g (n - 1) [.int .i64 0]) :=
    fun ty => Lib.run_clear_slice W1 _ _ ty _ Try.underlying24 (fun w => by kernel_rfl) rfl rfl g (n - 1) 1 _ (by omega)
      (fun t ht => by rw [hO1.cellAt _ (by omega), List.getElem?_eq_getElem (by rw [hl1]; omega)]; rfl) (fun t ht => hO1.frozenAt _)
  have HFIN := Lib.hid (show (W1.setCells g (n - 1) [.int .i64 0]).ownsRow B 3 1 (.slice (some ⟨g, 0, none⟩) (n - 1) cp) (n - 1) ((K.eraseIdx i).map (.int .i64)) ∧ Below B w (W1.setCells g (n - 1) [.int .i64 0]) ∧ (W1.setCells g (n - 1) [.int .i64 0]).heap.size = w.heap.size from
    ⟨by
      have h3 := own_shorter (own_setCells [.int .i64 0] (n - 1) W1 _ hO1) (Nat.sub_le n 1)
      have h4 := erase_laid (K.map (Value.int .i64)) (i := i) (by simp [hlen]; exact hi) (.int .i64 0)
      rw [List.length_map, hlen] at h4
      rw [h4] at h3
      rwa [map_erase] at h3, hb1.trans (below_sets hg _ _ _), by rw [World.setCells, World.setCells]; simp [World.setCell, hsz1]⟩)
  have hic : i ≤ cp := by omega
  have hjc : j ≤ cp := by omega
  have hjn : j ≤ n := by omega
  have hij : i ≤ j := by omega
  have hne : i ≠ j := by omega
  have hne' : ((i : Int) == (j : Int)) = false := by simp; omega
  have hin1 : (j : Int) ≤ (n : Int) := by omega
  have hic1 : (i : Int) ≤ (cp : Int) := by omega
  have hjc1 : (j : Int) ≤ (cp : Int) := by omega
  have hij1 : (i : Int) ≤ (j : Int) := by omega
  have hnc1 : (n : Int) ≤ (cp : Int) := by omega
  rw [← hj] at hA s1
  have hni : n - (i + 1) = n - j := by omega
  have hn1 : i + (n - j) = n - 1 := by omega
  have hn2 : n - (n - 1) = 1 := by omega
  have HJ := Lib.hid hj
  have hcl2 : ∀ ty, (Builtin.clear_ #[24] ty #[.slice (some ⟨g, i + (n - j), none⟩) (n - (i + (n - j))) (cp - (i + (n - j)))]).run Try.prog W1 = .ok (.tuple #[]) (W1.setCells g (n - 1) [.int .i64 0]) := fun ty => by rw [hn1, hn2]; exact hcl ty
  have HN1 := Lib.hid hn1
  clear hW1 hO1 hd hb1 hsz1 h hnews hnl hcell hsome hfz hlen hl1 hj hcl hni hn1 hn2
  go_enter Try.func36, Try.ntmps36
  go_wp2_with fail
  go_region_law_o (refine step_append_room rfl (.tmp 22) (.tmp 25) 24 rfl 3 i0 1 Try.underlying24 hi0 hz1 g 0 i cp (by simp [Act.eval, Act.put]) A (n - j) (cp - j) news (by simp [Act.eval, Act.put]) s1.out hsrc.out s2.out (by omega) s3.out ?_; rw [← hW.out])
  go_wp2
  go_ret
  have hn1 := HN1.out
  refine ⟨by rw [← hn1]; rfl, ?_, ?_, ?_⟩
  · exact HFIN.out.1
  · exact HFIN.out.2.1
  · exact HFIN.out.2.2
end Go.Proofs.Ytmcongioghkdcab
