import Derived.Test.YtjcbpnffmebihaaGreatDoorA33
import Derived.Deep.RegionHeld3
import Derived.StillTailTactics
set_option linter.unusedVariables false
set_option linter.unusedSimpArgs false
namespace Go.Proofs.YtjcbpnffmebihaaGreatDoor
open Go.RowKit Go.WideShapes

set_option maxRecDepth 100000 in
set_option maxHeartbeats 1000000 in
theorem byRule1_any (f : Nat) (ah : Int → Int → Int → Int → Int → Int → Bool) (hent : ∀ (args : Array Value) (w : World), (callFunc f args).run Tryz.prog w = .ok (.enter f args) w) (hf : CmpIs f ah)
    (B1 B2 B n x y : Nat) (t v d : Nat → Int) (w : World) (hbd : ∀ q, (0 ≤ t q ∧ t q ≤ 9) ∧ (0 ≤ v q ∧ v q ≤ 9) ∧ (0 ≤ d q ∧ d q ≤ 60))
    (h1 : w.cell? ⟨B1, 0, none⟩ = some (.func (.func f) #[] #[])) (h2 : w.cell? ⟨B2, 0, none⟩ = some (.slice (some ⟨B, 0, none⟩) n n)) (hJ : JobsB w B n t v d) (hx : x < n) (hy : y < n) (hn : n ≤ 8) :
    ∃ cv : Int, (cv < 0 ↔ ah (t x) (v x) (d x) (t y) (v y) (d y) = true) ∧ Calls Tryz.prog 149 #[.int .i64 (x : Int), .int .i64 (y : Int), .pointer (some ⟨B1, 0, none⟩), .pointer (some ⟨B2, 0, none⟩)] w fun e w' => e = .returned (.int .i64 cv) ∧ Below w.heap.size w w' := by
  obtain ⟨cv, hcv, hC⟩ := hf (t x) (v x) (d x) (t y) (v y) (d y) w.drew (hbd x).1 (hbd x).2.1 (hbd x).2.2 (hbd y).1 (hbd y).2.1 (hbd y).2.2
  refine ⟨cv, hcv, ?_⟩
  have HC := Lib.hid hC
  obtain ⟨g0, g1, g2⟩ := hJ.at hx
  obtain ⟨k0, k1, k2⟩ := hJ.at hy
  have hxI : (x : Int) < (n : Int) := by omega
  have hyI : (y : Int) < (n : Int) := by omega
  clear hJ hcv hC hbd hf
  go_enter Tryz.func149, Tryz.ntmps149
  go_wp2_with fail
  go_still_tail 9, (by kernel_rfl)
  change wpList _ _ _ _ _ w.drew
  go_wp2_with fail
  refine HC.out.mono ?_
  rintro e w' ⟨rfl, hb⟩
  go_wp2_with fail
  go_ret
  exact ⟨rfl, (Below.refl _ w).drew.trans hb⟩
/-- what the closure answers, whenever it is called -/
def CmpAt (cf : Nat) (lb : Array Value) (ah : Nat → Nat → Bool) (n b : Nat) (w : World) : Prop := ∀ (i y : Nat) (W : World), i < n → y < i → Below b w W →
  ∃ cv : Int, (cv < 0 ↔ ah i y = true) ∧ Calls Tryz.prog cf (#[.int .i64 (i : Int), .int .i64 (y : Int)] ++ lb) W fun e w' => e = .returned (.int .i64 cv) ∧ Below W.heap.size W w'
set_option maxRecDepth 100000 in
set_option maxHeartbeats 4000000 in
/-- Go's insertion sort of a block of numbers, by a closure that makes memory -/
theorem insertion6_any (ah : Nat → Nat → Bool) (B1 B2 b n cp : Nat) (w : World) (hn8 : n ≤ 8) (hb : b < w.heap.size) (hC : CmpAt 149 #[.pointer (some ⟨B1, 0, none⟩), .pointer (some ⟨B2, 0, none⟩)] ah n b w) (hR : RowB w b (List.range n)) :
    Calls Tryz.prog 167 #[.slice (some ⟨b, 0, none⟩) n cp, .int .i64 0, .int .i64 n, .func (.func 149) #[] #[.pointer (some ⟨B1, 0, none⟩), .pointer (some ⟨B2, 0, none⟩)]] w fun e w' => e = .returned (.tuple #[]) ∧ RowB w' b (sortE ah n) ∧ Below b w w' := by
  have mixed : Tryz.prog.follows .mixedOrders = true := by kernel_rfl
  have hent := enters_of Tryz.func149 (by kernel_rfl) rfl
  have HCA := Lib.hid hC
  have HR := Lib.hid hR
  clear hC hR
  go_enter Tryz.func167, Tryz.ntmps167
  go_wp2_with fail
  go_loopg [8] n (fun g s8 wr => ∃ i : Nat, s8 = .int .i64 (i : Int) ∧ 1 ≤ i ∧ n - i ≤ g ∧ Below b w wr ∧ (i < n → RowB wr b (insAt (sortE ah i) i [] n)) ∧ (n ≤ i → RowB wr b (sortE ah n)))
  case atStart =>
    refine ⟨1, rfl, by omega, by omega, Below.refl _ _, fun h => ?_, fun h => ?_⟩
    · rw [← ins_first ah h]; exact HR.out
    · have : List.range n = sortE ah n := by
        rcases Nat.eq_zero_or_pos n with e | e
        · rw [e]; rfl
        · rw [show n = 1 by omega, sortE_one]; rfl
      rw [← this]; exact HR.out
  case round =>
    obtain ⟨i, rfl, hi1, hg, hB, h1, h2⟩ := hrel
    have H1 := Lib.hid h1
    have H2 := Lib.hid h2
    have HB := Lib.hid hB
    clear h1 h2 hB
    by_cases hlt : i < n
    · have hin : (i : Int) < (n : Int) := by omega
      have HRL := Lib.hid (sortE_len ah i)
      go_wp2_with fail
      go_loopg [9] i (fun g2 s9 wy => ∃ (l1 l2 : List Nat), s9 = .int .i64 (l1.length : Int) ∧ l1.length ≤ g2 ∧ l1 ++ l2 = sortE ah i ∧ (∀ y ∈ l2, ah i y = true) ∧ RowB wy b (insAt l1 i l2 n) ∧ Below b w wy)
      case atStart => exact ⟨sortE ah i, [], by rw [HRL.out], by rw [HRL.out]; exact Nat.le_refl _, List.append_nil _, (fun y hy => by cases hy), H1.out hlt, HB.out⟩
      case round =>
        obtain ⟨l1, l2, rfl, hg2, hl, h2, hRow, hBy⟩ := hrel
        have H2' := Lib.hid h2
        have HRow := Lib.hid hRow
        have HBy := Lib.hid hBy
        have HLL := Lib.hid hl
        have hll : l1.length + l2.length = i := by have := congrArg List.length hl; simpa [HRL.out] using this
        have hlen := insAt_length (l1 := l1) (l2 := l2) hll hlt
        clear h2 hRow hBy hl
        rcases List.eq_nil_or_concat l1 with rfl | ⟨l, y, rfl⟩
        · have HD := Lib.hid (insE_done HLL.out (fun l z e => by simp at e) H2'.out)
          have hj0 : decide ((0 : Int) < 0) = false := rfl
          rw [List.length_nil]
          go_wp2_with fail
          go_quiet (fail)
          go_wp2_with fail
          go_roundg (n - (i + 1))
          case measure => omega
          case rel => exact ⟨i + 1, by go_num, by omega, by omega, below_drewN HBy.out _, fun h => by
              have := (HRow.out.drewN nq)
              rw [ins_next h HD.out] at this
              exact this, fun h => by
              have := (HRow.out.drewN nq)
              have e : n = i + 1 := by omega
              subst e
              rw [ins_last HD.out] at this
              exact this⟩
        · rw [List.concat_eq_append] at HLL HRow hll hlen ⊢
          rw [List.length_append, List.length_singleton] at hll ⊢
          have c1 := (HRow.out.at (q := l.length + 1) (by omega)).1
          have c2 := (HRow.out.at (q := l.length) (by omega)).1
          have e1 : (insAt (l ++ [y]) i l2 n).getD (l.length + 1) 0 = i := by have := insAt_here (l ++ [y]) l2 i n; simpa using this
          rw [e1] at c1
          rw [insAt_ahead] at c2
          have hyi : y < i := by
            have hm : y ∈ sortE ah i := by rw [← HLL.out]; simp
            exact sortE_mem.1 hm
          obtain ⟨cv, hcv, hcall⟩ := HCA.out i y wr.drew hlt hyi HBy.out.drew
          have HCV := Lib.hid hcv
          have HCM := Lib.hid (show Calls Tryz.prog 149 #[.int .i64 (i : Int), .int .i64 (y : Int), .pointer (some ⟨B1, 0, none⟩), .pointer (some ⟨B2, 0, none⟩)] wr.drew (fun e w' => e = .returned (.int .i64 cv) ∧ Below wr.drew.heap.size wr.drew w') from hcall)
          have hbw : b < wr.heap.size := Nat.lt_of_lt_of_le hb HBy.out.size
          have e2 : ((l.length + 1 : Nat) : Int) - 1 = (l.length : Int) := by omega
          have e3 : ((l.length + 1 : Nat) : Int) = (l.length : Int) + 1 := by omega
          have hj1 : l.length + 1 < n := by omega
          have hj2 : (l.length : Int) + 1 < (n : Int) := by omega
          have hj3 : (l.length : Int) < (n : Int) := by omega
          have hj4 : (0 : Int) < (l.length : Int) + 1 := by omega
          have hj5 : (0 : Int) ≤ (l.length : Int) + 1 := by omega
          have hj6 : l.length < n := by omega
          rw [e3]
          have HE1 := Lib.hid e1
          have HLEN := Lib.hid hlen
          clear e1 e2 e3 hcall hcv
          have HLL2 := Lib.hid hll
          obtain ⟨j, hj⟩ : ∃ j, l.length = j := ⟨_, rfl⟩
          have HJ := Lib.hid hj
          rw [hj] at c1 c2 hj1 hj2 hj3 hj4 hj5 hj6 ⊢
          clear hj hll hlen
          go_wp2_with fail
          have hw2 : IntKind.i64.wrap (j : Int) = (j : Int) := IntWalk.i64_in _ (by omega)
          have hj7 : (0 : Int) ≤ (j : Int) := by omega
          have hw1 : IntKind.i64.wrap ((j : Int) + 1 - 1) = (j : Int) := by rw [show (j : Int) + 1 - 1 = (j : Int) by omega]; exact IntWalk.i64_in _ (by omega)
          go_region_held3 (fun w' => w'.cell? ⟨b, j + 1, none⟩ = some (.int .i64 (i : Int)) ∧ w'.cell? ⟨b, j, none⟩ = some (.int .i64 (y : Int))) (first | go_keep | exact ⟨k1, k2⟩)
            (first | (go_at_call 149; refine HCM.out.mono ?_; rintro e w3 ⟨rfl, hb3⟩; have k1 := (hb3.cell (p := ⟨b, j + 1, none⟩) hbw).trans c1; have k2 := (hb3.cell (p := ⟨b, j, none⟩) hbw).trans c2))
          have HRow3 := Lib.hid (show RowB w3 b (insAt (l ++ [y]) i l2 n) from (HRow.out.drewN 1).block (hb3.block b hbw))
          have HB3 := Lib.hid (HBy.out.drew.trans (hb3.mono (by show b ≤ wr.heap.size; omega)))
          have f1 := (HRow3.out.at (q := j + 1) (by rw [HLEN.out]; omega)).2
          have f2 := (HRow3.out.at (q := j) (by rw [HLEN.out]; omega)).2
          clear hw1 hw2 c1 c2 hb3
          by_cases hcb : cv < 0
          · go_wp2_with fail
            go_region_o
            go_wp2_with fail
            have hsw := (HRow3.out).swap (i := l.length + 1) (j := l.length) (by rw [HLEN.out]; have := HJ.out; omega) (by rw [HLEN.out]; have := HJ.out; omega)
            rw [HE1.out, insAt_ahead, insAt_swap, HJ.out] at hsw
            go_roundg j
            case measure => have := HJ.out; simp at hg2; omega
            case rel => exact ⟨l, y :: l2, by rw [HJ.out], by rw [HJ.out]; exact Nat.le_refl _, by simpa using HLL.out, fun z hz => by
                rcases List.mem_cons.1 hz with rfl | hz
                · exact HCV.out.1 hcb
                · exact H2'.out z hz, hsw, ((HB3.out.setCell (p := ⟨b, j + 1, none⟩) (Nat.le_refl _) _).setCell (p := ⟨b, j, none⟩) (Nat.le_refl _) _).drew⟩
          · have HD := Lib.hid (insE_done HLL.out (fun l' z e => by
              have : z = y := by have := List.append_inj_right' e rfl; simpa using this.symm
              subst this
              cases hq : ah i z
              · rfl
              · exact absurd (HCV.out.2 hq) hcb) H2'.out)
            go_wp2_with fail
            go_roundg (n - (i + 1))
            case measure => omega
            case rel => exact ⟨i + 1, by go_num, by omega, by omega, HB3.out, fun h => by
                have := HRow3.out
                rw [ins_next h HD.out] at this
                exact this, fun h => by
                have := HRow3.out
                have e : n = i + 1 := by omega
                subst e
                rw [ins_last HD.out] at this
                exact this⟩
    · have hin : ¬ (i : Int) < (n : Int) := by omega
      go_wp2_with fail
      go_end0
      exact ⟨rfl, H2.out (by omega), HB.out⟩
theorem stable6_any (ah : Nat → Nat → Bool) (B1 B2 b n cp : Nat) (w : World) (hn8 : n ≤ 8) (hb : b < w.heap.size) (hC : CmpAt 149 #[.pointer (some ⟨B1, 0, none⟩), .pointer (some ⟨B2, 0, none⟩)] ah n b w) (hR : RowB w b (List.range n)) :
    Calls Tryz.prog 140 #[.slice (some ⟨b, 0, none⟩) n cp, .int .i64 n, .func (.func 149) #[] #[.pointer (some ⟨B1, 0, none⟩), .pointer (some ⟨B2, 0, none⟩)]] w fun e w' => e = .returned (.tuple #[]) ∧ RowB w' b (sortE ah n) ∧ Below b w w' := by
  have HI := Lib.hid (insertion6_any ah B1 B2 b n cp w hn8 hb hC hR)
  have h20 : ¬ (20 : Int) ≤ (n : Int) := by omega
  have h20' : ¬ (20 : Int) < (n : Int) := by omega
  clear hC hR
  go_enter Tryz.func140, Tryz.ntmps140
  go_wp2_with fail
  go_loopw [7, 8] (fun s7 s8 wr => s7 = .int .i64 0 ∧ s8 = .int .i64 20 ∧ wr = w) (fun _ _ _ => 0)
  case atStart => exact ⟨rfl, rfl, rfl⟩
  case round =>
    obtain ⟨rfl, rfl, rfl⟩ := hrel
    go_wp2_with fail
    refine HI.out.mono ?_
    rintro e w2 ⟨rfl, h1, h2⟩
    have H1 := Lib.hid h1
    have H2 := Lib.hid h2
    clear h1 h2
    go_wp2_with fail
    go_loopw [6] (fun s6 wr => s6 = .int .i64 20 ∧ wr = w2) (fun _ _ => 0)
    case atStart => exact ⟨rfl, rfl⟩
    case round =>
      obtain ⟨rfl, rfl⟩ := hrel
      go_wp2_with fail
      go_end0
      exact ⟨rfl, H1.out, H2.out⟩
theorem sortStable6_any (ah : Nat → Nat → Bool) (B1 B2 b n cp : Nat) (w : World) (hn8 : n ≤ 8) (hb : b < w.heap.size) (hC : CmpAt 149 #[.pointer (some ⟨B1, 0, none⟩), .pointer (some ⟨B2, 0, none⟩)] ah n b w) (hR : RowB w b (List.range n)) :
    Calls Tryz.prog 107 #[.slice (some ⟨b, 0, none⟩) n cp, .func (.func 149) #[] #[.pointer (some ⟨B1, 0, none⟩), .pointer (some ⟨B2, 0, none⟩)]] w fun e w' => e = .returned (.tuple #[]) ∧ RowB w' b (sortE ah n) ∧ Below b w w' := by
  have HI := Lib.hid (stable6_any ah B1 B2 b n cp w hn8 hb hC hR)
  clear hC hR
  go_enter Tryz.func107, Tryz.ntmps107
  go_wp2_with fail
  refine HI.out.mono ?_
  rintro e w2 ⟨rfl, h1, h2⟩
  go_wp2_with fail
  go_end0
  exact ⟨rfl, h1, h2⟩
/-- the jobs sorted by a rule, in a block of its own -/
def SortedPost (w : World) (n : Nat) (ah : Nat → Nat → Bool) (e : Ending) (w' : World) : Prop := ∃ b, e = .returned (.slice (some ⟨b, 0, none⟩) n n) ∧ w.heap.size ≤ b ∧ b < w'.heap.size ∧ RowB w' b (sortE ah n) ∧ Below w.heap.size w w'
set_option maxHeartbeats 1000000 in
theorem orderByRule_any (f : Nat) (ah : Int → Int → Int → Int → Int → Int → Bool) (hent : ∀ (args : Array Value) (w : World), (callFunc f args).run Tryz.prog w = .ok (.enter f args) w) (hf : CmpIs f ah)
    (B n : Nat) (t v d : Nat → Int) (w : World) (hbd : ∀ q, (0 ≤ t q ∧ t q ≤ 9) ∧ (0 ≤ v q ∧ v q ≤ 9) ∧ (0 ≤ d q ∧ d q ≤ 60)) (hB : B < w.heap.size) (hJ : JobsB w B n t v d) (hn : n ≤ 8) :
    Calls Tryz.prog 114 #[.slice (some ⟨B, 0, none⟩) n n, .func (.func f) #[] #[]] w (SortedPost w n (fun i y => ah (t i) (v i) (d i) (t y) (v y) (d y))) := by
  obtain ⟨w1, hw1⟩ : ∃ w1, (w.alloc (.cells #[.slice (some ⟨B, 0, none⟩) n n] 138)).alloc (.cells #[.func (.func f) #[] #[]] 183) = w1 := ⟨_, rfl⟩
  have hs1 : w1.heap.size = w.heap.size + 2 := by rw [← hw1]; simp
  have hb1 : Below w.heap.size w w1 := by rw [← hw1]; exact ((Below.refl _ w).alloc (Nat.le_refl _) _).alloc (by simp) _
  have k1 : w1.cell? ⟨w.heap.size + 1, 0, none⟩ = some (.func (.func f) #[] #[]) := by
    rw [← hw1]
    have z := cell_new_l (w.alloc (.cells #[.slice (some ⟨B, 0, none⟩) n n] 138)) (.func (.func f) #[] #[]) 183
    simp only [World.size_alloc] at z
    exact z.1
  have k2 : w1.cell? ⟨w.heap.size, 0, none⟩ = some (.slice (some ⟨B, 0, none⟩) n n) := by
    rw [← hw1]; exact cell_alloc_l _ (cell_new_l w (.slice (some ⟨B, 0, none⟩) n n) 138).1
  have hJ1 := hJ.block (hb1.block B hB)
  have HFO := Lib.hid (firstOrder_any n w1 hn)
  have HB1 := Lib.hid hb1
  have HK1 := Lib.hid k1
  have HK2 := Lib.hid k2
  have HJ1 := Lib.hid hJ1
  have HW1 := Lib.hid hw1
  have HS1 := Lib.hid hs1
  clear hw1 hb1 k1 k2 hJ1 hJ hs1
  go_enter Tryz.func114, Tryz.ntmps114
  go_wp2_with fail
  rw [HW1.out]
  refine HFO.out.mono ?_
  rintro e w2 ⟨rfl, hown⟩
  have hR2 := hown.rowB
  have hlt2 : w1.heap.size < w2.heap.size := (Array.getElem?_eq_some_iff.1 hown.heap).1
  have hb2 := hown.below
  have hC : CmpAt 149 #[.pointer (some ⟨w.heap.size + 1, 0, none⟩), .pointer (some ⟨w.heap.size, 0, none⟩)] (fun i y => ah (t i) (v i) (d i) (t y) (v y) (d y)) n w1.heap.size w2 := fun i y W hi hy hW => by
    have hs := HS1.out
    have hbW := hb2.trans hW
    exact byRule1_any f ah hent hf (w.heap.size + 1) w.heap.size B n i y t v d W hbd ((hbW.cell (p := ⟨w.heap.size + 1, 0, none⟩) (by show w.heap.size + 1 < _; omega)).trans HK1.out) ((hbW.cell (p := ⟨w.heap.size, 0, none⟩) (by show w.heap.size < _; omega)).trans HK2.out)
      (HJ1.out.block (hbW.block B (by omega))) hi (by omega) hn
  have HST := Lib.hid (sortStable6_any _ (w.heap.size + 1) w.heap.size w1.heap.size n n w2 hn hlt2 hC hR2)
  have HB2 := Lib.hid hb2
  clear hown hR2 hb2 hC
  go_wp2_with fail
  refine HST.out.mono ?_
  rintro e w4 ⟨rfl, h4, hb4⟩
  have H4 := Lib.hid h4
  have HB4 := Lib.hid hb4
  clear h4 hb4
  go_wp2_with fail
  go_ret
  exact ⟨w1.heap.size, rfl, by have := HS1.out; omega, Nat.lt_of_lt_of_le hlt2 HB4.out.size, H4.out, HB1.out.trans ((HB2.out.trans HB4.out).mono (by have := HS1.out; omega))⟩
end Go.Proofs.YtjcbpnffmebihaaGreatDoor
