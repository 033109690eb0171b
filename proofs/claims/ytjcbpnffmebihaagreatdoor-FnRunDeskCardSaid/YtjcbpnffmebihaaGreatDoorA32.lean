import Derived.Test.YtjcbpnffmebihaaGreatDoorA31
set_option linter.unusedVariables false
set_option linter.unusedSimpArgs false
namespace Go.Proofs.YtjcbpnffmebihaaGreatDoor
open Go.RowKit Go.WideShapes

theorem resC_lower {w w2 w' : World} {xs : List Int} {e : Ending} (hb : Below w.heap.size w w2) (h : ResPostC w2 xs e w') : ResPostC w xs e w' := by
  obtain ⟨a, l, c, h1, h2, h3, h4, h5⟩ := h
  have hz := hb.size
  exact ⟨a, l, c, h1, h2.to (fun b hb => ⟨⟨Nat.le_trans hz hb.1, hb.2⟩, rfl⟩), h3.to (fun b hb => ⟨⟨Nat.le_trans hz hb.1, hb.2⟩, rfl⟩), h4, hb.trans (h5.mono hz)⟩
theorem quiet_two {P : Program} {f : FuncId} {args : Array Value} {w : World} {n k : Nat} {v : Value}
    (h : Calls P f args (w.drewN (n + k)) fun e w' => e = .returned v ∧ w' = w.drewN (n + k)) : Calls P f args (w.drewN (n + k)) fun e w'' => e = .returned v ∧ ∃ m, w'' = w.drewN (n + m) :=
  h.mono fun _ _ ⟨he, hm⟩ => ⟨he, k, hm⟩
theorem isNaN_any (p : Int) (w : World) : Calls Tryz.prog 169 #[.int .i64 p] w fun e w' => e = .returned (.bool false) ∧ w = w' := by
  have h1 : (p != p) = false := by simp
  go_enter Tryz.func169, Tryz.ntmps169
  go_wp2_with fail
  go_ret
  exact ⟨rfl, rfl⟩
theorem compare_any (p q : Int) (w : World) : Calls Tryz.prog 141 #[.int .i64 p, .int .i64 q] w fun e w' => e = .returned (.int .i64 (cc p q)) ∧ w = w' := by
  by_cases h1 : p < q
  · have HC := Lib.hid (show cc p q = -1 from if_pos h1)
    go_enter Tryz.func141, Tryz.ntmps141
    go_wp2_with (go_at_call 169; refine (isNaN_any _ _).mono ?_; rintro e w' ⟨rfl, rfl⟩)
    go_ret
    exact ⟨ret_int HC.out.symm, rfl⟩
  · by_cases h2 : q < p
    · have HC := Lib.hid (show cc p q = 1 by unfold cc; rw [if_neg h1, if_pos h2])
      go_enter Tryz.func141, Tryz.ntmps141
      go_wp2_with (go_at_call 169; refine (isNaN_any _ _).mono ?_; rintro e w' ⟨rfl, rfl⟩)
      go_ret
      exact ⟨ret_int HC.out.symm, rfl⟩
    · have HC := Lib.hid (show cc p q = 0 by unfold cc; rw [if_neg h1, if_neg h2])
      go_enter Tryz.func141, Tryz.ntmps141
      go_wp2_with (go_at_call 169; refine (isNaN_any _ _).mono ?_; rintro e w' ⟨rfl, rfl⟩)
      go_ret
      exact ⟨ret_int HC.out.symm, rfl⟩
set_option maxHeartbeats 1000000 in
theorem byRule_cmp (b1 o1 c1 b2 o2 c2 : Nat) (x0 x1 y0 y1 : Int) (w : World) (h1 : w.cell? ⟨b1, o1, none⟩ = some (.int .i64 x0)) (h2 : w.cell? ⟨b1, o1 + 1, none⟩ = some (.int .i64 x1)) (h3 : w.cell? ⟨b2, o2, none⟩ = some (.int .i64 y0)) (h4 : w.cell? ⟨b2, o2 + 1, none⟩ = some (.int .i64 y1)) :
    Calls Tryz.prog 109 #[.slice (some ⟨b1, o1, none⟩) 2 c1, .slice (some ⟨b2, o2, none⟩) 2 c2] w fun e w' => e = .returned (.int .i64 (cmp4 x0 x1 y0 y1)) ∧ Drew w w' := by
  by_cases g1 : x0 < x1
  · by_cases g2 : y0 < y1
    · have HC := Lib.hid (show cmp4 x0 x1 y0 y1 = cc x0 y0 by unfold cmp4; rw [if_pos g1, if_pos g2])
      have HCM := Lib.hid (show ∀ W : World, Calls Tryz.prog 141 #[.int .i64 x0, .int .i64 y0] W (fun e w' => e = .returned (.int .i64 (cc x0 y0)) ∧ w' = W) from fun W => (compare_any x0 y0 W).mono (fun _ _ h => ⟨h.1, h.2.symm⟩))
      go_enter Tryz.func109, Tryz.ntmps109
      go_wp2_with fail
      go_quiet (fail)
      go_wp2_with fail
      go_quiet (first | (go_at_call 141; with_reducible exact quiet_two (HCM.out _)))
      go_wp2_with fail
      go_ret
      exact ⟨ret_int HC.out.symm, by repeat (first | exact Drew.refl _ | refine Drew.drew ?_ _)⟩
    · have HC := Lib.hid (show cmp4 x0 x1 y0 y1 = -1 by unfold cmp4; rw [if_pos g1, if_neg g2])
      go_enter Tryz.func109, Tryz.ntmps109
      go_wp2_with fail
      go_quiet (fail)
      go_wp2_with fail
      go_ret
      exact ⟨ret_int HC.out.symm, by repeat (first | exact Drew.refl _ | refine Drew.drew ?_ _)⟩
  · by_cases g2 : y0 < y1
    · have HC := Lib.hid (show cmp4 x0 x1 y0 y1 = 1 by unfold cmp4; rw [if_neg g1, if_pos g2])
      go_enter Tryz.func109, Tryz.ntmps109
      go_wp2_with fail
      go_quiet (fail)
      go_wp2_with fail
      go_ret
      exact ⟨ret_int HC.out.symm, by repeat (first | exact Drew.refl _ | refine Drew.drew ?_ _)⟩
    · have HC := Lib.hid (show cmp4 x0 x1 y0 y1 = cc y1 x1 by unfold cmp4; rw [if_neg g1, if_neg g2])
      have HCM := Lib.hid (show ∀ W : World, Calls Tryz.prog 141 #[.int .i64 y1, .int .i64 x1] W (fun e w' => e = .returned (.int .i64 (cc y1 x1)) ∧ w' = W) from fun W => (compare_any y1 x1 W).mono (fun _ _ h => ⟨h.1, h.2.symm⟩))
      go_enter Tryz.func109, Tryz.ntmps109
      go_wp2_with fail
      go_quiet (fail)
      go_wp2_with fail
      go_quiet (first | (go_at_call 141; with_reducible exact quiet_two (HCM.out _)))
      go_wp2_with fail
      go_ret
      exact ⟨ret_int HC.out.symm, by repeat (first | exact Drew.refl _ | refine Drew.drew ?_ _)⟩
/-- where the times of a job stand -/
theorem times_at {w : World} {S : Nat → Prop} {a : Option Addr} {len : Nat} {rows : List (List Int)} (h : RowsAt w S a len rows) (hp : pairsM rows = true) {q : Nat} (hq : q < len) : ∃ (b off b3 off3 c : Nat), a = some ⟨b, off, none⟩ ∧
      w.cell? ⟨b, off + q, none⟩ = some (.slice (some ⟨b3, off3, none⟩) 2 c) ∧ w.cell? ⟨b3, off3, none⟩ = some (.int .i64 (ta rows q)) ∧ w.cell? ⟨b3, off3 + 1, none⟩ = some (.int .i64 (tb rows q)) := by
  obtain ⟨b, off, r, a', l, c, rfl, hr, hcr, _, hri⟩ := h.get hq
  obtain ⟨hr2, _, _⟩ := (pairs_get hp).2 r (List.mem_of_getElem? hr)
  have hl2 : l = 2 := by rw [← hri.lenEq, hr2]
  subst hl2
  obtain ⟨b3, off3, x3, rfl, h3, hc3⟩ := hri.get (k := 0) (by omega)
  obtain ⟨b4, off4, x4, e4, h4, hc4⟩ := hri.get (k := 1) (by omega)
  cases e4
  have ht := t_at hr
  rw [getD_of h3, getD_of h4] at ht
  rw [Nat.add_zero] at hc3
  exact ⟨b, off, b3, off3, c, rfl, hcr, by rw [ht.1]; exact hc3, by rw [ht.2]; exact hc4⟩
set_option maxHeartbeats 1000000 in
theorem ruleClosure_any (S : Nat → Prop) (a : Option Addr) (len cap Bs : Nat) (rows : List (List Int)) (x y : Nat) (w : World) (h : RowsAt w S a len rows) (hp : pairsM rows = true) (hB : w.cell? ⟨Bs, 0, none⟩ = some (.slice a len cap)) (hx : x < len) (hy : y < len) :
    Calls Tryz.prog 108 #[.int .i64 (x : Int), .int .i64 (y : Int), .pointer (some ⟨Bs, 0, none⟩)] w fun e w' => e = .returned (.int .i64 (cmpV (ta rows) (tb rows) x y)) ∧ ∃ z, w' = w.drewN z := by
  obtain ⟨b, off, b3, o3, c3, rfl, h1, h2, h3⟩ := times_at h hp hx
  obtain ⟨b', off', b4, o4, c4, e, k1, k2, k3⟩ := times_at h hp hy
  cases e
  have hs := h.small
  have HCM := Lib.hid (fun z => byRule_cmp b3 o3 c3 b4 o4 c4 (ta rows x) (tb rows x) (ta rows y) (tb rows y) (w.drewN z) h2 h3 k2 k3)
  have HV := Lib.hid (show cmp4 (ta rows x) (tb rows x) (ta rows y) (tb rows y) = cmpV (ta rows) (tb rows) x y from rfl)
  have hxi : (x : Int) < (len : Int) := by omega
  have hyi : (y : Int) < (len : Int) := by omega
  clear h2 h3 k2 k3
  generalize cmp4 (ta rows x) (tb rows x) (ta rows y) (tb rows y) = v at HV HCM
  go_enter Tryz.func108, Tryz.ntmps108
  go_wp2_with fail
  go_quiet (first | (go_at_call 109; with_reducible exact Calls.quiet_of (HCM.out _)))
  go_wp2_with fail
  go_ret
  exact ⟨ret_int HV.out, _, rfl⟩
set_option maxRecDepth 100000 in
set_option maxHeartbeats 4000000 in
/-- Go's insertion sort of a block of job numbers, by the rule -/
theorem insertion_any (S : Nat → Prop) (a : Option Addr) (len cap Bs b n cp : Nat) (rows : List (List Int)) (w : World) (h : RowsAt w S a len rows) (hS : ∀ x, S x → x < b) (hBs : Bs < b) (hp : pairsM rows = true) (hB : w.cell? ⟨Bs, 0, none⟩ = some (.slice a len cap)) (hn : n = len) (hR : RowB w b (List.range n)) :
    Calls Tryz.prog 167 #[.slice (some ⟨b, 0, none⟩) n cp, .int .i64 0, .int .i64 n, .func (.func 108) #[] #[.pointer (some ⟨Bs, 0, none⟩)]] w fun e w' => e = .returned (.tuple #[]) ∧ RowB w' b (ruleT (ta rows) (tb rows) n) ∧ Below b w w' := by
  have mixed : Tryz.prog.follows .mixedOrders = true := by kernel_rfl
  have hent := enters_of Tryz.func108 (by kernel_rfl) rfl
  have hs := h.small
  subst hn
  have HRW := Lib.hid (show ∀ w', Below b w w' → RowsAt w' S a n rows from fun w' hb => h.to fun x hx => ⟨hx, hb.block x (hS x hx)⟩)
  have HBX := Lib.hid (show ∀ w', Below b w w' → w'.cell? ⟨Bs, 0, none⟩ = some (.slice a n cap) from fun w' hb => (hb.cell (p := ⟨Bs, 0, none⟩) hBs).trans hB)
  have HP := Lib.hid hp
  have HR := Lib.hid hR
  clear h hp hB hR
  go_enter Tryz.func167, Tryz.ntmps167
  go_wp2_with fail
  go_loopg [8] n (fun g s8 wr => ∃ i : Nat, s8 = .int .i64 (i : Int) ∧ 1 ≤ i ∧ n - i ≤ g ∧ Below b w wr ∧ (i < n → RowB wr b (insAt (ruleT (ta rows) (tb rows) i) i [] n)) ∧ (n ≤ i → RowB wr b (ruleT (ta rows) (tb rows) n)))
  case atStart =>
    refine ⟨1, rfl, by omega, by omega, Below.refl _ _, fun h => ?_, fun h => ?_⟩
    · rw [← insAt_first h]; exact HR.out
    · have : List.range n = ruleT (ta rows) (tb rows) n := by
        rcases Nat.eq_zero_or_pos n with e | e
        · rw [e]; rfl
        · rw [show n = 1 by omega]; rfl
      rw [← this]; exact HR.out
  case round =>
    obtain ⟨i, rfl, hi1, hg, hB, h1, h2⟩ := hrel
    have H1 := Lib.hid h1
    have H2 := Lib.hid h2
    have HB := Lib.hid hB
    clear h1 h2 hB
    by_cases hlt : i < n
    · have hin : (i : Int) < (n : Int) := by omega
      have HRL := Lib.hid (ruleT_lenN (ta rows) (tb rows) i)
      go_wp2_with fail
      go_loopg [9] i (fun g2 s9 wy => ∃ (l1 l2 : List Nat), s9 = .int .i64 (l1.length : Int) ∧ l1.length ≤ g2 ∧ l1 ++ l2 = ruleT (ta rows) (tb rows) i ∧ (∀ y ∈ l2, ¬ btr (ta rows) (tb rows) y i) ∧ RowB wy b (insAt l1 i l2 n) ∧ Below b w wy)
      case atStart => exact ⟨ruleT (ta rows) (tb rows) i, [], by rw [HRL.out], by rw [HRL.out]; exact Nat.le_refl _, List.append_nil _, (fun y hy => by cases hy), H1.out hlt, HB.out⟩
      case round =>
        obtain ⟨l1, l2, rfl, hg2, hl, h2, hRow, hBy⟩ := hrel
        have H2' := Lib.hid h2
        have HRow := Lib.hid hRow
        have HBy := Lib.hid hBy
        have HLL := Lib.hid hl
        have hll : l1.length + l2.length = i := by have := congrArg List.length hl; simpa [HRL.out] using this
        have hlen := insAt_length (l1 := l1) (l2 := l2) hll hlt
        clear h2 hRow hBy hl
        rcases List.eq_nil_or_concat l1 with rfl | ⟨l, y, rfl⟩
        · have HD := Lib.hid (ins_done HLL.out (fun y hy => by cases hy) H2'.out)
          have hj0 : decide ((0 : Int) < 0) = false := rfl
          rw [List.length_nil]
          go_wp2_with fail
          go_quiet (fail)
          go_wp2_with fail
          go_roundg (n - (i + 1))
          case measure => omega
          case rel => exact ⟨i + 1, by go_num, by omega, by omega, below_drewN HBy.out _, fun h => by
              have := (HRow.out.drewN nq)
              rw [insAt_next h HD.out] at this
              exact this, fun h => by
              have := (HRow.out.drewN nq)
              have e : n = i + 1 := by omega
              subst e
              rw [insAt_last HD.out] at this
              exact this⟩
        · rw [List.concat_eq_append] at HLL HRow hll hlen ⊢
          rw [List.length_append, List.length_singleton] at hll ⊢
          have c1 := (HRow.out.at (q := l.length + 1) (by omega)).1
          have c2 := (HRow.out.at (q := l.length) (by omega)).1
          have f1 := (HRow.out.at (q := l.length + 1) (by omega)).2
          have f2 := (HRow.out.at (q := l.length) (by omega)).2
          have e1 : (insAt (l ++ [y]) i l2 n).getD (l.length + 1) 0 = i := by have := insAt_here (l ++ [y]) l2 i n; simpa using this
          rw [e1] at c1
          rw [insAt_ahead] at c2
          have hyi : y < i := by
            have hm : y ∈ ruleT (ta rows) (tb rows) i := by rw [← HLL.out]; simp
            have := (ruleT_perm (ta rows) (tb rows) i).mem_iff.1 hm
            simpa using this
          have HCV := Lib.hid (cmpV_lt (a := ta rows) (b := tb rows) hyi)
          have HCM := Lib.hid (show ∀ z, Calls Tryz.prog 108 #[.int .i64 (i : Int), .int .i64 (y : Int), .pointer (some ⟨Bs, 0, none⟩)] (wr.drewN z) (fun e w' => e = .returned (.int .i64 (cmpV (ta rows) (tb rows) i y)) ∧ ∃ m, w' = (wr.drewN z).drewN m) from fun z =>
            ruleClosure_any S a n cap Bs rows i y _ (HRW.out _ (below_drewN HBy.out z)) HP.out (HBX.out _ (below_drewN HBy.out z)) hlt (by omega))
          generalize cmpV (ta rows) (tb rows) i y = cv at HCV HCM
          have e2 : ((l.length + 1 : Nat) : Int) - 1 = (l.length : Int) := by omega
          have e3 : ((l.length + 1 : Nat) : Int) = (l.length : Int) + 1 := by omega
          have hj1 : l.length + 1 < n := by omega
          have hj2 : (l.length : Int) + 1 < (n : Int) := by omega
          have hj3 : (l.length : Int) < (n : Int) := by omega
          have hj4 : (0 : Int) < (l.length : Int) + 1 := by omega
          rw [e3]
          have HE1 := Lib.hid e1
          have HLEN := Lib.hid hlen
          clear e1 e2 e3
          have HLL2 := Lib.hid hll
          obtain ⟨j, hj⟩ : ∃ j, l.length = j := ⟨_, rfl⟩
          have HJ := Lib.hid hj
          rw [hj] at c1 c2 f1 f2 hj1 hj2 hj3 hj4 ⊢
          clear hj hll hlen
          by_cases hb : cv < 0
          · go_wp2_with fail
            go_quiet (first | (go_at_call 108; with_reducible exact Calls.quiet_of (HCM.out _)))
            go_wp2_with fail
            go_region_o
            go_wp2_with fail
            have hsw := (HRow.out.drewN (nq + 1)).swap (i := l.length + 1) (j := l.length) (by rw [HLEN.out]; have := HJ.out; omega) (by rw [HLEN.out]; have := HJ.out; omega)
            rw [HE1.out, insAt_ahead, insAt_swap, HJ.out] at hsw
            go_roundg j
            case measure => have := HJ.out; simp at hg2; omega
            case rel => exact ⟨l, y :: l2, by rw [HJ.out], by rw [HJ.out]; exact Nat.le_refl _, by simpa using HLL.out, fun z hz => by
                rcases List.mem_cons.1 hz with rfl | hz
                · exact HCV.out.1 hb
                · exact H2'.out z hz, hsw, ((below_drewN HBy.out (nq + 1)).setCell (p := ⟨b, j + 1, none⟩) (Nat.le_refl _) _).setCell (p := ⟨b, j, none⟩) (Nat.le_refl _) _⟩
          · have HD := Lib.hid (ins_done HLL.out (fun z hz => by
              simp at hz; subst hz
              exact Classical.byContradiction (fun h => hb (HCV.out.2 h))) H2'.out)
            go_wp2_with fail
            go_quiet (first | (go_at_call 108; with_reducible exact Calls.quiet_of (HCM.out _)))
            go_wp2_with fail
            go_roundg (n - (i + 1))
            case measure => omega
            case rel => exact ⟨i + 1, by go_num, by omega, by omega, below_drewN HBy.out _, fun h => by
                have := (HRow.out.drewN nq)
                rw [insAt_next h HD.out] at this
                exact this, fun h => by
                have := (HRow.out.drewN nq)
                have e : n = i + 1 := by omega
                subst e
                rw [insAt_last HD.out] at this
                exact this⟩
    · have hin : ¬ (i : Int) < (n : Int) := by omega
      go_wp2_with fail
      go_end0
      exact ⟨rfl, H2.out (by omega), HB.out⟩
theorem stable_any (S : Nat → Prop) (a : Option Addr) (len cap Bs b n cp : Nat) (rows : List (List Int)) (w : World) (h : RowsAt w S a len rows) (hS : ∀ x, S x → x < b) (hBs : Bs < b) (hp : pairsM rows = true) (hB : w.cell? ⟨Bs, 0, none⟩ = some (.slice a len cap)) (hn : n = len) (hn8 : n ≤ 8) (hR : RowB w b (List.range n)) :
    Calls Tryz.prog 140 #[.slice (some ⟨b, 0, none⟩) n cp, .int .i64 n, .func (.func 108) #[] #[.pointer (some ⟨Bs, 0, none⟩)]] w fun e w' => e = .returned (.tuple #[]) ∧ RowB w' b (ruleT (ta rows) (tb rows) n) ∧ Below b w w' := by
  have HI := Lib.hid (insertion_any S a len cap Bs b n cp rows w h hS hBs hp hB hn hR)
  have h20 : ¬ (20 : Int) ≤ (n : Int) := by omega
  have h20' : ¬ (20 : Int) < (n : Int) := by omega
  clear h hB hR hn
  go_enter Tryz.func140, Tryz.ntmps140
  go_wp2_with fail
  go_loopw [7, 8] (fun s7 s8 wr => s7 = .int .i64 0 ∧ s8 = .int .i64 20 ∧ wr = w) (fun _ _ _ => 0)
  case atStart => exact ⟨rfl, rfl, rfl⟩
  case round =>
    obtain ⟨rfl, rfl, rfl⟩ := hrel
    go_wp2_with fail
    refine HI.out.mono ?_
    rintro e w2 ⟨rfl, h1, h2⟩
    have H1 := Lib.hid h1
    have H2 := Lib.hid h2
    clear h1 h2
    go_wp2_with fail
    go_loopw [6] (fun s6 wr => s6 = .int .i64 20 ∧ wr = w2) (fun _ _ => 0)
    case atStart => exact ⟨rfl, rfl⟩
    case round =>
      obtain ⟨rfl, rfl⟩ := hrel
      go_wp2_with fail
      go_end0
      exact ⟨rfl, H1.out, H2.out⟩
theorem sortStable_any (S : Nat → Prop) (a : Option Addr) (len cap Bs b n cp : Nat) (rows : List (List Int)) (w : World) (h : RowsAt w S a len rows) (hS : ∀ x, S x → x < b) (hBs : Bs < b) (hp : pairsM rows = true) (hB : w.cell? ⟨Bs, 0, none⟩ = some (.slice a len cap)) (hn : n = len) (hn8 : n ≤ 8) (hR : RowB w b (List.range n)) :
    Calls Tryz.prog 107 #[.slice (some ⟨b, 0, none⟩) n cp, .func (.func 108) #[] #[.pointer (some ⟨Bs, 0, none⟩)]] w fun e w' => e = .returned (.tuple #[]) ∧ RowB w' b (ruleT (ta rows) (tb rows) n) ∧ Below b w w' := by
  have HI := Lib.hid (stable_any S a len cap Bs b n cp rows w h hS hBs hp hB hn hn8 hR)
  clear h hB hR hn
  go_enter Tryz.func107, Tryz.ntmps107
  go_wp2_with fail
  refine HI.out.mono ?_
  rintro e w2 ⟨rfl, h1, h2⟩
  go_wp2_with fail
  go_end0
  exact ⟨rfl, h1, h2⟩
set_option maxHeartbeats 1000000 in
theorem ruleOrder_impl (a : Option Addr) (len cap : Nat) (rows : List (List Int)) (w : World) (h : RowsAt w (· < w.heap.size) a len rows) (hc : len ≤ cap) :
    Calls Tryz.prog 84 #[.slice a len cap] w (ResPostC w (ruleRes rows)) := by
  have HL := Lib.hid h.lenEq
  have B0 := (Below.refl w.heap.size w).alloc (Nat.le_refl _) (.cells #[.slice a len cap] 37)
  have HV := Lib.hid (validPairs_impl _ a len cap rows _ (h.below B0) hc)
  have z1 := (cell_new_l w (.slice a len cap) 37).1
  cases hp : pairsM rows
  · rw [ruleRes_no hp]
    rw [hp] at HV
    go_enter Tryz.func84, Tryz.ntmps84
    go_wp2_with fail
    refine HV.out.mono ?_
    rintro e w' ⟨rfl, hdw⟩
    go_wp2_with fail
    go_ret
    exact resC_lower (B0.trans (hdw.below _)) (resPostC_nil _)
  · rw [ruleRes_yes hp]
    rw [hp] at HV
    have hl8 : len ≤ 8 := by have := (pairs_get hp).1; have := HL.out; omega
    have HB0 := Lib.hid B0
    have HROWS := Lib.hid h
    clear B0 h
    go_enter Tryz.func84, Tryz.ntmps84
    go_wp2_with fail
    refine HV.out.mono ?_
    rintro e w' ⟨rfl, hdw⟩
    obtain ⟨z, rfl⟩ := hdw
    go_wp2_with fail
    have HW1 := Lib.hid (below_drewN HB0.out z)
    obtain ⟨w1, hw1⟩ : ∃ w1, (w.alloc (Obj.cells #[Value.slice a len cap] 37)).drewN z = w1 := ⟨_, rfl⟩
    have hs1 : w1.heap.size = w.heap.size + 1 := by rw [← hw1]; simp
    have hc1 : w1.cell? ⟨w.heap.size, 0, none⟩ = some (.slice a len cap) := by rw [← hw1]; exact z1
    rw [hw1] at HW1 ⊢
    clear hw1 z1 HB0
    have HS1 := Lib.hid hs1
    clear hs1
    refine (firstOrder_any len w1 hl8).mono ?_
    rintro e w3 ⟨rfl, hown⟩
    have HR3 := Lib.hid hown.rowB
    have hlt3 : w1.heap.size < w3.heap.size := (Array.getElem?_eq_some_iff.1 hown.heap).1
    have HB3 := Lib.hid hown.below
    have HST := Lib.hid (sortStable_any (· < w.heap.size) a len cap w.heap.size w1.heap.size len len rows w3 ((HROWS.out.below HW1.out).to fun x hx => ⟨hx, HB3.out.block x (by have := HS1.out; omega)⟩) (fun x hx => by have := HS1.out; omega) (by have := HS1.out; omega) hp
      ((HB3.out.cell (p := ⟨w.heap.size, 0, none⟩) (by have := HS1.out; show w.heap.size < _; omega)).trans hc1) rfl hl8 HR3.out)
    clear hown hc1
    go_wp2_with fail
    refine HST.out.mono ?_
    rintro e w4 ⟨rfl, h4, hb4⟩
    have H4 := Lib.hid h4
    have HB4 := Lib.hid hb4
    clear h4 hb4
    go_wp2_with fail
    go_ret
    have hl4 : (ruleT (ta rows) (tb rows) len).length = len := ruleT_lenN _ _ _
    have hlo : w.heap.size ≤ w1.heap.size := by have := HS1.out; omega
    have hup : w1.heap.size < w4.heap.size := Nat.lt_of_lt_of_le hlt3 HB4.out.size
    refine ⟨_, _, _, rfl, ?_, ?_, Nat.le_refl _, HW1.out.trans ((HB3.out.trans HB4.out).mono hlo)⟩
    · have := H4.out.ints hl4 (by omega) (S := fun b => w.heap.size ≤ b ∧ b < w4.heap.size) ⟨hlo, hup⟩
      unfold ruleI
      rw [HL.out]
      exact this
    · refine ⟨by omega, fun h => ⟨w1.heap.size, 0, rfl, ⟨hlo, hup⟩, fun i hi => ?_⟩⟩
      have := H4.out.at (q := i) (by rw [hl4]; exact hi)
      rw [Nat.zero_add]
      exact ⟨⟨_, this.1⟩, this.2⟩
end Go.Proofs.YtjcbpnffmebihaaGreatDoor
