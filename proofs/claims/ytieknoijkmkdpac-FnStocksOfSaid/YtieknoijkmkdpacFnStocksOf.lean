/- The law FnStocksOf returns true at every code, and the code reads behind the call as it read before. No condition. -/
import Derived.Test.YtieknoijkmkdpacRows
import Derived.WalkKit
import Derived.LoopTactic
import Derived.Outline
import Derived.WalkSpells
import Derived.WalkLawsBesides
import Derived.ProofKit
import Derived.Deep.QuietTactic
import Derived.BigQuiet
import Derived.IntWalk
import Derived.Test.YtieknoijkmkdpacLib
import Derived.Test.YtieknoijkmkdpacRd
import Derived.Test.YtieknoijkmkdpacEx
import Derived.Test.YtieknoijkmkdpacLaws
import Derived.Test.YtieknoijkmkdpacNetM
import Derived.Test.YtieknoijkmkdpacVal2
import Derived.Test.YtieknoijkmkdpacNet
import Derived.Test.YtieknoijkmkdpacLots
import Derived.Test.YtieknoijkmkdpacStocks
import Derived.Test.YtieknoijkmkdpacDrawSt
namespace Go.Proofs.Ytieknoijkmkdpac
open Go.RowKit Go.WideShapes

theorem stocks_more {s : Int} {ms ws : List Int} (h : stocksFine s ms ws = true) (hs : s ≤ 19) : stocksFine (s + 1) ms ws = true ∧ stocksM (s + 1) ms ws = tab (fun q => stockTo ms ws s (q + 1) + 1) ws.length := by
  have h' := h
  simp only [stocksFine, stocksIn, Bool.and_eq_true, decide_eq_true_eq] at h'
  obtain ⟨⟨⟨⟨h1, h2⟩, h3⟩, h4⟩, h5⟩ := h'
  have hs0 := inB_of h1
  have e : ∀ q, stockTo ms ws (s + 1) q = stockTo ms ws s q + 1 := fun q => by rw [stockTo_closed, stockTo_closed]; omega
  have hf : stocksFine (s + 1) ms ws = true := by
    rw [stocksFine, stocksIn, inB_true (by omega) (by omega), h2, h3, decide_eq_true h4, (stocksOk_iff _ _ _ _).2 (fun q hq => by
      have := (stocksOk_iff _ _ _ _).1 h5 q hq
      rw [e]; omega)]; rfl
  exact ⟨hf, by rw [stocks_yes hf]; exact tab_congr (fun q _ => e _)⟩
theorem stocks_over {s : Int} {ms ws : List Int} (hs : ¬ s ≤ 19) : stocksFine (s + 1) ms ws = false := by
  rw [stocksFine, stocksIn, inB_hi (by omega)]; rfl
theorem stocks_last {s : Int} {ms ws : List Int} {n : Nat} (hl : ms.length = n) (hl2 : ws.length = n) (h0 : 0 < n) : stockTo ms ws s (n - 1 + 1) = s + totalM ms - totalM ws := by
  rw [show n - 1 + 1 = n by omega, stockTo_closed, totalM_eq, totalM_eq, hl, hl2]
theorem mem_bd3 {xs : List Int} {B : Int} (h : ∀ k, 0 ≤ xs.getD k 0 ∧ xs.getD k 0 ≤ B) (hB : B ≤ 1099511627776) : ∀ x ∈ xs, -1099511627776 ≤ x ∧ x ≤ 1099511627776 := by
  intro x hx
  obtain ⟨k, hk, rfl⟩ := List.mem_iff_getElem.1 hx
  have := h k
  rw [List.getD_eq_getElem?_getD, List.getElem?_eq_getElem hk] at this
  simp at this
  omega

set_option maxRecDepth 100000 in
set_option maxHeartbeats 2000000 in
theorem fnStocksOf_any (a : Option Addr) (len cap : Nat) (w : World) (hb : BytesAt w w.heap.size a len) (hl : len ≤ cap) (hs : len ≤ 9223372036854775807) :
    Calls Try.prog 3 #[.slice a len cap] w (LawPost w) := by
  by_cases h20 : len ≤ 1048576
  · go_enter Try.func3, Try.ntmps3
    have hB0 := Below.refl w.heap.size w
    go_wp2_with fail
    refine (drawStocksOf_any a len cap w hb hl hs).mono ?_
    rintro e w1 ⟨s, a1, l1, c1, ms, a2, l2, c2, ws, rfl, n_m, n_v, hs0, hs21, hl1, hl2, hb1⟩
    have hB1 : Below w.heap.size w w1 := hB0.trans (hb1.mono hB0.size)
    clear hB0
    have xm_1 := n_m
    have xv_1 := n_v
    clear n_m
    clear n_v
    clear hb
    go_wp2_with fail
    refine (stocks_impl s a1 l1 c1 ms a2 l2 c2 ws w1 xm_1 xv_1).mono ?_
    rintro e w2 ⟨a3, l3, c3, rfl, n_g, _, hb2⟩
    have xm_2 := ints_lift xm_1 hb2
    have xv_2 := ints_lift xv_1 hb2
    have hB2 : Below w.heap.size w w2 := hB1.trans (hb2.mono hB1.size)
    clear hB1 xm_1 xv_1
    have xg_2 := ints_in n_g (Nat.le_refl _)
    clear n_g
    go_wp2_with fail
    refine (stocks_spec s a1 l1 c1 ms a2 l2 c2 ws w2 xm_2 xv_2).mono ?_
    rintro e w3 ⟨a4, l4, c4, rfl, n_k, _, hb3⟩
    have xm_3 := ints_lift xm_2 hb3
    have xv_3 := ints_lift xv_2 hb3
    have xg_3 := ints_lift xg_2 hb3
    have hB3 : Below w.heap.size w w3 := hB2.trans (hb3.mono hB2.size)
    clear hB2 xm_2 xv_2 xg_2
    have xk_3 := ints_in n_k (Nat.le_refl _)
    clear n_k
    have heq : eqB (stocksM s ms ws) (stocksM s ms ws) = true := decide_eq_true rfl
    have heq2 : (stocksMB s ms ws == stocksMB s ms ws) = true := by simp
    have heq3 : (stocksMB s ms ws != stocksMB s ms ws) = false := by simp
    go_wp2_with fail
    refine (equalInts_any _ _ _ _ _ _ _ _ _ _ _ xg_3 xk_3).mono ?_
    rintro e w4 ⟨rfl, dd⟩
    have xm_4 := ints_lift xm_3 (dd.below _)
    have xv_4 := ints_lift xv_3 (dd.below _)
    have xg_4 := ints_lift xg_3 (dd.below _)
    have xk_4 := ints_lift xk_3 (dd.below _)
    have hB4 : Below w.heap.size w w4 := hB3.trans (dd.below w.heap.size)
    clear hB3 xm_3 xv_3 xg_3 xk_3
    clear dd
    cases hok : stocksMB s ms ws
    · rw [hok] at heq2 heq3
      go_wp2_with fail
      refine (equalInts_any _ _ _ _ _ _ _ _ _ _ _ xg_4 xk_4).mono ?_
      rintro e w5 ⟨rfl, dd⟩
      have xm_5 := ints_lift xm_4 (dd.below _)
      have xv_5 := ints_lift xv_4 (dd.below _)
      have xg_5 := ints_lift xg_4 (dd.below _)
      have xk_5 := ints_lift xk_4 (dd.below _)
      have hB5 : Below w.heap.size w w5 := hB4.trans (dd.below w.heap.size)
      clear hB4 xm_4 xv_4 xg_4 xk_4
      clear dd
      go_wp2_with fail
      go_ret
      exact ⟨rfl, hB5⟩
    · have hf : stocksFine s ms ws = true := hok
      have hf' := hf
      simp only [stocksFine, stocksIn, Bool.and_eq_true, decide_eq_true_eq] at hf'
      obtain ⟨⟨⟨⟨h1, hmv⟩, hwv⟩, hll⟩, _⟩ := hf'
      obtain ⟨_, hs20⟩ := inB_of h1
      have hlm := xm_4.lenEq
      have hlw := xv_4.lenEq
      have hlg := xg_4.lenEq
      rw [stocks_yes hf] at xg_4 hlg
      rw [tab_length] at hlg
      obtain rfl : l3 = l2 := by omega
      obtain rfl : l1 = l3 := by omega
      have hl8 : l1 ≤ 8 := by have := validDays_len hwv; omega
      have HF := Lib.hid hf
      have HLM := Lib.hid hlm
      have HLW := Lib.hid hlw
      have HMM := Lib.hid (mem_bd3 (validMade_at hmv) (by omega))
      have HMW := Lib.hid (mem_bd3 (validDays_at hwv) (by omega))
      have HBD := Lib.hid (stockTo_bd hs0 hs20 hmv hwv)
      have HTM := Lib.hid (sumN_bd (validMade_at hmv) ms.length)
      have HTW := Lib.hid (sumN_bd (validDays_at hwv) ws.length)
      clear hf hmv hwv hll h1 hlg hlm hlw
      clear xk_4
      by_cases hl0 : l1 = 0
      · subst hl0
        go_wp2_with fail
        go_ret
        exact ⟨rfl, hB4⟩
      · have hl0e : ((l1 : Int) == 0) = false := by simp; omega
        have hw0 : IntKind.i64.wrap (s + 1) = s + 1 := IntWalk.i64_in _ (by omega)
        by_cases hs19 : s ≤ 19
        · have hok2 : stocksMB (s + 1) ms ws = true := (stocks_more HF.out hs19).1
          have HMO := Lib.hid (stocks_more HF.out hs19).2
          go_wp2_with fail
          refine (stocks_impl (s + 1) a1 l1 c1 ms a2 l1 c2 ws w4 xm_4 xv_4).mono ?_
          rintro e w5 ⟨a5, l5, c5, rfl, n_o, _, hb5⟩
          have xm_5 := ints_lift xm_4 hb5
          have xv_5 := ints_lift xv_4 hb5
          have xg_5 := ints_lift xg_4 hb5
          have hB5 : Below w.heap.size w w5 := hB4.trans (hb5.mono hB4.size)
          clear hB4 xm_4 xv_4 xg_4
          have xo_5 := ints_in n_o (Nat.le_refl _)
          clear n_o
          clear hb5
          rw [hok2]
          rw [HMO.out] at xo_5
          obtain rfl : l5 = l1 := by rw [← xo_5.lenEq, tab_length]; exact HLW.out
          clear hok hok2 heq2 heq3 hw0
          go_wp2_with fail
          clear heq
          go_loopw [12] (fun i wr => ∃ k : Nat, k ≤ l5 ∧ i = .int .i64 k ∧ Drew w5 wr) (fun i _ => l5 - (intOf i).toNat)
          case atStart => exact ⟨0, Nat.zero_le _, rfl, Drew.refl _⟩
          case round =>
            obtain ⟨k, hk, rfl, hdw⟩ := hrel
            by_cases hlt : k < l5
            · obtain ⟨b, off, x, rfl, hx, hc⟩ := (Drew.ints xg_5 hdw).get hlt
              obtain ⟨b2, off2, y, rfl, hy, hc2⟩ := (Drew.ints xo_5 hdw).get hlt
              obtain ⟨rfl, _⟩ := tab_get hx
              obtain ⟨rfl, _⟩ := tab_get hy
              have hbd := HBD.out (k + 1)
              clear hx hy
              generalize stockTo ms ws s (k + 1) = L at hc hc2 hbd
              have hw1 : IntKind.i64.wrap (L + 1) = L + 1 := IntWalk.i64_in _ (by omega)
              have hkl : (k : Int) < (l5 : Int) := by omega
              go_wp2_with fail
              go_quiet (fail)
              go_wp2_with fail
              go_roundw
              case rel => exact ⟨k + 1, by omega, by go_num, hdw.drew _⟩
              case measure => simp [intOf]; omega
            · have hxm := Drew.ints xm_5 hdw
              have hxv := Drew.ints xv_5 hdw
              have HC2 := Lib.hid (show ∀ z, Calls Try.prog 11 #[.slice a1 l5 c1] (wr.drewN z) (fun e w' => e = .returned (.int .i64 (totalM ms)) ∧ ∃ q, w' = (wr.drewN z).drewN q) from fun z =>
                (total_any _ a1 l5 c1 ms _ (Drew.ints hxm ⟨z, rfl⟩) HMM.out (by omega)).mono (fun e w' he => ⟨he.1, 0, by rw [← he.2]; rfl⟩))
              have HC3 := Lib.hid (show ∀ z, Calls Try.prog 11 #[.slice a2 l5 c2] (wr.drewN z) (fun e w' => e = .returned (.int .i64 (totalM ws)) ∧ ∃ q, w' = (wr.drewN z).drewN q) from fun z =>
                (total_any _ a2 l5 c2 ws _ (Drew.ints hxv ⟨z, rfl⟩) HMW.out (by omega)).mono (fun e w' he => ⟨he.1, 0, by rw [← he.2]; rfl⟩))
              obtain ⟨b, off, x, rfl, hx, hc⟩ := (Drew.ints xg_5 hdw).get (k := l5 - 1) (by omega)
              obtain ⟨rfl, _⟩ := tab_get hx
              rw [stocks_last HLM.out HLW.out (by omega)] at hc
              have htm := HTM.out
              have htw := HTW.out
              rw [← totalM_eq, HLM.out] at htm
              rw [← totalM_eq, HLW.out] at htw
              clear hx hxm hxv
              generalize totalM ms = T1 at *
              generalize totalM ws = T2 at *
              have hw1 : IntKind.i64.wrap ((l5 : Int) - 1) = ((l5 - 1 : Nat) : Int) := by rw [show ((l5 : Int) - 1) = ((l5 - 1 : Nat) : Int) by omega]; exact IntWalk.i64_in _ (by omega)
              have hw2 : IntKind.i64.wrap (s + T1) = s + T1 := IntWalk.i64_in _ (by omega)
              have hw3 : IntKind.i64.wrap (s + T1 - T2) = s + T1 - T2 := IntWalk.i64_in _ (by omega)
              have hkl : (l5 - 1 : Nat) < l5 := by omega
              go_wp2_with fail
              go_quiet ((go_at_call 11; first | (with_reducible exact Calls.quiet_of (HC2.out _)) | (with_reducible exact Calls.quiet_of (HC3.out _))))
              go_wp2_with fail
              go_ret
              exact ⟨rfl, hB5.trans ((hdw.drew _).below _)⟩
        · have hok2 : stocksMB (s + 1) ms ws = false := stocks_over hs19
          go_wp2_with fail
          refine (stocks_impl (s + 1) a1 l1 c1 ms a2 l1 c2 ws w4 xm_4 xv_4).mono ?_
          rintro e w5 ⟨a5, l5, c5, rfl, n_o, _, hb5⟩
          have xm_5 := ints_lift xm_4 hb5
          have xv_5 := ints_lift xv_4 hb5
          have xg_5 := ints_lift xg_4 hb5
          have hB5 : Below w.heap.size w w5 := hB4.trans (hb5.mono hB4.size)
          clear hB4 xm_4 xv_4 xg_4
          have xo_5 := ints_in n_o (Nat.le_refl _)
          clear n_o
          clear hb5
          rw [hok2]
          clear hok hok2 heq2 heq3 hw0
          go_wp2_with fail
          clear heq
          go_loopw [12] (fun i wr => ∃ k : Nat, k ≤ l1 ∧ i = .int .i64 k ∧ Drew w5 wr) (fun i _ => l1 - (intOf i).toNat)
          case atStart => exact ⟨0, Nat.zero_le _, rfl, Drew.refl _⟩
          case round =>
            obtain ⟨k, hk, rfl, hdw⟩ := hrel
            by_cases hlt : k < l1
            · have hkl : (k : Int) < (l1 : Int) := by omega
              go_wp2_with fail
              go_quiet (fail)
              go_wp2_with fail
              go_roundw
              case rel => exact ⟨k + 1, by omega, by go_num, hdw.drew _⟩
              case measure => simp [intOf]; omega
            · have hxm := Drew.ints xm_5 hdw
              have hxv := Drew.ints xv_5 hdw
              have HC2 := Lib.hid (show ∀ z, Calls Try.prog 11 #[.slice a1 l1 c1] (wr.drewN z) (fun e w' => e = .returned (.int .i64 (totalM ms)) ∧ ∃ q, w' = (wr.drewN z).drewN q) from fun z =>
                (total_any _ a1 l1 c1 ms _ (Drew.ints hxm ⟨z, rfl⟩) HMM.out (by omega)).mono (fun e w' he => ⟨he.1, 0, by rw [← he.2]; rfl⟩))
              have HC3 := Lib.hid (show ∀ z, Calls Try.prog 11 #[.slice a2 l1 c2] (wr.drewN z) (fun e w' => e = .returned (.int .i64 (totalM ws)) ∧ ∃ q, w' = (wr.drewN z).drewN q) from fun z =>
                (total_any _ a2 l1 c2 ws _ (Drew.ints hxv ⟨z, rfl⟩) HMW.out (by omega)).mono (fun e w' he => ⟨he.1, 0, by rw [← he.2]; rfl⟩))
              obtain ⟨b, off, x, rfl, hx, hc⟩ := (Drew.ints xg_5 hdw).get (k := l1 - 1) (by omega)
              obtain ⟨rfl, _⟩ := tab_get hx
              rw [stocks_last HLM.out HLW.out (by omega)] at hc
              have htm := HTM.out
              have htw := HTW.out
              rw [← totalM_eq, HLM.out] at htm
              rw [← totalM_eq, HLW.out] at htw
              clear hx hxm hxv
              generalize totalM ms = T1 at *
              generalize totalM ws = T2 at *
              have hw1 : IntKind.i64.wrap ((l1 : Int) - 1) = ((l1 - 1 : Nat) : Int) := by rw [show ((l1 : Int) - 1) = ((l1 - 1 : Nat) : Int) by omega]; exact IntWalk.i64_in _ (by omega)
              have hw2 : IntKind.i64.wrap (s + T1) = s + T1 := IntWalk.i64_in _ (by omega)
              have hw3 : IntKind.i64.wrap (s + T1 - T2) = s + T1 - T2 := IntWalk.i64_in _ (by omega)
              have hkl : (l1 - 1 : Nat) < l1 := by omega
              go_wp2_with fail
              go_quiet ((go_at_call 11; first | (with_reducible exact Calls.quiet_of (HC2.out _)) | (with_reducible exact Calls.quiet_of (HC3.out _))))
              go_wp2_with fail
              go_ret
              exact ⟨rfl, hB5.trans ((hdw.drew _).below _)⟩
  · go_enter Try.func3, Try.ntmps3
    go_wp2
    go_ret
    exact ⟨rfl, Below.refl _ _⟩
end Go.Proofs.Ytieknoijkmkdpac
