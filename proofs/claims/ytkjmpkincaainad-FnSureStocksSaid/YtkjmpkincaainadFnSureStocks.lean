/- The law FnSureStocks returns true at every code, and the code reads behind the call as it read before. No condition. -/
import Derived.Test.YtkjmpkincaainadRows
import Derived.WalkKit
import Derived.LoopTactic
import Derived.Outline
import Derived.WalkSpells
import Derived.WalkLawsBesides
import Derived.ProofKit
import Derived.Deep.QuietTactic
import Derived.BigQuiet
import Derived.IntWalk
import Derived.Test.YtkjmpkincaainadM0
import Derived.Test.YtkjmpkincaainadM1
import Derived.Test.YtkjmpkincaainadM2
import Derived.Test.YtkjmpkincaainadM8
import Derived.Test.YtkjmpkincaainadM10
import Derived.Test.YtkjmpkincaainadM12
namespace Go.Proofs.Ytkjmpkincaainad
open Go.RowKit Go.WideShapes

theorem sure_tab {n v : Nat} (hv : v < n) : tab (fun q => if q = v then (3 : Int) else 0) n = sureM n v := by
  apply List.ext_getElem (by rw [tab_length, sure_len])
  intro i h1 h2
  have hi : i < n := by rw [tab_length] at h1; exact h1
  have e1 := tab_getD (fun q => if q = v then (3 : Int) else 0) hi
  have e2 := sure_getD hv i
  rw [List.getD_eq_getElem?_getD, List.getElem?_eq_getElem h1] at e1
  rw [List.getD_eq_getElem?_getD, List.getElem?_eq_getElem h2] at e2
  simp only [Option.getD_some] at e1 e2
  rw [e1, e2]
set_option maxRecDepth 100000 in
set_option maxHeartbeats 2000000 in
theorem fnSureStocks_any (a : Option Addr) (len cap : Nat) (w : World) (hb : BytesAt w w.heap.size a len) (hl : len ≤ cap) (hs : len ≤ 9223372036854775807) :
    Calls Try.prog 5 #[.slice a len cap] w (LawPost w) := by
  by_cases h20 : len ≤ 1048576
  · go_enter Try.func5, Try.ntmps5
    have hB0 := Below.refl w.heap.size w
    go_wp2_with fail
    refine (dDrawStockByShare_any a len cap w hb hl hs).mono ?_
    rintro e w1 ⟨a1, l1, c1, xs, o, u, rfl, n_v, hc1, hl1, ho0, ho1, hu0, hu1, hb1⟩
    have hB1 : Below w.heap.size w w1 := hB0.trans (hb1.mono hB0.size)
    clear hB0
    have xv_1 := n_v
    clear n_v
    clear hb hb1
    go_wp2_with fail
    refine (stockByShare_impl a1 l1 c1 xs o u w1 xv_1).mono ?_
    rintro e w2 ⟨rfl, hb2⟩
    have xv_2 := ints_lift xv_1 hb2
    have hB2 : Below w.heap.size w w2 := hB1.trans (hb2.mono hB1.size)
    clear hB1 xv_1
    clear hb2
    obtain ⟨c, hc⟩ : ∃ c, shareRes xs o u = c := ⟨_, rfl⟩
    rw [hc]
    have HC := Lib.hid hc
    have hne : (c != c) = false := by simp
    clear hc
    go_wp2_with fail
    refine (stockByShare_spec (· < w2.heap.size) a1 l1 c1 xs o u w2 xv_2).mono ?_
    rintro e w' ⟨rfl, rfl⟩
    rw [HC.out]
    go_wp2_with fail
    refine (validChances_impl (· < w2.heap.size) a1 l1 c1 xs w2 xv_2).mono ?_
    rintro e w' ⟨rfl, rfl⟩
    cases hv : chM xs
    · go_wp2_with fail
      go_ret
      exact ⟨rfl, hB2⟩
    · by_cases hq4 : o < 1
      · go_wp2_with fail
        go_ret
        exact ⟨rfl, hB2⟩
      · by_cases hq3 : u < 1
        · go_wp2_with fail
          go_ret
          exact ⟨rfl, hB2⟩
        · by_cases hq2 : 30 < o
          · go_wp2_with fail
            go_ret
            exact ⟨rfl, hB2⟩
          · by_cases hq1 : 30 < u
            · go_wp2_with fail
              go_ret
              exact ⟨rfl, hB2⟩
            · have hlen : xs.length = l1 := xv_2.lenEq
              have hl7 := (chM_at hv).2.1
              rw [hlen] at hl7
              have hmk := fun w => run_make_row' (P := Try.prog) 23 3 (.int .i64 0) 8 Try.underlying23 Try.infoIntN rfl .i64 .i64 l1 (by omega) (by omega) w
              clear hlen hv xv_2
              go_wp2_with fail
              go_loopw [6] (fun i wr => ∃ k : Nat, k ≤ l1 ∧ i = .int .i64 k ∧ Below w2.heap.size w2 wr) (fun i _ => l1 - (intOf i).toNat)
              case atStart => exact ⟨0, Nat.zero_le _, rfl, Below.refl _ _⟩
              case round =>
                obtain ⟨k, hk, rfl, hb⟩ := hrel
                have HB := Lib.hid hb
                clear hb
                by_cases hlt : k < l1
                · have hkI : (k : Int) < (l1 : Int) := by omega
                  have hs0 := OwnF.start wr l1 (by omega)
                  obtain ⟨hcz, hfz⟩ := hs0.cell hlt
                  have hp := hs0.put k 3
                  have hown := own_low hp.own (by omega)
                  rw [sure_tab hlt] at hown
                  have hbp := hp.below
                  have hok := sure_ok (n := l1) (v := k) (o := o) (u := u) hlt hl7 (by omega) (by omega)
                  have hsh := sure_share (n := l1) (v := k) (o := o) (u := u) hlt hl7 (by omega) (by omega)
                  obtain ⟨w5, hw5⟩ : ∃ w5, (wr.alloc (.cells (madeCells #[.int .i64 0] l1) 3)).setCell ⟨wr.heap.size, k, none⟩ (.int .i64 3) = w5 := ⟨_, rfl⟩
                  rw [hw5] at hown hbp
                  rw [World.setCell_alloc_new] at hw5
                  have HW5 := Lib.hid hw5
                  have HB5 := Lib.hid (HB.out.trans (hbp.mono HB.out.size))
                  have C1 := Lib.hid (bestStock_impl (some ⟨wr.heap.size, 0, none⟩) l1 l1 (sureM l1 k) o u w5 hown)
                  have C2 := Lib.hid (fun w' (hb : Below w5.heap.size w5 w') => stockCost_impl (some ⟨wr.heap.size, 0, none⟩) l1 l1 (sureM l1 k) (k : Int) o u w' (ints_lift hown hb))
                  rw [shareRes_yes hok, hsh] at C1
                  rw [stockRes_yes hok (by omega), sure_cost hlt] at C2
                  have hnk : (((k : Nat) : Int) != (k : Int)) = false := by simp
                  clear hs0 hp hown hbp hok hsh hw5
                  go_wp2_with fail
                  rw [HW5.out]
                  refine C1.out.mono ?_
                  rintro e w6 ⟨rfl, hb6⟩
                  have HB6 := Lib.hid hb6
                  clear hb6
                  go_wp2_with fail
                  refine (C2.out _ HB6.out).mono ?_
                  rintro e w7 ⟨rfl, hb7⟩
                  have HB7 := Lib.hid ((HB5.out.trans (HB6.out.mono HB5.out.size)).trans (hb7.mono (Nat.le_trans HB5.out.size HB6.out.size)))
                  clear hb7
                  go_wp2_with fail
                  go_roundw
                  case rel => exact ⟨k + 1, by omega, by go_num, HB7.out⟩
                  case measure => simp [intOf]; omega
                · obtain rfl : k = l1 := by omega
                  have HBZ := Lib.hid (hB2.trans (HB.out.mono hB2.size))
                  go_wp2_with fail
                  go_ret
                  exact ⟨rfl, HBZ.out⟩
  · go_enter Try.func5, Try.ntmps5
    go_wp2
    go_ret
    exact ⟨rfl, Below.refl _ _⟩
end Go.Proofs.Ytkjmpkincaainad
