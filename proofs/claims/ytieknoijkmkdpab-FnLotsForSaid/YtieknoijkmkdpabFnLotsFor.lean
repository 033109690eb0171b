/- The law FnLotsFor returns true at every code, and the code reads behind the call as it read before. No condition. -/
import Derived.Test.YtieknoijkmkdpabRows
import Derived.WalkKit
import Derived.LoopTactic
import Derived.Outline
import Derived.WalkSpells
import Derived.WalkLawsBesides
import Derived.ProofKit
import Derived.Test.YtieknoijkmkdpabLib
import Derived.Test.YtieknoijkmkdpabRd
import Derived.Test.YtieknoijkmkdpabLaws
import Derived.Test.YtieknoijkmkdpabNetM
import Derived.Test.YtieknoijkmkdpabVal2
import Derived.Test.YtieknoijkmkdpabDrawDN
import Derived.Test.YtieknoijkmkdpabStocks
import Derived.Test.YtieknoijkmkdpabLots
import Derived.Test.YtieknoijkmkdpabEx
namespace Go.Proofs.Ytieknoijkmkdpab
open Go.RowKit Go.WideShapes

theorem lotsM_made {xs : List Int} {d : Int} (hv : validDaysM xs = true) : validMadeM (lotsM xs d) = true := by
  have hl8 := validDays_len hv
  refine validMade_mk (by rw [lotsM_length]; exact hl8) (fun k hk => ?_)
  rw [lotsM_length] at hk
  have h1 := outTo_bd (days := d) (validDays_at hv) xs.length k
  have h2 := sumN_bd (validDays_at hv) xs.length
  rw [lotsM, tab_getD _ hk]; omega
theorem lots_fine {xs : List Int} {d : Int} (hv : validDaysM xs = true) : stocksFine 0 (lotsM xs d) xs = true := by
  have hnn := fun k => (validDays_at hv k).1
  have hin : stocksIn 0 (lotsM xs d) xs = true := by rw [stocksIn, inB_true (by omega) (by omega), lotsM_made hv, hv, lotsM_length]; simp
  have hok : stocksOk (lotsM xs d) xs 0 xs.length = true := (stocksOk_iff _ _ _ _).2 (fun q hq => by
    have := lots_before (days := d) hnn (q + 1) (by omega)
    rw [stockTo_closed]; omega)
  rw [stocksFine, hin, hok]; rfl
theorem mem_bd {xs : List Int} {B : Int} (h : allIn 0 B xs = true) (hB : B ≤ 1099511627776) : ∀ x ∈ xs, -1099511627776 ≤ x ∧ x ≤ 1099511627776 := by
  intro x hx
  obtain ⟨k, hk, rfl⟩ := List.mem_iff_getElem.1 hx
  have := allIn_get h (List.getElem?_eq_getElem hk)
  omega

set_option maxRecDepth 100000 in
set_option maxHeartbeats 2000000 in
theorem fnLotsFor_any (a : Option Addr) (len cap : Nat) (w : World) (hb : BytesAt w w.heap.size a len) (hl : len ≤ cap) (hs : len ≤ 9223372036854775807) :
    Calls Try.prog 3 #[.slice a len cap] w (LawPost w) := by
  by_cases h20 : len ≤ 1048576
  · go_enter Try.func3, Try.ntmps3
    go_wp2_with fail
    refine (drawLotsFor_any a len cap w hb hl hs).mono ?_
    rintro e w1 ⟨a1, l1, c1, xs, s, rfl, hx1, hlc, hl9, hdays, hsl, hsu, hB1⟩
    clear hb
    go_wp2_with fail
    refine (lotsFor_impl a1 l1 c1 xs s w1 hx1 hlc).mono ?_
    rintro e w2 ⟨a2, l2, c2, rfl, g2, _, hb2⟩
    have hx2 := ints_lift hx1 hb2
    have hB2 : Below w.heap.size w w2 := hB1.trans (hb2.mono hB1.size)
    go_wp2_with fail
    refine (lotsFor_spec a1 l1 c1 xs s w2 hx2).mono ?_
    rintro e w3 ⟨a3, l3, c3, rfl, m3, _, hb3⟩
    have hx3 := ints_lift hx2 hb3
    have g3 := ints_lift (ints_in g2 (Nat.le_refl _)) hb3
    have hB3 : Below w.heap.size w w3 := hB2.trans (hb3.mono hB2.size)
    have heq : eqB (lotsRes xs s) (lotsRes xs s) = true := decide_eq_true rfl
    go_wp2_with fail
    refine (equalInts_any _ _ _ _ _ _ _ _ _ _ _ g3 m3).mono ?_
    rintro e w4 ⟨rfl, d4⟩
    have hx4 := ints_lift hx3 (d4.below _)
    have g4 := ints_lift g3 (d4.below _)
    have hB4 := hB3.trans (d4.below w.heap.size)
    by_cases hl0 : l2 = 0
    · subst hl0
      go_wp2_with fail
      refine (lotsFor_spec a1 l1 c1 xs s w4 hx4).mono ?_
      rintro e w5 ⟨a5, l5, c5, rfl, m5, _, hb5⟩
      have g5 := ints_lift g4 hb5
      have hB5 : Below w.heap.size w w5 := hB4.trans (hb5.mono hB4.size)
      go_wp2_with fail
      refine (equalInts_any _ _ _ _ _ _ _ _ _ _ _ g5 m5).mono ?_
      rintro e w6 ⟨rfl, d6⟩
      go_wp2_with fail
      go_ret
      exact ⟨rfl, hB5.trans (d6.below _)⟩
    · have hl0e : ((l2 : Int) == 0) = false := by simp; omega
      have hgo : (validDaysM xs && inB 1 8 s) = true := by
        cases hb : (validDaysM xs && inB 1 8 s)
        · have := g4.lenEq
          rw [lotsRes_no hb] at this
          exact absurd this.symm (by simpa using hl0)
        · rfl
      rw [lotsRes_yes hgo] at g4
      simp only [Bool.and_eq_true] at hgo
      obtain ⟨hv, hsb⟩ := hgo
      have hlen := hx4.lenEq
      obtain rfl : l2 = l1 := by rw [← g4.lenEq, lotsM_length, hlen]
      have hl8 : l2 ≤ 8 := by have := validDays_len hv; omega
      have HV := Lib.hid hv
      have HMX := Lib.hid (mem_bd (validDays_all hv) (by omega))
      have HML := Lib.hid (mem_bd (validMade_all (lotsM_made (d := s) hv)) (by omega))
      have hnn := fun k => (validDays_at hv k).1
      have hT : totalM (lotsM xs s) = totalM xs := by rw [totalM_eq, totalM_eq, lotsM_length, lots_total hnn]
      have HT := Lib.hid hT
      have HF := Lib.hid (show stocksMB 0 (lotsM xs s) xs = true from lots_fine hv)
      have H1 := Lib.hid (show lotsRes xs 1 = xs by rw [lotsRes_yes (by rw [hv]; rfl)]; exact lots_one hnn)
      clear hv hsb hnn hT hlen
      go_wp2_with fail
      refine (stocks_impl 0 a2 l2 c2 (lotsM xs s) a1 l2 c1 xs w4 g4 hx4).mono ?_
      rintro e w5 ⟨a5, l5, c5, rfl, g5, _, hb5⟩
      rw [HF.out]
      have hx5 := ints_lift hx4 hb5
      have n5 := ints_lift g4 hb5
      have hB5 : Below w.heap.size w w5 := hB4.trans (hb5.mono hB4.size)
      go_wp2_with fail
      refine (total_any _ a2 l2 c2 (lotsM xs s) w5 n5 HML.out (by omega)).mono ?_
      rintro e w6 ⟨rfl, rfl⟩
      rw [HT.out]
      go_wp2_with fail
      refine (total_any _ a1 l2 c1 xs w5 hx5 HMX.out (by omega)).mono ?_
      rintro e w6 ⟨rfl, rfl⟩
      go_wp2_with fail
      refine (lotsFor_impl a1 l2 c1 xs 1 w5 hx5 hlc).mono ?_
      rintro e w6 ⟨a6, l6, c6, rfl, g6, _, hb6⟩
      rw [H1.out] at g6
      have hx6 := ints_lift hx5 hb6
      have hB6 : Below w.heap.size w w6 := hB5.trans (hb6.mono hB5.size)
      have heq6 : eqB xs xs = true := decide_eq_true rfl
      go_wp2_with fail
      refine (equalInts_any _ _ _ _ _ _ _ _ _ _ _ g6 hx6).mono ?_
      rintro e w7 ⟨rfl, d7⟩
      go_wp2_with fail
      go_ret
      exact ⟨rfl, hB6.trans (d7.below _)⟩
  · go_enter Try.func3, Try.ntmps3
    go_wp2
    go_ret
    exact ⟨rfl, Below.refl _ _⟩
end Go.Proofs.Ytieknoijkmkdpab
