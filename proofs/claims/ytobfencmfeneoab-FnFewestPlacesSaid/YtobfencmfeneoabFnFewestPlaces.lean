/- The law FnFewestPlaces returns true at every code, and the code reads behind the call as it read before. No condition. -/
import Derived.Test.YtobfencmfeneoabRows
import Derived.WalkKit
import Derived.LoopTactic
import Derived.Outline
import Derived.WalkSpells
import Derived.WalkLawsBesides
import Derived.ProofKit
import Derived.Deep.QuietTactic
import Derived.BigQuiet
import Derived.IntWalk
import Derived.Test.YtobfencmfeneoabLib
import Derived.Test.YtobfencmfeneoabRd
import Derived.Test.YtobfencmfeneoabEx
import Derived.Test.YtobfencmfeneoabGen
import Derived.Test.YtobfencmfeneoabArr
import Derived.Test.YtobfencmfeneoabOwn1
import Derived.Test.YtobfencmfeneoabLaws
import Derived.Test.YtobfencmfeneoabNetM
import Derived.Test.YtobfencmfeneoabLineM
import Derived.Test.YtobfencmfeneoabLineLawM
import Derived.Test.YtobfencmfeneoabTactM
import Derived.Test.YtobfencmfeneoabBitOp
import Derived.Test.YtobfencmfeneoabResC
import Derived.Test.YtobfencmfeneoabTaskSpec
import Derived.Test.YtobfencmfeneoabLoadSpec
import Derived.Test.YtobfencmfeneoabWeightSpec
import Derived.Test.YtobfencmfeneoabFewSpec
import Derived.Test.YtobfencmfeneoabTactSpec
import Derived.Test.YtobfencmfeneoabBySpec
import Derived.Test.YtobfencmfeneoabStations
import Derived.Test.YtobfencmfeneoabLineC
import Derived.Test.YtobfencmfeneoabLineL
import Derived.Test.YtobfencmfeneoabLineImpl
import Derived.Test.YtobfencmfeneoabLineEx
import Derived.Test.YtobfencmfeneoabDrawTask
namespace Go.Proofs.Ytobfencmfeneoab
open Go.RowKit Go.WideShapes

set_option maxRecDepth 100000 in
set_option maxHeartbeats 2000000 in
theorem fnFewestPlaces_any (a : Option Addr) (len cap : Nat) (w : World) (hb : BytesAt w w.heap.size a len) (hl : len ≤ cap) (hs : len ≤ 9223372036854775807) :
    Calls Try.prog 3 #[.slice a len cap] w (LawPost w) := by
  by_cases h20 : len ≤ 1048576
  · go_enter Try.func3, Try.ntmps3
    have hB0 := Below.refl w.heap.size w
    go_wp2_with fail
    refine (drawFewestPlaces_any a len cap w hb hl hs).mono ?_
    rintro e w1 ⟨a1, l1, c1, T, a2, l2, c2, ys, c, rfl, n_t, hc1, hl1, n_y, hc2, hl2, hn0, hn1, hb1⟩
    have hB1 : Below w.heap.size w w1 := hB0.trans (hb1.mono hB0.size)
    clear hB0
    have xt_1 := n_t
    have xy_1 := n_y
    clear n_t
    clear n_y
    clear hb hb1
    go_wp2_with fail
    refine (fewest_impl a1 l1 c1 T a2 l2 c2 ys c w1 xt_1 xy_1 hc1 hc2 (by omega) (by omega)).mono ?_
    rintro e w2 ⟨rfl, hb2⟩
    have xt_2 := ints_lift xt_1 hb2
    have xy_2 := ints_lift xy_1 hb2
    have hB2 : Below w.heap.size w w2 := hB1.trans (hb2.mono hB1.size)
    clear hB1 xt_1 xy_1
    go_wp2_with fail
    refine (fewest_spec a1 a2 l1 c1 l2 c2 T ys c w2 xt_2 xy_2 (by omega)).mono ?_
    rintro e w3 ⟨rfl, hb3⟩
    have xt_3 := ints_lift xt_2 hb3
    have xy_3 := ints_lift xy_2 hb3
    have hB3 : Below w.heap.size w w3 := hB2.trans (hb3.mono hB2.size)
    clear hB2 xt_2 xy_2
    clear hb2 hb3
    by_cases hP : lineP T ys c
    · have hF := few_facts hP
      have hM := few_more hP
      have hmb := fewRes_bd T ys (c + 1)
      have hcb := lineP_c hP
      have HFE := Lib.hid (show fewRes T ys c = fewM T (natsOf ys) c from if_pos hP)
      have HBY := Lib.hid (byRes_line hP)
      have HBL := Lib.hid (by_line hP)
      have hTL := xt_3.lenEq
      have HFB := Lib.hid (fun h0 => few_by hP h0)
      have HGP := Lib.hid (fun h0 => by_great hP h0)
      have HFN := Lib.hid (fun h0 => few_nil (T := T) (A := natsOf ys) (c := c) h0)
      have HTL := Lib.hid hTL
      have HTA := Lib.hid (tasks_at hP.2.1.1.1).1
      rw [HFE.out]
      clear hP hTL
      generalize fewM T (natsOf ys) c = n at *
      have hnn : ¬ n < 0 := by omega
      have heq : (n != n) = false := by simp
      go_wp2_with fail
      refine (placesBy_impl a1 l1 c1 T a2 l2 c2 ys c w3 xt_3 xy_3 hc1 hc2 (by omega) (by omega)).mono ?_
      rintro e w4 ⟨a3, l3, c3, rfl, n_g, _, hc3, hb4⟩
      have xt_4 := ints_lift xt_3 hb4
      have xy_4 := ints_lift xy_3 hb4
      have hB4 : Below w.heap.size w w4 := hB3.trans (hb4.mono hB3.size)
      clear hB3 xt_3 xy_3
      have xg_4 := ints_in n_g (Nat.le_refl _)
      clear n_g
      go_wp2_with fail
      refine (fewest_impl a1 l1 c1 T a2 l2 c2 ys (c + 1) w4 xt_4 xy_4 hc1 hc2 (by omega) (by omega)).mono ?_
      rintro e w5 ⟨rfl, hb5⟩
      have xt_5 := ints_lift xt_4 hb5
      have xy_5 := ints_lift xy_4 hb5
      have xg_5 := ints_lift xg_4 hb5
      have hB5 : Below w.heap.size w w5 := hB4.trans (hb5.mono hB4.size)
      clear hB4 xt_4 xy_4 xg_4
      clear hb4 hb5
      generalize fewRes T ys (c + 1) = m at hM hmb ⊢
      have hmu := mul_box3 (a := n) (b := c) (A := 6) (B := 60) (by omega) (by omega) (by omega) (by omega)
      generalize hnc : n * c = nc at hmu hF
      have hl3 : l3 = l1 := by have := xg_5.lenEq; rw [HBY.out, HBL.out, HTL.out] at this; exact this.symm
      subst hl3
      have hge : totalM T ≤ nc := hF.2
      have htb : 0 ≤ totalM T ∧ totalM T ≤ 100000000 := by
        have hx := HTA.out
        rw [total_csum]
        have := csum_range hx (fun _ => true) T.length
        have := HTL.out
        omega
      have HMEM := Lib.hid (show ∀ x ∈ T, -1099511627776 ≤ x ∧ x ≤ 1099511627776 from fun x hx => by
        obtain ⟨k, hk, rfl⟩ := List.mem_iff_getElem.1 hx
        have := HTA.out k
        rw [List.getD_eq_getElem?_getD, List.getElem?_eq_getElem hk] at this
        simp at this; omega)
      have hwnc : n * c = nc := hnc
      by_cases h0 : l3 = 0
      · subst h0
        have hn00 := HFN.out HTL.out
        subst hn00
        by_cases hm0 : m < 0
        · clear hM hF
          go_wp2_with fail
          refine (total_any _ a1 0 c1 T w5 xt_5 HMEM.out (by omega)).mono ?_
          rintro e w' ⟨rfl, rfl⟩
          generalize totalM T = tt at *
          go_wp2_with fail
          go_ret
          exact ⟨rfl, hB5⟩
        · have hmn : m ≤ 0 := by omega
          clear hM hF
          go_wp2_with fail
          refine (total_any _ a1 0 c1 T w5 xt_5 HMEM.out (by omega)).mono ?_
          rintro e w' ⟨rfl, rfl⟩
          generalize totalM T = tt at *
          go_wp2_with fail
          go_ret
          exact ⟨rfl, hB5⟩
      · have h0e : ((l3 : Int) == 0) = false := by simp; omega
        have hgr := HFB.out (by rw [HTL.out]; exact h0)
        obtain ⟨gp, hgp1, hgp2, _⟩ := HGP.out (by rw [HTL.out]; exact h0)
        rw [HTL.out] at hgp1
        have hgp3 : 0 ≤ greatM (byRes T ys c) ∧ greatM (byRes T ys c) ≤ 10 := by omega
        clear hgp1 hgp2
        by_cases hm0 : m < 0
        · clear hM hF
          go_wp2_with fail
          refine (total_any _ a1 l3 c1 T w5 xt_5 HMEM.out (by omega)).mono ?_
          rintro e w' ⟨rfl, rfl⟩
          generalize totalM T = tt at *
          go_wp2_with fail
          refine (greatestOf_any _ a3 l3 c3 (byRes T ys c) w5 xg_5).mono ?_
          rintro e w' ⟨rfl, rfl⟩
          generalize greatM (byRes T ys c) = gg at *
          go_wp2_with fail
          go_ret
          exact ⟨rfl, hB5⟩
        · have hmn : m ≤ n := by omega
          clear hM hF
          go_wp2_with fail
          refine (total_any _ a1 l3 c1 T w5 xt_5 HMEM.out (by omega)).mono ?_
          rintro e w' ⟨rfl, rfl⟩
          generalize totalM T = tt at *
          go_wp2_with fail
          refine (greatestOf_any _ a3 l3 c3 (byRes T ys c) w5 xg_5).mono ?_
          rintro e w' ⟨rfl, rfl⟩
          generalize greatM (byRes T ys c) = gg at *
          go_wp2_with fail
          go_ret
          exact ⟨rfl, hB5⟩
    · have HFE := Lib.hid (show fewRes T ys c = -1 from if_neg hP)
      rw [HFE.out]
      go_wp2_with fail
      refine (fewest_spec a1 a2 l1 c1 l2 c2 T ys c w3 xt_3 xy_3 (by omega)).mono ?_
      rintro e w4 ⟨rfl, hb4⟩
      have xt_4 := ints_lift xt_3 hb4
      have xy_4 := ints_lift xy_3 hb4
      have hB4 : Below w.heap.size w w4 := hB3.trans (hb4.mono hB3.size)
      clear hB3 xt_3 xy_3
      rw [HFE.out]
      go_wp2_with fail
      go_ret
      exact ⟨rfl, hB4⟩
  · go_enter Try.func3, Try.ntmps3
    go_wp2
    go_ret
    exact ⟨rfl, Below.refl _ _⟩
end Go.Proofs.Ytobfencmfeneoab
