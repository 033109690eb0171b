/- The law FnLeastRolls returns true at every code, and the code reads behind the call as it read before. No condition. -/
import Derived.Test.YthmifadnfaajbaaRows
import Derived.WalkKit
import Derived.LoopTactic
import Derived.Outline
import Derived.WalkSpells
import Derived.WalkLawsBesides
import Derived.ProofKit
import Derived.Deep.QuietTactic
import Derived.BigQuiet
import Derived.IntWalk
import Derived.Test.YthmifadnfaajbaaM0
import Derived.Test.YthmifadnfaajbaaM1
import Derived.Test.YthmifadnfaajbaaM20
import Derived.Test.YthmifadnfaajbaaM21
import Derived.Test.YthmifadnfaajbaaM22
namespace Go.Proofs.Ythmifadnfaajbaa
open Go.RowKit Go.WideShapes

set_option maxRecDepth 100000 in
set_option maxHeartbeats 2000000 in
theorem fnLeastRolls_any (a : Option Addr) (len cap : Nat) (w : World) (hb : BytesAt w w.heap.size a len) (hl : len ≤ cap) (hs : len ≤ 9223372036854775807) :
    Calls Try.prog 5 #[.slice a len cap] w (LawPost w) := by
  by_cases h20 : len ≤ 1048576
  · go_enter Try.func5, Try.ntmps5
    have hB0 := Below.refl w.heap.size w
    go_wp2_with fail
    refine (dDrawLeastRolls_any a len cap w hb hl hs).mono ?_
    rintro e w1 ⟨a1, l1, c1, xs, c, rfl, n_v, hc1, hl1, h10, h20', hb1⟩
    have hB1 : Below w.heap.size w w1 := hB0.trans (hb1.mono hB0.size)
    clear hB0
    have xv_1 := n_v
    clear n_v
    clear hb hb1
    go_wp2_with fail
    refine (leastRolls_impl (· < w1.heap.size) a1 l1 c1 xs c w1 xv_1).mono ?_
    rintro e w2 ⟨rfl, hb2⟩
    have xv_2 := ints_lift xv_1 hb2
    have hB2 : Below w.heap.size w w2 := hB1.trans (hb2.mono hB1.size)
    clear hB1 xv_1
    clear hb2
    obtain ⟨z, hz⟩ : ∃ z, leastRes11 xs c = z := ⟨_, rfl⟩
    rw [hz]
    have HZ := Lib.hid hz
    have hbd := leastRes11_bd xs c
    rw [hz] at hbd
    have hne : (z != z) = false := by simp
    have heq : (z == z) = true := by simp
    clear hz
    go_wp2_with fail
    refine (leastRolls_spec (· < w2.heap.size) a1 l1 c1 xs c w2 xv_2).mono ?_
    rintro e w' ⟨rfl, rfl⟩
    rw [HZ.out]
    by_cases hc0 : z < 0
    · go_wp2_with fail
      refine (leastRolls_spec (· < w2.heap.size) a1 l1 c1 xs c w2 xv_2).mono ?_
      rintro e w' ⟨rfl, rfl⟩
      rw [HZ.out]
      go_wp2_with fail
      go_ret
      exact ⟨rfl, hB2⟩
    · have HL := Lib.hid xv_2.lenEq
      have hll := least_law (xs := xs) (R := c) (by rw [HZ.out]; omega)
      rw [HZ.out, HL.out] at hll
      obtain ⟨hlong, htot, hall, hmul0, hmul1⟩ := hll
      have HLONG := Lib.hid hlong
      have HX := Lib.hid xv_2
      have HALL := Lib.hid hall
      have HT := Lib.hid (total_any _ a1 l1 c1 xs w2 xv_2 (fun x hx => by have := hall x hx; omega) (by omega))
      have hT0 := htot
      obtain ⟨T, hT⟩ : ∃ T, totalM xs = T := ⟨_, rfl⟩
      rw [hT] at htot HT
      obtain ⟨p, hp⟩ : ∃ p, z * c = p := ⟨_, rfl⟩
      have hwp : IntKind.i64.wrap (z * c) = p := by rw [hp]; exact IntWalk.i64_in _ (by omega)
      rw [hp] at htot
      clear hlong hall hT hT0 hp hmul0 hmul1 xv_2
      go_wp2_with fail
      go_loop [6, 7] (fun o i => ∃ k : Nat, k ≤ l1 ∧ i = .int .i64 k ∧ o = .int .i64 (card (fun i => decide (c < 2 * lenT xs i)) k : Nat)) (fun _ i => l1 - (intOf i).toNat)
      case atStart => exact ⟨0, Nat.zero_le _, rfl, rfl⟩
      case round =>
        obtain ⟨k, hk, rfl, rfl⟩ := hrel
        by_cases hlt : k < l1
        · have hkI : (k : Int) < (l1 : Int) := by omega
          obtain ⟨b, off, x, rfl, hxx, hcell⟩ := HX.out.get hlt
          have hxb := HALL.out x (List.mem_of_getElem? hxx)
          have HN := Lib.hid (show card (fun i => decide (c < 2 * lenT xs i)) (k + 1) = card (fun i => decide (c < 2 * lenT xs i)) k + if decide (c < 2 * x) then 1 else 0 by rw [card]; unfold lenT; rw [getD_of hxx])
          have hcb : card (fun i => decide (c < 2 * lenT xs i)) k ≤ k := card_le _ k
          generalize card (fun i => decide (c < 2 * lenT xs i)) k = o at *
          have hw2 : IntKind.i64.wrap (2 * x) = 2 * x := IntWalk.i64_in _ (by omega)
          clear hxx
          by_cases h2 : c < 2 * x
          · rw [decide_eq_true h2, if_pos rfl] at HN
            go_wp2_with fail
            go_round
            case rel => exact ⟨k + 1, by omega, by go_num, by rw [HN.out]; go_num⟩
            case measure => simp [intOf]; omega
          · rw [decide_eq_false h2, if_neg (by simp)] at HN
            go_wp2_with fail
            go_round
            case rel => exact ⟨k + 1, by omega, by go_num, by rw [HN.out]; rfl⟩
            case measure => simp [intOf]; omega
        · obtain rfl : k = l1 := by omega
          have hkI : ¬ (k : Int) < (k : Int) := by omega
          have hlg := HLONG.out
          generalize card (fun i => decide (c < 2 * lenT xs i)) k = o at *
          go_wp2_with fail
          refine HT.out.mono ?_
          rintro e w' ⟨rfl, rfl⟩
          go_wp2_with fail
          go_ret
          exact ⟨rfl, hB2⟩
  · go_enter Try.func5, Try.ntmps5
    go_wp2
    go_ret
    exact ⟨rfl, Below.refl _ _⟩
end Go.Proofs.Ythmifadnfaajbaa
