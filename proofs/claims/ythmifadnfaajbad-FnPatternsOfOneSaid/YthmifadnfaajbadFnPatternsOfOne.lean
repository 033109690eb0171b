/- The law FnPatternsOfOne returns true at every code, and the code reads behind the call as it read before. No condition. -/
import Derived.Test.YthmifadnfaajbadRows
import Derived.WalkKit
import Derived.LoopTactic
import Derived.Outline
import Derived.WalkSpells
import Derived.WalkLawsBesides
import Derived.ProofKit
import Derived.Deep.QuietTactic
import Derived.BigQuiet
import Derived.IntWalk
import Derived.Test.YthmifadnfaajbadM0
import Derived.Test.YthmifadnfaajbadM1
import Derived.Test.YthmifadnfaajbadM4
import Derived.Test.YthmifadnfaajbadM15
import Derived.Test.YthmifadnfaajbadM16
import Derived.Test.YthmifadnfaajbadM17
import Derived.Test.YthmifadnfaajbadM19
import Derived.Test.YthmifadnfaajbadM8
namespace Go.Proofs.Ythmifadnfaajbad
open Go.RowKit Go.WideShapes

set_option maxRecDepth 100000 in
set_option maxHeartbeats 8000000 in
theorem fnPatternsOfOne_any (a : Option Addr) (len cap : Nat) (w : World) (hb : BytesAt w w.heap.size a len) (hl : len ≤ cap) (hs : len ≤ 9223372036854775807) :
    Calls Try.prog 3 #[.slice a len cap] w (LawPost w) := by
  by_cases h20 : len ≤ 1048576
  · go_enter Try.func3, Try.ntmps3
    have hB0 := Below.refl w.heap.size w
    go_wp2_with fail
    refine (dDrawPatternsOf_any a len cap w hb hl hs).mono ?_
    rintro e w1 ⟨a1, l1, c1, xs, c, rfl, n_v, hc1, hl1, h10, h20', hb1⟩
    have hB1 : Below w.heap.size w w1 := hB0.trans (hb1.mono hB0.size)
    clear hB0
    have xv_1 := n_v
    clear n_v
    clear hb hb1
    go_wp2_with fail
    refine (patternsOf_impl a1 l1 c1 xs c w1 xv_1 hc1).mono ?_
    rintro e w2 ⟨a3, l3, c3, rfl, n_g, hlg, hb2⟩
    have xv_2 := ints_lift xv_1 hb2
    have hB2 : Below w.heap.size w w2 := hB1.trans (hb2.mono hB1.size)
    clear hB1 xv_1
    have xg_2 := rows_in n_g (Nat.le_refl _)
    clear n_g
    go_wp2_with fail
    refine (patternsOf_spec a1 l1 c1 xs c w2 xv_2 hc1).mono ?_
    rintro e w3 ⟨a4, l4, c4, rfl, n_k, hlk, hb3⟩
    have xv_3 := ints_lift xv_2 hb3
    have xg_3 := rows_lift xg_2 hb3
    have hB3 : Below w.heap.size w w3 := hB2.trans (hb3.mono hB2.size)
    clear hB2 xv_2 xg_2
    have xk_3 := rows_in n_k (Nat.le_refl _)
    clear n_k
    clear hb2 hb3
    have heq : eqRB (patRes xs c) (patRes xs c) = true := decide_eq_true rfl
    go_wp2_with fail
    refine (equalRows_any _ _ _ _ _ _ _ _ _ _ _ xg_3 xk_3).mono ?_
    rintro e w4 ⟨rfl, dd⟩
    have xv_4 := ints_lift xv_3 (dd.below _)
    have xg_4 := rows_lift xg_3 (dd.below _)
    have xk_4 := rows_lift xk_3 (dd.below _)
    have hB4 : Below w.heap.size w w4 := hB3.trans (dd.below w.heap.size)
    clear hB3 xv_3 xg_3 xk_3
    clear dd
    clear xk_4
    clear xg_4
    go_wp2_with fail
    refine (patternsOf_impl a1 l1 c1 xs c w4 xv_4 hc1).mono ?_
    rintro e w5 ⟨a5, l5, c5, rfl, n_g, hlg2, hb4⟩
    have xv_5 := ints_lift xv_4 hb4
    have hB5 : Below w.heap.size w w5 := hB4.trans (hb4.mono hB4.size)
    clear hB4 xv_4
    have xg_5 := rows_in n_g (Nat.le_refl _)
    clear n_g
    clear hb4
    have hpl := patRes_len xs c
    have hl5 := xg_5.lenEq
    have hl59 : l5 ≤ 9261 := by omega
    by_cases h0 : l5 = 0
    · subst h0
      go_wp2_with fail
      go_ret
      exact ⟨rfl, hB5⟩
    · have h0e : ((l5 : Int) == 0) = false := by simp; omega
      have hv := pat_some (xs := xs) (c := c) (by omega)
      obtain ⟨_, hx3, _, hx1, hc11, hc20⟩ := sizes_get hv
      have hxl := xv_5.lenEq
      have hl10 : 0 < l1 := by omega
      obtain ⟨b3, off3, s0, rfl, hs0, hcs0⟩ := xv_5.get hl10
      have hs0b := hx1 s0 (List.mem_of_getElem? hs0)
      obtain ⟨hone1, hone2⟩ := pat_one hv hs0
      have hh1 : (1 : Int) ≤ (c1 : Int) := by omega
      have hh2 : (1 : Int) ≤ (l1 : Int) := by omega
      have xo_5 : IntsAt w5 (· < w5.heap.size) (some ⟨b3, off3, none⟩) 1 (xs.take 1) := by
        obtain ⟨b', off', e, hb, hc⟩ := xv_5.cells (by omega)
        injection e with e; injection e with e1 e2
        subst e1 e2
        exact ⟨by rw [List.length_take]; omega, by omega, fun _ => ⟨b3, off3, rfl, hb, fun q y hy => by
          have hq := (List.getElem?_eq_some_iff.1 hy).1
          rw [List.length_take] at hq
          rw [List.getElem?_take, if_pos (by omega)] at hy
          exact hc q y hy⟩⟩
      go_wp2_with fail
      refine (patternsOf_impl (some ⟨b3, off3, none⟩) 1 c1 (xs.take 1) c w5 xo_5 (by omega)).mono ?_
      rintro e w6 ⟨a6, l6, c6, rfl, n_o, hlo, hb5⟩
      have xv_6 := ints_lift xv_5 hb5
      have xg_6 := rows_lift xg_5 hb5
      have hB6 : Below w.heap.size w w6 := hB5.trans (hb5.mono hB5.size)
      clear hB5 xv_5 xg_5
      have xo_6 := rows_in n_o (Nat.le_refl _)
      clear n_o
      clear hb5
      rw [hone1, hone2] at xo_6
      have hl6 : l6 = 1 := by have := xo_6.lenEq; simpa using this.symm
      subst hl6
      obtain ⟨bo, offo, ro, ao, lo, co, rfl, hro, hcro, _, hoi⟩ := xo_6.get (k := 0) (by omega)
      simp only [List.getElem?_cons_zero, Option.some.injEq] at hro
      subst hro
      have hlo1 : lo = 1 := by have := hoi.lenEq; simpa using this.symm
      subst hlo1
      obtain ⟨b2, off2, q, rfl, hq, hcq⟩ := hoi.get (k := 0) (by omega)
      simp only [List.getElem?_cons_zero, Option.some.injEq] at hq
      obtain ⟨bb, boff, rl, al, ll, cl, rfl, hrl, hcrl, _, hli⟩ := xg_6.get (k := l5 - 1) (by omega)
      obtain ⟨_, hrlen, hrx, hle0, _⟩ := patRes_mem (List.mem_of_getElem? hrl)
      have hll : ll = l1 := by have := hli.lenEq; omega
      subst hll
      rw [Nat.add_zero] at hcro hcq
      have hx2 : ∀ s ∈ xs, 1 ≤ s ∧ s ≤ 20 := fun s hs => by have := hx1 s hs; omega
      have HTK := Lib.hid (fun i (hi : i < xs.length) => leftA_take (R := c) hrlen hi)
      have HEN := Lib.hid (show leftA (xs.take ll) c (rl.take ll) = leftA xs c rl by rw [List.take_of_length_le (by omega), List.take_of_length_le (by omega)])
      have HZ0 := Lib.hid (show leftA (xs.take 0) c (rl.take 0) = c by simp [leftA])
      have HRX := Lib.hid (show ∀ x ∈ rl, 0 ≤ x ∧ x ≤ 20 from fun x hx => by have := hrx x hx; omega)
      have HX1 := Lib.hid hx1
      have HLE := Lib.hid hle0
      have HXL := Lib.hid hxl
      have HV := Lib.hid xv_6
      have HLI := Lib.hid hli
      have HBB := Lib.hid hB6
      have HCRL := Lib.hid hcrl
      have HCRO := Lib.hid hcro
      have HCQ := Lib.hid hcq
      have HCS := Lib.hid hcs0
      have HL5 := Lib.hid hl5
      have hbo : bo < w6.heap.size := World.block_lt_of_cell? w6 _ hcro
      have hb2 : b2 < w6.heap.size := World.block_lt_of_cell? w6 _ hcq
      have hcs1 := (xv_6.cells (by omega))
      have hcell3 : w6.cell? ⟨b3, off3, none⟩ = some (.int .i64 s0) := by
        obtain ⟨b', off', e, _, hc⟩ := hcs1
        injection e with e; injection e with e1 e2
        subst e1 e2
        exact hc 0 s0 hs0
      have hb3 : b3 < w6.heap.size := World.block_lt_of_cell? w6 _ hcell3
      have hbb : bb < w6.heap.size := World.block_lt_of_cell? w6 _ hcrl
      have HC3 := Lib.hid hcell3
      have hqe : c / s0 = q := hq
      have htd : c.tdiv s0 = q := by rw [Int.tdiv_eq_ediv_of_nonneg (by omega)]; exact hqe
      have hqb : 0 ≤ q ∧ q ≤ 20 := by
        rw [← hqe]
        exact ⟨Int.ediv_nonneg (by omega) (by omega), Int.le_trans (Int.ediv_le_self _ (by omega)) (by omega)⟩
      generalize hlf : (fun i => leftA (xs.take i) c (rl.take i)) = lf
      have hlf' : ∀ i, leftA (xs.take i) c (rl.take i) = lf i := fun i => by rw [← hlf]
      have HT2 : Hid (∀ i, i < xs.length → lf (i + 1) = lf i - rl.getD i 0 * xs.getD i 0) := Lib.hid (fun i hi => by rw [← hlf', ← hlf']; exact HTK.out i hi)
      have HE2 : Hid (0 ≤ lf ll) := Lib.hid (by rw [← hlf', HEN.out]; exact hle0)
      have HZ2 : Hid (lf 0 = c) := Lib.hid (by rw [← hlf']; exact HZ0.out)
      obtain ⟨m5, hm5⟩ : ∃ m, l5 = m + 1 := ⟨l5 - 1, by omega⟩
      have e5 : l5 - 1 = m5 := by omega
      rw [e5] at HCRL
      have e6 : (l5 : Int) - 1 = (m5 : Int) := by omega
      have hm5I : (m5 : Int) < (l5 : Int) := by omega
      clear HTK HEN HZ0 hlf hlf' hx1 hx2 hle0 hxl hli hcrl hcro hcq hcs0 hl5 hcs1 hcell3 hoi hrl hrlen hrx hs0 hone1 hone2 hv hx3 hq xv_6 xg_6 xo_6 hB6 hpl hqe e5 hm5
      have HO0 := Lib.hid (World.ownsRow_made (base := w6.heap.size) (size := 1) (e := 3) w6 #[] 0 (Nat.le_refl _) (Nat.zero_le _) rfl)
      have HB0 := Lib.hid ((Below.refl w6.heap.size w6).alloc (Nat.le_refl _) (.cells #[] 3))
      go_wp2_with fail
      clear h0e
      go_loopw [7, 8] (fun s7 s8 wr => ∃ i : Nat, i ≤ ll ∧ s8 = .int .i64 i ∧ ∃ (m cp : Nat) (ax : Option Addr) (ys : List Int), s7 = .slice ax m cp ∧ wr.ownsRow w6.heap.size 3 1 (.slice ax m cp) m (ys.map (.int .i64)) ∧ m ≤ 7 ∧ (∀ y ∈ ys, 1 ≤ y ∧ y ≤ c) ∧ sumI ys ≤ c - lf i ∧ Below w6.heap.size w6 wr) (fun _ s8 _ => ll - (intOf s8).toNat)
      case atStart => exact ⟨0, Nat.zero_le _, rfl, 0, 0, _, [], rfl, HO0.out, by omega, fun y hy => (by cases hy), by rw [HZ2.out]; simp [sumI, wsum], HB0.out⟩
      case round =>
        clear HO0 HB0
        obtain ⟨i, hi, rfl, m, cp, ax, ys, rfl, hown, hm7, hys, hsum, hbw⟩ := hrel
        obtain ⟨wo, rfl⟩ : ∃ wo : World, wo = wr := ⟨_, rfl⟩
        by_cases hil : i < ll
        · have hiI : (i : Int) < (ll : Int) := by omega
          obtain ⟨b4, off4, s, e, hs, _⟩ := HV.out.get hil
          simp only [Option.some.injEq, Addr.mk.injEq, and_true] at e
          obtain ⟨e1, e2⟩ := e
          subst e1 e2
          obtain ⟨br, offr, x, rfl, hx, hcx⟩ := HLI.out.get hil
          have hbr : br < w6.heap.size := World.block_lt_of_cell? w6 _ hcx
          have hsb := HX1.out s (List.mem_of_getElem? hs)
          have hxb := HRX.out x (List.mem_of_getElem? hx)
          have HCX := Lib.hid hcx
          have HST := Lib.hid (show lf (i + 1) = lf i - x * s by rw [HT2.out i (by rw [HXL.out]; exact hil), getD_of hx, getD_of hs])
          have hcs : w6.cell? ⟨b3, off3 + i, none⟩ = some (.int .i64 s) := by
            obtain ⟨b', off', e, _, hc⟩ := HV.out.cells (by omega)
            simp only [Option.some.injEq, Addr.mk.injEq, and_true] at e
            obtain ⟨e1, e2⟩ := e
            subst e1 e2
            exact hc i s hs
          have HCS2 := Lib.hid hcs
          have HO := Lib.hid hown
          have HYS := Lib.hid hys
          have HSUM := Lib.hid hsum
          have HBW := Lib.hid hbw
          clear hown hys hsum hbw hs hx hcx hcs
          go_wp2_with fail
          go_loopw [7, 9] (fun s7 s9 wr => ∃ k : Nat, (k : Int) ≤ x ∧ s9 = .int .i64 k ∧ ∃ (m cp : Nat) (ax : Option Addr) (ys : List Int), s7 = .slice ax m cp ∧ wr.ownsRow w6.heap.size 3 1 (.slice ax m cp) m (ys.map (.int .i64)) ∧ m ≤ 7 ∧ (∀ y ∈ ys, 1 ≤ y ∧ y ≤ c) ∧ sumI ys ≤ c - lf i + k * s ∧ Below w6.heap.size w6 wr) (fun _ s9 _ => 30 - (intOf s9).toNat)
          case atStart => exact ⟨0, by omega, rfl, m, cp, ax, ys, rfl, HO.out, hm7, HYS.out, by have := HSUM.out; simp; omega, HBW.out⟩
          case round =>
            clear HO HYS HSUM HBW
            obtain ⟨k, hk, rfl, m, cp, ax, ys, rfl, hown, hm7, hys, hsum, hbw⟩ := hrel
            obtain ⟨wi, rfl⟩ : ∃ wi : World, wi = wr := ⟨_, rfl⟩
            have ck := (hbw.cell (p := ⟨bb, boff + m5, none⟩) hbb).trans HCRL.out
            have cx := (hbw.cell (p := ⟨br, offr + i, none⟩) hbr).trans HCX.out
            have cs := (hbw.cell (p := ⟨b3, off3 + i, none⟩) hb3).trans HCS2.out
            have HO := Lib.hid hown
            have HYS := Lib.hid hys
            have HSUM := Lib.hid hsum
            have hsz := hbw.size
            have HBW := Lib.hid hbw
            have hkx0 : (k : Int) * s ≤ x * s := Int.mul_le_mul_of_nonneg_right hk (by omega)
            have HUP := Lib.hid (show sumI ys ≤ c - lf (i + 1) by rw [HST.out]; omega)
            have HNX := Lib.hid (show sumI (ys ++ [s]) ≤ c - lf i + ((k + 1 : Nat) : Int) * s by rw [sumI_snoc]; push_cast; rw [Int.add_mul]; omega)
            clear hown hys hsum hbw hkx0
            by_cases hkx : (k : Int) < x
            · by_cases hm : m < 7
              · have hmI : (m : Int) < 7 := by omega
                go_wp2_with (at_builtin; refine wpApp1 rfl _ _ rfl w6.heap.size m cp ax ys s rfl HO.out rfl hsz (by omega) ?_)
                intro a7 c7 w7 hown7 hc7 hg7
                have HX := Lib.hid (own_snoc hown7)
                have HB7 := Lib.hid (HBW.out.grown hg7 hsz (fun q hq => (HO.out.lt q hq).1))
                clear hown7 hg7 ck cx cs
                go_wp2_with fail
                go_roundw
                case rel => exact ⟨k + 1, by omega, by go_num, _, c7, a7, ys ++ [s], (by first | rfl | exact ⟨rfl, rfl, rfl⟩), HX.out, by omega, fun y hy => by
                  rcases List.mem_append.1 hy with g | g
                  · exact HYS.out y g
                  · rw [List.mem_singleton.1 g]; omega, HNX.out, HB7.out⟩
                case measure => simp [intOf]; omega
              · have hmI : ¬ (m : Int) < 7 := by omega
                go_wp2_with fail
                clear ck cx cs
                go_roundw
                case rel => exact ⟨i + 1, by omega, by go_num, m, cp, ax, ys, (by first | rfl | exact ⟨rfl, rfl, rfl⟩), HO.out, hm7, HYS.out, HUP.out, HBW.out⟩
                case measure => simp [intOf]; omega
            · go_wp2_with fail
              clear ck cx cs
              go_roundw
              case rel => exact ⟨i + 1, by omega, by go_num, m, cp, ax, ys, (by first | rfl | exact ⟨rfl, rfl, rfl⟩), HO.out, hm7, HYS.out, HUP.out, HBW.out⟩
              case measure => simp [intOf]; omega
        · obtain rfl : i = ll := by omega
          have hiI : ¬ (i : Int) < (i : Int) := by omega
          have hyl : ys.length = m := by have := hown.1; simpa using this
          obtain ⟨hz0, hz1⟩ := few_one hc11 hc20 (by omega) hys (by have := HE2.out; omega)
          have ck := (hbw.cell (p := ⟨bo, offo, none⟩) hbo).trans HCRO.out
          have cq := (hbw.cell (p := ⟨b2, off2, none⟩) hb2).trans HCQ.out
          have c3 := (hbw.cell (p := ⟨b3, off3, none⟩) hb3).trans HC3.out
          have hsz := hbw.size
          have HFR := Lib.hid (fewestRolls_impl ax m cp ys c wo.drew (show IntsAt wo.drew (· < wo.drew.heap.size) ax m ys from own_low hown (by omega)))
          obtain ⟨z, hz⟩ : ∃ z, rollsRes ys c = z := ⟨_, rfl⟩
          rw [hz] at HFR hz0 hz1
          have HBW := Lib.hid hbw
          have h11 : ((1 : Int) == 1) = true := rfl
          have hqq : (q == q) = true := by simp
          have hwq : IntKind.i64.wrap q = q := IntWalk.i64_in _ (by omega)
          have hs00 : ¬ s0 = 0 := by omega
          have hl1I : (0 : Int) < (i : Int) := by omega
          have hbo2 : bo < wo.heap.size := by omega
          have hb22 : b2 < wo.heap.size := by omega
          have hb32 : b3 < wo.heap.size := by omega
          clear hown hys hsum hbw hyl hz
          go_wp2_with fail
          go_region_held3 (fun w' => w'.cell? ⟨bo, offo, none⟩ = some (.slice (some ⟨b2, off2, none⟩) 1 co) ∧ w'.cell? ⟨b2, off2, none⟩ = some (.int .i64 q) ∧ w'.cell? ⟨b3, off3, none⟩ = some (.int .i64 s0)) (first | go_keep | exact ⟨k1, k2, k3⟩)
            (first | (go_at_call 8; refine HFR.out.mono ?_; rintro e w3 ⟨rfl, hb3'⟩; have k1 := (hb3'.cell (p := ⟨bo, offo, none⟩) hbo2).trans ck; have k2 := (hb3'.cell (p := ⟨b2, off2, none⟩) hb22).trans cq; have k3 := (hb3'.cell (p := ⟨b3, off3, none⟩) hb32).trans c3))
          have HF := Lib.hid (HBW.out.drew.trans (hb3'.mono (by show _ ≤ wo.heap.size; exact hsz)))
          go_wp2_with fail
          go_ret
          exact ⟨rfl, HBB.out.trans (HF.out.mono (by have := HBB.out.size; omega))⟩
  · go_enter Try.func3, Try.ntmps3
    go_wp2
    go_ret
    exact ⟨rfl, Below.refl _ _⟩
end Go.Proofs.Ythmifadnfaajbad
