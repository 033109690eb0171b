/- The law FnLinesTurned returns true at every code, and the code reads behind the call as it read before. No condition. -/
import Derived.Test.YtobfencmfeneoacRows
import Derived.WalkKit
import Derived.LoopTactic
import Derived.Outline
import Derived.WalkSpells
import Derived.WalkLawsBesides
import Derived.ProofKit
import Derived.Deep.QuietTactic
import Derived.BigQuiet
import Derived.IntWalk
import Derived.Test.YtobfencmfeneoacLib
import Derived.Test.YtobfencmfeneoacRd
import Derived.Test.YtobfencmfeneoacEx
import Derived.Test.YtobfencmfeneoacGen
import Derived.Test.YtobfencmfeneoacArr
import Derived.Test.YtobfencmfeneoacOwn1
import Derived.Test.YtobfencmfeneoacLaws
import Derived.Test.YtobfencmfeneoacNetM
import Derived.Test.YtobfencmfeneoacLineM
import Derived.Test.YtobfencmfeneoacLineLawM
import Derived.Test.YtobfencmfeneoacTactM
import Derived.Test.YtobfencmfeneoacBitOp
import Derived.Test.YtobfencmfeneoacResC
import Derived.Test.YtobfencmfeneoacTaskSpec
import Derived.Test.YtobfencmfeneoacLoadSpec
import Derived.Test.YtobfencmfeneoacWeightSpec
import Derived.Test.YtobfencmfeneoacFewSpec
import Derived.Test.YtobfencmfeneoacTactSpec
import Derived.Test.YtobfencmfeneoacBySpec
import Derived.Test.YtobfencmfeneoacStations
import Derived.Test.YtobfencmfeneoacLineC
import Derived.Test.YtobfencmfeneoacLineL
import Derived.Test.YtobfencmfeneoacLineImpl
import Derived.Test.YtobfencmfeneoacLineEx
import Derived.Test.YtobfencmfeneoacDrawTask
import Derived.Test.YtobfencmfeneoacApp
import Derived.Test.YtobfencmfeneoacDr
import Derived.Test.YtobfencmfeneoacStations
import Derived.Test.YtobfencmfeneoacBackw
import Derived.Test.YtobfencmfeneoacLineT
namespace Go.Proofs.Ytobfencmfeneoac
open Go.RowKit Go.WideShapes

set_option maxRecDepth 100000 in
set_option maxHeartbeats 8000000 in
theorem fnLinesTurned_any (a : Option Addr) (len cap : Nat) (w : World) (hb : BytesAt w w.heap.size a len) (hl : len ≤ cap) (hs : len ≤ 9223372036854775807) :
    Calls Try.prog 5 #[.slice a len cap] w (LawPost w) := by
  by_cases h20 : len ≤ 1048576
  · go_enter Try.func5, Try.ntmps5
    have hB0 := Below.refl w.heap.size w
    go_wp2_with fail
    refine (drawFewestPlaces_any a len cap w hb hl hs).mono ?_
    rintro e w1 ⟨a1, l1, c1, T, a2, l2, c2, ys, c, rfl, n_t, hc1, hl1, n_y, hc2, hl2, hn0, hn1, hb1⟩
    have hB1 : Below w.heap.size w w1 := hB0.trans (hb1.mono hB0.size)
    clear hB0
    have xt_1 := n_t
    have xy_1 := n_y
    clear n_t
    clear n_y
    clear hb hb1
    go_wp2_with fail
    refine (fewest_impl a1 l1 c1 T a2 l2 c2 ys c w1 xt_1 xy_1 hc1 hc2 (by omega) (by omega)).mono ?_
    rintro e w2 ⟨rfl, hb2⟩
    have xt_2 := ints_lift xt_1 hb2
    have xy_2 := ints_lift xy_1 hb2
    have hB2 : Below w.heap.size w w2 := hB1.trans (hb2.mono hB1.size)
    clear hB1 xt_1 xy_1
    go_wp2_with fail
    refine (fewest_spec a1 a2 l1 c1 l2 c2 T ys c w2 xt_2 xy_2 (by omega)).mono ?_
    rintro e w3 ⟨rfl, hb3⟩
    have xt_3 := ints_lift xt_2 hb3
    have xy_3 := ints_lift xy_2 hb3
    have hB3 : Below w.heap.size w w3 := hB2.trans (hb3.mono hB2.size)
    clear hB2 xt_2 xy_2
    have heq : (fewRes T ys c != fewRes T ys c) = false := by simp
    go_wp2_with fail
    refine (fewest_impl a1 l1 c1 T a2 l2 c2 ys c w3 xt_3 xy_3 hc1 hc2 (by omega) (by omega)).mono ?_
    rintro e w4 ⟨rfl, hb4⟩
    have xt_4 := ints_lift xt_3 hb4
    have xy_4 := ints_lift xy_3 hb4
    have hB4 : Below w.heap.size w w4 := hB3.trans (hb4.mono hB3.size)
    clear hB3 xt_3 xy_3
    clear hb2 hb3 hb4
    by_cases hP : lineP T ys c
    · have hF := (few_facts hP).1
      have HFE := Lib.hid (show fewRes T ys c = fewM T (natsOf ys) c from if_pos hP)
      have HTU := Lib.hid (few_turned hP)
      have HPI := Lib.hid hP.2.1.1.2
      have hlen := xt_4.lenEq
      have HYL := Lib.hid xy_4.lenEq
      have hl6 : l1 ≤ 6 := by have := hP.2.1.2.2; omega
      obtain rfl : l2 = l1 := by rw [← xy_4.lenEq, hP.2.1.2.1]; exact hlen
      have HL := Lib.hid hlen
      rw [HFE.out] at heq ⊢
      rw [hlen] at HTU
      clear hP hlen
      generalize fewM T (natsOf ys) c = n at *
      have hnn : ¬ n < 0 := by omega
      have ho0 := World.ownsRow_made (base := w4.heap.size) (size := 1) (e := 3) w4 #[] 0 (Nat.le_refl _) (Nat.zero_le _) rfl
      have HX := Lib.hid xt_4
      have HY := Lib.hid xy_4
      have HB := Lib.hid hB4
      go_wp2_with fail
      clear heq
      go_loopw [8, 9] (fun bv iv wr => ∃ (t : Nat) (ax : Option Addr) (cp : Nat), t ≤ l2 ∧ iv = .int .i64 ((l2 : Int) - 1 - (t : Int)) ∧ bv = .slice ax t cp ∧ wr.ownsRow w4.heap.size 3 1 bv t ((tab (backAt (natsOf ys) l2) t).map (.int .i64)) ∧ Below w4.heap.size w4 wr) (fun _ iv _ => (intOf iv + 1).toNat)
      case atStart => exact ⟨0, _, _, Nat.zero_le _, by simp, rfl, ho0, (Below.refl _ _).alloc (Nat.le_refl _) _⟩
      case round =>
        clear ho0
        obtain ⟨t, ax, cp, ht, rfl, rfl, hown, hbw⟩ := hrel
        obtain ⟨wo, rfl⟩ : ∃ wo : World, wo = wr := ⟨_, rfl⟩
        have HOWN := Lib.hid hown
        have HBW := Lib.hid hbw
        have hyr := ints_lift HY.out hbw
        clear hown hbw
        by_cases htl : t < l2
        · obtain ⟨i, hi⟩ : ∃ i, l2 - 1 - t = i := ⟨_, rfl⟩
          have hie : (l2 : Int) - 1 - (t : Int) = (i : Int) := by omega
          rw [hie]
          have HIE := Lib.hid hie
          have HII := Lib.hid hi
          have hib : i < l2 := by omega
          clear hie hi
          go_wp2_with fail
          go_loopw [10, 11] (fun sv jv wr => ∃ d : Nat, d ≤ t ∧ jv = .int .i64 ((i : Int) + 1 + (d : Int)) ∧ sv = .int .i64 ((sB (natsOf ys) l2 i d : Nat) : Int) ∧ Drew wo wr) (fun _ jv _ => ((l2 : Int) - intOf jv).toNat)
          case atStart => exact ⟨0, Nat.zero_le _, by simp, rfl, Drew.refl _⟩
          case round =>
            obtain ⟨d, hd, rfl, rfl, hdd⟩ := hrel
            have HDD := Lib.hid hdd
            have hii := HII.out
            by_cases hdt : d < t
            · have hjl : i + 1 + d < l2 := by omega
              obtain ⟨b3, off3, y, rfl, hy, hcy⟩ := (Drew.ints hyr hdd).get hjl
              have hye : y = (((natsOf ys).getD (i + 1 + d) 0 : Nat) : Int) := by rw [natsOf_get HPI.out (by rw [HYL.out]; exact hjl), getD_of hy]
              subst hye
              have hab := natsOf_small HPI.out (i := i + 1 + d) (by omega)
              have HS := Lib.hid (show sB (natsOf ys) l2 i (d + 1) = sB (natsOf ys) l2 i d + (if ((natsOf ys).getD (i + 1 + d) 0).testBit i then 2 ^ (l2 - 1 - (i + 1 + d)) else 0) from rfl)
              have hsl := sB_lt (A := natsOf ys) (n := l2) (i := i) (d := d) (by omega)
              have hp6 : 2 ^ (l2 - 1 - i) ≤ 64 := Nat.pow_le_pow_right (n := 2) (j := 6) (by omega) (by omega)
              have hp62 : 2 ^ (l2 - 1 - (i + 1 + d)) ≤ 64 := Nat.pow_le_pow_right (n := 2) (j := 6) (by omega) (by omega)
              have HPW := Lib.hid (powV_eq (l2 - 1 - (i + 1 + d)) (by omega))
              clear hy
              generalize (natsOf ys).getD (i + 1 + d) 0 = am at *
              generalize sB (natsOf ys) l2 i d = sv at *
              generalize 2 ^ (l2 - 1 - (i + 1 + d)) = pw at *
              have hji : (i : Int) + 1 + (d : Int) < (l2 : Int) := by omega
              have hj0 : (0 : Int) ≤ (i : Int) + 1 + (d : Int) := by omega
              have hjn : ((i : Int) + 1 + (d : Int)).toNat = i + 1 + d := by omega
              cases hbit : am.testBit i
              · have HN := Lib.hid (show sB (natsOf ys) l2 i (d + 1) = sv by rw [HS.out, hbit]; simp)
                have HBIT := Lib.hid (show bI am i = 0 by unfold bI; rw [hbit]; rfl)
                clear hbit
                go_wp2_with fail
                refine (bitL_at am i (by omega) (by omega) _).mono ?_
                rintro e w' ⟨rfl, rfl⟩
                rw [HBIT.out]
                go_wp2_with fail
                go_roundw
                case rel => exact ⟨d + 1, by omega, by go_num, by rw [HN.out], HDD.out⟩
                case measure => simp [intOf] <;> omega
              · have HN := Lib.hid (show sB (natsOf ys) l2 i (d + 1) = sv + pw by rw [HS.out, hbit]; simp)
                have HBIT := Lib.hid (show bI am i = 1 by unfold bI; rw [hbit]; rfl)
                have hpe : (l2 : Int) - 1 - ((i : Int) + 1 + (d : Int)) = ((l2 - 1 - (i + 1 + d) : Nat) : Int) := by omega
                have HPWC := Lib.hid (powerL_all (l2 - 1 - (i + 1 + d)) (by omega) wr)
                rw [HPW.out, ← hpe] at HPWC
                clear hbit hpe
                go_wp2_with fail
                refine (bitL_at am i (by omega) (by omega) _).mono ?_
                rintro e w' ⟨rfl, rfl⟩
                rw [HBIT.out]
                go_wp2_with fail
                refine HPWC.out.mono ?_
                rintro e w' ⟨rfl, rfl⟩
                go_wp2_with fail
                go_roundw
                case rel => exact ⟨d + 1, by omega, by go_num, by rw [HN.out]; go_num, HDD.out⟩
                case measure => simp [intOf] <;> omega
            · obtain rfl : d = t := by omega
              have hjl : ¬ (i : Int) + 1 + (d : Int) < (l2 : Int) := by omega
              obtain ⟨z, rfl⟩ := hdd
              have HO2 := Lib.hid (own_drewN HOWN.out z)
              have HBD := Lib.hid (HBW.out.trans (Drew.below (w := wo) (wr := wo.drewN z) ⟨z, rfl⟩ w4.heap.size))
              have HTA := Lib.hid (show tab (backAt (natsOf ys) l2) (d + 1) = tab (backAt (natsOf ys) l2) d ++ [((sB (natsOf ys) l2 i d : Nat) : Int)] by rw [tab_succ, backAt, show l2 - 1 - d = i from HII.out])
              generalize ((sB (natsOf ys) l2 i d : Nat) : Int) = sv at *
              go_wp2_with (at_builtin; refine wpApp1 rfl _ _ rfl w4.heap.size d cp ax (tab (backAt (natsOf ys) l2) d) sv rfl HO2.out rfl HBD.out.size (by omega) ?_)
              intro a6 c6 w6 hown6 hc6 hgr6
              have HO6 := Lib.hid (own_snoc hown6)
              have HG6 := Lib.hid hgr6
              clear hown6 hgr6
              go_wp2
              go_roundw
              case rel => exact ⟨d + 1, a6, c6, by omega, by have := HII.out; congr 1; omega, rfl, by rw [HTA.out]; exact HO6.out, HBD.out.grown HG6.out HBD.out.size (own_block HO2.out)⟩
              case measure => simp [intOf] <;> omega
        · obtain rfl : t = l2 := by omega
          have hneg : ¬ (0 : Int) ≤ (t : Int) - 1 - (t : Int) := by omega
          have HBK := Lib.hid (own_low HOWN.out (by omega))
          have hxr := ints_lift HX.out HBW.out
          obtain ⟨_, _, he6, hcc6⟩ := own_slice HOWN.out
          simp only [Value.slice.injEq] at he6
          obtain ⟨rfl, _, rfl⟩ := he6
          go_wp2_with fail
          refine (backwards_any a1 t c1 T wo hxr (by omega)).mono ?_
          rintro e w8 ⟨a8, l8, c8, rfl, hl8, ho8, hb8⟩
          have hl8e : l8 = t := by have h1 := ho8.1; rw [List.length_map, revM_length, HL.out] at h1; omega
          subst hl8e
          have hc8 : l8 ≤ c8 := (own_slice ho8).elim (fun a ⟨c, e, h⟩ => by simp only [Value.slice.injEq] at e; omega)
          have hr8 := own_low ho8 hl8
          have hk8 := ints_lift HBK.out hb8
          have HB8 := Lib.hid (HBW.out.trans (hb8.mono HBW.out.size))
          clear ho8 hb8
          go_wp2_with fail
          refine (fewest_impl a8 l8 c8 (revM T) _ l8 _ (backM (natsOf ys) l8) c w8 hr8 hk8 hc8 hcc6 (by omega) (by omega)).mono ?_
          rintro e w9 ⟨rfl, hb9⟩
          rw [HTU.out]
          have hq : (n == n) = true := by simp
          have HB9 := Lib.hid (HB8.out.trans (hb9.mono HB8.out.size))
          go_wp2_with fail
          go_ret
          exact ⟨rfl, HB.out.trans (HB9.out.mono HB.out.size)⟩
    · have HFE := Lib.hid (show fewRes T ys c = -1 from if_neg hP)
      rw [HFE.out]
      clear heq
      go_wp2_with fail
      go_ret
      exact ⟨rfl, hB4⟩
  · go_enter Try.func5, Try.ntmps5
    go_wp2
    go_ret
    exact ⟨rfl, Below.refl _ _⟩
end Go.Proofs.Ytobfencmfeneoac
