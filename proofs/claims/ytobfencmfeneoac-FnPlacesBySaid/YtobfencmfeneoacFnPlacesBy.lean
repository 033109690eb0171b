/- The law FnPlacesBy returns true at every code, and the code reads behind the call as it read before. No condition. -/
import Derived.Test.YtobfencmfeneoacRows
import Derived.WalkKit
import Derived.LoopTactic
import Derived.Outline
import Derived.WalkSpells
import Derived.WalkLawsBesides
import Derived.ProofKit
import Derived.Deep.QuietTactic
import Derived.BigQuiet
import Derived.IntWalk
import Derived.Test.YtobfencmfeneoacLib
import Derived.Test.YtobfencmfeneoacRd
import Derived.Test.YtobfencmfeneoacEx
import Derived.Test.YtobfencmfeneoacGen
import Derived.Test.YtobfencmfeneoacArr
import Derived.Test.YtobfencmfeneoacOwn1
import Derived.Test.YtobfencmfeneoacLaws
import Derived.Test.YtobfencmfeneoacNetM
import Derived.Test.YtobfencmfeneoacLineM
import Derived.Test.YtobfencmfeneoacLineLawM
import Derived.Test.YtobfencmfeneoacTactM
import Derived.Test.YtobfencmfeneoacBitOp
import Derived.Test.YtobfencmfeneoacResC
import Derived.Test.YtobfencmfeneoacTaskSpec
import Derived.Test.YtobfencmfeneoacLoadSpec
import Derived.Test.YtobfencmfeneoacWeightSpec
import Derived.Test.YtobfencmfeneoacFewSpec
import Derived.Test.YtobfencmfeneoacTactSpec
import Derived.Test.YtobfencmfeneoacBySpec
import Derived.Test.YtobfencmfeneoacStations
import Derived.Test.YtobfencmfeneoacLineC
import Derived.Test.YtobfencmfeneoacLineL
import Derived.Test.YtobfencmfeneoacLineImpl
import Derived.Test.YtobfencmfeneoacLineEx
import Derived.Test.YtobfencmfeneoacDrawTask
namespace Go.Proofs.Ytobfencmfeneoac
open Go.RowKit Go.WideShapes

set_option maxRecDepth 100000 in
set_option maxHeartbeats 8000000 in
theorem fnPlacesBy_any (a : Option Addr) (len cap : Nat) (w : World) (hb : BytesAt w w.heap.size a len) (hl : len ≤ cap) (hs : len ≤ 9223372036854775807) :
    Calls Try.prog 3 #[.slice a len cap] w (LawPost w) := by
  by_cases h20 : len ≤ 1048576
  · go_enter Try.func3, Try.ntmps3
    have hB0 := Below.refl w.heap.size w
    go_wp2_with fail
    refine (drawPlacesBy_any a len cap w hb hl hs).mono ?_
    rintro e w1 ⟨a1, l1, c1, T, a2, l2, c2, ys, c, rfl, n_t, hc1, hl1, n_y, hc2, hl2, hn0, hn1, hb1⟩
    have hB1 : Below w.heap.size w w1 := hB0.trans (hb1.mono hB0.size)
    clear hB0
    have xt_1 := n_t
    have xy_1 := n_y
    clear n_t
    clear n_y
    clear hb hb1
    go_wp2_with fail
    refine (placesBy_impl a1 l1 c1 T a2 l2 c2 ys c w1 xt_1 xy_1 hc1 hc2 (by omega) (by omega)).mono ?_
    rintro e w2 ⟨a3, l3, c3, rfl, n_g, _, hc3, hb2⟩
    have xt_2 := ints_lift xt_1 hb2
    have xy_2 := ints_lift xy_1 hb2
    have hB2 : Below w.heap.size w w2 := hB1.trans (hb2.mono hB1.size)
    clear hB1 xt_1 xy_1
    have xg_2 := ints_in n_g (Nat.le_refl _)
    clear n_g
    go_wp2_with fail
    refine (placesBy_specV a1 l1 c1 T a2 l2 c2 ys c w2 xt_2 xy_2 (by omega) (by omega)).mono ?_
    rintro e w3 ⟨a4, l4, c4, rfl, n_k, _, hb3⟩
    have xt_3 := ints_lift xt_2 hb3
    have xy_3 := ints_lift xy_2 hb3
    have xg_3 := ints_lift xg_2 hb3
    have hB3 : Below w.heap.size w w3 := hB2.trans (hb3.mono hB2.size)
    clear hB2 xt_2 xy_2 xg_2
    have xk_3 := ints_in n_k (Nat.le_refl _)
    clear n_k
    have heq : eqB (byRes T ys c) (byRes T ys c) = true := decide_eq_true rfl
    go_wp2_with fail
    refine (equalInts_any _ _ _ _ _ _ _ _ _ _ _ xg_3 xk_3).mono ?_
    rintro e w4 ⟨rfl, dd⟩
    have xt_4 := ints_lift xt_3 (dd.below _)
    have xy_4 := ints_lift xy_3 (dd.below _)
    have xg_4 := ints_lift xg_3 (dd.below _)
    have xk_4 := ints_lift xk_3 (dd.below _)
    have hB4 : Below w.heap.size w w4 := hB3.trans (dd.below w.heap.size)
    clear hB3 xt_3 xy_3 xg_3 xk_3
    clear dd
    clear xk_4
    clear hb2 hb3
    by_cases hl0 : l3 = 0
    · subst hl0
      go_wp2_with fail
      refine (placesBy_specV a1 l1 c1 T a2 l2 c2 ys c w4 xt_4 xy_4 (by omega) (by omega)).mono ?_
      rintro e w5 ⟨a4, l4, c4, rfl, n_k, _, hb4⟩
      have xt_5 := ints_lift xt_4 hb4
      have xy_5 := ints_lift xy_4 hb4
      have xg_5 := ints_lift xg_4 hb4
      have hB5 : Below w.heap.size w w5 := hB4.trans (hb4.mono hB4.size)
      clear hB4 xt_4 xy_4 xg_4
      have xk_5 := ints_in n_k (Nat.le_refl _)
      clear n_k
      go_wp2_with fail
      refine (equalInts_any _ _ _ _ _ _ _ _ _ _ _ xg_5 xk_5).mono ?_
      rintro e w6 ⟨rfl, dd⟩
      have xt_6 := ints_lift xt_5 (dd.below _)
      have xy_6 := ints_lift xy_5 (dd.below _)
      have xg_6 := ints_lift xg_5 (dd.below _)
      have xk_6 := ints_lift xk_5 (dd.below _)
      have hB6 : Below w.heap.size w w6 := hB5.trans (dd.below w.heap.size)
      clear hB5 xt_5 xy_5 xg_5 xk_5
      clear dd
      go_wp2_with fail
      go_ret
      exact ⟨rfl, hB6⟩
    · have hl0e : ((l3 : Int) == 0) = false := by simp; omega
      have hP : lineP T ys c := by
        by_cases hp : lineP T ys c
        · exact hp
        · have := xg_4.lenEq
          rw [byRes_no hp] at this
          exact absurd this.symm (by simpa using hl0)
      have hlen := xt_4.lenEq
      obtain rfl : l3 = l1 := by rw [← xg_4.lenEq, byRes_line hP, by_line hP]; exact hlen
      obtain rfl : l2 = l3 := by rw [← xy_4.lenEq, hP.2.1.2.1]; exact hlen
      have HL := Lib.hid hlen
      have HTA := Lib.hid (tasks_at hP.2.1.1.1).1
      have HPI := Lib.hid hP.2.1.1.2
      have HYL := Lib.hid xy_4.lenEq
      have hl6 : l2 ≤ 6 := by have := hP.2.1.2.2; omega
      obtain ⟨hb0, hb1, hb2⟩ := by_loads hP
      rw [hlen] at hb0 hb1 hb2
      obtain ⟨gp, hgp1, hgp2, hgp3⟩ := by_great hP (by rw [hlen]; exact hl0)
      rw [hlen] at hgp1 hgp3
      have HG0 := Lib.hid hb0
      have HG1 := Lib.hid hb1
      have HG2 := Lib.hid hb2
      have HGP2 := Lib.hid hgp2
      have HGP3 := Lib.hid hgp3
      clear hP hlen hb0 hb1 hb2 hgp2 hgp3
      generalize byRes T ys c = G at *
      go_wp2_with fail
      clear heq
      go_loopw [7] (fun iv wr => ∃ i : Nat, i ≤ l2 ∧ iv = .int .i64 (i : Int) ∧ Drew w4 wr) (fun iv _ => l2 - (intOf iv).toNat)
      case atStart => exact ⟨0, Nat.zero_le _, rfl, Drew.refl _⟩
      case round =>
        obtain ⟨i, hi, rfl, hdw⟩ := hrel
        obtain ⟨wo, rfl⟩ : ∃ wo : World, wo = wr := ⟨_, rfl⟩
        have HDW := Lib.hid hdw
        by_cases hil : i < l2
        · have hili : (i : Int) < (l2 : Int) := by omega
          obtain ⟨gi, hgie⟩ : ∃ gi, G.getD i 0 = gi := ⟨_, rfl⟩
          have HGI := Lib.hid hgie
          have hgib := HG0.out i hil
          rw [hgie] at hgib
          have HLD := Lib.hid (HG2.out gi)
          clear hdw hgie
          go_wp2_with fail
          go_loopw [8, 9] (fun nv kv wr => ∃ k : Nat, k ≤ l2 ∧ kv = .int .i64 (k : Int) ∧ nv = .int .i64 (csum T (fun q => G.getD q 0 == gi) k) ∧ Drew wo wr) (fun _ kv _ => l2 - (intOf kv).toNat)
          case atStart => exact ⟨0, Nat.zero_le _, rfl, rfl, Drew.refl _⟩
          case round =>
            obtain ⟨k, hk, rfl, rfl, hdk⟩ := hrel
            have hdk2 : Drew w4 wr := drew_two HDW.out hdk
            have HDK := Lib.hid hdk
            by_cases hki : k < l2
            · obtain ⟨b3, off3, y, rfl, hy, hcy⟩ := (Drew.ints xy_4 hdk2).get hil
              obtain ⟨b4, off4, gi2, rfl, hgi, hcg⟩ := (Drew.ints xg_4 hdk2).get hil
              obtain ⟨b5, off5, gk, e5, hgk, hcgk⟩ := (Drew.ints xg_4 hdk2).get hki
              cases e5
              obtain ⟨b6, off6, tk, rfl, htk, hctk⟩ := (Drew.ints xt_4 hdk2).get hki
              have hye : y = (((natsOf ys).getD i 0 : Nat) : Int) := by rw [natsOf_get HPI.out (by rw [HYL.out]; exact hil), getD_of hy]
              subst hye
              have hab := natsOf_small HPI.out (i := i) (by omega)
              obtain rfl : gi2 = gi := by rw [← HGI.out, getD_of hgi]
              have hgke := getD_of hgk
              have htke := getD_of htk
              have HD := Lib.hid (HG1.out i hil k)
              rw [hgke, HGI.out] at HD
              have htb := HTA.out k
              rw [htke] at htb
              have hki2 : (k : Int) < (l2 : Int) := by omega
              have hcb := csum_range HTA.out (fun q => G.getD q 0 == gi2) k
              have HN := Lib.hid (show csum T (fun q => G.getD q 0 == gi2) (k + 1) = csum T (fun q => G.getD q 0 == gi2) k + (if (gk == gi2) = true then tk else 0) by rw [csum, hgke, htke])
              clear hgi hgk htk hy hgke htke
              generalize (natsOf ys).getD i 0 = am at *
              generalize csum T (fun q => G.getD q 0 == gi2) k = sm at *
              have HBIT := Lib.hid (fun z => bitL_at am k (by omega) (by omega) (wr.drewN z))
              have HW1 := Lib.hid (fun (n : Nat) (w' : World) (e : w' = wr.drewN n) => (⟨by rw [e]; exact hcy, by rw [e]; exact hcg, by rw [e]; exact hcgk, by rw [e]; exact hctk⟩ : w'.cell? ⟨b3, off3 + i, none⟩ = some (.int .i64 (am : Int)) ∧ w'.cell? ⟨b4, off4 + i, none⟩ = some (.int .i64 gi2) ∧ w'.cell? ⟨b4, off4 + k, none⟩ = some (.int .i64 gk) ∧ w'.cell? ⟨b6, off6 + k, none⟩ = some (.int .i64 tk)))
              cases hsame : (gk == gi2)
              · by_cases hkl : k < i
                · have hkl2 : (k : Int) < (i : Int) := by omega
                  cases hbit : am.testBit k
                  · have HN2 := Lib.hid (show csum T (fun q => G.getD q 0 == gi2) (k + 1) = sm from HN.out.trans (by rw [if_neg (by rw [hsame]; simp), Int.add_zero]))
                    have HB2 := Lib.hid (fun (q : Nat) (w' : World) (e' : w' = wr.drewN q) => (by rw [e']; exact (HBIT.out q).mono (fun e w'' (he : e = .returned (.int .i64 (bI am k)) ∧ wr.drewN q = w'') => (⟨by rw [he.1]; unfold bI; rw [hbit]; rfl, he.2.symm⟩ : e = .returned (.int .i64 0) ∧ w'' = wr.drewN q)) : Calls Try.prog 10 #[.int .i64 (am : Int), .int .i64 (k : Int)] w' (fun e w'' => e = .returned (.int .i64 0) ∧ w'' = w')))
                    go_wp2_with fail
                    go_quiet (fail)
                    clear hcy hcg hcgk hctk
                    obtain ⟨h1, h2, h3, h4⟩ := HW1.out nq _ rfl
                    have HDN := Lib.hid (drew_two HDK.out (show Drew wr (wr.drewN nq) from ⟨nq, rfl⟩))
                    obtain ⟨w5, hw5⟩ : ∃ w5, wr.drewN nq = w5 := ⟨_, rfl⟩
                    have HBC := Lib.hid (fun z => HB2.out (nq + z) (w5.drewN z) (by rw [← hw5, World.drewN_drewN]))
                    rw [hw5] at h1 h2 h3 h4 HDN ⊢
                    clear hw5
                    go_wp2_with fail
                    go_quiet ((go_at_call 10; exact Calls.quiet_of_same (HBC.out _)))
                    clear h1 h2 h3 h4
                    go_wp2_with fail
                    go_roundw
                    case rel => exact ⟨k + 1, by omega, by go_num, by rw [HN2.out], HDN.out.drew _⟩
                    case measure => simp [intOf] <;> omega
                  · have HN2 := Lib.hid (show csum T (fun q => G.getD q 0 == gi2) (k + 1) = sm from HN.out.trans (by rw [if_neg (by rw [hsame]; simp), Int.add_zero]))
                    have HB2 := Lib.hid (fun (q : Nat) (w' : World) (e' : w' = wr.drewN q) => (by rw [e']; exact (HBIT.out q).mono (fun e w'' (he : e = .returned (.int .i64 (bI am k)) ∧ wr.drewN q = w'') => (⟨by rw [he.1]; unfold bI; rw [hbit]; rfl, he.2.symm⟩ : e = .returned (.int .i64 1) ∧ w'' = wr.drewN q)) : Calls Try.prog 10 #[.int .i64 (am : Int), .int .i64 (k : Int)] w' (fun e w'' => e = .returned (.int .i64 1) ∧ w'' = w')))
                    have hle := HD.out hbit
                    have hng : decide (gi2 < gk) = false := decide_eq_false (by omega)
                    go_wp2_with fail
                    go_quiet (fail)
                    clear hcy hcg hcgk hctk
                    obtain ⟨h1, h2, h3, h4⟩ := HW1.out nq _ rfl
                    have HDN := Lib.hid (drew_two HDK.out (show Drew wr (wr.drewN nq) from ⟨nq, rfl⟩))
                    obtain ⟨w5, hw5⟩ : ∃ w5, wr.drewN nq = w5 := ⟨_, rfl⟩
                    have HBC := Lib.hid (fun z => HB2.out (nq + z) (w5.drewN z) (by rw [← hw5, World.drewN_drewN]))
                    rw [hw5] at h1 h2 h3 h4 HDN ⊢
                    clear hw5
                    go_wp2_with fail
                    go_quiet ((go_at_call 10; exact Calls.quiet_of_same (HBC.out _)))
                    clear h1 h2 h3 h4
                    go_wp2_with fail
                    go_roundw
                    case rel => exact ⟨k + 1, by omega, by go_num, by rw [HN2.out], HDN.out.drew _⟩
                    case measure => simp [intOf] <;> omega
                · have hkl2 : decide ((k : Int) < (i : Int)) = false := decide_eq_false (by omega)
                  have HN2 := Lib.hid (show csum T (fun q => G.getD q 0 == gi2) (k + 1) = sm from HN.out.trans (by rw [if_neg (by rw [hsame]; simp), Int.add_zero]))
                  go_wp2_with fail
                  go_quiet (fail)
                  clear hcy hcg hcgk hctk
                  obtain ⟨h1, h2, h3, h4⟩ := HW1.out nq _ rfl
                  have HDN := Lib.hid (drew_two HDK.out (show Drew wr (wr.drewN nq) from ⟨nq, rfl⟩))
                  obtain ⟨w5, hw5⟩ : ∃ w5, wr.drewN nq = w5 := ⟨_, rfl⟩
                  have HBC := Lib.hid (trivial)
                  rw [hw5] at h1 h2 h3 h4 HDN ⊢
                  clear hw5
                  go_wp2_with fail
                  go_quiet (fail)
                  clear h1 h2 h3 h4
                  go_wp2_with fail
                  go_roundw
                  case rel => exact ⟨k + 1, by omega, by go_num, by rw [HN2.out], HDN.out.drew _⟩
                  case measure => simp [intOf] <;> omega
              · by_cases hkl : k < i
                · have hkl2 : (k : Int) < (i : Int) := by omega
                  cases hbit : am.testBit k
                  · have HN2 := Lib.hid (show csum T (fun q => G.getD q 0 == gi2) (k + 1) = sm + tk from HN.out.trans (by rw [if_pos hsame]))
                    have HB2 := Lib.hid (fun (q : Nat) (w' : World) (e' : w' = wr.drewN q) => (by rw [e']; exact (HBIT.out q).mono (fun e w'' (he : e = .returned (.int .i64 (bI am k)) ∧ wr.drewN q = w'') => (⟨by rw [he.1]; unfold bI; rw [hbit]; rfl, he.2.symm⟩ : e = .returned (.int .i64 0) ∧ w'' = wr.drewN q)) : Calls Try.prog 10 #[.int .i64 (am : Int), .int .i64 (k : Int)] w' (fun e w'' => e = .returned (.int .i64 0) ∧ w'' = w')))
                    go_wp2_with fail
                    go_quiet (fail)
                    clear hcy hcg hcgk hctk
                    obtain ⟨h1, h2, h3, h4⟩ := HW1.out nq _ rfl
                    have HDN := Lib.hid (drew_two HDK.out (show Drew wr (wr.drewN nq) from ⟨nq, rfl⟩))
                    obtain ⟨w5, hw5⟩ : ∃ w5, wr.drewN nq = w5 := ⟨_, rfl⟩
                    have HBC := Lib.hid (fun z => HB2.out (nq + z) (w5.drewN z) (by rw [← hw5, World.drewN_drewN]))
                    rw [hw5] at h1 h2 h3 h4 HDN ⊢
                    clear hw5
                    go_wp2_with fail
                    go_quiet ((go_at_call 10; exact Calls.quiet_of_same (HBC.out _)))
                    clear h1 h2 h3 h4
                    go_wp2_with fail
                    go_roundw
                    case rel => exact ⟨k + 1, by omega, by go_num, by rw [HN2.out], HDN.out.drew _⟩
                    case measure => simp [intOf] <;> omega
                  · have HN2 := Lib.hid (show csum T (fun q => G.getD q 0 == gi2) (k + 1) = sm + tk from HN.out.trans (by rw [if_pos hsame]))
                    have HB2 := Lib.hid (fun (q : Nat) (w' : World) (e' : w' = wr.drewN q) => (by rw [e']; exact (HBIT.out q).mono (fun e w'' (he : e = .returned (.int .i64 (bI am k)) ∧ wr.drewN q = w'') => (⟨by rw [he.1]; unfold bI; rw [hbit]; rfl, he.2.symm⟩ : e = .returned (.int .i64 1) ∧ w'' = wr.drewN q)) : Calls Try.prog 10 #[.int .i64 (am : Int), .int .i64 (k : Int)] w' (fun e w'' => e = .returned (.int .i64 1) ∧ w'' = w')))
                    have hle := HD.out hbit
                    have hng : decide (gi2 < gk) = false := decide_eq_false (by omega)
                    go_wp2_with fail
                    go_quiet (fail)
                    clear hcy hcg hcgk hctk
                    obtain ⟨h1, h2, h3, h4⟩ := HW1.out nq _ rfl
                    have HDN := Lib.hid (drew_two HDK.out (show Drew wr (wr.drewN nq) from ⟨nq, rfl⟩))
                    obtain ⟨w5, hw5⟩ : ∃ w5, wr.drewN nq = w5 := ⟨_, rfl⟩
                    have HBC := Lib.hid (fun z => HB2.out (nq + z) (w5.drewN z) (by rw [← hw5, World.drewN_drewN]))
                    rw [hw5] at h1 h2 h3 h4 HDN ⊢
                    clear hw5
                    go_wp2_with fail
                    go_quiet ((go_at_call 10; exact Calls.quiet_of_same (HBC.out _)))
                    clear h1 h2 h3 h4
                    go_wp2_with fail
                    go_roundw
                    case rel => exact ⟨k + 1, by omega, by go_num, by rw [HN2.out], HDN.out.drew _⟩
                    case measure => simp [intOf] <;> omega
                · have hkl2 : decide ((k : Int) < (i : Int)) = false := decide_eq_false (by omega)
                  have HN2 := Lib.hid (show csum T (fun q => G.getD q 0 == gi2) (k + 1) = sm + tk from HN.out.trans (by rw [if_pos hsame]))
                  go_wp2_with fail
                  go_quiet (fail)
                  clear hcy hcg hcgk hctk
                  obtain ⟨h1, h2, h3, h4⟩ := HW1.out nq _ rfl
                  have HDN := Lib.hid (drew_two HDK.out (show Drew wr (wr.drewN nq) from ⟨nq, rfl⟩))
                  obtain ⟨w5, hw5⟩ : ∃ w5, wr.drewN nq = w5 := ⟨_, rfl⟩
                  have HBC := Lib.hid (trivial)
                  rw [hw5] at h1 h2 h3 h4 HDN ⊢
                  clear hw5
                  go_wp2_with fail
                  go_quiet (fail)
                  clear h1 h2 h3 h4
                  go_wp2_with fail
                  go_roundw
                  case rel => exact ⟨k + 1, by omega, by go_num, by rw [HN2.out], HDN.out.drew _⟩
                  case measure => simp [intOf] <;> omega
            · obtain rfl : k = l2 := by omega
              have hle := HLD.out
              generalize csum T (fun q => G.getD q 0 == gi) k = sm at *
              clear hdk hdk2
              go_wp2_with fail
              go_roundw
              case rel => exact ⟨i + 1, by omega, by go_num, drew_two HDW.out HDK.out⟩
              case measure => simp [intOf] <;> omega
        · have hgd := Drew.ints xg_4 hdw
          clear hdw
          go_wp2_with fail
          refine (different_any _ a3 l2 c3 G wo hgd hc3).mono ?_
          rintro e w8 ⟨rfl, hd8⟩
          rw [HGP3.out]
          have hgd2 := Drew.ints hgd hd8
          have HD8 := Lib.hid hd8
          clear hd8
          go_wp2_with fail
          refine (greatestOf_any _ a3 l2 c3 G w8 hgd2).mono ?_
          rintro e w9 ⟨rfl, rfl⟩
          rw [HGP2.out]
          have hq : (((gp + 1 : Nat) : Int) == (gp : Int) + 1) = true := by simp
          go_wp2_with fail
          go_ret
          exact ⟨rfl, hB4.trans ((HDW.out.below _).trans (HD8.out.below _))⟩
  · go_enter Try.func3, Try.ntmps3
    go_wp2
    go_ret
    exact ⟨rfl, Below.refl _ _⟩
end Go.Proofs.Ytobfencmfeneoac
