import Derived.Test.YtkebdelfklmigaeRows
import Derived.WalkKit
import Derived.LoopTactic
import Derived.Outline
import Derived.WalkSpells
import Derived.WalkLawsBesides
import Derived.ProofKit
import Derived.Lib.Hide
import Derived.IntWalk
import Derived.Deep.QuietTactic
import Derived.BigQuiet
import Derived.Test.YtkebdelfklmigaeM0
import Derived.Test.YtkebdelfklmigaeM2
import Derived.Test.YtkebdelfklmigaeM6
import Derived.Test.YtkebdelfklmigaeM1
import Derived.Test.YtkebdelfklmigaeM4
import Derived.Test.YtkebdelfklmigaeM13
import Derived.Test.YtkebdelfklmigaeM10
import Derived.Test.YtkebdelfklmigaeM9
import Derived.Laws.StructEq
import Derived.Test.YtkebdelfklmigaeM11
import Derived.Deep.Matrix
import Derived.Deep.Slices
import Derived.Lib.SmallJoins
namespace Go.Proofs.Ytkebdelfklmigae
open Go.RowKit Go.WideShapes

def RaisePost (g : Gr) (up down : Int) (a : Nat → Int) (w : World) (Bn n : Nat) (e : Ending) (w' : World) : Prop :=
  e = .returned (.bool (g.pas up down a g.m).2) ∧ NumsB w' Bn n (g.pas up down a g.m).1 ∧ w.grownBy w' (some Bn)
theorem below_of_grown {w w' : World} {B : Nat} (h : w.grownBy w' (some B)) {lo : Nat} (h1 : lo ≤ B) (h2 : lo ≤ w.heap.size) : Below lo w w' := (Below.refl lo w).grown h h2 (fun k e => by cases e; exact h1)
set_option maxRecDepth 100000 in
set_option maxHeartbeats 4000000 in
theorem raise_any (lo Bn : Nat) (d : NV) (ts : List Int) (rows : List (List Int)) (up down V : Int) (a : Nat → Int) (w : World) (h : NetAt w (· < lo) d ts rows) (hv : tokM ts rows = true) (hlo : lo ≤ Bn) (hlw : lo ≤ w.heap.size) (hu : 0 ≤ up ∧ up ≤ 40) (hd : 1 ≤ down ∧ down ≤ 40)
    (hnum : NumsB w Bn d.lT a) (hBw : Bn < w.heap.size) (ha : ∀ q, 0 ≤ a q ∧ a q ≤ V) (hV : V ≤ 1000000) :
    Calls Try.prog 37 #[.slice (some ⟨Bn, 0, none⟩) d.lT d.lT, .agg #[.slice d.aT d.lT d.cT, .slice d.aW d.lW d.cW], .int .i64 up, .int .i64 down] w (RaisePost (grOf ts rows) up down a w Bn d.lT) := by
  have HA := Lib.hid (fun w' (hb : Below lo w w') => h.below hb)
  have HWO := Lib.hid (fun w' (hb : Below lo w w') (hsz : lo ≤ w'.heap.size) => waysOf_any d ts rows w' ((h.below hb).to fun b hb' => ⟨Nat.lt_of_lt_of_le hb' hsz, rfl⟩) hv)
  obtain ⟨aT, lT, cT, aW, lW, cW⟩ := d
  have hTL : ts.length = lT := h.t.lenEq
  have hWL : rows.length = lW := h.r.lenEq
  dsimp only at HA hnum HWO ⊢
  have hok := gr_ok hv
  have HTM := Lib.hid (fun (w' : World) (hb : Below lo w w') (v : Nat) (hv : v < lT) => (show ∃ b off, aT = some ⟨b, off, none⟩ ∧ b < lo ∧ w'.cell? ⟨b, off + v, none⟩ = some (.int .i64 ((grOf ts rows).tm v)) by
    obtain ⟨b, off, x, e, hx, hc⟩ := (HA.out w' hb).t.get hv
    obtain ⟨b2, off2, e2, hb2, _⟩ := (HA.out w' hb).t.cells (by show 0 < lT; omega)
    have e3 : some (⟨b, off, none⟩ : Addr) = some ⟨b2, off2, none⟩ := e.symm.trans e2
    simp only [Option.some.injEq, Addr.mk.injEq, and_true] at e3
    exact ⟨b, off, e, by omega, by rw [hc]; show _ = some (Value.int .i64 (ts.getD v 0)); rw [getD_of hx]⟩))
  have hn : (grOf ts rows).n = lT := hTL
  have hm : (grOf ts rows).m = lW := hWL
  unfold WaysPost at HWO
  rw [hWL] at HWO
  obtain ⟨g, hg⟩ : ∃ g, grOf ts rows = g := ⟨_, rfl⟩
  rw [hg] at hok HTM hn hm HWO ⊢
  have h4 := hok.n4
  have h7 := hok.m7
  rw [hn] at h4
  rw [hm] at h7
  unfold RaisePost
  rw [hm]
  have HOK := Lib.hid hok
  have HM := Lib.hid hm
  have HTI := Lib.hid hok.times
  have HWY := Lib.hid (fun k (hk : k < lW) => (show g.f k < lT ∧ g.t k < lT ∧ g.c k ≤ 3 by have := hok.ways k (by rw [hm]; exact hk); rw [hn] at this; exact this))
  have HAB := Lib.hid ha
  clear h hv hTL hWL hg hok hn hm ha
  have hb1 := (Below.refl w.heap.size w).alloc (Nat.le_refl _) (.cells #[.slice aT lT cT, .slice aW lW cW] 26)
  have hn1 := netB_new w aT lT cT aW lW cW 26
  have hz1 : (w.alloc (.cells #[.slice aT lT cT, .slice aW lW cW] 26)).heap.size = w.heap.size + 1 := by simp
  obtain ⟨w1, hw1⟩ : ∃ w1, (w.alloc (.cells #[.slice aT lT cT, .slice aW lW cW] 26)) = w1 := ⟨_, rfl⟩
  rw [hw1] at hb1 hn1 hz1
  have HW1 := Lib.hid hw1
  have HB1 := Lib.hid hb1
  have HN1 := Lib.hid hn1
  have HZ1 := Lib.hid hz1
  clear hw1 hb1 hn1 hz1
  go_enter Try.func37, Try.ntmps37
  obtain ⟨n0, n1⟩ := HN1.out
  dsimp only at n0 n1
  go_wp2_with fail
  rw [HW1.out]
  refine (HWO.out w1 (HB1.out.mono hlw) (by have := HZ1.out; omega)).mono ?_
  rintro e w2 ⟨hb2, B, rfl, hBB, hB2, hJ⟩
  have hz1 := HZ1.out
  have hz2 := hb2.size
  have hw2 : w.heap.size < w2.heap.size := by omega
  have HG2 := Lib.hid (show w.grownBy w2 (some Bn) from ⟨(HB1.out.trans (hb2.mono (by omega))).os, (HB1.out.trans (hb2.mono (by omega))).tape, (HB1.out.trans (hb2.mono (by omega))).output, by omega, fun b hb _ => (HB1.out.trans (hb2.mono (by omega))).block b hb⟩)
  have HN2 := Lib.hid (HN1.out.below hb2 (by omega))
  have HNUM2 := Lib.hid (hnum.block (w' := w2) ((HB1.out.trans (hb2.mono (by omega))).block Bn hBw))
  have HJ := Lib.hid hJ
  have hBg : w.heap.size < B := by omega
  clear n0 n1 hb2 hJ hnum hz1 hz2
  obtain ⟨n0, n1⟩ := HN2.out
  dsimp only at n0 n1
  go_wp2_with fail
  go_loopw [9, 16] (fun cv kv wr => ∃ (k : Nat), kv = .int .i64 k ∧ cv = .bool (g.pas up down a k).2 ∧ k ≤ lW ∧ NumsB wr Bn lT (g.pas up down a k).1 ∧ w2.grownBy wr (some Bn)) (fun _ kv _ => lW - (intOf kv).toNat)
  case atStart => exact ⟨0, rfl, rfl, Nat.zero_le _, HNUM2.out, grown_refl _ _⟩
  case round =>
    clear n0 n1 HNUM2
    obtain ⟨k, rfl, rfl, hk, hnum, hgr⟩ := hrel
    obtain ⟨wi, rfl⟩ : ∃ wi : World, wi = wr := ⟨_, rfl⟩
    have hsz := hgr.size
    have HNUM := Lib.hid hnum
    have HGR := Lib.hid hgr
    by_cases hkl : k < lW
    · have hkI : (k : Int) < (lW : Int) := by omega
      obtain ⟨n0, n1⟩ := HN2.out.block (hgr.block _ hw2 (by simp; omega))
      dsimp only at n0 n1
      obtain ⟨g0, g1, g2⟩ := (HJ.out.block (w' := wi) (hgr.block B hB2 (by simp; omega))).at hkl
      have hbl : Below lo w wi := below_of_grown (grown_comp HG2.out hgr) hlo hlw
      clear hnum hgr
      obtain ⟨hf, ht, hc⟩ := HWY.out k hkl
      obtain ⟨bt, ot, rfl, hbt, dt⟩ := HTM.out wi hbl (g.f k) hf
      have hbd := pas_bd HOK.out hu hd HAB.out k (by rw [HM.out]; omega)
      have hbf := hbd (g.f k)
      have hbt2 := hbd (g.t k)
      obtain ⟨cf, _⟩ := HNUM.out (g.f k) hf
      obtain ⟨ct, ft⟩ := HNUM.out (g.t k) ht
      have hti := HTI.out (g.f k)
      have hmul1 : 0 ≤ down * g.tm (g.f k) ∧ down * g.tm (g.f k) ≤ 40 * 9 := ⟨Int.mul_nonneg (by omega) hti.1, Int.mul_le_mul hd.2 hti.2 hti.1 (by omega)⟩
      have hmul2 : 0 ≤ up * ((g.c k : Nat) : Int) ∧ up * ((g.c k : Nat) : Int) ≤ 40 * 3 := ⟨Int.mul_nonneg hu.1 (by omega), Int.mul_le_mul hu.2 (by omega) (by omega) (by omega)⟩
      have hwe : g.w up down k = down * g.tm (g.f k) - up * ((g.c k : Nat) : Int) := rfl
      have HST1 := Lib.hid (pas_step1 (g := g) (up := up) (down := down) a k)
      have HST0 := Lib.hid (pas_step0 (g := g) (up := up) (down := down) a k)
      rw [hwe] at HST1 HST0
      obtain ⟨s, hs⟩ : ∃ s, g.pas up down a k = s := ⟨_, rfl⟩
      rw [hs] at HST1 HST0 HNUM hbf hbt2 cf ct ⊢
      clear hs hbd hwe
      have hfI : (((g.f k : Nat) : Int)) < (lT : Int) := by omega
      have htI : (((g.t k : Nat) : Int)) < (lT : Int) := by omega
      obtain ⟨P1, hP1⟩ : ∃ P1, down * g.tm (g.f k) = P1 := ⟨_, rfl⟩
      obtain ⟨P2, hP2⟩ : ∃ P2, up * ((g.c k : Nat) : Int) = P2 := ⟨_, rfl⟩
      rw [hP1] at hmul1 HST1 HST0
      rw [hP2] at hmul2 HST1 HST0
      have h7b : (k : Int) ≤ 7 := by omega
      have hBn : Bn < wi.heap.size := by omega
      have hwn : w.heap.size < wi.heap.size := by omega
      have hbti : bt < wi.heap.size := by omega
      have HTO := Lib.hid (show ∀ o : Obj, NumsB (wi.alloc o) Bn lT s.1 ∧ w2.grownBy (wi.alloc o) (some Bn) from fun o => ⟨HNUM.out.block (Below.heap_alloc _ _ _ hBn), grown_alloc HGR.out o⟩)
      have e1 : ∀ o : Obj, (wi.alloc o).cell? ⟨Bn, g.f k, none⟩ = some (.int .i64 (s.1 (g.f k))) := fun o => ((HTO.out o).1 _ hf).1
      have e2 : ∀ o : Obj, (wi.alloc o).cell? ⟨Bn, g.t k, none⟩ = some (.int .i64 (s.1 (g.t k))) := fun o => ((HTO.out o).1 _ ht).1
      have e3 : ∀ o : Obj, (wi.alloc o).frozen? ⟨Bn, g.t k, none⟩ = false := fun o => ((HTO.out o).1 _ ht).2
      by_cases hlt : s.1 (g.t k) < s.1 (g.f k) + (P1 - P2)
      · have HS := Lib.hid (HST1.out hlt)
        have hltI : s.1 (g.t k) < s.1 (g.f k) + P1 - P2 := by omega
        have hva : s.1 (g.f k) + (P1 - P2) = s.1 (g.f k) + P1 - P2 := by omega
        rw [hva] at HS
        clear hlt HST1 HST0 hva
        go_wp2_with fail
        go_quiet (fail)
        go_wp2_with fail
        go_roundw
        case rel => exact ⟨k + 1, by go_num, by rw [HS.out], by omega, by rw [HS.out]; exact ((HTO.out _).1.block (w' := (wi.alloc _).drewN _) rfl).put ht _, grown_comp (grown_comp (HTO.out _).2 (grownBy_drewN _ _ _)) (grownBy_setCell _ ⟨Bn, g.t k, none⟩ _)⟩
        case measure => simp [intOf]; omega
      · have HS := Lib.hid (HST0.out hlt)
        have hltI : ¬ s.1 (g.t k) < s.1 (g.f k) + P1 - P2 := by omega
        clear hlt HST1 HST0
        go_wp2_with fail
        go_quiet (fail)
        go_wp2_with fail
        go_roundw
        case rel => exact ⟨k + 1, by go_num, by rw [HS.out], by omega, by rw [HS.out]; exact (HTO.out _).1.block rfl, grown_comp (HTO.out _).2 (grownBy_drewN _ _ _)⟩
        case measure => simp [intOf]; omega
    · obtain rfl : k = lW := by omega
      have hkI : ¬ (k : Int) < (k : Int) := by omega
      clear hnum hgr
      go_wp2_with fail
      go_ret
      exact ⟨rfl, HNUM.out, grown_comp HG2.out HGR.out⟩
theorem from1_8 (n hi : Int) (w : World) {b : Bool} (hb : inB 1 hi n = b) :
    Calls Try.prog 36 #[.int .i64 n, .int .i64 hi] w fun e w' => e = .returned (.bool b) ∧ w' = w := by
  subst hb
  by_cases h1 : 1 ≤ n
  · by_cases h2 : n ≤ hi
    · go_enter Try.func36, Try.ntmps36
      go_wp2
      go_ret
      exact ⟨ret_bool (inB_true h1 h2).symm, rfl⟩
    · go_enter Try.func36, Try.ntmps36
      go_wp2
      go_ret
      exact ⟨ret_bool (inB_hi (by omega)).symm, rfl⟩
  · go_enter Try.func36, Try.ntmps36
    go_wp2
    go_ret
    exact ⟨ret_bool (inB_lo (by omega)).symm, rfl⟩
set_option maxRecDepth 100000 in
set_option maxHeartbeats 4000000 in
theorem keepsPace_impl (d : NV) (ts : List Int) (rows : List (List Int)) (up down : Int) (w : World) (h : NetAt w (· < w.heap.size) d ts rows) :
    Calls Try.prog 10 #[.agg #[.slice d.aT d.lT d.cT, .slice d.aW d.lW d.cW], .int .i64 up, .int .i64 down] w (valN w (.bool (keepRes ts rows up down))) := by
  have HV := Lib.hid (fun w' (hb : Below w.heap.size w w') => validNet_impl d ts rows w' (net_lift h hb))
  have HR := Lib.hid (fun w' (hb : Below w.heap.size w w') => raise_any w.heap.size (d := d) (ts := ts) (rows := rows) (w := w') (h := h.below hb))
  obtain ⟨aT, lT, cT, aW, lW, cW⟩ := d
  have hTL : ts.length = lT := h.t.lenEq
  have hWL : rows.length = lW := h.r.lenEq
  clear h
  have hb0 := (Below.refl w.heap.size w).alloc (Nat.le_refl _) (.cells #[.slice aT lT cT, .slice aW lW cW] 26)
  have hn0 := netB_new w aT lT cT aW lW cW 26
  have hz0 : w.heap.size < (w.alloc (.cells #[.slice aT lT cT, .slice aW lW cW] 26)).heap.size := by simp
  obtain ⟨w1, hw1⟩ : ∃ w1, (w.alloc (.cells #[.slice aT lT cT, .slice aW lW cW] 26)) = w1 := ⟨_, rfl⟩
  rw [hw1] at hb0 hn0 hz0
  have HW1 := Lib.hid hw1
  have HB0 := Lib.hid hb0
  have HN0 := Lib.hid hn0
  clear hb0 hn0 hw1
  dsimp only at HV HR
  cases hv : tokM ts rows
  · rw [hv] at HV
    have HF : Hid (keepRes ts rows up down = false) := Lib.hid (by unfold keepRes; rw [hv]; rfl)
    clear hv hTL hWL HR
    go_enter Try.func10, Try.ntmps10
    obtain ⟨n0, n1⟩ := HN0.out
    dsimp only at n0 n1
    go_wp2_with fail
    rw [HW1.out]
    refine (HV.out _ HB0.out).mono ?_
    rintro e w2 ⟨rfl, hb2⟩
    go_wp2_with fail
    go_ret
    exact ⟨ret_bool HF.out.symm, HB0.out.trans (hb2.mono HB0.out.size)⟩
  · rw [hv] at HV
    cases h1 : inB 0 40 up
    · have HF : Hid (keepRes ts rows up down = false) := Lib.hid (by unfold keepRes; rw [hv, h1]; rfl)
      have C1 := Lib.hid (fun w => isUp8 up 40 w h1)
      clear hv h1 hTL hWL HR
      go_enter Try.func10, Try.ntmps10
      obtain ⟨n0, n1⟩ := HN0.out
      dsimp only at n0 n1
      go_wp2_with fail
      rw [HW1.out]
      refine (HV.out _ HB0.out).mono ?_
      rintro e w2 ⟨rfl, hb2⟩
      go_wp2_with fail
      refine (C1.out w2).mono ?_
      rintro e w' ⟨rfl, rfl⟩
      go_wp2_with fail
      go_ret
      exact ⟨ret_bool HF.out.symm, HB0.out.trans (hb2.mono HB0.out.size)⟩
    · cases h2 : inB 1 40 down
      · have HF : Hid (keepRes ts rows up down = false) := Lib.hid (by unfold keepRes; rw [hv, h1, h2]; rfl)
        have C1 := Lib.hid (fun w => isUp8 up 40 w h1)
        have C2 := Lib.hid (fun w => from1_8 down 40 w h2)
        clear hv h1 h2 hTL hWL HR
        go_enter Try.func10, Try.ntmps10
        obtain ⟨n0, n1⟩ := HN0.out
        dsimp only at n0 n1
        go_wp2_with fail
        rw [HW1.out]
        refine (HV.out _ HB0.out).mono ?_
        rintro e w2 ⟨rfl, hb2⟩
        go_wp2_with fail
        refine (C1.out w2).mono ?_
        rintro e w' ⟨rfl, rfl⟩
        go_wp2_with fail
        refine (C2.out w').mono ?_
        rintro e w' ⟨rfl, rfl⟩
        go_wp2_with fail
        go_ret
        exact ⟨ret_bool HF.out.symm, HB0.out.trans (hb2.mono HB0.out.size)⟩
      · have HF : Hid (keepRes ts rows up down = (grOf ts rows).keepB up down) := Lib.hid (by unfold keepRes; rw [hv, h1, h2]; rfl)
        have C1 := Lib.hid (fun w => isUp8 up 40 w h1)
        have C2 := Lib.hid (fun w => from1_8 down 40 w h2)
        have hu : 0 ≤ up ∧ up ≤ 40 := by simpa [inB] using h1
        have hd : 1 ≤ down ∧ down ≤ 40 := by simpa [inB] using h2
        have hok := gr_ok hv
        have hn : (grOf ts rows).n = lT := hTL
        have hm : (grOf ts rows).m = lW := hWL
        have HR2 := Lib.hid (fun w' hb Bn V a (hlo : w.heap.size ≤ Bn) hlw => HR.out w' hb Bn up down V a hv hlo hlw hu hd)
        unfold RaisePost at HR2
        rw [hm] at HR2
        obtain ⟨g, hg⟩ : ∃ g, grOf ts rows = g := ⟨_, rfl⟩
        rw [hg] at hok HF hn hm HR2
        have h4 := hok.n4
        have h7 := hok.m7
        rw [hn] at h4
        rw [hm] at h7
        have HOK := Lib.hid hok
        have HN := Lib.hid hn
        have HM := Lib.hid hm
        have hmk := fun w => run_make_row' (P := Try.prog) 23 3 (.int .i64 0) 8 Try.underlying23 Try.infoInt8 rfl .i64 .i64 lT (by omega) (by omega) w
        clear hv h1 h2 hTL hWL hg hok hn hm HR
        go_enter Try.func10, Try.ntmps10
        obtain ⟨n0, n1⟩ := HN0.out
        dsimp only at n0 n1
        go_wp2_with fail
        rw [HW1.out]
        refine (HV.out _ HB0.out).mono ?_
        rintro e w2 ⟨rfl, hb2⟩
        have HB2 := Lib.hid (HB0.out.trans (hb2.mono HB0.out.size))
        have HN2 := Lib.hid (HN0.out.below hb2 hz0)
        have hz2 := Nat.lt_of_lt_of_le hz0 hb2.size
        clear n0 n1 hb2
        obtain ⟨n0, n1⟩ := HN2.out
        dsimp only at n0 n1
        go_wp2_with fail
        refine (C1.out w2).mono ?_
        rintro e w' ⟨rfl, rfl⟩
        go_wp2_with fail
        refine (C2.out w').mono ?_
        rintro e w' ⟨rfl, rfl⟩
        go_wp2_with fail
        clear hmk
        have hnum := numsB_new w' lT
        have hb3 := HB2.out.alloc (by omega) (.cells (madeCells #[.int .i64 0] lT) 3)
        have hn3 : NetB (w'.alloc (.cells (madeCells #[.int .i64 0] lT) 3)) w.heap.size ⟨aT, lT, cT, aW, lW, cW⟩ := HN2.out.block (Below.heap_alloc _ _ _ hz2)
        have hzz : w'.heap.size < (w'.alloc (.cells (madeCells #[.int .i64 0] lT) 3)).heap.size := by simp
        clear n0 n1
        go_loopw [29] (fun iv wr => ∃ (i : Nat) (a : Nat → Int), iv = .int .i64 i ∧ i ≤ lT + 1 ∧ g.bf up down (lT + 1 - i) a = g.keepB up down ∧ (∀ q, 0 ≤ a q ∧ a q ≤ 2520 * (i : Int)) ∧ NumsB wr w'.heap.size lT a ∧ w'.heap.size < wr.heap.size ∧ Below w.heap.size w wr ∧ NetB wr w.heap.size ⟨aT, lT, cT, aW, lW, cW⟩) (fun iv _ => lT + 1 - (intOf iv).toNat)
        case atStart => exact ⟨0, fun _ => 0, rfl, Nat.zero_le _, by unfold Gr.keepB; rw [HN.out]; rfl, (fun q => ⟨Int.le_refl _, Int.le_refl _⟩), hnum, hzz, hb3, hn3⟩
        case round =>
          clear hnum hb3 hn3 hzz
          obtain ⟨i, a, rfl, hi, hbf, hab, hnum, hzz, hb, hnb⟩ := hrel
          obtain ⟨wo, rfl⟩ : ∃ wo : World, wo = wr := ⟨_, rfl⟩
          obtain ⟨n0, n1⟩ := id hnb
          dsimp only at n0 n1
          have HBF := Lib.hid hbf
          have HAB := Lib.hid hab
          have HB := Lib.hid hb
          have HNB := Lib.hid hnb
          by_cases hil : i < lT + 1
          · have hiI : (i : Int) < (lT : Int) + 1 := by omega
            have HRC := Lib.hid (HR2.out wo hb w'.heap.size (2520 * (i : Int)) a (by omega) (by omega) hnum hzz hab (by omega))
            have HPB := Lib.hid (pas_bd HOK.out hu hd hab lW (by rw [HM.out]; exact Nat.le_refl _))
            have HBE := Lib.hid (show g.bf up down (lT + 1 - i) a = if (g.pas up down a lW).2 = true then g.bf up down (lT - i) (g.pas up down a lW).1 else true by
              rw [show lT + 1 - i = (lT - i) + 1 by omega, Gr.bf, HM.out])
            clear hbf hab hnum hb hnb
            obtain ⟨s, hs⟩ : ∃ s, g.pas up down a lW = s := ⟨_, rfl⟩
            rw [hs] at HPB HBE HRC
            clear hs
            obtain ⟨s1, s2⟩ := s
            dsimp only at HPB HBE HRC
            go_wp2_with fail
            refine HRC.out.mono ?_
            rintro e w5 ⟨rfl, hn5, hg5⟩
            have HN5 := Lib.hid hn5
            have HB5 := Lib.hid (HB.out.trans (below_of_grown hg5 (lo := w.heap.size) (by omega) (by omega)))
            have HNB5 := Lib.hid (HNB.out.block (hg5.block _ (by omega) (by simp; omega)))
            have hz5 := Nat.lt_of_lt_of_le hzz hg5.size
            clear hn5 hg5
            cases s2
            · have HK : Hid (g.keepB up down = true) := Lib.hid (by rw [← HBF.out, HBE.out]; rfl)
              go_wp2_with fail
              go_ret
              exact ⟨ret_bool (by rw [HF.out, HK.out]), HB5.out⟩
            · go_wp2_with fail
              go_roundw
              case rel => exact ⟨i + 1, s1, by go_num, by omega, by rw [← HBF.out, HBE.out, show lT + 1 - (i + 1) = lT - i by omega]; rfl, (fun q => by have h9 := HPB.out q; have h8 : (lW : Int) ≤ 7 := (by omega); push_cast; omega), HN5.out, hz5, HB5.out, HNB5.out⟩
              case measure => simp [intOf]; omega
          · obtain rfl : i = lT + 1 := by omega
            have hiI : ¬ ((lT + 1 : Nat) : Int) < (lT : Int) + 1 := by omega
            have HK : Hid (g.keepB up down = false) := Lib.hid (by rw [← HBF.out, Nat.sub_self]; rfl)
            clear hbf hab hnum hb hnb
            go_wp2_with fail
            go_ret
            exact ⟨ret_bool (by rw [HF.out, HK.out]), HB.out⟩
end Go.Proofs.Ytkebdelfklmigae
namespace Go.Proofs.Ytkebdelfklmigae
open Go.RowKit

theorem run_neq_frac (U D : Nat) (w : World) : (binOp .neq 29 (.agg #[.int .i64 U, .int .i64 D]) (.agg #[.int .i64 U, .int .i64 D])).run Try.prog w = .ok (.bool false) w := by
  have he := run_equalIn_agg (P := Try.prog) w 9999 29 #[.int .i64 U, .int .i64 D] #[.int .i64 U, .int .i64 D] (by kernel_rfl) (by kernel_rfl)
  have hu : Try.prog.underlying 3 = some (.int .i64) := Try.underlying3
  rw [run_neq_struct, he]
  simp [Program.fieldsOf, Try.underlying29, Op.eqFields, go_sem]
theorem run_eq_frac (U D : Nat) (w : World) : (binOp .eql 29 (.agg #[.int .i64 U, .int .i64 D]) (.agg #[.int .i64 U, .int .i64 D])).run Try.prog w = .ok (.bool true) w := by
  have he := run_equalIn_agg (P := Try.prog) w 9999 29 #[.int .i64 U, .int .i64 D] #[.int .i64 U, .int .i64 D] (by kernel_rfl) (by kernel_rfl)
  have hu : Try.prog.underlying 3 = some (.int .i64) := Try.underlying3
  rw [run_eql_struct, he]
  simp [Program.fieldsOf, Try.underlying29, Op.eqFields, go_sem]
theorem keepRes_pace {ts : List Int} {rows : List (List Int)} {U D : Nat} (hv : tokM ts rows = true) (hok : (grOf ts rows).Ok) (h : IsPace (grOf ts rows) U D) : keepRes ts rows (U : Int) (D : Int) = true := by
  have h1 := h.u36; have h2 := h.d12; have h3 := h.d1
  unfold keepRes
  rw [hv, inB_true (by omega) (by omega), inB_true (by omega) (by omega), pace_kept hok h]; rfl
theorem keepRes_less {ts : List Int} {rows : List (List Int)} {U D : Nat} (hv : tokM ts rows = true) (hok : (grOf ts rows).Ok) (h : IsPace (grOf ts rows) U D) (h0 : 1 ≤ U) : keepRes ts rows ((U : Int) - 1) (D : Int) = false := by
  unfold keepRes
  rw [pace_less hok h h0]; simp
theorem keepRes_zero {ts : List Int} {rows : List (List Int)} {U D : Nat} (hv : tokM ts rows = true) (hok : (grOf ts rows).Ok) (h : IsPace (grOf ts rows) U D) (h0 : U = 0) : keepRes ts rows 0 1 = true := by
  have h3 := h.d1
  have hk : (grOf ts rows).keeps 0 1 := by
    refine (pace_keeps h (by omega) (by omega)).2 ?_
    subst h0; simp
  unfold keepRes
  rw [hv, inB_true (by omega) (by omega), inB_true (by omega) (by omega), (keepB_iff hok).2 hk]; rfl
end Go.Proofs.Ytkebdelfklmigae
namespace Go.Proofs.Ytkebdelfklmigae
open Go.RowKit Go.ChangeShapes Go.WideShapes Go.Deep

section
variable {H : Type} {enc : TypeId × Value → H} {P : Program} {W : World}
theorem open_rows_cs8 {t e q : TypeId} {fuel : Nat} {cs : List Value} {x : DataW H × List MemPlace} (ht : P.underlying t = some (.slice e)) (he : P.underlying e = some (.slice q)) (hq : P.underlying q = some (.int .i64))
    (ce : P.cellsOf e = 1) (cq : P.cellsOf q = 1) (h : DataW.trod enc P W 0 (fun _ => true) true fuel t cs = some x) : ∃ a len cap rows, cs = [.slice a len cap] ∧ len ≤ cap ∧ RowsAt W (· < W.heap.size) a len rows := by
  rcases open_int_rows ht he hq ce cq h with ⟨hcs, _⟩ | ⟨a, len', cap', A, L, C, Z, hcs, _, hl, hmx, _, hx⟩
  · exact ⟨none, 0, 0, [], hcs, Nat.le_refl _, rfl, Nat.zero_le _, fun h => absurd h (by omega)⟩
  · exact ⟨some a, len', cap', _, hcs, hl, rowsAt_of hl hmx hx⟩
theorem open_ints_cs8 {t e : TypeId} {fuel : Nat} {cs : List Value} {x : DataW H × List MemPlace} (ht : P.underlying t = some (.slice e)) (he : P.underlying e = some (.int .i64))
    (ce : P.cellsOf e = 1) (h : DataW.trod enc P W 0 (fun _ => true) true fuel t cs = some x) : ∃ a len cap xs, cs = [.slice a len cap] ∧ len ≤ cap ∧ IntsAt W (· < W.heap.size) a len xs := by
  rcases open_ints ht he ce h with ⟨hcs, _⟩ | ⟨a, len', cap', zs, hcs, _, hl, hmx, hz, _, hcell, _⟩
  · exact ⟨none, 0, 0, [], hcs, Nat.le_refl _, rfl, Nat.zero_le _, fun h => absurd h (by omega)⟩
  · simp only [if_true] at hz
    exact ⟨some a, len', cap', _, hcs, hl, intsAt_of hl hmx hz (fun h => by cases h) (fun a' ha c hc => by cases ha; exact hcell c (by omega))⟩
theorem open_net_arg {r : Reach} {b0 : Nat} {t e q : TypeId} {f0 f1 : Field} {v : Value} {d : DataW H} {p : List MemPlace} (hs : P.underlying t = some (.struct #[f0, f1])) (hone : oneCellFields P #[f0, f1] = true) (hC : P.cellsOf t = 2)
    (t0 : P.underlying f0.type = some (.slice q)) (t1 : P.underlying f1.type = some (.slice e)) (te : P.underlying e = some (.slice q)) (tq : P.underlying q = some (.int .i64)) (ce : P.cellsOf e = 1) (cq : P.cellsOf q = 1)
    (hv : Value.okWide P W r b0 t v) (h : DataW.Trod enc P W 0 (fun _ => true) true t v d p) : ∃ (d : NV) (ts : List Int) (rows : List (List Int)), v = .agg #[.slice d.aT d.lT d.cT, .slice d.aW d.lW d.cW] ∧ NetAt W (· < W.heap.size) d ts rows := by
  obtain ⟨v0, v1, y0, y1, n, rfl, _, _, h0, h1⟩ := Go.Joins.open_agg2 hs hone hC hv h
  obtain ⟨aT, lT, cT, ts, e0, hc0, i0⟩ := open_ints_cs8 t0 tq cq h0
  obtain ⟨aW, lW, cW, rows, e1, hc1, i1⟩ := open_rows_cs8 t1 te tq ce cq h1
  simp only [List.cons.injEq, and_true] at e0 e1
  subst e0
  subst e1
  exact ⟨⟨aT, lT, cT, aW, lW, cW⟩, ts, rows, rfl, i0, i1, hc0, hc1⟩
end
end Go.Proofs.Ytkebdelfklmigae
