import Derived.Test.YtkebdelfklmigaeRows
import Derived.WalkKit
import Derived.LoopTactic
import Derived.Outline
import Derived.WalkSpells
import Derived.WalkLawsBesides
import Derived.ProofKit
import Derived.Lib.Hide
import Derived.IntWalk
import Derived.Deep.QuietTactic
import Derived.BigQuiet
import Derived.Test.YtkebdelfklmigaeM0
import Derived.Test.YtkebdelfklmigaeM2
import Derived.Test.YtkebdelfklmigaeM6
import Derived.Test.YtkebdelfklmigaeM1
import Derived.Test.YtkebdelfklmigaeM4
import Derived.Test.YtkebdelfklmigaeM7
import Derived.Test.YtkebdelfklmigaeM12
namespace Go.Proofs.Ytkebdelfklmigae
open Go.RowKit Go.WideShapes

def keepRes (ts : List Int) (rows : List (List Int)) (up down : Int) : Bool := tokM ts rows && (inB 0 40 up && (inB 1 40 down && (grOf ts rows).keepB up down))
/-- block b holds these numbers, one to a worker, and may be written -/
def NumsB (w : World) (b n : Nat) (f : Nat → Int) : Prop := ∀ j, j < n → w.cell? ⟨b, j, none⟩ = some (.int .i64 (f j)) ∧ w.frozen? ⟨b, j, none⟩ = false
theorem NumsB.block {w w' : World} {b n : Nat} {f : Nat → Int} (h : NumsB w b n f) (e : w'.heap[b]? = w.heap[b]?) : NumsB w' b n f := fun j hj =>
  ⟨by rw [World.cell?_of_block (w := w) e]; exact (h j hj).1, by rw [World.frozen?_of_block (w := w) e]; exact (h j hj).2⟩
theorem NumsB.put {w : World} {b n : Nat} {f : Nat → Int} (h : NumsB w b n f) {k : Nat} (hk : k < n) (x : Int) : NumsB (w.setCell ⟨b, k, none⟩ (.int .i64 x)) b n (fun j => if j = k then x else f j) := fun j hj => by
  refine ⟨?_, by rw [World.frozen?_setCell]; exact (h j hj).2⟩
  dsimp only
  by_cases e : j = k
  · subst e
    rw [if_pos rfl]
    exact World.cell?_setCell_same _ _ _ (h j hj).1
  · rw [if_neg e, World.cell?_setCell_other _ _ _ _ (by intro e'; injection e' with _ e2; exact e e2.symm)]
    exact (h j hj).1
theorem numsB_new (w : World) (n : Nat) : NumsB (w.alloc (.cells (madeCells #[.int .i64 0] n) 3)) w.heap.size n (fun _ => 0) := fun j hj => by
  refine ⟨?_, World.frozen?_alloc_new w _ _ _⟩
  rw [World.cell?_alloc_new]
  simp [madeCells, hj, Nat.mod_one]
theorem Try.infoInt8 : (Try.prog.info? 3).map (fun i => (i.zero, i.size, i.bytes)) = some (some (.int .i64 0), 1, 8) := by kernel_rfl
theorem pas_step1 {g : Gr} {up down : Int} (a : Nat → Int) (j : Nat) (h : (g.pas up down a j).1 (g.t j) < (g.pas up down a j).1 (g.f j) + g.w up down j) : g.pas up down a (j + 1) = (fun q => if q = g.t j then (g.pas up down a j).1 (g.f j) + g.w up down j else (g.pas up down a j).1 q, true) := by rw [Gr.pas, if_pos h]
theorem pas_step0 {g : Gr} {up down : Int} (a : Nat → Int) (j : Nat) (h : ¬ (g.pas up down a j).1 (g.t j) < (g.pas up down a j).1 (g.f j) + g.w up down j) : g.pas up down a (j + 1) = g.pas up down a j := by rw [Gr.pas, if_neg h]
/-- the three numbers of a way, where they lie -/
theorem way_at {w : World} {S : Nat → Prop} {aW : Option Addr} {lW : Nat} {rows : List (List Int)} {ts : List Int} (h : RowsAt w S aW lW rows) (hv : tokM ts rows = true) {q : Nat} (hq : q < lW) :
    ∃ b off b' off' c, aW = some ⟨b, off, none⟩ ∧ w.cell? ⟨b, off + q, none⟩ = some (.slice (some ⟨b', off', none⟩) 3 c) ∧ w.cell? ⟨b', off', none⟩ = some (.int .i64 ((grOf ts rows).f q : Nat)) ∧ w.cell? ⟨b', off' + 1, none⟩ = some (.int .i64 ((grOf ts rows).t q : Nat)) ∧ w.cell? ⟨b', off' + 2, none⟩ = some (.int .i64 ((grOf ts rows).c q : Nat)) := by
  obtain ⟨b, off, r, a', lr, cr, rfl, hr, dr, _, hri⟩ := h.get hq
  obtain ⟨l3, e0, _, e1, _, e2, _⟩ := (tok_get hv).2.2.2 q r hr
  have hl3 : lr = 3 := by have := hri.lenEq; omega
  subst hl3
  obtain ⟨b', off', r0, rfl, hy, hd⟩ := hri.get (k := 0) (by omega)
  obtain ⟨b2, off2, r1, e', hy2, hd2⟩ := hri.get (k := 1) (by omega)
  cases e'
  obtain ⟨b3, off3, r2, e', hy3, hd3⟩ := hri.get (k := 2) (by omega)
  cases e'
  rw [Nat.add_zero] at hd
  rw [getD_of hy] at e0
  rw [getD_of hy2] at e1
  rw [getD_of hy3] at e2
  subst e0
  subst e1
  subst e2
  exact ⟨b, off, b', off', cr, rfl, dr, hd, hd2, hd3⟩
set_option maxRecDepth 100000 in
set_option maxHeartbeats 4000000 in
theorem keepsPace_spec (d : NV) (ts : List Int) (rows : List (List Int)) (up down : Int) (w : World) (h : NetAt w (· < w.heap.size) d ts rows) :
    Calls Try.prog 17 #[.agg #[.slice d.aT d.lT d.cT, .slice d.aW d.lW d.cW], .int .i64 up, .int .i64 down] w (valN w (.bool (keepRes ts rows up down))) := by
  have HV := Lib.hid (fun w' (hb : Below w.heap.size w w') => validNet_any d ts rows w' (net_lift h hb))
  have HA := Lib.hid (fun w' (hb : Below w.heap.size w w') => net_lift h hb)
  obtain ⟨aT, lT, cT, aW, lW, cW⟩ := d
  have hTL : ts.length = lT := h.t.lenEq
  have hWL : rows.length = lW := h.r.lenEq
  clear h
  have hb0 := (Below.refl w.heap.size w).alloc (Nat.le_refl _) (.cells #[.slice aT lT cT, .slice aW lW cW] 26)
  have hn0 := netB_new w aT lT cT aW lW cW 26
  have hz0 : w.heap.size < (w.alloc (.cells #[.slice aT lT cT, .slice aW lW cW] 26)).heap.size := by simp
  obtain ⟨w1, hw1⟩ : ∃ w1, (w.alloc (.cells #[.slice aT lT cT, .slice aW lW cW] 26)) = w1 := ⟨_, rfl⟩
  rw [hw1] at hb0 hn0 hz0
  have HW1 := Lib.hid hw1
  have HB0 := Lib.hid hb0
  have HN0 := Lib.hid hn0
  clear hb0 hn0 hw1
  dsimp only at HV HA
  cases hv : tokM ts rows
  · rw [hv] at HV
    have HF : Hid (keepRes ts rows up down = false) := Lib.hid (by unfold keepRes; rw [hv]; rfl)
    clear hv hTL hWL
    go_enter Try.func17, Try.ntmps17
    obtain ⟨n0, n1⟩ := HN0.out
    dsimp only at n0 n1
    go_wp2_with fail
    rw [HW1.out]
    refine (HV.out _ HB0.out).mono ?_
    rintro e w2 ⟨rfl, hb2⟩
    go_wp2_with fail
    go_ret
    exact ⟨ret_bool HF.out.symm, HB0.out.trans (hb2.mono HB0.out.size)⟩
  · rw [hv] at HV
    cases h1 : inB 0 40 up
    · have HF : Hid (keepRes ts rows up down = false) := Lib.hid (by unfold keepRes; rw [hv, h1]; rfl)
      have C1 := Lib.hid (fun w => inR h1 w)
      clear hv h1 hTL hWL
      go_enter Try.func17, Try.ntmps17
      obtain ⟨n0, n1⟩ := HN0.out
      dsimp only at n0 n1
      go_wp2_with fail
      rw [HW1.out]
      refine (HV.out _ HB0.out).mono ?_
      rintro e w2 ⟨rfl, hb2⟩
      go_wp2_with fail
      refine (C1.out w2).mono ?_
      rintro e w' ⟨rfl, rfl⟩
      go_wp2_with fail
      go_ret
      exact ⟨ret_bool HF.out.symm, HB0.out.trans (hb2.mono HB0.out.size)⟩
    · cases h2 : inB 1 40 down
      · have HF : Hid (keepRes ts rows up down = false) := Lib.hid (by unfold keepRes; rw [hv, h1, h2]; rfl)
        have C1 := Lib.hid (fun w => inR h1 w)
        have C2 := Lib.hid (fun w => inR h2 w)
        clear hv h1 h2 hTL hWL
        go_enter Try.func17, Try.ntmps17
        obtain ⟨n0, n1⟩ := HN0.out
        dsimp only at n0 n1
        go_wp2_with fail
        rw [HW1.out]
        refine (HV.out _ HB0.out).mono ?_
        rintro e w2 ⟨rfl, hb2⟩
        go_wp2_with fail
        refine (C1.out w2).mono ?_
        rintro e w' ⟨rfl, rfl⟩
        go_wp2_with fail
        refine (C2.out w').mono ?_
        rintro e w' ⟨rfl, rfl⟩
        go_wp2_with fail
        go_ret
        exact ⟨ret_bool HF.out.symm, HB0.out.trans (hb2.mono HB0.out.size)⟩
      · have HF : Hid (keepRes ts rows up down = (grOf ts rows).keepB up down) := Lib.hid (by unfold keepRes; rw [hv, h1, h2]; rfl)
        have C1 := Lib.hid (fun w => inR h1 w)
        have C2 := Lib.hid (fun w => inR h2 w)
        have hu : 0 ≤ up ∧ up ≤ 40 := by simpa [inB] using h1
        have hd : 1 ≤ down ∧ down ≤ 40 := by simpa [inB] using h2
        have hok := gr_ok hv
        have HG := Lib.hid (fun (w' : World) (hb : Below w.heap.size w w') (q : Nat) (hq : q < lW) => way_at (HA.out w' hb).r hv hq)
        have HTM := Lib.hid (fun (w' : World) (hb : Below w.heap.size w w') (v : Nat) (hv : v < lT) => (show ∃ b off, aT = some ⟨b, off, none⟩ ∧ w'.cell? ⟨b, off + v, none⟩ = some (.int .i64 ((grOf ts rows).tm v)) by
          obtain ⟨b, off, x, e, hx, hc⟩ := (HA.out w' hb).t.get hv
          exact ⟨b, off, e, by rw [hc]; show _ = some (Value.int .i64 (ts.getD v 0)); rw [getD_of hx]⟩))
        have hn : (grOf ts rows).n = lT := hTL
        have hm : (grOf ts rows).m = lW := hWL
        obtain ⟨g, hg⟩ : ∃ g, grOf ts rows = g := ⟨_, rfl⟩
        rw [hg] at hok HF HG HTM hn hm
        have h4 := hok.n4
        have h7 := hok.m7
        rw [hn] at h4
        rw [hm] at h7
        have HOK := Lib.hid hok
        have HN := Lib.hid hn
        have HM := Lib.hid hm
        have HTI := Lib.hid hok.times
        have HWD := Lib.hid (fun k (hk : k < lW) => w_bd hok hu hd (k := k) (by rw [hm]; exact hk))
        have HWY := Lib.hid (fun k (hk : k < lW) => (show g.f k < lT ∧ g.t k < lT ∧ g.c k ≤ 3 by have := hok.ways k (by rw [hm]; exact hk); rw [hn] at this; exact this))
        have hmk := fun w => run_make_row' (P := Try.prog) 23 3 (.int .i64 0) 8 Try.underlying23 Try.infoInt8 rfl .i64 .i64 lT (by omega) (by omega) w
        clear hv h1 h2 hTL hWL hg hok hn hm
        go_enter Try.func17, Try.ntmps17
        obtain ⟨n0, n1⟩ := HN0.out
        dsimp only at n0 n1
        go_wp2_with fail
        rw [HW1.out]
        refine (HV.out _ HB0.out).mono ?_
        rintro e w2 ⟨rfl, hb2⟩
        have HB2 := Lib.hid (HB0.out.trans (hb2.mono HB0.out.size))
        have HN2 := Lib.hid (HN0.out.below hb2 hz0)
        have hz2 := Nat.lt_of_lt_of_le hz0 hb2.size
        clear n0 n1 hb2
        obtain ⟨n0, n1⟩ := HN2.out
        dsimp only at n0 n1
        go_wp2_with fail
        refine (C1.out w2).mono ?_
        rintro e w' ⟨rfl, rfl⟩
        go_wp2_with fail
        refine (C2.out w').mono ?_
        rintro e w' ⟨rfl, rfl⟩
        go_wp2_with fail
        clear hmk
        have hnum := numsB_new w' lT
        have hb3 := HB2.out.alloc (by omega) (.cells (madeCells #[.int .i64 0] lT) 3)
        have hn3 : NetB (w'.alloc (.cells (madeCells #[.int .i64 0] lT) 3)) w.heap.size ⟨aT, lT, cT, aW, lW, cW⟩ := HN2.out.block (Below.heap_alloc _ _ _ hz2)
        clear n0 n1
        go_loopw [8] (fun iv wr => ∃ (i : Nat) (a : Nat → Int), iv = .int .i64 i ∧ i ≤ lT + 1 ∧ g.bf up down (lT + 1 - i) a = g.keepB up down ∧ (∀ q, 0 ≤ a q ∧ a q ≤ 2520 * (i : Int)) ∧ NumsB wr w'.heap.size lT a ∧ Below w.heap.size w wr ∧ NetB wr w.heap.size ⟨aT, lT, cT, aW, lW, cW⟩) (fun iv _ => lT + 1 - (intOf iv).toNat)
        case atStart => exact ⟨0, fun _ => 0, rfl, Nat.zero_le _, by unfold Gr.keepB; rw [HN.out]; rfl, (fun q => ⟨Int.le_refl _, Int.le_refl _⟩), hnum, hb3, hn3⟩
        case round =>
          clear hnum hb3 hn3
          obtain ⟨i, a, rfl, hi, hbf, hab, hnum, hb, hnb⟩ := hrel
          obtain ⟨wo, rfl⟩ : ∃ wo : World, wo = wr := ⟨_, rfl⟩
          obtain ⟨n0, n1⟩ := id hnb
          dsimp only at n0 n1
          have HBF := Lib.hid hbf
          have HAB := Lib.hid hab
          have HNUM := Lib.hid hnum
          have HB := Lib.hid hb
          have HNB := Lib.hid hnb
          clear hbf hab hnum hb hnb
          by_cases hil : i ≤ lT
          · have hiI : (i : Int) ≤ (lT : Int) := by omega
            go_wp2_with fail
            go_loopw [9, 10] (fun cv kv wr => ∃ (k : Nat), kv = .int .i64 k ∧ cv = .bool (g.pas up down a k).2 ∧ k ≤ lW ∧ NumsB wr w'.heap.size lT (g.pas up down a k).1 ∧ Below w.heap.size w wr ∧ NetB wr w.heap.size ⟨aT, lT, cT, aW, lW, cW⟩) (fun _ kv _ => lW - (intOf kv).toNat)
            case atStart => exact ⟨0, rfl, rfl, Nat.zero_le _, HNUM.out, HB.out, HNB.out⟩
            case round =>
              clear n0 n1 HNUM HB HNB
              obtain ⟨k, rfl, rfl, hk, hnum, hb, hnb⟩ := hrel
              obtain ⟨wi, rfl⟩ : ∃ wi : World, wi = wr := ⟨_, rfl⟩
              obtain ⟨n0, n1⟩ := id hnb
              dsimp only at n0 n1
              have HNUM := Lib.hid hnum
              have HB := Lib.hid hb
              have HNB := Lib.hid hnb
              clear hnum hb hnb
              by_cases hkl : k < lW
              · have hkI : (k : Int) < (lW : Int) := by omega
                obtain ⟨b, off, b', off', c, rfl, dr, d0, d1, d2⟩ := HG.out wi HB.out k hkl
                obtain ⟨hf, ht, hc⟩ := HWY.out k hkl
                obtain ⟨bt, ot, rfl, dt⟩ := HTM.out wi HB.out (g.f k) hf
                have hbd := pas_bd HOK.out hu hd HAB.out k (by rw [HM.out]; omega)
                have hbf := hbd (g.f k)
                have hbt := hbd (g.t k)
                obtain ⟨cf, _⟩ := HNUM.out (g.f k) hf
                obtain ⟨ct, ft⟩ := HNUM.out (g.t k) ht
                have hti := HTI.out (g.f k)
                have hwd := HWD.out k hkl
                have hmul1 : 0 ≤ g.tm (g.f k) * down ∧ g.tm (g.f k) * down ≤ 9 * 40 := ⟨Int.mul_nonneg hti.1 (by omega), Int.mul_le_mul hti.2 hd.2 (by omega) (by omega)⟩
                have hmul2 : 0 ≤ up * ((g.c k : Nat) : Int) ∧ up * ((g.c k : Nat) : Int) ≤ 40 * 3 := ⟨Int.mul_nonneg hu.1 (by omega), Int.mul_le_mul hu.2 (by omega) (by omega) (by omega)⟩
                have hwe : g.w up down k = g.tm (g.f k) * down - up * ((g.c k : Nat) : Int) := by unfold Gr.w; rw [Int.mul_comm]
                have HST1 := Lib.hid (pas_step1 (g := g) (up := up) (down := down) a k)
                have HST0 := Lib.hid (pas_step0 (g := g) (up := up) (down := down) a k)
                rw [hwe] at HST1 HST0
                obtain ⟨s, hs⟩ : ∃ s, g.pas up down a k = s := ⟨_, rfl⟩
                rw [hs] at HST1 HST0 HNUM hbf hbt cf ct ⊢
                clear hs hbd hwe hwd
                have hfI : (((g.f k : Nat) : Int)) < (lT : Int) := by omega
                have htI : (((g.t k : Nat) : Int)) < (lT : Int) := by omega
                obtain ⟨P1, hP1⟩ : ∃ P1, g.tm (g.f k) * down = P1 := ⟨_, rfl⟩
                obtain ⟨P2, hP2⟩ : ∃ P2, up * ((g.c k : Nat) : Int) = P2 := ⟨_, rfl⟩
                rw [hP1] at hmul1 HST1 HST0
                rw [hP2] at hmul2 HST1 HST0
                have h7b : (k : Int) ≤ 7 := by omega
                have HP := Lib.hid (And.intro hP1 hP2)
                by_cases hlt : s.1 (g.t k) < s.1 (g.f k) + (P1 - P2)
                · have HS := Lib.hid (HST1.out hlt)
                  have hltI : s.1 (g.t k) < s.1 (g.f k) + P1 - P2 := by omega
                  have hva : s.1 (g.f k) + (P1 - P2) = s.1 (g.f k) + P1 - P2 := by omega
                  rw [hva] at HS
                  clear hlt HST1 HST0 hva
                  go_wp2_with fail
                  go_quiet (fail)
                  go_wp2_with fail
                  go_roundw
                  case rel => exact ⟨k + 1, by go_num, by rw [HS.out], by omega, by rw [HS.out]; exact (HNUM.out.block (w' := wi.drewN _) rfl).put ht _, (below_drewN HB.out _).setCell (p := ⟨w'.heap.size, g.t k, none⟩) (by show w.heap.size ≤ w'.heap.size; omega) _, (HNB.out.drewN _).block (Below.heap_setCell _ ⟨w'.heap.size, g.t k, none⟩ _ _ (by show w.heap.size ≠ w'.heap.size; omega))⟩
                  case measure => simp [intOf]; omega
                · have HS := Lib.hid (HST0.out hlt)
                  have hltI : ¬ s.1 (g.t k) < s.1 (g.f k) + P1 - P2 := by omega
                  clear hlt HST1 HST0
                  go_wp2_with fail
                  go_quiet (fail)
                  go_wp2_with fail
                  go_roundw
                  case rel => exact ⟨k + 1, by go_num, by rw [HS.out], by omega, by rw [HS.out]; exact HNUM.out.block rfl, below_drewN HB.out _, HNB.out.drewN _⟩
                  case measure => simp [intOf]; omega
              · obtain rfl : k = lW := by omega
                have hkI : ¬ (k : Int) < (k : Int) := by omega
                have hpb := pas_bd HOK.out hu hd HAB.out k (by rw [HM.out]; exact Nat.le_refl _)
                have HPB := Lib.hid hpb
                have HBE := Lib.hid (show g.bf up down (lT + 1 - i) a = if (g.pas up down a k).2 = true then g.bf up down (lT - i) (g.pas up down a k).1 else true by
                  rw [show lT + 1 - i = (lT - i) + 1 by omega, Gr.bf, HM.out])
                clear hpb
                obtain ⟨s, hs⟩ : ∃ s, g.pas up down a k = s := ⟨_, rfl⟩
                rw [hs] at HPB HBE HNUM ⊢
                clear hs
                obtain ⟨s1, s2⟩ := s
                dsimp only at HPB HBE HNUM ⊢
                cases s2
                · have HK : Hid (g.keepB up down = true) := Lib.hid (by rw [← HBF.out, HBE.out]; rfl)
                  go_wp2_with fail
                  go_ret
                  exact ⟨ret_bool (by rw [HF.out, HK.out]), HB.out⟩
                · go_wp2_with fail
                  go_roundw
                  case rel => exact ⟨i + 1, s1, by go_num, by omega, by rw [← HBF.out, HBE.out, show lT + 1 - (i + 1) = lT - i by omega]; rfl, (fun q => by have h9 := HPB.out q; have h8 : (k : Int) ≤ 7 := (by omega); push_cast; omega), HNUM.out, HB.out, HNB.out⟩
                  case measure => simp [intOf]; omega
          · obtain rfl : i = lT + 1 := by omega
            have hiI : ¬ ((lT + 1 : Nat) : Int) ≤ (lT : Int) := by omega
            have HK : Hid (g.keepB up down = false) := Lib.hid (by rw [← HBF.out, Nat.sub_self]; rfl)
            go_wp2_with fail
            go_ret
            exact ⟨ret_bool (by rw [HF.out, HK.out]), HB.out⟩
end Go.Proofs.Ytkebdelfklmigae
namespace Go.Proofs.Ytkebdelfklmigae

-- paths (plain)
def lastD (X : List Nat) : Nat := X.getLastD 0
theorem last_get {X : List Nat} (h : X ≠ []) : X[X.length - 1]? = some (X.getLastD 0) := by
  rw [← List.getLast?_eq_getElem?, List.getLastD_eq_getLast?]
  cases hx : X.getLast? with
  | none => exact absurd (List.getLast?_eq_none_iff.1 hx) h
  | some a => rfl
theorem last_snoc (X : List Nat) (a : Nat) : (X ++ [a]).getLastD 0 = a := by simp
/-- what is known of a path -/
structure PathOk (g : Gr) (rk : Nat → Nat) (X : List Nat) (s : Nat) (T0 C0 : Nat) : Prop where
  head : X[0]? = some s
  nodup : X.Nodup
  lt : ∀ v ∈ X, v < g.n
  t : T0 ≤ 9 * (X.length - 1)
  c : C0 ≤ 3 * (X.length - 1)
  rank : C0 = 0 → rk s ≤ rk (X.getLastD 0)
theorem PathOk.len {g : Gr} {rk : Nat → Nat} {X : List Nat} {s T0 C0 : Nat} (h : PathOk g rk X s T0 C0) : 1 ≤ X.length ∧ X.length ≤ g.n ∧ X ≠ [] ∧ X.getLastD 0 ∈ X ∧ s ∈ X := by
  have h1 := (List.getElem?_eq_some_iff.1 h.head).1
  have hne : X ≠ [] := by rintro rfl; simp at h1
  exact ⟨h1, nodup_short g.n X h.nodup h.lt, hne, List.mem_of_getElem? (last_get hne), List.mem_of_getElem? h.head⟩
theorem path_step {g : Gr} (hg : g.Ok) {rk : Nat → Nat} (hr : g.Rank rk) {X : List Nat} {s T0 C0 j tmv : Nat} (h : PathOk g rk X s T0 C0) (hj : j < g.m) (hf : g.f j = X.getLastD 0) (hn : ¬ g.t j ∈ X) (htm : g.tm (X.getLastD 0) = (tmv : Int)) : PathOk g rk (X ++ [g.t j]) s (T0 + tmv) (C0 + g.c j) := by
  obtain ⟨h1, h2, h3, h4, h5⟩ := h.len
  have hw := hg.ways j hj
  have ht := hg.times (X.getLastD 0)
  have hT := h.t
  have hC := h.c
  refine ⟨by rw [List.getElem?_append_left h1]; exact h.head, (List.perm_append_singleton _ _).symm.nodup (List.nodup_cons.2 ⟨hn, h.nodup⟩), fun v hv => ?_, by rw [List.length_append]; simp; omega, by rw [List.length_append]; simp; omega, fun h0 => ?_⟩
  · rcases List.mem_append.1 hv with hv | hv
    · exact h.lt v hv
    · simp only [List.mem_singleton] at hv; subst hv; exact hw.2.1
  · rw [last_snoc]
    have a1 := h.rank (by omega)
    have a2 := hr.2 j hj (by omega)
    rw [hf] at a2
    omega
theorem path_close {g : Gr} {rk : Nat → Nat} (hr : g.Rank rk) {X : List Nat} {s T0 C0 j : Nat} (h : PathOk g rk X s T0 C0) (hj : j < g.m) (hf : g.f j = X.getLastD 0) (ht : g.t j = s) : 1 ≤ C0 + g.c j := by
  rcases Nat.eq_zero_or_pos (C0 + g.c j) with e | e
  · have a1 := h.rank (by omega)
    have a2 := hr.2 j hj (by omega)
    rw [hf, ht] at a2
    omega
  · exact e
end Go.Proofs.Ytkebdelfklmigae
