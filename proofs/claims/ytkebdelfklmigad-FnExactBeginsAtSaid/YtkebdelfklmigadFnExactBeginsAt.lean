/- The walk of the law FnExactBeginsAt: it returns true at all arguments, and what was there reads as it read before. No condition. -/
import Derived.Test.YtkebdelfklmigadRows
import Derived.WalkKit
import Derived.Outline
import Derived.WalkSpells
import Derived.WalkLawsBesides
import Derived.ProofKit
import Derived.Deep.RegionHeld3
import Derived.Test.YtkebdelfklmigadM0
import Derived.Test.YtkebdelfklmigadM1
import Derived.Test.YtkebdelfklmigadM2
import Derived.Test.YtkebdelfklmigadM6
import Derived.Test.YtkebdelfklmigadM15
import Derived.Test.YtkebdelfklmigadM19
import Derived.Test.YtkebdelfklmigadM20
namespace Go.Proofs.Ytkebdelfklmigad
open Go.RowKit Go.WideShapes

theorem rfree_to {w w' : World} {T S : Nat → Prop} {a : Option Addr} {len : Nat} (h : RowsFree w T S a len) (hT : ∀ b, T b → w'.heap[b]? = w.heap[b]?) (hS : ∀ b, S b → w'.heap[b]? = w.heap[b]?) : RowsFree w' T S a len := by
  refine ⟨h.small, fun h0 => ?_⟩
  obtain ⟨b, off, ha, ht, hc⟩ := h.cells h0
  refine ⟨b, off, ha, ht, fun i hi => ?_⟩
  obtain ⟨a', l, c, h1, h2, h3⟩ := hc i hi
  exact ⟨a', l, c, by rw [World.cell?_of_block (w := w) (hT b ht)]; exact h1, h2, h3.to (fun q hq => ⟨hq, hS q hq⟩)⟩
set_option maxRecDepth 100000 in
set_option maxHeartbeats 4000000 in
theorem fnExactBeginsAt_any (d : NV) (ts : List Int) (rows : List (List Int)) (r : Int) (w : World) (h : NetAt w (· < w.heap.size) d ts rows) :
    Calls Try.prog 4 #[.agg #[.slice d.aT d.lT d.cT, .slice d.aW d.lW d.cW], .int .i64 r] w (LawPost w) := by
  obtain ⟨aT, lT, cT, aW, lW, cW⟩ := d
  have on1 := netOn_new h 37
  have hb1 := (Below.refl w.heap.size w).alloc (Nat.le_refl _) (.cells #[.slice aT lT cT, .slice aW lW cW] 37)
  obtain ⟨w1, hw1⟩ : ∃ wx, w.alloc (.cells #[.slice aT lT cT, .slice aW lW cW] 37) = wx := ⟨_, rfl⟩
  rw [hw1] at on1 hb1
  have HW1 := Lib.hid hw1
  have HBW := Lib.hid hb1
  clear hw1 h hb1
  have HON := Lib.hid (fun w' (hb : Below w1.heap.size w1 w') => on1.lift hb)
  obtain ⟨c0, c1⟩ := on1.box
  dsimp only at c0 c1
  generalize hRES : begRes ts rows r = ys
  have HRES := Lib.hid hRES
  clear hRES
  have heq : eqRB ys ys = true := decide_eq_true rfl
  go_enter Try.func4, Try.ntmps4
  go_wp2_with fail
  rw [HW1.out]
  refine (szNet_any ⟨aT, lT, cT, aW, lW, cW⟩ ts rows w1 on1.at').mono ?_
  rintro e w2 ⟨q, rfl, hsm, hb2⟩
  have HB2 := Lib.hid hb2
  clear on1 hb2 c0 c1
  by_cases hq : 0 ≤ q
  · have hs := hsm hq
    have hq0 : ¬ q < 0 := by omega
    have HS := Lib.hid hs
    clear hsm hs
    -- the model's answer
    obtain ⟨c0, c1⟩ := (HON.out w2 HB2.out).box
    dsimp only at c0 c1
    go_wp2_with fail
    refine (toNet_new ⟨aT, lT, cT, aW, lW, cW⟩ ts rows w2 (HON.out w2 HB2.out).at' HS.out).mono ?_
    rintro e w3 ⟨⟨aT3, lT3, cT3, aW3, lW3, cW3⟩, rfl, at3, _, hb, _⟩
    have HB3 := Lib.hid (HB2.out.trans (hb.mono HB2.out.size))
    clear hb c0 c1
    go_wp2_with fail
    refine (beginsAt_spec ⟨aT3, lT3, cT3, aW3, lW3, cW3⟩ ts rows r w3 (at3.to (fun b hb => ⟨hb.2, rfl⟩))).mono ?_
    rintro e w4 ⟨aM, lM, kM, rfl, cM, _, hb⟩
    rw [HRES.out] at cM
    have HCM := Lib.hid cM
    have qM4 := SameOn.refl w3.heap.size w4.heap.size w4
    have s4 := hb.size
    have s3 := HB3.out.size
    have HB4 := Lib.hid (HB3.out.trans (hb.mono HB3.out.size))
    clear hb at3 cM
    -- the code's answer
    obtain ⟨c0, c1⟩ := (HON.out w4 HB4.out).box
    dsimp only at c0 c1
    go_wp2_with fail
    refine (toNet_new ⟨aT, lT, cT, aW, lW, cW⟩ ts rows w4 (HON.out w4 HB4.out).at' HS.out).mono ?_
    rintro e w5 ⟨⟨aT5, lT5, cT5, aW5, lW5, cW5⟩, rfl, at5, hs5, hb, lo, hlo1, hlo2, hfr, lo2, hlo3, hlo4, hrf⟩
    have s5 := hb.size
    have qM5 := qM4.below hb (Nat.le_refl _)
    have HB5 := Lib.hid (HB4.out.trans (hb.mono HB4.out.size))
    clear hb c0 c1 qM4
    have ox6 := netOn_new (at5.to (fun b hb => ⟨hb.2, rfl⟩)) 26
    have hb := (Below.refl w5.heap.size w5).alloc (Nat.le_refl _) (.cells #[.slice aT5 lT5 cT5, .slice aW5 lW5 cW5] 26)
    obtain ⟨w6, hw6⟩ : ∃ wx, w5.alloc (.cells #[.slice aT5 lT5 cT5, .slice aW5 lW5 cW5] 26) = wx := ⟨_, rfl⟩
    rw [hw6] at ox6 hb
    have HW6 := Lib.hid hw6
    have s6 := hb.size
    have qM6 := qM5.below hb (by omega)
    have HFR := Lib.hid (hfr.to (w' := w6) (S' := fun b => b = lo) (fun b hq => ⟨hq, hb.block b (by omega)⟩))
    have HRF := Lib.hid (show RowsFree w6 (fun b => b = lo2) (fun b => lo2 < b ∧ b < w5.heap.size) aW5 lW5 by
      refine ⟨hrf.small, fun h0 => ?_⟩
      obtain ⟨b, off, ha, ht, hc⟩ := hrf.cells h0
      refine ⟨b, off, ha, ht, fun i hi => ?_⟩
      obtain ⟨a', l, c, h1, h2, h3⟩ := hc i hi
      exact ⟨a', l, c, by rw [World.cell?_of_block (w := w5) (hb.block b (by have : b = lo2 := ht; omega))]; exact h1, h2, h3.to (fun q hq => ⟨hq, hb.block q hq.2⟩)⟩)
    have HB6 := Lib.hid (HB5.out.trans (hb.mono HB5.out.size))
    have HOX := Lib.hid (fun w' (hb : Below w6.heap.size w6 w') => ox6.lift hb)
    have h5T := hs5.1
    dsimp only at h5T
    clear hw6 hb at5 qM5 hfr hrf hs5
    obtain ⟨c0, c1⟩ := (HON.out w6 HB6.out).box
    obtain ⟨d0, d1⟩ := ox6.box
    dsimp only at c0 c1 d0 d1
    go_wp2_with fail
    rw [HW6.out]
    refine (beginsAt_impl ⟨aT5, lT5, cT5, aW5, lW5, cW5⟩ ts rows r w6 ox6.at').mono ?_
    rintro e w7 hG
    obtain ⟨aG, nG, rfl, hb, cG, hn40, G, A, LG, C, bl, haG, sG, hG1, hbl, hL4⟩ := begOwn_sep hG
    rw [HRES.out] at cG
    have HCG := Lib.hid cG
    have HAG := Lib.hid haG
    have HSG := Lib.hid sG
    have HG1 := Lib.hid hG1
    have HBL := Lib.hid hbl
    have s7 := hb.size
    have qM7 := qM6.below hb (by omega)
    have qG7 := SameOn.refl w6.heap.size w7.heap.size w7
    have HX7 := Lib.hid hb
    have HB7 := Lib.hid (HB6.out.trans (hb.mono HB6.out.size))
    clear hb c0 c1 d0 d1 qM6 hG cG haG sG hG1 hbl ox6
    go_wp2_with fail
    refine (eqIntSS_any _ _ _ _ _ _ _ _ ys ys _ (qG7.rows HCG.out) (qM7.rows HCM.out)).mono ?_
    rintro e w8 ⟨rfl, d8⟩
    have s8 := (d8.below w7.heap.size).size
    have qM8 := qM7.below (d8.below w7.heap.size) (by omega)
    have qG8 := qG7.below (d8.below w7.heap.size) (by omega)
    have HX8 := Lib.hid (HX7.out.trans ((d8.below w7.heap.size).mono (by omega)))
    have HB8 := Lib.hid (HB6.out.trans (HX8.out.mono HB6.out.size))
    clear qM7 qG7 d8
    obtain ⟨c0, c1⟩ := (HON.out w8 HB8.out).box
    obtain ⟨d0, d1⟩ := (HOX.out w8 HX8.out).box
    dsimp only at c0 c1 d0 d1
    have HD8 := Lib.hid (show Below w8.heap.size w8 w8.drew from (Below.refl _ _).drew)
    have HO8 := Lib.hid (fun w' (hb : Below w8.heap.size w8 w') => And.intro (HON.out w' (HB8.out.trans (hb.mono HB8.out.size))) (HOX.out w' (HX8.out.trans (hb.mono HX8.out.size))))
    go_wp2_with fail
    go_region_held3 (fun w' => (w'.cell? ⟨w.heap.size, 0, none⟩ = some (.slice aT lT cT) ∧ w'.cell? ⟨w.heap.size, 1, none⟩ = some (.slice aW lW cW)) ∧ w'.cell? ⟨w5.heap.size, 0, none⟩ = some (.slice aT5 lT5 cT5) ∧ w'.cell? ⟨w5.heap.size, 1, none⟩ = some (.slice aW5 lW5 cW5)) (first | go_keep | exact k9 | exact k8) (first | (go_at_call 16; refine (eqNet_any ⟨aT5, lT5, cT5, aW5, lW5, cW5⟩ ⟨aT8, lT8, cT8, aW8, lW8, cW8⟩ ts rows w9 (HO8.out w9 HB9.out).2.at' (at8.to (fun b hb => ⟨hb.2, rfl⟩))).mono ?_; rintro e w10 ⟨rfl, hb10⟩; have HB10 := Lib.hid (HB9.out.trans (hb10.mono HB9.out.size)); have k9 := And.intro (HO8.out w10 HB10.out).1.box (HO8.out w10 HB10.out).2.box) | (go_at_call 14; refine (toNet_new ⟨aT, lT, cT, aW, lW, cW⟩ ts rows _ (HO8.out _ HD8.out).1.at' HS.out).mono ?_; rintro e w9 ⟨⟨aT8, lT8, cT8, aW8, lW8, cW8⟩, rfl, at8, _, hb9, _⟩; have HB9 := Lib.hid (HD8.out.trans (hb9.mono HD8.out.size)); have k8 := And.intro (HO8.out w9 HB9.out).1.box (HO8.out w9 HB9.out).2.box))
    have HX10 := Lib.hid (HX8.out.trans (HB10.out.mono HX8.out.size))
    have HBX := Lib.hid (HB8.out.trans (HB10.out.mono HB8.out.size))
    have s10 := HB10.out.size
    have qM10 := qM8.below HB10.out (by omega)
    have qG10 := qG8.below HB10.out (by omega)
    clear k8 k9 hb9 hb10 at8 qM8 qG8
    have hx10 := HX10.out.size
    have hs1 := HB2.out.size
    have hs2 := HB4.out.size
    obtain ⟨d0, d1⟩ := (HOX.out w10 HX10.out).box
    dsimp only at d0 d1
    -- the arguments are marked
    go_wp2_with fail
    refine (markNet_any ⟨aT5, lT5, cT5, aW5, lW5, cW5⟩ w4.heap.size w5.heap.size lo lo2 w10 hlo1 hlo3 hlo4 (by omega) (HFR.out.to (w' := w10) (S' := fun b => b = lo) (fun b hb => ⟨hb, HX10.out.block b (by omega)⟩)) (rfree_to HRF.out (fun b hb => HX10.out.block b (by omega)) (fun b hb => HX10.out.block b (by omega))) h5T).mono ?_
    rintro e w11 ⟨k11, rfl, hk11, hb11, hkeep⟩
    have s11 := hb11.size
    have hk0 : ¬ k11 < 0 := by omega
    have qM11 := qM10.below hb11 (Nat.le_refl _)
    have qG11 : SameOn w6.heap.size w7.heap.size w7 w11 := fun b h1 h2 => (hkeep b (by omega) (by omega)).trans (qG10 b h1 h2)
    have HB11 := Lib.hid (HBX.out.trans (hb11.mono hs2))
    clear d0 d1 hb11 hkeep qM10 qG10
    go_wp2_with fail
    refine (eqIntSS_any _ _ _ _ _ _ _ _ ys ys _ (qG11.rows HCG.out) (qM11.rows HCM.out)).mono ?_
    rintro e w12 ⟨rfl, d12⟩
    have s12 := (d12.below w11.heap.size).size
    have qM12 := qM11.below (d12.below w11.heap.size) (by omega)
    have qG12 := qG11.below (d12.below w11.heap.size) (by omega)
    have HB12 := Lib.hid (HB11.out.trans ((d12.below w11.heap.size).mono HB11.out.size))
    clear qM11 qG11 d12
    -- the answer is marked
    go_wp2_with fail
    have sG12 := HSG.out.to (w' := w12) (fun h => qG12 G (HG1.out h).1 (HG1.out h).2) (fun i hi h0 => qG12 (bl i) (HBL.out i hi).1 (HBL.out i hi).2)
    refine (markRows9_any aG nG HAG.out sG12).mono ?_
    rintro e w13 ⟨rfl, mH, kk13⟩
    have HSH := Lib.hid (sG12.kept kk13)
    have HMH := Lib.hid mH
    have k13 := kk13.wide (T := fun q => w6.heap.size ≤ q) (fun q hq => by obtain ⟨i, hi, rfl⟩ := hq; exact (HBL.out i hi).1)
    have s13 := Nat.le_of_eq k13.size.symm
    have s13r := Nat.le_of_eq k13.size
    have hs6 := HB6.out.size
    have HB13 := Lib.hid (HB12.out.trans (k13.below (fun q hq => by omega)))
    have qM13 := qM12.kept k13 (fun q hq => by omega)
    have qH13 := SameOn.refl w6.heap.size w7.heap.size w13
    have hl0 : 0 ≤ 1 + ((pre9 LG nG : Nat) : Int) := by omega
    clear mH sG12 kk13 k13 qM12 qG12
    go_wp2_with fail
    refine (heldRows9_any aG nG HAG.out HSH.out HMH.out).mono ?_
    rintro e u ⟨rfl, rfl⟩
    obtain ⟨c0, c1⟩ := (HON.out w13 HB13.out).box
    dsimp only at c0 c1
    go_wp2_with fail
    refine (toNet_new ⟨aT, lT, cT, aW, lW, cW⟩ ts rows w13 (HON.out w13 HB13.out).at' HS.out).mono ?_
    rintro e w14 ⟨⟨aT14, lT14, cT14, aW14, lW14, cW14⟩, rfl, at14, _, hb, _⟩
    have s14 := hb.size
    have qM14 := qM13.below hb (by omega)
    have qH14 := qH13.below hb (by omega)
    have HB14 := Lib.hid (HB13.out.trans (hb.mono HB13.out.size))
    clear hb c0 c1 qM13
    go_wp2_with fail
    refine (beginsAt_impl ⟨aT14, lT14, cT14, aW14, lW14, cW14⟩ ts rows r w14 (at14.to (fun b hb => ⟨hb.2, rfl⟩))).mono ?_
    rintro e w15 hZ
    obtain ⟨aZ, nZ, rfl, hb, cZ, _⟩ := begOwn_sep hZ
    rw [HRES.out] at cZ
    have s15 := hb.size
    have qM15 := qM14.below hb (by omega)
    have qH15 := qH14.below hb (by omega)
    have qZ15 := SameOn.refl w14.heap.size w15.heap.size w15
    have HB15 := Lib.hid (HB14.out.trans (hb.mono HB14.out.size))
    clear hb hZ qM14 qH14 at14
    go_wp2_with fail
    refine (eqIntSS_any _ _ _ _ _ _ _ _ ys ys _ (qZ15.rows cZ) (qM15.rows HCM.out)).mono ?_
    rintro e w16 ⟨rfl, d16⟩
    have qH16 := qH15.below (d16.below w15.heap.size) (by omega)
    have HB16 := Lib.hid (HB15.out.trans ((d16.below w15.heap.size).mono HB15.out.size))
    clear qM15 qH15 qZ15 d16 cZ
    go_wp2_with fail
    refine (heldRows9_any aG nG HAG.out (HSH.out.to (w' := w16) (fun h => qH16 G (HG1.out h).1 (HG1.out h).2) (fun i hi h0 => qH16 (bl i) (HBL.out i hi).1 (HBL.out i hi).2)) (HMH.out.to (fun i hi h0 => qH16 (bl i) (HBL.out i hi).1 (HBL.out i hi).2))).mono ?_
    rintro e u ⟨rfl, rfl⟩
    go_wp2_with fail
    go_ret
    exact ⟨rfl, HBW.out.trans (HB16.out.mono HBW.out.size)⟩
  · have hq0 : q < 0 := by omega
    go_wp2_with fail
    go_ret
    exact ⟨rfl, HBW.out.trans (HB2.out.mono HBW.out.size)⟩
end Go.Proofs.Ytkebdelfklmigad
