import Derived.Test.YtkebdelfklmigadRows
import Derived.WalkKit
import Derived.LoopTactic
import Derived.Outline
import Derived.WalkSpells
import Derived.WalkLawsBesides
import Derived.ProofKit
import Derived.Test.YtkebdelfklmigadM0
import Derived.Test.YtkebdelfklmigadM1
import Derived.Test.YtkebdelfklmigadM2
import Derived.Test.YtkebdelfklmigadM5
namespace Go.Proofs.Ytkebdelfklmigad
open Go.RowKit Go.WideShapes Go.Deep

-- nets, in the exact laws
def NetSmall (d : NV) (rows : List (List Int)) : Prop := d.lT ≤ 1048576 ∧ d.lW ≤ 1048576 ∧ ∀ r ∈ rows, r.length ≤ 1048576
def SizePost8 (w : World) (d : NV) (rows : List (List Int)) (e : Ending) (w' : World) : Prop := ∃ q : Int, e = .returned (.int .i64 q) ∧ (0 ≤ q → NetSmall d rows) ∧ Below w.heap.size w w'
set_option maxHeartbeats 1000000 in
theorem szNet_any (d : NV) (ts : List Int) (rows : List (List Int)) (w : World) (h : NetAt w (· < w.heap.size) d ts rows) :
    Calls Try.prog 13 #[.agg #[.slice d.aT d.lT d.cT, .slice d.aW d.lW d.cW], .int .i64 1048576] w (SizePost8 w d rows) := by
  obtain ⟨aT, lT, cT, aW, lW, cW⟩ := d
  obtain ⟨ht, hr, hct, hcw⟩ := h
  have hst := ht.small
  have hb0 := (Below.refl w.heap.size w).alloc (Nat.le_refl _) (.cells #[.slice aT lT cT, .slice aW lW cW] 37)
  have HRA := Lib.hid (hr.below hb0)
  obtain ⟨n0, n1⟩ := netB_new w aT lT cT aW lW cW 37
  dsimp only at hst n0 n1 HRA ⊢
  clear ht hr
  go_enter Try.func13, Try.ntmps13
  go_wp2_with fail
  generalize (w.alloc (.cells #[.slice aT lT cT, .slice aW lW cW] 37)) = w1 at *
  refine (szIntS_any aT lT cT 1048576 w1 (by omega) (by omega) hst).mono ?_
  rintro e w2 ⟨q, rfl, hq1, hq2, rfl⟩
  by_cases hq0 : 0 ≤ q
  · have hq2' := hq2 hq0
    go_wp2_with fail
    refine (szIntSS_any (· < w.heap.size) aW lW cW rows q w1 HRA.out hq0 (by omega)).mono ?_
    rintro e w2 ⟨q3, rfl, hq3, hq4, rfl⟩
    by_cases hq30 : 0 ≤ q3
    · have hq4' := Lib.hid (hq4 hq30)
      clear hq4
      go_wp2_with fail
      go_ret
      exact ⟨q3, rfl, fun _ => ⟨by show lT ≤ _; omega, by have := hq4'.out.1; show lW ≤ _; omega, fun r hr => by have := hq4'.out.2 r hr; omega⟩, hb0⟩
    · go_wp2_with fail
      go_ret
      exact ⟨-1, rfl, fun h => absurd h (by omega), hb0⟩
  · go_wp2_with fail
    go_ret
    exact ⟨-1, rfl, fun h => absurd h (by omega), hb0⟩
def NetCopy (w : World) (ts : List Int) (rows : List (List Int)) (e : Ending) (w' : World) : Prop := ∃ d : NV, e = .returned (.agg #[.slice d.aT d.lT d.cT, .slice d.aW d.lW d.cW]) ∧ NetAt w' (fun b => w.heap.size ≤ b ∧ b < w'.heap.size) d ts rows ∧ NetSmall d rows ∧ Below w.heap.size w w'
  ∧ (∃ lo, w.heap.size ≤ lo ∧ lo < w'.heap.size ∧ Free w' (fun b => b = lo) d.aT d.lT ∧ ∃ lo2, lo < lo2 ∧ lo2 < w'.heap.size ∧ RowsFree w' (fun b => b = lo2) (fun b => lo2 < b ∧ b < w'.heap.size) d.aW d.lW)
theorem toInts_new2 (a : Option Addr) (len cap : Nat) (xs : List Int) (w : World) (h : IntsAt w (· < w.heap.size) a len xs) (hl : len ≤ 1048576) :
    Calls Try.prog 44 #[.slice a len cap] w fun e w' => e = .returned (.slice (some ⟨w.heap.size, 0, none⟩) len len) ∧
      IntsAt w' (fun b => w.heap.size ≤ b ∧ b < w'.heap.size) (some ⟨w.heap.size, 0, none⟩) len xs ∧ Free w' (fun b => b = w.heap.size) (some ⟨w.heap.size, 0, none⟩) len ∧ Below w.heap.size w w' ∧ w'.heap.size = w.heap.size + 1 := by
  refine (toIntS_any _ a len cap xs w h (fun b hb => hb) hl).mono ?_
  rintro e w' ⟨rfl, rfl⟩
  have hle := h.lenEq
  refine ⟨rfl, (IntsAt.lit (W := w) (t := 3) (cs := cellsOf xs) (xs := xs) (by simp [cellsOf]) hle rfl (by omega)).to (fun b hb => ⟨⟨Nat.le_of_eq hb.symm, by rw [hb]; simp⟩, rfl⟩), ⟨by omega, fun _ => ⟨_, 0, rfl, rfl, fun i hi => ?_⟩⟩, (Below.refl _ _).alloc (Nat.le_refl _) _, by simp⟩
  refine ⟨⟨.int .i64 (xs[i]'(by omega)), ?_⟩, World.frozen?_alloc_new w _ _ _⟩
  rw [Nat.zero_add, World.cell?_alloc_new]
  simp only [cellsOf, List.getElem?_toArray, List.getElem?_map, List.getElem?_eq_getElem (show i < xs.length by omega)]; rfl
set_option maxHeartbeats 2000000 in
theorem toNet_new (d : NV) (ts : List Int) (rows : List (List Int)) (w : World) (h : NetAt w (· < w.heap.size) d ts rows) (hs : NetSmall d rows) :
    Calls Try.prog 14 #[.agg #[.slice d.aT d.lT d.cT, .slice d.aW d.lW d.cW]] w (NetCopy w ts rows) := by
  obtain ⟨aT, lT, cT, aW, lW, cW⟩ := d
  obtain ⟨hs1, hs2, hs3⟩ := hs
  have HA := Lib.hid (fun w' (hb : Below w.heap.size w w') => net_lift h hb)
  dsimp only at hs1 hs2 hs3 HA ⊢
  have HS3 := Lib.hid hs3
  have hTL := h.t.lenEq
  have HTL := Lib.hid hTL
  clear h hTL hs3
  have hb1 := (Below.refl w.heap.size w).alloc (Nat.le_refl _) (.cells #[.slice aT lT cT, .slice aW lW cW] 37)
  have hn1 := netB_new w aT lT cT aW lW cW 37
  have hz1 : (w.alloc (.cells #[.slice aT lT cT, .slice aW lW cW] 37)).heap.size = w.heap.size + 1 := by simp
  obtain ⟨w1, hw1⟩ : ∃ w1, (w.alloc (.cells #[.slice aT lT cT, .slice aW lW cW] 37)) = w1 := ⟨_, rfl⟩
  rw [hw1] at hb1 hn1 hz1
  have ht2 := two_new w1 (.slice none 0 0) (.slice none 0 0) 26
  have ht3 := two_new (w1.alloc (.cells #[.slice none 0 0, .slice none 0 0] 26)) (.slice none 0 0) (.slice none 0 0) 26
  have ht2' := ht2.grown (World.grownBy_alloc (w1.alloc (.cells #[.slice none 0 0, .slice none 0 0] 26)) (.cells #[.slice none 0 0, .slice none 0 0] 26) none) (by simp)
  have hb3 := (hb1.alloc (by omega) (.cells #[.slice none 0 0, .slice none 0 0] 26)).alloc (by simp; omega) (.cells #[.slice none 0 0, .slice none 0 0] 26)
  have hn3 : NetB ((w1.alloc (.cells #[.slice none 0 0, .slice none 0 0] 26)).alloc (.cells #[.slice none 0 0, .slice none 0 0] 26)) w.heap.size ⟨aT, lT, cT, aW, lW, cW⟩ := (hn1.block (Below.heap_alloc _ _ _ (by omega))).block (Below.heap_alloc _ _ _ (by simp; omega))
  have hz3 : ((w1.alloc (.cells #[.slice none 0 0, .slice none 0 0] 26)).alloc (.cells #[.slice none 0 0, .slice none 0 0] 26)).heap.size = w.heap.size + 3 := by simp; omega
  have hze : (w1.alloc (.cells #[.slice none 0 0, .slice none 0 0] 26)).heap.size = w.heap.size + 1 + 1 := by simp; omega
  rw [hze] at ht3
  rw [hz1] at ht2'
  obtain ⟨w3, hw3⟩ : ∃ w3, ((w1.alloc (.cells #[.slice none 0 0, .slice none 0 0] 26)).alloc (.cells #[.slice none 0 0, .slice none 0 0] 26)) = w3 := ⟨_, rfl⟩
  rw [hw3] at ht2' ht3 hb3 hn3 hz3
  have HW1 := Lib.hid hw1
  have HW3 := Lib.hid hw3
  have HZ1 := Lib.hid hz1
  have HZE := Lib.hid hze
  have HT2 := Lib.hid ht2'
  have HT3 := Lib.hid ht3
  have HB3 := Lib.hid hb3
  have HN3 := Lib.hid hn3
  have HZ3 := Lib.hid hz3
  clear hw1 hw3 hz1 hze ht2 ht2' ht3 hb1 hb3 hn1 hn3 hz3
  go_enter Try.func14, Try.ntmps14
  go_wp2_with fail
  rw [HW1.out, HW3.out]
  refine (toInts_new2 aT lT cT ts w3 (HA.out w3 HB3.out).t hs1).mono ?_
  rintro e w4 ⟨rfl, i4, f4, b4, hlt4⟩
  rw [HZ3.out] at i4 f4 ⊢
  have hz4 := b4.size
  obtain ⟨⟨g0, z0⟩, g1, z1⟩ := HT3.out.block (b4.block (w.heap.size + 1 + 1) (by have := HZ3.out; omega))
  obtain ⟨n0, n1⟩ := HN3.out.below b4 (by have := HZ3.out; omega)
  have hg5 : w4.grownBy (w4.setCell ⟨w.heap.size + 1 + 1, 0, none⟩ (.slice (some ⟨w.heap.size + 3, 0, none⟩) lT lT)) (some (w.heap.size + 1 + 1)) := grownBy_setCell _ _ _
  have hzz := HZ3.out
  have HT5 := Lib.hid ((HT3.out.block (b4.block (w.heap.size + 1 + 1) (by omega))).set0 (.slice (some ⟨w.heap.size + 3, 0, none⟩) lT lT))
  have HR5 := Lib.hid ((HT2.out.block (b4.block (w.heap.size + 1) (by omega))).grown hg5 (by simp))
  have HN5 := Lib.hid ((HN3.out.below b4 (by omega)).block (hg5.block _ (by omega) (by simp; omega)))
  have HB5 := Lib.hid ((HB3.out.trans (b4.mono (by omega))).setCell (p := ⟨w.heap.size + 1 + 1, 0, none⟩) (by show w.heap.size ≤ w.heap.size + 1 + 1; omega) (.slice (some ⟨w.heap.size + 3, 0, none⟩) lT lT))
  have HI5 := Lib.hid (i4.to (w' := (w4.setCell ⟨w.heap.size + 1 + 1, 0, none⟩ (.slice (some ⟨w.heap.size + 3, 0, none⟩) lT lT))) (S' := fun b => w.heap.size + 3 ≤ b ∧ b < w4.heap.size) (fun b hb => ⟨hb, hg5.block b hb.2 (by simp; omega)⟩))
  have HF5 := Lib.hid (f4.to (w' := (w4.setCell ⟨w.heap.size + 1 + 1, 0, none⟩ (.slice (some ⟨w.heap.size + 3, 0, none⟩) lT lT))) (S' := fun b => b = w.heap.size + 3) (fun b hb => ⟨hb, hg5.block b (by omega) (by simp; omega)⟩))
  have hz5 : (w4.setCell ⟨w.heap.size + 1 + 1, 0, none⟩ (.slice (some ⟨w.heap.size + 3, 0, none⟩) lT lT)).heap.size = w4.heap.size := World.size_setCell _ _ _
  obtain ⟨w5, hw5⟩ : ∃ w5, (w4.setCell ⟨w.heap.size + 1 + 1, 0, none⟩ (.slice (some ⟨w.heap.size + 3, 0, none⟩) lT lT)) = w5 := ⟨_, rfl⟩
  rw [hw5] at HT5 HR5 HN5 HB5 HI5 HF5 hz5
  have HW5 := Lib.hid hw5
  have HZ5 := Lib.hid hz5
  clear hw5 hz5 i4 f4 b4 hg5
  obtain ⟨n0', n1'⟩ := HN5.out
  go_wp2_with fail
  rw [HW5.out]
  refine (toRows_new aW lW cW rows w5 (HA.out w5 HB5.out).r hs2 HS3.out).mono ?_
  rintro e w6 hcr
  have b6 : Below w5.heap.size w5 w6 := by first | exact hcr.2.2.2 | exact hcr.2.2.2.1
  have HRF := Lib.hid hcr.2.2.2.2
  obtain ⟨rfl, i6, l6, _⟩ := hcr
  have hz6 := b6.size
  have h5z := HZ5.out
  have HT6 := Lib.hid (HT5.out.block (b6.block (w.heap.size + 1 + 1) (by omega)))
  have HR6 := Lib.hid (HR5.out.block (b6.block (w.heap.size + 1) (by omega)))
  have HB6 := Lib.hid (HB5.out.trans (b6.mono (by omega)))
  have HI6 := Lib.hid (HI5.out.to (w' := w6) (S' := fun b => w.heap.size + 3 ≤ b ∧ b < w5.heap.size) (fun b hb => ⟨by omega, b6.block b (by omega)⟩))
  have HF6 := Lib.hid (HF5.out.to (w' := w6) (S' := fun b => b = w.heap.size + 3) (fun b hb => ⟨hb, b6.block b (by omega)⟩))
  have HRW6 := Lib.hid i6
  clear i6 b6
  obtain ⟨⟨g0', z0'⟩, g1', z1'⟩ := HT6.out
  have HT7 := Lib.hid (HT6.out.set1 (.slice (some ⟨w5.heap.size, 0, none⟩) lW lW))
  have hg7 : w6.grownBy (w6.setCell ⟨w.heap.size + 1 + 1, 1, none⟩ (.slice (some ⟨w5.heap.size, 0, none⟩) lW lW)) (some (w.heap.size + 1 + 1)) := grownBy_setCell _ _ _
  have HR7 := Lib.hid (HR6.out.grown hg7 (by simp))
  have hz7 : (w6.setCell ⟨w.heap.size + 1 + 1, 1, none⟩ (.slice (some ⟨w5.heap.size, 0, none⟩) lW lW)).heap.size = w6.heap.size := World.size_setCell _ _ _
  have HB7 := Lib.hid (HB6.out.setCell (p := ⟨w.heap.size + 1 + 1, 1, none⟩) (by show w.heap.size ≤ w.heap.size + 1 + 1; omega) (.slice (some ⟨w5.heap.size, 0, none⟩) lW lW))
  obtain ⟨w7, hw7⟩ : ∃ w7, (w6.setCell ⟨w.heap.size + 1 + 1, 1, none⟩ (.slice (some ⟨w5.heap.size, 0, none⟩) lW lW)) = w7 := ⟨_, rfl⟩
  have hfin : NetCopy w ts rows (.returned (.agg #[.slice (some ⟨w.heap.size + 3, 0, none⟩) lT lT, .slice (some ⟨w5.heap.size, 0, none⟩) lW lW])) ((w7.setCell ⟨w.heap.size + 1, 0, none⟩ (.slice (some ⟨w.heap.size + 3, 0, none⟩) lT lT)).setCell ⟨w.heap.size + 1, 1, none⟩ (.slice (some ⟨w5.heap.size, 0, none⟩) lW lW)) := by
    have hgA : w7.grownBy ((w7.setCell ⟨w.heap.size + 1, 0, none⟩ (.slice (some ⟨w.heap.size + 3, 0, none⟩) lT lT)).setCell ⟨w.heap.size + 1, 1, none⟩ (.slice (some ⟨w5.heap.size, 0, none⟩) lW lW)) (some (w.heap.size + 1)) := grown_comp (grownBy_setCell _ _ _) (grownBy_setCell _ _ _)
    rw [hw7] at hg7 hz7
    have hzA : ((w7.setCell ⟨w.heap.size + 1, 0, none⟩ (.slice (some ⟨w.heap.size + 3, 0, none⟩) lT lT)).setCell ⟨w.heap.size + 1, 1, none⟩ (.slice (some ⟨w5.heap.size, 0, none⟩) lW lW)).heap.size = w6.heap.size := by rw [World.size_setCell, World.size_setCell]; exact hz7
    have hblk : ∀ b, w.heap.size + 3 ≤ b → b < w6.heap.size → ((w7.setCell ⟨w.heap.size + 1, 0, none⟩ (.slice (some ⟨w.heap.size + 3, 0, none⟩) lT lT)).setCell ⟨w.heap.size + 1, 1, none⟩ (.slice (some ⟨w5.heap.size, 0, none⟩) lW lW)).heap[b]? = w6.heap[b]? := fun b h1 h2 => (hgA.block b (by omega) (by simp; omega)).trans (hg7.block b h2 (by simp; omega))
    refine ⟨⟨_, lT, lT, _, lW, lW⟩, rfl, ⟨HI6.out.to fun b hb => ⟨⟨by omega, by omega⟩, hblk b hb.1 (by omega)⟩, HRW6.out.to fun b hb => ⟨⟨by omega, by omega⟩, hblk b (by omega) hb.2⟩, Nat.le_refl _, Nat.le_refl _⟩, ⟨hs1, hs2, HS3.out⟩, ((HB7.out.trans (by rw [hw7]; exact Below.refl _ _)).setCell (p := ⟨w.heap.size + 1, 0, none⟩) (Nat.le_succ _) _).setCell (p := ⟨w.heap.size + 1, 1, none⟩) (Nat.le_succ _) _
    , w.heap.size + 3, by omega, by omega, HF6.out.to fun b hb => ⟨hb, hblk b (by omega) (by omega)⟩, w5.heap.size, by omega, by omega, ?_
    ⟩
    have hrf := HRF.out
    refine ⟨hrf.small, fun hp => ?_⟩
    obtain ⟨k, off, hab, hk, hc⟩ := hrf.cells hp
    refine ⟨k, off, hab, hk, fun i hi => ?_⟩
    obtain ⟨a', l, c, e1, e2, e3⟩ := hc i hi
    exact ⟨a', l, c, by rw [World.cell?_of_block (w := w6) (hblk k (by omega) (by omega))]; exact e1, e2, e3.to (fun q hq => ⟨by omega, hblk q (by omega) hq.2⟩)⟩
  rw [← hw7] at hfin
  have HFIN := Lib.hid hfin
  clear hw7 hfin hg7 hz7
  obtain ⟨⟨p0, q0⟩, p1, q1⟩ := HT7.out
  obtain ⟨⟨r0, s0⟩, r1, s1⟩ := HR7.out
  have v0 := ((HR7.out.set0 (.slice (some ⟨w.heap.size + 3, 0, none⟩) lT lT)).set1 (.slice (some ⟨w5.heap.size, 0, none⟩) lW lW)).1.1
  have v1 := ((HR7.out.set0 (.slice (some ⟨w.heap.size + 3, 0, none⟩) lT lT)).set1 (.slice (some ⟨w5.heap.size, 0, none⟩) lW lW)).2.1
  have HV := Lib.hid (And.intro v0 v1)
  clear v0 v1 h5z hlt4 hzz hz4 hz6 l6
  go_wp2_with fail
  obtain ⟨v0, v1⟩ := HV.out
  refine bodyPost_ret (v := .agg #[.slice (some ⟨w.heap.size + 3, 0, none⟩) lT lT, .slice (some ⟨w5.heap.size, 0, none⟩) lW lW]) ?_ rfl HFIN.out
  simp [results, Try.results14, go_sem, v0, v1]
set_option maxHeartbeats 1000000 in
theorem eqNet_any (d d2 : NV) (ts : List Int) (rows : List (List Int)) (w : World) (h : NetAt w (· < w.heap.size) d ts rows) (g : NetAt w (· < w.heap.size) d2 ts rows) :
    Calls Try.prog 16 #[.agg #[.slice d.aT d.lT d.cT, .slice d.aW d.lW d.cW], .agg #[.slice d2.aT d2.lT d2.cT, .slice d2.aW d2.lW d2.cW]] w (valN w (.bool true)) := by
  have HA := Lib.hid (fun w' (hb : Below w.heap.size w w') => And.intro (net_lift h hb) (net_lift g hb))
  obtain ⟨aT, lT, cT, aW, lW, cW⟩ := d
  obtain ⟨aT2, lT2, cT2, aW2, lW2, cW2⟩ := d2
  clear h g
  have hb0 := ((Below.refl w.heap.size w).alloc (Nat.le_refl _) (.cells #[.slice aT lT cT, .slice aW lW cW] 26)).alloc (by simp) (.cells #[.slice aT2 lT2 cT2, .slice aW2 lW2 cW2] 26)
  have hn0 : NetB ((w.alloc (.cells #[.slice aT lT cT, .slice aW lW cW] 26)).alloc (.cells #[.slice aT2 lT2 cT2, .slice aW2 lW2 cW2] 26)) w.heap.size ⟨aT, lT, cT, aW, lW, cW⟩ := (netB_new w aT lT cT aW lW cW 26).block (Below.heap_alloc _ _ _ (by simp))
  have hn1 := netB_new (w.alloc (.cells #[.slice aT lT cT, .slice aW lW cW] 26)) aT2 lT2 cT2 aW2 lW2 cW2 26
  rw [show (w.alloc (.cells #[.slice aT lT cT, .slice aW lW cW] 26)).heap.size = w.heap.size + 1 by simp] at hn1
  have hz0 : ((w.alloc (.cells #[.slice aT lT cT, .slice aW lW cW] 26)).alloc (.cells #[.slice aT2 lT2 cT2, .slice aW2 lW2 cW2] 26)).heap.size = w.heap.size + 2 := by simp
  obtain ⟨w1, hw1⟩ : ∃ w1, ((w.alloc (.cells #[.slice aT lT cT, .slice aW lW cW] 26)).alloc (.cells #[.slice aT2 lT2 cT2, .slice aW2 lW2 cW2] 26)) = w1 := ⟨_, rfl⟩
  rw [hw1] at hb0 hn0 hn1 hz0
  have HW1 := Lib.hid hw1
  have HB0 := Lib.hid hb0
  have HN0 := Lib.hid (And.intro hn0 hn1)
  have HZ0 := Lib.hid hz0
  clear hb0 hn0 hn1 hw1 hz0
  have e1 : eqB ts ts = true := decide_eq_true rfl
  have e2 : eqRB rows rows = true := decide_eq_true rfl
  go_enter Try.func16, Try.ntmps16
  go_wp2_with fail
  rw [HW1.out]
  refine (eqIntS_any _ _ aT aT2 lT cT lT2 cT2 ts ts w1 (HA.out w1 HB0.out).1.t (HA.out w1 HB0.out).2.t).mono ?_
  rintro e w2 ⟨rfl, d2⟩
  have hb2 := d2.below w1.heap.size
  obtain ⟨⟨n0, n1⟩, n2, n3⟩ := And.intro (HN0.out.1.below hb2 (by have := HZ0.out; omega)) (HN0.out.2.below hb2 (by have := HZ0.out; omega))
  have HB2 := Lib.hid (HB0.out.trans (hb2.mono HB0.out.size))
  clear d2 hb2
  go_wp2_with fail
  refine (eqIntSS_any _ _ aW aW2 lW cW lW2 cW2 rows rows w2 (HA.out w2 HB2.out).1.r (HA.out w2 HB2.out).2.r).mono ?_
  rintro e w3 ⟨rfl, d3⟩
  have hb3 := d3.below w2.heap.size
  have HB3 := Lib.hid (HB2.out.trans (hb3.mono HB2.out.size))
  clear d3 hb3
  go_wp2_with fail
  go_ret
  exact ⟨rfl, HB3.out⟩
end Go.Proofs.Ytkebdelfklmigad
