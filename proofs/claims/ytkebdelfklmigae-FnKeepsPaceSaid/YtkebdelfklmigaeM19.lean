import Derived.Test.YtkebdelfklmigaeRows
import Derived.WalkKit
import Derived.LoopTactic
import Derived.Outline
import Derived.WalkSpells
import Derived.WalkLawsBesides
import Derived.ProofKit
import Derived.Test.YtkebdelfklmigaeM0
import Derived.Test.YtkebdelfklmigaeM1
import Derived.Test.YtkebdelfklmigaeM4
import Derived.Test.YtkebdelfklmigaeM5
import Derived.Lib.Hide
import Derived.Test.YtkebdelfklmigaeM11
import Derived.Test.YtkebdelfklmigaeM13
import Derived.Test.YtkebdelfklmigaeM12
import Derived.IntWalk
import Derived.Deep.RegionHeld3
import Derived.Test.YtkebdelfklmigaeM2
import Derived.Test.YtkebdelfklmigaeM3
import Derived.Test.YtkebdelfklmigaeM15
namespace Go.Proofs.Ytkebdelfklmigae
open Go.RowKit Go.WideShapes Go.Deep

-- nets, in the exact laws
def NetSmall (d : NV) (rows : List (List Int)) : Prop := d.lT ≤ 1048576 ∧ d.lW ≤ 1048576 ∧ ∀ r ∈ rows, r.length ≤ 1048576
def SizePost8 (w : World) (d : NV) (rows : List (List Int)) (e : Ending) (w' : World) : Prop := ∃ q : Int, e = .returned (.int .i64 q) ∧ (0 ≤ q → NetSmall d rows) ∧ Below w.heap.size w w'
set_option maxHeartbeats 1000000 in
theorem szNet_any (d : NV) (ts : List Int) (rows : List (List Int)) (w : World) (h : NetAt w (· < w.heap.size) d ts rows) :
    Calls Try.prog 12 #[.agg #[.slice d.aT d.lT d.cT, .slice d.aW d.lW d.cW], .int .i64 1048576] w (SizePost8 w d rows) := by
  obtain ⟨aT, lT, cT, aW, lW, cW⟩ := d
  obtain ⟨ht, hr, hct, hcw⟩ := h
  have hst := ht.small
  have hb0 := (Below.refl w.heap.size w).alloc (Nat.le_refl _) (.cells #[.slice aT lT cT, .slice aW lW cW] 35)
  have HRA := Lib.hid (hr.below hb0)
  obtain ⟨n0, n1⟩ := netB_new w aT lT cT aW lW cW 35
  dsimp only at hst n0 n1 HRA ⊢
  clear ht hr
  go_enter Try.func12, Try.ntmps12
  go_wp2_with fail
  generalize (w.alloc (.cells #[.slice aT lT cT, .slice aW lW cW] 35)) = w1 at *
  refine (szIntS_any aT lT cT 1048576 w1 (by omega) (by omega) hst).mono ?_
  rintro e w2 ⟨q, rfl, hq1, hq2, rfl⟩
  by_cases hq0 : 0 ≤ q
  · have hq2' := hq2 hq0
    go_wp2_with fail
    refine (szIntSS_any (· < w.heap.size) aW lW cW rows q w1 HRA.out hq0 (by omega)).mono ?_
    rintro e w2 ⟨q3, rfl, hq3, hq4, rfl⟩
    by_cases hq30 : 0 ≤ q3
    · have hq4' := Lib.hid (hq4 hq30)
      clear hq4
      go_wp2_with fail
      go_ret
      exact ⟨q3, rfl, fun _ => ⟨by show lT ≤ _; omega, by have := hq4'.out.1; show lW ≤ _; omega, fun r hr => by have := hq4'.out.2 r hr; omega⟩, hb0⟩
    · go_wp2_with fail
      go_ret
      exact ⟨-1, rfl, fun h => absurd h (by omega), hb0⟩
  · go_wp2_with fail
    go_ret
    exact ⟨-1, rfl, fun h => absurd h (by omega), hb0⟩
def NetCopy (w : World) (ts : List Int) (rows : List (List Int)) (e : Ending) (w' : World) : Prop := ∃ d : NV, e = .returned (.agg #[.slice d.aT d.lT d.cT, .slice d.aW d.lW d.cW]) ∧ NetAt w' (fun b => w.heap.size ≤ b ∧ b < w'.heap.size) d ts rows ∧ NetSmall d rows ∧ Below w.heap.size w w'
theorem toInts_new2 (a : Option Addr) (len cap : Nat) (xs : List Int) (w : World) (h : IntsAt w (· < w.heap.size) a len xs) (hl : len ≤ 1048576) :
    Calls Try.prog 40 #[.slice a len cap] w fun e w' => e = .returned (.slice (some ⟨w.heap.size, 0, none⟩) len len) ∧
      IntsAt w' (fun b => w.heap.size ≤ b ∧ b < w'.heap.size) (some ⟨w.heap.size, 0, none⟩) len xs ∧ Free w' (fun b => b = w.heap.size) (some ⟨w.heap.size, 0, none⟩) len ∧ Below w.heap.size w w' ∧ w'.heap.size = w.heap.size + 1 := by
  refine (toIntS_any _ a len cap xs w h (fun b hb => hb) hl).mono ?_
  rintro e w' ⟨rfl, rfl⟩
  have hle := h.lenEq
  refine ⟨rfl, (IntsAt.lit (W := w) (t := 3) (cs := cellsOf xs) (xs := xs) (by simp [cellsOf]) hle rfl (by omega)).to (fun b hb => ⟨⟨Nat.le_of_eq hb.symm, by rw [hb]; simp⟩, rfl⟩), ⟨by omega, fun _ => ⟨_, 0, rfl, rfl, fun i hi => ?_⟩⟩, (Below.refl _ _).alloc (Nat.le_refl _) _, by simp⟩
  refine ⟨⟨.int .i64 (xs[i]'(by omega)), ?_⟩, World.frozen?_alloc_new w _ _ _⟩
  rw [Nat.zero_add, World.cell?_alloc_new]
  simp only [cellsOf, List.getElem?_toArray, List.getElem?_map, List.getElem?_eq_getElem (show i < xs.length by omega)]; rfl
set_option maxHeartbeats 2000000 in
theorem toNet_new (d : NV) (ts : List Int) (rows : List (List Int)) (w : World) (h : NetAt w (· < w.heap.size) d ts rows) (hs : NetSmall d rows) :
    Calls Try.prog 13 #[.agg #[.slice d.aT d.lT d.cT, .slice d.aW d.lW d.cW]] w (NetCopy w ts rows) := by
  obtain ⟨aT, lT, cT, aW, lW, cW⟩ := d
  obtain ⟨hs1, hs2, hs3⟩ := hs
  have HA := Lib.hid (fun w' (hb : Below w.heap.size w w') => net_lift h hb)
  dsimp only at hs1 hs2 hs3 HA ⊢
  have HS3 := Lib.hid hs3
  have hTL := h.t.lenEq
  have HTL := Lib.hid hTL
  clear h hTL hs3
  have hb1 := (Below.refl w.heap.size w).alloc (Nat.le_refl _) (.cells #[.slice aT lT cT, .slice aW lW cW] 35)
  have hn1 := netB_new w aT lT cT aW lW cW 35
  have hz1 : (w.alloc (.cells #[.slice aT lT cT, .slice aW lW cW] 35)).heap.size = w.heap.size + 1 := by simp
  obtain ⟨w1, hw1⟩ : ∃ w1, (w.alloc (.cells #[.slice aT lT cT, .slice aW lW cW] 35)) = w1 := ⟨_, rfl⟩
  rw [hw1] at hb1 hn1 hz1
  have ht2 := two_new w1 (.slice none 0 0) (.slice none 0 0) 26
  have ht3 := two_new (w1.alloc (.cells #[.slice none 0 0, .slice none 0 0] 26)) (.slice none 0 0) (.slice none 0 0) 26
  have ht2' := ht2.grown (World.grownBy_alloc (w1.alloc (.cells #[.slice none 0 0, .slice none 0 0] 26)) (.cells #[.slice none 0 0, .slice none 0 0] 26) none) (by simp)
  have hb3 := (hb1.alloc (by omega) (.cells #[.slice none 0 0, .slice none 0 0] 26)).alloc (by simp; omega) (.cells #[.slice none 0 0, .slice none 0 0] 26)
  have hn3 : NetB ((w1.alloc (.cells #[.slice none 0 0, .slice none 0 0] 26)).alloc (.cells #[.slice none 0 0, .slice none 0 0] 26)) w.heap.size ⟨aT, lT, cT, aW, lW, cW⟩ := (hn1.block (Below.heap_alloc _ _ _ (by omega))).block (Below.heap_alloc _ _ _ (by simp; omega))
  have hz3 : ((w1.alloc (.cells #[.slice none 0 0, .slice none 0 0] 26)).alloc (.cells #[.slice none 0 0, .slice none 0 0] 26)).heap.size = w.heap.size + 3 := by simp; omega
  have hze : (w1.alloc (.cells #[.slice none 0 0, .slice none 0 0] 26)).heap.size = w.heap.size + 1 + 1 := by simp; omega
  rw [hze] at ht3
  rw [hz1] at ht2'
  obtain ⟨w3, hw3⟩ : ∃ w3, ((w1.alloc (.cells #[.slice none 0 0, .slice none 0 0] 26)).alloc (.cells #[.slice none 0 0, .slice none 0 0] 26)) = w3 := ⟨_, rfl⟩
  rw [hw3] at ht2' ht3 hb3 hn3 hz3
  have HW1 := Lib.hid hw1
  have HW3 := Lib.hid hw3
  have HZ1 := Lib.hid hz1
  have HZE := Lib.hid hze
  have HT2 := Lib.hid ht2'
  have HT3 := Lib.hid ht3
  have HB3 := Lib.hid hb3
  have HN3 := Lib.hid hn3
  have HZ3 := Lib.hid hz3
  clear hw1 hw3 hz1 hze ht2 ht2' ht3 hb1 hb3 hn1 hn3 hz3
  go_enter Try.func13, Try.ntmps13
  go_wp2_with fail
  rw [HW1.out, HW3.out]
  refine (toInts_new2 aT lT cT ts w3 (HA.out w3 HB3.out).t hs1).mono ?_
  rintro e w4 ⟨rfl, i4, f4, b4, hlt4⟩
  rw [HZ3.out] at i4 f4 ⊢
  have hz4 := b4.size
  obtain ⟨⟨g0, z0⟩, g1, z1⟩ := HT3.out.block (b4.block (w.heap.size + 1 + 1) (by have := HZ3.out; omega))
  obtain ⟨n0, n1⟩ := HN3.out.below b4 (by have := HZ3.out; omega)
  have hg5 : w4.grownBy (w4.setCell ⟨w.heap.size + 1 + 1, 0, none⟩ (.slice (some ⟨w.heap.size + 3, 0, none⟩) lT lT)) (some (w.heap.size + 1 + 1)) := grownBy_setCell _ _ _
  have hzz := HZ3.out
  have HT5 := Lib.hid ((HT3.out.block (b4.block (w.heap.size + 1 + 1) (by omega))).set0 (.slice (some ⟨w.heap.size + 3, 0, none⟩) lT lT))
  have HR5 := Lib.hid ((HT2.out.block (b4.block (w.heap.size + 1) (by omega))).grown hg5 (by simp))
  have HN5 := Lib.hid ((HN3.out.below b4 (by omega)).block (hg5.block _ (by omega) (by simp; omega)))
  have HB5 := Lib.hid ((HB3.out.trans (b4.mono (by omega))).setCell (p := ⟨w.heap.size + 1 + 1, 0, none⟩) (by show w.heap.size ≤ w.heap.size + 1 + 1; omega) (.slice (some ⟨w.heap.size + 3, 0, none⟩) lT lT))
  have HI5 := Lib.hid (i4.to (w' := (w4.setCell ⟨w.heap.size + 1 + 1, 0, none⟩ (.slice (some ⟨w.heap.size + 3, 0, none⟩) lT lT))) (S' := fun b => w.heap.size + 3 ≤ b ∧ b < w4.heap.size) (fun b hb => ⟨hb, hg5.block b hb.2 (by simp; omega)⟩))
  have HF5 := Lib.hid (f4.to (w' := (w4.setCell ⟨w.heap.size + 1 + 1, 0, none⟩ (.slice (some ⟨w.heap.size + 3, 0, none⟩) lT lT))) (S' := fun b => b = w.heap.size + 3) (fun b hb => ⟨hb, hg5.block b (by omega) (by simp; omega)⟩))
  have hz5 : (w4.setCell ⟨w.heap.size + 1 + 1, 0, none⟩ (.slice (some ⟨w.heap.size + 3, 0, none⟩) lT lT)).heap.size = w4.heap.size := World.size_setCell _ _ _
  obtain ⟨w5, hw5⟩ : ∃ w5, (w4.setCell ⟨w.heap.size + 1 + 1, 0, none⟩ (.slice (some ⟨w.heap.size + 3, 0, none⟩) lT lT)) = w5 := ⟨_, rfl⟩
  rw [hw5] at HT5 HR5 HN5 HB5 HI5 HF5 hz5
  have HW5 := Lib.hid hw5
  have HZ5 := Lib.hid hz5
  clear hw5 hz5 i4 f4 b4 hg5
  obtain ⟨n0', n1'⟩ := HN5.out
  go_wp2_with fail
  rw [HW5.out]
  refine (toRows_new aW lW cW rows w5 (HA.out w5 HB5.out).r hs2 HS3.out).mono ?_
  rintro e w6 hcr
  have b6 : Below w5.heap.size w5 w6 := by first | exact hcr.2.2.2 | exact hcr.2.2.2.1
  obtain ⟨rfl, i6, l6, _⟩ := hcr
  have hz6 := b6.size
  have h5z := HZ5.out
  have HT6 := Lib.hid (HT5.out.block (b6.block (w.heap.size + 1 + 1) (by omega)))
  have HR6 := Lib.hid (HR5.out.block (b6.block (w.heap.size + 1) (by omega)))
  have HB6 := Lib.hid (HB5.out.trans (b6.mono (by omega)))
  have HI6 := Lib.hid (HI5.out.to (w' := w6) (S' := fun b => w.heap.size + 3 ≤ b ∧ b < w5.heap.size) (fun b hb => ⟨by omega, b6.block b (by omega)⟩))
  have HF6 := Lib.hid (HF5.out.to (w' := w6) (S' := fun b => b = w.heap.size + 3) (fun b hb => ⟨hb, b6.block b (by omega)⟩))
  have HRW6 := Lib.hid i6
  clear i6 b6
  obtain ⟨⟨g0', z0'⟩, g1', z1'⟩ := HT6.out
  have HT7 := Lib.hid (HT6.out.set1 (.slice (some ⟨w5.heap.size, 0, none⟩) lW lW))
  have hg7 : w6.grownBy (w6.setCell ⟨w.heap.size + 1 + 1, 1, none⟩ (.slice (some ⟨w5.heap.size, 0, none⟩) lW lW)) (some (w.heap.size + 1 + 1)) := grownBy_setCell _ _ _
  have HR7 := Lib.hid (HR6.out.grown hg7 (by simp))
  have hz7 : (w6.setCell ⟨w.heap.size + 1 + 1, 1, none⟩ (.slice (some ⟨w5.heap.size, 0, none⟩) lW lW)).heap.size = w6.heap.size := World.size_setCell _ _ _
  have HB7 := Lib.hid (HB6.out.setCell (p := ⟨w.heap.size + 1 + 1, 1, none⟩) (by show w.heap.size ≤ w.heap.size + 1 + 1; omega) (.slice (some ⟨w5.heap.size, 0, none⟩) lW lW))
  obtain ⟨w7, hw7⟩ : ∃ w7, (w6.setCell ⟨w.heap.size + 1 + 1, 1, none⟩ (.slice (some ⟨w5.heap.size, 0, none⟩) lW lW)) = w7 := ⟨_, rfl⟩
  have hfin : NetCopy w ts rows (.returned (.agg #[.slice (some ⟨w.heap.size + 3, 0, none⟩) lT lT, .slice (some ⟨w5.heap.size, 0, none⟩) lW lW])) ((w7.setCell ⟨w.heap.size + 1, 0, none⟩ (.slice (some ⟨w.heap.size + 3, 0, none⟩) lT lT)).setCell ⟨w.heap.size + 1, 1, none⟩ (.slice (some ⟨w5.heap.size, 0, none⟩) lW lW)) := by
    have hgA : w7.grownBy ((w7.setCell ⟨w.heap.size + 1, 0, none⟩ (.slice (some ⟨w.heap.size + 3, 0, none⟩) lT lT)).setCell ⟨w.heap.size + 1, 1, none⟩ (.slice (some ⟨w5.heap.size, 0, none⟩) lW lW)) (some (w.heap.size + 1)) := grown_comp (grownBy_setCell _ _ _) (grownBy_setCell _ _ _)
    rw [hw7] at hg7 hz7
    have hzA : ((w7.setCell ⟨w.heap.size + 1, 0, none⟩ (.slice (some ⟨w.heap.size + 3, 0, none⟩) lT lT)).setCell ⟨w.heap.size + 1, 1, none⟩ (.slice (some ⟨w5.heap.size, 0, none⟩) lW lW)).heap.size = w6.heap.size := by rw [World.size_setCell, World.size_setCell]; exact hz7
    have hblk : ∀ b, w.heap.size + 3 ≤ b → b < w6.heap.size → ((w7.setCell ⟨w.heap.size + 1, 0, none⟩ (.slice (some ⟨w.heap.size + 3, 0, none⟩) lT lT)).setCell ⟨w.heap.size + 1, 1, none⟩ (.slice (some ⟨w5.heap.size, 0, none⟩) lW lW)).heap[b]? = w6.heap[b]? := fun b h1 h2 => (hgA.block b (by omega) (by simp; omega)).trans (hg7.block b h2 (by simp; omega))
    refine ⟨⟨_, lT, lT, _, lW, lW⟩, rfl, ⟨HI6.out.to fun b hb => ⟨⟨by omega, by omega⟩, hblk b hb.1 (by omega)⟩, HRW6.out.to fun b hb => ⟨⟨by omega, by omega⟩, hblk b (by omega) hb.2⟩, Nat.le_refl _, Nat.le_refl _⟩, ⟨hs1, hs2, HS3.out⟩, ((HB7.out.trans (by rw [hw7]; exact Below.refl _ _)).setCell (p := ⟨w.heap.size + 1, 0, none⟩) (Nat.le_succ _) _).setCell (p := ⟨w.heap.size + 1, 1, none⟩) (Nat.le_succ _) _
    ⟩
  rw [← hw7] at hfin
  have HFIN := Lib.hid hfin
  clear hw7 hfin hg7 hz7
  obtain ⟨⟨p0, q0⟩, p1, q1⟩ := HT7.out
  obtain ⟨⟨r0, s0⟩, r1, s1⟩ := HR7.out
  have v0 := ((HR7.out.set0 (.slice (some ⟨w.heap.size + 3, 0, none⟩) lT lT)).set1 (.slice (some ⟨w5.heap.size, 0, none⟩) lW lW)).1.1
  have v1 := ((HR7.out.set0 (.slice (some ⟨w.heap.size + 3, 0, none⟩) lT lT)).set1 (.slice (some ⟨w5.heap.size, 0, none⟩) lW lW)).2.1
  have HV := Lib.hid (And.intro v0 v1)
  clear v0 v1 h5z hlt4 hzz hz4 hz6 l6
  go_wp2_with fail
  obtain ⟨v0, v1⟩ := HV.out
  refine bodyPost_ret (v := .agg #[.slice (some ⟨w.heap.size + 3, 0, none⟩) lT lT, .slice (some ⟨w5.heap.size, 0, none⟩) lW lW]) ?_ rfl HFIN.out
  simp [results, Try.results13, go_sem, v0, v1]
set_option maxHeartbeats 1000000 in
theorem eqNet_any (d d2 : NV) (ts : List Int) (rows : List (List Int)) (w : World) (h : NetAt w (· < w.heap.size) d ts rows) (g : NetAt w (· < w.heap.size) d2 ts rows) :
    Calls Try.prog 15 #[.agg #[.slice d.aT d.lT d.cT, .slice d.aW d.lW d.cW], .agg #[.slice d2.aT d2.lT d2.cT, .slice d2.aW d2.lW d2.cW]] w (valN w (.bool true)) := by
  have HA := Lib.hid (fun w' (hb : Below w.heap.size w w') => And.intro (net_lift h hb) (net_lift g hb))
  obtain ⟨aT, lT, cT, aW, lW, cW⟩ := d
  obtain ⟨aT2, lT2, cT2, aW2, lW2, cW2⟩ := d2
  clear h g
  have hb0 := ((Below.refl w.heap.size w).alloc (Nat.le_refl _) (.cells #[.slice aT lT cT, .slice aW lW cW] 26)).alloc (by simp) (.cells #[.slice aT2 lT2 cT2, .slice aW2 lW2 cW2] 26)
  have hn0 : NetB ((w.alloc (.cells #[.slice aT lT cT, .slice aW lW cW] 26)).alloc (.cells #[.slice aT2 lT2 cT2, .slice aW2 lW2 cW2] 26)) w.heap.size ⟨aT, lT, cT, aW, lW, cW⟩ := (netB_new w aT lT cT aW lW cW 26).block (Below.heap_alloc _ _ _ (by simp))
  have hn1 := netB_new (w.alloc (.cells #[.slice aT lT cT, .slice aW lW cW] 26)) aT2 lT2 cT2 aW2 lW2 cW2 26
  rw [show (w.alloc (.cells #[.slice aT lT cT, .slice aW lW cW] 26)).heap.size = w.heap.size + 1 by simp] at hn1
  have hz0 : ((w.alloc (.cells #[.slice aT lT cT, .slice aW lW cW] 26)).alloc (.cells #[.slice aT2 lT2 cT2, .slice aW2 lW2 cW2] 26)).heap.size = w.heap.size + 2 := by simp
  obtain ⟨w1, hw1⟩ : ∃ w1, ((w.alloc (.cells #[.slice aT lT cT, .slice aW lW cW] 26)).alloc (.cells #[.slice aT2 lT2 cT2, .slice aW2 lW2 cW2] 26)) = w1 := ⟨_, rfl⟩
  rw [hw1] at hb0 hn0 hn1 hz0
  have HW1 := Lib.hid hw1
  have HB0 := Lib.hid hb0
  have HN0 := Lib.hid (And.intro hn0 hn1)
  have HZ0 := Lib.hid hz0
  clear hb0 hn0 hn1 hw1 hz0
  have e1 : eqB ts ts = true := decide_eq_true rfl
  have e2 : eqRB rows rows = true := decide_eq_true rfl
  go_enter Try.func15, Try.ntmps15
  go_wp2_with fail
  rw [HW1.out]
  refine (eqIntS_any _ _ aT aT2 lT cT lT2 cT2 ts ts w1 (HA.out w1 HB0.out).1.t (HA.out w1 HB0.out).2.t).mono ?_
  rintro e w2 ⟨rfl, d2⟩
  have hb2 := d2.below w1.heap.size
  obtain ⟨⟨n0, n1⟩, n2, n3⟩ := And.intro (HN0.out.1.below hb2 (by have := HZ0.out; omega)) (HN0.out.2.below hb2 (by have := HZ0.out; omega))
  have HB2 := Lib.hid (HB0.out.trans (hb2.mono HB0.out.size))
  clear d2 hb2
  go_wp2_with fail
  refine (eqIntSS_any _ _ aW aW2 lW cW lW2 cW2 rows rows w2 (HA.out w2 HB2.out).1.r (HA.out w2 HB2.out).2.r).mono ?_
  rintro e w3 ⟨rfl, d3⟩
  have hb3 := d3.below w2.heap.size
  have HB3 := Lib.hid (HB2.out.trans (hb3.mono HB2.out.size))
  clear d3 hb3
  go_wp2_with fail
  go_ret
  exact ⟨rfl, HB3.out⟩
end Go.Proofs.Ytkebdelfklmigae
namespace Go.Proofs.Ytkebdelfklmigae
open Go.RowKit

theorem fU_le (T C : Nat) : fU T C ≤ T := Nat.div_le_self _ _
theorem fD_le (T C : Nat) : fD T C ≤ C := Nat.div_le_self _ _
theorem f_less {T C : Nat} (hC : 1 ≤ C) (U D : Nat) : (fU T C : Int) * D < (U : Int) * fD T C ↔ (T : Int) * D < (U : Int) * C := by
  have h1 : fU T C * Nat.gcd T C = T := Nat.div_mul_cancel (Nat.gcd_dvd_left T C)
  have h2 : fD T C * Nat.gcd T C = C := Nat.div_mul_cancel (Nat.gcd_dvd_right T C)
  have hg : 0 < Nat.gcd T C := Nat.gcd_pos_of_pos_right _ hC
  have key : fU T C * D < U * fD T C ↔ T * D < U * C := by
    obtain ⟨g, hgg⟩ : ∃ g, Nat.gcd T C = g := ⟨_, rfl⟩
    obtain ⟨u, hu⟩ : ∃ u, fU T C = u := ⟨_, rfl⟩
    obtain ⟨d, hd⟩ : ∃ d, fD T C = d := ⟨_, rfl⟩
    rw [hgg] at h1 h2 hg
    rw [hu] at h1 ⊢
    rw [hd] at h2 ⊢
    subst h1 h2
    rw [show u * g * D = (u * D) * g by rw [Nat.mul_assoc, Nat.mul_comm g D, ← Nat.mul_assoc], show U * (d * g) = (U * d) * g by rw [Nat.mul_assoc]]
    exact (Nat.mul_lt_mul_right hg).symm
  constructor
  · intro h; exact_mod_cast key.1 (by exact_mod_cast h)
  · intro h; exact_mod_cast key.2 (by exact_mod_cast h)
theorem keep_less {ts : List Int} {rows : List (List Int)} {U D up down : Nat} (hv : tokM ts rows = true) (hok : (grOf ts rows).Ok) (h : IsPace (grOf ts rows) U D) (hu : up ≤ 40) (hd : 1 ≤ down) (hd2 : down ≤ 40) :
    keepRes ts rows (up : Int) (down : Int) = !decide ((fU up down : Int) * D < (U : Int) * fD up down) := by
  unfold keepRes
  rw [hv, inB_true (by omega) (by omega), inB_true (by omega) (by omega), Bool.true_and, Bool.true_and, Bool.true_and]
  have hk := pace_keeps h (up := (up : Int)) (down := (down : Int)) (by omega) (by omega)
  have hb := keepB_iff (g := grOf ts rows) (up := (up : Int)) (down := (down : Int)) hok
  rw [Bool.eq_iff_iff, hb, hk, Bool.not_eq_true', decide_eq_false_iff_not, f_less hd, Int.not_lt]
end Go.Proofs.Ytkebdelfklmigae
namespace Go.Proofs.Ytkebdelfklmigae
open Go.RowKit Go.WideShapes
/-- a drawn net and two numbers -/
def DrawnNUD (w : World) (e : Ending) (w' : World) : Prop := ∃ (d : NV) (ts : List Int) (rows : List (List Int)) (up down : Nat), e = .returned (.tuple #[.agg #[.slice d.aT d.lT d.cT, .slice d.aW d.lW d.cW], .int .i64 up, .int .i64 down]) ∧ NetAt w' (· < w'.heap.size) d ts rows ∧ d.lT ≤ 4 ∧ d.lW ≤ 8 ∧ up ≤ 41 ∧ down ≤ 40 ∧ Below w.heap.size w w'
/-- what lay at A lies, but for two blocks -/
def Lie (A : World) (R T : Nat) (w : World) : Prop := A.heap.size ≤ w.heap.size ∧ ∀ b, b < A.heap.size → b ≠ R → b ≠ T → w.heap[b]? = A.heap[b]?
theorem Lie.refl (A : World) (R T : Nat) : Lie A R T A := ⟨Nat.le_refl _, fun _ _ _ _ => rfl⟩
theorem Lie.grown {A w w' : World} {R T : Nat} (h : Lie A R T w) (g : w.grownBy w' (some R)) : Lie A R T w' :=
  ⟨Nat.le_trans h.1 g.size, fun b hb h1 h2 => (g.block b (Nat.lt_of_lt_of_le hb h.1) (fun e => h1 (Option.some.inj e))).trans (h.2 b hb h1 h2)⟩
theorem Lie.below {A w w' : World} {R T : Nat} (h : Lie A R T w) (g : Below w.heap.size w w') : Lie A R T w' :=
  ⟨Nat.le_trans h.1 g.size, fun b hb h1 h2 => (g.block b (Nat.lt_of_lt_of_le hb h.1)).trans (h.2 b hb h1 h2)⟩
theorem Lie.alloc {A w : World} {R T : Nat} (h : Lie A R T w) (o : Obj) : Lie A R T (w.alloc o) := h.below ((Below.refl _ _).alloc (Nat.le_refl _) _)
theorem Lie.drew {A w : World} {R T : Nat} (h : Lie A R T w) : Lie A R T w.drew := h.below (Below.refl _ _).drew
theorem Lie.set {A w : World} {R T : Nat} (h : Lie A R T w) (i : Nat) (x : Value) : Lie A R T (w.setCell ⟨T, i, none⟩ x) :=
  ⟨by simp only [World.size_setCell]; exact h.1, fun b hb h1 h2 => (Below.heap_setCell _ _ _ _ (by show b ≠ T; exact h2)).trans (h.2 b hb h1 h2)⟩
theorem Lie.trans {A B w : World} {R T : Nat} (h : Lie A R T B) (g : Lie B R T w) : Lie A R T w :=
  ⟨Nat.le_trans h.1 g.1, fun b hb h1 h2 => (g.2 b (Nat.lt_of_lt_of_le hb h.1) h1 h2).trans (h.2 b hb h1 h2)⟩
theorem below_g {w w1 w2 : World} {R : Nat} (h : Below w.heap.size w w1) (g : w1.grownBy w2 (some R)) (hR : w.heap.size ≤ R) : Below w.heap.size w w2 :=
  h.trans ⟨g.os, g.tape, g.output, g.size, fun k hk => g.block k (Nat.lt_of_lt_of_le hk h.size) (by simp; omega)⟩
theorem ud_n {n : Int} (h : n ∈ [5, 8, 3, 12, 0, 1, 40, 41]) : ∃ m : Nat, n = (m : Int) ∧ m ≤ 41 := by
  simp at h
  exact ⟨n.toNat, by omega, by omega⟩
theorem dn_n {n : Int} (h : n ∈ [1, 2, 3, 1, 40, 0]) : ∃ m : Nat, n = (m : Int) ∧ m ≤ 40 := by
  simp at h
  exact ⟨n.toNat, by omega, by omega⟩
set_option maxRecDepth 100000 in
set_option maxHeartbeats 4000000 in
theorem drawKeepsPace_any (a : Option Addr) (len cap : Nat) (w : World) (hb : BytesAt w w.heap.size a len) (hl : len ≤ cap) (hs : len ≤ 9223372036854775807) :
    Calls Try.prog 16 #[.slice a len cap] w (DrawnNUD w) := by
  have hb0 := (Below.refl w.heap.size w).alloc (Nat.le_refl _) (.cells #[.slice none 0 0, .slice none 0 0] 26)
  have ht0 := two_new w (.slice none 0 0) (.slice none 0 0) 26
  obtain ⟨w0, hw0⟩ : ∃ w0, w.alloc (.cells #[.slice none 0 0, .slice none 0 0] 26) = w0 := ⟨_, rfl⟩
  rw [hw0] at hb0 ht0
  have HW0 := Lib.hid hw0
  clear hw0
  go_enter Try.func16, Try.ntmps16
  go_wp2_with fail
  rw [HW0.out]
  refine (newReader_any a len cap w0 (bytes_up hb hb0) hl hs).mono ?_
  rintro e w1 ⟨rfl, hr, hb1⟩
  go_wp2_with fail
  refine (someNet_any w0.heap.size 0 w1 hr (by omega)).mono ?_
  rintro e w2 ⟨⟨aT, lT, cT, aW, lW, cW⟩, ts, rows, p2, rfl, h1, h2, h3, hr2, hp2, hg⟩
  dsimp only at h2 h3
  have hlt0 := ht0.lt
  have hw1s := hb1.size
  have hw2s := hg.size
  have hltR := hr.lt
  have hbb : Below w.heap.size w w2 := hb0.trans (hb1.mono hb0.size |>.trans (grown_below hg (Below.refl _ _) (by omega) |>.mono hb0.size))
  have ht2 : Two w2 w.heap.size (.slice none 0 0) (.slice none 0 0) := (ht0.block (hb1.block _ hlt0)).grown hg (by simp; omega)
  obtain ⟨R, hR⟩ : ∃ R, w0.heap.size = R := ⟨_, rfl⟩
  rw [hR] at hr2 hltR hlt0
  have nb3 := netB_new w2 aT lT cT aW lW cW 26
  have hb3 := hbb.alloc (by omega) (.cells #[.slice aT lT cT, .slice aW lW cW] 26)
  have ht3 : Two (w2.alloc (.cells #[.slice aT lT cT, .slice aW lW cW] 26)) w.heap.size (.slice none 0 0) (.slice none 0 0) := ht2.block (Below.heap_alloc _ _ _ ht2.lt)
  have hr3 := hr2.alloc (.cells #[.slice aT lT cT, .slice aW lW cW] 26)
  have hz3 : (w2.alloc (.cells #[.slice aT lT cT, .slice aW lW cW] 26)).heap.size = w2.heap.size + 1 := by simp
  have hn3 : NetAt (w2.alloc (.cells #[.slice aT lT cT, .slice aW lW cW] 26)) (fun b => b < w2.heap.size ∧ b ≠ R ∧ b ≠ w.heap.size) ⟨aT, lT, cT, aW, lW, cW⟩ ts rows := h1.to fun b hb => ⟨⟨hb.2, by have := hb.1; omega, by have := hb.1; omega⟩, Below.heap_alloc _ _ _ hb.2⟩
  obtain ⟨w3, hw3⟩ : ∃ w3, w2.alloc (.cells #[.slice aT lT cT, .slice aW lW cW] 26) = w3 := ⟨_, rfl⟩
  rw [hw3] at nb3 hb3 ht3 hr3 hz3 hn3
  have HW3 := Lib.hid hw3
  have HLR : Hid (w.heap.size < R ∧ R < w2.heap.size) := Lib.hid (by rw [← hR]; have := hr2.lt; have := ht0.lt; omega)
  have HRE := Lib.hid hR
  have NB3 := Lib.hid nb3
  have NA3 := Lib.hid hn3
  have TT3 := Lib.hid ht3
  have HZ3 := Lib.hid hz3
  clear hw3 hbb ht2 nb3 ht3 hz3 hn3 hR hg h1 hr2 hr hb1 hb0 ht0 hw1s hw2s hltR hlt0 hb
  go_wp2_with fail
  rw [HRE.out, HW3.out, ← HZ3.out]
  refine (one_any (fun b => b = w3.heap.size) R p2 _ 8 8 [5, 8, 3, 12, 0, 1, 40, 41] _ (hr3.alloc _) (IntsAt.lit rfl rfl rfl (by omega)) (by intro b hb; have := hr3.lt; simp; omega) (by omega) (by omega)).mono ?_
  rintro e w4 ⟨n, hn, rfl, hr4, hg4⟩
  obtain ⟨up, rfl, hup⟩ := ud_n hn
  have hx4 : w3.grownBy w4 (some R) := grown_r (World.grownBy_alloc w3 _ _) hg4
  have ht4 := TT3.out.grown hx4 (by have := HLR.out; simp; omega)
  have hl4 := (Lie.refl w3 R w.heap.size).grown hx4
  have hb4 : Below w.heap.size w w4 := below_g hb3 hx4 (by have := HLR.out; omega)
  clear hn hg4 hx4 hr3 hb3
  go_wp2_with fail
  refine (one_any (fun b => b = w4.heap.size) R (p2 + 1) _ 6 6 [1, 2, 3, 1, 40, 0] _ (hr4.alloc _) (IntsAt.lit rfl rfl rfl (by omega)) (by intro b hb; have := hr4.lt; simp; omega) (by omega) (by omega)).mono ?_
  rintro e w5 ⟨n, hn, rfl, hr5, hg5⟩
  obtain ⟨down, rfl, hdn⟩ := dn_n hn
  have hx5 : w4.grownBy w5 (some R) := grown_r (World.grownBy_alloc w4 _ _) hg5
  have ht5 := ht4.grown hx5 (by have := HLR.out; simp; omega)
  have hl5 := hl4.grown hx5
  have hb5 : Below w.heap.size w w5 := below_g hb4 hx5 (by have := HLR.out; omega)
  clear hn hg5 hx5 hr4 hb4 hl4
  go_wp2_with fail
  refine (pick_any R (p2 + 1 + 1) 2 w5 hr5 (by omega)).mono ?_
  rintro e w6 ⟨k, rfl, hk, hr6, hg6⟩
  have ht6 := ht5.grown hg6 (by have := HLR.out; simp; omega)
  have hl6 := hl5.grown hg6
  have hb6 : Below w.heap.size w w6 := below_g hb5 hg6 (by have := HLR.out; omega)
  clear hg6 hr5 hb5 hl5
  have HFIN := Lib.hid (fun (w' : World) (u v : Nat) (hl : Lie w3 R w.heap.size w') (hb : Below w.heap.size w w') (hu : u ≤ 41) (hv : v ≤ 40) => (show DrawnNUD w (.returned (.tuple #[.agg #[.slice aT lT cT, .slice aW lW cW], .int .i64 u, .int .i64 v])) w' from ⟨⟨aT, lT, cT, aW, lW, cW⟩, ts, rows, u, v, rfl, NA3.out.to fun b hb => ⟨Nat.lt_of_lt_of_le (by have := HZ3.out; omega) hl.1, hl.2 b (by have := HZ3.out; omega) hb.2.1 hb.2.2⟩, h2, h3, hu, hv, hb⟩))
  have NB6 := Lib.hid (NB3.out.block (hl6.2 _ (by have := HZ3.out; omega) (by have := HLR.out; omega) (by have := HLR.out; omega)))
  have TT6 : Hid (Two w6 w.heap.size (.slice none 0 0) (.slice none 0 0)) := Lib.hid ht6
  clear ht4 ht5 ht6
  obtain ⟨c0, c1⟩ := NB6.out
  obtain ⟨⟨t0, z0⟩, t1, z1⟩ := TT6.out
  dsimp only at c0 c1
  by_cases hk0 : k = 0
  · subst hk0
    have HLT : Hid (R < w6.heap.size ∧ w2.heap.size < w6.heap.size) := Lib.hid ⟨by have := hr6.lt; omega, by have := hl6.1; have := HZ3.out; omega⟩
    have HN6 := Lib.hid (show NetAt w6 (· < w6.heap.size) ⟨aT, lT, cT, aW, lW, cW⟩ ts rows from NA3.out.to fun b hb => ⟨by have := HLT.out; omega, hl6.2 b (by have := HZ3.out; omega) hb.2.1 hb.2.2⟩)
    go_wp2_with fail
    refine (paceOf_spec ⟨aT, lT, cT, aW, lW, cW⟩ ts rows w6 HN6.out).mono ?_
    rintro e w7 ⟨U, D, pb, rfl, hpr, hb7⟩
    have hl7 := hl6.below hb7
    have hbb7 := hb6.trans (hb7.mono hb6.size)
    have hrd7 := hr6.step hb7
    have NB7 := NB6.out.block (hb7.block _ HLT.out.2)
    have TT7 := TT6.out.block (hb7.block _ TT6.out.lt)
    have hw7 := hb7.size
    have HSZ := Lib.hid hw7
    have TF := two_new w7 (.int .i64 (U : Int)) (.int .i64 (D : Int)) 29
    have hb8 := hbb7.alloc hbb7.size (.cells #[.int .i64 (U : Int), .int .i64 (D : Int)] 29)
    have hl8 := hl7.alloc (.cells #[.int .i64 (U : Int), .int .i64 (D : Int)] 29)
    have hr8 := hrd7.alloc (.cells #[.int .i64 (U : Int), .int .i64 (D : Int)] 29)
    have NB8 := NB7.block (w' := w7.alloc (.cells #[.int .i64 (U : Int), .int .i64 (D : Int)] 29)) (Below.heap_alloc _ _ _ NB7.lt)
    have TT8 := TT7.block (w' := w7.alloc (.cells #[.int .i64 (U : Int), .int .i64 (D : Int)] 29)) (Below.heap_alloc _ _ _ TT7.lt)
    have hz8 : (w7.alloc (.cells #[.int .i64 (U : Int), .int .i64 (D : Int)] 29)).heap.size = w7.heap.size + 1 := by simp
    obtain ⟨w8, hw8⟩ : ∃ wx, w7.alloc (.cells #[.int .i64 (U : Int), .int .i64 (D : Int)] 29) = wx := ⟨_, rfl⟩
    rw [hw8] at TF hb8 hl8 hr8 NB8 TT8 hz8
    have HW8 := Lib.hid hw8
    have HPR := Lib.hid hpr
    clear hw8 hl7 hbb7 hrd7 NB7 TT7 hr6 hl6 hb6 hb7 c0 c1 t0 z0 t1 z1 hpr hw7
    cases pb
    · obtain ⟨c0, c1⟩ := NB8
      have TT8' := TT8
      obtain ⟨⟨t0, z0⟩, t1, z1⟩ := TT8
      dsimp only at c0 c1
      rw [← HW8.out] at c0 c1 t0 z0 t1 z1
      have HSET := Lib.hid ((TT8'.set0 (.slice aT lT cT)).set1 (.slice aW lW cW))
      have HF := Lib.hid (HFIN.out ((w8.setCell ⟨w.heap.size, 0, none⟩ (.slice aT lT cT)).setCell ⟨w.heap.size, 1, none⟩ (.slice aW lW cW)) up down ((hl8.set 0 _).set 1 _) (below_set2 hb8 _ _) hup hdn)
      obtain ⟨⟨v0, _⟩, v1, _⟩ := HSET.out
      go_wp2_with fail
      rw [HW8.out]
      refine bodyPost_ret (v := .tuple #[.agg #[.slice aT lT cT, .slice aW lW cW], .int .i64 up, .int .i64 down]) ?_ rfl HF.out
      simp [results, Try.results16, go_sem, v0, v1]
    · have NB8' := NB8
      have TT8' := TT8
      have TF' := TF
      have hw67 : w6.heap.size ≤ w7.heap.size := HSZ.out
      obtain ⟨c0, c1⟩ := NB8
      obtain ⟨⟨t0, z0⟩, t1, z1⟩ := TT8
      obtain ⟨⟨f0, _⟩, f1, _⟩ := TF
      dsimp only at c0 c1
      rw [← HW8.out] at c0 c1 t0 z0 t1 z1 f0 f1
      go_wp2_with fail
      rw [HW8.out]
      have HS0 := Lib.hid (And.intro (Lie.refl w8 R w.heap.size) hb8)
      have HQ := Lib.hid (fun (w' : World) (hS : Lie w8 R w.heap.size w') => And.intro (show NetB w' w2.heap.size ⟨aT, lT, cT, aW, lW, cW⟩ from NB8'.block (hS.2 _ (by have := HLT.out; omega) (by have := HLR.out; omega) (by have := HLR.out; omega))) (show Two w' w7.heap.size (.int .i64 (U : Int)) (.int .i64 (D : Int)) from TF'.block (hS.2 _ (by omega) (by have := HLT.out; omega) (by have := HLR.out; have := HLT.out; omega))))
      obtain ⟨hal, hpc⟩ : aliveB ts rows = true ∧ IsPace (grOf ts rows) U D := by
        rcases HPR.out with ⟨h1, _, h3⟩ | ⟨_, h2, _⟩
        · exact ⟨h1, h3⟩
        · cases h2
      have hu36 := hpc.u36
      have hd12 := hpc.d12
      clear hal hpc
      have hrd : Rd w8.drew R (p2 + 1 + 1 + 1) := hr8.step (Below.refl _ _).drew
      have HRD := Lib.hid hrd
      clear hr8 hrd
      refine wp_region_held_drew (S := (fun w' => Lie w8 R w.heap.size w' ∧ Below w.heap.size w w')) (by kernel_rfl) ⟨HS0.out.1.drew, HS0.out.2.drew⟩ (fun hHeld => ?_)
      refine wpAnyH_take (i := 0) (v := .agg #[.slice aT lT cT, .slice aW lW cW]) rfl (by kernel_rfl) (by kernel_rfl) (by kernel_rfl) (fun _ _ _ h => h) (Or.inl ⟨by rfl, ?_⟩) hHeld ?_
      · rintro w' ⟨hS, _⟩; obtain ⟨⟨k0, k1⟩, ⟨k2, _⟩, k3, _⟩ := HQ.out w' hS; dsimp only at k0 k1; go_simp
      try simp only [Act.put, List.setIfInBounds_toArray, List.set_cons_zero, List.set_cons_succ, List.getElem_toArray, List.getElem_cons_succ, List.getElem_cons_zero]
      refine wpAnyH_take (i := 1) (v := .pointer (some ⟨w7.heap.size, 0, none⟩)) rfl (by kernel_rfl) (by kernel_rfl) (by kernel_rfl) (fun _ _ _ h => h) (Or.inl ⟨by rfl, ?_⟩) hHeld ?_
      · rintro w' ⟨hS, _⟩; obtain ⟨⟨k0, k1⟩, ⟨k2, _⟩, k3, _⟩ := HQ.out w' hS; dsimp only at k0 k1; go_simp
      try simp only [Act.put, List.setIfInBounds_toArray, List.set_cons_zero, List.set_cons_succ, List.getElem_toArray, List.getElem_cons_succ, List.getElem_cons_zero]
      refine wpAnyH_take (i := 2) (v := .int .i64 (U : Int)) rfl (by kernel_rfl) (by kernel_rfl) (by kernel_rfl) (fun _ _ _ h => h) (Or.inl ⟨by rfl, ?_⟩) hHeld ?_
      · rintro w' ⟨hS, _⟩; obtain ⟨⟨k0, k1⟩, ⟨k2, _⟩, k3, _⟩ := HQ.out w' hS; dsimp only at k0 k1; go_simp
      try simp only [Act.put, List.setIfInBounds_toArray, List.set_cons_zero, List.set_cons_succ, List.getElem_toArray, List.getElem_cons_succ, List.getElem_cons_zero]
      refine wpAnyH_take (i := 3) (v := .pointer (some ⟨R, 0, none⟩)) rfl (by kernel_rfl) (by kernel_rfl) (by kernel_rfl) (fun _ _ _ h => h) (Or.inl ⟨by rfl, ?_⟩) hHeld ?_
      · rintro w' ⟨hS, _⟩; obtain ⟨⟨k0, k1⟩, ⟨k2, _⟩, k3, _⟩ := HQ.out w' hS; dsimp only at k0 k1; go_simp
      try simp only [Act.put, List.setIfInBounds_toArray, List.set_cons_zero, List.set_cons_succ, List.getElem_toArray, List.getElem_cons_succ, List.getElem_cons_zero]
      refine wpAnyH_take (i := 7) (v := .pointer (some ⟨w7.heap.size, 1, none⟩)) rfl (by kernel_rfl) (by kernel_rfl) (by kernel_rfl) (fun _ _ _ h => h) (Or.inl ⟨by rfl, ?_⟩) hHeld ?_
      · rintro w' ⟨hS, _⟩; obtain ⟨⟨k0, k1⟩, ⟨k2, _⟩, k3, _⟩ := HQ.out w' hS; dsimp only at k0 k1; go_simp
      try simp only [Act.put, List.setIfInBounds_toArray, List.set_cons_zero, List.set_cons_succ, List.getElem_toArray, List.getElem_cons_succ, List.getElem_cons_zero]
      refine wpAnyH_take (i := 8) (v := .int .i64 (D : Int)) rfl (by kernel_rfl) (by kernel_rfl) (by kernel_rfl) (fun _ _ _ h => h) (Or.inl ⟨by rfl, ?_⟩) hHeld ?_
      · rintro w' ⟨hS, _⟩; obtain ⟨⟨k0, k1⟩, ⟨k2, _⟩, k3, _⟩ := HQ.out w' hS; dsimp only at k0 k1; go_simp
      try simp only [Act.put, List.setIfInBounds_toArray, List.set_cons_zero, List.set_cons_succ, List.getElem_toArray, List.getElem_cons_succ, List.getElem_cons_zero]
      refine wpAnyH_ready (rs := [4]) (by kernel_rfl) (by simp) ?_
      refine AllReadyH.cons (o := _) rfl (fun K hK => ?_) AllReadyH.nil
      go_simp
      go_at_call 45
      refine (pick_any R (p2 + 1 + 1 + 1) 2 _ HRD.out (by omega)).mono ?_
      rintro e w9 ⟨k, rfl, hk, hr9, hg9⟩
      refine hK.out _ _ ⟨HS0.out.1.drew.grown hg9, below_g HS0.out.2.drew hg9 (by have := HLR.out; omega)⟩ (fun hHeld => ?_)
      clear hK K
      try simp only [Act.put, List.setIfInBounds_toArray, List.set_cons_zero, List.set_cons_succ, List.getElem_toArray, List.getElem_cons_succ, List.getElem_cons_zero]
      have hk2 : k ≤ 1 := by omega
      have hwr : IntKind.i64.wrap ((U : Int) - (k : Int)) = (U : Int) - (k : Int) := IntWalk.i64_in _ (by omega)
      have hmx : max ((U : Int) - (k : Int)) 0 = ((U - k : Nat) : Int) := by omega
      refine wpAnyH_take (i := 5) (v := .int .i64 ((U : Int) - (k : Int))) rfl (by kernel_rfl) (by kernel_rfl) (by kernel_rfl) (fun _ _ _ h => h) (Or.inl ⟨by rfl, ?_⟩) hHeld ?_
      · rintro w' ⟨hS, _⟩; go_simp
      try simp only [Act.put, List.setIfInBounds_toArray, List.set_cons_zero, List.set_cons_succ, List.getElem_toArray, List.getElem_cons_succ, List.getElem_cons_zero]
      refine wpAnyH_take (i := 6) (v := .int .i64 ((U - k : Nat) : Int)) rfl (by kernel_rfl) (by kernel_rfl) (by kernel_rfl) (fun _ _ _ h => h) (Or.inl ⟨by rfl, ?_⟩) hHeld ?_
      · rintro w' ⟨hS, _⟩; go_simp; split <;> omega
      try simp only [Act.put, List.setIfInBounds_toArray, List.set_cons_zero, List.set_cons_succ, List.getElem_toArray, List.getElem_cons_succ, List.getElem_cons_zero]
      have hl9 := HS0.out.1.drew.grown hg9
      have hb9 := below_g HS0.out.2.drew hg9 (by have := HLR.out; omega)
      have ht9 : Two w9 w.heap.size (.slice none 0 0) (.slice none 0 0) := (TT8'.block (w' := w8.drew) rfl).grown hg9 (by have := HLR.out; simp; omega)
      have HSET := Lib.hid ((ht9.set0 (.slice aT lT cT)).set1 (.slice aW lW cW))
      have HF := Lib.hid (HFIN.out ((w9.setCell ⟨w.heap.size, 0, none⟩ (.slice aT lT cT)).setCell ⟨w.heap.size, 1, none⟩ (.slice aW lW cW)) (U - k) D ((hl8.trans hl9).set 0 _ |>.set 1 _) (below_set2 hb9 _ _) (by omega) (by omega))
      obtain ⟨⟨u0, y0⟩, u1, y1⟩ := ht9
      refine wpAnyH_ready (rs := [9]) (by kernel_rfl) (by simp) ?_
      refine AllReadyH.cons (o := _) rfl (fun K hK => ?_) AllReadyH.nil
      go_simp
      refine hK.out _ _ ⟨(hl9.set 0 _).set 1 _, below_set2 hb9 _ _⟩ (fun hHeld => ?_)
      clear hK K
      try simp only [Act.put, List.setIfInBounds_toArray, List.set_cons_zero, List.set_cons_succ, List.getElem_toArray, List.getElem_cons_succ, List.getElem_cons_zero]
      refine wpAnyH_take (i := 10) (v := .int .i64 ((U - k : Nat) : Int)) rfl (by kernel_rfl) (by kernel_rfl) (by kernel_rfl) (fun _ _ _ h => h) (Or.inl ⟨by rfl, ?_⟩) hHeld ?_
      · rintro w' ⟨hS, _⟩; go_simp
      try simp only [Act.put, List.setIfInBounds_toArray, List.set_cons_zero, List.set_cons_succ, List.getElem_toArray, List.getElem_cons_succ, List.getElem_cons_zero]
      refine wpAnyH_take (i := 11) (v := .int .i64 (D : Int)) rfl (by kernel_rfl) (by kernel_rfl) (by kernel_rfl) (fun _ _ _ h => h) (Or.inl ⟨by rfl, ?_⟩) hHeld ?_
      · rintro w' ⟨hS, _⟩; go_simp
      try simp only [Act.put, List.setIfInBounds_toArray, List.set_cons_zero, List.set_cons_succ, List.getElem_toArray, List.getElem_cons_succ, List.getElem_cons_zero]
      refine wpAnyH_done (by kernel_rfl) ?_ _
      obtain ⟨⟨v0, _⟩, v1, _⟩ := HSET.out
      go_wp2_with fail
      refine bodyPost_ret (v := .tuple #[.agg #[.slice aT lT cT, .slice aW lW cW], .int .i64 ((U - k : Nat) : Int), .int .i64 D]) ?_ rfl HF.out
      simp [results, Try.results16, go_sem, v0, v1]
  · have hkI : ((k : Int) == 0) = false := by simp; omega
    have HSET := Lib.hid ((show Two w6 w.heap.size (.slice none 0 0) (.slice none 0 0) from ⟨⟨t0, z0⟩, t1, z1⟩).set0 (.slice aT lT cT) |>.set1 (.slice aW lW cW))
    have HF := Lib.hid (HFIN.out ((w6.setCell ⟨w.heap.size, 0, none⟩ (.slice aT lT cT)).setCell ⟨w.heap.size, 1, none⟩ (.slice aW lW cW)) up down ((hl6.set 0 _).set 1 _) (below_set2 hb6 _ _) hup hdn)
    obtain ⟨⟨v0, _⟩, v1, _⟩ := HSET.out
    go_wp2_with fail
    refine bodyPost_ret (v := .tuple #[.agg #[.slice aT lT cT, .slice aW lW cW], .int .i64 up, .int .i64 down]) ?_ rfl HF.out
    simp [results, Try.results16, go_sem, v0, v1]
end Go.Proofs.Ytkebdelfklmigae
