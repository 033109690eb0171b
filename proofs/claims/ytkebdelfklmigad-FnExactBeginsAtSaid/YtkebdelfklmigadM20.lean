import Derived.Test.YtkebdelfklmigadRows
import Derived.WalkKit
import Derived.LoopTactic
import Derived.Outline
import Derived.WalkSpells
import Derived.WalkLawsBesides
import Derived.ProofKit
import Derived.Lib.Hide
import Derived.IntWalk
import Derived.Deep.QuietTactic
import Derived.BigQuiet
import Derived.Deep.RegionHeld
import Derived.Deep.OwnRows
import Derived.Test.YtkebdelfklmigadM0
import Derived.Test.YtkebdelfklmigadM2
import Derived.Test.YtkebdelfklmigadM8
import Derived.Test.YtkebdelfklmigadM1
import Derived.Test.YtkebdelfklmigadM7
import Derived.Test.YtkebdelfklmigadM10
import Derived.Test.YtkebdelfklmigadM11
import Derived.Test.YtkebdelfklmigadM12
import Derived.Test.YtkebdelfklmigadM13
import Derived.Test.YtkebdelfklmigadM14
import Derived.Test.YtkebdelfklmigadM15
import Derived.Test.YtkebdelfklmigadM6
namespace Go.Proofs.Ytkebdelfklmigad
open Go.RowKit Go.WideShapes

theorem RowsMk.start {w w3 : World} {n T : Nat} {Br : Nat → Nat} {X : Nat → Nat → Int} (hb : Below w.heap.size w w3) : RowsMk w (w3.alloc (.cells (madeCells #[.slice none 0 0] n) 23)) n T w3.heap.size 0 Br X :=
  ⟨hb.alloc hb.size _, hb.size, by rw [heap_alloc_new, made_tab8]; congr 2, fun q hq => absurd hq (by omega), fun p q hp => absurd hp (by omega)⟩
theorem xRows (g : Gr) (n T : Nat) : (List.range n).map (fun q => tab (fun v => g.b q v) T) = (List.range n).map (fun q => tab (xOrd g n [] q) T) := by
  refine List.map_congr_left fun q hq => ?_
  unfold tab
  refine List.map_congr_left fun u _ => ?_
  show g.b q u = xOrd g n [] q u
  unfold xOrd
  rw [if_pos (List.mem_range.1 hq)]
theorem ord_all {g : Gr} {L : List Nat} (hq : OrdQ g L) (hl : L.length = g.n) : ∀ u, u < g.n → u ∈ L := fun u hu => Classical.byContradiction fun hn => by
  have := nodup_short g.n (u :: L) (List.nodup_cons.2 ⟨hn, hq.nodup⟩) (fun x hx => by
    rcases List.mem_cons.1 hx with rfl | hx
    · exact hu
    · exact hq.lt x hx)
  rw [List.length_cons] at this
  omega
theorem grown_setNew {w0 w : World} {G b i : Nat} {v : Value} (h : w0.grownBy w (some G)) (hb : w0.heap.size ≤ b) : w0.grownBy (w.setCell ⟨b, i, none⟩ v) (some G) :=
  ⟨h.os, h.tape, h.output, by have := h.size; simpa [World.setCell] using this, fun c hc hne => (heap_set_ne (by omega) v).trans (h.block c hc hne)⟩
theorem split_get {L : List Nat} {j v : Nat} (h : L[j]? = some v) : L = L.take j ++ v :: L.drop (j + 1) := by
  obtain ⟨h1, h2⟩ := List.getElem?_eq_some_iff.1 h
  have := List.drop_eq_getElem_cons h1
  rw [h2] at this
  rw [← this, List.take_append_drop]
theorem lt_cellB {w : World} {b i : Nat} {v : Value} (h : w.cell? ⟨b, i, none⟩ = some v) : b < w.heap.size := World.block_lt_of_cell? w _ h
theorem Try.infoRow8 : (Try.prog.info? 23).map (fun i => (i.zero, i.size, i.bytes)) = some (some (.slice none 0 0), 1, 24) := by kernel_rfl
theorem Try.infoInt8 : (Try.prog.info? 3).map (fun i => (i.zero, i.size, i.bytes)) = some (some (.int .i64 0), 1, 8) := by kernel_rfl
/-- rows of the call's own: none, or each in a block of its own -/
def BegOwn (w : World) (ts : List Int) (rows : List (List Int)) (r : Int) (e : Ending) (w' : World) : Prop := ∃ (a : Option Addr) (n : Nat), e = .returned (.slice a n n) ∧ Below w.heap.size w w' ∧
  ((a = none ∧ n = 0 ∧ begRes ts rows r = []) ∨ ∃ G Br X, a = some ⟨G, 0, none⟩ ∧ RowsMk w w' n ts.length G n Br X ∧ n ≤ 40 ∧ ts.length ≤ 4 ∧ begRes ts rows r = (List.range n).map (fun q => tab (X q) ts.length))
set_option maxRecDepth 100000 in
set_option maxHeartbeats 8000000 in
theorem beginsAt_impl (d : NV) (ts : List Int) (rows : List (List Int)) (r : Int) (w : World) (h : NetAt w (· < w.heap.size) d ts rows) :
    Calls Try.prog 8 #[.agg #[.slice d.aT d.lT d.cT, .slice d.aW d.lW d.cW], .int .i64 r] w (BegOwn w ts rows r) := by
  have HALV := Lib.hid (fun w' (hb : Below w.heap.size w w') => isAlive_any d ts rows w' (net_lift h hb))
  have HBO := Lib.hid (fun w' (hb : Below w.heap.size w w') => beginOrder_any d ts rows w' (net_lift h hb))
  have HTK := Lib.hid (fun w' (hb : Below w.heap.size w w') hv v L C G Br X => tokensFor_any w.heap.size v L C G Br X d ts rows w' (h.below hb) hv hb.size)
  obtain ⟨aT, T, cT, aW, lW, cW⟩ := d
  have hTL : ts.length = T := h.t.lenEq
  clear h
  dsimp only at HALV HBO HTK ⊢
  have hb1 := (Below.refl w.heap.size w).alloc (Nat.le_refl _) (.cells #[.slice aT T cT, .slice aW lW cW] 26)
  have hn1 := netB_new w aT T cT aW lW cW 26
  obtain ⟨w1, hw1⟩ : ∃ w1, (w.alloc (.cells #[.slice aT T cT, .slice aW lW cW] 26)) = w1 := ⟨_, rfl⟩
  rw [hw1] at hb1 hn1
  have HW1 := Lib.hid hw1
  have HB1 := Lib.hid hb1
  have HN1 := Lib.hid hn1
  clear hw1 hb1 hn1
  cases hal : aliveB ts rows
  · have HNIL := Lib.hid (begRes_no (r := r) (.inl hal))
    rw [hal] at HALV
    clear hal
    obtain ⟨n0, n1⟩ := HN1.out
    dsimp only at n0 n1
    go_enter Try.func8, Try.ntmps8
    go_wp2_with fail
    rw [HW1.out]
    refine (HALV.out w1 HB1.out).mono ?_
    rintro e w2 ⟨rfl, hb2⟩
    have HB2 := Lib.hid (HB1.out.trans (hb2.mono HB1.out.size))
    clear hb2 n0 n1
    go_wp2_with fail
    go_ret
    exact ⟨none, 0, rfl, HB2.out, .inl ⟨rfl, rfl, HNIL.out⟩⟩
  · rw [hal] at HALV
    cases hr : inB 0 40 r
    · have HNIL := Lib.hid (begRes_no (ts := ts) (rows := rows) (.inr hr))
      have HR := Lib.hid hr
      clear hal hr
      obtain ⟨n0, n1⟩ := HN1.out
      dsimp only at n0 n1
      go_enter Try.func8, Try.ntmps8
      go_wp2_with fail
      rw [HW1.out]
      refine (HALV.out w1 HB1.out).mono ?_
      rintro e w2 ⟨rfl, hb2⟩
      have HB2 := Lib.hid (HB1.out.trans (hb2.mono HB1.out.size))
      clear hb2 n0 n1
      go_wp2_with fail
      refine (isUp8 _ _ _ HR.out).mono ?_
      rintro e wq ⟨rfl, hwq⟩
      rw [hwq]
      clear hwq wq
      go_wp2_with fail
      go_ret
      exact ⟨none, 0, rfl, HB2.out, .inl ⟨rfl, rfl, HNIL.out⟩⟩
    · have hrb : 0 ≤ r ∧ r ≤ 40 := by simpa [inB] using hr
      obtain ⟨n, rfl⟩ : ∃ n : Nat, r = (n : Int) := ⟨r.toNat, by omega⟩
      have hn40 : n ≤ 40 := by omega
      have HR := Lib.hid hr
      have HRES := Lib.hid (begRes_yes hal hn40)
      obtain ⟨hv, hnd⟩ := alive_get hal
      have hok := gr_ok hv
      have HV := Lib.hid hv
      obtain ⟨rk, hrk⟩ := rank_of hok hnd
      have HBO2 := Lib.hid (fun w' hb => HBO.out w' hb hv)
      have HTK2 := Lib.hid (fun w' hb => HTK.out w' hb hv)
      have HTL := Lib.hid hTL
      have hgn : (grOf ts rows).n = T := hTL
      clear hrb hr hal hv HBO HTK
      unfold OrderPost8 at HBO2
      obtain ⟨g, hg⟩ : ∃ g, grOf ts rows = g := ⟨_, rfl⟩
      unfold bRows at HRES
      rw [hg] at hok hnd hrk HBO2 HTK2 hgn HRES
      rw [hTL] at HRES
      have hT4 := hok.n4
      rw [hgn] at hT4
      have HGN := Lib.hid hgn
      have HOK := Lib.hid hok
      have HRK := Lib.hid hrk
      have HND := Lib.hid hnd
      clear hg hok hnd hrk hgn hTL
      have hmkI := fun w => run_make_row' (P := Try.prog) 23 3 (.int .i64 0) 8 Try.underlying23 Try.infoInt8 rfl .i64 .i64 T (by omega) (by omega) w
      have hmkR := fun w => run_make_row' (P := Try.prog) 24 23 (.slice none 0 0) 24 Try.underlying24 Try.infoRow8 rfl .i64 .i64 n (by omega) (by omega) w
      have HMKI := Lib.hid hmkI
      have HMKR := Lib.hid hmkR
      clear hmkI hmkR
      obtain ⟨n0, n1⟩ := HN1.out
      dsimp only at n0 n1
      go_enter Try.func8, Try.ntmps8
      go_wp2_with fail
      rw [HW1.out]
      refine (HALV.out w1 HB1.out).mono ?_
      rintro e w2 ⟨rfl, hb2⟩
      have HN2 := Lib.hid (HN1.out.below hb2 HN1.out.lt)
      have HB2 := Lib.hid (HB1.out.trans (hb2.mono HB1.out.size))
      clear hb2 n0 n1
      obtain ⟨n0, n1⟩ := HN2.out
      dsimp only at n0 n1
      go_wp2_with fail
      refine (isUp8 _ _ _ HR.out).mono ?_
      rintro e wq ⟨rfl, hwq⟩
      rw [hwq]
      clear hwq wq
      go_wp2_with fail
      refine (HBO2.out w2 HB2.out).mono ?_
      rintro e w3 ⟨aL, cL, L, rfl, hq, hfull, hints, hcl, hb3⟩
      have HN3 := Lib.hid (HN2.out.below hb3 HN2.out.lt)
      have HB3 := Lib.hid (HB2.out.trans (hb3.mono HB2.out.size))
      have HQ := Lib.hid hq
      have hLT : L.length = T := by rw [hfull HND.out]; exact HGN.out
      have HLT := Lib.hid hLT
      have HINT := Lib.hid hints
      clear hb3 n0 n1 hq hfull hints
      rw [hLT]
      have hmkR := HMKR.out
      clear hLT
      go_wp2_with fail
      clear hmkR
      have HN4 := Lib.hid (HN3.out.block (w' := w3.alloc (.cells (madeCells #[.slice none 0 0] n) 23)) (Below.heap_alloc _ _ _ HN3.out.lt))
      have HI4 := Lib.hid (HINT.out.to (w' := w3.alloc (.cells (madeCells #[.slice none 0 0] n) 23)) (S' := fun b => b < w3.heap.size) (fun b hb => ⟨hb.2, Below.heap_alloc _ _ _ hb.2⟩))
      have hst := RowsMk.start (n := n) (T := T) (Br := fun _ => 0) (X := xOrd g 0 []) HB3.out
      have hwG : w.heap.size < w3.heap.size := Nat.lt_of_lt_of_le HN3.out.lt (Nat.le_refl _)
      have hGz : w3.heap.size < (w3.alloc (.cells (madeCells #[.slice none 0 0] n) 23)).heap.size := by simp
      obtain ⟨w4, hw4⟩ : ∃ w4, w3.alloc (.cells (madeCells #[.slice none 0 0] n) 23) = w4 := ⟨_, rfl⟩
      obtain ⟨G, hG⟩ : ∃ G, w3.heap.size = G := ⟨_, rfl⟩
      rw [hw4, hG] at hst hGz
      rw [hw4] at HN4 HI4 ⊢
      rw [hG] at hwG HI4 ⊢
      rw [HLT.out] at HI4
      have HST := Lib.hid hst
      clear hst hw4 hG
      go_loopw [24] (fun i wr => ∃ (k : Nat) (Br : Nat → Nat), k ≤ n ∧ i = .int .i64 k ∧ RowsMk w wr n T G k Br (xOrd g k []) ∧ w4.grownBy wr (some G) ∧ ∀ q, q < k → w4.heap.size ≤ Br q) (fun i _ => n - (intOf i).toNat)
      case atStart => exact ⟨0, _, Nat.zero_le _, rfl, HST.out, World.grownBy.refl _ _, fun q hq => absurd hq (by omega)⟩
      case round =>
        clear HST
        obtain ⟨k, Br0, hk, rfl, hmk, hgr, hbr⟩ := hrel
        obtain ⟨wo, rfl⟩ : ∃ wo : World, wo = wr := ⟨_, rfl⟩
        have HMK0 := Lib.hid hmk
        have HGR0 := Lib.hid hgr
        have HBR0 := Lib.hid hbr
        by_cases hkl : k < n
        · have hkI : (k : Int) < (n : Int) := by omega
          obtain ⟨n0, n1⟩ := HN4.out.block (hgr.block _ (by omega) (by simp; omega))
          dsimp only at n0 n1
          have hGo := lt_heap hmk.outer
          have fz := frozen_row ((Below.heap_alloc wo (.cells (madeCells #[.int .i64 0] T) 3) _ hGo).trans hmk.outer) k
          obtain ⟨cz, hcz⟩ : ∃ c, (wo.alloc (.cells (madeCells #[.int .i64 0] T) 3)).cell? ⟨G, k, none⟩ = some c := ⟨_, by rw [cell_of_row _ _ _ _ _ _ ((Below.heap_alloc wo (.cells (madeCells #[.int .i64 0] T) 3) _ hGo).trans hmk.outer), tabV_get _ hkl]⟩
          have hmkI := HMKI.out
          clear hmk hgr hbr
          go_wp2_with fail
          have hadd := HMK0.out.add (Y := xOrd g k []) (fun _ _ _ _ => rfl) (fun v _ => by unfold xOrd; simp)
          have hgr5 := grown_comp (grown_alloc HGR0.out (.cells (madeCells #[.int .i64 0] T) 3)) (grownBy_setCell _ ⟨G, k, none⟩ (.slice (some ⟨wo.heap.size, 0, none⟩) T T))
          have hbr5 : ∀ q, q < k + 1 → w4.heap.size ≤ setN Br0 k wo.heap.size q := fun q hq => by
            by_cases e : q = k
            · subst e; rw [setN_at]; exact HGR0.out.size
            · rw [setN_ne _ _ e]; exact HBR0.out q (by omega)
          obtain ⟨Br, hBr⟩ : ∃ B, setN Br0 k wo.heap.size = B := ⟨_, rfl⟩
          obtain ⟨w5, hw5⟩ : ∃ w5, ((wo.alloc (.cells (madeCells #[.int .i64 0] T) 3)).setCell ⟨G, k, none⟩ (.slice (some ⟨wo.heap.size, 0, none⟩) T T)) = w5 := ⟨_, rfl⟩
          rw [hBr] at hadd hbr5
          rw [World.setCell_alloc_past _ _ _ _ hGo] at hadd hgr5 hw5
          rw [hw5] at hadd hgr5 ⊢
          have H5 := Lib.hid hadd
          have HG5 := Lib.hid hgr5
          have HBR5 := Lib.hid hbr5
          have hbrk := hbr5 k (by omega)
          have hneG : G ≠ Br k := by omega
          have hneB : w.heap.size ≠ Br k := by omega
          clear n0 n1 fz hcz cz hmkI hGo hadd hgr5 hbr5 hBr hw5 HMK0 HGR0 HBR0
          go_loopw [36] (fun i wr => ∃ j : Nat, j ≤ T ∧ i = .int .i64 j ∧ RowsMk w wr n T G (k + 1) Br (xOrd g k (L.take j)) ∧ w4.grownBy wr (some G)) (fun i _ => T - (intOf i).toNat)
          case atStart => exact ⟨0, Nat.zero_le _, rfl, H5.out, HG5.out⟩
          case round =>
            clear H5 HG5
            obtain ⟨j, hj, rfl, hmk, hgr⟩ := hrel
            obtain ⟨wi, rfl⟩ : ∃ wi : World, wi = wr := ⟨_, rfl⟩
            have HGR := Lib.hid hgr
            by_cases hjl : j < T
            · have hjI : (j : Int) < (T : Int) := by omega
              obtain ⟨v, hv⟩ : ∃ v, L[j]? = some v := ⟨_, List.getElem?_eq_getElem (by rw [HLT.out]; exact hjl)⟩
              have hvT : v < T := by have := HQ.out.lt v (List.mem_of_getElem? hv); rw [HGN.out] at this; exact this
              have HTAKE := Lib.hid (show L.take (j + 1) = L.take j ++ [v] from take_get hv)
              have HSPL := Lib.hid (show L = L.take j ++ v :: L.drop (j + 1) from split_get hv)
              have hi5 := HI4.out.to (w' := wi) (S' := fun b => b < G) (fun b hb => ⟨hb, hgr.block b (by omega) (by simp; omega)⟩)
              obtain ⟨bl, ol, x, eL, hx, hcl⟩ := hi5.get hjl
              have hxv : x = (v : Int) := by
                unfold nat8 at hx
                rw [List.getElem?_map, hv] at hx
                simpa using hx.symm
              subst hxv
              subst eL
              obtain ⟨n0, n1⟩ := (HN4.out.block (w' := wi.drew) (hgr.block _ (by omega) (by simp; omega)))
              dsimp only at n0 n1
              have hmkd := hmk.to ((Below.refl wi.heap.size wi).drew)
              have cgk := (hmkd.begW (by omega) k (by omega)).1
              have HMK := Lib.hid hmkd
              have HTF := Lib.hid (HTK2.out wi.drew hmkd.below v (k + 1) n G Br (xOrd g k (L.take j)) (by omega) (hmkd.begW (by omega)) (lt_heap hmkd.outer) (fun q hq => lt_heap (hmkd.rows q hq).2) ⟨by omega, by omega⟩ (fun q u hq hu => xOrd_bd HOK.out HRK.out _ (by omega) (by rw [HGN.out]; exact hu)))
              have HXV := Lib.hid ((ready_step g (xOrd g k (L.take j)) k v g.m).trans (step_ord HOK.out HRK.out HQ.out HSPL.out (by omega)))
              have HWK := Lib.hid (show IntKind.i64.wrap ((k : Int) + 1) = (k : Int) + 1 from IntWalk.i64_in _ (by omega))
              clear hmk hmkd hgr hi5 hx hv
              go_wp2_with fail
              refine wp_region_held_drew (S := (fun w' => w'.cell? ⟨G, k, none⟩ = some (.slice (some ⟨Br k, 0, none⟩) T T) ∧ w'.cell? ⟨w.heap.size, 0, none⟩ = some (.slice aT T cT) ∧ w'.cell? ⟨w.heap.size, 1, none⟩ = some (.slice aW lW cW))) (by kernel_rfl) ⟨cgk, n0, n1⟩ (fun hHeld => ?_)
              refine wpAnyH_take (i := 0) (v := .slice (some ⟨G, 0, none⟩) n n) rfl (by kernel_rfl) (by kernel_rfl) (by kernel_rfl) (fun _ _ _ h => h) (Or.inl ⟨by rfl, ?_⟩) hHeld ?_
              · rintro w' ⟨k0, k1, k2⟩; go_simp
              try simp only [Act.put, List.setIfInBounds_toArray, List.set_cons_zero, List.set_cons_succ, List.getElem_toArray, List.getElem_cons_zero]
              refine wpAnyH_take (i := 1) (v := .int .i64 k) rfl (by kernel_rfl) (by kernel_rfl) (by kernel_rfl) (fun _ _ _ h => h) (Or.inl ⟨by rfl, ?_⟩) hHeld ?_
              · rintro w' ⟨k0, k1, k2⟩; go_simp
              try simp only [Act.put, List.setIfInBounds_toArray, List.set_cons_zero, List.set_cons_succ, List.getElem_toArray, List.getElem_cons_succ, List.getElem_cons_zero]
              refine wpAnyH_take (i := 2) (v := .pointer (some ⟨G, k, none⟩)) rfl (by kernel_rfl) (by kernel_rfl) (by kernel_rfl) (fun _ _ _ h => h) (Or.inl ⟨by rfl, ?_⟩) hHeld ?_
              · rintro w' ⟨k0, k1, k2⟩; go_simp
              try simp only [Act.put, List.setIfInBounds_toArray, List.set_cons_zero, List.set_cons_succ, List.getElem_toArray, List.getElem_cons_succ, List.getElem_cons_zero]
              refine wpAnyH_take (i := 3) (v := .slice (some ⟨Br k, 0, none⟩) T T) rfl (by kernel_rfl) (by kernel_rfl) (by kernel_rfl) (fun _ _ _ h => h) (Or.inl ⟨by rfl, ?_⟩) hHeld ?_
              · rintro w' ⟨k0, k1, k2⟩; go_simp
              try simp only [Act.put, List.setIfInBounds_toArray, List.set_cons_zero, List.set_cons_succ, List.getElem_toArray, List.getElem_cons_succ, List.getElem_cons_zero]
              refine wpAnyH_take (i := 4) (v := .int .i64 v) rfl (by kernel_rfl) (by kernel_rfl) (by kernel_rfl) (fun _ _ _ h => h) (Or.inl ⟨by rfl, ?_⟩) hHeld ?_
              · rintro w' ⟨k0, k1, k2⟩; go_simp
              try simp only [Act.put, List.setIfInBounds_toArray, List.set_cons_zero, List.set_cons_succ, List.getElem_toArray, List.getElem_cons_succ, List.getElem_cons_zero]
              refine wpAnyH_take (i := 5) (v := .agg #[.slice aT T cT, .slice aW lW cW]) rfl (by kernel_rfl) (by kernel_rfl) (by kernel_rfl) (fun _ _ _ h => h) (Or.inl ⟨by rfl, ?_⟩) hHeld ?_
              · rintro w' ⟨k0, k1, k2⟩; go_simp
              try simp only [Act.put, List.setIfInBounds_toArray, List.set_cons_zero, List.set_cons_succ, List.getElem_toArray, List.getElem_cons_succ, List.getElem_cons_zero]
              refine wpAnyH_take (i := 6) (v := .int .i64 v) rfl (by kernel_rfl) (by kernel_rfl) (by kernel_rfl) (fun _ _ _ h => h) (Or.inl ⟨by rfl, ?_⟩) hHeld ?_
              · rintro w' ⟨k0, k1, k2⟩; go_simp
              try simp only [Act.put, List.setIfInBounds_toArray, List.set_cons_zero, List.set_cons_succ, List.getElem_toArray, List.getElem_cons_succ, List.getElem_cons_zero]
              refine wpAnyH_take (i := 7) (v := .slice (some ⟨G, 0, none⟩) n n) rfl (by kernel_rfl) (by kernel_rfl) (by kernel_rfl) (fun _ _ _ h => h) (Or.inl ⟨by rfl, ?_⟩) hHeld ?_
              · rintro w' ⟨k0, k1, k2⟩; go_simp
              try simp only [Act.put, List.setIfInBounds_toArray, List.set_cons_zero, List.set_cons_succ, List.getElem_toArray, List.getElem_cons_succ, List.getElem_cons_zero]
              refine wpAnyH_take (i := 8) (v := .int .i64 k) rfl (by kernel_rfl) (by kernel_rfl) (by kernel_rfl) (fun _ _ _ h => h) (Or.inl ⟨by rfl, ?_⟩) hHeld ?_
              · rintro w' ⟨k0, k1, k2⟩; go_simp
              try simp only [Act.put, List.setIfInBounds_toArray, List.set_cons_zero, List.set_cons_succ, List.getElem_toArray, List.getElem_cons_succ, List.getElem_cons_zero]
              refine wpAnyH_take (i := 9) (v := .int .i64 ((k : Int) + 1)) rfl (by kernel_rfl) (by kernel_rfl) (by kernel_rfl) (fun _ _ _ h => h) (Or.inl ⟨by rfl, ?_⟩) hHeld ?_
              · rintro w' ⟨k0, k1, k2⟩; have hwk := HWK.out; go_simp
              try simp only [Act.put, List.setIfInBounds_toArray, List.set_cons_zero, List.set_cons_succ, List.getElem_toArray, List.getElem_cons_succ, List.getElem_cons_zero]
              refine wpAnyH_take (i := 10) (v := .slice (some ⟨G, 0, none⟩) (k + 1) n) rfl (by kernel_rfl) (by kernel_rfl) (by kernel_rfl) (fun _ _ _ h => h) (Or.inl ⟨by rfl, ?_⟩) hHeld ?_
              · rintro w' ⟨k0, k1, k2⟩; have h0k : (0 : Int) ≤ (k : Int) + 1 := (by omega); have h1k : ¬ ((n : Int) < (k : Int) + 1) := (by omega); have h2k : ¬ ((k : Int) + 1 < 0) := (by omega); have h3k : ((k : Int) + 1).toNat = k + 1 := (by omega); have h4k : (k : Int) + 1 ≤ (n : Int) := (by omega); go_simp
              try simp only [Act.put, List.setIfInBounds_toArray, List.set_cons_zero, List.set_cons_succ, List.getElem_toArray, List.getElem_cons_succ, List.getElem_cons_zero]
              refine wpAnyH_ready (rs := [11]) (by kernel_rfl) (by simp) ?_
              refine AllReadyH.cons (o := _) rfl (fun K hK => ?_) AllReadyH.nil
              go_simp
              go_at_call 33
              refine (HTF.out).mono ?_
              rintro e wy ⟨c, cp, s, rfl, hcge, hy, hch⟩
              have HY := Lib.hid hy
              have hlate := latestOf_any _ hch
              rw [HXV.out] at hlate
              have HLATE := Lib.hid hlate
              clear hch hy hlate
              refine hK.out _ _ ⟨cell_same (HY.out.block _ (lt_cellB cgk)) cgk, cell_same (HY.out.block _ (lt_cellB n0)) n0, cell_same (HY.out.block _ (lt_cellB n1)) n1⟩ (fun hHeld => ?_)
              clear hK K
              try simp only [Act.put, List.setIfInBounds_toArray, List.set_cons_zero, List.set_cons_succ, List.getElem_toArray, List.getElem_cons_succ, List.getElem_cons_zero]
              refine wpAnyH_ready (rs := [12]) (by kernel_rfl) (by simp) ?_
              refine AllReadyH.cons (o := _) rfl (fun K hK => ?_) AllReadyH.nil
              go_simp
              go_at_call 32
              refine (HLATE.out).mono ?_
              rintro e wz ⟨rfl, hz⟩
              have HZ := Lib.hid (HY.out.trans (below_of_grown8 hz hcge (HY.out.size)))
              clear hz
              refine hK.out _ _ ⟨cell_same (HZ.out.block _ (lt_cellB cgk)) cgk, cell_same (HZ.out.block _ (lt_cellB n0)) n0, cell_same (HZ.out.block _ (lt_cellB n1)) n1⟩ (fun hHeld => ?_)
              clear hK K
              try simp only [Act.put, List.setIfInBounds_toArray, List.set_cons_zero, List.set_cons_succ, List.getElem_toArray, List.getElem_cons_succ, List.getElem_cons_zero]
              refine wpAnyH_take (i := 13) (v := .pointer (some ⟨Br k, v, none⟩)) rfl (by kernel_rfl) (by kernel_rfl) (by kernel_rfl) (fun _ _ _ h => h) (Or.inl ⟨by rfl, ?_⟩) hHeld ?_
              · rintro w' ⟨k0, k1, k2⟩; go_simp
              try simp only [Act.put, List.setIfInBounds_toArray, List.set_cons_zero, List.set_cons_succ, List.getElem_toArray, List.getElem_cons_succ, List.getElem_cons_zero]
              have hrz := HMK.out.to HZ.out
              have fz := frozen_row (hrz.rows k (by omega)).2 v
              obtain ⟨cz, hcz⟩ : ∃ c, wz.cell? ⟨Br k, v, none⟩ = some c := ⟨_, (hrz.begW (by omega) k (by omega)).2 v hvT⟩
              clear hrz
              refine wpAnyH_ready (rs := [14]) (by kernel_rfl) (by simp) ?_
              refine AllReadyH.cons (o := _) rfl (fun K hK => ?_) AllReadyH.nil
              go_simp
              refine hK.out _ _ ⟨cell_same (heap_set_ne hneG _) (cell_same (HZ.out.block _ (lt_cellB cgk)) cgk), cell_same (heap_set_ne hneB _) (cell_same (HZ.out.block _ (lt_cellB n0)) n0), cell_same (heap_set_ne hneB _) (cell_same (HZ.out.block _ (lt_cellB n1)) n1)⟩ (fun hHeld => ?_)
              clear hK K
              try simp only [Act.put, List.setIfInBounds_toArray, List.set_cons_zero, List.set_cons_succ, List.getElem_toArray, List.getElem_cons_succ, List.getElem_cons_zero]
              refine wpAnyH_done (by kernel_rfl) ?_ _
              clear hHeld fz hcz cgk n0 n1
              go_wp2_with fail
              go_roundw
              case rel => exact ⟨j + 1, by omega, by go_num, ((HMK.out.to HZ.out).put (q := k) (v := v) (by omega) (g.b k v)).congr (fun q u _ _ => by rw [HTAKE.out, xOrd_next]), grown_setNew (grown_comp (grown_comp HGR.out (grown_of_below8 (Below.refl _ _).drew _)) (grown_of_below8 HZ.out _)) hbrk⟩
              case measure => simp [intOf]; omega
            · obtain rfl : j = T := by omega
              have hjI : ¬ (j : Int) < (j : Int) := by omega
              have hfin := hmk.congr (Y := xOrd g (k + 1) []) (fun q u hq hu => by
                rw [List.take_of_length_le (Nat.le_of_eq HLT.out)]
                exact xOrd_full (ord_all HQ.out (by rw [HLT.out, HGN.out])) (by omega) (by rw [HGN.out]; exact hu))
              have HFIN := Lib.hid hfin
              clear hmk hgr hfin
              go_wp2_with fail
              go_roundw
              case rel => exact ⟨k + 1, Br, by omega, by go_num, HFIN.out, HGR.out, HBR5.out⟩
              case measure => simp [intOf]; omega
        · obtain rfl : k = n := by omega
          have hkI : ¬ (k : Int) < (k : Int) := by omega
          clear hmk hgr hbr
          go_wp2_with fail
          go_ret
          unfold BegOwn
          rw [HTL.out]
          exact ⟨some ⟨G, 0, none⟩, k, rfl, HMK0.out.below, .inr ⟨G, Br0, xOrd g k [], rfl, HMK0.out, hn40, hT4, by rw [HRES.out]; exact xRows g k T⟩⟩
end Go.Proofs.Ytkebdelfklmigad
namespace Go.Proofs.Ytkebdelfklmigad
open Go.RowKit Go.WideShapes

/-- a net's own memory, from B to U, is written to; nothing else -/
def MarkNetPost (w : World) (B U : Nat) (e : Ending) (w' : World) : Prop := ∃ k : Int, e = .returned (.int .i64 k) ∧ 0 ≤ k ∧ Below B w w' ∧ ∀ b, U ≤ b → b < w.heap.size → w'.heap[b]? = w.heap[b]?
set_option maxHeartbeats 1000000 in
theorem markNet_any (d : NV) (B U lo lo2 : Nat) (w : World) (hB : B ≤ lo) (hlt : lo < lo2) (hu : lo2 < U) (hU : U ≤ w.heap.size) (f : Free w (fun b => b = lo) d.aT d.lT) (rf : RowsFree w (fun b => b = lo2) (fun b => lo2 < b ∧ b < U) d.aW d.lW) (hl : d.lT ≤ 1048576) :
    Calls Try.prog 17 #[.agg #[.slice d.aT d.lT d.cT, .slice d.aW d.lW d.cW], .int .i64 1] w (MarkNetPost w B U) := by
  obtain ⟨aT, lT, cT, aW, lW, cW⟩ := d
  dsimp only at f rf hl ⊢
  obtain ⟨n0, n1⟩ := netB_new w aT lT cT aW lW cW 26
  have hn := netB_new w aT lT cT aW lW cW 26
  have f1 := f.to (w' := w.alloc (.cells #[.slice aT lT cT, .slice aW lW cW] 26)) (S' := fun b => b = lo) (fun b hb => ⟨hb, Below.heap_alloc _ _ _ (by omega)⟩)
  have rf1 : RowsFree (w.alloc (.cells #[.slice aT lT cT, .slice aW lW cW] 26)) (fun b => b = lo2) (fun b => lo2 < b ∧ b < U) aW lW := by
    refine ⟨rf.small, fun h0 => ?_⟩
    obtain ⟨b, off, ha, ht, hc⟩ := rf.cells h0
    refine ⟨b, off, ha, ht, fun i hi => ?_⟩
    obtain ⟨a', l, c, h1, h2, h3⟩ := hc i hi
    exact ⟨a', l, c, by rw [World.cell?_of_block (w := w) (Below.heap_alloc _ _ _ (by show b < _; omega))]; exact h1, h2, h3.to (fun q hq => ⟨hq, Below.heap_alloc _ _ _ (by omega)⟩)⟩
  have hz1 : (w.alloc (.cells #[.slice aT lT cT, .slice aW lW cW] 26)).heap.size = w.heap.size + 1 := by simp
  have hblk : ∀ b, b < w.heap.size → (w.alloc (.cells #[.slice aT lT cT, .slice aW lW cW] 26)).heap[b]? = w.heap[b]? := fun b hb => Below.heap_alloc _ _ _ hb
  have hb1 := (Below.refl B w).alloc (by omega) (.cells #[.slice aT lT cT, .slice aW lW cW] 26)
  obtain ⟨w1, hw1⟩ : ∃ w1, (w.alloc (.cells #[.slice aT lT cT, .slice aW lW cW] 26)) = w1 := ⟨_, rfl⟩
  rw [hw1] at n0 n1 hn f1 rf1 hz1 hblk hb1
  have HW1 := Lib.hid hw1
  have HZ1 := Lib.hid hz1
  have HBLK := Lib.hid hblk
  have HB1 := Lib.hid hb1
  have HRF := Lib.hid rf1
  have HN := Lib.hid hn
  dsimp only at n0 n1
  clear hw1 hz1 hblk hb1 rf rf1 f hn
  go_enter Try.func17, Try.ntmps17
  go_wp2_with fail
  rw [HW1.out]
  refine (markIntS_any (fun b => b = lo) aT lT cT 1 w1 f1 (by omega) (by omega) (by omega)).mono ?_
  rintro e w2 ⟨rfl, _, hk2⟩
  have HK2 := Lib.hid hk2
  have HN2 := Lib.hid (HN.out.block (hk2.block w.heap.size (by omega)))
  clear n0 n1 f1 hk2
  obtain ⟨n0, n1⟩ := HN2.out
  dsimp only at n0 n1
  generalize hK : 1 + (lT : Int) = k1
  have hk1 : 1 ≤ k1 ∧ k1 ≤ 1048577 := by omega
  clear hK
  go_wp2_with fail
  have rf2 : RowsFree w2 (fun b => b = lo2) (fun b => lo2 < b ∧ b < U) aW lW := by
    have rf1 := HRF.out
    refine ⟨rf1.small, fun h0 => ?_⟩
    obtain ⟨b, off, ha, ht, hc⟩ := rf1.cells h0
    refine ⟨b, off, ha, ht, fun i hi => ?_⟩
    obtain ⟨a', l, c, h1, h2, h3⟩ := hc i hi
    exact ⟨a', l, c, by rw [World.cell?_of_block (w := w1) (HK2.out.block b (by show ¬ b = lo; have : b = lo2 := ht; omega))]; exact h1, h2, h3.to (fun q hq => ⟨hq, HK2.out.block q (by omega)⟩)⟩
  refine (markIntSS_any (fun b => b = lo2) (fun b => lo2 < b ∧ b < U) aW lW cW k1 w2 rf2 (fun k hk => by omega) (by omega) (by omega)).mono ?_
  rintro e w3 hm
  unfold MarksPost at hm
  obtain ⟨k3, rfl, hk3a, hk3b, hk3⟩ := hm
  have HK3 := Lib.hid hk3
  clear hk3 rf2 n0 n1
  go_wp2_with fail
  go_ret
  exact ⟨k3, rfl, by omega, (HB1.out.trans (HK2.out.below (fun k hk => by omega))).trans (HK3.out.below (fun k hk => by omega)), fun b h1 h2 => ((HK3.out.block b (by omega)).trans (HK2.out.block b (by omega))).trans (HBLK.out b h2)⟩
/-- what the exact law asks of the answer's memory -/
theorem begOwn_sep {w w' : World} {ts : List Int} {rows : List (List Int)} {r : Int} {e : Ending} (h : BegOwn w ts rows r e w') :
    ∃ (a : Option Addr) (n : Nat), e = .returned (.slice a n n) ∧ Below w.heap.size w w' ∧ RowsAt w' (fun b => w.heap.size ≤ b ∧ b < w'.heap.size) a n (begRes ts rows r) ∧ n ≤ 40 ∧
      ∃ (G : Nat) (A : Nat → Option Addr) (L C bl : Nat → Nat), (0 < n → a = some ⟨G, 0, none⟩) ∧ RowsSep9 w' G 0 n A L C bl ∧ (0 < n → w.heap.size ≤ G ∧ G < w'.heap.size) ∧ (∀ i, i < n → w.heap.size ≤ bl i ∧ bl i < w'.heap.size) ∧ ∀ i, L i ≤ 4 := by
  obtain ⟨a, n, rfl, hb, hc⟩ := h
  rcases hc with ⟨rfl, rfl, he⟩ | ⟨G, Br, X, rfl, hm, hn, hT, he⟩
  · rw [he]
    exact ⟨none, 0, rfl, hb, ⟨rfl, by omega, fun h => absurd h (by omega)⟩, by omega, 0, fun _ => none, fun _ => 0, fun _ => 0, fun _ => 0, fun h => absurd h (by omega), ⟨by omega, fun i hi => absurd hi (by omega), fun i hi => absurd hi (by omega), fun i hi => absurd hi (by omega), fun i hi => absurd hi (by omega), fun i j hi => absurd hi (by omega)⟩, fun h => absurd h (by omega), fun i hi => absurd hi (by omega), fun i => Nat.zero_le 4⟩
  · rw [he]
    exact ⟨_, n, rfl, hb, hm.at' (by omega) (by omega), hn, G, _, fun _ => ts.length, _, Br, fun _ => rfl, hm.sep9 hn (by omega), fun _ => ⟨hm.atG, lt_heap hm.outer⟩, fun i hi => ⟨(hm.rows i hi).1, lt_heap (hm.rows i hi).2⟩, fun _ => hT⟩
end Go.Proofs.Ytkebdelfklmigad
