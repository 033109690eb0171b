import Derived.Test.YtkjmpkincaainadRows
import Derived.WalkKit
import Derived.LoopTactic
import Derived.Outline
import Derived.WalkSpells
import Derived.WalkLawsBesides
import Derived.ProofKit
import Derived.Lib.Hide
import Derived.IntWalk
import Derived.Deep.QuietTactic
import Derived.BigQuiet
import Derived.Deep.RegionHeld3
import Derived.Shelf.RegionOpenPlain
import Derived.Test.YtkjmpkincaainadM0
import Derived.Test.YtkjmpkincaainadM1
import Derived.Test.YtkjmpkincaainadM7
import Derived.Test.YtkjmpkincaainadM9
import Derived.Test.YtkjmpkincaainadM6
import Derived.Test.YtkjmpkincaainadM10
import Derived.Test.YtkjmpkincaainadM11
import Derived.Test.YtkjmpkincaainadM13
import Derived.Test.YtkjmpkincaainadM12
namespace Go.Proofs.Ytkjmpkincaainad
open Go.RowKit Go.WideShapes

theorem grown_of8 {w w' : World} (h : Below w.heap.size w w') (B : Nat) : w.grownBy w' (some B) := ⟨h.os, h.tape, h.output, h.size, fun b hb _ => h.block b hb⟩
theorem below_of8 {w w' : World} {B : Nat} (h : w.grownBy w' (some B)) {lo : Nat} (h1 : lo ≤ B) (h2 : lo ≤ w.heap.size) : Below lo w w' := (Below.refl lo w).grown h h2 (fun k e => by cases e; exact h1)
def PacePostG (w : World) (Q : Int → Nat → Prop) (e : Ending) (w' : World) : Prop := ∃ U D : Nat, e = .returned (.agg #[.int .i64 U, .int .i64 D]) ∧ IsGr U D Q ∧ Below w.heap.size w w'
theorem gr_join {U D U' D' : Nat} {Q Q' R : Int → Nat → Prop} (h : IsGr U D Q) (h' : IsGr U' D' Q') (hR : ∀ T C, R T C ↔ Q T C ∨ Q' T C) : IsGr (if (U : Int) * D' < (U' : Int) * D then U' else U) (if (U : Int) * D' < (U' : Int) * D then D' else D) R := by
  by_cases hl : (U : Int) * D' < (U' : Int) * D
  · rw [if_pos hl, if_pos hl]; exact gr_right h h' hl hR
  · rw [if_neg hl, if_neg hl]; exact gr_left h h' hl hR
/-- five numbers in a block -/
def Five (w : World) (b : Nat) (x0 x1 x2 x3 x4 : Int) : Prop := w.cell? ⟨b, 0, none⟩ = some (.int .i64 x0) ∧ w.cell? ⟨b, 1, none⟩ = some (.int .i64 x1) ∧ w.cell? ⟨b, 2, none⟩ = some (.int .i64 x2) ∧ w.cell? ⟨b, 3, none⟩ = some (.int .i64 x3) ∧ w.cell? ⟨b, 4, none⟩ = some (.int .i64 x4)
theorem Five.block {w w' : World} {b : Nat} {x0 x1 x2 x3 x4 : Int} (h : Five w b x0 x1 x2 x3 x4) (e : w'.heap[b]? = w.heap[b]?) : Five w' b x0 x1 x2 x3 x4 :=
  ⟨by rw [World.cell?_of_block (w := w) e]; exact h.1, by rw [World.cell?_of_block (w := w) e]; exact h.2.1, by rw [World.cell?_of_block (w := w) e]; exact h.2.2.1, by rw [World.cell?_of_block (w := w) e]; exact h.2.2.2.1, by rw [World.cell?_of_block (w := w) e]; exact h.2.2.2.2⟩
theorem Five.lt {w : World} {b : Nat} {x0 x1 x2 x3 x4 : Int} (h : Five w b x0 x1 x2 x3 x4) : b < w.heap.size := World.block_lt_of_cell? w _ h.1
theorem five_new (w : World) (x0 x1 x2 x3 x4 : Int) (t : TypeId) : Five (w.alloc (.cells #[.int .i64 x0, .int .i64 x1, .int .i64 x2, .int .i64 x3, .int .i64 x4] t)) w.heap.size x0 x1 x2 x3 x4 :=
  ⟨by rw [World.cell?_alloc_new]; rfl, by rw [World.cell?_alloc_new]; rfl, by rw [World.cell?_alloc_new]; rfl, by rw [World.cell?_alloc_new]; rfl, by rw [World.cell?_alloc_new]; rfl⟩
set_option maxRecDepth 100000 in
set_option maxHeartbeats 4000000 in
theorem along_any (s v M T C fr to tk tm : Nat) (hM : M < 16) (ht : to ≤ 3) (hb : v ≤ 100 ∧ T ≤ 100 ∧ C ≤ 100 ∧ tk ≤ 100 ∧ tm ≤ 100) (w : World) :
    Calls Try.prog 54 #[.agg #[.int .i64 s, .int .i64 v, .int .i64 M, .int .i64 T, .int .i64 C], .agg #[.int .i64 fr, .int .i64 to, .int .i64 tk], .int .i64 tm] w
      (valN w (.agg #[.int .i64 s, .int .i64 to, .int .i64 (M ||| 2 ^ to : Nat), .int .i64 ((T : Int) + (tm : Int)), .int .i64 ((C : Int) + (tk : Int))])) := by
  have HSH := Lib.hid (shl8_or hM ht)
  go_enter Try.func54, Try.ntmps54
  go_wp2_with fail
  have mixed : Try.prog.follows .mixedOrders = true := by kernel_rfl
  go_region_o
  clear mixed
  go_wp2_with fail
  refine bodyPost_ret (v := .agg #[.int .i64 s, .int .i64 to, .int .i64 (M ||| 2 ^ to : Nat), .int .i64 ((T : Int) + (tm : Int)), .int .i64 ((C : Int) + (tk : Int))]) (by simp [results, Try.results54, go_sem]; exact HSH.out) rfl ⟨rfl, ?_⟩
  first
    | exact (((Below.refl _ w).alloc (Nat.le_refl _) _).alloc (by simp) _).alloc (by simp; omega) _
    | exact ((((Below.refl _ w).alloc (Nat.le_refl _) _).alloc (by simp) _).alloc (by simp; omega) _).drew
set_option maxRecDepth 100000 in
set_option maxHeartbeats 8000000 in
theorem greatestPace_any (d : NV) (ts : List Int) (rows : List (List Int)) (hv : tokM ts rows = true) (rk : Nat → Nat) (hrk : (grOf ts rows).Rank rk) (s : Nat) : ∀ (f : Nat) (X : List Nat) (M T0 C0 tmv : Nat) (w : World), (grOf ts rows).n - X.length = f →
    PathOk (grOf ts rows) rk X s T0 C0 → MaskOf M X → (grOf ts rows).tm (X.getLastD 0) = (tmv : Int) → NetAt w (· < w.heap.size) d ts rows →
    Calls Try.prog 35 #[.agg #[.slice d.aT d.lT d.cT, .slice d.aW d.lW d.cW], .agg #[.int .i64 s, .int .i64 (X.getLastD 0 : Nat), .int .i64 M, .int .i64 (T0 + tmv : Nat), .int .i64 C0]] w (PacePostG w ((grOf ts rows).On s (fun _ => True) X (X.getLastD 0) T0 C0)) := by
  intro f
  induction f using Nat.strongRecOn with
  | _ f ih =>
    intro X M T0 C0 tmv w hf hpo hmk htmv hnet
    have IH := Lib.hid ih
    have HPO := Lib.hid hpo
    have HMK := Lib.hid hmk
    obtain ⟨hl1, hln, hne, hlm, hsm⟩ := hpo.len
    have HA := Lib.hid (fun w' (hb : Below w.heap.size w w') => net_lift hnet hb)
    have HWO := Lib.hid (fun w' (hb : Below w.heap.size w w') => waysOf_any d ts rows w' (net_lift hnet hb) hv)
    obtain ⟨aT, lT, cT, aW, lW, cW⟩ := d
    have hTL : ts.length = lT := hnet.t.lenEq
    have hWL : rows.length = lW := hnet.r.lenEq
    have hok := gr_ok hv
    have HTM := Lib.hid (fun (w' : World) (hb : Below w.heap.size w w') (v : Nat) (hv : v < lT) => (show ∃ b off, aT = some ⟨b, off, none⟩ ∧ b < w.heap.size ∧ w'.cell? ⟨b, off + v, none⟩ = some (.int .i64 ((grOf ts rows).tm v)) by
      obtain ⟨b, off, x, e, hx, hc⟩ := (HA.out w' hb).t.get hv
      obtain ⟨b2, off2, e2, hb2, _⟩ := hnet.t.cells (by show 0 < lT; omega)
      have e3 : some (⟨b, off, none⟩ : Addr) = some ⟨b2, off2, none⟩ := e.symm.trans e2
      simp only [Option.some.injEq, Addr.mk.injEq, and_true] at e3
      exact ⟨b, off, e, by omega, by rw [hc]; show _ = some (Value.int .i64 (ts.getD v 0)); rw [getD_of hx]⟩))
    have hn : (grOf ts rows).n = lT := hTL
    have hm : (grOf ts rows).m = lW := hWL
    unfold WaysPost at HWO
    rw [hWL] at HWO
    obtain ⟨v, hvl⟩ : ∃ v, X.getLastD 0 = v := ⟨_, rfl⟩
    rw [hvl] at hlm htmv ⊢
    have hvt : v < lT := by rw [← hn]; exact hpo.lt v hlm
    have hst : s < lT := by rw [← hn]; exact hpo.lt s hsm
    obtain ⟨l, hl⟩ : ∃ l, X.length = l := ⟨_, rfl⟩
    have HL := Lib.hid hl
    have HVL := Lib.hid hvl
    have HN := Lib.hid hn
    have HM := Lib.hid hm
    have hTb := hpo.t
    have hCb := hpo.c
    rw [hl] at hTb hCb hln hl1 hf
    rw [hn] at hln
    have HE : Hid (∀ T C, (grOf ts rows).On s (fun _ => True) X v T0 C0 T C ↔ (grOf ts rows).Ways s (fun _ => True) X v T0 C0 lW T C) := Lib.hid (fun T C => by rw [on_ways, hm])
    have hM16 := mask_lt hok hmk hpo.lt
    obtain ⟨g, hg⟩ : ∃ g, grOf ts rows = g := ⟨_, rfl⟩
    rw [hg] at hok HTM IH HPO HE HN HM hrk hf htmv HWO ⊢
    have h4 := hok.n4
    have h7 := hok.m7
    rw [HN.out] at h4 hf
    rw [HM.out] at h7
    have HOK := Lib.hid hok
    have HRK := Lib.hid hrk
    have htv := hok.times v
    have htmv9 : tmv ≤ 9 := by omega
    have HTMV := Lib.hid htmv
    have HWY := Lib.hid (fun k (hk : k < lW) => (show g.f k < lT ∧ g.t k < lT ∧ g.c k ≤ 3 by have := hok.ways k (by rw [HM.out]; exact hk); rw [HN.out] at this; exact this))
    have hT0 : T0 ≤ 27 := by omega
    have hC0 : C0 ≤ 9 := by omega
    have hTI : ((T0 + tmv : Nat) : Int) = (T0 : Int) + (tmv : Int) := by push_cast; rfl
    rw [hTI]
    have HF01 : Hid (fU 0 1 = 0 ∧ fD 0 1 = 1) := Lib.hid (by decide)
    have HFR0 := Lib.hid (ifrac_any 0 1 (by omega) (by omega) (by omega))
    rw [HF01.out.1, HF01.out.2] at HFR0
    have HV := Lib.hid hv
    have HLM := Lib.hid hlm
    clear ih hpo hnet hTL hWL hok hn hm hl hvl hg hrk hne hlm hsm hv htv htmv hmk hTI HF01
    -- the boxes
    have hb1 := (Below.refl w.heap.size w).alloc (Nat.le_refl _) (.cells #[.slice aT lT cT, .slice aW lW cW] 26)
    have hn1 := netB_new w aT lT cT aW lW cW 26
    have hz1 : (w.alloc (.cells #[.slice aT lT cT, .slice aW lW cW] 26)).heap.size = w.heap.size + 1 := by simp
    obtain ⟨w1, hw1⟩ : ∃ w1, (w.alloc (.cells #[.slice aT lT cT, .slice aW lW cW] 26)) = w1 := ⟨_, rfl⟩
    rw [hw1] at hb1 hn1 hz1
    have hp2 := five_new w1 (s : Int) (v : Int) (M : Int) ((T0 : Int) + (tmv : Int)) (C0 : Int) 56
    have hb2 := hb1.alloc (by omega) (.cells #[.int .i64 (s : Int), .int .i64 (v : Int), .int .i64 (M : Int), .int .i64 ((T0 : Int) + (tmv : Int)), .int .i64 (C0 : Int)] 56)
    have hn2 : NetB (w1.alloc (.cells #[.int .i64 (s : Int), .int .i64 (v : Int), .int .i64 (M : Int), .int .i64 ((T0 : Int) + (tmv : Int)), .int .i64 (C0 : Int)] 56)) w.heap.size ⟨aT, lT, cT, aW, lW, cW⟩ := hn1.block (Below.heap_alloc _ _ _ (by omega))
    have hz2 : (w1.alloc (.cells #[.int .i64 (s : Int), .int .i64 (v : Int), .int .i64 (M : Int), .int .i64 ((T0 : Int) + (tmv : Int)), .int .i64 (C0 : Int)] 56)).heap.size = w.heap.size + 1 + 1 := by simp; omega
    rw [hz1] at hp2
    obtain ⟨w2, hw2⟩ : ∃ w2, (w1.alloc (.cells #[.int .i64 (s : Int), .int .i64 (v : Int), .int .i64 (M : Int), .int .i64 ((T0 : Int) + (tmv : Int)), .int .i64 (C0 : Int)] 56)) = w2 := ⟨_, rfl⟩
    rw [hw2] at hp2 hb2 hn2 hz2
    have ht3 := two_new w2 (.int .i64 0) (.int .i64 0) 32
    have hb3 := hb2.alloc (by omega) (.cells #[.int .i64 0, .int .i64 0] 32)
    have hn3 : NetB (w2.alloc (.cells #[.int .i64 0, .int .i64 0] 32)) w.heap.size ⟨aT, lT, cT, aW, lW, cW⟩ := hn2.block (Below.heap_alloc _ _ _ (by omega))
    have hp3 := hp2.block (w' := (w2.alloc (.cells #[.int .i64 0, .int .i64 0] 32))) (Below.heap_alloc _ _ _ (by omega))
    have hz3 : (w2.alloc (.cells #[.int .i64 0, .int .i64 0] 32)).heap.size = w.heap.size + 3 := by simp; omega
    rw [hz2] at ht3
    obtain ⟨w3, hw3⟩ : ∃ w3, (w2.alloc (.cells #[.int .i64 0, .int .i64 0] 32)) = w3 := ⟨_, rfl⟩
    rw [hw3] at ht3 hb3 hn3 hp3 hz3
    have HW1 := Lib.hid hw1
    have HW2 := Lib.hid hw2
    have HW3 := Lib.hid hw3
    have HT3 := Lib.hid ht3
    have HB3 := Lib.hid hb3
    have HN3 := Lib.hid hn3
    have HP3 := Lib.hid hp3
    have HZ3 := Lib.hid hz3
    clear hw1 hw2 hw3 hb1 hn1 hz1 hp2 hb2 hn2 hz2 ht3 hb3 hn3 hp3 hz3
    go_enter Try.func35, Try.ntmps35
    go_wp2_with fail
    rw [HW1.out, HW2.out, HW3.out]
    refine (HFR0.out w3).mono ?_
    rintro e w4 ⟨rfl, hb4⟩
    have hz3 := HZ3.out
    have hz4 := hb4.size
    have hw43 : w.heap.size + 3 ≤ w4.heap.size := by omega
    have HT4 := Lib.hid ((HT3.out.block (hb4.block (w.heap.size + 1 + 1) (by omega))).grown (World.grownBy_alloc w4 (.cells #[.int .i64 0, .int .i64 1] 32) none) (by simp))
    have HP4 := Lib.hid ((HP3.out.block (hb4.block (w.heap.size + 1) (by omega))).block (w' := (w4.alloc (.cells #[.int .i64 0, .int .i64 1] 32))) (Below.heap_alloc _ _ _ (by omega)))
    have HN4 := Lib.hid ((HN3.out.block (hb4.block w.heap.size (by omega))).block (w' := (w4.alloc (.cells #[.int .i64 0, .int .i64 1] 32))) (Below.heap_alloc _ _ _ (by omega)))
    have HE4 := Lib.hid (two_new w4 (.int .i64 0) (.int .i64 1) 32)
    have HB4 := Lib.hid ((HB3.out.trans (hb4.mono (by omega))).alloc (by omega) (.cells #[.int .i64 0, .int .i64 1] 32))
    have HZ4 : Hid ((w4.alloc (.cells #[.int .i64 0, .int .i64 1] 32)).heap.size = w4.heap.size + 1) := Lib.hid (by simp)
    clear hz3 hz4 hb4
    obtain ⟨n0, n1⟩ := HN4.out
    dsimp only at n0 n1
    go_wp2_with fail
    refine (HWO.out _ HB4.out).mono ?_
    rintro e w5 ⟨hb5, B, rfl, hBB, hB5, hJ⟩
    have hz4 := HZ4.out
    have hPB : w4.heap.size < B := by omega
    have hE5 := HE4.out.block (hb5.block w4.heap.size (by omega))
    have hT5 := HT4.out.block (hb5.block (w.heap.size + 1 + 1) (by omega))
    have hP5 := HP4.out.block (hb5.block (w.heap.size + 1) (by omega))
    have hN5 := HN4.out.block (hb5.block w.heap.size (by omega))
    have hB5' := HB4.out.trans (hb5.mono (by omega))
    clear hz4 hb5 n0 n1
    go_wp2_with fail
    go_loopw [12] (fun kv wr => ∃ (k U D : Nat), kv = .int .i64 k ∧ k ≤ lW ∧ IsGr U D (g.Ways s (fun _ => True) X v T0 C0 k) ∧ Two wr w4.heap.size (.int .i64 U) (.int .i64 D) ∧ Two wr (w.heap.size + 1 + 1) (.int .i64 0) (.int .i64 0) ∧ Five wr (w.heap.size + 1) (s : Int) (v : Int) (M : Int) ((T0 : Int) + (tmv : Int)) (C0 : Int) ∧ NetB wr w.heap.size ⟨aT, lT, cT, aW, lW, cW⟩ ∧ Below w.heap.size w wr ∧ B < wr.heap.size ∧ WaysB wr B lW (fun k => (g.f k : Int)) (fun k => (g.t k : Int)) (fun k => (g.c k : Int))) (fun kv _ => lW - (intOf kv).toNat)
    case atStart => exact ⟨0, 0, 1, rfl, Nat.zero_le _, gr_zero (fun T C => ways_zero T C), hE5, hT5, hP5, hN5, hB5', hB5, hJ⟩
    case round =>
      clear hE5 hT5 hP5 hN5 hB5' hJ hBB hB5
      obtain ⟨k, U, D, rfl, hk, hgr, he, ht, hp, hnb, hb, hBs, hJ⟩ := hrel
      obtain ⟨wi, rfl⟩ : ∃ wi : World, wi = wr := ⟨_, rfl⟩
      have hub := hgr.u36
      have hdb := hgr.d12
      have HGR := Lib.hid hgr
      by_cases hkl : k < lW
      · have hkI : (k : Int) < (lW : Int) := by omega
        obtain ⟨g0, g1, g2⟩ := hJ.at hkl
        obtain ⟨hfl, htl, hcl⟩ := HWY.out k hkl
        -- the way in a box of its own
        have hwb : w4.heap.size < wi.heap.size := by omega
        have HAL := Lib.hid ((Below.refl wi.heap.size wi).alloc (Nat.le_refl _) (.cells #[.int .i64 (g.f k), .int .i64 (g.t k), .int .i64 (g.c k)] 75))
        have HWZ : Hid ((wi.alloc (.cells #[.int .i64 (g.f k), .int .i64 (g.t k), .int .i64 (g.c k)] 75)).heap.size = wi.heap.size + 1) := Lib.hid (by simp)
        have HWC : Hid ((wi.alloc (.cells #[.int .i64 (g.f k), .int .i64 (g.t k), .int .i64 (g.c k)] 75)).cell? ⟨wi.heap.size, 0, none⟩ = some (.int .i64 (g.f k)) ∧ (wi.alloc (.cells #[.int .i64 (g.f k), .int .i64 (g.t k), .int .i64 (g.c k)] 75)).cell? ⟨wi.heap.size, 1, none⟩ = some (.int .i64 (g.t k)) ∧ (wi.alloc (.cells #[.int .i64 (g.f k), .int .i64 (g.t k), .int .i64 (g.c k)] 75)).cell? ⟨wi.heap.size, 2, none⟩ = some (.int .i64 (g.c k))) := Lib.hid ⟨by rw [World.cell?_alloc_new]; rfl, by rw [World.cell?_alloc_new]; rfl, by rw [World.cell?_alloc_new]; rfl⟩
        have HQ := Lib.hid (show ∀ w', Below wi.heap.size wi w' → Two w' w4.heap.size (.int .i64 U) (.int .i64 D) ∧ Two w' (w.heap.size + 1 + 1) (.int .i64 0) (.int .i64 0) ∧ Five w' (w.heap.size + 1) (s : Int) (v : Int) (M : Int) ((T0 : Int) + (tmv : Int)) (C0 : Int) ∧ NetB w' w.heap.size ⟨aT, lT, cT, aW, lW, cW⟩ ∧ Below w.heap.size w w' ∧ WaysB w' B lW (fun k => (g.f k : Int)) (fun k => (g.t k : Int)) (fun k => (g.c k : Int)) from fun w' h =>
          ⟨he.block (h.block _ he.lt), ht.block (h.block _ ht.lt), hp.block (h.block _ hp.lt), hnb.block (h.block _ hnb.lt), hb.trans (h.mono hb.size), hJ.block (h.block _ hBs)⟩)
        have hwi3 : w.heap.size + 3 ≤ wi.heap.size := by omega
        obtain ⟨q0, q1, q2, q3, q4⟩ := (HQ.out _ HAL.out).2.2.1
        clear he ht hp hnb hb hJ hgr
        by_cases hfv : g.f k = v
        · have hfI : (((g.f k : Nat) : Int) != (v : Int)) = false := by simp; omega
          have HFV := Lib.hid hfv
          clear hfv
          by_cases hts : g.t k = s
          · have htI : (((g.t k : Nat) : Int) == (s : Int)) = true := by simp; omega
            have hC1 := path_close HRK.out HPO.out (by rw [HM.out]; exact hkl) (by rw [HFV.out, HVL.out]) hts
            have HFR := Lib.hid (ifrac_any (T0 + tmv) (C0 + g.c k) (by omega) hC1 (by omega))
            have HOP1 := Lib.hid (opt_one (T := T0 + tmv) (C := C0 + g.c k) (by omega) hC1 (by omega) (Q := g.Way s (fun _ => True) X v T0 C0 k) (fun t c => by rw [way_close HFV.out hts, HTMV.out]; push_cast; exact Iff.rfl))
            have hcast : ((T0 + tmv : Nat) : Int) = (T0 : Int) + (tmv : Int) ∧ ((C0 + g.c k : Nat) : Int) = (C0 : Int) + ((g.c k : Nat) : Int) := ⟨by push_cast; rfl, by push_cast; rfl⟩
            rw [hcast.1, hcast.2] at HFR
            obtain ⟨U', hU'⟩ : ∃ U', fU (T0 + tmv) (C0 + g.c k) = U' := ⟨_, rfl⟩
            obtain ⟨D', hD'⟩ : ∃ D', fD (T0 + tmv) (C0 + g.c k) = D' := ⟨_, rfl⟩
            rw [hU', hD'] at HFR
            have HOP : Hid (IsGr U' D' (g.Way s (fun _ => True) X v T0 C0 k)) := Lib.hid (by rw [← hU', ← hD']; exact HOP1.out)
            clear hcast hU' hD' HOP1 hts
            have hcI : IntKind.i64.wrap ((C0 : Int) + ((g.c k : Nat) : Int)) = (C0 : Int) + ((g.c k : Nat) : Int) := IntWalk.i64_in _ (by omega)
            go_wp2_with fail
            obtain ⟨wg, hwg⟩ : ∃ x, (wi.alloc (.cells #[.int .i64 (g.f k), .int .i64 (g.t k), .int .i64 (g.c k)] 75)) = x := ⟨_, rfl⟩
            have HGB : Hid (Below wi.heap.size wi wg.drew) := Lib.hid (by rw [← hwg]; exact HAL.out.drew)
            have HGZ : Hid (wg.drew.heap.size = wi.heap.size + 1) := Lib.hid (by rw [← hwg]; exact HWZ.out)
            have HGC : Hid (wg.drew.cell? ⟨wi.heap.size, 0, none⟩ = some (.int .i64 (g.f k)) ∧ wg.drew.cell? ⟨wi.heap.size, 1, none⟩ = some (.int .i64 (g.t k)) ∧ wg.drew.cell? ⟨wi.heap.size, 2, none⟩ = some (.int .i64 (g.c k))) := Lib.hid (by rw [← hwg]; exact HWC.out)
            rw [hwg]
            clear hwg q0 q1 q2 q3 q4
            obtain ⟨q0, q1, q2, q3, q4⟩ := (HQ.out _ HGB.out).2.2.1
            obtain ⟨m0, m1⟩ := (HQ.out _ HGB.out).2.2.2.1
            dsimp only at m0 m1
            obtain ⟨y0, y1, y2⟩ := HGC.out
            have hgz := HGZ.out
            have hwlt : w.heap.size + 1 < wg.drew.heap.size := by omega
            have hpn : w4.heap.size ≠ w.heap.size + 1 := by omega
            have hpn0 : w4.heap.size ≠ w.heap.size := by omega
            have hpnw : w4.heap.size ≠ wi.heap.size := by omega
            refine wp_region_held_drew (S := (fun w' => wg.drew.grownBy w' (some w4.heap.size))) (by kernel_rfl) (grown_refl _ _) (fun hHeld => ?_)
            have HG2 := Lib.hid (gr_join HGR.out HOP.out (fun T C => ways_succ T C))
            have HGT := Lib.hid (greater_any U D U' D' (by have := HOP.out.u36; have := HOP.out.d12; omega) HGR.out.cop HOP.out.cop HGR.out.d1)
            obtain ⟨U2, hU2⟩ : ∃ U2, (if (U : Int) * D' < (U' : Int) * D then U' else U) = U2 := ⟨_, rfl⟩
            obtain ⟨D2, hD2⟩ : ∃ D2, (if (U : Int) * D' < (U' : Int) * D then D' else D) = D2 := ⟨_, rfl⟩
            rw [hU2, hD2] at HG2 HGT
            clear hU2 hD2
            refine wpAnyH_take (i := 1) (v := .pointer (some ⟨w.heap.size + 1, 3, none⟩)) rfl (by kernel_rfl) (by kernel_rfl) (by kernel_rfl) (fun _ _ _ h => h) (Or.inl ⟨by rfl, ?_⟩) hHeld ?_
            · intro w' hS; go_simp
            try simp only [Act.put, List.setIfInBounds_toArray, List.set_cons_zero, List.set_cons_succ, List.getElem_toArray, List.getElem_cons_succ, List.getElem_cons_zero]
            refine wpAnyH_take (i := 2) (v := .int .i64 ((T0 : Int) + (tmv : Int))) rfl (by kernel_rfl) (by kernel_rfl) (by kernel_rfl) (fun _ _ _ h => h) (Or.inl ⟨by rfl, ?_⟩) hHeld ?_
            · intro w' hS; have k0 := hS.cell (q3) (by simp; omega); go_simp
            try simp only [Act.put, List.setIfInBounds_toArray, List.set_cons_zero, List.set_cons_succ, List.getElem_toArray, List.getElem_cons_succ, List.getElem_cons_zero]
            refine wpAnyH_take (i := 3) (v := .pointer (some ⟨w.heap.size + 1, 4, none⟩)) rfl (by kernel_rfl) (by kernel_rfl) (by kernel_rfl) (fun _ _ _ h => h) (Or.inl ⟨by rfl, ?_⟩) hHeld ?_
            · intro w' hS; go_simp
            try simp only [Act.put, List.setIfInBounds_toArray, List.set_cons_zero, List.set_cons_succ, List.getElem_toArray, List.getElem_cons_succ, List.getElem_cons_zero]
            refine wpAnyH_take (i := 4) (v := .int .i64 (C0 : Int)) rfl (by kernel_rfl) (by kernel_rfl) (by kernel_rfl) (fun _ _ _ h => h) (Or.inl ⟨by rfl, ?_⟩) hHeld ?_
            · intro w' hS; have k0 := hS.cell (q4) (by simp; omega); go_simp
            try simp only [Act.put, List.setIfInBounds_toArray, List.set_cons_zero, List.set_cons_succ, List.getElem_toArray, List.getElem_cons_succ, List.getElem_cons_zero]
            refine wpAnyH_take (i := 5) (v := .pointer (some ⟨wi.heap.size, 2, none⟩)) rfl (by kernel_rfl) (by kernel_rfl) (by kernel_rfl) (fun _ _ _ h => h) (Or.inl ⟨by rfl, ?_⟩) hHeld ?_
            · intro w' hS; go_simp
            try simp only [Act.put, List.setIfInBounds_toArray, List.set_cons_zero, List.set_cons_succ, List.getElem_toArray, List.getElem_cons_succ, List.getElem_cons_zero]
            refine wpAnyH_take (i := 6) (v := .int .i64 ((g.c k : Nat) : Int)) rfl (by kernel_rfl) (by kernel_rfl) (by kernel_rfl) (fun _ _ _ h => h) (Or.inl ⟨by rfl, ?_⟩) hHeld ?_
            · intro w' hS; have k0 := hS.cell (y2) (by simp; omega); go_simp
            try simp only [Act.put, List.setIfInBounds_toArray, List.set_cons_zero, List.set_cons_succ, List.getElem_toArray, List.getElem_cons_succ, List.getElem_cons_zero]
            refine wpAnyH_take (i := 7) (v := .int .i64 ((C0 : Int) + ((g.c k : Nat) : Int))) rfl (by kernel_rfl) (by kernel_rfl) (by kernel_rfl) (fun _ _ _ h => h) (Or.inl ⟨by rfl, ?_⟩) hHeld ?_
            · intro w' hS; go_simp
            try simp only [Act.put, List.setIfInBounds_toArray, List.set_cons_zero, List.set_cons_succ, List.getElem_toArray, List.getElem_cons_succ, List.getElem_cons_zero]
            refine wpAnyH_ready (rs := [0, 8]) (by kernel_rfl) (by simp) ?_
            refine AllReadyH.cons (o := _) rfl (fun K hK => ?_) (AllReadyH.cons (o := _) rfl (fun K hK => ?_) AllReadyH.nil)
            · obtain ⟨⟨b0, bz0⟩, b1, bz1⟩ := (HQ.out _ HGB.out).1
              go_simp
              refine hK.out _ _ (grown_of8 ((Below.refl wg.drew.heap.size wg.drew)) w4.heap.size) (fun hHeld => ?_)
              clear hK K
              try simp only [Act.put, List.setIfInBounds_toArray, List.set_cons_zero, List.set_cons_succ, List.getElem_toArray, List.getElem_cons_succ, List.getElem_cons_zero]
              refine wpAnyH_ready (rs := [8]) (by kernel_rfl) (by simp) ?_
              refine AllReadyH.cons (o := _) rfl (fun K hK => ?_) AllReadyH.nil
              go_simp
              refine (HFR.out _).mono ?_
              rintro e wf ⟨rfl, hbf⟩
              have HXF := Lib.hid (HGB.out.trans (hbf.mono HGB.out.size))
              have HYF := Lib.hid hbf
              clear hbf
              refine hK.out _ _ (grown_of8 HYF.out w4.heap.size) (fun hHeld => ?_)
              clear hK K
              try simp only [Act.put, List.setIfInBounds_toArray, List.set_cons_zero, List.set_cons_succ, List.getElem_toArray, List.getElem_cons_succ, List.getElem_cons_zero]
              refine wpAnyH_ready (rs := [9]) (by kernel_rfl) (by simp) ?_
              refine AllReadyH.cons (o := _) rfl (fun K hK => ?_) AllReadyH.nil
              go_simp
              refine (HGT.out _).mono ?_
              rintro e wz ⟨rfl, hbz⟩
              have HXZ := Lib.hid (HXF.out.trans (hbz.mono HXF.out.size))
              have HYZ := Lib.hid (HYF.out.trans (hbz.mono HYF.out.size))
              have HTZ := Lib.hid ((HQ.out _ HXZ.out).1)
              clear hbz
              obtain ⟨⟨z0, zf0⟩, z1, zf1⟩ := HTZ.out
              refine hK.out _ _ (grown_of8 HYZ.out w4.heap.size) (fun hHeld => ?_)
              clear hK K
              try simp only [Act.put, List.setIfInBounds_toArray, List.set_cons_zero, List.set_cons_succ, List.getElem_toArray, List.getElem_cons_succ, List.getElem_cons_zero]
              refine wpAnyH_ready (rs := [10]) (by kernel_rfl) (by simp) ?_
              refine AllReadyH.cons (o := _) rfl (fun K hK => ?_) AllReadyH.nil
              go_simp
              refine hK.out _ _ (grown_comp (grown_of8 HYZ.out w4.heap.size) (grown_comp (grownBy_setCell _ ⟨w4.heap.size, 0, none⟩ _) (grownBy_setCell _ ⟨w4.heap.size, 1, none⟩ _))) (fun hHeld => ?_)
              clear hK K
              try simp only [Act.put, List.setIfInBounds_toArray, List.set_cons_zero, List.set_cons_succ, List.getElem_toArray, List.getElem_cons_succ, List.getElem_cons_zero]
              refine wpAnyH_done (by kernel_rfl) ?_ _
              have hgs : wz.grownBy ((wz.setCell ⟨w4.heap.size, 0, none⟩ (.int .i64 (U2 : Int))).setCell ⟨w4.heap.size, 1, none⟩ (.int .i64 (D2 : Int))) (some w4.heap.size) := grown_comp (grownBy_setCell _ _ _) (grownBy_setCell _ _ _)
              have HGS := Lib.hid hgs
              have hzs := HXZ.out.size
              have hzq : ((wz.setCell ⟨w4.heap.size, 0, none⟩ (.int .i64 (U2 : Int))).setCell ⟨w4.heap.size, 1, none⟩ (.int .i64 (D2 : Int))).heap.size = wz.heap.size := by rw [World.size_setCell, World.size_setCell]
              have HZQ := Lib.hid hzq
              clear hgs hzq hHeld q0 q1 q2 q3 q4 m0 m1 y0 y1 y2 hgz
              go_wp2_with fail
              go_roundw
              case rel => exact ⟨k + 1, U2, D2, by go_num, by omega, HG2.out, (HTZ.out.set0 _).set1 _, (HQ.out _ HXZ.out).2.1.grown HGS.out (by simp; omega), (HQ.out _ HXZ.out).2.2.1.block (HGS.out.block _ (by omega) (by simp; omega)), (HQ.out _ HXZ.out).2.2.2.1.block (HGS.out.block _ (by omega) (by simp; omega)), (HQ.out _ HXZ.out).2.2.2.2.1.trans (below_of8 HGS.out (by omega) (by omega)), by have := HZQ.out; omega, (HQ.out _ HXZ.out).2.2.2.2.2.block (HGS.out.block _ (by omega) (by simp; omega))⟩
              case measure => simp [intOf]; omega
            · go_simp
              refine (HFR.out _).mono ?_
              rintro e wf ⟨rfl, hbf⟩
              have HXF := Lib.hid (HGB.out.trans (hbf.mono HGB.out.size))
              have HYF := Lib.hid hbf
              clear hbf
              refine hK.out _ _ (grown_of8 HYF.out w4.heap.size) (fun hHeld => ?_)
              clear hK K
              try simp only [Act.put, List.setIfInBounds_toArray, List.set_cons_zero, List.set_cons_succ, List.getElem_toArray, List.getElem_cons_succ, List.getElem_cons_zero]
              refine wpAnyH_ready (rs := [0]) (by kernel_rfl) (by simp) ?_
              refine AllReadyH.cons (o := _) rfl (fun K hK => ?_) AllReadyH.nil
              obtain ⟨⟨b0, bz0⟩, b1, bz1⟩ := (HQ.out _ HXF.out).1
              go_simp
              refine hK.out _ _ (grown_of8 (HYF.out) w4.heap.size) (fun hHeld => ?_)
              clear hK K
              try simp only [Act.put, List.setIfInBounds_toArray, List.set_cons_zero, List.set_cons_succ, List.getElem_toArray, List.getElem_cons_succ, List.getElem_cons_zero]
              refine wpAnyH_ready (rs := [9]) (by kernel_rfl) (by simp) ?_
              refine AllReadyH.cons (o := _) rfl (fun K hK => ?_) AllReadyH.nil
              go_simp
              refine (HGT.out _).mono ?_
              rintro e wz ⟨rfl, hbz⟩
              have HXZ := Lib.hid (HXF.out.trans (hbz.mono HXF.out.size))
              have HYZ := Lib.hid (HYF.out.trans (hbz.mono HYF.out.size))
              have HTZ := Lib.hid ((HQ.out _ HXZ.out).1)
              clear hbz
              obtain ⟨⟨z0, zf0⟩, z1, zf1⟩ := HTZ.out
              refine hK.out _ _ (grown_of8 HYZ.out w4.heap.size) (fun hHeld => ?_)
              clear hK K
              try simp only [Act.put, List.setIfInBounds_toArray, List.set_cons_zero, List.set_cons_succ, List.getElem_toArray, List.getElem_cons_succ, List.getElem_cons_zero]
              refine wpAnyH_ready (rs := [10]) (by kernel_rfl) (by simp) ?_
              refine AllReadyH.cons (o := _) rfl (fun K hK => ?_) AllReadyH.nil
              go_simp
              refine hK.out _ _ (grown_comp (grown_of8 HYZ.out w4.heap.size) (grown_comp (grownBy_setCell _ ⟨w4.heap.size, 0, none⟩ _) (grownBy_setCell _ ⟨w4.heap.size, 1, none⟩ _))) (fun hHeld => ?_)
              clear hK K
              try simp only [Act.put, List.setIfInBounds_toArray, List.set_cons_zero, List.set_cons_succ, List.getElem_toArray, List.getElem_cons_succ, List.getElem_cons_zero]
              refine wpAnyH_done (by kernel_rfl) ?_ _
              have hgs : wz.grownBy ((wz.setCell ⟨w4.heap.size, 0, none⟩ (.int .i64 (U2 : Int))).setCell ⟨w4.heap.size, 1, none⟩ (.int .i64 (D2 : Int))) (some w4.heap.size) := grown_comp (grownBy_setCell _ _ _) (grownBy_setCell _ _ _)
              have HGS := Lib.hid hgs
              have hzs := HXZ.out.size
              have hzq : ((wz.setCell ⟨w4.heap.size, 0, none⟩ (.int .i64 (U2 : Int))).setCell ⟨w4.heap.size, 1, none⟩ (.int .i64 (D2 : Int))).heap.size = wz.heap.size := by rw [World.size_setCell, World.size_setCell]
              have HZQ := Lib.hid hzq
              clear hgs hzq hHeld q0 q1 q2 q3 q4 m0 m1 y0 y1 y2 hgz
              go_wp2_with fail
              go_roundw
              case rel => exact ⟨k + 1, U2, D2, by go_num, by omega, HG2.out, (HTZ.out.set0 _).set1 _, (HQ.out _ HXZ.out).2.1.grown HGS.out (by simp; omega), (HQ.out _ HXZ.out).2.2.1.block (HGS.out.block _ (by omega) (by simp; omega)), (HQ.out _ HXZ.out).2.2.2.1.block (HGS.out.block _ (by omega) (by simp; omega)), (HQ.out _ HXZ.out).2.2.2.2.1.trans (below_of8 HGS.out (by omega) (by omega)), by have := HZQ.out; omega, (HQ.out _ HXZ.out).2.2.2.2.2.block (HGS.out.block _ (by omega) (by simp; omega))⟩
              case measure => simp [intOf]; omega
          · have htI : (((g.t k : Nat) : Int) == (s : Int)) = false := by simp; omega
            cases hbit : M.testBit (g.t k)
            · have HIN := Lib.hid (fun w => isIn8 M (g.t k) (by omega) (by omega) w hbit)
              have hnX : ¬ g.t k ∈ X := fun hm => by rw [(HMK.out _).2 hm] at hbit; cases hbit
              have htk9 := HOK.out.times (g.t k)
              obtain ⟨tmt, htmt⟩ : ∃ q : Nat, g.tm (g.t k) = (q : Int) := ⟨(g.tm (g.t k)).toNat, by omega⟩
              have HTT := Lib.hid htmt
              have HAO := Lib.hid (fun w => along_any s v M (T0 + tmv) C0 (g.f k) (g.t k) (g.c k) tmt hM16 (by omega) (by omega) w)
              have hTI : ((T0 + tmv : Nat) : Int) = (T0 : Int) + (tmv : Int) := by push_cast; rfl
              rw [hTI] at HAO
              obtain ⟨bt, ot, rfl, hbtl, dt⟩ := HTM.out _ (HQ.out _ HAL.out).2.2.2.2.1 (g.t k) htl
              rw [HTT.out] at dt
              have HIH : Hid (∀ (w' : World), Below w.heap.size w w' → Calls Try.prog 35 #[.agg #[.slice (some ⟨bt, ot, none⟩) lT cT, .slice aW lW cW], .agg #[.int .i64 s, .int .i64 (g.t k : Nat), .int .i64 (M ||| 2 ^ g.t k : Nat), .int .i64 ((T0 : Int) + (tmv : Int) + (tmt : Int)), .int .i64 ((C0 : Int) + ((g.c k : Nat) : Int))]] w' (PacePostG w' (g.Way s (fun _ => True) X v T0 C0 k))) := Lib.hid (by
                intro w' hb
                have hpo2 := path_step HOK.out HRK.out HPO.out (by rw [HM.out]; exact hkl) (by rw [HFV.out, HVL.out]) hnX (by rw [HVL.out]; exact HTMV.out)
                have hlen : (X ++ [g.t k]).length = l + 1 := by rw [List.length_append, HL.out]; rfl
                have hln2 : l + 1 ≤ lT := by have := hpo2.len.2.1; rw [hlen, HN.out] at this; exact this
                have := IH.out (lT - (l + 1)) (by omega) (X ++ [g.t k]) (M ||| 2 ^ g.t k) (T0 + tmv) (C0 + g.c k) tmt w' (by rw [hlen, HN.out]) hpo2 (mask_snoc HMK.out _) (by rw [last_snoc]; exact HTT.out) (HA.out w' hb)
                rw [last_snoc] at this
                have hcast : ((T0 + tmv + tmt : Nat) : Int) = (T0 : Int) + (tmv : Int) + (tmt : Int) ∧ ((C0 + g.c k : Nat) : Int) = (C0 : Int) + ((g.c k : Nat) : Int) := ⟨by push_cast; rfl, by push_cast; rfl⟩
                rw [hcast.1, hcast.2] at this
                refine this.mono ?_
                rintro e w2 ⟨U', D', rfl, ho, hb2⟩
                refine ⟨U', D', rfl, gr_congr ho fun T C => ?_, hb2⟩
                have e9 : ((T0 + tmv : Nat) : Int) = (T0 : Int) + (tmv : Int) := by push_cast; rfl
                rw [way_on HFV.out hts hnX trivial (P' := X ++ [g.t k]) (fun x => by rw [List.mem_append, List.mem_singleton]; exact Or.comm), HTMV.out, e9])
              clear hbit htk9 htmt hTI hts hnX
              go_wp2_with fail
              refine (HIN.out _).mono ?_
              rintro e w' ⟨rfl, rfl⟩
              go_wp2_with fail
              obtain ⟨wg, hwg⟩ : ∃ x, (wi.alloc (.cells #[.int .i64 (g.f k), .int .i64 (g.t k), .int .i64 (g.c k)] 75)) = x := ⟨_, rfl⟩
              have HGB : Hid (Below wi.heap.size wi wg.drew) := Lib.hid (by rw [← hwg]; exact HAL.out.drew)
              have HGZ : Hid (wg.drew.heap.size = wi.heap.size + 1) := Lib.hid (by rw [← hwg]; exact HWZ.out)
              have HGC : Hid (wg.drew.cell? ⟨wi.heap.size, 0, none⟩ = some (.int .i64 (g.f k)) ∧ wg.drew.cell? ⟨wi.heap.size, 1, none⟩ = some (.int .i64 (g.t k)) ∧ wg.drew.cell? ⟨wi.heap.size, 2, none⟩ = some (.int .i64 (g.c k))) := Lib.hid (by rw [← hwg]; exact HWC.out)
              have dtg : wg.drew.cell? ⟨bt, ot + g.t k, none⟩ = some (.int .i64 (tmt : Int)) := by rw [← hwg]; exact dt
              have hbtw : bt ≠ w4.heap.size := by omega
              rw [hwg]
              clear hwg q0 q1 q2 q3 q4
              obtain ⟨q0, q1, q2, q3, q4⟩ := (HQ.out _ HGB.out).2.2.1
              obtain ⟨m0, m1⟩ := (HQ.out _ HGB.out).2.2.2.1
              dsimp only at m0 m1
              obtain ⟨y0, y1, y2⟩ := HGC.out
              have hgz := HGZ.out
              have hwlt : w.heap.size + 1 < wg.drew.heap.size := by omega
              have hpn : w4.heap.size ≠ w.heap.size + 1 := by omega
              have hpn0 : w4.heap.size ≠ w.heap.size := by omega
              have hpnw : w4.heap.size ≠ wi.heap.size := by omega
              refine wp_region_held_drew (S := (fun w' => wg.drew.grownBy w' (some w4.heap.size))) (by kernel_rfl) (grown_refl _ _) (fun hHeld => ?_)
              have hgtI : ((g.t k : Nat) : Int) < (lT : Int) := by omega
              refine wpAnyH_take (i := 1) (v := .agg #[.slice (some ⟨bt, ot, none⟩) lT cT, .slice aW lW cW]) rfl (by kernel_rfl) (by kernel_rfl) (by kernel_rfl) (fun _ _ _ h => h) (Or.inl ⟨by rfl, ?_⟩) hHeld ?_
              · intro w' hS; have k0 := hS.cell (m0) (by simp; omega); have k1 := hS.cell (m1) (by simp; omega); go_simp
              try simp only [Act.put, List.setIfInBounds_toArray, List.set_cons_zero, List.set_cons_succ, List.getElem_toArray, List.getElem_cons_succ, List.getElem_cons_zero]
              refine wpAnyH_take (i := 2) (v := .agg #[.int .i64 (s : Int), .int .i64 (v : Int), .int .i64 (M : Int), .int .i64 ((T0 : Int) + (tmv : Int)), .int .i64 (C0 : Int)]) rfl (by kernel_rfl) (by kernel_rfl) (by kernel_rfl) (fun _ _ _ h => h) (Or.inl ⟨by rfl, ?_⟩) hHeld ?_
              · intro w' hS; have k0 := hS.cell (q0) (by simp; omega); have k1 := hS.cell (q1) (by simp; omega); have k2 := hS.cell (q2) (by simp; omega); have k3 := hS.cell (q3) (by simp; omega); have k4 := hS.cell (q4) (by simp; omega); go_simp
              try simp only [Act.put, List.setIfInBounds_toArray, List.set_cons_zero, List.set_cons_succ, List.getElem_toArray, List.getElem_cons_succ, List.getElem_cons_zero]
              refine wpAnyH_take (i := 3) (v := .agg #[.int .i64 ((g.f k : Nat) : Int), .int .i64 ((g.t k : Nat) : Int), .int .i64 ((g.c k : Nat) : Int)]) rfl (by kernel_rfl) (by kernel_rfl) (by kernel_rfl) (fun _ _ _ h => h) (Or.inl ⟨by rfl, ?_⟩) hHeld ?_
              · intro w' hS; have k0 := hS.cell (y0) (by simp; omega); have k1 := hS.cell (y1) (by simp; omega); have k2 := hS.cell (y2) (by simp; omega); go_simp
              try simp only [Act.put, List.setIfInBounds_toArray, List.set_cons_zero, List.set_cons_succ, List.getElem_toArray, List.getElem_cons_succ, List.getElem_cons_zero]
              refine wpAnyH_take (i := 4) (v := .pointer (some ⟨w.heap.size, 0, none⟩)) rfl (by kernel_rfl) (by kernel_rfl) (by kernel_rfl) (fun _ _ _ h => h) (Or.inl ⟨by rfl, ?_⟩) hHeld ?_
              · intro w' hS; go_simp
              try simp only [Act.put, List.setIfInBounds_toArray, List.set_cons_zero, List.set_cons_succ, List.getElem_toArray, List.getElem_cons_succ, List.getElem_cons_zero]
              refine wpAnyH_take (i := 5) (v := .slice (some ⟨bt, ot, none⟩) lT cT) rfl (by kernel_rfl) (by kernel_rfl) (by kernel_rfl) (fun _ _ _ h => h) (Or.inl ⟨by rfl, ?_⟩) hHeld ?_
              · intro w' hS; have k0 := hS.cell (m0) (by simp; omega); go_simp
              try simp only [Act.put, List.setIfInBounds_toArray, List.set_cons_zero, List.set_cons_succ, List.getElem_toArray, List.getElem_cons_succ, List.getElem_cons_zero]
              refine wpAnyH_take (i := 6) (v := .pointer (some ⟨wi.heap.size, 1, none⟩)) rfl (by kernel_rfl) (by kernel_rfl) (by kernel_rfl) (fun _ _ _ h => h) (Or.inl ⟨by rfl, ?_⟩) hHeld ?_
              · intro w' hS; go_simp
              try simp only [Act.put, List.setIfInBounds_toArray, List.set_cons_zero, List.set_cons_succ, List.getElem_toArray, List.getElem_cons_succ, List.getElem_cons_zero]
              refine wpAnyH_take (i := 7) (v := .int .i64 ((g.t k : Nat) : Int)) rfl (by kernel_rfl) (by kernel_rfl) (by kernel_rfl) (fun _ _ _ h => h) (Or.inl ⟨by rfl, ?_⟩) hHeld ?_
              · intro w' hS; have k0 := hS.cell (y1) (by simp; omega); go_simp
              try simp only [Act.put, List.setIfInBounds_toArray, List.set_cons_zero, List.set_cons_succ, List.getElem_toArray, List.getElem_cons_succ, List.getElem_cons_zero]
              refine wpAnyH_take (i := 8) (v := .pointer (some ⟨bt, ot + g.t k, none⟩)) rfl (by kernel_rfl) (by kernel_rfl) (by kernel_rfl) (fun _ _ _ h => h) (Or.inl ⟨by rfl, ?_⟩) hHeld ?_
              · intro w' hS; go_simp
              try simp only [Act.put, List.setIfInBounds_toArray, List.set_cons_zero, List.set_cons_succ, List.getElem_toArray, List.getElem_cons_succ, List.getElem_cons_zero]
              refine wpAnyH_take (i := 9) (v := .int .i64 (tmt : Int)) rfl (by kernel_rfl) (by kernel_rfl) (by kernel_rfl) (fun _ _ _ h => h) (Or.inl ⟨by rfl, ?_⟩) hHeld ?_
              · intro w' hS; have k0 := hS.cell (dtg) (by simp; omega); go_simp
              try simp only [Act.put, List.setIfInBounds_toArray, List.set_cons_zero, List.set_cons_succ, List.getElem_toArray, List.getElem_cons_succ, List.getElem_cons_zero]
              refine wpAnyH_ready (rs := [0, 10]) (by kernel_rfl) (by simp) ?_
              refine AllReadyH.cons (o := _) rfl (fun K hK => ?_) (AllReadyH.cons (o := _) rfl (fun K hK => ?_) AllReadyH.nil)
              · obtain ⟨⟨b0, bz0⟩, b1, bz1⟩ := (HQ.out _ HGB.out).1
                go_simp
                refine hK.out _ _ (grown_of8 ((Below.refl wg.drew.heap.size wg.drew)) w4.heap.size) (fun hHeld => ?_)
                clear hK K
                try simp only [Act.put, List.setIfInBounds_toArray, List.set_cons_zero, List.set_cons_succ, List.getElem_toArray, List.getElem_cons_succ, List.getElem_cons_zero]
                refine wpAnyH_ready (rs := [10]) (by kernel_rfl) (by simp) ?_
                refine AllReadyH.cons (o := _) rfl (fun K hK => ?_) AllReadyH.nil
                go_simp
                refine (HAO.out _).mono ?_
                rintro e wf ⟨rfl, hbf⟩
                have HXF := Lib.hid (HGB.out.trans (hbf.mono HGB.out.size))
                have HYF := Lib.hid hbf
                clear hbf
                refine hK.out _ _ (grown_of8 HYF.out w4.heap.size) (fun hHeld => ?_)
                clear hK K
                try simp only [Act.put, List.setIfInBounds_toArray, List.set_cons_zero, List.set_cons_succ, List.getElem_toArray, List.getElem_cons_succ, List.getElem_cons_zero]
                refine wpAnyH_ready (rs := [11]) (by kernel_rfl) (by simp) ?_
                refine AllReadyH.cons (o := _) rfl (fun K hK => ?_) AllReadyH.nil
                go_simp
                refine (HIH.out _ (HQ.out _ HXF.out).2.2.2.2.1).mono ?_
                rintro e wp ⟨U', D', rfl, hop, hbp⟩
                have HOP := Lib.hid hop
                have HXP := Lib.hid (HXF.out.trans (hbp.mono HXF.out.size))
                have HYP := Lib.hid (HYF.out.trans (hbp.mono HYF.out.size))
                clear hbp hop
                have HG2 := Lib.hid (gr_join HGR.out HOP.out (fun T C => ways_succ T C))
                have HGT := Lib.hid (greater_any U D U' D' (by have := HOP.out.u36; have := HOP.out.d12; omega) HGR.out.cop HOP.out.cop HGR.out.d1)
                obtain ⟨U2, hU2⟩ : ∃ U2, (if (U : Int) * D' < (U' : Int) * D then U' else U) = U2 := ⟨_, rfl⟩
                obtain ⟨D2, hD2⟩ : ∃ D2, (if (U : Int) * D' < (U' : Int) * D then D' else D) = D2 := ⟨_, rfl⟩
                rw [hU2, hD2] at HG2 HGT
                clear hU2 hD2
                refine hK.out _ _ (grown_of8 HYP.out w4.heap.size) (fun hHeld => ?_)
                clear hK K
                try simp only [Act.put, List.setIfInBounds_toArray, List.set_cons_zero, List.set_cons_succ, List.getElem_toArray, List.getElem_cons_succ, List.getElem_cons_zero]
                refine wpAnyH_ready (rs := [12]) (by kernel_rfl) (by simp) ?_
                refine AllReadyH.cons (o := _) rfl (fun K hK => ?_) AllReadyH.nil
                go_simp
                refine (HGT.out _).mono ?_
                rintro e wz ⟨rfl, hbz⟩
                have HXZ := Lib.hid (HXP.out.trans (hbz.mono HXP.out.size))
                have HYZ := Lib.hid (HYP.out.trans (hbz.mono HYP.out.size))
                have HTZ := Lib.hid ((HQ.out _ HXZ.out).1)
                clear hbz
                obtain ⟨⟨z0, zf0⟩, z1, zf1⟩ := HTZ.out
                refine hK.out _ _ (grown_of8 HYZ.out w4.heap.size) (fun hHeld => ?_)
                clear hK K
                try simp only [Act.put, List.setIfInBounds_toArray, List.set_cons_zero, List.set_cons_succ, List.getElem_toArray, List.getElem_cons_succ, List.getElem_cons_zero]
                refine wpAnyH_ready (rs := [13]) (by kernel_rfl) (by simp) ?_
                refine AllReadyH.cons (o := _) rfl (fun K hK => ?_) AllReadyH.nil
                go_simp
                refine hK.out _ _ (grown_comp (grown_of8 HYZ.out w4.heap.size) (grown_comp (grownBy_setCell _ ⟨w4.heap.size, 0, none⟩ _) (grownBy_setCell _ ⟨w4.heap.size, 1, none⟩ _))) (fun hHeld => ?_)
                clear hK K
                try simp only [Act.put, List.setIfInBounds_toArray, List.set_cons_zero, List.set_cons_succ, List.getElem_toArray, List.getElem_cons_succ, List.getElem_cons_zero]
                refine wpAnyH_done (by kernel_rfl) ?_ _
                have hgs : wz.grownBy ((wz.setCell ⟨w4.heap.size, 0, none⟩ (.int .i64 (U2 : Int))).setCell ⟨w4.heap.size, 1, none⟩ (.int .i64 (D2 : Int))) (some w4.heap.size) := grown_comp (grownBy_setCell _ _ _) (grownBy_setCell _ _ _)
                have HGS := Lib.hid hgs
                have hzs := HXZ.out.size
                have hzq : ((wz.setCell ⟨w4.heap.size, 0, none⟩ (.int .i64 (U2 : Int))).setCell ⟨w4.heap.size, 1, none⟩ (.int .i64 (D2 : Int))).heap.size = wz.heap.size := by rw [World.size_setCell, World.size_setCell]
                have HZQ := Lib.hid hzq
                clear hgs hzq hHeld q0 q1 q2 q3 q4 m0 m1 y0 y1 y2 hgz
                go_wp2_with fail
                go_roundw
                case rel => exact ⟨k + 1, U2, D2, by go_num, by omega, HG2.out, (HTZ.out.set0 _).set1 _, (HQ.out _ HXZ.out).2.1.grown HGS.out (by simp; omega), (HQ.out _ HXZ.out).2.2.1.block (HGS.out.block _ (by omega) (by simp; omega)), (HQ.out _ HXZ.out).2.2.2.1.block (HGS.out.block _ (by omega) (by simp; omega)), (HQ.out _ HXZ.out).2.2.2.2.1.trans (below_of8 HGS.out (by omega) (by omega)), by have := HZQ.out; omega, (HQ.out _ HXZ.out).2.2.2.2.2.block (HGS.out.block _ (by omega) (by simp; omega))⟩
                case measure => simp [intOf]; omega
              · go_simp
                refine (HAO.out _).mono ?_
                rintro e wf ⟨rfl, hbf⟩
                have HXF := Lib.hid (HGB.out.trans (hbf.mono HGB.out.size))
                have HYF := Lib.hid hbf
                clear hbf
                refine hK.out _ _ (grown_of8 HYF.out w4.heap.size) (fun hHeld => ?_)
                clear hK K
                try simp only [Act.put, List.setIfInBounds_toArray, List.set_cons_zero, List.set_cons_succ, List.getElem_toArray, List.getElem_cons_succ, List.getElem_cons_zero]
                refine wpAnyH_ready (rs := [0, 11]) (by kernel_rfl) (by simp) ?_
                refine AllReadyH.cons (o := _) rfl (fun K hK => ?_) (AllReadyH.cons (o := _) rfl (fun K hK => ?_) AllReadyH.nil)
                · obtain ⟨⟨b0, bz0⟩, b1, bz1⟩ := (HQ.out _ HXF.out).1
                  go_simp
                  refine hK.out _ _ (grown_of8 (HYF.out) w4.heap.size) (fun hHeld => ?_)
                  clear hK K
                  try simp only [Act.put, List.setIfInBounds_toArray, List.set_cons_zero, List.set_cons_succ, List.getElem_toArray, List.getElem_cons_succ, List.getElem_cons_zero]
                  refine wpAnyH_ready (rs := [11]) (by kernel_rfl) (by simp) ?_
                  refine AllReadyH.cons (o := _) rfl (fun K hK => ?_) AllReadyH.nil
                  go_simp
                  refine (HIH.out _ (HQ.out _ HXF.out).2.2.2.2.1).mono ?_
                  rintro e wp ⟨U', D', rfl, hop, hbp⟩
                  have HOP := Lib.hid hop
                  have HXP := Lib.hid (HXF.out.trans (hbp.mono HXF.out.size))
                  have HYP := Lib.hid (HYF.out.trans (hbp.mono HYF.out.size))
                  clear hbp hop
                  have HG2 := Lib.hid (gr_join HGR.out HOP.out (fun T C => ways_succ T C))
                  have HGT := Lib.hid (greater_any U D U' D' (by have := HOP.out.u36; have := HOP.out.d12; omega) HGR.out.cop HOP.out.cop HGR.out.d1)
                  obtain ⟨U2, hU2⟩ : ∃ U2, (if (U : Int) * D' < (U' : Int) * D then U' else U) = U2 := ⟨_, rfl⟩
                  obtain ⟨D2, hD2⟩ : ∃ D2, (if (U : Int) * D' < (U' : Int) * D then D' else D) = D2 := ⟨_, rfl⟩
                  rw [hU2, hD2] at HG2 HGT
                  clear hU2 hD2
                  refine hK.out _ _ (grown_of8 HYP.out w4.heap.size) (fun hHeld => ?_)
                  clear hK K
                  try simp only [Act.put, List.setIfInBounds_toArray, List.set_cons_zero, List.set_cons_succ, List.getElem_toArray, List.getElem_cons_succ, List.getElem_cons_zero]
                  refine wpAnyH_ready (rs := [12]) (by kernel_rfl) (by simp) ?_
                  refine AllReadyH.cons (o := _) rfl (fun K hK => ?_) AllReadyH.nil
                  go_simp
                  refine (HGT.out _).mono ?_
                  rintro e wz ⟨rfl, hbz⟩
                  have HXZ := Lib.hid (HXP.out.trans (hbz.mono HXP.out.size))
                  have HYZ := Lib.hid (HYP.out.trans (hbz.mono HYP.out.size))
                  have HTZ := Lib.hid ((HQ.out _ HXZ.out).1)
                  clear hbz
                  obtain ⟨⟨z0, zf0⟩, z1, zf1⟩ := HTZ.out
                  refine hK.out _ _ (grown_of8 HYZ.out w4.heap.size) (fun hHeld => ?_)
                  clear hK K
                  try simp only [Act.put, List.setIfInBounds_toArray, List.set_cons_zero, List.set_cons_succ, List.getElem_toArray, List.getElem_cons_succ, List.getElem_cons_zero]
                  refine wpAnyH_ready (rs := [13]) (by kernel_rfl) (by simp) ?_
                  refine AllReadyH.cons (o := _) rfl (fun K hK => ?_) AllReadyH.nil
                  go_simp
                  refine hK.out _ _ (grown_comp (grown_of8 HYZ.out w4.heap.size) (grown_comp (grownBy_setCell _ ⟨w4.heap.size, 0, none⟩ _) (grownBy_setCell _ ⟨w4.heap.size, 1, none⟩ _))) (fun hHeld => ?_)
                  clear hK K
                  try simp only [Act.put, List.setIfInBounds_toArray, List.set_cons_zero, List.set_cons_succ, List.getElem_toArray, List.getElem_cons_succ, List.getElem_cons_zero]
                  refine wpAnyH_done (by kernel_rfl) ?_ _
                  have hgs : wz.grownBy ((wz.setCell ⟨w4.heap.size, 0, none⟩ (.int .i64 (U2 : Int))).setCell ⟨w4.heap.size, 1, none⟩ (.int .i64 (D2 : Int))) (some w4.heap.size) := grown_comp (grownBy_setCell _ _ _) (grownBy_setCell _ _ _)
                  have HGS := Lib.hid hgs
                  have hzs := HXZ.out.size
                  have hzq : ((wz.setCell ⟨w4.heap.size, 0, none⟩ (.int .i64 (U2 : Int))).setCell ⟨w4.heap.size, 1, none⟩ (.int .i64 (D2 : Int))).heap.size = wz.heap.size := by rw [World.size_setCell, World.size_setCell]
                  have HZQ := Lib.hid hzq
                  clear hgs hzq hHeld q0 q1 q2 q3 q4 m0 m1 y0 y1 y2 hgz
                  go_wp2_with fail
                  go_roundw
                  case rel => exact ⟨k + 1, U2, D2, by go_num, by omega, HG2.out, (HTZ.out.set0 _).set1 _, (HQ.out _ HXZ.out).2.1.grown HGS.out (by simp; omega), (HQ.out _ HXZ.out).2.2.1.block (HGS.out.block _ (by omega) (by simp; omega)), (HQ.out _ HXZ.out).2.2.2.1.block (HGS.out.block _ (by omega) (by simp; omega)), (HQ.out _ HXZ.out).2.2.2.2.1.trans (below_of8 HGS.out (by omega) (by omega)), by have := HZQ.out; omega, (HQ.out _ HXZ.out).2.2.2.2.2.block (HGS.out.block _ (by omega) (by simp; omega))⟩
                  case measure => simp [intOf]; omega
                · go_simp
                  refine (HIH.out _ (HQ.out _ HXF.out).2.2.2.2.1).mono ?_
                  rintro e wp ⟨U', D', rfl, hop, hbp⟩
                  have HOP := Lib.hid hop
                  have HXP := Lib.hid (HXF.out.trans (hbp.mono HXF.out.size))
                  have HYP := Lib.hid (HYF.out.trans (hbp.mono HYF.out.size))
                  clear hbp hop
                  have HG2 := Lib.hid (gr_join HGR.out HOP.out (fun T C => ways_succ T C))
                  have HGT := Lib.hid (greater_any U D U' D' (by have := HOP.out.u36; have := HOP.out.d12; omega) HGR.out.cop HOP.out.cop HGR.out.d1)
                  obtain ⟨U2, hU2⟩ : ∃ U2, (if (U : Int) * D' < (U' : Int) * D then U' else U) = U2 := ⟨_, rfl⟩
                  obtain ⟨D2, hD2⟩ : ∃ D2, (if (U : Int) * D' < (U' : Int) * D then D' else D) = D2 := ⟨_, rfl⟩
                  rw [hU2, hD2] at HG2 HGT
                  clear hU2 hD2
                  refine hK.out _ _ (grown_of8 HYP.out w4.heap.size) (fun hHeld => ?_)
                  clear hK K
                  try simp only [Act.put, List.setIfInBounds_toArray, List.set_cons_zero, List.set_cons_succ, List.getElem_toArray, List.getElem_cons_succ, List.getElem_cons_zero]
                  refine wpAnyH_ready (rs := [0]) (by kernel_rfl) (by simp) ?_
                  refine AllReadyH.cons (o := _) rfl (fun K hK => ?_) AllReadyH.nil
                  obtain ⟨⟨b0, bz0⟩, b1, bz1⟩ := (HQ.out _ HXP.out).1
                  go_simp
                  refine hK.out _ _ (grown_of8 (HYP.out) w4.heap.size) (fun hHeld => ?_)
                  clear hK K
                  try simp only [Act.put, List.setIfInBounds_toArray, List.set_cons_zero, List.set_cons_succ, List.getElem_toArray, List.getElem_cons_succ, List.getElem_cons_zero]
                  refine wpAnyH_ready (rs := [12]) (by kernel_rfl) (by simp) ?_
                  refine AllReadyH.cons (o := _) rfl (fun K hK => ?_) AllReadyH.nil
                  go_simp
                  refine (HGT.out _).mono ?_
                  rintro e wz ⟨rfl, hbz⟩
                  have HXZ := Lib.hid (HXP.out.trans (hbz.mono HXP.out.size))
                  have HYZ := Lib.hid (HYP.out.trans (hbz.mono HYP.out.size))
                  have HTZ := Lib.hid ((HQ.out _ HXZ.out).1)
                  clear hbz
                  obtain ⟨⟨z0, zf0⟩, z1, zf1⟩ := HTZ.out
                  refine hK.out _ _ (grown_of8 HYZ.out w4.heap.size) (fun hHeld => ?_)
                  clear hK K
                  try simp only [Act.put, List.setIfInBounds_toArray, List.set_cons_zero, List.set_cons_succ, List.getElem_toArray, List.getElem_cons_succ, List.getElem_cons_zero]
                  refine wpAnyH_ready (rs := [13]) (by kernel_rfl) (by simp) ?_
                  refine AllReadyH.cons (o := _) rfl (fun K hK => ?_) AllReadyH.nil
                  go_simp
                  refine hK.out _ _ (grown_comp (grown_of8 HYZ.out w4.heap.size) (grown_comp (grownBy_setCell _ ⟨w4.heap.size, 0, none⟩ _) (grownBy_setCell _ ⟨w4.heap.size, 1, none⟩ _))) (fun hHeld => ?_)
                  clear hK K
                  try simp only [Act.put, List.setIfInBounds_toArray, List.set_cons_zero, List.set_cons_succ, List.getElem_toArray, List.getElem_cons_succ, List.getElem_cons_zero]
                  refine wpAnyH_done (by kernel_rfl) ?_ _
                  have hgs : wz.grownBy ((wz.setCell ⟨w4.heap.size, 0, none⟩ (.int .i64 (U2 : Int))).setCell ⟨w4.heap.size, 1, none⟩ (.int .i64 (D2 : Int))) (some w4.heap.size) := grown_comp (grownBy_setCell _ _ _) (grownBy_setCell _ _ _)
                  have HGS := Lib.hid hgs
                  have hzs := HXZ.out.size
                  have hzq : ((wz.setCell ⟨w4.heap.size, 0, none⟩ (.int .i64 (U2 : Int))).setCell ⟨w4.heap.size, 1, none⟩ (.int .i64 (D2 : Int))).heap.size = wz.heap.size := by rw [World.size_setCell, World.size_setCell]
                  have HZQ := Lib.hid hzq
                  clear hgs hzq hHeld q0 q1 q2 q3 q4 m0 m1 y0 y1 y2 hgz
                  go_wp2_with fail
                  go_roundw
                  case rel => exact ⟨k + 1, U2, D2, by go_num, by omega, HG2.out, (HTZ.out.set0 _).set1 _, (HQ.out _ HXZ.out).2.1.grown HGS.out (by simp; omega), (HQ.out _ HXZ.out).2.2.1.block (HGS.out.block _ (by omega) (by simp; omega)), (HQ.out _ HXZ.out).2.2.2.1.block (HGS.out.block _ (by omega) (by simp; omega)), (HQ.out _ HXZ.out).2.2.2.2.1.trans (below_of8 HGS.out (by omega) (by omega)), by have := HZQ.out; omega, (HQ.out _ HXZ.out).2.2.2.2.2.block (HGS.out.block _ (by omega) (by simp; omega))⟩
                  case measure => simp [intOf]; omega
            · have HIN := Lib.hid (fun w => isIn8 M (g.t k) (by omega) (by omega) w hbit)
              have HNO := Lib.hid (show g.f k ≠ v ∨ (g.t k ≠ s ∧ (g.t k ∈ X ∨ ¬ True)) from .inr ⟨hts, .inl ((HMK.out _).1 hbit)⟩)
              clear hts hbit
              go_wp2_with fail
              refine (HIN.out _).mono ?_
              rintro e w' ⟨rfl, rfl⟩
              go_wp2_with fail
              go_roundw
              case rel => exact ⟨k + 1, U, D, by go_num, by omega, gr_orR HGR.out (way_none HNO.out) (fun T C => ways_succ T C), (HQ.out _ HAL.out).1, (HQ.out _ HAL.out).2.1, (HQ.out _ HAL.out).2.2.1, (HQ.out _ HAL.out).2.2.2.1, (HQ.out _ HAL.out).2.2.2.2.1, by have := HWZ.out; omega, (HQ.out _ HAL.out).2.2.2.2.2⟩
              case measure => simp [intOf]; omega
        · have hfI : (((g.f k : Nat) : Int) != (v : Int)) = true := by simp; omega
          have HNO := Lib.hid (show g.f k ≠ v ∨ (g.t k ≠ s ∧ (g.t k ∈ X ∨ ¬ True)) from .inl hfv)
          clear hfv
          go_wp2_with fail
          go_roundw
          case rel => exact ⟨k + 1, U, D, by go_num, by omega, gr_orR HGR.out (way_none HNO.out) (fun T C => ways_succ T C), (HQ.out _ HAL.out).1, (HQ.out _ HAL.out).2.1, (HQ.out _ HAL.out).2.2.1, (HQ.out _ HAL.out).2.2.2.1, (HQ.out _ HAL.out).2.2.2.2.1, by have := HWZ.out; omega, (HQ.out _ HAL.out).2.2.2.2.2⟩
          case measure => simp [intOf]; omega
      · obtain rfl : k = lW := by omega
        have hkI : ¬ (k : Int) < (k : Int) := by omega
        have HOE := Lib.hid (gr_congr HGR.out HE.out)
        obtain ⟨⟨b0, bz0⟩, b1, bz1⟩ := id he
        obtain ⟨⟨r0, z0⟩, r1, z1⟩ := id ht
        have HVV := Lib.hid (And.intro ((ht.set0 (.int .i64 U)).set1 (.int .i64 D)).1.1 ((ht.set0 (.int .i64 U)).set1 (.int .i64 D)).2.1)
        have HBL := Lib.hid hb
        clear he ht hp hnb hb hJ hgr
        go_wp2_with fail
        obtain ⟨v0, v1⟩ := HVV.out
        exact bodyPost_ret (v := .agg #[.int .i64 U, .int .i64 D]) (by simp [results, Try.results35, go_sem, v0, v1]) rfl ⟨U, D, rfl, HOE.out, (HBL.out.setCell (p := ⟨w.heap.size + 1 + 1, 0, none⟩) (by show w.heap.size ≤ w.heap.size + 1 + 1; omega) _).setCell (p := ⟨w.heap.size + 1 + 1, 1, none⟩) (by show w.heap.size ≤ w.heap.size + 1 + 1; omega) _⟩
end Go.Proofs.Ytkjmpkincaainad
