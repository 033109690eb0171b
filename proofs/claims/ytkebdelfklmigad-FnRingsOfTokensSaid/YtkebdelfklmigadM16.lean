import Derived.Test.YtkebdelfklmigadRows
import Derived.WalkKit
import Derived.LoopTactic
import Derived.Outline
import Derived.WalkSpells
import Derived.WalkLawsBesides
import Derived.ProofKit
import Derived.Lib.Hide
import Derived.IntWalk
import Derived.Deep.QuietTactic
import Derived.BigQuiet
import Derived.Deep.RegionHeld3
import Derived.Test.YtkebdelfklmigadM0
import Derived.Test.YtkebdelfklmigadM2
import Derived.Test.YtkebdelfklmigadM6
import Derived.Test.YtkebdelfklmigadM1
import Derived.Test.YtkebdelfklmigadM3
import Derived.Test.YtkebdelfklmigadM4
import Derived.Test.YtkebdelfklmigadM5
import Derived.Test.YtkebdelfklmigadM8
import Derived.Test.YtkebdelfklmigadM12
import Derived.Test.YtkebdelfklmigadM15
namespace Go.Proofs.Ytkebdelfklmigad
open Go.RowKit Go.WideShapes

/-- what is as it was in wj is as it was in a world like it -/
theorem below_back {B : Nat} {a b c : World} (h : Below B a c) (g : Below B a b) (hs : b.heap.size ≤ c.heap.size) : Below B b c := ⟨h.os.trans g.os.symm, h.tape.trans g.tape.symm, h.output.trans g.output.symm, hs, fun k hk => (h.block k hk).trans (g.block k hk).symm⟩
theorem path5 {w : World} {B g l c : Nat} {X : List Nat} {x : Nat} (h : w.ownsRow B 3 1 (.slice (some ⟨g, 0, none⟩) (l + 1) c) (l + 1) ((natD X ++ [(x : Int)]).map (.int .i64))) (hl : l + 1 ≤ 9223372036854775807) : IntsAt w (· < w.heap.size) (some ⟨g, 0, none⟩) (l + 1) (natD (X ++ [x])) := by
  have e : natD X ++ [(x : Int)] = natD (X ++ [x]) := by simp [natD]
  rw [e] at h
  obtain ⟨a', c', e', _, h'⟩ := own_ints h hl
  injection e' with e1 _ _
  subst e1
  exact h'.to fun b hb => ⟨hb.2, rfl⟩
/-- a pace, of what goes on -/
def PacePost (w : World) (Q : Int → Nat → Prop) (e : Ending) (w' : World) : Prop := ∃ U D : Nat, e = .returned (.agg #[.int .i64 U, .int .i64 D]) ∧ IsOpt U D Q ∧ Below w.heap.size w w'
set_option maxRecDepth 100000 in
set_option maxHeartbeats 8000000 in
theorem paceFrom_any (d : NV) (ts : List Int) (rows : List (List Int)) (hv : tokM ts rows = true) (rk : Nat → Nat) (hrk : (grOf ts rows).Rank rk) (s : Nat) : ∀ (f : Nat) (X : List Nat) (aP : Option Addr) (cP T0 C0 : Nat) (w : World), (grOf ts rows).n - X.length = f →
    PathOk (grOf ts rows) rk X s T0 C0 → NetAt w (· < w.heap.size) d ts rows → IntsAt w (· < w.heap.size) aP X.length (natD X) → X.length ≤ cP →
    Calls Try.prog 63 #[.agg #[.slice d.aT d.lT d.cT, .slice d.aW d.lW d.cW], .slice aP X.length cP, .int .i64 T0, .int .i64 C0] w (PacePost w ((grOf ts rows).On s (fun v => s < v) X (X.getLastD 0) T0 C0)) := by
  intro f
  induction f using Nat.strongRecOn with
  | _ f ih =>
    intro X aP cP T0 C0 w hf hpo hnet hpath hcap
    have IH := Lib.hid ih
    have HPO := Lib.hid hpo
    obtain ⟨hl1, hln, hne, hlm, hsm⟩ := hpo.len
    have HA := Lib.hid (fun w' (hb : Below w.heap.size w w') => And.intro (net_lift hnet hb) (ints_lift hpath hb))
    obtain ⟨aT, lT, cT, aW, lW, cW⟩ := d
    have hTL : ts.length = lT := hnet.t.lenEq
    have hWL : rows.length = lW := hnet.r.lenEq
    have hok := gr_ok hv
    have HG := Lib.hid (fun (w' : World) (hb : Below w.heap.size w w') (q : Nat) (hq : q < lW) => way_at (HA.out w' hb).1.r hv hq)
    have HTM := Lib.hid (fun (w' : World) (hb : Below w.heap.size w w') (v : Nat) (hv : v < lT) => (show ∃ b off, aT = some ⟨b, off, none⟩ ∧ w'.cell? ⟨b, off + v, none⟩ = some (.int .i64 ((grOf ts rows).tm v)) by
      obtain ⟨b, off, x, e, hx, hc⟩ := (HA.out w' hb).1.t.get hv
      exact ⟨b, off, e, by rw [hc]; show _ = some (Value.int .i64 (ts.getD v 0)); rw [getD_of hx]⟩))
    have hn : (grOf ts rows).n = lT := hTL
    have hm : (grOf ts rows).m = lW := hWL
    obtain ⟨l, hl⟩ : ∃ l, X.length = l := ⟨_, rfl⟩
    obtain ⟨v, hvl⟩ : ∃ v, X.getLastD 0 = v := ⟨_, rfl⟩
    have hlast := last_get hne
    rw [hl, hvl] at hlast
    have hhead := hpo.head
    obtain ⟨bP, oP, _, rfl, _, _⟩ := hpath.get (k := 0) (by omega)
    have HX := Lib.hid (show ∀ w', Below w.heap.size w w' → ∀ (i u : Nat), X[i]? = some u → w'.cell? ⟨bP, oP + i, none⟩ = some (.int .i64 (u : Int)) from fun w' hb i u hu => by
      obtain ⟨b, off, e, _, hc⟩ := (HA.out w' hb).2.cells (by omega)
      cases e
      exact hc i _ (by unfold natD; rw [List.getElem?_map, hu]; rfl))
    have HPI := Lib.hid (fun w' (hb : Below w.heap.size w w') => (HA.out w' hb).2)
    rw [hl] at hl1 hcap HPI hf ⊢
    rw [hvl] at hlm ⊢
    have hvt : v < lT := by rw [← hn]; exact hpo.lt v hlm
    have hst : s < lT := by rw [← hn]; exact hpo.lt s hsm
    have HL := Lib.hid hl
    have HVL := Lib.hid hvl
    have HN := Lib.hid hn
    have HM := Lib.hid hm
    have hTb := hpo.t
    have hCb := hpo.c
    rw [hl] at hTb hCb hln
    rw [hn] at hln
    have HE : Hid (∀ T C, (grOf ts rows).On s (fun v => s < v) X v T0 C0 T C ↔ (grOf ts rows).Ways s (fun v => s < v) X v T0 C0 lW T C) := Lib.hid (fun T C => by rw [on_ways, hm])
    obtain ⟨g, hg⟩ : ∃ g, grOf ts rows = g := ⟨_, rfl⟩
    rw [hg] at hok HG HTM IH HPO HE HN HM hrk hf ⊢
    have h4 := hok.n4
    have h7 := hok.m7
    rw [HN.out] at h4 hf
    rw [HM.out] at h7
    have HOK := Lib.hid hok
    have HRK := Lib.hid hrk
    have htv := hok.times v
    obtain ⟨tmv, htmv⟩ : ∃ q : Nat, g.tm v = (q : Int) := ⟨(g.tm v).toNat, by omega⟩
    have HTMV := Lib.hid htmv
    have HWY := Lib.hid (fun k (hk : k < lW) => (show g.f k < lT ∧ g.t k < lT ∧ g.c k ≤ 3 by have := hok.ways k (by rw [HM.out]; exact hk); rw [HN.out] at this; exact this))
    have HHD := Lib.hid hhead
    have HLS := Lib.hid hlast
    have HV := Lib.hid hv
    have HLM := Lib.hid hlm
    clear ih hpo hnet hpath hTL hWL hok hn hm hl hvl hlast hhead hg hrk hne hlm hsm hv htv htmv
    -- the boxes
    have hb1 := (Below.refl w.heap.size w).alloc (Nat.le_refl _) (.cells #[.slice aT lT cT, .slice aW lW cW] 26)
    have hn1 := netB_new w aT lT cT aW lW cW 26
    have hz1 : (w.alloc (.cells #[.slice aT lT cT, .slice aW lW cW] 26)).heap.size = w.heap.size + 1 := by simp
    obtain ⟨w1, hw1⟩ : ∃ w1, (w.alloc (.cells #[.slice aT lT cT, .slice aW lW cW] 26)) = w1 := ⟨_, rfl⟩
    rw [hw1] at hb1 hn1 hz1
    have ht2 := two_new w1 (.int .i64 0) (.int .i64 0) 32
    have ht3 := two_new (w1.alloc (.cells #[.int .i64 0, .int .i64 0] 32)) (.int .i64 0) (.int .i64 0) 32
    have ht2' := ht2.grown (World.grownBy_alloc (w1.alloc (.cells #[.int .i64 0, .int .i64 0] 32)) (.cells #[.int .i64 0, .int .i64 0] 32) none) (by simp)
    have hb3 := (hb1.alloc (by omega) (.cells #[.int .i64 0, .int .i64 0] 32)).alloc (by simp; omega) (.cells #[.int .i64 0, .int .i64 0] 32)
    have hn3 : NetB ((w1.alloc (.cells #[.int .i64 0, .int .i64 0] 32)).alloc (.cells #[.int .i64 0, .int .i64 0] 32)) w.heap.size ⟨aT, lT, cT, aW, lW, cW⟩ := (hn1.block (Below.heap_alloc _ _ _ (by omega))).block (Below.heap_alloc _ _ _ (by simp; omega))
    have hze : (w1.alloc (.cells #[.int .i64 0, .int .i64 0] 32)).heap.size = w.heap.size + 1 + 1 := by simp; omega
    have hz3 : ((w1.alloc (.cells #[.int .i64 0, .int .i64 0] 32)).alloc (.cells #[.int .i64 0, .int .i64 0] 32)).heap.size = w.heap.size + 3 := by simp; omega
    rw [hze] at ht3
    rw [hz1] at ht2'
    obtain ⟨w3, hw3⟩ : ∃ w3, ((w1.alloc (.cells #[.int .i64 0, .int .i64 0] 32)).alloc (.cells #[.int .i64 0, .int .i64 0] 32)) = w3 := ⟨_, rfl⟩
    rw [hw3] at ht2' ht3 hb3 hn3 hz3
    have HW1 := Lib.hid hw1
    have HW3 := Lib.hid hw3
    have HS3 := Lib.hid (And.intro ht2' (And.intro ht3 (And.intro hb3 hn3)))
    have HZ3 := Lib.hid hz3
    have cl0 : ∀ (x : Obj) (y : Obj) (z : Obj), ((((w.alloc x).alloc y).alloc z)).cell? ⟨bP, oP + (l - 1), none⟩ = some (.int .i64 (v : Int)) := fun x y z => HX.out _ ((((Below.refl w.heap.size w).alloc (Nat.le_refl _) x).alloc (by simp) y).alloc (by simp; omega) z) (l - 1) v HLS.out
    have hlI : ((l : Int) - 1).toNat = l - 1 := by omega
    have hwl : IntKind.i64.wrap ((l : Int) - 1) = ((l - 1 : Nat) : Int) := by rw [show (l : Int) - 1 = ((l - 1 : Nat) : Int) by omega]; exact IntWalk.i64_in _ (by omega)
    have hl1I : l - 1 < l := by omega
    clear hw1 hw3 hb1 hn1 hz1 ht2 ht3 ht2' hb3 hn3 hze hz3
    go_enter Try.func63, Try.ntmps63
    go_wp2_with fail
    rw [HW1.out, HW3.out]
    have hs0 := HS3.out
    go_loopw [11] (fun kv wr => ∃ (k U D : Nat), kv = .int .i64 k ∧ k ≤ lW ∧ IsOpt U D (g.Ways s (fun v => s < v) X v T0 C0 k) ∧ Two wr (w.heap.size + 1) (.int .i64 0) (.int .i64 0) ∧ Two wr (w.heap.size + 1 + 1) (.int .i64 U) (.int .i64 D) ∧ Below w.heap.size w wr ∧ NetB wr w.heap.size ⟨aT, lT, cT, aW, lW, cW⟩ ∧ w.heap.size + 3 ≤ wr.heap.size) (fun kv _ => lW - (intOf kv).toNat)
    case atStart => exact ⟨0, 0, 0, rfl, Nat.zero_le _, .inl ⟨rfl, rfl, fun T C => ways_zero T C⟩, hs0.1, hs0.2.1, hs0.2.2.1, hs0.2.2.2, by have := HZ3.out; omega⟩
    case round =>
      clear hs0
      obtain ⟨k, U, D, rfl, hk, hopt, hre, hbe, hbl, hnb, hsz⟩ := hrel
      obtain ⟨wi, rfl⟩ : ∃ wi : World, wi = wr := ⟨_, rfl⟩
      obtain ⟨n0, n1⟩ := id hnb
      dsimp only at n0 n1
      have HOPT := Lib.hid hopt
      have HRE := Lib.hid hre
      have HBE := Lib.hid hbe
      have HBL := Lib.hid hbl
      have HNB := Lib.hid hnb
      clear hopt hre hbe hbl hnb
      by_cases hkl : k < lW
      · have hkI : (k : Int) < (lW : Int) := by omega
        obtain ⟨b, off, b', off', c, rfl, dr, d0, d1, d2⟩ := HG.out wi HBL.out k hkl
        obtain ⟨hfl, htl, hcl⟩ := HWY.out k hkl
        have p0 : wi.cell? ⟨bP, oP, none⟩ = some (.int .i64 (s : Int)) := HX.out wi HBL.out 0 s HHD.out
        have HD1 := Lib.hid (show ∀ w', Below wi.heap.size wi w' → w'.cell? ⟨b', off' + 1, none⟩ = some (.int .i64 ((g.t k : Nat) : Int)) ∧ w'.cell? ⟨b', off' + 2, none⟩ = some (.int .i64 ((g.c k : Nat) : Int)) from fun w' hb => ⟨(hb.cell (World.block_lt_of_cell? wi _ d1)).trans d1, (hb.cell (World.block_lt_of_cell? wi _ d2)).trans d2⟩)
        by_cases hfv : g.f k = v
        · have hfI : (((g.f k : Nat) : Int) != (v : Int)) = false := by simp; omega
          by_cases hts : g.t k < s
          · have htI : (((g.t k : Nat) : Int)) < (s : Int) := by omega
            have HNO := Lib.hid (show g.f k ≠ v ∨ (g.t k ≠ s ∧ (g.t k ∈ X ∨ ¬ s < g.t k)) from .inr ⟨by omega, .inr (by omega)⟩)
            clear hfv hts
            go_wp2_with fail
            go_quiet (fail)
            go_wp2_with fail
            go_roundw
            case rel => exact ⟨k + 1, U, D, by go_num, by omega, opt_none2 HOPT.out (way_none HNO.out) (fun T C => ways_succ T C), HRE.out.block rfl, HBE.out.block rfl, below_drewN HBL.out _, HNB.out.drewN _, hsz⟩
            case measure => simp [intOf]; omega
          · have htI : ¬ (((g.t k : Nat) : Int)) < (s : Int) := by omega
            have HFV := Lib.hid hfv
            clear hfv
            go_wp2_with fail
            go_quiet (fail)
            go_wp2_with fail
            go_loopw [13, 14] (fun fv iv wr => ∃ (i : Nat) (F : Bool), iv = .int .i64 i ∧ fv = .bool F ∧ 1 ≤ i ∧ i ≤ l ∧ (F = true ↔ ∃ j : Nat, 1 ≤ j ∧ j < i ∧ X[j]? = some (g.t k)) ∧ Drew wi wr) (fun _ iv _ => l - (intOf iv).toNat)
            case atStart => exact ⟨1, false, rfl, rfl, Nat.le_refl _, hl1, ⟨fun e => (by cases e), fun ⟨j, h1, h2, _⟩ => (by omega)⟩, ⟨_, rfl⟩⟩
            case round =>
              obtain ⟨i, F, rfl, rfl, hi1, hil, hF, hdr⟩ := hrel
              obtain ⟨wj, rfl⟩ : ∃ wj : World, wj = wr := ⟨_, rfl⟩
              have HFQ := Lib.hid hF
              have HDR := Lib.hid hdr
              clear hF hdr n0 n1 dr d0 d1 d2 p0
              by_cases hilt : i < l
              · have hilI : (i : Int) < (l : Int) := by omega
                obtain ⟨u, hu⟩ : ∃ u, X[i]? = some u := ⟨_, List.getElem?_eq_getElem (by have := HL.out; omega)⟩
                have cu : wj.cell? ⟨bP, oP + i, none⟩ = some (.int .i64 (u : Int)) := HX.out wj (by obtain ⟨z, hz⟩ := HDR.out; rw [hz]; exact below_drewN HBL.out z) i u hu
                have d1 : wj.cell? ⟨b', off' + 1, none⟩ = some (.int .i64 ((g.t k : Nat) : Int)) := (HD1.out wj (HDR.out.below _)).1
                have HU := Lib.hid hu
                clear hu
                cases F
                · by_cases hut : u = g.t k
                  · have hutI : ((u : Int) == ((g.t k : Nat) : Int)) = true := by simp; omega
                    have HUT := Lib.hid hut
                    clear hut
                    go_wp2_with fail
                    go_quiet (fail)
                    go_wp2_with fail
                    go_roundw
                    case rel => exact ⟨i + 1, true, by go_num, rfl, by omega, by omega, ⟨fun _ => ⟨i, hi1, by omega, by rw [HU.out, HUT.out]⟩, fun _ => rfl⟩, HDR.out.drew _⟩
                    case measure => simp [intOf]; omega
                  · have hutI : ((u : Int) == ((g.t k : Nat) : Int)) = false := by simp; omega
                    have HUT := Lib.hid hut
                    clear hut
                    go_wp2_with fail
                    go_quiet (fail)
                    go_wp2_with fail
                    go_roundw
                    case rel => exact ⟨i + 1, false, by go_num, rfl, by omega, by omega, ⟨fun e => (by cases e), fun ⟨j, h1, h2, h3⟩ => by
                      rcases Nat.lt_or_eq_of_le (Nat.le_of_lt_succ h2) with h | rfl
                      · exact HFQ.out.2 ⟨j, h1, h, h3⟩
                      · rw [HU.out] at h3; exact absurd (by simpa using h3) HUT.out⟩, HDR.out.drew _⟩
                    case measure => simp [intOf]; omega
                · go_wp2_with fail
                  go_quiet (fail)
                  go_wp2_with fail
                  go_roundw
                  case rel => exact ⟨i + 1, true, by go_num, rfl, by omega, by omega, ⟨fun _ => (by
                    obtain ⟨j, h1, h2, h3⟩ := HFQ.out.1 (by simp)
                    exact ⟨j, h1, by omega, h3⟩), fun _ => rfl⟩, HDR.out.drew _⟩
                  case measure => simp [intOf]; omega
              · obtain rfl : i = l := by omega
                have hilI : ¬ (i : Int) < (i : Int) := by omega
                have HRE := Lib.hid (show Two wj (w.heap.size + 1) (.int .i64 0) (.int .i64 0) by obtain ⟨z, hz⟩ := HDR.out; rw [hz]; exact HRE.out.block rfl)
                have HBE := Lib.hid (show Two wj (w.heap.size + 1 + 1) (.int .i64 U) (.int .i64 D) by obtain ⟨z, hz⟩ := HDR.out; rw [hz]; exact HBE.out.block rfl)
                have HBL := Lib.hid (show Below w.heap.size w wj by obtain ⟨z, hz⟩ := HDR.out; rw [hz]; exact below_drewN HBL.out z)
                have HNB := Lib.hid (show NetB wj w.heap.size ⟨aT, lT, cT, some ⟨b, off, none⟩, lW, cW⟩ by obtain ⟨z, hz⟩ := HDR.out; rw [hz]; exact HNB.out.drewN z)
                have hsz : w.heap.size + 3 ≤ wj.heap.size := by obtain ⟨z, hz⟩ := HDR.out; rw [hz]; exact hsz
                cases F
                · have HNX : Hid (g.t k = s ∨ ¬ g.t k ∈ X) := Lib.hid (by
                    refine Classical.byContradiction fun hh => ?_
                    simp only [not_or, Classical.not_not] at hh
                    obtain ⟨j, hj, e⟩ := List.getElem_of_mem hh.2
                    have h5 : X[j]? = some (g.t k) := by rw [List.getElem?_eq_getElem hj, e]
                    rcases Nat.eq_zero_or_pos j with e0 | e0
                    · subst e0; rw [HHD.out] at h5; exact hh.1 (by simpa using h5.symm)
                    · have := HFQ.out.2 ⟨j, e0, by have := HL.out; omega, h5⟩; cases this)
                  have hd12 := HD1.out wj (HDR.out.below _)
                  clear HFQ HDR
                  obtain ⟨n0, n1⟩ := HNB.out
                  dsimp only at n0 n1
                  obtain ⟨bt, ot, rfl, dt⟩ := HTM.out wj HBL.out v hvt
                  rw [HTMV.out] at dt
                  obtain ⟨d1, d2⟩ := hd12
                  skip
                  have p0 : wj.cell? ⟨bP, oP, none⟩ = some (.int .i64 (s : Int)) := HX.out wj HBL.out 0 s HHD.out
                  have htmv9 : tmv ≤ 9 := by have := HOK.out.times v; have := HTMV.out; omega
                  have hT0 : T0 ≤ 27 := by omega
                  have hC0 : C0 ≤ 9 := by omega
                  have e1 : ∀ o, (wj.alloc o).cell? ⟨b', off' + 1, none⟩ = some (.int .i64 ((g.t k : Nat) : Int)) := fun o => by rw [World.cell?_of_block (w := wj) (Below.heap_alloc _ _ _ (World.block_lt_of_cell? wj _ d1))]; exact d1
                  have e0 : ∀ o, (wj.alloc o).cell? ⟨bP, oP, none⟩ = some (.int .i64 (s : Int)) := fun o => by rw [World.cell?_of_block (w := wj) (Below.heap_alloc _ _ _ (World.block_lt_of_cell? wj _ p0))]; exact p0
                  have HA1 := Lib.hid ((Below.refl wj.heap.size wj).alloc (Nat.le_refl _) (.cells #[.int .i64 0, .int .i64 0] 32))
                  have HTN := Lib.hid (two_new wj (.int .i64 0) (.int .i64 0) 32)
                  have HSZN : Hid ((wj.alloc (.cells #[.int .i64 0, .int .i64 0] 32)).heap.size = wj.heap.size + 1) := Lib.hid (by simp)
                  by_cases hts2 : g.t k = s
                  · have htsI : (((g.t k : Nat) : Int) == (s : Int)) = true := by simp; omega
                    have hC1 := path_close HRK.out HPO.out (by rw [HM.out]; exact hkl) (by rw [HFV.out, HVL.out]) hts2
                    have HFR := Lib.hid (frac_any (T0 + tmv) (C0 + g.c k) (by omega) hC1 (by omega))
                    have HOP1 := Lib.hid (opt_one (T := T0 + tmv) (C := C0 + g.c k) (by omega) hC1 (by omega) (Q := g.Way s (fun v => s < v) X v T0 C0 k) (fun t c => by rw [way_close HFV.out hts2, HTMV.out]; push_cast; exact Iff.rfl))
                    have hcast : ((T0 + tmv : Nat) : Int) = (T0 : Int) + (tmv : Int) ∧ ((C0 + g.c k : Nat) : Int) = (C0 : Int) + ((g.c k : Nat) : Int) := ⟨by push_cast; rfl, by push_cast; rfl⟩
                    rw [hcast.1, hcast.2] at HFR
                    obtain ⟨U', hU'⟩ : ∃ U', fU (T0 + tmv) (C0 + g.c k) = U' := ⟨_, rfl⟩
                    obtain ⟨D', hD'⟩ : ∃ D', fD (T0 + tmv) (C0 + g.c k) = D' := ⟨_, rfl⟩
                    rw [hU', hD'] at HFR
                    have HOP : Hid (IsOpt U' D' (g.Way s (fun v => s < v) X v T0 C0 k)) := Lib.hid (.inr (by rw [← hU', ← hD']; exact HOP1.out))
                    clear hcast hU' hD' HOP1 hts2
                    go_wp2_with fail
                    go_quiet (fail)
                    go_wp2_with fail
                    refine (HFR.out _).mono ?_
                    rintro e w6 ⟨rfl, hb6⟩
                    have hbx : Below wj.heap.size wj w6 := (below_drewN HA1.out _).trans (hb6.mono (by show _ ≤ (wj.alloc _).heap.size; have := HSZN.out; omega))
                    have hT6 : Two w6 wj.heap.size (.int .i64 0) (.int .i64 0) := (HTN.out.block (w' := (wj.alloc _).drewN _) rfl).block (hb6.block _ (by show _ < (wj.alloc _).heap.size; have := HSZN.out; omega))
                    have hgs : w6.grownBy ((w6.setCell ⟨wj.heap.size, 0, none⟩ (.int .i64 (U' : Int))).setCell ⟨wj.heap.size, 1, none⟩ (.int .i64 (D' : Int))) (some wj.heap.size) := grown_comp (grownBy_setCell _ _ _) (grownBy_setCell _ _ _)
                    obtain ⟨⟨q0, qz0⟩, q1, qz1⟩ := id hT6
                    have HT := Lib.hid (show Two ((w6.setCell ⟨wj.heap.size, 0, none⟩ (.int .i64 (U' : Int))).setCell ⟨wj.heap.size, 1, none⟩ (.int .i64 (D' : Int))) wj.heap.size (.int .i64 (U' : Int)) (.int .i64 (D' : Int)) from (hT6.set0 _).set1 _)
                    have HRE := Lib.hid ((HRE.out.block (hbx.block _ HRE.out.lt)).grown hgs (by have := HRE.out.lt; simp; omega))
                    have HBE := Lib.hid ((HBE.out.block (hbx.block _ HBE.out.lt)).grown hgs (by have := HBE.out.lt; simp; omega))
                    have HNB := Lib.hid ((HNB.out.block (hbx.block _ HNB.out.lt)).block (hgs.block _ (Nat.lt_of_lt_of_le HNB.out.lt hbx.size) (by have := HNB.out.lt; simp; omega)))
                    have HBL := Lib.hid (((HBL.out.trans (hbx.mono HBL.out.size)).setCell (p := ⟨wj.heap.size, 0, none⟩) (by show w.heap.size ≤ wj.heap.size; omega) (.int .i64 (U' : Int))).setCell (p := ⟨wj.heap.size, 1, none⟩) (by show w.heap.size ≤ wj.heap.size; omega) (.int .i64 (D' : Int)))
                    have hsz8 : w.heap.size + 3 ≤ ((w6.setCell ⟨wj.heap.size, 0, none⟩ (.int .i64 (U' : Int))).setCell ⟨wj.heap.size, 1, none⟩ (.int .i64 (D' : Int))).heap.size := by rw [World.size_setCell, World.size_setCell]; exact Nat.le_trans hsz hbx.size
                    clear n0 n1 d1 d2 p0 e1 e0 dt hbx hT6 hgs
                    obtain ⟨hu8, hd8⟩ := opt_bd HOP.out
                    obtain ⟨hu9, hd9⟩ := opt_bd HOPT.out
                    have HJN := Lib.hid (opt_join HOPT.out HOP.out (fun T C => ways_succ T C))
                    obtain ⟨⟨t0, tz0⟩, t1, tz1⟩ := HT.out
                    obtain ⟨⟨b0, bz0⟩, b1, bz1⟩ := HBE.out
                    by_cases hD0 : D' = 0
                    · have hDI : ¬ (0 : Int) < (D' : Int) := by omega
                      have HP := Lib.hid (show pairU U D U' D' = U ∧ pairD U D U' D' = D from ⟨if_neg (fun h => h.1 hD0), if_neg (fun h => h.1 hD0)⟩)
                      clear hD0
                      go_wp2_with fail
                      go_roundw
                      case rel => exact ⟨k + 1, U, D, by go_num, by omega, by rw [HP.out.1, HP.out.2] at HJN; exact HJN.out, HRE.out, HBE.out, HBL.out, HNB.out, hsz8⟩
                      case measure => simp [intOf]; omega
                    · have hDI : (0 : Int) < (D' : Int) := by omega
                      by_cases hDD : D = 0
                      · have hDDI : (((D : Nat) : Int) == 0) = true := by simp; omega
                        have HP := Lib.hid (show pairU U D U' D' = U' ∧ pairD U D U' D' = D' from ⟨if_pos ⟨hD0, .inl hDD⟩, if_pos ⟨hD0, .inl hDD⟩⟩)
                        clear hDD
                        go_wp2_with fail
                        go_roundw
                        case rel => exact ⟨k + 1, U', D', by go_num, by omega, by rw [HP.out.1, HP.out.2] at HJN; exact HJN.out, HRE.out.grown (grown_comp (grownBy_setCell _ ⟨w.heap.size + 1 + 1, 0, none⟩ _) (grownBy_setCell _ ⟨w.heap.size + 1 + 1, 1, none⟩ _)) (by simp), (HBE.out.set0 _).set1 _, (HBL.out.setCell (p := ⟨w.heap.size + 1 + 1, 0, none⟩) (by show w.heap.size ≤ w.heap.size + 1 + 1; omega) _).setCell (p := ⟨w.heap.size + 1 + 1, 1, none⟩) (by show w.heap.size ≤ w.heap.size + 1 + 1; omega) _, HNB.out.block ((grown_comp (grownBy_setCell ((w6.setCell ⟨wj.heap.size, 0, none⟩ (.int .i64 (U' : Int))).setCell ⟨wj.heap.size, 1, none⟩ (.int .i64 (D' : Int))) ⟨w.heap.size + 1 + 1, 0, none⟩ _) (grownBy_setCell _ ⟨w.heap.size + 1 + 1, 1, none⟩ _)).block _ HNB.out.lt (by simp; omega)), by simpa [World.setCell] using hsz8⟩
                        case measure => simp [intOf]; omega
                      · have hDDI : (((D : Nat) : Int) == 0) = false := by simp; omega
                        have HLE := Lib.hid (less_any U D U' D' (by omega) ((w6.setCell ⟨wj.heap.size, 0, none⟩ (.int .i64 (U' : Int))).setCell ⟨wj.heap.size, 1, none⟩ (.int .i64 (D' : Int))))
                        by_cases hlt : (U : Int) * D' < (U' : Int) * D
                        · rw [decide_eq_true hlt] at HLE
                          have HP := Lib.hid (show pairU U D U' D' = U' ∧ pairD U D U' D' = D' from ⟨if_pos ⟨hD0, .inr hlt⟩, if_pos ⟨hD0, .inr hlt⟩⟩)
                          clear hlt
                          go_wp2_with fail
                          refine HLE.out.mono ?_
                          rintro e w9 ⟨rfl, hb9⟩
                          have HT9 := Lib.hid (HT.out.block (hb9.block _ HT.out.lt))
                          have HBE9 := Lib.hid (HBE.out.block (hb9.block _ HBE.out.lt))
                          have HRE9 := Lib.hid (HRE.out.block (hb9.block _ HRE.out.lt))
                          have HNB9 := Lib.hid (HNB.out.block (hb9.block _ HNB.out.lt))
                          have HBL9 := Lib.hid (HBL.out.trans (hb9.mono HBL.out.size))
                          have hsz9 : w.heap.size + 3 ≤ w9.heap.size := Nat.le_trans hsz8 hb9.size
                          clear t0 tz0 t1 tz1 b0 bz0 b1 bz1 hb9
                          obtain ⟨⟨t0, tz0⟩, t1, tz1⟩ := HT9.out
                          obtain ⟨⟨b0, bz0⟩, b1, bz1⟩ := HBE9.out
                          go_wp2_with fail
                          go_roundw
                          case rel => exact ⟨k + 1, U', D', by go_num, by omega, by rw [HP.out.1, HP.out.2] at HJN; exact HJN.out, HRE9.out.grown (grown_comp (grownBy_setCell _ ⟨w.heap.size + 1 + 1, 0, none⟩ _) (grownBy_setCell _ ⟨w.heap.size + 1 + 1, 1, none⟩ _)) (by simp), (HBE9.out.set0 _).set1 _, (HBL9.out.setCell (p := ⟨w.heap.size + 1 + 1, 0, none⟩) (by show w.heap.size ≤ w.heap.size + 1 + 1; omega) _).setCell (p := ⟨w.heap.size + 1 + 1, 1, none⟩) (by show w.heap.size ≤ w.heap.size + 1 + 1; omega) _, HNB9.out.block ((grown_comp (grownBy_setCell w9 ⟨w.heap.size + 1 + 1, 0, none⟩ _) (grownBy_setCell _ ⟨w.heap.size + 1 + 1, 1, none⟩ _)).block _ HNB9.out.lt (by simp; omega)), by simpa [World.setCell] using hsz9⟩
                          case measure => simp [intOf]; omega
                        · rw [decide_eq_false hlt] at HLE
                          have HP := Lib.hid (show pairU U D U' D' = U ∧ pairD U D U' D' = D from ⟨if_neg (fun h => h.2.elim hDD hlt), if_neg (fun h => h.2.elim hDD hlt)⟩)
                          clear hlt
                          go_wp2_with fail
                          refine HLE.out.mono ?_
                          rintro e w9 ⟨rfl, hb9⟩
                          have HBE9 := Lib.hid (HBE.out.block (hb9.block _ HBE.out.lt))
                          have HRE9 := Lib.hid (HRE.out.block (hb9.block _ HRE.out.lt))
                          have HNB9 := Lib.hid (HNB.out.block (hb9.block _ HNB.out.lt))
                          have HBL9 := Lib.hid (HBL.out.trans (hb9.mono HBL.out.size))
                          have hsz9 : w.heap.size + 3 ≤ w9.heap.size := Nat.le_trans hsz8 hb9.size
                          clear t0 tz0 t1 tz1 b0 bz0 b1 bz1 hb9
                          go_wp2_with fail
                          go_roundw
                          case rel => exact ⟨k + 1, U, D, by go_num, by omega, by rw [HP.out.1, HP.out.2] at HJN; exact HJN.out, HRE9.out, HBE9.out, HBL9.out, HNB9.out, hsz9⟩
                          case measure => simp [intOf]; omega
                  · have htsI : (((g.t k : Nat) : Int) == (s : Int)) = false := by simp; omega
                    have hnX : ¬ g.t k ∈ X := HNX.out.resolve_left hts2
                    have hokk : s < g.t k := by omega
                    have HIH : Hid (∀ (w' : World) (g5 c5 : Nat), Below wj.heap.size wj w' → i + 1 ≤ c5 → IntsAt w' (· < w'.heap.size) (some ⟨g5, 0, none⟩) (i + 1) (natD (X ++ [g.t k])) → Calls Try.prog 63 #[.agg #[.slice (some ⟨bt, ot, none⟩) lT cT, .slice (some ⟨b, off, none⟩) lW cW], .slice (some ⟨g5, 0, none⟩) (i + 1) c5, .int .i64 ((T0 : Int) + (tmv : Int)), .int .i64 ((C0 : Int) + ((g.c k : Nat) : Int))] w' (PacePost w' (g.Way s (fun v => s < v) X v T0 C0 k))) := Lib.hid (by
                      intro w' g5 c5 hb hc hi
                      have hpo2 := path_step HOK.out HRK.out HPO.out (by rw [HM.out]; exact hkl) (by rw [HFV.out, HVL.out]) hnX (by rw [HVL.out]; exact HTMV.out)
                      have hlen : (X ++ [g.t k]).length = i + 1 := by rw [List.length_append, HL.out]; rfl
                      have hln2 : i + 1 ≤ lT := by have := hpo2.len.2.1; rw [hlen, HN.out] at this; exact this
                      have := IH.out (lT - (i + 1)) (by omega) (X ++ [g.t k]) (some ⟨g5, 0, none⟩) c5 (T0 + tmv) (C0 + g.c k) w' (by rw [hlen, HN.out]) hpo2 (HA.out w' (HBL.out.trans (hb.mono (Nat.le_trans (by omega) hsz)))).1 (by rw [hlen]; exact hi) (by rw [hlen]; exact hc)
                      rw [hlen, last_snoc] at this
                      have hcast : ((T0 + tmv : Nat) : Int) = (T0 : Int) + (tmv : Int) ∧ ((C0 + g.c k : Nat) : Int) = (C0 : Int) + ((g.c k : Nat) : Int) := ⟨by push_cast; rfl, by push_cast; rfl⟩
                      rw [hcast.1, hcast.2] at this
                      refine this.mono ?_
                      rintro e w2 ⟨U', D', rfl, ho, hb2⟩
                      refine ⟨U', D', rfl, ?_, hb2⟩
                      have hiff : ∀ T C, g.Way s (fun v => s < v) X v T0 C0 k T C ↔ g.On s (fun v => s < v) (X ++ [g.t k]) (g.t k) ((T0 : Int) + (tmv : Int)) (C0 + g.c k) T C := fun T C => by
                        rw [way_on HFV.out hts2 hnX hokk (P' := X ++ [g.t k]) (fun x => by rw [List.mem_append, List.mem_singleton]; exact Or.comm), HTMV.out]
                      rcases ho with ⟨e1, e2, h⟩ | h
                      · exact .inl ⟨e1, e2, fun T C hh => h T C ((hiff T C).1 hh)⟩
                      · exact .inr (gr_congr h hiff))
                    clear hnX hokk
                    go_wp2_with fail
                    go_quiet (fail)
                    go_wp2_with fail
                    obtain ⟨w17, hw17⟩ : ∃ x, (wj.alloc (.cells #[.int .i64 0, .int .i64 0] 32)).drewN nq = x := ⟨_, rfl⟩
                    have HBJ0 : Hid (Below wj.heap.size wj w17) := Lib.hid (by rw [← hw17]; exact below_drewN HA1.out _)
                    have HTW0 : Hid (Two w17 wj.heap.size (.int .i64 0) (.int .i64 0)) := Lib.hid (by rw [← hw17]; exact HTN.out.block rfl)
                    have hsz17 : wj.heap.size + 1 = w17.heap.size := by rw [← hw17]; exact HSZN.out.symm
                    rw [hw17]
                    clear hw17
                    have HB17D : Below wj.heap.size w17 w17.drew := (Below.refl _ _).drew
                    have HBJ := Lib.hid (HBJ0.out.drew)
                    have HTW := Lib.hid (show Two w17.drew wj.heap.size (.int .i64 0) (.int .i64 0) from HTW0.out.block rfl)
                    have hltd : wj.heap.size < w17.drew.heap.size := by show _ < w17.heap.size; omega
                    have hjd : wj.heap.size ≤ w17.drew.heap.size := by omega
                    have hwj0 : w.heap.size < wj.heap.size := by omega
                    have hbj : b' < wj.heap.size := World.block_lt_of_cell? wj _ d1
                    have m0 := (HBJ0.out.cell (p := ⟨w.heap.size, 0, none⟩) hwj0).trans n0
                    have m1 := (HBJ0.out.cell (p := ⟨w.heap.size, 1, none⟩) hwj0).trans n1
                    have m2 := (HBJ0.out.cell (p := ⟨b', off' + 1, none⟩) hbj).trans d1
                    have HPW := Lib.hid (show IntsAt w17.drew (· < w17.drew.heap.size) (some ⟨bP, oP, none⟩) i (natD X) from (HPI.out w17.drew (HBL.out.trans (HBJ.out.mono (by omega)))))
                    have QA := Lib.hid (World.ownsRow_made (base := w17.drew.heap.size) (size := 1) (e := 3) w17.drew #[] 0 (Nat.le_refl _) (Nat.zero_le _) rfl)
                    have QB : Hid (((w17.drew.alloc (.cells #[.int .i64 ((g.t k : Nat) : Int)] 3)).alloc (.cells #[] 3)).ownsRow w17.drew.heap.size 3 1 (.slice (some ⟨w17.drew.heap.size + 1, 0, none⟩) 0 0) 0 (([] : List Int).map (.int .i64))) := Lib.hid (by
                      have := World.ownsRow_made (base := w17.drew.heap.size) (size := 1) (e := 3) (w17.drew.alloc (.cells #[.int .i64 ((g.t k : Nat) : Int)] 3)) #[] 0 (by simp) (Nat.zero_le _) rfl
                      simpa using this)
                    have YA : Hid (IntsAt ((w17.drew.alloc (.cells #[] 3)).alloc (.cells #[.int .i64 ((g.t k : Nat) : Int)] 3)) (fun k => k = w17.drew.heap.size + 1) (some ⟨w17.drew.heap.size + 1, 0, none⟩) 1 [((g.t k : Nat) : Int)]) := Lib.hid (IntsAt.lit rfl rfl (by simp) (by omega))
                    have YB : Hid (IntsAt ((w17.drew.alloc (.cells #[.int .i64 ((g.t k : Nat) : Int)] 3)).alloc (.cells #[] 3)) (fun k => k = w17.drew.heap.size) (some ⟨w17.drew.heap.size, 0, none⟩) 1 [((g.t k : Nat) : Int)]) := Lib.hid (IntsAt.to (IntsAt.lit (W := w17.drew) (cs := #[.int .i64 ((g.t k : Nat) : Int)]) (t := 3) (xs := [((g.t k : Nat) : Int)]) (len := 1) rfl rfl rfl (by omega)) (fun b hb => ⟨hb, by subst hb; exact Below.heap_alloc _ _ _ (by simp)⟩))
                    have B1 : Hid (Below w17.drew.heap.size w17.drew (w17.drew.alloc (.cells #[] 3))) := Lib.hid ((Below.refl _ _).alloc (Nat.le_refl _) _)
                    have B2 : Hid (Below w17.drew.heap.size w17.drew ((w17.drew.alloc (.cells #[] 3)).alloc (.cells #[.int .i64 ((g.t k : Nat) : Int)] 3))) := Lib.hid (((Below.refl _ _).alloc (Nat.le_refl _) _).alloc (by simp) _)
                    have B3a : Hid (Below w17.drew.heap.size w17.drew (w17.drew.alloc (.cells #[.int .i64 ((g.t k : Nat) : Int)] 3))) := Lib.hid ((Below.refl _ _).alloc (Nat.le_refl _) _)
                    have B3 : Hid (Below w17.drew.heap.size w17.drew ((w17.drew.alloc (.cells #[.int .i64 ((g.t k : Nat) : Int)] 3)).alloc (.cells #[] 3))) := Lib.hid (((Below.refl _ _).alloc (Nat.le_refl _) _).alloc (by simp) _)
                    refine wp_region_held_drew (S := (fun w' => Below wj.heap.size w17 w')) (by kernel_rfl) HB17D (fun hHeld => ?_)
                    refine wpAnyH_take (i := 0) (v := .agg #[.slice (some ⟨bt, ot, none⟩) lT cT, .slice (some ⟨b, off, none⟩) lW cW]) rfl (by kernel_rfl) (by kernel_rfl) (by kernel_rfl) (fun _ _ _ h => h) (Or.inl ⟨by rfl, ?_⟩) hHeld ?_
                    · rintro w' hS; have k0 := (hS.cell (p := ⟨w.heap.size, 0, none⟩) hwj0).trans m0; have k1 := (hS.cell (p := ⟨w.heap.size, 1, none⟩) hwj0).trans m1; go_simp
                    try simp only [Act.put, List.setIfInBounds_toArray, List.set_cons_zero, List.set_cons_succ, List.getElem_toArray, List.getElem_cons_succ, List.getElem_cons_zero]
                    refine wpAnyH_take (i := 2) (v := .slice (some ⟨bP, oP, none⟩) i cP) rfl (by kernel_rfl) (by kernel_rfl) (by kernel_rfl) (fun _ _ _ h => h) (Or.inl ⟨by rfl, ?_⟩) hHeld ?_
                    · rintro w' hS; go_simp
                    try simp only [Act.put, List.setIfInBounds_toArray, List.set_cons_zero, List.set_cons_succ, List.getElem_toArray, List.getElem_cons_succ, List.getElem_cons_zero]
                    refine wpAnyH_take (i := 4) (v := .slice (some ⟨b', off', none⟩) 3 c) rfl (by kernel_rfl) (by kernel_rfl) (by kernel_rfl) (fun _ _ _ h => h) (Or.inl ⟨by rfl, ?_⟩) hHeld ?_
                    · rintro w' hS; go_simp
                    try simp only [Act.put, List.setIfInBounds_toArray, List.set_cons_zero, List.set_cons_succ, List.getElem_toArray, List.getElem_cons_succ, List.getElem_cons_zero]
                    refine wpAnyH_take (i := 5) (v := .pointer (some ⟨b', off' + 1, none⟩)) rfl (by kernel_rfl) (by kernel_rfl) (by kernel_rfl) (fun _ _ _ h => h) (Or.inl ⟨by rfl, ?_⟩) hHeld ?_
                    · rintro w' hS; go_simp
                    try simp only [Act.put, List.setIfInBounds_toArray, List.set_cons_zero, List.set_cons_succ, List.getElem_toArray, List.getElem_cons_succ, List.getElem_cons_zero]
                    refine wpAnyH_take (i := 6) (v := .int .i64 ((g.t k : Nat) : Int)) rfl (by kernel_rfl) (by kernel_rfl) (by kernel_rfl) (fun _ _ _ h => h) (Or.inl ⟨by rfl, ?_⟩) hHeld ?_
                    · rintro w' hS; have k1 := (hS.cell (p := ⟨b', off' + 1, none⟩) hbj).trans m2; go_simp
                    try simp only [Act.put, List.setIfInBounds_toArray, List.set_cons_zero, List.set_cons_succ, List.getElem_toArray, List.getElem_cons_succ, List.getElem_cons_zero]
                    refine wpAnyH_take (i := 9) (v := .int .i64 ((T0 : Int) + (tmv : Int))) rfl (by kernel_rfl) (by kernel_rfl) (by kernel_rfl) (fun _ _ _ h => h) (Or.inl ⟨by rfl, ?_⟩) hHeld ?_
                    · rintro w' hS; go_simp
                    try simp only [Act.put, List.setIfInBounds_toArray, List.set_cons_zero, List.set_cons_succ, List.getElem_toArray, List.getElem_cons_succ, List.getElem_cons_zero]
                    refine wpAnyH_take (i := 10) (v := .int .i64 ((C0 : Int) + ((g.c k : Nat) : Int))) rfl (by kernel_rfl) (by kernel_rfl) (by kernel_rfl) (fun _ _ _ h => h) (Or.inl ⟨by rfl, ?_⟩) hHeld ?_
                    · rintro w' hS; go_simp
                    try simp only [Act.put, List.setIfInBounds_toArray, List.set_cons_zero, List.set_cons_succ, List.getElem_toArray, List.getElem_cons_succ, List.getElem_cons_zero]
                    refine wpAnyH_ready (rs := [1, 7]) (by kernel_rfl) (by simp) ?_
                    refine AllReadyH.cons (o := _) rfl (fun K hK => ?_) (AllReadyH.cons (o := _) rfl (fun K hK => ?_) AllReadyH.nil)
                    · go_simp
                      refine hK.out _ _ ((show Below wj.heap.size w17 w17.drew from HB17D).trans ((B1.out).mono hjd)) (fun hHeld => ?_)
                      clear hK K
                      try simp only [Act.put, List.setIfInBounds_toArray, List.set_cons_zero, List.set_cons_succ, List.getElem_toArray, List.getElem_cons_succ, List.getElem_cons_zero]
                      refine wpAnyH_ready (rs := [3, 7]) (by kernel_rfl) (by simp) ?_
                      refine AllReadyH.cons (o := _) rfl (fun K hK => ?_) (AllReadyH.cons (o := _) rfl (fun K hK => ?_) AllReadyH.nil)
                      · refine stepApp (by rfl) _ _ (by rfl) w17.drew.heap.size 0 0 (w17.drew.heap.size) [] (· < w17.drew.heap.size) bP oP i cP (natD X) (by rfl) QA.out (by rfl) (HPW.out.below B1.out) B1.out.size i (by omega) (natD X) (by simp) (by omega) ?_
                        intro g4 c4 w4 own4 hc4 gr4 hb4 hl4
                        have BC := Lib.hid (B1.out.grown gr4 B1.out.size (by intro k e; injection e with e; omega))
                        refine hK.out _ _ ((show Below wj.heap.size w17 w17.drew from HB17D).trans ((BC.out).mono hjd)) (fun hHeld => ?_)
                        clear hK K
                        try simp only [Act.put, List.setIfInBounds_toArray, List.set_cons_zero, List.set_cons_succ, List.getElem_toArray, List.getElem_cons_succ, List.getElem_cons_zero]
                        refine wpAnyH_ready (rs := [7]) (by kernel_rfl) (by simp) ?_
                        refine AllReadyH.cons (o := _) rfl (fun K hK => ?_) AllReadyH.nil
                        go_simp
                        refine hK.out _ _ ((show Below wj.heap.size w17 w17.drew from HB17D).trans (((BC.out.alloc BC.out.size _)).mono hjd)) (fun hHeld => ?_)
                        clear hK K
                        try simp only [Act.put, List.setIfInBounds_toArray, List.set_cons_zero, List.set_cons_succ, List.getElem_toArray, List.getElem_cons_succ, List.getElem_cons_zero]
                        refine wpAnyH_ready (rs := [8]) (by kernel_rfl) (by simp) ?_
                        refine AllReadyH.cons (o := _) rfl (fun K hK => ?_) AllReadyH.nil
                        refine stepApp (by rfl) _ _ (by rfl) w17.drew.heap.size i c4 g4 (natD X) (fun b => b = w4.heap.size) (w4.heap.size) 0 1 1 [((g.t k : Nat) : Int)] (by rfl) (own4.alloc _) (by rfl) (IntsAt.lit (W := w4) (cs := #[.int .i64 ((g.t k : Nat) : Int)]) (t := 3) (xs := [((g.t k : Nat) : Int)]) (len := 1) rfl rfl rfl (by omega)) (BC.out.alloc BC.out.size (.cells #[.int .i64 ((g.t k : Nat) : Int)] 3)).size (i + 1) rfl (natD X ++ [((g.t k : Nat) : Int)]) rfl (by omega) ?_
                        intro g5 c5 w5 own5 hc5 gr5 hb5 hl5
                        have B5 := Lib.hid ((BC.out.alloc BC.out.size (.cells #[.int .i64 ((g.t k : Nat) : Int)] 3)).grown gr5 (BC.out.alloc BC.out.size (.cells #[.int .i64 ((g.t k : Nat) : Int)] 3)).size (by intro k e; injection e with e; omega))
                        refine hK.out _ _ ((show Below wj.heap.size w17 w17.drew from HB17D).trans ((B5.out).mono hjd)) (fun hHeld => ?_)
                        clear hK K
                        try simp only [Act.put, List.setIfInBounds_toArray, List.set_cons_zero, List.set_cons_succ, List.getElem_toArray, List.getElem_cons_succ, List.getElem_cons_zero]
                        refine wpAnyH_ready (rs := [11]) (by kernel_rfl) (by simp) ?_
                        refine AllReadyH.cons (o := _) rfl (fun K hK => ?_) AllReadyH.nil
                        go_simp
                        refine (HIH.out w5 g5 c5 (HBJ.out.trans (B5.out.mono hjd)) hc5 (path5 own5 (by omega))).mono ?_
                        rintro e w6 ⟨U', D', rfl, hop, hb6⟩
                        have hbx : Below wj.heap.size wj w6 := HBJ.out.trans ((B5.out.trans (hb6.mono B5.out.size)).mono hjd)
                        have hT6 : Two w6 wj.heap.size (.int .i64 0) (.int .i64 0) := (HTW.out.block (B5.out.block _ hltd)).block (hb6.block _ (Nat.lt_of_lt_of_le hltd B5.out.size))
                        have HOP := Lib.hid hop
                        have HBX := Lib.hid hbx
                        have HT6 := Lib.hid hT6
                        have HSZX := Lib.hid (show w17.drew.heap.size ≤ w6.heap.size from Nat.le_trans B5.out.size hb6.size)
                        clear hop hb6 own5 own4 gr4 gr5 hbx hT6
                        obtain ⟨⟨q0, qz0⟩, q1, qz1⟩ := HT6.out
                        refine hK.out _ _ ((show Below wj.heap.size w17 w17.drew from HB17D).trans (below_back HBX.out HBJ.out HSZX.out)) (fun hHeld => ?_)
                        clear hK K
                        try simp only [Act.put, List.setIfInBounds_toArray, List.set_cons_zero, List.set_cons_succ, List.getElem_toArray, List.getElem_cons_succ, List.getElem_cons_zero]
                        refine wpAnyH_ready (rs := [12]) (by kernel_rfl) (by simp) ?_
                        refine AllReadyH.cons (o := _) rfl (fun K hK => ?_) AllReadyH.nil
                        go_simp
                        refine hK.out _ _ (((show Below wj.heap.size w17 w17.drew from HB17D).trans (below_back HBX.out HBJ.out HSZX.out)).setCell (p := ⟨wj.heap.size, 0, none⟩) (Nat.le_refl _) _ |>.setCell (p := ⟨wj.heap.size, 1, none⟩) (Nat.le_refl _) _) (fun hHeld => ?_)
                        clear hK K
                        try simp only [Act.put, List.setIfInBounds_toArray, List.set_cons_zero, List.set_cons_succ, List.getElem_toArray, List.getElem_cons_succ, List.getElem_cons_zero]
                        refine wpAnyH_done (by kernel_rfl) ?_ _
                        have hbx := HBX.out
                        have hT6 := HT6.out
                        have hgs : w6.grownBy ((w6.setCell ⟨wj.heap.size, 0, none⟩ (.int .i64 (U' : Int))).setCell ⟨wj.heap.size, 1, none⟩ (.int .i64 (D' : Int))) (some wj.heap.size) := grown_comp (grownBy_setCell _ _ _) (grownBy_setCell _ _ _)
                        obtain ⟨⟨q0, qz0⟩, q1, qz1⟩ := id hT6
                        have HT := Lib.hid (show Two ((w6.setCell ⟨wj.heap.size, 0, none⟩ (.int .i64 (U' : Int))).setCell ⟨wj.heap.size, 1, none⟩ (.int .i64 (D' : Int))) wj.heap.size (.int .i64 (U' : Int)) (.int .i64 (D' : Int)) from (hT6.set0 _).set1 _)
                        have HRE := Lib.hid ((HRE.out.block (hbx.block _ HRE.out.lt)).grown hgs (by have := HRE.out.lt; simp; omega))
                        have HBE := Lib.hid ((HBE.out.block (hbx.block _ HBE.out.lt)).grown hgs (by have := HBE.out.lt; simp; omega))
                        have HNB := Lib.hid ((HNB.out.block (hbx.block _ HNB.out.lt)).block (hgs.block _ (Nat.lt_of_lt_of_le HNB.out.lt hbx.size) (by have := HNB.out.lt; simp; omega)))
                        have HBL := Lib.hid (((HBL.out.trans (hbx.mono HBL.out.size)).setCell (p := ⟨wj.heap.size, 0, none⟩) (by show w.heap.size ≤ wj.heap.size; omega) (.int .i64 (U' : Int))).setCell (p := ⟨wj.heap.size, 1, none⟩) (by show w.heap.size ≤ wj.heap.size; omega) (.int .i64 (D' : Int)))
                        have hsz8 : w.heap.size + 3 ≤ ((w6.setCell ⟨wj.heap.size, 0, none⟩ (.int .i64 (U' : Int))).setCell ⟨wj.heap.size, 1, none⟩ (.int .i64 (D' : Int))).heap.size := by rw [World.size_setCell, World.size_setCell]; exact Nat.le_trans hsz hbx.size
                        clear n0 n1 d1 d2 p0 e1 e0 dt hbx hT6 hgs m0 m1 m2 hHeld
                        obtain ⟨hu8, hd8⟩ := opt_bd HOP.out
                        obtain ⟨hu9, hd9⟩ := opt_bd HOPT.out
                        have HJN := Lib.hid (opt_join HOPT.out HOP.out (fun T C => ways_succ T C))
                        obtain ⟨⟨t0, tz0⟩, t1, tz1⟩ := HT.out
                        obtain ⟨⟨b0, bz0⟩, b1, bz1⟩ := HBE.out
                        by_cases hD0 : D' = 0
                        · have hDI : ¬ (0 : Int) < (D' : Int) := by omega
                          have HP := Lib.hid (show pairU U D U' D' = U ∧ pairD U D U' D' = D from ⟨if_neg (fun h => h.1 hD0), if_neg (fun h => h.1 hD0)⟩)
                          clear hD0
                          go_wp2_with fail
                          go_roundw
                          case rel => exact ⟨k + 1, U, D, by go_num, by omega, by rw [HP.out.1, HP.out.2] at HJN; exact HJN.out, HRE.out, HBE.out, HBL.out, HNB.out, hsz8⟩
                          case measure => simp [intOf]; omega
                        · have hDI : (0 : Int) < (D' : Int) := by omega
                          by_cases hDD : D = 0
                          · have hDDI : (((D : Nat) : Int) == 0) = true := by simp; omega
                            have HP := Lib.hid (show pairU U D U' D' = U' ∧ pairD U D U' D' = D' from ⟨if_pos ⟨hD0, .inl hDD⟩, if_pos ⟨hD0, .inl hDD⟩⟩)
                            clear hDD
                            go_wp2_with fail
                            go_roundw
                            case rel => exact ⟨k + 1, U', D', by go_num, by omega, by rw [HP.out.1, HP.out.2] at HJN; exact HJN.out, HRE.out.grown (grown_comp (grownBy_setCell _ ⟨w.heap.size + 1 + 1, 0, none⟩ _) (grownBy_setCell _ ⟨w.heap.size + 1 + 1, 1, none⟩ _)) (by simp), (HBE.out.set0 _).set1 _, (HBL.out.setCell (p := ⟨w.heap.size + 1 + 1, 0, none⟩) (by show w.heap.size ≤ w.heap.size + 1 + 1; omega) _).setCell (p := ⟨w.heap.size + 1 + 1, 1, none⟩) (by show w.heap.size ≤ w.heap.size + 1 + 1; omega) _, HNB.out.block ((grown_comp (grownBy_setCell ((w6.setCell ⟨wj.heap.size, 0, none⟩ (.int .i64 (U' : Int))).setCell ⟨wj.heap.size, 1, none⟩ (.int .i64 (D' : Int))) ⟨w.heap.size + 1 + 1, 0, none⟩ _) (grownBy_setCell _ ⟨w.heap.size + 1 + 1, 1, none⟩ _)).block _ HNB.out.lt (by simp; omega)), by simpa [World.setCell] using hsz8⟩
                            case measure => simp [intOf]; omega
                          · have hDDI : (((D : Nat) : Int) == 0) = false := by simp; omega
                            have HLE := Lib.hid (less_any U D U' D' (by omega) ((w6.setCell ⟨wj.heap.size, 0, none⟩ (.int .i64 (U' : Int))).setCell ⟨wj.heap.size, 1, none⟩ (.int .i64 (D' : Int))))
                            by_cases hlt : (U : Int) * D' < (U' : Int) * D
                            · rw [decide_eq_true hlt] at HLE
                              have HP := Lib.hid (show pairU U D U' D' = U' ∧ pairD U D U' D' = D' from ⟨if_pos ⟨hD0, .inr hlt⟩, if_pos ⟨hD0, .inr hlt⟩⟩)
                              clear hlt
                              go_wp2_with fail
                              refine HLE.out.mono ?_
                              rintro e w9 ⟨rfl, hb9⟩
                              have HT9 := Lib.hid (HT.out.block (hb9.block _ HT.out.lt))
                              have HBE9 := Lib.hid (HBE.out.block (hb9.block _ HBE.out.lt))
                              have HRE9 := Lib.hid (HRE.out.block (hb9.block _ HRE.out.lt))
                              have HNB9 := Lib.hid (HNB.out.block (hb9.block _ HNB.out.lt))
                              have HBL9 := Lib.hid (HBL.out.trans (hb9.mono HBL.out.size))
                              have hsz9 : w.heap.size + 3 ≤ w9.heap.size := Nat.le_trans hsz8 hb9.size
                              clear t0 tz0 t1 tz1 b0 bz0 b1 bz1 hb9
                              obtain ⟨⟨t0, tz0⟩, t1, tz1⟩ := HT9.out
                              obtain ⟨⟨b0, bz0⟩, b1, bz1⟩ := HBE9.out
                              go_wp2_with fail
                              go_roundw
                              case rel => exact ⟨k + 1, U', D', by go_num, by omega, by rw [HP.out.1, HP.out.2] at HJN; exact HJN.out, HRE9.out.grown (grown_comp (grownBy_setCell _ ⟨w.heap.size + 1 + 1, 0, none⟩ _) (grownBy_setCell _ ⟨w.heap.size + 1 + 1, 1, none⟩ _)) (by simp), (HBE9.out.set0 _).set1 _, (HBL9.out.setCell (p := ⟨w.heap.size + 1 + 1, 0, none⟩) (by show w.heap.size ≤ w.heap.size + 1 + 1; omega) _).setCell (p := ⟨w.heap.size + 1 + 1, 1, none⟩) (by show w.heap.size ≤ w.heap.size + 1 + 1; omega) _, HNB9.out.block ((grown_comp (grownBy_setCell w9 ⟨w.heap.size + 1 + 1, 0, none⟩ _) (grownBy_setCell _ ⟨w.heap.size + 1 + 1, 1, none⟩ _)).block _ HNB9.out.lt (by simp; omega)), by simpa [World.setCell] using hsz9⟩
                              case measure => simp [intOf]; omega
                            · rw [decide_eq_false hlt] at HLE
                              have HP := Lib.hid (show pairU U D U' D' = U ∧ pairD U D U' D' = D from ⟨if_neg (fun h => h.2.elim hDD hlt), if_neg (fun h => h.2.elim hDD hlt)⟩)
                              clear hlt
                              go_wp2_with fail
                              refine HLE.out.mono ?_
                              rintro e w9 ⟨rfl, hb9⟩
                              have HBE9 := Lib.hid (HBE.out.block (hb9.block _ HBE.out.lt))
                              have HRE9 := Lib.hid (HRE.out.block (hb9.block _ HRE.out.lt))
                              have HNB9 := Lib.hid (HNB.out.block (hb9.block _ HNB.out.lt))
                              have HBL9 := Lib.hid (HBL.out.trans (hb9.mono HBL.out.size))
                              have hsz9 : w.heap.size + 3 ≤ w9.heap.size := Nat.le_trans hsz8 hb9.size
                              clear t0 tz0 t1 tz1 b0 bz0 b1 bz1 hb9
                              go_wp2_with fail
                              go_roundw
                              case rel => exact ⟨k + 1, U, D, by go_num, by omega, by rw [HP.out.1, HP.out.2] at HJN; exact HJN.out, HRE9.out, HBE9.out, HBL9.out, HNB9.out, hsz9⟩
                              case measure => simp [intOf]; omega
                      · go_simp
                        refine hK.out _ _ ((show Below wj.heap.size w17 w17.drew from HB17D).trans ((B2.out).mono hjd)) (fun hHeld => ?_)
                        clear hK K
                        try simp only [Act.put, List.setIfInBounds_toArray, List.set_cons_zero, List.set_cons_succ, List.getElem_toArray, List.getElem_cons_succ, List.getElem_cons_zero]
                        refine wpAnyH_ready (rs := [3]) (by kernel_rfl) (by simp) ?_
                        refine AllReadyH.cons (o := _) rfl (fun K hK => ?_) AllReadyH.nil
                        refine stepApp (by rfl) _ _ (by rfl) w17.drew.heap.size 0 0 (w17.drew.heap.size) [] (· < w17.drew.heap.size) bP oP i cP (natD X) (by rfl) (QA.out.alloc _) (by rfl) (HPW.out.below B2.out) B2.out.size i (by omega) (natD X) (by simp) (by omega) ?_
                        intro g4 c4 w4 own4 hc4 gr4 hb4 hl4
                        have BC := Lib.hid (B2.out.grown gr4 B2.out.size (by intro k e; injection e with e; omega))
                        have Y4 := Lib.hid (YA.out.grownEq gr4 rfl (by simp <;> omega) (by omega))
                        refine hK.out _ _ ((show Below wj.heap.size w17 w17.drew from HB17D).trans ((BC.out).mono hjd)) (fun hHeld => ?_)
                        clear hK K
                        try simp only [Act.put, List.setIfInBounds_toArray, List.set_cons_zero, List.set_cons_succ, List.getElem_toArray, List.getElem_cons_succ, List.getElem_cons_zero]
                        refine wpAnyH_ready (rs := [8]) (by kernel_rfl) (by simp) ?_
                        refine AllReadyH.cons (o := _) rfl (fun K hK => ?_) AllReadyH.nil
                        refine stepApp (by rfl) _ _ (by rfl) w17.drew.heap.size i c4 g4 (natD X) _ (_) 0 1 1 [((g.t k : Nat) : Int)] (by rfl) own4 (by rfl) Y4.out BC.out.size (i + 1) rfl (natD X ++ [((g.t k : Nat) : Int)]) rfl (by omega) ?_
                        intro g5 c5 w5 own5 hc5 gr5 hb5 hl5
                        have B5 := Lib.hid (BC.out.grown gr5 BC.out.size (by intro k e; injection e with e; omega))
                        refine hK.out _ _ ((show Below wj.heap.size w17 w17.drew from HB17D).trans ((B5.out).mono hjd)) (fun hHeld => ?_)
                        clear hK K
                        try simp only [Act.put, List.setIfInBounds_toArray, List.set_cons_zero, List.set_cons_succ, List.getElem_toArray, List.getElem_cons_succ, List.getElem_cons_zero]
                        refine wpAnyH_ready (rs := [11]) (by kernel_rfl) (by simp) ?_
                        refine AllReadyH.cons (o := _) rfl (fun K hK => ?_) AllReadyH.nil
                        go_simp
                        refine (HIH.out w5 g5 c5 (HBJ.out.trans (B5.out.mono hjd)) hc5 (path5 own5 (by omega))).mono ?_
                        rintro e w6 ⟨U', D', rfl, hop, hb6⟩
                        have hbx : Below wj.heap.size wj w6 := HBJ.out.trans ((B5.out.trans (hb6.mono B5.out.size)).mono hjd)
                        have hT6 : Two w6 wj.heap.size (.int .i64 0) (.int .i64 0) := (HTW.out.block (B5.out.block _ hltd)).block (hb6.block _ (Nat.lt_of_lt_of_le hltd B5.out.size))
                        have HOP := Lib.hid hop
                        have HBX := Lib.hid hbx
                        have HT6 := Lib.hid hT6
                        have HSZX := Lib.hid (show w17.drew.heap.size ≤ w6.heap.size from Nat.le_trans B5.out.size hb6.size)
                        clear hop hb6 own5 own4 gr4 gr5 hbx hT6
                        obtain ⟨⟨q0, qz0⟩, q1, qz1⟩ := HT6.out
                        refine hK.out _ _ ((show Below wj.heap.size w17 w17.drew from HB17D).trans (below_back HBX.out HBJ.out HSZX.out)) (fun hHeld => ?_)
                        clear hK K
                        try simp only [Act.put, List.setIfInBounds_toArray, List.set_cons_zero, List.set_cons_succ, List.getElem_toArray, List.getElem_cons_succ, List.getElem_cons_zero]
                        refine wpAnyH_ready (rs := [12]) (by kernel_rfl) (by simp) ?_
                        refine AllReadyH.cons (o := _) rfl (fun K hK => ?_) AllReadyH.nil
                        go_simp
                        refine hK.out _ _ (((show Below wj.heap.size w17 w17.drew from HB17D).trans (below_back HBX.out HBJ.out HSZX.out)).setCell (p := ⟨wj.heap.size, 0, none⟩) (Nat.le_refl _) _ |>.setCell (p := ⟨wj.heap.size, 1, none⟩) (Nat.le_refl _) _) (fun hHeld => ?_)
                        clear hK K
                        try simp only [Act.put, List.setIfInBounds_toArray, List.set_cons_zero, List.set_cons_succ, List.getElem_toArray, List.getElem_cons_succ, List.getElem_cons_zero]
                        refine wpAnyH_done (by kernel_rfl) ?_ _
                        have hbx := HBX.out
                        have hT6 := HT6.out
                        have hgs : w6.grownBy ((w6.setCell ⟨wj.heap.size, 0, none⟩ (.int .i64 (U' : Int))).setCell ⟨wj.heap.size, 1, none⟩ (.int .i64 (D' : Int))) (some wj.heap.size) := grown_comp (grownBy_setCell _ _ _) (grownBy_setCell _ _ _)
                        obtain ⟨⟨q0, qz0⟩, q1, qz1⟩ := id hT6
                        have HT := Lib.hid (show Two ((w6.setCell ⟨wj.heap.size, 0, none⟩ (.int .i64 (U' : Int))).setCell ⟨wj.heap.size, 1, none⟩ (.int .i64 (D' : Int))) wj.heap.size (.int .i64 (U' : Int)) (.int .i64 (D' : Int)) from (hT6.set0 _).set1 _)
                        have HRE := Lib.hid ((HRE.out.block (hbx.block _ HRE.out.lt)).grown hgs (by have := HRE.out.lt; simp; omega))
                        have HBE := Lib.hid ((HBE.out.block (hbx.block _ HBE.out.lt)).grown hgs (by have := HBE.out.lt; simp; omega))
                        have HNB := Lib.hid ((HNB.out.block (hbx.block _ HNB.out.lt)).block (hgs.block _ (Nat.lt_of_lt_of_le HNB.out.lt hbx.size) (by have := HNB.out.lt; simp; omega)))
                        have HBL := Lib.hid (((HBL.out.trans (hbx.mono HBL.out.size)).setCell (p := ⟨wj.heap.size, 0, none⟩) (by show w.heap.size ≤ wj.heap.size; omega) (.int .i64 (U' : Int))).setCell (p := ⟨wj.heap.size, 1, none⟩) (by show w.heap.size ≤ wj.heap.size; omega) (.int .i64 (D' : Int)))
                        have hsz8 : w.heap.size + 3 ≤ ((w6.setCell ⟨wj.heap.size, 0, none⟩ (.int .i64 (U' : Int))).setCell ⟨wj.heap.size, 1, none⟩ (.int .i64 (D' : Int))).heap.size := by rw [World.size_setCell, World.size_setCell]; exact Nat.le_trans hsz hbx.size
                        clear n0 n1 d1 d2 p0 e1 e0 dt hbx hT6 hgs m0 m1 m2 hHeld
                        obtain ⟨hu8, hd8⟩ := opt_bd HOP.out
                        obtain ⟨hu9, hd9⟩ := opt_bd HOPT.out
                        have HJN := Lib.hid (opt_join HOPT.out HOP.out (fun T C => ways_succ T C))
                        obtain ⟨⟨t0, tz0⟩, t1, tz1⟩ := HT.out
                        obtain ⟨⟨b0, bz0⟩, b1, bz1⟩ := HBE.out
                        by_cases hD0 : D' = 0
                        · have hDI : ¬ (0 : Int) < (D' : Int) := by omega
                          have HP := Lib.hid (show pairU U D U' D' = U ∧ pairD U D U' D' = D from ⟨if_neg (fun h => h.1 hD0), if_neg (fun h => h.1 hD0)⟩)
                          clear hD0
                          go_wp2_with fail
                          go_roundw
                          case rel => exact ⟨k + 1, U, D, by go_num, by omega, by rw [HP.out.1, HP.out.2] at HJN; exact HJN.out, HRE.out, HBE.out, HBL.out, HNB.out, hsz8⟩
                          case measure => simp [intOf]; omega
                        · have hDI : (0 : Int) < (D' : Int) := by omega
                          by_cases hDD : D = 0
                          · have hDDI : (((D : Nat) : Int) == 0) = true := by simp; omega
                            have HP := Lib.hid (show pairU U D U' D' = U' ∧ pairD U D U' D' = D' from ⟨if_pos ⟨hD0, .inl hDD⟩, if_pos ⟨hD0, .inl hDD⟩⟩)
                            clear hDD
                            go_wp2_with fail
                            go_roundw
                            case rel => exact ⟨k + 1, U', D', by go_num, by omega, by rw [HP.out.1, HP.out.2] at HJN; exact HJN.out, HRE.out.grown (grown_comp (grownBy_setCell _ ⟨w.heap.size + 1 + 1, 0, none⟩ _) (grownBy_setCell _ ⟨w.heap.size + 1 + 1, 1, none⟩ _)) (by simp), (HBE.out.set0 _).set1 _, (HBL.out.setCell (p := ⟨w.heap.size + 1 + 1, 0, none⟩) (by show w.heap.size ≤ w.heap.size + 1 + 1; omega) _).setCell (p := ⟨w.heap.size + 1 + 1, 1, none⟩) (by show w.heap.size ≤ w.heap.size + 1 + 1; omega) _, HNB.out.block ((grown_comp (grownBy_setCell ((w6.setCell ⟨wj.heap.size, 0, none⟩ (.int .i64 (U' : Int))).setCell ⟨wj.heap.size, 1, none⟩ (.int .i64 (D' : Int))) ⟨w.heap.size + 1 + 1, 0, none⟩ _) (grownBy_setCell _ ⟨w.heap.size + 1 + 1, 1, none⟩ _)).block _ HNB.out.lt (by simp; omega)), by simpa [World.setCell] using hsz8⟩
                            case measure => simp [intOf]; omega
                          · have hDDI : (((D : Nat) : Int) == 0) = false := by simp; omega
                            have HLE := Lib.hid (less_any U D U' D' (by omega) ((w6.setCell ⟨wj.heap.size, 0, none⟩ (.int .i64 (U' : Int))).setCell ⟨wj.heap.size, 1, none⟩ (.int .i64 (D' : Int))))
                            by_cases hlt : (U : Int) * D' < (U' : Int) * D
                            · rw [decide_eq_true hlt] at HLE
                              have HP := Lib.hid (show pairU U D U' D' = U' ∧ pairD U D U' D' = D' from ⟨if_pos ⟨hD0, .inr hlt⟩, if_pos ⟨hD0, .inr hlt⟩⟩)
                              clear hlt
                              go_wp2_with fail
                              refine HLE.out.mono ?_
                              rintro e w9 ⟨rfl, hb9⟩
                              have HT9 := Lib.hid (HT.out.block (hb9.block _ HT.out.lt))
                              have HBE9 := Lib.hid (HBE.out.block (hb9.block _ HBE.out.lt))
                              have HRE9 := Lib.hid (HRE.out.block (hb9.block _ HRE.out.lt))
                              have HNB9 := Lib.hid (HNB.out.block (hb9.block _ HNB.out.lt))
                              have HBL9 := Lib.hid (HBL.out.trans (hb9.mono HBL.out.size))
                              have hsz9 : w.heap.size + 3 ≤ w9.heap.size := Nat.le_trans hsz8 hb9.size
                              clear t0 tz0 t1 tz1 b0 bz0 b1 bz1 hb9
                              obtain ⟨⟨t0, tz0⟩, t1, tz1⟩ := HT9.out
                              obtain ⟨⟨b0, bz0⟩, b1, bz1⟩ := HBE9.out
                              go_wp2_with fail
                              go_roundw
                              case rel => exact ⟨k + 1, U', D', by go_num, by omega, by rw [HP.out.1, HP.out.2] at HJN; exact HJN.out, HRE9.out.grown (grown_comp (grownBy_setCell _ ⟨w.heap.size + 1 + 1, 0, none⟩ _) (grownBy_setCell _ ⟨w.heap.size + 1 + 1, 1, none⟩ _)) (by simp), (HBE9.out.set0 _).set1 _, (HBL9.out.setCell (p := ⟨w.heap.size + 1 + 1, 0, none⟩) (by show w.heap.size ≤ w.heap.size + 1 + 1; omega) _).setCell (p := ⟨w.heap.size + 1 + 1, 1, none⟩) (by show w.heap.size ≤ w.heap.size + 1 + 1; omega) _, HNB9.out.block ((grown_comp (grownBy_setCell w9 ⟨w.heap.size + 1 + 1, 0, none⟩ _) (grownBy_setCell _ ⟨w.heap.size + 1 + 1, 1, none⟩ _)).block _ HNB9.out.lt (by simp; omega)), by simpa [World.setCell] using hsz9⟩
                              case measure => simp [intOf]; omega
                            · rw [decide_eq_false hlt] at HLE
                              have HP := Lib.hid (show pairU U D U' D' = U ∧ pairD U D U' D' = D from ⟨if_neg (fun h => h.2.elim hDD hlt), if_neg (fun h => h.2.elim hDD hlt)⟩)
                              clear hlt
                              go_wp2_with fail
                              refine HLE.out.mono ?_
                              rintro e w9 ⟨rfl, hb9⟩
                              have HBE9 := Lib.hid (HBE.out.block (hb9.block _ HBE.out.lt))
                              have HRE9 := Lib.hid (HRE.out.block (hb9.block _ HRE.out.lt))
                              have HNB9 := Lib.hid (HNB.out.block (hb9.block _ HNB.out.lt))
                              have HBL9 := Lib.hid (HBL.out.trans (hb9.mono HBL.out.size))
                              have hsz9 : w.heap.size + 3 ≤ w9.heap.size := Nat.le_trans hsz8 hb9.size
                              clear t0 tz0 t1 tz1 b0 bz0 b1 bz1 hb9
                              go_wp2_with fail
                              go_roundw
                              case rel => exact ⟨k + 1, U, D, by go_num, by omega, by rw [HP.out.1, HP.out.2] at HJN; exact HJN.out, HRE9.out, HBE9.out, HBL9.out, HNB9.out, hsz9⟩
                              case measure => simp [intOf]; omega
                    · go_simp
                      refine hK.out _ _ ((show Below wj.heap.size w17 w17.drew from HB17D).trans ((B3a.out).mono hjd)) (fun hHeld => ?_)
                      clear hK K
                      try simp only [Act.put, List.setIfInBounds_toArray, List.set_cons_zero, List.set_cons_succ, List.getElem_toArray, List.getElem_cons_succ, List.getElem_cons_zero]
                      refine wpAnyH_ready (rs := [1]) (by kernel_rfl) (by simp) ?_
                      refine AllReadyH.cons (o := _) rfl (fun K hK => ?_) AllReadyH.nil
                      go_simp
                      refine hK.out _ _ ((show Below wj.heap.size w17 w17.drew from HB17D).trans ((B3.out).mono hjd)) (fun hHeld => ?_)
                      clear hK K
                      try simp only [Act.put, List.setIfInBounds_toArray, List.set_cons_zero, List.set_cons_succ, List.getElem_toArray, List.getElem_cons_succ, List.getElem_cons_zero]
                      refine wpAnyH_ready (rs := [3]) (by kernel_rfl) (by simp) ?_
                      refine AllReadyH.cons (o := _) rfl (fun K hK => ?_) AllReadyH.nil
                      refine stepApp (by rfl) _ _ (by rfl) w17.drew.heap.size 0 0 (w17.drew.heap.size + 1) [] (· < w17.drew.heap.size) bP oP i cP (natD X) (by rfl) QB.out (by rfl) (HPW.out.below B3.out) B3.out.size i (by omega) (natD X) (by simp) (by omega) ?_
                      intro g4 c4 w4 own4 hc4 gr4 hb4 hl4
                      have BC := Lib.hid (B3.out.grown gr4 B3.out.size (by intro k e; injection e with e; omega))
                      have Y4 := Lib.hid (YB.out.grownEq gr4 rfl (by simp <;> omega) (by omega))
                      refine hK.out _ _ ((show Below wj.heap.size w17 w17.drew from HB17D).trans ((BC.out).mono hjd)) (fun hHeld => ?_)
                      clear hK K
                      try simp only [Act.put, List.setIfInBounds_toArray, List.set_cons_zero, List.set_cons_succ, List.getElem_toArray, List.getElem_cons_succ, List.getElem_cons_zero]
                      refine wpAnyH_ready (rs := [8]) (by kernel_rfl) (by simp) ?_
                      refine AllReadyH.cons (o := _) rfl (fun K hK => ?_) AllReadyH.nil
                      refine stepApp (by rfl) _ _ (by rfl) w17.drew.heap.size i c4 g4 (natD X) _ (_) 0 1 1 [((g.t k : Nat) : Int)] (by rfl) own4 (by rfl) Y4.out BC.out.size (i + 1) rfl (natD X ++ [((g.t k : Nat) : Int)]) rfl (by omega) ?_
                      intro g5 c5 w5 own5 hc5 gr5 hb5 hl5
                      have B5 := Lib.hid (BC.out.grown gr5 BC.out.size (by intro k e; injection e with e; omega))
                      refine hK.out _ _ ((show Below wj.heap.size w17 w17.drew from HB17D).trans ((B5.out).mono hjd)) (fun hHeld => ?_)
                      clear hK K
                      try simp only [Act.put, List.setIfInBounds_toArray, List.set_cons_zero, List.set_cons_succ, List.getElem_toArray, List.getElem_cons_succ, List.getElem_cons_zero]
                      refine wpAnyH_ready (rs := [11]) (by kernel_rfl) (by simp) ?_
                      refine AllReadyH.cons (o := _) rfl (fun K hK => ?_) AllReadyH.nil
                      go_simp
                      refine (HIH.out w5 g5 c5 (HBJ.out.trans (B5.out.mono hjd)) hc5 (path5 own5 (by omega))).mono ?_
                      rintro e w6 ⟨U', D', rfl, hop, hb6⟩
                      have hbx : Below wj.heap.size wj w6 := HBJ.out.trans ((B5.out.trans (hb6.mono B5.out.size)).mono hjd)
                      have hT6 : Two w6 wj.heap.size (.int .i64 0) (.int .i64 0) := (HTW.out.block (B5.out.block _ hltd)).block (hb6.block _ (Nat.lt_of_lt_of_le hltd B5.out.size))
                      have HOP := Lib.hid hop
                      have HBX := Lib.hid hbx
                      have HT6 := Lib.hid hT6
                      have HSZX := Lib.hid (show w17.drew.heap.size ≤ w6.heap.size from Nat.le_trans B5.out.size hb6.size)
                      clear hop hb6 own5 own4 gr4 gr5 hbx hT6
                      obtain ⟨⟨q0, qz0⟩, q1, qz1⟩ := HT6.out
                      refine hK.out _ _ ((show Below wj.heap.size w17 w17.drew from HB17D).trans (below_back HBX.out HBJ.out HSZX.out)) (fun hHeld => ?_)
                      clear hK K
                      try simp only [Act.put, List.setIfInBounds_toArray, List.set_cons_zero, List.set_cons_succ, List.getElem_toArray, List.getElem_cons_succ, List.getElem_cons_zero]
                      refine wpAnyH_ready (rs := [12]) (by kernel_rfl) (by simp) ?_
                      refine AllReadyH.cons (o := _) rfl (fun K hK => ?_) AllReadyH.nil
                      go_simp
                      refine hK.out _ _ (((show Below wj.heap.size w17 w17.drew from HB17D).trans (below_back HBX.out HBJ.out HSZX.out)).setCell (p := ⟨wj.heap.size, 0, none⟩) (Nat.le_refl _) _ |>.setCell (p := ⟨wj.heap.size, 1, none⟩) (Nat.le_refl _) _) (fun hHeld => ?_)
                      clear hK K
                      try simp only [Act.put, List.setIfInBounds_toArray, List.set_cons_zero, List.set_cons_succ, List.getElem_toArray, List.getElem_cons_succ, List.getElem_cons_zero]
                      refine wpAnyH_done (by kernel_rfl) ?_ _
                      have hbx := HBX.out
                      have hT6 := HT6.out
                      have hgs : w6.grownBy ((w6.setCell ⟨wj.heap.size, 0, none⟩ (.int .i64 (U' : Int))).setCell ⟨wj.heap.size, 1, none⟩ (.int .i64 (D' : Int))) (some wj.heap.size) := grown_comp (grownBy_setCell _ _ _) (grownBy_setCell _ _ _)
                      obtain ⟨⟨q0, qz0⟩, q1, qz1⟩ := id hT6
                      have HT := Lib.hid (show Two ((w6.setCell ⟨wj.heap.size, 0, none⟩ (.int .i64 (U' : Int))).setCell ⟨wj.heap.size, 1, none⟩ (.int .i64 (D' : Int))) wj.heap.size (.int .i64 (U' : Int)) (.int .i64 (D' : Int)) from (hT6.set0 _).set1 _)
                      have HRE := Lib.hid ((HRE.out.block (hbx.block _ HRE.out.lt)).grown hgs (by have := HRE.out.lt; simp; omega))
                      have HBE := Lib.hid ((HBE.out.block (hbx.block _ HBE.out.lt)).grown hgs (by have := HBE.out.lt; simp; omega))
                      have HNB := Lib.hid ((HNB.out.block (hbx.block _ HNB.out.lt)).block (hgs.block _ (Nat.lt_of_lt_of_le HNB.out.lt hbx.size) (by have := HNB.out.lt; simp; omega)))
                      have HBL := Lib.hid (((HBL.out.trans (hbx.mono HBL.out.size)).setCell (p := ⟨wj.heap.size, 0, none⟩) (by show w.heap.size ≤ wj.heap.size; omega) (.int .i64 (U' : Int))).setCell (p := ⟨wj.heap.size, 1, none⟩) (by show w.heap.size ≤ wj.heap.size; omega) (.int .i64 (D' : Int)))
                      have hsz8 : w.heap.size + 3 ≤ ((w6.setCell ⟨wj.heap.size, 0, none⟩ (.int .i64 (U' : Int))).setCell ⟨wj.heap.size, 1, none⟩ (.int .i64 (D' : Int))).heap.size := by rw [World.size_setCell, World.size_setCell]; exact Nat.le_trans hsz hbx.size
                      clear n0 n1 d1 d2 p0 e1 e0 dt hbx hT6 hgs m0 m1 m2 hHeld
                      obtain ⟨hu8, hd8⟩ := opt_bd HOP.out
                      obtain ⟨hu9, hd9⟩ := opt_bd HOPT.out
                      have HJN := Lib.hid (opt_join HOPT.out HOP.out (fun T C => ways_succ T C))
                      obtain ⟨⟨t0, tz0⟩, t1, tz1⟩ := HT.out
                      obtain ⟨⟨b0, bz0⟩, b1, bz1⟩ := HBE.out
                      by_cases hD0 : D' = 0
                      · have hDI : ¬ (0 : Int) < (D' : Int) := by omega
                        have HP := Lib.hid (show pairU U D U' D' = U ∧ pairD U D U' D' = D from ⟨if_neg (fun h => h.1 hD0), if_neg (fun h => h.1 hD0)⟩)
                        clear hD0
                        go_wp2_with fail
                        go_roundw
                        case rel => exact ⟨k + 1, U, D, by go_num, by omega, by rw [HP.out.1, HP.out.2] at HJN; exact HJN.out, HRE.out, HBE.out, HBL.out, HNB.out, hsz8⟩
                        case measure => simp [intOf]; omega
                      · have hDI : (0 : Int) < (D' : Int) := by omega
                        by_cases hDD : D = 0
                        · have hDDI : (((D : Nat) : Int) == 0) = true := by simp; omega
                          have HP := Lib.hid (show pairU U D U' D' = U' ∧ pairD U D U' D' = D' from ⟨if_pos ⟨hD0, .inl hDD⟩, if_pos ⟨hD0, .inl hDD⟩⟩)
                          clear hDD
                          go_wp2_with fail
                          go_roundw
                          case rel => exact ⟨k + 1, U', D', by go_num, by omega, by rw [HP.out.1, HP.out.2] at HJN; exact HJN.out, HRE.out.grown (grown_comp (grownBy_setCell _ ⟨w.heap.size + 1 + 1, 0, none⟩ _) (grownBy_setCell _ ⟨w.heap.size + 1 + 1, 1, none⟩ _)) (by simp), (HBE.out.set0 _).set1 _, (HBL.out.setCell (p := ⟨w.heap.size + 1 + 1, 0, none⟩) (by show w.heap.size ≤ w.heap.size + 1 + 1; omega) _).setCell (p := ⟨w.heap.size + 1 + 1, 1, none⟩) (by show w.heap.size ≤ w.heap.size + 1 + 1; omega) _, HNB.out.block ((grown_comp (grownBy_setCell ((w6.setCell ⟨wj.heap.size, 0, none⟩ (.int .i64 (U' : Int))).setCell ⟨wj.heap.size, 1, none⟩ (.int .i64 (D' : Int))) ⟨w.heap.size + 1 + 1, 0, none⟩ _) (grownBy_setCell _ ⟨w.heap.size + 1 + 1, 1, none⟩ _)).block _ HNB.out.lt (by simp; omega)), by simpa [World.setCell] using hsz8⟩
                          case measure => simp [intOf]; omega
                        · have hDDI : (((D : Nat) : Int) == 0) = false := by simp; omega
                          have HLE := Lib.hid (less_any U D U' D' (by omega) ((w6.setCell ⟨wj.heap.size, 0, none⟩ (.int .i64 (U' : Int))).setCell ⟨wj.heap.size, 1, none⟩ (.int .i64 (D' : Int))))
                          by_cases hlt : (U : Int) * D' < (U' : Int) * D
                          · rw [decide_eq_true hlt] at HLE
                            have HP := Lib.hid (show pairU U D U' D' = U' ∧ pairD U D U' D' = D' from ⟨if_pos ⟨hD0, .inr hlt⟩, if_pos ⟨hD0, .inr hlt⟩⟩)
                            clear hlt
                            go_wp2_with fail
                            refine HLE.out.mono ?_
                            rintro e w9 ⟨rfl, hb9⟩
                            have HT9 := Lib.hid (HT.out.block (hb9.block _ HT.out.lt))
                            have HBE9 := Lib.hid (HBE.out.block (hb9.block _ HBE.out.lt))
                            have HRE9 := Lib.hid (HRE.out.block (hb9.block _ HRE.out.lt))
                            have HNB9 := Lib.hid (HNB.out.block (hb9.block _ HNB.out.lt))
                            have HBL9 := Lib.hid (HBL.out.trans (hb9.mono HBL.out.size))
                            have hsz9 : w.heap.size + 3 ≤ w9.heap.size := Nat.le_trans hsz8 hb9.size
                            clear t0 tz0 t1 tz1 b0 bz0 b1 bz1 hb9
                            obtain ⟨⟨t0, tz0⟩, t1, tz1⟩ := HT9.out
                            obtain ⟨⟨b0, bz0⟩, b1, bz1⟩ := HBE9.out
                            go_wp2_with fail
                            go_roundw
                            case rel => exact ⟨k + 1, U', D', by go_num, by omega, by rw [HP.out.1, HP.out.2] at HJN; exact HJN.out, HRE9.out.grown (grown_comp (grownBy_setCell _ ⟨w.heap.size + 1 + 1, 0, none⟩ _) (grownBy_setCell _ ⟨w.heap.size + 1 + 1, 1, none⟩ _)) (by simp), (HBE9.out.set0 _).set1 _, (HBL9.out.setCell (p := ⟨w.heap.size + 1 + 1, 0, none⟩) (by show w.heap.size ≤ w.heap.size + 1 + 1; omega) _).setCell (p := ⟨w.heap.size + 1 + 1, 1, none⟩) (by show w.heap.size ≤ w.heap.size + 1 + 1; omega) _, HNB9.out.block ((grown_comp (grownBy_setCell w9 ⟨w.heap.size + 1 + 1, 0, none⟩ _) (grownBy_setCell _ ⟨w.heap.size + 1 + 1, 1, none⟩ _)).block _ HNB9.out.lt (by simp; omega)), by simpa [World.setCell] using hsz9⟩
                            case measure => simp [intOf]; omega
                          · rw [decide_eq_false hlt] at HLE
                            have HP := Lib.hid (show pairU U D U' D' = U ∧ pairD U D U' D' = D from ⟨if_neg (fun h => h.2.elim hDD hlt), if_neg (fun h => h.2.elim hDD hlt)⟩)
                            clear hlt
                            go_wp2_with fail
                            refine HLE.out.mono ?_
                            rintro e w9 ⟨rfl, hb9⟩
                            have HBE9 := Lib.hid (HBE.out.block (hb9.block _ HBE.out.lt))
                            have HRE9 := Lib.hid (HRE.out.block (hb9.block _ HRE.out.lt))
                            have HNB9 := Lib.hid (HNB.out.block (hb9.block _ HNB.out.lt))
                            have HBL9 := Lib.hid (HBL.out.trans (hb9.mono HBL.out.size))
                            have hsz9 : w.heap.size + 3 ≤ w9.heap.size := Nat.le_trans hsz8 hb9.size
                            clear t0 tz0 t1 tz1 b0 bz0 b1 bz1 hb9
                            go_wp2_with fail
                            go_roundw
                            case rel => exact ⟨k + 1, U, D, by go_num, by omega, by rw [HP.out.1, HP.out.2] at HJN; exact HJN.out, HRE9.out, HBE9.out, HBL9.out, HNB9.out, hsz9⟩
                            case measure => simp [intOf]; omega
                · have HNO : Hid (g.f k ≠ v ∨ (g.t k ≠ s ∧ (g.t k ∈ X ∨ ¬ s < g.t k))) := Lib.hid (by
                    obtain ⟨j, h1, h2, h3⟩ := HFQ.out.1 rfl
                    refine .inr ⟨fun e => ?_, .inl (List.mem_of_getElem? h3)⟩
                    rw [e] at h3
                    have h4 := HHD.out
                    have h6 := (List.getElem?_inj (i := 0) (j := j) (by have := HL.out; omega) HPO.out.nodup).1 (by rw [h3, h4])
                    omega)
                  go_wp2_with fail
                  go_roundw
                  case rel => exact ⟨k + 1, U, D, by go_num, by omega, opt_none2 HOPT.out (way_none HNO.out) (fun T C => ways_succ T C), HRE.out, HBE.out, HBL.out, HNB.out, hsz⟩
                  case measure => simp [intOf]; omega
        · have hfI : (((g.f k : Nat) : Int) != (v : Int)) = true := by simp; omega
          have HNO := Lib.hid (show g.f k ≠ v ∨ (g.t k ≠ s ∧ (g.t k ∈ X ∨ ¬ s < g.t k)) from .inl hfv)
          clear hfv
          go_wp2_with fail
          go_quiet (fail)
          go_wp2_with fail
          go_roundw
          case rel => exact ⟨k + 1, U, D, by go_num, by omega, opt_none2 HOPT.out (way_none HNO.out) (fun T C => ways_succ T C), HRE.out.block rfl, HBE.out.block rfl, below_drewN HBL.out _, HNB.out.drewN _, hsz⟩
          case measure => simp [intOf]; omega
      · obtain rfl : k = lW := by omega
        have hkI : ¬ (k : Int) < (k : Int) := by omega
        have HOE := Lib.hid (show IsOpt U D (g.On s (fun v => s < v) X v T0 C0) by
          rcases HOPT.out with ⟨e1, e2, h⟩ | h
          · exact .inl ⟨e1, e2, fun T C hh => h T C ((HE.out T C).1 hh)⟩
          · exact .inr (gr_congr h HE.out))
        obtain ⟨⟨b0, bz0⟩, b1, bz1⟩ := HBE.out
        obtain ⟨⟨r0, z0⟩, r1, z1⟩ := HRE.out
        have v0 := ((HRE.out.set0 (.int .i64 U)).set1 (.int .i64 D)).1.1
        have v1 := ((HRE.out.set0 (.int .i64 U)).set1 (.int .i64 D)).2.1
        have HVV := Lib.hid (And.intro v0 v1)
        clear v0 v1
        go_wp2_with fail
        obtain ⟨v0, v1⟩ := HVV.out
        refine bodyPost_ret (v := .agg #[.int .i64 U, .int .i64 D]) (by simp [results, Try.results63, go_sem, v0, v1]) rfl ⟨U, D, rfl, HOE.out, (HBL.out.setCell (p := ⟨w.heap.size + 1, 0, none⟩) (Nat.le_succ _) _).setCell (p := ⟨w.heap.size + 1, 1, none⟩) (Nat.le_succ _) _⟩
end Go.Proofs.Ytkebdelfklmigad
