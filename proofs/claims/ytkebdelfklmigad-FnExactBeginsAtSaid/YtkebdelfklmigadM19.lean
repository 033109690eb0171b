import Derived.Test.YtkebdelfklmigadRows
import Derived.WalkKit
import Derived.LoopTactic
import Derived.Outline
import Derived.WalkSpells
import Derived.WalkLawsBesides
import Derived.ProofKit
import Derived.Lib.Hide
import Derived.IntWalk
import Derived.Deep.QuietTactic
import Derived.BigQuiet
import Derived.Deep.LoopGhost
import Derived.StillTailTactics
import Derived.Test.YtkebdelfklmigadM0
import Derived.Test.YtkebdelfklmigadM2
import Derived.Test.YtkebdelfklmigadM8
import Derived.Test.YtkebdelfklmigadM1
import Derived.Test.YtkebdelfklmigadM4
import Derived.Test.YtkebdelfklmigadM16
import Derived.Test.YtkebdelfklmigadM18
import Derived.Test.YtkebdelfklmigadM15
import Derived.Test.YtkebdelfklmigadM5
import Derived.Test.YtkebdelfklmigadM12
namespace Go.Proofs.Ytkebdelfklmigad
open Go.RowKit Go.WideShapes

theorem OwnRowsV.keep0 {w w' : World} {B k : Nat} {v : Value} {rows : List (List Int)} (h : OwnRowsV w B v k rows) (hg : Below w.heap.size w w') : OwnRowsV w' B v k rows := by
  obtain ⟨us, h1, h2, h3⟩ := h
  have g0 : w.grownBy w' none := ⟨hg.os, hg.tape, hg.output, hg.size, fun b hb _ => hg.block b hb⟩
  exact ⟨us, h1.kept g0 (by cases v.ownBlock <;> simp), h2, fun q u hq => by
    obtain ⟨a, l, c, r, e1, e2, e3, e4, e5⟩ := h3 q u hq
    exact ⟨a, l, c, r, e1, e2, e3, e4, e5.kept g0 (by cases u.ownBlock <;> simp)⟩⟩
/-- append of a row of the call's own to rows of the call's own -/
theorem wpAppOwn {ops : Array Oper} {rest : List Oper} {o : Oper} {a : Act} {Q : Exit → Act → World → Prop} {wo : World} (hgd : o.guard = none) (s x : Operand)
    (ho : o.op = .call { callee := .builtin .append, args := #[s, x], argTypes := #[24, 24] })
    (base k cp : Nat) (ax : Option Addr) (rows : List (List Int)) (ar : Option Addr) (l c : Nat) (r : List Int) (hs : a.eval s = .slice ax k cp)
    (hown : OwnRowsV wo base (.slice ax k cp) k rows) (hu : wo.ownsRow base 3 1 (.slice ar l c) l (r.map (.int .i64))) (hlc : l ≤ c) (hl2 : l ≤ 1048576) (hx : a.eval x = .slice (some ⟨wo.heap.size, 0, none⟩) 1 1)
    (hbase : base ≤ wo.heap.size) (hk : k ≤ 1048576)
    (h : ∀ (a6 : Option Addr) (c6 : Nat) (w' : World), OwnRowsV w' base (.slice a6 (k + 1) c6) (k + 1) (rows ++ [r]) → k + 1 ≤ c6 → (∀ B w, B ≤ base → Below B w wo → Below B w w') →
      wpList Try.prog ops Q rest (a.put o.dst (.slice a6 (k + 1) c6)) w') :
    wpList Try.prog ops Q (o :: rest) a (wo.alloc (.cells #[.slice ar l c] 23)) := by
  obtain ⟨i1, hj, hy0, hy1, hy2⟩ := info_parts Try.infoInts
  obtain ⟨us, hv, hlr, hus⟩ := hown
  have hone := one_new wo (.slice ar l c) 23
  refine wpList_append_own _ hgd s x 24 ho base 23 i1 (.slice none 0 0) 1 24 Try.underlying24 hj hy0 hy1 hy2 rfl (by decide) _ k us hs (hv.alloc _) ⟨wo.heap.size, 0, none⟩ 1 1 [.slice ar l c] hx rfl hone (fun u hu => by rw [List.mem_singleton.1 hu]; rfl) (by unfold maxLen; omega) (by omega) (by simp; omega) ?_
  intro v' w6 hown6 hgrow _
  obtain ⟨a6, c6, rfl, hc⟩ := own_slice hown6
  refine h a6 c6 w6 (OwnRowsV.push (a := ar) (c := c) (l := l) (hv.alloc _) hlr (fun q u hq => ?_) (hu.alloc _) hlc hl2 hown6 hgrow) hc (fun B w hB hb => ?_)
  · obtain ⟨a', l', c', r', e1, e2, e3, e4, e5⟩ := hus q u hq
    exact ⟨a', l', c', r', e1, e2, e3, e4, e5.alloc _⟩
  · refine (hb.alloc (by omega) _).grown hgrow (by simp; omega) (fun g hg => ?_)
    exact Nat.le_trans hB (own_block hv g hg)
def RowsP (w : World) (rows : List (List Int)) (e : Ending) (w' : World) : Prop := ∃ (a : Option Addr) (len cap : Nat), e = .returned (.slice a len cap) ∧ RowsAt w' (fun b => w.heap.size ≤ b ∧ b < w'.heap.size) a len rows ∧ len ≤ cap ∧ Below w.heap.size w w'
set_option maxRecDepth 100000 in
set_option maxHeartbeats 8000000 in
theorem begins_any (d : NV) (ts : List Int) (rows : List (List Int)) (R : Nat) (w : World) (h : NetAt w (· < w.heap.size) d ts rows) (hal : aliveB ts rows = true) (hR : R ≤ 40) :
    Calls Try.prog 38 #[.agg #[.slice d.aT d.lT d.cT, .slice d.aW d.lW d.cW], .int .i64 R] w (RowsP w (bRows ts rows R)) := by
  obtain ⟨hv, hnd⟩ := alive_get hal
  have hok := gr_ok hv
  obtain ⟨rk, hrk⟩ := rank_of hok hnd
  have HA := Lib.hid (fun w' (hb : Below w.heap.size w w') => net_lift h hb)
  obtain ⟨aT, lT, cT, aW, lW, cW⟩ := d
  have hTL : ts.length = lT := h.t.lenEq
  have hWL : rows.length = lW := h.r.lenEq
  clear h
  have HG := Lib.hid (fun (w' : World) (hb : Below w.heap.size w w') (q : Nat) (hq : q < lW) => way_at (HA.out w' hb).r hv hq)
  have HTM := Lib.hid (fun (w' : World) (hb : Below w.heap.size w w') (v : Nat) (hv : v < lT) => (show ∃ b off, aT = some ⟨b, off, none⟩ ∧ w'.cell? ⟨b, off + v, none⟩ = some (.int .i64 ((grOf ts rows).tm v)) by
    obtain ⟨b, off, x, e, hx, hc⟩ := (HA.out w' hb).t.get hv
    exact ⟨b, off, e, by rw [hc]; show _ = some (Value.int .i64 (ts.getD v 0)); rw [getD_of hx]⟩))
  have hn : (grOf ts rows).n = lT := hTL
  have hm : (grOf ts rows).m = lW := hWL
  have HSN := Lib.hid (fun r => bRows_snoc ts rows r)
  have HBG := Lib.hid (fun (r q : Nat) (h : q < r) => @bRows_get ts rows r q h)
  rw [hTL] at HSN HBG
  have HBL := Lib.hid (fun r => bRows_len ts rows r)
  obtain ⟨g, hg⟩ : ∃ g, grOf ts rows = g := ⟨_, rfl⟩
  rw [hg] at hok hrk HG HTM hn hm HSN HBG
  obtain ⟨BR, hBR⟩ : ∃ BR, bRows ts rows = BR := ⟨_, rfl⟩
  rw [hBR] at HSN HBG HBL ⊢
  have HB00 : Hid (BR 0 = []) := Lib.hid (by rw [← hBR]; rfl)
  have h4 := hok.n4
  have h7 := hok.m7
  rw [hn] at h4
  rw [hm] at h7
  have HOK := Lib.hid hok
  have HRK := Lib.hid hrk
  have HN := Lib.hid hn
  have HM := Lib.hid hm
  have HTI := Lib.hid hok.times
  have HWY := Lib.hid (fun k (hk : k < lW) => (show g.f k < lT ∧ g.t k < lT ∧ g.c k ≤ 3 by have := hok.ways k (by rw [hm]; exact hk); rw [hn] at this; exact this))
  have HBD := Lib.hid (fun r v (hr : r ≤ 40) (hv : v < lT) => b_bd2 hok hrk (r := r) (v := v) hr (by rw [hn]; exact hv))
  have hmk := fun w => run_make_row' (P := Try.prog) 23 3 (.int .i64 0) 8 Try.underlying23 Try.infoInt8 rfl .i64 .i64 lT (by omega) (by omega) w
  clear hal hv hnd hok hrk hTL hWL hg hBR hn hm
  have hb0 := (Below.refl w.heap.size w).alloc (Nat.le_refl _) (.cells #[.slice aT lT cT, .slice aW lW cW] 26)
  have hn0 := netB_new w aT lT cT aW lW cW 26
  have hz0 : (w.alloc (.cells #[.slice aT lT cT, .slice aW lW cW] 26)).heap.size = w.heap.size + 1 := by simp
  obtain ⟨w1, hw1⟩ : ∃ w1, (w.alloc (.cells #[.slice aT lT cT, .slice aW lW cW] 26)) = w1 := ⟨_, rfl⟩
  rw [hw1] at hb0 hn0 hz0
  have HW1 := Lib.hid hw1
  have ho2 : OwnRowsV (w1.alloc (.cells #[] 23)) (w.heap.size + 1) (.slice (some ⟨w.heap.size + 1, 0, none⟩) 0 0) 0 (BR 0) := by
    rw [HB00.out, ← hz0]
    exact ⟨[], World.ownsRow_made (e := 23) (size := 1) w1 #[] 0 (Nat.le_refl _) (Nat.zero_le _) rfl, rfl, fun q u hq => by cases hq⟩
  have hb2 := hb0.alloc (by omega) (.cells #[] 23)
  have hn2 : NetB (w1.alloc (.cells #[] 23)) w.heap.size ⟨aT, lT, cT, aW, lW, cW⟩ := hn0.block (Below.heap_alloc _ _ _ (by omega))
  have hz2 : w.heap.size + 1 ≤ (w1.alloc (.cells #[] 23)).heap.size := by simp; omega
  obtain ⟨w2, hw2⟩ : ∃ w2, (w1.alloc (.cells #[] 23)) = w2 := ⟨_, rfl⟩
  rw [hw2] at ho2 hb2 hn2 hz2
  have HW2 := Lib.hid hw2
  have HZ0 := Lib.hid hz0
  have HO2 := Lib.hid ho2
  have HB2 := Lib.hid hb2
  have HN2 := Lib.hid hn2
  have HZ2 := Lib.hid hz2
  clear hw1 hw2 hb0 hn0 hz0 ho2 hb2 hn2 hz2
  go_enter Try.func38, Try.ntmps38
  go_wp2_with fail
  rw [HW1.out, HW2.out]
  go_loopw [5, 6] (fun s5 s6 wr => ∃ (r cp : Nat) (ax : Option Addr), s6 = .int .i64 r ∧ s5 = .slice ax r cp ∧ r ≤ R ∧ r ≤ cp ∧ OwnRowsV wr (w.heap.size + 1) (.slice ax r cp) r (BR r) ∧ NetB wr w.heap.size ⟨aT, lT, cT, aW, lW, cW⟩ ∧ Below w.heap.size w wr ∧ w.heap.size + 1 ≤ wr.heap.size) (fun _ s6 _ => R - (intOf s6).toNat)
  case atStart => exact ⟨0, 0, _, rfl, rfl, by omega, by omega, HO2.out, HN2.out, HB2.out, HZ2.out⟩
  case round =>
    clear HO2 HN2 HB2 HZ2
    obtain ⟨r, cp, ax, rfl, rfl, hr, hrc, hown, hnb, hb, hsz⟩ := hrel
    obtain ⟨ws, rfl⟩ : ∃ ws : World, ws = wr := ⟨_, rfl⟩
    have HOWN := Lib.hid hown
    have HNB := Lib.hid hnb
    have HB := Lib.hid hb
    clear hown hnb hb
    by_cases hrR : r < R
    · have hrI : (r : Int) < (R : Int) := by omega
      obtain ⟨n0, n1⟩ := HNB.out
      dsimp only at n0 n1
      go_wp2_with fail
      clear hmk n0 n1
      have HF0 := Lib.hid (OwnF.start ws lT (by omega))
      have HL0 : Hid (g.low r (fun _ => 0)) := Lib.hid (fun v hv => ⟨Int.le_refl _, b_nn g r v⟩)
      have HNBX := Lib.hid (fun w' (h : Below ws.heap.size ws w') => And.intro (HNB.out.block (h.block _ HNB.out.lt)) (HB.out.trans (h.mono HB.out.size)))
      go_loopg [8] (mu (fun v => g.b r v - 0) g.n + 1) (fun gh s8 wb => ∃ (ag : Bool) (X : Nat → Int), s8 = .bool ag ∧ gh = (if ag = true then mu (fun v => g.b r v - X v) g.n + 1 else 0) ∧ OwnF ws wb lT X ∧ g.low r X ∧ (ag = false → ∀ k, k < g.m → g.c k ≤ r → g.val r X k ≤ X (g.t k)))
      case atStart => exact ⟨true, fun _ => 0, rfl, rfl, HF0.out, HL0.out, fun e => by cases e⟩
      case round =>
        clear HF0 HL0
        obtain ⟨ag, X, rfl, hgk, hof, hlow, hdone⟩ := hrel
        obtain ⟨wb, rfl⟩ : ∃ wb : World, wb = wr := ⟨_, rfl⟩
        have HGK := Lib.hid hgk
        have HOFB := Lib.hid hof
        have HLOWB := Lib.hid hlow
        have HDONE := Lib.hid hdone
        clear hgk hof hlow hdone
        cases ag
        · -- nothing rises any more
          have hX := row_done HOK.out HRK.out (show r ≤ 40 by omega) HLOWB.out (HDONE.out rfl)
          have HTAB : Hid (BR r ++ [tab X lT] = BR (r + 1)) := Lib.hid (by rw [HSN.out r, tab_congr (fun v hv => hX v (by rw [HN.out]; exact hv))])
          have HOB := Lib.hid (HOWN.out.keep0 HOFB.out.below)
          have HU : Hid (wb.ownsRow (w.heap.size + 1) 3 1 (.slice (some ⟨ws.heap.size, 0, none⟩) lT lT) lT ((tab X lT).map (.int .i64))) := Lib.hid (own_base HOFB.out.own hsz)
          have HBB := Lib.hid (HNBX.out wb HOFB.out.below)
          have hsb : w.heap.size + 1 ≤ wb.heap.size := Nat.le_trans hsz HOFB.out.below.size
          clear hX
          go_wp2_with (at_builtin; refine wpAppOwn (wo := wb) rfl _ _ rfl (w.heap.size + 1) r cp ax (BR r) (some ⟨ws.heap.size, 0, none⟩) lT lT (tab X lT) rfl HOB.out HU.out (Nat.le_refl _) (by omega) rfl hsb (by omega) ?_)
          intro a6 c6 w6 hown6 hc6 hbel6
          rw [HTAB.out] at hown6
          have HO6 := Lib.hid hown6
          have HB6 := Lib.hid (hbel6 w.heap.size w (Nat.le_succ _) HBB.out.2)
          have HBX6 := Lib.hid (hbel6 (w.heap.size + 1) wb (Nat.le_refl _) (Below.refl _ _))
          have HN6 := Lib.hid (HBB.out.1.block (HBX6.out.block _ (Nat.lt_succ_self _)))
          have hs6 : w.heap.size + 1 ≤ w6.heap.size := Nat.le_trans hsb HBX6.out.size
          clear hown6 hbel6
          go_wp2_with fail
          go_roundw
          case rel => exact ⟨r + 1, c6, a6, by go_num, rfl, by omega, hc6, HO6.out, HN6.out, HB6.out, hs6⟩
          case measure => simp [intOf]; omega
        · go_wp2_with fail
          go_loopw [8, 9] (fun s8 s9 wc => ∃ (k : Nat) (cg : Bool) (Y : Nat → Int), s9 = .int .i64 k ∧ s8 = .bool cg ∧ k ≤ lW ∧ OwnF ws wc lT Y ∧ g.low r Y ∧ mu (fun v => g.b r v - Y v) g.n ≤ mu (fun v => g.b r v - X v) g.n ∧ (cg = true → mu (fun v => g.b r v - Y v) g.n < mu (fun v => g.b r v - X v) g.n) ∧ (cg = false → ∀ q, q < k → g.c q ≤ r → g.val r Y q ≤ Y (g.t q))) (fun _ s9 _ => lW - (intOf s9).toNat)
          case atStart => exact ⟨0, false, X, rfl, rfl, by omega, HOFB.out, HLOWB.out, Nat.le_refl _, (by intro e; cases e), (fun _ q hq => by omega)⟩
          case round =>
            clear HOFB HLOWB
            obtain ⟨k, cg, Y, rfl, rfl, hk, hof, hlow, hmu, hmu2, hall⟩ := hrel
            obtain ⟨wi, rfl⟩ : ∃ wi : World, wi = wr := ⟨_, rfl⟩
            have HOF := Lib.hid hof
            have HLOW := Lib.hid hlow
            have HMU := Lib.hid hmu
            have HMUT := Lib.hid hmu2
            have HALL := Lib.hid hall
            clear hof hlow hmu hmu2 hall
            obtain ⟨hnb, hbw⟩ := HNBX.out wi HOF.out.below
            obtain ⟨n0, n1⟩ := hnb
            dsimp only at n0 n1
            by_cases hkl : k < lW
            · have hkI : (k : Int) < (lW : Int) := by omega
              obtain ⟨b, off, b', off', c, rfl, dr, d0, d1, d2⟩ := HG.out wi hbw k hkl
              obtain ⟨hf, ht, hc⟩ := HWY.out k hkl
              obtain ⟨bt, ot, rfl, dt⟩ := HTM.out wi hbw (g.f k) hf
              have hr40 : r ≤ 40 := by omega
              have hti := HTI.out (g.f k)
              have hfI : (((g.f k : Nat) : Int)) < (lT : Int) := by omega
              have htI : (((g.t k : Nat) : Int)) < (lT : Int) := by omega
              have hk7 : k < 7 := by omega
              by_cases hcr : g.c k ≤ r
              · have hneg : ¬ (r : Int) - ((g.c k : Nat) : Int) < 0 := by omega
                have hlf := HLOW.out (g.f k) (by rw [HN.out]; exact hf)
                have hlt' := HLOW.out (g.t k) (by rw [HN.out]; exact ht)
                have hbf := HBD.out r (g.f k) hr40 hf
                have hbt := HBD.out r (g.t k) hr40 ht
                obtain ⟨cf, _⟩ := HOF.out.cell hf
                obtain ⟨ct, ft⟩ := HOF.out.cell ht
                by_cases hc0 : g.c k = 0
                · have HFX := Lib.hid (show ∀ w' : World, w'.heap = wi.heap → w'.cell? ⟨w.heap.size, 0, none⟩ = some (.slice (some ⟨bt, ot, none⟩) lT cT) ∧ w'.cell? ⟨b', off', none⟩ = some (.int .i64 (g.f k)) ∧ w'.cell? ⟨b', off' + 1, none⟩ = some (.int .i64 (g.t k)) ∧ w'.cell? ⟨bt, ot + g.f k, none⟩ = some (.int .i64 (g.tm (g.f k))) ∧ w'.cell? ⟨ws.heap.size, g.t k, none⟩ = some (.int .i64 (Y (g.t k))) ∧ w'.frozen? ⟨ws.heap.size, g.t k, none⟩ = false from fun w' e => by have e2 : ∀ p, w'.cell? p = wi.cell? p := fun p => World.cell?_of_block (w := wi) (by rw [e]); have e3 : ∀ p, w'.frozen? p = wi.frozen? p := fun p => World.frozen?_of_block (w := wi) (by rw [e]); rw [e2, e2, e2, e2, e2, e3]; exact ⟨n0, d0, d1, dt, ct, ft⟩)
                  have HVAL : Hid (g.val r Y k = Y (g.f k) + g.tm (g.f k)) := Lib.hid (by unfold Gr.val; rw [if_pos hc0])
                  have hfr : ¬ (r : Int) - ((g.c k : Nat) : Int) < (r : Int) := by omega
                  by_cases hlt : Y (g.t k) < Y (g.f k) + g.tm (g.f k)
                  · have HPUT := Lib.hid (HOF.out.put (g.t k) (Y (g.f k) + g.tm (g.f k)))
                    have HLW := Lib.hid (low_put HOK.out HRK.out hr40 (by rw [HM.out]; exact hkl) hcr HLOW.out)
                    have HMU2 := Lib.hid (mu_put HOK.out HRK.out hr40 (by rw [HM.out]; exact hkl) hcr HLOW.out (by rw [HVAL.out]; exact hlt))
                    rw [HVAL.out] at HLW HMU2
                    go_wp2_with fail
                    go_quiet (fail)
                    obtain ⟨wz, hwz⟩ : ∃ x, wi.drewN nq = x := ⟨_, rfl⟩
                    rw [hwz]
                    have HEwz : Hid (wz.heap = wi.heap) := Lib.hid (by rw [← hwz]; rfl)
                    have HDwz : Hid (Drew wi wz) := Lib.hid (by rw [← hwz]; exact ⟨nq, rfl⟩)
                    clear hwz
                    obtain ⟨g0, g1, g2, g3, g4, g5⟩ := HFX.out wz HEwz.out
                    clear n0 d0 d1 dt ct ft cf
                    go_wp2_with fail
                    go_still_tail 14, (by kernel_rfl)
                    go_wp2_with fail
                    go_roundw
                    case rel => exact ⟨k + 1, true, fun v => if v = g.t k then Y (g.f k) + g.tm (g.f k) else Y v, by go_num, rfl, by omega, by obtain ⟨qq, rfl⟩ := HDwz.out; exact ((HOF.out.drew qq).put (g.t k) (Y (g.f k) + g.tm (g.f k))).drew1, HLW.out, Nat.le_of_lt (Nat.lt_of_lt_of_le HMU2.out HMU.out), fun _ => Nat.lt_of_lt_of_le HMU2.out HMU.out, by intro e; cases e⟩
                    case measure => simp [intOf]; omega
                  · go_wp2_with fail
                    go_quiet (fail)
                    obtain ⟨wz, hwz⟩ : ∃ x, wi.drewN nq = x := ⟨_, rfl⟩
                    rw [hwz]
                    have HEwz : Hid (wz.heap = wi.heap) := Lib.hid (by rw [← hwz]; rfl)
                    have HDwz : Hid (Drew wi wz) := Lib.hid (by rw [← hwz]; exact ⟨nq, rfl⟩)
                    clear hwz
                    obtain ⟨g0, g1, g2, g3, g4, g5⟩ := HFX.out wz HEwz.out
                    go_wp2_with fail
                    go_roundw
                    case rel => exact ⟨k + 1, cg, Y, by go_num, rfl, by omega, by obtain ⟨qq, rfl⟩ := HDwz.out; exact HOF.out.drew qq, HLOW.out, HMU.out, HMUT.out, fun e q hq hcq => by
                      rcases Nat.lt_or_ge q k with h' | h'
                      · exact HALL.out e q h' hcq
                      · have : q = k := by omega
                        subst this; rw [HVAL.out]; omega⟩
                    case measure => simp [intOf]; omega
                · have HRO := Lib.hid (HOWN.out.rows (by omega))
                  have HFX := Lib.hid (show ∀ w' : World, w'.heap = wi.heap → w'.cell? ⟨w.heap.size, 0, none⟩ = some (.slice (some ⟨bt, ot, none⟩) lT cT) ∧ w'.cell? ⟨b', off', none⟩ = some (.int .i64 (g.f k)) ∧ w'.cell? ⟨b', off' + 1, none⟩ = some (.int .i64 (g.t k)) ∧ w'.cell? ⟨bt, ot + g.f k, none⟩ = some (.int .i64 (g.tm (g.f k))) ∧ w'.cell? ⟨ws.heap.size, g.t k, none⟩ = some (.int .i64 (Y (g.t k))) ∧ w'.frozen? ⟨ws.heap.size, g.t k, none⟩ = false from fun w' e => by have e2 : ∀ p, w'.cell? p = wi.cell? p := fun p => World.cell?_of_block (w := wi) (by rw [e]); have e3 : ∀ p, w'.frozen? p = wi.frozen? p := fun p => World.frozen?_of_block (w := wi) (by rw [e]); rw [e2, e2, e2, e2, e2, e3]; exact ⟨n0, d0, d1, dt, ct, ft⟩)
                  have HVAL : Hid (g.val r Y k = g.b (r - g.c k) (g.f k) + g.tm (g.f k)) := Lib.hid (by unfold Gr.val; rw [if_neg hc0])
                  have hfr : (r : Int) - ((g.c k : Nat) : Int) < (r : Int) := by omega
                  obtain ⟨q, hq⟩ : ∃ q, r - g.c k = q := ⟨_, rfl⟩
                  have hqI : (r : Int) - ((g.c k : Nat) : Int) = (q : Int) := by omega
                  have hqr : q < r := by omega
                  rw [hq] at HVAL
                  have hqb := HBD.out q (g.f k) (by omega) hf
                  have hqn := b_nn g q (g.f k)
                  obtain ⟨bo, oo, row, ao, lo, co, rfl, hrow, hco, hloc, hri⟩ := HRO.out.get hqr
                  rw [HBG.out r q hqr] at hrow
                  injection hrow with hrow
                  subst hrow
                  have hlo : lo = lT := by rw [← hri.lenEq, tab_length]
                  subst hlo
                  obtain ⟨b5, o5, x5, rfl, h5, hc5⟩ := hri.get hf
                  rw [tab_at _ hf] at h5
                  injection h5 with h5
                  subst h5
                  have hmo : bo < ws.heap.size := (HRO.out.mem (by omega)).2
                  have hm5 : b5 < ws.heap.size := (hri.mem (by omega)).2
                  have HCO := Lib.hid (fun w' (h : Below ws.heap.size ws w') => And.intro ((h.cell (p := ⟨bo, oo + q, none⟩) hmo).trans hco) ((h.cell (p := ⟨b5, o5 + g.f k, none⟩) hm5).trans hc5))
                  obtain ⟨y0, y1⟩ := HCO.out wi HOF.out.below
                  clear hco hc5 hri hq
                  by_cases hlt : Y (g.t k) < g.b q (g.f k) + g.tm (g.f k)
                  · have HPUT := Lib.hid (HOF.out.put (g.t k) (g.b q (g.f k) + g.tm (g.f k)))
                    have HLW := Lib.hid (low_put HOK.out HRK.out hr40 (by rw [HM.out]; exact hkl) hcr HLOW.out)
                    have HMU2 := Lib.hid (mu_put HOK.out HRK.out hr40 (by rw [HM.out]; exact hkl) hcr HLOW.out (by rw [HVAL.out]; exact hlt))
                    rw [HVAL.out] at HLW HMU2
                    go_wp2_with fail
                    go_quiet (fail)
                    obtain ⟨wq, hwq⟩ : ∃ x, wi.drewN nq = x := ⟨_, rfl⟩
                    rw [hwq]
                    have HEwq : Hid (wq.heap = wi.heap) := Lib.hid (by rw [← hwq]; rfl)
                    have HDwq : Hid (Drew wi wq) := Lib.hid (by rw [← hwq]; exact ⟨nq, rfl⟩)
                    clear hwq
                    obtain ⟨g0, g1, g2, g3, g4, g5⟩ := HFX.out wq HEwq.out
                    clear n0 d0 d1 dt ct ft cf
                    go_wp2_with fail
                    go_quiet (fail)
                    obtain ⟨wz, hwz⟩ : ∃ x, wq.drewN nq = x := ⟨_, rfl⟩
                    rw [hwz]
                    have HEwz : Hid (wz.heap = wi.heap) := Lib.hid (by rw [← hwz]; exact HEwq.out)
                    have HDwz : Hid (Drew wi wz) := Lib.hid (by rw [← hwz]; exact HDwq.out.drew nq)
                    clear hwz
                    obtain ⟨g0, g1, g2, g3, g4, g5⟩ := HFX.out wz HEwz.out
                    go_wp2_with fail
                    go_still_tail 14, (by kernel_rfl)
                    go_wp2_with fail
                    go_roundw
                    case rel => exact ⟨k + 1, true, fun v => if v = g.t k then g.b q (g.f k) + g.tm (g.f k) else Y v, by go_num, rfl, by omega, by obtain ⟨qq, rfl⟩ := HDwz.out; exact ((HOF.out.drew qq).put (g.t k) (g.b q (g.f k) + g.tm (g.f k))).drew1, HLW.out, Nat.le_of_lt (Nat.lt_of_lt_of_le HMU2.out HMU.out), fun _ => Nat.lt_of_lt_of_le HMU2.out HMU.out, by intro e; cases e⟩
                    case measure => simp [intOf]; omega
                  · go_wp2_with fail
                    go_quiet (fail)
                    obtain ⟨wq, hwq⟩ : ∃ x, wi.drewN nq = x := ⟨_, rfl⟩
                    rw [hwq]
                    have HEwq : Hid (wq.heap = wi.heap) := Lib.hid (by rw [← hwq]; rfl)
                    have HDwq : Hid (Drew wi wq) := Lib.hid (by rw [← hwq]; exact ⟨nq, rfl⟩)
                    clear hwq
                    obtain ⟨g0, g1, g2, g3, g4, g5⟩ := HFX.out wq HEwq.out
                    clear n0 d0 d1 dt ct ft cf
                    go_wp2_with fail
                    go_quiet (fail)
                    obtain ⟨wz, hwz⟩ : ∃ x, wq.drewN nq = x := ⟨_, rfl⟩
                    rw [hwz]
                    have HEwz : Hid (wz.heap = wi.heap) := Lib.hid (by rw [← hwz]; exact HEwq.out)
                    have HDwz : Hid (Drew wi wz) := Lib.hid (by rw [← hwz]; exact HDwq.out.drew nq)
                    clear hwz
                    obtain ⟨g0, g1, g2, g3, g4, g5⟩ := HFX.out wz HEwz.out
                    go_wp2_with fail
                    go_roundw
                    case rel => exact ⟨k + 1, cg, Y, by go_num, rfl, by omega, by obtain ⟨qq, rfl⟩ := HDwz.out; exact HOF.out.drew qq, HLOW.out, HMU.out, HMUT.out, fun e q hq hcq => by
                      rcases Nat.lt_or_ge q k with h' | h'
                      · exact HALL.out e q h' hcq
                      · have : q = k := by omega
                        subst this; rw [HVAL.out]; omega⟩
                    case measure => simp [intOf]; omega
              · have hneg : (r : Int) - ((g.c k : Nat) : Int) < 0 := by omega
                go_wp2_with fail
                go_roundw
                case rel => exact ⟨k + 1, cg, Y, by go_num, rfl, by omega, HOF.out, HLOW.out, HMU.out, HMUT.out, fun e q hq hcq => by
                  rcases Nat.lt_or_ge q k with h' | h'
                  · exact HALL.out e q h' hcq
                  · have : q = k := by omega
                    subst this; omega⟩
                case measure => simp [intOf]; omega
            · have hke : k = lW := by omega
              subst hke
              have hkI : ¬ (k : Int) < (k : Int) := by omega
              go_wp2_with fail
              go_roundg (if cg = true then mu (fun v => g.b r v - Y v) g.n + 1 else 0)
              case measure =>
                have h9 := HGK.out
                simp only [if_true] at h9
                cases cg
                · simp; omega
                · have h8 := HMUT.out rfl; simp; omega
              case rel => exact ⟨cg, Y, rfl, rfl, HOF.out, HLOW.out, fun e q hq hcq => HALL.out e q (by rw [HM.out] at hq; exact hq) hcq⟩
    · have hre : r = R := by omega
      subst hre
      have hrI : ¬ (r : Int) < (r : Int) := by omega
      go_wp2_with fail
      go_ret
      exact ⟨ax, r, cp, rfl, (HOWN.out.rows (by omega)).to (fun b hb => ⟨⟨by have := hb.1; omega, hb.2⟩, rfl⟩), hrc, HB.out⟩
end Go.Proofs.Ytkebdelfklmigad
namespace Go.Proofs.Ytkebdelfklmigad
open Go.RowKit Go.WideShapes

theorem rowsP_nil {w w' : World} (h : Below w.heap.size w w') : RowsP w [] (.returned (.slice none 0 0)) w' := ⟨none, 0, 0, rfl, ⟨rfl, Nat.zero_le _, fun h => absurd h (by omega)⟩, Nat.le_refl _, h⟩
set_option maxRecDepth 100000 in
set_option maxHeartbeats 4000000 in
theorem beginsAt_spec (d : NV) (ts : List Int) (rows : List (List Int)) (r : Int) (w : World) (h : NetAt w (· < w.heap.size) d ts rows) :
    Calls Try.prog 10 #[.agg #[.slice d.aT d.lT d.cT, .slice d.aW d.lW d.cW], .int .i64 r] w (RowsP w (begRes ts rows r)) := by
  have HV := Lib.hid (fun w' (hb : Below w.heap.size w w') => validNet_any d ts rows w' (net_lift h hb))
  have HD := Lib.hid (fun w' (hb : Below w.heap.size w w') hv => dead_any d ts rows w' (net_lift h hb) hv)
  have HP := Lib.hid (fun w' (hb : Below w.heap.size w w') hal R hR => begins_any d ts rows R w' (net_lift h hb) hal hR)
  obtain ⟨aT, lT, cT, aW, lW, cW⟩ := d
  clear h
  dsimp only at HV HD HP
  have HAL : Hid (aliveB ts rows = (tokM ts rows && !(grOf ts rows).deadB)) := Lib.hid rfl
  have hb1 := (Below.refl w.heap.size w).alloc (Nat.le_refl _) (.cells #[.slice aT lT cT, .slice aW lW cW] 26)
  have hn1 := netB_new w aT lT cT aW lW cW 26
  obtain ⟨w1, hw1⟩ : ∃ w1, (w.alloc (.cells #[.slice aT lT cT, .slice aW lW cW] 26)) = w1 := ⟨_, rfl⟩
  rw [hw1] at hb1 hn1
  have HW1 := Lib.hid hw1
  have HB1 := Lib.hid hb1
  have HN1 := Lib.hid hn1
  clear hw1 hb1 hn1
  cases hv : tokM ts rows
  · rw [hv] at HV HAL
    rw [begRes_no (.inl HAL.out)]
    clear hv HD HP
    go_enter Try.func10, Try.ntmps10
    obtain ⟨n0, n1⟩ := HN1.out
    dsimp only at n0 n1
    go_wp2_with fail
    rw [HW1.out]
    refine (HV.out w1 HB1.out).mono ?_
    rintro e w3 ⟨rfl, hb3⟩
    have HB3 := Lib.hid (HB1.out.trans (hb3.mono HB1.out.size))
    clear hb3
    go_wp2_with fail
    go_ret
    exact rowsP_nil HB3.out
  · rw [hv] at HV HAL
    have HD2 := Lib.hid (fun w' hb => HD.out w' hb hv)
    clear hv HD
    cases hdd : (grOf ts rows).deadB
    · rw [hdd] at HD2 HAL
      cases hr : inB 0 40 r
      · rw [begRes_no (.inr hr)]
        clear hdd
        go_enter Try.func10, Try.ntmps10
        obtain ⟨n0, n1⟩ := HN1.out
        dsimp only at n0 n1
        go_wp2_with fail
        rw [HW1.out]
        refine (HV.out w1 HB1.out).mono ?_
        rintro e w3 ⟨rfl, hb3⟩
        have HB3 := Lib.hid (HB1.out.trans (hb3.mono HB1.out.size))
        have HN3 := Lib.hid (HN1.out.block (hb3.block _ HN1.out.lt))
        clear hb3 n0 n1
        obtain ⟨n0, n1⟩ := HN3.out
        dsimp only at n0 n1
        go_wp2_with fail
        refine (HD2.out w3 HB3.out).mono ?_
        rintro e w4 ⟨rfl, hb4⟩
        have HB4 := Lib.hid (HB3.out.trans (hb4.mono HB3.out.size))
        clear hb4 n0 n1
        go_wp2_with fail
        refine (inR hr w4).mono ?_
        rintro e w' ⟨rfl, he⟩
        obtain rfl := he.symm
        clear hr
        go_wp2_with fail
        go_ret
        exact rowsP_nil HB4.out
      · have HI := Lib.hid (inR hr)
        have hrr := inB_of hr
        obtain ⟨R, rfl⟩ : ∃ R : Nat, r = (R : Int) := ⟨r.toNat, by omega⟩
        rw [begRes_yes HAL.out (by omega)]
        have HP2 := Lib.hid (fun w' hb => HP.out w' hb HAL.out R (by omega))
        clear hdd hr HP
        go_enter Try.func10, Try.ntmps10
        obtain ⟨n0, n1⟩ := HN1.out
        dsimp only at n0 n1
        go_wp2_with fail
        rw [HW1.out]
        refine (HV.out w1 HB1.out).mono ?_
        rintro e w3 ⟨rfl, hb3⟩
        have HB3 := Lib.hid (HB1.out.trans (hb3.mono HB1.out.size))
        have HN3 := Lib.hid (HN1.out.block (hb3.block _ HN1.out.lt))
        clear hb3 n0 n1
        obtain ⟨n0, n1⟩ := HN3.out
        dsimp only at n0 n1
        go_wp2_with fail
        refine (HD2.out w3 HB3.out).mono ?_
        rintro e w4 ⟨rfl, hb4⟩
        have HB4 := Lib.hid (HB3.out.trans (hb4.mono HB3.out.size))
        have HN4 := Lib.hid (HN3.out.block (hb4.block _ HN3.out.lt))
        clear hb4 n0 n1
        go_wp2_with fail
        refine (HI.out w4).mono ?_
        rintro e w' ⟨rfl, he⟩
        obtain rfl := he.symm
        obtain ⟨n0, n1⟩ := HN4.out
        dsimp only at n0 n1
        go_wp2_with fail
        refine (HP2.out w4 HB4.out).mono ?_
        rintro e w5 ⟨a5, l5, c5, rfl, hro, hlc, hb5⟩
        have HRO := Lib.hid hro
        have HB5 := Lib.hid (HB4.out.trans (hb5.mono HB4.out.size))
        clear hb5 hro n0 n1
        go_wp2_with fail
        go_ret
        exact ⟨a5, l5, c5, rfl, HRO.out.to (fun b hb => ⟨⟨Nat.le_trans HB4.out.size hb.1, hb.2⟩, rfl⟩), hlc, HB5.out⟩
    · rw [hdd] at HD2 HAL
      rw [begRes_no (.inl HAL.out)]
      clear hdd HP
      go_enter Try.func10, Try.ntmps10
      obtain ⟨n0, n1⟩ := HN1.out
      dsimp only at n0 n1
      go_wp2_with fail
      rw [HW1.out]
      refine (HV.out w1 HB1.out).mono ?_
      rintro e w3 ⟨rfl, hb3⟩
      have HB3 := Lib.hid (HB1.out.trans (hb3.mono HB1.out.size))
      have HN3 := Lib.hid (HN1.out.block (hb3.block _ HN1.out.lt))
      clear hb3 n0 n1
      obtain ⟨n0, n1⟩ := HN3.out
      dsimp only at n0 n1
      go_wp2_with fail
      refine (HD2.out w3 HB3.out).mono ?_
      rintro e w4 ⟨rfl, hb4⟩
      have HB4 := Lib.hid (HB3.out.trans (hb4.mono HB3.out.size))
      clear hb4 n0 n1
      go_wp2_with fail
      go_ret
      exact rowsP_nil HB4.out
end Go.Proofs.Ytkebdelfklmigad
