/- The law FnMoreTokensAreFaster returns true at every code, and the code reads behind the call as it read before. No condition. -/
import Derived.Test.YtkjmpkincaainadRows
import Derived.WalkKit
import Derived.LoopTactic
import Derived.Outline
import Derived.WalkSpells
import Derived.WalkLawsBesides
import Derived.ProofKit
import Derived.Deep.QuietTactic
import Derived.BigQuiet
import Derived.IntWalk
import Derived.Test.YtkjmpkincaainadM0
import Derived.Test.YtkjmpkincaainadM1
import Derived.Test.YtkjmpkincaainadM4
import Derived.Test.YtkjmpkincaainadM7
import Derived.Test.YtkjmpkincaainadM6
import Derived.Test.YtkjmpkincaainadM11
import Derived.Test.YtkjmpkincaainadM12
import Derived.Test.YtkjmpkincaainadM13
import Derived.Test.YtkjmpkincaainadM15
import Derived.Test.YtkjmpkincaainadM18
import Derived.Test.YtkjmpkincaainadM21
import Derived.Test.YtkjmpkincaainadM22
import Derived.Test.YtkjmpkincaainadM17
import Derived.Test.YtkjmpkincaainadM5
import Derived.Deep.RegionHeld3
namespace Go.Proofs.Ytkjmpkincaainad
open Go.RowKit Go.WideShapes

theorem OwnRowsV.low8 {w w' : World} {B k R : Nat} {v : Value} {rows : List (List Int)} (h : OwnRowsV w B v k rows) (hg : w.grownBy w' (some R)) (hR : R < B) : OwnRowsV w' B v k rows := by
  obtain ⟨us, h1, h2, h3⟩ := h
  exact ⟨us, h1.kept hg (ne_low h1 hR), h2, fun q u hq => by
    obtain ⟨a, l, c, r, e1, e2, e3, e4, e5⟩ := h3 q u hq
    exact ⟨a, l, c, r, e1, e2, e3, e4, e5.kept hg (ne_low e5 hR)⟩⟩
theorem begW_ints {w : World} {G : Nat} {Br : Nat → Nat} {n R : Nat} {X : Nat → Nat → Int} (h : BegW w G Br n R X) {q : Nat} (hq : q < R) (hn : n ≤ 1000) : IntsAt w (fun _ => True) (some ⟨Br q, 0, none⟩) n (tab (X q) n) := by
  refine ⟨tab_length _ _, by omega, fun _ => ⟨Br q, 0, rfl, trivial, fun i x hx => ?_⟩⟩
  obtain ⟨rfl, hi⟩ := tab_get hx
  rw [Nat.zero_add]
  exact (h q hq).2 i hi
set_option maxRecDepth 100000 in
set_option maxHeartbeats 1000000 in
theorem atMost8_yes (S T : Nat → Prop) (a a2 : Option Addr) (len cap cap2 : Nat) (xs ys : List Int) (w : World) (h : IntsAt w S a len xs) (g : IntsAt w T a2 len ys) (hle : ∀ k, k < len → xs.getD k 0 ≤ ys.getD k 0) :
    Calls Try.prog 12 #[.slice a len cap, .slice a2 len cap2] w (EqPost w true) := by
  have hs := h.small
  have HLE := Lib.hid hle
  clear hle
  go_enter Try.func12, Try.ntmps12
  go_wp2
  go_loopw [5] (fun i wr => ∃ k : Nat, k ≤ len ∧ i = .int .i64 k ∧ Drew w wr) (fun i _ => len - (intOf i).toNat)
  case atStart => exact ⟨0, Nat.zero_le _, rfl, Drew.refl w⟩
  case round =>
    obtain ⟨k, hk, rfl, hd⟩ := hrel
    by_cases hlt : k < len
    · obtain ⟨b, off, x, rfl, hx, hc⟩ := (Drew.ints h hd).get hlt
      obtain ⟨b2, off2, y, rfl, hy, hc2⟩ := (Drew.ints g hd).get hlt
      have hxy := HLE.out k hlt
      rw [getD_of hx, getD_of hy] at hxy
      have hdec : decide (y < x) = false := by simp; omega
      clear hx hy
      go_wp2
      go_quiet (fail)
      go_wp2
      go_roundw
      case rel => exact ⟨k + 1, by omega, by go_num, hd.drew _⟩
      case measure => simp [intOf]; omega
    · go_wp2
      go_ret
      exact ⟨rfl, hd⟩
set_option maxRecDepth 100000 in
set_option maxHeartbeats 8000000 in
theorem fnMoreTokensAreFaster_any (a : Option Addr) (len cap : Nat) (w : World) (hb : BytesAt w w.heap.size a len) (hl : len ≤ cap) (hs : len ≤ 9223372036854775807) :
    Calls Try.prog 4 #[.slice a len cap] w (LawPost w) := by
  by_cases h20 : len ≤ 1048576
  · go_enter Try.func4, Try.ntmps4
    go_wp2_with fail
    refine (drawBeginsAt_any a len cap w hb hl hs).mono ?_
    rintro e w1 ⟨d, ts, rows, r, rfl, n_n, hT4, hW8, hr41, hb1⟩
    obtain ⟨aT, lT, cT, aW, lW, cW⟩ := d
    have hbx := (Below.refl w1.heap.size w1).alloc (Nat.le_refl _) (.cells #[.slice aT lT cT, .slice aW lW cW] 26)
    have on2 := netOn_new n_n 26
    obtain ⟨w2, hw2⟩ : ∃ wx, w1.alloc (.cells #[.slice aT lT cT, .slice aW lW cW] 26) = wx := ⟨_, rfl⟩
    rw [hw2] at on2 hbx
    have HW2 := Lib.hid hw2
    have HBW := Lib.hid (hb1.trans (hbx.mono hb1.size))
    have HON := Lib.hid (fun w' (hb : Below w2.heap.size w2 w') => on2.lift hb)
    clear hw2 hb hb1 hbx n_n
    dsimp only at hT4 hW8
    obtain ⟨c0, c1⟩ := on2.box
    dsimp only at c0 c1
    go_wp2_with fail
    rw [HW2.out]
    clear c0 c1 on2
    have HL := Lib.hid (fun w' (hS : Below w2.heap.size w2 w') => (HON.out w' hS).box)
    have HY0 : Hid (Below w2.heap.size w2 w2.drew) := Lib.hid (Below.refl _ _).drew
    refine wp_region_held_drew (S := (fun w' => Below w2.heap.size w2 w')) (by kernel_rfl) HY0.out (fun hHeld => ?_)
    refine wpAnyH_take (i := 0) (v := .agg #[.slice aT lT cT, .slice aW lW cW]) rfl (by kernel_rfl) (by kernel_rfl) (by kernel_rfl) (fun _ _ _ h => h) (Or.inl ⟨by rfl, ?_⟩) hHeld ?_
    · rintro w' hS; obtain ⟨k0, k1⟩ := HL.out w' hS; dsimp only at k0 k1; go_simp
    try simp only [Act.put, List.setIfInBounds_toArray, List.set_cons_zero, List.set_cons_succ, List.getElem_toArray, List.getElem_cons_zero]
    refine wpAnyH_take (i := 1) (v := .int .i64 r) rfl (by kernel_rfl) (by kernel_rfl) (by kernel_rfl) (fun _ _ _ h => h) (Or.inl ⟨by rfl, ?_⟩) hHeld ?_
    · rintro w' hS; go_simp
    try simp only [Act.put, List.setIfInBounds_toArray, List.set_cons_zero, List.set_cons_succ, List.getElem_toArray, List.getElem_cons_succ, List.getElem_cons_zero]
    refine wpAnyH_take (i := 3) (v := .agg #[.slice aT lT cT, .slice aW lW cW]) rfl (by kernel_rfl) (by kernel_rfl) (by kernel_rfl) (fun _ _ _ h => h) (Or.inl ⟨by rfl, ?_⟩) hHeld ?_
    · rintro w' hS; obtain ⟨k0, k1⟩ := HL.out w' hS; dsimp only at k0 k1; go_simp
    try simp only [Act.put, List.setIfInBounds_toArray, List.set_cons_zero, List.set_cons_succ, List.getElem_toArray, List.getElem_cons_succ, List.getElem_cons_zero]
    refine wpAnyH_take (i := 4) (v := .int .i64 r) rfl (by kernel_rfl) (by kernel_rfl) (by kernel_rfl) (fun _ _ _ h => h) (Or.inl ⟨by rfl, ?_⟩) hHeld ?_
    · rintro w' hS; go_simp
    try simp only [Act.put, List.setIfInBounds_toArray, List.set_cons_zero, List.set_cons_succ, List.getElem_toArray, List.getElem_cons_succ, List.getElem_cons_zero]
    refine wpAnyH_ready (rs := [2]) (by kernel_rfl) (by simp) ?_
    refine AllReadyH.cons (o := _) rfl (fun K hK => ?_) AllReadyH.nil
    go_simp
    go_at_call 7
    refine (beginsAt_impl ⟨aT, lT, cT, aW, lW, cW⟩ ts rows (r : Int) w2.drew (HON.out _ HY0.out).at').mono ?_
    rintro e wy1 hG
    obtain ⟨aG, nG, rfl, hb3, cG, hx1, hx2, hx3⟩ := begOwn_b hG
    clear hx1 hx2 hx3
    have HY1 := Lib.hid (HY0.out.trans (hb3.mono HY0.out.size))
    generalize hRES : begRes ts rows (r : Int) = ys at cG
    have HRES := Lib.hid hRES
    have heq : eqRB ys ys = true := decide_eq_true rfl
    have HCG := Lib.hid cG
    clear hRES hb3 cG hG
    refine hK.out _ _ HY1.out (fun hHeld => ?_)
    clear hK K
    try simp only [Act.put, List.setIfInBounds_toArray, List.set_cons_zero, List.set_cons_succ, List.getElem_toArray, List.getElem_cons_succ, List.getElem_cons_zero]
    refine wpAnyH_ready (rs := [5]) (by kernel_rfl) (by simp) ?_
    refine AllReadyH.cons (o := _) rfl (fun K hK => ?_) AllReadyH.nil
    go_simp
    go_at_call 9
    refine (beginsAt_spec ⟨aT, lT, cT, aW, lW, cW⟩ ts rows (r : Int) wy1 (HON.out _ HY1.out).at').mono ?_
    rintro e wy2 hM
    obtain ⟨aM, lM, kM, rfl, cM, hx4, hb4⟩ := hM
    clear hx4
    rw [HRES.out] at cM
    have HB34 := Lib.hid hb4
    have HY2 := Lib.hid (HY1.out.trans (hb4.mono HY1.out.size))
    have HCM := Lib.hid cM
    clear hb4 cM
    refine hK.out _ _ HY2.out (fun hHeld => ?_)
    clear hK K
    try simp only [Act.put, List.setIfInBounds_toArray, List.set_cons_zero, List.set_cons_succ, List.getElem_toArray, List.getElem_cons_succ, List.getElem_cons_zero]
    have hE6 := equalRows_any (fun _ => True) _ aG aM nG nG lM kM ys ys wy2 (HCG.out.to (w' := wy2) (S' := fun _ => True) (fun b hb => ⟨trivial, HB34.out.block b hb.2⟩)) HCM.out
    rw [heq] at hE6
    have HE6 := Lib.hid hE6
    clear hE6 heq
    refine wpAnyH_ready (rs := [6]) (by kernel_rfl) (by simp) ?_
    refine AllReadyH.cons (o := _) rfl (fun K hK => ?_) AllReadyH.nil
    go_simp
    go_at_call 8
    refine (HE6.out).mono ?_
    rintro e wy3 ⟨rfl, d5⟩
    have HY3 := Lib.hid (HY2.out.trans ((d5.below wy2.heap.size).mono HY2.out.size))
    clear d5
    refine hK.out _ _ HY3.out (fun hHeld => ?_)
    clear hK K
    try simp only [Act.put, List.setIfInBounds_toArray, List.set_cons_zero, List.set_cons_succ, List.getElem_toArray, List.getElem_cons_succ, List.getElem_cons_zero]
    refine wpAnyH_take (i := 7) (v := .bool false) rfl (by kernel_rfl) (by kernel_rfl) (by kernel_rfl) (fun _ _ _ h => h) (Or.inl ⟨by rfl, ?_⟩) hHeld ?_
    · rintro w' hS; go_simp
    try simp only [Act.put, List.setIfInBounds_toArray, List.set_cons_zero, List.set_cons_succ, List.getElem_toArray, List.getElem_cons_succ, List.getElem_cons_zero]
    refine wpAnyH_done (by kernel_rfl) ?_ _
    clear hHeld
    obtain ⟨c0, c1⟩ := (HON.out _ HY3.out).box
    dsimp only at c0 c1
    go_wp2_with fail
    refine (beginsAt_impl ⟨aT, lT, cT, aW, lW, cW⟩ ts rows (r : Int) wy3 (HON.out _ HY3.out).at').mono ?_
    rintro e w6 hG2
    obtain ⟨aG2, n, rfl, hb6, hx1, hn40, hx2, hpos⟩ := begOwn_b hG2
    clear hx1 hx2
    have hTL : ts.length = lT := (HON.out _ HY3.out).at'.t.lenEq
    have hWL : rows.length = lW := (HON.out _ HY3.out).at'.r.lenEq
    have HTL := Lib.hid hTL
    have HWL := Lib.hid hWL
    have HPOS := Lib.hid hpos
    have HY6 := Lib.hid (HY3.out.trans (hb6.mono HY3.out.size))
    have HBZ := Lib.hid (HBW.out.trans (HY6.out.mono HBW.out.size))
    clear hb6 hG2 c0 c1 hpos hTL hWL HRES HCG HCM HB34
    by_cases hn0 : n = 0
    · subst hn0
      go_wp2_with fail
      go_ret
      exact ⟨rfl, HBZ.out⟩
    · have hne : ((n : Int) == 0) = false := by simp; omega
      obtain ⟨hal, hrn, G, Br, rfl, hbw, hGlt, hBrlt⟩ := HPOS.out (by omega)
      obtain rfl : r = n := by omega
      clear hrn
      obtain ⟨hv, hx5⟩ := alive_get hal
      clear hx5
      have hok := gr_ok hv
      have HAL := Lib.hid hal
      have HV := Lib.hid hv
      obtain ⟨c0, c1⟩ := (HON.out _ HY6.out).box
      dsimp only at c0 c1
      by_cases hlw : lW = 0
      · have hwe : ((lW : Int) == 0) = true := by simp; omega
        subst hlw
        go_wp2_with fail
        go_ret
        exact ⟨rfl, HBZ.out⟩
      · have hwe : ((lW : Int) == 0) = false := by simp; omega
        have HWA := Lib.hid (fun (w' : World) (hb : Below w2.heap.size w2 w') (k : Nat) (hk : k < lW) => way_at (HON.out w' hb).at'.r HV.out hk)
        have hlw0 : 0 < lW := by omega
        obtain ⟨bW, oW, b', off', c', rfl, dr, d0, d1, d2⟩ := HWA.out _ HY6.out 0 hlw0
        rw [Nat.add_zero] at dr
        have hlwI : (0 : Int) < (lW : Int) := by omega
        by_cases h3 : (grOf ts rows).c 0 = 3
        · have h3e : ((((grOf ts rows).c 0 : Nat) : Int) == 3) = true := by simp; omega
          rw [h3] at d2
          go_wp2_with fail
          go_ret
          exact ⟨rfl, HBZ.out⟩
        · have h3e : ((((grOf ts rows).c 0 : Nat) : Int) == 3) = false := by simp; omega
          -- the net with one token more
          have HON6 := Lib.hid (fun w' (hb : Below w6.heap.size w6 w') => HON.out w' (HY6.out.trans (hb.mono HY6.out.size)))
          have hbx := (Below.refl w6.heap.size w6).alloc (Nat.le_refl _) (.cells #[.slice aT lT cT, .slice none 0 0] 26)
          have htx := two_new w6 (.slice aT lT cT) (.slice none 0 0) 26
          have hzx : (w6.alloc (.cells #[.slice aT lT cT, .slice none 0 0] 26)).heap.size = w6.heap.size + 1 := by simp
          obtain ⟨wx, hwx⟩ : ∃ wx, w6.alloc (.cells #[.slice aT lT cT, .slice none 0 0] 26) = wx := ⟨_, rfl⟩
          rw [hwx] at hbx htx hzx
          have HWX := Lib.hid hwx
          have HBX := Lib.hid hbx
          have HTX := Lib.hid htx
          have HZX := Lib.hid hzx
          clear hwx hbx htx hzx
          go_wp2_with fail
          rw [HWX.out]
          have HOW : Hid (OwnRowsV wx (w6.heap.size + 1) (.slice none 0 0) 0 []) := Lib.hid ⟨[], ⟨rfl, .inl ⟨rfl, rfl⟩⟩, rfl, fun q u hq => by simp at hq⟩
          have HBWV := Lib.hid hbw
          clear c0 c1 dr d0 d1 d2 hne h3e hwe hbw
          go_loopw [7] (fun s7 wr => ∃ (i cp : Nat) (ax : Option Addr), s7 = .int .i64 i ∧ i ≤ lW ∧ i ≤ cp ∧ OwnRowsV wr (w6.heap.size + 1) (.slice ax i cp) i (moreRows ts rows i) ∧ Two wr w6.heap.size (.slice aT lT cT) (.slice ax i cp) ∧ Below w6.heap.size w6 wr ∧ w6.heap.size + 1 ≤ wr.heap.size) (fun s7 _ => lW - (intOf s7).toNat)
          case atStart => exact ⟨0, 0, none, rfl, by omega, by omega, HOW.out, HTX.out, HBX.out, by have := HZX.out; omega⟩
          case round =>
            clear HOW HTX HBX HZX
            obtain ⟨i, cp, ax, rfl, hi, hicp, hown, ht, hb, hs1⟩ := hrel
            obtain ⟨wo, rfl⟩ : ∃ wo : World, wo = wr := ⟨_, rfl⟩
            have HOWN := Lib.hid hown
            have HT := Lib.hid ht
            have HB := Lib.hid hb
            clear hown ht hb
            by_cases hil : i < lW
            · have hiI : (i : Int) < (lW : Int) := by omega
              obtain ⟨bW2, oW2, b', off', c', eW, dr, d0, d1, d2⟩ := HWA.out _ HY6.out i hil
              simp only [Option.some.injEq, Addr.mk.injEq, and_true] at eW
              obtain ⟨rfl, rfl⟩ := eW
              have HCE := Lib.hid (fun w' (hb : Below w6.heap.size w6 w') => (show w'.cell? ⟨bW, oW + i, none⟩ = some (.slice (some ⟨b', off', none⟩) 3 c') ∧ w'.cell? ⟨b', off', none⟩ = some (.int .i64 ((grOf ts rows).f i : Nat)) ∧ w'.cell? ⟨b', off' + 1, none⟩ = some (.int .i64 ((grOf ts rows).t i : Nat)) ∧ w'.cell? ⟨b', off' + 2, none⟩ = some (.int .i64 ((grOf ts rows).c i : Nat)) from
                ⟨(hb.cell (World.block_lt_of_cell? w6 _ dr)).trans dr, (hb.cell (World.block_lt_of_cell? w6 _ d0)).trans d0, (hb.cell (World.block_lt_of_cell? w6 _ d1)).trans d1, (hb.cell (World.block_lt_of_cell? w6 _ d2)).trans d2⟩))
              clear dr d0 d1 d2
              obtain ⟨_, _, hc3⟩ := hok.ways i (by show i < rows.length; rw [HWL.out]; exact hil)
              have HROW0 : Hid (moreRow ts rows i = [((grOf ts rows).f i : Int), ((grOf ts rows).t i : Int), (((grOf ts rows).c i + if i = 0 then 1 else 0 : Nat) : Int)]) := Lib.hid rfl
              obtain ⟨fi, hfi⟩ : ∃ q, (grOf ts rows).f i = q := ⟨_, rfl⟩
              obtain ⟨ti, hti⟩ : ∃ q, (grOf ts rows).t i = q := ⟨_, rfl⟩
              obtain ⟨ci, hci⟩ : ∃ q, (grOf ts rows).c i = q := ⟨_, rfl⟩
              rw [hfi, hti, hci] at HROW0 HCE
              rw [hci] at hc3
              clear hfi hti hci
              obtain ⟨k0, k1⟩ := (HON6.out _ HB.out).box
              dsimp only at k0 k1
              obtain ⟨e0, e1, e2, e3⟩ := HCE.out _ HB.out
              by_cases hi0 : i = 0
              · have hiE : ((i : Int) == 0) = true := by simp; omega
                have HI0 := Lib.hid hi0
                clear hi0
                have HROW : Hid ([(fi : Int), (ti : Int), (((ci : Int) + 1) : Int)] = moreRow ts rows i) := Lib.hid (by rw [HROW0.out, if_pos HI0.out]; push_cast; rfl)
                obtain ⟨i1, hj, hy0, hy1, hy2⟩ := info_parts Try.infoInts
                obtain ⟨us, huv, hul, hus⟩ := HOWN.out
                have HUV := Lib.hid huv
                have HUL := Lib.hid hul
                have HUS := Lib.hid hus
                clear huv hul hus
                have HNBL : Hid ((((wo.alloc (.cells #[.int .i64 (fi : Int), .int .i64 (ti : Int), .int .i64 ((ci : Int) + 1)] 3)).alloc (.cells #[.slice (some ⟨wo.heap.size, 0, none⟩) 3 3] 23))).heap[wo.heap.size + 1]? = some (.cells #[.slice (some ⟨wo.heap.size, 0, none⟩) 3 3] 23 (0, 0))) := Lib.hid (by
                  have h1 := heap_alloc_new (wo.alloc (.cells #[.int .i64 (fi : Int), .int .i64 (ti : Int), .int .i64 ((ci : Int) + 1)] 3)) (.cells #[.slice (some ⟨wo.heap.size, 0, none⟩) 3 3] 23)
                  rw [show (wo.alloc (.cells #[.int .i64 (fi : Int), .int .i64 (ti : Int), .int .i64 ((ci : Int) + 1)] 3)).heap.size = wo.heap.size + 1 by simp] at h1
                  exact h1)
                have HFT := Lib.hid (fun w' (hg : (((wo.alloc (.cells #[.int .i64 (fi : Int), .int .i64 (ti : Int), .int .i64 ((ci : Int) + 1)] 3)).alloc (.cells #[.slice (some ⟨wo.heap.size, 0, none⟩) 3 3] 23))).grownBy w' (Value.slice ax i cp).ownBlock) => (show Two w' w6.heap.size (.slice aT lT cT) (.slice ax i cp) from ((HT.out.block (w' := ((wo.alloc (.cells #[.int .i64 (fi : Int), .int .i64 (ti : Int), .int .i64 ((ci : Int) + 1)] 3)).alloc (.cells #[.slice (some ⟨wo.heap.size, 0, none⟩) 3 3] 23))) ((Below.heap_alloc _ _ _ (by have := HT.out.lt; simp; omega)).trans (Below.heap_alloc _ _ _ HT.out.lt))).grown hg (fun e => by have := own_block HUV.out _ e.symm; omega))))
                have HPU := Lib.hid (fun v6 gg c6 ho hg => (show OwnRowsV v6 (w6.heap.size + 1) (.slice (some ⟨gg, 0, none⟩) (i + 1) c6) (i + 1) (moreRows ts rows (i + 1)) by rw [moreRows_snoc, ← HROW.out]; exact OwnRowsV.push (a := some ⟨wo.heap.size, 0, none⟩) (c := 3) (l := 3) ((HUV.out.alloc (.cells #[.int .i64 (fi : Int), .int .i64 (ti : Int), .int .i64 ((ci : Int) + 1)] 3)).alloc (.cells #[.slice (some ⟨wo.heap.size, 0, none⟩) 3 3] 23)) HUL.out (fun q u hq => by obtain ⟨a', l', c', r', e1, e2, e3, e4, e5⟩ := HUS.out q u hq; exact ⟨a', l', c', r', e1, e2, e3, e4, (e5.alloc _).alloc _⟩) ((own_lit3 wo (by omega) (fi : Int) (ti : Int) ((ci : Int) + 1)).alloc _) (Nat.le_refl _) (by omega) ho hg))
                have HBA := Lib.hid ((HB.out.alloc (by omega) (.cells #[.int .i64 (fi : Int), .int .i64 (ti : Int), .int .i64 ((ci : Int) + 1)] 3)).alloc (by simp; omega) (.cells #[.slice (some ⟨wo.heap.size, 0, none⟩) 3 3] 23))
                have HS0 := Lib.hid HB.out.drew
                have HS1 := Lib.hid (HB.out.alloc (by omega) (.cells #[.int .i64 (fi : Int), .int .i64 (ti : Int), .int .i64 ((ci : Int) + 1)] 3)).drew
                have HS2 := Lib.hid HBA.out.drew
                clear HOWN
                go_wp2_with fail
                clear k0 k1 e0 e1 e2 e3
                refine wp_region_held_drew (S := (fun w' => Below w6.heap.size w6 w')) (by kernel_rfl) HS0.out (fun hHeld => ?_)
                refine wpAnyH_take (i := 0) (v := .pointer (some ⟨w6.heap.size, 1, none⟩)) rfl (by kernel_rfl) (by kernel_rfl) (by kernel_rfl) (fun _ _ _ h => h) (Or.inl ⟨by rfl, ?_⟩) hHeld ?_
                · rintro w' hS; go_simp
                try simp only [Act.put, List.setIfInBounds_toArray, List.set_cons_zero, List.set_cons_succ, List.getElem_toArray, List.getElem_cons_zero]
                refine wpAnyH_take (i := 2) (v := .pointer (some ⟨w1.heap.size, 1, none⟩)) rfl (by kernel_rfl) (by kernel_rfl) (by kernel_rfl) (fun _ _ _ h => h) (Or.inl ⟨by rfl, ?_⟩) hHeld ?_
                · rintro w' hS; go_simp
                try simp only [Act.put, List.setIfInBounds_toArray, List.set_cons_zero, List.set_cons_succ, List.getElem_toArray, List.getElem_cons_succ, List.getElem_cons_zero]
                refine wpAnyH_take (i := 3) (v := .slice (some ⟨bW, oW, none⟩) lW cW) rfl (by kernel_rfl) (by kernel_rfl) (by kernel_rfl) (fun _ _ _ h => h) (Or.inl ⟨by rfl, ?_⟩) hHeld ?_
                · rintro w' hS; obtain ⟨k0, k1⟩ := (HON6.out w' hS).box; dsimp only at k0 k1; obtain ⟨e0, e1, e2, e3⟩ := HCE.out w' hS; go_simp
                try simp only [Act.put, List.setIfInBounds_toArray, List.set_cons_zero, List.set_cons_succ, List.getElem_toArray, List.getElem_cons_succ, List.getElem_cons_zero]
                refine wpAnyH_take (i := 4) (v := .int .i64 i) rfl (by kernel_rfl) (by kernel_rfl) (by kernel_rfl) (fun _ _ _ h => h) (Or.inl ⟨by rfl, ?_⟩) hHeld ?_
                · rintro w' hS; go_simp
                try simp only [Act.put, List.setIfInBounds_toArray, List.set_cons_zero, List.set_cons_succ, List.getElem_toArray, List.getElem_cons_succ, List.getElem_cons_zero]
                refine wpAnyH_take (i := 5) (v := .pointer (some ⟨bW, oW + i, none⟩)) rfl (by kernel_rfl) (by kernel_rfl) (by kernel_rfl) (fun _ _ _ h => h) (Or.inl ⟨by rfl, ?_⟩) hHeld ?_
                · rintro w' hS; obtain ⟨k0, k1⟩ := (HON6.out w' hS).box; dsimp only at k0 k1; obtain ⟨e0, e1, e2, e3⟩ := HCE.out w' hS; go_simp
                try simp only [Act.put, List.setIfInBounds_toArray, List.set_cons_zero, List.set_cons_succ, List.getElem_toArray, List.getElem_cons_succ, List.getElem_cons_zero]
                refine wpAnyH_take (i := 6) (v := .slice (some ⟨b', off', none⟩) 3 c') rfl (by kernel_rfl) (by kernel_rfl) (by kernel_rfl) (fun _ _ _ h => h) (Or.inl ⟨by rfl, ?_⟩) hHeld ?_
                · rintro w' hS; obtain ⟨k0, k1⟩ := (HON6.out w' hS).box; dsimp only at k0 k1; obtain ⟨e0, e1, e2, e3⟩ := HCE.out w' hS; go_simp
                try simp only [Act.put, List.setIfInBounds_toArray, List.set_cons_zero, List.set_cons_succ, List.getElem_toArray, List.getElem_cons_succ, List.getElem_cons_zero]
                refine wpAnyH_take (i := 7) (v := .pointer (some ⟨b', off', none⟩)) rfl (by kernel_rfl) (by kernel_rfl) (by kernel_rfl) (fun _ _ _ h => h) (Or.inl ⟨by rfl, ?_⟩) hHeld ?_
                · rintro w' hS; obtain ⟨k0, k1⟩ := (HON6.out w' hS).box; dsimp only at k0 k1; obtain ⟨e0, e1, e2, e3⟩ := HCE.out w' hS; go_simp
                try simp only [Act.put, List.setIfInBounds_toArray, List.set_cons_zero, List.set_cons_succ, List.getElem_toArray, List.getElem_cons_succ, List.getElem_cons_zero]
                refine wpAnyH_take (i := 8) (v := .int .i64 fi) rfl (by kernel_rfl) (by kernel_rfl) (by kernel_rfl) (fun _ _ _ h => h) (Or.inl ⟨by rfl, ?_⟩) hHeld ?_
                · rintro w' hS; obtain ⟨k0, k1⟩ := (HON6.out w' hS).box; dsimp only at k0 k1; obtain ⟨e0, e1, e2, e3⟩ := HCE.out w' hS; go_simp
                try simp only [Act.put, List.setIfInBounds_toArray, List.set_cons_zero, List.set_cons_succ, List.getElem_toArray, List.getElem_cons_succ, List.getElem_cons_zero]
                refine wpAnyH_take (i := 9) (v := .pointer (some ⟨w1.heap.size, 1, none⟩)) rfl (by kernel_rfl) (by kernel_rfl) (by kernel_rfl) (fun _ _ _ h => h) (Or.inl ⟨by rfl, ?_⟩) hHeld ?_
                · rintro w' hS; go_simp
                try simp only [Act.put, List.setIfInBounds_toArray, List.set_cons_zero, List.set_cons_succ, List.getElem_toArray, List.getElem_cons_succ, List.getElem_cons_zero]
                refine wpAnyH_take (i := 10) (v := .slice (some ⟨bW, oW, none⟩) lW cW) rfl (by kernel_rfl) (by kernel_rfl) (by kernel_rfl) (fun _ _ _ h => h) (Or.inl ⟨by rfl, ?_⟩) hHeld ?_
                · rintro w' hS; obtain ⟨k0, k1⟩ := (HON6.out w' hS).box; dsimp only at k0 k1; obtain ⟨e0, e1, e2, e3⟩ := HCE.out w' hS; go_simp
                try simp only [Act.put, List.setIfInBounds_toArray, List.set_cons_zero, List.set_cons_succ, List.getElem_toArray, List.getElem_cons_succ, List.getElem_cons_zero]
                refine wpAnyH_take (i := 11) (v := .int .i64 i) rfl (by kernel_rfl) (by kernel_rfl) (by kernel_rfl) (fun _ _ _ h => h) (Or.inl ⟨by rfl, ?_⟩) hHeld ?_
                · rintro w' hS; go_simp
                try simp only [Act.put, List.setIfInBounds_toArray, List.set_cons_zero, List.set_cons_succ, List.getElem_toArray, List.getElem_cons_succ, List.getElem_cons_zero]
                refine wpAnyH_take (i := 12) (v := .pointer (some ⟨bW, oW + i, none⟩)) rfl (by kernel_rfl) (by kernel_rfl) (by kernel_rfl) (fun _ _ _ h => h) (Or.inl ⟨by rfl, ?_⟩) hHeld ?_
                · rintro w' hS; obtain ⟨k0, k1⟩ := (HON6.out w' hS).box; dsimp only at k0 k1; obtain ⟨e0, e1, e2, e3⟩ := HCE.out w' hS; go_simp
                try simp only [Act.put, List.setIfInBounds_toArray, List.set_cons_zero, List.set_cons_succ, List.getElem_toArray, List.getElem_cons_succ, List.getElem_cons_zero]
                refine wpAnyH_take (i := 13) (v := .slice (some ⟨b', off', none⟩) 3 c') rfl (by kernel_rfl) (by kernel_rfl) (by kernel_rfl) (fun _ _ _ h => h) (Or.inl ⟨by rfl, ?_⟩) hHeld ?_
                · rintro w' hS; obtain ⟨k0, k1⟩ := (HON6.out w' hS).box; dsimp only at k0 k1; obtain ⟨e0, e1, e2, e3⟩ := HCE.out w' hS; go_simp
                try simp only [Act.put, List.setIfInBounds_toArray, List.set_cons_zero, List.set_cons_succ, List.getElem_toArray, List.getElem_cons_succ, List.getElem_cons_zero]
                refine wpAnyH_take (i := 14) (v := .pointer (some ⟨b', off' + 1, none⟩)) rfl (by kernel_rfl) (by kernel_rfl) (by kernel_rfl) (fun _ _ _ h => h) (Or.inl ⟨by rfl, ?_⟩) hHeld ?_
                · rintro w' hS; obtain ⟨k0, k1⟩ := (HON6.out w' hS).box; dsimp only at k0 k1; obtain ⟨e0, e1, e2, e3⟩ := HCE.out w' hS; go_simp
                try simp only [Act.put, List.setIfInBounds_toArray, List.set_cons_zero, List.set_cons_succ, List.getElem_toArray, List.getElem_cons_succ, List.getElem_cons_zero]
                refine wpAnyH_take (i := 15) (v := .int .i64 ti) rfl (by kernel_rfl) (by kernel_rfl) (by kernel_rfl) (fun _ _ _ h => h) (Or.inl ⟨by rfl, ?_⟩) hHeld ?_
                · rintro w' hS; obtain ⟨k0, k1⟩ := (HON6.out w' hS).box; dsimp only at k0 k1; obtain ⟨e0, e1, e2, e3⟩ := HCE.out w' hS; go_simp
                try simp only [Act.put, List.setIfInBounds_toArray, List.set_cons_zero, List.set_cons_succ, List.getElem_toArray, List.getElem_cons_succ, List.getElem_cons_zero]
                refine wpAnyH_take (i := 16) (v := .int .i64 ((ci : Int) + 1)) rfl (by kernel_rfl) (by kernel_rfl) (by kernel_rfl) (fun _ _ _ h => h) (Or.inl ⟨by rfl, ?_⟩) hHeld ?_
                · rintro w' hS; go_simp
                try simp only [Act.put, List.setIfInBounds_toArray, List.set_cons_zero, List.set_cons_succ, List.getElem_toArray, List.getElem_cons_succ, List.getElem_cons_zero]
                refine wpAnyH_ready (rs := [1, 17]) (by kernel_rfl) (by simp) ?_
                refine (AllReadyH.cons (o := _) rfl (fun K hK => ?_) (AllReadyH.cons (o := _) rfl (fun K hK => ?_) AllReadyH.nil))
                · have c1 : (wo.drew).cell? ⟨w6.heap.size, 1, none⟩ = some (.slice ax i cp) := (HT.out.block (show (wo.drew).heap[w6.heap.size]? = wo.heap[w6.heap.size]? from rfl)).2.1
                  go_simp
                  refine hK.out _ _ (by first | exact HS0.out | exact HS1.out | exact HS2.out | exact HS6.out | exact HS7.out) (fun hHeld => ?_)
                  clear hK K
                  try simp only [Act.put, List.setIfInBounds_toArray, List.set_cons_zero, List.set_cons_succ, List.getElem_toArray, List.getElem_cons_succ, List.getElem_cons_zero]
                  clear c1
                  refine wpAnyH_ready (rs := [17]) (by kernel_rfl) (by simp) ?_
                  refine AllReadyH.cons (o := _) rfl (fun K hK => ?_) AllReadyH.nil
                  go_simp
                  refine hK.out _ _ (by first | exact HS0.out | exact HS1.out | exact HS2.out | exact HS6.out | exact HS7.out) (fun hHeld => ?_)
                  clear hK K
                  try simp only [Act.put, List.setIfInBounds_toArray, List.set_cons_zero, List.set_cons_succ, List.getElem_toArray, List.getElem_cons_succ, List.getElem_cons_zero]
                  refine wpAnyH_ready (rs := [18]) (by kernel_rfl) (by simp) ?_
                  refine AllReadyH.cons (o := _) rfl (fun K hK => ?_) AllReadyH.nil
                  go_simp
                  refine hK.out _ _ (by first | exact HS0.out | exact HS1.out | exact HS2.out | exact HS6.out | exact HS7.out) (fun hHeld => ?_)
                  clear hK K
                  try simp only [Act.put, List.setIfInBounds_toArray, List.set_cons_zero, List.set_cons_succ, List.getElem_toArray, List.getElem_cons_succ, List.getElem_cons_zero]
                  refine wpAnyH_ready (rs := [19]) (by kernel_rfl) (by simp) ?_
                  refine AllReadyH.cons (o := _) rfl (fun K hK => ?_) AllReadyH.nil
                  refine step_append_lies _ (by rfl) _ _ _ (by rfl) (w6.heap.size + 1) 23 i1 _ 1 24 Try.underlying24 hj hy0 hy1 hy2 rfl (by omega) (.slice ax i cp) i _ (by rfl) (((HUV.out.alloc _).alloc _).drew) ⟨wo.heap.size + 1, 0, none⟩ 1 1 [.slice (some ⟨wo.heap.size, 0, none⟩) 3 3] (by rfl) (by rfl) (World.news_of_block (cs := #[.slice (some ⟨wo.heap.size, 0, none⟩) 3 3]) (t := 23) (fr := (0, 0)) HNBL.out) (by simp [Value.oneCell']) (by omega) (by unfold maxLen; omega) (by omega) (by simp; omega) (wo.heap.size + 2) (by simp) ?_
                  intro gg c6 v6 hown6 hgrow hat hlt
                  have HGX := Lib.hid (show (((wo.alloc (.cells #[.int .i64 (fi : Int), .int .i64 (ti : Int), .int .i64 ((ci : Int) + 1)] 3)).alloc (.cells #[.slice (some ⟨wo.heap.size, 0, none⟩) 3 3] 23))).grownBy v6 (Value.slice ax i cp).ownBlock from grown_comp (grownBy_drewN _ 1 _) hgrow)
                  have HO6 := Lib.hid hown6
                  have HS6 := Lib.hid (HBA.out.grown HGX.out (by simp; omega) (fun g hg => by have := own_block HUV.out g hg; omega))
                  clear hgrow hat hlt hown6
                  refine hK.out _ _ (by first | exact HS0.out | exact HS1.out | exact HS2.out | exact HS6.out | exact HS7.out) (fun hHeld => ?_)
                  clear hK K
                  try simp only [Act.put, List.setIfInBounds_toArray, List.set_cons_zero, List.set_cons_succ, List.getElem_toArray, List.getElem_cons_succ, List.getElem_cons_zero]
                  refine wpAnyH_take (i := 20) (v := .pointer (some ⟨w6.heap.size, 1, none⟩)) rfl (by kernel_rfl) (by kernel_rfl) (by kernel_rfl) (fun _ _ _ h => h) (Or.inl ⟨by rfl, ?_⟩) hHeld ?_
                  · rintro w' hS; go_simp
                  try simp only [Act.put, List.setIfInBounds_toArray, List.set_cons_zero, List.set_cons_succ, List.getElem_toArray, List.getElem_cons_succ, List.getElem_cons_zero]
                  have HT6 := Lib.hid (HFT.out v6 HGX.out)
                  have HS7 := Lib.hid (HS6.out.setCell (p := ⟨w6.heap.size, 1, none⟩) (Nat.le_refl _) (.slice (some ⟨gg, 0, none⟩) (i + 1) c6))
                  obtain ⟨_, k1, z1⟩ := HT6.out
                  refine wpAnyH_ready (rs := [21]) (by kernel_rfl) (by simp) ?_
                  refine AllReadyH.cons (o := _) rfl (fun K hK => ?_) AllReadyH.nil
                  go_simp
                  refine hK.out _ _ (by first | exact HS0.out | exact HS1.out | exact HS2.out | exact HS6.out | exact HS7.out) (fun hHeld => ?_)
                  clear hK K
                  try simp only [Act.put, List.setIfInBounds_toArray, List.set_cons_zero, List.set_cons_succ, List.getElem_toArray, List.getElem_cons_succ, List.getElem_cons_zero]
                  refine wpAnyH_done (by kernel_rfl) ?_ _
                  clear hHeld k1 z1
                  have HR6 := Lib.hid (HPU.out v6 gg c6 HO6.out HGX.out)
                  have HK6 : Hid (i + 1 ≤ c6) := Lib.hid (by obtain ⟨_, _, e, h'⟩ := own_slice HO6.out; injection e with _ _ e; omega)
                  have HZ6 : Hid (w6.heap.size + 1 ≤ v6.heap.size) := Lib.hid (by have := HGX.out.size; simp at this; omega)
                  go_wp2_with fail
                  go_roundw
                  case rel => exact ⟨i + 1, c6, _, by go_num, by omega, HK6.out, HR6.out.low8 (grownBy_setCell _ _ _) (Nat.lt_succ_self _), HT6.out.set1 _, HS7.out, by have := HZ6.out; simp; omega⟩
                  case measure => simp [intOf]; omega
                · go_simp
                  refine hK.out _ _ (by first | exact HS0.out | exact HS1.out | exact HS2.out | exact HS6.out | exact HS7.out) (fun hHeld => ?_)
                  clear hK K
                  try simp only [Act.put, List.setIfInBounds_toArray, List.set_cons_zero, List.set_cons_succ, List.getElem_toArray, List.getElem_cons_succ, List.getElem_cons_zero]
                  refine wpAnyH_ready (rs := [1, 18]) (by kernel_rfl) (by simp) ?_
                  refine (AllReadyH.cons (o := _) rfl (fun K hK => ?_) (AllReadyH.cons (o := _) rfl (fun K hK => ?_) AllReadyH.nil))
                  · have c1 : ((wo.alloc (.cells #[.int .i64 (fi : Int), .int .i64 (ti : Int), .int .i64 ((ci : Int) + 1)] 3)).drew).cell? ⟨w6.heap.size, 1, none⟩ = some (.slice ax i cp) := (HT.out.block (show ((wo.alloc (.cells #[.int .i64 (fi : Int), .int .i64 (ti : Int), .int .i64 ((ci : Int) + 1)] 3)).drew).heap[w6.heap.size]? = wo.heap[w6.heap.size]? from Below.heap_alloc _ _ _ HT.out.lt)).2.1
                    go_simp
                    refine hK.out _ _ (by first | exact HS0.out | exact HS1.out | exact HS2.out | exact HS6.out | exact HS7.out) (fun hHeld => ?_)
                    clear hK K
                    try simp only [Act.put, List.setIfInBounds_toArray, List.set_cons_zero, List.set_cons_succ, List.getElem_toArray, List.getElem_cons_succ, List.getElem_cons_zero]
                    clear c1
                    refine wpAnyH_ready (rs := [18]) (by kernel_rfl) (by simp) ?_
                    refine AllReadyH.cons (o := _) rfl (fun K hK => ?_) AllReadyH.nil
                    go_simp
                    refine hK.out _ _ (by first | exact HS0.out | exact HS1.out | exact HS2.out | exact HS6.out | exact HS7.out) (fun hHeld => ?_)
                    clear hK K
                    try simp only [Act.put, List.setIfInBounds_toArray, List.set_cons_zero, List.set_cons_succ, List.getElem_toArray, List.getElem_cons_succ, List.getElem_cons_zero]
                    refine wpAnyH_ready (rs := [19]) (by kernel_rfl) (by simp) ?_
                    refine AllReadyH.cons (o := _) rfl (fun K hK => ?_) AllReadyH.nil
                    refine step_append_lies _ (by rfl) _ _ _ (by rfl) (w6.heap.size + 1) 23 i1 _ 1 24 Try.underlying24 hj hy0 hy1 hy2 rfl (by omega) (.slice ax i cp) i _ (by rfl) (((HUV.out.alloc _).alloc _).drew) ⟨wo.heap.size + 1, 0, none⟩ 1 1 [.slice (some ⟨wo.heap.size, 0, none⟩) 3 3] (by rfl) (by rfl) (World.news_of_block (cs := #[.slice (some ⟨wo.heap.size, 0, none⟩) 3 3]) (t := 23) (fr := (0, 0)) HNBL.out) (by simp [Value.oneCell']) (by omega) (by unfold maxLen; omega) (by omega) (by simp; omega) (wo.heap.size + 2) (by simp) ?_
                    intro gg c6 v6 hown6 hgrow hat hlt
                    have HGX := Lib.hid (show (((wo.alloc (.cells #[.int .i64 (fi : Int), .int .i64 (ti : Int), .int .i64 ((ci : Int) + 1)] 3)).alloc (.cells #[.slice (some ⟨wo.heap.size, 0, none⟩) 3 3] 23))).grownBy v6 (Value.slice ax i cp).ownBlock from grown_comp (grownBy_drewN _ 1 _) hgrow)
                    have HO6 := Lib.hid hown6
                    have HS6 := Lib.hid (HBA.out.grown HGX.out (by simp; omega) (fun g hg => by have := own_block HUV.out g hg; omega))
                    clear hgrow hat hlt hown6
                    refine hK.out _ _ (by first | exact HS0.out | exact HS1.out | exact HS2.out | exact HS6.out | exact HS7.out) (fun hHeld => ?_)
                    clear hK K
                    try simp only [Act.put, List.setIfInBounds_toArray, List.set_cons_zero, List.set_cons_succ, List.getElem_toArray, List.getElem_cons_succ, List.getElem_cons_zero]
                    refine wpAnyH_take (i := 20) (v := .pointer (some ⟨w6.heap.size, 1, none⟩)) rfl (by kernel_rfl) (by kernel_rfl) (by kernel_rfl) (fun _ _ _ h => h) (Or.inl ⟨by rfl, ?_⟩) hHeld ?_
                    · rintro w' hS; go_simp
                    try simp only [Act.put, List.setIfInBounds_toArray, List.set_cons_zero, List.set_cons_succ, List.getElem_toArray, List.getElem_cons_succ, List.getElem_cons_zero]
                    have HT6 := Lib.hid (HFT.out v6 HGX.out)
                    have HS7 := Lib.hid (HS6.out.setCell (p := ⟨w6.heap.size, 1, none⟩) (Nat.le_refl _) (.slice (some ⟨gg, 0, none⟩) (i + 1) c6))
                    obtain ⟨_, k1, z1⟩ := HT6.out
                    refine wpAnyH_ready (rs := [21]) (by kernel_rfl) (by simp) ?_
                    refine AllReadyH.cons (o := _) rfl (fun K hK => ?_) AllReadyH.nil
                    go_simp
                    refine hK.out _ _ (by first | exact HS0.out | exact HS1.out | exact HS2.out | exact HS6.out | exact HS7.out) (fun hHeld => ?_)
                    clear hK K
                    try simp only [Act.put, List.setIfInBounds_toArray, List.set_cons_zero, List.set_cons_succ, List.getElem_toArray, List.getElem_cons_succ, List.getElem_cons_zero]
                    refine wpAnyH_done (by kernel_rfl) ?_ _
                    clear hHeld k1 z1
                    have HR6 := Lib.hid (HPU.out v6 gg c6 HO6.out HGX.out)
                    have HK6 : Hid (i + 1 ≤ c6) := Lib.hid (by obtain ⟨_, _, e, h'⟩ := own_slice HO6.out; injection e with _ _ e; omega)
                    have HZ6 : Hid (w6.heap.size + 1 ≤ v6.heap.size) := Lib.hid (by have := HGX.out.size; simp at this; omega)
                    go_wp2_with fail
                    go_roundw
                    case rel => exact ⟨i + 1, c6, _, by go_num, by omega, HK6.out, HR6.out.low8 (grownBy_setCell _ _ _) (Nat.lt_succ_self _), HT6.out.set1 _, HS7.out, by have := HZ6.out; simp; omega⟩
                    case measure => simp [intOf]; omega
                  · go_simp
                    refine hK.out _ _ (by first | exact HS0.out | exact HS1.out | exact HS2.out | exact HS6.out | exact HS7.out) (fun hHeld => ?_)
                    clear hK K
                    try simp only [Act.put, List.setIfInBounds_toArray, List.set_cons_zero, List.set_cons_succ, List.getElem_toArray, List.getElem_cons_succ, List.getElem_cons_zero]
                    refine wpAnyH_ready (rs := [1]) (by kernel_rfl) (by simp) ?_
                    refine AllReadyH.cons (o := _) rfl (fun K hK => ?_) AllReadyH.nil
                    have c1 : (((wo.alloc (.cells #[.int .i64 (fi : Int), .int .i64 (ti : Int), .int .i64 ((ci : Int) + 1)] 3)).alloc (.cells #[.slice (some ⟨wo.heap.size, 0, none⟩) 3 3] 23)).drew).cell? ⟨w6.heap.size, 1, none⟩ = some (.slice ax i cp) := (HT.out.block (show (((wo.alloc (.cells #[.int .i64 (fi : Int), .int .i64 (ti : Int), .int .i64 ((ci : Int) + 1)] 3)).alloc (.cells #[.slice (some ⟨wo.heap.size, 0, none⟩) 3 3] 23)).drew).heap[w6.heap.size]? = wo.heap[w6.heap.size]? from (Below.heap_alloc _ _ _ (by have := HT.out.lt; simp; omega)).trans (Below.heap_alloc _ _ _ HT.out.lt))).2.1
                    go_simp
                    refine hK.out _ _ (by first | exact HS0.out | exact HS1.out | exact HS2.out | exact HS6.out | exact HS7.out) (fun hHeld => ?_)
                    clear hK K
                    try simp only [Act.put, List.setIfInBounds_toArray, List.set_cons_zero, List.set_cons_succ, List.getElem_toArray, List.getElem_cons_succ, List.getElem_cons_zero]
                    clear c1
                    refine wpAnyH_ready (rs := [19]) (by kernel_rfl) (by simp) ?_
                    refine AllReadyH.cons (o := _) rfl (fun K hK => ?_) AllReadyH.nil
                    refine step_append_lies _ (by rfl) _ _ _ (by rfl) (w6.heap.size + 1) 23 i1 _ 1 24 Try.underlying24 hj hy0 hy1 hy2 rfl (by omega) (.slice ax i cp) i _ (by rfl) (((HUV.out.alloc _).alloc _).drew) ⟨wo.heap.size + 1, 0, none⟩ 1 1 [.slice (some ⟨wo.heap.size, 0, none⟩) 3 3] (by rfl) (by rfl) (World.news_of_block (cs := #[.slice (some ⟨wo.heap.size, 0, none⟩) 3 3]) (t := 23) (fr := (0, 0)) HNBL.out) (by simp [Value.oneCell']) (by omega) (by unfold maxLen; omega) (by omega) (by simp; omega) (wo.heap.size + 2) (by simp) ?_
                    intro gg c6 v6 hown6 hgrow hat hlt
                    have HGX := Lib.hid (show (((wo.alloc (.cells #[.int .i64 (fi : Int), .int .i64 (ti : Int), .int .i64 ((ci : Int) + 1)] 3)).alloc (.cells #[.slice (some ⟨wo.heap.size, 0, none⟩) 3 3] 23))).grownBy v6 (Value.slice ax i cp).ownBlock from grown_comp (grownBy_drewN _ 1 _) hgrow)
                    have HO6 := Lib.hid hown6
                    have HS6 := Lib.hid (HBA.out.grown HGX.out (by simp; omega) (fun g hg => by have := own_block HUV.out g hg; omega))
                    clear hgrow hat hlt hown6
                    refine hK.out _ _ (by first | exact HS0.out | exact HS1.out | exact HS2.out | exact HS6.out | exact HS7.out) (fun hHeld => ?_)
                    clear hK K
                    try simp only [Act.put, List.setIfInBounds_toArray, List.set_cons_zero, List.set_cons_succ, List.getElem_toArray, List.getElem_cons_succ, List.getElem_cons_zero]
                    refine wpAnyH_take (i := 20) (v := .pointer (some ⟨w6.heap.size, 1, none⟩)) rfl (by kernel_rfl) (by kernel_rfl) (by kernel_rfl) (fun _ _ _ h => h) (Or.inl ⟨by rfl, ?_⟩) hHeld ?_
                    · rintro w' hS; go_simp
                    try simp only [Act.put, List.setIfInBounds_toArray, List.set_cons_zero, List.set_cons_succ, List.getElem_toArray, List.getElem_cons_succ, List.getElem_cons_zero]
                    have HT6 := Lib.hid (HFT.out v6 HGX.out)
                    have HS7 := Lib.hid (HS6.out.setCell (p := ⟨w6.heap.size, 1, none⟩) (Nat.le_refl _) (.slice (some ⟨gg, 0, none⟩) (i + 1) c6))
                    obtain ⟨_, k1, z1⟩ := HT6.out
                    refine wpAnyH_ready (rs := [21]) (by kernel_rfl) (by simp) ?_
                    refine AllReadyH.cons (o := _) rfl (fun K hK => ?_) AllReadyH.nil
                    go_simp
                    refine hK.out _ _ (by first | exact HS0.out | exact HS1.out | exact HS2.out | exact HS6.out | exact HS7.out) (fun hHeld => ?_)
                    clear hK K
                    try simp only [Act.put, List.setIfInBounds_toArray, List.set_cons_zero, List.set_cons_succ, List.getElem_toArray, List.getElem_cons_succ, List.getElem_cons_zero]
                    refine wpAnyH_done (by kernel_rfl) ?_ _
                    clear hHeld k1 z1
                    have HR6 := Lib.hid (HPU.out v6 gg c6 HO6.out HGX.out)
                    have HK6 : Hid (i + 1 ≤ c6) := Lib.hid (by obtain ⟨_, _, e, h'⟩ := own_slice HO6.out; injection e with _ _ e; omega)
                    have HZ6 : Hid (w6.heap.size + 1 ≤ v6.heap.size) := Lib.hid (by have := HGX.out.size; simp at this; omega)
                    go_wp2_with fail
                    go_roundw
                    case rel => exact ⟨i + 1, c6, _, by go_num, by omega, HK6.out, HR6.out.low8 (grownBy_setCell _ _ _) (Nat.lt_succ_self _), HT6.out.set1 _, HS7.out, by have := HZ6.out; simp; omega⟩
                    case measure => simp [intOf]; omega
              · have hiE : ((i : Int) == 0) = false := by simp; omega
                have HI0 := Lib.hid hi0
                clear hi0
                have HROW : Hid ([(fi : Int), (ti : Int), ((ci : Int) : Int)] = moreRow ts rows i) := Lib.hid (by rw [HROW0.out, if_neg HI0.out]; rfl)
                obtain ⟨i1, hj, hy0, hy1, hy2⟩ := info_parts Try.infoInts
                obtain ⟨us, huv, hul, hus⟩ := HOWN.out
                have HUV := Lib.hid huv
                have HUL := Lib.hid hul
                have HUS := Lib.hid hus
                clear huv hul hus
                have HNBL : Hid ((((wo.alloc (.cells #[.int .i64 (fi : Int), .int .i64 (ti : Int), .int .i64 (ci : Int)] 3)).alloc (.cells #[.slice (some ⟨wo.heap.size, 0, none⟩) 3 3] 23))).heap[wo.heap.size + 1]? = some (.cells #[.slice (some ⟨wo.heap.size, 0, none⟩) 3 3] 23 (0, 0))) := Lib.hid (by
                  have h1 := heap_alloc_new (wo.alloc (.cells #[.int .i64 (fi : Int), .int .i64 (ti : Int), .int .i64 (ci : Int)] 3)) (.cells #[.slice (some ⟨wo.heap.size, 0, none⟩) 3 3] 23)
                  rw [show (wo.alloc (.cells #[.int .i64 (fi : Int), .int .i64 (ti : Int), .int .i64 (ci : Int)] 3)).heap.size = wo.heap.size + 1 by simp] at h1
                  exact h1)
                have HFT := Lib.hid (fun w' (hg : (((wo.alloc (.cells #[.int .i64 (fi : Int), .int .i64 (ti : Int), .int .i64 (ci : Int)] 3)).alloc (.cells #[.slice (some ⟨wo.heap.size, 0, none⟩) 3 3] 23))).grownBy w' (Value.slice ax i cp).ownBlock) => (show Two w' w6.heap.size (.slice aT lT cT) (.slice ax i cp) from ((HT.out.block (w' := ((wo.alloc (.cells #[.int .i64 (fi : Int), .int .i64 (ti : Int), .int .i64 (ci : Int)] 3)).alloc (.cells #[.slice (some ⟨wo.heap.size, 0, none⟩) 3 3] 23))) ((Below.heap_alloc _ _ _ (by have := HT.out.lt; simp; omega)).trans (Below.heap_alloc _ _ _ HT.out.lt))).grown hg (fun e => by have := own_block HUV.out _ e.symm; omega))))
                have HPU := Lib.hid (fun v6 gg c6 ho hg => (show OwnRowsV v6 (w6.heap.size + 1) (.slice (some ⟨gg, 0, none⟩) (i + 1) c6) (i + 1) (moreRows ts rows (i + 1)) by rw [moreRows_snoc, ← HROW.out]; exact OwnRowsV.push (a := some ⟨wo.heap.size, 0, none⟩) (c := 3) (l := 3) ((HUV.out.alloc (.cells #[.int .i64 (fi : Int), .int .i64 (ti : Int), .int .i64 (ci : Int)] 3)).alloc (.cells #[.slice (some ⟨wo.heap.size, 0, none⟩) 3 3] 23)) HUL.out (fun q u hq => by obtain ⟨a', l', c', r', e1, e2, e3, e4, e5⟩ := HUS.out q u hq; exact ⟨a', l', c', r', e1, e2, e3, e4, (e5.alloc _).alloc _⟩) ((own_lit3 wo (by omega) (fi : Int) (ti : Int) (ci : Int)).alloc _) (Nat.le_refl _) (by omega) ho hg))
                have HBA := Lib.hid ((HB.out.alloc (by omega) (.cells #[.int .i64 (fi : Int), .int .i64 (ti : Int), .int .i64 (ci : Int)] 3)).alloc (by simp; omega) (.cells #[.slice (some ⟨wo.heap.size, 0, none⟩) 3 3] 23))
                have HS0 := Lib.hid HB.out.drew
                have HS1 := Lib.hid (HB.out.alloc (by omega) (.cells #[.int .i64 (fi : Int), .int .i64 (ti : Int), .int .i64 (ci : Int)] 3)).drew
                have HS2 := Lib.hid HBA.out.drew
                clear HOWN
                go_wp2_with fail
                clear k0 k1 e0 e1 e2 e3
                refine wp_region_held_drew (S := (fun w' => Below w6.heap.size w6 w')) (by kernel_rfl) HS0.out (fun hHeld => ?_)
                refine wpAnyH_take (i := 0) (v := .pointer (some ⟨w6.heap.size, 1, none⟩)) rfl (by kernel_rfl) (by kernel_rfl) (by kernel_rfl) (fun _ _ _ h => h) (Or.inl ⟨by rfl, ?_⟩) hHeld ?_
                · rintro w' hS; go_simp
                try simp only [Act.put, List.setIfInBounds_toArray, List.set_cons_zero, List.set_cons_succ, List.getElem_toArray, List.getElem_cons_zero]
                refine wpAnyH_take (i := 2) (v := .pointer (some ⟨w1.heap.size, 1, none⟩)) rfl (by kernel_rfl) (by kernel_rfl) (by kernel_rfl) (fun _ _ _ h => h) (Or.inl ⟨by rfl, ?_⟩) hHeld ?_
                · rintro w' hS; go_simp
                try simp only [Act.put, List.setIfInBounds_toArray, List.set_cons_zero, List.set_cons_succ, List.getElem_toArray, List.getElem_cons_succ, List.getElem_cons_zero]
                refine wpAnyH_take (i := 3) (v := .slice (some ⟨bW, oW, none⟩) lW cW) rfl (by kernel_rfl) (by kernel_rfl) (by kernel_rfl) (fun _ _ _ h => h) (Or.inl ⟨by rfl, ?_⟩) hHeld ?_
                · rintro w' hS; obtain ⟨k0, k1⟩ := (HON6.out w' hS).box; dsimp only at k0 k1; obtain ⟨e0, e1, e2, e3⟩ := HCE.out w' hS; go_simp
                try simp only [Act.put, List.setIfInBounds_toArray, List.set_cons_zero, List.set_cons_succ, List.getElem_toArray, List.getElem_cons_succ, List.getElem_cons_zero]
                refine wpAnyH_take (i := 4) (v := .int .i64 i) rfl (by kernel_rfl) (by kernel_rfl) (by kernel_rfl) (fun _ _ _ h => h) (Or.inl ⟨by rfl, ?_⟩) hHeld ?_
                · rintro w' hS; go_simp
                try simp only [Act.put, List.setIfInBounds_toArray, List.set_cons_zero, List.set_cons_succ, List.getElem_toArray, List.getElem_cons_succ, List.getElem_cons_zero]
                refine wpAnyH_take (i := 5) (v := .pointer (some ⟨bW, oW + i, none⟩)) rfl (by kernel_rfl) (by kernel_rfl) (by kernel_rfl) (fun _ _ _ h => h) (Or.inl ⟨by rfl, ?_⟩) hHeld ?_
                · rintro w' hS; obtain ⟨k0, k1⟩ := (HON6.out w' hS).box; dsimp only at k0 k1; obtain ⟨e0, e1, e2, e3⟩ := HCE.out w' hS; go_simp
                try simp only [Act.put, List.setIfInBounds_toArray, List.set_cons_zero, List.set_cons_succ, List.getElem_toArray, List.getElem_cons_succ, List.getElem_cons_zero]
                refine wpAnyH_take (i := 6) (v := .slice (some ⟨b', off', none⟩) 3 c') rfl (by kernel_rfl) (by kernel_rfl) (by kernel_rfl) (fun _ _ _ h => h) (Or.inl ⟨by rfl, ?_⟩) hHeld ?_
                · rintro w' hS; obtain ⟨k0, k1⟩ := (HON6.out w' hS).box; dsimp only at k0 k1; obtain ⟨e0, e1, e2, e3⟩ := HCE.out w' hS; go_simp
                try simp only [Act.put, List.setIfInBounds_toArray, List.set_cons_zero, List.set_cons_succ, List.getElem_toArray, List.getElem_cons_succ, List.getElem_cons_zero]
                refine wpAnyH_take (i := 7) (v := .pointer (some ⟨b', off', none⟩)) rfl (by kernel_rfl) (by kernel_rfl) (by kernel_rfl) (fun _ _ _ h => h) (Or.inl ⟨by rfl, ?_⟩) hHeld ?_
                · rintro w' hS; obtain ⟨k0, k1⟩ := (HON6.out w' hS).box; dsimp only at k0 k1; obtain ⟨e0, e1, e2, e3⟩ := HCE.out w' hS; go_simp
                try simp only [Act.put, List.setIfInBounds_toArray, List.set_cons_zero, List.set_cons_succ, List.getElem_toArray, List.getElem_cons_succ, List.getElem_cons_zero]
                refine wpAnyH_take (i := 8) (v := .int .i64 fi) rfl (by kernel_rfl) (by kernel_rfl) (by kernel_rfl) (fun _ _ _ h => h) (Or.inl ⟨by rfl, ?_⟩) hHeld ?_
                · rintro w' hS; obtain ⟨k0, k1⟩ := (HON6.out w' hS).box; dsimp only at k0 k1; obtain ⟨e0, e1, e2, e3⟩ := HCE.out w' hS; go_simp
                try simp only [Act.put, List.setIfInBounds_toArray, List.set_cons_zero, List.set_cons_succ, List.getElem_toArray, List.getElem_cons_succ, List.getElem_cons_zero]
                refine wpAnyH_take (i := 9) (v := .pointer (some ⟨w1.heap.size, 1, none⟩)) rfl (by kernel_rfl) (by kernel_rfl) (by kernel_rfl) (fun _ _ _ h => h) (Or.inl ⟨by rfl, ?_⟩) hHeld ?_
                · rintro w' hS; go_simp
                try simp only [Act.put, List.setIfInBounds_toArray, List.set_cons_zero, List.set_cons_succ, List.getElem_toArray, List.getElem_cons_succ, List.getElem_cons_zero]
                refine wpAnyH_take (i := 10) (v := .slice (some ⟨bW, oW, none⟩) lW cW) rfl (by kernel_rfl) (by kernel_rfl) (by kernel_rfl) (fun _ _ _ h => h) (Or.inl ⟨by rfl, ?_⟩) hHeld ?_
                · rintro w' hS; obtain ⟨k0, k1⟩ := (HON6.out w' hS).box; dsimp only at k0 k1; obtain ⟨e0, e1, e2, e3⟩ := HCE.out w' hS; go_simp
                try simp only [Act.put, List.setIfInBounds_toArray, List.set_cons_zero, List.set_cons_succ, List.getElem_toArray, List.getElem_cons_succ, List.getElem_cons_zero]
                refine wpAnyH_take (i := 11) (v := .int .i64 i) rfl (by kernel_rfl) (by kernel_rfl) (by kernel_rfl) (fun _ _ _ h => h) (Or.inl ⟨by rfl, ?_⟩) hHeld ?_
                · rintro w' hS; go_simp
                try simp only [Act.put, List.setIfInBounds_toArray, List.set_cons_zero, List.set_cons_succ, List.getElem_toArray, List.getElem_cons_succ, List.getElem_cons_zero]
                refine wpAnyH_take (i := 12) (v := .pointer (some ⟨bW, oW + i, none⟩)) rfl (by kernel_rfl) (by kernel_rfl) (by kernel_rfl) (fun _ _ _ h => h) (Or.inl ⟨by rfl, ?_⟩) hHeld ?_
                · rintro w' hS; obtain ⟨k0, k1⟩ := (HON6.out w' hS).box; dsimp only at k0 k1; obtain ⟨e0, e1, e2, e3⟩ := HCE.out w' hS; go_simp
                try simp only [Act.put, List.setIfInBounds_toArray, List.set_cons_zero, List.set_cons_succ, List.getElem_toArray, List.getElem_cons_succ, List.getElem_cons_zero]
                refine wpAnyH_take (i := 13) (v := .slice (some ⟨b', off', none⟩) 3 c') rfl (by kernel_rfl) (by kernel_rfl) (by kernel_rfl) (fun _ _ _ h => h) (Or.inl ⟨by rfl, ?_⟩) hHeld ?_
                · rintro w' hS; obtain ⟨k0, k1⟩ := (HON6.out w' hS).box; dsimp only at k0 k1; obtain ⟨e0, e1, e2, e3⟩ := HCE.out w' hS; go_simp
                try simp only [Act.put, List.setIfInBounds_toArray, List.set_cons_zero, List.set_cons_succ, List.getElem_toArray, List.getElem_cons_succ, List.getElem_cons_zero]
                refine wpAnyH_take (i := 14) (v := .pointer (some ⟨b', off' + 1, none⟩)) rfl (by kernel_rfl) (by kernel_rfl) (by kernel_rfl) (fun _ _ _ h => h) (Or.inl ⟨by rfl, ?_⟩) hHeld ?_
                · rintro w' hS; obtain ⟨k0, k1⟩ := (HON6.out w' hS).box; dsimp only at k0 k1; obtain ⟨e0, e1, e2, e3⟩ := HCE.out w' hS; go_simp
                try simp only [Act.put, List.setIfInBounds_toArray, List.set_cons_zero, List.set_cons_succ, List.getElem_toArray, List.getElem_cons_succ, List.getElem_cons_zero]
                refine wpAnyH_take (i := 15) (v := .int .i64 ti) rfl (by kernel_rfl) (by kernel_rfl) (by kernel_rfl) (fun _ _ _ h => h) (Or.inl ⟨by rfl, ?_⟩) hHeld ?_
                · rintro w' hS; obtain ⟨k0, k1⟩ := (HON6.out w' hS).box; dsimp only at k0 k1; obtain ⟨e0, e1, e2, e3⟩ := HCE.out w' hS; go_simp
                try simp only [Act.put, List.setIfInBounds_toArray, List.set_cons_zero, List.set_cons_succ, List.getElem_toArray, List.getElem_cons_succ, List.getElem_cons_zero]
                refine wpAnyH_take (i := 16) (v := .int .i64 (ci : Int)) rfl (by kernel_rfl) (by kernel_rfl) (by kernel_rfl) (fun _ _ _ h => h) (Or.inl ⟨by rfl, ?_⟩) hHeld ?_
                · rintro w' hS; go_simp
                try simp only [Act.put, List.setIfInBounds_toArray, List.set_cons_zero, List.set_cons_succ, List.getElem_toArray, List.getElem_cons_succ, List.getElem_cons_zero]
                refine wpAnyH_ready (rs := [1, 17]) (by kernel_rfl) (by simp) ?_
                refine (AllReadyH.cons (o := _) rfl (fun K hK => ?_) (AllReadyH.cons (o := _) rfl (fun K hK => ?_) AllReadyH.nil))
                · have c1 : (wo.drew).cell? ⟨w6.heap.size, 1, none⟩ = some (.slice ax i cp) := (HT.out.block (show (wo.drew).heap[w6.heap.size]? = wo.heap[w6.heap.size]? from rfl)).2.1
                  go_simp
                  refine hK.out _ _ (by first | exact HS0.out | exact HS1.out | exact HS2.out | exact HS6.out | exact HS7.out) (fun hHeld => ?_)
                  clear hK K
                  try simp only [Act.put, List.setIfInBounds_toArray, List.set_cons_zero, List.set_cons_succ, List.getElem_toArray, List.getElem_cons_succ, List.getElem_cons_zero]
                  clear c1
                  refine wpAnyH_ready (rs := [17]) (by kernel_rfl) (by simp) ?_
                  refine AllReadyH.cons (o := _) rfl (fun K hK => ?_) AllReadyH.nil
                  go_simp
                  refine hK.out _ _ (by first | exact HS0.out | exact HS1.out | exact HS2.out | exact HS6.out | exact HS7.out) (fun hHeld => ?_)
                  clear hK K
                  try simp only [Act.put, List.setIfInBounds_toArray, List.set_cons_zero, List.set_cons_succ, List.getElem_toArray, List.getElem_cons_succ, List.getElem_cons_zero]
                  refine wpAnyH_ready (rs := [18]) (by kernel_rfl) (by simp) ?_
                  refine AllReadyH.cons (o := _) rfl (fun K hK => ?_) AllReadyH.nil
                  go_simp
                  refine hK.out _ _ (by first | exact HS0.out | exact HS1.out | exact HS2.out | exact HS6.out | exact HS7.out) (fun hHeld => ?_)
                  clear hK K
                  try simp only [Act.put, List.setIfInBounds_toArray, List.set_cons_zero, List.set_cons_succ, List.getElem_toArray, List.getElem_cons_succ, List.getElem_cons_zero]
                  refine wpAnyH_ready (rs := [19]) (by kernel_rfl) (by simp) ?_
                  refine AllReadyH.cons (o := _) rfl (fun K hK => ?_) AllReadyH.nil
                  refine step_append_lies _ (by rfl) _ _ _ (by rfl) (w6.heap.size + 1) 23 i1 _ 1 24 Try.underlying24 hj hy0 hy1 hy2 rfl (by omega) (.slice ax i cp) i _ (by rfl) (((HUV.out.alloc _).alloc _).drew) ⟨wo.heap.size + 1, 0, none⟩ 1 1 [.slice (some ⟨wo.heap.size, 0, none⟩) 3 3] (by rfl) (by rfl) (World.news_of_block (cs := #[.slice (some ⟨wo.heap.size, 0, none⟩) 3 3]) (t := 23) (fr := (0, 0)) HNBL.out) (by simp [Value.oneCell']) (by omega) (by unfold maxLen; omega) (by omega) (by simp; omega) (wo.heap.size + 2) (by simp) ?_
                  intro gg c6 v6 hown6 hgrow hat hlt
                  have HGX := Lib.hid (show (((wo.alloc (.cells #[.int .i64 (fi : Int), .int .i64 (ti : Int), .int .i64 (ci : Int)] 3)).alloc (.cells #[.slice (some ⟨wo.heap.size, 0, none⟩) 3 3] 23))).grownBy v6 (Value.slice ax i cp).ownBlock from grown_comp (grownBy_drewN _ 1 _) hgrow)
                  have HO6 := Lib.hid hown6
                  have HS6 := Lib.hid (HBA.out.grown HGX.out (by simp; omega) (fun g hg => by have := own_block HUV.out g hg; omega))
                  clear hgrow hat hlt hown6
                  refine hK.out _ _ (by first | exact HS0.out | exact HS1.out | exact HS2.out | exact HS6.out | exact HS7.out) (fun hHeld => ?_)
                  clear hK K
                  try simp only [Act.put, List.setIfInBounds_toArray, List.set_cons_zero, List.set_cons_succ, List.getElem_toArray, List.getElem_cons_succ, List.getElem_cons_zero]
                  refine wpAnyH_take (i := 20) (v := .pointer (some ⟨w6.heap.size, 1, none⟩)) rfl (by kernel_rfl) (by kernel_rfl) (by kernel_rfl) (fun _ _ _ h => h) (Or.inl ⟨by rfl, ?_⟩) hHeld ?_
                  · rintro w' hS; go_simp
                  try simp only [Act.put, List.setIfInBounds_toArray, List.set_cons_zero, List.set_cons_succ, List.getElem_toArray, List.getElem_cons_succ, List.getElem_cons_zero]
                  have HT6 := Lib.hid (HFT.out v6 HGX.out)
                  have HS7 := Lib.hid (HS6.out.setCell (p := ⟨w6.heap.size, 1, none⟩) (Nat.le_refl _) (.slice (some ⟨gg, 0, none⟩) (i + 1) c6))
                  obtain ⟨_, k1, z1⟩ := HT6.out
                  refine wpAnyH_ready (rs := [21]) (by kernel_rfl) (by simp) ?_
                  refine AllReadyH.cons (o := _) rfl (fun K hK => ?_) AllReadyH.nil
                  go_simp
                  refine hK.out _ _ (by first | exact HS0.out | exact HS1.out | exact HS2.out | exact HS6.out | exact HS7.out) (fun hHeld => ?_)
                  clear hK K
                  try simp only [Act.put, List.setIfInBounds_toArray, List.set_cons_zero, List.set_cons_succ, List.getElem_toArray, List.getElem_cons_succ, List.getElem_cons_zero]
                  refine wpAnyH_done (by kernel_rfl) ?_ _
                  clear hHeld k1 z1
                  have HR6 := Lib.hid (HPU.out v6 gg c6 HO6.out HGX.out)
                  have HK6 : Hid (i + 1 ≤ c6) := Lib.hid (by obtain ⟨_, _, e, h'⟩ := own_slice HO6.out; injection e with _ _ e; omega)
                  have HZ6 : Hid (w6.heap.size + 1 ≤ v6.heap.size) := Lib.hid (by have := HGX.out.size; simp at this; omega)
                  go_wp2_with fail
                  go_roundw
                  case rel => exact ⟨i + 1, c6, _, by go_num, by omega, HK6.out, HR6.out.low8 (grownBy_setCell _ _ _) (Nat.lt_succ_self _), HT6.out.set1 _, HS7.out, by have := HZ6.out; simp; omega⟩
                  case measure => simp [intOf]; omega
                · go_simp
                  refine hK.out _ _ (by first | exact HS0.out | exact HS1.out | exact HS2.out | exact HS6.out | exact HS7.out) (fun hHeld => ?_)
                  clear hK K
                  try simp only [Act.put, List.setIfInBounds_toArray, List.set_cons_zero, List.set_cons_succ, List.getElem_toArray, List.getElem_cons_succ, List.getElem_cons_zero]
                  refine wpAnyH_ready (rs := [1, 18]) (by kernel_rfl) (by simp) ?_
                  refine (AllReadyH.cons (o := _) rfl (fun K hK => ?_) (AllReadyH.cons (o := _) rfl (fun K hK => ?_) AllReadyH.nil))
                  · have c1 : ((wo.alloc (.cells #[.int .i64 (fi : Int), .int .i64 (ti : Int), .int .i64 (ci : Int)] 3)).drew).cell? ⟨w6.heap.size, 1, none⟩ = some (.slice ax i cp) := (HT.out.block (show ((wo.alloc (.cells #[.int .i64 (fi : Int), .int .i64 (ti : Int), .int .i64 (ci : Int)] 3)).drew).heap[w6.heap.size]? = wo.heap[w6.heap.size]? from Below.heap_alloc _ _ _ HT.out.lt)).2.1
                    go_simp
                    refine hK.out _ _ (by first | exact HS0.out | exact HS1.out | exact HS2.out | exact HS6.out | exact HS7.out) (fun hHeld => ?_)
                    clear hK K
                    try simp only [Act.put, List.setIfInBounds_toArray, List.set_cons_zero, List.set_cons_succ, List.getElem_toArray, List.getElem_cons_succ, List.getElem_cons_zero]
                    clear c1
                    refine wpAnyH_ready (rs := [18]) (by kernel_rfl) (by simp) ?_
                    refine AllReadyH.cons (o := _) rfl (fun K hK => ?_) AllReadyH.nil
                    go_simp
                    refine hK.out _ _ (by first | exact HS0.out | exact HS1.out | exact HS2.out | exact HS6.out | exact HS7.out) (fun hHeld => ?_)
                    clear hK K
                    try simp only [Act.put, List.setIfInBounds_toArray, List.set_cons_zero, List.set_cons_succ, List.getElem_toArray, List.getElem_cons_succ, List.getElem_cons_zero]
                    refine wpAnyH_ready (rs := [19]) (by kernel_rfl) (by simp) ?_
                    refine AllReadyH.cons (o := _) rfl (fun K hK => ?_) AllReadyH.nil
                    refine step_append_lies _ (by rfl) _ _ _ (by rfl) (w6.heap.size + 1) 23 i1 _ 1 24 Try.underlying24 hj hy0 hy1 hy2 rfl (by omega) (.slice ax i cp) i _ (by rfl) (((HUV.out.alloc _).alloc _).drew) ⟨wo.heap.size + 1, 0, none⟩ 1 1 [.slice (some ⟨wo.heap.size, 0, none⟩) 3 3] (by rfl) (by rfl) (World.news_of_block (cs := #[.slice (some ⟨wo.heap.size, 0, none⟩) 3 3]) (t := 23) (fr := (0, 0)) HNBL.out) (by simp [Value.oneCell']) (by omega) (by unfold maxLen; omega) (by omega) (by simp; omega) (wo.heap.size + 2) (by simp) ?_
                    intro gg c6 v6 hown6 hgrow hat hlt
                    have HGX := Lib.hid (show (((wo.alloc (.cells #[.int .i64 (fi : Int), .int .i64 (ti : Int), .int .i64 (ci : Int)] 3)).alloc (.cells #[.slice (some ⟨wo.heap.size, 0, none⟩) 3 3] 23))).grownBy v6 (Value.slice ax i cp).ownBlock from grown_comp (grownBy_drewN _ 1 _) hgrow)
                    have HO6 := Lib.hid hown6
                    have HS6 := Lib.hid (HBA.out.grown HGX.out (by simp; omega) (fun g hg => by have := own_block HUV.out g hg; omega))
                    clear hgrow hat hlt hown6
                    refine hK.out _ _ (by first | exact HS0.out | exact HS1.out | exact HS2.out | exact HS6.out | exact HS7.out) (fun hHeld => ?_)
                    clear hK K
                    try simp only [Act.put, List.setIfInBounds_toArray, List.set_cons_zero, List.set_cons_succ, List.getElem_toArray, List.getElem_cons_succ, List.getElem_cons_zero]
                    refine wpAnyH_take (i := 20) (v := .pointer (some ⟨w6.heap.size, 1, none⟩)) rfl (by kernel_rfl) (by kernel_rfl) (by kernel_rfl) (fun _ _ _ h => h) (Or.inl ⟨by rfl, ?_⟩) hHeld ?_
                    · rintro w' hS; go_simp
                    try simp only [Act.put, List.setIfInBounds_toArray, List.set_cons_zero, List.set_cons_succ, List.getElem_toArray, List.getElem_cons_succ, List.getElem_cons_zero]
                    have HT6 := Lib.hid (HFT.out v6 HGX.out)
                    have HS7 := Lib.hid (HS6.out.setCell (p := ⟨w6.heap.size, 1, none⟩) (Nat.le_refl _) (.slice (some ⟨gg, 0, none⟩) (i + 1) c6))
                    obtain ⟨_, k1, z1⟩ := HT6.out
                    refine wpAnyH_ready (rs := [21]) (by kernel_rfl) (by simp) ?_
                    refine AllReadyH.cons (o := _) rfl (fun K hK => ?_) AllReadyH.nil
                    go_simp
                    refine hK.out _ _ (by first | exact HS0.out | exact HS1.out | exact HS2.out | exact HS6.out | exact HS7.out) (fun hHeld => ?_)
                    clear hK K
                    try simp only [Act.put, List.setIfInBounds_toArray, List.set_cons_zero, List.set_cons_succ, List.getElem_toArray, List.getElem_cons_succ, List.getElem_cons_zero]
                    refine wpAnyH_done (by kernel_rfl) ?_ _
                    clear hHeld k1 z1
                    have HR6 := Lib.hid (HPU.out v6 gg c6 HO6.out HGX.out)
                    have HK6 : Hid (i + 1 ≤ c6) := Lib.hid (by obtain ⟨_, _, e, h'⟩ := own_slice HO6.out; injection e with _ _ e; omega)
                    have HZ6 : Hid (w6.heap.size + 1 ≤ v6.heap.size) := Lib.hid (by have := HGX.out.size; simp at this; omega)
                    go_wp2_with fail
                    go_roundw
                    case rel => exact ⟨i + 1, c6, _, by go_num, by omega, HK6.out, HR6.out.low8 (grownBy_setCell _ _ _) (Nat.lt_succ_self _), HT6.out.set1 _, HS7.out, by have := HZ6.out; simp; omega⟩
                    case measure => simp [intOf]; omega
                  · go_simp
                    refine hK.out _ _ (by first | exact HS0.out | exact HS1.out | exact HS2.out | exact HS6.out | exact HS7.out) (fun hHeld => ?_)
                    clear hK K
                    try simp only [Act.put, List.setIfInBounds_toArray, List.set_cons_zero, List.set_cons_succ, List.getElem_toArray, List.getElem_cons_succ, List.getElem_cons_zero]
                    refine wpAnyH_ready (rs := [1]) (by kernel_rfl) (by simp) ?_
                    refine AllReadyH.cons (o := _) rfl (fun K hK => ?_) AllReadyH.nil
                    have c1 : (((wo.alloc (.cells #[.int .i64 (fi : Int), .int .i64 (ti : Int), .int .i64 (ci : Int)] 3)).alloc (.cells #[.slice (some ⟨wo.heap.size, 0, none⟩) 3 3] 23)).drew).cell? ⟨w6.heap.size, 1, none⟩ = some (.slice ax i cp) := (HT.out.block (show (((wo.alloc (.cells #[.int .i64 (fi : Int), .int .i64 (ti : Int), .int .i64 (ci : Int)] 3)).alloc (.cells #[.slice (some ⟨wo.heap.size, 0, none⟩) 3 3] 23)).drew).heap[w6.heap.size]? = wo.heap[w6.heap.size]? from (Below.heap_alloc _ _ _ (by have := HT.out.lt; simp; omega)).trans (Below.heap_alloc _ _ _ HT.out.lt))).2.1
                    go_simp
                    refine hK.out _ _ (by first | exact HS0.out | exact HS1.out | exact HS2.out | exact HS6.out | exact HS7.out) (fun hHeld => ?_)
                    clear hK K
                    try simp only [Act.put, List.setIfInBounds_toArray, List.set_cons_zero, List.set_cons_succ, List.getElem_toArray, List.getElem_cons_succ, List.getElem_cons_zero]
                    clear c1
                    refine wpAnyH_ready (rs := [19]) (by kernel_rfl) (by simp) ?_
                    refine AllReadyH.cons (o := _) rfl (fun K hK => ?_) AllReadyH.nil
                    refine step_append_lies _ (by rfl) _ _ _ (by rfl) (w6.heap.size + 1) 23 i1 _ 1 24 Try.underlying24 hj hy0 hy1 hy2 rfl (by omega) (.slice ax i cp) i _ (by rfl) (((HUV.out.alloc _).alloc _).drew) ⟨wo.heap.size + 1, 0, none⟩ 1 1 [.slice (some ⟨wo.heap.size, 0, none⟩) 3 3] (by rfl) (by rfl) (World.news_of_block (cs := #[.slice (some ⟨wo.heap.size, 0, none⟩) 3 3]) (t := 23) (fr := (0, 0)) HNBL.out) (by simp [Value.oneCell']) (by omega) (by unfold maxLen; omega) (by omega) (by simp; omega) (wo.heap.size + 2) (by simp) ?_
                    intro gg c6 v6 hown6 hgrow hat hlt
                    have HGX := Lib.hid (show (((wo.alloc (.cells #[.int .i64 (fi : Int), .int .i64 (ti : Int), .int .i64 (ci : Int)] 3)).alloc (.cells #[.slice (some ⟨wo.heap.size, 0, none⟩) 3 3] 23))).grownBy v6 (Value.slice ax i cp).ownBlock from grown_comp (grownBy_drewN _ 1 _) hgrow)
                    have HO6 := Lib.hid hown6
                    have HS6 := Lib.hid (HBA.out.grown HGX.out (by simp; omega) (fun g hg => by have := own_block HUV.out g hg; omega))
                    clear hgrow hat hlt hown6
                    refine hK.out _ _ (by first | exact HS0.out | exact HS1.out | exact HS2.out | exact HS6.out | exact HS7.out) (fun hHeld => ?_)
                    clear hK K
                    try simp only [Act.put, List.setIfInBounds_toArray, List.set_cons_zero, List.set_cons_succ, List.getElem_toArray, List.getElem_cons_succ, List.getElem_cons_zero]
                    refine wpAnyH_take (i := 20) (v := .pointer (some ⟨w6.heap.size, 1, none⟩)) rfl (by kernel_rfl) (by kernel_rfl) (by kernel_rfl) (fun _ _ _ h => h) (Or.inl ⟨by rfl, ?_⟩) hHeld ?_
                    · rintro w' hS; go_simp
                    try simp only [Act.put, List.setIfInBounds_toArray, List.set_cons_zero, List.set_cons_succ, List.getElem_toArray, List.getElem_cons_succ, List.getElem_cons_zero]
                    have HT6 := Lib.hid (HFT.out v6 HGX.out)
                    have HS7 := Lib.hid (HS6.out.setCell (p := ⟨w6.heap.size, 1, none⟩) (Nat.le_refl _) (.slice (some ⟨gg, 0, none⟩) (i + 1) c6))
                    obtain ⟨_, k1, z1⟩ := HT6.out
                    refine wpAnyH_ready (rs := [21]) (by kernel_rfl) (by simp) ?_
                    refine AllReadyH.cons (o := _) rfl (fun K hK => ?_) AllReadyH.nil
                    go_simp
                    refine hK.out _ _ (by first | exact HS0.out | exact HS1.out | exact HS2.out | exact HS6.out | exact HS7.out) (fun hHeld => ?_)
                    clear hK K
                    try simp only [Act.put, List.setIfInBounds_toArray, List.set_cons_zero, List.set_cons_succ, List.getElem_toArray, List.getElem_cons_succ, List.getElem_cons_zero]
                    refine wpAnyH_done (by kernel_rfl) ?_ _
                    clear hHeld k1 z1
                    have HR6 := Lib.hid (HPU.out v6 gg c6 HO6.out HGX.out)
                    have HK6 : Hid (i + 1 ≤ c6) := Lib.hid (by obtain ⟨_, _, e, h'⟩ := own_slice HO6.out; injection e with _ _ e; omega)
                    have HZ6 : Hid (w6.heap.size + 1 ≤ v6.heap.size) := Lib.hid (by have := HGX.out.size; simp at this; omega)
                    go_wp2_with fail
                    go_roundw
                    case rel => exact ⟨i + 1, c6, _, by go_num, by omega, HK6.out, HR6.out.low8 (grownBy_setCell _ _ _) (Nat.lt_succ_self _), HT6.out.set1 _, HS7.out, by have := HZ6.out; simp; omega⟩
                    case measure => simp [intOf]; omega
            · have hie : i = lW := by omega
              have hiI : ¬ (i : Int) < (lW : Int) := by omega
              have hwo : Below w6.heap.size w6 wo := HB.out
              have hmr : moreRows ts rows i = moreRows ts rows rows.length := by rw [hie, HWL.out]
              have hrw := HOWN.out.rows (by omega)
              rw [hmr] at hrw
              have HNR : Hid (NetAt wo (· < wo.heap.size) ⟨aT, lT, cT, ax, i, cp⟩ ts (moreRows ts rows rows.length)) := Lib.hid ⟨(((HON6.out _ (Below.refl _ _)).at'.t).below hwo).to (fun b hb => ⟨Nat.lt_of_lt_of_le hb hwo.size, rfl⟩), hrw.to (fun b hb => ⟨hb.2, rfl⟩), (HON6.out _ (Below.refl _ _)).at'.ct, by show i ≤ cp; omega⟩
              obtain ⟨⟨k0, z0⟩, k1, z1⟩ := HT.out
              obtain ⟨c0, c1⟩ := (HON6.out _ hwo).box
              dsimp only at c0 c1
              have HWO := Lib.hid hwo
              clear hmr hrw hwo HOWN hie
              go_wp2_with fail
              refine (beginsAt_impl ⟨aT, lT, cT, ax, i, cp⟩ ts (moreRows ts rows rows.length) (r : Int) wo HNR.out).mono ?_
              rintro e w8 hG3
              obtain ⟨aG3, n3, rfl, hb8, x1, x2, hlen3, hpos3⟩ := begOwn_b hG3
              have hal2 := moreRows_alive HAL.out h3
              rw [begRes_yes hal2 (by omega), bRows_len] at hlen3
              have hlen4 : r = n3 := hlen3.symm
              subst hlen4
              obtain ⟨_, _, G3, Br3, rfl, hbw3, hG3lt, hBr3lt⟩ := hpos3 (by omega)
              clear x1 x2 hlen3 hpos3 hG3 hal2 k0 z0 k1 z1 c0 c1
              have HB68 := Lib.hid (HWO.out.trans (hb8.mono HWO.out.size))
              have HT8 := Lib.hid (HT.out.block (hb8.block _ HT.out.lt))
              have HNR8 := Lib.hid (fun w' (hb : Below w8.heap.size w8 w') => net_lift HNR.out (hb8.trans (hb.mono hb8.size)))
              have HE1 := Lib.hid (fun w' (d : Drew w8 w') => HBWV.out.to (w' := w') (fun _ => (HB68.out.trans (d.below _)).block G hGlt) (fun q hq => (HB68.out.trans (d.below _)).block _ (hBrlt q hq)))
              have HE3 := Lib.hid (fun w' (d : Drew w8 w') => hbw3.to (w' := w') (fun _ => (d.below w8.heap.size).block G3 hG3lt) (fun q hq => (d.below w8.heap.size).block _ (hBr3lt q hq)))
              have HLE := Lib.hid (fun q v (hq : q ≤ 40) (hv : v < ts.length) => moreRows_b HAL.out h3 (r := q) (v := v) hq hv)
              have HPAC := Lib.hid (fun U D U' D' hp hp' => moreRows_pace (ts := ts) (rows := rows) (U := U) (D := D) (U' := U') (D' := D') hp hp')
              have HAL2 := Lib.hid (moreRows_alive HAL.out h3)
              rw [HTL.out] at HE1 HE3 HLE
              clear hb8 hbw3 hG3lt hBr3lt HBWV
              go_wp2_with fail
              go_loopw [10] (fun s10 wr => ∃ q : Nat, q ≤ r ∧ s10 = .int .i64 q ∧ Drew w8 wr) (fun s10 _ => r - (intOf s10).toNat)
              case atStart => exact ⟨0, Nat.zero_le _, rfl, Drew.refl _⟩
              case round =>
                obtain ⟨q, hq, rfl, hd⟩ := hrel
                have HD := Lib.hid hd
                clear hd
                by_cases hqr : q < r
                · have hqI : (q : Int) < (r : Int) := by omega
                  have p1 := (HE3.out _ HD.out q hqr).1
                  have p2 := (HE1.out _ HD.out q hqr).1
                  have HCM := Lib.hid (show ∀ n, Calls Try.prog 12 #[.slice (some ⟨Br3 q, 0, none⟩) lT lT, .slice (some ⟨Br q, 0, none⟩) lT lT] (wr.drewN n) (fun e w' => e = .returned (.bool true) ∧ ∃ q, w' = (wr.drewN n).drewN q) from fun n =>
                    atMost8_yes _ _ _ _ lT lT lT _ _ _ (begW_ints (HE3.out _ (HD.out.drew n)) hqr (by omega)) (begW_ints (HE1.out _ (HD.out.drew n)) hqr (by omega)) (fun k hk => by rw [tab_getD _ hk, tab_getD _ hk]; exact HLE.out q k (by omega) hk))
                  go_wp2_with fail
                  go_quiet ((go_at_call 12; (with_reducible exact Calls.quiet_of (HCM.out _))))
                  go_wp2_with fail
                  go_roundw
                  case rel => exact ⟨q + 1, by omega, by go_num, HD.out.drew _⟩
                  case measure => simp [intOf]; omega
                · have hqI : ¬ (q : Int) < (r : Int) := by omega
                  have HB8 := Lib.hid (HB68.out.trans (HD.out.below w6.heap.size))
                  have HT9 := Lib.hid (HT8.out.block ((HD.out.below w8.heap.size).block _ HT8.out.lt))
                  have HNR9 := Lib.hid (HNR8.out _ (HD.out.below w8.heap.size))
                  have HON9 := Lib.hid (HON6.out _ HB8.out)
                  obtain ⟨wc, hwc⟩ : ∃ wc : World, wc = wr := ⟨_, rfl⟩
                  subst hwc
                  have HBZ9 := Lib.hid (HBZ.out.trans (HB8.out.mono HBZ.out.size))
                  clear HE1 HE3 HLE HB68 HT8 HNR8 HD
                  obtain ⟨c0, c1⟩ := HON9.out.box
                  dsimp only at c0 c1
                  go_wp2_with fail
                  refine (paceOf_impl ⟨aT, lT, cT, some ⟨bW, oW, none⟩, lW, cW⟩ ts rows _ HON9.out.at').mono ?_
                  rintro e w10 ⟨U, D, pb, rfl, hpr, hb10⟩
                  have hpc : IsPace (grOf ts rows) U D := by
                    rcases hpr with ⟨_, _, h3⟩ | ⟨h1, _, _⟩
                    · exact h3
                    · rw [HAL.out] at h1; cases h1
                  have HPC := Lib.hid hpc
                  clear hpr c0 c1
                  have hfx := (Below.refl w10.heap.size w10).alloc (Nat.le_refl _) (.cells #[.int .i64 (U : Int), .int .i64 (D : Int)] 32)
                  have fr := two_new w10 (.int .i64 (U : Int)) (.int .i64 (D : Int)) 32
                  obtain ⟨w11, hw11⟩ : ∃ wx, w10.alloc (.cells #[.int .i64 (U : Int), .int .i64 (D : Int)] 32) = wx := ⟨_, rfl⟩
                  rw [hw11] at hfx fr
                  have hb11 := hb10.trans (hfx.mono hb10.size)
                  have HW11 := Lib.hid hw11
                  have HFA := Lib.hid fr
                  have HB11 := Lib.hid hb11
                  have HT11 := Lib.hid (HT9.out.block (hb11.block _ HT9.out.lt))
                  have HNR11 := Lib.hid (net_lift HNR9.out hb11)
                  have HBZ11 := Lib.hid (HBZ9.out.trans (hb11.mono HBZ9.out.size))
                  clear hw11 hfx fr hb11 hb10 hpc
                  obtain ⟨⟨k0, z0⟩, k1, z1⟩ := HT11.out
                  rw [← HW11.out] at k0 z0 k1 z1
                  go_wp2_with fail
                  rw [HW11.out]
                  refine (paceOf_impl ⟨aT, lT, cT, ax, i, cp⟩ ts (moreRows ts rows rows.length) w11 HNR11.out).mono ?_
                  rintro e w12 ⟨U', D', pb', rfl, hpr, hb12⟩
                  have hpc : IsPace (grOf ts (moreRows ts rows rows.length)) U' D' := by
                    rcases hpr with ⟨_, _, h3⟩ | ⟨h1, _, _⟩
                    · exact h3
                    · rw [HAL2.out] at h1; cases h1
                  have hle := HPAC.out U D U' D' HPC.out hpc
                  have q1 := HPC.out.u36
                  have q2 := HPC.out.d12
                  have q3 := hpc.u36
                  have q4 := hpc.d12
                  have hls := lless_any U D U' D' (by omega)
                  rw [decide_eq_false (by omega)] at hls
                  have HLS := Lib.hid hls
                  clear hpr hpc hle hls q1 q2 q3 q4 k0 z0 k1 z1
                  have hfx := (Below.refl w12.heap.size w12).alloc (Nat.le_refl _) (.cells #[.int .i64 (U' : Int), .int .i64 (D' : Int)] 32)
                  have fr := two_new w12 (.int .i64 (U' : Int)) (.int .i64 (D' : Int)) 32
                  obtain ⟨w13, hw13⟩ : ∃ wx, w12.alloc (.cells #[.int .i64 (U' : Int), .int .i64 (D' : Int)] 32) = wx := ⟨_, rfl⟩
                  rw [hw13] at hfx fr
                  have hb13 := hb12.trans (hfx.mono hb12.size)
                  have HW13 := Lib.hid hw13
                  have HFA13 := Lib.hid (HFA.out.block (hb13.block _ HFA.out.lt))
                  have HFB13 := Lib.hid fr
                  have HBZ13 := Lib.hid (HBZ11.out.trans (hb13.mono HBZ11.out.size))
                  clear hw13 hfx fr hb13 hb12
                  obtain ⟨⟨k0, z0⟩, k1, z1⟩ := HFA13.out
                  obtain ⟨⟨l0, y0⟩, l1, y1⟩ := HFB13.out
                  rw [← HW13.out] at k0 z0 k1 z1 l0 y0 l1 y1
                  go_wp2_with fail
                  rw [HW13.out]
                  refine (HLS.out w13).mono ?_
                  rintro e w14 ⟨rfl, hb14⟩
                  have HBE := Lib.hid (HBZ13.out.trans (hb14.mono HBZ13.out.size))
                  clear hb14
                  go_wp2_with fail
                  go_ret
                  exact ⟨rfl, HBE.out⟩
  · go_enter Try.func4, Try.ntmps4
    go_wp2_with fail
    go_ret
    exact ⟨rfl, Below.refl _ _⟩
end Go.Proofs.Ytkjmpkincaainad
