/- The law FnRingsOfTokens returns true at every code, and the code reads behind the call as it read before. No condition. -/
import Derived.Test.YtkebdelfklmigadRows
import Derived.WalkKit
import Derived.LoopTactic
import Derived.Outline
import Derived.WalkSpells
import Derived.WalkLawsBesides
import Derived.ProofKit
import Derived.Deep.QuietTactic
import Derived.BigQuiet
import Derived.IntWalk
import Derived.Test.YtkebdelfklmigadM0
import Derived.Test.YtkebdelfklmigadM1
import Derived.Test.YtkebdelfklmigadM2
import Derived.Test.YtkebdelfklmigadM6
import Derived.Test.YtkebdelfklmigadM4
import Derived.Test.YtkebdelfklmigadM12
import Derived.Test.YtkebdelfklmigadM14
import Derived.Test.YtkebdelfklmigadM17
import Derived.Test.YtkebdelfklmigadM19
import Derived.Test.YtkebdelfklmigadM10
import Derived.Test.YtkebdelfklmigadM15
namespace Go.Proofs.Ytkebdelfklmigad
open Go.RowKit Go.WideShapes

theorem OwnRowsV.low {w w' : World} {B k R : Nat} {v : Value} {rows : List (List Int)} (h : OwnRowsV w B v k rows) (hg : w.grownBy w' (some R)) (hR : R < B) : OwnRowsV w' B v k rows := by
  obtain ⟨us, h1, h2, h3⟩ := h
  exact ⟨us, h1.kept hg (ne_low h1 hR), h2, fun q u hq => by
    obtain ⟨a, l, c, r, e1, e2, e3, e4, e5⟩ := h3 q u hq
    exact ⟨a, l, c, r, e1, e2, e3, e4, e5.kept hg (ne_low e5 hR)⟩⟩

set_option maxRecDepth 100000 in
set_option maxHeartbeats 8000000 in
theorem fnRingsOfTokens_any (a : Option Addr) (len cap : Nat) (w : World) (hb : BytesAt w w.heap.size a len) (hl : len ≤ cap) (hs : len ≤ 9223372036854775807) :
    Calls Try.prog 6 #[.slice a len cap] w (LawPost w) := by
  by_cases h20 : len ≤ 1048576
  · go_enter Try.func6, Try.ntmps6
    have hB0 := Below.refl w.heap.size w
    go_wp2_with fail
    refine (drawPaceOf_any a len cap w hb hl hs).mono ?_
    rintro e w1 ⟨d, ts, rows, rfl, n_n, hT4, hW8, hb1⟩
    have hB1 : Below w.heap.size w w1 := hB0.trans (hb1.mono hB0.size)
    clear hB0
    obtain ⟨aT, lT, cT, aW, lW, cW⟩ := d
    clear hb hb1
    have ona_n := netOn_new n_n 26
    have hbx := (Below.refl w1.heap.size w1).alloc (Nat.le_refl _) (.cells #[.slice aT lT cT, .slice aW lW cW] 26)
    obtain ⟨w2, hw2⟩ : ∃ wx, w1.alloc (.cells #[.slice aT lT cT, .slice aW lW cW] 26) = wx := ⟨_, rfl⟩
    rw [hw2] at ona_n hbx
    have HW2 := Lib.hid hw2
    clear hw2
    have hB2 : Below w.heap.size w w2 := hB1.trans (hbx.mono hB1.size)
    clear hB1
    clear hbx
    have ona_2 := ona_n
    clear ona_n
    clear n_n
    dsimp only at hT4 hW8
    obtain ⟨ca0, ca1⟩ := ona_2.box
    dsimp only at ca0 ca1
    go_wp2_with fail
    rw [HW2.out]
    refine (paceOf_impl ⟨aT, lT, cT, aW, lW, cW⟩ ts rows w2 ona_2.at').mono ?_
    rintro e w3 ⟨U, D, pb, rfl, hpr, hb3⟩
    clear ca0 ca1
    have ona_3 := ona_2.lift hb3
    have hB3 : Below w.heap.size w w3 := hB2.trans (hb3.mono hB2.size)
    clear hB2
    clear ona_2
    clear hb3
    have HPR := Lib.hid hpr
    clear hpr
    have frx_n := two_new w3 (.int .i64 (U : Int)) (.int .i64 (D : Int)) 32
    have hbx := (Below.refl w3.heap.size w3).alloc (Nat.le_refl _) (.cells #[.int .i64 (U : Int), .int .i64 (D : Int)] 32)
    obtain ⟨w4, hw4⟩ : ∃ wx, w3.alloc (.cells #[.int .i64 (U : Int), .int .i64 (D : Int)] 32) = wx := ⟨_, rfl⟩
    rw [hw4] at frx_n hbx
    have HW4 := Lib.hid hw4
    clear hw4
    have ona_4 := ona_3.lift hbx
    have hB4 : Below w.heap.size w w4 := hB3.trans (hbx.mono hB3.size)
    clear hB3
    clear ona_3
    clear hbx
    have frx_4 := frx_n
    clear frx_n
    obtain ⟨ca0, ca1⟩ := ona_4.box
    dsimp only at ca0 ca1
    have cx0 := frx_4.1.1
    have cx1 := frx_4.2.1
    rw [← HW4.out] at ca0 ca1 cx0 cx1
    go_wp2_with fail
    rw [HW4.out]
    refine (paceOf_spec ⟨aT, lT, cT, aW, lW, cW⟩ ts rows w4 ona_4.at').mono ?_
    rintro e w5 ⟨U2, D2, pb2, rfl, hpr2, hb4⟩
    clear ca0 ca1
    clear cx0 cx1
    have frx_5 := frx_4.block (hb4.block _ frx_4.lt)
    clear frx_4
    have ona_5 := ona_4.lift hb4
    have hB5 : Below w.heap.size w w5 := hB4.trans (hb4.mono hB4.size)
    clear hB4
    clear ona_4
    clear hb4
    obtain ⟨eU, eD, eb⟩ := paceRes_unique hpr2 HPR.out
    subst eU
    subst eD
    subst eb
    clear hpr2
    have fru_n := two_new w5 (.int .i64 (U2 : Int)) (.int .i64 (D2 : Int)) 32
    have hbx := (Below.refl w5.heap.size w5).alloc (Nat.le_refl _) (.cells #[.int .i64 (U2 : Int), .int .i64 (D2 : Int)] 32)
    obtain ⟨w6, hw6⟩ : ∃ wx, w5.alloc (.cells #[.int .i64 (U2 : Int), .int .i64 (D2 : Int)] 32) = wx := ⟨_, rfl⟩
    rw [hw6] at fru_n hbx
    have HW6 := Lib.hid hw6
    clear hw6
    have frx_6 := frx_5.block (hbx.block _ frx_5.lt)
    clear frx_5
    have ona_6 := ona_5.lift hbx
    have hB6 : Below w.heap.size w w6 := hB5.trans (hbx.mono hB5.size)
    clear hB5
    clear ona_5
    clear hbx
    have fru_6 := fru_n
    clear fru_n
    have hne := run_neq_frac U2 D2
    have hbb : (pb2 != pb2) = false := by simp
    obtain ⟨ca0, ca1⟩ := ona_6.box
    dsimp only at ca0 ca1
    have cx0 := frx_6.1.1
    have cx1 := frx_6.2.1
    have cu0 := fru_6.1.1
    have cu1 := fru_6.2.1
    rw [← HW6.out] at ca0 ca1 cx0 cx1 cu0 cu1
    go_wp2_with fail
    rw [HW6.out]
    refine (validNet_impl ⟨aT, lT, cT, aW, lW, cW⟩ ts rows w6 ona_6.at').mono ?_
    rintro e w7 ⟨rfl, hb5⟩
    clear ca0 ca1
    clear cx0 cx1
    clear cu0 cu1
    have frx_7 := frx_6.block (hb5.block _ frx_6.lt)
    clear frx_6
    have fru_7 := fru_6.block (hb5.block _ fru_6.lt)
    clear fru_6
    have ona_7 := ona_6.lift hb5
    have hB7 : Below w.heap.size w w7 := hB6.trans (hb5.mono hB6.size)
    clear hB6
    clear ona_6
    clear hb5 hne hbb
    cases hv : tokM ts rows
    · obtain ⟨ca0, ca1⟩ := ona_7.box
      dsimp only at ca0 ca1
      have cx0 := frx_7.1.1
      have cx1 := frx_7.2.1
      have cu0 := fru_7.1.1
      have cu1 := fru_7.2.1
      go_wp2_with fail
      go_ret
      exact ⟨rfl, hB7⟩
    · have HV := Lib.hid hv
      have HTL := Lib.hid ona_7.at'.t.lenEq
      dsimp only at HTL
      clear hv
      by_cases h0 : lT = 0
      · subst h0
        obtain ⟨ca0, ca1⟩ := ona_7.box
        dsimp only at ca0 ca1
        have cx0 := frx_7.1.1
        have cx1 := frx_7.2.1
        have cu0 := fru_7.1.1
        have cu1 := fru_7.2.1
        go_wp2_with fail
        go_ret
        exact ⟨rfl, hB7⟩
      · have h0e : ((lT : Int) == 0) = false := by simp; omega
        have hl0 : 0 < lT := by omega
        obtain ⟨T, hT, hT36⟩ := tot_nat HV.out
        have HTT := Lib.hid hT
        have HPC := Lib.hid (fun c h1 h2 U D b hp => ring_pace (c := c) (U := U) (D := D) (b := b) HV.out HTL.out hl0 h1 h2 HTT.out hT36 hp)
        clear hT
        obtain ⟨ca0, ca1⟩ := ona_7.box
        dsimp only at ca0 ca1
        go_wp2_with fail
        have HON := Lib.hid ona_7
        have HBW := Lib.hid hB7
        clear ca0 ca1 ona_7 hB7 frx_7 fru_7
        go_loopw [9] (fun s9 wr => ∃ c : Nat, s9 = .int .i64 c ∧ 1 ≤ c ∧ c ≤ 4 ∧ NetOn wr w1.heap.size ⟨aT, lT, cT, aW, lW, cW⟩ ts rows ∧ Below w.heap.size w wr) (fun s9 _ => 4 - (intOf s9).toNat)
        case atStart => exact ⟨1, rfl, by omega, by omega, HON.out, HBW.out⟩
        case round =>
          clear HON HBW
          obtain ⟨c, rfl, hc1, hc4, hon, hbw⟩ := hrel
          obtain ⟨wc, rfl⟩ : ∃ wc : World, wc = wr := ⟨_, rfl⟩
          have HON := Lib.hid hon
          have HBW := Lib.hid hbw
          clear hon hbw
          by_cases hc3 : c ≤ 3
          · have hcI : (c : Int) ≤ 3 := by omega
            obtain ⟨ca0, ca1⟩ := HON.out.box
            dsimp only at ca0 ca1
            -- the ring's box
            have hbx := (Below.refl wc.heap.size wc).alloc (Nat.le_refl _) (.cells #[.slice aT lT cT, .slice none 0 0] 26)
            have htx := two_new wc (.slice aT lT cT) (.slice none 0 0) 26
            have hzx : (wc.alloc (.cells #[.slice aT lT cT, .slice none 0 0] 26)).heap.size = wc.heap.size + 1 := by simp
            obtain ⟨wx, hwx⟩ : ∃ wx, wc.alloc (.cells #[.slice aT lT cT, .slice none 0 0] 26) = wx := ⟨_, rfl⟩
            rw [hwx] at hbx htx hzx
            have HWX := Lib.hid hwx
            have HBX := Lib.hid hbx
            have HTX := Lib.hid htx
            have HZX := Lib.hid hzx
            clear hwx hbx htx hzx
            go_wp2_with fail
            rw [HWX.out]
            clear ca0 ca1
            have HOW : Hid (OwnRowsV wx (wc.heap.size + 1) (.slice none 0 0) 0 []) := Lib.hid ⟨[], ⟨rfl, .inl ⟨rfl, rfl⟩⟩, rfl, fun q u hq => by simp at hq⟩
            go_loopw [11] (fun s11 wr => ∃ (i cp : Nat) (ax : Option Addr), s11 = .int .i64 i ∧ i ≤ lT ∧ i ≤ cp + 0 ∧ OwnRowsV wr (wc.heap.size + 1) (.slice ax i cp) i (ringRows lT c i) ∧ Two wr wc.heap.size (.slice aT lT cT) (.slice ax i cp) ∧ Below wc.heap.size wc wr ∧ wc.heap.size + 1 ≤ wr.heap.size) (fun s11 _ => lT - (intOf s11).toNat)
            case atStart => exact ⟨0, 0, none, rfl, by omega, by omega, HOW.out, HTX.out, HBX.out, by have := HZX.out; omega⟩
            case round =>
              clear HOW HTX HBX
              obtain ⟨i, cp, ax, rfl, hi, hicp, hown, ht, hb, hs1⟩ := hrel
              obtain ⟨wo, rfl⟩ : ∃ wo : World, wo = wr := ⟨_, rfl⟩
              have HOWN := Lib.hid hown
              have HT := Lib.hid ht
              have HB := Lib.hid hb
              clear hown ht hb
              by_cases hil : i < lT
              · have hiI : (i : Int) < (lT : Int) := by omega
                skip
                by_cases hil1 : i = lT - 1
                · have hiE : ((i : Int) == (lT : Int) - 1) = true := by simp; omega
                  have HIL := Lib.hid hil1
                  clear hil1
                  have hlz : ¬ lT = 0 := by omega
                  have HWI : Hid (IntKind.i64.wrap ((i : Int) + 1) = (i : Int) + 1) := Lib.hid (IntWalk.i64_in _ (by omega))
                  have HXMN : Hid (((i : Int) + 1) % (lT : Int) = (((i + 1) % lT : Nat) : Int)) := Lib.hid (by push_cast; rfl)
                  obtain ⟨xm, hxm⟩ : ∃ xm, ((i : Int) + 1) % (lT : Int) = xm := ⟨_, rfl⟩
                  have HXM := Lib.hid hxm
                  rw [hxm] at HXMN
                  clear hxm
                  obtain ⟨i1, hj, hy0, hy1, hy2⟩ := info_parts Try.infoInts
                  obtain ⟨us, huv, hul, hus⟩ := HOWN.out
                  have HUV := Lib.hid huv
                  have HUL := Lib.hid hul
                  have HUS := Lib.hid hus
                  clear huv hul hus
                  have HNB : Hid ((((wo.alloc (.cells #[.int .i64 (i : Int), .int .i64 xm, .int .i64 c] 3)).alloc (.cells #[.slice (some ⟨wo.heap.size, 0, none⟩) 3 3] 23))).heap[wo.heap.size + 1]? = some (.cells #[.slice (some ⟨wo.heap.size, 0, none⟩) 3 3] 23 (0, 0))) := Lib.hid (by
                    have h1 := heap_alloc_new (wo.alloc (.cells #[.int .i64 (i : Int), .int .i64 xm, .int .i64 c] 3)) (.cells #[.slice (some ⟨wo.heap.size, 0, none⟩) 3 3] 23)
                    rw [show (wo.alloc (.cells #[.int .i64 (i : Int), .int .i64 xm, .int .i64 c] 3)).heap.size = wo.heap.size + 1 by simp] at h1
                    exact h1)
                  have HFT := Lib.hid (fun w' (hg : (((wo.alloc (.cells #[.int .i64 (i : Int), .int .i64 xm, .int .i64 c] 3)).alloc (.cells #[.slice (some ⟨wo.heap.size, 0, none⟩) 3 3] 23))).grownBy w' (Value.slice ax i cp).ownBlock) => (show Two w' wc.heap.size (.slice aT lT cT) (.slice ax i cp) from ((HT.out.block (w' := ((wo.alloc (.cells #[.int .i64 (i : Int), .int .i64 xm, .int .i64 c] 3)).alloc (.cells #[.slice (some ⟨wo.heap.size, 0, none⟩) 3 3] 23))) ((Below.heap_alloc _ _ _ (by have := HT.out.lt; simp; omega)).trans (Below.heap_alloc _ _ _ HT.out.lt))).grown hg (fun e => by have := own_block HUV.out _ e.symm; omega))))
                  have HROW : Hid ([(i : Int), xm, (c : Int)] = ringRow lT c i) := Lib.hid (by unfold ringRow; rw [HXMN.out]; simp [HIL.out])
                  have HPU := Lib.hid (fun w6 gg c6 ho hg => (show OwnRowsV w6 (wc.heap.size + 1) (.slice (some ⟨gg, 0, none⟩) (i + 1) c6) (i + 1) (ringRows lT c (i + 1)) by rw [ring_snoc, ← HROW.out]; exact OwnRowsV.push (a := some ⟨wo.heap.size, 0, none⟩) (c := 3) (l := 3) ((HUV.out.alloc (.cells #[.int .i64 (i : Int), .int .i64 xm, .int .i64 c] 3)).alloc (.cells #[.slice (some ⟨wo.heap.size, 0, none⟩) 3 3] 23)) HUL.out (fun q u hq => by obtain ⟨a', l', c', r', e1, e2, e3, e4, e5⟩ := HUS.out q u hq; exact ⟨a', l', c', r', e1, e2, e3, e4, (e5.alloc _).alloc _⟩) ((own_lit3 wo (by omega) (i : Int) xm c).alloc _) (Nat.le_refl _) (by omega) ho hg))
                  have HBA := Lib.hid ((HB.out.alloc (by omega) (.cells #[.int .i64 (i : Int), .int .i64 xm, .int .i64 c] 3)).alloc (by simp; omega) (.cells #[.slice (some ⟨wo.heap.size, 0, none⟩) 3 3] 23))
                  clear HOWN
                  go_wp2_with fail
                  refine wp_region_held_drew (S := (fun _ => True)) (by kernel_rfl) trivial (fun hHeld => ?_)
                  refine wpAnyH_take (i := 0) (v := .pointer (some ⟨wc.heap.size, 1, none⟩)) rfl (by kernel_rfl) (by kernel_rfl) (by kernel_rfl) (fun _ _ _ h => h) (Or.inl ⟨by rfl, ?_⟩) hHeld ?_
                  · rintro w' hS; go_simp
                  try simp only [Act.put, List.setIfInBounds_toArray, List.set_cons_zero, List.set_cons_succ, List.getElem_toArray, List.getElem_cons_succ, List.getElem_cons_zero]
                  refine wpAnyH_take (i := 2) (v := .int .i64 i) rfl (by kernel_rfl) (by kernel_rfl) (by kernel_rfl) (fun _ _ _ h => h) (Or.inl ⟨by rfl, ?_⟩) hHeld ?_
                  · rintro w' hS; go_simp
                  try simp only [Act.put, List.setIfInBounds_toArray, List.set_cons_zero, List.set_cons_succ, List.getElem_toArray, List.getElem_cons_succ, List.getElem_cons_zero]
                  refine wpAnyH_take (i := 3) (v := .int .i64 i) rfl (by kernel_rfl) (by kernel_rfl) (by kernel_rfl) (fun _ _ _ h => h) (Or.inl ⟨by rfl, ?_⟩) hHeld ?_
                  · rintro w' hS; go_simp
                  try simp only [Act.put, List.setIfInBounds_toArray, List.set_cons_zero, List.set_cons_succ, List.getElem_toArray, List.getElem_cons_succ, List.getElem_cons_zero]
                  refine wpAnyH_take (i := 4) (v := .int .i64 ((i : Int) + 1)) rfl (by kernel_rfl) (by kernel_rfl) (by kernel_rfl) (fun _ _ _ h => h) (Or.inl ⟨by rfl, ?_⟩) hHeld ?_
                  · rintro w' hS; go_simp; exact HWI.out
                  try simp only [Act.put, List.setIfInBounds_toArray, List.set_cons_zero, List.set_cons_succ, List.getElem_toArray, List.getElem_cons_succ, List.getElem_cons_zero]
                  refine wpAnyH_take (i := 5) (v := .int .i64 lT) rfl (by kernel_rfl) (by kernel_rfl) (by kernel_rfl) (fun _ _ _ h => h) (Or.inl ⟨by rfl, ?_⟩) hHeld ?_
                  · rintro w' hS; go_simp
                  try simp only [Act.put, List.setIfInBounds_toArray, List.set_cons_zero, List.set_cons_succ, List.getElem_toArray, List.getElem_cons_succ, List.getElem_cons_zero]
                  refine wpAnyH_take (i := 6) (v := .int .i64 xm) rfl (by kernel_rfl) (by kernel_rfl) (by kernel_rfl) (fun _ _ _ h => h) (Or.inl ⟨by rfl, ?_⟩) hHeld ?_
                  · rintro w' hS; go_simp; rw [← HXM.out]; exact Int.tmod_eq_emod_of_nonneg (by omega)
                  try simp only [Act.put, List.setIfInBounds_toArray, List.set_cons_zero, List.set_cons_succ, List.getElem_toArray, List.getElem_cons_succ, List.getElem_cons_zero]
                  refine wpAnyH_take (i := 7) (v := .int .i64 c) rfl (by kernel_rfl) (by kernel_rfl) (by kernel_rfl) (fun _ _ _ h => h) (Or.inl ⟨by rfl, ?_⟩) hHeld ?_
                  · rintro w' hS; go_simp
                  try simp only [Act.put, List.setIfInBounds_toArray, List.set_cons_zero, List.set_cons_succ, List.getElem_toArray, List.getElem_cons_succ, List.getElem_cons_zero]
                  refine wpAnyH_ready (rs := [1, 8]) (by kernel_rfl) (by simp) ?_
                  refine (AllReadyH.cons (o := _) rfl (fun K hK => ?_) (AllReadyH.cons (o := _) rfl (fun K hK => ?_) AllReadyH.nil))
                  · have c1 : (wo.drew).cell? ⟨wc.heap.size, 1, none⟩ = some (.slice ax i cp) := (HT.out.block (show (wo.drew).heap[wc.heap.size]? = wo.heap[wc.heap.size]? from rfl)).2.1
                    go_simp
                    refine hK.out _ _ trivial (fun hHeld => ?_)
                    clear hK K
                    try simp only [Act.put, List.setIfInBounds_toArray, List.set_cons_zero, List.set_cons_succ, List.getElem_toArray, List.getElem_cons_succ, List.getElem_cons_zero]
                    clear c1
                    refine wpAnyH_ready (rs := [8]) (by kernel_rfl) (by simp) ?_
                    refine AllReadyH.cons (o := _) rfl (fun K hK => ?_) AllReadyH.nil
                    go_simp
                    refine hK.out _ _ trivial (fun hHeld => ?_)
                    clear hK K
                    try simp only [Act.put, List.setIfInBounds_toArray, List.set_cons_zero, List.set_cons_succ, List.getElem_toArray, List.getElem_cons_succ, List.getElem_cons_zero]
                    refine wpAnyH_ready (rs := [9]) (by kernel_rfl) (by simp) ?_
                    refine AllReadyH.cons (o := _) rfl (fun K hK => ?_) AllReadyH.nil
                    go_simp
                    refine hK.out _ _ trivial (fun hHeld => ?_)
                    clear hK K
                    try simp only [Act.put, List.setIfInBounds_toArray, List.set_cons_zero, List.set_cons_succ, List.getElem_toArray, List.getElem_cons_succ, List.getElem_cons_zero]
                    refine wpAnyH_ready (rs := [10]) (by kernel_rfl) (by simp) ?_
                    refine AllReadyH.cons (o := _) rfl (fun K hK => ?_) AllReadyH.nil
                    refine step_append_lies _ (by rfl) _ _ _ (by rfl) (wc.heap.size + 1) 23 i1 _ 1 24 Try.underlying24 hj hy0 hy1 hy2 rfl (by omega) (.slice ax i cp) i _ (by rfl) (((HUV.out.alloc _).alloc _).drew) ⟨wo.heap.size + 1, 0, none⟩ 1 1 [.slice (some ⟨wo.heap.size, 0, none⟩) 3 3] (by rfl) (by rfl) (World.news_of_block (cs := #[.slice (some ⟨wo.heap.size, 0, none⟩) 3 3]) (t := 23) (fr := (0, 0)) HNB.out) (by simp [Value.oneCell']) (by omega) (by unfold maxLen; omega) (by omega) (by simp; omega) (wo.heap.size + 2) (by simp) ?_
                    intro gg c6 w6 hown6 hgrow hat hlt
                    have HGX := Lib.hid (show (((wo.alloc (.cells #[.int .i64 (i : Int), .int .i64 xm, .int .i64 c] 3)).alloc (.cells #[.slice (some ⟨wo.heap.size, 0, none⟩) 3 3] 23))).grownBy w6 (Value.slice ax i cp).ownBlock from grown_comp (grownBy_drewN _ 1 _) hgrow)
                    have HO6 := Lib.hid hown6
                    clear hgrow hat hlt hown6
                    refine hK.out _ _ trivial (fun hHeld => ?_)
                    clear hK K
                    try simp only [Act.put, List.setIfInBounds_toArray, List.set_cons_zero, List.set_cons_succ, List.getElem_toArray, List.getElem_cons_succ, List.getElem_cons_zero]
                    refine wpAnyH_take (i := 11) (v := .pointer (some ⟨wc.heap.size, 1, none⟩)) rfl (by kernel_rfl) (by kernel_rfl) (by kernel_rfl) (fun _ _ _ h => h) (Or.inl ⟨by rfl, ?_⟩) hHeld ?_
                    · rintro w' hS; go_simp
                    try simp only [Act.put, List.setIfInBounds_toArray, List.set_cons_zero, List.set_cons_succ, List.getElem_toArray, List.getElem_cons_succ, List.getElem_cons_zero]
                    have HT6 := Lib.hid (HFT.out w6 HGX.out)
                    obtain ⟨_, k1, z1⟩ := HT6.out
                    refine wpAnyH_ready (rs := [12]) (by kernel_rfl) (by simp) ?_
                    refine AllReadyH.cons (o := _) rfl (fun K hK => ?_) AllReadyH.nil
                    go_simp
                    refine hK.out _ _ trivial (fun hHeld => ?_)
                    clear hK K
                    try simp only [Act.put, List.setIfInBounds_toArray, List.set_cons_zero, List.set_cons_succ, List.getElem_toArray, List.getElem_cons_succ, List.getElem_cons_zero]
                    refine wpAnyH_done (by kernel_rfl) ?_ _
                    clear hHeld k1 z1
                    have HR6 := Lib.hid (HPU.out w6 gg c6 HO6.out HGX.out)
                    have HB6 := Lib.hid ((HBA.out.grown HGX.out (by simp; omega) (fun g hg => by have := own_block HUV.out g hg; omega)).setCell (p := ⟨wc.heap.size, 1, none⟩) (Nat.le_refl _) (.slice (some ⟨gg, 0, none⟩) (i + 1) c6))
                    have HK6 : Hid (i + 1 ≤ c6) := Lib.hid (by obtain ⟨_, _, e, h'⟩ := own_slice HO6.out; injection e with _ _ e; omega)
                    have HZ6 : Hid (wc.heap.size + 1 ≤ w6.heap.size) := Lib.hid (by have := HGX.out.size; simp at this; omega)
                    go_wp2_with fail
                    go_roundw
                    case rel => exact ⟨i + 1, c6, _, by go_num, by omega, HK6.out, HR6.out.low (grownBy_setCell _ _ _) (Nat.lt_succ_self _), HT6.out.set1 _, HB6.out, by have := HZ6.out; simp; omega⟩
                    case measure => simp [intOf]; omega
                  · go_simp
                    refine hK.out _ _ trivial (fun hHeld => ?_)
                    clear hK K
                    try simp only [Act.put, List.setIfInBounds_toArray, List.set_cons_zero, List.set_cons_succ, List.getElem_toArray, List.getElem_cons_succ, List.getElem_cons_zero]
                    refine wpAnyH_ready (rs := [1, 9]) (by kernel_rfl) (by simp) ?_
                    refine (AllReadyH.cons (o := _) rfl (fun K hK => ?_) (AllReadyH.cons (o := _) rfl (fun K hK => ?_) AllReadyH.nil))
                    · have c1 : ((wo.alloc (.cells #[.int .i64 (i : Int), .int .i64 xm, .int .i64 c] 3)).drew).cell? ⟨wc.heap.size, 1, none⟩ = some (.slice ax i cp) := (HT.out.block (show ((wo.alloc (.cells #[.int .i64 (i : Int), .int .i64 xm, .int .i64 c] 3)).drew).heap[wc.heap.size]? = wo.heap[wc.heap.size]? from Below.heap_alloc _ _ _ HT.out.lt)).2.1
                      go_simp
                      refine hK.out _ _ trivial (fun hHeld => ?_)
                      clear hK K
                      try simp only [Act.put, List.setIfInBounds_toArray, List.set_cons_zero, List.set_cons_succ, List.getElem_toArray, List.getElem_cons_succ, List.getElem_cons_zero]
                      clear c1
                      refine wpAnyH_ready (rs := [9]) (by kernel_rfl) (by simp) ?_
                      refine AllReadyH.cons (o := _) rfl (fun K hK => ?_) AllReadyH.nil
                      go_simp
                      refine hK.out _ _ trivial (fun hHeld => ?_)
                      clear hK K
                      try simp only [Act.put, List.setIfInBounds_toArray, List.set_cons_zero, List.set_cons_succ, List.getElem_toArray, List.getElem_cons_succ, List.getElem_cons_zero]
                      refine wpAnyH_ready (rs := [10]) (by kernel_rfl) (by simp) ?_
                      refine AllReadyH.cons (o := _) rfl (fun K hK => ?_) AllReadyH.nil
                      refine step_append_lies _ (by rfl) _ _ _ (by rfl) (wc.heap.size + 1) 23 i1 _ 1 24 Try.underlying24 hj hy0 hy1 hy2 rfl (by omega) (.slice ax i cp) i _ (by rfl) (((HUV.out.alloc _).alloc _).drew) ⟨wo.heap.size + 1, 0, none⟩ 1 1 [.slice (some ⟨wo.heap.size, 0, none⟩) 3 3] (by rfl) (by rfl) (World.news_of_block (cs := #[.slice (some ⟨wo.heap.size, 0, none⟩) 3 3]) (t := 23) (fr := (0, 0)) HNB.out) (by simp [Value.oneCell']) (by omega) (by unfold maxLen; omega) (by omega) (by simp; omega) (wo.heap.size + 2) (by simp) ?_
                      intro gg c6 w6 hown6 hgrow hat hlt
                      have HGX := Lib.hid (show (((wo.alloc (.cells #[.int .i64 (i : Int), .int .i64 xm, .int .i64 c] 3)).alloc (.cells #[.slice (some ⟨wo.heap.size, 0, none⟩) 3 3] 23))).grownBy w6 (Value.slice ax i cp).ownBlock from grown_comp (grownBy_drewN _ 1 _) hgrow)
                      have HO6 := Lib.hid hown6
                      clear hgrow hat hlt hown6
                      refine hK.out _ _ trivial (fun hHeld => ?_)
                      clear hK K
                      try simp only [Act.put, List.setIfInBounds_toArray, List.set_cons_zero, List.set_cons_succ, List.getElem_toArray, List.getElem_cons_succ, List.getElem_cons_zero]
                      refine wpAnyH_take (i := 11) (v := .pointer (some ⟨wc.heap.size, 1, none⟩)) rfl (by kernel_rfl) (by kernel_rfl) (by kernel_rfl) (fun _ _ _ h => h) (Or.inl ⟨by rfl, ?_⟩) hHeld ?_
                      · rintro w' hS; go_simp
                      try simp only [Act.put, List.setIfInBounds_toArray, List.set_cons_zero, List.set_cons_succ, List.getElem_toArray, List.getElem_cons_succ, List.getElem_cons_zero]
                      have HT6 := Lib.hid (HFT.out w6 HGX.out)
                      obtain ⟨_, k1, z1⟩ := HT6.out
                      refine wpAnyH_ready (rs := [12]) (by kernel_rfl) (by simp) ?_
                      refine AllReadyH.cons (o := _) rfl (fun K hK => ?_) AllReadyH.nil
                      go_simp
                      refine hK.out _ _ trivial (fun hHeld => ?_)
                      clear hK K
                      try simp only [Act.put, List.setIfInBounds_toArray, List.set_cons_zero, List.set_cons_succ, List.getElem_toArray, List.getElem_cons_succ, List.getElem_cons_zero]
                      refine wpAnyH_done (by kernel_rfl) ?_ _
                      clear hHeld k1 z1
                      have HR6 := Lib.hid (HPU.out w6 gg c6 HO6.out HGX.out)
                      have HB6 := Lib.hid ((HBA.out.grown HGX.out (by simp; omega) (fun g hg => by have := own_block HUV.out g hg; omega)).setCell (p := ⟨wc.heap.size, 1, none⟩) (Nat.le_refl _) (.slice (some ⟨gg, 0, none⟩) (i + 1) c6))
                      have HK6 : Hid (i + 1 ≤ c6) := Lib.hid (by obtain ⟨_, _, e, h'⟩ := own_slice HO6.out; injection e with _ _ e; omega)
                      have HZ6 : Hid (wc.heap.size + 1 ≤ w6.heap.size) := Lib.hid (by have := HGX.out.size; simp at this; omega)
                      go_wp2_with fail
                      go_roundw
                      case rel => exact ⟨i + 1, c6, _, by go_num, by omega, HK6.out, HR6.out.low (grownBy_setCell _ _ _) (Nat.lt_succ_self _), HT6.out.set1 _, HB6.out, by have := HZ6.out; simp; omega⟩
                      case measure => simp [intOf]; omega
                    · go_simp
                      refine hK.out _ _ trivial (fun hHeld => ?_)
                      clear hK K
                      try simp only [Act.put, List.setIfInBounds_toArray, List.set_cons_zero, List.set_cons_succ, List.getElem_toArray, List.getElem_cons_succ, List.getElem_cons_zero]
                      refine wpAnyH_ready (rs := [1]) (by kernel_rfl) (by simp) ?_
                      refine AllReadyH.cons (o := _) rfl (fun K hK => ?_) AllReadyH.nil
                      have c1 : (((wo.alloc (.cells #[.int .i64 (i : Int), .int .i64 xm, .int .i64 c] 3)).alloc (.cells #[.slice (some ⟨wo.heap.size, 0, none⟩) 3 3] 23)).drew).cell? ⟨wc.heap.size, 1, none⟩ = some (.slice ax i cp) := (HT.out.block (show (((wo.alloc (.cells #[.int .i64 (i : Int), .int .i64 xm, .int .i64 c] 3)).alloc (.cells #[.slice (some ⟨wo.heap.size, 0, none⟩) 3 3] 23)).drew).heap[wc.heap.size]? = wo.heap[wc.heap.size]? from (Below.heap_alloc _ _ _ (by have := HT.out.lt; simp; omega)).trans (Below.heap_alloc _ _ _ HT.out.lt))).2.1
                      go_simp
                      refine hK.out _ _ trivial (fun hHeld => ?_)
                      clear hK K
                      try simp only [Act.put, List.setIfInBounds_toArray, List.set_cons_zero, List.set_cons_succ, List.getElem_toArray, List.getElem_cons_succ, List.getElem_cons_zero]
                      clear c1
                      refine wpAnyH_ready (rs := [10]) (by kernel_rfl) (by simp) ?_
                      refine AllReadyH.cons (o := _) rfl (fun K hK => ?_) AllReadyH.nil
                      refine step_append_lies _ (by rfl) _ _ _ (by rfl) (wc.heap.size + 1) 23 i1 _ 1 24 Try.underlying24 hj hy0 hy1 hy2 rfl (by omega) (.slice ax i cp) i _ (by rfl) (((HUV.out.alloc _).alloc _).drew) ⟨wo.heap.size + 1, 0, none⟩ 1 1 [.slice (some ⟨wo.heap.size, 0, none⟩) 3 3] (by rfl) (by rfl) (World.news_of_block (cs := #[.slice (some ⟨wo.heap.size, 0, none⟩) 3 3]) (t := 23) (fr := (0, 0)) HNB.out) (by simp [Value.oneCell']) (by omega) (by unfold maxLen; omega) (by omega) (by simp; omega) (wo.heap.size + 2) (by simp) ?_
                      intro gg c6 w6 hown6 hgrow hat hlt
                      have HGX := Lib.hid (show (((wo.alloc (.cells #[.int .i64 (i : Int), .int .i64 xm, .int .i64 c] 3)).alloc (.cells #[.slice (some ⟨wo.heap.size, 0, none⟩) 3 3] 23))).grownBy w6 (Value.slice ax i cp).ownBlock from grown_comp (grownBy_drewN _ 1 _) hgrow)
                      have HO6 := Lib.hid hown6
                      clear hgrow hat hlt hown6
                      refine hK.out _ _ trivial (fun hHeld => ?_)
                      clear hK K
                      try simp only [Act.put, List.setIfInBounds_toArray, List.set_cons_zero, List.set_cons_succ, List.getElem_toArray, List.getElem_cons_succ, List.getElem_cons_zero]
                      refine wpAnyH_take (i := 11) (v := .pointer (some ⟨wc.heap.size, 1, none⟩)) rfl (by kernel_rfl) (by kernel_rfl) (by kernel_rfl) (fun _ _ _ h => h) (Or.inl ⟨by rfl, ?_⟩) hHeld ?_
                      · rintro w' hS; go_simp
                      try simp only [Act.put, List.setIfInBounds_toArray, List.set_cons_zero, List.set_cons_succ, List.getElem_toArray, List.getElem_cons_succ, List.getElem_cons_zero]
                      have HT6 := Lib.hid (HFT.out w6 HGX.out)
                      obtain ⟨_, k1, z1⟩ := HT6.out
                      refine wpAnyH_ready (rs := [12]) (by kernel_rfl) (by simp) ?_
                      refine AllReadyH.cons (o := _) rfl (fun K hK => ?_) AllReadyH.nil
                      go_simp
                      refine hK.out _ _ trivial (fun hHeld => ?_)
                      clear hK K
                      try simp only [Act.put, List.setIfInBounds_toArray, List.set_cons_zero, List.set_cons_succ, List.getElem_toArray, List.getElem_cons_succ, List.getElem_cons_zero]
                      refine wpAnyH_done (by kernel_rfl) ?_ _
                      clear hHeld k1 z1
                      have HR6 := Lib.hid (HPU.out w6 gg c6 HO6.out HGX.out)
                      have HB6 := Lib.hid ((HBA.out.grown HGX.out (by simp; omega) (fun g hg => by have := own_block HUV.out g hg; omega)).setCell (p := ⟨wc.heap.size, 1, none⟩) (Nat.le_refl _) (.slice (some ⟨gg, 0, none⟩) (i + 1) c6))
                      have HK6 : Hid (i + 1 ≤ c6) := Lib.hid (by obtain ⟨_, _, e, h'⟩ := own_slice HO6.out; injection e with _ _ e; omega)
                      have HZ6 : Hid (wc.heap.size + 1 ≤ w6.heap.size) := Lib.hid (by have := HGX.out.size; simp at this; omega)
                      go_wp2_with fail
                      go_roundw
                      case rel => exact ⟨i + 1, c6, _, by go_num, by omega, HK6.out, HR6.out.low (grownBy_setCell _ _ _) (Nat.lt_succ_self _), HT6.out.set1 _, HB6.out, by have := HZ6.out; simp; omega⟩
                      case measure => simp [intOf]; omega
                · have hiE : ((i : Int) == (lT : Int) - 1) = false := by simp; omega
                  have HIL := Lib.hid hil1
                  clear hil1
                  have hlz : ¬ lT = 0 := by omega
                  have HWI : Hid (IntKind.i64.wrap ((i : Int) + 1) = (i : Int) + 1) := Lib.hid (IntWalk.i64_in _ (by omega))
                  have HXMN : Hid (((i : Int) + 1) % (lT : Int) = (((i + 1) % lT : Nat) : Int)) := Lib.hid (by push_cast; rfl)
                  obtain ⟨xm, hxm⟩ : ∃ xm, ((i : Int) + 1) % (lT : Int) = xm := ⟨_, rfl⟩
                  have HXM := Lib.hid hxm
                  rw [hxm] at HXMN
                  clear hxm
                  obtain ⟨i1, hj, hy0, hy1, hy2⟩ := info_parts Try.infoInts
                  obtain ⟨us, huv, hul, hus⟩ := HOWN.out
                  have HUV := Lib.hid huv
                  have HUL := Lib.hid hul
                  have HUS := Lib.hid hus
                  clear huv hul hus
                  have HNB : Hid ((((wo.alloc (.cells #[.int .i64 (i : Int), .int .i64 xm, .int .i64 0] 3)).alloc (.cells #[.slice (some ⟨wo.heap.size, 0, none⟩) 3 3] 23))).heap[wo.heap.size + 1]? = some (.cells #[.slice (some ⟨wo.heap.size, 0, none⟩) 3 3] 23 (0, 0))) := Lib.hid (by
                    have h1 := heap_alloc_new (wo.alloc (.cells #[.int .i64 (i : Int), .int .i64 xm, .int .i64 0] 3)) (.cells #[.slice (some ⟨wo.heap.size, 0, none⟩) 3 3] 23)
                    rw [show (wo.alloc (.cells #[.int .i64 (i : Int), .int .i64 xm, .int .i64 0] 3)).heap.size = wo.heap.size + 1 by simp] at h1
                    exact h1)
                  have HFT := Lib.hid (fun w' (hg : (((wo.alloc (.cells #[.int .i64 (i : Int), .int .i64 xm, .int .i64 0] 3)).alloc (.cells #[.slice (some ⟨wo.heap.size, 0, none⟩) 3 3] 23))).grownBy w' (Value.slice ax i cp).ownBlock) => (show Two w' wc.heap.size (.slice aT lT cT) (.slice ax i cp) from ((HT.out.block (w' := ((wo.alloc (.cells #[.int .i64 (i : Int), .int .i64 xm, .int .i64 0] 3)).alloc (.cells #[.slice (some ⟨wo.heap.size, 0, none⟩) 3 3] 23))) ((Below.heap_alloc _ _ _ (by have := HT.out.lt; simp; omega)).trans (Below.heap_alloc _ _ _ HT.out.lt))).grown hg (fun e => by have := own_block HUV.out _ e.symm; omega))))
                  have HROW : Hid ([(i : Int), xm, (0 : Int)] = ringRow lT c i) := Lib.hid (by unfold ringRow; rw [HXMN.out]; simp [HIL.out])
                  have HPU := Lib.hid (fun w6 gg c6 ho hg => (show OwnRowsV w6 (wc.heap.size + 1) (.slice (some ⟨gg, 0, none⟩) (i + 1) c6) (i + 1) (ringRows lT c (i + 1)) by rw [ring_snoc, ← HROW.out]; exact OwnRowsV.push (a := some ⟨wo.heap.size, 0, none⟩) (c := 3) (l := 3) ((HUV.out.alloc (.cells #[.int .i64 (i : Int), .int .i64 xm, .int .i64 0] 3)).alloc (.cells #[.slice (some ⟨wo.heap.size, 0, none⟩) 3 3] 23)) HUL.out (fun q u hq => by obtain ⟨a', l', c', r', e1, e2, e3, e4, e5⟩ := HUS.out q u hq; exact ⟨a', l', c', r', e1, e2, e3, e4, (e5.alloc _).alloc _⟩) ((own_lit3 wo (by omega) (i : Int) xm 0).alloc _) (Nat.le_refl _) (by omega) ho hg))
                  have HBA := Lib.hid ((HB.out.alloc (by omega) (.cells #[.int .i64 (i : Int), .int .i64 xm, .int .i64 0] 3)).alloc (by simp; omega) (.cells #[.slice (some ⟨wo.heap.size, 0, none⟩) 3 3] 23))
                  clear HOWN
                  go_wp2_with fail
                  refine wp_region_held_drew (S := (fun _ => True)) (by kernel_rfl) trivial (fun hHeld => ?_)
                  refine wpAnyH_take (i := 0) (v := .pointer (some ⟨wc.heap.size, 1, none⟩)) rfl (by kernel_rfl) (by kernel_rfl) (by kernel_rfl) (fun _ _ _ h => h) (Or.inl ⟨by rfl, ?_⟩) hHeld ?_
                  · rintro w' hS; go_simp
                  try simp only [Act.put, List.setIfInBounds_toArray, List.set_cons_zero, List.set_cons_succ, List.getElem_toArray, List.getElem_cons_succ, List.getElem_cons_zero]
                  refine wpAnyH_take (i := 2) (v := .int .i64 i) rfl (by kernel_rfl) (by kernel_rfl) (by kernel_rfl) (fun _ _ _ h => h) (Or.inl ⟨by rfl, ?_⟩) hHeld ?_
                  · rintro w' hS; go_simp
                  try simp only [Act.put, List.setIfInBounds_toArray, List.set_cons_zero, List.set_cons_succ, List.getElem_toArray, List.getElem_cons_succ, List.getElem_cons_zero]
                  refine wpAnyH_take (i := 3) (v := .int .i64 i) rfl (by kernel_rfl) (by kernel_rfl) (by kernel_rfl) (fun _ _ _ h => h) (Or.inl ⟨by rfl, ?_⟩) hHeld ?_
                  · rintro w' hS; go_simp
                  try simp only [Act.put, List.setIfInBounds_toArray, List.set_cons_zero, List.set_cons_succ, List.getElem_toArray, List.getElem_cons_succ, List.getElem_cons_zero]
                  refine wpAnyH_take (i := 4) (v := .int .i64 ((i : Int) + 1)) rfl (by kernel_rfl) (by kernel_rfl) (by kernel_rfl) (fun _ _ _ h => h) (Or.inl ⟨by rfl, ?_⟩) hHeld ?_
                  · rintro w' hS; go_simp; exact HWI.out
                  try simp only [Act.put, List.setIfInBounds_toArray, List.set_cons_zero, List.set_cons_succ, List.getElem_toArray, List.getElem_cons_succ, List.getElem_cons_zero]
                  refine wpAnyH_take (i := 5) (v := .int .i64 lT) rfl (by kernel_rfl) (by kernel_rfl) (by kernel_rfl) (fun _ _ _ h => h) (Or.inl ⟨by rfl, ?_⟩) hHeld ?_
                  · rintro w' hS; go_simp
                  try simp only [Act.put, List.setIfInBounds_toArray, List.set_cons_zero, List.set_cons_succ, List.getElem_toArray, List.getElem_cons_succ, List.getElem_cons_zero]
                  refine wpAnyH_take (i := 6) (v := .int .i64 xm) rfl (by kernel_rfl) (by kernel_rfl) (by kernel_rfl) (fun _ _ _ h => h) (Or.inl ⟨by rfl, ?_⟩) hHeld ?_
                  · rintro w' hS; go_simp; rw [← HXM.out]; exact Int.tmod_eq_emod_of_nonneg (by omega)
                  try simp only [Act.put, List.setIfInBounds_toArray, List.set_cons_zero, List.set_cons_succ, List.getElem_toArray, List.getElem_cons_succ, List.getElem_cons_zero]
                  refine wpAnyH_take (i := 7) (v := .int .i64 0) rfl (by kernel_rfl) (by kernel_rfl) (by kernel_rfl) (fun _ _ _ h => h) (Or.inl ⟨by rfl, ?_⟩) hHeld ?_
                  · rintro w' hS; go_simp
                  try simp only [Act.put, List.setIfInBounds_toArray, List.set_cons_zero, List.set_cons_succ, List.getElem_toArray, List.getElem_cons_succ, List.getElem_cons_zero]
                  refine wpAnyH_ready (rs := [1, 8]) (by kernel_rfl) (by simp) ?_
                  refine (AllReadyH.cons (o := _) rfl (fun K hK => ?_) (AllReadyH.cons (o := _) rfl (fun K hK => ?_) AllReadyH.nil))
                  · have c1 : (wo.drew).cell? ⟨wc.heap.size, 1, none⟩ = some (.slice ax i cp) := (HT.out.block (show (wo.drew).heap[wc.heap.size]? = wo.heap[wc.heap.size]? from rfl)).2.1
                    go_simp
                    refine hK.out _ _ trivial (fun hHeld => ?_)
                    clear hK K
                    try simp only [Act.put, List.setIfInBounds_toArray, List.set_cons_zero, List.set_cons_succ, List.getElem_toArray, List.getElem_cons_succ, List.getElem_cons_zero]
                    clear c1
                    refine wpAnyH_ready (rs := [8]) (by kernel_rfl) (by simp) ?_
                    refine AllReadyH.cons (o := _) rfl (fun K hK => ?_) AllReadyH.nil
                    go_simp
                    refine hK.out _ _ trivial (fun hHeld => ?_)
                    clear hK K
                    try simp only [Act.put, List.setIfInBounds_toArray, List.set_cons_zero, List.set_cons_succ, List.getElem_toArray, List.getElem_cons_succ, List.getElem_cons_zero]
                    refine wpAnyH_ready (rs := [9]) (by kernel_rfl) (by simp) ?_
                    refine AllReadyH.cons (o := _) rfl (fun K hK => ?_) AllReadyH.nil
                    go_simp
                    refine hK.out _ _ trivial (fun hHeld => ?_)
                    clear hK K
                    try simp only [Act.put, List.setIfInBounds_toArray, List.set_cons_zero, List.set_cons_succ, List.getElem_toArray, List.getElem_cons_succ, List.getElem_cons_zero]
                    refine wpAnyH_ready (rs := [10]) (by kernel_rfl) (by simp) ?_
                    refine AllReadyH.cons (o := _) rfl (fun K hK => ?_) AllReadyH.nil
                    refine step_append_lies _ (by rfl) _ _ _ (by rfl) (wc.heap.size + 1) 23 i1 _ 1 24 Try.underlying24 hj hy0 hy1 hy2 rfl (by omega) (.slice ax i cp) i _ (by rfl) (((HUV.out.alloc _).alloc _).drew) ⟨wo.heap.size + 1, 0, none⟩ 1 1 [.slice (some ⟨wo.heap.size, 0, none⟩) 3 3] (by rfl) (by rfl) (World.news_of_block (cs := #[.slice (some ⟨wo.heap.size, 0, none⟩) 3 3]) (t := 23) (fr := (0, 0)) HNB.out) (by simp [Value.oneCell']) (by omega) (by unfold maxLen; omega) (by omega) (by simp; omega) (wo.heap.size + 2) (by simp) ?_
                    intro gg c6 w6 hown6 hgrow hat hlt
                    have HGX := Lib.hid (show (((wo.alloc (.cells #[.int .i64 (i : Int), .int .i64 xm, .int .i64 0] 3)).alloc (.cells #[.slice (some ⟨wo.heap.size, 0, none⟩) 3 3] 23))).grownBy w6 (Value.slice ax i cp).ownBlock from grown_comp (grownBy_drewN _ 1 _) hgrow)
                    have HO6 := Lib.hid hown6
                    clear hgrow hat hlt hown6
                    refine hK.out _ _ trivial (fun hHeld => ?_)
                    clear hK K
                    try simp only [Act.put, List.setIfInBounds_toArray, List.set_cons_zero, List.set_cons_succ, List.getElem_toArray, List.getElem_cons_succ, List.getElem_cons_zero]
                    refine wpAnyH_take (i := 11) (v := .pointer (some ⟨wc.heap.size, 1, none⟩)) rfl (by kernel_rfl) (by kernel_rfl) (by kernel_rfl) (fun _ _ _ h => h) (Or.inl ⟨by rfl, ?_⟩) hHeld ?_
                    · rintro w' hS; go_simp
                    try simp only [Act.put, List.setIfInBounds_toArray, List.set_cons_zero, List.set_cons_succ, List.getElem_toArray, List.getElem_cons_succ, List.getElem_cons_zero]
                    have HT6 := Lib.hid (HFT.out w6 HGX.out)
                    obtain ⟨_, k1, z1⟩ := HT6.out
                    refine wpAnyH_ready (rs := [12]) (by kernel_rfl) (by simp) ?_
                    refine AllReadyH.cons (o := _) rfl (fun K hK => ?_) AllReadyH.nil
                    go_simp
                    refine hK.out _ _ trivial (fun hHeld => ?_)
                    clear hK K
                    try simp only [Act.put, List.setIfInBounds_toArray, List.set_cons_zero, List.set_cons_succ, List.getElem_toArray, List.getElem_cons_succ, List.getElem_cons_zero]
                    refine wpAnyH_done (by kernel_rfl) ?_ _
                    clear hHeld k1 z1
                    have HR6 := Lib.hid (HPU.out w6 gg c6 HO6.out HGX.out)
                    have HB6 := Lib.hid ((HBA.out.grown HGX.out (by simp; omega) (fun g hg => by have := own_block HUV.out g hg; omega)).setCell (p := ⟨wc.heap.size, 1, none⟩) (Nat.le_refl _) (.slice (some ⟨gg, 0, none⟩) (i + 1) c6))
                    have HK6 : Hid (i + 1 ≤ c6) := Lib.hid (by obtain ⟨_, _, e, h'⟩ := own_slice HO6.out; injection e with _ _ e; omega)
                    have HZ6 : Hid (wc.heap.size + 1 ≤ w6.heap.size) := Lib.hid (by have := HGX.out.size; simp at this; omega)
                    go_wp2_with fail
                    go_roundw
                    case rel => exact ⟨i + 1, c6, _, by go_num, by omega, HK6.out, HR6.out.low (grownBy_setCell _ _ _) (Nat.lt_succ_self _), HT6.out.set1 _, HB6.out, by have := HZ6.out; simp; omega⟩
                    case measure => simp [intOf]; omega
                  · go_simp
                    refine hK.out _ _ trivial (fun hHeld => ?_)
                    clear hK K
                    try simp only [Act.put, List.setIfInBounds_toArray, List.set_cons_zero, List.set_cons_succ, List.getElem_toArray, List.getElem_cons_succ, List.getElem_cons_zero]
                    refine wpAnyH_ready (rs := [1, 9]) (by kernel_rfl) (by simp) ?_
                    refine (AllReadyH.cons (o := _) rfl (fun K hK => ?_) (AllReadyH.cons (o := _) rfl (fun K hK => ?_) AllReadyH.nil))
                    · have c1 : ((wo.alloc (.cells #[.int .i64 (i : Int), .int .i64 xm, .int .i64 0] 3)).drew).cell? ⟨wc.heap.size, 1, none⟩ = some (.slice ax i cp) := (HT.out.block (show ((wo.alloc (.cells #[.int .i64 (i : Int), .int .i64 xm, .int .i64 0] 3)).drew).heap[wc.heap.size]? = wo.heap[wc.heap.size]? from Below.heap_alloc _ _ _ HT.out.lt)).2.1
                      go_simp
                      refine hK.out _ _ trivial (fun hHeld => ?_)
                      clear hK K
                      try simp only [Act.put, List.setIfInBounds_toArray, List.set_cons_zero, List.set_cons_succ, List.getElem_toArray, List.getElem_cons_succ, List.getElem_cons_zero]
                      clear c1
                      refine wpAnyH_ready (rs := [9]) (by kernel_rfl) (by simp) ?_
                      refine AllReadyH.cons (o := _) rfl (fun K hK => ?_) AllReadyH.nil
                      go_simp
                      refine hK.out _ _ trivial (fun hHeld => ?_)
                      clear hK K
                      try simp only [Act.put, List.setIfInBounds_toArray, List.set_cons_zero, List.set_cons_succ, List.getElem_toArray, List.getElem_cons_succ, List.getElem_cons_zero]
                      refine wpAnyH_ready (rs := [10]) (by kernel_rfl) (by simp) ?_
                      refine AllReadyH.cons (o := _) rfl (fun K hK => ?_) AllReadyH.nil
                      refine step_append_lies _ (by rfl) _ _ _ (by rfl) (wc.heap.size + 1) 23 i1 _ 1 24 Try.underlying24 hj hy0 hy1 hy2 rfl (by omega) (.slice ax i cp) i _ (by rfl) (((HUV.out.alloc _).alloc _).drew) ⟨wo.heap.size + 1, 0, none⟩ 1 1 [.slice (some ⟨wo.heap.size, 0, none⟩) 3 3] (by rfl) (by rfl) (World.news_of_block (cs := #[.slice (some ⟨wo.heap.size, 0, none⟩) 3 3]) (t := 23) (fr := (0, 0)) HNB.out) (by simp [Value.oneCell']) (by omega) (by unfold maxLen; omega) (by omega) (by simp; omega) (wo.heap.size + 2) (by simp) ?_
                      intro gg c6 w6 hown6 hgrow hat hlt
                      have HGX := Lib.hid (show (((wo.alloc (.cells #[.int .i64 (i : Int), .int .i64 xm, .int .i64 0] 3)).alloc (.cells #[.slice (some ⟨wo.heap.size, 0, none⟩) 3 3] 23))).grownBy w6 (Value.slice ax i cp).ownBlock from grown_comp (grownBy_drewN _ 1 _) hgrow)
                      have HO6 := Lib.hid hown6
                      clear hgrow hat hlt hown6
                      refine hK.out _ _ trivial (fun hHeld => ?_)
                      clear hK K
                      try simp only [Act.put, List.setIfInBounds_toArray, List.set_cons_zero, List.set_cons_succ, List.getElem_toArray, List.getElem_cons_succ, List.getElem_cons_zero]
                      refine wpAnyH_take (i := 11) (v := .pointer (some ⟨wc.heap.size, 1, none⟩)) rfl (by kernel_rfl) (by kernel_rfl) (by kernel_rfl) (fun _ _ _ h => h) (Or.inl ⟨by rfl, ?_⟩) hHeld ?_
                      · rintro w' hS; go_simp
                      try simp only [Act.put, List.setIfInBounds_toArray, List.set_cons_zero, List.set_cons_succ, List.getElem_toArray, List.getElem_cons_succ, List.getElem_cons_zero]
                      have HT6 := Lib.hid (HFT.out w6 HGX.out)
                      obtain ⟨_, k1, z1⟩ := HT6.out
                      refine wpAnyH_ready (rs := [12]) (by kernel_rfl) (by simp) ?_
                      refine AllReadyH.cons (o := _) rfl (fun K hK => ?_) AllReadyH.nil
                      go_simp
                      refine hK.out _ _ trivial (fun hHeld => ?_)
                      clear hK K
                      try simp only [Act.put, List.setIfInBounds_toArray, List.set_cons_zero, List.set_cons_succ, List.getElem_toArray, List.getElem_cons_succ, List.getElem_cons_zero]
                      refine wpAnyH_done (by kernel_rfl) ?_ _
                      clear hHeld k1 z1
                      have HR6 := Lib.hid (HPU.out w6 gg c6 HO6.out HGX.out)
                      have HB6 := Lib.hid ((HBA.out.grown HGX.out (by simp; omega) (fun g hg => by have := own_block HUV.out g hg; omega)).setCell (p := ⟨wc.heap.size, 1, none⟩) (Nat.le_refl _) (.slice (some ⟨gg, 0, none⟩) (i + 1) c6))
                      have HK6 : Hid (i + 1 ≤ c6) := Lib.hid (by obtain ⟨_, _, e, h'⟩ := own_slice HO6.out; injection e with _ _ e; omega)
                      have HZ6 : Hid (wc.heap.size + 1 ≤ w6.heap.size) := Lib.hid (by have := HGX.out.size; simp at this; omega)
                      go_wp2_with fail
                      go_roundw
                      case rel => exact ⟨i + 1, c6, _, by go_num, by omega, HK6.out, HR6.out.low (grownBy_setCell _ _ _) (Nat.lt_succ_self _), HT6.out.set1 _, HB6.out, by have := HZ6.out; simp; omega⟩
                      case measure => simp [intOf]; omega
                    · go_simp
                      refine hK.out _ _ trivial (fun hHeld => ?_)
                      clear hK K
                      try simp only [Act.put, List.setIfInBounds_toArray, List.set_cons_zero, List.set_cons_succ, List.getElem_toArray, List.getElem_cons_succ, List.getElem_cons_zero]
                      refine wpAnyH_ready (rs := [1]) (by kernel_rfl) (by simp) ?_
                      refine AllReadyH.cons (o := _) rfl (fun K hK => ?_) AllReadyH.nil
                      have c1 : (((wo.alloc (.cells #[.int .i64 (i : Int), .int .i64 xm, .int .i64 0] 3)).alloc (.cells #[.slice (some ⟨wo.heap.size, 0, none⟩) 3 3] 23)).drew).cell? ⟨wc.heap.size, 1, none⟩ = some (.slice ax i cp) := (HT.out.block (show (((wo.alloc (.cells #[.int .i64 (i : Int), .int .i64 xm, .int .i64 0] 3)).alloc (.cells #[.slice (some ⟨wo.heap.size, 0, none⟩) 3 3] 23)).drew).heap[wc.heap.size]? = wo.heap[wc.heap.size]? from (Below.heap_alloc _ _ _ (by have := HT.out.lt; simp; omega)).trans (Below.heap_alloc _ _ _ HT.out.lt))).2.1
                      go_simp
                      refine hK.out _ _ trivial (fun hHeld => ?_)
                      clear hK K
                      try simp only [Act.put, List.setIfInBounds_toArray, List.set_cons_zero, List.set_cons_succ, List.getElem_toArray, List.getElem_cons_succ, List.getElem_cons_zero]
                      clear c1
                      refine wpAnyH_ready (rs := [10]) (by kernel_rfl) (by simp) ?_
                      refine AllReadyH.cons (o := _) rfl (fun K hK => ?_) AllReadyH.nil
                      refine step_append_lies _ (by rfl) _ _ _ (by rfl) (wc.heap.size + 1) 23 i1 _ 1 24 Try.underlying24 hj hy0 hy1 hy2 rfl (by omega) (.slice ax i cp) i _ (by rfl) (((HUV.out.alloc _).alloc _).drew) ⟨wo.heap.size + 1, 0, none⟩ 1 1 [.slice (some ⟨wo.heap.size, 0, none⟩) 3 3] (by rfl) (by rfl) (World.news_of_block (cs := #[.slice (some ⟨wo.heap.size, 0, none⟩) 3 3]) (t := 23) (fr := (0, 0)) HNB.out) (by simp [Value.oneCell']) (by omega) (by unfold maxLen; omega) (by omega) (by simp; omega) (wo.heap.size + 2) (by simp) ?_
                      intro gg c6 w6 hown6 hgrow hat hlt
                      have HGX := Lib.hid (show (((wo.alloc (.cells #[.int .i64 (i : Int), .int .i64 xm, .int .i64 0] 3)).alloc (.cells #[.slice (some ⟨wo.heap.size, 0, none⟩) 3 3] 23))).grownBy w6 (Value.slice ax i cp).ownBlock from grown_comp (grownBy_drewN _ 1 _) hgrow)
                      have HO6 := Lib.hid hown6
                      clear hgrow hat hlt hown6
                      refine hK.out _ _ trivial (fun hHeld => ?_)
                      clear hK K
                      try simp only [Act.put, List.setIfInBounds_toArray, List.set_cons_zero, List.set_cons_succ, List.getElem_toArray, List.getElem_cons_succ, List.getElem_cons_zero]
                      refine wpAnyH_take (i := 11) (v := .pointer (some ⟨wc.heap.size, 1, none⟩)) rfl (by kernel_rfl) (by kernel_rfl) (by kernel_rfl) (fun _ _ _ h => h) (Or.inl ⟨by rfl, ?_⟩) hHeld ?_
                      · rintro w' hS; go_simp
                      try simp only [Act.put, List.setIfInBounds_toArray, List.set_cons_zero, List.set_cons_succ, List.getElem_toArray, List.getElem_cons_succ, List.getElem_cons_zero]
                      have HT6 := Lib.hid (HFT.out w6 HGX.out)
                      obtain ⟨_, k1, z1⟩ := HT6.out
                      refine wpAnyH_ready (rs := [12]) (by kernel_rfl) (by simp) ?_
                      refine AllReadyH.cons (o := _) rfl (fun K hK => ?_) AllReadyH.nil
                      go_simp
                      refine hK.out _ _ trivial (fun hHeld => ?_)
                      clear hK K
                      try simp only [Act.put, List.setIfInBounds_toArray, List.set_cons_zero, List.set_cons_succ, List.getElem_toArray, List.getElem_cons_succ, List.getElem_cons_zero]
                      refine wpAnyH_done (by kernel_rfl) ?_ _
                      clear hHeld k1 z1
                      have HR6 := Lib.hid (HPU.out w6 gg c6 HO6.out HGX.out)
                      have HB6 := Lib.hid ((HBA.out.grown HGX.out (by simp; omega) (fun g hg => by have := own_block HUV.out g hg; omega)).setCell (p := ⟨wc.heap.size, 1, none⟩) (Nat.le_refl _) (.slice (some ⟨gg, 0, none⟩) (i + 1) c6))
                      have HK6 : Hid (i + 1 ≤ c6) := Lib.hid (by obtain ⟨_, _, e, h'⟩ := own_slice HO6.out; injection e with _ _ e; omega)
                      have HZ6 : Hid (wc.heap.size + 1 ≤ w6.heap.size) := Lib.hid (by have := HGX.out.size; simp at this; omega)
                      go_wp2_with fail
                      go_roundw
                      case rel => exact ⟨i + 1, c6, _, by go_num, by omega, HK6.out, HR6.out.low (grownBy_setCell _ _ _) (Nat.lt_succ_self _), HT6.out.set1 _, HB6.out, by have := HZ6.out; simp; omega⟩
                      case measure => simp [intOf]; omega
              · have hie : i = lT := by omega
                subst hie
                have hiI : ¬ (i : Int) < (i : Int) := by omega
                have hwo : Below wc.heap.size wc wo := HB.out
                have HNR : Hid (NetAt wo (· < wo.heap.size) ⟨aT, i, cT, ax, i, cp⟩ ts (ringRows i c i)) := Lib.hid ⟨((HON.out.at'.t).below hwo).to (fun b hb => ⟨Nat.lt_of_lt_of_le hb hwo.size, rfl⟩), (HOWN.out.rows (by omega)).to (fun b hb => ⟨hb.2, rfl⟩), HON.out.at'.ct, by show i ≤ cp; omega⟩
                have HON2 : Hid (NetOn wo w1.heap.size ⟨aT, i, cT, aW, lW, cW⟩ ts rows) := Lib.hid (HON.out.lift hwo)
                have HBO : Hid (Below w.heap.size w wo) := Lib.hid (HBW.out.trans (hwo.mono HBW.out.size))
                obtain ⟨⟨k0, z0⟩, k1, z1⟩ := HT.out
                clear hwo
                go_wp2_with fail
                refine (paceOf_impl ⟨aT, i, cT, ax, i, cp⟩ ts (ringRows i c i) wo HNR.out).mono ?_
                rintro e w70 ⟨U7, D7, pb7, rfl, hpr7, hb70⟩
                obtain ⟨e0, e1, e2⟩ := HPC.out c hc1 hc3 _ _ _ hpr7
                subst e0
                clear hpr7 k0 z0 k1 z1
                have hcc1 : U7 ≤ 36 ∧ D7 ≤ 3 := by rw [e1, e2]; exact ⟨Nat.le_trans (Nat.div_le_self _ _) hT36, Nat.le_trans (Nat.div_le_self _ _) hc3⟩
                have HEQ := Lib.hid (And.intro e1 e2)
                clear e1 e2
                have HB7 := Lib.hid (HBO.out.trans (hb70.mono HBO.out.size))
                have HN7 := Lib.hid (HON2.out.lift hb70)
                clear hb70
                have hf8 := two_new w70 (.int .i64 (U7 : Int)) (.int .i64 (D7 : Int)) 32
                have hb8 := (Below.refl w70.heap.size w70).alloc (Nat.le_refl _) (.cells #[.int .i64 (U7 : Int), .int .i64 (D7 : Int)] 32)
                obtain ⟨w8, hw8⟩ : ∃ wx, w70.alloc (.cells #[.int .i64 (U7 : Int), .int .i64 (D7 : Int)] 32) = wx := ⟨_, rfl⟩
                rw [hw8] at hf8 hb8
                have HW8 := Lib.hid hw8
                have HF8 := Lib.hid hf8
                have HB8 := Lib.hid (HB7.out.trans (hb8.mono HB7.out.size))
                have HN8 := Lib.hid (HN7.out.lift hb8)
                clear hw8 hf8 hb8
                have HTO := Lib.hid (fun w' (hS : Below w8.heap.size w8 w') => total_any _ aT i cT ts w' (HN8.out.lift hS).at'.t (fun x hx => by
                  obtain ⟨q, hq⟩ := List.mem_iff_getElem?.1 hx
                  have := (tok_get HV.out).2.1 q
                  rw [List.getD_eq_getElem?_getD, hq] at this
                  simp at this; omega) (by omega))
                have HFR := Lib.hid (lfrac_any T c (by omega) (by omega) (by omega))
                rw [← HEQ.out.1, ← HEQ.out.2] at HFR
                unfold FracP at HFR
                go_wp2_with fail
                rw [HW8.out]
                have HL := Lib.hid (fun w' (hS : Below w8.heap.size w8 w') => And.intro (HF8.out.block (hS.block _ HF8.out.lt)) (HN8.out.lift hS).box)
                have HY0 : Hid (Below w8.heap.size w8 w8.drew) := Lib.hid (Below.refl _ _).drew
                refine wp_region_held_drew (S := (fun w' => Below w8.heap.size w8 w')) (by kernel_rfl) HY0.out (fun hHeld => ?_)
                refine wpAnyH_take (i := 0) (v := .bool true) rfl (by kernel_rfl) (by kernel_rfl) (by kernel_rfl) (fun _ _ _ h => h) (Or.inl ⟨by rfl, ?_⟩) hHeld ?_
                · rintro w' hS; go_simp
                try simp only [Act.put, List.setIfInBounds_toArray, List.set_cons_zero, List.set_cons_succ, List.getElem_toArray, List.getElem_cons_succ, List.getElem_cons_zero]
                refine wpAnyH_take (i := 1) (v := .bool false) rfl (by kernel_rfl) (by kernel_rfl) (by kernel_rfl) (fun _ _ _ h => h) (Or.inl ⟨by rfl, ?_⟩) hHeld ?_
                · rintro w' hS; go_simp
                try simp only [Act.put, List.setIfInBounds_toArray, List.set_cons_zero, List.set_cons_succ, List.getElem_toArray, List.getElem_cons_succ, List.getElem_cons_zero]
                refine wpAnyH_take (i := 2) (v := .bool false) rfl (by kernel_rfl) (by kernel_rfl) (by kernel_rfl) (fun _ _ _ h => h) (Or.inl ⟨by rfl, ?_⟩) hHeld ?_
                · rintro w' hS; go_simp
                try simp only [Act.put, List.setIfInBounds_toArray, List.set_cons_zero, List.set_cons_succ, List.getElem_toArray, List.getElem_cons_succ, List.getElem_cons_zero]
                refine wpAnyH_take (i := 3) (v := .agg #[.int .i64 U7, .int .i64 D7]) rfl (by kernel_rfl) (by kernel_rfl) (by kernel_rfl) (fun _ _ _ h => h) (Or.inl ⟨by rfl, ?_⟩) hHeld ?_
                · rintro w' hS; have k0 := (HL.out w' hS).1.1.1; have k1 := (HL.out w' hS).1.2.1; go_simp
                try simp only [Act.put, List.setIfInBounds_toArray, List.set_cons_zero, List.set_cons_succ, List.getElem_toArray, List.getElem_cons_succ, List.getElem_cons_zero]
                refine wpAnyH_take (i := 4) (v := .pointer (some ⟨w1.heap.size, 0, none⟩)) rfl (by kernel_rfl) (by kernel_rfl) (by kernel_rfl) (fun _ _ _ h => h) (Or.inl ⟨by rfl, ?_⟩) hHeld ?_
                · rintro w' hS; go_simp
                try simp only [Act.put, List.setIfInBounds_toArray, List.set_cons_zero, List.set_cons_succ, List.getElem_toArray, List.getElem_cons_succ, List.getElem_cons_zero]
                refine wpAnyH_take (i := 5) (v := .slice aT i cT) rfl (by kernel_rfl) (by kernel_rfl) (by kernel_rfl) (fun _ _ _ h => h) (Or.inl ⟨by rfl, ?_⟩) hHeld ?_
                · rintro w' hS; have k0 := (HL.out w' hS).2.1; have k1 := (HL.out w' hS).2.2; go_simp
                try simp only [Act.put, List.setIfInBounds_toArray, List.set_cons_zero, List.set_cons_succ, List.getElem_toArray, List.getElem_cons_succ, List.getElem_cons_zero]
                refine wpAnyH_take (i := 7) (v := .int .i64 c) rfl (by kernel_rfl) (by kernel_rfl) (by kernel_rfl) (fun _ _ _ h => h) (Or.inl ⟨by rfl, ?_⟩) hHeld ?_
                · rintro w' hS; go_simp
                try simp only [Act.put, List.setIfInBounds_toArray, List.set_cons_zero, List.set_cons_succ, List.getElem_toArray, List.getElem_cons_succ, List.getElem_cons_zero]
                refine wpAnyH_ready (rs := [6]) (by kernel_rfl) (by simp) ?_
                refine AllReadyH.cons (o := _) rfl (fun K hK => ?_) AllReadyH.nil
                go_simp
                go_at_call 12
                refine (HTO.out _ HY0.out).mono ?_
                rintro e wy1 ⟨rfl, hy⟩
                obtain rfl := hy
                have HY1 := HY0
                rw [HTT.out]
                refine hK.out _ _ HY1.out (fun hHeld => ?_)
                clear hK K
                try simp only [Act.put, List.setIfInBounds_toArray, List.set_cons_zero, List.set_cons_succ, List.getElem_toArray, List.getElem_cons_succ, List.getElem_cons_zero]
                refine wpAnyH_ready (rs := [8]) (by kernel_rfl) (by simp) ?_
                refine AllReadyH.cons (o := _) rfl (fun K hK => ?_) AllReadyH.nil
                go_simp
                go_at_call 25
                refine (HFR.out _).mono ?_
                rintro e wy2 ⟨rfl, hy⟩
                have HY2 := Lib.hid (HY1.out.trans (hy.mono HY1.out.size))
                clear hy
                refine hK.out _ _ HY2.out (fun hHeld => ?_)
                clear hK K
                try simp only [Act.put, List.setIfInBounds_toArray, List.set_cons_zero, List.set_cons_succ, List.getElem_toArray, List.getElem_cons_succ, List.getElem_cons_zero]
                refine wpAnyH_take (i := 9) (v := .bool false) rfl (by kernel_rfl) (by kernel_rfl) (by kernel_rfl) (fun _ _ _ h => h) (Or.inl ⟨by rfl, ?_⟩) hHeld ?_
                · rintro w' hS; have h := run_neq_frac U7 D7 w'; go_simp
                try simp only [Act.put, List.setIfInBounds_toArray, List.set_cons_zero, List.set_cons_succ, List.getElem_toArray, List.getElem_cons_succ, List.getElem_cons_zero]
                refine wpAnyH_take (i := 10) (v := .bool false) rfl (by kernel_rfl) (by kernel_rfl) (by kernel_rfl) (fun _ _ _ h => h) (Or.inl ⟨by rfl, ?_⟩) hHeld ?_
                · rintro w' hS; go_simp
                try simp only [Act.put, List.setIfInBounds_toArray, List.set_cons_zero, List.set_cons_succ, List.getElem_toArray, List.getElem_cons_succ, List.getElem_cons_zero]
                refine wpAnyH_done (by kernel_rfl) ?_ _
                clear hHeld
                have HB9 := Lib.hid (HB8.out.trans (HY2.out.mono HB8.out.size))
                have HN9 := Lib.hid (HN8.out.lift HY2.out)
                go_wp2_with fail
                go_roundw
                case rel => exact ⟨c + 1, by go_num, by omega, by omega, HN9.out, HB9.out⟩
                case measure => simp [intOf]; omega
          · have hce : c = 4 := by omega
            subst hce
            have hcI : ¬ ((4 : Nat) : Int) ≤ 3 := by omega
            go_wp2
            go_ret
            exact ⟨rfl, HBW.out⟩
  · go_enter Try.func6, Try.ntmps6
    go_wp2
    go_ret
    exact ⟨rfl, Below.refl _ _⟩
end Go.Proofs.Ytkebdelfklmigad
