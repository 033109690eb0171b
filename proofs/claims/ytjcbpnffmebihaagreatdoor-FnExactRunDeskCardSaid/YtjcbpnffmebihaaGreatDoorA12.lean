import Derived.Test.YtjcbpnffmebihaaGreatDoorA11
import Derived.Test.YtjcbpnffmebihaaGreatDoorRows
import Derived.WalkKit
import Derived.LoopTactic
import Derived.Outline
import Derived.WalkSpells
import Derived.WalkLawsBesides
import Derived.ProofKit
import Derived.Deep.QuietTactic
import Derived.BigQuiet
namespace Go.Proofs.YtjcbpnffmebihaaGreatDoor
open Go.RowKit Go.WideShapes

theorem OwnF.keepC {w wr w' : World} {len : Nat} {f : Nat → Int} {row : Option Nat} (h : OwnF w wr len f) (hg : wr.grownBy w' row) (hr : ∀ k, row = some k → w.heap.size + 1 ≤ k) : OwnF w w' len f :=
  ⟨h.own.kept hg (.inr (fun e => by have := hr w.heap.size e.symm; omega)), h.below.grown hg h.below.size (fun k hk => by have := hr k hk; omega)⟩
theorem fit_hi {T : Nat → Int} {R : Int} {n : Nat} {l : List Nat} (hT : ∀ i, i < n → 1 ≤ T i ∧ T i ≤ R) (h : l.Perm (List.range n)) {t : Nat} (ht : t ≤ n) : (fitS T R (ordO l) t).1.length ≤ t ∧ ∀ b, b < (fitS T R (ordO l) t).1.length → 0 ≤ (fitS T R (ordO l) t).1.getD b 0 ∧ (fitS T R (ordO l) t).1.getD b 0 ≤ R := by
  obtain ⟨i1, i2, i3, i4, i5⟩ := roll_inv hT h ht
  refine ⟨?_, fun b hb => ⟨i4 b hb, ?_⟩⟩
  · clear i1 i2 i3 i4 i5
    have key : ∀ t, usedM T R (ordO l) t ≤ t := fun t => by
      induction t with
      | zero => simp [usedM, fitS]
      | succ t ih => rcases used_step T R (ordO l) t with e | ⟨e, _⟩ <;> omega
    exact key t
  · have := i3 b hb
    have h2 := wsum_nn (f := fun j => T (ordO l j)) (P := fun j => (fitS T R (ordO l) t).2 (ordO l j) == b) t (fun j hj => by have := (hT _ (perm_lt h (show j < n by omega))).1; show 0 ≤ T (l.getD j 0); omega)
    omega
set_option maxRecDepth 100000 in
set_option maxHeartbeats 8000000 in
theorem fit_any (a a2 : Option Addr) (len cap cap2 : Nat) (xs ys : List Int) (R : Int) (l : List Nat) (w : World) (h : IntsAt w (· < w.heap.size) a len xs) (h2 : IntsAt w (· < w.heap.size) a2 len ys) (hv : cutsM xs R = true) (hl : l.Perm (List.range len)) (hy : ∀ j, j < len → ys.getD j 0 = ((l.getD j 0 : Nat) : Int)) :
    Calls Tryz.prog 60 #[.slice a len cap, .int .i64 R, .slice a2 len cap2] w (NewOwn w (tab (fun i => (rollP (lenT xs) R l len i : Int)) len)) := by
  have HL := Lib.hid h.lenEq
  obtain ⟨hR1, hR2, hl7, hT⟩ := cuts_get hv
  rw [HL.out] at hl7 hT
  have HT := Lib.hid hT
  have HFH := Lib.hid (fun t (ht : t ≤ len) => fit_hi (T := lenT xs) (R := R) hT hl ht)
  have HPL := Lib.hid (fun j (hj : j < len) => perm_lt hl hj)
  have HY := Lib.hid hy
  have HH := Lib.hid (fun w' (hb : Below w.heap.size w w') => h.below hb)
  have HH2 := Lib.hid (fun w' (hb : Below w.heap.size w w') => h2.below hb)
  have hmk := fun w => run_make_row' (P := Tryz.prog) 35 3 (.int .i64 0) 8 Tryz.underlying35 Tryz.infoIntO rfl .i64 .i64 len (by omega) (by omega) w
  have hst := OwnF.start w len (by omega)
  have hal : (w.alloc (.cells (madeCells #[.int .i64 0] len) 3)).heap.size = w.heap.size + 1 := by simp
  obtain ⟨w1, hw1⟩ : ∃ w1, w.alloc (.cells (madeCells #[.int .i64 0] len) 3) = w1 := ⟨_, rfl⟩
  rw [hw1] at hst hal
  have hs2 := hst.keepC (World.grownBy_alloc w1 (.cells #[] 3) none) (fun k hk => by cases hk)
  have ho2 := World.ownsRow_made (base := w.heap.size + 1) (size := 1) (e := 3) w1 #[] 0 (by omega) (Nat.zero_le _) rfl
  have HW1 := Lib.hid hw1
  have HS2 := Lib.hid hs2
  have HO2 := Lib.hid ho2
  clear h h2 hv hT hy hw1 hst hs2 ho2
  go_enter Tryz.func60, Tryz.ntmps60
  go_wp2_with fail
  rw [HW1.out]
  go_loopw [8, 9] (fun v i wr => ∃ (t cp : Nat) (ax : Option Addr), t ≤ len ∧ i = .int .i64 t ∧ v = .slice ax (fitS (lenT xs) R (ordO l) t).1.length cp ∧ wr.ownsRow (w.heap.size + 1) 3 1 v (fitS (lenT xs) R (ordO l) t).1.length ((fitS (lenT xs) R (ordO l) t).1.map (.int .i64)) ∧ OwnF w wr len (fun i => ((fitS (lenT xs) R (ordO l) t).2 i : Int))) (fun _ i _ => len - (intOf i).toNat)
  case atStart => exact ⟨0, 0, some ⟨w.heap.size + 1, 0, none⟩, Nat.zero_le _, rfl, by simp [fitS], by have := HO2.out; rw [hal] at this; simpa [fitS] using this, HS2.out⟩
  case round =>
    clear HW1 HS2 HO2
    obtain ⟨t, cp, ax, ht, rfl, rfl, hown, hof⟩ := hrel
    obtain ⟨wo, rfl⟩ : ∃ wo : World, wo = wr := ⟨_, rfl⟩
    have HOF := Lib.hid hof
    clear hof
    by_cases hlt : t < len
    · have htI : (t : Int) < (len : Int) := by omega
      obtain ⟨hu, hlfb⟩ := HFH.out t ht
      have HN1 := Lib.hid (show (fitS (lenT xs) R (ordO l) (t + 1)).1 = putL R (fitS (lenT xs) R (ordO l) t).1 (lenT xs (ordO l t)) from rfl)
      have HN2 := Lib.hid (fun i => show (fitS (lenT xs) R (ordO l) (t + 1)).2 i = if i = ordO l t then room (fitS (lenT xs) R (ordO l) t).1 (lenT xs (ordO l t)) else (fitS (lenT xs) R (ordO l) t).2 i from rfl)
      obtain ⟨p, hp⟩ : ∃ p, (fitS (lenT xs) R (ordO l) t).2 = p := ⟨_, rfl⟩
      obtain ⟨lf, hlf⟩ : ∃ lf, (fitS (lenT xs) R (ordO l) t).1 = lf := ⟨_, rfl⟩
      rw [hlf] at hown hu hlfb HN1 HN2 ⊢
      rw [hp] at HN2 HOF
      clear hlf hp
      obtain ⟨z, hz⟩ : ∃ z, ordO l t = z := ⟨_, rfl⟩
      have hzl : z < len := by rw [← hz]; exact HPL.out t hlt
      have hyz : ys.getD t 0 = (z : Int) := by rw [← hz]; exact HY.out t hlt
      rw [hz] at HN1 HN2
      have hxb := HT.out z hzl
      obtain ⟨b2, f2, y, rfl, hyy, hc2⟩ := (HH2.out _ HOF.out.below).get hlt
      obtain ⟨b1, f1, x, rfl, hxx, hc1⟩ := (HH.out _ HOF.out.below).get hzl
      have hy1 : y = (z : Int) := by rw [← getD_of hyy]; exact hyz
      have hx1 : lenT xs z = x := getD_of hxx
      subst hy1
      rw [hx1] at HN1 HN2 hxb
      have hzI : (z : Int) < (len : Int) := by omega
      have HOWN := Lib.hid hown
      have HLO := Lib.hid (own_low hown (by omega))
      obtain ⟨u, hul⟩ : ∃ u, lf.length = u := ⟨_, rfl⟩
      rw [hul] at HOWN HLO hu hlfb ⊢
      have HUL := Lib.hid hul
      have HLB := Lib.hid hlfb
      obtain ⟨K, hK⟩ : ∃ K, room lf x = K := ⟨_, rfl⟩
      have HKL := Lib.hid (show K ≤ u ∧ (∀ j, j < K → lf.getD j 0 < x) ∧ (K < u → x ≤ lf.getD K 0) by rw [← hK, ← hul]; exact ⟨room_le _ _, fun j hj => room_lt hj, fun g => room_ge g⟩)
      rw [hK] at HN2
      have HPU := Lib.hid (show putL R lf x = (if K = u then lf ++ [R] else lf).set K ((if K = u then lf ++ [R] else lf).getD K 0 - x) by unfold putL; rw [hK, hul])
      clear hyz hyy hxx hx1 hz hul hK hown hlfb
      go_wp2_with fail
      go_loop [11] (fun i => ∃ k : Nat, k ≤ K ∧ i = .int .i64 k) (fun i => 100 - (intOf i).toNat)
      case atStart => exact ⟨0, Nat.zero_le _, rfl⟩
      case round =>
        obtain ⟨k, hkK, rfl⟩ := hrel
        obtain ⟨hKu, hKlt, hKge⟩ := HKL.out
        by_cases hku : k < u
        · have hkI : (k : Int) < (u : Int) := by omega
          obtain ⟨bl, fl, v, e0, hvv, hcv⟩ := HLO.out.get hku
          have hv1 := getD_of hvv
          have hvb := HLB.out k hku
          rw [hv1] at hvb
          by_cases hvx : v < x
          · have hk2 : k + 1 ≤ K := by
              rcases Nat.lt_or_eq_of_le hkK with g | g
              · omega
              · have := hKge (by omega); rw [← g, hv1] at this; omega
            subst e0
            clear hKlt hKge hvv hv1
            go_wp2_with fail
            go_round
            case rel => exact ⟨k + 1, hk2, by go_num⟩
            case measure => simp [intOf]; omega
          · have hke : K = k := by
              rcases Nat.lt_or_eq_of_le hkK with g | g
              · have := hKlt k g; rw [hv1] at this; omega
              · exact g.symm
            subst e0
            have hn1 : ¬ K = u := by omega
            rw [if_neg hn1, hke, hv1] at HPU
            rw [hke] at HN2
            have hne : ((k : Int) == (u : Int)) = false := by simp; omega
            obtain ⟨gl, v0, e1, hgB, hc0, hf0⟩ := own_place HOWN.out hku
            simp only [Option.some.injEq, Addr.mk.injEq, and_true] at e1
            obtain ⟨e1, e2⟩ := e1
            subst e1
            subst e2
            rw [Nat.zero_add] at hcv
            obtain ⟨hst7, hg7⟩ : World.ownsRow (wo.setCell ⟨bl, k, none⟩ (.int .i64 (v - x))) (w.heap.size + 1) 3 1 (.slice (some ⟨bl, 0, none⟩) u cp) u ((lf.set k (v - x)).map (.int .i64)) ∧ wo.grownBy (wo.setCell ⟨bl, k, none⟩ (.int .i64 (v - x))) (some bl) := by
              have := HOWN.out.stored k (.int .i64 (v - x))
              rw [List.map_set]; simpa using this
            have hof7 := HOF.out.keepC hg7 (fun q hq => by cases hq; exact hgB)
            obtain ⟨hoc, hofz⟩ := hof7.cell hzl
            have hfin := hof7.put z (k : Int)
            have hrow := hst7.kept (grownBy_setCell (wo.setCell ⟨bl, k, none⟩ (.int .i64 (v - x))) ⟨w.heap.size, z, none⟩ (.int .i64 (k : Int))) (ne_low hst7 (Nat.lt_succ_self _))
            have hb2 : b2 < w.heap.size := (HH2.out _ HOF.out.below).mem (by omega)
            have hc2' : (wo.setCell ⟨bl, k, none⟩ (.int .i64 (v - x))).cell? ⟨b2, f2 + t, none⟩ = some (.int .i64 (z : Int)) := (World.cell?_setCell_other _ _ _ _ (by intro e; injection e; omega)).trans hc2
            have HROW := Lib.hid hrow
            have HFIN := Lib.hid hfin
            have HLEN := Lib.hid (show (putL R lf x).length = u by rw [HPU.out, List.length_set]; exact HUL.out)
            clear hrow hfin hst7 hg7 hof7 hvv hv1 hKlt hKge hc0
            go_wp2_with fail
            go_roundw
            case rel =>
              refine ⟨t + 1, cp, some ⟨bl, 0, none⟩, by omega, by go_num, by rw [HN1.out, HLEN.out], by rw [HN1.out, HLEN.out, HPU.out]; exact HROW.out, HFIN.out.congr (fun q hq => ?_)⟩
              rw [HN2.out]; split <;> rfl
            case measure => simp [intOf]; omega
        · have hke : K = k := by omega
          have hkeu : u = k := by omega
          subst hkeu
          have hkI : ¬ (u : Int) < (u : Int) := by omega
          have hne : ((u : Int) == (u : Int)) = true := by simp
          rw [if_pos hke] at HPU
          rw [hke] at HN2 HPU
          have hlast : (lf ++ [R]).getD u 0 = R := by
            rw [List.getD_eq_getElem?_getD, List.getElem?_append_right (by rw [HUL.out]; omega), HUL.out]; simp
          rw [hlast] at HPU
          have hb2 : b2 < w.heap.size := (HH2.out _ HOF.out.below).mem (by omega)
          have hwo1 : w.heap.size + 1 ≤ wo.heap.size := (World.block_lt_of_cell? wo _ (HOF.out.cell hzl).1)
          have HLAST := Lib.hid hlast
          have HLEN := Lib.hid (show (putL R lf x).length = u + 1 by rw [HPU.out, List.length_set, List.length_append, HUL.out]; rfl)
          clear hKlt hKge hlast hke hkK hku hKu
          go_wp2_with (first
            | (at_builtin; refine wpApp1 rfl _ _ rfl (w.heap.size + 1) _ _ _ _ R rfl HOWN.out rfl hwo1 (by omega) ?_; intro a6 c6 w6 hown6 hc6 hgr6; have hos := own_snoc hown6; obtain ⟨g6, v6, e6, hg6B, hc60, hf6⟩ := own_place hos (j := u) (by omega); subst e6; obtain ⟨bb, ff, vv, ee, hvv, hcc⟩ := (own_low hos (by omega)).get (k := u) (by omega); cases ee; rw [Nat.zero_add] at hcc; rw [show vv = R by rw [← getD_of hvv]; exact HLAST.out] at hcc; clear hvv hc60; have hof6 := HOF.out.keepC hgr6 (fun q hq => (HOWN.out.lt q hq).1); have hst8 := hos.stored u (.int .i64 (R - x)); rw [← List.map_set] at hst8; obtain ⟨hs8, hg8⟩ := hst8; have hof8 := hof6.keepC hg8 (fun q hq => by cases hq; exact hg6B); obtain ⟨hoc, hofz⟩ := hof8.cell hzl; have hc22 := (hof8.below.cell (p := ⟨b2, f2 + t, none⟩) hb2).trans ((HOF.out.below.cell (p := ⟨b2, f2 + t, none⟩) hb2).symm.trans hc2); have HFIN := Lib.hid (hof8.put z (u : Int)); have HROW := Lib.hid (hs8.kept (grownBy_setCell _ ⟨w.heap.size, z, none⟩ (.int .i64 (u : Int))) (ne_low hs8 (Nat.lt_succ_self _))); clear hof6 hof8 hs8 hg8 hos hown6 hgr6)
            | fail)
          go_roundw
          case rel =>
            refine ⟨t + 1, c6, some ⟨g6, 0, none⟩, by omega, by go_num, by rw [HN1.out, HLEN.out], by rw [HN1.out, HLEN.out, HPU.out]; exact HROW.out, HFIN.out.congr (fun q hq => ?_)⟩
            rw [HN2.out]; split <;> rfl
          case measure => simp [intOf]; omega
    · obtain rfl : t = len := by omega
      have htI : ¬ (t : Int) < (t : Int) := by omega
      go_wp2_with fail
      go_ret
      exact HOF.out.done (by omega)
end Go.Proofs.YtjcbpnffmebihaaGreatDoor
namespace Go.Proofs.YtjcbpnffmebihaaGreatDoor
open Go.RowKit Go.WideShapes

/-- length x stands ahead of y: y is shorter -/
def ahL (xs : List Int) (x y : Nat) : Bool := decide (xs.getD y 0 < xs.getD x 0)
set_option maxRecDepth 100000 in
set_option maxHeartbeats 8000000 in
theorem byLength_any (a : Option Addr) (len cap : Nat) (xs : List Int) (w : World) (h : IntsAt w (· < w.heap.size) a len xs) (hl8 : len ≤ 8) :
    Calls Tryz.prog 61 #[.slice a len cap] w (NewOwn w (srtI (ahL xs) len)) := by
  have ho0 := World.ownsRow_made (base := w.heap.size) (size := 1) (e := 3) w #[] 0 (Nat.le_refl _) (Nat.zero_le _) rfl
  have HAHD := Lib.hid (fun x y => show ahL xs x y = decide (xs.getD y 0 < xs.getD x 0) from rfl)
  have hst : srtI (ahL xs) 0 = [] := by simp [srtI, sortE]
  generalize ahL xs = ah at *
  have HST := Lib.hid hst
  have HH := Lib.hid (fun w' (hb : Below w.heap.size w w') => h.below hb)
  clear hst h
  go_enter Tryz.func61, Tryz.ntmps61
  go_wp2_with fail
  go_loopw [3, 4] (fun v i wr => ∃ (j cp g : Nat), i = .int .i64 j ∧ v = .slice (some ⟨g, 0, none⟩) j cp ∧ wr.ownsRow w.heap.size 3 1 v j ((srtI ah j).map (.int .i64)) ∧ j ≤ cp ∧ j ≤ len ∧ Below w.heap.size w wr) (fun _ i _ => len - (intOf i).toNat)
  case atStart => exact ⟨0, 0, w.heap.size, rfl, rfl, (by rw [HST.out]; exact ho0), Nat.zero_le _, Nat.zero_le _, (Below.refl _ _).alloc (Nat.le_refl _) _⟩
  case round =>
    clear ho0
    obtain ⟨j, cp, g, rfl, rfl, hown, hjc, hjl, hB⟩ := hrel
    obtain ⟨wo, rfl⟩ : ∃ wo : World, wo = wr := ⟨_, rfl⟩
    have HOWN := Lib.hid hown
    have HBB := Lib.hid hB
    clear hown hB
    by_cases hlt : j < len
    · have hltI : (j : Int) < (len : Int) := by omega
      go_wp2_with fail
      go_loopw [5] (fun kk ws => ∃ k : Nat, kk = .int .i64 k ∧ k ≤ j ∧ Drew wo ws ∧ ∀ m, k ≤ m → m < j → ah j ((sortE ah j).getD m 0) = true) (fun kk _ => (intOf kk).toNat)
      case atStart => exact ⟨j, rfl, Nat.le_refl _, Drew.refl _, fun m hm hm2 => by omega⟩
      case round =>
        obtain ⟨k, rfl, hkj, hdw, hall⟩ := hrel
        have HALL := Lib.hid hall
        clear hall
        obtain ⟨wi, rfl⟩ : ∃ wi : World, wi = wr := ⟨_, rfl⟩
        have HDW := Lib.hid hdw
        clear hdw
        have hown1 : wi.ownsRow w.heap.size 3 1 (.slice (some ⟨g, 0, none⟩) j cp) j ((srtI ah j).map (.int .i64)) := by
          obtain ⟨q0, hq0⟩ := HDW.out
          rw [hq0]; exact own_drewN HOWN.out _
        have HB0 : Hid (Below w.heap.size w wi) := Lib.hid (by
          obtain ⟨q0, hq0⟩ := HDW.out
          rw [hq0]; exact ⟨HBB.out.os, HBB.out.tape, HBB.out.output, HBB.out.size, HBB.out.block⟩)
        by_cases hkl : 0 < k
        · obtain ⟨p, rfl⟩ : ∃ p, k = p + 1 := ⟨k - 1, by omega⟩
          have hx0 : IntsAt wi (· < wi.heap.size) (some ⟨g, 0, none⟩) j (srtI ah j) := by
            obtain ⟨a', c', e', _, h'⟩ := own_ints hown1 (by omega)
            injection e' with e1 _ _
            subst e1
            exact h'.to fun b hb => ⟨hb.2, rfl⟩
          obtain ⟨b9, off9, x9, e9, hx9, hc9⟩ := hx0.get (k := p) (by omega)
          cases e9
          rw [Nat.zero_add] at hc9
          obtain ⟨y, rfl, hyj, hy⟩ := srtI_get hx9
          have HY := Lib.hid hy
          have HOWI := Lib.hid hown1
          clear hx0 hx9 hy hown1
          obtain ⟨bi, oi, vi, rfl, hvi, hci⟩ := (HH.out wi HB0.out).get hlt
          obtain ⟨by', oy, vy, ey, hvy, hcy⟩ := (HH.out wi HB0.out).get (show y < len by omega)
          cases ey
          have HD := Lib.hid (show ah j y = decide (vy < vi) by rw [HAHD.out, getD_of hvi, getD_of hvy])
          clear hvi hvy
          have hkl' : (0 : Int) < ((p + 1 : Nat) : Int) := by omega
          have hkld : decide ((0 : Int) < ((p + 1 : Nat) : Int)) = true := decide_eq_true hkl'
          have hkln : decide (0 < p + 1) = true := decide_eq_true (by omega)
          have hklm : decide ((0 : Int) < (p : Int) + 1) = true := decide_eq_true (by omega)
          have hpI : (p : Int) < (j : Int) := by omega
          have hyI : (y : Int) < (len : Int) := by omega
          have hpe : ((p + 1 : Nat) : Int) - 1 = (p : Int) := by omega
          have hwp : IntKind.i64.wrap (((p + 1 : Nat) : Int) - 1) = (p : Int) := by rw [hpe]; exact IntWalk.i64_in _ (by omega)
          have hwp2 : IntKind.i64.wrap ((p : Int) + 1 - 1) = (p : Int) := by rw [Int.add_sub_cancel]; exact IntWalk.i64_in _ (by omega)
          by_cases hbt : vy < vi
          · have hbd : decide (vy < vi) = true := decide_eq_true hbt
            go_wp2_with fail
            go_quiet (fail)
            go_wp2_with fail
            go_roundw
            case rel => exact ⟨p, by go_num, by omega, HDW.out.drew _, fun m hm hm2 => by
              rcases Nat.lt_or_ge p m with h' | h'
              · exact HALL.out m (by omega) hm2
              · have : m = p := by omega
                subst this
                rw [HY.out, HD.out]; exact hbd⟩
            case measure => simp [intOf] <;> omega
          · have hbd : decide (vy < vi) = false := decide_eq_false hbt
            have HSU := Lib.hid (srtI_succ (ah := ah) (n := j) (k := p + 1) HALL.out (fun _ => by rw [Nat.add_sub_cancel, HY.out, HD.out]; exact hbd) hkj)
            go_wp2_with fail
            go_quiet (fail)
            obtain ⟨w1, hw1⟩ : ∃ w1 : World, wi.drewN nq = w1 := ⟨_, rfl⟩
            rw [hw1]
            have HOW1 : Hid (w1.ownsRow w.heap.size 3 1 (.slice (some ⟨g, 0, none⟩) j cp) j ((srtI ah j).map (.int .i64))) := Lib.hid (by
              rw [← hw1]; exact own_drewN HOWI.out _)
            have HB1 : Hid (Below w.heap.size w w1) := Lib.hid (by
              rw [← hw1]; exact ⟨HB0.out.os, HB0.out.tape, HB0.out.output, HB0.out.size, HB0.out.block⟩)
            clear hw1
            obtain ⟨k, hk1⟩ : ∃ k, p + 1 = k := ⟨_, rfl⟩
            have hk1I : (p : Int) + 1 = (k : Int) := by omega
            rw [hk1] at HSU hkj hkl'
            try rw [hk1]
            try rw [hk1I]
            clear hbt hbd hc9 hci hcy hpe hpI hk1 hk1I HALL HY HD hkld hkln hklm hwp hwp2 hyI
            have hx1 : IntsAt w1 (· < w1.heap.size) (some ⟨g, 0, none⟩) j (srtI ah j) := by
              obtain ⟨a', c', e', _, h'⟩ := own_ints HOW1.out (by omega)
              injection e' with e1 _ _
              subst e1
              exact h'.to fun b hb => ⟨hb.2, rfl⟩
            have HT := Lib.hid (hx1.takeI k hkj)
            obtain ⟨AD, hAD, hD⟩ : ∃ od : Nat, (if cp = k then (some ⟨g, 0, none⟩ : Option Addr) else some ⟨g, k, none⟩) = some ⟨g, od, none⟩ ∧ IntsAt w1 (· < w1.heap.size) (some ⟨g, od, none⟩) (j - k) ((srtI ah j).drop k) := by
              by_cases hck : cp = k
              · exact ⟨0, by rw [if_pos hck], by have := hx1.lenEq; simp; omega, by omega, fun h0 => by omega⟩
              · exact ⟨k, by rw [if_neg hck], hx1.dropI k hkj⟩
            have HD := Lib.hid hD
            clear hD hx1
            have hkc : k ≤ cp := by omega
            have QA := Lib.hid (World.ownsRow_made (base := w1.heap.size) (size := 1) (e := 3) w1 #[] 0 (Nat.le_refl _) (Nat.zero_le _) rfl)
            have QB : Hid (((w1.alloc (.cells #[.int .i64 (j : Int)] 3)).alloc (.cells #[] 3)).ownsRow w1.heap.size 3 1 (.slice (some ⟨w1.heap.size + 1, 0, none⟩) 0 0) 0 (([] : List Int).map (.int .i64))) := Lib.hid (by
              have := World.ownsRow_made (base := w1.heap.size) (size := 1) (e := 3) (w1.alloc (.cells #[.int .i64 (j : Int)] 3)) #[] 0 (by simp) (Nat.zero_le _) rfl
              simpa using this)
            have YA : Hid (IntsAt ((w1.alloc (.cells #[] 3)).alloc (.cells #[.int .i64 (j : Int)] 3)) (fun k => k = w1.heap.size + 1) (some ⟨w1.heap.size + 1, 0, none⟩) 1 [(j : Int)]) := Lib.hid (IntsAt.lit rfl rfl (by simp) (by omega))
            have YB : Hid (IntsAt ((w1.alloc (.cells #[.int .i64 (j : Int)] 3)).alloc (.cells #[] 3)) (fun k => k = w1.heap.size) (some ⟨w1.heap.size, 0, none⟩) 1 [(j : Int)]) := Lib.hid (IntsAt.to (IntsAt.lit (W := w1) (cs := #[.int .i64 (j : Int)]) (t := 3) (xs := [(j : Int)]) (len := 1) rfl rfl rfl (by omega)) (fun b hb => ⟨hb, by subst hb; exact Below.heap_alloc _ _ _ (by simp)⟩))
            have B1 : Hid (Below w1.heap.size w1 (w1.alloc (.cells #[] 3)).drew) := Lib.hid ((Below.refl _ _).alloc (Nat.le_refl _) _).drew
            have B2 : Hid (Below w1.heap.size w1 ((w1.alloc (.cells #[] 3)).alloc (.cells #[.int .i64 (j : Int)] 3)).drew) := Lib.hid (((Below.refl _ _).alloc (Nat.le_refl _) _).alloc (by simp) _).drew
            have B3 : Hid (Below w1.heap.size w1 ((w1.alloc (.cells #[.int .i64 (j : Int)] 3)).alloc (.cells #[] 3)).drew) := Lib.hid (((Below.refl _ _).alloc (Nat.le_refl _) _).alloc (by simp) _).drew
            go_wp2_with fail
            go_region_law (first
              | (refine stepApp (by rfl) _ _ (by rfl) w1.heap.size 0 0 w1.heap.size [] (· < w1.heap.size) g 0 k cp ((srtI ah j).take k) (by rfl) QA.out.drew (by rfl) (HT.out.below B1.out) B1.out.size k (by omega) ((srtI ah j).take k) (by simp) (by omega) ?_
                 intro g4 c4 w4 own4 hc4 gr4 hb4 hl4
                 have BC := Lib.hid (B1.out.grown gr4 B1.out.size (by intro k e; injection e with e; omega)))
              | (refine stepApp (by rfl) _ _ (by rfl) w1.heap.size 0 0 w1.heap.size [] (· < w1.heap.size) g 0 k cp ((srtI ah j).take k) (by rfl) (QA.out.alloc _).drew (by rfl) (HT.out.below B2.out) B2.out.size k (by omega) ((srtI ah j).take k) (by simp) (by omega) ?_
                 intro g4 c4 w4 own4 hc4 gr4 hb4 hl4
                 have BA := Lib.hid (B2.out.grown gr4 B2.out.size (by intro k e; injection e with e; omega))
                 have Y4 := Lib.hid (YA.out.grownEq gr4 rfl (by simp <;> omega) (by omega)))
              | (refine stepApp (by rfl) _ _ (by rfl) w1.heap.size 0 0 (w1.heap.size + 1) [] (· < w1.heap.size) g 0 k cp ((srtI ah j).take k) (by rfl) QB.out.drew (by rfl) (HT.out.below B3.out) B3.out.size k (by omega) ((srtI ah j).take k) (by simp) (by omega) ?_
                 intro g4 c4 w4 own4 hc4 gr4 hb4 hl4
                 have BA := Lib.hid (B3.out.grown gr4 B3.out.size (by intro k e; injection e with e; omega))
                 have Y4 := Lib.hid (YB.out.grownEq gr4 rfl (by simp <;> omega) (by omega)))
              | (refine stepApp (by rfl) _ _ (by rfl) w1.heap.size k c4 g4 ((srtI ah j).take k) (fun b => b = w4.heap.size) w4.heap.size 0 1 1 [(j : Int)] (by rfl) (own4.alloc _) (by rfl) (IntsAt.lit (W := w4) (cs := #[.int .i64 (j : Int)]) (t := 3) (xs := [(j : Int)]) (len := 1) rfl rfl rfl (by omega)) (by have := BC.out.size; simp; omega) (k + 1) rfl ((srtI ah j).take k ++ [(j : Int)]) rfl (by omega) ?_
                 intro g5 c5 w5 own5 hc5 gr5 hb5 hl5
                 have B5 := Lib.hid ((BC.out.alloc BC.out.size _).grown gr5 (by have := BC.out.size; simp; omega) (by intro k e; injection e with e; omega)))
              | (refine stepApp (by rfl) _ _ (by rfl) w1.heap.size k c4 g4 ((srtI ah j).take k) _ _ 0 1 1 [(j : Int)] (by rfl) own4 (by rfl) Y4.out BA.out.size (k + 1) rfl ((srtI ah j).take k ++ [(j : Int)]) rfl (by omega) ?_
                 intro g5 c5 w5 own5 hc5 gr5 hb5 hl5
                 have B5 := Lib.hid (BA.out.grown gr5 BA.out.size (by intro k e; injection e with e; omega)))
              | (refine stepApp (by rfl) _ _ (by rfl) w1.heap.size (k + 1) c5 g5 ((srtI ah j).take k ++ [(j : Int)]) (· < w1.heap.size) g AD (j - k) (cp - k) ((srtI ah j).drop k) (by rfl) own5 (by rfl) (HD.out.below B5.out) B5.out.size (j + 1) (by omega) ((srtI ah j).take k ++ [(j : Int)] ++ (srtI ah j).drop k) rfl (by omega) ?_
                 intro g6 c6 w6 own6 hc6 gr6 hb6 hl6
                 have B6 := Lib.hid (B5.out.grown gr6 B5.out.size (by intro k e; injection e with e; omega))))
            all_goals (have H6 := Lib.hid own6; clear own6 own5 own4 gr4 gr5 gr6)
            all_goals go_wp2_with fail
            all_goals go_roundw
            case rel => exact ⟨j + 1, c6, g6, by go_num, rfl, by rw [HSU.out]; exact own_base H6.out HB1.out.size, hc6, by omega, HB1.out.trans (B6.out.mono HB1.out.size)⟩
            case measure => simp [intOf] <;> omega
            case rel => exact ⟨j + 1, c6, g6, by go_num, rfl, by rw [HSU.out]; exact own_base H6.out HB1.out.size, hc6, by omega, HB1.out.trans (B6.out.mono HB1.out.size)⟩
            case measure => simp [intOf] <;> omega
            case rel => exact ⟨j + 1, c6, g6, by go_num, rfl, by rw [HSU.out]; exact own_base H6.out HB1.out.size, hc6, by omega, HB1.out.trans (B6.out.mono HB1.out.size)⟩
            case measure => simp [intOf] <;> omega
        · have HSU := Lib.hid (srtI_succ (ah := ah) (n := j) (k := k) HALL.out (fun h => absurd h hkl) hkj)
          have hk3 : ¬ (0 : Int) < (k : Int) := by omega
          have hk4 : decide ((0 : Int) < (k : Int)) = false := decide_eq_false hk3
          have hk5 : decide (0 < k) = false := decide_eq_false hkl
          go_wp2_with fail
          go_quiet (fail)
          obtain ⟨w1, hw1⟩ : ∃ w1 : World, wi.drewN nq = w1 := ⟨_, rfl⟩
          rw [hw1]
          have HOW1 : Hid (w1.ownsRow w.heap.size 3 1 (.slice (some ⟨g, 0, none⟩) j cp) j ((srtI ah j).map (.int .i64))) := Lib.hid (by
            rw [← hw1]; exact own_drewN hown1 _)
          have HB1 : Hid (Below w.heap.size w w1) := Lib.hid (by
            rw [← hw1]; exact ⟨HB0.out.os, HB0.out.tape, HB0.out.output, HB0.out.size, HB0.out.block⟩)
          clear hown1 HALL hw1 hk4 hk5
          have hx1 : IntsAt w1 (· < w1.heap.size) (some ⟨g, 0, none⟩) j (srtI ah j) := by
            obtain ⟨a', c', e', _, h'⟩ := own_ints HOW1.out (by omega)
            injection e' with e1 _ _
            subst e1
            exact h'.to fun b hb => ⟨hb.2, rfl⟩
          have HT := Lib.hid (hx1.takeI k hkj)
          obtain ⟨AD, hAD, hD⟩ : ∃ od : Nat, (if cp = k then (some ⟨g, 0, none⟩ : Option Addr) else some ⟨g, k, none⟩) = some ⟨g, od, none⟩ ∧ IntsAt w1 (· < w1.heap.size) (some ⟨g, od, none⟩) (j - k) ((srtI ah j).drop k) := by
            by_cases hck : cp = k
            · exact ⟨0, by rw [if_pos hck], by have := hx1.lenEq; simp; omega, by omega, fun h0 => by omega⟩
            · exact ⟨k, by rw [if_neg hck], hx1.dropI k hkj⟩
          have HD := Lib.hid hD
          clear hD hx1
          have hkc : k ≤ cp := by omega
          have QA := Lib.hid (World.ownsRow_made (base := w1.heap.size) (size := 1) (e := 3) w1 #[] 0 (Nat.le_refl _) (Nat.zero_le _) rfl)
          have QB : Hid (((w1.alloc (.cells #[.int .i64 (j : Int)] 3)).alloc (.cells #[] 3)).ownsRow w1.heap.size 3 1 (.slice (some ⟨w1.heap.size + 1, 0, none⟩) 0 0) 0 (([] : List Int).map (.int .i64))) := Lib.hid (by
            have := World.ownsRow_made (base := w1.heap.size) (size := 1) (e := 3) (w1.alloc (.cells #[.int .i64 (j : Int)] 3)) #[] 0 (by simp) (Nat.zero_le _) rfl
            simpa using this)
          have YA : Hid (IntsAt ((w1.alloc (.cells #[] 3)).alloc (.cells #[.int .i64 (j : Int)] 3)) (fun k => k = w1.heap.size + 1) (some ⟨w1.heap.size + 1, 0, none⟩) 1 [(j : Int)]) := Lib.hid (IntsAt.lit rfl rfl (by simp) (by omega))
          have YB : Hid (IntsAt ((w1.alloc (.cells #[.int .i64 (j : Int)] 3)).alloc (.cells #[] 3)) (fun k => k = w1.heap.size) (some ⟨w1.heap.size, 0, none⟩) 1 [(j : Int)]) := Lib.hid (IntsAt.to (IntsAt.lit (W := w1) (cs := #[.int .i64 (j : Int)]) (t := 3) (xs := [(j : Int)]) (len := 1) rfl rfl rfl (by omega)) (fun b hb => ⟨hb, by subst hb; exact Below.heap_alloc _ _ _ (by simp)⟩))
          have B1 : Hid (Below w1.heap.size w1 (w1.alloc (.cells #[] 3)).drew) := Lib.hid ((Below.refl _ _).alloc (Nat.le_refl _) _).drew
          have B2 : Hid (Below w1.heap.size w1 ((w1.alloc (.cells #[] 3)).alloc (.cells #[.int .i64 (j : Int)] 3)).drew) := Lib.hid (((Below.refl _ _).alloc (Nat.le_refl _) _).alloc (by simp) _).drew
          have B3 : Hid (Below w1.heap.size w1 ((w1.alloc (.cells #[.int .i64 (j : Int)] 3)).alloc (.cells #[] 3)).drew) := Lib.hid (((Below.refl _ _).alloc (Nat.le_refl _) _).alloc (by simp) _).drew
          go_wp2_with fail
          go_region_law (first
            | (refine stepApp (by rfl) _ _ (by rfl) w1.heap.size 0 0 w1.heap.size [] (· < w1.heap.size) g 0 k cp ((srtI ah j).take k) (by rfl) QA.out.drew (by rfl) (HT.out.below B1.out) B1.out.size k (by omega) ((srtI ah j).take k) (by simp) (by omega) ?_
               intro g4 c4 w4 own4 hc4 gr4 hb4 hl4
               have BC := Lib.hid (B1.out.grown gr4 B1.out.size (by intro k e; injection e with e; omega)))
            | (refine stepApp (by rfl) _ _ (by rfl) w1.heap.size 0 0 w1.heap.size [] (· < w1.heap.size) g 0 k cp ((srtI ah j).take k) (by rfl) (QA.out.alloc _).drew (by rfl) (HT.out.below B2.out) B2.out.size k (by omega) ((srtI ah j).take k) (by simp) (by omega) ?_
               intro g4 c4 w4 own4 hc4 gr4 hb4 hl4
               have BA := Lib.hid (B2.out.grown gr4 B2.out.size (by intro k e; injection e with e; omega))
               have Y4 := Lib.hid (YA.out.grownEq gr4 rfl (by simp <;> omega) (by omega)))
            | (refine stepApp (by rfl) _ _ (by rfl) w1.heap.size 0 0 (w1.heap.size + 1) [] (· < w1.heap.size) g 0 k cp ((srtI ah j).take k) (by rfl) QB.out.drew (by rfl) (HT.out.below B3.out) B3.out.size k (by omega) ((srtI ah j).take k) (by simp) (by omega) ?_
               intro g4 c4 w4 own4 hc4 gr4 hb4 hl4
               have BA := Lib.hid (B3.out.grown gr4 B3.out.size (by intro k e; injection e with e; omega))
               have Y4 := Lib.hid (YB.out.grownEq gr4 rfl (by simp <;> omega) (by omega)))
            | (refine stepApp (by rfl) _ _ (by rfl) w1.heap.size k c4 g4 ((srtI ah j).take k) (fun b => b = w4.heap.size) w4.heap.size 0 1 1 [(j : Int)] (by rfl) (own4.alloc _) (by rfl) (IntsAt.lit (W := w4) (cs := #[.int .i64 (j : Int)]) (t := 3) (xs := [(j : Int)]) (len := 1) rfl rfl rfl (by omega)) (by have := BC.out.size; simp; omega) (k + 1) rfl ((srtI ah j).take k ++ [(j : Int)]) rfl (by omega) ?_
               intro g5 c5 w5 own5 hc5 gr5 hb5 hl5
               have B5 := Lib.hid ((BC.out.alloc BC.out.size _).grown gr5 (by have := BC.out.size; simp; omega) (by intro k e; injection e with e; omega)))
            | (refine stepApp (by rfl) _ _ (by rfl) w1.heap.size k c4 g4 ((srtI ah j).take k) _ _ 0 1 1 [(j : Int)] (by rfl) own4 (by rfl) Y4.out BA.out.size (k + 1) rfl ((srtI ah j).take k ++ [(j : Int)]) rfl (by omega) ?_
               intro g5 c5 w5 own5 hc5 gr5 hb5 hl5
               have B5 := Lib.hid (BA.out.grown gr5 BA.out.size (by intro k e; injection e with e; omega)))
            | (refine stepApp (by rfl) _ _ (by rfl) w1.heap.size (k + 1) c5 g5 ((srtI ah j).take k ++ [(j : Int)]) (· < w1.heap.size) g AD (j - k) (cp - k) ((srtI ah j).drop k) (by rfl) own5 (by rfl) (HD.out.below B5.out) B5.out.size (j + 1) (by omega) ((srtI ah j).take k ++ [(j : Int)] ++ (srtI ah j).drop k) rfl (by omega) ?_
               intro g6 c6 w6 own6 hc6 gr6 hb6 hl6
               have B6 := Lib.hid (B5.out.grown gr6 B5.out.size (by intro k e; injection e with e; omega))))
          all_goals (have H6 := Lib.hid own6; clear own6 own5 own4 gr4 gr5 gr6)
          all_goals go_wp2_with fail
          all_goals go_roundw
          case rel => exact ⟨j + 1, c6, g6, by go_num, rfl, by rw [HSU.out]; exact own_base H6.out HB1.out.size, hc6, by omega, HB1.out.trans (B6.out.mono HB1.out.size)⟩
          case measure => simp [intOf] <;> omega
          case rel => exact ⟨j + 1, c6, g6, by go_num, rfl, by rw [HSU.out]; exact own_base H6.out HB1.out.size, hc6, by omega, HB1.out.trans (B6.out.mono HB1.out.size)⟩
          case measure => simp [intOf] <;> omega
          case rel => exact ⟨j + 1, c6, g6, by go_num, rfl, by rw [HSU.out]; exact own_base H6.out HB1.out.size, hc6, by omega, HB1.out.trans (B6.out.mono HB1.out.size)⟩
          case measure => simp [intOf] <;> omega
    · obtain rfl : j = len := by omega
      have hltI : ¬ (j : Int) < (j : Int) := by omega
      go_wp2_with fail
      go_ret
      exact ⟨_, _, _, rfl, by omega, HOWN.out, HBB.out⟩
end Go.Proofs.YtjcbpnffmebihaaGreatDoor
namespace Go.Proofs.YtjcbpnffmebihaaGreatDoor
open Go.RowKit Go.WideShapes

def isLong (kind : ByteArray) : Bool := kind.toList == [108, 111, 110, 103]
def isFirst (kind : ByteArray) : Bool := kind.toList == [102, 105, 114, 115, 116]
theorem long_not_first {kind : ByteArray} (h : isLong kind = true) : isFirst kind = false := by
  unfold isLong at h
  unfold isFirst
  rw [beq_iff_eq] at h
  rw [h]; rfl
theorem l_isLong : isLong ⟨#[108, 111, 110, 103]⟩ = true := by kernel_rfl
def upI (n : Nat) : List Int := (List.range n).map (fun x : Nat => (x : Int))
theorem upI_get (n j : Nat) (h : j < n) : (upI n).getD j 0 = (((List.range n).getD j 0 : Nat) : Int) := by
  unfold upI
  simp [List.getD_eq_getElem?_getD, h]
theorem srtI_getD (ah : Nat → Nat → Bool) (n j : Nat) (h : j < n) : (srtI ah n).getD j 0 = (((sortE ah n).getD j 0 : Nat) : Int) := by
  have := sortE_len ah n
  unfold srtI
  simp [List.getD_eq_getElem?_getD, this, h]
theorem upI_succ (n : Nat) : upI (n + 1) = upI n ++ [(n : Int)] := by unfold upI; rw [List.range_succ, List.map_append]; rfl
/-- the order in which the kind cuts -/
def cutOrd (xs : List Int) (kind : ByteArray) : List Nat := if isLong kind then sortE (ahL xs) xs.length else List.range xs.length
theorem cutOrd_perm (xs : List Int) (kind : ByteArray) : (cutOrd xs kind).Perm (List.range xs.length) := by
  unfold cutOrd; split
  · exact sortE_perm _ _
  · exact List.Perm.refl _
/-- what RollsBy answers -/
def rollRes (xs : List Int) (R : Int) (kind : ByteArray) : List Int := if cutsM xs R && (isLong kind || isFirst kind) then tab (fun i => (rollP (lenT xs) R (cutOrd xs kind) xs.length i : Int)) xs.length else []
set_option maxRecDepth 100000 in
theorem upTo_any (n : Nat) (w : World) (hn : n ≤ 1000) : Calls Tryz.prog 62 #[.int .i64 n] w (NewOwn w (upI n)) := by
  have ho0 := World.ownsRow_made (base := w.heap.size) (size := 1) (e := 3) w #[] 0 (Nat.le_refl _) (Nat.zero_le _) rfl
  have HO0 := Lib.hid ho0
  clear ho0
  go_enter Tryz.func62, Tryz.ntmps62
  go_wp2_with fail
  go_loopw [3, 4] (fun v i wr => ∃ (k cp : Nat) (ax : Option Addr), k ≤ n ∧ i = .int .i64 k ∧ v = .slice ax k cp ∧ wr.ownsRow w.heap.size 3 1 v k ((upI k).map (.int .i64)) ∧ Below w.heap.size w wr) (fun _ i _ => n - (intOf i).toNat)
  case atStart => exact ⟨0, 0, _, Nat.zero_le _, rfl, rfl, HO0.out, (Below.refl _ _).alloc (Nat.le_refl _) _⟩
  case round =>
    clear HO0
    obtain ⟨k, cp, ax, hk, rfl, rfl, hown, hB⟩ := hrel
    obtain ⟨wo, rfl⟩ : ∃ wo : World, wo = wr := ⟨_, rfl⟩
    have HO9 := Lib.hid hown
    have HB9 := Lib.hid hB
    clear hown hB
    by_cases hlt : k < n
    · have hkI : (k : Int) < (n : Int) := by omega
      go_wp2_with (at_builtin; refine wpApp1 rfl _ _ rfl w.heap.size _ _ _ _ _ rfl HO9.out rfl HB9.out.size (by omega) ?_)
      intro a6 c6 w6 hown hc6 hgr
      have HO6 := Lib.hid hown
      have HG6 := Lib.hid hgr
      clear hown hgr
      go_wp2
      go_roundw
      case rel => exact ⟨k + 1, c6, a6, by omega, by go_num, rfl, by rw [upI_succ]; exact own_snoc HO6.out, HB9.out.grown HG6.out HB9.out.size (own_block HO9.out)⟩
      case measure => simp [intOf]; omega
    · obtain rfl : k = n := by omega
      have hkI : ¬ (k : Int) < (k : Int) := by omega
      go_wp2_with fail
      go_ret
      exact ⟨_, _, _, rfl, by omega, HO9.out, HB9.out⟩
set_option maxRecDepth 100000 in
set_option maxHeartbeats 2000000 in
theorem rollsBy_own (a : Option Addr) (len cap : Nat) (xs : List Int) (R : Int) (kind : ByteArray) (w : World) (h : IntsAt w (· < w.heap.size) a len xs) :
    Calls Tryz.prog 44 #[.slice a len cap, .int .i64 R, .string kind] w (NewInts w (rollRes xs R kind)) := by
  have HL := Lib.hid h.lenEq
  cases hv : cutsM xs R
  · have HR := Lib.hid (show rollRes xs R kind = [] by unfold rollRes; rw [hv]; rfl)
    rw [HR.out]
    go_enter Tryz.func44, Tryz.ntmps44
    go_wp2_with (first | (go_at_call 42; refine (vcuts hv _ h).mono ?_; rintro e w' ⟨rfl, rfl⟩) | fail)
    go_ret
    exact newInts_nil w
  · have hl7 : len ≤ 7 := by have := (cuts_get hv).2.2.1; have := HL.out; omega
    have HVJ := Lib.hid (vcuts (cap := cap) hv w h)
    have e1 : (kind.toList == [108, 111, 110, 103]) = isLong kind := rfl
    have e2 : (kind.toList == [102, 105, 114, 115, 116]) = isFirst kind := rfl
    cases h1 : isLong kind
    · rw [h1] at e1
      cases h2 : isFirst kind
      · rw [h2] at e2
        have HR := Lib.hid (show rollRes xs R kind = [] by unfold rollRes; rw [hv, h1, h2]; rfl)
        rw [HR.out]
        clear h1 h2
        go_enter Tryz.func44, Tryz.ntmps44
        go_wp2_with fail
        refine HVJ.out.mono ?_
        rintro e w' ⟨rfl, rfl⟩
        go_wp2_with fail
        go_ret
        exact newInts_nil _
      · rw [h2] at e2
        have HR := Lib.hid (show rollRes xs R kind = tab (fun i => (rollP (lenT xs) R (List.range len) len i : Int)) len by unfold rollRes cutOrd; rw [hv, h1, h2, HL.out]; rfl)
        rw [HR.out]
        clear h1 h2
        go_enter Tryz.func44, Tryz.ntmps44
        go_wp2_with fail
        refine HVJ.out.mono ?_
        rintro e w' ⟨rfl, rfl⟩
        go_wp2_with fail
        refine (upTo_any len w (by omega)).mono ?_
        rintro e w1 h1
        obtain ⟨a3, l3, c3, rfl, h3, hc3, hb1⟩ := h1.ints
        have hl3 : l3 = len := by have := h3.lenEq; simp [upI] at this; omega
        subst hl3
        have HF := Lib.hid (fit_any a a3 l3 cap c3 xs (upI l3) R (List.range l3) w1 ((h.below hb1).to (fun b hb => ⟨Nat.lt_of_lt_of_le hb hb1.size, rfl⟩)) (h3.to (fun b hb => ⟨hb.2, rfl⟩)) hv (List.Perm.refl _) (fun j hj => upI_get _ j hj))
        have HB1 := Lib.hid hb1
        clear h3 hb1 h1
        go_wp2_with fail
        refine HF.out.mono ?_
        rintro e w2 h2
        obtain ⟨a4, l4, c4, rfl, h4, hc4, hb2⟩ := h2.ints
        have H4 := Lib.hid h4
        have HB2 := Lib.hid (HB1.out.trans (hb2.mono HB1.out.size))
        clear h4 hb2 h2
        go_wp2_with fail
        go_ret
        exact ⟨a4, l4, c4, rfl, H4.out.to (fun b hb => ⟨⟨Nat.le_trans HB1.out.size hb.1, hb.2⟩, rfl⟩), hc4, HB2.out⟩
    · rw [h1] at e1
      have h2 := long_not_first h1
      rw [h2] at e2
      have HR := Lib.hid (show rollRes xs R kind = tab (fun i => (rollP (lenT xs) R (sortE (ahL xs) len) len i : Int)) len by unfold rollRes cutOrd; rw [hv, h1, HL.out]; rfl)
      rw [HR.out]
      clear h1 h2
      go_enter Tryz.func44, Tryz.ntmps44
      go_wp2_with fail
      refine HVJ.out.mono ?_
      rintro e w' ⟨rfl, rfl⟩
      go_wp2_with fail
      refine (byLength_any a len cap xs w h (by omega)).mono ?_
      rintro e w1 h1
      obtain ⟨a3, l3, c3, rfl, h3, hc3, hb1⟩ := h1.ints
      have hl3 : l3 = len := by have := h3.lenEq; rw [srtI_len] at this; omega
      subst hl3
      have HF := Lib.hid (fit_any a a3 l3 cap c3 xs (srtI (ahL xs) l3) R (sortE (ahL xs) l3) w1 ((h.below hb1).to (fun b hb => ⟨Nat.lt_of_lt_of_le hb hb1.size, rfl⟩)) (h3.to (fun b hb => ⟨hb.2, rfl⟩)) hv (sortE_perm _ _) (fun j hj => srtI_getD _ _ j hj))
      have HB1 := Lib.hid hb1
      clear h3 hb1 h1
      go_wp2_with fail
      refine HF.out.mono ?_
      rintro e w2 h2
      obtain ⟨a4, l4, c4, rfl, h4, hc4, hb2⟩ := h2.ints
      have H4 := Lib.hid h4
      have HB2 := Lib.hid (HB1.out.trans (hb2.mono HB1.out.size))
      clear h4 hb2 h2
      go_wp2_with fail
      go_ret
      exact ⟨a4, l4, c4, rfl, H4.out.to (fun b hb => ⟨⟨Nat.le_trans HB1.out.size hb.1, hb.2⟩, rfl⟩), hc4, HB2.out⟩
end Go.Proofs.YtjcbpnffmebihaaGreatDoor
namespace Go.Proofs.YtjcbpnffmebihaaGreatDoor

-- nets of tokens: dead nets, and when workers begin (plain)
structure Gr where
  n : Nat
  m : Nat
  f : Nat → Nat
  t : Nat → Nat
  c : Nat → Nat
  tm : Nat → Int
structure Gr.Ok (g : Gr) : Prop where
  n4 : g.n ≤ 4
  m7 : g.m ≤ 7
  ways : ∀ k, k < g.m → g.f k < g.n ∧ g.t k < g.n ∧ g.c k ≤ 3
  times : ∀ v, 0 ≤ g.tm v ∧ g.tm v ≤ 9
/-- the greatest of base and of those that are told -/
def mxP (P : Nat → Bool) (h : Nat → Int) (base : Int) : Nat → Int
  | 0 => base
  | j + 1 => if P j = true then max (mxP P h base j) (h j) else mxP P h base j
def Gr.from (g : Gr) (r v k : Nat) : Bool := decide (g.t k = v ∧ g.c k ≤ r)
def Gr.stepB (g : Gr) (X : Nat → Nat → Int) (r v : Nat) : Int := mxP (g.from r v) (fun k => X (r - g.c k) (g.f k) + g.tm (g.f k)) 0 g.m
def Gr.bF (g : Gr) : Nat → Nat → Nat → Int
  | 0, _, _ => 0
  | q + 1, r, v => g.stepB (g.bF q) r v
def Gr.b (g : Gr) (r v : Nat) : Int := g.bF 200 r v
end Go.Proofs.YtjcbpnffmebihaaGreatDoor
