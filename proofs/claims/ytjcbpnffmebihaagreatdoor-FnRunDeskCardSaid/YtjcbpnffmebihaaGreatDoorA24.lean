import Derived.Test.YtjcbpnffmebihaaGreatDoorA18
import Derived.Test.YtjcbpnffmebihaaGreatDoorA20
import Derived.Test.YtjcbpnffmebihaaGreatDoorRows
import Derived.WalkKit
import Derived.LoopTactic
import Derived.Outline
import Derived.WalkSpells
import Derived.WalkLawsBesides
import Derived.ProofKit
import Derived.Lib.Hide
import Derived.Deep.QuietTactic
import Derived.BigQuiet
import Derived.IntWalk
import Derived.Deep.LoopGhost
import Derived.Shelf.RegionOpenPlain
set_option linter.unusedVariables false
set_option linter.unusedSimpArgs false
namespace Go.Proofs.YtjcbpnffmebihaaGreatDoor
open Go.RowKit Go.WideShapes

-- the sums over jobs in an order
theorem quiet_add {P : Program} {f : FuncId} {args : Array Value} {w : World} {n k : Nat} {v : Value}
    (h : Calls P f args (w.drewN (n + k)) fun e w' => e = .returned v ∧ w' = w.drewN (n + k)) : Calls P f args (w.drewN (n + k)) fun e w'' => e = .returned v ∧ ∃ m, w'' = w.drewN (n + m) :=
  h.mono fun _ _ ⟨he, hm⟩ => ⟨he, k, hm⟩
end Go.Proofs.YtjcbpnffmebihaaGreatDoor
namespace Go.Proofs.YtjcbpnffmebihaaGreatDoor
open Go.RowKit Go.WideShapes

theorem OwnF.keepC {w wr w' : World} {len : Nat} {f : Nat → Int} {row : Option Nat} (h : OwnF w wr len f) (hg : wr.grownBy w' row) (hr : ∀ k, row = some k → w.heap.size + 1 ≤ k) : OwnF w w' len f :=
  ⟨h.own.kept hg (.inr (fun e => by have := hr w.heap.size e.symm; omega)), h.below.grown hg h.below.size (fun k hk => by have := hr k hk; omega)⟩
theorem fit_hi {T : Nat → Int} {R : Int} {n : Nat} {l : List Nat} (hT : ∀ i, i < n → 1 ≤ T i ∧ T i ≤ R) (h : l.Perm (List.range n)) {t : Nat} (ht : t ≤ n) : (fitS T R (ordO l) t).1.length ≤ t ∧ ∀ b, b < (fitS T R (ordO l) t).1.length → 0 ≤ (fitS T R (ordO l) t).1.getD b 0 ∧ (fitS T R (ordO l) t).1.getD b 0 ≤ R := by
  obtain ⟨i1, i2, i3, i4, i5⟩ := roll_inv hT h ht
  refine ⟨?_, fun b hb => ⟨i4 b hb, ?_⟩⟩
  · clear i1 i2 i3 i4 i5
    have key : ∀ t, usedM T R (ordO l) t ≤ t := fun t => by
      induction t with
      | zero => simp [usedM, fitS]
      | succ t ih => rcases used_step T R (ordO l) t with e | ⟨e, _⟩ <;> omega
    exact key t
  · have := i3 b hb
    have h2 := wsum_nn (f := fun j => T (ordO l j)) (P := fun j => (fitS T R (ordO l) t).2 (ordO l j) == b) t (fun j hj => by have := (hT _ (perm_lt h (show j < n by omega))).1; show 0 ≤ T (l.getD j 0); omega)
    omega
set_option maxRecDepth 100000 in
set_option maxHeartbeats 8000000 in
theorem fit_any (a a2 : Option Addr) (len cap cap2 : Nat) (xs ys : List Int) (R : Int) (l : List Nat) (w : World) (h : IntsAt w (· < w.heap.size) a len xs) (h2 : IntsAt w (· < w.heap.size) a2 len ys) (hv : cutsM xs R = true) (hl : l.Perm (List.range len)) (hy : ∀ j, j < len → ys.getD j 0 = ((l.getD j 0 : Nat) : Int)) :
    Calls Tryz.prog 60 #[.slice a len cap, .int .i64 R, .slice a2 len cap2] w (NewOwn w (tab (fun i => (rollP (lenT xs) R l len i : Int)) len)) := by
  have HL := Lib.hid h.lenEq
  obtain ⟨hR1, hR2, hl7, hT⟩ := cuts_get hv
  rw [HL.out] at hl7 hT
  have HT := Lib.hid hT
  have HFH := Lib.hid (fun t (ht : t ≤ len) => fit_hi (T := lenT xs) (R := R) hT hl ht)
  have HPL := Lib.hid (fun j (hj : j < len) => perm_lt hl hj)
  have HY := Lib.hid hy
  have HH := Lib.hid (fun w' (hb : Below w.heap.size w w') => h.below hb)
  have HH2 := Lib.hid (fun w' (hb : Below w.heap.size w w') => h2.below hb)
  have hmk := fun w => run_make_row' (P := Tryz.prog) 35 3 (.int .i64 0) 8 Tryz.underlying35 Tryz.infoIntO rfl .i64 .i64 len (by omega) (by omega) w
  have hst := OwnF.start w len (by omega)
  have hal : (w.alloc (.cells (madeCells #[.int .i64 0] len) 3)).heap.size = w.heap.size + 1 := by simp
  obtain ⟨w1, hw1⟩ : ∃ w1, w.alloc (.cells (madeCells #[.int .i64 0] len) 3) = w1 := ⟨_, rfl⟩
  rw [hw1] at hst hal
  have hs2 := hst.keepC (World.grownBy_alloc w1 (.cells #[] 3) none) (fun k hk => by cases hk)
  have ho2 := World.ownsRow_made (base := w.heap.size + 1) (size := 1) (e := 3) w1 #[] 0 (by omega) (Nat.zero_le _) rfl
  have HW1 := Lib.hid hw1
  have HS2 := Lib.hid hs2
  have HO2 := Lib.hid ho2
  clear h h2 hv hT hy hw1 hst hs2 ho2
  go_enter Tryz.func60, Tryz.ntmps60
  go_wp2_with fail
  rw [HW1.out]
  go_loopw [8, 9] (fun v i wr => ∃ (t cp : Nat) (ax : Option Addr), t ≤ len ∧ i = .int .i64 t ∧ v = .slice ax (fitS (lenT xs) R (ordO l) t).1.length cp ∧ wr.ownsRow (w.heap.size + 1) 3 1 v (fitS (lenT xs) R (ordO l) t).1.length ((fitS (lenT xs) R (ordO l) t).1.map (.int .i64)) ∧ OwnF w wr len (fun i => ((fitS (lenT xs) R (ordO l) t).2 i : Int))) (fun _ i _ => len - (intOf i).toNat)
  case atStart => exact ⟨0, 0, some ⟨w.heap.size + 1, 0, none⟩, Nat.zero_le _, rfl, by simp [fitS], by have := HO2.out; rw [hal] at this; simpa [fitS] using this, HS2.out⟩
  case round =>
    clear HW1 HS2 HO2
    obtain ⟨t, cp, ax, ht, rfl, rfl, hown, hof⟩ := hrel
    obtain ⟨wo, rfl⟩ : ∃ wo : World, wo = wr := ⟨_, rfl⟩
    have HOF := Lib.hid hof
    clear hof
    by_cases hlt : t < len
    · have htI : (t : Int) < (len : Int) := by omega
      obtain ⟨hu, hlfb⟩ := HFH.out t ht
      have HN1 := Lib.hid (show (fitS (lenT xs) R (ordO l) (t + 1)).1 = putL R (fitS (lenT xs) R (ordO l) t).1 (lenT xs (ordO l t)) from rfl)
      have HN2 := Lib.hid (fun i => show (fitS (lenT xs) R (ordO l) (t + 1)).2 i = if i = ordO l t then room (fitS (lenT xs) R (ordO l) t).1 (lenT xs (ordO l t)) else (fitS (lenT xs) R (ordO l) t).2 i from rfl)
      obtain ⟨p, hp⟩ : ∃ p, (fitS (lenT xs) R (ordO l) t).2 = p := ⟨_, rfl⟩
      obtain ⟨lf, hlf⟩ : ∃ lf, (fitS (lenT xs) R (ordO l) t).1 = lf := ⟨_, rfl⟩
      rw [hlf] at hown hu hlfb HN1 HN2 ⊢
      rw [hp] at HN2 HOF
      clear hlf hp
      obtain ⟨z, hz⟩ : ∃ z, ordO l t = z := ⟨_, rfl⟩
      have hzl : z < len := by rw [← hz]; exact HPL.out t hlt
      have hyz : ys.getD t 0 = (z : Int) := by rw [← hz]; exact HY.out t hlt
      rw [hz] at HN1 HN2
      have hxb := HT.out z hzl
      obtain ⟨b2, f2, y, rfl, hyy, hc2⟩ := (HH2.out _ HOF.out.below).get hlt
      obtain ⟨b1, f1, x, rfl, hxx, hc1⟩ := (HH.out _ HOF.out.below).get hzl
      have hy1 : y = (z : Int) := by rw [← getD_of hyy]; exact hyz
      have hx1 : lenT xs z = x := getD_of hxx
      subst hy1
      rw [hx1] at HN1 HN2 hxb
      have hzI : (z : Int) < (len : Int) := by omega
      have HOWN := Lib.hid hown
      have HLO := Lib.hid (own_low hown (by omega))
      obtain ⟨u, hul⟩ : ∃ u, lf.length = u := ⟨_, rfl⟩
      rw [hul] at HOWN HLO hu hlfb ⊢
      have HUL := Lib.hid hul
      have HLB := Lib.hid hlfb
      obtain ⟨K, hK⟩ : ∃ K, room lf x = K := ⟨_, rfl⟩
      have HKL := Lib.hid (show K ≤ u ∧ (∀ j, j < K → lf.getD j 0 < x) ∧ (K < u → x ≤ lf.getD K 0) by rw [← hK, ← hul]; exact ⟨room_le _ _, fun j hj => room_lt hj, fun g => room_ge g⟩)
      rw [hK] at HN2
      have HPU := Lib.hid (show putL R lf x = (if K = u then lf ++ [R] else lf).set K ((if K = u then lf ++ [R] else lf).getD K 0 - x) by unfold putL; rw [hK, hul])
      clear hyz hyy hxx hx1 hz hul hK hown hlfb
      go_wp2_with fail
      go_loop [11] (fun i => ∃ k : Nat, k ≤ K ∧ i = .int .i64 k) (fun i => 100 - (intOf i).toNat)
      case atStart => exact ⟨0, Nat.zero_le _, rfl⟩
      case round =>
        obtain ⟨k, hkK, rfl⟩ := hrel
        obtain ⟨hKu, hKlt, hKge⟩ := HKL.out
        by_cases hku : k < u
        · have hkI : (k : Int) < (u : Int) := by omega
          obtain ⟨bl, fl, v, e0, hvv, hcv⟩ := HLO.out.get hku
          have hv1 := getD_of hvv
          have hvb := HLB.out k hku
          rw [hv1] at hvb
          by_cases hvx : v < x
          · have hk2 : k + 1 ≤ K := by
              rcases Nat.lt_or_eq_of_le hkK with g | g
              · omega
              · have := hKge (by omega); rw [← g, hv1] at this; omega
            subst e0
            clear hKlt hKge hvv hv1
            go_wp2_with fail
            go_round
            case rel => exact ⟨k + 1, hk2, by go_num⟩
            case measure => simp [intOf]; omega
          · have hke : K = k := by
              rcases Nat.lt_or_eq_of_le hkK with g | g
              · have := hKlt k g; rw [hv1] at this; omega
              · exact g.symm
            subst e0
            have hn1 : ¬ K = u := by omega
            rw [if_neg hn1, hke, hv1] at HPU
            rw [hke] at HN2
            have hne : ((k : Int) == (u : Int)) = false := by simp; omega
            obtain ⟨gl, v0, e1, hgB, hc0, hf0⟩ := own_place HOWN.out hku
            simp only [Option.some.injEq, Addr.mk.injEq, and_true] at e1
            obtain ⟨e1, e2⟩ := e1
            subst e1
            subst e2
            rw [Nat.zero_add] at hcv
            obtain ⟨hst7, hg7⟩ : World.ownsRow (wo.setCell ⟨bl, k, none⟩ (.int .i64 (v - x))) (w.heap.size + 1) 3 1 (.slice (some ⟨bl, 0, none⟩) u cp) u ((lf.set k (v - x)).map (.int .i64)) ∧ wo.grownBy (wo.setCell ⟨bl, k, none⟩ (.int .i64 (v - x))) (some bl) := by
              have := HOWN.out.stored k (.int .i64 (v - x))
              rw [List.map_set]; simpa using this
            have hof7 := HOF.out.keepC hg7 (fun q hq => by cases hq; exact hgB)
            obtain ⟨hoc, hofz⟩ := hof7.cell hzl
            have hfin := hof7.put z (k : Int)
            have hrow := hst7.kept (grownBy_setCell (wo.setCell ⟨bl, k, none⟩ (.int .i64 (v - x))) ⟨w.heap.size, z, none⟩ (.int .i64 (k : Int))) (ne_low hst7 (Nat.lt_succ_self _))
            have hb2 : b2 < w.heap.size := (HH2.out _ HOF.out.below).mem (by omega)
            have hc2' : (wo.setCell ⟨bl, k, none⟩ (.int .i64 (v - x))).cell? ⟨b2, f2 + t, none⟩ = some (.int .i64 (z : Int)) := (World.cell?_setCell_other _ _ _ _ (by intro e; injection e; omega)).trans hc2
            have HROW := Lib.hid hrow
            have HFIN := Lib.hid hfin
            have HLEN := Lib.hid (show (putL R lf x).length = u by rw [HPU.out, List.length_set]; exact HUL.out)
            clear hrow hfin hst7 hg7 hof7 hvv hv1 hKlt hKge hc0
            go_wp2_with fail
            go_roundw
            case rel =>
              refine ⟨t + 1, cp, some ⟨bl, 0, none⟩, by omega, by go_num, by rw [HN1.out, HLEN.out], by rw [HN1.out, HLEN.out, HPU.out]; exact HROW.out, HFIN.out.congr (fun q hq => ?_)⟩
              rw [HN2.out]; split <;> rfl
            case measure => simp [intOf]; omega
        · have hke : K = k := by omega
          have hkeu : u = k := by omega
          subst hkeu
          have hkI : ¬ (u : Int) < (u : Int) := by omega
          have hne : ((u : Int) == (u : Int)) = true := by simp
          rw [if_pos hke] at HPU
          rw [hke] at HN2 HPU
          have hlast : (lf ++ [R]).getD u 0 = R := by
            rw [List.getD_eq_getElem?_getD, List.getElem?_append_right (by rw [HUL.out]; omega), HUL.out]; simp
          rw [hlast] at HPU
          have hb2 : b2 < w.heap.size := (HH2.out _ HOF.out.below).mem (by omega)
          have hwo1 : w.heap.size + 1 ≤ wo.heap.size := (World.block_lt_of_cell? wo _ (HOF.out.cell hzl).1)
          have HLAST := Lib.hid hlast
          have HLEN := Lib.hid (show (putL R lf x).length = u + 1 by rw [HPU.out, List.length_set, List.length_append, HUL.out]; rfl)
          clear hKlt hKge hlast hke hkK hku hKu
          go_wp2_with (first
            | (at_builtin; refine wpApp1 rfl _ _ rfl (w.heap.size + 1) _ _ _ _ R rfl HOWN.out rfl hwo1 (by omega) ?_; intro a6 c6 w6 hown6 hc6 hgr6; have hos := own_snoc hown6; obtain ⟨g6, v6, e6, hg6B, hc60, hf6⟩ := own_place hos (j := u) (by omega); subst e6; obtain ⟨bb, ff, vv, ee, hvv, hcc⟩ := (own_low hos (by omega)).get (k := u) (by omega); cases ee; rw [Nat.zero_add] at hcc; rw [show vv = R by rw [← getD_of hvv]; exact HLAST.out] at hcc; clear hvv hc60; have hof6 := HOF.out.keepC hgr6 (fun q hq => (HOWN.out.lt q hq).1); have hst8 := hos.stored u (.int .i64 (R - x)); rw [← List.map_set] at hst8; obtain ⟨hs8, hg8⟩ := hst8; have hof8 := hof6.keepC hg8 (fun q hq => by cases hq; exact hg6B); obtain ⟨hoc, hofz⟩ := hof8.cell hzl; have hc22 := (hof8.below.cell (p := ⟨b2, f2 + t, none⟩) hb2).trans ((HOF.out.below.cell (p := ⟨b2, f2 + t, none⟩) hb2).symm.trans hc2); have HFIN := Lib.hid (hof8.put z (u : Int)); have HROW := Lib.hid (hs8.kept (grownBy_setCell _ ⟨w.heap.size, z, none⟩ (.int .i64 (u : Int))) (ne_low hs8 (Nat.lt_succ_self _))); clear hof6 hof8 hs8 hg8 hos hown6 hgr6)
            | fail)
          go_roundw
          case rel =>
            refine ⟨t + 1, c6, some ⟨g6, 0, none⟩, by omega, by go_num, by rw [HN1.out, HLEN.out], by rw [HN1.out, HLEN.out, HPU.out]; exact HROW.out, HFIN.out.congr (fun q hq => ?_)⟩
            rw [HN2.out]; split <;> rfl
          case measure => simp [intOf]; omega
    · obtain rfl : t = len := by omega
      have htI : ¬ (t : Int) < (t : Int) := by omega
      go_wp2_with fail
      go_ret
      exact HOF.out.done (by omega)
end Go.Proofs.YtjcbpnffmebihaaGreatDoor
namespace Go.Proofs.YtjcbpnffmebihaaGreatDoor
open Go.RowKit Go.WideShapes

theorem Tryz.infoIntOB : (Tryz.prog.info? 3).map (fun i => (i.zero, i.size, i.bytes)) = some (some (.int .i64 0), 1, 8) := by kernel_rfl
/-- the cells of block b, from its first one on, hold these numbers, and may be written -/
def RowB (w : World) (b : Nat) (xs : List Nat) : Prop := ∀ (q x : Nat), xs[q]? = some x → w.cell? ⟨b, q, none⟩ = some (.int .i64 (x : Int)) ∧ w.frozen? ⟨b, q, none⟩ = false
theorem RowB.block {w w' : World} {b : Nat} {xs : List Nat} (h : RowB w b xs) (e : w'.heap[b]? = w.heap[b]?) : RowB w' b xs := by
  intro q x hx
  obtain ⟨h1, h2⟩ := h q x hx
  exact ⟨by rw [World.cell?_of_block (w := w) e]; exact h1, by rw [World.frozen?_of_block (w := w) e]; exact h2⟩
theorem RowB.drew {w : World} {b : Nat} {xs : List Nat} (h : RowB w b xs) : RowB w.drew b xs := h
theorem RowB.drewN {w : World} {b : Nat} {xs : List Nat} (h : RowB w b xs) (n : Nat) : RowB (w.drewN n) b xs := h
theorem RowB.at {w : World} {b q : Nat} {xs : List Nat} (h : RowB w b xs) (hq : q < xs.length) : w.cell? ⟨b, q, none⟩ = some (.int .i64 ((xs.getD q 0 : Nat) : Int)) ∧ w.frozen? ⟨b, q, none⟩ = false := by
  refine h q _ ?_
  rw [List.getD_eq_getElem?_getD, List.getElem?_eq_getElem hq]; rfl
theorem RowB.lt {w : World} {b : Nat} {xs : List Nat} (h : RowB w b xs) (hq : 0 < xs.length) : b < w.heap.size := World.block_lt_of_cell? w _ (h.at hq).1
theorem RowB.put {w : World} {b : Nat} {xs : List Nat} (h : RowB w b xs) {k : Nat} (hk : k < xs.length) (v : Nat) : RowB (w.setCell ⟨b, k, none⟩ (.int .i64 (v : Int))) b (xs.set k v) := by
  intro q x hx
  rw [List.getElem?_set] at hx
  refine ⟨?_, ?_⟩
  · by_cases e : k = q
    · subst e
      rw [if_pos rfl, if_pos hk] at hx
      cases hx
      exact World.cell?_setCell_same _ _ _ (h.at hk).1
    · rw [if_neg e] at hx
      rw [World.cell?_setCell_other _ _ _ _ (by intro e'; injection e' with _ e2; exact e (by omega))]
      exact (h q x hx).1
  · rw [World.frozen?_setCell]
    by_cases e : k = q
    · subst e; exact (h.at hk).2
    · rw [if_neg e] at hx; exact (h q x hx).2
theorem RowB.ints {w : World} {b n : Nat} {xs : List Nat} (h : RowB w b xs) (hl : xs.length = n) (hn : n ≤ 1048576) {S : Nat → Prop} (hS : S b) : IntsAt w S (some ⟨b, 0, none⟩) n (natI xs) :=
  ⟨by simp [natI, hl], by omega, fun _ => ⟨b, 0, rfl, hS, fun i x hx => by
    obtain ⟨y, rfl, hy⟩ := natI_get hx
    have := (h i y hy).1
    simpa using this⟩⟩
theorem RowB.swap {w : World} {b : Nat} {xs : List Nat} (h : RowB w b xs) {i j : Nat} (hi : i < xs.length) (hj : j < xs.length) :
    RowB ((w.setCell ⟨b, i, none⟩ (.int .i64 ((xs.getD j 0 : Nat) : Int))).setCell ⟨b, j, none⟩ (.int .i64 ((xs.getD i 0 : Nat) : Int))) b (swN xs i j) :=
  (h.put hi (xs.getD j 0)).put (by simpa using hj) (xs.getD i 0)
end Go.Proofs.YtjcbpnffmebihaaGreatDoor
namespace Go.Proofs.YtjcbpnffmebihaaGreatDoor
open Go.RowKit Go.WideShapes

-- chapter 11's code: ValidCuts, LeastRolls
theorem fromOne11 (n hi : Int) (w : World) {b : Bool} (hb : inB 1 hi n = b) :
    Calls Tryz.prog 125 #[.int .i64 n, .int .i64 hi] w fun e w' => e = .returned (.bool b) ∧ w' = w := by
  subst hb
  by_cases h1 : 1 ≤ n
  · by_cases h2 : n ≤ hi
    · go_enter Tryz.func125, Tryz.ntmps125
      go_wp2
      go_ret
      exact ⟨ret_bool (inB_true h1 h2).symm, rfl⟩
    · go_enter Tryz.func125, Tryz.ntmps125
      go_wp2
      go_ret
      exact ⟨ret_bool (inB_hi (by omega)).symm, rfl⟩
  · go_enter Tryz.func125, Tryz.ntmps125
    go_wp2
    go_ret
    exact ⟨ret_bool (inB_lo (by omega)).symm, rfl⟩
set_option maxRecDepth 100000 in
set_option maxHeartbeats 2000000 in
theorem vCuts_impl (S : Nat → Prop) (a : Option Addr) (len cap : Nat) (xs : List Int) (R : Int) (w : World) (h : IntsAt w S a len xs) :
    Calls Tryz.prog 94 #[.slice a len cap, .int .i64 R] w fun e w' => e = .returned (.bool (cutsM xs R)) ∧ w' = w := by
  have hs := h.small
  have HL := Lib.hid h.lenEq
  by_cases h7 : (len : Int) > 7
  · have HF := Lib.hid (show cutsM xs R = false by unfold cutsM; rw [HL.out, decide_eq_false (by omega)]; simp)
    go_enter Tryz.func94, Tryz.ntmps94
    go_wp2_with fail
    go_ret
    exact ⟨ret_bool HF.out.symm, rfl⟩
  · cases hR : inB 1 20 R
    · have HF := Lib.hid (show cutsM xs R = false by unfold cutsM; rw [hR]; simp)
      go_enter Tryz.func94, Tryz.ntmps94
      go_wp2_with (go_at_call 125; refine (fromOne11 _ _ _ hR).mono ?_; rintro e w' ⟨rfl, rfl⟩)
      go_ret
      exact ⟨ret_bool HF.out.symm, rfl⟩
    · have HC := Lib.hid (show cutsM xs R = allIn 1 R xs by unfold cutsM; rw [hR, HL.out, decide_eq_true (by omega)]; simp)
      go_enter Tryz.func94, Tryz.ntmps94
      go_wp2_with (go_at_call 125; refine (fromOne11 _ _ _ hR).mono ?_; rintro e w' ⟨rfl, rfl⟩)
      clear hR
      go_loop [17] (fun i => ∃ k : Nat, k ≤ len ∧ i = .int .i64 k ∧ allIn 1 R (xs.take k) = true) (fun i => len - (intOf i).toNat)
      case atStart => exact ⟨0, Nat.zero_le _, rfl, rfl⟩
      case round =>
        obtain ⟨k, hk, rfl, ha⟩ := hrel
        have HA := Lib.hid ha
        clear ha
        by_cases hlt : k < len
        · have hkI : (k : Int) < (len : Int) := by omega
          obtain ⟨b, off, x, rfl, hx, hc⟩ := h.get hlt
          have HX := Lib.hid hx
          clear hx
          cases hq : inB 1 R x
          · have HF := Lib.hid (show cutsM xs R = false by rw [HC.out, allIn_false HX.out hq])
            go_wp2_with (go_at_call 125; refine (fromOne11 _ _ _ hq).mono ?_; rintro e w' ⟨rfl, rfl⟩)
            go_ret
            exact ⟨ret_bool HF.out.symm, rfl⟩
          · go_wp2_with (go_at_call 125; refine (fromOne11 _ _ _ hq).mono ?_; rintro e w' ⟨rfl, rfl⟩)
            go_round
            case rel => exact ⟨k + 1, by omega, by go_num, allIn_step HX.out HA.out hq⟩
            case measure => simp [intOf]; omega
        · obtain rfl : k = len := by omega
          have hkI : ¬ (k : Int) < (k : Int) := by omega
          have ha := HA.out
          rw [List.take_of_length_le (by rw [HL.out]; omega)] at ha
          have HT := Lib.hid (show cutsM xs R = true by rw [HC.out, ha])
          clear ha
          go_wp2_with fail
          go_ret
          exact ⟨ret_bool HT.out.symm, rfl⟩
theorem vcutsI {S : Nat → Prop} {a : Option Addr} {len cap : Nat} {xs : List Int} {R : Int} {b : Bool} (hb : cutsM xs R = b) (w : World) (h : IntsAt w S a len xs) : Calls Tryz.prog 94 #[.slice a len cap, .int .i64 R] w fun e w' => e = .returned (.bool b) ∧ w' = w := by
  subst hb; exact vCuts_impl S a len cap xs R w h
end Go.Proofs.YtjcbpnffmebihaaGreatDoor
