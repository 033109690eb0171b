import Derived.Test.YtjcbpnffmebihaaGreatDoorA26
import Derived.Test.YtjcbpnffmebihaaGreatDoorRows
import Derived.WalkKit
import Derived.LoopTactic
import Derived.Outline
import Derived.WalkSpells
import Derived.WalkLawsBesides
import Derived.ProofKit
import Derived.Lib.Hide
import Derived.IntWalk
import Derived.Deep.RegionHeld3
import Derived.Deep.QuietTactic
import Derived.BigQuiet
import Derived.Deep.LoopGhost
import Derived.Shelf.RegionOpenPlain
import Derived.StillTailTactics
namespace Go.Proofs.YtjcbpnffmebihaaGreatDoor
open Go.RowKit Go.WideShapes

theorem IntsAt.drop1 {w : World} {S : Nat → Prop} {b off l : Nat} {y : Int} {ys : List Int} (h : IntsAt w S (some ⟨b, off, none⟩) (l + 1) (y :: ys)) : IntsAt w S (some ⟨b, off + 1, none⟩) l ys := by
  have hl := h.lenEq
  have hs := h.small
  obtain ⟨b', off', e, hb, hc⟩ := h.cells (by omega)
  injection e with e; injection e with e1 e2
  subst e1 e2
  exact ⟨by simpa using hl, by omega, fun _ => ⟨b, off + 1, rfl, hb, fun i x hx => by
    have := hc (i + 1) x (by simpa using hx)
    rwa [show off + (i + 1) = off + 1 + i by omega] at this⟩⟩
/-- the rolls lie somewhere, and nothing else has changed -/
def RollsNow (w : World) (B r : Nat) (R : Int) (rows : List (List Int)) (wr : World) : Prop := ∃ v vs, RollsP wr B r R v vs rows ∧ Below B w wr
set_option maxRecDepth 100000 in
set_option maxHeartbeats 4000000 in
theorem fewestP_any {B r : Nat} {R : Int} (hlow : B ≤ r) (hR : 0 ≤ R ∧ R ≤ 20) : ∀ (ys : List Int) (w : World) (v : Value) (vs : List Value) (rows : List (List Int)) (n b off len cap : Nat), RollsP w B r R v vs rows → B ≤ w.heap.size → RowsOk id rows n → n + ys.length ≤ 7 → NoEmpty rows → IntsAt w (· < B) (some ⟨b, off, none⟩) len ys → len ≤ cap → (∀ y ∈ ys, 0 ≤ y ∧ y ≤ 20) →
    Calls Tryz.prog 126 #[.pointer (some ⟨r, 0, none⟩), .slice (some ⟨b, off, none⟩) len cap] w fun e w' => e = .returned (.int .i64 (goL R ys (loadsOf id rows))) ∧ RollsNow w B r R rows w' := by
  intro ys
  induction ys with
  | nil =>
    intro w v vs rows n b off len cap h hB hok hn hne hx hc hy
    have hl : len = 0 := by simpa using hx.lenEq.symm
    subst hl
    obtain ⟨av, cv, hv, _⟩ := own_slice h.outer
    obtain ⟨_, c1, _⟩ := h.cells
    rw [hv] at c1
    have HH := Lib.hid h
    have HG := Lib.hid (show goL R [] (loadsOf id rows) = ((rows.length : Nat) : Int) by rw [goL, loads_len])
    clear h hv hok hne hx
    go_enter Tryz.func126, Tryz.ntmps126
    go_wp2_with fail
    go_ret
    exact ⟨ret_int HG.out.symm, v, vs, HH.out, Below.refl _ _⟩
  | cons y ys ih =>
    intro w v vs rows n b off len cap h hB hok hn hne hx hc hy
    obtain ⟨l, rfl⟩ : ∃ l, len = l + 1 := ⟨ys.length, by simpa using hx.lenEq.symm⟩
    have hyl : ys.length = l := by simpa using hx.lenEq
    have hlen := hok.len
    rw [List.length_cons, hyl] at hn
    obtain ⟨av, cv, hv, _⟩ := own_slice h.outer
    obtain ⟨_, c1, _⟩ := h.cells
    rw [hv] at c1
    have hy0 := hy y (by simp)
    have HYS := Lib.hid (fun y' (h : y' ∈ ys) => hy y' (by simp [h]))
    have HX := Lib.hid hx
    have HX1 := Lib.hid hx.drop1
    have HC := Lib.hid (fun (W : World) (hb : Below B w W) => show W.cell? ⟨b, off, none⟩ = some (.int .i64 y) from by
      obtain ⟨b', off', e, _, hc⟩ := (hx.below hb).cells (by omega)
      injection e with e; injection e with e1 e2
      subst e1 e2
      exact hc 0 y rfl)
    have HOK := Lib.hid hok
    have HNE := Lib.hid hne
    have HV := Lib.hid hv
    obtain ⟨u, hu⟩ : ∃ u, rows.length = u := ⟨_, rfl⟩
    rw [hu] at c1 hlen
    have HU := Lib.hid hu
    obtain ⟨L, hL⟩ : ∃ L, loadsOf id rows = L := ⟨_, rfl⟩
    have HL := Lib.hid hL
    have HLU := Lib.hid (show L.length = u by rw [← hL, loads_len, hu])
    rw [hL]
    have HGO := Lib.hid (show goL R (y :: ys) L = tryTo (fun k => goL R ys (putR L k y)) (fun k => hasR R L k y) (((u + (l + 1) : Nat) : Int)) (u + 1) by rw [goL, HLU.out, hyl])
    have HTB := Lib.hid (fun k => show tryTo (fun k => goL R ys (putR L k y)) (fun k => hasR R L k y) (((u + (l + 1) : Nat) : Int)) k ≤ 7 ∧ 0 ≤ tryTo (fun k => goL R ys (putR L k y)) (fun k => hasR R L k y) (((u + (l + 1) : Nat) : Int)) k from
      ⟨Int.le_trans (tryTo_le k).1 (by omega), by
        rcases tryTo_get (f := fun k => goL R ys (putR L k y)) (P := fun k => hasR R L k y) (b := ((u + (l + 1) : Nat) : Int)) k with e | ⟨j, _, _, e⟩
        · rw [e]; omega
        · rw [e]; exact (go_bd R ys _).1⟩)
    have HST := Lib.hid (show ∀ k, tryTo (fun k => goL R ys (putR L k y)) (fun k => hasR R L k y) (((u + (l + 1) : Nat) : Int)) (k + 1) = if hasR R L k y then min (tryTo (fun k => goL R ys (putR L k y)) (fun k => hasR R L k y) (((u + (l + 1) : Nat) : Int)) k) (goL R ys (putR L k y)) else tryTo (fun k => goL R ys (putR L k y)) (fun k => hasR R L k y) (((u + (l + 1) : Nat) : Int)) k from fun k => rfl)
    have HT0 := Lib.hid (show tryTo (fun k => goL R ys (putR L k y)) (fun k => hasR R L k y) (((u + (l + 1) : Nat) : Int)) 0 = ((u + (l + 1) : Nat) : Int) from rfl)
    generalize tryTo (fun k => goL R ys (putR L k y)) (fun k => hasR R L k y) (((u + (l + 1) : Nat) : Int)) = tr at HGO HTB HST HT0
    have HGB := Lib.hid (fun k => go_bd R ys (putR L k y))
    have HH := Lib.hid h
    have HIH := Lib.hid ih
    have HYL := Lib.hid hyl
    have hl0 : ¬ ((l + 1 : Nat) : Int) = 0 := by omega
    have hl2 : ((l : Int) + 1 == 0) = false := beq_false_of_ne (by omega)
    have hl1 : (l : Int) + 1 ≤ (cap : Int) := by omega
    clear h hv hok hne hx hy hu hL ih hyl
    obtain hcc | ⟨c, hcc⟩ : cap = 1 ∨ ∃ c, cap = c + 2 := by
      rcases Nat.lt_or_ge 1 cap with g | g
      · exact .inr ⟨cap - 2, by omega⟩
      · exact .inl (by omega)
    · have hl00 : l = 0 := by omega
      subst hcc
      subst hl00
      clear hl1 hc hl0 hl2
      replace hn : n + 1 ≤ 7 := hn
      go_enter Tryz.func126, Tryz.ntmps126
      go_wp2_with fail
      clear c1
      go_loopw [5, 29] (fun f i wr => ∃ k : Nat, k ≤ u + 1 ∧ i = .int .i64 k ∧ f = .int .i64 (tr k) ∧ RollsNow w B r R rows wr) (fun _ i _ => u + 1 - (intOf i).toNat)
      case atStart => exact ⟨0, Nat.zero_le _, rfl, by rw [HT0.out]; simp, v, vs, HH.out, Below.refl _ _⟩
      case round =>
        obtain ⟨k, hk, rfl, rfl, v1, vs1, hW, hbw⟩ := hrel
        obtain ⟨wo, rfl⟩ : ∃ wo : World, wo = wr := ⟨_, rfl⟩
        have hkb := HTB.out k
        have hcy := HC.out wo hbw
        have HW := Lib.hid hW
        have HBW := Lib.hid hbw
        have hst := HST.out k
        obtain ⟨t, ht⟩ : ∃ t, tr k = t := ⟨_, rfl⟩
        rw [ht] at hkb hst ⊢
        have HT := Lib.hid ht
        by_cases hlt : k < u + 1
        · have hkI : (k : Int) < (u : Int) + 1 := by omega
          have hku : k ≤ rows.length := by have := HU.out; omega
          have HRM := Lib.hid (hasRoomP_any hW HOK.out (by omega) hR hku y)
          rw [HL.out] at HRM
          cases hroom : hasR R L k y
          · rw [hroom] at hst HRM
            have HST1 := Lib.hid (show tr (k + 1) = t by rw [hst]; simp)
            clear hW hbw hst hroom ht
            go_wp2_with (first | (go_at_call 152; refine HRM.out.mono ?_; rintro e w' ⟨rfl, rfl⟩) | fail)
            go_roundw
            case rel =>
              exact ⟨k + 1, by omega, by go_num, by rw [HST1.out], ⟨v1, vs1, HW.out, HBW.out⟩⟩
            case measure => simp [intOf]; omega
          · rw [hroom] at hst HRM
            have hBo : B ≤ wo.heap.size := Nat.le_trans hB hbw.size
            have HCUT := Lib.hid (cutP_any hW hlow hBo HOK.out (by omega) hku y)
            have HOK2 := Lib.hid (HOK.out.put hku hy0)
            have HNE2 := Lib.hid (HNE.out.put (y := y) hku)
            have hgb := HGB.out k
            obtain ⟨z, hz⟩ : ∃ z, goL R ys (putR L k y) = z := ⟨_, rfl⟩
            rw [hz] at hst hgb
            have HZ := Lib.hid (show goL R ys (loadsOf id (putRow rows k y)) = z by rw [loads_put, HL.out]; exact hz)
            have HST1 := Lib.hid (show tr (k + 1) = min t z by rw [hst, if_pos rfl])
            have HREC := Lib.hid (fun (W : World) (v2 : Value) (vs2 : List Value) (off' c' : Nat) (h2 : RollsP W B r R v2 vs2 (putRow rows k y)) (hb : Below B w W) (ho : True) (hc : 0 ≤ c') => show Calls Tryz.prog 126 #[.pointer (some ⟨r, 0, none⟩), .slice (some ⟨b, off', none⟩) 0 c'] W fun e w' => e = .returned (.int .i64 z) ∧ RollsNow W B r R (putRow rows k y) w' from by
              have := HIH.out W v2 vs2 (putRow rows k y) (n + 1) b off' 0 c' h2 (Nat.le_trans hB hb.size) HOK2.out (by rw [HYL.out]; omega) HNE2.out (by
                exact ⟨HYL.out, by omega, fun h => by omega⟩) hc HYS.out
              rwa [HZ.out] at this)
            have HPB := Lib.hid (fun (W : World) (v2 : Value) (vs2 : List Value) (h2 : RollsP W B r R v2 vs2 (putRow rows k y)) (hb : Below B w W) => putBackP_any h2 hlow (Nat.le_trans hB hb.size) HOK2.out (by omega) hku HNE.out)
            have hcy2 := fun W (hb : Below B wo W) => HC.out W (HBW.out.trans hb)
            have HCY2 := Lib.hid hcy2
            clear hW hbw hst hroom ht hz hcy2
            by_cases hzt : z < t
            · have HM := Lib.hid (show tr (k + 1) = z by rw [HST1.out]; omega)
              go_wp2_with (first | (go_at_call 152; refine HRM.out.mono ?_; rintro e w' ⟨rfl, rfl⟩) | (go_at_call 153; refine HCUT.out.mono ?_; rintro e w2 ⟨rfl, v2, vs2, hw2, hb2⟩; have hcy3 := HCY2.out w2 hb2) | fail)
              all_goals
                have hbw2 := HBW.out.trans hb2
                refine (HREC.out w2 v2 vs2 _ _ hw2 hbw2 trivial (Nat.zero_le _)).mono ?_
                rintro e w3 ⟨rfl, v3, vs3, hw3, hb3⟩
                have hbw3 := hbw2.trans hb3
                have HPB2 := Lib.hid (HPB.out w3 v3 vs3 hw3 hbw3)
                clear hw2 hb2 hw3 hb3 hcy3
                go_wp2_with (first | (go_at_call 154; refine HPB2.out.mono ?_; rintro e w4 ⟨rfl, v4, vs4, hw4, hb4⟩) | fail)
                go_roundw
                case rel => exact ⟨k + 1, by omega, by go_num, by rw [HM.out], ⟨v4, vs4, hw4, hbw3.trans hb4⟩⟩
                case measure => simp [intOf]; omega
            · have HM := Lib.hid (show tr (k + 1) = t by rw [HST1.out]; omega)
              go_wp2_with (first | (go_at_call 152; refine HRM.out.mono ?_; rintro e w' ⟨rfl, rfl⟩) | (go_at_call 153; refine HCUT.out.mono ?_; rintro e w2 ⟨rfl, v2, vs2, hw2, hb2⟩; have hcy3 := HCY2.out w2 hb2) | fail)
              all_goals
                have hbw2 := HBW.out.trans hb2
                refine (HREC.out w2 v2 vs2 _ _ hw2 hbw2 trivial (Nat.zero_le _)).mono ?_
                rintro e w3 ⟨rfl, v3, vs3, hw3, hb3⟩
                have hbw3 := hbw2.trans hb3
                have HPB2 := Lib.hid (HPB.out w3 v3 vs3 hw3 hbw3)
                clear hw2 hb2 hw3 hb3 hcy3
                go_wp2_with (first | (go_at_call 154; refine HPB2.out.mono ?_; rintro e w4 ⟨rfl, v4, vs4, hw4, hb4⟩) | fail)
                go_roundw
                case rel => exact ⟨k + 1, by omega, by go_num, by rw [HM.out], ⟨v4, vs4, hw4, hbw3.trans hb4⟩⟩
                case measure => simp [intOf]; omega
        · obtain rfl : k = u + 1 := by omega
          have hkI : ¬ ((u + 1 : Nat) : Int) < (u : Int) + 1 := by omega
          have HF := Lib.hid (HGO.out.trans HT.out)
          clear hW hbw hst ht
          go_wp2_with fail
          go_ret
          exact ⟨ret_int (by rw [HF.out]), v1, vs1, HW.out, HBW.out⟩
    · subst hcc
      go_enter Tryz.func126, Tryz.ntmps126
      go_wp2_with fail
      clear c1
      go_loopw [5, 29] (fun f i wr => ∃ k : Nat, k ≤ u + 1 ∧ i = .int .i64 k ∧ f = .int .i64 (tr k) ∧ RollsNow w B r R rows wr) (fun _ i _ => u + 1 - (intOf i).toNat)
      case atStart => exact ⟨0, Nat.zero_le _, rfl, by rw [HT0.out]; simp, v, vs, HH.out, Below.refl _ _⟩
      case round =>
        obtain ⟨k, hk, rfl, rfl, v1, vs1, hW, hbw⟩ := hrel
        obtain ⟨wo, rfl⟩ : ∃ wo : World, wo = wr := ⟨_, rfl⟩
        have hkb := HTB.out k
        have hcy := HC.out wo hbw
        have HW := Lib.hid hW
        have HBW := Lib.hid hbw
        have hst := HST.out k
        obtain ⟨t, ht⟩ : ∃ t, tr k = t := ⟨_, rfl⟩
        rw [ht] at hkb hst ⊢
        have HT := Lib.hid ht
        by_cases hlt : k < u + 1
        · have hkI : (k : Int) < (u : Int) + 1 := by omega
          have hku : k ≤ rows.length := by have := HU.out; omega
          have HRM := Lib.hid (hasRoomP_any hW HOK.out (by omega) hR hku y)
          rw [HL.out] at HRM
          cases hroom : hasR R L k y
          · rw [hroom] at hst HRM
            have HST1 := Lib.hid (show tr (k + 1) = t by rw [hst]; simp)
            clear hW hbw hst hroom ht
            go_wp2_with (first | (go_at_call 152; refine HRM.out.mono ?_; rintro e w' ⟨rfl, rfl⟩) | fail)
            go_roundw
            case rel =>
              exact ⟨k + 1, by omega, by go_num, by rw [HST1.out], ⟨v1, vs1, HW.out, HBW.out⟩⟩
            case measure => simp [intOf]; omega
          · rw [hroom] at hst HRM
            have hBo : B ≤ wo.heap.size := Nat.le_trans hB hbw.size
            have HCUT := Lib.hid (cutP_any hW hlow hBo HOK.out (by omega) hku y)
            have HOK2 := Lib.hid (HOK.out.put hku hy0)
            have HNE2 := Lib.hid (HNE.out.put (y := y) hku)
            have hgb := HGB.out k
            obtain ⟨z, hz⟩ : ∃ z, goL R ys (putR L k y) = z := ⟨_, rfl⟩
            rw [hz] at hst hgb
            have HZ := Lib.hid (show goL R ys (loadsOf id (putRow rows k y)) = z by rw [loads_put, HL.out]; exact hz)
            have HST1 := Lib.hid (show tr (k + 1) = min t z by rw [hst, if_pos rfl])
            have HREC := Lib.hid (fun (W : World) (v2 : Value) (vs2 : List Value) (off' c' : Nat) (h2 : RollsP W B r R v2 vs2 (putRow rows k y)) (hb : Below B w W) (ho : l = 0 ∨ off' = off + 1) (hc : l ≤ c') => show Calls Tryz.prog 126 #[.pointer (some ⟨r, 0, none⟩), .slice (some ⟨b, off', none⟩) l c'] W fun e w' => e = .returned (.int .i64 z) ∧ RollsNow W B r R (putRow rows k y) w' from by
              have := HIH.out W v2 vs2 (putRow rows k y) (n + 1) b off' l c' h2 (Nat.le_trans hB hb.size) HOK2.out (by rw [HYL.out]; omega) HNE2.out (by
                rcases ho with h0 | h0
                · have := HYL.out
                  exact ⟨this, by omega, fun h => by omega⟩
                · rw [h0]; exact HX1.out.below hb) hc HYS.out
              rwa [HZ.out] at this)
            have HPB := Lib.hid (fun (W : World) (v2 : Value) (vs2 : List Value) (h2 : RollsP W B r R v2 vs2 (putRow rows k y)) (hb : Below B w W) => putBackP_any h2 hlow (Nat.le_trans hB hb.size) HOK2.out (by omega) hku HNE.out)
            have hcy2 := fun W (hb : Below B wo W) => HC.out W (HBW.out.trans hb)
            have HCY2 := Lib.hid hcy2
            clear hW hbw hst hroom ht hz hcy2
            by_cases hzt : z < t
            · have HM := Lib.hid (show tr (k + 1) = z by rw [HST1.out]; omega)
              go_wp2_with (first | (go_at_call 152; refine HRM.out.mono ?_; rintro e w' ⟨rfl, rfl⟩) | (go_at_call 153; refine HCUT.out.mono ?_; rintro e w2 ⟨rfl, v2, vs2, hw2, hb2⟩; have hcy3 := HCY2.out w2 hb2) | fail)
              all_goals
                have hbw2 := HBW.out.trans hb2
                refine (HREC.out w2 v2 vs2 _ _ hw2 hbw2 (by first | exact .inr rfl | exact .inl (by omega)) (by omega)).mono ?_
                rintro e w3 ⟨rfl, v3, vs3, hw3, hb3⟩
                have hbw3 := hbw2.trans hb3
                have HPB2 := Lib.hid (HPB.out w3 v3 vs3 hw3 hbw3)
                clear hw2 hb2 hw3 hb3 hcy3
                go_wp2_with (first | (go_at_call 154; refine HPB2.out.mono ?_; rintro e w4 ⟨rfl, v4, vs4, hw4, hb4⟩) | fail)
                go_roundw
                case rel => exact ⟨k + 1, by omega, by go_num, by rw [HM.out], ⟨v4, vs4, hw4, hbw3.trans hb4⟩⟩
                case measure => simp [intOf]; omega
            · have HM := Lib.hid (show tr (k + 1) = t by rw [HST1.out]; omega)
              go_wp2_with (first | (go_at_call 152; refine HRM.out.mono ?_; rintro e w' ⟨rfl, rfl⟩) | (go_at_call 153; refine HCUT.out.mono ?_; rintro e w2 ⟨rfl, v2, vs2, hw2, hb2⟩; have hcy3 := HCY2.out w2 hb2) | fail)
              all_goals
                have hbw2 := HBW.out.trans hb2
                refine (HREC.out w2 v2 vs2 _ _ hw2 hbw2 (by first | exact .inr rfl | exact .inl (by omega)) (by omega)).mono ?_
                rintro e w3 ⟨rfl, v3, vs3, hw3, hb3⟩
                have hbw3 := hbw2.trans hb3
                have HPB2 := Lib.hid (HPB.out w3 v3 vs3 hw3 hbw3)
                clear hw2 hb2 hw3 hb3 hcy3
                go_wp2_with (first | (go_at_call 154; refine HPB2.out.mono ?_; rintro e w4 ⟨rfl, v4, vs4, hw4, hb4⟩) | fail)
                go_roundw
                case rel => exact ⟨k + 1, by omega, by go_num, by rw [HM.out], ⟨v4, vs4, hw4, hbw3.trans hb4⟩⟩
                case measure => simp [intOf]; omega
        · obtain rfl : k = u + 1 := by omega
          have hkI : ¬ ((u + 1 : Nat) : Int) < (u : Int) + 1 := by omega
          have HF := Lib.hid (HGO.out.trans HT.out)
          clear hW hbw hst ht
          go_wp2_with fail
          go_ret
          exact ⟨ret_int (by rw [HF.out]), v1, vs1, HW.out, HBW.out⟩
end Go.Proofs.YtjcbpnffmebihaaGreatDoor
namespace Go.Proofs.YtjcbpnffmebihaaGreatDoor
open Go.RowKit Go.WideShapes

theorem made_tabP (z : Value) (n : Nat) : madeCells #[z] n = tabV (fun _ => z) n := by
  apply Array.ext_getElem?
  intro i
  by_cases hi : i < n
  · rw [tabV_get _ hi]; simp [madeCells, hi, Nat.mod_one]
  · rw [Array.getElem?_eq_none (by rw [size_madeCells]; omega), Array.getElem?_eq_none (by simp [tabV]; omega)]
/-- a list of the call's own, being filled -/
structure Fill (w wr : World) (T : TypeId) (n : Nat) (xs : List Int) (k : Nat) : Prop where
  below : Below w.heap.size w wr
  row : wr.heap[w.heap.size]? = some (.cells (tabV (fun v => .int .i64 (if v < k then xs.getD v 0 else 0)) n) T (0, 0))
theorem Fill.step {w wr : World} {T : TypeId} {n k : Nat} {xs : List Int} {x : Int} (h : Fill w wr T n xs k) (hx : xs[k]? = some x) : Fill w (wr.setCell ⟨w.heap.size, k, none⟩ (.int .i64 x)) T n xs (k + 1) := by
  refine ⟨h.below.setCell (p := ⟨w.heap.size, k, none⟩) (Nat.le_refl _) _, ?_⟩
  rw [heap_set h.row, tabV_set]
  congr 3
  funext v
  unfold setN
  by_cases e : v = k
  · subst e; rw [if_pos rfl, if_pos (by omega), getD_of hx]
  · rw [if_neg e]
    show Value.int .i64 (if v < k then xs.getD v 0 else 0) = .int .i64 (if v < k + 1 then xs.getD v 0 else 0)
    by_cases g : v < k
    · rw [if_pos g, if_pos (by omega)]
    · rw [if_neg g, if_neg (by omega)]
theorem Fill.ints {w wr w' : World} {T : TypeId} {n : Nat} {xs : List Int} (h : Fill w wr T n xs n) (hl : xs.length = n) (hs : n ≤ 9223372036854775807) (hb : w'.heap[w.heap.size]? = wr.heap[w.heap.size]?) : IntsAt w' (fun b => b = w.heap.size) (some ⟨w.heap.size, 0, none⟩) n xs :=
  ⟨hl, hs, fun _ => ⟨_, 0, rfl, rfl, fun i x hx => by
    have hi : i < n := by rw [← hl]; exact (List.getElem?_eq_some_iff.1 hx).1
    rw [Nat.zero_add, cell_of_row _ _ _ _ _ _ (hb.trans h.row), tabV_get _ hi, if_pos hi, getD_of hx]⟩⟩
set_option maxRecDepth 100000 in
set_option maxHeartbeats 4000000 in
theorem fewestRolls_impl (a : Option Addr) (len cap : Nat) (xs : List Int) (R : Int) (w : World) (h : IntsAt w (· < w.heap.size) a len xs) :
    Calls Tryz.prog 95 #[.slice a len cap, .int .i64 R] w fun e w' => e = .returned (.int .i64 (rollsRes xs R)) ∧ Below w.heap.size w w' := by
  have HL := Lib.hid h.lenEq
  cases hv : cutsM xs R
  · have HR := Lib.hid (show rollsRes xs R = -1 by unfold rollsRes; rw [hv]; rfl)
    go_enter Tryz.func95, Tryz.ntmps95
    go_wp2_with (go_at_call 94; refine (vcutsI hv _ h).mono ?_; rintro e w' ⟨rfl, rfl⟩)
    go_ret
    exact ⟨ret_int HR.out.symm, Below.refl _ _⟩
  · obtain ⟨hR1, hR2, hl7, hT⟩ := cuts_get hv
    have HR := Lib.hid (show rollsRes xs R = goL R xs [] by unfold rollsRes; rw [hv, go_few hv]; rfl)
    rw [HL.out] at hl7
    have HXS := Lib.hid (show ∀ y ∈ xs, 0 ≤ y ∧ y ≤ 20 from fun y hy => by
      obtain ⟨i, hi⟩ := List.mem_iff_getElem?.1 hy
      have := hT i (List.getElem?_eq_some_iff.1 hi).1
      unfold lenT at this
      rw [getD_of hi] at this
      omega)
    have hmk := fun w => run_make_row' (P := Tryz.prog) 150 151 (.int .i64 0) 8 Tryz.underlying150 Tryz.infoPC rfl .i64 .i64 len (by omega) (by omega) w
    have HH := Lib.hid h
    have HV := Lib.hid hv
    clear hT h
    go_enter Tryz.func95, Tryz.ntmps95
    go_wp2_with (first | (go_at_call 94; refine (vcutsI HV.out _ HH.out).mono ?_; rintro e w' ⟨rfl, rfl⟩) | fail)
    clear hv hmk
    go_loopw [18] (fun i wr => ∃ k : Nat, k ≤ len ∧ i = .int .i64 k ∧ Fill w' wr 151 len xs k) (fun i _ => len - (intOf i).toNat)
    case atStart => exact ⟨0, Nat.zero_le _, rfl, (Below.refl _ _).alloc (Nat.le_refl _) _, by rw [heap_alloc_new, made_tabP]; rfl⟩
    case round =>
      obtain ⟨k, hk, rfl, hf⟩ := hrel
      have HF := Lib.hid hf
      by_cases hlt : k < len
      · have hkI : (k : Int) < (len : Int) := by omega
        obtain ⟨b, off, x, rfl, hx, hc⟩ := (HH.out.below hf.below).get hlt
        have HX := Lib.hid hx
        have hfz := frozen_row hf.row k
        have hcc : wr.cell? ⟨w'.heap.size, k, none⟩ = some (.int .i64 0) := by rw [cell_of_row _ _ _ _ _ _ hf.row, tabV_get _ hlt, if_neg (by omega)]
        clear hf hx
        go_wp2_with fail
        go_roundw
        case rel => exact ⟨k + 1, by omega, by go_num, HF.out.step HX.out⟩
        case measure => simp [intOf]; omega
      · obtain rfl : k = len := by omega
        have hkI : ¬ (k : Int) < (k : Int) := by omega
        have HROLL := Lib.hid (show RollsP (wr.alloc (.cells #[.int .i64 R, .slice none 0 0] 154)) wr.heap.size wr.heap.size R (.slice none 0 0) [] [] from
          ⟨heap_alloc_new _ _, World.ownsRow_nil _ _ _ _, fun i u hu => by simp at hu, fun i j u u' hu => by simp at hu⟩)
        have hlt := lt_heap hf.row
        have HX := Lib.hid ((hf.ints (w' := wr.alloc (.cells #[.int .i64 R, .slice none 0 0] 154)) HL.out (by omega) (Below.heap_alloc _ _ _ hlt)).to (S' := (· < wr.heap.size)) (fun b hb => ⟨by rw [hb]; exact hlt, rfl⟩))
        clear hf
        go_wp2_with fail
        refine (fewestP_any (B := wr.heap.size) (r := wr.heap.size) (R := R) (Nat.le_refl _) ⟨by omega, hR2⟩ xs _ _ _ [] 0 w'.heap.size 0 k k HROLL.out (by simp) RowsOk.nil (by rw [HL.out]; omega) (fun k hk => by simp at hk) HX.out (Nat.le_refl _) HXS.out).mono ?_
        rintro e w3 ⟨rfl, v3, vs3, _, hb3⟩
        have HB3 := Lib.hid ((HF.out.below.alloc HF.out.below.size (.cells #[.int .i64 R, .slice none 0 0] 154)).trans (hb3.mono HF.out.below.size))
        clear hb3
        go_wp2_with fail
        go_ret
        exact ⟨ret_int (by rw [HR.out]; rfl), HB3.out⟩
end Go.Proofs.YtjcbpnffmebihaaGreatDoor
namespace Go.Proofs.YtjcbpnffmebihaaGreatDoor
open Go.RowKit Go.WideShapes

-- chapter 11's code: cuts that are listed (their lengths, and their places), sorted
/-- block b holds the listed cuts of these places, one behind the other; they may be written -/
def PairB (w : World) (b : Nat) (f : Nat → Int) (l : List Nat) : Prop := ∀ (q x : Nat), l[q]? = some x → (w.cell? ⟨b, q * 2, none⟩ = some (.int .i64 (f x)) ∧ w.cell? ⟨b, q * 2 + 1, none⟩ = some (.int .i64 (x : Int))) ∧ (w.frozen? ⟨b, q * 2, none⟩ = false ∧ w.frozen? ⟨b, q * 2 + 1, none⟩ = false)
section
variable {w w' : World} {b : Nat} {f : Nat → Int} {l : List Nat}
theorem PairB.block (h : PairB w b f l) (e : w'.heap[b]? = w.heap[b]?) : PairB w' b f l := by
  intro q x hx
  obtain ⟨⟨h1, h2⟩, h3, h4⟩ := h q x hx
  exact ⟨⟨by rw [World.cell?_of_block (w := w) e]; exact h1, by rw [World.cell?_of_block (w := w) e]; exact h2⟩, by rw [World.frozen?_of_block (w := w) e]; exact h3, by rw [World.frozen?_of_block (w := w) e]; exact h4⟩
theorem PairB.drewN (h : PairB w b f l) (n : Nat) : PairB (w.drewN n) b f l := h
theorem PairB.at {q : Nat} (h : PairB w b f l) (hq : q < l.length) : (w.cell? ⟨b, q * 2, none⟩ = some (.int .i64 (f (l.getD q 0))) ∧ w.cell? ⟨b, q * 2 + 1, none⟩ = some (.int .i64 ((l.getD q 0 : Nat) : Int))) ∧ (w.frozen? ⟨b, q * 2, none⟩ = false ∧ w.frozen? ⟨b, q * 2 + 1, none⟩ = false) := by
  refine h q _ ?_
  rw [List.getD_eq_getElem?_getD, List.getElem?_eq_getElem hq]; rfl
theorem PairB.lt (h : PairB w b f l) (hq : 0 < l.length) : b < w.heap.size := World.block_lt_of_cell? w _ (h.at hq).1.1
theorem PairB.put (h : PairB w b f l) {k : Nat} (hk : k < l.length) (v : Nat) : PairB ((w.setCell ⟨b, k * 2, none⟩ (.int .i64 (f v))).setCell ⟨b, k * 2 + 1, none⟩ (.int .i64 (v : Int))) b f (l.set k v) := by
  obtain ⟨⟨g1, g2⟩, _, _⟩ := h.at hk
  intro q x hx
  rw [List.getElem?_set] at hx
  have hfr : ∀ a, ((w.setCell ⟨b, k * 2, none⟩ (.int .i64 (f v))).setCell ⟨b, k * 2 + 1, none⟩ (.int .i64 (v : Int))).frozen? a = w.frozen? a := fun a => by rw [World.frozen?_setCell, World.frozen?_setCell]
  by_cases e : k = q
  · subst e
    rw [if_pos rfl, if_pos hk] at hx
    injection hx with hx
    subst hx
    refine ⟨⟨?_, ?_⟩, by rw [hfr]; exact (h.at hk).2.1, by rw [hfr]; exact (h.at hk).2.2⟩
    · rw [World.cell?_setCell_other _ _ _ _ (by intro e'; injection e' with _ e2; omega)]
      exact World.cell?_setCell_same _ _ _ g1
    · exact World.cell?_setCell_same _ _ _ ((World.cell?_setCell_other _ _ _ _ (by intro e'; injection e' with _ e2; omega)).trans g2)
  · rw [if_neg e] at hx
    obtain ⟨⟨h1, h2⟩, h3, h4⟩ := h q x hx
    refine ⟨⟨?_, ?_⟩, by rw [hfr]; exact h3, by rw [hfr]; exact h4⟩
    · rw [World.cell?_setCell_other _ _ _ _ (by intro e'; injection e' with _ e2; omega), World.cell?_setCell_other _ _ _ _ (by intro e'; injection e' with _ e2; omega)]
      exact h1
    · rw [World.cell?_setCell_other _ _ _ _ (by intro e'; injection e' with _ e2; omega), World.cell?_setCell_other _ _ _ _ (by intro e'; injection e' with _ e2; omega)]
      exact h2
theorem PairB.swap (h : PairB w b f l) {i j : Nat} (hi : i < l.length) (hj : j < l.length) :
    PairB ((((w.setCell ⟨b, i * 2, none⟩ (.int .i64 (f (l.getD j 0)))).setCell ⟨b, i * 2 + 1, none⟩ (.int .i64 ((l.getD j 0 : Nat) : Int))).setCell ⟨b, j * 2, none⟩ (.int .i64 (f (l.getD i 0)))).setCell ⟨b, j * 2 + 1, none⟩ (.int .i64 ((l.getD i 0 : Nat) : Int))) b f (swN l i j) :=
  (h.put hi (l.getD j 0)).put (by simpa using hj) (l.getD i 0)
end
def pairV (f : Nat → Int) (x : Nat) : Value := .agg #[.int .i64 (f x), .int .i64 (x : Int)]
def cc11 (p q : Int) : Int := if p < q then -1 else if q < p then 1 else 0
theorem cc11_lt {p q : Int} : cc11 p q < 0 ↔ p < q := by
  unfold cc11; split
  · omega
  · split <;> omega
theorem isNaN11_any (p : Int) (w : World) : Calls Tryz.prog 169 #[.int .i64 p] w fun e w' => e = .returned (.bool false) ∧ w = w' := by
  have h1 : (p != p) = false := by simp
  go_enter Tryz.func169, Tryz.ntmps169
  go_wp2_with fail
  go_ret
  exact ⟨rfl, rfl⟩
theorem compare11_any (p q : Int) (w : World) : Calls Tryz.prog 141 #[.int .i64 p, .int .i64 q] w fun e w' => e = .returned (.int .i64 (cc11 p q)) ∧ w' = w := by
  by_cases h1 : p < q
  · have HC := Lib.hid (show cc11 p q = -1 from if_pos h1)
    go_enter Tryz.func141, Tryz.ntmps141
    go_wp2_with (go_at_call 169; refine (isNaN11_any _ _).mono ?_; rintro e w' ⟨rfl, rfl⟩)
    go_ret
    exact ⟨ret_int HC.out.symm, rfl⟩
  · by_cases h2 : q < p
    · have HC := Lib.hid (show cc11 p q = 1 by unfold cc11; rw [if_neg h1, if_pos h2])
      go_enter Tryz.func141, Tryz.ntmps141
      go_wp2_with (go_at_call 169; refine (isNaN11_any _ _).mono ?_; rintro e w' ⟨rfl, rfl⟩)
      go_ret
      exact ⟨ret_int HC.out.symm, rfl⟩
    · have HC := Lib.hid (show cc11 p q = 0 by unfold cc11; rw [if_neg h1, if_neg h2])
      go_enter Tryz.func141, Tryz.ntmps141
      go_wp2_with (go_at_call 169; refine (isNaN11_any _ _).mono ?_; rintro e w' ⟨rfl, rfl⟩)
      go_ret
      exact ⟨ret_int HC.out.symm, rfl⟩
set_option maxRecDepth 100000 in
set_option maxHeartbeats 2000000 in
theorem cutsCmp_any (x i y j : Int) (w : World) : Calls Tryz.prog 156 #[.agg #[.int .i64 x, .int .i64 i], .agg #[.int .i64 y, .int .i64 j]] w fun e w' => e = .returned (.int .i64 (cc11 y x)) ∧ Below w.heap.size w w' := by
  have HL := Lib.hid lenP_any
  have HC := Lib.hid (fun w => compare11_any y x w)
  generalize cc11 y x = cv at HC ⊢
  have HB := Lib.hid (((Below.refl w.heap.size w).alloc (Nat.le_refl _) (.cells #[.int .i64 x, .int .i64 i] 164)).alloc (by simp) (.cells #[.int .i64 y, .int .i64 j] 164))
  go_enter Tryz.func156, Tryz.ntmps156
  go_wp2_with fail
  go_quiet (first | (go_at_call 157; exact Calls.quiet_of_same (HL.out _ _)) | (go_at_call 141; exact Calls.quiet_of_same (HC.out _)))
  go_wp2_with fail
  go_ret
  exact ⟨rfl, below_drewN HB.out _⟩
/-- what the closure answers, whenever it is called -/
def CmpAt11 (f : Nat → Int) (cf : Nat) (lb : Array Value) (ah : Nat → Nat → Bool) (n b : Nat) (w : World) : Prop := ∀ (i y : Nat) (W : World), i < n → y < i → Below b w W →
  ∃ cv : Int, (cv < 0 ↔ ah i y = true) ∧ Calls Tryz.prog cf (#[pairV f i, pairV f y] ++ lb) W fun e w' => e = .returned (.int .i64 cv) ∧ Below W.heap.size W w'
set_option maxRecDepth 100000 in
set_option maxHeartbeats 4000000 in
/-- Go's insertion sort of a block of numbers, by a closure that makes memory -/
theorem insertion11_any (f : Nat → Int) (ah : Nat → Nat → Bool) (b n cp : Nat) (w : World) (hn8 : n ≤ 8) (hb : b < w.heap.size) (hC : CmpAt11 f 156 #[] ah n b w) (hR : PairB w b f (List.range n)) :
    Calls Tryz.prog 191 #[.slice (some ⟨b, 0, none⟩) n cp, .int .i64 0, .int .i64 n, .func (.func 156) #[] #[]] w fun e w' => e = .returned (.tuple #[]) ∧ PairB w' b f (sortE ah n) ∧ Below b w w' := by
  have mixed : Tryz.prog.follows .mixedOrders = true := by kernel_rfl
  have hent := enters_of Tryz.func156 (by kernel_rfl) rfl
  have HCA := Lib.hid hC
  have HR := Lib.hid hR
  clear hC hR
  go_enter Tryz.func191, Tryz.ntmps191
  go_wp2_with fail
  go_loopg [8] n (fun g s8 wr => ∃ i : Nat, s8 = .int .i64 (i : Int) ∧ 1 ≤ i ∧ n - i ≤ g ∧ Below b w wr ∧ (i < n → PairB wr b f (insAt (sortE ah i) i [] n)) ∧ (n ≤ i → PairB wr b f (sortE ah n)))
  case atStart =>
    refine ⟨1, rfl, by omega, by omega, Below.refl _ _, fun h => ?_, fun h => ?_⟩
    · rw [← ins_first ah h]; exact HR.out
    · have : List.range n = sortE ah n := by
        rcases Nat.eq_zero_or_pos n with e | e
        · rw [e]; rfl
        · rw [show n = 1 by omega, sortE_one]; rfl
      rw [← this]; exact HR.out
  case round =>
    obtain ⟨i, rfl, hi1, hg, hB, h1, h2⟩ := hrel
    have H1 := Lib.hid h1
    have H2 := Lib.hid h2
    have HB := Lib.hid hB
    clear h1 h2 hB
    by_cases hlt : i < n
    · have hin : (i : Int) < (n : Int) := by omega
      have HRL := Lib.hid (sortE_len ah i)
      go_wp2_with fail
      go_loopg [9] i (fun g2 s9 wy => ∃ (l1 l2 : List Nat), s9 = .int .i64 (l1.length : Int) ∧ l1.length ≤ g2 ∧ l1 ++ l2 = sortE ah i ∧ (∀ y ∈ l2, ah i y = true) ∧ PairB wy b f (insAt l1 i l2 n) ∧ Below b w wy)
      case atStart => exact ⟨sortE ah i, [], by rw [HRL.out], by rw [HRL.out]; exact Nat.le_refl _, List.append_nil _, (fun y hy => by cases hy), H1.out hlt, HB.out⟩
      case round =>
        obtain ⟨l1, l2, rfl, hg2, hl, h2, hRow, hBy⟩ := hrel
        have H2' := Lib.hid h2
        have HRow := Lib.hid hRow
        have HBy := Lib.hid hBy
        have HLL := Lib.hid hl
        have hll : l1.length + l2.length = i := by have := congrArg List.length hl; simpa [HRL.out] using this
        have hlen := insAt_length (l1 := l1) (l2 := l2) hll hlt
        clear h2 hRow hBy hl
        rcases List.eq_nil_or_concat l1 with rfl | ⟨l, y, rfl⟩
        · have HD := Lib.hid (insE_done HLL.out (fun l z e => by simp at e) H2'.out)
          have hj0 : decide ((0 : Int) < 0) = false := rfl
          rw [List.length_nil]
          go_wp2_with fail
          go_quiet (fail)
          go_wp2_with fail
          go_roundg (n - (i + 1))
          case measure => omega
          case rel => exact ⟨i + 1, by go_num, by omega, by omega, below_drewN HBy.out _, fun h => by
              have := (HRow.out.drewN nq)
              rw [ins_next h HD.out] at this
              exact this, fun h => by
              have := (HRow.out.drewN nq)
              have e : n = i + 1 := by omega
              subst e
              rw [ins_last HD.out] at this
              exact this⟩
        · rw [List.concat_eq_append] at HLL HRow hll hlen ⊢
          rw [List.length_append, List.length_singleton] at hll ⊢
          have c1 := (HRow.out.at (q := l.length + 1) (by omega)).1
          have c2 := (HRow.out.at (q := l.length) (by omega)).1
          have e1 : (insAt (l ++ [y]) i l2 n).getD (l.length + 1) 0 = i := by have := insAt_here (l ++ [y]) l2 i n; simpa using this
          rw [e1] at c1
          rw [insAt_ahead] at c2
          obtain ⟨c1, c1'⟩ := c1
          obtain ⟨c2, c2'⟩ := c2
          have hyi : y < i := by
            have hm : y ∈ sortE ah i := by rw [← HLL.out]; simp
            exact sortE_mem.1 hm
          obtain ⟨cv, hcv, hcall⟩ := HCA.out i y wr.drew hlt hyi HBy.out.drew
          have HCV := Lib.hid hcv
          have HCM := Lib.hid (show Calls Tryz.prog 156 #[.agg #[.int .i64 (f i), .int .i64 (i : Int)], .agg #[.int .i64 (f y), .int .i64 (y : Int)]] wr.drew (fun e w' => e = .returned (.int .i64 cv) ∧ Below wr.drew.heap.size wr.drew w') from hcall)
          have hbw : b < wr.heap.size := Nat.lt_of_lt_of_le hb HBy.out.size
          have e2 : ((l.length + 1 : Nat) : Int) - 1 = (l.length : Int) := by omega
          have e3 : ((l.length + 1 : Nat) : Int) = (l.length : Int) + 1 := by omega
          have hj1 : l.length + 1 < n := by omega
          have hj2 : (l.length : Int) + 1 < (n : Int) := by omega
          have hj3 : (l.length : Int) < (n : Int) := by omega
          have hj4 : (0 : Int) < (l.length : Int) + 1 := by omega
          have hj5 : (0 : Int) ≤ (l.length : Int) + 1 := by omega
          have hj6 : l.length < n := by omega
          rw [e3]
          have HE1 := Lib.hid e1
          have HLEN := Lib.hid hlen
          clear e1 e2 e3 hcall hcv
          have HLL2 := Lib.hid hll
          obtain ⟨j, hj⟩ : ∃ j, l.length = j := ⟨_, rfl⟩
          have HJ := Lib.hid hj
          rw [hj] at c1 c1' c2 c2' hj1 hj2 hj3 hj4 hj5 hj6 ⊢
          clear hj hll hlen
          go_wp2_with fail
          have hw2 : IntKind.i64.wrap (j : Int) = (j : Int) := IntWalk.i64_in _ (by omega)
          have hj7 : (0 : Int) ≤ (j : Int) := by omega
          have hw1 : IntKind.i64.wrap ((j : Int) + 1 - 1) = (j : Int) := by rw [show (j : Int) + 1 - 1 = (j : Int) by omega]; exact IntWalk.i64_in _ (by omega)
          go_region_held3 (fun w' => w'.cell? ⟨b, (j + 1) * 2, none⟩ = some (.int .i64 (f i)) ∧ w'.cell? ⟨b, (j + 1) * 2 + 1, none⟩ = some (.int .i64 (i : Int)) ∧ w'.cell? ⟨b, j * 2, none⟩ = some (.int .i64 (f y)) ∧ w'.cell? ⟨b, j * 2 + 1, none⟩ = some (.int .i64 (y : Int))) (first | go_keep | exact ⟨k1, k1', k2, k2'⟩)
            (first | (go_at_call 156; refine HCM.out.mono ?_; rintro e w3 ⟨rfl, hb3⟩; have k1 := (hb3.cell (p := ⟨b, (j + 1) * 2, none⟩) hbw).trans c1; have k1' := (hb3.cell (p := ⟨b, (j + 1) * 2 + 1, none⟩) hbw).trans c1'; have k2 := (hb3.cell (p := ⟨b, j * 2, none⟩) hbw).trans c2; have k2' := (hb3.cell (p := ⟨b, j * 2 + 1, none⟩) hbw).trans c2'))
          have HRow3 := Lib.hid (show PairB w3 b f (insAt (l ++ [y]) i l2 n) from (HRow.out.drewN 1).block (hb3.block b hbw))
          have HB3 := Lib.hid (HBy.out.drew.trans (hb3.mono (by show b ≤ wr.heap.size; omega)))
          obtain ⟨f1, f1'⟩ := (HRow3.out.at (q := j + 1) (by rw [HLEN.out]; omega)).2
          obtain ⟨f2, f2'⟩ := (HRow3.out.at (q := j) (by rw [HLEN.out]; omega)).2
          clear hw1 hw2 c1 c1' c2 c2' hb3
          by_cases hcb : cv < 0
          · go_wp2_with fail
            go_region_o
            go_wp2_with fail
            have hsw := (HRow3.out).swap (i := l.length + 1) (j := l.length) (by rw [HLEN.out]; have := HJ.out; omega) (by rw [HLEN.out]; have := HJ.out; omega)
            rw [HE1.out, insAt_ahead, insAt_swap, HJ.out] at hsw
            go_roundg j
            case measure => have := HJ.out; simp at hg2; omega
            case rel => exact ⟨l, y :: l2, by rw [HJ.out], by rw [HJ.out]; exact Nat.le_refl _, by simpa using HLL.out, fun z hz => by
                rcases List.mem_cons.1 hz with rfl | hz
                · exact HCV.out.1 hcb
                · exact H2'.out z hz, hsw, ((((HB3.out.setCell (p := ⟨b, (j + 1) * 2, none⟩) (Nat.le_refl _) _).setCell (p := ⟨b, (j + 1) * 2 + 1, none⟩) (Nat.le_refl _) _).setCell (p := ⟨b, j * 2, none⟩) (Nat.le_refl _) _).setCell (p := ⟨b, j * 2 + 1, none⟩) (Nat.le_refl _) _).drew⟩
          · have HD := Lib.hid (insE_done HLL.out (fun l' z e => by
              have : z = y := by have := List.append_inj_right' e rfl; simpa using this.symm
              subst this
              cases hq : ah i z
              · rfl
              · exact absurd (HCV.out.2 hq) hcb) H2'.out)
            go_wp2_with fail
            go_roundg (n - (i + 1))
            case measure => omega
            case rel => exact ⟨i + 1, by go_num, by omega, by omega, HB3.out, fun h => by
                have := HRow3.out
                rw [ins_next h HD.out] at this
                exact this, fun h => by
                have := HRow3.out
                have e : n = i + 1 := by omega
                subst e
                rw [ins_last HD.out] at this
                exact this⟩
    · have hin : ¬ (i : Int) < (n : Int) := by omega
      go_wp2_with fail
      go_end0
      exact ⟨rfl, H2.out (by omega), HB.out⟩
theorem stable11_any (f : Nat → Int) (ah : Nat → Nat → Bool) (b n cp : Nat) (w : World) (hn8 : n ≤ 8) (hb : b < w.heap.size) (hC : CmpAt11 f 156 #[] ah n b w) (hR : PairB w b f (List.range n)) :
    Calls Tryz.prog 178 #[.slice (some ⟨b, 0, none⟩) n cp, .int .i64 n, .func (.func 156) #[] #[]] w fun e w' => e = .returned (.tuple #[]) ∧ PairB w' b f (sortE ah n) ∧ Below b w w' := by
  have HI := Lib.hid (insertion11_any f ah b n cp w hn8 hb hC hR)
  have h20 : ¬ (20 : Int) ≤ (n : Int) := by omega
  have h20' : ¬ (20 : Int) < (n : Int) := by omega
  clear hC hR
  go_enter Tryz.func178, Tryz.ntmps178
  go_wp2_with fail
  go_loopw [7, 8] (fun s7 s8 wr => s7 = .int .i64 0 ∧ s8 = .int .i64 20 ∧ wr = w) (fun _ _ _ => 0)
  case atStart => exact ⟨rfl, rfl, rfl⟩
  case round =>
    obtain ⟨rfl, rfl, rfl⟩ := hrel
    go_wp2_with fail
    refine HI.out.mono ?_
    rintro e w2 ⟨rfl, h1, h2⟩
    have H1 := Lib.hid h1
    have H2 := Lib.hid h2
    clear h1 h2
    go_wp2_with fail
    go_loopw [6] (fun s6 wr => s6 = .int .i64 20 ∧ wr = w2) (fun _ _ => 0)
    case atStart => exact ⟨rfl, rfl⟩
    case round =>
      obtain ⟨rfl, rfl⟩ := hrel
      go_wp2_with fail
      go_end0
      exact ⟨rfl, H1.out, H2.out⟩
theorem sortStable11_any (f : Nat → Int) (ah : Nat → Nat → Bool) (b n cp : Nat) (w : World) (hn8 : n ≤ 8) (hb : b < w.heap.size) (hC : CmpAt11 f 156 #[] ah n b w) (hR : PairB w b f (List.range n)) :
    Calls Tryz.prog 155 #[.slice (some ⟨b, 0, none⟩) n cp, .func (.func 156) #[] #[]] w fun e w' => e = .returned (.tuple #[]) ∧ PairB w' b f (sortE ah n) ∧ Below b w w' := by
  have HI := Lib.hid (stable11_any f ah b n cp w hn8 hb hC hR)
  clear hC hR
  go_enter Tryz.func155, Tryz.ntmps155
  go_wp2_with fail
  refine HI.out.mono ?_
  rintro e w2 ⟨rfl, h1, h2⟩
  go_wp2_with fail
  go_end0
  exact ⟨rfl, h1, h2⟩
end Go.Proofs.YtjcbpnffmebihaaGreatDoor
