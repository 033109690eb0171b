import Derived.Test.YthmifadnfaajbacRows
import Derived.WalkKit
import Derived.LoopTactic
import Derived.Outline
import Derived.WalkSpells
import Derived.WalkLawsBesides
import Derived.ProofKit
import Derived.Lib.Hide
import Derived.IntWalk
import Derived.Deep.RegionHeld3
import Derived.Test.YthmifadnfaajbacM0
import Derived.Test.YthmifadnfaajbacM1
import Derived.Test.YthmifadnfaajbacM2
import Derived.Test.YthmifadnfaajbacM13
import Derived.Test.YthmifadnfaajbacM14
import Derived.Test.YthmifadnfaajbacM15
import Derived.Test.YthmifadnfaajbacM12
import Derived.Deep.AppendLies
import Derived.Test.YthmifadnfaajbacM6
import Derived.Test.YthmifadnfaajbacM8
import Derived.Test.YthmifadnfaajbacM10
import Derived.Test.YthmifadnfaajbacM9
namespace Go.Proofs.Ythmifadnfaajbac
open Go.RowKit Go.WideShapes

theorem IntsAt.drop1 {w : World} {S : Nat → Prop} {b off l : Nat} {y : Int} {ys : List Int} (h : IntsAt w S (some ⟨b, off, none⟩) (l + 1) (y :: ys)) : IntsAt w S (some ⟨b, off + 1, none⟩) l ys := by
  have hl := h.lenEq
  have hs := h.small
  obtain ⟨b', off', e, hb, hc⟩ := h.cells (by omega)
  injection e with e; injection e with e1 e2
  subst e1 e2
  exact ⟨by simpa using hl, by omega, fun _ => ⟨b, off + 1, rfl, hb, fun i x hx => by
    have := hc (i + 1) x (by simpa using hx)
    rwa [show off + (i + 1) = off + 1 + i by omega] at this⟩⟩
/-- the rolls lie somewhere, and nothing else has changed -/
def RollsNow (w : World) (B r : Nat) (R : Int) (rows : List (List Int)) (wr : World) : Prop := ∃ v vs, RollsP wr B r R v vs rows ∧ Below B w wr
set_option maxRecDepth 100000 in
set_option maxHeartbeats 4000000 in
theorem fewestP_any {B r : Nat} {R : Int} (hlow : B ≤ r) (hR : 0 ≤ R ∧ R ≤ 20) : ∀ (ys : List Int) (w : World) (v : Value) (vs : List Value) (rows : List (List Int)) (n b off len cap : Nat), RollsP w B r R v vs rows → B ≤ w.heap.size → RowsOk id rows n → n + ys.length ≤ 7 → NoEmpty rows → IntsAt w (· < B) (some ⟨b, off, none⟩) len ys → len ≤ cap → (∀ y ∈ ys, 0 ≤ y ∧ y ≤ 20) →
    Calls Try.prog 37 #[.pointer (some ⟨r, 0, none⟩), .slice (some ⟨b, off, none⟩) len cap] w fun e w' => e = .returned (.int .i64 (goL R ys (loadsOf id rows))) ∧ RollsNow w B r R rows w' := by
  intro ys
  induction ys with
  | nil =>
    intro w v vs rows n b off len cap h hB hok hn hne hx hc hy
    have hl : len = 0 := by simpa using hx.lenEq.symm
    subst hl
    obtain ⟨av, cv, hv, _⟩ := own_slice h.outer
    obtain ⟨_, c1, _⟩ := h.cells
    rw [hv] at c1
    have HH := Lib.hid h
    have HG := Lib.hid (show goL R [] (loadsOf id rows) = ((rows.length : Nat) : Int) by rw [goL, loads_len])
    clear h hv hok hne hx
    go_enter Try.func37, Try.ntmps37
    go_wp2_with fail
    go_ret
    exact ⟨ret_int HG.out.symm, v, vs, HH.out, Below.refl _ _⟩
  | cons y ys ih =>
    intro w v vs rows n b off len cap h hB hok hn hne hx hc hy
    obtain ⟨l, rfl⟩ : ∃ l, len = l + 1 := ⟨ys.length, by simpa using hx.lenEq.symm⟩
    have hyl : ys.length = l := by simpa using hx.lenEq
    have hlen := hok.len
    rw [List.length_cons, hyl] at hn
    obtain ⟨av, cv, hv, _⟩ := own_slice h.outer
    obtain ⟨_, c1, _⟩ := h.cells
    rw [hv] at c1
    have hy0 := hy y (by simp)
    have HYS := Lib.hid (fun y' (h : y' ∈ ys) => hy y' (by simp [h]))
    have HX := Lib.hid hx
    have HX1 := Lib.hid hx.drop1
    have HC := Lib.hid (fun (W : World) (hb : Below B w W) => show W.cell? ⟨b, off, none⟩ = some (.int .i64 y) from by
      obtain ⟨b', off', e, _, hc⟩ := (hx.below hb).cells (by omega)
      injection e with e; injection e with e1 e2
      subst e1 e2
      exact hc 0 y rfl)
    have HOK := Lib.hid hok
    have HNE := Lib.hid hne
    have HV := Lib.hid hv
    obtain ⟨u, hu⟩ : ∃ u, rows.length = u := ⟨_, rfl⟩
    rw [hu] at c1 hlen
    have HU := Lib.hid hu
    obtain ⟨L, hL⟩ : ∃ L, loadsOf id rows = L := ⟨_, rfl⟩
    have HL := Lib.hid hL
    have HLU := Lib.hid (show L.length = u by rw [← hL, loads_len, hu])
    rw [hL]
    have HGO := Lib.hid (show goL R (y :: ys) L = tryTo (fun k => goL R ys (putR L k y)) (fun k => hasR R L k y) (((u + (l + 1) : Nat) : Int)) (u + 1) by rw [goL, HLU.out, hyl])
    have HTB := Lib.hid (fun k => show tryTo (fun k => goL R ys (putR L k y)) (fun k => hasR R L k y) (((u + (l + 1) : Nat) : Int)) k ≤ 7 ∧ 0 ≤ tryTo (fun k => goL R ys (putR L k y)) (fun k => hasR R L k y) (((u + (l + 1) : Nat) : Int)) k from
      ⟨Int.le_trans (tryTo_le k).1 (by omega), by
        rcases tryTo_get (f := fun k => goL R ys (putR L k y)) (P := fun k => hasR R L k y) (b := ((u + (l + 1) : Nat) : Int)) k with e | ⟨j, _, _, e⟩
        · rw [e]; omega
        · rw [e]; exact (go_bd R ys _).1⟩)
    have HST := Lib.hid (show ∀ k, tryTo (fun k => goL R ys (putR L k y)) (fun k => hasR R L k y) (((u + (l + 1) : Nat) : Int)) (k + 1) = if hasR R L k y then min (tryTo (fun k => goL R ys (putR L k y)) (fun k => hasR R L k y) (((u + (l + 1) : Nat) : Int)) k) (goL R ys (putR L k y)) else tryTo (fun k => goL R ys (putR L k y)) (fun k => hasR R L k y) (((u + (l + 1) : Nat) : Int)) k from fun k => rfl)
    have HT0 := Lib.hid (show tryTo (fun k => goL R ys (putR L k y)) (fun k => hasR R L k y) (((u + (l + 1) : Nat) : Int)) 0 = ((u + (l + 1) : Nat) : Int) from rfl)
    generalize tryTo (fun k => goL R ys (putR L k y)) (fun k => hasR R L k y) (((u + (l + 1) : Nat) : Int)) = tr at HGO HTB HST HT0
    have HGB := Lib.hid (fun k => go_bd R ys (putR L k y))
    have HH := Lib.hid h
    have HIH := Lib.hid ih
    have HYL := Lib.hid hyl
    have hl0 : ¬ ((l + 1 : Nat) : Int) = 0 := by omega
    have hl2 : ((l : Int) + 1 == 0) = false := beq_false_of_ne (by omega)
    have hl1 : (l : Int) + 1 ≤ (cap : Int) := by omega
    clear h hv hok hne hx hy hu hL ih hyl
    obtain hcc | ⟨c, hcc⟩ : cap = 1 ∨ ∃ c, cap = c + 2 := by
      rcases Nat.lt_or_ge 1 cap with g | g
      · exact .inr ⟨cap - 2, by omega⟩
      · exact .inl (by omega)
    · have hl00 : l = 0 := by omega
      subst hcc
      subst hl00
      clear hl1 hc hl0 hl2
      replace hn : n + 1 ≤ 7 := hn
      go_enter Try.func37, Try.ntmps37
      go_wp2_with fail
      clear c1
      go_loopw [5, 29] (fun f i wr => ∃ k : Nat, k ≤ u + 1 ∧ i = .int .i64 k ∧ f = .int .i64 (tr k) ∧ RollsNow w B r R rows wr) (fun _ i _ => u + 1 - (intOf i).toNat)
      case atStart => exact ⟨0, Nat.zero_le _, rfl, by rw [HT0.out]; simp, v, vs, HH.out, Below.refl _ _⟩
      case round =>
        obtain ⟨k, hk, rfl, rfl, v1, vs1, hW, hbw⟩ := hrel
        obtain ⟨wo, rfl⟩ : ∃ wo : World, wo = wr := ⟨_, rfl⟩
        have hkb := HTB.out k
        have hcy := HC.out wo hbw
        have HW := Lib.hid hW
        have HBW := Lib.hid hbw
        have hst := HST.out k
        obtain ⟨t, ht⟩ : ∃ t, tr k = t := ⟨_, rfl⟩
        rw [ht] at hkb hst ⊢
        have HT := Lib.hid ht
        by_cases hlt : k < u + 1
        · have hkI : (k : Int) < (u : Int) + 1 := by omega
          have hku : k ≤ rows.length := by have := HU.out; omega
          have HRM := Lib.hid (hasRoomP_any hW HOK.out (by omega) hR hku y)
          rw [HL.out] at HRM
          cases hroom : hasR R L k y
          · rw [hroom] at hst HRM
            have HST1 := Lib.hid (show tr (k + 1) = t by rw [hst]; simp)
            clear hW hbw hst hroom ht
            go_wp2_with (first | (go_at_call 53; refine HRM.out.mono ?_; rintro e w' ⟨rfl, rfl⟩) | fail)
            go_roundw
            case rel =>
              exact ⟨k + 1, by omega, by go_num, by rw [HST1.out], ⟨v1, vs1, HW.out, HBW.out⟩⟩
            case measure => simp [intOf]; omega
          · rw [hroom] at hst HRM
            have hBo : B ≤ wo.heap.size := Nat.le_trans hB hbw.size
            have HCUT := Lib.hid (cutP_any hW hlow hBo HOK.out (by omega) hku y)
            have HOK2 := Lib.hid (HOK.out.put hku hy0)
            have HNE2 := Lib.hid (HNE.out.put (y := y) hku)
            have hgb := HGB.out k
            obtain ⟨z, hz⟩ : ∃ z, goL R ys (putR L k y) = z := ⟨_, rfl⟩
            rw [hz] at hst hgb
            have HZ := Lib.hid (show goL R ys (loadsOf id (putRow rows k y)) = z by rw [loads_put, HL.out]; exact hz)
            have HST1 := Lib.hid (show tr (k + 1) = min t z by rw [hst, if_pos rfl])
            have HREC := Lib.hid (fun (W : World) (v2 : Value) (vs2 : List Value) (off' c' : Nat) (h2 : RollsP W B r R v2 vs2 (putRow rows k y)) (hb : Below B w W) (ho : True) (hc : 0 ≤ c') => show Calls Try.prog 37 #[.pointer (some ⟨r, 0, none⟩), .slice (some ⟨b, off', none⟩) 0 c'] W fun e w' => e = .returned (.int .i64 z) ∧ RollsNow W B r R (putRow rows k y) w' from by
              have := HIH.out W v2 vs2 (putRow rows k y) (n + 1) b off' 0 c' h2 (Nat.le_trans hB hb.size) HOK2.out (by rw [HYL.out]; omega) HNE2.out (by
                exact ⟨HYL.out, by omega, fun h => by omega⟩) hc HYS.out
              rwa [HZ.out] at this)
            have HPB := Lib.hid (fun (W : World) (v2 : Value) (vs2 : List Value) (h2 : RollsP W B r R v2 vs2 (putRow rows k y)) (hb : Below B w W) => putBackP_any h2 hlow (Nat.le_trans hB hb.size) HOK2.out (by omega) hku HNE.out)
            have hcy2 := fun W (hb : Below B wo W) => HC.out W (HBW.out.trans hb)
            have HCY2 := Lib.hid hcy2
            clear hW hbw hst hroom ht hz hcy2
            by_cases hzt : z < t
            · have HM := Lib.hid (show tr (k + 1) = z by rw [HST1.out]; omega)
              go_wp2_with (first | (go_at_call 53; refine HRM.out.mono ?_; rintro e w' ⟨rfl, rfl⟩) | (go_at_call 54; refine HCUT.out.mono ?_; rintro e w2 ⟨rfl, v2, vs2, hw2, hb2⟩; have hcy3 := HCY2.out w2 hb2) | fail)
              all_goals
                have hbw2 := HBW.out.trans hb2
                refine (HREC.out w2 v2 vs2 _ _ hw2 hbw2 trivial (Nat.zero_le _)).mono ?_
                rintro e w3 ⟨rfl, v3, vs3, hw3, hb3⟩
                have hbw3 := hbw2.trans hb3
                have HPB2 := Lib.hid (HPB.out w3 v3 vs3 hw3 hbw3)
                clear hw2 hb2 hw3 hb3 hcy3
                go_wp2_with (first | (go_at_call 55; refine HPB2.out.mono ?_; rintro e w4 ⟨rfl, v4, vs4, hw4, hb4⟩) | fail)
                go_roundw
                case rel => exact ⟨k + 1, by omega, by go_num, by rw [HM.out], ⟨v4, vs4, hw4, hbw3.trans hb4⟩⟩
                case measure => simp [intOf]; omega
            · have HM := Lib.hid (show tr (k + 1) = t by rw [HST1.out]; omega)
              go_wp2_with (first | (go_at_call 53; refine HRM.out.mono ?_; rintro e w' ⟨rfl, rfl⟩) | (go_at_call 54; refine HCUT.out.mono ?_; rintro e w2 ⟨rfl, v2, vs2, hw2, hb2⟩; have hcy3 := HCY2.out w2 hb2) | fail)
              all_goals
                have hbw2 := HBW.out.trans hb2
                refine (HREC.out w2 v2 vs2 _ _ hw2 hbw2 trivial (Nat.zero_le _)).mono ?_
                rintro e w3 ⟨rfl, v3, vs3, hw3, hb3⟩
                have hbw3 := hbw2.trans hb3
                have HPB2 := Lib.hid (HPB.out w3 v3 vs3 hw3 hbw3)
                clear hw2 hb2 hw3 hb3 hcy3
                go_wp2_with (first | (go_at_call 55; refine HPB2.out.mono ?_; rintro e w4 ⟨rfl, v4, vs4, hw4, hb4⟩) | fail)
                go_roundw
                case rel => exact ⟨k + 1, by omega, by go_num, by rw [HM.out], ⟨v4, vs4, hw4, hbw3.trans hb4⟩⟩
                case measure => simp [intOf]; omega
        · obtain rfl : k = u + 1 := by omega
          have hkI : ¬ ((u + 1 : Nat) : Int) < (u : Int) + 1 := by omega
          have HF := Lib.hid (HGO.out.trans HT.out)
          clear hW hbw hst ht
          go_wp2_with fail
          go_ret
          exact ⟨ret_int (by rw [HF.out]), v1, vs1, HW.out, HBW.out⟩
    · subst hcc
      go_enter Try.func37, Try.ntmps37
      go_wp2_with fail
      clear c1
      go_loopw [5, 29] (fun f i wr => ∃ k : Nat, k ≤ u + 1 ∧ i = .int .i64 k ∧ f = .int .i64 (tr k) ∧ RollsNow w B r R rows wr) (fun _ i _ => u + 1 - (intOf i).toNat)
      case atStart => exact ⟨0, Nat.zero_le _, rfl, by rw [HT0.out]; simp, v, vs, HH.out, Below.refl _ _⟩
      case round =>
        obtain ⟨k, hk, rfl, rfl, v1, vs1, hW, hbw⟩ := hrel
        obtain ⟨wo, rfl⟩ : ∃ wo : World, wo = wr := ⟨_, rfl⟩
        have hkb := HTB.out k
        have hcy := HC.out wo hbw
        have HW := Lib.hid hW
        have HBW := Lib.hid hbw
        have hst := HST.out k
        obtain ⟨t, ht⟩ : ∃ t, tr k = t := ⟨_, rfl⟩
        rw [ht] at hkb hst ⊢
        have HT := Lib.hid ht
        by_cases hlt : k < u + 1
        · have hkI : (k : Int) < (u : Int) + 1 := by omega
          have hku : k ≤ rows.length := by have := HU.out; omega
          have HRM := Lib.hid (hasRoomP_any hW HOK.out (by omega) hR hku y)
          rw [HL.out] at HRM
          cases hroom : hasR R L k y
          · rw [hroom] at hst HRM
            have HST1 := Lib.hid (show tr (k + 1) = t by rw [hst]; simp)
            clear hW hbw hst hroom ht
            go_wp2_with (first | (go_at_call 53; refine HRM.out.mono ?_; rintro e w' ⟨rfl, rfl⟩) | fail)
            go_roundw
            case rel =>
              exact ⟨k + 1, by omega, by go_num, by rw [HST1.out], ⟨v1, vs1, HW.out, HBW.out⟩⟩
            case measure => simp [intOf]; omega
          · rw [hroom] at hst HRM
            have hBo : B ≤ wo.heap.size := Nat.le_trans hB hbw.size
            have HCUT := Lib.hid (cutP_any hW hlow hBo HOK.out (by omega) hku y)
            have HOK2 := Lib.hid (HOK.out.put hku hy0)
            have HNE2 := Lib.hid (HNE.out.put (y := y) hku)
            have hgb := HGB.out k
            obtain ⟨z, hz⟩ : ∃ z, goL R ys (putR L k y) = z := ⟨_, rfl⟩
            rw [hz] at hst hgb
            have HZ := Lib.hid (show goL R ys (loadsOf id (putRow rows k y)) = z by rw [loads_put, HL.out]; exact hz)
            have HST1 := Lib.hid (show tr (k + 1) = min t z by rw [hst, if_pos rfl])
            have HREC := Lib.hid (fun (W : World) (v2 : Value) (vs2 : List Value) (off' c' : Nat) (h2 : RollsP W B r R v2 vs2 (putRow rows k y)) (hb : Below B w W) (ho : l = 0 ∨ off' = off + 1) (hc : l ≤ c') => show Calls Try.prog 37 #[.pointer (some ⟨r, 0, none⟩), .slice (some ⟨b, off', none⟩) l c'] W fun e w' => e = .returned (.int .i64 z) ∧ RollsNow W B r R (putRow rows k y) w' from by
              have := HIH.out W v2 vs2 (putRow rows k y) (n + 1) b off' l c' h2 (Nat.le_trans hB hb.size) HOK2.out (by rw [HYL.out]; omega) HNE2.out (by
                rcases ho with h0 | h0
                · have := HYL.out
                  exact ⟨this, by omega, fun h => by omega⟩
                · rw [h0]; exact HX1.out.below hb) hc HYS.out
              rwa [HZ.out] at this)
            have HPB := Lib.hid (fun (W : World) (v2 : Value) (vs2 : List Value) (h2 : RollsP W B r R v2 vs2 (putRow rows k y)) (hb : Below B w W) => putBackP_any h2 hlow (Nat.le_trans hB hb.size) HOK2.out (by omega) hku HNE.out)
            have hcy2 := fun W (hb : Below B wo W) => HC.out W (HBW.out.trans hb)
            have HCY2 := Lib.hid hcy2
            clear hW hbw hst hroom ht hz hcy2
            by_cases hzt : z < t
            · have HM := Lib.hid (show tr (k + 1) = z by rw [HST1.out]; omega)
              go_wp2_with (first | (go_at_call 53; refine HRM.out.mono ?_; rintro e w' ⟨rfl, rfl⟩) | (go_at_call 54; refine HCUT.out.mono ?_; rintro e w2 ⟨rfl, v2, vs2, hw2, hb2⟩; have hcy3 := HCY2.out w2 hb2) | fail)
              all_goals
                have hbw2 := HBW.out.trans hb2
                refine (HREC.out w2 v2 vs2 _ _ hw2 hbw2 (by first | exact .inr rfl | exact .inl (by omega)) (by omega)).mono ?_
                rintro e w3 ⟨rfl, v3, vs3, hw3, hb3⟩
                have hbw3 := hbw2.trans hb3
                have HPB2 := Lib.hid (HPB.out w3 v3 vs3 hw3 hbw3)
                clear hw2 hb2 hw3 hb3 hcy3
                go_wp2_with (first | (go_at_call 55; refine HPB2.out.mono ?_; rintro e w4 ⟨rfl, v4, vs4, hw4, hb4⟩) | fail)
                go_roundw
                case rel => exact ⟨k + 1, by omega, by go_num, by rw [HM.out], ⟨v4, vs4, hw4, hbw3.trans hb4⟩⟩
                case measure => simp [intOf]; omega
            · have HM := Lib.hid (show tr (k + 1) = t by rw [HST1.out]; omega)
              go_wp2_with (first | (go_at_call 53; refine HRM.out.mono ?_; rintro e w' ⟨rfl, rfl⟩) | (go_at_call 54; refine HCUT.out.mono ?_; rintro e w2 ⟨rfl, v2, vs2, hw2, hb2⟩; have hcy3 := HCY2.out w2 hb2) | fail)
              all_goals
                have hbw2 := HBW.out.trans hb2
                refine (HREC.out w2 v2 vs2 _ _ hw2 hbw2 (by first | exact .inr rfl | exact .inl (by omega)) (by omega)).mono ?_
                rintro e w3 ⟨rfl, v3, vs3, hw3, hb3⟩
                have hbw3 := hbw2.trans hb3
                have HPB2 := Lib.hid (HPB.out w3 v3 vs3 hw3 hbw3)
                clear hw2 hb2 hw3 hb3 hcy3
                go_wp2_with (first | (go_at_call 55; refine HPB2.out.mono ?_; rintro e w4 ⟨rfl, v4, vs4, hw4, hb4⟩) | fail)
                go_roundw
                case rel => exact ⟨k + 1, by omega, by go_num, by rw [HM.out], ⟨v4, vs4, hw4, hbw3.trans hb4⟩⟩
                case measure => simp [intOf]; omega
        · obtain rfl : k = u + 1 := by omega
          have hkI : ¬ ((u + 1 : Nat) : Int) < (u : Int) + 1 := by omega
          have HF := Lib.hid (HGO.out.trans HT.out)
          clear hW hbw hst ht
          go_wp2_with fail
          go_ret
          exact ⟨ret_int (by rw [HF.out]), v1, vs1, HW.out, HBW.out⟩
end Go.Proofs.Ythmifadnfaajbac
namespace Go.Proofs.Ythmifadnfaajbac
open Go.RowKit Go.WideShapes

theorem made_tabP (z : Value) (n : Nat) : madeCells #[z] n = tabV (fun _ => z) n := by
  apply Array.ext_getElem?
  intro i
  by_cases hi : i < n
  · rw [tabV_get _ hi]; simp [madeCells, hi, Nat.mod_one]
  · rw [Array.getElem?_eq_none (by rw [size_madeCells]; omega), Array.getElem?_eq_none (by simp [tabV]; omega)]
/-- a list of the call's own, being filled -/
structure Fill (w wr : World) (T : TypeId) (n : Nat) (xs : List Int) (k : Nat) : Prop where
  below : Below w.heap.size w wr
  row : wr.heap[w.heap.size]? = some (.cells (tabV (fun v => .int .i64 (if v < k then xs.getD v 0 else 0)) n) T (0, 0))
theorem Fill.step {w wr : World} {T : TypeId} {n k : Nat} {xs : List Int} {x : Int} (h : Fill w wr T n xs k) (hx : xs[k]? = some x) : Fill w (wr.setCell ⟨w.heap.size, k, none⟩ (.int .i64 x)) T n xs (k + 1) := by
  refine ⟨h.below.setCell (p := ⟨w.heap.size, k, none⟩) (Nat.le_refl _) _, ?_⟩
  rw [heap_set h.row, tabV_set]
  congr 3
  funext v
  unfold setN
  by_cases e : v = k
  · subst e; rw [if_pos rfl, if_pos (by omega), getD_of hx]
  · rw [if_neg e]
    show Value.int .i64 (if v < k then xs.getD v 0 else 0) = .int .i64 (if v < k + 1 then xs.getD v 0 else 0)
    by_cases g : v < k
    · rw [if_pos g, if_pos (by omega)]
    · rw [if_neg g, if_neg (by omega)]
theorem Fill.ints {w wr w' : World} {T : TypeId} {n : Nat} {xs : List Int} (h : Fill w wr T n xs n) (hl : xs.length = n) (hs : n ≤ 9223372036854775807) (hb : w'.heap[w.heap.size]? = wr.heap[w.heap.size]?) : IntsAt w' (fun b => b = w.heap.size) (some ⟨w.heap.size, 0, none⟩) n xs :=
  ⟨hl, hs, fun _ => ⟨_, 0, rfl, rfl, fun i x hx => by
    have hi : i < n := by rw [← hl]; exact (List.getElem?_eq_some_iff.1 hx).1
    rw [Nat.zero_add, cell_of_row _ _ _ _ _ _ (hb.trans h.row), tabV_get _ hi, if_pos hi, getD_of hx]⟩⟩
set_option maxRecDepth 100000 in
set_option maxHeartbeats 4000000 in
theorem fewestRolls_impl (a : Option Addr) (len cap : Nat) (xs : List Int) (R : Int) (w : World) (h : IntsAt w (· < w.heap.size) a len xs) :
    Calls Try.prog 12 #[.slice a len cap, .int .i64 R] w fun e w' => e = .returned (.int .i64 (rollsRes xs R)) ∧ Below w.heap.size w w' := by
  have HL := Lib.hid h.lenEq
  cases hv : cutsM xs R
  · have HR := Lib.hid (show rollsRes xs R = -1 by unfold rollsRes; rw [hv]; rfl)
    go_enter Try.func12, Try.ntmps12
    go_wp2_with (go_at_call 29; refine (vcutsI hv _ h).mono ?_; rintro e w' ⟨rfl, rfl⟩)
    go_ret
    exact ⟨ret_int HR.out.symm, Below.refl _ _⟩
  · obtain ⟨hR1, hR2, hl7, hT⟩ := cuts_get hv
    have HR := Lib.hid (show rollsRes xs R = goL R xs [] by unfold rollsRes; rw [hv, go_few hv]; rfl)
    rw [HL.out] at hl7
    have HXS := Lib.hid (show ∀ y ∈ xs, 0 ≤ y ∧ y ≤ 20 from fun y hy => by
      obtain ⟨i, hi⟩ := List.mem_iff_getElem?.1 hy
      have := hT i (List.getElem?_eq_some_iff.1 hi).1
      unfold lenT at this
      rw [getD_of hi] at this
      omega)
    have hmk := fun w => run_make_row' (P := Try.prog) 59 52 (.int .i64 0) 8 Try.underlying59 Try.infoPC rfl .i64 .i64 len (by omega) (by omega) w
    have HH := Lib.hid h
    have HV := Lib.hid hv
    clear hT h
    go_enter Try.func12, Try.ntmps12
    go_wp2_with (first | (go_at_call 29; refine (vcutsI HV.out _ HH.out).mono ?_; rintro e w' ⟨rfl, rfl⟩) | fail)
    clear hv hmk
    go_loopw [18] (fun i wr => ∃ k : Nat, k ≤ len ∧ i = .int .i64 k ∧ Fill w' wr 52 len xs k) (fun i _ => len - (intOf i).toNat)
    case atStart => exact ⟨0, Nat.zero_le _, rfl, (Below.refl _ _).alloc (Nat.le_refl _) _, by rw [heap_alloc_new, made_tabP]; rfl⟩
    case round =>
      obtain ⟨k, hk, rfl, hf⟩ := hrel
      have HF := Lib.hid hf
      by_cases hlt : k < len
      · have hkI : (k : Int) < (len : Int) := by omega
        obtain ⟨b, off, x, rfl, hx, hc⟩ := (HH.out.below hf.below).get hlt
        have HX := Lib.hid hx
        have hfz := frozen_row hf.row k
        have hcc : wr.cell? ⟨w'.heap.size, k, none⟩ = some (.int .i64 0) := by rw [cell_of_row _ _ _ _ _ _ hf.row, tabV_get _ hlt, if_neg (by omega)]
        clear hf hx
        go_wp2_with fail
        go_roundw
        case rel => exact ⟨k + 1, by omega, by go_num, HF.out.step HX.out⟩
        case measure => simp [intOf]; omega
      · obtain rfl : k = len := by omega
        have hkI : ¬ (k : Int) < (k : Int) := by omega
        have HROLL := Lib.hid (show RollsP (wr.alloc (.cells #[.int .i64 R, .slice none 0 0] 62)) wr.heap.size wr.heap.size R (.slice none 0 0) [] [] from
          ⟨heap_alloc_new _ _, World.ownsRow_nil _ _ _ _, fun i u hu => by simp at hu, fun i j u u' hu => by simp at hu⟩)
        have hlt := lt_heap hf.row
        have HX := Lib.hid ((hf.ints (w' := wr.alloc (.cells #[.int .i64 R, .slice none 0 0] 62)) HL.out (by omega) (Below.heap_alloc _ _ _ hlt)).to (S' := (· < wr.heap.size)) (fun b hb => ⟨by rw [hb]; exact hlt, rfl⟩))
        clear hf
        go_wp2_with fail
        refine (fewestP_any (B := wr.heap.size) (r := wr.heap.size) (R := R) (Nat.le_refl _) ⟨by omega, hR2⟩ xs _ _ _ [] 0 w'.heap.size 0 k k HROLL.out (by simp) RowsOk.nil (by rw [HL.out]; omega) (fun k hk => by simp at hk) HX.out (Nat.le_refl _) HXS.out).mono ?_
        rintro e w3 ⟨rfl, v3, vs3, _, hb3⟩
        have HB3 := Lib.hid ((HF.out.below.alloc HF.out.below.size (.cells #[.int .i64 R, .slice none 0 0] 62)).trans (hb3.mono HF.out.below.size))
        clear hb3
        go_wp2_with fail
        go_ret
        exact ⟨ret_int (by rw [HR.out]; rfl), HB3.out⟩
end Go.Proofs.Ythmifadnfaajbac
namespace Go.Proofs.Ythmifadnfaajbac
open Go.RowKit Go.WideShapes

def natI (h : List Nat) : List Int := h.map (fun x : Nat => (x : Int))
theorem natI_get {h : List Nat} {k : Nat} {x : Int} (hx : (natI h)[k]? = some x) : ∃ y : Nat, x = (y : Int) ∧ h[k]? = some y := by
  unfold natI at hx
  rw [List.getElem?_map] at hx
  cases hq : h[k]? with
  | none => rw [hq] at hx; cases hx
  | some y => rw [hq] at hx; simp only [Option.map_some, Option.some.injEq] at hx; exact ⟨y, hx.symm, rfl⟩
theorem nO_natI (h : List Nat) : nO (natI h) = h := by
  unfold nO natI
  rw [List.map_map]
  conv => rhs; rw [← List.map_id h]
  exact List.map_congr_left (fun x _ => by simp)
theorem natI_mem {h : List Nat} {n : Nat} (hh : ∀ x ∈ h, x < n) : ∀ x ∈ natI h, 0 ≤ x ∧ x < (n : Int) := by
  intro x hx
  obtain ⟨y, hy, rfl⟩ := List.mem_map.1 hx
  have := hh y hy; omega
end Go.Proofs.Ythmifadnfaajbac
namespace Go.Proofs.Ythmifadnfaajbac

-- orders, one after the other (plain)
def swN (xs : List Nat) (i j : Nat) : List Nat := (xs.set i (xs.getD j 0)).set j (xs.getD i 0)
theorem swN_length (xs : List Nat) (i j : Nat) : (swN xs i j).length = xs.length := by simp [swN]
def revK (xs : List Nat) (lo hi : Nat) : Nat → List Nat
  | 0 => xs
  | f + 1 => if lo < hi then revK (swN xs lo hi) (lo + 1) (hi - 1) f else xs
theorem revK_end {xs : List Nat} {lo hi : Nat} (h : ¬ lo < hi) (f : Nat) : revK xs lo hi f = xs := by
  cases f with
  | zero => rfl
  | succ f => rw [revK, if_neg h]
theorem revK_length : ∀ (f : Nat) (xs : List Nat) (lo hi : Nat), (revK xs lo hi f).length = xs.length := by
  intro f
  induction f with
  | zero => intro xs lo hi; rfl
  | succ f ih => intro xs lo hi; rw [revK]; split
                 · rw [ih, swN_length]
                 · rfl
/-- the last place below k whose number is less than the next one -/
def riseAt (xs : List Nat) : Nat → Option Nat
  | 0 => none
  | k + 1 => if xs.getD (k + 1) 0 ≤ xs.getD k 0 then riseAt xs k else some k
/-- the last place up to k whose number is greater than x -/
def overAt (xs : List Nat) (x : Nat) : Nat → Nat
  | 0 => 0
  | k + 1 => if xs.getD (k + 1) 0 ≤ x then overAt xs x k else k + 1
def nextP (xs : List Nat) : Option (List Nat) :=
  match riseAt xs (xs.length - 1) with
  | none => none
  | some a => some (revK (swN xs a (overAt xs (xs.getD a 0) (xs.length - 1))) (a + 1) (xs.length - 1) xs.length)
def ordK : Nat → List Nat → List (List Nat)
  | 0, _ => []
  | f + 1, xs => xs :: match nextP xs with
    | none => []
    | some ys => ordK f ys
def ordL (n : Nat) : List (List Nat) := ordK 125 (List.range n)
/-- all orders that begin with h -/
def ordF (n : Nat) : Nat → List Nat → List (List Nat)
  | 0, h => [h]
  | f + 1, h => (List.range n).flatMap (fun i => if i ∈ h then [] else ordF n f (h ++ [i]))
theorem ordF_mem {n : Nat} : ∀ (t h : List Nat), (h ++ t).Perm (List.range n) → h ++ t ∈ ordF n t.length h := by
  intro t
  induction t with
  | nil => intro h _; rw [List.append_nil, List.length_nil, ordF]; simp
  | cons x t ih =>
    intro h hp
    have hn := hp.symm.nodup List.nodup_range
    have hx : x < n := by have := hp.mem_iff.1 (show x ∈ h ++ x :: t by simp); simpa using this
    have hxh : x ∉ h := fun hm => (List.nodup_append.1 hn).2.2 x hm x (by simp) rfl
    rw [List.length_cons, ordF, List.mem_flatMap]
    refine ⟨x, List.mem_range.2 hx, ?_⟩
    rw [if_neg hxh]
    have := ih (h ++ [x]) (by simpa using hp)
    simpa using this
def ordOk (n : Nat) : Bool := (ordL n == ordF n n []) && (ordL n)[0]? == some (List.range n) && (ordL n).all (fun l => l.length == n && l.all (fun x => decide (x < n)) && l.isPerm (List.range n))
  && (List.range (ordL n).length).all (fun k => nextP ((ordL n).getD k []) == (ordL n)[k + 1]?)
theorem ordOk_all : ((List.range 6).all ordOk) = true := by decide +kernel
structure OrdIs (n : Nat) : Prop where
  all : ∀ l : List Nat, l.Perm (List.range n) → l ∈ ordL n
  first : (ordL n)[0]? = some (List.range n)
  len : ∀ l ∈ ordL n, l.length = n ∧ (∀ x ∈ l, x < n) ∧ l.Perm (List.range n)
  next : ∀ k, k < (ordL n).length → nextP ((ordL n).getD k []) = (ordL n)[k + 1]?
theorem ord_is {n : Nat} (h : n ≤ 5) : OrdIs n := by
  have := List.all_eq_true.1 ordOk_all n (List.mem_range.2 (by omega))
  simp only [ordOk, Bool.and_eq_true, beq_iff_eq, List.all_eq_true] at this
  obtain ⟨⟨⟨h1, h2⟩, h3⟩, h4⟩ := this
  refine ⟨fun l hp => ?_, h2, fun l hl => ?_, fun k hk => h4 k (List.mem_range.2 hk)⟩
  · rw [h1]
    have hl : l.length = n := by have := hp.length_eq; simpa using this
    have := ordF_mem l [] (by simpa using hp)
    rw [hl] at this
    simpa using this
  · obtain ⟨⟨e1, e2⟩, e3⟩ := h3 l hl
    exact ⟨e1, fun x hx => by simpa using e2 x hx, List.isPerm_iff.1 e3⟩
theorem ordL_pos {n : Nat} (h : n ≤ 5) : 0 < (ordL n).length := (List.getElem?_eq_some_iff.1 (ord_is h).first).1
/-- the least so far of k spans, -1: of none -/
def lstT (sp : Nat → Int) : Nat → Int
  | 0 => -1
  | k + 1 => if lstT sp k < 0 ∨ sp k < lstT sp k then sp k else lstT sp k
theorem lstT_is {sp : Nat → Int} (h : ∀ k, 0 ≤ sp k) : ∀ k, (k = 0 → lstT sp k = -1) ∧ (0 < k → 0 ≤ lstT sp k) ∧ (∀ j, j < k → lstT sp k ≤ sp j) ∧ (0 < k → ∃ j, j < k ∧ lstT sp k = sp j) := by
  intro k
  induction k with
  | zero => exact ⟨fun _ => rfl, fun h => absurd h (by omega), fun j hj => absurd hj (by omega), fun h => absurd h (by omega)⟩
  | succ k ih =>
    obtain ⟨h1, h2, h3, h4⟩ := ih
    have hk := h k
    refine ⟨fun e => by omega, fun _ => ?_, fun j hj => ?_, fun _ => ?_⟩
    · rw [lstT]; split
      · exact hk
      · rename_i hc; omega
    · rw [lstT]; split
      · rename_i hc
        by_cases e : j = k
        · subst e; omega
        · have := h3 j (by omega); have := h2 (by omega); omega
      · rename_i hc
        by_cases e : j = k
        · subst e; omega
        · exact h3 j (by omega)
    · rw [lstT]; split
      · exact ⟨k, by omega, rfl⟩
      · rename_i hc
        have : 0 < k := by
          rcases Nat.eq_zero_or_pos k with e | e
          · have := h1 e; omega
          · exact e
        obtain ⟨j, hj, e⟩ := h4 this
        exact ⟨j, by omega, e⟩
theorem ord_least {a b : Nat → Int} (ha : ∀ x, 0 ≤ a x) (hb : ∀ x, 0 ≤ b x) {n : Nat} (h : n ≤ 5) : LeastO a b n (lstT (fun k => spanT a b ((ordL n).getD k [])) (ordL n).length) := by
  have hO := ord_is h
  have hp := ordL_pos h
  obtain ⟨_, _, h3, h4⟩ := lstT_is (sp := fun k => spanT a b ((ordL n).getD k [])) (fun k => span_nn ha hb _) (ordL n).length
  obtain ⟨j, hj, e⟩ := h4 hp
  refine ⟨⟨(ordL n).getD j [], (hO.len _ ?_).2.2, e.symm⟩, fun l hl => ?_⟩
  · rw [List.getD_eq_getElem?_getD, List.getElem?_eq_getElem hj]; exact List.getElem_mem hj
  · obtain ⟨i, hi, rfl⟩ := List.getElem_of_mem (hO.all l hl)
    have := h3 i hi
    simp only [List.getD_eq_getElem?_getD, List.getElem?_eq_getElem hi, Option.getD_some] at this
    exact this
theorem ord_tried {a b : Nat → Int} (ha : ∀ x, 0 ≤ a x) (hb : ∀ x, 0 ≤ b x) {n : Nat} (h : n ≤ 5) : lstT (fun k => spanT a b ((ordL n).getD k [])) (ordL n).length = fromT a b n n [] :=
  (ord_least ha hb h).uniq (tried_is ha hb n)
end Go.Proofs.Ythmifadnfaajbac
namespace Go.Proofs.Ythmifadnfaajbac

-- the rule by comparing (plain)
def cc (p q : Int) : Int := if p < q then -1 else if q < p then 1 else 0
def cmp4 (x0 x1 y0 y1 : Int) : Int := if x0 < x1 then (if y0 < y1 then cc x0 y0 else -1) else (if y0 < y1 then 1 else cc y1 x1)
def cmpV (a b : Nat → Int) (x y : Nat) : Int := cmp4 (a x) (b x) (a y) (b y)
theorem cmpV_lt {a b : Nat → Int} {x y : Nat} (h : y < x) : cmpV a b x y < 0 ↔ ¬ btr a b y x := by
  unfold cmpV cmp4 cc btr
  by_cases h1 : a x < b x <;> by_cases h2 : a y < b y <;> simp only [h1, h2, if_true, if_false, not_true, not_false_eq_true]
  · constructor
    · intro h3; split at h3
      · omega
      · split at h3 <;> omega
    · intro h3; rw [if_pos (by omega)]; omega
  · exact ⟨fun _ => trivial, fun _ => by omega⟩
  · exact ⟨fun h3 => by omega, fun h3 => h3.elim⟩
  · constructor
    · intro h3; split at h3
      · omega
      · split at h3 <;> omega
    · intro h3; rw [if_pos (by omega)]; omega
theorem insR_split {a b : Nat → Int} {x : Nat} : ∀ (l1 l2 : List Nat), (∀ y ∈ l1, btr a b y x) → (∀ y ∈ l2, ¬ btr a b y x) → insR a b x (l1 ++ l2) = l1 ++ x :: l2 := by
  intro l1
  induction l1 with
  | nil =>
    intro l2 _ h2
    cases l2 with
    | nil => rfl
    | cons y l2 => rw [List.nil_append, insR, if_neg (h2 y (by simp))]; rfl
  | cons y l1 ih =>
    intro l2 h1 h2
    rw [List.cons_append, insR, if_pos (h1 y (by simp)), ih l2 (fun z hz => h1 z (by simp [hz])) h2]; rfl
/-- what lies there while job i is put in its place: l1 ahead of it, l2 behind it, and those that are still to come -/
def insAt (l1 : List Nat) (i : Nat) (l2 : List Nat) (n : Nat) : List Nat := l1 ++ i :: (l2 ++ List.range' (i + 1) (n - (i + 1)))
theorem insAt_length {l1 l2 : List Nat} {i n : Nat} (h : l1.length + l2.length = i) (hi : i < n) : (insAt l1 i l2 n).length = n := by
  simp only [insAt, List.length_append, List.length_cons, List.length_range']; omega
theorem insAt_here (l1 l2 : List Nat) (i n : Nat) : (insAt l1 i l2 n).getD l1.length 0 = i := by
  simp [insAt, List.getD_eq_getElem?_getD]
theorem insAt_ahead (l1 l2 : List Nat) (y i n : Nat) : (insAt (l1 ++ [y]) i l2 n).getD l1.length 0 = y := by
  simp [insAt, List.getD_eq_getElem?_getD]
theorem insAt_swap (l1 l2 : List Nat) (y i n : Nat) : swN (insAt (l1 ++ [y]) i l2 n) (l1.length + 1) l1.length = insAt l1 i (y :: l2) n := by
  have h1 : (insAt (l1 ++ [y]) i l2 n).getD (l1.length + 1) 0 = i := by have := insAt_here (l1 ++ [y]) l2 i n; simpa using this
  unfold swN
  rw [h1, insAt_ahead]
  unfold insAt
  rw [List.append_assoc, List.singleton_append]
  rw [List.set_append, if_neg (by omega), Nat.add_sub_cancel_left, List.set_cons_succ, List.set_cons_zero, List.set_append, if_neg (by omega), Nat.sub_self, List.set_cons_zero]
  simp
theorem insAt_next {a b : Nat → Int} {l1 l2 : List Nat} {i n : Nat} (hi : i + 1 < n) (h : l1 ++ i :: l2 = ruleT a b (i + 1)) : insAt l1 i l2 n = insAt (ruleT a b (i + 1)) (i + 1) [] n := by
  unfold insAt
  rw [← h]
  have : List.range' (i + 1) (n - (i + 1)) = (i + 1) :: List.range' (i + 1 + 1) (n - (i + 1 + 1)) := by
    obtain ⟨m, hm⟩ : ∃ m, n - (i + 1) = m + 1 := ⟨n - (i + 1) - 1, by omega⟩
    rw [hm, List.range'_succ, show n - (i + 1 + 1) = m by omega]
  rw [this]; simp
theorem insAt_last {a b : Nat → Int} {l1 l2 : List Nat} {i : Nat} (h : l1 ++ i :: l2 = ruleT a b (i + 1)) : insAt l1 i l2 (i + 1) = ruleT a b (i + 1) := by
  unfold insAt; rw [Nat.sub_self, List.range'_zero, List.append_nil, h]
theorem insAt_first {a b : Nat → Int} {n : Nat} (hn : 1 < n) : List.range n = insAt (ruleT a b 1) 1 [] n := by
  unfold insAt
  obtain ⟨m, rfl⟩ : ∃ m, n = m + 2 := ⟨n - 2, by omega⟩
  rw [List.range_eq_range', List.range'_succ, List.range'_succ]
  rfl
theorem ruleT_lenN (a b : Nat → Int) (n : Nat) : (ruleT a b n).length = n := by have := (ruleT_perm a b n).length_eq; simpa using this
/-- the loop's end: what is ahead is better, what is behind is not -/
theorem ins_done {a b : Nat → Int} {l1 l2 : List Nat} {i : Nat} (h : l1 ++ l2 = ruleT a b i) (h1 : ∀ y, l1.getLast? = some y → btr a b y i) (h2 : ∀ y ∈ l2, ¬ btr a b y i) : l1 ++ i :: l2 = ruleT a b (i + 1) := by
  rw [ruleT, ← h]
  refine (insR_split l1 l2 (fun y hy => ?_) h2).symm
  have hs : l1.Pairwise (btr a b) := by
    have := ruleT_sorted a b i
    rw [← h] at this
    exact (List.pairwise_append.1 this).1
  rcases List.eq_nil_or_concat l1 with rfl | ⟨l, z, rfl⟩
  · cases hy
  · have hz := h1 z (by simp)
    rw [List.concat_eq_append] at hy hs
    rcases List.mem_append.1 hy with hy | hy
    · exact btr_trans ((List.pairwise_append.1 hs).2.2 y hy z (by simp)) hz
    · simp only [List.mem_singleton] at hy; subst hy; exact hz
end Go.Proofs.Ythmifadnfaajbac
namespace Go.Proofs.Ythmifadnfaajbac

-- insertion in place, told by sortE (plain)
theorem ins_next {s l1 l2 : List Nat} {i n : Nat} (hi : i + 1 < n) (h : l1 ++ i :: l2 = s) : insAt l1 i l2 n = insAt s (i + 1) [] n := by
  unfold insAt
  rw [← h]
  have : List.range' (i + 1) (n - (i + 1)) = (i + 1) :: List.range' (i + 1 + 1) (n - (i + 1 + 1)) := by
    obtain ⟨m, hm⟩ : ∃ m, n - (i + 1) = m + 1 := ⟨n - (i + 1) - 1, by omega⟩
    rw [hm, List.range'_succ, show n - (i + 1 + 1) = m by omega]
  rw [this]; simp
theorem ins_last {s l1 l2 : List Nat} {i : Nat} (h : l1 ++ i :: l2 = s) : insAt l1 i l2 (i + 1) = s := by
  unfold insAt; rw [Nat.sub_self, List.range'_zero, List.append_nil, h]
theorem sortE_one (ah : Nat → Nat → Bool) : sortE ah 1 = [0] := by
  simp [sortE, insE, backK]
theorem ins_first (ah : Nat → Nat → Bool) {n : Nat} (hn : 1 < n) : List.range n = insAt (sortE ah 1) 1 [] n := by
  unfold insAt
  obtain ⟨m, rfl⟩ : ∃ m, n = m + 2 := ⟨n - 2, by omega⟩
  rw [List.range_eq_range', List.range'_succ, List.range'_succ, sortE_one]
  rfl
/-- the loop's end: what is behind comes behind, the last one ahead does not -/
theorem insE_done {ah : Nat → Nat → Bool} {l1 l2 : List Nat} {i : Nat} (h : l1 ++ l2 = sortE ah i) (h1 : ∀ l z, l1 = l ++ [z] → ah i z = false) (h2 : ∀ y ∈ l2, ah i y = true) : l1 ++ i :: l2 = sortE ah (i + 1) := by
  have hk : backK (ah i) (sortE ah i) (sortE ah i).length = l1.length := by
    refine backK_is (by rw [← h, List.length_append]; omega) (fun m hm hm2 => ?_) (fun hp => ?_)
    · rw [← h, List.getD_eq_getElem?_getD, List.getElem?_append_right hm]
      rw [← h, List.length_append] at hm2
      rw [List.getElem?_eq_getElem (by omega)]
      exact h2 _ (List.getElem_mem _)
    · rcases List.eq_nil_or_concat l1 with rfl | ⟨l, z, rfl⟩
      · simp at hp
      · have := h1 l z (by rw [List.concat_eq_append])
        rw [← h, List.getD_eq_getElem?_getD]
        simpa using this
  show _ = insE ah i (sortE ah i)
  unfold insE
  rw [hk, ← h]
  simp
end Go.Proofs.Ythmifadnfaajbac
