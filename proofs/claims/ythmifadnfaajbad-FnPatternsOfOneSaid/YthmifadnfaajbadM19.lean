import Derived.Test.YthmifadnfaajbadRows
import Derived.WalkKit
import Derived.LoopTactic
import Derived.Outline
import Derived.WalkSpells
import Derived.WalkLawsBesides
import Derived.ProofKit
import Derived.Lib.Hide
import Derived.IntWalk
import Derived.Deep.RegionHeld3
import Derived.Test.YthmifadnfaajbadM0
import Derived.Test.YthmifadnfaajbadM1
import Derived.Test.YthmifadnfaajbadM10
import Derived.Test.YthmifadnfaajbadM8
import Derived.Test.YthmifadnfaajbadM15
import Derived.Test.YthmifadnfaajbadM18
import Derived.Test.YthmifadnfaajbadM17
namespace Go.Proofs.Ythmifadnfaajbad
open Go.RowKit Go.WideShapes

theorem IntsAt.drop1 {w : World} {S : Nat → Prop} {b off l : Nat} {y : Int} {ys : List Int} (h : IntsAt w S (some ⟨b, off, none⟩) (l + 1) (y :: ys)) : IntsAt w S (some ⟨b, off + 1, none⟩) l ys := by
  have hl := h.lenEq
  have hs := h.small
  obtain ⟨b', off', e, hb, hc⟩ := h.cells (by omega)
  injection e with e; injection e with e1 e2
  subst e1 e2
  exact ⟨by simpa using hl, by omega, fun _ => ⟨b, off + 1, rfl, hb, fun i x hx => by
    have := hc (i + 1) x (by simpa using hx)
    rwa [show off + (i + 1) = off + 1 + i by omega] at this⟩⟩
/-- the rolls lie somewhere, and nothing else has changed -/
def RollsNow (w : World) (B r : Nat) (R : Int) (rows : List (List Int)) (wr : World) : Prop := ∃ v vs, RollsP wr B r R v vs rows ∧ Below B w wr
set_option maxRecDepth 100000 in
set_option maxHeartbeats 4000000 in
theorem fewestP_any {B r : Nat} {R : Int} (hlow : B ≤ r) (hR : 0 ≤ R ∧ R ≤ 20) : ∀ (ys : List Int) (w : World) (v : Value) (vs : List Value) (rows : List (List Int)) (n b off len cap : Nat), RollsP w B r R v vs rows → B ≤ w.heap.size → RowsOk id rows n → n + ys.length ≤ 7 → NoEmpty rows → IntsAt w (· < B) (some ⟨b, off, none⟩) len ys → len ≤ cap → (∀ y ∈ ys, 0 ≤ y ∧ y ≤ 20) →
    Calls Try.prog 19 #[.pointer (some ⟨r, 0, none⟩), .slice (some ⟨b, off, none⟩) len cap] w fun e w' => e = .returned (.int .i64 (goL R ys (loadsOf id rows))) ∧ RollsNow w B r R rows w' := by
  intro ys
  induction ys with
  | nil =>
    intro w v vs rows n b off len cap h hB hok hn hne hx hc hy
    have hl : len = 0 := by simpa using hx.lenEq.symm
    subst hl
    obtain ⟨av, cv, hv, _⟩ := own_slice h.outer
    obtain ⟨_, c1, _⟩ := h.cells
    rw [hv] at c1
    have HH := Lib.hid h
    have HG := Lib.hid (show goL R [] (loadsOf id rows) = ((rows.length : Nat) : Int) by rw [goL, loads_len])
    clear h hv hok hne hx
    go_enter Try.func19, Try.ntmps19
    go_wp2_with fail
    go_ret
    exact ⟨ret_int HG.out.symm, v, vs, HH.out, Below.refl _ _⟩
  | cons y ys ih =>
    intro w v vs rows n b off len cap h hB hok hn hne hx hc hy
    obtain ⟨l, rfl⟩ : ∃ l, len = l + 1 := ⟨ys.length, by simpa using hx.lenEq.symm⟩
    have hyl : ys.length = l := by simpa using hx.lenEq
    have hlen := hok.len
    rw [List.length_cons, hyl] at hn
    obtain ⟨av, cv, hv, _⟩ := own_slice h.outer
    obtain ⟨_, c1, _⟩ := h.cells
    rw [hv] at c1
    have hy0 := hy y (by simp)
    have HYS := Lib.hid (fun y' (h : y' ∈ ys) => hy y' (by simp [h]))
    have HX := Lib.hid hx
    have HX1 := Lib.hid hx.drop1
    have HC := Lib.hid (fun (W : World) (hb : Below B w W) => show W.cell? ⟨b, off, none⟩ = some (.int .i64 y) from by
      obtain ⟨b', off', e, _, hc⟩ := (hx.below hb).cells (by omega)
      injection e with e; injection e with e1 e2
      subst e1 e2
      exact hc 0 y rfl)
    have HOK := Lib.hid hok
    have HNE := Lib.hid hne
    have HV := Lib.hid hv
    obtain ⟨u, hu⟩ : ∃ u, rows.length = u := ⟨_, rfl⟩
    rw [hu] at c1 hlen
    have HU := Lib.hid hu
    obtain ⟨L, hL⟩ : ∃ L, loadsOf id rows = L := ⟨_, rfl⟩
    have HL := Lib.hid hL
    have HLU := Lib.hid (show L.length = u by rw [← hL, loads_len, hu])
    rw [hL]
    have HGO := Lib.hid (show goL R (y :: ys) L = tryTo (fun k => goL R ys (putR L k y)) (fun k => hasR R L k y) (((u + (l + 1) : Nat) : Int)) (u + 1) by rw [goL, HLU.out, hyl])
    have HTB := Lib.hid (fun k => show tryTo (fun k => goL R ys (putR L k y)) (fun k => hasR R L k y) (((u + (l + 1) : Nat) : Int)) k ≤ 7 ∧ 0 ≤ tryTo (fun k => goL R ys (putR L k y)) (fun k => hasR R L k y) (((u + (l + 1) : Nat) : Int)) k from
      ⟨Int.le_trans (tryTo_le k).1 (by omega), by
        rcases tryTo_get (f := fun k => goL R ys (putR L k y)) (P := fun k => hasR R L k y) (b := ((u + (l + 1) : Nat) : Int)) k with e | ⟨j, _, _, e⟩
        · rw [e]; omega
        · rw [e]; exact (go_bd R ys _).1⟩)
    have HST := Lib.hid (show ∀ k, tryTo (fun k => goL R ys (putR L k y)) (fun k => hasR R L k y) (((u + (l + 1) : Nat) : Int)) (k + 1) = if hasR R L k y then min (tryTo (fun k => goL R ys (putR L k y)) (fun k => hasR R L k y) (((u + (l + 1) : Nat) : Int)) k) (goL R ys (putR L k y)) else tryTo (fun k => goL R ys (putR L k y)) (fun k => hasR R L k y) (((u + (l + 1) : Nat) : Int)) k from fun k => rfl)
    have HT0 := Lib.hid (show tryTo (fun k => goL R ys (putR L k y)) (fun k => hasR R L k y) (((u + (l + 1) : Nat) : Int)) 0 = ((u + (l + 1) : Nat) : Int) from rfl)
    generalize tryTo (fun k => goL R ys (putR L k y)) (fun k => hasR R L k y) (((u + (l + 1) : Nat) : Int)) = tr at HGO HTB HST HT0
    have HGB := Lib.hid (fun k => go_bd R ys (putR L k y))
    have HH := Lib.hid h
    have HIH := Lib.hid ih
    have HYL := Lib.hid hyl
    have hl0 : ¬ ((l + 1 : Nat) : Int) = 0 := by omega
    have hl2 : ((l : Int) + 1 == 0) = false := beq_false_of_ne (by omega)
    have hl1 : (l : Int) + 1 ≤ (cap : Int) := by omega
    clear h hv hok hne hx hy hu hL ih hyl
    obtain hcc | ⟨c, hcc⟩ : cap = 1 ∨ ∃ c, cap = c + 2 := by
      rcases Nat.lt_or_ge 1 cap with g | g
      · exact .inr ⟨cap - 2, by omega⟩
      · exact .inl (by omega)
    · have hl00 : l = 0 := by omega
      subst hcc
      subst hl00
      clear hl1 hc hl0 hl2
      replace hn : n + 1 ≤ 7 := hn
      go_enter Try.func19, Try.ntmps19
      go_wp2_with fail
      clear c1
      go_loopw [5, 29] (fun f i wr => ∃ k : Nat, k ≤ u + 1 ∧ i = .int .i64 k ∧ f = .int .i64 (tr k) ∧ RollsNow w B r R rows wr) (fun _ i _ => u + 1 - (intOf i).toNat)
      case atStart => exact ⟨0, Nat.zero_le _, rfl, by rw [HT0.out]; simp, v, vs, HH.out, Below.refl _ _⟩
      case round =>
        obtain ⟨k, hk, rfl, rfl, v1, vs1, hW, hbw⟩ := hrel
        obtain ⟨wo, rfl⟩ : ∃ wo : World, wo = wr := ⟨_, rfl⟩
        have hkb := HTB.out k
        have hcy := HC.out wo hbw
        have HW := Lib.hid hW
        have HBW := Lib.hid hbw
        have hst := HST.out k
        obtain ⟨t, ht⟩ : ∃ t, tr k = t := ⟨_, rfl⟩
        rw [ht] at hkb hst ⊢
        have HT := Lib.hid ht
        by_cases hlt : k < u + 1
        · have hkI : (k : Int) < (u : Int) + 1 := by omega
          have hku : k ≤ rows.length := by have := HU.out; omega
          have HRM := Lib.hid (hasRoomP_any hW HOK.out (by omega) hR hku y)
          rw [HL.out] at HRM
          cases hroom : hasR R L k y
          · rw [hroom] at hst HRM
            have HST1 := Lib.hid (show tr (k + 1) = t by rw [hst]; simp)
            clear hW hbw hst hroom ht
            go_wp2_with (first | (go_at_call 25; refine HRM.out.mono ?_; rintro e w' ⟨rfl, rfl⟩) | fail)
            go_roundw
            case rel =>
              exact ⟨k + 1, by omega, by go_num, by rw [HST1.out], ⟨v1, vs1, HW.out, HBW.out⟩⟩
            case measure => simp [intOf]; omega
          · rw [hroom] at hst HRM
            have hBo : B ≤ wo.heap.size := Nat.le_trans hB hbw.size
            have HCUT := Lib.hid (cutP_any hW hlow hBo HOK.out (by omega) hku y)
            have HOK2 := Lib.hid (HOK.out.put hku hy0)
            have HNE2 := Lib.hid (HNE.out.put (y := y) hku)
            have hgb := HGB.out k
            obtain ⟨z, hz⟩ : ∃ z, goL R ys (putR L k y) = z := ⟨_, rfl⟩
            rw [hz] at hst hgb
            have HZ := Lib.hid (show goL R ys (loadsOf id (putRow rows k y)) = z by rw [loads_put, HL.out]; exact hz)
            have HST1 := Lib.hid (show tr (k + 1) = min t z by rw [hst, if_pos rfl])
            have HREC := Lib.hid (fun (W : World) (v2 : Value) (vs2 : List Value) (off' c' : Nat) (h2 : RollsP W B r R v2 vs2 (putRow rows k y)) (hb : Below B w W) (ho : True) (hc : 0 ≤ c') => show Calls Try.prog 19 #[.pointer (some ⟨r, 0, none⟩), .slice (some ⟨b, off', none⟩) 0 c'] W fun e w' => e = .returned (.int .i64 z) ∧ RollsNow W B r R (putRow rows k y) w' from by
              have := HIH.out W v2 vs2 (putRow rows k y) (n + 1) b off' 0 c' h2 (Nat.le_trans hB hb.size) HOK2.out (by rw [HYL.out]; omega) HNE2.out (by
                exact ⟨HYL.out, by omega, fun h => by omega⟩) hc HYS.out
              rwa [HZ.out] at this)
            have HPB := Lib.hid (fun (W : World) (v2 : Value) (vs2 : List Value) (h2 : RollsP W B r R v2 vs2 (putRow rows k y)) (hb : Below B w W) => putBackP_any h2 hlow (Nat.le_trans hB hb.size) HOK2.out (by omega) hku HNE.out)
            have hcy2 := fun W (hb : Below B wo W) => HC.out W (HBW.out.trans hb)
            have HCY2 := Lib.hid hcy2
            clear hW hbw hst hroom ht hz hcy2
            by_cases hzt : z < t
            · have HM := Lib.hid (show tr (k + 1) = z by rw [HST1.out]; omega)
              go_wp2_with (first | (go_at_call 25; refine HRM.out.mono ?_; rintro e w' ⟨rfl, rfl⟩) | (go_at_call 26; refine HCUT.out.mono ?_; rintro e w2 ⟨rfl, v2, vs2, hw2, hb2⟩; have hcy3 := HCY2.out w2 hb2) | fail)
              all_goals
                have hbw2 := HBW.out.trans hb2
                refine (HREC.out w2 v2 vs2 _ _ hw2 hbw2 trivial (Nat.zero_le _)).mono ?_
                rintro e w3 ⟨rfl, v3, vs3, hw3, hb3⟩
                have hbw3 := hbw2.trans hb3
                have HPB2 := Lib.hid (HPB.out w3 v3 vs3 hw3 hbw3)
                clear hw2 hb2 hw3 hb3 hcy3
                go_wp2_with (first | (go_at_call 27; refine HPB2.out.mono ?_; rintro e w4 ⟨rfl, v4, vs4, hw4, hb4⟩) | fail)
                go_roundw
                case rel => exact ⟨k + 1, by omega, by go_num, by rw [HM.out], ⟨v4, vs4, hw4, hbw3.trans hb4⟩⟩
                case measure => simp [intOf]; omega
            · have HM := Lib.hid (show tr (k + 1) = t by rw [HST1.out]; omega)
              go_wp2_with (first | (go_at_call 25; refine HRM.out.mono ?_; rintro e w' ⟨rfl, rfl⟩) | (go_at_call 26; refine HCUT.out.mono ?_; rintro e w2 ⟨rfl, v2, vs2, hw2, hb2⟩; have hcy3 := HCY2.out w2 hb2) | fail)
              all_goals
                have hbw2 := HBW.out.trans hb2
                refine (HREC.out w2 v2 vs2 _ _ hw2 hbw2 trivial (Nat.zero_le _)).mono ?_
                rintro e w3 ⟨rfl, v3, vs3, hw3, hb3⟩
                have hbw3 := hbw2.trans hb3
                have HPB2 := Lib.hid (HPB.out w3 v3 vs3 hw3 hbw3)
                clear hw2 hb2 hw3 hb3 hcy3
                go_wp2_with (first | (go_at_call 27; refine HPB2.out.mono ?_; rintro e w4 ⟨rfl, v4, vs4, hw4, hb4⟩) | fail)
                go_roundw
                case rel => exact ⟨k + 1, by omega, by go_num, by rw [HM.out], ⟨v4, vs4, hw4, hbw3.trans hb4⟩⟩
                case measure => simp [intOf]; omega
        · obtain rfl : k = u + 1 := by omega
          have hkI : ¬ ((u + 1 : Nat) : Int) < (u : Int) + 1 := by omega
          have HF := Lib.hid (HGO.out.trans HT.out)
          clear hW hbw hst ht
          go_wp2_with fail
          go_ret
          exact ⟨ret_int (by rw [HF.out]), v1, vs1, HW.out, HBW.out⟩
    · subst hcc
      go_enter Try.func19, Try.ntmps19
      go_wp2_with fail
      clear c1
      go_loopw [5, 29] (fun f i wr => ∃ k : Nat, k ≤ u + 1 ∧ i = .int .i64 k ∧ f = .int .i64 (tr k) ∧ RollsNow w B r R rows wr) (fun _ i _ => u + 1 - (intOf i).toNat)
      case atStart => exact ⟨0, Nat.zero_le _, rfl, by rw [HT0.out]; simp, v, vs, HH.out, Below.refl _ _⟩
      case round =>
        obtain ⟨k, hk, rfl, rfl, v1, vs1, hW, hbw⟩ := hrel
        obtain ⟨wo, rfl⟩ : ∃ wo : World, wo = wr := ⟨_, rfl⟩
        have hkb := HTB.out k
        have hcy := HC.out wo hbw
        have HW := Lib.hid hW
        have HBW := Lib.hid hbw
        have hst := HST.out k
        obtain ⟨t, ht⟩ : ∃ t, tr k = t := ⟨_, rfl⟩
        rw [ht] at hkb hst ⊢
        have HT := Lib.hid ht
        by_cases hlt : k < u + 1
        · have hkI : (k : Int) < (u : Int) + 1 := by omega
          have hku : k ≤ rows.length := by have := HU.out; omega
          have HRM := Lib.hid (hasRoomP_any hW HOK.out (by omega) hR hku y)
          rw [HL.out] at HRM
          cases hroom : hasR R L k y
          · rw [hroom] at hst HRM
            have HST1 := Lib.hid (show tr (k + 1) = t by rw [hst]; simp)
            clear hW hbw hst hroom ht
            go_wp2_with (first | (go_at_call 25; refine HRM.out.mono ?_; rintro e w' ⟨rfl, rfl⟩) | fail)
            go_roundw
            case rel =>
              exact ⟨k + 1, by omega, by go_num, by rw [HST1.out], ⟨v1, vs1, HW.out, HBW.out⟩⟩
            case measure => simp [intOf]; omega
          · rw [hroom] at hst HRM
            have hBo : B ≤ wo.heap.size := Nat.le_trans hB hbw.size
            have HCUT := Lib.hid (cutP_any hW hlow hBo HOK.out (by omega) hku y)
            have HOK2 := Lib.hid (HOK.out.put hku hy0)
            have HNE2 := Lib.hid (HNE.out.put (y := y) hku)
            have hgb := HGB.out k
            obtain ⟨z, hz⟩ : ∃ z, goL R ys (putR L k y) = z := ⟨_, rfl⟩
            rw [hz] at hst hgb
            have HZ := Lib.hid (show goL R ys (loadsOf id (putRow rows k y)) = z by rw [loads_put, HL.out]; exact hz)
            have HST1 := Lib.hid (show tr (k + 1) = min t z by rw [hst, if_pos rfl])
            have HREC := Lib.hid (fun (W : World) (v2 : Value) (vs2 : List Value) (off' c' : Nat) (h2 : RollsP W B r R v2 vs2 (putRow rows k y)) (hb : Below B w W) (ho : l = 0 ∨ off' = off + 1) (hc : l ≤ c') => show Calls Try.prog 19 #[.pointer (some ⟨r, 0, none⟩), .slice (some ⟨b, off', none⟩) l c'] W fun e w' => e = .returned (.int .i64 z) ∧ RollsNow W B r R (putRow rows k y) w' from by
              have := HIH.out W v2 vs2 (putRow rows k y) (n + 1) b off' l c' h2 (Nat.le_trans hB hb.size) HOK2.out (by rw [HYL.out]; omega) HNE2.out (by
                rcases ho with h0 | h0
                · have := HYL.out
                  exact ⟨this, by omega, fun h => by omega⟩
                · rw [h0]; exact HX1.out.below hb) hc HYS.out
              rwa [HZ.out] at this)
            have HPB := Lib.hid (fun (W : World) (v2 : Value) (vs2 : List Value) (h2 : RollsP W B r R v2 vs2 (putRow rows k y)) (hb : Below B w W) => putBackP_any h2 hlow (Nat.le_trans hB hb.size) HOK2.out (by omega) hku HNE.out)
            have hcy2 := fun W (hb : Below B wo W) => HC.out W (HBW.out.trans hb)
            have HCY2 := Lib.hid hcy2
            clear hW hbw hst hroom ht hz hcy2
            by_cases hzt : z < t
            · have HM := Lib.hid (show tr (k + 1) = z by rw [HST1.out]; omega)
              go_wp2_with (first | (go_at_call 25; refine HRM.out.mono ?_; rintro e w' ⟨rfl, rfl⟩) | (go_at_call 26; refine HCUT.out.mono ?_; rintro e w2 ⟨rfl, v2, vs2, hw2, hb2⟩; have hcy3 := HCY2.out w2 hb2) | fail)
              all_goals
                have hbw2 := HBW.out.trans hb2
                refine (HREC.out w2 v2 vs2 _ _ hw2 hbw2 (by first | exact .inr rfl | exact .inl (by omega)) (by omega)).mono ?_
                rintro e w3 ⟨rfl, v3, vs3, hw3, hb3⟩
                have hbw3 := hbw2.trans hb3
                have HPB2 := Lib.hid (HPB.out w3 v3 vs3 hw3 hbw3)
                clear hw2 hb2 hw3 hb3 hcy3
                go_wp2_with (first | (go_at_call 27; refine HPB2.out.mono ?_; rintro e w4 ⟨rfl, v4, vs4, hw4, hb4⟩) | fail)
                go_roundw
                case rel => exact ⟨k + 1, by omega, by go_num, by rw [HM.out], ⟨v4, vs4, hw4, hbw3.trans hb4⟩⟩
                case measure => simp [intOf]; omega
            · have HM := Lib.hid (show tr (k + 1) = t by rw [HST1.out]; omega)
              go_wp2_with (first | (go_at_call 25; refine HRM.out.mono ?_; rintro e w' ⟨rfl, rfl⟩) | (go_at_call 26; refine HCUT.out.mono ?_; rintro e w2 ⟨rfl, v2, vs2, hw2, hb2⟩; have hcy3 := HCY2.out w2 hb2) | fail)
              all_goals
                have hbw2 := HBW.out.trans hb2
                refine (HREC.out w2 v2 vs2 _ _ hw2 hbw2 (by first | exact .inr rfl | exact .inl (by omega)) (by omega)).mono ?_
                rintro e w3 ⟨rfl, v3, vs3, hw3, hb3⟩
                have hbw3 := hbw2.trans hb3
                have HPB2 := Lib.hid (HPB.out w3 v3 vs3 hw3 hbw3)
                clear hw2 hb2 hw3 hb3 hcy3
                go_wp2_with (first | (go_at_call 27; refine HPB2.out.mono ?_; rintro e w4 ⟨rfl, v4, vs4, hw4, hb4⟩) | fail)
                go_roundw
                case rel => exact ⟨k + 1, by omega, by go_num, by rw [HM.out], ⟨v4, vs4, hw4, hbw3.trans hb4⟩⟩
                case measure => simp [intOf]; omega
        · obtain rfl : k = u + 1 := by omega
          have hkI : ¬ ((u + 1 : Nat) : Int) < (u : Int) + 1 := by omega
          have HF := Lib.hid (HGO.out.trans HT.out)
          clear hW hbw hst ht
          go_wp2_with fail
          go_ret
          exact ⟨ret_int (by rw [HF.out]), v1, vs1, HW.out, HBW.out⟩
end Go.Proofs.Ythmifadnfaajbad
namespace Go.Proofs.Ythmifadnfaajbad
open Go.RowKit Go.WideShapes

theorem made_tabP (z : Value) (n : Nat) : madeCells #[z] n = tabV (fun _ => z) n := by
  apply Array.ext_getElem?
  intro i
  by_cases hi : i < n
  · rw [tabV_get _ hi]; simp [madeCells, hi, Nat.mod_one]
  · rw [Array.getElem?_eq_none (by rw [size_madeCells]; omega), Array.getElem?_eq_none (by simp [tabV]; omega)]
/-- a list of the call's own, being filled -/
structure Fill (w wr : World) (T : TypeId) (n : Nat) (xs : List Int) (k : Nat) : Prop where
  below : Below w.heap.size w wr
  row : wr.heap[w.heap.size]? = some (.cells (tabV (fun v => .int .i64 (if v < k then xs.getD v 0 else 0)) n) T (0, 0))
theorem Fill.step {w wr : World} {T : TypeId} {n k : Nat} {xs : List Int} {x : Int} (h : Fill w wr T n xs k) (hx : xs[k]? = some x) : Fill w (wr.setCell ⟨w.heap.size, k, none⟩ (.int .i64 x)) T n xs (k + 1) := by
  refine ⟨h.below.setCell (p := ⟨w.heap.size, k, none⟩) (Nat.le_refl _) _, ?_⟩
  rw [heap_set h.row, tabV_set]
  congr 3
  funext v
  unfold setN
  by_cases e : v = k
  · subst e; rw [if_pos rfl, if_pos (by omega), getD_of hx]
  · rw [if_neg e]
    show Value.int .i64 (if v < k then xs.getD v 0 else 0) = .int .i64 (if v < k + 1 then xs.getD v 0 else 0)
    by_cases g : v < k
    · rw [if_pos g, if_pos (by omega)]
    · rw [if_neg g, if_neg (by omega)]
theorem Fill.ints {w wr w' : World} {T : TypeId} {n : Nat} {xs : List Int} (h : Fill w wr T n xs n) (hl : xs.length = n) (hs : n ≤ 9223372036854775807) (hb : w'.heap[w.heap.size]? = wr.heap[w.heap.size]?) : IntsAt w' (fun b => b = w.heap.size) (some ⟨w.heap.size, 0, none⟩) n xs :=
  ⟨hl, hs, fun _ => ⟨_, 0, rfl, rfl, fun i x hx => by
    have hi : i < n := by rw [← hl]; exact (List.getElem?_eq_some_iff.1 hx).1
    rw [Nat.zero_add, cell_of_row _ _ _ _ _ _ (hb.trans h.row), tabV_get _ hi, if_pos hi, getD_of hx]⟩⟩
set_option maxRecDepth 100000 in
set_option maxHeartbeats 4000000 in
theorem fewestRolls_impl (a : Option Addr) (len cap : Nat) (xs : List Int) (R : Int) (w : World) (h : IntsAt w (· < w.heap.size) a len xs) :
    Calls Try.prog 8 #[.slice a len cap, .int .i64 R] w fun e w' => e = .returned (.int .i64 (rollsRes xs R)) ∧ Below w.heap.size w w' := by
  have HL := Lib.hid h.lenEq
  cases hv : cutsM xs R
  · have HR := Lib.hid (show rollsRes xs R = -1 by unfold rollsRes; rw [hv]; rfl)
    go_enter Try.func8, Try.ntmps8
    go_wp2_with (go_at_call 18; refine (vcutsI hv _ h).mono ?_; rintro e w' ⟨rfl, rfl⟩)
    go_ret
    exact ⟨ret_int HR.out.symm, Below.refl _ _⟩
  · obtain ⟨hR1, hR2, hl7, hT⟩ := cuts_get hv
    have HR := Lib.hid (show rollsRes xs R = goL R xs [] by unfold rollsRes; rw [hv, go_few hv]; rfl)
    rw [HL.out] at hl7
    have HXS := Lib.hid (show ∀ y ∈ xs, 0 ≤ y ∧ y ≤ 20 from fun y hy => by
      obtain ⟨i, hi⟩ := List.mem_iff_getElem?.1 hy
      have := hT i (List.getElem?_eq_some_iff.1 hi).1
      unfold lenT at this
      rw [getD_of hi] at this
      omega)
    have hmk := fun w => run_make_row' (P := Try.prog) 39 40 (.int .i64 0) 8 Try.underlying39 Try.infoPC rfl .i64 .i64 len (by omega) (by omega) w
    have HH := Lib.hid h
    have HV := Lib.hid hv
    clear hT h
    go_enter Try.func8, Try.ntmps8
    go_wp2_with (first | (go_at_call 18; refine (vcutsI HV.out _ HH.out).mono ?_; rintro e w' ⟨rfl, rfl⟩) | fail)
    clear hv hmk
    go_loopw [18] (fun i wr => ∃ k : Nat, k ≤ len ∧ i = .int .i64 k ∧ Fill w' wr 40 len xs k) (fun i _ => len - (intOf i).toNat)
    case atStart => exact ⟨0, Nat.zero_le _, rfl, (Below.refl _ _).alloc (Nat.le_refl _) _, by rw [heap_alloc_new, made_tabP]; rfl⟩
    case round =>
      obtain ⟨k, hk, rfl, hf⟩ := hrel
      have HF := Lib.hid hf
      by_cases hlt : k < len
      · have hkI : (k : Int) < (len : Int) := by omega
        obtain ⟨b, off, x, rfl, hx, hc⟩ := (HH.out.below hf.below).get hlt
        have HX := Lib.hid hx
        have hfz := frozen_row hf.row k
        have hcc : wr.cell? ⟨w'.heap.size, k, none⟩ = some (.int .i64 0) := by rw [cell_of_row _ _ _ _ _ _ hf.row, tabV_get _ hlt, if_neg (by omega)]
        clear hf hx
        go_wp2_with fail
        go_roundw
        case rel => exact ⟨k + 1, by omega, by go_num, HF.out.step HX.out⟩
        case measure => simp [intOf]; omega
      · obtain rfl : k = len := by omega
        have hkI : ¬ (k : Int) < (k : Int) := by omega
        have HROLL := Lib.hid (show RollsP (wr.alloc (.cells #[.int .i64 R, .slice none 0 0] 43)) wr.heap.size wr.heap.size R (.slice none 0 0) [] [] from
          ⟨heap_alloc_new _ _, World.ownsRow_nil _ _ _ _, fun i u hu => by simp at hu, fun i j u u' hu => by simp at hu⟩)
        have hlt := lt_heap hf.row
        have HX := Lib.hid ((hf.ints (w' := wr.alloc (.cells #[.int .i64 R, .slice none 0 0] 43)) HL.out (by omega) (Below.heap_alloc _ _ _ hlt)).to (S' := (· < wr.heap.size)) (fun b hb => ⟨by rw [hb]; exact hlt, rfl⟩))
        clear hf
        go_wp2_with fail
        refine (fewestP_any (B := wr.heap.size) (r := wr.heap.size) (R := R) (Nat.le_refl _) ⟨by omega, hR2⟩ xs _ _ _ [] 0 w'.heap.size 0 k k HROLL.out (by simp) RowsOk.nil (by rw [HL.out]; omega) (fun k hk => by simp at hk) HX.out (Nat.le_refl _) HXS.out).mono ?_
        rintro e w3 ⟨rfl, v3, vs3, _, hb3⟩
        have HB3 := Lib.hid ((HF.out.below.alloc HF.out.below.size (.cells #[.int .i64 R, .slice none 0 0] 43)).trans (hb3.mono HF.out.below.size))
        clear hb3
        go_wp2_with fail
        go_ret
        exact ⟨ret_int (by rw [HR.out]; rfl), HB3.out⟩
end Go.Proofs.Ythmifadnfaajbad
namespace Go.Proofs.Ythmifadnfaajbad
open Go.RowKit Go.WideShapes
theorem validCuts_impl (S : Nat → Prop) (a : Option Addr) (len cap : Nat) (xs : List Int) (R : Int) (w : World) (h : IntsAt w S a len xs) :
    Calls Try.prog 18 #[.slice a len cap, .int .i64 R] w (ValPost w (.bool (cutsM xs R))) :=
  (vCuts_impl S a len cap xs R w h).mono fun _ _ h => ⟨h.1, by rw [h.2]; exact Below.refl _ _⟩
theorem validCuts_X (a : Option Addr) (len cap : Nat) (xs : List Int) (R : Int) (w : World) (h : IntsAt w (· < w.heap.size) a len xs) :
    Calls Try.prog 18 #[.slice a len cap, .int .i64 R] w (ValPost w (.bool (cutsM xs R))) := validCuts_impl _ a len cap xs R w h
end Go.Proofs.Ythmifadnfaajbad
