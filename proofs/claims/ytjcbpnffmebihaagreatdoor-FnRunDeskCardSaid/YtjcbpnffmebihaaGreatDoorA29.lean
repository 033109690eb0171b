import Derived.Test.YtjcbpnffmebihaaGreatDoorA27
import Derived.Test.YtjcbpnffmebihaaGreatDoorRows
import Derived.ProofKit
import Derived.Lib.Hide
import Derived.WalkKit
import Derived.LoopTactic
import Derived.Outline
import Derived.WalkSpells
import Derived.WalkLawsBesides
import Derived.IntWalk
import Derived.Deep.RegionHeld3
set_option linter.unusedVariables false
set_option linter.unusedSimpArgs false
namespace Go.Proofs.YtjcbpnffmebihaaGreatDoor
open Go.RowKit Go.WideShapes

/-- a given order fits the pairs -/
theorem fitOne_any (S T : Nat → Prop) (a : Option Addr) (len cap : Nat) (rows : List (List Int)) (a2 : Option Addr) (len2 cap2 : Nat) (o : List Int) (w : World) (h : RowsAt w S a len rows) (g : IntsAt w T a2 len2 o) (hc : len ≤ cap) :
    Calls Tryz.prog 146 #[.slice a len cap, .iface 137 (.slice a2 len2 cap2)] w fun e w' => e = .returned (.bool (spanFine rows o)) ∧ Drew w w' := by
  have HL := Lib.hid h.lenEq
  have ta1 : ∀ w : World, (Instr.typeAssert (.iface 137 (.slice a2 len2 cap2)) 177 137 true).run Tryz.prog w = .ok (.tuple #[.slice a2 len2 cap2, .bool true]) w := fun _ => by kernel_rfl
  cases hp : pairsM rows
  · have HF := Lib.hid (show spanFine rows o = false by unfold spanFine; rw [hp]; rfl)
    go_enter Tryz.func146, Tryz.ntmps146
    go_wp2_with fail
    refine (validPairs_impl S a len cap rows w h hc).mono ?_
    rintro e w' ⟨rfl, hdw⟩
    rw [hp]
    go_wp2_with fail
    go_ret
    exact ⟨ret_bool HF.out.symm, hdw⟩
  · have hl8 : len ≤ 8 := by have := (pairs_get hp).1; have := HL.out; omega
    have HF := Lib.hid (show spanFine rows o = orderM o len by unfold spanFine; rw [HL.out, hp, Bool.true_and])
    go_enter Tryz.func146, Tryz.ntmps146
    go_wp2_with fail
    refine (validPairs_impl S a len cap rows w h hc).mono ?_
    rintro e w' ⟨rfl, hdw⟩
    rw [hp]
    go_wp2_with fail
    refine (isOrder_any T a2 len2 cap2 o len _ (Drew.ints g hdw) hl8).mono ?_
    rintro e w' ⟨rfl, rfl⟩
    go_wp2_with fail
    go_ret
    exact ⟨ret_bool HF.out.symm, hdw⟩
end Go.Proofs.YtjcbpnffmebihaaGreatDoor
namespace Go.Proofs.YtjcbpnffmebihaaGreatDoor
open Go.RowKit Go.WideShapes

theorem ruleI_order {rows : List (List Int)} : orderP (ruleI rows rows.length) rows.length := by
  have hp := ruleT_perm (ta rows) (tb rows) rows.length
  refine ⟨⟨fun x hx => ?_, ?_⟩, ruleI_len _ _⟩
  · obtain ⟨y, hy, rfl⟩ := List.mem_map.1 hx
    have := hp.mem_iff.1 hy
    simp at this
    omega
  · exact List.pairwise_map.2 ((hp.symm.nodup List.nodup_range).imp (fun {x y} hne e => hne (by omega)))
theorem rule_fine {rows : List (List Int)} (h : pairsM rows = true) : spanFine rows (ruleRes rows) = true := by
  unfold spanFine
  rw [h, ruleRes_yes h, Bool.true_and]
  exact decide_eq_true ruleI_order
end Go.Proofs.YtjcbpnffmebihaaGreatDoor
namespace Go.Proofs.YtjcbpnffmebihaaGreatDoor
open Go.RowKit Go.WideShapes

theorem IntsAt.drop1 {w : World} {S : Nat → Prop} {b off l : Nat} {y : Int} {ys : List Int} (h : IntsAt w S (some ⟨b, off, none⟩) (l + 1) (y :: ys)) : IntsAt w S (some ⟨b, off + 1, none⟩) l ys := by
  have hl := h.lenEq
  have hs := h.small
  obtain ⟨b', off', e, hb, hc⟩ := h.cells (by omega)
  injection e with e; injection e with e1 e2
  subst e1 e2
  exact ⟨by simpa using hl, by omega, fun _ => ⟨b, off + 1, rfl, hb, fun i x hx => by
    have := hc (i + 1) x (by simpa using hx)
    rwa [show off + (i + 1) = off + 1 + i by omega] at this⟩⟩
/-- the rolls lie somewhere, and nothing else has changed -/
def RollsNow (w : World) (B r : Nat) (R : Int) (rows : List (List Int)) (wr : World) : Prop := ∃ v vs, RollsP wr B r R v vs rows ∧ Below B w wr
set_option maxRecDepth 100000 in
set_option maxHeartbeats 4000000 in
theorem fewestP_any {B r : Nat} {R : Int} (hlow : B ≤ r) (hR : 0 ≤ R ∧ R ≤ 20) : ∀ (ys : List Int) (w : World) (v : Value) (vs : List Value) (rows : List (List Int)) (n b off len cap : Nat), RollsP w B r R v vs rows → B ≤ w.heap.size → RowsOk id rows n → n + ys.length ≤ 7 → NoEmpty rows → IntsAt w (· < B) (some ⟨b, off, none⟩) len ys → len ≤ cap → (∀ y ∈ ys, 0 ≤ y ∧ y ≤ 20) →
    Calls Tryz.prog 126 #[.pointer (some ⟨r, 0, none⟩), .slice (some ⟨b, off, none⟩) len cap] w fun e w' => e = .returned (.int .i64 (goL R ys (loadsOf id rows))) ∧ RollsNow w B r R rows w' := by
  intro ys
  induction ys with
  | nil =>
    intro w v vs rows n b off len cap h hB hok hn hne hx hc hy
    have hl : len = 0 := by simpa using hx.lenEq.symm
    subst hl
    obtain ⟨av, cv, hv, _⟩ := own_slice h.outer
    obtain ⟨_, c1, _⟩ := h.cells
    rw [hv] at c1
    have HH := Lib.hid h
    have HG := Lib.hid (show goL R [] (loadsOf id rows) = ((rows.length : Nat) : Int) by rw [goL, loads_len])
    clear h hv hok hne hx
    go_enter Tryz.func126, Tryz.ntmps126
    go_wp2_with fail
    go_ret
    exact ⟨ret_int HG.out.symm, v, vs, HH.out, Below.refl _ _⟩
  | cons y ys ih =>
    intro w v vs rows n b off len cap h hB hok hn hne hx hc hy
    obtain ⟨l, rfl⟩ : ∃ l, len = l + 1 := ⟨ys.length, by simpa using hx.lenEq.symm⟩
    have hyl : ys.length = l := by simpa using hx.lenEq
    have hlen := hok.len
    rw [List.length_cons, hyl] at hn
    obtain ⟨av, cv, hv, _⟩ := own_slice h.outer
    obtain ⟨_, c1, _⟩ := h.cells
    rw [hv] at c1
    have hy0 := hy y (by simp)
    have HYS := Lib.hid (fun y' (h : y' ∈ ys) => hy y' (by simp [h]))
    have HX := Lib.hid hx
    have HX1 := Lib.hid hx.drop1
    have HC := Lib.hid (fun (W : World) (hb : Below B w W) => show W.cell? ⟨b, off, none⟩ = some (.int .i64 y) from by
      obtain ⟨b', off', e, _, hc⟩ := (hx.below hb).cells (by omega)
      injection e with e; injection e with e1 e2
      subst e1 e2
      exact hc 0 y rfl)
    have HOK := Lib.hid hok
    have HNE := Lib.hid hne
    have HV := Lib.hid hv
    obtain ⟨u, hu⟩ : ∃ u, rows.length = u := ⟨_, rfl⟩
    rw [hu] at c1 hlen
    have HU := Lib.hid hu
    obtain ⟨L, hL⟩ : ∃ L, loadsOf id rows = L := ⟨_, rfl⟩
    have HL := Lib.hid hL
    have HLU := Lib.hid (show L.length = u by rw [← hL, loads_len, hu])
    rw [hL]
    have HGO := Lib.hid (show goL R (y :: ys) L = tryTo (fun k => goL R ys (putR L k y)) (fun k => hasR R L k y) (((u + (l + 1) : Nat) : Int)) (u + 1) by rw [goL, HLU.out, hyl])
    have HTB := Lib.hid (fun k => show tryTo (fun k => goL R ys (putR L k y)) (fun k => hasR R L k y) (((u + (l + 1) : Nat) : Int)) k ≤ 7 ∧ 0 ≤ tryTo (fun k => goL R ys (putR L k y)) (fun k => hasR R L k y) (((u + (l + 1) : Nat) : Int)) k from
      ⟨Int.le_trans (tryTo_le k).1 (by omega), by
        rcases tryTo_get (f := fun k => goL R ys (putR L k y)) (P := fun k => hasR R L k y) (b := ((u + (l + 1) : Nat) : Int)) k with e | ⟨j, _, _, e⟩
        · rw [e]; omega
        · rw [e]; exact (go_bd R ys _).1⟩)
    have HST := Lib.hid (show ∀ k, tryTo (fun k => goL R ys (putR L k y)) (fun k => hasR R L k y) (((u + (l + 1) : Nat) : Int)) (k + 1) = if hasR R L k y then min (tryTo (fun k => goL R ys (putR L k y)) (fun k => hasR R L k y) (((u + (l + 1) : Nat) : Int)) k) (goL R ys (putR L k y)) else tryTo (fun k => goL R ys (putR L k y)) (fun k => hasR R L k y) (((u + (l + 1) : Nat) : Int)) k from fun k => rfl)
    have HT0 := Lib.hid (show tryTo (fun k => goL R ys (putR L k y)) (fun k => hasR R L k y) (((u + (l + 1) : Nat) : Int)) 0 = ((u + (l + 1) : Nat) : Int) from rfl)
    generalize tryTo (fun k => goL R ys (putR L k y)) (fun k => hasR R L k y) (((u + (l + 1) : Nat) : Int)) = tr at HGO HTB HST HT0
    have HGB := Lib.hid (fun k => go_bd R ys (putR L k y))
    have HH := Lib.hid h
    have HIH := Lib.hid ih
    have HYL := Lib.hid hyl
    have hl0 : ¬ ((l + 1 : Nat) : Int) = 0 := by omega
    have hl2 : ((l : Int) + 1 == 0) = false := beq_false_of_ne (by omega)
    have hl1 : (l : Int) + 1 ≤ (cap : Int) := by omega
    clear h hv hok hne hx hy hu hL ih hyl
    obtain hcc | ⟨c, hcc⟩ : cap = 1 ∨ ∃ c, cap = c + 2 := by
      rcases Nat.lt_or_ge 1 cap with g | g
      · exact .inr ⟨cap - 2, by omega⟩
      · exact .inl (by omega)
    · have hl00 : l = 0 := by omega
      subst hcc
      subst hl00
      clear hl1 hc hl0 hl2
      replace hn : n + 1 ≤ 7 := hn
      go_enter Tryz.func126, Tryz.ntmps126
      go_wp2_with fail
      clear c1
      go_loopw [5, 29] (fun f i wr => ∃ k : Nat, k ≤ u + 1 ∧ i = .int .i64 k ∧ f = .int .i64 (tr k) ∧ RollsNow w B r R rows wr) (fun _ i _ => u + 1 - (intOf i).toNat)
      case atStart => exact ⟨0, Nat.zero_le _, rfl, by rw [HT0.out]; simp, v, vs, HH.out, Below.refl _ _⟩
      case round =>
        obtain ⟨k, hk, rfl, rfl, v1, vs1, hW, hbw⟩ := hrel
        obtain ⟨wo, rfl⟩ : ∃ wo : World, wo = wr := ⟨_, rfl⟩
        have hkb := HTB.out k
        have hcy := HC.out wo hbw
        have HW := Lib.hid hW
        have HBW := Lib.hid hbw
        have hst := HST.out k
        obtain ⟨t, ht⟩ : ∃ t, tr k = t := ⟨_, rfl⟩
        rw [ht] at hkb hst ⊢
        have HT := Lib.hid ht
        by_cases hlt : k < u + 1
        · have hkI : (k : Int) < (u : Int) + 1 := by omega
          have hku : k ≤ rows.length := by have := HU.out; omega
          have HRM := Lib.hid (hasRoomP_any hW HOK.out (by omega) hR hku y)
          rw [HL.out] at HRM
          cases hroom : hasR R L k y
          · rw [hroom] at hst HRM
            have HST1 := Lib.hid (show tr (k + 1) = t by rw [hst]; simp)
            clear hW hbw hst hroom ht
            go_wp2_with (first | (go_at_call 152; refine HRM.out.mono ?_; rintro e w' ⟨rfl, rfl⟩) | fail)
            go_roundw
            case rel =>
              exact ⟨k + 1, by omega, by go_num, by rw [HST1.out], ⟨v1, vs1, HW.out, HBW.out⟩⟩
            case measure => simp [intOf]; omega
          · rw [hroom] at hst HRM
            have hBo : B ≤ wo.heap.size := Nat.le_trans hB hbw.size
            have HCUT := Lib.hid (cutP_any hW hlow hBo HOK.out (by omega) hku y)
            have HOK2 := Lib.hid (HOK.out.put hku hy0)
            have HNE2 := Lib.hid (HNE.out.put (y := y) hku)
            have hgb := HGB.out k
            obtain ⟨z, hz⟩ : ∃ z, goL R ys (putR L k y) = z := ⟨_, rfl⟩
            rw [hz] at hst hgb
            have HZ := Lib.hid (show goL R ys (loadsOf id (putRow rows k y)) = z by rw [loads_put, HL.out]; exact hz)
            have HST1 := Lib.hid (show tr (k + 1) = min t z by rw [hst, if_pos rfl])
            have HREC := Lib.hid (fun (W : World) (v2 : Value) (vs2 : List Value) (off' c' : Nat) (h2 : RollsP W B r R v2 vs2 (putRow rows k y)) (hb : Below B w W) (ho : True) (hc : 0 ≤ c') => show Calls Tryz.prog 126 #[.pointer (some ⟨r, 0, none⟩), .slice (some ⟨b, off', none⟩) 0 c'] W fun e w' => e = .returned (.int .i64 z) ∧ RollsNow W B r R (putRow rows k y) w' from by
              have := HIH.out W v2 vs2 (putRow rows k y) (n + 1) b off' 0 c' h2 (Nat.le_trans hB hb.size) HOK2.out (by rw [HYL.out]; omega) HNE2.out (by
                exact ⟨HYL.out, by omega, fun h => by omega⟩) hc HYS.out
              rwa [HZ.out] at this)
            have HPB := Lib.hid (fun (W : World) (v2 : Value) (vs2 : List Value) (h2 : RollsP W B r R v2 vs2 (putRow rows k y)) (hb : Below B w W) => putBackP_any h2 hlow (Nat.le_trans hB hb.size) HOK2.out (by omega) hku HNE.out)
            have hcy2 := fun W (hb : Below B wo W) => HC.out W (HBW.out.trans hb)
            have HCY2 := Lib.hid hcy2
            clear hW hbw hst hroom ht hz hcy2
            by_cases hzt : z < t
            · have HM := Lib.hid (show tr (k + 1) = z by rw [HST1.out]; omega)
              go_wp2_with (first | (go_at_call 152; refine HRM.out.mono ?_; rintro e w' ⟨rfl, rfl⟩) | (go_at_call 153; refine HCUT.out.mono ?_; rintro e w2 ⟨rfl, v2, vs2, hw2, hb2⟩; have hcy3 := HCY2.out w2 hb2) | fail)
              all_goals
                have hbw2 := HBW.out.trans hb2
                refine (HREC.out w2 v2 vs2 _ _ hw2 hbw2 trivial (Nat.zero_le _)).mono ?_
                rintro e w3 ⟨rfl, v3, vs3, hw3, hb3⟩
                have hbw3 := hbw2.trans hb3
                have HPB2 := Lib.hid (HPB.out w3 v3 vs3 hw3 hbw3)
                clear hw2 hb2 hw3 hb3 hcy3
                go_wp2_with (first | (go_at_call 154; refine HPB2.out.mono ?_; rintro e w4 ⟨rfl, v4, vs4, hw4, hb4⟩) | fail)
                go_roundw
                case rel => exact ⟨k + 1, by omega, by go_num, by rw [HM.out], ⟨v4, vs4, hw4, hbw3.trans hb4⟩⟩
                case measure => simp [intOf]; omega
            · have HM := Lib.hid (show tr (k + 1) = t by rw [HST1.out]; omega)
              go_wp2_with (first | (go_at_call 152; refine HRM.out.mono ?_; rintro e w' ⟨rfl, rfl⟩) | (go_at_call 153; refine HCUT.out.mono ?_; rintro e w2 ⟨rfl, v2, vs2, hw2, hb2⟩; have hcy3 := HCY2.out w2 hb2) | fail)
              all_goals
                have hbw2 := HBW.out.trans hb2
                refine (HREC.out w2 v2 vs2 _ _ hw2 hbw2 trivial (Nat.zero_le _)).mono ?_
                rintro e w3 ⟨rfl, v3, vs3, hw3, hb3⟩
                have hbw3 := hbw2.trans hb3
                have HPB2 := Lib.hid (HPB.out w3 v3 vs3 hw3 hbw3)
                clear hw2 hb2 hw3 hb3 hcy3
                go_wp2_with (first | (go_at_call 154; refine HPB2.out.mono ?_; rintro e w4 ⟨rfl, v4, vs4, hw4, hb4⟩) | fail)
                go_roundw
                case rel => exact ⟨k + 1, by omega, by go_num, by rw [HM.out], ⟨v4, vs4, hw4, hbw3.trans hb4⟩⟩
                case measure => simp [intOf]; omega
        · obtain rfl : k = u + 1 := by omega
          have hkI : ¬ ((u + 1 : Nat) : Int) < (u : Int) + 1 := by omega
          have HF := Lib.hid (HGO.out.trans HT.out)
          clear hW hbw hst ht
          go_wp2_with fail
          go_ret
          exact ⟨ret_int (by rw [HF.out]), v1, vs1, HW.out, HBW.out⟩
    · subst hcc
      go_enter Tryz.func126, Tryz.ntmps126
      go_wp2_with fail
      clear c1
      go_loopw [5, 29] (fun f i wr => ∃ k : Nat, k ≤ u + 1 ∧ i = .int .i64 k ∧ f = .int .i64 (tr k) ∧ RollsNow w B r R rows wr) (fun _ i _ => u + 1 - (intOf i).toNat)
      case atStart => exact ⟨0, Nat.zero_le _, rfl, by rw [HT0.out]; simp, v, vs, HH.out, Below.refl _ _⟩
      case round =>
        obtain ⟨k, hk, rfl, rfl, v1, vs1, hW, hbw⟩ := hrel
        obtain ⟨wo, rfl⟩ : ∃ wo : World, wo = wr := ⟨_, rfl⟩
        have hkb := HTB.out k
        have hcy := HC.out wo hbw
        have HW := Lib.hid hW
        have HBW := Lib.hid hbw
        have hst := HST.out k
        obtain ⟨t, ht⟩ : ∃ t, tr k = t := ⟨_, rfl⟩
        rw [ht] at hkb hst ⊢
        have HT := Lib.hid ht
        by_cases hlt : k < u + 1
        · have hkI : (k : Int) < (u : Int) + 1 := by omega
          have hku : k ≤ rows.length := by have := HU.out; omega
          have HRM := Lib.hid (hasRoomP_any hW HOK.out (by omega) hR hku y)
          rw [HL.out] at HRM
          cases hroom : hasR R L k y
          · rw [hroom] at hst HRM
            have HST1 := Lib.hid (show tr (k + 1) = t by rw [hst]; simp)
            clear hW hbw hst hroom ht
            go_wp2_with (first | (go_at_call 152; refine HRM.out.mono ?_; rintro e w' ⟨rfl, rfl⟩) | fail)
            go_roundw
            case rel =>
              exact ⟨k + 1, by omega, by go_num, by rw [HST1.out], ⟨v1, vs1, HW.out, HBW.out⟩⟩
            case measure => simp [intOf]; omega
          · rw [hroom] at hst HRM
            have hBo : B ≤ wo.heap.size := Nat.le_trans hB hbw.size
            have HCUT := Lib.hid (cutP_any hW hlow hBo HOK.out (by omega) hku y)
            have HOK2 := Lib.hid (HOK.out.put hku hy0)
            have HNE2 := Lib.hid (HNE.out.put (y := y) hku)
            have hgb := HGB.out k
            obtain ⟨z, hz⟩ : ∃ z, goL R ys (putR L k y) = z := ⟨_, rfl⟩
            rw [hz] at hst hgb
            have HZ := Lib.hid (show goL R ys (loadsOf id (putRow rows k y)) = z by rw [loads_put, HL.out]; exact hz)
            have HST1 := Lib.hid (show tr (k + 1) = min t z by rw [hst, if_pos rfl])
            have HREC := Lib.hid (fun (W : World) (v2 : Value) (vs2 : List Value) (off' c' : Nat) (h2 : RollsP W B r R v2 vs2 (putRow rows k y)) (hb : Below B w W) (ho : l = 0 ∨ off' = off + 1) (hc : l ≤ c') => show Calls Tryz.prog 126 #[.pointer (some ⟨r, 0, none⟩), .slice (some ⟨b, off', none⟩) l c'] W fun e w' => e = .returned (.int .i64 z) ∧ RollsNow W B r R (putRow rows k y) w' from by
              have := HIH.out W v2 vs2 (putRow rows k y) (n + 1) b off' l c' h2 (Nat.le_trans hB hb.size) HOK2.out (by rw [HYL.out]; omega) HNE2.out (by
                rcases ho with h0 | h0
                · have := HYL.out
                  exact ⟨this, by omega, fun h => by omega⟩
                · rw [h0]; exact HX1.out.below hb) hc HYS.out
              rwa [HZ.out] at this)
            have HPB := Lib.hid (fun (W : World) (v2 : Value) (vs2 : List Value) (h2 : RollsP W B r R v2 vs2 (putRow rows k y)) (hb : Below B w W) => putBackP_any h2 hlow (Nat.le_trans hB hb.size) HOK2.out (by omega) hku HNE.out)
            have hcy2 := fun W (hb : Below B wo W) => HC.out W (HBW.out.trans hb)
            have HCY2 := Lib.hid hcy2
            clear hW hbw hst hroom ht hz hcy2
            by_cases hzt : z < t
            · have HM := Lib.hid (show tr (k + 1) = z by rw [HST1.out]; omega)
              go_wp2_with (first | (go_at_call 152; refine HRM.out.mono ?_; rintro e w' ⟨rfl, rfl⟩) | (go_at_call 153; refine HCUT.out.mono ?_; rintro e w2 ⟨rfl, v2, vs2, hw2, hb2⟩; have hcy3 := HCY2.out w2 hb2) | fail)
              all_goals
                have hbw2 := HBW.out.trans hb2
                refine (HREC.out w2 v2 vs2 _ _ hw2 hbw2 (by first | exact .inr rfl | exact .inl (by omega)) (by omega)).mono ?_
                rintro e w3 ⟨rfl, v3, vs3, hw3, hb3⟩
                have hbw3 := hbw2.trans hb3
                have HPB2 := Lib.hid (HPB.out w3 v3 vs3 hw3 hbw3)
                clear hw2 hb2 hw3 hb3 hcy3
                go_wp2_with (first | (go_at_call 154; refine HPB2.out.mono ?_; rintro e w4 ⟨rfl, v4, vs4, hw4, hb4⟩) | fail)
                go_roundw
                case rel => exact ⟨k + 1, by omega, by go_num, by rw [HM.out], ⟨v4, vs4, hw4, hbw3.trans hb4⟩⟩
                case measure => simp [intOf]; omega
            · have HM := Lib.hid (show tr (k + 1) = t by rw [HST1.out]; omega)
              go_wp2_with (first | (go_at_call 152; refine HRM.out.mono ?_; rintro e w' ⟨rfl, rfl⟩) | (go_at_call 153; refine HCUT.out.mono ?_; rintro e w2 ⟨rfl, v2, vs2, hw2, hb2⟩; have hcy3 := HCY2.out w2 hb2) | fail)
              all_goals
                have hbw2 := HBW.out.trans hb2
                refine (HREC.out w2 v2 vs2 _ _ hw2 hbw2 (by first | exact .inr rfl | exact .inl (by omega)) (by omega)).mono ?_
                rintro e w3 ⟨rfl, v3, vs3, hw3, hb3⟩
                have hbw3 := hbw2.trans hb3
                have HPB2 := Lib.hid (HPB.out w3 v3 vs3 hw3 hbw3)
                clear hw2 hb2 hw3 hb3 hcy3
                go_wp2_with (first | (go_at_call 154; refine HPB2.out.mono ?_; rintro e w4 ⟨rfl, v4, vs4, hw4, hb4⟩) | fail)
                go_roundw
                case rel => exact ⟨k + 1, by omega, by go_num, by rw [HM.out], ⟨v4, vs4, hw4, hbw3.trans hb4⟩⟩
                case measure => simp [intOf]; omega
        · obtain rfl : k = u + 1 := by omega
          have hkI : ¬ ((u + 1 : Nat) : Int) < (u : Int) + 1 := by omega
          have HF := Lib.hid (HGO.out.trans HT.out)
          clear hW hbw hst ht
          go_wp2_with fail
          go_ret
          exact ⟨ret_int (by rw [HF.out]), v1, vs1, HW.out, HBW.out⟩
end Go.Proofs.YtjcbpnffmebihaaGreatDoor
