import Derived.Test.YtjcbpnffmebihaaGreatDoorA17
import Derived.Test.YtjcbpnffmebihaaGreatDoorRows
import Derived.WalkKit
import Derived.LoopTactic
import Derived.Outline
import Derived.WalkSpells
import Derived.WalkLawsBesides
import Derived.ProofKit
import Derived.Lib.Hide
import Derived.Deep.RegionLaw
import Derived.Deep.AppendLies
import Derived.Deep.RegionHeld3
set_option linter.unusedVariables false
set_option linter.unusedSimpArgs false
namespace Go.Proofs.YtjcbpnffmebihaaGreatDoor
open Go.RowKit Go.WideShapes

theorem cut_at {T : List Int} {c : Int} (h : cutsM T c = true) (k : Nat) : 0 ≤ T.getD k 0 ∧ T.getD k 0 ≤ 20 := by
  obtain ⟨h1, h2, _, h4⟩ := cuts_get h
  rcases Nat.lt_or_ge k T.length with g | g
  · have := h4 k g; unfold lenT at this; omega
  · rw [getD_past g]; omega
theorem csum_range20 {T : List Int} (hT : ∀ k, 0 ≤ T.getD k 0 ∧ T.getD k 0 ≤ 20) (P : Nat → Bool) : ∀ n : Nat, 0 ≤ csum T P n ∧ csum T P n ≤ 20 * (n : Int)
  | 0 => by simp [csum]
  | n + 1 => by have := csum_range20 hT P n; have := hT n; rw [csum]; push_cast; split <;> omega
theorem load20_any (S : Nat → Prop) (a : Option Addr) (len cap : Nat) (T : List Int) (s : Nat) (w : World) (hx : IntsAt w S a len T) (hT : ∀ k, 0 ≤ T.getD k 0 ∧ T.getD k 0 ≤ 20) (hl : len ≤ 20) (hs : s ≤ 1048576) :
    Calls Tryz.prog 79 #[.slice a len cap, .int .i64 s] w fun e w' => e = .returned (.int .i64 (csum T (fun i => s.testBit i) len)) ∧ Drew w w' := by
  have HT := Lib.hid hT
  go_enter Tryz.func79, Tryz.ntmps79
  go_wp2_with fail
  go_loopw [5, 6] (fun o i wr => ∃ k : Nat, k ≤ len ∧ i = .int .i64 k ∧ o = .int .i64 (csum T (fun i => s.testBit i) k) ∧ Drew w wr) (fun _ i _ => len - (intOf i).toNat)
  case atStart => exact ⟨0, Nat.zero_le _, rfl, rfl, Drew.refl _⟩
  case round =>
    obtain ⟨k, hk, rfl, rfl, hdw⟩ := hrel
    by_cases hlt : k < len
    · have hxw := Drew.ints hx hdw
      obtain ⟨b, off, x, rfl, hxx, hc⟩ := hxw.get hlt
      have hxb := HT.out k
      have hcr := csum_range20 HT.out (fun i => s.testBit i) k
      rw [getD_of hxx] at hxb
      have HN := Lib.hid (show csum T (fun i => s.testBit i) (k + 1) = csum T (fun i => s.testBit i) k + bI s k * x by
        rw [csum, getD_of hxx]; unfold bI; split <;> simp)
      have HBT := Lib.hid (show ∀ z, Calls Tryz.prog 100 #[.int .i64 s, .int .i64 k] (wr.drewN z) (fun e w' => e = .returned (.int .i64 (bI s k)) ∧ ∃ q, w' = (wr.drewN z).drewN q) from fun z =>
        (bit_at s k hs (by omega) (wr.drewN z)).mono (fun e w' he => ⟨he.1, 0, by rw [← he.2]; rfl⟩))
      clear hxx hxw
      generalize csum T (fun i => s.testBit i) k = o at hcr HN
      have hbb := bI_bd s k
      generalize bI s k = bb at hbb HN HBT
      have hmb : 0 ≤ bb * x ∧ bb * x ≤ 20 := by
        have h1 := Int.mul_nonneg hbb.1 hxb.1
        have h2 := Int.mul_le_mul hbb.2 hxb.2 hxb.1 (by omega)
        omega
      have hlk : (k : Int) < (len : Int) := by omega
      have hw1 : IntKind.i64.wrap (bb * x) = bb * x := IntWalk.i64_in _ (by omega)
      have hw2 : IntKind.i64.wrap (o + bb * x) = o + bb * x := IntWalk.i64_in _ (by omega)
      go_wp2_with fail
      go_quiet ((go_at_call 100; exact Calls.quiet_of (HBT.out _)))
      go_wp2_with fail
      go_roundw
      case rel => exact ⟨k + 1, by omega, by go_num, by rw [HN.out], hdw.drew _⟩
      case measure => simp [intOf] <;> omega
    · obtain rfl : len = k := by omega
      have hdw2 := hdw
      go_wp2
      go_ret
      exact ⟨rfl, hdw2⟩
set_option maxRecDepth 100000 in
set_option maxHeartbeats 4000000 in
theorem rolls_any (a : Option Addr) (len cap : Nat) (T : List Int) (c : Int) (w : World) (hx : IntsAt w (· < w.heap.size) a len T) (hv : cutsM T c = true) :
    Calls Tryz.prog 59 #[.slice a len cap, .int .i64 c] w (NewOwn w (tabP T (zerosN len) c (2 ^ len - 1))) := by
  have HL := Lib.hid hx.lenEq
  obtain ⟨hR1, hR2, hl7, hT1⟩ := cuts_get hv
  have hl7 : len ≤ 7 := by have := HL.out; omega
  have HA := Lib.hid (show (zerosN len).length = len by simp [zerosN])
  have HT := Lib.hid (fun k => cut_at hv k)
  have HNN := Lib.hid (fun s => st_nn (T := T) (n := len) (c := c) (by omega) (fun k hk => (hT1 k hk).2) s s (Nat.le_refl _))
  clear hv hT1
  have HPL := Lib.hid (powV_eq len (by omega))
  have hpb : 1 ≤ 2 ^ len ∧ 2 ^ len ≤ 128 := ⟨Nat.pow_pos (by omega), Nat.pow_le_pow_right (n := 2) (by omega) hl7⟩
  generalize 2 ^ len = P at hpb HPL ⊢
  go_enter Tryz.func59, Tryz.ntmps59
  go_wp2_with fail
  go_loopw [5, 6] (fun v i wr => ∃ (k cp : Nat) (ax : Option Addr), 1 ≤ k ∧ k ≤ P ∧ i = .int .i64 k ∧ v = .slice ax k cp ∧ wr.ownsRow w.heap.size 3 1 v k ((tabP T (zerosN len) c (k - 1)).map (.int .i64)) ∧ Below w.heap.size w wr) (fun _ i _ => P - (intOf i).toNat)
  case atStart => exact ⟨1, 1, _, Nat.le_refl _, hpb.1, rfl, rfl, own_lit w [0] 1 rfl (by omega), (Below.refl _ _).alloc (Nat.le_refl _) _⟩
  case round =>
    obtain ⟨k, cp, ax, hk0, hk, rfl, rfl, hown, hB⟩ := hrel
    obtain ⟨wo, rfl⟩ : ∃ wo : World, wo = wr := ⟨_, rfl⟩
    have HOWN := Lib.hid hown
    have HB := Lib.hid hB
    clear hown hB
    by_cases hlt : k < P
    · have hlti : (k : Int) < (P : Int) := by omega
      have HNT := Lib.hid (fun r (h : r < k) => (show 0 ≤ (tabP T (zerosN len) c (k - 1)).getD r 0 by rw [tabP_at (show r ≤ k - 1 by omega)]; exact HNN.out r))
      have HST := Lib.hid (tabP_step T (zerosN len) c hk0)
      have HTB := Lib.hid (fun r (h : r < k) => tab_bd (T := T) (A := zerosN len) (c := c) h)
      have HSB := Lib.hid (fun R (h : R ≤ k) => scan_bd (T := T) (A := zerosN len) (c := c) h)
      have HLEN := Lib.hid (show (tabP T (zerosN len) c (k - 1)).length = k by rw [tabP_len]; omega)
      generalize tabP T (zerosN len) c (k - 1) = t at *
      have HN := Lib.hid (show nxtP T (zerosN len) c t k = scanP T c t k k by unfold nxtP; rw [if_pos (zeros_clo _ _ _)])
      go_wp2_with fail
      refine (power_all len (by omega) wo).mono ?_
      rintro e w' ⟨rfl, rfl⟩
      rw [HPL.out]
      go_wp2_with fail
      go_loopw [7, 8] (fun b r wr => ∃ q : Nat, q ≤ k ∧ r = .int .i64 q ∧ b = .int .i64 (scanP T c t k q) ∧ Drew wo wr) (fun _ r _ => k - (intOf r).toNat)
      case atStart => exact ⟨0, Nat.zero_le _, rfl, rfl, Drew.refl _⟩
      case round =>
        obtain ⟨q, hq, rfl, rfl, hdw⟩ := hrel
        by_cases hqk : q < k
        · have hqi : (q : Int) < (k : Int) := by omega
          have hty : IntsAt wr (· < wr.heap.size) (ax) k t := by
            obtain ⟨z, rfl⟩ := hdw; exact own_low (own_drewN HOWN.out z) (by omega)
          obtain ⟨b, off, x, rfl, hxx, hcell⟩ := hty.get hqk
          have hxb := HTB.out q hqk
          have hxn := HNT.out q hqk
          have hsb := HSB.out q hq
          rw [getD_of hxx] at hxb hxn
          have HS := Lib.hid (show scanP T c t k (q + 1) = if okR T c t k q ∧ (scanP T c t k q < 0 ∨ x + 1 < scanP T c t k q) then x + 1 else scanP T c t k q by rw [scanP, getD_of hxx])
          have HO := Lib.hid (show okR T c t k q ↔ q &&& k = q ∧ 0 ≤ x ∧ csum T (fun i => (dif k q).testBit i) len ≤ c by unfold okR; rw [getD_of hxx, HL.out])
          have EA := Lib.hid (i_and q k (by omega) (by omega))
          have EN := Lib.hid (i_not k q (by omega) (by omega))
          have hdl := dif_le k q
          have hlb := csum_range20 HT.out (fun i => (dif k q).testBit i) len
          have HLD := Lib.hid (show ∀ w1, IntsAt w1 (· < w.heap.size) a len T → Calls Tryz.prog 79 #[.slice a len cap, .int .i64 (dif k q : Nat)] w1 (fun e w' => e = .returned (.int .i64 (csum T (fun i => (dif k q).testBit i) len)) ∧ Drew w1 w') from fun w1 h1 => load20_any _ a len cap T (dif k q) w1 h1 HT.out (by omega) (by omega))
          have HX1 := Lib.hid (Drew.ints (hx.below HB.out) hdw)
          clear hxx hty
          generalize scanP T c t k q = sv at hsb HS
          generalize csum T (fun i => (dif k q).testBit i) len = L at hlb HLD HO
          by_cases h1 : q &&& k = q
          · have e1 : (bits .and .i64 (q : Int) (k : Int) == (q : Int)) = true := by rw [EA.out, h1]; simp
            by_cases h2 : 0 ≤ x
            · by_cases h3 : L ≤ c
              · have HK := Lib.hid (HO.out.mpr ⟨h1, h2, h3⟩)
                by_cases h4 : sv < 0
                · have HS := Lib.hid (HS.out.trans (if_pos ⟨HK.out, .inl h4⟩))
                  go_wp2_with fail
                  rw [EN.out]
                  refine (HLD.out wr HX1.out).mono ?_
                  rintro e w' ⟨rfl, hdw2⟩
                  have HDW := Lib.hid (drew_two hdw hdw2)
                  have hcell2 : w'.cell? ⟨b, off + q, none⟩ = some (.int .i64 x) := by obtain ⟨z, rfl⟩ := hdw2; exact hcell
                  clear hcell
                  go_wp2_with fail
                  go_roundw
                  case rel => exact ⟨q + 1, by omega, by go_num, by rw [HS.out], HDW.out⟩
                  case measure => simp [intOf] <;> omega
                · by_cases h5 : x + 1 < sv
                  · have HS := Lib.hid (HS.out.trans (if_pos ⟨HK.out, .inr h5⟩))
                    go_wp2_with fail
                    rw [EN.out]
                    refine (HLD.out wr HX1.out).mono ?_
                    rintro e w' ⟨rfl, hdw2⟩
                    have HDW := Lib.hid (drew_two hdw hdw2)
                    have hcell2 : w'.cell? ⟨b, off + q, none⟩ = some (.int .i64 x) := by obtain ⟨z, rfl⟩ := hdw2; exact hcell
                    clear hcell
                    go_wp2_with fail
                    go_roundw
                    case rel => exact ⟨q + 1, by omega, by go_num, by rw [HS.out], HDW.out⟩
                    case measure => simp [intOf] <;> omega
                  · have HS := Lib.hid (HS.out.trans (if_neg (fun h => h.2.elim h4 h5)))
                    go_wp2_with fail
                    rw [EN.out]
                    refine (HLD.out wr HX1.out).mono ?_
                    rintro e w' ⟨rfl, hdw2⟩
                    have HDW := Lib.hid (drew_two hdw hdw2)
                    have hcell2 : w'.cell? ⟨b, off + q, none⟩ = some (.int .i64 x) := by obtain ⟨z, rfl⟩ := hdw2; exact hcell
                    clear hcell
                    go_wp2_with fail
                    go_roundw
                    case rel => exact ⟨q + 1, by omega, by go_num, by rw [HS.out], HDW.out⟩
                    case measure => simp [intOf] <;> omega
              · have HS := Lib.hid (HS.out.trans (if_neg (fun h => h3 (HO.out.mp h.1).2.2)))
                go_wp2_with fail
                rw [EN.out]
                refine (HLD.out wr HX1.out).mono ?_
                rintro e w' ⟨rfl, hdw2⟩
                have HDW := Lib.hid (drew_two hdw hdw2)
                go_wp2_with fail
                go_roundw
                case rel => exact ⟨q + 1, by omega, by go_num, by rw [HS.out], HDW.out⟩
                case measure => simp [intOf] <;> omega
            · exact absurd hxn h2
          · have e1 : (bits .and .i64 (q : Int) (k : Int) == (q : Int)) = false := by rw [EA.out]; simp; omega
            have HS := Lib.hid (HS.out.trans (if_neg (fun h => h1 (HO.out.mp h.1).1)))
            go_wp2_with fail
            go_roundw
            case rel => exact ⟨q + 1, by omega, by go_num, by rw [HS.out], hdw⟩
            case measure => simp [intOf] <;> omega
        · obtain rfl : k = q := by omega
          obtain ⟨z, rfl⟩ := hdw
          have HO9 := Lib.hid (own_drewN HOWN.out z)
          have HB9 := Lib.hid (HB.out.trans (Drew.below (⟨z, rfl⟩ : Drew wo (wo.drewN z)) w.heap.size))
          clear HOWN HB
          generalize wo.drewN z = w5 at *
          rw [← HN.out]
          go_wp2_with (at_builtin; refine wpApp1 rfl _ _ rfl w.heap.size _ _ _ _ _ rfl HO9.out rfl HB9.out.size (by omega) ?_)
          intro a6 c6 w6 hown hc6 hgr
          have HO6 := Lib.hid hown
          have HG6 := Lib.hid hgr
          clear hown hgr
          go_wp2
          go_roundw
          case rel => exact ⟨k + 1, c6, a6, by omega, by omega, by go_num, rfl, by rw [Nat.add_sub_cancel, HST.out]; exact own_snoc HO6.out, HB9.out.grown HG6.out HB9.out.size (own_block HO9.out)⟩
          case measure => simp [intOf] <;> omega
    · obtain rfl : P = k := by omega
      go_wp2_with fail
      refine (power_all len (by omega) wo).mono ?_
      rintro e w' ⟨rfl, rfl⟩
      rw [HPL.out]
      go_wp2_with fail
      go_ret
      exact ⟨_, _, _, rfl, by omega, HOWN.out, HB.out⟩
theorem inRC {lo hi n : Int} {b : Bool} (h : inB lo hi n = b) (w : World) : Calls Tryz.prog 54 #[.int .i64 n, .int .i64 lo, .int .i64 hi] w fun e w' => e = .returned (.bool b) ∧ w = w' := by
  subst h; exact inRange_any n lo hi w
set_option maxRecDepth 100000 in
set_option maxHeartbeats 2000000 in
theorem vCuts_spec (S : Nat → Prop) (a : Option Addr) (len cap : Nat) (xs : List Int) (R : Int) (w : World) (h : IntsAt w S a len xs) :
    Calls Tryz.prog 42 #[.slice a len cap, .int .i64 R] w fun e w' => e = .returned (.bool (cutsM xs R)) ∧ w = w' := by
  have hs := h.small
  have HL := Lib.hid h.lenEq
  go_enter Tryz.func42, Tryz.ntmps42
  go_wp2_with fail
  go_loop [5] (fun i => ∃ k : Nat, k ≤ len ∧ i = .int .i64 k ∧ allIn 1 R (xs.take k) = true) (fun i => len - (intOf i).toNat)
  case atStart => exact ⟨0, Nat.zero_le _, rfl, rfl⟩
  case round =>
    obtain ⟨k, hk, rfl, ha⟩ := hrel
    have HA := Lib.hid ha
    clear ha
    by_cases hlt : k < len
    · have hkI : (k : Int) < (len : Int) := by omega
      obtain ⟨b, off, x, rfl, hx, hc⟩ := h.get hlt
      have HX := Lib.hid hx
      clear hx
      cases hq : inB 1 R x
      · have HF := Lib.hid (show cutsM xs R = false by unfold cutsM; rw [allIn_false HX.out hq]; rfl)
        go_wp2_with (go_at_call 54; refine (inRC hq _).mono ?_; rintro e w' ⟨rfl, rfl⟩)
        go_ret
        exact ⟨ret_bool HF.out.symm, rfl⟩
      · go_wp2_with (go_at_call 54; refine (inRC hq _).mono ?_; rintro e w' ⟨rfl, rfl⟩)
        go_round
        case rel => exact ⟨k + 1, by omega, by go_num, allIn_step HX.out HA.out hq⟩
        case measure => simp [intOf]; omega
    · obtain rfl : k = len := by omega
      have hkI : ¬ (k : Int) < (k : Int) := by omega
      have ha := HA.out
      rw [List.take_of_length_le (by rw [HL.out]; omega)] at ha
      cases h1 : inB 1 20 R
      · have HF := Lib.hid (show cutsM xs R = false by unfold cutsM; rw [h1, ha]; rfl)
        clear ha
        go_wp2_with (go_at_call 54; refine (inRC h1 _).mono ?_; rintro e w' ⟨rfl, rfl⟩)
        go_ret
        exact ⟨ret_bool HF.out.symm, rfl⟩
      · have HF := Lib.hid (show cutsM xs R = decide ((k : Int) ≤ 7) by unfold cutsM; rw [h1, ha, HL.out]; simp; omega)
        clear ha
        go_wp2_with (go_at_call 54; refine (inRC h1 _).mono ?_; rintro e w' ⟨rfl, rfl⟩)
        go_ret
        exact ⟨ret_bool (by rw [HF.out]), rfl⟩
theorem vcuts {S : Nat → Prop} {a : Option Addr} {len cap : Nat} {xs : List Int} {R : Int} {b : Bool} (hb : cutsM xs R = b) (w : World) (h : IntsAt w S a len xs) : Calls Tryz.prog 42 #[.slice a len cap, .int .i64 R] w fun e w' => e = .returned (.bool b) ∧ w = w' := by
  subst hb; exact vCuts_spec S a len cap xs R w h
/-- what FewestRolls answers -/
def rollsRes (xs : List Int) (R : Int) : Int := if cutsM xs R then fewRl xs R else -1
set_option maxRecDepth 100000 in
set_option maxHeartbeats 2000000 in
theorem fewestRolls_spec (a : Option Addr) (len cap : Nat) (xs : List Int) (R : Int) (w : World) (h : IntsAt w (· < w.heap.size) a len xs) :
    Calls Tryz.prog 43 #[.slice a len cap, .int .i64 R] w (fun e w' => e = .returned (.int .i64 (rollsRes xs R)) ∧ Below w.heap.size w w') := by
  have HT := Lib.hid h.lenEq
  cases hv : cutsM xs R
  · have HR := Lib.hid (show rollsRes xs R = -1 by unfold rollsRes; rw [hv]; rfl)
    go_enter Tryz.func43, Tryz.ntmps43
    go_wp2_with (go_at_call 42; refine (vcuts hv _ h).mono ?_; rintro e w' ⟨rfl, rfl⟩)
    go_ret
    exact ⟨ret_int HR.out.symm, Below.refl _ _⟩
  · have HR := Lib.hid (show rollsRes xs R = fewRl xs R by unfold rollsRes; rw [hv]; rfl)
    go_enter Tryz.func43, Tryz.ntmps43
    go_wp2_with (first | (go_at_call 42; refine (vcuts hv _ h).mono ?_; rintro e w' ⟨rfl, rfl⟩) | fail)
    refine (rolls_any a len cap xs R w h hv).mono ?_
    rintro e w2 ⟨a3, l3, c3, rfl, hl3, own3, hb3⟩
    have hlen : l3 = 2 ^ len := by have := own3.1; simp [tabP_len] at this; have := Nat.two_pow_pos len; omega
    have hpos := Nat.two_pow_pos len
    have hti := own_low own3 hl3
    obtain ⟨b, off, x, rfl, hxx, hcell⟩ := hti.get (k := l3 - 1) (by omega)
    have HX := Lib.hid (show x = fewRl xs R by rw [← getD_of hxx, hlen]; unfold fewRl fewM; rw [HT.out]; rfl)
    have HB := Lib.hid hb3
    have e1 : (l3 : Int) - 1 = ((l3 - 1 : Nat) : Int) := by omega
    have hi3 : ((l3 - 1 : Nat) : Int) < (l3 : Int) := by omega
    clear hxx hti own3 hb3 hlen
    go_wp2_with fail
    go_ret
    exact ⟨ret_int (by rw [HR.out, HX.out]), HB.out⟩
end Go.Proofs.YtjcbpnffmebihaaGreatDoor
namespace Go.Proofs.YtjcbpnffmebihaaGreatDoor
open Go.RowKit Go.WideShapes

/-- v is a slice of the call's own, of rows of its own -/
def OwnRowsV (w : World) (B : Nat) (v : Value) (k : Nat) (rows : List (List Int)) : Prop := ∃ us : List Value, w.ownsRow B 35 1 v k us ∧ rows.length = k ∧
  ∀ (q : Nat) (u : Value), us[q]? = some u → ∃ (a : Option Addr) (l c : Nat) (r : List Int), rows[q]? = some r ∧ u = .slice a l c ∧ l ≤ c ∧ l ≤ 1048576 ∧ w.ownsRow B 3 1 u l (r.map (.int .i64))
theorem OwnRowsV.rows {w : World} {B k : Nat} {a : Option Addr} {cap : Nat} {rows : List (List Int)} (h : OwnRowsV w B (.slice a k cap) k rows) (hk : k ≤ 1048576) :
    RowsAt w (fun b => B ≤ b ∧ b < w.heap.size) a k rows := by
  obtain ⟨us, h1, h2, h3⟩ := h
  have hul : us.length = k := by have := h1.1; simpa using this
  refine ⟨h2, by omega, fun h0 => ?_⟩
  have hc := fun g hg => h1.cells (g := g) hg
  have hlt := h1.lt
  rcases h1.2 with ⟨e1, e2⟩ | ⟨g, cp, cur, e1, e2, _⟩
  · omega
  · injection e1 with e3 _ _
    subst e3
    refine ⟨g, 0, rfl, hlt g rfl, fun i r hr => ?_⟩
    have hi : i < us.length := by have := (List.getElem?_eq_some_iff.1 hr).1; omega
    obtain ⟨a', l, c, r', hr', hu, hlc, hl, hown⟩ := h3 i us[i] (List.getElem?_eq_getElem hi)
    rw [hr] at hr'
    injection hr' with hr'
    subst hr'
    rw [hu] at hown
    obtain ⟨a2, c2, e4, _, hints⟩ := own_ints hown (by omega)
    injection e4 with e5 _ _
    subst e5
    refine ⟨a', l, c, ?_, hlc, hints⟩
    have := hc g rfl i us[i] (List.getElem?_eq_getElem hi)
    rw [hu, add_plain] at this
    exact this
theorem OwnRowsV.push {w w' : World} {B k l : Nat} {v v' : Value} {a : Option Addr} {c : Nat} {rows : List (List Int)} {r : List Int} {us : List Value} (hv : w.ownsRow B 35 1 v k us) (hl : rows.length = k)
    (hus : ∀ (q : Nat) (u : Value), us[q]? = some u → ∃ (a : Option Addr) (l c : Nat) (r : List Int), rows[q]? = some r ∧ u = .slice a l c ∧ l ≤ c ∧ l ≤ 1048576 ∧ w.ownsRow B 3 1 u l (r.map (.int .i64)))
    (hu : w.ownsRow B 3 1 (.slice a l c) l (r.map (.int .i64))) (hlc : l ≤ c) (hl2 : l ≤ 1048576) (hv' : w'.ownsRow B 35 1 v' (k + 1) (us ++ [.slice a l c])) (hg : w.grownBy w' v.ownBlock) : OwnRowsV w' B v' (k + 1) (rows ++ [r]) := by
  have hul : us.length = k := by have := hv.1; simpa using this
  refine ⟨_, hv', by simp [hl], fun q u hq => ?_⟩
  rcases Nat.lt_or_ge q us.length with h | h
  · rw [List.getElem?_append_left h] at hq
    obtain ⟨a', l', c', r', h1, h2, h3, h4, h5⟩ := hus q u hq
    exact ⟨a', l', c', r', by rw [List.getElem?_append_left (by omega)]; exact h1, h2, h3, h4, h5.kept hg (own_ne h5 hv (by decide))⟩
  · rw [List.getElem?_append_right h] at hq
    have hq0 : q - us.length = 0 := by
      have := (List.getElem?_eq_some_iff.1 hq).1; simp at this; omega
    rw [hq0] at hq
    simp only [List.getElem?_cons_zero, Option.some.injEq] at hq
    subst hq
    exact ⟨a, l, c, r, by rw [List.getElem?_append_right (by omega), show q - rows.length = 0 by omega]; rfl, rfl, hlc, hl2, hu.kept hg (own_ne hu hv (by decide))⟩
end Go.Proofs.YtjcbpnffmebihaaGreatDoor
