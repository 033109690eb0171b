import Derived.Test.YthmifadnfaajbabM5
import Derived.Test.YthmifadnfaajbabM6
import Derived.Test.YthmifadnfaajbabRows
import Derived.WalkKit
import Derived.LoopTactic
import Derived.Outline
import Derived.WalkSpells
import Derived.WalkLawsBesides
import Derived.ProofKit
import Derived.Test.YthmifadnfaajbabM0
import Derived.Test.YthmifadnfaajbabM1
import Derived.Test.YthmifadnfaajbabM2
import Derived.Deep.RegionLaw
import Derived.Deep.AppendLies
namespace Go.Proofs.Ythmifadnfaajbab
open Go.RowKit Go.WideShapes

theorem cut_at {T : List Int} {c : Int} (h : cutsM T c = true) (k : Nat) : 0 ≤ T.getD k 0 ∧ T.getD k 0 ≤ 20 := by
  obtain ⟨h1, h2, _, h4⟩ := cuts_get h
  rcases Nat.lt_or_ge k T.length with g | g
  · have := h4 k g; unfold lenT at this; omega
  · rw [getD_past g]; omega
theorem csum_range20 {T : List Int} (hT : ∀ k, 0 ≤ T.getD k 0 ∧ T.getD k 0 ≤ 20) (P : Nat → Bool) : ∀ n : Nat, 0 ≤ csum T P n ∧ csum T P n ≤ 20 * (n : Int)
  | 0 => by simp [csum]
  | n + 1 => by have := csum_range20 hT P n; have := hT n; rw [csum]; push_cast; split <;> omega
theorem load20_any (S : Nat → Prop) (a : Option Addr) (len cap : Nat) (T : List Int) (s : Nat) (w : World) (hx : IntsAt w S a len T) (hT : ∀ k, 0 ≤ T.getD k 0 ∧ T.getD k 0 ≤ 20) (hl : len ≤ 20) (hs : s ≤ 1048576) :
    Calls Try.prog 38 #[.slice a len cap, .int .i64 s] w fun e w' => e = .returned (.int .i64 (csum T (fun i => s.testBit i) len)) ∧ Drew w w' := by
  have HT := Lib.hid hT
  go_enter Try.func38, Try.ntmps38
  go_wp2_with fail
  go_loopw [5, 6] (fun o i wr => ∃ k : Nat, k ≤ len ∧ i = .int .i64 k ∧ o = .int .i64 (csum T (fun i => s.testBit i) k) ∧ Drew w wr) (fun _ i _ => len - (intOf i).toNat)
  case atStart => exact ⟨0, Nat.zero_le _, rfl, rfl, Drew.refl _⟩
  case round =>
    obtain ⟨k, hk, rfl, rfl, hdw⟩ := hrel
    by_cases hlt : k < len
    · have hxw := Drew.ints hx hdw
      obtain ⟨b, off, x, rfl, hxx, hc⟩ := hxw.get hlt
      have hxb := HT.out k
      have hcr := csum_range20 HT.out (fun i => s.testBit i) k
      rw [getD_of hxx] at hxb
      have HN := Lib.hid (show csum T (fun i => s.testBit i) (k + 1) = csum T (fun i => s.testBit i) k + bI s k * x by
        rw [csum, getD_of hxx]; unfold bI; split <;> simp)
      have HBT := Lib.hid (show ∀ z, Calls Try.prog 35 #[.int .i64 s, .int .i64 k] (wr.drewN z) (fun e w' => e = .returned (.int .i64 (bI s k)) ∧ ∃ q, w' = (wr.drewN z).drewN q) from fun z =>
        (bit_at s k hs (by omega) (wr.drewN z)).mono (fun e w' he => ⟨he.1, 0, by rw [← he.2]; rfl⟩))
      clear hxx hxw
      generalize csum T (fun i => s.testBit i) k = o at hcr HN
      have hbb := bI_bd s k
      generalize bI s k = bb at hbb HN HBT
      have hmb : 0 ≤ bb * x ∧ bb * x ≤ 20 := by
        have h1 := Int.mul_nonneg hbb.1 hxb.1
        have h2 := Int.mul_le_mul hbb.2 hxb.2 hxb.1 (by omega)
        omega
      have hlk : (k : Int) < (len : Int) := by omega
      have hw1 : IntKind.i64.wrap (bb * x) = bb * x := IntWalk.i64_in _ (by omega)
      have hw2 : IntKind.i64.wrap (o + bb * x) = o + bb * x := IntWalk.i64_in _ (by omega)
      go_wp2_with fail
      go_quiet ((go_at_call 35; exact Calls.quiet_of (HBT.out _)))
      go_wp2_with fail
      go_roundw
      case rel => exact ⟨k + 1, by omega, by go_num, by rw [HN.out], hdw.drew _⟩
      case measure => simp [intOf] <;> omega
    · obtain rfl : len = k := by omega
      have hdw2 := hdw
      go_wp2
      go_ret
      exact ⟨rfl, hdw2⟩
set_option maxRecDepth 100000 in
set_option maxHeartbeats 4000000 in
theorem rolls_any (a : Option Addr) (len cap : Nat) (T : List Int) (c : Int) (w : World) (hx : IntsAt w (· < w.heap.size) a len T) (hv : cutsM T c = true) :
    Calls Try.prog 22 #[.slice a len cap, .int .i64 c] w (NewOwn w (tabP T (zerosN len) c (2 ^ len - 1))) := by
  have HL := Lib.hid hx.lenEq
  obtain ⟨hR1, hR2, hl7, hT1⟩ := cuts_get hv
  have hl7 : len ≤ 7 := by have := HL.out; omega
  have HA := Lib.hid (show (zerosN len).length = len by simp [zerosN])
  have HT := Lib.hid (fun k => cut_at hv k)
  have HNN := Lib.hid (fun s => st_nn (T := T) (n := len) (c := c) (by omega) (fun k hk => (hT1 k hk).2) s s (Nat.le_refl _))
  clear hv hT1
  have HPL := Lib.hid (powV_eq len (by omega))
  have hpb : 1 ≤ 2 ^ len ∧ 2 ^ len ≤ 128 := ⟨Nat.pow_pos (by omega), Nat.pow_le_pow_right (n := 2) (by omega) hl7⟩
  generalize 2 ^ len = P at hpb HPL ⊢
  go_enter Try.func22, Try.ntmps22
  go_wp2_with fail
  go_loopw [5, 6] (fun v i wr => ∃ (k cp : Nat) (ax : Option Addr), 1 ≤ k ∧ k ≤ P ∧ i = .int .i64 k ∧ v = .slice ax k cp ∧ wr.ownsRow w.heap.size 3 1 v k ((tabP T (zerosN len) c (k - 1)).map (.int .i64)) ∧ Below w.heap.size w wr) (fun _ i _ => P - (intOf i).toNat)
  case atStart => exact ⟨1, 1, _, Nat.le_refl _, hpb.1, rfl, rfl, own_lit w [0] 1 rfl (by omega), (Below.refl _ _).alloc (Nat.le_refl _) _⟩
  case round =>
    obtain ⟨k, cp, ax, hk0, hk, rfl, rfl, hown, hB⟩ := hrel
    obtain ⟨wo, rfl⟩ : ∃ wo : World, wo = wr := ⟨_, rfl⟩
    have HOWN := Lib.hid hown
    have HB := Lib.hid hB
    clear hown hB
    by_cases hlt : k < P
    · have hlti : (k : Int) < (P : Int) := by omega
      have HNT := Lib.hid (fun r (h : r < k) => (show 0 ≤ (tabP T (zerosN len) c (k - 1)).getD r 0 by rw [tabP_at (show r ≤ k - 1 by omega)]; exact HNN.out r))
      have HST := Lib.hid (tabP_step T (zerosN len) c hk0)
      have HTB := Lib.hid (fun r (h : r < k) => tab_bd (T := T) (A := zerosN len) (c := c) h)
      have HSB := Lib.hid (fun R (h : R ≤ k) => scan_bd (T := T) (A := zerosN len) (c := c) h)
      have HLEN := Lib.hid (show (tabP T (zerosN len) c (k - 1)).length = k by rw [tabP_len]; omega)
      generalize tabP T (zerosN len) c (k - 1) = t at *
      have HN := Lib.hid (show nxtP T (zerosN len) c t k = scanP T c t k k by unfold nxtP; rw [if_pos (zeros_clo _ _ _)])
      go_wp2_with fail
      refine (power_all len (by omega) wo).mono ?_
      rintro e w' ⟨rfl, rfl⟩
      rw [HPL.out]
      go_wp2_with fail
      go_loopw [7, 8] (fun b r wr => ∃ q : Nat, q ≤ k ∧ r = .int .i64 q ∧ b = .int .i64 (scanP T c t k q) ∧ Drew wo wr) (fun _ r _ => k - (intOf r).toNat)
      case atStart => exact ⟨0, Nat.zero_le _, rfl, rfl, Drew.refl _⟩
      case round =>
        obtain ⟨q, hq, rfl, rfl, hdw⟩ := hrel
        by_cases hqk : q < k
        · have hqi : (q : Int) < (k : Int) := by omega
          have hty : IntsAt wr (· < wr.heap.size) (ax) k t := by
            obtain ⟨z, rfl⟩ := hdw; exact own_low (own_drewN HOWN.out z) (by omega)
          obtain ⟨b, off, x, rfl, hxx, hcell⟩ := hty.get hqk
          have hxb := HTB.out q hqk
          have hxn := HNT.out q hqk
          have hsb := HSB.out q hq
          rw [getD_of hxx] at hxb hxn
          have HS := Lib.hid (show scanP T c t k (q + 1) = if okR T c t k q ∧ (scanP T c t k q < 0 ∨ x + 1 < scanP T c t k q) then x + 1 else scanP T c t k q by rw [scanP, getD_of hxx])
          have HO := Lib.hid (show okR T c t k q ↔ q &&& k = q ∧ 0 ≤ x ∧ csum T (fun i => (dif k q).testBit i) len ≤ c by unfold okR; rw [getD_of hxx, HL.out])
          have EA := Lib.hid (i_and q k (by omega) (by omega))
          have EN := Lib.hid (i_not k q (by omega) (by omega))
          have hdl := dif_le k q
          have hlb := csum_range20 HT.out (fun i => (dif k q).testBit i) len
          have HLD := Lib.hid (show ∀ w1, IntsAt w1 (· < w.heap.size) a len T → Calls Try.prog 38 #[.slice a len cap, .int .i64 (dif k q : Nat)] w1 (fun e w' => e = .returned (.int .i64 (csum T (fun i => (dif k q).testBit i) len)) ∧ Drew w1 w') from fun w1 h1 => load20_any _ a len cap T (dif k q) w1 h1 HT.out (by omega) (by omega))
          have HX1 := Lib.hid (Drew.ints (hx.below HB.out) hdw)
          clear hxx hty
          generalize scanP T c t k q = sv at hsb HS
          generalize csum T (fun i => (dif k q).testBit i) len = L at hlb HLD HO
          by_cases h1 : q &&& k = q
          · have e1 : (bits .and .i64 (q : Int) (k : Int) == (q : Int)) = true := by rw [EA.out, h1]; simp
            by_cases h2 : 0 ≤ x
            · by_cases h3 : L ≤ c
              · have HK := Lib.hid (HO.out.mpr ⟨h1, h2, h3⟩)
                by_cases h4 : sv < 0
                · have HS := Lib.hid (HS.out.trans (if_pos ⟨HK.out, .inl h4⟩))
                  go_wp2_with fail
                  rw [EN.out]
                  refine (HLD.out wr HX1.out).mono ?_
                  rintro e w' ⟨rfl, hdw2⟩
                  have HDW := Lib.hid (drew_two hdw hdw2)
                  have hcell2 : w'.cell? ⟨b, off + q, none⟩ = some (.int .i64 x) := by obtain ⟨z, rfl⟩ := hdw2; exact hcell
                  clear hcell
                  go_wp2_with fail
                  go_roundw
                  case rel => exact ⟨q + 1, by omega, by go_num, by rw [HS.out], HDW.out⟩
                  case measure => simp [intOf] <;> omega
                · by_cases h5 : x + 1 < sv
                  · have HS := Lib.hid (HS.out.trans (if_pos ⟨HK.out, .inr h5⟩))
                    go_wp2_with fail
                    rw [EN.out]
                    refine (HLD.out wr HX1.out).mono ?_
                    rintro e w' ⟨rfl, hdw2⟩
                    have HDW := Lib.hid (drew_two hdw hdw2)
                    have hcell2 : w'.cell? ⟨b, off + q, none⟩ = some (.int .i64 x) := by obtain ⟨z, rfl⟩ := hdw2; exact hcell
                    clear hcell
                    go_wp2_with fail
                    go_roundw
                    case rel => exact ⟨q + 1, by omega, by go_num, by rw [HS.out], HDW.out⟩
                    case measure => simp [intOf] <;> omega
                  · have HS := Lib.hid (HS.out.trans (if_neg (fun h => h.2.elim h4 h5)))
                    go_wp2_with fail
                    rw [EN.out]
                    refine (HLD.out wr HX1.out).mono ?_
                    rintro e w' ⟨rfl, hdw2⟩
                    have HDW := Lib.hid (drew_two hdw hdw2)
                    have hcell2 : w'.cell? ⟨b, off + q, none⟩ = some (.int .i64 x) := by obtain ⟨z, rfl⟩ := hdw2; exact hcell
                    clear hcell
                    go_wp2_with fail
                    go_roundw
                    case rel => exact ⟨q + 1, by omega, by go_num, by rw [HS.out], HDW.out⟩
                    case measure => simp [intOf] <;> omega
              · have HS := Lib.hid (HS.out.trans (if_neg (fun h => h3 (HO.out.mp h.1).2.2)))
                go_wp2_with fail
                rw [EN.out]
                refine (HLD.out wr HX1.out).mono ?_
                rintro e w' ⟨rfl, hdw2⟩
                have HDW := Lib.hid (drew_two hdw hdw2)
                go_wp2_with fail
                go_roundw
                case rel => exact ⟨q + 1, by omega, by go_num, by rw [HS.out], HDW.out⟩
                case measure => simp [intOf] <;> omega
            · exact absurd hxn h2
          · have e1 : (bits .and .i64 (q : Int) (k : Int) == (q : Int)) = false := by rw [EA.out]; simp; omega
            have HS := Lib.hid (HS.out.trans (if_neg (fun h => h1 (HO.out.mp h.1).1)))
            go_wp2_with fail
            go_roundw
            case rel => exact ⟨q + 1, by omega, by go_num, by rw [HS.out], hdw⟩
            case measure => simp [intOf] <;> omega
        · obtain rfl : k = q := by omega
          obtain ⟨z, rfl⟩ := hdw
          have HO9 := Lib.hid (own_drewN HOWN.out z)
          have HB9 := Lib.hid (HB.out.trans (Drew.below (⟨z, rfl⟩ : Drew wo (wo.drewN z)) w.heap.size))
          clear HOWN HB
          generalize wo.drewN z = w5 at *
          rw [← HN.out]
          go_wp2_with (at_builtin; refine wpApp1 rfl _ _ rfl w.heap.size _ _ _ _ _ rfl HO9.out rfl HB9.out.size (by omega) ?_)
          intro a6 c6 w6 hown hc6 hgr
          have HO6 := Lib.hid hown
          have HG6 := Lib.hid hgr
          clear hown hgr
          go_wp2
          go_roundw
          case rel => exact ⟨k + 1, c6, a6, by omega, by omega, by go_num, rfl, by rw [Nat.add_sub_cancel, HST.out]; exact own_snoc HO6.out, HB9.out.grown HG6.out HB9.out.size (own_block HO9.out)⟩
          case measure => simp [intOf] <;> omega
    · obtain rfl : P = k := by omega
      go_wp2_with fail
      refine (power_all len (by omega) wo).mono ?_
      rintro e w' ⟨rfl, rfl⟩
      rw [HPL.out]
      go_wp2_with fail
      go_ret
      exact ⟨_, _, _, rfl, by omega, HOWN.out, HB.out⟩
theorem inRC {lo hi n : Int} {b : Bool} (h : inB lo hi n = b) (w : World) : Calls Try.prog 37 #[.int .i64 n, .int .i64 lo, .int .i64 hi] w fun e w' => e = .returned (.bool b) ∧ w = w' := by
  subst h; exact inRange_any n lo hi w
set_option maxRecDepth 100000 in
set_option maxHeartbeats 2000000 in
theorem vCuts_spec (S : Nat → Prop) (a : Option Addr) (len cap : Nat) (xs : List Int) (R : Int) (w : World) (h : IntsAt w S a len xs) :
    Calls Try.prog 20 #[.slice a len cap, .int .i64 R] w fun e w' => e = .returned (.bool (cutsM xs R)) ∧ w = w' := by
  have hs := h.small
  have HL := Lib.hid h.lenEq
  go_enter Try.func20, Try.ntmps20
  go_wp2_with fail
  go_loop [5] (fun i => ∃ k : Nat, k ≤ len ∧ i = .int .i64 k ∧ allIn 1 R (xs.take k) = true) (fun i => len - (intOf i).toNat)
  case atStart => exact ⟨0, Nat.zero_le _, rfl, rfl⟩
  case round =>
    obtain ⟨k, hk, rfl, ha⟩ := hrel
    have HA := Lib.hid ha
    clear ha
    by_cases hlt : k < len
    · have hkI : (k : Int) < (len : Int) := by omega
      obtain ⟨b, off, x, rfl, hx, hc⟩ := h.get hlt
      have HX := Lib.hid hx
      clear hx
      cases hq : inB 1 R x
      · have HF := Lib.hid (show cutsM xs R = false by unfold cutsM; rw [allIn_false HX.out hq]; rfl)
        go_wp2_with (go_at_call 37; refine (inRC hq _).mono ?_; rintro e w' ⟨rfl, rfl⟩)
        go_ret
        exact ⟨ret_bool HF.out.symm, rfl⟩
      · go_wp2_with (go_at_call 37; refine (inRC hq _).mono ?_; rintro e w' ⟨rfl, rfl⟩)
        go_round
        case rel => exact ⟨k + 1, by omega, by go_num, allIn_step HX.out HA.out hq⟩
        case measure => simp [intOf]; omega
    · obtain rfl : k = len := by omega
      have hkI : ¬ (k : Int) < (k : Int) := by omega
      have ha := HA.out
      rw [List.take_of_length_le (by rw [HL.out]; omega)] at ha
      cases h1 : inB 1 20 R
      · have HF := Lib.hid (show cutsM xs R = false by unfold cutsM; rw [h1, ha]; rfl)
        clear ha
        go_wp2_with (go_at_call 37; refine (inRC h1 _).mono ?_; rintro e w' ⟨rfl, rfl⟩)
        go_ret
        exact ⟨ret_bool HF.out.symm, rfl⟩
      · have HF := Lib.hid (show cutsM xs R = decide ((k : Int) ≤ 7) by unfold cutsM; rw [h1, ha, HL.out]; simp; omega)
        clear ha
        go_wp2_with (go_at_call 37; refine (inRC h1 _).mono ?_; rintro e w' ⟨rfl, rfl⟩)
        go_ret
        exact ⟨ret_bool (by rw [HF.out]), rfl⟩
theorem vcuts {S : Nat → Prop} {a : Option Addr} {len cap : Nat} {xs : List Int} {R : Int} {b : Bool} (hb : cutsM xs R = b) (w : World) (h : IntsAt w S a len xs) : Calls Try.prog 20 #[.slice a len cap, .int .i64 R] w fun e w' => e = .returned (.bool b) ∧ w = w' := by
  subst hb; exact vCuts_spec S a len cap xs R w h
set_option maxRecDepth 100000 in
theorem validCuts_spec (S : Nat → Prop) (a : Option Addr) (len cap : Nat) (xs : List Int) (R : Int) (w : World) (h : IntsAt w S a len xs) :
    Calls Try.prog 7 #[.slice a len cap, .int .i64 R] w fun e w' => e = .returned (.bool (cutsM xs R)) ∧ w = w' := by
  go_enter Try.func7, Try.ntmps7
  go_wp2_with (go_at_call 20; refine (vCuts_spec S _ _ _ xs R _ h).mono ?_; rintro e w' ⟨rfl, rfl⟩)
  go_ret
  exact ⟨rfl, rfl⟩
/-- what FewestRolls answers -/
def rollsRes (xs : List Int) (R : Int) : Int := if cutsM xs R then fewRl xs R else -1
set_option maxRecDepth 100000 in
set_option maxHeartbeats 2000000 in
theorem fewestRolls_spec (a : Option Addr) (len cap : Nat) (xs : List Int) (R : Int) (w : World) (h : IntsAt w (· < w.heap.size) a len xs) :
    Calls Try.prog 11 #[.slice a len cap, .int .i64 R] w (fun e w' => e = .returned (.int .i64 (rollsRes xs R)) ∧ Below w.heap.size w w') := by
  have HT := Lib.hid h.lenEq
  cases hv : cutsM xs R
  · have HR := Lib.hid (show rollsRes xs R = -1 by unfold rollsRes; rw [hv]; rfl)
    go_enter Try.func11, Try.ntmps11
    go_wp2_with (go_at_call 20; refine (vcuts hv _ h).mono ?_; rintro e w' ⟨rfl, rfl⟩)
    go_ret
    exact ⟨ret_int HR.out.symm, Below.refl _ _⟩
  · have HR := Lib.hid (show rollsRes xs R = fewRl xs R by unfold rollsRes; rw [hv]; rfl)
    go_enter Try.func11, Try.ntmps11
    go_wp2_with (first | (go_at_call 20; refine (vcuts hv _ h).mono ?_; rintro e w' ⟨rfl, rfl⟩) | fail)
    refine (rolls_any a len cap xs R w h hv).mono ?_
    rintro e w2 ⟨a3, l3, c3, rfl, hl3, own3, hb3⟩
    have hlen : l3 = 2 ^ len := by have := own3.1; simp [tabP_len] at this; have := Nat.two_pow_pos len; omega
    have hpos := Nat.two_pow_pos len
    have hti := own_low own3 hl3
    obtain ⟨b, off, x, rfl, hxx, hcell⟩ := hti.get (k := l3 - 1) (by omega)
    have HX := Lib.hid (show x = fewRl xs R by rw [← getD_of hxx, hlen]; unfold fewRl fewM; rw [HT.out]; rfl)
    have HB := Lib.hid hb3
    have e1 : (l3 : Int) - 1 = ((l3 - 1 : Nat) : Int) := by omega
    have hi3 : ((l3 - 1 : Nat) : Int) < (l3 : Int) := by omega
    clear hxx hti own3 hb3 hlen
    go_wp2_with fail
    go_ret
    exact ⟨ret_int (by rw [HR.out, HX.out]), HB.out⟩
end Go.Proofs.Ythmifadnfaajbab
namespace Go.Proofs.Ythmifadnfaajbab
open Go.RowKit Go.WideShapes

/-- what LeastRolls answers -/
def leastRes11 (xs : List Int) (R : Int) : Int := if cutsM xs R then leastTo (lenT xs) R xs.length (R.toNat / 2 + 1) else -1
theorem long_bd {T : Nat → Int} {R x : Int} : ∀ n, longN T R x n ≤ n ∧ midN T R x n ≤ n
  | 0 => by simp [longN, midN, card]
  | n + 1 => by
    have ih := long_bd (T := T) (R := R) (x := x) n
    unfold longN midN at ih ⊢
    rw [card, card]
    constructor <;> (split <;> omega)
theorem room_bd {T : Nat → Int} {R x : Int} {N : Nat} (hT : ∀ i, i < N → 1 ≤ T i ∧ T i ≤ R) (hR : R ≤ 20) : ∀ n : Nat, n ≤ N → 0 ≤ roomN T R x n ∧ roomN T R x n ≤ 20 * (n : Int) ∧ 0 ≤ smallN T R x n ∧ smallN T R x n ≤ 20 * (n : Int)
  | 0, _ => by simp [roomN, smallN, wsum]
  | n + 1, h => by
    have ih := room_bd (x := x) hT hR n (by omega)
    have h1 := hT n (by omega)
    unfold roomN smallN at ih ⊢
    rw [wsum, wsum]
    push_cast
    refine ⟨?_, ?_, ?_, ?_⟩ <;> (split <;> omega)
set_option maxRecDepth 100000 in
set_option maxHeartbeats 4000000 in
theorem leastRolls_spec (S : Nat → Prop) (a : Option Addr) (len cap : Nat) (xs : List Int) (R : Int) (w : World) (h : IntsAt w S a len xs) :
    Calls Try.prog 13 #[.slice a len cap, .int .i64 R] w fun e w' => e = .returned (.int .i64 (leastRes11 xs R)) ∧ w = w' := by
  have HL := Lib.hid h.lenEq
  cases hv : cutsM xs R
  · have HR := Lib.hid (show leastRes11 xs R = -1 by unfold leastRes11; rw [hv]; rfl)
    go_enter Try.func13, Try.ntmps13
    go_wp2_with (go_at_call 20; refine (vcuts hv _ h).mono ?_; rintro e w' ⟨rfl, rfl⟩)
    go_ret
    exact ⟨ret_int HR.out.symm, rfl⟩
  · obtain ⟨hR1, hR2, hl7, hT⟩ := cuts_get hv
    have HR := Lib.hid (show leastRes11 xs R = leastTo (lenT xs) R len (R.toNat / 2 + 1) by unfold leastRes11; rw [hv, HL.out]; rfl)
    rw [HL.out] at hl7 hT
    have HT := Lib.hid hT
    have HBD := Lib.hid (fun (x : Int) n (hn : n ≤ len) => room_bd (T := lenT xs) (R := R) (x := x) hT hR2 n hn)
    clear hT
    go_enter Try.func13, Try.ntmps13
    go_wp2_with (first | (go_at_call 20; refine (vcuts hv _ h).mono ?_; rintro e w' ⟨rfl, rfl⟩) | fail)
    clear hv
    go_loop [5, 6] (fun o x => ∃ k : Nat, (∀ y : Nat, y < k → 2 * (y : Int) ≤ R) ∧ k ≤ 12 ∧ x = .int .i64 k ∧ o = .int .i64 (leastTo (lenT xs) R len k) ∧ 0 ≤ leastTo (lenT xs) R len k ∧ leastTo (lenT xs) R len k ≤ 1000000) (fun _ x => 20 - (intOf x).toNat)
    case atStart => exact ⟨0, fun y hy => absurd hy (by omega), by omega, rfl, rfl, Int.le_refl _, by simp [leastTo]⟩
    case round =>
      obtain ⟨k, hky, hk12, rfl, rfl, ho0, ho1⟩ := hrel
      obtain ⟨o, ho⟩ : ∃ o, leastTo (lenT xs) R len k = o := ⟨_, rfl⟩
      rw [ho] at ho0 ho1 ⊢
      have HO := Lib.hid ho
      have HKY := Lib.hid hky
      clear ho hky
      by_cases hkr : 2 * (k : Int) ≤ R
      · go_wp2_with fail
        go_loop [7, 8, 9, 10, 11] (fun l m r s i => ∃ n : Nat, n ≤ len ∧ i = .int .i64 n ∧ l = .int .i64 (longN (lenT xs) R k n : Nat) ∧ m = .int .i64 (midN (lenT xs) R k n : Nat) ∧ r = .int .i64 (roomN (lenT xs) R k n) ∧ s = .int .i64 (smallN (lenT xs) R k n)) (fun _ _ _ _ i => len - (intOf i).toNat)
        case atStart => exact ⟨0, Nat.zero_le _, rfl, rfl, rfl, rfl, rfl⟩
        case round =>
          obtain ⟨n, hn, rfl, rfl, rfl, rfl, rfl⟩ := hrel
          have hlb := long_bd (T := lenT xs) (R := R) (x := (k : Int)) n
          have hrb := HBD.out (k : Int) n hn
          by_cases hnl : n < len
          · have hnI : (n : Int) < (len : Int) := by omega
            obtain ⟨b, off, x, rfl, hx, hc⟩ := h.get hnl
            have hxe : lenT xs n = x := getD_of hx
            have hxb := HT.out n hnl
            rw [hxe] at hxb
            have HX := Lib.hid hxe
            clear hx hxe
            have H1 := Lib.hid (show longN (lenT xs) R k (n + 1) = longN (lenT xs) R k n + if decide (R - (k : Int) < x) then 1 else 0 by unfold longN; rw [card, HX.out])
            have H2 := Lib.hid (show midN (lenT xs) R k (n + 1) = midN (lenT xs) R k n + if !decide (R - (k : Int) < x) && decide (R < 2 * x) then 1 else 0 by unfold midN; rw [card, HX.out])
            have H3 := Lib.hid (show roomN (lenT xs) R k (n + 1) = roomN (lenT xs) R k n + if !decide (R - (k : Int) < x) && decide (R < 2 * x) then R - x else 0 by unfold roomN; rw [wsum, HX.out])
            have H4 := Lib.hid (show smallN (lenT xs) R k (n + 1) = smallN (lenT xs) R k n + if !decide (R - (k : Int) < x) && (!decide (R < 2 * x) && decide ((k : Int) ≤ x)) then x else 0 by unfold smallN; rw [wsum, HX.out])
            obtain ⟨L, hL⟩ : ∃ L, longN (lenT xs) R k n = L := ⟨_, rfl⟩
            obtain ⟨M, hM⟩ : ∃ M, midN (lenT xs) R k n = M := ⟨_, rfl⟩
            obtain ⟨Q, hQ⟩ : ∃ Q, roomN (lenT xs) R k n = Q := ⟨_, rfl⟩
            obtain ⟨s, hs⟩ : ∃ s, smallN (lenT xs) R k n = s := ⟨_, rfl⟩
            rw [hL] at H1 hlb ⊢
            rw [hM] at H2 hlb ⊢
            rw [hQ] at H3 hrb ⊢
            rw [hs] at H4 hrb ⊢
            clear hL hM hQ hs
            by_cases g1 : R - (k : Int) < x
            · rw [decide_eq_true g1] at H1 H2 H3 H4
              go_wp2_with fail
              go_round
              case rel => exact ⟨n + 1, by omega, by go_num, by rw [H1.out]; simp, by rw [H2.out]; simp, by rw [H3.out]; simp, by rw [H4.out]; simp⟩
              case measure => simp [intOf]; omega
            · rw [decide_eq_false g1] at H1 H2 H3 H4
              by_cases g2 : R < 2 * x
              · rw [decide_eq_true g2] at H2 H3 H4
                go_wp2_with fail
                go_round
                case rel => exact ⟨n + 1, by omega, by go_num, by rw [H1.out]; simp, by rw [H2.out]; simp, by rw [H3.out]; simp; omega, by rw [H4.out]; simp⟩
                case measure => simp [intOf]; omega
              · rw [decide_eq_false g2] at H2 H3 H4
                by_cases g3 : (k : Int) ≤ x
                · rw [decide_eq_true g3] at H4
                  go_wp2_with fail
                  go_round
                  case rel => exact ⟨n + 1, by omega, by go_num, by rw [H1.out]; simp, by rw [H2.out]; simp, by rw [H3.out]; simp, by rw [H4.out]; simp⟩
                  case measure => simp [intOf]; omega
                · rw [decide_eq_false g3] at H4
                  go_wp2_with fail
                  go_round
                  case rel => exact ⟨n + 1, by omega, by go_num, by rw [H1.out]; simp, by rw [H2.out]; simp, by rw [H3.out]; simp, by rw [H4.out]; simp⟩
                  case measure => simp [intOf]; omega
          · obtain rfl : n = len := by omega
            have hnI : ¬ (n : Int) < (n : Int) := by omega
            have HLX := Lib.hid (show leastX (lenT xs) R k n = longN (lenT xs) R k n + midN (lenT xs) R k n + (max (smallN (lenT xs) R k n - roomN (lenT xs) R k n + R - 1) 0) / R from rfl)
            obtain ⟨L, hL⟩ : ∃ L, longN (lenT xs) R k n = L := ⟨_, rfl⟩
            obtain ⟨M, hM⟩ : ∃ M, midN (lenT xs) R k n = M := ⟨_, rfl⟩
            obtain ⟨Q, hQ⟩ : ∃ Q, roomN (lenT xs) R k n = Q := ⟨_, rfl⟩
            obtain ⟨s, hs⟩ : ∃ s, smallN (lenT xs) R k n = s := ⟨_, rfl⟩
            rw [hL, hM, hQ, hs] at HLX
            rw [hL, hM] at hlb
            rw [hQ, hs] at hrb
            rw [hL, hM, hQ, hs]
            clear hL hM hQ hs
            obtain ⟨d, hd⟩ : ∃ d, max (s - Q + R - 1) 0 = d := ⟨_, rfl⟩
            have hd0 : 0 ≤ d ∧ d ≤ 1000 := by omega
            obtain ⟨c, hc⟩ : ∃ c, d / R = c := ⟨_, rfl⟩
            have hcb : 0 ≤ c ∧ c ≤ 1000 := by
              rw [← hc]
              exact ⟨Int.ediv_nonneg (by omega) (by omega), Int.le_trans (Int.ediv_le_self _ (by omega)) (by omega)⟩
            have hct : d.tdiv R = c := by rw [Int.tdiv_eq_ediv_of_nonneg (by omega)]; exact hc
            have hm1 : (if s - Q + R - 1 < 0 then (0 : Int) else s - Q + R - 1) = d := by split <;> omega
            rw [hd, hc] at HLX
            have HST := Lib.hid (show leastTo (lenT xs) R n (k + 1) = max o ((L : Int) + M + c) by rw [leastTo, HO.out, HLX.out])
            have hR0 : ¬ R = 0 := by omega
            clear hd hc
            by_cases hov : o < (L : Int) + M + c
            · have hmx : max o ((L : Int) + M + c) = (L : Int) + M + c := by omega
              rw [hmx] at HST
              clear hmx
              go_wp2_with fail
              go_round
              case rel => exact ⟨k + 1, fun y hy => by
                rcases Nat.lt_or_ge y k with g | g
                · exact HKY.out y g
                · have : y = k := by omega
                  rw [this]; exact hkr, by omega, by go_num, by rw [HST.out], by rw [HST.out]; omega, by rw [HST.out]; omega⟩
              case measure => simp [intOf]; omega
            · have hmx : max o ((L : Int) + M + c) = o := by omega
              rw [hmx] at HST
              clear hmx
              go_wp2_with fail
              go_round
              case rel => exact ⟨k + 1, fun y hy => by
                rcases Nat.lt_or_ge y k with g | g
                · exact HKY.out y g
                · have : y = k := by omega
                  rw [this]; exact hkr, by omega, by go_num, by rw [HST.out], by rw [HST.out]; omega, by rw [HST.out]; omega⟩
              case measure => simp [intOf]; omega
      · have hke : R.toNat / 2 + 1 = k := by
          have h1 := HKY.out (k - 1)
          rcases Nat.eq_zero_or_pos k with g | g
          · subst g; omega
          · have h1 := h1 (by omega); omega
        have HKE := Lib.hid hke
        clear hke
        go_wp2_with fail
        go_ret
        exact ⟨ret_int (by rw [HR.out, HKE.out, HO.out]), rfl⟩
end Go.Proofs.Ythmifadnfaajbab
namespace Go.Proofs.Ythmifadnfaajbab
open Go.RowKit Go.WideShapes

theorem Try.infoIntD : (Try.prog.info? 3).map (fun i => (i.zero, i.size, i.bytes)) = some (some (.int .i64 0), 1, 8) := by kernel_rfl

/-- the days that are drawn -/
def DaysOk (xs : List Int) : Prop := xs.length ≤ 9 ∧ (∀ k, -1 ≤ xs.getD k 0) ∧ (∀ k, xs.getD k 0 ≤ if k = 0 then 21 else 12)
theorem daysOk_of {xs : List Int} (hl : xs.length ≤ 9) (h : ∀ x ∈ xs, 0 ≤ x ∧ x ≤ 12) : DaysOk xs := by
  have key : ∀ k, 0 ≤ xs.getD k 0 ∧ xs.getD k 0 ≤ 12 := by
    intro k
    rcases Nat.lt_or_ge k xs.length with h' | h'
    · exact h _ (List.mem_of_getElem? (get_getD h'))
    · rw [getD_past h']; omega
  exact ⟨hl, fun k => by have := key k; omega, fun k => by have := key k; split <;> omega⟩
theorem daysOk_set {xs : List Int} {x : Int} (hl : xs.length ≤ 9) (h : ∀ x ∈ xs, 0 ≤ x ∧ x ≤ 12) (hx : x = -1 ∨ x = 21) : DaysOk (xs.set 0 x) := by
  have key : ∀ k, 0 ≤ xs.getD k 0 ∧ xs.getD k 0 ≤ 12 := by
    intro k
    rcases Nat.lt_or_ge k xs.length with h' | h'
    · exact h _ (List.mem_of_getElem? (get_getD h'))
    · rw [getD_past h']; omega
  have e : ∀ k, (xs.set 0 x).getD k 0 = if k = 0 ∧ 0 < xs.length then x else xs.getD k 0 := by
    intro k
    rw [List.getD_eq_getElem?_getD, List.getD_eq_getElem?_getD, List.getElem?_set]
    by_cases hk : 0 = k
    · subst hk
      by_cases hp : 0 < xs.length
      · rw [if_pos rfl, if_pos hp, if_pos ⟨rfl, hp⟩]; rfl
      · rw [if_pos rfl, if_neg hp, if_neg (by omega), List.getElem?_eq_none (by omega)]
    · rw [if_neg hk, if_neg (by omega)]
  refine ⟨by rw [List.length_set]; exact hl, fun k => ?_, fun k => ?_⟩
  · rw [e]; have := key k; split <;> omega
  · rw [e]; have := key k; split <;> split <;> omega

def DaysPost (w : World) (R p : Nat) (e : Ending) (w' : World) : Prop := ∃ (a : Option Addr) (len cap : Nat) (xs : List Int) (p' : Nat), e = .returned (.slice a len cap) ∧
  w'.ownsRow w.heap.size 3 1 (.slice a len cap) len (xs.map (.int .i64)) ∧ len ≤ cap ∧ len ≤ 9 ∧ DaysOk xs ∧ Rd w' R p' ∧ p' ≤ p + 100 ∧ w.grownBy w' (some R)
theorem DaysPost.mk {w w' : World} {R p p' : Nat} {a : Option Addr} {len cap : Nat} {xs : List Int} (h : w'.ownsRow w.heap.size 3 1 (.slice a len cap) len (xs.map (.int .i64))) (hl : len ≤ 9) (hd : DaysOk xs) (hr : Rd w' R p') (hp : p' ≤ p + 100) (hg : w.grownBy w' (some R)) :
    DaysPost w R p (.returned (.slice a len cap)) w' := by
  obtain ⟨a', cap', e, hc⟩ := own_slice h
  simp only [Value.slice.injEq] at e
  obtain ⟨rfl, _, rfl⟩ := e
  exact ⟨_, _, _, xs, p', rfl, h, hc, hl, hd, hr, hp, hg⟩
theorem ro {R : Nat} : ∀ k, some R = some k → k = R ∨ False := by intro k e; cases e; exact Or.inl rfl

theorem most_n {n : Int} (h : n ∈ [6, 12, 3]) : 3 ≤ n ∧ n ≤ 12 := by simp at h; omega
theorem days_n {n : Int} (h : n ∈ [5, 6, 4, 8, 3, 2, 1, 0, 9]) : ∃ m : Nat, n = (m : Int) ∧ m ≤ 9 := by simp at h; exact ⟨n.toNat, by omega, by omega⟩
theorem grown_r {a b c : World} {R : Nat} (h : a.grownBy b (some R)) (g : b.grownBy c (some R)) : a.grownBy c (some R) := grown_trans h g (fun k e => by cases e; exact Or.inl rfl)

end Go.Proofs.Ythmifadnfaajbab
namespace Go.Proofs.Ythmifadnfaajbab
open Go.RowKit Go.WideShapes

set_option maxRecDepth 100000 in
/-- append of a list to a list of the call's own, at a step of a region that draws; the source may be empty -/
theorem stepApp {ops : Array Oper} {o : Oper} {a : Act} {K : Act → World → Prop} {Q : Exit → Act → World → Prop} {E : Prop} {wo : World} (hgd : o.guard = none) (s x : Operand)
    (ho : o.op = .call { callee := .builtin .append, args := #[s, x], argTypes := #[22, 22] })
    (base k cp gx : Nat) (xs : List Int) (S : Nat → Prop) (b off m c : Nat) (ys : List Int) (hs : a.eval s = .slice (some ⟨gx, 0, none⟩) k cp)
    (hown : wo.ownsRow base 3 1 (.slice (some ⟨gx, 0, none⟩) k cp) k (xs.map (.int .i64))) (hx : a.eval x = .slice (some ⟨b, off, none⟩) m c) (hy : IntsAt wo S (some ⟨b, off, none⟩) m ys)
    (hbase : base ≤ wo.heap.size) (km : Nat) (hkm : k + m = km) (zs : List Int) (hzs : xs ++ ys = zs) (hk : km ≤ 1048576)
    (h : ∀ (g6 c6 : Nat) (w' : World), w'.ownsRow base 3 1 (.slice (some ⟨g6, 0, none⟩) km c6) km (zs.map (.int .i64)) → km ≤ c6 → wo.grownBy w' (some gx) → base ≤ g6 → g6 < w'.heap.size →
      K (a.put o.dst (.slice (some ⟨g6, 0, none⟩) km c6)) w') :
    if Region.wanted o (yielded ops a.tmps) = true then Oper.wp Try.prog o a wo K Q else E := by
  subst hkm
  subst hzs
  have hw : Region.wanted o (yielded ops a.tmps) = true := by simp [Region.wanted, hgd]
  rw [if_pos hw]
  obtain ⟨i0, hi, hz0, hz1, hz2⟩ := info_parts Try.infoIntO
  obtain ⟨v', w', hr, h2, h3, h4, _⟩ := run_append_own_at (P := Try.prog) wo base 22 o.type 3 i0 (.int .i64 0) 1 8 Try.underlying22 hi hz0 hz1 hz2 rfl (by decide) _ k _ hown ⟨b, off, none⟩ m c (ys.map (.int .i64)) (by simp [hy.lenEq]) (by
    intro j u hj
    rw [List.getElem?_map] at hj
    cases hq : ys[j]? with
    | none => rw [hq] at hj; cases hj
    | some z =>
      rw [hq] at hj
      simp only [Option.map_some, Option.some.injEq] at hj
      have hlt : j < ys.length := (List.getElem?_eq_some_iff.1 hq).1
      obtain ⟨b', off', e, _, hc⟩ := hy.cells (by have := hy.lenEq; omega)
      cases e
      rw [add_plain, hc _ _ hq, ← hj]) (by
    intro u hu
    obtain ⟨x, _, rfl⟩ := List.mem_map.1 hu
    rfl) (by unfold maxLen; omega) (by omega) hbase
  unfold Oper.wp execOp
  simp only [ho, resolve, invoke, builtin, Sem.run_bind, Sem.run_pure, Result.andThen_ok, List.map_toArray, List.map_cons, List.map_nil, hs, hx, hr]
  obtain ⟨a6, c6, rfl, hc⟩ := own_slice h2
  rcases h2.2 with ⟨e1, e2⟩ | ⟨g, cap, cur, hv, hb, hg, _⟩
  · exact absurd (h4.1 (by injection e1 with e3 _ e4; subst e3; subst e4; rw [e2])).1 (by simp)
  · injection hv with e3 _ e4
    subst e3
    rw [← List.map_append] at h2
    refine h g c6 w' h2 hc h3 hb ?_
    rcases Nat.lt_or_ge g w'.heap.size with hlt | hge
    · exact hlt
    · rw [Array.getElem?_eq_none hge] at hg; cases hg

theorem IntsAt.takeI {w : World} {S : Nat → Prop} {b off len : Nat} {xs : List Int} (h : IntsAt w S (some ⟨b, off, none⟩) len xs) (k : Nat) (hk : k ≤ len) : IntsAt w S (some ⟨b, off, none⟩) k (xs.take k) := by
  have hl := h.lenEq
  have hs := h.small
  refine ⟨by simp; omega, by omega, fun h0 => ?_⟩
  obtain ⟨b', off', e, hS, hc⟩ := h.cells (by omega)
  cases e
  refine ⟨_, _, rfl, hS, fun i x hx => hc i x ?_⟩
  rw [List.getElem?_take] at hx
  split at hx
  · exact hx
  · cases hx
theorem IntsAt.dropI {w : World} {S : Nat → Prop} {b len : Nat} {xs : List Int} (h : IntsAt w S (some ⟨b, 0, none⟩) len xs) (k : Nat) (hk : k ≤ len) : IntsAt w S (some ⟨b, k, none⟩) (len - k) (xs.drop k) := by
  have hl := h.lenEq
  have hs := h.small
  refine ⟨by simp; omega, by omega, fun h0 => ?_⟩
  obtain ⟨b', off', e, hS, hc⟩ := h.cells (by omega)
  cases e
  refine ⟨_, _, rfl, hS, fun i x hx => ?_⟩
  rw [List.getElem?_drop] at hx
  have := hc _ x hx
  rwa [Nat.zero_add] at this
theorem IntsAt.grownEq {W W' w' : World} {b r len : Nat} {xs : List Int} (h : IntsAt W (fun k => k = b) (some ⟨b, 0, none⟩) len xs) (hg : W'.grownBy w' (some r)) (he : W'.heap = W.heap) (hb : b < W'.heap.size) (hr : b ≠ r) :
    IntsAt w' (fun k => k = b) (some ⟨b, 0, none⟩) len xs :=
  h.to fun k hk => ⟨hk, by subst hk; rw [hg.block _ hb (by simp; omega), he]⟩
theorem below_grown {n : Nat} {w w' : World} (h : Below n w w') (hn : n = w.heap.size) (r : Option Nat) : w.grownBy w' r := by
  subst hn
  exact ⟨h.os, h.tape, h.output, h.size, fun k hk _ => h.block k hk⟩
def OrderPost (w : World) (R p n : Nat) (e : Ending) (w' : World) : Prop := ∃ (g cap : Nat) (xs : List Int), e = .returned (.slice (some ⟨g, 0, none⟩) n cap) ∧
  w'.ownsRow w.heap.size 3 1 (.slice (some ⟨g, 0, none⟩) n cap) n (xs.map (.int .i64)) ∧ n ≤ cap ∧ (∀ x ∈ xs, -1 ≤ x ∧ x ≤ n) ∧ w.grownBy w' (some R)
end Go.Proofs.Ythmifadnfaajbab
