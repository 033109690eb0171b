import Derived.Test.YtjcbpnffmebihaaGreatDoorA10
import Derived.Test.YtjcbpnffmebihaaGreatDoorRows
namespace Go.Proofs.YtjcbpnffmebihaaGreatDoor

theorem scanP_bd {T : List Int} {c : Int} {t : List Int} {s : Nat} {B : Int} (h0 : -1 ≤ B) (hB : ∀ r, r < s → t.getD r 0 + 1 ≤ B) : ∀ R, R ≤ s → -1 ≤ scanP T c t s R ∧ scanP T c t s R ≤ B
  | 0, _ => ⟨Int.le_refl _, h0⟩
  | R + 1, h => by
    have := scanP_bd (T := T) (c := c) h0 hB R (by omega)
    have h1 := hB R (by omega)
    rw [scanP]; split
    · rename_i h2; have := h2.1.2.1; omega
    · exact this
theorem stP_bd {T : List Int} {A : List Nat} {c : Int} : ∀ N s, s ≤ N → -1 ≤ stP T A c s ∧ stP T A c s ≤ s
  | N, 0, _ => by show (-1 : Int) ≤ 0 ∧ (0 : Int) ≤ 0; omega
  | N + 1, s + 1, h => by
    rw [stP_succ]; unfold nxtP; split
    · exact scanP_bd (B := ((s + 1 : Nat) : Int)) (by omega) (fun r hr => by rw [tabP_at (show r ≤ s by omega)]; have := stP_bd (T := T) (A := A) (c := c) N r (by omega); omega) (s + 1) (Nat.le_refl _)
    · omega
theorem tabP_step (T : List Int) (A : List Nat) (c : Int) {k : Nat} (h : 1 ≤ k) : tabP T A c k = tabP T A c (k - 1) ++ [nxtP T A c (tabP T A c (k - 1)) k] := by
  obtain ⟨d, rfl⟩ : ∃ d, k = d + 1 := ⟨k - 1, by omega⟩
  rfl
theorem tab_bd {T : List Int} {A : List Nat} {c : Int} {k r : Nat} (h : r < k) : -1 ≤ (tabP T A c (k - 1)).getD r 0 ∧ (tabP T A c (k - 1)).getD r 0 ≤ r := by
  rw [tabP_at (show r ≤ k - 1 by omega)]; exact stP_bd r r (Nat.le_refl _)
theorem scan_bd {T : List Int} {A : List Nat} {c : Int} {k R : Nat} (h : R ≤ k) : -1 ≤ scanP T c (tabP T A c (k - 1)) k R ∧ scanP T c (tabP T A c (k - 1)) k R ≤ k :=
  scanP_bd (by omega) (fun r hr => by have := tab_bd (T := T) (A := A) (c := c) hr; omega) R h
end Go.Proofs.YtjcbpnffmebihaaGreatDoor
namespace Go.Proofs.YtjcbpnffmebihaaGreatDoor
open Go.RowKit Go.WideShapes

theorem own_lit (w : World) (xs : List Int) (len : Nat) (hl : xs.length = len) (hs : len ≤ 1048576) : (w.alloc (.cells (cellsOf xs) 3)).ownsRow w.heap.size 3 1 (.slice (some ⟨w.heap.size, 0, none⟩) len len) len (xs.map (.int .i64)) :=
  ⟨by simp [hl], .inr ⟨w.heap.size, len, cellsOf xs, rfl, Nat.le_refl _, heap_alloc_new w _, Nat.le_refl _, by unfold maxLen; omega, by simp [cellsOf, hl], by simp [cellsOf]; exact List.take_of_length_le (by simp [hl])⟩⟩
theorem drew_two {a b c : World} (h1 : Drew a b) (h2 : Drew b c) : Drew a c := by obtain ⟨q, rfl⟩ := h2; exact h1.drew q
end Go.Proofs.YtjcbpnffmebihaaGreatDoor
namespace Go.Proofs.YtjcbpnffmebihaaGreatDoor
open Go.RowKit Go.WideShapes

theorem cut_at {T : List Int} {c : Int} (h : cutsM T c = true) (k : Nat) : 0 ≤ T.getD k 0 ∧ T.getD k 0 ≤ 20 := by
  obtain ⟨h1, h2, _, h4⟩ := cuts_get h
  rcases Nat.lt_or_ge k T.length with g | g
  · have := h4 k g; unfold lenT at this; omega
  · rw [getD_past g]; omega
theorem csum_range20 {T : List Int} (hT : ∀ k, 0 ≤ T.getD k 0 ∧ T.getD k 0 ≤ 20) (P : Nat → Bool) : ∀ n : Nat, 0 ≤ csum T P n ∧ csum T P n ≤ 20 * (n : Int)
  | 0 => by simp [csum]
  | n + 1 => by have := csum_range20 hT P n; have := hT n; rw [csum]; push_cast; split <;> omega
theorem load20_any (S : Nat → Prop) (a : Option Addr) (len cap : Nat) (T : List Int) (s : Nat) (w : World) (hx : IntsAt w S a len T) (hT : ∀ k, 0 ≤ T.getD k 0 ∧ T.getD k 0 ≤ 20) (hl : len ≤ 20) (hs : s ≤ 1048576) :
    Calls Tryz.prog 79 #[.slice a len cap, .int .i64 s] w fun e w' => e = .returned (.int .i64 (csum T (fun i => s.testBit i) len)) ∧ Drew w w' := by
  have HT := Lib.hid hT
  go_enter Tryz.func79, Tryz.ntmps79
  go_wp2_with fail
  go_loopw [5, 6] (fun o i wr => ∃ k : Nat, k ≤ len ∧ i = .int .i64 k ∧ o = .int .i64 (csum T (fun i => s.testBit i) k) ∧ Drew w wr) (fun _ i _ => len - (intOf i).toNat)
  case atStart => exact ⟨0, Nat.zero_le _, rfl, rfl, Drew.refl _⟩
  case round =>
    obtain ⟨k, hk, rfl, rfl, hdw⟩ := hrel
    by_cases hlt : k < len
    · have hxw := Drew.ints hx hdw
      obtain ⟨b, off, x, rfl, hxx, hc⟩ := hxw.get hlt
      have hxb := HT.out k
      have hcr := csum_range20 HT.out (fun i => s.testBit i) k
      rw [getD_of hxx] at hxb
      have HN := Lib.hid (show csum T (fun i => s.testBit i) (k + 1) = csum T (fun i => s.testBit i) k + bI s k * x by
        rw [csum, getD_of hxx]; unfold bI; split <;> simp)
      have HBT := Lib.hid (show ∀ z, Calls Tryz.prog 100 #[.int .i64 s, .int .i64 k] (wr.drewN z) (fun e w' => e = .returned (.int .i64 (bI s k)) ∧ ∃ q, w' = (wr.drewN z).drewN q) from fun z =>
        (bit_at s k hs (by omega) (wr.drewN z)).mono (fun e w' he => ⟨he.1, 0, by rw [← he.2]; rfl⟩))
      clear hxx hxw
      generalize csum T (fun i => s.testBit i) k = o at hcr HN
      have hbb := bI_bd s k
      generalize bI s k = bb at hbb HN HBT
      have hmb : 0 ≤ bb * x ∧ bb * x ≤ 20 := by
        have h1 := Int.mul_nonneg hbb.1 hxb.1
        have h2 := Int.mul_le_mul hbb.2 hxb.2 hxb.1 (by omega)
        omega
      have hlk : (k : Int) < (len : Int) := by omega
      have hw1 : IntKind.i64.wrap (bb * x) = bb * x := IntWalk.i64_in _ (by omega)
      have hw2 : IntKind.i64.wrap (o + bb * x) = o + bb * x := IntWalk.i64_in _ (by omega)
      go_wp2_with fail
      go_quiet ((go_at_call 100; exact Calls.quiet_of (HBT.out _)))
      go_wp2_with fail
      go_roundw
      case rel => exact ⟨k + 1, by omega, by go_num, by rw [HN.out], hdw.drew _⟩
      case measure => simp [intOf] <;> omega
    · obtain rfl : len = k := by omega
      have hdw2 := hdw
      go_wp2
      go_ret
      exact ⟨rfl, hdw2⟩
set_option maxRecDepth 100000 in
set_option maxHeartbeats 4000000 in
theorem rolls_any (a : Option Addr) (len cap : Nat) (T : List Int) (c : Int) (w : World) (hx : IntsAt w (· < w.heap.size) a len T) (hv : cutsM T c = true) :
    Calls Tryz.prog 59 #[.slice a len cap, .int .i64 c] w (NewOwn w (tabP T (zerosN len) c (2 ^ len - 1))) := by
  have HL := Lib.hid hx.lenEq
  obtain ⟨hR1, hR2, hl7, hT1⟩ := cuts_get hv
  have hl7 : len ≤ 7 := by have := HL.out; omega
  have HA := Lib.hid (show (zerosN len).length = len by simp [zerosN])
  have HT := Lib.hid (fun k => cut_at hv k)
  have HNN := Lib.hid (fun s => st_nn (T := T) (n := len) (c := c) (by omega) (fun k hk => (hT1 k hk).2) s s (Nat.le_refl _))
  clear hv hT1
  have HPL := Lib.hid (powV_eq len (by omega))
  have hpb : 1 ≤ 2 ^ len ∧ 2 ^ len ≤ 128 := ⟨Nat.pow_pos (by omega), Nat.pow_le_pow_right (n := 2) (by omega) hl7⟩
  generalize 2 ^ len = P at hpb HPL ⊢
  go_enter Tryz.func59, Tryz.ntmps59
  go_wp2_with fail
  go_loopw [5, 6] (fun v i wr => ∃ (k cp : Nat) (ax : Option Addr), 1 ≤ k ∧ k ≤ P ∧ i = .int .i64 k ∧ v = .slice ax k cp ∧ wr.ownsRow w.heap.size 3 1 v k ((tabP T (zerosN len) c (k - 1)).map (.int .i64)) ∧ Below w.heap.size w wr) (fun _ i _ => P - (intOf i).toNat)
  case atStart => exact ⟨1, 1, _, Nat.le_refl _, hpb.1, rfl, rfl, own_lit w [0] 1 rfl (by omega), (Below.refl _ _).alloc (Nat.le_refl _) _⟩
  case round =>
    obtain ⟨k, cp, ax, hk0, hk, rfl, rfl, hown, hB⟩ := hrel
    obtain ⟨wo, rfl⟩ : ∃ wo : World, wo = wr := ⟨_, rfl⟩
    have HOWN := Lib.hid hown
    have HB := Lib.hid hB
    clear hown hB
    by_cases hlt : k < P
    · have hlti : (k : Int) < (P : Int) := by omega
      have HNT := Lib.hid (fun r (h : r < k) => (show 0 ≤ (tabP T (zerosN len) c (k - 1)).getD r 0 by rw [tabP_at (show r ≤ k - 1 by omega)]; exact HNN.out r))
      have HST := Lib.hid (tabP_step T (zerosN len) c hk0)
      have HTB := Lib.hid (fun r (h : r < k) => tab_bd (T := T) (A := zerosN len) (c := c) h)
      have HSB := Lib.hid (fun R (h : R ≤ k) => scan_bd (T := T) (A := zerosN len) (c := c) h)
      have HLEN := Lib.hid (show (tabP T (zerosN len) c (k - 1)).length = k by rw [tabP_len]; omega)
      generalize tabP T (zerosN len) c (k - 1) = t at *
      have HN := Lib.hid (show nxtP T (zerosN len) c t k = scanP T c t k k by unfold nxtP; rw [if_pos (zeros_clo _ _ _)])
      go_wp2_with fail
      refine (power_all len (by omega) wo).mono ?_
      rintro e w' ⟨rfl, rfl⟩
      rw [HPL.out]
      go_wp2_with fail
      go_loopw [7, 8] (fun b r wr => ∃ q : Nat, q ≤ k ∧ r = .int .i64 q ∧ b = .int .i64 (scanP T c t k q) ∧ Drew wo wr) (fun _ r _ => k - (intOf r).toNat)
      case atStart => exact ⟨0, Nat.zero_le _, rfl, rfl, Drew.refl _⟩
      case round =>
        obtain ⟨q, hq, rfl, rfl, hdw⟩ := hrel
        by_cases hqk : q < k
        · have hqi : (q : Int) < (k : Int) := by omega
          have hty : IntsAt wr (· < wr.heap.size) (ax) k t := by
            obtain ⟨z, rfl⟩ := hdw; exact own_low (own_drewN HOWN.out z) (by omega)
          obtain ⟨b, off, x, rfl, hxx, hcell⟩ := hty.get hqk
          have hxb := HTB.out q hqk
          have hxn := HNT.out q hqk
          have hsb := HSB.out q hq
          rw [getD_of hxx] at hxb hxn
          have HS := Lib.hid (show scanP T c t k (q + 1) = if okR T c t k q ∧ (scanP T c t k q < 0 ∨ x + 1 < scanP T c t k q) then x + 1 else scanP T c t k q by rw [scanP, getD_of hxx])
          have HO := Lib.hid (show okR T c t k q ↔ q &&& k = q ∧ 0 ≤ x ∧ csum T (fun i => (dif k q).testBit i) len ≤ c by unfold okR; rw [getD_of hxx, HL.out])
          have EA := Lib.hid (i_and q k (by omega) (by omega))
          have EN := Lib.hid (i_not k q (by omega) (by omega))
          have hdl := dif_le k q
          have hlb := csum_range20 HT.out (fun i => (dif k q).testBit i) len
          have HLD := Lib.hid (show ∀ w1, IntsAt w1 (· < w.heap.size) a len T → Calls Tryz.prog 79 #[.slice a len cap, .int .i64 (dif k q : Nat)] w1 (fun e w' => e = .returned (.int .i64 (csum T (fun i => (dif k q).testBit i) len)) ∧ Drew w1 w') from fun w1 h1 => load20_any _ a len cap T (dif k q) w1 h1 HT.out (by omega) (by omega))
          have HX1 := Lib.hid (Drew.ints (hx.below HB.out) hdw)
          clear hxx hty
          generalize scanP T c t k q = sv at hsb HS
          generalize csum T (fun i => (dif k q).testBit i) len = L at hlb HLD HO
          by_cases h1 : q &&& k = q
          · have e1 : (bits .and .i64 (q : Int) (k : Int) == (q : Int)) = true := by rw [EA.out, h1]; simp
            by_cases h2 : 0 ≤ x
            · by_cases h3 : L ≤ c
              · have HK := Lib.hid (HO.out.mpr ⟨h1, h2, h3⟩)
                by_cases h4 : sv < 0
                · have HS := Lib.hid (HS.out.trans (if_pos ⟨HK.out, .inl h4⟩))
                  go_wp2_with fail
                  rw [EN.out]
                  refine (HLD.out wr HX1.out).mono ?_
                  rintro e w' ⟨rfl, hdw2⟩
                  have HDW := Lib.hid (drew_two hdw hdw2)
                  have hcell2 : w'.cell? ⟨b, off + q, none⟩ = some (.int .i64 x) := by obtain ⟨z, rfl⟩ := hdw2; exact hcell
                  clear hcell
                  go_wp2_with fail
                  go_roundw
                  case rel => exact ⟨q + 1, by omega, by go_num, by rw [HS.out], HDW.out⟩
                  case measure => simp [intOf] <;> omega
                · by_cases h5 : x + 1 < sv
                  · have HS := Lib.hid (HS.out.trans (if_pos ⟨HK.out, .inr h5⟩))
                    go_wp2_with fail
                    rw [EN.out]
                    refine (HLD.out wr HX1.out).mono ?_
                    rintro e w' ⟨rfl, hdw2⟩
                    have HDW := Lib.hid (drew_two hdw hdw2)
                    have hcell2 : w'.cell? ⟨b, off + q, none⟩ = some (.int .i64 x) := by obtain ⟨z, rfl⟩ := hdw2; exact hcell
                    clear hcell
                    go_wp2_with fail
                    go_roundw
                    case rel => exact ⟨q + 1, by omega, by go_num, by rw [HS.out], HDW.out⟩
                    case measure => simp [intOf] <;> omega
                  · have HS := Lib.hid (HS.out.trans (if_neg (fun h => h.2.elim h4 h5)))
                    go_wp2_with fail
                    rw [EN.out]
                    refine (HLD.out wr HX1.out).mono ?_
                    rintro e w' ⟨rfl, hdw2⟩
                    have HDW := Lib.hid (drew_two hdw hdw2)
                    have hcell2 : w'.cell? ⟨b, off + q, none⟩ = some (.int .i64 x) := by obtain ⟨z, rfl⟩ := hdw2; exact hcell
                    clear hcell
                    go_wp2_with fail
                    go_roundw
                    case rel => exact ⟨q + 1, by omega, by go_num, by rw [HS.out], HDW.out⟩
                    case measure => simp [intOf] <;> omega
              · have HS := Lib.hid (HS.out.trans (if_neg (fun h => h3 (HO.out.mp h.1).2.2)))
                go_wp2_with fail
                rw [EN.out]
                refine (HLD.out wr HX1.out).mono ?_
                rintro e w' ⟨rfl, hdw2⟩
                have HDW := Lib.hid (drew_two hdw hdw2)
                go_wp2_with fail
                go_roundw
                case rel => exact ⟨q + 1, by omega, by go_num, by rw [HS.out], HDW.out⟩
                case measure => simp [intOf] <;> omega
            · exact absurd hxn h2
          · have e1 : (bits .and .i64 (q : Int) (k : Int) == (q : Int)) = false := by rw [EA.out]; simp; omega
            have HS := Lib.hid (HS.out.trans (if_neg (fun h => h1 (HO.out.mp h.1).1)))
            go_wp2_with fail
            go_roundw
            case rel => exact ⟨q + 1, by omega, by go_num, by rw [HS.out], hdw⟩
            case measure => simp [intOf] <;> omega
        · obtain rfl : k = q := by omega
          obtain ⟨z, rfl⟩ := hdw
          have HO9 := Lib.hid (own_drewN HOWN.out z)
          have HB9 := Lib.hid (HB.out.trans (Drew.below (⟨z, rfl⟩ : Drew wo (wo.drewN z)) w.heap.size))
          clear HOWN HB
          generalize wo.drewN z = w5 at *
          rw [← HN.out]
          go_wp2_with (at_builtin; refine wpApp1 rfl _ _ rfl w.heap.size _ _ _ _ _ rfl HO9.out rfl HB9.out.size (by omega) ?_)
          intro a6 c6 w6 hown hc6 hgr
          have HO6 := Lib.hid hown
          have HG6 := Lib.hid hgr
          clear hown hgr
          go_wp2
          go_roundw
          case rel => exact ⟨k + 1, c6, a6, by omega, by omega, by go_num, rfl, by rw [Nat.add_sub_cancel, HST.out]; exact own_snoc HO6.out, HB9.out.grown HG6.out HB9.out.size (own_block HO9.out)⟩
          case measure => simp [intOf] <;> omega
    · obtain rfl : P = k := by omega
      go_wp2_with fail
      refine (power_all len (by omega) wo).mono ?_
      rintro e w' ⟨rfl, rfl⟩
      rw [HPL.out]
      go_wp2_with fail
      go_ret
      exact ⟨_, _, _, rfl, by omega, HOWN.out, HB.out⟩
theorem inRC {lo hi n : Int} {b : Bool} (h : inB lo hi n = b) (w : World) : Calls Tryz.prog 54 #[.int .i64 n, .int .i64 lo, .int .i64 hi] w fun e w' => e = .returned (.bool b) ∧ w = w' := by
  subst h; exact inRange_any n lo hi w
set_option maxRecDepth 100000 in
set_option maxHeartbeats 2000000 in
theorem vCuts_spec (S : Nat → Prop) (a : Option Addr) (len cap : Nat) (xs : List Int) (R : Int) (w : World) (h : IntsAt w S a len xs) :
    Calls Tryz.prog 42 #[.slice a len cap, .int .i64 R] w fun e w' => e = .returned (.bool (cutsM xs R)) ∧ w = w' := by
  have hs := h.small
  have HL := Lib.hid h.lenEq
  go_enter Tryz.func42, Tryz.ntmps42
  go_wp2_with fail
  go_loop [5] (fun i => ∃ k : Nat, k ≤ len ∧ i = .int .i64 k ∧ allIn 1 R (xs.take k) = true) (fun i => len - (intOf i).toNat)
  case atStart => exact ⟨0, Nat.zero_le _, rfl, rfl⟩
  case round =>
    obtain ⟨k, hk, rfl, ha⟩ := hrel
    have HA := Lib.hid ha
    clear ha
    by_cases hlt : k < len
    · have hkI : (k : Int) < (len : Int) := by omega
      obtain ⟨b, off, x, rfl, hx, hc⟩ := h.get hlt
      have HX := Lib.hid hx
      clear hx
      cases hq : inB 1 R x
      · have HF := Lib.hid (show cutsM xs R = false by unfold cutsM; rw [allIn_false HX.out hq]; rfl)
        go_wp2_with (go_at_call 54; refine (inRC hq _).mono ?_; rintro e w' ⟨rfl, rfl⟩)
        go_ret
        exact ⟨ret_bool HF.out.symm, rfl⟩
      · go_wp2_with (go_at_call 54; refine (inRC hq _).mono ?_; rintro e w' ⟨rfl, rfl⟩)
        go_round
        case rel => exact ⟨k + 1, by omega, by go_num, allIn_step HX.out HA.out hq⟩
        case measure => simp [intOf]; omega
    · obtain rfl : k = len := by omega
      have hkI : ¬ (k : Int) < (k : Int) := by omega
      have ha := HA.out
      rw [List.take_of_length_le (by rw [HL.out]; omega)] at ha
      cases h1 : inB 1 20 R
      · have HF := Lib.hid (show cutsM xs R = false by unfold cutsM; rw [h1, ha]; rfl)
        clear ha
        go_wp2_with (go_at_call 54; refine (inRC h1 _).mono ?_; rintro e w' ⟨rfl, rfl⟩)
        go_ret
        exact ⟨ret_bool HF.out.symm, rfl⟩
      · have HF := Lib.hid (show cutsM xs R = decide ((k : Int) ≤ 7) by unfold cutsM; rw [h1, ha, HL.out]; simp; omega)
        clear ha
        go_wp2_with (go_at_call 54; refine (inRC h1 _).mono ?_; rintro e w' ⟨rfl, rfl⟩)
        go_ret
        exact ⟨ret_bool (by rw [HF.out]), rfl⟩
theorem vcuts {S : Nat → Prop} {a : Option Addr} {len cap : Nat} {xs : List Int} {R : Int} {b : Bool} (hb : cutsM xs R = b) (w : World) (h : IntsAt w S a len xs) : Calls Tryz.prog 42 #[.slice a len cap, .int .i64 R] w fun e w' => e = .returned (.bool b) ∧ w = w' := by
  subst hb; exact vCuts_spec S a len cap xs R w h
/-- what FewestRolls answers -/
def rollsRes (xs : List Int) (R : Int) : Int := if cutsM xs R then fewRl xs R else -1
set_option maxRecDepth 100000 in
set_option maxHeartbeats 2000000 in
theorem fewestRolls_spec (a : Option Addr) (len cap : Nat) (xs : List Int) (R : Int) (w : World) (h : IntsAt w (· < w.heap.size) a len xs) :
    Calls Tryz.prog 43 #[.slice a len cap, .int .i64 R] w (fun e w' => e = .returned (.int .i64 (rollsRes xs R)) ∧ Below w.heap.size w w') := by
  have HT := Lib.hid h.lenEq
  cases hv : cutsM xs R
  · have HR := Lib.hid (show rollsRes xs R = -1 by unfold rollsRes; rw [hv]; rfl)
    go_enter Tryz.func43, Tryz.ntmps43
    go_wp2_with (go_at_call 42; refine (vcuts hv _ h).mono ?_; rintro e w' ⟨rfl, rfl⟩)
    go_ret
    exact ⟨ret_int HR.out.symm, Below.refl _ _⟩
  · have HR := Lib.hid (show rollsRes xs R = fewRl xs R by unfold rollsRes; rw [hv]; rfl)
    go_enter Tryz.func43, Tryz.ntmps43
    go_wp2_with (first | (go_at_call 42; refine (vcuts hv _ h).mono ?_; rintro e w' ⟨rfl, rfl⟩) | fail)
    refine (rolls_any a len cap xs R w h hv).mono ?_
    rintro e w2 ⟨a3, l3, c3, rfl, hl3, own3, hb3⟩
    have hlen : l3 = 2 ^ len := by have := own3.1; simp [tabP_len] at this; have := Nat.two_pow_pos len; omega
    have hpos := Nat.two_pow_pos len
    have hti := own_low own3 hl3
    obtain ⟨b, off, x, rfl, hxx, hcell⟩ := hti.get (k := l3 - 1) (by omega)
    have HX := Lib.hid (show x = fewRl xs R by rw [← getD_of hxx, hlen]; unfold fewRl fewM; rw [HT.out]; rfl)
    have HB := Lib.hid hb3
    have e1 : (l3 : Int) - 1 = ((l3 - 1 : Nat) : Int) := by omega
    have hi3 : ((l3 - 1 : Nat) : Int) < (l3 : Int) := by omega
    clear hxx hti own3 hb3 hlen
    go_wp2_with fail
    go_ret
    exact ⟨ret_int (by rw [HR.out, HX.out]), HB.out⟩
end Go.Proofs.YtjcbpnffmebihaaGreatDoor
namespace Go.Proofs.YtjcbpnffmebihaaGreatDoor

-- chapter 11, plain: fitting one after another
/-- the first of the rolls on which there is room, or how many there are -/
def roomK (lf : List Int) (x : Int) : Nat → Nat → Nat
  | 0, s => s
  | d + 1, s => if x ≤ lf.getD s 0 then s else roomK lf x d (s + 1)
theorem roomK_is (lf : List Int) (x : Int) : ∀ d s, s ≤ roomK lf x d s ∧ roomK lf x d s ≤ s + d ∧ (∀ j, s ≤ j → j < roomK lf x d s → lf.getD j 0 < x) ∧ (roomK lf x d s < s + d → x ≤ lf.getD (roomK lf x d s) 0)
  | 0, s => ⟨Nat.le_refl _, Nat.le_refl _, fun j h1 h2 => by simp only [roomK] at h2; omega, fun h => by simp only [roomK] at h; omega⟩
  | d + 1, s => by
    by_cases h : x ≤ lf.getD s 0
    · have e : roomK lf x (d + 1) s = s := by simp only [roomK]; rw [if_pos h]
      rw [e]
      exact ⟨Nat.le_refl _, by omega, fun j h1 h2 => by omega, fun _ => h⟩
    · have e : roomK lf x (d + 1) s = roomK lf x d (s + 1) := by simp only [roomK]; rw [if_neg h]
      obtain ⟨i1, i2, i3, i4⟩ := roomK_is lf x d (s + 1)
      rw [e]
      refine ⟨by omega, by omega, fun j h1 h2 => ?_, fun h2 => i4 (by omega)⟩
      rcases Nat.eq_or_lt_of_le h1 with h3 | h3
      · rw [← h3]; omega
      · exact i3 j (by omega) h2
def room (lf : List Int) (x : Int) : Nat := roomK lf x lf.length 0
theorem room_le (lf : List Int) (x : Int) : room lf x ≤ lf.length := by have := (roomK_is lf x lf.length 0).2.1; unfold room; omega
theorem room_lt {lf : List Int} {x : Int} {j : Nat} (h : j < room lf x) : lf.getD j 0 < x := (roomK_is lf x lf.length 0).2.2.1 j (Nat.zero_le _) h
theorem room_ge {lf : List Int} {x : Int} (h : room lf x < lf.length) : x ≤ lf.getD (room lf x) 0 := (roomK_is lf x lf.length 0).2.2.2 (by unfold room at h; omega)
/-- one more is put: what is left on the rolls -/
def putL (R : Int) (lf : List Int) (x : Int) : List Int := (if room lf x = lf.length then lf ++ [R] else lf).set (room lf x) ((if room lf x = lf.length then lf ++ [R] else lf).getD (room lf x) 0 - x)
/-- what is left on the rolls, and each one's roll, behind the first ones of an order -/
def fitS (T : Nat → Int) (R : Int) (o : Nat → Nat) : Nat → List Int × (Nat → Nat)
  | 0 => ([], fun _ => 0)
  | t + 1 => (putL R (fitS T R o t).1 (T (o t)), fun i => if i = o t then room (fitS T R o t).1 (T (o t)) else (fitS T R o t).2 i)
theorem putL_len (R : Int) (lf : List Int) (x : Int) : (putL R lf x).length = if room lf x = lf.length then lf.length + 1 else lf.length := by
  unfold putL; rw [List.length_set]; split <;> simp
theorem putL_getD (R : Int) (lf : List Int) (x : Int) {b : Nat} (hb : b < (putL R lf x).length) : (putL R lf x).getD b 0 = (if b < lf.length then lf.getD b 0 else R) - (if b = room lf x then x else 0) := by
  rw [putL_len] at hb
  have hr := room_le lf x
  have hL : ∀ j, j < (if room lf x = lf.length then lf ++ [R] else lf).length → (if room lf x = lf.length then lf ++ [R] else lf).getD j 0 = if j < lf.length then lf.getD j 0 else R := fun j hj => by
    by_cases e : room lf x = lf.length
    · rw [if_pos e] at hj ⊢
      rw [List.getD_eq_getElem?_getD, List.getD_eq_getElem?_getD, List.getElem?_append]
      by_cases g : j < lf.length
      · rw [if_pos g, if_pos g]
      · rw [if_neg g, if_neg g]
        have : j = lf.length := by simp at hj; omega
        subst this; simp
    · rw [if_neg e] at hj ⊢
      rw [if_pos hj]
  have hlen : (if room lf x = lf.length then lf ++ [R] else lf).length = if room lf x = lf.length then lf.length + 1 else lf.length := by split <;> simp
  have hb2 : b < (if room lf x = lf.length then lf ++ [R] else lf).length := by rw [hlen]; exact hb
  unfold putL
  rw [List.getD_eq_getElem?_getD, List.getElem?_set]
  by_cases e : room lf x = b
  · have hb3 : room lf x < (if room lf x = lf.length then lf ++ [R] else lf).length := by rw [e]; rw [e] at hb2; exact hb2
    rw [if_pos e, if_pos hb3, if_pos e.symm, Option.getD_some, hL _ hb3, e]
  · rw [if_neg e, if_neg (Ne.symm e), ← List.getD_eq_getElem?_getD, hL b hb2]
    omega
structure FitI (T : Nat → Int) (R : Int) (n : Nat) (o : Nat → Nat) (t : Nat) (lf : List Int) (p : Nat → Nat) : Prop where
  low : ∀ j, j < t → p (o j) < lf.length
  full : ∀ b, b < lf.length → ∃ j, j < t ∧ p (o j) = b
  load : ∀ b, b < lf.length → lf.getD b 0 = R - wsum (fun j => T (o j)) (fun j => p (o j) == b) t
  nn : ∀ b, b < lf.length → 0 ≤ lf.getD b 0
  first : ∀ j, j < t → ∀ b, b < p (o j) → lf.getD b 0 < T (o j)
theorem fit_inv {T : Nat → Int} {R : Int} {n : Nat} {o : Nat → Nat} (hT : ∀ i, i < n → 1 ≤ T i ∧ T i ≤ R) (ho : ∀ j, j < n → o j < n) (hinj : ∀ i j, i < n → j < n → o i = o j → i = j) : ∀ t, t ≤ n → FitI T R n o t (fitS T R o t).1 (fitS T R o t).2
  | 0, _ => ⟨fun j h => absurd h (by omega), fun b h => absurd h (by simp [fitS]), fun b h => absurd h (by simp [fitS]), fun b h => absurd h (by simp [fitS]), fun j h => absurd h (by omega)⟩
  | t + 1, h => by
    obtain ⟨i1, i2, i3, i4, i5⟩ := fit_inv hT ho hinj t (by omega)
    obtain ⟨lf, hlf⟩ : ∃ lf, (fitS T R o t).1 = lf := ⟨_, rfl⟩
    obtain ⟨p, hp⟩ : ∃ p, (fitS T R o t).2 = p := ⟨_, rfl⟩
    rw [hlf] at i1 i2 i3 i4 i5
    rw [hp] at i1 i2 i3 i5
    have e1 : (fitS T R o (t + 1)).1 = putL R lf (T (o t)) := by rw [fitS, hlf]
    have e2 : (fitS T R o (t + 1)).2 = fun i => if i = o t then room lf (T (o t)) else p i := by rw [fitS, hlf, hp]
    rw [e1, e2]
    have hlen := putL_len R lf (T (o t))
    have hr := room_le lf (T (o t))
    have hne : ∀ j, j < t → o j ≠ o t := fun j hj e => by have := hinj j t (by omega) (by omega) e; omega
    have hTt := hT (o t) (ho t (by omega))
    refine ⟨fun j hj => ?_, fun b hb => ?_, fun b hb => ?_, fun b hb => ?_, fun j hj b hb => ?_⟩
    · try dsimp only
      rw [hlen]
      by_cases g : j = t
      · subst g; rw [if_pos rfl]; split <;> omega
      · rw [if_neg (hne j (by omega))]; have := i1 j (by omega); split <;> omega
    · try dsimp only
      rw [hlen] at hb
      by_cases g : b = room lf (T (o t))
      · exact ⟨t, by omega, by rw [if_pos rfl, g]⟩
      · obtain ⟨j, hj, e⟩ := i2 b (by split at hb <;> omega)
        exact ⟨j, by omega, by rw [if_neg (hne j hj)]; exact e⟩
    · rw [putL_getD R lf _ hb, wsum]
      rw [hlen] at hb
      have hw : wsum (fun j => T (o j)) (fun j => (if o j = o t then room lf (T (o t)) else p (o j)) == b) t = wsum (fun j => T (o j)) (fun j => p (o j) == b) t := wsum_congr t (fun j hj => by rw [if_neg (hne j hj)]) (fun _ _ _ => rfl)
      try dsimp only
      rw [hw]
      by_cases g : b < lf.length
      · rw [if_pos g, i3 b g]
        by_cases g2 : b = room lf (T (o t))
        · rw [if_pos g2, if_pos (by simp [g2])]; omega
        · rw [if_neg g2, if_neg (by simp; exact fun e => g2 e.symm)]; omega
      · have hb2 : b = lf.length ∧ room lf (T (o t)) = lf.length := by split at hb <;> omega
        rw [if_neg g, if_pos (by omega), if_pos (by simp; omega), wsum_none t (fun j hj => by have := i1 j hj; simp; omega)]
        omega
    · rw [putL_getD R lf _ hb]
      rw [hlen] at hb
      by_cases g2 : b = room lf (T (o t))
      · rw [if_pos g2]
        by_cases g : b < lf.length
        · rw [if_pos g]
          have := room_ge (lf := lf) (x := T (o t)) (by omega)
          rw [← g2] at this; omega
        · rw [if_neg g]; omega
      · rw [if_neg g2]
        have g : b < lf.length := by split at hb <;> omega
        rw [if_pos g]; have := i4 b g; omega
    · have hle : ∀ b, b < lf.length → (putL R lf (T (o t))).getD b 0 ≤ lf.getD b 0 := fun b g => by
        rw [putL_getD R lf _ (by rw [hlen]; split <;> omega), if_pos g]; split <;> omega
      try dsimp only at hb
      by_cases g : j = t
      · subst g
        rw [if_pos rfl] at hb
        have := room_lt hb
        have := hle b (by omega)
        omega
      · rw [if_neg (hne j (by omega))] at hb
        have := i5 j (by omega) b hb
        have := hle b (by have := i1 j (by omega); omega)
        omega
/-- how many rolls, one after another -/
def usedM (T : Nat → Int) (R : Int) (o : Nat → Nat) (t : Nat) : Nat := (fitS T R o t).1.length
theorem used_step (T : Nat → Int) (R : Int) (o : Nat → Nat) (t : Nat) : usedM T R o (t + 1) = usedM T R o t ∨ (usedM T R o (t + 1) = usedM T R o t + 1 ∧ room (fitS T R o t).1 (T (o t)) = usedM T R o t) := by
  unfold usedM
  rw [fitS]
  try dsimp only
  rw [putL_len]
  by_cases h : room (fitS T R o t).1 (T (o t)) = (fitS T R o t).1.length
  · rw [if_pos h]; exact .inr ⟨rfl, h⟩
  · rw [if_neg h]; exact .inl rfl
end Go.Proofs.YtjcbpnffmebihaaGreatDoor
namespace Go.Proofs.YtjcbpnffmebihaaGreatDoor

-- chapter 11, plain: what RollsBy takes, against any plan
def wsumL (f : Nat → Int) (P : Nat → Bool) : List Nat → Int
  | [] => 0
  | x :: l => (if P x then f x else 0) + wsumL f P l
theorem wsumL_perm {f : Nat → Int} {P : Nat → Bool} {l l' : List Nat} (h : l.Perm l') : wsumL f P l = wsumL f P l' := by
  induction h with
  | nil => rfl
  | cons x _ ih => rw [wsumL, wsumL, ih]
  | swap x y l => simp only [wsumL]; omega
  | trans _ _ ih1 ih2 => rw [ih1, ih2]
theorem wsumL_snoc (f : Nat → Int) (P : Nat → Bool) (x : Nat) : ∀ l : List Nat, wsumL f P (l ++ [x]) = wsumL f P l + if P x then f x else 0
  | [] => by simp [wsumL]
  | y :: l => by rw [List.cons_append, wsumL, wsumL, wsumL_snoc f P x l]; omega
theorem wsumL_range (f : Nat → Int) (P : Nat → Bool) : ∀ n, wsumL f P (List.range n) = wsum f P n
  | 0 => rfl
  | n + 1 => by rw [List.range_succ, wsumL_snoc, wsumL_range f P n, wsum]
theorem wsumL_at (f : Nat → Int) (P : Nat → Bool) (l : List Nat) : ∀ k, k ≤ l.length → wsumL f P (l.take k) = wsum (fun j => f (l.getD j 0)) (fun j => P (l.getD j 0)) k
  | 0, _ => rfl
  | k + 1, h => by
    have e : l.take (k + 1) = l.take k ++ [l.getD k 0] := by
      rw [List.take_add_one, List.getD_eq_getElem?_getD, List.getElem?_eq_getElem (show k < l.length by omega)]; rfl
    rw [e, wsumL_snoc, wsumL_at f P l k (by omega), wsum]
theorem wsum_perm {f : Nat → Int} {P : Nat → Bool} {l : List Nat} {n : Nat} (h : l.Perm (List.range n)) : wsum (fun j => f (l.getD j 0)) (fun j => P (l.getD j 0)) n = wsum f P n := by
  have hl : l.length = n := by simpa using h.length_eq
  have := wsumL_at f P l n (by omega)
  rw [← this, List.take_of_length_le (by omega), wsumL_perm h, wsumL_range]
theorem perm_lt {l : List Nat} {n : Nat} (h : l.Perm (List.range n)) {j : Nat} (hj : j < n) : l.getD j 0 < n := by
  have hl : l.length = n := by simpa using h.length_eq
  have := h.mem_iff.1 (getD_mem (l := l) (k := j) (by omega))
  simpa using this
theorem perm_inj {l : List Nat} {n : Nat} (h : l.Perm (List.range n)) {i j : Nat} (hi : i < n) (hj : j < n) (e : l.getD i 0 = l.getD j 0) : i = j := by
  have hl : l.length = n := by simpa using h.length_eq
  have hn : l.Nodup := h.symm.nodup List.nodup_range
  have key : ∀ a b, a < b → b < n → l.getD a 0 ≠ l.getD b 0 := fun a b hab hb => by
    have := List.pairwise_iff_getElem.1 hn a b (by omega) (by omega) hab
    rw [List.getD_eq_getElem?_getD, List.getD_eq_getElem?_getD, List.getElem?_eq_getElem (by omega), List.getElem?_eq_getElem (by omega)]
    exact this
  rcases Nat.lt_trichotomy i j with g | g | g
  · exact absurd e (key i j g hj)
  · exact g
  · exact absurd e.symm (key j i g hi)
theorem perm_on {l : List Nat} {n : Nat} (h : l.Perm (List.range n)) {i : Nat} (hi : i < n) : ∃ j, j < n ∧ l.getD j 0 = i := by
  have hl : l.length = n := by simpa using h.length_eq
  have hm : i ∈ l := h.mem_iff.2 (by simpa using hi)
  obtain ⟨j, hj, e⟩ := List.mem_iff_getElem.1 hm
  exact ⟨j, by omega, by rw [List.getD_eq_getElem?_getD, List.getElem?_eq_getElem hj]; exact e⟩
section
variable {T : Nat → Int} {R : Int} {n : Nat} {l : List Nat}
def ordO (l : List Nat) (j : Nat) : Nat := l.getD j 0
/-- each one's roll, and how many -/
def rollP (T : Nat → Int) (R : Int) (l : List Nat) (n : Nat) : Nat → Nat := (fitS T R (ordO l) n).2
def rollU (T : Nat → Int) (R : Int) (l : List Nat) (n : Nat) : Nat := usedM T R (ordO l) n
theorem roll_inv (hT : ∀ i, i < n → 1 ≤ T i ∧ T i ≤ R) (h : l.Perm (List.range n)) {t : Nat} (ht : t ≤ n) : FitI T R n (ordO l) t (fitS T R (ordO l) t).1 (fitS T R (ordO l) t).2 :=
  fit_inv hT (fun _ hj => perm_lt h hj) (fun _ _ hi hj e => perm_inj h hi hj e) t ht
/-- the rolls hold what is cut from them; each one is begun -/
theorem roll_plan (hT : ∀ i, i < n → 1 ≤ T i ∧ T i ≤ R) (h : l.Perm (List.range n)) : (∀ i, i < n → rollP T R l n i < rollU T R l n) ∧ (∀ b, b < rollU T R l n → ∃ i, i < n ∧ rollP T R l n i = b) ∧
    (∀ b, b < rollU T R l n → wsum T (fun i => rollP T R l n i == b) n ≤ R) ∧ (∀ i, i < n → ∀ b, b < rollP T R l n i → R < wsum T (fun i => rollP T R l n i == b) n + T i) := by
  obtain ⟨i1, i2, i3, i4, i5⟩ := roll_inv hT h (Nat.le_refl n)
  have hw : ∀ b, wsum (fun j => T (ordO l j)) (fun j => rollP T R l n (ordO l j) == b) n = wsum T (fun i => rollP T R l n i == b) n := fun b => wsum_perm (f := T) (P := fun i => rollP T R l n i == b) h
  refine ⟨fun i hi => ?_, fun b hb => ?_, fun b hb => ?_, fun i hi b hb => ?_⟩
  · obtain ⟨j, hj, rfl⟩ := perm_on h hi
    exact i1 j hj
  · obtain ⟨j, hj, e⟩ := i2 b hb
    exact ⟨_, perm_lt h hj, e⟩
  · have e1 := i3 b hb
    have e2 := i4 b hb
    have e3 := hw b
    unfold rollP at e3 ⊢
    omega
  · obtain ⟨j, hj, rfl⟩ := perm_on h hi
    have hj1 := i1 j hj
    have hb' : b < (fitS T R (ordO l) n).2 (ordO l j) := hb
    have e1 := i3 b (by omega)
    have e2 := i5 j hj b hb
    have e3 := hw b
    have e4 : ordO l j = l.getD j 0 := rfl
    unfold rollP at e3 ⊢
    rw [e4] at e2
    omega
end
end Go.Proofs.YtjcbpnffmebihaaGreatDoor
