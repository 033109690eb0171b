import Derived.Test.YtobfencmfeneoabStatSpec
import Derived.Test.YtobfencmfeneoabStatM
import Derived.Test.YtobfencmfeneoabApp
import Derived.Test.YtobfencmfeneoabDr
namespace Go.Proofs.Ytobfencmfeneoab
open Go.RowKit Go.WideShapes

theorem own_lit (w : World) (xs : List Int) (len : Nat) (hl : xs.length = len) (hs : len ≤ 1048576) : (w.alloc (.cells (cellsOf xs) 3)).ownsRow w.heap.size 3 1 (.slice (some ⟨w.heap.size, 0, none⟩) len len) len (xs.map (.int .i64)) :=
  ⟨by simp [hl], .inr ⟨w.heap.size, len, cellsOf xs, rfl, Nat.le_refl _, heap_alloc_new w _, Nat.le_refl _, by unfold maxLen; omega, by simp [cellsOf, hl], by simp [cellsOf]; exact List.take_of_length_le (by simp [hl])⟩⟩
theorem drew_two {a b c : World} (h1 : Drew a b) (h2 : Drew b c) : Drew a c := by obtain ⟨q, rfl⟩ := h2; exact h1.drew q
set_option maxRecDepth 100000 in
set_option maxHeartbeats 8000000 in
theorem stations_any (a a2 : Option Addr) (len cap len2 cap2 : Nat) (T ys : List Int) (c : Int) (w : World) (hx : IntsAt w (· < w.heap.size) a len T) (hy : IntsAt w (· < w.heap.size) a2 len2 ys) (hv : tasksP T ys) (hc : 0 ≤ c ∧ c ≤ 61) :
    Calls Try.prog 24 #[.slice a len cap, .slice a2 len2 cap2, .int .i64 c] w (NewOwn w (tabP T (natsOf ys) c (2 ^ len - 1))) := by
  have HL := Lib.hid hx.lenEq
  have HL2 := Lib.hid hy.lenEq
  have hl6 : len ≤ 6 := by have := hv.2.2; have := HL.out; omega
  have hle : len = len2 := by have := hv.2.1; have := HL.out; have := HL2.out; omega
  subst hle
  obtain ⟨hc0, hc1⟩ := hc
  have HA := Lib.hid (natsOf_len ys)
  have HPI := Lib.hid hv.1.2
  have HT := Lib.hid (tasks_at hv.1.1).1
  clear hv
  have HPL := Lib.hid (powV_eq len (by omega))
  have hpb : 1 ≤ 2 ^ len ∧ 2 ^ len ≤ 64 := ⟨Nat.pow_pos (by omega), Nat.pow_le_pow_right (n := 2) (by omega) hl6⟩
  generalize 2 ^ len = P at hpb HPL ⊢
  go_enter Try.func24, Try.ntmps24
  go_wp2_with fail
  refine (power_all len (by omega) w).mono ?_
  rintro e w' ⟨rfl, rfl⟩
  rw [HPL.out]
  go_wp2_with fail
  go_loopw [8, 9] (fun v i wr => ∃ (k cp : Nat) (ax : Option Addr), 1 ≤ k ∧ k ≤ P ∧ i = .int .i64 k ∧ v = .slice ax k cp ∧ wr.ownsRow w.heap.size 3 1 v k ((tabP T (natsOf ys) c (k - 1)).map (.int .i64)) ∧ Below w.heap.size w wr) (fun _ i _ => P - (intOf i).toNat)
  case atStart => exact ⟨1, 1, _, Nat.le_refl _, hpb.1, rfl, rfl, own_lit w [0] 1 rfl (by omega), (Below.refl _ _).alloc (Nat.le_refl _) _⟩
  case round =>
    obtain ⟨k, cp, ax, hk0, hk, rfl, rfl, hown, hB⟩ := hrel
    obtain ⟨wo, rfl⟩ : ∃ wo : World, wo = wr := ⟨_, rfl⟩
    have HOWN := Lib.hid hown
    have HB := Lib.hid hB
    clear hown hB
    by_cases hlt : k < P
    · have hlti : (k : Int) < (P : Int) := by omega
      have HST := Lib.hid (tabP_step T (natsOf ys) c hk0)
      have HTB := Lib.hid (fun r (h : r < k) => tab_bd (T := T) (A := natsOf ys) (c := c) h)
      have HSB := Lib.hid (fun R (h : R ≤ k) => scan_bd (T := T) (A := natsOf ys) (c := c) h)
      have HLEN := Lib.hid (show (tabP T (natsOf ys) c (k - 1)).length = k by rw [tabP_len]; omega)
      generalize tabP T (natsOf ys) c (k - 1) = t at *
      go_wp2_with fail
      refine (closed_any _ a2 len cap2 ys k wo (hy.below HB.out) HPI.out hl6 (by omega)).mono ?_
      rintro e w' ⟨rfl, rfl⟩
      cases hcl : cloM (natsOf ys) k len
      · have HN := Lib.hid (show nxtP T (natsOf ys) c t k = -1 by unfold nxtP; rw [HA.out, HL2.out, hcl]; rfl)
        clear hcl
        go_wp2_with (at_builtin; refine wpApp1 rfl _ _ rfl w.heap.size _ _ _ _ _ rfl HOWN.out rfl HB.out.size (by omega) ?_)
        intro a6 c6 w6 hown hc6 hgr
        have HO6 := Lib.hid hown
        have HG6 := Lib.hid hgr
        clear hown hgr
        go_wp2
        go_roundw
        case rel => exact ⟨k + 1, c6, a6, by omega, by omega, by go_num, rfl, by rw [Nat.add_sub_cancel, HST.out, HN.out]; exact own_snoc HO6.out, HB.out.grown HG6.out HB.out.size (own_block HOWN.out)⟩
        case measure => simp [intOf] <;> omega
      · have HN := Lib.hid (show nxtP T (natsOf ys) c t k = scanP T c t k k by unfold nxtP; rw [HA.out, HL2.out, hcl]; rfl)
        clear hcl
        go_wp2_with fail
        go_loopw [10, 11] (fun b r wr => ∃ q : Nat, q ≤ k ∧ r = .int .i64 q ∧ b = .int .i64 (scanP T c t k q) ∧ Drew wo wr) (fun _ r _ => k - (intOf r).toNat)
        case atStart => exact ⟨0, Nat.zero_le _, rfl, rfl, Drew.refl _⟩
        case round =>
          obtain ⟨q, hq, rfl, rfl, hdw⟩ := hrel
          by_cases hqk : q < k
          · have hqi : (q : Int) < (k : Int) := by omega
            have hty : IntsAt wr (· < wr.heap.size) (ax) k t := by
              obtain ⟨z, rfl⟩ := hdw; exact own_low (own_drewN HOWN.out z) (by omega)
            obtain ⟨b, off, x, rfl, hxx, hcell⟩ := hty.get hqk
            have hxb := HTB.out q hqk
            have hsb := HSB.out q hq
            rw [getD_of hxx] at hxb
            have HS := Lib.hid (show scanP T c t k (q + 1) = if okR T c t k q ∧ (scanP T c t k q < 0 ∨ x + 1 < scanP T c t k q) then x + 1 else scanP T c t k q by rw [scanP, getD_of hxx])
            have HO := Lib.hid (show okR T c t k q ↔ q &&& k = q ∧ 0 ≤ x ∧ csum T (fun i => (dif k q).testBit i) len ≤ c by unfold okR; rw [getD_of hxx, HL.out])
            have EA := Lib.hid (i_and q k (by omega) (by omega))
            have EN := Lib.hid (i_not k q (by omega) (by omega))
            have hdl := dif_le k q
            have hlb := csum_range HT.out (fun i => (dif k q).testBit i) len
            have HLD := Lib.hid (show ∀ w1, IntsAt w1 (· < w.heap.size) a len T → Calls Try.prog 40 #[.slice a len cap, .int .i64 (dif k q : Nat)] w1 (fun e w' => e = .returned (.int .i64 (csum T (fun i => (dif k q).testBit i) len)) ∧ Drew w1 w') from fun w1 h1 => load_any _ a len cap T (dif k q) w1 h1 HT.out (by omega) (by omega))
            have HX1 := Lib.hid (Drew.ints (hx.below HB.out) hdw)
            clear hxx hty
            generalize scanP T c t k q = sv at hsb HS
            generalize csum T (fun i => (dif k q).testBit i) len = L at hlb HLD HO
            by_cases h1 : q &&& k = q
            · have e1 : (bits .and .i64 (q : Int) (k : Int) == (q : Int)) = true := by rw [EA.out, h1]; simp
              by_cases h2 : 0 ≤ x
              · by_cases h3 : L ≤ c
                · have HK := Lib.hid (HO.out.mpr ⟨h1, h2, h3⟩)
                  by_cases h4 : sv < 0
                  · have HS := Lib.hid (HS.out.trans (if_pos ⟨HK.out, .inl h4⟩))
                    go_wp2_with fail
                    rw [EN.out]
                    refine (HLD.out wr HX1.out).mono ?_
                    rintro e w' ⟨rfl, hdw2⟩
                    have HDW := Lib.hid (drew_two hdw hdw2)
                    have hcell2 : w'.cell? ⟨b, off + q, none⟩ = some (.int .i64 x) := by obtain ⟨z, rfl⟩ := hdw2; exact hcell
                    clear hcell
                    go_wp2_with fail
                    go_roundw
                    case rel => exact ⟨q + 1, by omega, by go_num, by rw [HS.out], HDW.out⟩
                    case measure => simp [intOf] <;> omega
                  · by_cases h5 : x + 1 < sv
                    · have HS := Lib.hid (HS.out.trans (if_pos ⟨HK.out, .inr h5⟩))
                      go_wp2_with fail
                      rw [EN.out]
                      refine (HLD.out wr HX1.out).mono ?_
                      rintro e w' ⟨rfl, hdw2⟩
                      have HDW := Lib.hid (drew_two hdw hdw2)
                      have hcell2 : w'.cell? ⟨b, off + q, none⟩ = some (.int .i64 x) := by obtain ⟨z, rfl⟩ := hdw2; exact hcell
                      clear hcell
                      go_wp2_with fail
                      go_roundw
                      case rel => exact ⟨q + 1, by omega, by go_num, by rw [HS.out], HDW.out⟩
                      case measure => simp [intOf] <;> omega
                    · have HS := Lib.hid (HS.out.trans (if_neg (fun h => h.2.elim h4 h5)))
                      go_wp2_with fail
                      rw [EN.out]
                      refine (HLD.out wr HX1.out).mono ?_
                      rintro e w' ⟨rfl, hdw2⟩
                      have HDW := Lib.hid (drew_two hdw hdw2)
                      have hcell2 : w'.cell? ⟨b, off + q, none⟩ = some (.int .i64 x) := by obtain ⟨z, rfl⟩ := hdw2; exact hcell
                      clear hcell
                      go_wp2_with fail
                      go_roundw
                      case rel => exact ⟨q + 1, by omega, by go_num, by rw [HS.out], HDW.out⟩
                      case measure => simp [intOf] <;> omega
                · have HS := Lib.hid (HS.out.trans (if_neg (fun h => h3 (HO.out.mp h.1).2.2)))
                  go_wp2_with fail
                  rw [EN.out]
                  refine (HLD.out wr HX1.out).mono ?_
                  rintro e w' ⟨rfl, hdw2⟩
                  have HDW := Lib.hid (drew_two hdw hdw2)
                  go_wp2_with fail
                  go_roundw
                  case rel => exact ⟨q + 1, by omega, by go_num, by rw [HS.out], HDW.out⟩
                  case measure => simp [intOf] <;> omega
              · have HS := Lib.hid (HS.out.trans (if_neg (fun h => h2 (HO.out.mp h.1).2.1)))
                go_wp2_with fail
                go_roundw
                case rel => exact ⟨q + 1, by omega, by go_num, by rw [HS.out], hdw⟩
                case measure => simp [intOf] <;> omega
            · have e1 : (bits .and .i64 (q : Int) (k : Int) == (q : Int)) = false := by rw [EA.out]; simp; omega
              have HS := Lib.hid (HS.out.trans (if_neg (fun h => h1 (HO.out.mp h.1).1)))
              go_wp2_with fail
              go_roundw
              case rel => exact ⟨q + 1, by omega, by go_num, by rw [HS.out], hdw⟩
              case measure => simp [intOf] <;> omega
          · obtain rfl : k = q := by omega
            obtain ⟨z, rfl⟩ := hdw
            have HO9 := Lib.hid (own_drewN HOWN.out z)
            have HB9 := Lib.hid (HB.out.trans (Drew.below (⟨z, rfl⟩ : Drew wo (wo.drewN z)) w.heap.size))
            clear HOWN HB
            generalize wo.drewN z = w5 at *
            rw [← HN.out]
            go_wp2_with (at_builtin; refine wpApp1 rfl _ _ rfl w.heap.size _ _ _ _ _ rfl HO9.out rfl HB9.out.size (by omega) ?_)
            intro a6 c6 w6 hown hc6 hgr
            have HO6 := Lib.hid hown
            have HG6 := Lib.hid hgr
            clear hown hgr
            go_wp2
            go_roundw
            case rel => exact ⟨k + 1, c6, a6, by omega, by omega, by go_num, rfl, by rw [Nat.add_sub_cancel, HST.out]; exact own_snoc HO6.out, HB9.out.grown HG6.out HB9.out.size (own_block HO9.out)⟩
            case measure => simp [intOf] <;> omega
    · obtain rfl : P = k := by omega
      go_wp2
      go_ret
      exact ⟨_, _, _, rfl, by omega, HOWN.out, HB.out⟩
end Go.Proofs.Ytobfencmfeneoab
