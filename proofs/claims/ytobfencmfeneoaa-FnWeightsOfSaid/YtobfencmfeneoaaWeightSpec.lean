import Derived.Test.YtobfencmfeneoaaLoadSpec
import Derived.Test.YtobfencmfeneoaaResC
namespace Go.Proofs.Ytobfencmfeneoaa
open Go.RowKit Go.WideShapes

theorem bsM_small {A : List Nat} {i m : Nat} (h : m ≤ 6) : bsM A i m ≤ 64 := by
  have := bsM_lt A i m; have := Nat.pow_le_pow_right (n := 2) (by omega) h; omega
theorem bsM_next {A : List Nat} {i m : Nat} (h : i < m) : bsM A i (m + 1) = if A.getD m 0 &&& bsM A i m ≠ 0 then bsM A i m ||| 2 ^ m else bsM A i m := by
  rw [bsM, if_neg (by omega), if_neg (by omega), Nat.or_two_pow_eq_add_of_lt (bsM_lt A i m)]
set_option maxRecDepth 100000 in
set_option maxHeartbeats 4000000 in
theorem weights_any (a a2 : Option Addr) (len cap len2 cap2 : Nat) (T ys : List Int) (w : World) (hx : IntsAt w (· < w.heap.size) a len T) (hy : IntsAt w (· < w.heap.size) a2 len2 ys) (hv : tasksP T ys) :
    Calls Try.prog 28 #[.slice a len cap, .slice a2 len2 cap2] w (NewOwn w (weightsM T (natsOf ys))) := by
  have HL := Lib.hid hx.lenEq
  have HL2 := Lib.hid hy.lenEq
  have hl6 : len ≤ 6 := by have := hv.2.2; have := HL.out; omega
  have hle : len = len2 := by have := hv.2.1; have := HL.out; have := HL2.out; omega
  subst hle
  have HV := Lib.hid hv
  obtain ⟨hT, hT1⟩ := tasks_at hv.1.1
  have HT := Lib.hid hT
  clear hv hT hT1
  go_enter Try.func28, Try.ntmps28
  go_wp2_with fail
  go_loopw [6, 7] (fun v i wr => ∃ (k cp : Nat) (ax : Option Addr), k ≤ len ∧ i = .int .i64 k ∧ v = .slice ax k cp ∧ wr.ownsRow w.heap.size 3 1 v k ((tab (wM T (natsOf ys)) k).map (.int .i64)) ∧ Below w.heap.size w wr) (fun _ i _ => len - (intOf i).toNat)
  case atStart => exact ⟨0, 0, _, Nat.zero_le _, rfl, rfl, World.ownsRow_made _ _ _ (Nat.le_refl _) (Nat.zero_le _) rfl, (Below.refl _ _).alloc (Nat.le_refl _) _⟩
  case round =>
    obtain ⟨k, cp, ax, hk, rfl, rfl, hown, hB⟩ := hrel
    obtain ⟨wo, rfl⟩ : ∃ wo : World, wo = wr := ⟨_, rfl⟩
    have HOWN := Lib.hid hown
    have HB := Lib.hid hB
    clear hown hB
    by_cases hlt : k < len
    · have hlti : (k : Int) < (len : Int) := by omega
      have hb0 := p2_bd (n := k) (by omega)
      have HP := Lib.hid (powV_eq k (by omega))
      have HS0 := Lib.hid (show (2 ^ k : Nat) = bsM (natsOf ys) k (k + 1) by rw [bsM, if_neg (by omega), if_pos rfl])
      go_wp2_with fail
      refine (power_all k (by omega) wo).mono ?_
      rintro e w' ⟨rfl, rfl⟩
      rw [HP.out, HS0.out]
      go_wp2_with fail
      go_loopw [8, 9] (fun s v wr => ∃ m : Nat, k + 1 ≤ m ∧ m ≤ len ∧ v = .int .i64 m ∧ s = .int .i64 ((bsM (natsOf ys) k m : Nat) : Int) ∧ Drew wo wr) (fun _ v _ => len - (intOf v).toNat)
      case atStart => exact ⟨k + 1, Nat.le_refl _, by omega, by go_num, rfl, Drew.refl _⟩
      case round =>
        obtain ⟨m, hm1, hm2, rfl, rfl, hdw⟩ := hrel
        by_cases hml : m < len
        · obtain ⟨b, off, x, rfl, hxx, hc⟩ := (Drew.ints (hy.below HB.out) hdw).get (k := m) (by omega)
          have hxe : x = (((natsOf ys).getD m 0 : Nat) : Int) := by rw [natsOf_get HV.out.1.2 (by rw [HL2.out]; omega), getD_of hxx]
          subst hxe
          have hsb := bsM_small (A := natsOf ys) (i := k) (m := m) (by omega)
          have hab := natsOf_small HV.out.1.2 (i := m) (by omega)
          have HN := Lib.hid (bsM_next (A := natsOf ys) (i := k) (m := m) (by omega))
          have HPM := Lib.hid (powV_eq m (by omega))
          have hpb := p2_bd (n := m) (by omega)
          clear hxx
          generalize bsM (natsOf ys) k m = s at hsb HN ⊢
          generalize (natsOf ys).getD m 0 = am at hab HN hc
          have ea := i_and am s (by omega) (by omega)
          have hmi : (m : Int) < (len : Int) := by omega
          by_cases hz : am &&& s = 0
          · have hne : (bits .and .i64 (am : Int) (s : Int) != 0) = false := by rw [ea, hz]; rfl
            have HN := Lib.hid (HN.out.trans (if_neg (by simp [hz])))
            have EA := Lib.hid ea
            clear ea
            go_wp2_with fail
            go_roundw
            case rel => exact ⟨m + 1, by omega, by omega, by go_num, by rw [HN.out], hdw⟩
            case measure => simp [intOf] <;> omega
          · have hne : (bits .and .i64 (am : Int) (s : Int) != 0) = true := by rw [ea]; simp; omega
            have HN := Lib.hid (HN.out.trans (if_pos hz))
            have EA := Lib.hid ea
            clear ea
            clear hne
            have hne : (bits .and .i64 (am : Int) (s : Int) != 0) = true := by rw [EA.out]; simp; omega
            go_wp2_with fail
            refine (power_all m (by omega) wr).mono ?_
            rintro e w' ⟨rfl, rfl⟩
            rw [HPM.out]
            have EO := Lib.hid (i_or s (2 ^ m) (by omega) (by have := Nat.pow_le_pow_right (n := 2) (by omega) (show m ≤ 6 by omega); omega))
            generalize 2 ^ m = pm at EO HN hpb ⊢
            clear hne
            go_wp2_with fail
            go_roundw
            case rel => exact ⟨m + 1, by omega, by omega, by go_num, by rw [HN.out, ← EO.out], hdw⟩
            case measure => simp [intOf] <;> omega
        · obtain rfl : len = m := by omega
          have hsb := bsM_small (A := natsOf ys) (i := k) (m := len) (by omega)
          have HW := Lib.hid (show csum T (fun i => (bsM (natsOf ys) k len).testBit i) len = wM T (natsOf ys) k by unfold wM; rw [HL.out])
          generalize bsM (natsOf ys) k len = s at hsb HW ⊢
          go_wp2_with fail
          refine (load_any _ a len cap T s wr (Drew.ints (hx.below HB.out) hdw) HT.out (by omega) (by omega)).mono ?_
          rintro e w' ⟨rfl, q0, rfl⟩
          obtain ⟨q, hq⟩ := hdw.drew q0
          rw [hq]
          rw [HW.out]
          have HO9 := Lib.hid (own_drewN HOWN.out q)
          have HB9 := Lib.hid (HB.out.trans (Drew.below (⟨q, rfl⟩ : Drew wo (wo.drewN q)) w.heap.size))
          clear HOWN HB
          generalize wo.drewN q = w5 at *
          go_wp2_with (at_builtin; refine wpApp1 rfl _ _ rfl w.heap.size _ _ _ _ _ rfl HO9.out rfl HB9.out.size (by omega) ?_)
          intro a6 c6 w6 hown hc6 hgr
          have HO6 := Lib.hid hown
          have HG6 := Lib.hid hgr
          clear hown hgr
          go_wp2
          go_roundw
          case rel => exact ⟨k + 1, c6, a6, by omega, by go_num, rfl, by rw [tab_succ]; exact own_snoc HO6.out, HB9.out.grown HG6.out HB9.out.size (own_block HO9.out)⟩
          case measure => simp [intOf] <;> omega
    · obtain rfl : len = k := by omega
      go_wp2
      go_ret
      have e : weightsM T (natsOf ys) = tab (wM T (natsOf ys)) len := by unfold weightsM tab; rw [HL.out]
      rw [e]
      exact ⟨_, _, _, rfl, by omega, HOWN.out, HB.out⟩
end Go.Proofs.Ytobfencmfeneoaa
