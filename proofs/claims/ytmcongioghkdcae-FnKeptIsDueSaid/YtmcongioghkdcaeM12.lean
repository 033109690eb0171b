import Derived.Test.YtmcongioghkdcaeM8
import Derived.Test.YtmcongioghkdcaeM5
import Derived.Test.YtmcongioghkdcaeM6
import Derived.Test.YtmcongioghkdcaeM2
import Derived.Test.YtmcongioghkdcaeM9
namespace Go.Proofs.Ytmcongioghkdcae
open Go.RowKit Go.WideShapes

theorem ltX_bd {rows : List (List Int)} (hp : jobsM rows = true) {n s : Nat} (hn : n ≤ 8) (hs : s < 2 ^ n) : 0 ≤ ltX (ta rows) (tb rows) (td rows) n s ∧ ltX (ta rows) (tb rows) (td rows) n s ≤ 5600 := by
  refine ⟨ltX_nn (fun x => (j_bd hp x).2.1.1) s s (Nat.le_refl _) hs, ?_⟩
  obtain ⟨l, h1, h2, _, h4⟩ := lt_is (t := ta rows) (w := tb rows) (d := td rows) (fun x => (j_bd hp x).2.1.1) (n := n) s s (Nat.le_refl _) hs
  rw [← h4]
  have hl : l.length ≤ 8 := by
    have := List.Nodup.length_le_of_subset h1 (fun x hx => List.mem_range.2 (h2 x hx))
    rw [List.length_range] at this; omega
  have := (cost_bd (fun x => (j_bd hp x).1) (tard_bd hp) hl l.length).2
  rwa [List.take_length] at this
theorem bsum_bd {f : Nat → Int} (h : ∀ x, 0 ≤ f x ∧ f x ≤ 9) (s : Nat) : ∀ n, 0 ≤ bsum f s n ∧ bsum f s n ≤ 9 * (n : Int)
  | 0 => by simp [bsum]
  | n + 1 => by have := bsum_bd h s n; have := h n; rw [bsum]; split <;> omega
theorem scanL_bd {w d : Nat → Int} {tb : List Int} {tm : Int} {s : Nat} (hw : ∀ x, 0 ≤ w x ∧ w x ≤ 9) (hd : ∀ x, 0 ≤ d x ∧ d x ≤ 60) (htm : 0 ≤ tm ∧ tm ≤ 72) (htb : ∀ q, 0 ≤ tb.getD q 0 ∧ tb.getD q 0 ≤ 5600) : ∀ n, -1 ≤ scanL w d tb tm s n ∧ scanL w d tb tm s n ≤ 6300
  | 0 => by simp [scanL]
  | n + 1 => by
    have h1 := scanL_bd (s := s) hw hd htm htb n
    have h2 := htb (s - 2 ^ n)
    have h3 := hd n
    have h4 := mul_boxJ (hw n).1 (hw n).2 (show 0 ≤ max (tm - d n) 0 by omega) (show max (tm - d n) 0 ≤ 72 by omega)
    have h5 : tardG w d n tm = w n * max (tm - d n) 0 := rfl
    rw [scanL]
    split <;> omega
/-- what LeastTardy answers -/
def ltRes (rows : List (List Int)) : Int := if jobsM rows = true then ltX (ta rows) (tb rows) (td rows) rows.length (2 ^ rows.length - 1) else -1
set_option maxRecDepth 100000 in
set_option maxHeartbeats 8000000 in
theorem leastTardy_any (a : Option Addr) (len cap : Nat) (rows : List (List Int)) (w : World) (h : RowsAt w (· < w.heap.size) a len rows) (hp : jobsM rows = true) (hl8 : len ≤ 8) :
    Calls Try.prog 33 #[.slice a len cap] w (NewOwn w (ltT (ta rows) (tb rows) (td rows) len (2 ^ len - 1))) := by
  have HP := Lib.hid (jobs_get hp).2
  have HB := Lib.hid (fun x => j_bd hp x)
  have HG := Lib.hid h
  have hp2 : 1 ≤ 2 ^ len ∧ 2 ^ len ≤ 256 := ⟨Nat.two_pow_pos _, Nat.pow_le_pow_right (n := 2) (j := 8) (by omega) hl8⟩
  have HPV := Lib.hid (powV_eq len (by omega))
  have HLB := Lib.hid (fun s hs => ltX_bd hp hl8 (s := s) hs)
  obtain ⟨P, hP⟩ : ∃ P, 2 ^ len = P := ⟨_, rfl⟩
  rw [hP] at hp2 HPV HLB ⊢
  have HPE := Lib.hid hP
  have HPW := Lib.hid (fun w => power_all len (by omega) w)
  rw [HPV.out] at HPW
  have ho0 := own_one w (B := w.heap.size) (Nat.le_refl _) 0
  clear h hp hP
  go_enter Try.func33, Try.ntmps33
  go_wp2_with fail
  go_loopw [3, 4] (fun v s wr => ∃ (σ cp : Nat) (ax : Option Addr), s = .int .i64 ((σ + 1 : Nat) : Int) ∧ σ + 1 ≤ P ∧ v = .slice ax (σ + 1) cp ∧ wr.ownsRow w.heap.size 3 1 v (σ + 1) ((ltT (ta rows) (tb rows) (td rows) len σ).map (.int .i64)) ∧ Below w.heap.size w wr) (fun _ s _ => P - (intOf s).toNat)
  case atStart => exact ⟨0, 1, _, rfl, by omega, rfl, ho0, (Below.refl _ _).alloc (Nat.le_refl _) _⟩
  case round =>
    clear ho0
    obtain ⟨σ, cp, ax, rfl, hσ, rfl, hown, hB⟩ := hrel
    obtain ⟨wo, rfl⟩ : ∃ wo : World, wo = wr := ⟨_, rfl⟩
    have HOW := Lib.hid hown
    have HBW := Lib.hid hB
    clear hown hB
    by_cases hlt : σ + 1 < P
    · have HRO := Lib.hid (HG.out.below HBW.out)
      have HLS := Lib.hid (show ltT (ta rows) (tb rows) (td rows) len (σ + 1) = ltT (ta rows) (tb rows) (td rows) len σ ++ [scanL (tb rows) (td rows) (ltT (ta rows) (tb rows) (td rows) len σ) (bsum (ta rows) (σ + 1) len) (σ + 1) len] from rfl)
      have HTB := Lib.hid (show ∀ q, q ≤ σ → 0 ≤ (ltT (ta rows) (tb rows) (td rows) len σ).getD q 0 ∧ (ltT (ta rows) (tb rows) (td rows) len σ).getD q 0 ≤ 5600 from fun q hq => by rw [ltT_at hq]; exact HLB.out q (by omega))
      have HTL := Lib.hid (ltT_len (ta rows) (tb rows) (td rows) len σ)
      have HTA : Hid (∀ q, 0 ≤ (ltT (ta rows) (tb rows) (td rows) len σ).getD q 0 ∧ (ltT (ta rows) (tb rows) (td rows) len σ).getD q 0 ≤ 5600) := Lib.hid (fun q => by
        by_cases hq : q ≤ σ
        · exact HTB.out q hq
        · rw [getD_past (by rw [HTL.out]; omega)]; omega)
      have HI : Hid (IntsAt wo (· < wo.heap.size) ax (σ + 1) (ltT (ta rows) (tb rows) (td rows) len σ)) := Lib.hid (by
        obtain ⟨a', c', e', _, h'⟩ := own_ints HOW.out (by omega)
        injection e' with e1 _ _
        subst e1
        exact h'.to fun b hb => ⟨hb.2, rfl⟩)
      have hσI : ((σ + 1 : Nat) : Int) < (P : Int) := by omega
      obtain ⟨s, hs⟩ : ∃ s, σ + 1 = s := ⟨_, rfl⟩
      have HS := Lib.hid hs
      rw [hs] at hσI hlt HLS HI HOW ⊢
      have hs1 : 1 ≤ s ∧ s ≤ 256 := by omega
      obtain ⟨L, hL⟩ : ∃ L, ltT (ta rows) (tb rows) (td rows) len σ = L := ⟨_, rfl⟩
      rw [hL] at HLS HTL HTA HI HOW
      clear hs hL HTB
      go_wp2_with fail
      refine (HPW.out _).mono ?_
      rintro e w' ⟨rfl, rfl⟩
      go_wp2_with fail
      go_loopw [5, 6] (fun t i wy => ∃ k : Nat, k ≤ len ∧ i = .int .i64 k ∧ t = .int .i64 (bsum (ta rows) s k) ∧ Drew wo wy) (fun _ i _ => len - (intOf i).toNat)
      case atStart => exact ⟨0, Nat.zero_le _, rfl, rfl, Drew.refl _⟩
      case round =>
        obtain ⟨k, hk, rfl, rfl, hdw⟩ := hrel
        obtain ⟨z, rfl⟩ := hdw
        by_cases hlk : k < len
        · obtain ⟨b2, off2, b3, off3, c3, rfl, hcr, hct, _, _, _⟩ := row3_at HRO.out HP.out hlk
          have HN := Lib.hid (show bsum (ta rows) s (k + 1) = bsum (ta rows) s k + (if s.testBit k = true then ta rows k else 0) from rfl)
          have hbb := bsum_bd (fun x => (HB.out x).1) s k
          have htk := (HB.out k).1
          have hkI : (k : Int) < (len : Int) := by omega
          have HBIT := Lib.hid (show ∀ W : World, Calls Try.prog 49 #[.int .i64 (s : Int), .int .i64 (k : Int)] W (fun e w' => e = .returned (.int .i64 (bI s k)) ∧ w' = W) from fun W => (bit_at s k (by omega) (by omega) W).mono (fun _ _ h => ⟨h.1, h.2.symm⟩))
          generalize bsum (ta rows) s k = bs at *
          generalize ta rows k = tk at *
          cases htb : s.testBit k
          · have HBI : Hid (bI s k = 0) := Lib.hid (by unfold bI; rw [htb]; rfl)
            have HN2 := Lib.hid (HN.out.trans (by rw [htb]; simp : _ = bs))
            rw [HBI.out] at HBIT
            clear htb
            go_wp2_with fail
            go_quiet (first | (go_at_call 49; with_reducible exact quiet_add (HBIT.out _)))
            go_wp2_with fail
            go_roundw
            case rel => exact ⟨k + 1, by omega, by go_num, by rw [HN2.out] <;> simp, ⟨_, rfl⟩⟩
            case measure => simp [intOf] <;> omega
          · have HBI : Hid (bI s k = 1) := Lib.hid (by unfold bI; rw [htb]; rfl)
            have HN2 := Lib.hid (HN.out.trans (by rw [htb]; simp : _ = bs + tk))
            rw [HBI.out] at HBIT
            clear htb
            go_wp2_with fail
            go_quiet (first | (go_at_call 49; with_reducible exact quiet_add (HBIT.out _)))
            go_wp2_with fail
            go_roundw
            case rel => exact ⟨k + 1, by omega, by go_num, by rw [HN2.out] <;> simp, ⟨_, rfl⟩⟩
            case measure => simp [intOf] <;> omega
        · obtain rfl : k = len := by omega
          have htm := bsum_bd (fun x => (HB.out x).1) s k
          obtain ⟨tm, hTM⟩ : ∃ tm, bsum (ta rows) s k = tm := ⟨_, rfl⟩
          rw [hTM] at htm HLS ⊢
          have htm' : 0 ≤ tm ∧ tm ≤ 72 := by omega
          clear hTM htm
          have hkk : ¬ (k : Int) < (k : Int) := by omega
          go_wp2_with fail
          go_loopw [7, 8] (fun b i wy => ∃ i' : Nat, i' ≤ k ∧ i = .int .i64 i' ∧ b = .int .i64 (scanL (tb rows) (td rows) L tm s i') ∧ Drew wo wy) (fun _ i _ => k - (intOf i).toNat)
          case atStart => exact ⟨0, Nat.zero_le _, rfl, rfl, ⟨_, rfl⟩⟩
          case round =>
            obtain ⟨i, hi, rfl, rfl, hdw⟩ := hrel
            obtain ⟨z2, rfl⟩ := hdw
            have hsb := scanL_bd (tb := L) (s := s) (fun x => (HB.out x).2.1) (fun x => (HB.out x).2.2) htm' HTA.out i
            by_cases hli : i < k
            · obtain ⟨b2, off2, b3, off3, c3, rfl, hcr, hct, hcw, hcd, _⟩ := row3_at HRO.out HP.out hli
              have HN := Lib.hid (show scanL (tb rows) (td rows) L tm s (i + 1) = if s.testBit i = true ∧ (scanL (tb rows) (td rows) L tm s i < 0 ∨ L.getD (s - 2 ^ i) 0 + tb rows i * max (tm - td rows i) 0 < scanL (tb rows) (td rows) L tm s i) then L.getD (s - 2 ^ i) 0 + tb rows i * max (tm - td rows i) 0 else scanL (tb rows) (td rows) L tm s i from rfl)
              have hiI : (i : Int) < (k : Int) := by omega
              have HBIT := Lib.hid (show ∀ W : World, Calls Try.prog 49 #[.int .i64 (s : Int), .int .i64 (i : Int)] W (fun e w' => e = .returned (.int .i64 (bI s i)) ∧ w' = W) from fun W => (bit_at s i (by omega) (by omega) W).mono (fun _ _ h => ⟨h.1, h.2.symm⟩))
              have hwi := (HB.out i).2.1
              have hdi := (HB.out i).2.2
              clear hct
              generalize scanL (tb rows) (td rows) L tm s i = best at *
              generalize tb rows i = wi at *
              generalize td rows i = di at *
              cases htb : s.testBit i
              · have HBI : Hid (bI s i = 0) := Lib.hid (by unfold bI; rw [htb]; rfl)
                have HN2 := Lib.hid (HN.out.trans (by rw [htb]; simp : _ = best))
                rw [HBI.out] at HBIT
                clear htb
                go_wp2_with fail
                refine (HBIT.out _).mono ?_
                rintro e w' ⟨rfl, rfl⟩
                go_wp2_with fail
                go_roundw
                case rel => exact ⟨i + 1, by omega, by go_num, by rw [HN2.out], ⟨_, rfl⟩⟩
                case measure => simp [intOf] <;> omega
              · have HBI : Hid (bI s i = 1) := Lib.hid (by unfold bI; rw [htb]; rfl)
                have hge := ge_bit htb
                have hps : 1 ≤ 2 ^ i := Nat.two_pow_pos i
                rw [HBI.out] at HBIT
                rw [htb] at HN
                have HPV2 := Lib.hid (powV_eq i (by omega))
                obtain ⟨pi, hpi⟩ : ∃ pi, 2 ^ i = pi := ⟨_, rfl⟩
                rw [hpi] at hge hps HN HPV2
                have HPW2 := Lib.hid (show ∀ W : World, Calls Try.prog 48 #[.int .i64 (i : Int)] W (fun e w' => e = .returned (.int .i64 (pi : Int)) ∧ w' = W) from fun W => (power_all i (by omega) W).mono (fun _ _ h => ⟨by rw [h.1, HPV2.out], h.2.symm⟩))
                obtain ⟨q, hq⟩ : ∃ q, s - pi = q := ⟨_, rfl⟩
                rw [hq] at HN
                have hqs : q < s := by omega
                have hsq : (s : Int) - (pi : Int) = (q : Int) := by omega
                have hwq : IntKind.i64.wrap ((s : Int) - (pi : Int)) = (q : Int) := by rw [hsq]; exact IntWalk.i64_in _ (by omega)
                have hqsI : (q : Int) < (s : Int) := by omega
                obtain ⟨bL, offL, vq, rfl, hvq, hcq⟩ := HI.out.get hqs
                have HVQ := Lib.hid (getD_of hvq)
                have hvb := HTA.out q
                rw [HVQ.out] at HN hvb
                clear htb hpi hq hsq hvq
                by_cases hmx : tm - di < 0
                · have hpr := mul_boxJ hwi.1 hwi.2 (Int.le_refl 0) (Int.le_refl 0)
                  rw [show max (tm - di) 0 = 0 by omega, Int.mul_zero, Int.add_zero] at HN
                  by_cases hb0 : best < 0
                  · have HN2 := Lib.hid (HN.out.trans (if_pos ⟨rfl, .inl hb0⟩))
                    go_wp2_with fail
                    refine (HBIT.out _).mono ?_
                    rintro e w' ⟨rfl, rfl⟩
                    go_wp2_with fail
                    go_quiet (first | (go_at_call 48; with_reducible exact quiet_add (HPW2.out _)))
                    go_wp2_with fail
                    go_roundw
                    case rel => exact ⟨i + 1, by omega, by go_num, by rw [HN2.out] <;> simp, ⟨_, rfl⟩⟩
                    case measure => simp [intOf] <;> omega
                  · by_cases hb1 : vq < best
                    · have HN2 := Lib.hid (HN.out.trans (if_pos ⟨rfl, .inr hb1⟩))
                      go_wp2_with fail
                      refine (HBIT.out _).mono ?_
                      rintro e w' ⟨rfl, rfl⟩
                      go_wp2_with fail
                      go_quiet (first | (go_at_call 48; with_reducible exact quiet_add (HPW2.out _)))
                      go_wp2_with fail
                      go_roundw
                      case rel => exact ⟨i + 1, by omega, by go_num, by rw [HN2.out] <;> simp, ⟨_, rfl⟩⟩
                      case measure => simp [intOf] <;> omega
                    · have HN2 := Lib.hid (HN.out.trans (if_neg (fun h => h.2.elim hb0 hb1)))
                      go_wp2_with fail
                      refine (HBIT.out _).mono ?_
                      rintro e w' ⟨rfl, rfl⟩
                      go_wp2_with fail
                      go_quiet (first | (go_at_call 48; with_reducible exact quiet_add (HPW2.out _)))
                      go_wp2_with fail
                      go_roundw
                      case rel => exact ⟨i + 1, by omega, by go_num, by rw [HN2.out], ⟨_, rfl⟩⟩
                      case measure => simp [intOf] <;> omega
                · have hpr := mul_boxJ hwi.1 hwi.2 (show 0 ≤ tm - di by omega) (show tm - di ≤ 72 by omega)
                  rw [show max (tm - di) 0 = tm - di by omega] at HN
                  by_cases hb0 : best < 0
                  · have HN2 := Lib.hid (HN.out.trans (if_pos ⟨rfl, .inl hb0⟩))
                    go_wp2_with fail
                    refine (HBIT.out _).mono ?_
                    rintro e w' ⟨rfl, rfl⟩
                    go_wp2_with fail
                    go_quiet (first | (go_at_call 48; with_reducible exact quiet_add (HPW2.out _)))
                    go_wp2_with fail
                    go_roundw
                    case rel => exact ⟨i + 1, by omega, by go_num, by rw [HN2.out], ⟨_, rfl⟩⟩
                    case measure => simp [intOf] <;> omega
                  · by_cases hb1 : vq + wi * (tm - di) < best
                    · have HN2 := Lib.hid (HN.out.trans (if_pos ⟨rfl, .inr hb1⟩))
                      go_wp2_with fail
                      refine (HBIT.out _).mono ?_
                      rintro e w' ⟨rfl, rfl⟩
                      go_wp2_with fail
                      go_quiet (first | (go_at_call 48; with_reducible exact quiet_add (HPW2.out _)))
                      go_wp2_with fail
                      go_roundw
                      case rel => exact ⟨i + 1, by omega, by go_num, by rw [HN2.out], ⟨_, rfl⟩⟩
                      case measure => simp [intOf] <;> omega
                    · have HN2 := Lib.hid (HN.out.trans (if_neg (fun h => h.2.elim hb0 hb1)))
                      go_wp2_with fail
                      refine (HBIT.out _).mono ?_
                      rintro e w' ⟨rfl, rfl⟩
                      go_wp2_with fail
                      go_quiet (first | (go_at_call 48; with_reducible exact quiet_add (HPW2.out _)))
                      go_wp2_with fail
                      go_roundw
                      case rel => exact ⟨i + 1, by omega, by go_num, by rw [HN2.out], ⟨_, rfl⟩⟩
                      case measure => simp [intOf] <;> omega
            · obtain rfl : i = k := by omega
              have hii : ¬ (i : Int) < (i : Int) := by omega
              obtain ⟨bv, hbv⟩ : ∃ bv, scanL (tb rows) (td rows) L tm s i = bv := ⟨_, rfl⟩
              rw [hbv] at HLS ⊢
              clear hbv hsb
              have HOZ := Lib.hid (own_drewN HOW.out z2)
              have HBZ := Lib.hid (below_drewN HBW.out z2)
              obtain ⟨wz, hwz⟩ : ∃ wz, wo.drewN z2 = wz := ⟨_, rfl⟩
              rw [hwz] at HOZ HBZ ⊢
              clear hwz
              go_wp2_with (at_builtin; refine wpApp1 rfl _ _ rfl w.heap.size s cp ax L bv rfl HOZ.out rfl HBZ.out.size (by omega) ?_)
              intro a7 c7 w7 hown7 hc7 hgr7
              have HO7 := Lib.hid (own_snoc hown7)
              have HB7 := Lib.hid (HBZ.out.grown hgr7 HBZ.out.size (own_block HOZ.out))
              clear hown7 hgr7
              go_wp2_with fail
              go_roundw
              case rel => exact ⟨s, c7, a7, by go_num, by omega, rfl, by have := HS.out; subst this; rw [HLS.out]; exact HO7.out, HB7.out⟩
              case measure => simp [intOf] <;> omega
    · have hPe : P = σ + 1 := by omega
      have HPX := Lib.hid hPe
      have hge : ¬ ((σ + 1 : Nat) : Int) < (P : Int) := by omega
      clear hPe
      go_wp2_with fail
      refine (HPW.out _).mono ?_
      rintro e w' ⟨rfl, rfl⟩
      go_wp2_with fail
      go_ret
      have e1 : P - 1 = σ := by have := HPX.out; omega
      rw [e1]
      exact ⟨_, _, _, rfl, by omega, HOW.out, HBW.out⟩
set_option maxHeartbeats 1000000 in
theorem leastTardy_spec (a : Option Addr) (len cap : Nat) (rows : List (List Int)) (w : World) (h : RowsAt w (· < w.heap.size) a len rows) :
    Calls Try.prog 12 #[.slice a len cap] w (ValPost w (.int .i64 (ltRes rows))) := by
  have HL := Lib.hid h.lenEq
  cases hp : jobsM rows
  · have HR := Lib.hid (show ltRes rows = -1 by unfold ltRes; rw [hp]; rfl)
    rw [HR.out]
    go_enter Try.func12, Try.ntmps12
    go_wp2_with fail
    refine (validJobs_any _ a len cap rows w h).mono ?_
    rintro e w' ⟨rfl, rfl⟩
    rw [hp]
    go_wp2_with fail
    go_ret
    exact ⟨rfl, Below.refl _ _⟩
  · have hl8 : len ≤ 8 := by have := (jobs_get hp).1; have := HL.out; omega
    have HR := Lib.hid (show ltRes rows = ltX (ta rows) (tb rows) (td rows) len (2 ^ len - 1) by unfold ltRes; rw [if_pos hp, HL.out])
    have HVJ := Lib.hid (validJobs_any _ a len cap rows w h)
    have HLT := Lib.hid (leastTardy_any a len cap rows w h hp hl8)
    have hp2 : 1 ≤ 2 ^ len ∧ 2 ^ len ≤ 256 := ⟨Nat.two_pow_pos _, Nat.pow_le_pow_right (n := 2) (j := 8) (by omega) hl8⟩
    rw [hp] at HVJ
    rw [HR.out]
    have HLL := Lib.hid (ltT_len (ta rows) (tb rows) (td rows) len (2 ^ len - 1))
    have HLX := Lib.hid (show (ltT (ta rows) (tb rows) (td rows) len (2 ^ len - 1)).getD (2 ^ len - 1) 0 = ltX (ta rows) (tb rows) (td rows) len (2 ^ len - 1) from rfl)
    have hmb : 2 ^ len - 1 ≤ 255 := by omega
    generalize 2 ^ len - 1 = m at *
    clear h hp
    go_enter Try.func12, Try.ntmps12
    go_wp2_with fail
    refine HVJ.out.mono ?_
    rintro e w' ⟨rfl, rfl⟩
    go_wp2_with fail
    refine (HLT.out.mono (fun _ _ h => h.ints)).mono ?_
    rintro e w1 ⟨a3, l3, c3, rfl, h3, hc3, hb1⟩
    have hl3 : l3 = m + 1 := by have := h3.lenEq; have := HLL.out; omega
    subst hl3
    obtain ⟨b, off, x, rfl, hx, hc⟩ := h3.get (k := m) (by omega)
    have HX := Lib.hid ((getD_of hx).symm.trans HLX.out)
    clear hx h3
    have hmI : (m : Int) < (m : Int) + 1 := by omega
    have hwm : wrap64 (m : Int) = (m : Int) := w64_id (by omega) (by omega)
    go_wp2_with fail
    go_ret
    exact ⟨ret_int HX.out, hb1⟩
end Go.Proofs.Ytmcongioghkdcae
namespace Go.Proofs.Ytmcongioghkdcae
open Go.RowKit Go.WideShapes

theorem cloM_false {A : List Nat} {s k : Nat} (h : cloM A s (k + 1) = false) : ∀ n, k < n → cloM A s n = false
  | n + 1, hn => by
    rcases Nat.lt_or_eq_of_le (Nat.le_of_lt_succ hn) with h1 | rfl
    · rw [cloM, cloM_false h n h1]; rfl
    · exact h
end Go.Proofs.Ytmcongioghkdcae
namespace Go.Proofs.Ytmcongioghkdcae

theorem scanP_bd {T : List Int} {c : Int} {t : List Int} {s : Nat} {B : Int} (h0 : -1 ≤ B) (hB : ∀ r, r < s → t.getD r 0 + 1 ≤ B) : ∀ R, R ≤ s → -1 ≤ scanP T c t s R ∧ scanP T c t s R ≤ B
  | 0, _ => ⟨Int.le_refl _, h0⟩
  | R + 1, h => by
    have := scanP_bd (T := T) (c := c) h0 hB R (by omega)
    have h1 := hB R (by omega)
    rw [scanP]; split
    · rename_i h2; have := h2.1.2.1; omega
    · exact this
theorem stP_bd {T : List Int} {A : List Nat} {c : Int} : ∀ N s, s ≤ N → -1 ≤ stP T A c s ∧ stP T A c s ≤ s
  | N, 0, _ => by show (-1 : Int) ≤ 0 ∧ (0 : Int) ≤ 0; omega
  | N + 1, s + 1, h => by
    rw [stP_succ]; unfold nxtP; split
    · exact scanP_bd (B := ((s + 1 : Nat) : Int)) (by omega) (fun r hr => by rw [tabP_at (show r ≤ s by omega)]; have := stP_bd (T := T) (A := A) (c := c) N r (by omega); omega) (s + 1) (Nat.le_refl _)
    · omega
theorem tabP_step (T : List Int) (A : List Nat) (c : Int) {k : Nat} (h : 1 ≤ k) : tabP T A c k = tabP T A c (k - 1) ++ [nxtP T A c (tabP T A c (k - 1)) k] := by
  obtain ⟨d, rfl⟩ : ∃ d, k = d + 1 := ⟨k - 1, by omega⟩
  rfl
theorem tab_bd {T : List Int} {A : List Nat} {c : Int} {k r : Nat} (h : r < k) : -1 ≤ (tabP T A c (k - 1)).getD r 0 ∧ (tabP T A c (k - 1)).getD r 0 ≤ r := by
  rw [tabP_at (show r ≤ k - 1 by omega)]; exact stP_bd r r (Nat.le_refl _)
theorem scan_bd {T : List Int} {A : List Nat} {c : Int} {k R : Nat} (h : R ≤ k) : -1 ≤ scanP T c (tabP T A c (k - 1)) k R ∧ scanP T c (tabP T A c (k - 1)) k R ≤ k :=
  scanP_bd (by omega) (fun r hr => by have := tab_bd (T := T) (A := A) (c := c) hr; omega) R h
end Go.Proofs.Ytmcongioghkdcae
namespace Go.Proofs.Ytmcongioghkdcae
open Go.RowKit Go.WideShapes

theorem own_lit (w : World) (xs : List Int) (len : Nat) (hl : xs.length = len) (hs : len ≤ 1048576) : (w.alloc (.cells (cellsOf xs) 3)).ownsRow w.heap.size 3 1 (.slice (some ⟨w.heap.size, 0, none⟩) len len) len (xs.map (.int .i64)) :=
  ⟨by simp [hl], .inr ⟨w.heap.size, len, cellsOf xs, rfl, Nat.le_refl _, heap_alloc_new w _, Nat.le_refl _, by unfold maxLen; omega, by simp [cellsOf, hl], by simp [cellsOf]; exact List.take_of_length_le (by simp [hl])⟩⟩
theorem drew_two {a b c : World} (h1 : Drew a b) (h2 : Drew b c) : Drew a c := by obtain ⟨q, rfl⟩ := h2; exact h1.drew q
end Go.Proofs.Ytmcongioghkdcae
namespace Go.Proofs.Ytmcongioghkdcae
open Go.RowKit Go.WideShapes

def lineP (T ys : List Int) (c : Int) : Prop := (∀ k, k < T.length → T.getD k 0 ≤ c) ∧ tasksP T ys ∧ inB 1 60 c = true
instance (T ys : List Int) (c : Int) : Decidable (lineP T ys c) := by unfold lineP; infer_instance
def lineM (T ys : List Int) (c : Int) : Bool := decide (lineP T ys c)
theorem lineM_yes {T ys : List Int} {c : Int} (h : lineP T ys c) : lineM T ys c = true := decide_eq_true h
theorem lineM_no {T ys : List Int} {c : Int} (h : ¬ lineP T ys c) : lineM T ys c = false := decide_eq_false h
theorem lineM_get {T ys : List Int} {c : Int} (h : lineM T ys c = true) : lineP T ys c := of_decide_eq_true h
theorem lineP_c {T ys : List Int} {c : Int} (h : lineP T ys c) : 1 ≤ c ∧ c ≤ 60 := by simpa [inB] using h.2.2
def fewRes (T ys : List Int) (c : Int) : Int := if lineP T ys c then fewM T (natsOf ys) c else -1
end Go.Proofs.Ytmcongioghkdcae
namespace Go.Proofs.Ytmcongioghkdcae

/-- how many tasks a set has -/
def popM (s : Nat) : Int := 6 - (undone s 6 : Int)
theorem popM_bd (s : Nat) : 0 ≤ popM s ∧ popM s ≤ 6 := by unfold popM; have := undone_le s 6; omega
theorem top_of {s n : Nat} (h0 : s ≠ 0) (h : s < 2 ^ n) : ∃ q r, q < n ∧ s = r + 2 ^ q ∧ r < 2 ^ q := by
  have h1 := Nat.log2_self_le h0
  have h2 := Nat.lt_log2_self (n := s)
  rw [Nat.pow_succ] at h2
  exact ⟨s.log2, s - 2 ^ s.log2, (Nat.pow_lt_pow_iff_right (by omega)).1 (Nat.lt_of_le_of_lt h1 h), by omega, by omega⟩
theorem clo_zero (A : List Nat) (n : Nat) : cloM A 0 n = true := (cloM_iff n).mpr fun i _ h => by simp at h
theorem st_not {T : List Int} {A : List Nat} {c : Int} {s : Nat} (h : cloM A s A.length = false) : stP T A c s = -1 := by
  cases s with
  | zero => rw [clo_zero] at h; cases h
  | succ s => rw [stP_succ]; unfold nxtP; rw [h]; rfl
/-- a set that can stand needs no more places than it has tasks -/
theorem st_pop {T : List Int} {A : List Nat} {c : Int} (hA : ∀ i k, (A.getD i 0).testBit k = true → k < i) (hc : 0 ≤ c) (hT : ∀ k, k < T.length → T.getD k 0 ≤ c) :
    ∀ N s, s ≤ N → s < 2 ^ 6 → cloM A s A.length = true → 0 ≤ stP T A c s ∧ stP T A c s ≤ popM s
  | _, 0, _, _, _ => ⟨Int.le_refl _, (popM_bd 0).1⟩
  | N + 1, s + 1, hs, h6, hcl => by
    obtain ⟨q, r, hq, he, hr⟩ := top_of (show s + 1 ≠ 0 by omega) h6
    have hrq : r.testBit q = false := Nat.testBit_lt_two_pow hr
    have hb := add_bit hrq
    rw [← he] at hb
    have hrs : r < s + 1 := by have := Nat.two_pow_pos q; omega
    have hcr : cloM A r A.length = true := (cloM_iff _).mpr fun i hi hri k hk => by
      have h1 := (cloM_iff _).mp hcl i hi (by rw [hb, hri]; rfl) k hk
      have h2 := hA i k hk
      have h3 : i < q := by
        rcases Nat.lt_or_ge i q with h | h
        · exact h
        · rw [Nat.testBit_lt_two_pow (Nat.lt_of_lt_of_le hr (Nat.pow_le_pow_right (by omega) h))] at hri; cases hri
      rw [hb] at h1
      simp only [Bool.or_eq_true, decide_eq_true_eq] at h1
      rcases h1 with h1 | h1
      · exact h1
      · omega
    have ih := st_pop hA hc hT N r (by omega) (by omega) hcr
    have hsub : r &&& (s + 1) = r := sub_iff.mpr fun i hi => by rw [hb, hi]; rfl
    have hld : csum T (fun i => (dif (s + 1) r).testBit i) T.length ≤ c := by
      rw [csum_congr (Q := fun i => i == q) _ fun i _ => by
        rw [dif_bit, hb]
        by_cases h : i = q
        · subst h; simp [hrq]
        · cases r.testBit i <;> simp [h]]
      rw [csum_one]
      split
      · rename_i h; exact hT q h
      · exact hc
    have hsc := scanP_le (T := T) (c := c) (t := tabP T A c s) (s := s + 1) (s + 1) r hrs ((okR_tab (by omega)).mpr ⟨hsub, ih.1, hld⟩)
    rw [tabP_at (show r ≤ s by omega)] at hsc
    rw [stP_succ]
    unfold nxtP
    rw [if_pos hcl]
    have hp := undone_add hrq 6 hq
    rw [← he] at hp
    unfold popM at ih ⊢
    omega
/-- the fewest places of a set, as the program counts them -/
def fewC (T : List Int) (A : List Nat) (c : Int) (s : Nat) : Int := if cloM A s A.length = true then stP T A c s else 7
def okC (T : List Int) (c : Int) (s r : Nat) : Prop := dif r s = 0 ∧ csum T (fun i => (dif s r).testBit i) T.length ≤ c
instance (T : List Int) (c : Int) (s r : Nat) : Decidable (okC T c s r) := by unfold okC; infer_instance
def runC (T : List Int) (A : List Nat) (c : Int) (s : Nat) : Nat → Int
  | 0 => popM s
  | r + 1 => if okC T c s r then min (runC T A c s r) (fewC T A c r + 1) else runC T A c s r
theorem fewC_bd {T : List Int} {A : List Nat} {c : Int} (hA : ∀ i k, (A.getD i 0).testBit k = true → k < i) (hc : 0 ≤ c) (hT : ∀ k, k < T.length → T.getD k 0 ≤ c) {s : Nat} (h6 : s < 2 ^ 6) : 0 ≤ fewC T A c s ∧ fewC T A c s ≤ 7 := by
  unfold fewC
  split
  · rename_i h; have := st_pop hA hc hT s s (Nat.le_refl _) h6 h; have := popM_bd s; omega
  · omega
theorem runC_scan {T : List Int} {A : List Nat} {c : Int} (hA : ∀ i k, (A.getD i 0).testBit k = true → k < i) (hc : 0 ≤ c) (hT : ∀ k, k < T.length → T.getD k 0 ≤ c) {s : Nat} (h6 : s < 2 ^ 6) :
    ∀ R, R ≤ s + 1 → runC T A c (s + 1) R = if scanP T c (tabP T A c s) (s + 1) R < 0 then popM (s + 1) else min (popM (s + 1)) (scanP T c (tabP T A c s) (s + 1) R)
  | 0, _ => by simp [runC, scanP]
  | R + 1, hR => by
    have ih := runC_scan hA hc hT h6 R (by omega)
    have hp := popM_bd (s + 1)
    have hs : scanP T c (tabP T A c s) (s + 1) (R + 1) = if okR T c (tabP T A c s) (s + 1) R ∧ (scanP T c (tabP T A c s) (s + 1) R < 0 ∨ stP T A c R + 1 < scanP T c (tabP T A c s) (s + 1) R) then stP T A c R + 1 else scanP T c (tabP T A c s) (s + 1) R := by
      rw [scanP, tabP_at (show R ≤ s by omega)]
    rw [runC, ih]
    have ho := okR_tab (T := T) (A := A) (c := c) (m := s) (s := s + 1) (r := R) (by omega)
    have hsub : (R &&& (s + 1) = R) ↔ dif R (s + 1) = 0 := by rw [sub_iff, dif_zero]
    clear ih
    generalize scanP T c (tabP T A c s) (s + 1) R = sc at hs ⊢
    by_cases h1 : okC T c (s + 1) R
    · rw [if_pos h1]
      unfold fewC
      by_cases h2 : cloM A R A.length = true
      · have h3 := st_pop hA hc hT R R (Nat.le_refl _) (by omega) h2
        have h4 := ho.mpr ⟨hsub.mpr h1.1, h3.1, h1.2⟩
        rw [if_pos h2]
        by_cases h5 : sc < 0
        · rw [hs.trans (if_pos ⟨h4, .inl h5⟩), if_pos h5, if_neg (by omega)]
        · rw [if_neg h5]
          by_cases h6 : stP T A c R + 1 < sc
          · rw [hs.trans (if_pos ⟨h4, .inr h6⟩), if_neg (by omega)]; omega
          · rw [hs.trans (if_neg (fun h => h.2.elim h5 h6)), if_neg h5]; omega
      · rw [if_neg h2]
        have h3 := st_not (T := T) (c := c) (Bool.not_eq_true _ |>.mp h2)
        rw [hs.trans (if_neg (fun h => by have := (ho.mp h.1).2.1; omega))]
        split <;> omega
    · rw [if_neg h1, hs.trans (if_neg (fun h => h1 (by have := ho.mp h.1; exact ⟨hsub.mp this.1, this.2.2⟩)))]
theorem runC_all {T : List Int} {A : List Nat} {c : Int} (hA : ∀ i k, (A.getD i 0).testBit k = true → k < i) (hc : 0 ≤ c) (hT : ∀ k, k < T.length → T.getD k 0 ≤ c) {s : Nat} (h6 : s < 2 ^ 6) (hcl : cloM A s A.length = true) : runC T A c s s = fewC T A c s := by
  have hp := st_pop hA hc hT s s (Nat.le_refl _) h6 hcl
  unfold fewC
  rw [if_pos hcl]
  cases s with
  | zero => rw [runC]; show popM 0 = 0; simp [popM, undone]
  | succ s =>
    rw [runC_scan hA hc hT (by omega) _ (Nat.le_refl _)]
    rw [stP_succ] at hp ⊢
    unfold nxtP at hp ⊢
    rw [if_pos hcl] at hp ⊢
    rw [if_neg (by omega)]; omega
theorem runC_bd {T : List Int} {A : List Nat} {c : Int} (hA : ∀ i k, (A.getD i 0).testBit k = true → k < i) (hc : 0 ≤ c) (hT : ∀ k, k < T.length → T.getD k 0 ≤ c) {s : Nat} : ∀ R, R ≤ 2 ^ 6 → 0 ≤ runC T A c s R ∧ runC T A c s R ≤ 6
  | 0, _ => popM_bd s
  | R + 1, h => by
    have := runC_bd hA hc hT (s := s) R (by omega)
    have := fewC_bd hA hc hT (s := R) (by omega)
    rw [runC]; split <;> omega
theorem fewC_full {T : List Int} {A : List Nat} {c : Int} (hl : A.length = T.length) (hA : ∀ i k, (A.getD i 0).testBit k = true → k < i) : fewC T A c (2 ^ T.length - 1) = fewM T A c := by
  unfold fewC fewM
  rw [if_pos ((cloM_iff _).mpr fun i hi _ k hk => by rw [full_bit]; have := hA i k hk; simp; omega)]

/-- all that must be done ahead of a task, over others, too -/
def aU (A : List Nat) (t : List Nat) (k : Nat) : Nat → Nat
  | 0 => A.getD k 0
  | m + 1 => if (A.getD k 0).testBit m = true then aU A t k m ||| t.getD m 0 else aU A t k m
def allT (A : List Nat) : Nat → List Nat
  | 0 => []
  | k + 1 => allT A k ++ [aU A (allT A k) k k]
def allX (A : List Nat) (x : Nat) : Nat := (allT A (x + 1)).getD x 0
theorem allT_len (A : List Nat) : ∀ k, (allT A k).length = k
  | 0 => rfl
  | k + 1 => by rw [allT, List.length_append, allT_len A k]; rfl
theorem allT_get (A : List Nat) (s : Nat) : ∀ d, (allT A (s + 1 + d)).getD s 0 = allX A s
  | 0 => rfl
  | d + 1 => by
    have h := allT_len A (s + 1 + d)
    rw [show s + 1 + (d + 1) = (s + 1 + d) + 1 by omega, allT, ← allT_get A s d]
    simp only [List.getD_eq_getElem?_getD]
    rw [List.getElem?_append_left (by omega)]
theorem allT_at {A : List Nat} {s m : Nat} (h : s < m) : (allT A m).getD s 0 = allX A s := by
  have := allT_get A s (m - s - 1); rwa [show s + 1 + (m - s - 1) = m by omega] at this
theorem allX_eq (A : List Nat) (k : Nat) : allX A k = aU A (allT A k) k k := by
  have h := allT_len A k
  unfold allX
  rw [allT]
  simp only [List.getD_eq_getElem?_getD]
  rw [List.getElem?_append_right (by omega), h, Nat.sub_self]; rfl
theorem aU_bit {A : List Nat} {k : Nat} (x : Nat) : ∀ m, m ≤ k → ((aU A (allT A k) k m).testBit x = true ↔ (A.getD k 0).testBit x = true ∨ ∃ y, y < m ∧ (A.getD k 0).testBit y = true ∧ (allX A y).testBit x = true)
  | 0, _ => by simp [aU]
  | m + 1, h => by
    have ih := aU_bit (A := A) (k := k) x m (by omega)
    rw [aU, allT_at (show m < k by omega)]
    by_cases h1 : (A.getD k 0).testBit m = true
    · rw [if_pos h1, Nat.testBit_or, Bool.or_eq_true, ih]
      constructor
      · rintro ((h2 | ⟨y, h2, h3⟩) | h2)
        · exact .inl h2
        · exact .inr ⟨y, by omega, h3⟩
        · exact .inr ⟨m, by omega, h1, h2⟩
      · rintro (h2 | ⟨y, h2, h3, h4⟩)
        · exact .inl (.inl h2)
        · rcases Nat.lt_or_eq_of_le (Nat.le_of_lt_succ h2) with h5 | rfl
          · exact .inl (.inr ⟨y, h5, h3, h4⟩)
          · exact .inr h4
    · rw [if_neg h1, ih]
      constructor
      · rintro (h2 | ⟨y, h2, h3⟩)
        · exact .inl h2
        · exact .inr ⟨y, by omega, h3⟩
      · rintro (h2 | ⟨y, h2, h3, h4⟩)
        · exact .inl h2
        · rcases Nat.lt_or_eq_of_le (Nat.le_of_lt_succ h2) with h5 | rfl
          · exact .inr ⟨y, h5, h3, h4⟩
          · exact absurd h3 h1
theorem allX_bit {A : List Nat} {k : Nat} (hA : ∀ i k, (A.getD i 0).testBit k = true → k < i) (x : Nat) : (allX A k).testBit x = true ↔ ∃ y, (A.getD k 0).testBit y = true ∧ (x = y ∨ (allX A y).testBit x = true) := by
  rw [allX_eq, aU_bit x k (Nat.le_refl _)]
  constructor
  · rintro (h | ⟨y, _, h2, h3⟩)
    · exact ⟨x, h, .inl rfl⟩
    · exact ⟨y, h2, .inr h3⟩
  · rintro ⟨y, h2, rfl | h3⟩
    · exact .inl h2
    · exact .inr ⟨y, hA k y h2, h2, h3⟩
theorem allX_low {A : List Nat} (hA : ∀ i k, (A.getD i 0).testBit k = true → k < i) : ∀ N k, k ≤ N → ∀ x, (allX A k).testBit x = true → x < k
  | 0, k, hk, x, h => by
    obtain rfl : k = 0 := by omega
    obtain ⟨y, h1, _⟩ := (allX_bit hA x).mp h
    have := hA 0 y h1; omega
  | N + 1, k, hk, x, h => by
    obtain ⟨y, h1, h2⟩ := (allX_bit hA x).mp h
    have h3 := hA k y h1
    rcases h2 with rfl | h2
    · exact h3
    · have := allX_low hA N y (by omega) x h2; omega
theorem allX_lt {A : List Nat} (hA : ∀ i k, (A.getD i 0).testBit k = true → k < i) (k : Nat) : allX A k < 2 ^ k :=
  Nat.lt_pow_two_of_testBit _ fun i hi => by
    cases h : (allX A k).testBit i
    · rfl
    · have := allX_low hA k k (Nat.le_refl _) i h; omega
theorem aU_lt {A : List Nat} (hA : ∀ i k, (A.getD i 0).testBit k = true → k < i) (k m : Nat) (hm : m ≤ k) : aU A (allT A k) k m < 2 ^ k :=
  Nat.lt_pow_two_of_testBit _ fun i hi => by
    cases h : (aU A (allT A k) k m).testBit i
    · rfl
    · rcases (aU_bit i m hm).mp h with h1 | ⟨y, h1, h2, h3⟩
      · have := hA k i h1; omega
      · have := hA k y h2; have := allX_low hA y y (Nat.le_refl _) i h3; omega
/-- those behind are those that all ahead of them hold -/
theorem bsM_keep {A : List Nat} {i x : Nat} : ∀ d, (bsM A i (x + 1 + d)).testBit x = (bsM A i (x + 1)).testBit x
  | 0 => rfl
  | d + 1 => by
    rw [← bsM_keep d]
    by_cases h : i < x + 1 + d
    · rw [show x + 1 + (d + 1) = (x + 1 + d) + 1 by omega, bsM_step h, show decide (x = x + 1 + d) = false by simp; omega, Bool.false_and, Bool.or_false]
    · by_cases h2 : x + 1 + d = i
      · subst h2
        rw [bsM_low (A := A) (i := x + 1 + d) (x + 1 + d) (Nat.le_refl _), show x + 1 + (d + 1) = (x + 1 + d) + 1 by omega, bsM, if_neg (by omega), if_pos rfl, Nat.testBit_two_pow]
        simp; omega
      · rw [bsM_low _ (by omega), bsM_low _ (by omega)]
theorem bsM_all {A : List Nat} (hA : ∀ i k, (A.getD i 0).testBit k = true → k < i) {i : Nat} : ∀ N x n, x ≤ N → x < n → ((bsM A i n).testBit x = true ↔ x = i ∨ (allX A x).testBit i = true)
  | N, x, n, hN, hx => by
    have hk := bsM_keep (A := A) (i := i) (x := x) (n - x - 1)
    rw [show x + 1 + (n - x - 1) = n by omega] at hk
    rw [hk]
    rcases Nat.lt_trichotomy x i with h | h | h
    · rw [bsM_low _ (by omega)]
      constructor
      · intro h2; simp at h2
      · rintro (h2 | h2)
        · omega
        · have := allX_low hA x x (Nat.le_refl _) i h2; omega
    · subst h
      rw [bsM, if_neg (by omega), if_pos rfl, Nat.testBit_two_pow]; simp
    · rw [bsM_step h, bsM_out (Nat.le_refl _), Bool.false_or]
      simp only [decide_true, Bool.true_and, decide_eq_true_eq]
      rw [allX_bit hA]
      constructor
      · intro h2
        obtain ⟨y, h3, h4⟩ := and_ne_get h2
        have hy := hA x y h3
        refine .inr ⟨y, h3, ?_⟩
        rcases (bsM_all hA (N - 1) y x (by omega) hy).mp h4 with h5 | h5
        · exact .inl h5.symm
        · exact .inr h5
      · rintro (h2 | ⟨y, h3, h4⟩)
        · omega
        · have hy := hA x y h3
          refine and_ne h3 ((bsM_all hA (N - 1) y x (by omega) hy).mpr ?_)
          rcases h4 with h5 | h5
          · exact .inl h5.symm
          · exact .inr h5
termination_by N x _ _ _ => x
decreasing_by all_goals exact hA _ _ h3
/-- the weights, as the program adds them up: k tasks are added, of the next one m others -/
def wC (T : List Int) (A : List Nat) (i k : Nat) : Int := csum T (fun x => x == i || (allX A x).testBit i) k
theorem wC_all {T : List Int} {A : List Nat} (hA : ∀ i k, (A.getD i 0).testBit k = true → k < i) (i : Nat) : wC T A i T.length = wM T A i := by
  unfold wC wM
  refine csum_congr _ fun x hx => ?_
  have := bsM_all hA (i := i) x x T.length (Nat.le_refl _) hx
  rw [Bool.eq_iff_iff, Bool.or_eq_true, beq_iff_eq]
  exact this.symm
theorem wC_succ (T : List Int) (A : List Nat) (i k : Nat) : wC T A i (k + 1) = wC T A i k + (if k = i ∨ (allX A k).testBit i = true then T.getD k 0 else 0) := by
  unfold wC
  rw [csum]
  congr 1
  simp only [Bool.or_eq_true, beq_iff_eq]
theorem or_add {D q : Nat} (h : D.testBit q = false) : D ||| 2 ^ q = D + 2 ^ q := by
  apply Nat.eq_of_testBit_eq; intro i
  rw [add_bit h, Nat.testBit_or, Nat.testBit_two_pow]
  by_cases hq : q = i
  · subst hq; simp
  · simp [hq, Ne.symm hq]
end Go.Proofs.Ytmcongioghkdcae
