import Derived.Test.YthmifadnfaajbabM18
import Derived.Test.YthmifadnfaajbabM16
import Derived.Deep.OwnRows
import Derived.Test.YthmifadnfaajbabRows
import Derived.WalkKit
import Derived.LoopTactic
import Derived.Outline
import Derived.WalkSpells
import Derived.WalkLawsBesides
import Derived.ProofKit
import Derived.Lib.Hide
import Derived.Deep.QuietTactic
import Derived.BigQuiet
import Derived.IntWalk
import Derived.Test.YthmifadnfaajbabM15
import Derived.Test.YthmifadnfaajbabM0
import Derived.Test.YthmifadnfaajbabM1
namespace Go.Proofs.Ythmifadnfaajbab
open Go.RowKit Go.WideShapes

theorem OwnF.later {w wr w' : World} {len : Nat} {f : Nat → Int} (h : OwnF w wr len f) (hb : Below wr.heap.size wr w') : OwnF w w' len f :=
  ⟨h.own.kept (grown_of_below hb none) (by simp [Value.ownBlock]), h.below.trans (hb.mono h.below.size)⟩
theorem resC_drew {w w1 w' : World} {xs : List Int} {e : Ending} (hd : Drew w w1) (h : ResPostC w1 xs e w') : ResPostC w xs e w' := by
  obtain ⟨a, l, c, h1, h2, h3, h4, h5⟩ := h
  have hz := hd.size
  rw [hz] at h2 h3 h5
  exact ⟨a, l, c, h1, h2, h3, h4, (hd.below _).trans h5⟩
def wI (T : List Int) (A : List Nat) (k m i : Nat) : Int := wC T A i k + (if i = k ∨ (i < m ∧ (allX A k).testBit i = true) then T.getD k 0 else 0)
theorem wI_end {T : List Int} {A : List Nat} (hA : ∀ i k, (A.getD i 0).testBit k = true → k < i) (k i : Nat) : wI T A k k i = wC T A i (k + 1) := by
  rw [wC_succ]
  unfold wI
  congr 1
  by_cases h : i = k
  · rw [if_pos (.inl h), if_pos (.inl h.symm)]
  · by_cases h2 : (allX A k).testBit i = true
    · have := allX_low hA k k (Nat.le_refl _) i h2
      rw [if_pos (.inr ⟨this, h2⟩), if_pos (.inr h2)]
    · rw [if_neg (fun h3 => h3.elim h (fun h4 => h2 h4.2)), if_neg (fun h3 => h3.elim (fun h4 => h h4.symm) h2)]
theorem wI_start {T : List Int} {A : List Nat} (k i : Nat) : wI T A k 0 i = if i = k then wC T A k k + T.getD k 0 else wC T A i k := by
  unfold wI
  by_cases h : i = k
  · subst h; rw [if_pos (.inl rfl), if_pos rfl]
  · rw [if_neg (fun h3 => h3.elim h (fun h4 => by omega)), if_neg h, Int.add_zero]
theorem wI_step {T : List Int} {A : List Nat} {k m : Nat} (hm : m < k) (i : Nat) : wI T A k (m + 1) i = if i = m then (if (allX A k).testBit m = true then wI T A k m m + T.getD k 0 else wI T A k m m) else wI T A k m i := by
  by_cases h : i = m
  · subst h
    rw [if_pos rfl]
    unfold wI
    rw [if_neg (show ¬ (i = k ∨ i < i ∧ (allX A k).testBit i = true) from fun h => by omega)]
    by_cases h2 : (allX A k).testBit i = true
    · rw [if_pos (.inr ⟨by omega, h2⟩), if_pos h2]; omega
    · rw [if_neg (fun h3 => h3.elim (by omega) (fun h4 => h2 h4.2)), if_neg h2]
  · rw [if_neg h]
    unfold wI
    have e : (i < m + 1) ↔ (i < m) := by omega
    simp only [e]
theorem wC_zero (T : List Int) (A : List Nat) (i : Nat) : wC T A i 0 = 0 := rfl
set_option maxRecDepth 100000 in
set_option maxHeartbeats 4000000 in
theorem weights_impl (a : Option Addr) (len cap : Nat) (T : List Int) (a2 : Option Addr) (len2 cap2 : Nat) (ys : List Int) (w : World) (ht : IntsAt w (· < w.heap.size) a len T) (hy : IntsAt w (· < w.heap.size) a2 len2 ys) (hc : len ≤ cap) (hc2 : len2 ≤ cap2) (hl : len ≤ 1048576) (hl2 : len2 ≤ 1048576) :
    Calls Try.prog 29 #[.slice a len cap, .slice a2 len2 cap2] w (ResPostC w (weightsRes T ys)) := by
  have HTL := Lib.hid ht.lenEq
  have HYL := Lib.hid hy.lenEq
  cases hv : tasksM T ys
  · have HR := Lib.hid (show weightsRes T ys = [] from if_neg fun h => by rw [tasksM_yes h] at hv; cases hv)
    rw [HR.out]
    go_enter Try.func29, Try.ntmps29
    go_wp2_with fail
    refine (validTasks_impl _ a len cap T a2 len2 cap2 ys w ht hy hc hc2 hl hl2).mono ?_
    rintro e w' ⟨rfl, hdw⟩
    rw [hv]
    go_wp2_with fail
    go_ret
    exact resC_drew hdw (resPostC_nil _)
  · have hP := tasksM_get hv
    have HR := Lib.hid (show weightsRes T ys = weightsM T (natsOf ys) from if_pos hP)
    rw [HR.out]
    have hl6 : len ≤ 6 := by have := hP.2.2; have := HTL.out; omega
    have hle : len2 = len := by have := hP.2.1; have := HTL.out; have := HYL.out; omega
    subst hle
    have HPI := Lib.hid hP.1.2
    have HTB := Lib.hid (tasks_at hP.1.1).1
    have HA := Lib.hid (natsOf_hA hP.1.2)
    clear hP
    have hmk := fun w => run_make_row' (P := Try.prog) 22 3 (.int .i64 0) 8 Try.underlying22 Try.infoIntAh rfl .i64 .i64 len2 (by omega) (by omega) w
    go_enter Try.func29, Try.ntmps29
    go_wp2_with fail
    refine (validTasks_impl _ a len2 cap T a2 len2 cap2 ys w ht hy hc hc2 hl hl2).mono ?_
    rintro e w1 ⟨rfl, hdw⟩
    rw [hv]
    have hz := hdw.size
    have hx1 : IntsAt w1 (· < w1.heap.size) a len2 T := (Drew.ints ht hdw).to (fun b hb => ⟨by rw [hz]; exact hb, rfl⟩)
    have hy1 : IntsAt w1 (· < w1.heap.size) a2 len2 ys := (Drew.ints hy hdw).to (fun b hb => ⟨by rw [hz]; exact hb, rfl⟩)
    have HDW := Lib.hid hdw
    have HO0 := OwnF.start w1 len2 (by omega)
    clear hv hdw ht hy hz
    go_wp2_with fail
    clear hmk
    generalize w1.alloc _ = w2 at *
    refine (allAhead_any a2 len2 cap2 ys w2 (ints_lift hy1 HO0.below) HPI.out hl6).mono ?_
    rintro e w3 ⟨a3, rfl, h3, hb3⟩
    have HO1 := Lib.hid (HO0.later hb3)
    have HZ := Lib.hid (show w1.heap.size < w2.heap.size from (Array.getElem?_eq_some_iff.1 HO0.heap).1)
    have HB1 := Lib.hid HO1.out.below
    clear HO0 hb3
    have HT0 := Lib.hid ((HO1.out).congr (g := fun i => wC T (natsOf ys) i 0) (fun q _ => rfl))
    have H3 := Lib.hid h3
    clear h3 HO1
    go_wp2_with fail
    go_loopw [19] (fun i wr => ∃ (k : Nat), k ≤ len2 ∧ i = .int .i64 k ∧ OwnF w1 wr len2 (fun i => wC T (natsOf ys) i k) ∧ IntsAt wr (fun b => w2.heap.size ≤ b ∧ b < w3.heap.size) a3 len2 (tab (fun i => (allX (natsOf ys) i : Int)) len2)) (fun i _ => len2 - (intOf i).toNat)
    case atStart => exact ⟨0, Nat.zero_le _, rfl, HT0.out, H3.out⟩
    case round =>
      clear HT0 H3
      obtain ⟨k, hk, rfl, hO, h3⟩ := hrel
      have HO := Lib.hid hO
      have H3 := Lib.hid h3
      by_cases hlt : k < len2
      · have hlti : (k : Int) < (len2 : Int) := by omega
        obtain ⟨b, off, t, rfl, htt, hct⟩ := (hx1.below hO.below).get hlt
        have hbs : b < w1.heap.size := hx1.mem (by omega)
        have hte := getD_of htt
        have htb := HTB.out k
        rw [hte] at htb
        obtain ⟨b3, off3, y, rfl, hyy, hcy⟩ := h3.get hlt
        have hb3 := h3.mem (show 0 < len2 by omega)
        have hye : y = (allX (natsOf ys) k : Int) := by
          rw [tab_at _ hlt] at hyy; exact (Option.some.inj hyy).symm
        subst hye
        have hab : allX (natsOf ys) k ≤ 64 := by have := allX_lt HA.out k; have := Nat.pow_le_pow_right (n := 2) (by omega) (show k ≤ 6 by omega); omega
        obtain ⟨ck, zk⟩ := hO.cell hlt
        have hwb := csum_range HTB.out (fun x => x == k || (allX (natsOf ys) x).testBit k) k
        have HW0 := Lib.hid (fun i => wI_start (T := T) (A := natsOf ys) k i)
        have HWS := Lib.hid (fun m (h : m < k) i => wI_step (T := T) (A := natsOf ys) h i)
        have HWE := Lib.hid (fun i => wI_end (T := T) HA.out k i)
        have HWB := Lib.hid (show ∀ m i, 0 ≤ wI T (natsOf ys) k m i ∧ wI T (natsOf ys) k m i ≤ 100 from fun m i => by
          have h1 := csum_range HTB.out (fun x => x == i || (allX (natsOf ys) x).testBit i) k
          have h2 := HTB.out k
          unfold wI wC; split <;> omega)
        rw [hte] at HW0 HWS
        have HTT := Lib.hid htt
        clear hO h3 hyy htt hte
        change 0 ≤ wC T (natsOf ys) k k ∧ wC T (natsOf ys) k k ≤ _ at hwb
        have HCE := Lib.hid (fun i => (rfl : wC T (natsOf ys) i k = wC T (natsOf ys) i k))
        generalize hU : wI T (natsOf ys) k = u at *
        clear hU
        have hw1 : IntKind.i64.wrap (wC T (natsOf ys) k k + t) = wC T (natsOf ys) k k + t := IntWalk.i64_in _ (by omega)
        go_wp2_with fail
        go_still_tail 10, (by kernel_rfl)
        go_wp2
        have HOP := Lib.hid ((HO.out.put k (wC T (natsOf ys) k k + t)).drew1.congr (g := u 0) (fun q _ => (HW0.out q).symm))
        have H3P := Lib.hid (H3.out.to (w' := (wr.setCell ⟨w1.heap.size, k, none⟩ (.int .i64 (wC T (natsOf ys) k k + t))).drew) (fun b hb => ⟨hb, Below.heap_setCell _ _ _ _ (by have := HZ.out; simp; omega)⟩))
        generalize World.drew _ = w4 at *
        clear HO H3 HW0 ck hct hcy zk hwb
        go_loopw [35] (fun i wz => ∃ (m : Nat), m ≤ k ∧ i = .int .i64 m ∧ OwnF w1 wz len2 (u m) ∧ IntsAt wz (fun b => w2.heap.size ≤ b ∧ b < w3.heap.size) (some ⟨b3, off3, none⟩) len2 (tab (fun i => (allX (natsOf ys) i : Int)) len2)) (fun i _ => k - (intOf i).toNat)
        case atStart => exact ⟨0, Nat.zero_le _, rfl, HOP.out, H3P.out⟩
        case round =>
          clear HOP H3P
          obtain ⟨wi, rfl⟩ : ∃ wi : World, wi = wr := ⟨_, rfl⟩
          obtain ⟨m, hm, rfl, hO, h3⟩ := hrel
          have HO := Lib.hid hO
          have H3 := Lib.hid h3
          by_cases hmk : m < k
          · have hmki : (m : Int) < (k : Int) := by omega
            have hml : m < len2 := by omega
            have hmli : (m : Int) < (len2 : Int) := by omega
            obtain ⟨cm, zm⟩ := hO.cell hml
            have hct := (hx1.below hO.below).cells (by omega)
            obtain ⟨b', off', e', _, hcs⟩ := hct
            cases e'
            have hct := hcs k t HTT.out
            have hum := HWB.out m m
            have HIN := Lib.hid (fun w => inSet_any (allX (natsOf ys) k) m (by omega) (by omega) w)
            have HS := Lib.hid (HWS.out m hmk)
            clear hO h3 hcs
            have hw1 : IntKind.i64.wrap (u m m + t) = u m m + t := IntWalk.i64_in _ (by omega)
            obtain ⟨um, hue⟩ : ∃ um, u m m = um := ⟨_, rfl⟩
            rw [hue] at hum HS cm hw1
            have HUE := Lib.hid hue
            clear hue
            cases hb : (allX (natsOf ys) k).testBit m
            · have HS2 := Lib.hid (show ∀ i, u m i = u (m + 1) i from fun i => by
                rw [HS.out i, hb]
                by_cases h : i = m
                · subst h; rw [if_pos rfl, HUE.out]; rfl
                · rw [if_neg h])
              go_wp2_with fail
              refine (HIN.out _).mono ?_
              rintro e w' ⟨rfl, rfl⟩
              rw [hb]
              go_wp2_with fail
              go_roundw
              case rel => exact ⟨m + 1, by omega, by go_num, HO.out.congr (fun q _ => HS2.out q), H3.out⟩
              case measure => simp [intOf] <;> omega
            · have HS2 := Lib.hid (show ∀ i, (if i = m then um + t else u m i) = u (m + 1) i from fun i => by rw [HS.out i, hb]; rfl)
              go_wp2_with fail
              refine (HIN.out _).mono ?_
              rintro e w' ⟨rfl, rfl⟩
              rw [hb]
              go_wp2_with fail
              go_still_tail 10, (by kernel_rfl)
              go_wp2
              go_roundw
              case rel => exact ⟨m + 1, by omega, by go_num, (HO.out.put m (um + t)).drew1.congr (fun q _ => HS2.out q), H3.out.to (fun b hb => ⟨hb, Below.heap_setCell _ _ _ _ (by have := HZ.out; simp; omega)⟩)⟩
              case measure => simp [intOf] <;> omega
          · obtain rfl : m = k := by omega
            clear hO h3
            go_wp2_with fail
            go_roundw
            case rel => exact ⟨m + 1, by omega, by go_num, HO.out.congr (fun q _ => HWE.out q), H3.out⟩
            case measure => simp [intOf] <;> omega
      · obtain rfl : len2 = k := by omega
        clear hO h3
        go_wp2
        go_ret
        have e : weightsM T (natsOf ys) = tab (wM T (natsOf ys)) len2 := by unfold weightsM tab; rw [HTL.out]
        rw [e]
        refine resC_drew HDW.out (resC_own (HO.out.congr (fun q hq => ?_)) (by omega))
        have := wC_all (T := T) HA.out q
        rw [HTL.out] at this; exact this
end Go.Proofs.Ythmifadnfaajbab
namespace Go.Proofs.Ythmifadnfaajbab
open Go.RowKit Go.WideShapes

set_option maxRecDepth 100000 in
set_option maxHeartbeats 4000000 in
theorem nextTask_any (S : Nat → Prop) (a a2 a3 : Option Addr) (len cap cap2 cap3 : Nat) (T ys W : List Int) (D : Nat) (lf : Int) (w : World) (hx : IntsAt w S a len T) (hy : IntsAt w S a2 len ys) (hw : IntsAt w S a3 len W)
    (hp : powIn ys ys.length) (hl : len ≤ 6) (hT : ∀ k, 0 ≤ T.getD k 0 ∧ T.getD k 0 ≤ 9) (hW : ∀ k, 0 ≤ W.getD k 0 ∧ W.getD k 0 ≤ 1000) (hD : D ≤ 64) (hlf : 0 ≤ lf ∧ lf ≤ 60) :
    Calls Try.prog 31 #[.slice a len cap, .slice a2 len cap2, .slice a3 len cap3, .int .i64 D, .int .i64 lf] w fun e w' => e = .returned (.int .i64 (pickM T (natsOf ys) W D lf len)) ∧ Drew w w' := by
  have HYL := Lib.hid hy.lenEq
  have HPI := Lib.hid hp
  have HTB := Lib.hid hT
  have HWB := Lib.hid hW
  clear hp hT hW
  go_enter Try.func31, Try.ntmps31
  go_wp2_with fail
  go_loopw [11, 16] (fun av iv wr => ∃ k : Nat, k ≤ len ∧ iv = .int .i64 (k : Int) ∧ av = .int .i64 (pickM T (natsOf ys) W D lf k) ∧ Drew w wr) (fun _ iv _ => len - (intOf iv).toNat)
  case atStart => exact ⟨0, Nat.zero_le _, rfl, rfl, Drew.refl _⟩
  case round =>
    obtain ⟨k, hk, rfl, rfl, hdw⟩ := hrel
    have HDR := Lib.hid hdw
    by_cases hkl : k < len
    · obtain ⟨b, off, x, rfl, hxx, hcx⟩ := (Drew.ints hx hdw).get hkl
      obtain ⟨b2, off2, y, rfl, hyy, hcy⟩ := (Drew.ints hy hdw).get hkl
      obtain ⟨b3, off3, z, rfl, hzz, hcz⟩ := (Drew.ints hw hdw).get hkl
      have hxe := getD_of hxx
      have hze := getD_of hzz
      have HPS := Lib.hid (pick_step (T := T) (A := natsOf ys) (W := W) (D := D) (left := lf) hxe hze)
      have hye : y = (((natsOf ys).getD k 0 : Nat) : Int) := by rw [natsOf_get HPI.out (by rw [HYL.out]; exact hkl), getD_of hyy]
      subst hye
      have hab := natsOf_small HPI.out (i := k) (by omega)
      have hxb := HTB.out k
      have hzb := HWB.out k
      rw [hxe] at hxb
      rw [hze] at hzb
      have hkli : (k : Int) < (len : Int) := by omega
      have HIN := Lib.hid (fun w => inSet_any D k (by omega) (by omega) w)
      have hlow := pickM_low (T := T) (A := natsOf ys) (W := W) (D := D) (left := lf) k
      have HPK := Lib.hid (fun h => pick_lt (T := T) (A := natsOf ys) (W := W) (D := D) (left := lf) (k := k) h)
      generalize (natsOf ys).getD k 0 = am at *
      have EA := Lib.hid (i_not am D (by omega) (by omega))
      clear hxx hyy hzz hxe hze
      generalize pickM T (natsOf ys) W D lf k = pk at *
      cases hbit : D.testBit k
      · by_cases hdz : dif am D = 0
        · have hnz : (bits .andNot .i64 (am : Int) (D : Int) != 0) = false := by rw [EA.out, hdz]; rfl
          by_cases hxl : x ≤ lf
          · by_cases hpn : pk < 0
            · have HN := Lib.hid (HPS.out.trans (if_pos ⟨hbit, hdz, hxl, .inl hpn⟩))
              have HBT := Lib.hid hbit
              clear hbit hdz
              go_wp2_with fail
              refine (HIN.out _).mono ?_
              rintro e w' ⟨rfl, rfl⟩
              rw [HBT.out]
              go_wp2_with fail
              go_quiet (fail)
              clear hcx hcy hcz
              go_wp2_with fail
              go_roundw
              case rel => exact ⟨k + 1, by omega, by go_num, by rw [HN.out], HDR.out.drew _⟩
              case measure => simp [intOf] <;> omega
            · obtain ⟨m, hmk2, rfl⟩ := HPK.out (by omega)
              have hdp : decide ((m : Int) < 0) = false := decide_eq_false (by omega)
              obtain ⟨b4, off4, z4, e4, hz4, hc4⟩ := (Drew.ints hw hdw).get (k := m) (by omega)
              cases e4
              have hz4e := getD_of hz4
              have hmi : (m : Int) < (len : Int) := by omega
              have hml : m < len := by omega
              rw [Int.toNat_natCast, hz4e] at HPS
              clear hz4 hz4e
              by_cases hzw : z4 < z
              · have HN := Lib.hid (HPS.out.trans (if_pos ⟨hbit, hdz, hxl, .inr hzw⟩))
                have HBT := Lib.hid hbit
                clear hbit hdz
                go_wp2_with fail
                refine (HIN.out _).mono ?_
                rintro e w' ⟨rfl, rfl⟩
                rw [HBT.out]
                go_wp2_with fail
                go_quiet (fail)
                clear hcx hcy hcz hc4
                go_wp2_with fail
                go_roundw
                case rel => exact ⟨k + 1, by omega, by go_num, by rw [HN.out], HDR.out.drew _⟩
                case measure => simp [intOf] <;> omega
              · have HN := Lib.hid (HPS.out.trans (if_neg (fun h => h.2.2.2.elim (by omega) hzw)))
                have hdz4 : decide (z4 < z) = false := decide_eq_false hzw
                have HBT := Lib.hid hbit
                clear hbit hdz
                go_wp2_with fail
                refine (HIN.out _).mono ?_
                rintro e w' ⟨rfl, rfl⟩
                rw [HBT.out]
                go_wp2_with fail
                go_quiet (fail)
                clear hcx hcy hcz hc4
                go_wp2_with fail
                go_roundw
                case rel => exact ⟨k + 1, by omega, by go_num, by rw [HN.out], HDR.out.drew _⟩
                case measure => simp [intOf] <;> omega
          · have HN := Lib.hid (HPS.out.trans (if_neg (fun h => hxl h.2.2.1)))
            have HBT := Lib.hid hbit
            clear hbit hdz
            go_wp2_with fail
            refine (HIN.out _).mono ?_
            rintro e w' ⟨rfl, rfl⟩
            rw [HBT.out]
            go_wp2_with fail
            go_roundw
            case rel => exact ⟨k + 1, by omega, by go_num, by rw [HN.out], HDR.out⟩
            case measure => simp [intOf] <;> omega
        · have HN := Lib.hid (HPS.out.trans (if_neg (fun h => hdz h.2.1)))
          have hnz : (bits .andNot .i64 (am : Int) (D : Int) != 0) = true := by rw [EA.out]; simp; omega
          have HBT := Lib.hid hbit
          clear hbit hdz
          go_wp2_with fail
          refine (HIN.out _).mono ?_
          rintro e w' ⟨rfl, rfl⟩
          rw [HBT.out]
          go_wp2_with fail
          go_roundw
          case rel => exact ⟨k + 1, by omega, by go_num, by rw [HN.out], HDR.out⟩
          case measure => simp [intOf] <;> omega
      · have HN := Lib.hid (HPS.out.trans (if_neg (fun h => by rw [hbit] at h; cases h.1)))
        have HBT := Lib.hid hbit
        clear hbit
        go_wp2_with fail
        refine (HIN.out _).mono ?_
        rintro e w' ⟨rfl, rfl⟩
        rw [HBT.out]
        go_wp2_with fail
        go_roundw
        case rel => exact ⟨k + 1, by omega, by go_num, by rw [HN.out], HDR.out⟩
        case measure => simp [intOf] <;> omega
    · obtain rfl : len = k := by omega
      clear hdw
      go_wp2
      go_ret
      exact ⟨rfl, HDR.out⟩
end Go.Proofs.Ythmifadnfaajbab
namespace Go.Proofs.Ythmifadnfaajbab
open Go.RowKit Go.WideShapes

theorem resC_below {w w2 w' : World} {xs : List Int} {e : Ending} (hb : Below w.heap.size w w2) (h : ResPostC w2 xs e w') : ResPostC w xs e w' := by
  obtain ⟨a, l, c, h1, h2, h3, h4, h5⟩ := h
  have hz := hb.size
  exact ⟨a, l, c, h1, h2.to (fun b hb => ⟨⟨Nat.le_trans hz hb.1, hb.2⟩, rfl⟩), h3.to (fun b hb => ⟨⟨Nat.le_trans hz hb.1, hb.2⟩, rfl⟩), h4, hb.trans (h5.mono hz)⟩
set_option maxRecDepth 100000 in
set_option maxHeartbeats 8000000 in
theorem placesBy_impl (a : Option Addr) (len cap : Nat) (T : List Int) (a2 : Option Addr) (len2 cap2 : Nat) (ys : List Int) (c : Int) (w : World) (ht : IntsAt w (· < w.heap.size) a len T) (hy : IntsAt w (· < w.heap.size) a2 len2 ys) (hc : len ≤ cap) (hc2 : len2 ≤ cap2) (hl : len ≤ 1048576) (hl2 : len2 ≤ 1048576) :
    Calls Try.prog 17 #[.slice a len cap, .slice a2 len2 cap2, .int .i64 c] w (ResPostC w (byRes T ys c)) := by
  have HTL := Lib.hid ht.lenEq
  have HYL := Lib.hid hy.lenEq
  cases hv : lineM T ys c
  · have HR := Lib.hid (show byRes T ys c = [] from if_neg fun h => by rw [lineM_yes h] at hv; cases hv)
    rw [HR.out]
    go_enter Try.func17, Try.ntmps17
    go_wp2_with fail
    refine (fitTact_any _ a len cap T a2 len2 cap2 ys c w ht hy hc hc2 hl hl2).mono ?_
    rintro e w' ⟨rfl, hdw⟩
    rw [hv]
    go_wp2_with fail
    go_ret
    exact resC_drew hdw (resPostC_nil _)
  · have hP := lineM_get hv
    have hcb := lineP_c hP
    have HR := Lib.hid (show byRes T ys c = byM T (natsOf ys) (weightsM T (natsOf ys)) c from if_pos hP)
    rw [HR.out]
    have hl6 : len ≤ 6 := by have := hP.2.1.2.2; have := HTL.out; omega
    have hle : len2 = len := by have := hP.2.1.2.1; have := HTL.out; have := HYL.out; omega
    subst hle
    have HPI := Lib.hid hP.2.1.1.2
    have HTB := Lib.hid (tasks_at hP.2.1.1.1).1
    have HTASK := Lib.hid hP.2.1
    have HST := Lib.hid (fun (W : List Int) {s : GS} (g : IG T (natsOf ys) c s) (hD : s.D < 2 ^ T.length - 1) => g.step (W := W) (by rw [natsOf_len]; exact hP.2.1.2.1) (natsOf_hA hP.2.1.1.2) (fun k hk => ⟨(tasks_at hP.2.1.1.1).2 k hk, hP.1 k hk⟩) (by omega) hD)
    have HWL := Lib.hid (weightsM_len T (natsOf ys))
    have HPL := Lib.hid (fun w => allOf_any len2 (by omega) w)
    have hpb : 1 ≤ 2 ^ len2 ∧ 2 ^ len2 ≤ 64 := ⟨Nat.pow_pos (by omega), Nat.pow_le_pow_right (n := 2) (by omega) hl6⟩
    have HWB := Lib.hid (show ∀ k, 0 ≤ (weightsM T (natsOf ys)).getD k 0 ∧ (weightsM T (natsOf ys)).getD k 0 ≤ 1000 from fun k => by
      by_cases hk : k < T.length
      · rw [weightsM_get hk]; unfold wM
        have := csum_range (tasks_at hP.2.1.1.1).1 (fun x => (bsM (natsOf ys) k T.length).testBit x) T.length
        have := hP.2.1.2.2; omega
      · rw [getD_past (by rw [weightsM_len]; omega)]; omega)
    obtain ⟨P, hPP⟩ : ∃ P, 2 ^ len2 = P := ⟨_, rfl⟩
    rw [hPP] at HPL hpb
    have HPE := Lib.hid (show 2 ^ T.length = P by rw [HTL.out]; exact hPP)
    clear hP hPP
    have hmk := fun w => run_make_row' (P := Try.prog) 22 3 (.int .i64 0) 8 Try.underlying22 Try.infoIntBy rfl .i64 .i64 len2 (by omega) (by omega) w
    go_enter Try.func17, Try.ntmps17
    go_wp2_with fail
    refine (fitTact_any _ a len2 cap T a2 len2 cap2 ys c w ht hy hc hc2 hl hl2).mono ?_
    rintro e w1 ⟨rfl, hdw⟩
    rw [hv]
    have hz := hdw.size
    have hx1 : IntsAt w1 (· < w1.heap.size) a len2 T := (Drew.ints ht hdw).to (fun b hb => ⟨by rw [hz]; exact hb, rfl⟩)
    have hy1 : IntsAt w1 (· < w1.heap.size) a2 len2 ys := (Drew.ints hy hdw).to (fun b hb => ⟨by rw [hz]; exact hb, rfl⟩)
    have HDW := Lib.hid hdw
    clear hv hdw ht hy
    go_wp2_with fail
    refine (weights_impl a len2 cap T a2 len2 cap2 ys w1 hx1 hy1 hc hc2 hl hl2).mono ?_
    rintro e w2 ⟨a3, l3, c3, rfl, hw3, _, _, hb3⟩
    rw [show weightsRes T ys = weightsM T (natsOf ys) from if_pos HTASK.out] at hw3
    have hl3e : l3 = len2 := by have := hw3.lenEq; have := HWL.out; have := HTL.out; omega
    subst hl3e
    have hw2 : IntsAt w2 (· < w2.heap.size) a3 l3 (weightsM T (natsOf ys)) := hw3.to (fun b hb => ⟨hb.2, rfl⟩)
    have hx2 := ints_lift hx1 hb3
    have hy2 := ints_lift hy1 hb3
    have HB2 := Lib.hid (show Below w.heap.size w w2 from (HDW.out.below _).trans (hb3.mono (by rw [hz]; exact Nat.le_refl _)))
    have HO0 := Lib.hid ((OwnF.start w2 l3 (by omega)).congr (g := fun q => (initG T c).out.getD q 0) (fun q hq => by simp [initG, List.getD_eq_getElem?_getD, HTL.out, hq]))
    clear hw3 hb3 hx1 hy1 hz
    generalize hWe : weightsM T (natsOf ys) = W at *
    clear hWe
    go_wp2_with fail
    clear hmk
    go_loopw [9, 10, 11] (fun dv pv lv wr => ∃ (g : GS) (f : Nat), IG T (natsOf ys) c g ∧ measG T c g ≤ f ∧ f + g.place ≤ 2 * T.length + 1 ∧ (runG T (natsOf ys) W c f g).out = byM T (natsOf ys) W c ∧ dv = .int .i64 (g.D : Int) ∧ pv = .int .i64 (g.place : Int) ∧ lv = .int .i64 g.left ∧ OwnF w2 wr l3 (fun q => g.out.getD q 0)) (fun dv _ lv _ => msG c l3 dv lv)
    case atStart => exact ⟨initG T c, 2 * T.length + 1, initG_ok (by omega), by
        show 2 * undone 0 T.length + _ ≤ _
        have := undone_le 0 T.length
        have e : ¬ (initG T c).left < c := Int.lt_irrefl _
        rw [if_neg e]; omega, Nat.le_refl _, rfl, rfl, rfl, rfl, HO0.out⟩
    case round =>
      clear HO0
      obtain ⟨g, f, hg, hm, hfp, hrun, rfl, rfl, rfl, hO⟩ := hrel
      obtain ⟨wo, rfl⟩ : ∃ wo : World, wo = wr := ⟨_, rfl⟩
      have HG := Lib.hid hg
      have HM := Lib.hid hm
      have HFP := Lib.hid hfp
      have HRUN := Lib.hid hrun
      have HO := Lib.hid hO
      have hDlt : g.D < P := by have := hg.lt; rwa [HPE.out] at this
      have hplb : g.place ≤ 13 := by have := HTL.out; omega
      have hleft : 0 ≤ g.left ∧ g.left ≤ 60 := by have := hg.pos; have := hg.top; omega
      have HX := Lib.hid (hx2.below HO.out.below)
      have HY := Lib.hid (hy2.below HO.out.below)
      have HW := Lib.hid (hw2.below HO.out.below)
      clear hg hm hfp hrun hO
      by_cases hlt : g.D < P - 1
      · have hlti : (g.D : Int) < (P : Int) - 1 := by omega
        have HSTEP := Lib.hid (HST.out W HG.out (by rw [HPE.out]; exact hlt))
        obtain ⟨f', hf'⟩ : ∃ f', f = f' + 1 := ⟨f - 1, by have := HSTEP.out.2; have := HM.out; omega⟩
        have HF := Lib.hid hf'
        have HRUN2 := Lib.hid (show (runG T (natsOf ys) W c f' (stepG T (natsOf ys) W c g)).out = byM T (natsOf ys) W c by
          have := HRUN.out
          rw [HF.out, runG, if_pos (by rw [HPE.out]; exact hlt)] at this; exact this)
        obtain ⟨D, hD⟩ : ∃ D, g.D = D := ⟨_, rfl⟩
        obtain ⟨lf, hlf⟩ : ∃ lf, g.left = lf := ⟨_, rfl⟩
        rw [hD] at hDlt hlt hlti ⊢
        rw [hlf] at hleft ⊢
        have HDD := Lib.hid hD
        have HLF := Lib.hid hlf
        clear hD hlf hf'
        have hne : ((D : Int) != ((P - 1 : Nat) : Int)) = true := by simp; omega
        go_wp2_with fail
        refine (HPL.out _).mono ?_
        rintro e w' ⟨rfl, rfl⟩
        go_wp2_with fail
        refine (nextTask_any _ a a2 a3 l3 cap cap2 c3 T ys W D lf wo HX.out HY.out HW.out HPI.out hl6 HTB.out HWB.out (by omega) hleft).mono ?_
        rintro e w' ⟨rfl, hdw⟩
        obtain ⟨y, hwy⟩ := hdw
        subst hwy
        have HOD := Lib.hid (HO.out.drew y)
        have HXD := Lib.hid (hx2.below HOD.out.below)
        clear HX HY HW
        obtain ⟨wd, hwd⟩ : ∃ wd, wo.drewN y = wd := ⟨_, rfl⟩
        rw [hwd] at HOD HXD ⊢
        clear hwd HO
        have HSG := Lib.hid (show stepG T (natsOf ys) W c g = if pickM T (natsOf ys) W D lf l3 < 0 then ⟨D, g.place + 1, c, g.out⟩ else ⟨D + 2 ^ (pickM T (natsOf ys) W D lf l3).toNat, g.place, lf - T.getD (pickM T (natsOf ys) W D lf l3).toNat 0, g.out.set (pickM T (natsOf ys) W D lf l3).toNat g.place⟩ by
          unfold stepG; rw [HDD.out, HLF.out, HTL.out])
        by_cases hneg : pickM T (natsOf ys) W D lf l3 < 0
        · have HE := Lib.hid (HSG.out.trans (if_pos hneg))
          generalize pickM T (natsOf ys) W D lf l3 = pk at *
          go_wp2_with fail
          go_roundw
          case rel => exact ⟨⟨D, g.place + 1, c, g.out⟩, f', by rw [← HE.out]; exact HSTEP.out.1, by rw [← HE.out]; have := HSTEP.out.2; have := HM.out; have := HF.out; omega, by have := HFP.out; have := HF.out; simp only; omega, by rw [← HE.out]; exact HRUN2.out, rfl, by go_num, rfl, HOD.out⟩
          case measure =>
            have h1 := HSTEP.out.2
            rw [HE.out] at h1
            unfold measG at h1
            simp only [HDD.out, HLF.out, HTL.out] at h1
            have h2 : lf < c := by
              by_cases h : lf < c
              · exact h
              · rw [if_neg h] at h1; omega
            rw [msG_at, msG_at, if_neg (Int.lt_irrefl c), if_pos h2]
            omega
        · obtain ⟨m, hml, hme⟩ := pick_lt (T := T) (A := natsOf ys) (W := W) (D := D) (left := lf) (k := l3) (by omega)
          have HE := Lib.hid (HSG.out.trans (if_neg hneg))
          obtain ⟨hq, hqb⟩ : D.testBit m = false ∧ T.getD m 0 ≤ lf := by
            obtain ⟨q, _, e, h1, _, h3⟩ := pickM_get (T := T) (A := natsOf ys) (W := W) (D := D) (left := lf) l3 (by omega)
            have : q = m := by omega
            subst this; exact ⟨h1, h3⟩
          
          rw [hme] at HE ⊢
          rw [Int.toNat_natCast] at HE
          obtain ⟨b, off, x, rfl, hxx, hcx⟩ := HXD.out.get hml
          have hxe := getD_of hxx
          have hxb := HTB.out m
          rw [hxe] at hxb hqb HE
          obtain ⟨e1, f1⟩ := HOD.out.cell hml
          have hmi : (m : Int) < (l3 : Int) := by omega
          have hpm : 2 ^ m ≤ 64 := Nat.pow_le_pow_right (n := 2) (j := 6) (by omega) (by omega)
          obtain ⟨pm, hpme⟩ : ∃ pm, 2 ^ m = pm := ⟨_, rfl⟩
          rw [hpme] at hpm HE
          have HPE2 := Lib.hid hpme
          have HQ := Lib.hid hq
          clear hpme
          have HGL := Lib.hid (show g.out.length = l3 by rw [HG.out.len, HTL.out])
          clear hneg hme hxx hxe hq
          have EO := Lib.hid (show bits .or .i64 (D : Int) (wrap64 (2 ^ m)) = ((D + pm : Nat) : Int) by
            rw [show ((2 : Int) ^ m) = ((pm : Nat) : Int) by rw [← HPE2.out]; push_cast; rfl, w64_id (by omega) (by omega), i_or D pm (by omega) (by omega), ← HPE2.out, or_add HQ.out])
          have hcx2 : (wd.setCell ⟨w2.heap.size, m, none⟩ (.int .i64 (g.place : Int))).cell? ⟨b, off + m, none⟩ = some (.int .i64 x) := by
            have := HXD.out.mem (by omega)
            rw [World.cell?_setCell_other _ _ _ _ (by intro e'; injection e'; omega)]; exact hcx
          go_wp2_with fail
          go_roundw
          case rel => exact ⟨⟨D + pm, g.place, lf - x, g.out.set m g.place⟩, f', by rw [← HE.out]; exact HSTEP.out.1, by rw [← HE.out]; have := HSTEP.out.2; have := HM.out; have := HF.out; omega, by have := HFP.out; have := HF.out; simp only; omega, by rw [← HE.out]; exact HRUN2.out, by rw [EO.out], rfl, rfl, (HOD.out.put m _).congr (fun q hq => by
              by_cases e : q = m
              · subst e; rw [if_pos rfl]; exact (getD_set_eq (by rw [HGL.out]; exact hq)).symm
              · rw [if_neg e]; exact (getD_set_ne e).symm)⟩
          case measure =>
            have h1 := HSTEP.out.2
            rw [HE.out] at h1
            unfold measG at h1
            simp only [HDD.out, HLF.out, HTL.out] at h1
            have e3 : (bits .or .i64 (D : Int) (wrap64 (2 ^ m))).toNat = D + pm := by rw [EO.out]; exact Int.toNat_natCast _
            have e4 : ((D : Nat) : Int).toNat = D := by omega
            rw [msG_at, msG_at, e3, e4]
            exact h1
      · have hDe : g.D = P - 1 := by omega
        have hne : ((g.D : Int) != ((P - 1 : Nat) : Int)) = false := by simp; omega
        have HE := Lib.hid (show byM T (natsOf ys) W c = tab (fun q => g.out.getD q 0) l3 by
          have e : runG T (natsOf ys) W c f g = g := by
            cases f with
            | zero => rfl
            | succ f => rw [runG, if_neg (by rw [HPE.out]; exact hlt)]
          rw [← HRUN.out, e]
          have hl := HG.out.len
          rw [HTL.out] at hl
          have := tab_self g.out
          rw [hl] at this; exact this.symm)
        go_wp2_with fail
        refine (HPL.out _).mono ?_
        rintro e w' ⟨rfl, rfl⟩
        go_wp2_with fail
        go_ret
        rw [HE.out]
        exact resC_below HB2.out (resC_own HO.out (by omega))
end Go.Proofs.Ythmifadnfaajbab
namespace Go.Proofs.Ythmifadnfaajbab
open Go.RowKit Go.WideShapes

theorem fewest_impl (a : Option Addr) (len cap : Nat) (T : List Int) (a2 : Option Addr) (len2 cap2 : Nat) (ys : List Int) (c : Int) (w : World) (ht : IntsAt w (· < w.heap.size) a len T) (hy : IntsAt w (· < w.heap.size) a2 len2 ys) (hc : len ≤ cap) (hc2 : len2 ≤ cap2) (hl : len ≤ 1048576) (hl2 : len2 ≤ 1048576) :
    Calls Try.prog 19 #[.slice a len cap, .slice a2 len2 cap2, .int .i64 c] w (ValPost w (.int .i64 (fewRes T ys c))) := by
  cases hv : lineM T ys c
  · have HR := Lib.hid (show fewRes T ys c = -1 from if_neg fun h => by rw [lineM_yes h] at hv; cases hv)
    go_enter Try.func19, Try.ntmps19
    go_wp2_with fail
    refine (fitTact_any _ a len cap T a2 len2 cap2 ys c w ht hy hc hc2 hl hl2).mono ?_
    rintro e w' ⟨rfl, hdw⟩
    rw [hv]
    go_wp2_with fail
    go_ret
    exact ⟨ret_int HR.out.symm, hdw.below _⟩
  · have hP := lineM_get hv
    have HR := Lib.hid (show fewRes T ys c = fewM T (natsOf ys) c from if_pos hP)
    have HP := Lib.hid hP
    clear hP
    go_enter Try.func19, Try.ntmps19
    go_wp2_with fail
    refine (fitTact_any _ a len cap T a2 len2 cap2 ys c w ht hy hc hc2 hl hl2).mono ?_
    rintro e w1 ⟨rfl, hdw⟩
    rw [hv]
    have hz := hdw.size
    have hx1 : IntsAt w1 (· < w1.heap.size) a len T := (Drew.ints ht hdw).to (fun b hb => ⟨by rw [hz]; exact hb, rfl⟩)
    have hy1 : IntsAt w1 (· < w1.heap.size) a2 len2 ys := (Drew.ints hy hdw).to (fun b hb => ⟨by rw [hz]; exact hb, rfl⟩)
    have HB := Lib.hid (hdw.below w.heap.size)
    clear hdw hv
    go_wp2_with fail
    refine (fewestBySets_any a a2 len cap len2 cap2 T ys c w1 hx1 hy1 HP.out).mono ?_
    rintro e w2 ⟨rfl, hb3⟩
    go_wp2_with fail
    go_ret
    exact ⟨ret_int HR.out.symm, HB.out.trans (hb3.mono (by rw [hz]; exact Nat.le_refl _))⟩
end Go.Proofs.Ythmifadnfaajbab
namespace Go.Proofs.Ythmifadnfaajbab
open Go.RowKit
theorem validTasks_implV (a : Option Addr) (len cap : Nat) (T : List Int) (a2 : Option Addr) (len2 cap2 : Nat) (ys : List Int) (w : World) (ht : IntsAt w (· < w.heap.size) a len T) (hy : IntsAt w (· < w.heap.size) a2 len2 ys) (hc : len ≤ cap) (hc2 : len2 ≤ cap2) (hl : len ≤ 1048576) (hl2 : len2 ≤ 1048576) :
    Calls Try.prog 44 #[.slice a len cap, .slice a2 len2 cap2] w (ValPost w (.bool (tasksM T ys))) :=
  (validTasks_impl _ a len cap T a2 len2 cap2 ys w ht hy hc hc2 hl hl2).mono (fun _ _ h => ⟨h.1, h.2.below _⟩)
theorem placesBy_specV (a : Option Addr) (len cap : Nat) (T : List Int) (a2 : Option Addr) (len2 cap2 : Nat) (ys : List Int) (c : Int) (w : World) (ht : IntsAt w (· < w.heap.size) a len T) (hy : IntsAt w (· < w.heap.size) a2 len2 ys) (_hl : len ≤ 1048576) (hl2 : len2 ≤ 1048576) :
    Calls Try.prog 18 #[.slice a len cap, .slice a2 len2 cap2, .int .i64 c] w (NewInts w (byRes T ys c)) := placesBy_spec a a2 len cap len2 cap2 T ys c w ht hy hl2
theorem weights_implR (a : Option Addr) (len cap : Nat) (T : List Int) (a2 : Option Addr) (len2 cap2 : Nat) (ys : List Int) (w : World) (ht : IntsAt w (· < w.heap.size) a len T) (hy : IntsAt w (· < w.heap.size) a2 len2 ys) (hc : len ≤ cap) (hc2 : len2 ≤ cap2) (hl : len ≤ 1048576) (hl2 : len2 ≤ 1048576) :
    Calls Try.prog 29 #[.slice a len cap, .slice a2 len2 cap2] w (ResPost w (weightsRes T ys)) := (weights_impl a len cap T a2 len2 cap2 ys w ht hy hc hc2 hl hl2).mono (fun _ _ h => h.res)
theorem placesBy_implR (a : Option Addr) (len cap : Nat) (T : List Int) (a2 : Option Addr) (len2 cap2 : Nat) (ys : List Int) (c : Int) (w : World) (ht : IntsAt w (· < w.heap.size) a len T) (hy : IntsAt w (· < w.heap.size) a2 len2 ys) (hc : len ≤ cap) (hc2 : len2 ≤ cap2) (hl : len ≤ 1048576) (hl2 : len2 ≤ 1048576) :
    Calls Try.prog 17 #[.slice a len cap, .slice a2 len2 cap2, .int .i64 c] w (ResPost w (byRes T ys c)) := (placesBy_impl a len cap T a2 len2 cap2 ys c w ht hy hc hc2 hl hl2).mono (fun _ _ h => h.res)
end Go.Proofs.Ythmifadnfaajbab
