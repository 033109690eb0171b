import Derived.Test.YtobfencmfeneoabLineE
import Derived.Test.YtobfencmfeneoabTactSpec
import Derived.Deep.OwnRows
namespace Go.Proofs.Ytobfencmfeneoab
open Go.RowKit Go.WideShapes

theorem OwnF.later {w wr w' : World} {len : Nat} {f : Nat → Int} (h : OwnF w wr len f) (hb : Below wr.heap.size wr w') : OwnF w w' len f :=
  ⟨h.own.kept (grown_of_below hb none) (by simp [Value.ownBlock]), h.below.trans (hb.mono h.below.size)⟩
theorem resC_drew {w w1 w' : World} {xs : List Int} {e : Ending} (hd : Drew w w1) (h : ResPostC w1 xs e w') : ResPostC w xs e w' := by
  obtain ⟨a, l, c, h1, h2, h3, h4, h5⟩ := h
  have hz := hd.size
  rw [hz] at h2 h3 h5
  exact ⟨a, l, c, h1, h2, h3, h4, (hd.below _).trans h5⟩
def wI (T : List Int) (A : List Nat) (k m i : Nat) : Int := wC T A i k + (if i = k ∨ (i < m ∧ (allX A k).testBit i = true) then T.getD k 0 else 0)
theorem wI_end {T : List Int} {A : List Nat} (hA : ∀ i k, (A.getD i 0).testBit k = true → k < i) (k i : Nat) : wI T A k k i = wC T A i (k + 1) := by
  rw [wC_succ]
  unfold wI
  congr 1
  by_cases h : i = k
  · rw [if_pos (.inl h), if_pos (.inl h.symm)]
  · by_cases h2 : (allX A k).testBit i = true
    · have := allX_low hA k k (Nat.le_refl _) i h2
      rw [if_pos (.inr ⟨this, h2⟩), if_pos (.inr h2)]
    · rw [if_neg (fun h3 => h3.elim h (fun h4 => h2 h4.2)), if_neg (fun h3 => h3.elim (fun h4 => h h4.symm) h2)]
theorem wI_start {T : List Int} {A : List Nat} (k i : Nat) : wI T A k 0 i = if i = k then wC T A k k + T.getD k 0 else wC T A i k := by
  unfold wI
  by_cases h : i = k
  · subst h; rw [if_pos (.inl rfl), if_pos rfl]
  · rw [if_neg (fun h3 => h3.elim h (fun h4 => by omega)), if_neg h, Int.add_zero]
theorem wI_step {T : List Int} {A : List Nat} {k m : Nat} (hm : m < k) (i : Nat) : wI T A k (m + 1) i = if i = m then (if (allX A k).testBit m = true then wI T A k m m + T.getD k 0 else wI T A k m m) else wI T A k m i := by
  by_cases h : i = m
  · subst h
    rw [if_pos rfl]
    unfold wI
    rw [if_neg (show ¬ (i = k ∨ i < i ∧ (allX A k).testBit i = true) from fun h => by omega)]
    by_cases h2 : (allX A k).testBit i = true
    · rw [if_pos (.inr ⟨by omega, h2⟩), if_pos h2]; omega
    · rw [if_neg (fun h3 => h3.elim (by omega) (fun h4 => h2 h4.2)), if_neg h2]
  · rw [if_neg h]
    unfold wI
    have e : (i < m + 1) ↔ (i < m) := by omega
    simp only [e]
theorem wC_zero (T : List Int) (A : List Nat) (i : Nat) : wC T A i 0 = 0 := rfl
set_option maxRecDepth 100000 in
set_option maxHeartbeats 4000000 in
theorem weights_impl (a : Option Addr) (len cap : Nat) (T : List Int) (a2 : Option Addr) (len2 cap2 : Nat) (ys : List Int) (w : World) (ht : IntsAt w (· < w.heap.size) a len T) (hy : IntsAt w (· < w.heap.size) a2 len2 ys) (hc : len ≤ cap) (hc2 : len2 ≤ cap2) (hl : len ≤ 1048576) (hl2 : len2 ≤ 1048576) :
    Calls Try.prog 25 #[.slice a len cap, .slice a2 len2 cap2] w (ResPostC w (weightsRes T ys)) := by
  have HTL := Lib.hid ht.lenEq
  have HYL := Lib.hid hy.lenEq
  cases hv : tasksM T ys
  · have HR := Lib.hid (show weightsRes T ys = [] from if_neg fun h => by rw [tasksM_yes h] at hv; cases hv)
    rw [HR.out]
    go_enter Try.func25, Try.ntmps25
    go_wp2_with fail
    refine (validTasks_impl _ a len cap T a2 len2 cap2 ys w ht hy hc hc2 hl hl2).mono ?_
    rintro e w' ⟨rfl, hdw⟩
    rw [hv]
    go_wp2_with fail
    go_ret
    exact resC_drew hdw (resPostC_nil _)
  · have hP := tasksM_get hv
    have HR := Lib.hid (show weightsRes T ys = weightsM T (natsOf ys) from if_pos hP)
    rw [HR.out]
    have hl6 : len ≤ 6 := by have := hP.2.2; have := HTL.out; omega
    have hle : len2 = len := by have := hP.2.1; have := HTL.out; have := HYL.out; omega
    subst hle
    have HPI := Lib.hid hP.1.2
    have HTB := Lib.hid (tasks_at hP.1.1).1
    have HA := Lib.hid (natsOf_hA hP.1.2)
    clear hP
    have hmk := fun w => run_make_row' (P := Try.prog) 23 3 (.int .i64 0) 8 Try.underlying23 Try.infoIntAh rfl .i64 .i64 len2 (by omega) (by omega) w
    go_enter Try.func25, Try.ntmps25
    go_wp2_with fail
    refine (validTasks_impl _ a len2 cap T a2 len2 cap2 ys w ht hy hc hc2 hl hl2).mono ?_
    rintro e w1 ⟨rfl, hdw⟩
    rw [hv]
    have hz := hdw.size
    have hx1 : IntsAt w1 (· < w1.heap.size) a len2 T := (Drew.ints ht hdw).to (fun b hb => ⟨by rw [hz]; exact hb, rfl⟩)
    have hy1 : IntsAt w1 (· < w1.heap.size) a2 len2 ys := (Drew.ints hy hdw).to (fun b hb => ⟨by rw [hz]; exact hb, rfl⟩)
    have HDW := Lib.hid hdw
    have HO0 := OwnF.start w1 len2 (by omega)
    clear hv hdw ht hy hz
    go_wp2_with fail
    clear hmk
    generalize w1.alloc _ = w2 at *
    refine (allAhead_any a2 len2 cap2 ys w2 (ints_lift hy1 HO0.below) HPI.out hl6).mono ?_
    rintro e w3 ⟨a3, rfl, h3, hb3⟩
    have HO1 := Lib.hid (HO0.later hb3)
    have HZ := Lib.hid (show w1.heap.size < w2.heap.size from (Array.getElem?_eq_some_iff.1 HO0.heap).1)
    have HB1 := Lib.hid HO1.out.below
    clear HO0 hb3
    have HT0 := Lib.hid ((HO1.out).congr (g := fun i => wC T (natsOf ys) i 0) (fun q _ => rfl))
    have H3 := Lib.hid h3
    clear h3 HO1
    go_wp2_with fail
    go_loopw [19] (fun i wr => ∃ (k : Nat), k ≤ len2 ∧ i = .int .i64 k ∧ OwnF w1 wr len2 (fun i => wC T (natsOf ys) i k) ∧ IntsAt wr (fun b => w2.heap.size ≤ b ∧ b < w3.heap.size) a3 len2 (tab (fun i => (allX (natsOf ys) i : Int)) len2)) (fun i _ => len2 - (intOf i).toNat)
    case atStart => exact ⟨0, Nat.zero_le _, rfl, HT0.out, H3.out⟩
    case round =>
      clear HT0 H3
      obtain ⟨k, hk, rfl, hO, h3⟩ := hrel
      have HO := Lib.hid hO
      have H3 := Lib.hid h3
      by_cases hlt : k < len2
      · have hlti : (k : Int) < (len2 : Int) := by omega
        obtain ⟨b, off, t, rfl, htt, hct⟩ := (hx1.below hO.below).get hlt
        have hbs : b < w1.heap.size := hx1.mem (by omega)
        have hte := getD_of htt
        have htb := HTB.out k
        rw [hte] at htb
        obtain ⟨b3, off3, y, rfl, hyy, hcy⟩ := h3.get hlt
        have hb3 := h3.mem (show 0 < len2 by omega)
        have hye : y = (allX (natsOf ys) k : Int) := by
          rw [tab_at _ hlt] at hyy; exact (Option.some.inj hyy).symm
        subst hye
        have hab : allX (natsOf ys) k ≤ 64 := by have := allX_lt HA.out k; have := Nat.pow_le_pow_right (n := 2) (by omega) (show k ≤ 6 by omega); omega
        obtain ⟨ck, zk⟩ := hO.cell hlt
        have hwb := csum_range HTB.out (fun x => x == k || (allX (natsOf ys) x).testBit k) k
        have HW0 := Lib.hid (fun i => wI_start (T := T) (A := natsOf ys) k i)
        have HWS := Lib.hid (fun m (h : m < k) i => wI_step (T := T) (A := natsOf ys) h i)
        have HWE := Lib.hid (fun i => wI_end (T := T) HA.out k i)
        have HWB := Lib.hid (show ∀ m i, 0 ≤ wI T (natsOf ys) k m i ∧ wI T (natsOf ys) k m i ≤ 100 from fun m i => by
          have h1 := csum_range HTB.out (fun x => x == i || (allX (natsOf ys) x).testBit i) k
          have h2 := HTB.out k
          unfold wI wC; split <;> omega)
        rw [hte] at HW0 HWS
        have HTT := Lib.hid htt
        clear hO h3 hyy htt hte
        change 0 ≤ wC T (natsOf ys) k k ∧ wC T (natsOf ys) k k ≤ _ at hwb
        have HCE := Lib.hid (fun i => (rfl : wC T (natsOf ys) i k = wC T (natsOf ys) i k))
        generalize hU : wI T (natsOf ys) k = u at *
        clear hU
        have hw1 : IntKind.i64.wrap (wC T (natsOf ys) k k + t) = wC T (natsOf ys) k k + t := IntWalk.i64_in _ (by omega)
        go_wp2_with fail
        go_still_tail 10, (by kernel_rfl)
        go_wp2
        have HOP := Lib.hid ((HO.out.put k (wC T (natsOf ys) k k + t)).drew1.congr (g := u 0) (fun q _ => (HW0.out q).symm))
        have H3P := Lib.hid (H3.out.to (w' := (wr.setCell ⟨w1.heap.size, k, none⟩ (.int .i64 (wC T (natsOf ys) k k + t))).drew) (fun b hb => ⟨hb, Below.heap_setCell _ _ _ _ (by have := HZ.out; simp; omega)⟩))
        generalize World.drew _ = w4 at *
        clear HO H3 HW0 ck hct hcy zk hwb
        go_loopw [35] (fun i wz => ∃ (m : Nat), m ≤ k ∧ i = .int .i64 m ∧ OwnF w1 wz len2 (u m) ∧ IntsAt wz (fun b => w2.heap.size ≤ b ∧ b < w3.heap.size) (some ⟨b3, off3, none⟩) len2 (tab (fun i => (allX (natsOf ys) i : Int)) len2)) (fun i _ => k - (intOf i).toNat)
        case atStart => exact ⟨0, Nat.zero_le _, rfl, HOP.out, H3P.out⟩
        case round =>
          clear HOP H3P
          obtain ⟨wi, rfl⟩ : ∃ wi : World, wi = wr := ⟨_, rfl⟩
          obtain ⟨m, hm, rfl, hO, h3⟩ := hrel
          have HO := Lib.hid hO
          have H3 := Lib.hid h3
          by_cases hmk : m < k
          · have hmki : (m : Int) < (k : Int) := by omega
            have hml : m < len2 := by omega
            have hmli : (m : Int) < (len2 : Int) := by omega
            obtain ⟨cm, zm⟩ := hO.cell hml
            have hct := (hx1.below hO.below).cells (by omega)
            obtain ⟨b', off', e', _, hcs⟩ := hct
            cases e'
            have hct := hcs k t HTT.out
            have hum := HWB.out m m
            have HIN := Lib.hid (fun w => inSet_any (allX (natsOf ys) k) m (by omega) (by omega) w)
            have HS := Lib.hid (HWS.out m hmk)
            clear hO h3 hcs
            have hw1 : IntKind.i64.wrap (u m m + t) = u m m + t := IntWalk.i64_in _ (by omega)
            obtain ⟨um, hue⟩ : ∃ um, u m m = um := ⟨_, rfl⟩
            rw [hue] at hum HS cm hw1
            have HUE := Lib.hid hue
            clear hue
            cases hb : (allX (natsOf ys) k).testBit m
            · have HS2 := Lib.hid (show ∀ i, u m i = u (m + 1) i from fun i => by
                rw [HS.out i, hb]
                by_cases h : i = m
                · subst h; rw [if_pos rfl, HUE.out]; rfl
                · rw [if_neg h])
              go_wp2_with fail
              refine (HIN.out _).mono ?_
              rintro e w' ⟨rfl, rfl⟩
              rw [hb]
              go_wp2_with fail
              go_roundw
              case rel => exact ⟨m + 1, by omega, by go_num, HO.out.congr (fun q _ => HS2.out q), H3.out⟩
              case measure => simp [intOf] <;> omega
            · have HS2 := Lib.hid (show ∀ i, (if i = m then um + t else u m i) = u (m + 1) i from fun i => by rw [HS.out i, hb]; rfl)
              go_wp2_with fail
              refine (HIN.out _).mono ?_
              rintro e w' ⟨rfl, rfl⟩
              rw [hb]
              go_wp2_with fail
              go_still_tail 10, (by kernel_rfl)
              go_wp2
              go_roundw
              case rel => exact ⟨m + 1, by omega, by go_num, (HO.out.put m (um + t)).drew1.congr (fun q _ => HS2.out q), H3.out.to (fun b hb => ⟨hb, Below.heap_setCell _ _ _ _ (by have := HZ.out; simp; omega)⟩)⟩
              case measure => simp [intOf] <;> omega
          · obtain rfl : m = k := by omega
            clear hO h3
            go_wp2_with fail
            go_roundw
            case rel => exact ⟨m + 1, by omega, by go_num, HO.out.congr (fun q _ => HWE.out q), H3.out⟩
            case measure => simp [intOf] <;> omega
      · obtain rfl : len2 = k := by omega
        clear hO h3
        go_wp2
        go_ret
        have e : weightsM T (natsOf ys) = tab (wM T (natsOf ys)) len2 := by unfold weightsM tab; rw [HTL.out]
        rw [e]
        refine resC_drew HDW.out (resC_own (HO.out.congr (fun q hq => ?_)) (by omega))
        have := wC_all (T := T) HA.out q
        rw [HTL.out] at this; exact this
end Go.Proofs.Ytobfencmfeneoab
