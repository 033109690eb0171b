import Derived.Test.YtobfencmfeneoabLineD
import Derived.Test.YtobfencmfeneoabLineI
import Derived.Test.YtobfencmfeneoabResC
import Derived.Test.YtobfencmfeneoabTactSpec
namespace Go.Proofs.Ytobfencmfeneoab
open Go.RowKit Go.WideShapes

theorem fewest_impl (a : Option Addr) (len cap : Nat) (T : List Int) (a2 : Option Addr) (len2 cap2 : Nat) (ys : List Int) (c : Int) (w : World) (ht : IntsAt w (· < w.heap.size) a len T) (hy : IntsAt w (· < w.heap.size) a2 len2 ys) (hc : len ≤ cap) (hc2 : len2 ≤ cap2) (hl : len ≤ 1048576) (hl2 : len2 ≤ 1048576) :
    Calls Try.prog 8 #[.slice a len cap, .slice a2 len2 cap2, .int .i64 c] w (ValPost w (.int .i64 (fewRes T ys c))) := by
  cases hv : lineM T ys c
  · have HR := Lib.hid (show fewRes T ys c = -1 from if_neg fun h => by rw [lineM_yes h] at hv; cases hv)
    go_enter Try.func8, Try.ntmps8
    go_wp2_with fail
    refine (fitTact_any _ a len cap T a2 len2 cap2 ys c w ht hy hc hc2 hl hl2).mono ?_
    rintro e w' ⟨rfl, hdw⟩
    rw [hv]
    go_wp2_with fail
    go_ret
    exact ⟨ret_int HR.out.symm, hdw.below _⟩
  · have hP := lineM_get hv
    have HR := Lib.hid (show fewRes T ys c = fewM T (natsOf ys) c from if_pos hP)
    have HP := Lib.hid hP
    clear hP
    go_enter Try.func8, Try.ntmps8
    go_wp2_with fail
    refine (fitTact_any _ a len cap T a2 len2 cap2 ys c w ht hy hc hc2 hl hl2).mono ?_
    rintro e w1 ⟨rfl, hdw⟩
    rw [hv]
    have hz := hdw.size
    have hx1 : IntsAt w1 (· < w1.heap.size) a len T := (Drew.ints ht hdw).to (fun b hb => ⟨by rw [hz]; exact hb, rfl⟩)
    have hy1 : IntsAt w1 (· < w1.heap.size) a2 len2 ys := (Drew.ints hy hdw).to (fun b hb => ⟨by rw [hz]; exact hb, rfl⟩)
    have HB := Lib.hid (hdw.below w.heap.size)
    clear hdw hv
    go_wp2_with fail
    refine (fewestBySets_any a a2 len cap len2 cap2 T ys c w1 hx1 hy1 HP.out).mono ?_
    rintro e w2 ⟨rfl, hb3⟩
    go_wp2_with fail
    go_ret
    exact ⟨ret_int HR.out.symm, HB.out.trans (hb3.mono (by rw [hz]; exact Nat.le_refl _))⟩
set_option maxRecDepth 100000 in
set_option maxHeartbeats 4000000 in
theorem leastTact_impl (a : Option Addr) (len cap : Nat) (T : List Int) (a2 : Option Addr) (len2 cap2 : Nat) (ys : List Int) (p : Int) (w : World) (ht : IntsAt w (· < w.heap.size) a len T) (hy : IntsAt w (· < w.heap.size) a2 len2 ys) (hc : len ≤ cap) (hc2 : len2 ≤ cap2) (hl : len ≤ 1048576) (hl2 : len2 ≤ 1048576) :
    Calls Try.prog 16 #[.slice a len cap, .slice a2 len2 cap2, .int .i64 p] w (ValPost w (.int .i64 (tactRes T ys p))) := by
  have HTL := Lib.hid ht.lenEq
  have HYL := Lib.hid hy.lenEq
  cases hv : tasksM T ys
  · rw [tactRes_no (by unfold tactFine; rw [hv]; rfl)]
    go_enter Try.func16, Try.ntmps16
    go_wp2_with fail
    refine (validTasks_impl _ a len cap T a2 len2 cap2 ys w ht hy hc hc2 hl hl2).mono ?_
    rintro e w' ⟨rfl, hdw⟩
    rw [hv]
    go_wp2_with fail
    go_ret
    exact ⟨rfl, hdw.below _⟩
  · cases hp : inB 1 6 p
    · rw [tactRes_no (by unfold tactFine; rw [hv, hp]; rfl)]
      go_enter Try.func16, Try.ntmps16
      go_wp2_with fail
      refine (validTasks_impl _ a len cap T a2 len2 cap2 ys w ht hy hc hc2 hl hl2).mono ?_
      rintro e w' ⟨rfl, hdw⟩
      rw [hv]
      go_wp2_with fail
      refine (isFrom1To_any _ _ _).mono ?_
      rintro e w' ⟨rfl, rfl⟩
      rw [hp]
      go_wp2_with fail
      go_ret
      exact ⟨rfl, hdw.below _⟩
    · rw [tactRes_yes (by unfold tactFine; rw [hv, hp]; rfl)]
      have hP := tasksM_get hv
      have hpb : 1 ≤ p ∧ p ≤ 6 := by simpa [inB] using hp
      have hl6 : len ≤ 6 := by have := hP.2.2; have := HTL.out; omega
      obtain ⟨hok, h1, h54, hno⟩ := least_spec (T := T) (A := natsOf ys) (by rw [natsOf_len]; exact hP.2.1) hP.2.2 (natsOf_hA hP.1.2) (tasks_at hP.1.1).1 (places := p) hpb.1
      have HOK := Lib.hid hok
      have HNO := Lib.hid hno
      have HP := Lib.hid hP
      clear hok hno hP
      generalize leastT T (natsOf ys) p = L at *
      go_enter Try.func16, Try.ntmps16
      go_wp2_with fail
      refine (validTasks_impl _ a len cap T a2 len2 cap2 ys w ht hy hc hc2 hl hl2).mono ?_
      rintro e w0 ⟨rfl, hdw⟩
      rw [hv]
      go_wp2_with fail
      refine (isFrom1To_any _ _ _).mono ?_
      rintro e w' ⟨rfl, rfl⟩
      rw [hp]
      have HB0 := Lib.hid (hdw.below w.heap.size)
      clear hdw hv hp
      go_wp2_with fail
      go_loopw [7] (fun tv wr => ∃ t : Nat, 1 ≤ t ∧ t ≤ L ∧ tv = .int .i64 (t : Int) ∧ Below w.heap.size w wr) (fun tv _ => L - (intOf tv).toNat)
      case atStart => exact ⟨1, Nat.le_refl _, h1, rfl, HB0.out⟩
      case round =>
        clear HB0
        obtain ⟨t, ht1, ht2, rfl, hB⟩ := hrel
        have HB := Lib.hid hB
        have hx := ints_lift ht hB
        have hy1 := ints_lift hy hB
        clear hB
        cases hln : lineM T ys (t : Int)
        · have htL : t < L := by
            rcases Nat.lt_or_ge t L with h' | h'
            · exact h'
            · exfalso
              have : t = L := by omega
              have h2 := lineM_yes (T := T) (ys := ys) (c := (t : Int)) ⟨by rw [this]; exact HOK.out.1, HP.out, inB_true (by omega) (by omega)⟩
              rw [h2] at hln; cases hln
          go_wp2_with fail
          refine (fitTact_any _ a len cap T a2 len2 cap2 ys t wr hx hy1 hc hc2 hl hl2).mono ?_
          rintro e w' ⟨rfl, hdw⟩
          rw [hln]
          have HB2 := Lib.hid (HB.out.trans (hdw.below _))
          go_wp2_with fail
          go_roundw
          case rel => exact ⟨t + 1, by omega, by omega, by go_num, HB2.out⟩
          case measure => simp [intOf] <;> omega
        · have hLP := lineM_get hln
          have HLP := Lib.hid hLP
          clear hLP
          go_wp2_with fail
          refine (fitTact_any _ a len cap T a2 len2 cap2 ys t wr hx hy1 hc hc2 hl hl2).mono ?_
          rintro e w1 ⟨rfl, hdw⟩
          rw [hln]
          have hz := hdw.size
          have hx1 : IntsAt w1 (· < w1.heap.size) a len T := (Drew.ints hx hdw).to (fun b hb => ⟨by rw [hz]; exact hb, rfl⟩)
          have hy2 : IntsAt w1 (· < w1.heap.size) a2 len2 ys := (Drew.ints hy1 hdw).to (fun b hb => ⟨by rw [hz]; exact hb, rfl⟩)
          have HB1 := Lib.hid (HB.out.trans (hdw.below _))
          clear hdw hz hx hy1
          go_wp2_with fail
          refine (fewestBySets_any a a2 len cap len2 cap2 T ys t w1 hx1 hy2 HLP.out).mono ?_
          rintro e w2 ⟨rfl, hb3⟩
          obtain ⟨x, hxe⟩ : ∃ x, fewM T (natsOf ys) t = x := ⟨_, rfl⟩
          rw [hxe]
          have HX := Lib.hid hxe.symm
          have HB2 := Lib.hid (HB1.out.trans (hb3.mono HB1.out.size))
          clear hxe hb3
          by_cases hgt : p < x
          · have htL : t < L := by
              rcases Nat.lt_or_ge t L with h' | h'
              · exact h'
              · exfalso
                have : t = L := by omega
                have h2 := HOK.out.2
                rw [← this, ← HX.out] at h2; omega
            go_wp2_with fail
            go_roundw
            case rel => exact ⟨t + 1, by omega, by omega, by go_num, HB2.out⟩
            case measure => simp [intOf] <;> omega
          · have htL : t = L := by
              rcases Nat.lt_or_ge t L with h' | h'
              · exact absurd ⟨HLP.out.1, by rw [← HX.out]; omega⟩ (HNO.out t ht1 h')
              · omega
            have HTL2 := Lib.hid htL
            clear htL
            go_wp2_with fail
            go_ret
            exact ⟨ret_int (by rw [HTL2.out]), HB2.out⟩
end Go.Proofs.Ytobfencmfeneoab
