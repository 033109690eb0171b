import Derived.Test.YtobfencmfeneoabRows
import Derived.WalkKit
import Derived.LoopTactic
import Derived.Outline
import Derived.WalkSpells
import Derived.WalkLawsBesides
import Derived.ProofKit
import Derived.Lib.Hide
import Derived.IntWalk
import Derived.Test.YtobfencmfeneoabLib
import Derived.Test.YtobfencmfeneoabGen
import Derived.Test.YtobfencmfeneoabMark
import Derived.Test.YtobfencmfeneoabArr
import Derived.Test.YtobfencmfeneoabOwn1
import Derived.Test.YtobfencmfeneoabDr
import Derived.Test.YtobfencmfeneoabEx
import Derived.Test.YtobfencmfeneoabUp
import Derived.Test.YtobfencmfeneoabNetM
import Derived.Test.YtobfencmfeneoabLineM
import Derived.Test.YtobfencmfeneoabTactM
import Derived.Test.YtobfencmfeneoabTaskSpec
import Derived.Test.YtobfencmfeneoabLoadSpec
import Derived.Test.YtobfencmfeneoabWeightSpec
import Derived.Test.YtobfencmfeneoabStations
import Derived.Test.YtobfencmfeneoabFewSpec
namespace Go.Proofs.Ytobfencmfeneoab
open Go.RowKit Go.WideShapes

/-- what WeightsOf answers -/
def weightsRes (T ys : List Int) : List Int := if tasksP T ys then weightsM T (natsOf ys) else []
theorem weightsRes_len (T ys : List Int) : (weightsRes T ys).length ≤ 1048576 := by
  unfold weightsRes
  split
  · rename_i h; rw [weightsM_len]; have := h.2.2; omega
  · simp
/-- what LeastTact answers -/
def tactFine (T ys : List Int) (p : Int) : Bool := tasksM T ys && inB 1 6 p
def tactRes (T ys : List Int) (p : Int) : Int := if tactFine T ys p then (leastT T (natsOf ys) p : Int) else -1
theorem tactRes_no {T ys : List Int} {p : Int} (h : tactFine T ys p = false) : tactRes T ys p = -1 := by unfold tactRes; rw [h]; rfl
theorem tactRes_yes {T ys : List Int} {p : Int} (h : tactFine T ys p = true) : tactRes T ys p = (leastT T (natsOf ys) p : Int) := by unfold tactRes; rw [h]; rfl
set_option maxRecDepth 100000 in
set_option maxHeartbeats 4000000 in
theorem leastTact_spec (a a2 : Option Addr) (len cap len2 cap2 : Nat) (T ys : List Int) (p : Int) (w : World) (ht : IntsAt w (· < w.heap.size) a len T) (hy : IntsAt w (· < w.heap.size) a2 len2 ys) (hl : len2 ≤ 1048576) :
    Calls Try.prog 17 #[.slice a len cap, .slice a2 len2 cap2, .int .i64 p] w (fun e w' => e = .returned (.int .i64 (tactRes T ys p)) ∧ Below w.heap.size w w') := by
  have HTL := Lib.hid ht.lenEq
  have HYL := Lib.hid hy.lenEq
  cases hv : tasksM T ys
  · rw [tactRes_no (by unfold tactFine; rw [hv]; rfl)]
    go_enter Try.func17, Try.ntmps17
    go_wp2_with fail
    refine (validTasks_any _ a a2 len cap len2 cap2 T ys w ht hy hl).mono ?_
    rintro e w' ⟨rfl, hdw⟩
    rw [hv]
    go_wp2_with fail
    go_ret
    exact ⟨rfl, hdw.below _⟩
  · cases hp : inB 1 6 p
    · rw [tactRes_no (by unfold tactFine; rw [hv, hp]; rfl)]
      go_enter Try.func17, Try.ntmps17
      go_wp2_with fail
      refine (validTasks_any _ a a2 len cap len2 cap2 T ys w ht hy hl).mono ?_
      rintro e w' ⟨rfl, hdw⟩
      rw [hv]
      go_wp2_with fail
      refine (inRange_any _ _ _ _).mono ?_
      rintro e w' ⟨rfl, rfl⟩
      rw [hp]
      go_wp2_with fail
      go_ret
      exact ⟨rfl, hdw.below _⟩
    · rw [tactRes_yes (by unfold tactFine; rw [hv, hp]; rfl)]
      have hP := tasksM_get hv
      have hpb : 1 ≤ p ∧ p ≤ 6 := by simpa [inB] using hp
      have hl6 : len ≤ 6 := by have := hP.2.2; have := HTL.out; omega
      obtain ⟨hok, h1, h54, hno⟩ := least_spec (T := T) (A := natsOf ys) (by rw [natsOf_len]; exact hP.2.1) hP.2.2 (natsOf_hA hP.1.2) (tasks_at hP.1.1).1 (places := p) hpb.1
      have HOK := Lib.hid hok
      have HNO := Lib.hid hno
      have HP := Lib.hid hP
      have HPL := Lib.hid (powV_eq len (by omega))
      obtain ⟨P, hPP⟩ : ∃ P, 2 ^ len = P := ⟨_, rfl⟩
      have hPb : 1 ≤ P ∧ P ≤ 64 := by rw [← hPP]; exact ⟨Nat.pow_pos (by omega), Nat.pow_le_pow_right (n := 2) (by omega) hl6⟩
      rw [hPP] at HPL
      have HPE := Lib.hid (show 2 ^ T.length = P by rw [HTL.out]; exact hPP)
      have HPE2 := Lib.hid hPP
      clear hok hno hP hPP
      generalize leastT T (natsOf ys) p = L at *
      go_enter Try.func17, Try.ntmps17
      go_wp2_with fail
      refine (validTasks_any _ a a2 len cap len2 cap2 T ys w ht hy hl).mono ?_
      rintro e w0 ⟨rfl, hdw⟩
      rw [hv]
      go_wp2_with fail
      refine (inRange_any _ _ _ _).mono ?_
      rintro e w' ⟨rfl, rfl⟩
      rw [hp]
      have HB0 := Lib.hid (hdw.below w.heap.size)
      clear hdw hv hp
      go_wp2_with fail
      go_loopw [7] (fun tv wr => ∃ t : Nat, 1 ≤ t ∧ t ≤ L ∧ tv = .int .i64 (t : Int) ∧ Below w.heap.size w wr) (fun tv _ => L - (intOf tv).toNat)
      case atStart => exact ⟨1, Nat.le_refl _, h1, rfl, HB0.out⟩
      case round =>
        clear HB0
        obtain ⟨t, ht1, ht2, rfl, hB⟩ := hrel
        have HB := Lib.hid hB
        have hx := ints_lift ht hB
        have hy1 := ints_lift hy hB
        clear hB
        cases hln : lineM T ys (t : Int)
        · have htL : t < L := by
            rcases Nat.lt_or_ge t L with h' | h'
            · exact h'
            · exfalso
              have : t = L := by omega
              have h2 := lineM_yes (T := T) (ys := ys) (c := (t : Int)) ⟨by rw [this]; exact HOK.out.1, HP.out, inB_true (by omega) (by omega)⟩
              rw [h2] at hln; cases hln
          go_wp2_with fail
          refine (validLine_any _ a a2 len cap len2 cap2 T ys t wr hx hy1 hl).mono ?_
          rintro e w' ⟨rfl, hdw⟩
          rw [hln]
          have HB2 := Lib.hid (HB.out.trans (hdw.below _))
          go_wp2_with fail
          go_roundw
          case rel => exact ⟨t + 1, by omega, by omega, by go_num, HB2.out⟩
          case measure => simp [intOf] <;> omega
        · have hLP := lineM_get hln
          have HLP := Lib.hid hLP
          clear hLP
          go_wp2_with fail
          refine (validLine_any _ a a2 len cap len2 cap2 T ys t wr hx hy1 hl).mono ?_
          rintro e w1 ⟨rfl, hdw⟩
          rw [hln]
          have hz := hdw.size
          have hx1 : IntsAt w1 (· < w1.heap.size) a len T := (Drew.ints hx hdw).to (fun b hb => ⟨by rw [hz]; exact hb, rfl⟩)
          have hy2 : IntsAt w1 (· < w1.heap.size) a2 len2 ys := (Drew.ints hy1 hdw).to (fun b hb => ⟨by rw [hz]; exact hb, rfl⟩)
          have HB1 := Lib.hid (HB.out.trans (hdw.below _))
          clear hdw hz hx hy1
          go_wp2_with fail
          refine (stations_any a a2 len cap len2 cap2 T ys t w1 hx1 hy2 HP.out (by omega)).mono ?_
          rintro e w2 ⟨a3, l3, c3, rfl, hl3, own3, hb3⟩
          have hlen : l3 = P := by have h5 := own3.1; have h6 := HPE2.out; simp [tabP_len] at h5; omega
          subst hlen
          have hti := own_low own3 hl3
          obtain ⟨b, off, x, rfl, hxx, hcell⟩ := hti.get (k := l3 - 1) (by omega)
          have HX := Lib.hid (show x = fewM T (natsOf ys) t by rw [← getD_of hxx]; unfold fewM; rw [HPE.out, HPE2.out]; rfl)
          have HB2 := Lib.hid (HB1.out.trans (hb3.mono HB1.out.size))
          have e1 : (l3 : Int) - 1 = ((l3 - 1 : Nat) : Int) := by omega
          have hi3 : ((l3 - 1 : Nat) : Int) < (l3 : Int) := by omega
          clear hxx hti own3 hb3
          go_wp2_with fail
          refine (power_all len (by omega) w2).mono ?_
          rintro e w' ⟨rfl, rfl⟩
          rw [HPL.out]
          by_cases hgt : p < x
          · have htL : t < L := by
              rcases Nat.lt_or_ge t L with h' | h'
              · exact h'
              · exfalso
                have : t = L := by omega
                have h2 := HOK.out.2
                rw [← this, ← HX.out] at h2; omega
            go_wp2_with fail
            go_roundw
            case rel => exact ⟨t + 1, by omega, by omega, by go_num, HB2.out⟩
            case measure => simp [intOf] <;> omega
          · have htL : t = L := by
              rcases Nat.lt_or_ge t L with h' | h'
              · exact absurd ⟨HLP.out.1, by rw [← HX.out]; omega⟩ (HNO.out t ht1 h')
              · omega
            have HTL2 := Lib.hid htL
            clear htL
            go_wp2_with fail
            go_ret
            exact ⟨ret_int (by rw [HTL2.out]), HB2.out⟩
end Go.Proofs.Ytobfencmfeneoab
