import Derived.Test.YtobfencmfeneoabStations
namespace Go.Proofs.Ytobfencmfeneoab
open Go.RowKit Go.WideShapes

def lineP (T ys : List Int) (c : Int) : Prop := (∀ k, k < T.length → T.getD k 0 ≤ c) ∧ tasksP T ys ∧ inB 1 60 c = true
instance (T ys : List Int) (c : Int) : Decidable (lineP T ys c) := by unfold lineP; infer_instance
def lineM (T ys : List Int) (c : Int) : Bool := decide (lineP T ys c)
theorem lineM_yes {T ys : List Int} {c : Int} (h : lineP T ys c) : lineM T ys c = true := decide_eq_true h
theorem lineM_no {T ys : List Int} {c : Int} (h : ¬ lineP T ys c) : lineM T ys c = false := decide_eq_false h
theorem lineM_get {T ys : List Int} {c : Int} (h : lineM T ys c = true) : lineP T ys c := of_decide_eq_true h
theorem lineP_c {T ys : List Int} {c : Int} (h : lineP T ys c) : 1 ≤ c ∧ c ≤ 60 := by simpa [inB] using h.2.2
set_option maxRecDepth 100000 in
set_option maxHeartbeats 4000000 in
theorem validLine_any (S : Nat → Prop) (a a2 : Option Addr) (len cap len2 cap2 : Nat) (T ys : List Int) (c : Int) (w : World) (ht : IntsAt w S a len T) (hy : IntsAt w S a2 len2 ys) (hl : len2 ≤ 1048576) :
    Calls Try.prog 23 #[.slice a len cap, .slice a2 len2 cap2, .int .i64 c] w fun e w' => e = .returned (.bool (lineM T ys c)) ∧ Drew w w' := by
  have HT := Lib.hid ht.lenEq
  have hs := ht.small
  go_enter Try.func23, Try.ntmps23
  go_wp2_with fail
  go_loop [7] (fun i => ∃ k : Nat, k ≤ len ∧ i = .int .i64 k ∧ ∀ q, q < k → T.getD q 0 ≤ c) (fun i => len - (intOf i).toNat)
  case atStart => exact ⟨0, Nat.zero_le _, rfl, fun q h => absurd h (by omega)⟩
  case round =>
    obtain ⟨k, hk, rfl, ha⟩ := hrel
    have HA := Lib.hid ha
    clear ha
    by_cases hlt : k < len
    · obtain ⟨b, off, x, rfl, hx, hc⟩ := ht.get hlt
      have HG := Lib.hid (getD_of hx)
      clear hx
      by_cases hxc : c < x
      · go_wp2_with fail
        go_ret
        exact ⟨ret_bool (lineM_no fun h => by have := h.1 k (by rw [HT.out]; exact hlt); rw [HG.out] at this; omega).symm, Drew.refl _⟩
      · go_wp2_with fail
        go_round
        case rel =>
          refine ⟨k + 1, by omega, by go_num, fun q hq => ?_⟩
          rcases Nat.lt_or_eq_of_le (Nat.le_of_lt_succ hq) with h | rfl
          · exact HA.out q h
          · rw [HG.out]; omega
        case measure => simp [intOf]; omega
    · obtain rfl : len = k := by omega
      cases hv : tasksM T ys
      · have HF := Lib.hid (show lineM T ys c = false from lineM_no fun h => by rw [tasksM_yes h.2.1] at hv; cases hv)
        go_wp2_with fail
        refine (validTasks_any S a a2 len cap len2 cap2 T ys w ht hy hl).mono ?_
        rintro e w' ⟨rfl, hdw⟩
        rw [hv]
        go_wp2_with fail
        go_ret
        exact ⟨ret_bool HF.out.symm, hdw⟩
      · cases hq : inB 1 60 c
        · have HF := Lib.hid (show lineM T ys c = false from lineM_no fun h => by rw [h.2.2] at hq; cases hq)
          go_wp2_with fail
          refine (validTasks_any S a a2 len cap len2 cap2 T ys w ht hy hl).mono ?_
          rintro e w' ⟨rfl, hdw⟩
          rw [hv]
          go_wp2_with (go_at_call 31; refine (inRange_any _ _ _ _).mono ?_; rintro e w'2 ⟨rfl, rfl⟩)
          go_ret
          exact ⟨ret_bool HF.out.symm, hdw⟩
        · have HF := Lib.hid (show lineM T ys c = true from lineM_yes ⟨fun k hk => HA.out k (by rw [HT.out] at hk; exact hk), tasksM_get hv, hq⟩)
          go_wp2_with fail
          refine (validTasks_any S a a2 len cap len2 cap2 T ys w ht hy hl).mono ?_
          rintro e w' ⟨rfl, hdw⟩
          rw [hv]
          go_wp2_with (go_at_call 31; refine (inRange_any _ _ _ _).mono ?_; rintro e w'2 ⟨rfl, rfl⟩)
          go_ret
          exact ⟨ret_bool HF.out.symm, hdw⟩
def fewRes (T ys : List Int) (c : Int) : Int := if lineP T ys c then fewM T (natsOf ys) c else -1
theorem fewest_spec (a a2 : Option Addr) (len cap len2 cap2 : Nat) (T ys : List Int) (c : Int) (w : World) (ht : IntsAt w (· < w.heap.size) a len T) (hy : IntsAt w (· < w.heap.size) a2 len2 ys) (hl : len2 ≤ 1048576) :
    Calls Try.prog 9 #[.slice a len cap, .slice a2 len2 cap2, .int .i64 c] w (fun e w' => e = .returned (.int .i64 (fewRes T ys c)) ∧ Below w.heap.size w w') := by
  have HT := Lib.hid ht.lenEq
  cases hv : lineM T ys c
  · have HR := Lib.hid (show fewRes T ys c = -1 from if_neg fun h => by rw [lineM_yes h] at hv; cases hv)
    go_enter Try.func9, Try.ntmps9
    go_wp2_with fail
    refine (validLine_any _ a a2 len cap len2 cap2 T ys c w ht hy hl).mono ?_
    rintro e w' ⟨rfl, hdw⟩
    rw [hv]
    go_wp2_with fail
    go_ret
    exact ⟨ret_int HR.out.symm, hdw.below _⟩
  · have hP := lineM_get hv
    have hcb := lineP_c hP
    have HR := Lib.hid (show fewRes T ys c = fewM T (natsOf ys) c from if_pos hP)
    have HP := Lib.hid hP
    clear hP
    go_enter Try.func9, Try.ntmps9
    go_wp2_with fail
    refine (validLine_any _ a a2 len cap len2 cap2 T ys c w ht hy hl).mono ?_
    rintro e w' ⟨rfl, hdw⟩
    rw [hv]
    have hx1 := Drew.ints ht hdw
    have hy1 := Drew.ints hy hdw
    have hz := hdw.size
    go_wp2_with fail
    refine (stations_any a a2 len cap len2 cap2 T ys c w' (hx1.to (fun b hb => ⟨by rw [hz]; exact hb, rfl⟩)) (hy1.to (fun b hb => ⟨by rw [hz]; exact hb, rfl⟩)) HP.out.2.1 (by omega)).mono ?_
    rintro e w2 ⟨a3, l3, c3, rfl, hl3, own3, hb3⟩
    have hlen : l3 = 2 ^ len := by have := own3.1; simp [tabP_len] at this; have := Nat.two_pow_pos len; omega
    have hpos := Nat.two_pow_pos len
    have hti := own_low own3 hl3
    obtain ⟨b, off, x, rfl, hxx, hcell⟩ := hti.get (k := l3 - 1) (by omega)
    have HX := Lib.hid (show x = fewM T (natsOf ys) c by rw [← getD_of hxx, hlen]; unfold fewM; rw [HT.out]; rfl)
    have HB := Lib.hid (show Below w.heap.size w w2 from (hdw.below _).trans (by rw [← hz]; exact hb3))
    have e1 : (l3 : Int) - 1 = ((l3 - 1 : Nat) : Int) := by omega
    have hi3 : ((l3 - 1 : Nat) : Int) < (l3 : Int) := by omega
    clear hxx hti own3 hb3 hlen
    go_wp2_with fail
    go_ret
    exact ⟨ret_int (by rw [HR.out, HX.out]), HB.out⟩
end Go.Proofs.Ytobfencmfeneoab
