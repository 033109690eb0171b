import Derived.Test.YtjcbpnffmebihaaGreatDoorB3
import Derived.Test.YtjcbpnffmebihaaGreatDoorA0
import Derived.Test.YtjcbpnffmebihaaGreatDoorA1
import Derived.Test.YtjcbpnffmebihaaGreatDoorA35
import Derived.Test.YtjcbpnffmebihaaGreatDoorA42
import Derived.Test.YtjcbpnffmebihaaGreatDoorA46
import Derived.Test.YtjcbpnffmebihaaGreatDoorRows
import Derived.WalkKit
import Derived.LoopTactic
import Derived.Outline
import Derived.WalkSpells
import Derived.WalkLawsBesides
import Derived.ProofKit
import Derived.Lib.Hide
import Derived.Deep.RegionHeld3
set_option linter.unusedVariables false
set_option linter.unusedSimpArgs false
namespace Go.Proofs.YtjcbpnffmebihaaGreatDoor
open Go.RowKit Go.WideShapes

theorem desk_halves (ss : List ByteArray) (k : Nat) (h : ss.length ≤ 20) : deskRes (ss.take k) ++ deskRes (ss.drop k) = deskRes ss := by
  unfold deskRes
  rw [if_pos (by rw [List.length_take]; omega), if_pos (by rw [List.length_drop]; omega), if_pos h, ← deskB_app, List.take_append_drop]
theorem desk_at {w3 W : World} {a : Option Addr} {len cap : Nat} {ls : List ByteArray} {A : ByteArray} (hE : EnvD w3) (h10 : 10 ≤ w3.heap.size) (hB : Below w3.heap.size w3 W) (h : StrsAt w3 (· < w3.heap.size) a len ls) (hl : ∀ l ∈ ls, l.size ≤ 1048575) (hA : deskRes ls = A) :
    Calls Tryz.prog 6 #[.slice a len cap] W (fun e w' => e = .returned (.string A) ∧ Below w3.heap.size w3 w') := by
  refine (runDesk_impl (· < W.heap.size) a len cap ls W (hE.below h10 hB) (Nat.le_trans h10 hB.size) (fun b hb => hb) (h.to fun b hb => ⟨Nat.lt_of_lt_of_le hb hB.size, hB.block b hb⟩) hl).mono ?_
  rintro e w' ⟨rfl, hb⟩
  exact ⟨by rw [hA], hB.trans (hb.mono hB.size)⟩
set_option maxRecDepth 100000 in
set_option maxHeartbeats 8000000 in
/-- the law FnRunDesk -/
theorem fnRunDesk_any (a : Option Addr) (len cap : Nat) (w : World) (hE : EnvD w) (h10 : 10 ≤ w.heap.size) (hb : BytesAt w w.heap.size a len) (hl : len ≤ cap) (hs : len ≤ 9223372036854775807) :
    Calls Tryz.prog 3 #[.slice a len cap] w (LawPost w) := by
  have HE := Lib.hid hE
  have H10 := Lib.hid h10
  have HD := Lib.hid (drawRunDesk_any a len cap w hb hl hs)
  clear hE h10 hb hl
  go_enter Tryz.func3, Tryz.ntmps3
  by_cases hbig : (1048576 : Int) < (len : Int)
  · go_wp2_with fail
    go_ret
    exact ⟨rfl, Below.refl _ _⟩
  go_wp2_with fail
  refine HD.out.mono ?_
  rintro e w1 ⟨a1, l1, c1, ss, rfl, hst, hlc, h6, hsz, had, hB⟩
  have HST := Lib.hid hst
  have HZ := Lib.hid (show ∀ s ∈ ss, s.size ≤ 1048575 from fun s hs => Nat.le_trans (hsz s hs) (by omega))
  have HB1 := Lib.hid hB
  have HAD := Lib.hid had
  have HL := Lib.hid hst.lenEq
  have HLC := Lib.hid hlc
  clear hst hsz hB had hlc HD
  go_wp2_with fail
  refine (runDesk_impl (· < w1.heap.size) a1 l1 c1 ss w1 (HE.out.below H10.out HB1.out) (Nat.le_trans H10.out HB1.out.size) (fun b hb => hb) HST.out HZ.out).mono ?_
  rintro e w2 ⟨rfl, hb2⟩
  have HB2 := Lib.hid (HB1.out.trans (hb2.mono HB1.out.size))
  have HST2 := Lib.hid (show StrsAt w2 (· < w2.heap.size) a1 l1 ss from HST.out.to fun b hb => ⟨Nat.lt_of_lt_of_le hb hb2.size, hb2.block b hb⟩)
  clear hb2
  have hX : ((deskRes ss).toList == (deskRes ss).toList) = true := beq_self_eq_true _
  have HXS := Lib.hid (show (deskRes ss).size ≤ 20000 by
    unfold deskRes
    rw [if_pos (by rw [HL.out]; omega)]
    have := deskB_size ans_size ss
    rw [HL.out] at this
    omega)
  have HNL := Lib.hid (show nlB (deskRes ss) = l1 by
    unfold deskRes
    rw [if_pos (by rw [HL.out]; omega), nlB_desk nlB_ans, HL.out])
  have HH := Lib.hid (show ∀ k, deskRes (ss.take k) ++ deskRes (ss.drop k) = deskRes ss from fun k => desk_halves ss k (by rw [HL.out]; omega))
  obtain ⟨X, HX⟩ : ∃ X, Hid (deskRes ss = X) := ⟨_, Lib.hid rfl⟩
  rw [HX.out] at hX HXS HNL HH ⊢
  have h20 : ¬ (20 : Int) < (l1 : Int) := by omega
  go_wp2_with fail
  refine (runDesk_spec (· < w2.heap.size) a1 l1 c1 ss w2 (fun b hb => hb) HST2.out HZ.out).mono ?_
  rintro e w3 ⟨rfl, hb3⟩
  rw [HX.out]
  have HB3 := Lib.hid (HB2.out.trans (hb3.mono HB2.out.size))
  have HST3 := Lib.hid (show StrsAt w3 (· < w3.heap.size) a1 l1 ss from HST2.out.to fun b hb => ⟨Nat.lt_of_lt_of_le hb hb3.size, hb3.block b hb⟩)
  clear hb3
  go_wp2_with fail
  obtain ⟨k, hk⟩ : ∃ k : Nat, (l1 : Int) / 2 = (k : Int) := ⟨l1 / 2, by omega⟩
  have hk1 : k ≤ l1 := by omega
  have hk3 : 0 < l1 → k < l1 := by omega
  rw [hk]
  clear hk
  have HE3 := Lib.hid (HE.out.below H10.out HB3.out)
  have H103 := Lib.hid (Nat.le_trans H10.out HB3.out.size)
  have HBW := Lib.hid ((Below.refl w3.heap.size w3).drew)
  obtain ⟨A, HA⟩ : ∃ A, Hid (deskRes (ss.take k) = A) := ⟨_, Lib.hid rfl⟩
  obtain ⟨B, HB⟩ : ∃ B, Hid (deskRes (ss.drop k) = B) := ⟨_, Lib.hid rfl⟩
  have hAB : A ++ B = X := by rw [← HH.out k, HA.out, HB.out]
  have hABs : A.size + B.size ≤ 20000 := by rw [← ByteArray.size_append, hAB]; exact HXS.out
  have hs1 : ¬ 9223372036854775807 < A.size + B.size := by omega
  have heq1 : ((A ++ B).toList == X.toList) = true := by rw [hAB]; exact hX
  have HZL := Lib.hid (show ∀ s ∈ ss.take k, s.size ≤ 1048575 from fun s hs => HZ.out s (List.mem_of_mem_take hs))
  have HZH := Lib.hid (show ∀ s ∈ ss.drop k, s.size ≤ 1048575 from fun s hs => HZ.out s (List.mem_of_mem_drop hs))
  clear hAB hABs
  by_cases hl0 : l1 = 0
  · subst hl0
    obtain rfl : k = 0 := by omega
    obtain rfl : ss = [] := List.eq_nil_of_length_eq_zero HL.out
    obtain rfl : B = A := HB.out.symm.trans HA.out
    have HC1 := Lib.hid (show ∀ (a : Option Addr) (c : Nat) (W : World), Below w3.heap.size w3 W → Calls Tryz.prog 6 #[.slice a 0 c] W (fun e w' => e = .returned (.string B) ∧ Below w3.heap.size w3 w') from fun a c W h => desk_at HE3.out H103.out h ⟨rfl, Nat.zero_le _, fun h0 => absurd h0 (by omega)⟩ HZL.out HA.out)
    clear hk1 hk3
    rcases HAD.out with ⟨rfl, _, rfl⟩ | ⟨b, off, rfl⟩
    · go_region_held3 (fun _ => True) (first | go_keep | exact trivial) (first
        | (go_at_call 8; refine (newlines_any X _ (by have := HXS.out; omega)).mono ?_; rintro e wn ⟨rfl, rfl⟩; rw [HNL.out])
        | (go_at_call 6; with_reducible refine (HC1.out _ _ _ HBW.out).mono ?_; rintro e wp ⟨rfl, hb5⟩; have HBW := Lib.hid hb5; clear hb5))
      all_goals (go_wp2_with fail; go_ret; exact ⟨rfl, HB3.out.trans (HBW.out.mono HB3.out.size)⟩)
    · go_region_held3 (fun _ => True) (first | go_keep | exact trivial) (first
        | (go_at_call 8; refine (newlines_any X _ (by have := HXS.out; omega)).mono ?_; rintro e wn ⟨rfl, rfl⟩; rw [HNL.out])
        | (go_at_call 6; with_reducible refine (HC1.out _ _ _ HBW.out).mono ?_; rintro e wp ⟨rfl, hb5⟩; have HBW := Lib.hid hb5; clear hb5))
      all_goals (go_wp2_with fail; go_ret; exact ⟨rfl, HB3.out.trans (HBW.out.mono HB3.out.size)⟩)
  · obtain ⟨b, off, rfl⟩ : ∃ b off, a1 = some ⟨b, off, none⟩ := by
      rcases HAD.out with ⟨_, h, _⟩ | h
      · exact absurd h hl0
      · exact h
    have hk4 : k < l1 := hk3 (by omega)
    have hk5 : k < c1 := by have := HLC.out; omega
    have hk6 : k ≤ c1 := by omega
    have hk7 : l1 ≤ c1 := HLC.out
    have hk8 : ¬ c1 = k := by omega
    have HC1 := Lib.hid (show ∀ (c : Nat) (W : World), Below w3.heap.size w3 W → Calls Tryz.prog 6 #[.slice (some ⟨b, off, none⟩) k c] W (fun e w' => e = .returned (.string A) ∧ Below w3.heap.size w3 w') from fun c W h => desk_at HE3.out H103.out h (HST3.out.low hk1) HZL.out HA.out)
    have HC2 := Lib.hid (show ∀ (c : Nat) (W : World), Below w3.heap.size w3 W → Calls Tryz.prog 6 #[.slice (some ⟨b, off + k, none⟩) (l1 - k) c] W (fun e w' => e = .returned (.string B) ∧ Below w3.heap.size w3 w') from fun c W h => desk_at HE3.out H103.out h (HST3.out.high k) HZH.out HB.out)
    clear hk3
    go_region_held3 (fun _ => True) (first | go_keep | exact trivial) (first
      | (go_at_call 8; refine (newlines_any X _ (by have := HXS.out; omega)).mono ?_; rintro e wn ⟨rfl, rfl⟩; rw [HNL.out])
      | (go_at_call 6; with_reducible refine (HC1.out _ _ HBW.out).mono ?_; rintro e wp ⟨rfl, hb5⟩; have HBW := Lib.hid hb5; clear hb5)
      | (go_at_call 6; with_reducible refine (HC2.out _ _ HBW.out).mono ?_; rintro e wp ⟨rfl, hb5⟩; have HBW := Lib.hid hb5; clear hb5))
    all_goals (go_wp2_with fail; go_ret; exact ⟨rfl, HB3.out.trans (HBW.out.mono HB3.out.size)⟩)
end Go.Proofs.YtjcbpnffmebihaaGreatDoor
