import Derived.Test.YtjcbpnffmebihaaGreatDoorA46
import Derived.Test.YtjcbpnffmebihaaGreatDoorRows
import Derived.WalkKit
import Derived.LoopTactic
import Derived.Outline
import Derived.WalkSpells
import Derived.WalkLawsBesides
import Derived.ProofKit
import Derived.Lib.Hide
import Derived.BigQuiet
set_option linter.unusedVariables false
set_option linter.unusedSimpArgs false
namespace Go.Proofs.YtjcbpnffmebihaaGreatDoor
open Go.RowKit Go.WideShapes

/-! FnExactRunDesk: sizes, copies, and comparing lists of texts. -/
def sumZ : List ByteArray → Nat
  | [] => 0
  | s :: ss => s.size + sumZ ss
theorem sumZ_snoc (ss : List ByteArray) (s : ByteArray) : sumZ (ss ++ [s]) = sumZ ss + s.size := by
  induction ss with
  | nil => simp [sumZ]
  | cons x xs ih => rw [List.cons_append, sumZ, sumZ, ih]; omega
theorem sumZ_take {ss : List ByteArray} {k : Nat} {s : ByteArray} (h : ss[k]? = some s) : sumZ (ss.take (k + 1)) = sumZ (ss.take k) + s.size := by rw [take_get h, sumZ_snoc]
theorem sumZ_mem {ss : List ByteArray} {s : ByteArray} (h : s ∈ ss) : s.size ≤ sumZ ss := by
  induction ss with
  | nil => cases h
  | cons x xs ih =>
    rw [sumZ]
    rcases List.mem_cons.1 h with rfl | h
    · omega
    · have := ih h; omega
set_option maxRecDepth 100000 in
set_option maxHeartbeats 2000000 in
/-- how much is left of a size, below 0 if not enough -/
theorem szStringS_any (S : Nat → Prop) (a : Option Addr) (len cap : Nat) (ss : List ByteArray) (w : World) (h : StrsAt w S a len ss) (hz : ∀ s ∈ ss, s.size ≤ 9223372036854775807) (hl : len ≤ 9223372036854775807) :
    Calls Tryz.prog 9 #[.slice a len cap, .int .i64 1048576] w fun e w' => (∃ r : Int, e = .returned (.int .i64 r) ∧ (r < 0 ∨ (0 ≤ r ∧ len + sumZ ss ≤ 1048576))) ∧ w' = w := by
  have HL := Lib.hid h.lenEq
  have HZ := Lib.hid hz
  have hw1 : IntKind.i64.wrap (1048576 - (len : Int)) = 1048576 - (len : Int) := IntWalk.i64_in _ (by omega)
  clear hz
  go_enter Tryz.func9, Tryz.ntmps9
  by_cases h1 : len ≤ 1048576
  · have h1I : ¬ 1048576 - (len : Int) < 0 := by omega
    go_wp2_with fail
    go_loop [1, 5] (fun v i => ∃ k : Nat, k ≤ len ∧ i = .int .i64 k ∧ v = .int .i64 (1048576 - (len : Int) - (sumZ (ss.take k) : Nat)) ∧ len + sumZ (ss.take k) ≤ 1048576) (fun _ i => len - (intOf i).toNat)
    case atStart => exact ⟨0, Nat.zero_le _, rfl, by simp [sumZ], by simp [sumZ]; exact h1⟩
    case round =>
      obtain ⟨k, hk, rfl, rfl, hsum⟩ := hrel
      by_cases hlt : k < len
      · have hki : (k : Int) < (len : Int) := by omega
        obtain ⟨b, off, s, rfl, hsk, hc⟩ := h.get hlt
        have hsz := HZ.out s (List.mem_of_getElem? hsk)
        have HT := Lib.hid (sumZ_take hsk)
        clear hsk
        generalize sumZ (ss.take k) = T at *
        have hw2 : IntKind.i64.wrap (1048576 - (len : Int) - (T : Int) - (s.size : Int)) = 1048576 - (len : Int) - (T : Int) - (s.size : Int) := IntWalk.i64_in _ (by omega)
        by_cases h2 : 1048576 - (len : Int) - (T : Int) - (s.size : Int) < 0
        · go_wp2_with fail
          go_ret
          exact ⟨⟨-1, rfl, Or.inl (by omega)⟩, rfl⟩
        · go_wp2_with fail
          go_round
          case rel => exact ⟨k + 1, by omega, by go_num, by rw [HT.out]; go_num, by rw [HT.out]; omega⟩
          case measure => simp [intOf] <;> omega
      · obtain rfl : k = len := by omega
        have HE := Lib.hid (show sumZ (ss.take k) = sumZ ss by rw [List.take_of_length_le (by rw [HL.out]; omega)])
        rw [HE.out] at hsum
        rw [HE.out]
        go_wp2_with fail
        go_ret
        refine ⟨⟨_, rfl, ?_⟩, rfl⟩
        omega
  · have h1I : 1048576 - (len : Int) < 0 := by omega
    go_wp2_with fail
    go_ret
    exact ⟨⟨-1, rfl, Or.inl (by omega)⟩, rfl⟩
/-- texts copied so far -/
def copiedB (ss : List ByteArray) (k len : Nat) : List ByteArray := ss.take k ++ List.replicate (len - k) ByteArray.empty
theorem copied_zero (ss : List ByteArray) (len : Nat) : copiedB ss 0 len = List.replicate len ByteArray.empty := by simp [copiedB]
theorem copied_all {ss : List ByteArray} {len : Nat} (h : ss.length = len) : copiedB ss len len = ss := by
  unfold copiedB; rw [List.take_of_length_le (by omega)]; simp
theorem copied_put {ss : List ByteArray} {k len : Nat} {x : ByteArray} (hx : ss[k]? = some x) (hk : k < len) : (copiedB ss k len).set k x = copiedB ss (k + 1) len := by
  have hl : k < ss.length := (List.getElem?_eq_some_iff.1 hx).1
  unfold copiedB
  rw [take_get hx, List.set_append, if_neg (by simp; omega)]
  have : k - (ss.take k).length = 0 := by simp; omega
  rw [this, show len - k = (len - (k + 1)) + 1 by omega, List.replicate_succ, List.set_cons_zero]
  simp
theorem copied_at {ss : List ByteArray} {k len : Nat} (hk : k < len) (hl : ss.length = len) : (copiedB ss k len)[k]? = some ByteArray.empty := by
  unfold copiedB
  rw [List.getElem?_append_right (by simp; omega), show k - (ss.take k).length = 0 by simp; omega, List.getElem?_replicate, if_pos (by omega)]
set_option maxRecDepth 100000 in
set_option maxHeartbeats 2000000 in
/-- a copy -/
theorem toStringS_any (a : Option Addr) (len cap : Nat) (ss : List ByteArray) (w : World) (h : StrsAt w (· < w.heap.size) a len ss) (hl : len ≤ 1048576) :
    Calls Tryz.prog 10 #[.slice a len cap] w fun e w' => e = .returned (.slice (some ⟨w.heap.size, 0, none⟩) len len) ∧ OwnS w w' len ss := by
  have HL := Lib.hid h.lenEq
  have hmk := fun w => run_make_row' (P := Tryz.prog) 23 9 (.string ByteArray.empty) 16 Tryz.underlying23 Tryz.infoStr rfl .i64 .i64 len (by omega) (by omega) w
  have HO0 := Lib.hid (OwnS.start w len hl)
  go_enter Tryz.func10, Tryz.ntmps10
  go_wp2_with fail
  clear hmk
  go_loopw [4] (fun i wr => ∃ k : Nat, k ≤ len ∧ i = .int .i64 k ∧ OwnS w wr len (copiedB ss k len)) (fun i _ => len - (intOf i).toNat)
  case atStart => exact ⟨0, Nat.zero_le _, rfl, by rw [copied_zero]; exact HO0.out⟩
  case round =>
    obtain ⟨k, hk, rfl, hO⟩ := hrel
    have HO := Lib.hid hO
    by_cases hlt : k < len
    · have hki : (k : Int) < (len : Int) := by omega
      obtain ⟨b, off, x, rfl, hxk, hc⟩ := (h.to (w' := wr) (S' := (· < w.heap.size)) fun b hb => ⟨hb, hO.below.block b hb⟩).get hlt
      have HP := Lib.hid (copied_put (k := k) (len := len) hxk hlt)
      obtain ⟨q0, q1⟩ := hO.cell (copied_at hlt HL.out)
      clear hO hxk
      go_wp2_with fail
      go_roundw
      case rel => exact ⟨k + 1, by omega, by go_num, by rw [← HP.out]; exact HO.out.put k x⟩
      case measure => simp [intOf] <;> omega
    · obtain rfl : k = len := by omega
      clear hO
      go_wp2_with fail
      go_ret
      exact ⟨rfl, by have := HO.out; rwa [copied_all HL.out] at this⟩
theorem OwnS.at' {w wr : World} {len : Nat} {ss : List ByteArray} (h : OwnS w wr len ss) (hl : len ≤ 1048576) : StrsAt wr (fun b => b = w.heap.size) (some ⟨w.heap.size, 0, none⟩) len ss :=
  ⟨h.len, by omega, fun _ => ⟨w.heap.size, 0, rfl, rfl, fun i x hx => by rw [Nat.zero_add]; exact (h.cell hx).1⟩⟩
set_option maxRecDepth 100000 in
set_option maxHeartbeats 2000000 in
/-- two lists of the same texts are equal -/
theorem eqStringS_any (S T : Nat → Prop) (a : Option Addr) (len cap : Nat) (a2 : Option Addr) (cap2 : Nat) (ss : List ByteArray) (w : World) (h : StrsAt w S a len ss) (g : StrsAt w T a2 len ss) :
    Calls Tryz.prog 11 #[.slice a len cap, .slice a2 len cap2] w fun e w' => e = .returned (.bool true) ∧ Below w.heap.size w w' := by
  have hs := h.small
  go_enter Tryz.func11, Tryz.ntmps11
  go_wp2_with fail
  go_loopw [5] (fun i wr => ∃ k : Nat, k ≤ len ∧ i = .int .i64 k ∧ ∃ n, w.drewN n = wr) (fun i _ => len - (intOf i).toNat)
  case atStart => exact ⟨0, Nat.zero_le _, rfl, 0, rfl⟩
  case round =>
    obtain ⟨k, hk, rfl, n, hn⟩ := hrel
    by_cases hlt : k < len
    · have hki : (k : Int) < (len : Int) := by omega
      obtain ⟨b, off, x, rfl, hxk, hc⟩ := (h.to (w' := wr) (S' := S) fun b hb => ⟨hb, by rw [← hn]; rfl⟩).get hlt
      obtain ⟨b2, off2, y, rfl, hyk, hc2⟩ := (g.to (w' := wr) (S' := T) fun b hb => ⟨hb, by rw [← hn]; rfl⟩).get hlt
      rw [hxk] at hyk
      injection hyk with hyk
      subst hyk
      have heq : (x.toList == x.toList) = true := beq_self_eq_true _
      have HN := Lib.hid hn
      clear hn hxk
      go_wp2_with fail
      go_quiet (fail)
      go_wp2_with fail
      go_roundw
      case rel => exact ⟨k + 1, by omega, by go_num, n + nq, by rw [← HN.out, World.drewN_drewN]⟩
      case measure => simp [intOf] <;> omega
    · obtain rfl : k = len := by omega
      have HN := Lib.hid hn
      clear hn
      go_wp2_with fail
      go_ret
      exact ⟨rfl, by rw [← HN.out]; exact below_dn (Below.refl _ _) _⟩
set_option maxRecDepth 100000 in
set_option maxHeartbeats 4000000 in
/-- the law FnExactRunDesk -/
theorem fnExactRunDesk_any (a : Option Addr) (len cap : Nat) (ss : List ByteArray) (w : World) (hE : EnvD w) (h10 : 10 ≤ w.heap.size) (h : StrsAt w (· < w.heap.size) a len ss) (hz : ∀ s ∈ ss, s.size ≤ 9223372036854775807) (hl : len ≤ 9223372036854775807) :
    Calls Tryz.prog 4 #[.slice a len cap] w (LawPost w) := by
  have HE := Lib.hid hE
  have H10 := Lib.hid h10
  have H := Lib.hid h
  have HZ := Lib.hid hz
  clear hE h10 h hz
  go_enter Tryz.func4, Tryz.ntmps4
  go_wp2_with fail
  refine (szStringS_any _ a len cap ss w H.out HZ.out hl).mono ?_
  rintro e w1 ⟨⟨r, rfl, hr⟩, hw⟩
  subst hw
  rcases hr with hr | ⟨hr, hsum⟩
  · go_wp2_with fail
    go_ret
    exact ⟨rfl, Below.refl _ _⟩
  · have hrI : ¬ r < 0 := by omega
    have HLZ := Lib.hid (show ∀ s ∈ ss, s.size ≤ 1048575 from fun s hs => by
      have h1 := sumZ_mem hs
      have h2 := H.out.lenEq
      have h3 := List.length_pos_of_mem hs
      omega)
    have hl1 : len ≤ 1048576 := by omega
    have HLL := Lib.hid hl1
    clear hr hsum
    go_wp2_with fail
    refine (toStringS_any a len cap ss w1 H.out hl1).mono ?_
    rintro e w2 ⟨rfl, hO2⟩
    have HO2 := Lib.hid hO2
    have HB2 := Lib.hid hO2.below
    clear hO2
    go_wp2_with fail
    refine (runDesk_spec (· < w2.heap.size) _ len len ss w2 (fun b hb => hb) ((HO2.out.at' HLL.out).to fun b hb => ⟨by rw [hb]; exact (HO2.out.own.lt _ rfl).2, rfl⟩) HLZ.out).mono ?_
    rintro e w3 ⟨rfl, hb3⟩
    have HB3 := Lib.hid (HB2.out.trans (hb3.mono HB2.out.size))
    clear hb3
    go_wp2_with fail
    refine (toStringS_any a len cap ss w3 (H.out.to fun b hb => ⟨Nat.lt_of_lt_of_le hb HB3.out.size, HB3.out.block b hb⟩) HLL.out).mono ?_
    rintro e w4 ⟨rfl, hO4⟩
    have HO4 := Lib.hid hO4
    have HB4 := Lib.hid (HB3.out.trans (hO4.below.mono HB3.out.size))
    clear hO4
    go_wp2_with fail
    refine (runDesk_impl (· < w4.heap.size) _ len len ss w4 (HE.out.below H10.out HB4.out) (Nat.le_trans H10.out HB4.out.size) (fun b hb => hb) ((HO4.out.at' HLL.out).to fun b hb => ⟨by rw [hb]; exact (HO4.out.own.lt _ rfl).2, rfl⟩) HLZ.out).mono ?_
    rintro e w5 ⟨rfl, hb5⟩
    have HO5 := Lib.hid (HO4.out.up hb5)
    have HB5 := Lib.hid (HB4.out.trans (hb5.mono HB4.out.size))
    clear hb5
    generalize deskRes ss = X at *
    have heq : (X.toList == X.toList) = true := beq_self_eq_true _
    go_wp2_with fail
    refine (toStringS_any a len cap ss w5 (H.out.to fun b hb => ⟨Nat.lt_of_lt_of_le hb HB5.out.size, HB5.out.block b hb⟩) HLL.out).mono ?_
    rintro e w6 ⟨rfl, hO6⟩
    have HO6 := Lib.hid hO6
    have HB6 := Lib.hid (HB5.out.trans (hO6.below.mono HB5.out.size))
    have HO56 := Lib.hid (HO5.out.up hO6.below)
    clear hO6
    go_wp2_with fail
    refine (eqStringS_any _ _ _ len len _ len ss w6 (HO56.out.at' HLL.out) (HO6.out.at' HLL.out)).mono ?_
    rintro e w7 ⟨rfl, hb7⟩
    have HB7 := Lib.hid (HB6.out.trans (hb7.mono HB6.out.size))
    clear hb7
    go_wp2_with fail
    go_ret
    exact ⟨rfl, HB7.out⟩
end Go.Proofs.YtjcbpnffmebihaaGreatDoor
