import Derived.Test.YthmlgicjedhgfabRows
import Derived.WalkKit
import Derived.LoopTactic
import Derived.Outline
import Derived.WalkSpells
import Derived.WalkLawsBesides
import Derived.Deep.QuietTactic
import Derived.BigQuiet
import Derived.Test.YthmlgicjedhgfabM0
import Derived.Test.YthmlgicjedhgfabM1
import Derived.Test.YthmlgicjedhgfabM2
import Derived.Test.YthmlgicjedhgfabM8
namespace Go.Proofs.Ythmlgicjedhgfab
open Go.RowKit

-- a shop and the times of its steps, read
theorem step_row {w : World} {S : Nat → Prop} {a : Option Addr} {len : Nat} {shop : List (List (List Int))} (h : ShopAt w S a len shop) (hv : shopM shop = true) {j : Nat} (hj : j < len) (h0 : 0 < slen shop j) :
    ∃ (b off b1 off1 c1 : Nat), a = some ⟨b, off, none⟩ ∧ w.cell? ⟨b, off + j, none⟩ = some (.slice (some ⟨b1, off1, none⟩) (slen shop j) c1) ∧ slen shop j ≤ c1 ∧
      ∀ k, k < slen shop j → ∃ b2 off2 c2, w.cell? ⟨b1, off1 + k, none⟩ = some (.slice (some ⟨b2, off2, none⟩) 2 c2) ∧ 2 ≤ c2 ∧ w.cell? ⟨b2, off2, none⟩ = some (.int .i64 (smach shop j k : Nat)) ∧ w.cell? ⟨b2, off2 + 1, none⟩ = some (.int .i64 (stime shop j k)) := by
  obtain ⟨b, off, b1, off1, c1, _, _, _, rfl, d1, d2, _⟩ := step_at h hv hj h0
  refine ⟨b, off, b1, off1, c1, rfl, d1, d2, fun k hk => ?_⟩
  obtain ⟨b', off', b1', off1', c1', b2, off2, c2, e, q1, q2, q3, q4, q5, q6⟩ := step_at h hv hj hk
  cases e
  rw [d1] at q1
  cases q1
  exact ⟨b2, off2, c2, q3, q4, q5, q6⟩
theorem begun_row {w : World} {S : Nat → Prop} {a : Option Addr} {len n : Nat} {s : ShopS} (h : RowsAt w S a len (rowsS s n)) {j : Nat} (hj : j < n) (h0 : 0 < s.nx j) :
    ∃ (b off b1 off1 c1 : Nat), a = some ⟨b, off, none⟩ ∧ len = n ∧ w.cell? ⟨b, off + j, none⟩ = some (.slice (some ⟨b1, off1, none⟩) (s.nx j) c1) ∧ s.nx j ≤ c1 ∧ ∀ k, k < s.nx j → w.cell? ⟨b1, off1 + k, none⟩ = some (.int .i64 (s.b j k)) := by
  have hn : len = n := by have := h.lenEq; rw [rowsS_len] at this; exact this.symm
  obtain ⟨b, off, r, a', l, c, rfl, hr, hc, hlc, hi⟩ := h.get (k := j) (by omega)
  rw [rowsS_get _ hj] at hr
  cases hr
  have hl : l = s.nx j := by rw [← hi.lenEq, rowS_len]
  subst hl
  obtain ⟨b1, off1, rfl, _, hx⟩ := hi.cells h0
  exact ⟨b, off, b1, off1, c, rfl, hn, hc, hlc, fun k hk => hx k _ (tab_at _ hk)⟩
set_option maxHeartbeats 400000 in
theorem equalRows_any (S T : Nat → Prop) (a a2 : Option Addr) (len cap len2 cap2 : Nat) (xs ys : List (List Int)) (w : World) (h : RowsAt w S a len xs) (g : RowsAt w T a2 len2 ys) :
    Calls Try.prog 10 #[.slice a len cap, .slice a2 len2 cap2] w (EqPost w (eqRB xs ys)) := by
  have hs := h.small
  have hs2 := g.small
  by_cases hll : len = len2
  · subst hll
    go_enter Try.func10, Try.ntmps10
    go_wp2
    go_loopw [5] (fun i wr => ∃ k : Nat, k ≤ len ∧ i = .int .i64 k ∧ xs.take k = ys.take k ∧ Drew w wr) (fun i _ => len - (intOf i).toNat)
    case atStart => exact ⟨0, Nat.zero_le _, rfl, rfl, Drew.refl w⟩
    case round =>
      obtain ⟨k, hk, rfl, ht, hd⟩ := hrel
      have HT := Lib.hid ht
      clear ht
      by_cases hlt : k < len
      · obtain ⟨b, off, x, a3, l3, c3, rfl, hx, hc, _, hi⟩ := (Drew.rows h hd).get hlt
        obtain ⟨b2, off2, y, a4, l4, c4, rfl, hy, hc2, _, hi2⟩ := (Drew.rows g hd).get hlt
        have HX := Lib.hid hx
        have HY := Lib.hid hy
        clear hx hy
        have hcall : ∀ n, Calls Try.prog 24 #[.slice a3 l3 c3, .slice a4 l4 c4] (wr.drewN n) (fun e w' => e = .returned (.bool (eqB x y)) ∧ ∃ m, w' = (wr.drewN n).drewN m) :=
          fun n => equalInts_any S T a3 a4 l3 c3 l4 c4 x y _ (Drew.ints hi ⟨n, rfl⟩) (Drew.ints hi2 ⟨n, rfl⟩)
        have HCALL := Lib.hid hcall
        clear hcall
        by_cases hxy : x = y
        · have hb : eqB x y = true := decide_eq_true hxy
          have HXY := Lib.hid hxy
          clear hxy
          go_wp2
          go_quiet ((go_at_call 24; exact Calls.quiet_of (HCALL.out _)))
          go_wp2
          go_roundw
          case rel => exact ⟨k + 1, by omega, by go_num, take_eq_step HX.out (by rw [HXY.out]; exact HY.out) HT.out, hd.drew _⟩
          case measure => simp [intOf]; omega
        · have hb : eqB x y = false := decide_eq_false hxy
          go_wp2
          go_quiet ((go_at_call 24; exact Calls.quiet_of (HCALL.out _)))
          go_wp2
          go_ret
          exact ⟨ret_bool (decide_eq_false (ne_of_get HX.out HY.out hxy)).symm, hd.drew _⟩
      · go_wp2
        go_ret
        have e1 := h.lenEq
        have e2 := g.lenEq
        have ht := HT.out
        rw [List.take_of_length_le (by omega), List.take_of_length_le (by omega)] at ht
        exact ⟨ret_bool (decide_eq_true ht).symm, hd⟩
  · have hne : xs ≠ ys := by rintro rfl; exact hll (h.lenEq.symm.trans g.lenEq)
    go_enter Try.func10, Try.ntmps10
    go_wp2
    go_ret
    exact ⟨ret_bool (decide_eq_false hne).symm, Drew.refl w⟩
end Go.Proofs.Ythmlgicjedhgfab
