/- The law FnValidBill returns true at every code, and the code reads behind the call as it read before. No condition. -/
import Derived.Test.YtkpokcddefoklaaRows
import Derived.WalkKit
import Derived.Outline
import Derived.WalkSpells
import Derived.WalkLawsBesides
import Derived.ProofKit
import Derived.Test.YtkpokcddefoklaaLib
import Derived.Test.YtkpokcddefoklaaRd
import Derived.Test.YtkpokcddefoklaaGen
import Derived.Test.YtkpokcddefoklaaPick
import Derived.Test.YtkpokcddefoklaaBill
import Derived.Test.YtkpokcddefoklaaNewReader
import Derived.Test.YtkpokcddefoklaaVb
namespace Go.Proofs.Ytkpokcddefoklaa
open Go.RowKit Go.WideShapes

def RowsPost (w : World) (e : Ending) (w' : World) : Prop := ∃ (a : Option Addr) (len cap : Nat) (rows : List (List Int)), e = .returned (.slice a len cap) ∧
  RowsAt w' (fun b => w.heap.size ≤ b ∧ b < w'.heap.size) a len rows ∧ len ≤ cap ∧ len ≤ 6 ∧ Below w.heap.size w w'

theorem drawValidBill_any (a : Option Addr) (len cap : Nat) (w : World) (hb : BytesAt w w.heap.size a len) (hl : len ≤ cap) (hs : len ≤ 9223372036854775807) :
    Calls Try.prog 7 #[.slice a len cap] w (RowsPost w) := by
  go_enter Try.func7, Try.ntmps7
  go_wp2_with fail
  refine (newReader_any a len cap w hb hl hs).mono ?_
  rintro e w1 ⟨rfl, hr, hb1⟩
  go_wp2_with fail
  refine (someBill_any w.heap.size 0 w1 hr (by omega)).mono ?_
  rintro e w2 ⟨a2, l2, c2, rows, p2, rfl, h1, h2, h3, _, _, hg⟩
  have hbb : Below w.heap.size w w2 := grown_below hg hb1 hb1.size
  have h1' := h1.to (S' := fun b => w.heap.size ≤ b ∧ b < w2.heap.size) (w' := w2) (fun b hb => ⟨⟨Nat.le_trans hb1.size hb.1, hb.2⟩, rfl⟩)
  go_wp2
  go_ret
  exact ⟨a2, l2, c2, rows, rfl, h1', h2, h3, hbb⟩

theorem okRows_take (rows : List (List Int)) : ∀ (k i : Nat), okRows i rows = true → okRows i (rows.take k) = true := by
  induction rows with
  | nil => intro k i _; simp [okRows]
  | cons r rs ih =>
    intro k i h
    cases k with
    | zero => rfl
    | succ k => simp only [List.take_succ_cons, okRows, Bool.and_eq_true] at h ⊢; exact ⟨h.1, ih k _ h.2⟩
theorem validBill_take {rows : List (List Int)} (h : validBillM rows = true) (h1 : rows.length ≠ 1) : validBillM (rows.take (rows.length - 1)) = true := by
  unfold validBillM at *
  simp only [Bool.and_eq_true, inB, decide_eq_true_eq] at h ⊢
  refine ⟨?_, okRows_take _ _ _ h.2⟩
  rw [List.length_take]
  omega
theorem validBill_len {rows : List (List Int)} (h : validBillM rows = true) : 1 ≤ rows.length ∧ rows.length ≤ 6 := by
  unfold validBillM at h
  simp only [Bool.and_eq_true, inB, decide_eq_true_eq] at h
  omega

set_option maxHeartbeats 1000000 in
theorem fnValidBill_any (a : Option Addr) (len cap : Nat) (w : World) (hb : BytesAt w w.heap.size a len) (hl : len ≤ cap) (hs : len ≤ 9223372036854775807) :
    Calls Try.prog 3 #[.slice a len cap] w (LawPost w) := by
  by_cases h20 : len ≤ 1048576
  · go_enter Try.func3, Try.ntmps3
    go_wp2_with fail
    refine (drawValidBill_any a len cap w hb hl hs).mono ?_
    rintro e w1 ⟨a1, l1, c1, rows, rfl, hrows, hlc, _, hbw⟩
    go_wp2_with fail
    refine (validBill_impl _ _ _ _ rows _ hrows).mono ?_
    rintro e w2 ⟨rfl, rfl⟩
    cases hv : validBillM rows
    · go_wp2_with (go_at_call 9; refine (validBill_spec _ _ _ _ rows _ hrows).mono ?_; rintro e w2 ⟨rfl, rfl⟩)
      go_ret
      exact ⟨rfl, hbw⟩
    · obtain ⟨e1, e6⟩ := validBill_len hv
      have hlen := hrows.lenEq
      by_cases hl1 : l1 = 1
      · subst hl1
        have HV := Lib.hid hlen
        clear hlen
        go_wp2_with (go_at_call 9; refine (validBill_spec _ _ _ _ rows _ hrows).mono ?_; rintro e w2 ⟨rfl, rfl⟩)
        go_ret
        exact ⟨rfl, hbw⟩
      · have ht := validBill_take hv (by omega)
        have htk := hrows.take (l1 - 1) (by omega)
        rw [hlen] at ht
        have e1' : 1 ≤ l1 := by omega
        have HV := Lib.hid hlen
        have hlne : ((l1 : Int) == 1) = false := by simp; omega
        clear hlen e1 e6
        go_wp2_with (go_at_call 9; refine (validBill_spec _ _ _ _ rows _ hrows).mono ?_; rintro e w2 ⟨rfl, rfl⟩)
        refine (validBill_impl _ _ _ _ (rows.take (l1 - 1)) _ htk).mono ?_
        rintro e w2 ⟨rfl, rfl⟩
        go_wp2
        go_ret
        exact ⟨rfl, hbw⟩
  · go_enter Try.func3, Try.ntmps3
    go_wp2
    go_ret
    exact ⟨rfl, Below.refl _ _⟩
end Go.Proofs.Ytkpokcddefoklaa
