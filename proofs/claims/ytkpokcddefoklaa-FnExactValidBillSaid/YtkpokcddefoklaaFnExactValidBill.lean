/- The law FnExactValidBill returns true at every bill, and the bill reads behind the call as it read before. No condition. -/
import Derived.Test.YtkpokcddefoklaaRows
import Derived.WalkKit
import Derived.Outline
import Derived.WalkSpells
import Derived.WalkLawsBesides
import Derived.ProofKit
import Derived.Test.YtkpokcddefoklaaLib
import Derived.Test.YtkpokcddefoklaaGen
import Derived.Test.YtkpokcddefoklaaExact
import Derived.Test.YtkpokcddefoklaaVb
namespace Go.Proofs.Ytkpokcddefoklaa
open Go.RowKit Go.WideShapes

set_option maxHeartbeats 1000000 in
theorem fnExactValidBill_any (a : Option Addr) (len cap : Nat) (rows : List (List Int)) (w : World) (h : RowsAt w (· < w.heap.size) a len rows) :
    Calls Try.prog 4 #[.slice a len cap] w (LawPost w) := by
  go_enter Try.func4, Try.ntmps4
  go_wp2_with fail
  refine (szIntSS_any _ a len cap rows 1048576 w h (by omega) (by omega)).mono ?_
  rintro e w0 ⟨q, rfl, _, hq, rfl⟩
  by_cases h0 : 0 ≤ q
  · obtain ⟨hl, hr⟩ := hq h0
    have hr' : ∀ r ∈ rows, r.length ≤ 1048576 := fun r hr0 => by have := hr r hr0; omega
    have hl' : len ≤ 1048576 := by omega
    have HR := Lib.hid hr
    clear hq hr
    have HL := Lib.hid h.lenEq
    go_wp2_with fail
    refine (toIntSS_any _ a len cap rows w h (fun b hb => hb) hl' hr').mono ?_
    rintro e w1 ⟨rfl, hc1⟩
    have h1 := (h.below hc1.below).to (S' := (· < w1.heap.size)) (w' := w1) (fun b hb => ⟨Nat.lt_of_lt_of_le hb hc1.below.size, rfl⟩)
    have r1 := hc1.rowsAt HL.out (by omega) (fun r hr => by have := hr' r hr; omega)
    go_wp2_with fail
    refine (validBill_spec _ _ _ _ rows _ r1).mono ?_
    rintro e w1' ⟨rfl, rfl⟩
    go_wp2_with fail
    refine (toIntSS_any _ a len cap rows w1 h1 (fun b hb => hb) hl' hr').mono ?_
    rintro e w2 ⟨rfl, hc2⟩
    have h2 := (h1.below hc2.below).to (S' := (· < w2.heap.size)) (w' := w2) (fun b hb => ⟨Nat.lt_of_lt_of_le hb hc2.below.size, rfl⟩)
    have r2 := hc2.rowsAt HL.out (by omega) (fun r hr => by have := hr' r hr; omega)
    go_wp2_with fail
    refine (validBill_impl _ _ _ _ rows _ r2).mono ?_
    rintro e w2' ⟨rfl, rfl⟩
    go_wp2_with fail
    refine (toIntSS_any _ a len cap rows w2 h2 (fun b hb => hb) hl' hr').mono ?_
    rintro e w3 ⟨rfl, hc3⟩
    have r3 := hc3.rowsAt HL.out (by omega) (fun r hr => by have := hr' r hr; omega)
    have r2' := r2.to (S' := fun _ => True) (w' := w3) (fun b hb => ⟨trivial, hc3.below.block b hb.2⟩)
    have hbw : Below w.heap.size w w3 := (hc1.below.trans (hc2.below.mono hc1.below.size)).trans (hc3.below.mono (Nat.le_trans hc1.below.size hc2.below.size))
    go_wp2_with fail
    refine (eqIntSS_any _ _ _ _ len len len len rows rows _ r2' r3).mono ?_
    rintro e w4 ⟨rfl, hd⟩
    have heq : eqRB rows rows = true := decide_eq_true rfl
    go_wp2
    go_ret
    exact ⟨rfl, hbw.trans (hd.below _)⟩
  · go_wp2
    go_ret
    exact ⟨rfl, Below.refl _ _⟩
end Go.Proofs.Ytkpokcddefoklaa
