/- The law FnExactTakesOf returns true at every bill and all numbers, and the bill reads behind the call as it read before. No condition. -/
import Derived.Test.YtkpokcddefoklaaRows
import Derived.WalkKit
import Derived.Outline
import Derived.WalkSpells
import Derived.WalkLawsBesides
import Derived.ProofKit
import Derived.Test.YtkpokcddefoklaaLib
import Derived.Test.YtkpokcddefoklaaGen
import Derived.Test.YtkpokcddefoklaaExact
import Derived.Test.YtkpokcddefoklaaVb
import Derived.Test.YtkpokcddefoklaaTakes
namespace Go.Proofs.Ytkpokcddefoklaa
open Go.RowKit Go.WideShapes

theorem rows_up {w w1 : World} {a : Option Addr} {len : Nat} {rows : List (List Int)} (h : RowsAt w (· < w.heap.size) a len rows) (hb : Below w.heap.size w w1) : RowsAt w1 (· < w1.heap.size) a len rows :=
  (h.below hb).to (fun b hb' => ⟨Nat.lt_of_lt_of_le hb' hb.size, rfl⟩)

set_option maxHeartbeats 1000000 in
theorem fnExactTakesOf_any (a : Option Addr) (len cap : Nat) (rows : List (List Int)) (i j : Int) (w : World) (h : RowsAt w (· < w.heap.size) a len rows) :
    Calls Try.prog 6 #[.slice a len cap, .int .i64 i, .int .i64 j] w (LawPost w) := by
  go_enter Try.func6, Try.ntmps6
  go_wp2_with fail
  refine (szIntSS_any _ a len cap rows 1048576 w h (by omega) (by omega)).mono ?_
  rintro e w0 ⟨q, rfl, _, hq, rfl⟩
  by_cases h0 : 0 ≤ q
  · obtain ⟨hl, hr⟩ := hq h0
    have hr' : ∀ r ∈ rows, r.length ≤ 1048576 := fun r hr0 => by have := hr r hr0; omega
    have hl' : len ≤ 1048576 := by omega
    have HR := Lib.hid hr
    clear hq hr
    have HL := Lib.hid h.lenEq
    go_wp2_with fail
    refine (toIntSS_any _ a len cap rows w h (fun b hb => hb) hl' hr').mono ?_
    rintro e w1 ⟨rfl, hc1⟩
    have h1 := rows_up h hc1.below
    have r1 := hc1.rowsAt HL.out (by omega) (fun r hr => by have := hr' r hr; omega)
    go_wp2_with fail
    refine (takes_spec _ _ _ _ rows i j _ r1).mono ?_
    rintro e w2 ⟨rfl, hd⟩
    have h2 := rows_up h1 (hd.below _)
    have hb2 : Below w.heap.size w w2 := hc1.below.trans (hd.below _)
    go_wp2_with fail
    refine (toIntSS_any _ a len cap rows w2 h2 (fun b hb => hb) hl' hr').mono ?_
    rintro e w3 ⟨rfl, hc3⟩
    have h3 := rows_up h2 hc3.below
    have hb3 : Below w.heap.size w w3 := hb2.trans (hc3.below.mono hb2.size)
    have r3 := (hc3.rowsAt HL.out (by omega) (fun r hr => by have := hr' r hr; omega)).to (S' := (· < w3.heap.size)) (w' := w3) (fun b hb => ⟨hb.2, rfl⟩)
    go_wp2_with fail
    refine (takes_impl _ _ _ rows i j _ r3).mono ?_
    rintro e w4 ⟨rfl, hb4⟩
    have h4 := rows_up h3 hb4
    have r4 := r3.below hb4
    have hb4' : Below w.heap.size w w4 := hb3.trans (hb4.mono hb3.size)
    generalize takesM rows i j = t
    go_wp2_with fail
    refine (toIntSS_any _ a len cap rows w4 h4 (fun b hb => hb) hl' hr').mono ?_
    rintro e w5 ⟨rfl, hc5⟩
    have r5 := hc5.rowsAt HL.out (by omega) (fun r hr => by have := hr' r hr; omega)
    have r4' := r4.to (S' := fun _ => True) (w' := w5) (fun b hb => ⟨trivial, hc5.below.block b (Nat.lt_of_lt_of_le hb hb4.size)⟩)
    have hb5 : Below w.heap.size w w5 := hb4'.trans (hc5.below.mono hb4'.size)
    go_wp2_with fail
    refine (eqIntSS_any _ _ _ _ len len len len rows rows _ r4' r5).mono ?_
    rintro e w6 ⟨rfl, hd6⟩
    have heq : eqRB rows rows = true := decide_eq_true rfl
    go_wp2
    go_ret
    exact ⟨rfl, hb5.trans (hd6.below _)⟩
  · go_wp2
    go_ret
    exact ⟨rfl, Below.refl _ _⟩
end Go.Proofs.Ytkpokcddefoklaa
