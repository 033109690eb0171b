/- The law FnExactLevelsOf returns true at every bill, and the bill reads behind the call as it read before. No condition. -/
import Derived.Test.YtkpokcddefoklabRows
import Derived.WalkKit
import Derived.Outline
import Derived.WalkSpells
import Derived.WalkLawsBesides
import Derived.ProofKit
import Derived.Test.YtkpokcddefoklabLib
import Derived.Test.YtkpokcddefoklabMark
import Derived.Test.YtkpokcddefoklabExact
import Derived.Test.YtkpokcddefoklabLevOf
namespace Go.Proofs.Ytkpokcddefoklab
open Go.RowKit Go.WideShapes

theorem rows_up {w w1 : World} {a : Option Addr} {len : Nat} {rows : List (List Int)} (h : RowsAt w (· < w.heap.size) a len rows) (hb : Below w.heap.size w w1) : RowsAt w1 (· < w1.heap.size) a len rows :=
  (h.below hb).to (fun _ hb' => ⟨Nat.lt_of_lt_of_le hb' hb.size, rfl⟩)
theorem ints_below {w w1 : World} {lo hi : Nat} {a : Option Addr} {len : Nat} {xs : List Int} (h : IntsAt w (fun b => lo ≤ b ∧ b < hi) a len xs) (hb : Below hi w w1) : IntsAt w1 (fun b => lo ≤ b ∧ b < hi) a len xs :=
  h.to (fun b hb' => ⟨hb', hb.block b hb'.2⟩)
theorem free_below {w w1 : World} {lo hi : Nat} {a : Option Addr} {len : Nat} (h : Free w (fun b => lo ≤ b ∧ b < hi) a len) (hb : Below hi w w1) : Free w1 (fun b => lo ≤ b ∧ b < hi) a len :=
  h.to (fun b hb' => ⟨hb', hb.block b hb'.2⟩)
theorem len_levRes (rows : List (List Int)) : (levResM rows).length ≤ 6 := by
  unfold levResM
  split
  · rename_i h; have := validBill_len6 h; simp [levelsM]; omega
  · simp

set_option maxRecDepth 100000 in
set_option maxHeartbeats 2000000 in
theorem fnExactLevelsOf_any (a : Option Addr) (len cap : Nat) (rows : List (List Int)) (w : World) (h : RowsAt w (· < w.heap.size) a len rows) :
    Calls Try.prog 4 #[.slice a len cap] w (LawPost w) := by
  go_enter Try.func4, Try.ntmps4
  go_wp2_with fail
  refine (szIntSS_any _ a len cap rows 1048576 w h (by omega) (by omega)).mono ?_
  rintro e w0 ⟨q, rfl, _, hq, rfl⟩
  by_cases h0 : 0 ≤ q
  · obtain ⟨hl, hr⟩ := hq h0
    have hr' : ∀ r ∈ rows, r.length ≤ 1048576 := fun r hr0 => by have := hr r hr0; omega
    have hr9 : ∀ r ∈ rows, r.length ≤ 9223372036854775807 := fun r hr0 => by have := hr' r hr0; omega
    have hl' : len ≤ 1048576 := by omega
    have HR' := Lib.hid hr'
    have HR9 := Lib.hid hr9
    have HL := Lib.hid h.lenEq
    have hln := len_levRes rows
    clear hq hr hr' hr9
    generalize hres : levResM rows = xs at hln
    have HRES := Lib.hid hres
    clear hres
    have heq : eqB xs xs = true := decide_eq_true rfl
    have heqr : eqRB rows rows = true := decide_eq_true rfl
    -- the model's answer
    go_wp2_with fail
    refine (toIntSS_any _ a len cap rows w h (fun b hb => hb) hl' HR'.out).mono ?_
    rintro e w1 ⟨rfl, hc1⟩
    have h1 := rows_up h hc1.below
    go_wp2_with fail
    refine (levelsOf_spec _ _ _ _ rows _ (hc1.rowsAt HL.out (by omega) HR9.out) (fun b hb => hb.2)).mono ?_
    rintro e w2 ⟨a0, l0, c0, rfl, m0, _, hb2⟩
    rw [HRES.out] at m0
    have h2 := rows_up h1 hb2
    have hB2 : Below w.heap.size w w2 := hc1.below.trans (hb2.mono hc1.below.size)
    -- the code's answer
    go_wp2_with fail
    refine (toIntSS_any _ a len cap rows w2 h2 (fun b hb => hb) hl' HR'.out).mono ?_
    rintro e w3 ⟨rfl, hc3⟩
    have h3 := rows_up h2 hc3.below
    have hB3 : Below w.heap.size w w3 := hB2.trans (hc3.below.mono hB2.size)
    have x3 := hc3.rowsAt HL.out (by omega) HR9.out
    have f3 := hc3.free HL.out hl' HR'.out
    have m3 := ints_below m0 hc3.below
    go_wp2_with fail
    refine (levelsOf_impl _ _ _ rows w3 (x3.to (fun b hb => ⟨hb.2, rfl⟩))).mono ?_
    rintro e w4 ⟨a4, l4, c4, rfl, g4, r4, hb4⟩
    rw [HRES.out] at g4
    have hl4 : l4 ≤ 6 := by rw [← g4.lenEq]; exact hln
    have s3 := hc3.below.size
    have s4 := hb4.size
    have h4 := rows_up h3 hb4
    have hB4 : Below w.heap.size w w4 := hB3.trans (hb4.mono hB3.size)
    have m4 := ints_below m3 (hb4.mono s3)
    have x4 : RowsAt w4 (fun b => w2.heap.size ≤ b ∧ b < w3.heap.size) _ len rows := x3.to (fun b hb => ⟨hb, hb4.block b hb.2⟩)
    go_wp2_with fail
    refine (eqIntS_any _ _ _ _ _ _ _ _ xs xs _ g4 m4).mono ?_
    rintro e w5 ⟨rfl, d5⟩
    have h5 := rows_up h4 (d5.below _)
    have hB5 := hB4.trans (d5.below w.heap.size)
    go_wp2_with fail
    refine (toIntSS_any _ a len cap rows w5 h5 (fun b hb => hb) hl' HR'.out).mono ?_
    rintro e w6 ⟨rfl, hc6⟩
    have s5a := Nat.le_of_eq d5.size
    have s5b := Nat.le_of_eq d5.size.symm
    have s6 := hc6.below.size
    have b46 : Below w4.heap.size w4 w6 := (d5.below _).trans (hc6.below.mono (by omega))
    have h6 := rows_up h5 hc6.below
    have hB6 := hB5.trans (hc6.below.mono hB5.size)
    have x6 : RowsAt w6 (fun b => w2.heap.size ≤ b ∧ b < w3.heap.size) _ len rows := x4.to (fun b hb => ⟨hb, b46.block b (by omega)⟩)
    go_wp2_with fail
    refine (eqIntSS_any _ _ _ _ len len len len rows rows _ x6 (hc6.rowsAt HL.out (by omega) HR9.out)).mono ?_
    rintro e w7 ⟨rfl, d7⟩
    have b47 : Below w4.heap.size w4 w7 := b46.trans (d7.below _)
    have h7 := rows_up h6 (d7.below _)
    have hB7 := hB6.trans (d7.below w.heap.size)
    have f7 : RowsFree w7 (fun b => b = w2.heap.size) (fun b => w2.heap.size < b ∧ b < w3.heap.size) (some ⟨w2.heap.size, 0, none⟩) len := by
      have k37 : Below w3.heap.size w3 w7 := hb4.trans (b47.mono s4)
      refine ⟨f3.small, fun hp => ?_⟩
      obtain ⟨b, off, hab, hbb, hcc⟩ := f3.cells hp
      refine ⟨b, off, hab, hbb, fun i hi => ?_⟩
      obtain ⟨a', l, c, e1, e2, e3⟩ := hcc i hi
      have hsz := hc3.size
      exact ⟨a', l, c, by rw [World.cell?_of_block (w := w3) (k37.block b (by rw [hbb]; omega))]; exact e1, e2, e3.to (fun q hq => ⟨hq, k37.block q hq.2⟩)⟩
    -- the argument is marked
    go_wp2_with fail
    refine (markIntSS_any (fun b => b = w2.heap.size) (fun b => w2.heap.size < b ∧ b < w3.heap.size) (some ⟨w2.heap.size, 0, none⟩) len len 1 w7 f7 (by intro q hq; omega) (by omega) (by omega)).mono ?_
    rintro e w8 ⟨k8, rfl, hk8, _, k78⟩
    have s2 := hB2.size
    have s7a := Nat.le_of_eq d7.size
    have s7b := Nat.le_of_eq d7.size.symm
    have s8a := Nat.le_of_eq k78.size
    have s8b := Nat.le_of_eq k78.size.symm
    have g7 := ints_below g4 b47
    have m7 := ints_below m4 (b47.mono (show w2.heap.size ≤ w4.heap.size by omega))
    have r7 := free_below r4 b47
    have g8 : IntsAt w8 (fun b => w3.heap.size ≤ b ∧ b < w4.heap.size) a4 l4 xs := k78.ints g7 (by intro q h1 h2; omega)
    have m8 : IntsAt w8 (fun b => w1.heap.size ≤ b ∧ b < w2.heap.size) a0 l0 xs := k78.ints m7 (by intro q h1 h2; omega)
    have r8 := r7.kept k78
    have hB8 : Below w.heap.size w w8 := hB7.trans (k78.below (fun q hq => by omega))
    have hk80 : 0 ≤ k8 := by omega
    go_wp2_with fail
    refine (eqIntS_any _ _ _ _ _ _ _ _ xs xs _ g8 m8).mono ?_
    rintro e w9 ⟨rfl, d9⟩
    have s9a := Nat.le_of_eq d9.size
    have s9b := Nat.le_of_eq d9.size.symm
    have r9 := free_below r8 (d9.below _)
    have m9 := ints_below m8 (d9.below _)
    have hB9 := hB8.trans (d9.below w.heap.size)
    -- the answer is marked
    go_wp2_with fail
    refine (markIntS_any _ a4 l4 c4 1 w9 r9 (by omega) (by omega) (by omega)).mono ?_
    rintro e w10 ⟨rfl, g10, k910⟩
    have s10a := Nat.le_of_eq k910.size
    have s10b := Nat.le_of_eq k910.size.symm
    have m10 : IntsAt w10 (fun b => w1.heap.size ≤ b ∧ b < w2.heap.size) a0 l0 xs := k910.ints m9 (by intro q h1 h2; omega)
    have hB10 : Below w.heap.size w w10 := hB9.trans (k910.below (fun q hq => by omega))
    have hl40 : 0 ≤ 1 + (l4 : Int) := by omega
    go_wp2_with fail
    refine (heldIntS_any _ a4 l4 c4 1 w10 g10 (by omega) (by omega) (by omega)).mono ?_
    rintro e w10' ⟨rfl, rfl⟩
    have h10 := rows_up h hB10
    go_wp2_with fail
    refine (toIntSS_any _ a len cap rows w10 h10 (fun b hb => hb) hl' HR'.out).mono ?_
    rintro e w11 ⟨rfl, hc11⟩
    have s11 := hc11.below.size
    have g11 := ints_below g10 (hc11.below.mono (show w4.heap.size ≤ w10.heap.size by omega))
    have m11 := ints_below m10 (hc11.below.mono (show w2.heap.size ≤ w10.heap.size by omega))
    have hB11 := hB10.trans (hc11.below.mono hB10.size)
    go_wp2_with fail
    refine (levelsOf_impl _ _ _ rows w11 ((hc11.rowsAt HL.out (by omega) HR9.out).to (fun b hb => ⟨hb.2, rfl⟩))).mono ?_
    rintro e w12 ⟨a12, l12, c12, rfl, g12, _, hb12⟩
    rw [HRES.out] at g12
    have g12' := ints_below g11 (hb12.mono (show w4.heap.size ≤ w11.heap.size by omega))
    have m12 := ints_below m11 (hb12.mono (show w2.heap.size ≤ w11.heap.size by omega))
    have hB12 := hB11.trans (hb12.mono hB11.size)
    go_wp2_with fail
    refine (eqIntS_any _ _ _ _ _ _ _ _ xs xs _ g12 m12).mono ?_
    rintro e w13 ⟨rfl, d13⟩
    have g13 := ints_below g12' (d13.below _)
    have hB13 := hB12.trans (d13.below w.heap.size)
    go_wp2_with fail
    refine (heldIntS_any _ a4 l4 c4 1 w13 g13 (by omega) (by omega) (by omega)).mono ?_
    rintro e w13' ⟨rfl, rfl⟩
    go_wp2_with fail
    go_ret
    exact ⟨rfl, hB13⟩
  · go_wp2
    go_ret
    exact ⟨rfl, Below.refl _ _⟩
end Go.Proofs.Ytkpokcddefoklab
