import Derived.Test.YtjcbpnffmebihaaGreatDoorA33
import Derived.Test.YtjcbpnffmebihaaGreatDoorRows
import Derived.WalkKit
import Derived.LoopTactic
import Derived.Outline
import Derived.WalkSpells
import Derived.WalkLawsBesides
import Derived.ProofKit
import Derived.Lib.Hide
import Derived.IntWalk
set_option linter.unusedVariables false
set_option linter.unusedSimpArgs false
namespace Go.Proofs.YtjcbpnffmebihaaGreatDoor
open Go.RowKit Go.WideShapes

-- chapter 11's code: kindOf, cutsIn
def CellsC (w : World) (b n : Nat) (f : Nat → Int) : Prop := ∀ j, j < n → w.cell? ⟨b, j, none⟩ = some (.int .i64 (f j)) ∧ w.frozen? ⟨b, j, none⟩ = false
theorem CellsC.put {w : World} {b n : Nat} {f : Nat → Int} (h : CellsC w b n f) {k : Nat} (hk : k < n) (x : Int) : CellsC (w.setCell ⟨b, k, none⟩ (.int .i64 x)) b n (fun j => if j = k then x else f j) := fun j hj => by
  refine ⟨?_, by rw [World.frozen?_setCell]; exact (h j hj).2⟩
  by_cases e : j = k
  · subst e
    dsimp only
    rw [if_pos rfl]
    exact World.cell?_setCell_same _ _ _ (h j hj).1
  · dsimp only
    rw [if_neg e, World.cell?_setCell_other _ _ _ _ (by intro e'; injection e' with _ e2; omega)]
    exact (h j hj).1
/-- the first k places filled -/
def pairC (f : Nat → Int) (k j : Nat) : Int := if j / 2 < k then (if j % 2 = 0 then f (j / 2) else ((j / 2 : Nat) : Int)) else 0
theorem pairC_step {w : World} {b n k : Nat} {f : Nat → Int} (h : CellsC w b (n * 2) (pairC f k)) (hk : k < n) : CellsC ((w.setCell ⟨b, k * 2, none⟩ (.int .i64 (f k))).setCell ⟨b, k * 2 + 1, none⟩ (.int .i64 (k : Int))) b (n * 2) (pairC f (k + 1)) := by
  have := (h.put (k := k * 2) (by omega) (f k)).put (k := k * 2 + 1) (by omega) (k : Int)
  intro j hj
  obtain ⟨h1, h2⟩ := this j hj
  refine ⟨?_, h2⟩
  rw [h1]
  congr 2
  unfold pairC
  dsimp only
  by_cases e : j = k * 2 + 1
  · subst e
    rw [if_pos rfl, show (k * 2 + 1) / 2 = k by omega, if_pos (by omega), if_neg (by omega)]
  · rw [if_neg e]
    by_cases e2 : j = k * 2
    · subst e2
      rw [if_pos rfl, show k * 2 / 2 = k by omega, if_pos (by omega), if_pos (by omega)]
    · rw [if_neg e2]
      by_cases g : j / 2 < k
      · rw [if_pos g, if_pos (show j / 2 < k + 1 by omega)]
      · rw [if_neg g, if_neg (show ¬ j / 2 < k + 1 by omega)]
theorem pairC_all {w : World} {b n : Nat} {f : Nat → Int} (h : CellsC w b (n * 2) (pairC f n)) : PairB w b f (List.range n) := by
  intro q x hx
  obtain ⟨hq, e⟩ := List.getElem?_eq_some_iff.1 hx
  simp at hq e
  subst e
  obtain ⟨h1, h2⟩ := h (q * 2) (by omega)
  obtain ⟨h3, h4⟩ := h (q * 2 + 1) (by omega)
  refine ⟨⟨?_, ?_⟩, h2, h4⟩
  · rw [h1]; unfold pairC; rw [show q * 2 / 2 = q by omega, if_pos hq, if_pos (by omega)]
  · rw [h3]; unfold pairC; rw [show (q * 2 + 1) / 2 = q by omega, if_pos hq, if_neg (by omega)]
theorem Tryz.infoLC : (Tryz.prog.info? 164).map (fun i => (i.zero, i.size, i.bytes)) = some (some (.agg #[.int .i64 0, .int .i64 0]), 2, 16) := by kernel_rfl
theorem run_makeListed (n : Nat) (hn : n ≤ 8) (w : World) :
    (Instr.makeSlice 161 (.int .i64 (n : Int)) (.int .i64 (n : Int))).run Tryz.prog w = .ok (.slice (some ⟨w.heap.size, 0, none⟩) n n) (w.alloc (.cells (madeCells #[.int .i64 0, .int .i64 0] (n * 2)) 164)) := by
  obtain ⟨i, hi, hzz⟩ := Option.map_eq_some_iff.1 Tryz.infoLC
  simp only [Prod.mk.injEq] at hzz
  obtain ⟨hz, hs, hb⟩ := hzz
  have hr := run_make (P := Tryz.prog) w 161 164 i _ Tryz.underlying161 hi hz .i64 .i64 n n (by omega) (Int.le_refl _) (by rw [hb]; omega) (by omega)
  simp only [Int.toNat_natCast, hs] at hr
  exact hr
theorem pairC_start (f : Nat → Int) (w : World) (n : Nat) : CellsC (w.alloc (.cells (madeCells #[.int .i64 0, .int .i64 0] (n * 2)) 164)) w.heap.size (n * 2) (pairC f 0) := fun j hj => by
  refine ⟨?_, World.frozen?_alloc_new w _ _ _⟩
  rw [World.cell?_alloc_new]
  have hj2 : j % 2 = 0 ∨ j % 2 = 1 := by omega
  simp only [madeCells, Array.getElem?_map, Array.getElem?_range, hj, if_true, Option.map_some]
  unfold pairC
  rw [if_neg (by omega)]
  rcases hj2 with e | e <;> simp [e]
/-- the cuts in the order of a kind, in a block of its own -/
def CutsPost (w : World) (n : Nat) (f : Nat → Int) (l : List Nat) (e : Ending) (w' : World) : Prop := ∃ b, e = .returned (.slice (some ⟨b, 0, none⟩) n n) ∧ w.heap.size ≤ b ∧ b < w'.heap.size ∧ PairB w' b f l ∧ Below w.heap.size w w'
def kindO (kind : ByteArray) : Int := if isFirst kind then 1 else if isLong kind then 2 else 0
def cutOrdO (xs : List Int) (o : Int) : List Nat := if o = 2 then sortE (ahL xs) xs.length else List.range xs.length
set_option maxRecDepth 100000 in
set_option maxHeartbeats 4000000 in
theorem cutsIn_any (a : Option Addr) (len cap : Nat) (xs : List Int) (o : Int) (w : World) (h : IntsAt w (· < w.heap.size) a len xs) (hn : len ≤ 7) (ho : 0 ≤ o ∧ o ≤ 2) :
    Calls Tryz.prog 128 #[.slice a len cap, .int .i64 o] w (CutsPost w len (lenT xs) (cutOrdO xs o)) := by
  have HL := Lib.hid h.lenEq
  have hmk := fun w => run_makeListed len (by omega) w
  have HH := Lib.hid h
  clear h
  go_enter Tryz.func128, Tryz.ntmps128
  go_wp2_with fail
  clear hmk
  go_loopw [13] (fun i wr => ∃ k : Nat, k ≤ len ∧ i = .int .i64 k ∧ Below w.heap.size w wr ∧ w.heap.size < wr.heap.size ∧ CellsC wr w.heap.size (len * 2) (pairC (lenT xs) k)) (fun i _ => len - (intOf i).toNat)
  case atStart => exact ⟨0, Nat.zero_le _, rfl, (Below.refl _ _).alloc (Nat.le_refl _) _, by simp, pairC_start _ _ _⟩
  case round =>
    obtain ⟨k, hk, rfl, hb, hsz, hc⟩ := hrel
    have HB := Lib.hid hb
    have HC := Lib.hid hc
    by_cases hlt : k < len
    · have hkI : (k : Int) < (len : Int) := by omega
      obtain ⟨b, off, x, rfl, hx, hcx⟩ := (HH.out.below hb).get hlt
      have HX := Lib.hid (show lenT xs k = x from getD_of hx)
      obtain ⟨g0, f0⟩ := hc (k * 2) (by omega)
      obtain ⟨g1, f1⟩ := hc (k * 2 + 1) (by omega)
      clear hx hc hb
      go_wp2_with fail
      have HC2 := Lib.hid (pairC_step HC.out hlt)
      rw [HX.out] at HC2
      go_roundw
      case rel => exact ⟨k + 1, by omega, by go_num, (HB.out.setCell (p := ⟨w.heap.size, k * 2, none⟩) (Nat.le_refl _) _).setCell (p := ⟨w.heap.size, k * 2 + 1, none⟩) (Nat.le_refl _) _, by simpa [World.setCell] using hsz, HC2.out⟩
      case measure => simp [intOf]; omega
    · obtain rfl : k = len := by omega
      have hkI : ¬ (k : Int) < (k : Int) := by omega
      have HP := Lib.hid (pairC_all hc)
      clear hb hc
      by_cases h2 : o = 2
      · have HO := Lib.hid (show cutOrdO xs o = sortE (ahL xs) k by unfold cutOrdO; rw [if_pos h2, HL.out])
        subst h2
        have hC : CmpAt11 (lenT xs) 156 #[] (ahL xs) k w.heap.size wr := fun i y W hi hy hW =>
          ⟨cc11 (lenT xs y) (lenT xs i), by rw [cc11_lt]; unfold ahL lenT; rw [decide_eq_true_iff], cutsCmp_any _ _ _ _ W⟩
        have HS := Lib.hid (sortStable11_any (lenT xs) (ahL xs) w.heap.size k k wr (by omega) hsz hC HP.out)
        clear hC
        go_wp2_with fail
        refine HS.out.mono ?_
        rintro e w4 ⟨rfl, h4, hb4⟩
        have H4 := Lib.hid h4
        have HB4 := Lib.hid hb4
        clear h4 hb4
        go_wp2_with fail
        go_ret
        exact ⟨w.heap.size, rfl, Nat.le_refl _, Nat.lt_of_lt_of_le hsz HB4.out.size, by rw [HO.out]; exact H4.out, HB.out.trans HB4.out⟩
      · have HO := Lib.hid (show cutOrdO xs o = List.range k by unfold cutOrdO; rw [if_neg h2, HL.out])
        go_wp2_with fail
        go_ret
        exact ⟨w.heap.size, rfl, Nat.le_refl _, hsz, by rw [HO.out]; exact HP.out, HB.out⟩
set_option maxRecDepth 100000 in
theorem kindOf_any (kind : ByteArray) (w : World) : Calls Tryz.prog 127 #[.string kind] w fun e w' => e = .returned (.int .i64 (kindO kind)) ∧ w' = w := by
  have e1 : (kind.toList == [108, 111, 110, 103]) = isLong kind := rfl
  have e2 : (kind.toList == [102, 105, 114, 115, 116]) = isFirst kind := rfl
  cases h2 : isFirst kind
  · cases h1 : isLong kind
    · have HK := Lib.hid (show kindO kind = 0 by unfold kindO; rw [h1, h2]; rfl)
      rw [h1] at e1
      rw [h2] at e2
      go_enter Tryz.func127, Tryz.ntmps127
      go_wp2_with fail
      go_ret
      exact ⟨ret_int HK.out.symm, rfl⟩
    · have HK := Lib.hid (show kindO kind = 2 by unfold kindO; rw [h1, h2]; rfl)
      rw [h1] at e1
      rw [h2] at e2
      go_enter Tryz.func127, Tryz.ntmps127
      go_wp2_with fail
      go_ret
      exact ⟨ret_int HK.out.symm, rfl⟩
  · have HK := Lib.hid (show kindO kind = 1 by unfold kindO; rw [h2]; rfl)
    rw [h2] at e2
    go_enter Tryz.func127, Tryz.ntmps127
    go_wp2_with fail
    go_ret
    exact ⟨ret_int HK.out.symm, rfl⟩
end Go.Proofs.YtjcbpnffmebihaaGreatDoor
