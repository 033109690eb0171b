import Derived.Test.YtldncfkkeeinjacRows
import Derived.WalkKit
import Derived.LoopTactic
import Derived.Outline
import Derived.WalkSpells
import Derived.WalkLawsBesides
import Derived.ProofKit
import Derived.Deep.OwnRows
import Derived.Deep.QuietTactic
import Derived.BigQuiet
import Derived.Test.YtldncfkkeeinjacLib
import Derived.Test.YtldncfkkeeinjacGen
namespace Go.Proofs.Ytldncfkkeeinjac
open Go.RowKit Go.WideShapes Go.Deep

theorem Try.infoIntE : (Try.prog.info? 3).map (fun i => (i.zero, i.size, i.bytes)) = some (some (.int .i64 0), 1, 8) := by kernel_rfl

/-- the copies of ints -/
def cellsOf (xs : List Int) : Array Value := (xs.map (Value.int .i64)).toArray
theorem cellsOf_eq {xs : List Int} {C : Array Value} (hs : C.size = xs.length) (h : ∀ (i : Nat) (x : Int), xs[i]? = some x → C[i]? = some (.int .i64 x)) : C = cellsOf xs := by
  apply Array.ext_getElem?
  intro i
  simp only [cellsOf, List.getElem?_toArray, List.getElem?_map]
  cases hx : xs[i]? with
  | none => rw [Array.getElem?_eq_none (by rw [hs]; simpa using hx)]; rfl
  | some x => rw [h i x hx]; rfl

set_option maxHeartbeats 400000 in
theorem toIntS_any (S : Nat → Prop) (a : Option Addr) (len cap : Nat) (xs : List Int) (w : World) (h : IntsAt w S a len xs) (hS : ∀ b, S b → b < w.heap.size) (hl : len ≤ 1048576) :
    Calls Try.prog 14 #[.slice a len cap] w fun e w' => e = .returned (.slice (some ⟨w.heap.size, 0, none⟩) len len) ∧ w.alloc (.cells (cellsOf xs) 3) = w' := by
  have HL := Lib.hid h.lenEq
  have hmk := fun w => run_make_row' (P := Try.prog) 23 3 (.int .i64 0) 8 Try.underlying23 Try.infoIntE rfl .i64 .i64 len (by omega) (by omega) w
  go_enter Try.func14, Try.ntmps14
  go_wp2
  clear hmk
  go_loopw [4] (fun i wr => ∃ (k : Nat) (C : Array Value), k ≤ len ∧ i = .int .i64 k ∧ wr = w.alloc (.cells C 3) ∧ C.size = len ∧ ∀ (i : Nat) (x : Int), i < k → xs[i]? = some x → C[i]? = some (.int .i64 x)) (fun i _ => len - (intOf i).toNat)
  case atStart => exact ⟨0, _, Nat.zero_le _, rfl, rfl, size_madeCells _ _, fun i x hi => absurd hi (by omega)⟩
  case round =>
    obtain ⟨k, C, hk, rfl, rfl, hC, hx⟩ := hrel
    have HC := Lib.hid hC
    have HX := Lib.hid hx
    clear hC hx
    by_cases hlt : k < len
    · obtain ⟨b, off, x, rfl, hx, hc⟩ := h.get hlt
      obtain ⟨b', off', hb1, hb2, _⟩ := h.cells (by omega)
      have hb : b < w.heap.size := hS b (by cases hb1; exact hb2)
      clear hb1 hb2
      have H := Lib.hid hx
      clear hx
      have hck : C[k]? = some (C[k]'(by rw [HC.out]; exact hlt)) := Array.getElem?_eq_getElem _
      generalize C[k]'(by rw [HC.out]; exact hlt) = c0 at hck
      go_wp2
      go_roundw
      case rel =>
        refine ⟨k + 1, C.setIfInBounds k (.int .i64 x), by omega, by go_num, rfl, by simp [HC.out], fun i y hi hy => ?_⟩
        rw [Array.getElem?_setIfInBounds]
        by_cases hik : k = i
        · subst hik
          rw [if_pos rfl, if_pos (by rw [HC.out]; exact hlt)]
          have e := H.out.symm.trans hy
          simp only [Option.some.injEq] at e
          rw [e]
        · rw [if_neg hik]
          exact HX.out i y (by omega) hy
      case measure => simp [intOf]; omega
    · go_wp2
      go_ret
      have hl := HL.out
      refine ⟨rfl, ?_⟩
      rw [cellsOf_eq (xs := xs) (C := C) (by rw [HC.out, hl]) (fun i x hx => HX.out i x (by
        rcases Nat.lt_or_ge i xs.length with h' | h'
        · omega
        · simp [List.getElem?_eq_none h'] at hx) hx)]
theorem ne_of_get {α : Type} {xs ys : List α} {k : Nat} {x y : α} (hx : xs[k]? = some x) (hy : ys[k]? = some y) (h : x ≠ y) : xs ≠ ys := by
  rintro rfl
  rw [hx] at hy
  exact h (by simpa using hy)
theorem take_eq_step {α : Type} {xs ys : List α} {k : Nat} {x : α} (hx : xs[k]? = some x) (hy : ys[k]? = some x) (h : xs.take k = ys.take k) : xs.take (k + 1) = ys.take (k + 1) := by
  rw [take_get hx, take_get hy, h]

def EqPost (w : World) (b : Bool) (e : Ending) (w' : World) : Prop := e = .returned (.bool b) ∧ Drew w w'
def eqB (xs ys : List Int) : Bool := decide (xs = ys)
def eqRB (xs ys : List (List Int)) : Bool := decide (xs = ys)

set_option maxHeartbeats 400000 in
theorem eqIntS_any (S T : Nat → Prop) (a a2 : Option Addr) (len cap len2 cap2 : Nat) (xs ys : List Int) (w : World) (h : IntsAt w S a len xs) (g : IntsAt w T a2 len2 ys) :
    Calls Try.prog 15 #[.slice a len cap, .slice a2 len2 cap2] w (EqPost w (eqB xs ys)) := by
  have hs := h.small
  have hs2 := g.small
  by_cases hll : len = len2
  · subst hll
    go_enter Try.func15, Try.ntmps15
    go_wp2
    go_loopw [5] (fun i wr => ∃ k : Nat, k ≤ len ∧ i = .int .i64 k ∧ xs.take k = ys.take k ∧ Drew w wr) (fun i _ => len - (intOf i).toNat)
    case atStart => exact ⟨0, Nat.zero_le _, rfl, rfl, Drew.refl w⟩
    case round =>
      obtain ⟨k, hk, rfl, ht, hd⟩ := hrel
      have HT := Lib.hid ht
      clear ht
      by_cases hlt : k < len
      · obtain ⟨b, off, x, rfl, hx, hc⟩ := (Drew.ints h hd).get hlt
        obtain ⟨b2, off2, y, rfl, hy, hc2⟩ := (Drew.ints g hd).get hlt
        have HX := Lib.hid hx
        have HY := Lib.hid hy
        clear hx hy
        by_cases hxy : x = y
        · subst hxy
          go_wp2
          go_quiet (fail)
          go_wp2
          go_roundw
          case rel => exact ⟨k + 1, by omega, by go_num, take_eq_step HX.out HY.out HT.out, hd.drew _⟩
          case measure => simp [intOf]; omega
        · go_wp2
          go_quiet (fail)
          go_wp2
          go_ret
          exact ⟨ret_bool (decide_eq_false (ne_of_get HX.out HY.out hxy)).symm, hd.drew _⟩
      · go_wp2
        go_ret
        have e1 := h.lenEq
        have e2 := g.lenEq
        have ht := HT.out
        rw [List.take_of_length_le (by omega), List.take_of_length_le (by omega)] at ht
        exact ⟨ret_bool (decide_eq_true ht).symm, hd⟩
  · have hne : xs ≠ ys := by rintro rfl; exact hll (h.lenEq.symm.trans g.lenEq)
    go_enter Try.func15, Try.ntmps15
    go_wp2
    go_ret
    exact ⟨ret_bool (decide_eq_false hne).symm, Drew.refl w⟩

end Go.Proofs.Ytldncfkkeeinjac
