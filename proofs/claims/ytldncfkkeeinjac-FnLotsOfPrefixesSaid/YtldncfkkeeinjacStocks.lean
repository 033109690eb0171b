import Derived.Test.YtldncfkkeeinjacRows
import Derived.WalkKit
import Derived.LoopTactic
import Derived.Outline
import Derived.WalkSpells
import Derived.WalkLawsBesides
import Derived.ProofKit
import Derived.Lib.Hide
import Derived.Deep.QuietTactic
import Derived.BigQuiet
import Derived.Test.YtldncfkkeeinjacLib
import Derived.Test.YtldncfkkeeinjacGen
import Derived.Test.YtldncfkkeeinjacExact
import Derived.Test.YtldncfkkeeinjacMark
import Derived.Test.YtldncfkkeeinjacArr
import Derived.Test.YtldncfkkeeinjacOwn1
import Derived.Test.YtldncfkkeeinjacUp
import Derived.Test.YtldncfkkeeinjacNetM
import Derived.Test.YtldncfkkeeinjacVal2
import Derived.Test.YtldncfkkeeinjacEx
namespace Go.Proofs.Ytldncfkkeeinjac
open Go.RowKit Go.WideShapes

theorem Try.infoIntT : (Try.prog.info? 3).map (fun i => (i.zero, i.size, i.bytes)) = some (some (.int .i64 0), 1, 8) := by kernel_rfl

theorem stocks_no {s : Int} {ms ws : List Int} (h : stocksFine s ms ws = false) : stocksM s ms ws = [] := by unfold stocksM; rw [h]; rfl
theorem stocks_yes {s : Int} {ms ws : List Int} (h : stocksFine s ms ws = true) : stocksM s ms ws = tab (fun q => stockTo ms ws s (q + 1)) ws.length := by unfold stocksM; rw [h]; rfl
theorem stocksM_len (s : Int) (ms ws : List Int) : (stocksM s ms ws).length ≤ 1048576 := by
  unfold stocksM
  split
  · rename_i h
    simp only [stocksFine, stocksIn, Bool.and_eq_true] at h
    have := validDays_len h.1.1.2
    rw [tab_length]; omega
  · simp
theorem resPostB_none {w w' : World} (h : Below w.heap.size w w') : ResPostB w [] false (.returned (.tuple #[.slice none 0 0, .bool false])) w' :=
  ⟨none, 0, 0, rfl, ⟨rfl, Nat.zero_le _, fun h => absurd h (by omega)⟩, ⟨Nat.zero_le _, fun h => absurd h (by omega)⟩, h⟩
theorem newIntsB_none {w w' : World} (h : Below w.heap.size w w') : NewIntsB w [] false (.returned (.tuple #[.slice none 0 0, .bool false])) w' :=
  ⟨none, 0, 0, rfl, ⟨rfl, Nat.zero_le _, fun h => absurd h (by omega)⟩, Nat.le_refl _, h⟩
theorem newIntsB_of {w w' : World} {xs : List Int} {b : Bool} {a : Option Addr} {len cap : Nat} (h : NewInts w xs (.returned (.slice a len cap)) w') : NewIntsB w xs b (.returned (.tuple #[.slice a len cap, .bool b])) w' := by
  obtain ⟨a', l', c', e, h1, h2, h3⟩ := h
  simp only [Ending.returned.injEq, Value.slice.injEq] at e
  obtain ⟨rfl, rfl, rfl⟩ := e
  exact ⟨_, _, _, rfl, h1, h2, h3⟩

def stocksMB (s : Int) (ms ws : List Int) : Bool := stocksFine s ms ws

set_option maxRecDepth 100000 in
set_option maxHeartbeats 2000000 in
theorem stocks_impl (s : Int) (a : Option Addr) (len cap : Nat) (ms : List Int) (a2 : Option Addr) (len2 cap2 : Nat) (ws : List Int) (w : World) (h : IntsAt w (· < w.heap.size) a len ms) (g : IntsAt w (· < w.heap.size) a2 len2 ws) :
    Calls Try.prog 32 #[.int .i64 s, .slice a len cap, .slice a2 len2 cap2] w (ResPostB w (stocksM s ms ws) (stocksMB s ms ws)) := by
  have HL := Lib.hid h.lenEq
  have HL2 := Lib.hid g.lenEq
  have hsm := h.small
  have hsm2 := g.small
  cases hin : stocksIn s ms ws
  · have hf : stocksFine s ms ws = false := by rw [stocksFine, hin]; rfl
    have E1 := Lib.hid (stocks_no hf)
    have E2 := Lib.hid (show stocksMB s ms ws = false from hf)
    clear hf
    rw [E1.out, E2.out]
    cases hs : inB 0 20 s
    · go_enter Try.func32, Try.ntmps32
      go_wp2_with (go_at_call 42; refine (isUpTo_any _ _ _).mono ?_; rintro e w' ⟨rfl, rfl⟩)
      go_ret2
      exact resPostB_none (Below.refl _ _)
    · cases hm : validMadeM ms
      · go_enter Try.func32, Try.ntmps32
        go_wp2_with (first | (go_at_call 42; refine (isUpTo_any _ _ _).mono ?_; rintro e w' ⟨rfl, rfl⟩) | (go_at_call 45; refine (areMade_any _ _ _ _ ms _ h).mono ?_; rintro e w' ⟨rfl, rfl⟩))
        go_ret2
        exact resPostB_none (Below.refl _ _)
      · cases hw : validDaysM ws
        · go_enter Try.func32, Try.ntmps32
          go_wp2_with (first | (go_at_call 42; refine (isUpTo_any _ _ _).mono ?_; rintro e w' ⟨rfl, rfl⟩) | (go_at_call 45; refine (areMade_any _ _ _ _ ms _ h).mono ?_; rintro e w' ⟨rfl, rfl⟩) | (go_at_call 24; refine (validDays_impl _ _ _ _ ws _ g).mono ?_; rintro e w' ⟨rfl, rfl⟩))
          go_ret2
          exact resPostB_none (Below.refl _ _)
        · have hne : len ≠ len2 := by
            rintro e
            rw [stocksIn, hs, hm, hw, HL.out, HL2.out, e] at hin
            simp at hin
          clear hin
          go_enter Try.func32, Try.ntmps32
          go_wp2_with (first | (go_at_call 42; refine (isUpTo_any _ _ _).mono ?_; rintro e w' ⟨rfl, rfl⟩) | (go_at_call 45; refine (areMade_any _ _ _ _ ms _ h).mono ?_; rintro e w' ⟨rfl, rfl⟩) | (go_at_call 24; refine (validDays_impl _ _ _ _ ws _ g).mono ?_; rintro e w' ⟨rfl, rfl⟩))
          go_ret2
          exact resPostB_none (Below.refl _ _)
  · have hin' := hin
    simp only [stocksIn, Bool.and_eq_true, decide_eq_true_eq] at hin'
    obtain ⟨⟨⟨hs, hm⟩, hw⟩, hll⟩ := hin'
    have hs' : 0 ≤ s ∧ s ≤ 20 := by simpa [inB] using hs
    obtain ⟨hs0, hs1⟩ := hs'
    obtain rfl : len = len2 := by rw [← HL.out, ← HL2.out]; exact hll
    have hl8 : len ≤ 8 := by have := validDays_len hw; rw [HL2.out] at this; exact this
    have HIN := Lib.hid hin
    have HM := Lib.hid (validMade_at hm)
    have HW := Lib.hid (validDays_at hw)
    have HB := Lib.hid (stockTo_bd hs0 hs1 hm hw)
    have hmk := fun w => run_make_row' (P := Try.prog) 23 3 (.int .i64 0) 8 Try.underlying23 Try.infoIntT rfl .i64 .i64 len (by omega) (by omega) w
    clear hll hin
    go_enter Try.func32, Try.ntmps32
    go_wp2_with (first | (go_at_call 42; refine (isUpTo_any _ _ _).mono ?_; rintro e w' ⟨rfl, rfl⟩) | (go_at_call 45; refine (areMade_any _ _ _ _ ms _ h).mono ?_; rintro e w' ⟨rfl, rfl⟩) | (go_at_call 24; refine (validDays_impl _ _ _ _ ws _ g).mono ?_; rintro e w' ⟨rfl, rfl⟩))
    clear hmk
    go_loopw [0, 36] (fun st i wr => ∃ (k : Nat) (C : Array Value), k ≤ len ∧ i = .int .i64 k ∧ st = .int .i64 (stockTo ms ws s k) ∧ wr = w.alloc (.cells C 3) ∧ ArrIs C len (fun q => if q < k then stockTo ms ws s (q + 1) else 0) ∧ stocksOk ms ws s k = true) (fun _ i _ => len - (intOf i).toNat)
    case atStart => exact ⟨0, _, Nat.zero_le _, rfl, rfl, rfl, (ArrIs.made len).congr (fun q _ => rfl), rfl⟩
    case round =>
      obtain ⟨k, C, hk, rfl, rfl, rfl, hC, hok⟩ := hrel
      have HC := Lib.hid hC
      have HOK := Lib.hid hok
      clear hok
      by_cases hlt : k < len
      · obtain ⟨b, off, x, rfl, hx, hc⟩ := h.get hlt
        obtain ⟨b2, off2, y, rfl, hy, hc2⟩ := g.get hlt
        have hb : b < w.heap.size := h.mem (by omega)
        have hb2 : b2 < w.heap.size := g.mem (by omega)
        have hck := hC.get k hlt
        have hxb := HM.out k
        have hyb := HW.out k
        rw [getD_of hx] at hxb
        rw [getD_of hy] at hyb
        have hbb := HB.out k
        have HN := Lib.hid (show stockTo ms ws s (k + 1) = stockTo ms ws s k + x - y by rw [stockTo, getD_of hx, getD_of hy])
        clear hC hx hy
        generalize hL : stockTo ms ws s k = L at hbb HN ⊢
        clear hL
        generalize (if k < k then stockTo ms ws s (k + 1) else 0) = c0 at hck
        by_cases hneg : L + x - y < 0
        · go_wp2
          go_ret2
          have hno : stocksFine s ms ws = false := by
            rw [stocksFine, HIN.out, stocksOk_not (q := k) (by rw [HL2.out]; exact hlt) (by rw [HN.out]; omega)]; rfl
          rw [stocks_no hno, show stocksMB s ms ws = false from hno]
          exact resPostB_none ((Below.refl _ _).alloc (Nat.le_refl _) _)
        · go_wp2
          go_roundw
          case rel => exact ⟨k + 1, _, by omega, by go_num, by rw [HN.out]; congr 1; omega, rfl, (HC.out.set k _).congr (fun q hq => by
              by_cases e : q = k
              · subst e; rw [if_pos rfl, if_pos (by omega), HN.out]; omega
              · rw [if_neg e]; by_cases e2 : q < k
                · rw [if_pos e2, if_pos (by omega)]
                · rw [if_neg e2, if_neg (by omega)]), by rw [stocksOk_succ, HOK.out, HN.out]; simp; omega⟩
          case measure => simp [intOf]; omega
      · obtain rfl : k = len := by omega
        go_wp2
        go_ret2
        have hyes : stocksFine s ms ws = true := by rw [stocksFine, HIN.out, HL2.out, HOK.out]; rfl
        rw [stocks_yes hyes, show stocksMB s ms ws = true from hyes]
        have e := HC.out.cells (xs := tab (fun q => stockTo ms ws s (q + 1)) ws.length) (by rw [tab_length]; exact HL2.out) (fun q x hx => by
          obtain ⟨rfl, hq⟩ := tab_get hx
          rw [if_pos (by rw [← HL2.out]; exact hq)])
        rw [e]
        exact resPostB_of (resPost_alloc (by rw [tab_length]; exact HL2.out) (by omega))

end Go.Proofs.Ytldncfkkeeinjac
