import Derived.Test.YtldncfkkeeinjaaRows
import Derived.WalkKit
import Derived.LoopTactic
import Derived.Outline
import Derived.WalkSpells
import Derived.WalkLawsBesides
import Derived.ProofKit
import Derived.Lib.Hide
import Derived.Deep.QuietTactic
import Derived.BigQuiet
import Derived.Test.YtldncfkkeeinjaaLib
import Derived.Test.YtldncfkkeeinjaaGen
import Derived.Test.YtldncfkkeeinjaaExact
import Derived.Test.YtldncfkkeeinjaaMark
import Derived.Test.YtldncfkkeeinjaaArr
import Derived.Test.YtldncfkkeeinjaaOwn1
import Derived.Test.YtldncfkkeeinjaaUp
import Derived.Test.YtldncfkkeeinjaaNetM
import Derived.Test.YtldncfkkeeinjaaVal2
import Derived.Test.YtldncfkkeeinjaaEx
namespace Go.Proofs.Ytldncfkkeeinjaa
open Go.RowKit Go.WideShapes

theorem Try.infoIntT : (Try.prog.info? 3).map (fun i => (i.zero, i.size, i.bytes)) = some (some (.int .i64 0), 1, 8) := by kernel_rfl

theorem stocks_no {s : Int} {ms ws : List Int} (h : stocksFine s ms ws = false) : stocksM s ms ws = [] := by unfold stocksM; rw [h]; rfl
theorem stocks_yes {s : Int} {ms ws : List Int} (h : stocksFine s ms ws = true) : stocksM s ms ws = tab (fun q => stockTo ms ws s (q + 1)) ws.length := by unfold stocksM; rw [h]; rfl
theorem stocksM_len (s : Int) (ms ws : List Int) : (stocksM s ms ws).length ≤ 1048576 := by
  unfold stocksM
  split
  · rename_i h
    simp only [stocksFine, stocksIn, Bool.and_eq_true] at h
    have := validDays_len h.1.1.2
    rw [tab_length]; omega
  · simp
theorem resPostB_none {w w' : World} (h : Below w.heap.size w w') : ResPostB w [] false (.returned (.tuple #[.slice none 0 0, .bool false])) w' :=
  ⟨none, 0, 0, rfl, ⟨rfl, Nat.zero_le _, fun h => absurd h (by omega)⟩, ⟨Nat.zero_le _, fun h => absurd h (by omega)⟩, h⟩
theorem newIntsB_none {w w' : World} (h : Below w.heap.size w w') : NewIntsB w [] false (.returned (.tuple #[.slice none 0 0, .bool false])) w' :=
  ⟨none, 0, 0, rfl, ⟨rfl, Nat.zero_le _, fun h => absurd h (by omega)⟩, Nat.le_refl _, h⟩
theorem newIntsB_of {w w' : World} {xs : List Int} {b : Bool} {a : Option Addr} {len cap : Nat} (h : NewInts w xs (.returned (.slice a len cap)) w') : NewIntsB w xs b (.returned (.tuple #[.slice a len cap, .bool b])) w' := by
  obtain ⟨a', l', c', e, h1, h2, h3⟩ := h
  simp only [Ending.returned.injEq, Value.slice.injEq] at e
  obtain ⟨rfl, rfl, rfl⟩ := e
  exact ⟨_, _, _, rfl, h1, h2, h3⟩

def stocksMB (s : Int) (ms ws : List Int) : Bool := stocksFine s ms ws

set_option maxRecDepth 100000 in
set_option maxHeartbeats 2000000 in
theorem stocks_impl (s : Int) (a : Option Addr) (len cap : Nat) (ms : List Int) (a2 : Option Addr) (len2 cap2 : Nat) (ws : List Int) (w : World) (h : IntsAt w (· < w.heap.size) a len ms) (g : IntsAt w (· < w.heap.size) a2 len2 ws) :
    Calls Try.prog 24 #[.int .i64 s, .slice a len cap, .slice a2 len2 cap2] w (ResPostB w (stocksM s ms ws) (stocksMB s ms ws)) := by
  have HL := Lib.hid h.lenEq
  have HL2 := Lib.hid g.lenEq
  have hsm := h.small
  have hsm2 := g.small
  cases hin : stocksIn s ms ws
  · have hf : stocksFine s ms ws = false := by rw [stocksFine, hin]; rfl
    have E1 := Lib.hid (stocks_no hf)
    have E2 := Lib.hid (show stocksMB s ms ws = false from hf)
    clear hf
    rw [E1.out, E2.out]
    cases hs : inB 0 20 s
    · go_enter Try.func24, Try.ntmps24
      go_wp2_with (go_at_call 37; refine (isUpTo_any _ _ _).mono ?_; rintro e w' ⟨rfl, rfl⟩)
      go_ret2
      exact resPostB_none (Below.refl _ _)
    · cases hm : validMadeM ms
      · go_enter Try.func24, Try.ntmps24
        go_wp2_with (first | (go_at_call 37; refine (isUpTo_any _ _ _).mono ?_; rintro e w' ⟨rfl, rfl⟩) | (go_at_call 38; refine (areMade_any _ _ _ _ ms _ h).mono ?_; rintro e w' ⟨rfl, rfl⟩))
        go_ret2
        exact resPostB_none (Below.refl _ _)
      · cases hw : validDaysM ws
        · go_enter Try.func24, Try.ntmps24
          go_wp2_with (first | (go_at_call 37; refine (isUpTo_any _ _ _).mono ?_; rintro e w' ⟨rfl, rfl⟩) | (go_at_call 38; refine (areMade_any _ _ _ _ ms _ h).mono ?_; rintro e w' ⟨rfl, rfl⟩) | (go_at_call 30; refine (validDays_impl _ _ _ _ ws _ g).mono ?_; rintro e w' ⟨rfl, rfl⟩))
          go_ret2
          exact resPostB_none (Below.refl _ _)
        · have hne : len ≠ len2 := by
            rintro e
            rw [stocksIn, hs, hm, hw, HL.out, HL2.out, e] at hin
            simp at hin
          clear hin
          go_enter Try.func24, Try.ntmps24
          go_wp2_with (first | (go_at_call 37; refine (isUpTo_any _ _ _).mono ?_; rintro e w' ⟨rfl, rfl⟩) | (go_at_call 38; refine (areMade_any _ _ _ _ ms _ h).mono ?_; rintro e w' ⟨rfl, rfl⟩) | (go_at_call 30; refine (validDays_impl _ _ _ _ ws _ g).mono ?_; rintro e w' ⟨rfl, rfl⟩))
          go_ret2
          exact resPostB_none (Below.refl _ _)
  · have hin' := hin
    simp only [stocksIn, Bool.and_eq_true, decide_eq_true_eq] at hin'
    obtain ⟨⟨⟨hs, hm⟩, hw⟩, hll⟩ := hin'
    have hs' : 0 ≤ s ∧ s ≤ 20 := by simpa [inB] using hs
    obtain ⟨hs0, hs1⟩ := hs'
    obtain rfl : len = len2 := by rw [← HL.out, ← HL2.out]; exact hll
    have hl8 : len ≤ 8 := by have := validDays_len hw; rw [HL2.out] at this; exact this
    have HIN := Lib.hid hin
    have HM := Lib.hid (validMade_at hm)
    have HW := Lib.hid (validDays_at hw)
    have HB := Lib.hid (stockTo_bd hs0 hs1 hm hw)
    have hmk := fun w => run_make_row' (P := Try.prog) 23 3 (.int .i64 0) 8 Try.underlying23 Try.infoIntT rfl .i64 .i64 len (by omega) (by omega) w
    clear hll hin
    go_enter Try.func24, Try.ntmps24
    go_wp2_with (first | (go_at_call 37; refine (isUpTo_any _ _ _).mono ?_; rintro e w' ⟨rfl, rfl⟩) | (go_at_call 38; refine (areMade_any _ _ _ _ ms _ h).mono ?_; rintro e w' ⟨rfl, rfl⟩) | (go_at_call 30; refine (validDays_impl _ _ _ _ ws _ g).mono ?_; rintro e w' ⟨rfl, rfl⟩))
    clear hmk
    go_loopw [0, 36] (fun st i wr => ∃ (k : Nat) (C : Array Value), k ≤ len ∧ i = .int .i64 k ∧ st = .int .i64 (stockTo ms ws s k) ∧ wr = w.alloc (.cells C 3) ∧ ArrIs C len (fun q => if q < k then stockTo ms ws s (q + 1) else 0) ∧ stocksOk ms ws s k = true) (fun _ i _ => len - (intOf i).toNat)
    case atStart => exact ⟨0, _, Nat.zero_le _, rfl, rfl, rfl, (ArrIs.made len).congr (fun q _ => rfl), rfl⟩
    case round =>
      obtain ⟨k, C, hk, rfl, rfl, rfl, hC, hok⟩ := hrel
      have HC := Lib.hid hC
      have HOK := Lib.hid hok
      clear hok
      by_cases hlt : k < len
      · obtain ⟨b, off, x, rfl, hx, hc⟩ := h.get hlt
        obtain ⟨b2, off2, y, rfl, hy, hc2⟩ := g.get hlt
        have hb : b < w.heap.size := h.mem (by omega)
        have hb2 : b2 < w.heap.size := g.mem (by omega)
        have hck := hC.get k hlt
        have hxb := HM.out k
        have hyb := HW.out k
        rw [getD_of hx] at hxb
        rw [getD_of hy] at hyb
        have hbb := HB.out k
        have HN := Lib.hid (show stockTo ms ws s (k + 1) = stockTo ms ws s k + x - y by rw [stockTo, getD_of hx, getD_of hy])
        clear hC hx hy
        generalize hL : stockTo ms ws s k = L at hbb HN ⊢
        clear hL
        generalize (if k < k then stockTo ms ws s (k + 1) else 0) = c0 at hck
        by_cases hneg : L + x - y < 0
        · go_wp2
          go_ret2
          have hno : stocksFine s ms ws = false := by
            rw [stocksFine, HIN.out, stocksOk_not (q := k) (by rw [HL2.out]; exact hlt) (by rw [HN.out]; omega)]; rfl
          rw [stocks_no hno, show stocksMB s ms ws = false from hno]
          exact resPostB_none ((Below.refl _ _).alloc (Nat.le_refl _) _)
        · go_wp2
          go_roundw
          case rel => exact ⟨k + 1, _, by omega, by go_num, by rw [HN.out]; congr 1; omega, rfl, (HC.out.set k _).congr (fun q hq => by
              by_cases e : q = k
              · subst e; rw [if_pos rfl, if_pos (by omega), HN.out]; omega
              · rw [if_neg e]; by_cases e2 : q < k
                · rw [if_pos e2, if_pos (by omega)]
                · rw [if_neg e2, if_neg (by omega)]), by rw [stocksOk_succ, HOK.out, HN.out]; simp; omega⟩
          case measure => simp [intOf]; omega
      · obtain rfl : k = len := by omega
        go_wp2
        go_ret2
        have hyes : stocksFine s ms ws = true := by rw [stocksFine, HIN.out, HL2.out, HOK.out]; rfl
        rw [stocks_yes hyes, show stocksMB s ms ws = true from hyes]
        have e := HC.out.cells (xs := tab (fun q => stockTo ms ws s (q + 1)) ws.length) (by rw [tab_length]; exact HL2.out) (fun q x hx => by
          obtain ⟨rfl, hq⟩ := tab_get hx
          rw [if_pos (by rw [← HL2.out]; exact hq)])
        rw [e]
        exact resPostB_of (resPost_alloc (by rw [tab_length]; exact HL2.out) (by omega))

set_option maxRecDepth 100000 in
set_option maxHeartbeats 2000000 in
theorem stocks_spec (s : Int) (a : Option Addr) (len cap : Nat) (ms : List Int) (a2 : Option Addr) (len2 cap2 : Nat) (ws : List Int) (w : World) (h : IntsAt w (· < w.heap.size) a len ms) (g : IntsAt w (· < w.heap.size) a2 len2 ws) :
    Calls Try.prog 29 #[.int .i64 s, .slice a len cap, .slice a2 len2 cap2] w (NewIntsB w (stocksM s ms ws) (stocksMB s ms ws)) := by
  have HL := Lib.hid h.lenEq
  have HL2 := Lib.hid g.lenEq
  have hsm := h.small
  have hsm2 := g.small
  obtain ⟨i0, hi, hz0, hz1, hz2⟩ := info_parts Try.infoIntT
  cases hin : stocksIn s ms ws
  · have hf : stocksFine s ms ws = false := by rw [stocksFine, hin]; rfl
    have E1 := Lib.hid (stocks_no hf)
    have E2 := Lib.hid (show stocksMB s ms ws = false from hf)
    clear hf
    rw [E1.out, E2.out]
    cases hs : inB 0 20 s
    · go_enter Try.func29, Try.ntmps29
      go_wp2_with (go_at_call 39; refine (inRange_any _ _ _ _).mono ?_; rintro e w' ⟨rfl, rfl⟩)
      go_ret2
      exact newIntsB_none (Below.refl _ _)
    · cases hm : validMadeM ms
      · go_enter Try.func29, Try.ntmps29
        go_wp2_with (first | (go_at_call 39; refine (inRange_any _ _ _ _).mono ?_; rintro e w' ⟨rfl, rfl⟩) | (go_at_call 40; refine (validMade_spec _ _ _ _ ms _ h).mono ?_; rintro e w' ⟨rfl, rfl⟩))
        go_ret2
        exact newIntsB_none (Below.refl _ _)
      · cases hw : validDaysM ws
        · go_enter Try.func29, Try.ntmps29
          go_wp2_with (first | (go_at_call 39; refine (inRange_any _ _ _ _).mono ?_; rintro e w' ⟨rfl, rfl⟩) | (go_at_call 40; refine (validMade_spec _ _ _ _ ms _ h).mono ?_; rintro e w' ⟨rfl, rfl⟩) | (go_at_call 21; refine (validDays_spec0 _ _ _ _ ws _ g).mono ?_; rintro e w' ⟨rfl, rfl⟩))
          go_ret2
          exact newIntsB_none (Below.refl _ _)
        · have hne : len ≠ len2 := by
            rintro e
            rw [stocksIn, hs, hm, hw, HL.out, HL2.out, e] at hin
            simp at hin
          clear hin
          go_enter Try.func29, Try.ntmps29
          go_wp2_with (first | (go_at_call 39; refine (inRange_any _ _ _ _).mono ?_; rintro e w' ⟨rfl, rfl⟩) | (go_at_call 40; refine (validMade_spec _ _ _ _ ms _ h).mono ?_; rintro e w' ⟨rfl, rfl⟩) | (go_at_call 21; refine (validDays_spec0 _ _ _ _ ws _ g).mono ?_; rintro e w' ⟨rfl, rfl⟩))
          go_ret2
          exact newIntsB_none (Below.refl _ _)
  · have hin' := hin
    simp only [stocksIn, Bool.and_eq_true, decide_eq_true_eq] at hin'
    obtain ⟨⟨⟨hs, hm⟩, hw⟩, hll⟩ := hin'
    have hs' : 0 ≤ s ∧ s ≤ 20 := by simpa [inB] using hs
    obtain ⟨hs0, hs1⟩ := hs'
    obtain rfl : len = len2 := by rw [← HL.out, ← HL2.out]; exact hll
    have hl8 : len ≤ 8 := by have := validDays_len hw; rw [HL2.out] at this; exact this
    have HIN := Lib.hid hin
    have HM := Lib.hid (validMade_at hm)
    have HW := Lib.hid (validDays_at hw)
    have HBD := Lib.hid (stockTo_bd hs0 hs1 hm hw)
    clear hll hin
    go_enter Try.func29, Try.ntmps29
    go_wp2_with (first | (go_at_call 39; refine (inRange_any _ _ _ _).mono ?_; rintro e w' ⟨rfl, rfl⟩) | (go_at_call 40; refine (validMade_spec _ _ _ _ ms _ h).mono ?_; rintro e w' ⟨rfl, rfl⟩) | (go_at_call 21; refine (validDays_spec0 _ _ _ _ ws _ g).mono ?_; rintro e w' ⟨rfl, rfl⟩))
    go_loopw [0, 8, 9] (fun st v i wr => ∃ (k cp : Nat) (ax : Option Addr), k ≤ len ∧ i = .int .i64 k ∧ st = .int .i64 (stockTo ms ws s k) ∧ v = .slice ax k cp ∧ wr.ownsRow w.heap.size 3 1 v k ((tab (fun q => stockTo ms ws s (q + 1)) k).map (.int .i64)) ∧ Below w.heap.size w wr ∧ stocksOk ms ws s k = true) (fun _ _ i _ => len - (intOf i).toNat)
    case atStart => exact ⟨0, 0, _, Nat.zero_le _, rfl, rfl, rfl, World.ownsRow_made _ _ _ (Nat.le_refl _) (Nat.zero_le _) rfl, (Below.refl _ _).alloc (Nat.le_refl _) _, rfl⟩
    case round =>
      obtain ⟨k, cp, ax, hk, rfl, rfl, rfl, hown, hB, hok⟩ := hrel
      obtain ⟨wo, rfl⟩ : ∃ wo : World, wo = wr := ⟨_, rfl⟩
      have HOWN := Lib.hid hown
      have HB := Lib.hid hB
      have HOK := Lib.hid hok
      clear hok
      by_cases hlt : k < len
      · obtain ⟨b, off, x, rfl, hx, hc⟩ := (h.below hB).get hlt
        obtain ⟨b2, off2, y, rfl, hy, hc2⟩ := (g.below hB).get hlt
        have hxb := HM.out k
        have hyb := HW.out k
        rw [getD_of hx] at hxb
        rw [getD_of hy] at hyb
        have hbb := HBD.out k
        have HN := Lib.hid (show stockTo ms ws s (k + 1) = stockTo ms ws s k + x - y by rw [stockTo, getD_of hx, getD_of hy])
        clear hx hy hown hB
        generalize hL : stockTo ms ws s k = L at hbb HN ⊢
        clear hL
        by_cases hneg : L + x - y < 0
        · go_wp2
          go_quiet (fail)
          go_wp2
          go_ret2
          have hno : stocksFine s ms ws = false := by
            rw [stocksFine, HIN.out, stocksOk_not (q := k) (by rw [HL2.out]; exact hlt) (by rw [HN.out]; omega)]; rfl
          rw [stocks_no hno, show stocksMB s ms ws = false from hno]
          exact newIntsB_none (HB.out.trans (Drew.below (⟨_, rfl⟩ : Drew wo (wo.drewN _)) _))
        · go_wp2_with fail
          go_quiet (fail)
          go_wp2_with (at_builtin; refine wpList_append_own _ rfl _ _ 23 rfl w.heap.size 3 i0 (.int .i64 0) 1 8 Try.underlying23 hi hz0 hz1 hz2 rfl (by decide) _ _ _ rfl ((own_drewN HOWN.out _).alloc _) ⟨wo.heap.size, 0, none⟩ 1 1 [.int .i64 (L + x - y)] rfl rfl ?c1 ?c2 ?c3 ?c4 ?c5 ?_)
          case c1 => exact one_new _ _ _
          case c2 => exact one_cell_int _ _
          case c3 => unfold maxLen; omega
          case c4 => omega
          case c5 => have := HB.out.size; simp; omega
          intro v' w6 hown hgrow _
          obtain ⟨a6, c6, rfl, _⟩ := own_slice hown
          have hgr : wo.grownBy w6 (Value.slice ax k cp).ownBlock := grown_comp (grown_comp (grownBy_drewN wo _ _) (World.grownBy_alloc _ _ _)) hgrow
          have HO6 := Lib.hid hown
          have HG6 := Lib.hid hgr
          clear hown hgr hgrow
          go_wp2
          go_roundw
          case rel => exact ⟨k + 1, c6, a6, by omega, by go_num, by rw [HN.out], rfl, by rw [tab_succ, List.map_append, HN.out]; exact HO6.out, HB.out.grown HG6.out HB.out.size (fun q hq => (HOWN.out.lt q hq).1), by rw [stocksOk_succ, HOK.out, HN.out]; simp; omega⟩
          case measure => simp [intOf]; omega
      · obtain rfl : k = len := by omega
        clear hown hB
        go_wp2
        go_ret2
        have hyes : stocksFine s ms ws = true := by rw [stocksFine, HIN.out, HL2.out, HOK.out]; rfl
        rw [stocks_yes hyes, show stocksMB s ms ws = true from hyes, HL2.out]
        exact newIntsB_of (newInts_own HOWN.out HB.out (by omega))
end Go.Proofs.Ytldncfkkeeinjaa
