import Derived.Test.YtieknoijkmkdpacRows
import Derived.WalkKit
import Derived.LoopTactic
import Derived.Outline
import Derived.WalkSpells
import Derived.WalkLawsBesides
import Derived.ProofKit
import Derived.Lib.Hide
import Derived.Test.YtieknoijkmkdpacLib
import Derived.Test.YtieknoijkmkdpacGen
import Derived.Test.YtieknoijkmkdpacExact
import Derived.Test.YtieknoijkmkdpacMark
import Derived.Test.YtieknoijkmkdpacArr
import Derived.Test.YtieknoijkmkdpacOwn1
import Derived.Test.YtieknoijkmkdpacUp
import Derived.Test.YtieknoijkmkdpacNetM
import Derived.Test.YtieknoijkmkdpacVal2
namespace Go.Proofs.Ytieknoijkmkdpac
open Go.RowKit Go.WideShapes

theorem Try.infoIntN : (Try.prog.info? 3).map (fun i => (i.zero, i.size, i.bytes)) = some (some (.int .i64 0), 1, 8) := by kernel_rfl

/-- what NetOf answers -/
def netRes (xs : List Int) (s : Int) : List Int := if (validDaysM xs && inB 0 20 s) = true then netM xs s else []
theorem netRes_len (xs : List Int) (s : Int) : (netRes xs s).length ≤ 1048576 := by
  unfold netRes
  split
  · rename_i h; simp only [Bool.and_eq_true] at h; have := validDays_len h.1; rw [netM_length]; omega
  · simp
theorem netRes_no {xs : List Int} {s : Int} (h : (validDaysM xs && inB 0 20 s) = false) : netRes xs s = [] := by unfold netRes; rw [h]; rfl
theorem netRes_yes {xs : List Int} {s : Int} (h : (validDaysM xs && inB 0 20 s) = true) : netRes xs s = netM xs s := by unfold netRes; rw [h]; rfl
theorem inB_of {lo hi x : Int} (h : inB lo hi x = true) : lo ≤ x ∧ x ≤ hi := by simpa [inB] using h

set_option maxHeartbeats 1000000 in
theorem netOf_impl (a : Option Addr) (len cap : Nat) (xs : List Int) (s : Int) (w : World) (h : IntsAt w (· < w.heap.size) a len xs) :
    Calls Try.prog 17 #[.slice a len cap, .int .i64 s] w (ResPost w (netRes xs s)) := by
  cases hv : validDaysM xs
  · rw [netRes_no (by rw [hv]; rfl)]
    go_enter Try.func17, Try.ntmps17
    go_wp2_with (go_at_call 32; refine (validDays_impl _ _ _ _ xs _ h).mono ?_; rintro e w' ⟨rfl, rfl⟩)
    go_ret
    exact resPost_nil w
  · cases hs : inB 0 20 s
    · rw [netRes_no (by rw [hv, hs]; rfl)]
      go_enter Try.func17, Try.ntmps17
      go_wp2_with (first | (go_at_call 32; refine (validDays_impl _ _ _ _ xs _ h).mono ?_; rintro e w' ⟨rfl, rfl⟩) | (go_at_call 30; refine (isUpTo_any _ _ _).mono ?_; rintro e w' ⟨rfl, rfl⟩))
      go_ret
      exact resPost_nil w
    · rw [netRes_yes (by rw [hv, hs]; rfl)]
      obtain ⟨hs0, hs1⟩ := inB_of hs
      have hl8 : len ≤ 8 := by have := validDays_len hv; have := h.lenEq; omega
      have HL := Lib.hid h.lenEq
      have HAT := Lib.hid (validDays_at hv)
      have hmk := fun w => run_make_row' (P := Try.prog) 23 3 (.int .i64 0) 8 Try.underlying23 Try.infoIntN rfl .i64 .i64 len (by omega) (by omega) w
      go_enter Try.func17, Try.ntmps17
      go_wp2_with (first | (go_at_call 32; refine (validDays_impl _ _ _ _ xs _ h).mono ?_; rintro e w' ⟨rfl, rfl⟩) | (go_at_call 30; refine (isUpTo_any _ _ _).mono ?_; rintro e w' ⟨rfl, rfl⟩))
      clear hmk
      go_loopw [1, 22] (fun st i wr => ∃ (k : Nat) (C : Array Value), k ≤ len ∧ i = .int .i64 k ∧ st = .int .i64 (leftTo xs s k) ∧ wr = w.alloc (.cells C 3) ∧ ArrIs C len (fun q => if q < k then netAt xs s q else 0)) (fun _ i _ => len - (intOf i).toNat)
      case atStart => exact ⟨0, _, Nat.zero_le _, rfl, rfl, rfl, (ArrIs.made len).congr (fun q _ => rfl)⟩
      case round =>
        obtain ⟨k, C, hk, rfl, rfl, rfl, hC⟩ := hrel
        have HC := Lib.hid hC
        by_cases hlt : k < len
        · obtain ⟨b, off, x, rfl, hx, hc⟩ := h.get hlt
          have hb : b < w.heap.size := h.mem (by omega)
          have hck := hC.get k hlt
          have hCs := hC.size
          have hlb := leftTo_bd hs0 (fun q => (HAT.out q).1) k
          have hxb := HAT.out k
          rw [getD_of hx] at hxb
          have HN := Lib.hid (show leftTo xs s (k + 1) = leftTo xs s k - min (leftTo xs s k) x by rw [leftTo, getD_of hx])
          have HA := Lib.hid (show netAt xs s k = x - min (leftTo xs s k) x by rw [netAt, getD_of hx])
          clear hC hx
          generalize leftTo xs s k = L at hlb HN HA ⊢
          generalize (if k < k then netAt xs s k else 0) = c0 at hck
          by_cases hmin : x ≤ L
          · go_wp2
            go_roundw
            case rel => exact ⟨k + 1, _, by omega, by go_num, by rw [HN.out]; congr 1; omega, rfl, (HC.out.set k _).congr (fun q hq => by
              by_cases e : q = k
              · subst e; rw [if_pos rfl, if_pos (by omega), HA.out]; omega
              · rw [if_neg e]; by_cases e2 : q < k
                · rw [if_pos e2, if_pos (by omega)]
                · rw [if_neg e2, if_neg (by omega)])⟩
            case measure => simp [intOf]; omega
          · go_wp2
            go_roundw
            case rel => exact ⟨k + 1, _, by omega, by go_num, by rw [HN.out]; congr 1; omega, rfl, (HC.out.set k _).congr (fun q hq => by
              by_cases e : q = k
              · subst e; rw [if_pos rfl, if_pos (by omega), HA.out]; omega
              · rw [if_neg e]; by_cases e2 : q < k
                · rw [if_pos e2, if_pos (by omega)]
                · rw [if_neg e2, if_neg (by omega)])⟩
            case measure => simp [intOf]; omega
        · obtain rfl : k = len := by omega
          go_wp2
          go_ret
          have e := HC.out.cells (xs := netM xs s) (by rw [netM_length]; exact HL.out) (fun q x hx => by
            obtain ⟨rfl, hq⟩ := tab_get hx
            rw [if_pos (by rw [← HL.out]; exact hq)])
          rw [e]
          exact resPost_alloc (by rw [netM_length]; exact HL.out) (by omega)

set_option maxHeartbeats 1000000 in
theorem net_spec (S : Nat → Prop) (a : Option Addr) (len cap : Nat) (xs : List Int) (s : Int) (w : World) (h : IntsAt w S a len xs) (hS : ∀ b, S b → b < w.heap.size) (hv : validDaysM xs = true) (hs0 : 0 ≤ s) (hs1 : s ≤ 20) :
    Calls Try.prog 29 #[.slice a len cap, .int .i64 s] w (NewOwn w (netM xs s)) := by
  have hl8 : len ≤ 8 := by have := validDays_len hv; have := h.lenEq; omega
  have HL := Lib.hid h.lenEq
  have HAT := Lib.hid (validDays_at hv)
  obtain ⟨i0, hi, hz0, hz1, hz2⟩ := info_parts Try.infoIntN
  go_enter Try.func29, Try.ntmps29
  go_wp2
  go_loopw [1, 5, 6] (fun st v i wr => ∃ (k cp : Nat) (ax : Option Addr), k ≤ len ∧ i = .int .i64 k ∧ st = .int .i64 (leftTo xs s k) ∧ v = .slice ax k cp ∧ wr.ownsRow w.heap.size 3 1 v k ((tab (netAt xs s) k).map (.int .i64)) ∧ Below w.heap.size w wr) (fun _ _ i _ => len - (intOf i).toNat)
  case atStart => exact ⟨0, 0, _, Nat.zero_le _, rfl, rfl, rfl, World.ownsRow_made _ _ _ (Nat.le_refl _) (Nat.zero_le _) rfl, (Below.refl _ _).alloc (Nat.le_refl _) _⟩
  case round =>
    obtain ⟨k, cp, ax, hk, rfl, rfl, rfl, hown, hB⟩ := hrel
    obtain ⟨wo, rfl⟩ : ∃ wo : World, wo = wr := ⟨_, rfl⟩
    have HOWN := Lib.hid hown
    have HB := Lib.hid hB
    by_cases hlt : k < len
    · obtain ⟨b, off, x, rfl, hx, hc⟩ := (h.to (S' := S) (w' := wo) (fun b hb => ⟨hb, hB.block b (hS b hb)⟩)).get hlt
      have hlb := leftTo_bd hs0 (fun q => (HAT.out q).1) k
      have hxb := HAT.out k
      rw [getD_of hx] at hxb
      have HN := Lib.hid (show leftTo xs s (k + 1) = leftTo xs s k - min (leftTo xs s k) x by rw [leftTo, getD_of hx])
      have HA := Lib.hid (show netAt xs s k = x - min (leftTo xs s k) x by rw [netAt, getD_of hx])
      clear hx hown hB
      generalize leftTo xs s k = L at hlb HN HA ⊢
      by_cases hmin : L ≤ x
      · have HV := Lib.hid (show netAt xs s k = x - L by rw [HA.out]; omega)
        go_wp2_with (at_builtin; refine wpList_append_own _ rfl _ _ 23 rfl w.heap.size 3 i0 (.int .i64 0) 1 8 Try.underlying23 hi hz0 hz1 hz2 rfl (by decide) _ _ _ rfl (HOWN.out.alloc _) ⟨wo.heap.size, 0, none⟩ 1 1 [.int .i64 (x - L)] rfl rfl ?c1 ?c2 ?c3 ?c4 ?c5 ?_)
        case c1 => exact one_new _ _ _
        case c2 => exact one_cell_int _ _
        case c3 => unfold maxLen; omega
        case c4 => omega
        case c5 => have := HB.out.size; simp; omega
        intro v' w6 hown hgrow _
        obtain ⟨a6, c6, rfl, _⟩ := own_slice hown
        have hgr : wo.grownBy w6 (Value.slice ax k cp).ownBlock := grown_comp (World.grownBy_alloc wo _ _) hgrow
        have HO6 := Lib.hid hown
        have HG6 := Lib.hid hgr
        clear hown hgr hgrow
        go_wp2
        go_roundw
        case rel => exact ⟨k + 1, c6, a6, by omega, by go_num, by rw [HN.out]; congr 1; omega, rfl, by rw [tab_succ, List.map_append, HV.out]; exact HO6.out, HB.out.grown HG6.out HB.out.size (fun q hq => (HOWN.out.lt q hq).1)⟩
        case measure => simp [intOf]; omega
      · have HV := Lib.hid (show netAt xs s k = 0 by rw [HA.out]; omega)
        go_wp2_with (at_builtin; refine wpList_append_own _ rfl _ _ 23 rfl w.heap.size 3 i0 (.int .i64 0) 1 8 Try.underlying23 hi hz0 hz1 hz2 rfl (by decide) _ _ _ rfl (HOWN.out.alloc _) ⟨wo.heap.size, 0, none⟩ 1 1 [.int .i64 0] rfl rfl ?c1 ?c2 ?c3 ?c4 ?c5 ?_)
        case c2 => rfl
        case c3 => unfold maxLen; omega
        case c4 => omega
        case c5 => have := HB.out.size; simp; omega
        intro v' w6 hown hgrow _
        obtain ⟨a6, c6, rfl, _⟩ := own_slice hown
        have hgr : wo.grownBy w6 (Value.slice ax k cp).ownBlock := grown_comp (World.grownBy_alloc wo _ _) hgrow
        have HO6 := Lib.hid hown
        have HG6 := Lib.hid hgr
        clear hown hgr hgrow
        go_wp2
        go_roundw
        case rel => exact ⟨k + 1, c6, a6, by omega, by go_num, by rw [HN.out]; congr 1; omega, rfl, by rw [tab_succ, List.map_append, HV.out]; exact HO6.out, HB.out.grown HG6.out HB.out.size (fun q hq => (HOWN.out.lt q hq).1)⟩
        case measure => simp [intOf]; omega
    · obtain rfl : k = len := by omega
      clear hown hB
      go_wp2
      go_ret
      have e : netM xs s = tab (netAt xs s) k := by rw [netM, HL.out]
      rw [e]
      exact ⟨_, _, _, rfl, by omega, HOWN.out, HB.out⟩
theorem netOf_spec (a : Option Addr) (len cap : Nat) (xs : List Int) (s : Int) (w : World) (h : IntsAt w (· < w.heap.size) a len xs) :
    Calls Try.prog 18 #[.slice a len cap, .int .i64 s] w (NewInts w (netRes xs s)) := by
  cases hv : validDaysM xs
  · rw [netRes_no (by rw [hv]; rfl)]
    go_enter Try.func18, Try.ntmps18
    go_wp2_with (go_at_call 27; refine (validDays_spec0 _ _ _ _ xs _ h).mono ?_; rintro e w' ⟨rfl, rfl⟩)
    go_ret
    exact newInts_nil w
  · cases hs : inB 0 20 s
    · rw [netRes_no (by rw [hv, hs]; rfl)]
      go_enter Try.func18, Try.ntmps18
      go_wp2_with (first | (go_at_call 27; refine (validDays_spec0 _ _ _ _ xs _ h).mono ?_; rintro e w' ⟨rfl, rfl⟩) | (go_at_call 33; refine (inRange_any _ _ _ _).mono ?_; rintro e w' ⟨rfl, rfl⟩))
      go_ret
      exact newInts_nil w
    · rw [netRes_yes (by rw [hv, hs]; rfl)]
      obtain ⟨hs0, hs1⟩ := inB_of hs
      go_enter Try.func18, Try.ntmps18
      go_wp2_with (first | (go_at_call 27; refine (validDays_spec0 _ _ _ _ xs _ h).mono ?_; rintro e w' ⟨rfl, rfl⟩) | (go_at_call 33; refine (inRange_any _ _ _ _).mono ?_; rintro e w' ⟨rfl, rfl⟩) | (go_at_call 29; refine (net_spec _ _ _ _ xs s _ h (fun b hb => hb) hv hs0 hs1).mono ?_; rintro e w' ⟨a2, l2, c2, rfl, h1, h2, h3⟩))
      go_ret
      exact NewOwn.ints ⟨a2, l2, c2, rfl, h1, h2, h3⟩
end Go.Proofs.Ytieknoijkmkdpac
