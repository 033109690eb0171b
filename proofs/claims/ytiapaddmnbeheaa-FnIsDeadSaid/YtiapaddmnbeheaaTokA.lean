import Derived.Test.YtiapaddmnbeheaaRows
import Derived.WalkKit
import Derived.LoopTactic
import Derived.Outline
import Derived.WalkSpells
import Derived.WalkLawsBesides
import Derived.ProofKit
import Derived.Lib.Hide
import Derived.IntWalk
import Derived.Deep.QuietTactic
import Derived.BigQuiet
import Derived.Shelf.RegionOpenPlain
import Derived.Test.YtiapaddmnbeheaaLib
import Derived.Test.YtiapaddmnbeheaaArr
import Derived.Test.YtiapaddmnbeheaaUp
import Derived.Test.YtiapaddmnbeheaaBitOp
import Derived.Test.YtiapaddmnbeheaaGen
import Derived.Test.YtiapaddmnbeheaaNetAt
import Derived.Test.YtiapaddmnbeheaaTokM
namespace Go.Proofs.Ytiapaddmnbeheaa
open Go.RowKit Go.WideShapes

theorem upTo8 (S : Nat → Prop) (a : Option Addr) (len cap : Nat) (xs : List Int) (lim : Int) (w : World) (h : IntsAt w S a len xs) {b : Bool} (hb : allIn 0 lim xs = b) :
    Calls Try.prog 18 #[.slice a len cap, .int .i64 lim] w fun e w' => e = .returned (.bool b) ∧ w' = w := by
  subst hb; exact (allUpTo_any S a len cap xs lim w h).mono fun _ _ h => ⟨h.1, h.2.symm⟩
theorem isUp8 (n hi : Int) (w : World) {b : Bool} (hb : inB 0 hi n = b) : Calls Try.prog 32 #[.int .i64 n, .int .i64 hi] w fun e w' => e = .returned (.bool b) ∧ w' = w := by
  subst hb; exact (isUpTo_any n hi w).mono fun _ _ h => ⟨h.1, h.2.symm⟩
theorem allIn_two {lo hi : Int} {r : List Int} {x y : Int} (h0 : r[0]? = some x) (h1 : r[1]? = some y) : allIn lo hi (r.take 2) = (inB lo hi x && inB lo hi y) := by
  rw [take_get (k := 1) h1, take_get (k := 0) h0]
  simp [allIn]
theorem ints_take8 {w : World} {S : Nat → Prop} {a : Option Addr} {len : Nat} {xs : List Int} (h : IntsAt w S a len xs) {k : Nat} (hk : k ≤ len) : IntsAt w S a k (xs.take k) := by
  have hl := h.lenEq
  have hs := h.small
  refine ⟨by simp; omega, by omega, fun h0 => ?_⟩
  obtain ⟨b, off, ha, hs, hc⟩ := h.cells (by omega)
  refine ⟨b, off, ha, hs, fun i x hx => hc i x ?_⟩
  rw [List.getElem?_take] at hx
  split at hx
  · exact hx
  · cases hx
set_option maxRecDepth 100000 in
set_option maxHeartbeats 2000000 in
theorem isWay_any (S : Nat → Prop) (a : Option Addr) (l c : Nat) (r : List Int) (n : Nat) (w : World) (h : IntsAt w S a l r) (hlc : l ≤ c) (hn : n ≤ 1000) :
    Calls Try.prog 19 #[.slice a l c, .int .i64 n] w fun e w' => e = .returned (.bool (wayB n r)) ∧ w' = w := by
  have hs := h.small
  have HL := Lib.hid h.lenEq
  by_cases hl3 : l = 3
  · subst hl3
    have HT2 := Lib.hid (ints_take8 h (k := 2) (by omega))
    obtain ⟨b, off, x, rfl, hx, hd⟩ := h.get (k := 0) (by omega)
    obtain ⟨b2, off2, y, e2, hy, hd2⟩ := h.get (k := 1) (by omega)
    cases e2
    obtain ⟨b3, off3, z, e3, hz, hd3⟩ := h.get (k := 2) (by omega)
    cases e3
    have HWB : Hid (wayB n r = (inB 0 ((n : Int) - 1) x && (inB 0 ((n : Int) - 1) y && inB 0 3 z))) := Lib.hid (by unfold wayB; rw [HL.out, getD_of hx, getD_of hy, getD_of hz]; rfl)
    have HA := Lib.hid (allIn_two (lo := 0) (hi := (n : Int) - 1) hx hy)
    clear hx hy hz
    have hc2 : 2 ≤ c := by omega
    cases h1 : allIn 0 ((n : Int) - 1) (r.take 2)
    · have C1 := Lib.hid (fun w' (hw : IntsAt w' S (some ⟨b, off, none⟩) 2 (r.take 2)) => upTo8 S _ 2 c _ _ w' hw h1)
      have HF : Hid (wayB n r = false) := Lib.hid (by rw [HWB.out, ← Bool.and_assoc, ← HA.out, h1]; rfl)
      clear h
      go_enter Try.func19, Try.ntmps19
      go_wp2_with fail
      refine (C1.out w HT2.out).mono ?_
      rintro e w' ⟨rfl, rfl⟩
      go_wp2_with fail
      go_ret
      exact ⟨ret_bool HF.out.symm, rfl⟩
    · have C1 := Lib.hid (fun w' (hw : IntsAt w' S (some ⟨b, off, none⟩) 2 (r.take 2)) => upTo8 S _ 2 c _ _ w' hw h1)
      have HF : Hid (wayB n r = inB 0 3 z) := Lib.hid (by rw [HWB.out, ← Bool.and_assoc, ← HA.out, h1]; rfl)
      clear h
      go_enter Try.func19, Try.ntmps19
      go_wp2_with fail
      refine (C1.out w HT2.out).mono ?_
      rintro e w' ⟨rfl, rfl⟩
      go_wp2_with fail
      refine (isUp8 z 3 w' rfl).mono ?_
      rintro e w' ⟨rfl, rfl⟩
      go_wp2_with fail
      go_ret
      exact ⟨ret_bool HF.out.symm, rfl⟩
  · have hle : ((l : Int) == 3) = false := by simp; omega
    have HF : Hid (wayB n r = false) := Lib.hid (by unfold wayB; rw [HL.out, beq_eq_false_iff_ne.2 hl3]; rfl)
    clear h
    go_enter Try.func19, Try.ntmps19
    go_wp2_with fail
    go_ret
    exact ⟨ret_bool HF.out.symm, rfl⟩
set_option maxRecDepth 100000 in
set_option maxHeartbeats 4000000 in
theorem validNet_impl (d : NV) (ts : List Int) (rows : List (List Int)) (w : World) (h : NetAt w (· < w.heap.size) d ts rows) :
    Calls Try.prog 8 #[.agg #[.slice d.aT d.lT d.cT, .slice d.aW d.lW d.cW]] w (valN w (.bool (tokM ts rows))) := by
  obtain ⟨aT, lT, cT, aW, lW, cW⟩ := d
  obtain ⟨ht, hr, hct, hcw⟩ := h
  dsimp only at ht hr hct hcw ⊢
  have hst := ht.small
  have hsw := hr.small
  have HTL := Lib.hid ht.lenEq
  have HWL := Lib.hid hr.lenEq
  have HH := Lib.hid (show ∀ w', Below w.heap.size w w' → IntsAt w' (· < w.heap.size) aT lT ts ∧ RowsAt w' (· < w.heap.size) aW lW rows from fun w' hb => ⟨ht.below hb, hr.below hb⟩)
  clear ht hr
  have hb0 := (Below.refl w.heap.size w).alloc (Nat.le_refl _) (.cells #[.slice aT lT cT, .slice aW lW cW] 26)
  have hn0 := netB_new w aT lT cT aW lW cW 26
  by_cases h4 : lT ≤ 4
  · have h4I : ¬ 4 < (lT : Int) := by omega
    cases hq : allIn 0 9 ts
    · have HF := Lib.hid (tok_time_false (rows := rows) hq)
      go_enter Try.func8, Try.ntmps8
      go_wp2_with fail
      refine (upTo8 (· < w.heap.size) aT lT cT ts 9 _ (HH.out _ hb0).1 hq).mono ?_
      rintro e w' ⟨rfl, rfl⟩
      go_wp2_with fail
      go_ret
      exact ⟨ret_bool HF.out.symm, hb0⟩
    · have HQ9 := Lib.hid hq
      by_cases h7 : lW ≤ 7
      · have h7I : ¬ 7 < (lW : Int) := by omega
        go_enter Try.func8, Try.ntmps8
        go_wp2_with fail
        refine (upTo8 (· < w.heap.size) aT lT cT ts 9 _ (HH.out _ hb0).1 hq).mono ?_
        rintro e w' ⟨rfl, rfl⟩
        go_wp2_with fail
        go_loopw [24] (fun i wr => ∃ q : Nat, q ≤ lW ∧ i = .int .i64 q ∧ (rows.take q).all (wayB lT) = true ∧ Below w.heap.size w wr ∧ NetB wr w.heap.size ⟨aT, lT, cT, aW, lW, cW⟩) (fun i _ => lW - (intOf i).toNat)
        case atStart => exact ⟨0, Nat.zero_le _, rfl, rfl, hb0, hn0⟩
        case round =>
          clear hb0 hn0
          obtain ⟨q, hq, rfl, ha, hb, hn⟩ := hrel
          obtain ⟨wo, rfl⟩ : ∃ wo : World, wo = wr := ⟨_, rfl⟩
          obtain ⟨n0, n1⟩ := id hn
          have HB := Lib.hid hb
          have HN := Lib.hid hn
          have HA := Lib.hid ha
          clear hb hn ha
          dsimp only at n0 n1
          by_cases hlq : q < lW
          · obtain ⟨b, off, r, a', l, c, rfl, hx, hc, hlc, hri⟩ := (HH.out wo HB.out).2.get hlq
            have HX := Lib.hid hx
            have HC := Lib.hid (isWay_any _ a' l c r lT wo hri hlc (by omega))
            have hqI : (q : Int) < (lW : Int) := by omega
            clear hx hri
            cases hwb : wayB lT r
            · rw [hwb] at HC
              go_wp2_with fail
              refine HC.out.mono ?_
              rintro e w' ⟨rfl, rfl⟩
              go_wp2_with fail
              go_ret
              exact ⟨ret_bool (tok_way_false (ts := ts) HX.out (by rw [HTL.out]; exact hwb)).symm, HB.out⟩
            · rw [hwb] at HC
              go_wp2_with fail
              refine HC.out.mono ?_
              rintro e w' ⟨rfl, rfl⟩
              go_wp2_with fail
              go_roundw
              case rel => exact ⟨q + 1, by omega, by go_num, by rw [take_get HX.out, List.all_append, HA.out]; simp only [List.all_cons, List.all_nil, Bool.and_true, Bool.true_and]; exact hwb, HB.out, HN.out⟩
              case measure => simp [intOf]; omega
          · obtain rfl : q = lW := by omega
            have HA8 : Hid (rows.all (wayB lT) = true) := Lib.hid (by have := HA.out; rwa [List.take_of_length_le (by rw [HWL.out]; omega)] at this)
            have HM : Hid (tokM ts rows = true) := Lib.hid (by unfold tokM; rw [HTL.out, HWL.out, HA8.out, HQ9.out]; simp [h4, h7])
            have hqI : ¬ (q : Int) < (q : Int) := by omega
            go_wp2_with fail
            go_ret
            exact ⟨ret_bool HM.out.symm, HB.out⟩
      · have h7I : 7 < (lW : Int) := by omega
        have HF : Hid (tokM ts rows = false) := Lib.hid (by unfold tokM; rw [HWL.out]; simp [h7])
        go_enter Try.func8, Try.ntmps8
        go_wp2_with fail
        refine (upTo8 (· < w.heap.size) aT lT cT ts 9 _ (HH.out _ hb0).1 hq).mono ?_
        rintro e w' ⟨rfl, rfl⟩
        go_wp2_with fail
        go_ret
        exact ⟨ret_bool HF.out.symm, hb0⟩
  · have h4I : 4 < (lT : Int) := by omega
    have HF : Hid (tokM ts rows = false) := Lib.hid (by unfold tokM; rw [HTL.out]; simp [h4])
    go_enter Try.func8, Try.ntmps8
    go_wp2_with fail
    go_ret
    exact ⟨ret_bool HF.out.symm, hb0⟩
end Go.Proofs.Ytiapaddmnbeheaa
