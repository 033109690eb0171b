import Derived.Test.YtjcbpnffmebihaaGreatDoorA23
import Derived.Test.YtjcbpnffmebihaaGreatDoorA24
import Derived.Test.YtjcbpnffmebihaaGreatDoorRows
import Derived.WalkKit
import Derived.LoopTactic
import Derived.Outline
import Derived.WalkSpells
import Derived.WalkLawsBesides
import Derived.ProofKit
import Derived.Deep.QuietTactic
import Derived.BigQuiet
set_option linter.unusedVariables false
set_option linter.unusedSimpArgs false
namespace Go.Proofs.YtjcbpnffmebihaaGreatDoor
open Go.RowKit Go.WideShapes

/-- length x stands ahead of y: y is shorter -/
def ahL (xs : List Int) (x y : Nat) : Bool := decide (xs.getD y 0 < xs.getD x 0)
set_option maxRecDepth 100000 in
set_option maxHeartbeats 8000000 in
theorem byLength_any (a : Option Addr) (len cap : Nat) (xs : List Int) (w : World) (h : IntsAt w (· < w.heap.size) a len xs) (hl8 : len ≤ 8) :
    Calls Tryz.prog 61 #[.slice a len cap] w (NewOwn w (srtI (ahL xs) len)) := by
  have ho0 := World.ownsRow_made (base := w.heap.size) (size := 1) (e := 3) w #[] 0 (Nat.le_refl _) (Nat.zero_le _) rfl
  have HAHD := Lib.hid (fun x y => show ahL xs x y = decide (xs.getD y 0 < xs.getD x 0) from rfl)
  have hst : srtI (ahL xs) 0 = [] := by simp [srtI, sortE]
  generalize ahL xs = ah at *
  have HST := Lib.hid hst
  have HH := Lib.hid (fun w' (hb : Below w.heap.size w w') => h.below hb)
  clear hst h
  go_enter Tryz.func61, Tryz.ntmps61
  go_wp2_with fail
  go_loopw [3, 4] (fun v i wr => ∃ (j cp g : Nat), i = .int .i64 j ∧ v = .slice (some ⟨g, 0, none⟩) j cp ∧ wr.ownsRow w.heap.size 3 1 v j ((srtI ah j).map (.int .i64)) ∧ j ≤ cp ∧ j ≤ len ∧ Below w.heap.size w wr) (fun _ i _ => len - (intOf i).toNat)
  case atStart => exact ⟨0, 0, w.heap.size, rfl, rfl, (by rw [HST.out]; exact ho0), Nat.zero_le _, Nat.zero_le _, (Below.refl _ _).alloc (Nat.le_refl _) _⟩
  case round =>
    clear ho0
    obtain ⟨j, cp, g, rfl, rfl, hown, hjc, hjl, hB⟩ := hrel
    obtain ⟨wo, rfl⟩ : ∃ wo : World, wo = wr := ⟨_, rfl⟩
    have HOWN := Lib.hid hown
    have HBB := Lib.hid hB
    clear hown hB
    by_cases hlt : j < len
    · have hltI : (j : Int) < (len : Int) := by omega
      go_wp2_with fail
      go_loopw [5] (fun kk ws => ∃ k : Nat, kk = .int .i64 k ∧ k ≤ j ∧ Drew wo ws ∧ ∀ m, k ≤ m → m < j → ah j ((sortE ah j).getD m 0) = true) (fun kk _ => (intOf kk).toNat)
      case atStart => exact ⟨j, rfl, Nat.le_refl _, Drew.refl _, fun m hm hm2 => by omega⟩
      case round =>
        obtain ⟨k, rfl, hkj, hdw, hall⟩ := hrel
        have HALL := Lib.hid hall
        clear hall
        obtain ⟨wi, rfl⟩ : ∃ wi : World, wi = wr := ⟨_, rfl⟩
        have HDW := Lib.hid hdw
        clear hdw
        have hown1 : wi.ownsRow w.heap.size 3 1 (.slice (some ⟨g, 0, none⟩) j cp) j ((srtI ah j).map (.int .i64)) := by
          obtain ⟨q0, hq0⟩ := HDW.out
          rw [hq0]; exact own_drewN HOWN.out _
        have HB0 : Hid (Below w.heap.size w wi) := Lib.hid (by
          obtain ⟨q0, hq0⟩ := HDW.out
          rw [hq0]; exact ⟨HBB.out.os, HBB.out.tape, HBB.out.output, HBB.out.size, HBB.out.block⟩)
        by_cases hkl : 0 < k
        · obtain ⟨p, rfl⟩ : ∃ p, k = p + 1 := ⟨k - 1, by omega⟩
          have hx0 : IntsAt wi (· < wi.heap.size) (some ⟨g, 0, none⟩) j (srtI ah j) := by
            obtain ⟨a', c', e', _, h'⟩ := own_ints hown1 (by omega)
            injection e' with e1 _ _
            subst e1
            exact h'.to fun b hb => ⟨hb.2, rfl⟩
          obtain ⟨b9, off9, x9, e9, hx9, hc9⟩ := hx0.get (k := p) (by omega)
          cases e9
          rw [Nat.zero_add] at hc9
          obtain ⟨y, rfl, hyj, hy⟩ := srtI_get hx9
          have HY := Lib.hid hy
          have HOWI := Lib.hid hown1
          clear hx0 hx9 hy hown1
          obtain ⟨bi, oi, vi, rfl, hvi, hci⟩ := (HH.out wi HB0.out).get hlt
          obtain ⟨by', oy, vy, ey, hvy, hcy⟩ := (HH.out wi HB0.out).get (show y < len by omega)
          cases ey
          have HD := Lib.hid (show ah j y = decide (vy < vi) by rw [HAHD.out, getD_of hvi, getD_of hvy])
          clear hvi hvy
          have hkl' : (0 : Int) < ((p + 1 : Nat) : Int) := by omega
          have hkld : decide ((0 : Int) < ((p + 1 : Nat) : Int)) = true := decide_eq_true hkl'
          have hkln : decide (0 < p + 1) = true := decide_eq_true (by omega)
          have hklm : decide ((0 : Int) < (p : Int) + 1) = true := decide_eq_true (by omega)
          have hpI : (p : Int) < (j : Int) := by omega
          have hyI : (y : Int) < (len : Int) := by omega
          have hpe : ((p + 1 : Nat) : Int) - 1 = (p : Int) := by omega
          have hwp : IntKind.i64.wrap (((p + 1 : Nat) : Int) - 1) = (p : Int) := by rw [hpe]; exact IntWalk.i64_in _ (by omega)
          have hwp2 : IntKind.i64.wrap ((p : Int) + 1 - 1) = (p : Int) := by rw [Int.add_sub_cancel]; exact IntWalk.i64_in _ (by omega)
          by_cases hbt : vy < vi
          · have hbd : decide (vy < vi) = true := decide_eq_true hbt
            go_wp2_with fail
            go_quiet (fail)
            go_wp2_with fail
            go_roundw
            case rel => exact ⟨p, by go_num, by omega, HDW.out.drew _, fun m hm hm2 => by
              rcases Nat.lt_or_ge p m with h' | h'
              · exact HALL.out m (by omega) hm2
              · have : m = p := by omega
                subst this
                rw [HY.out, HD.out]; exact hbd⟩
            case measure => simp [intOf] <;> omega
          · have hbd : decide (vy < vi) = false := decide_eq_false hbt
            have HSU := Lib.hid (srtI_succ (ah := ah) (n := j) (k := p + 1) HALL.out (fun _ => by rw [Nat.add_sub_cancel, HY.out, HD.out]; exact hbd) hkj)
            go_wp2_with fail
            go_quiet (fail)
            obtain ⟨w1, hw1⟩ : ∃ w1 : World, wi.drewN nq = w1 := ⟨_, rfl⟩
            rw [hw1]
            have HOW1 : Hid (w1.ownsRow w.heap.size 3 1 (.slice (some ⟨g, 0, none⟩) j cp) j ((srtI ah j).map (.int .i64))) := Lib.hid (by
              rw [← hw1]; exact own_drewN HOWI.out _)
            have HB1 : Hid (Below w.heap.size w w1) := Lib.hid (by
              rw [← hw1]; exact ⟨HB0.out.os, HB0.out.tape, HB0.out.output, HB0.out.size, HB0.out.block⟩)
            clear hw1
            obtain ⟨k, hk1⟩ : ∃ k, p + 1 = k := ⟨_, rfl⟩
            have hk1I : (p : Int) + 1 = (k : Int) := by omega
            rw [hk1] at HSU hkj hkl'
            try rw [hk1]
            try rw [hk1I]
            clear hbt hbd hc9 hci hcy hpe hpI hk1 hk1I HALL HY HD hkld hkln hklm hwp hwp2 hyI
            have hx1 : IntsAt w1 (· < w1.heap.size) (some ⟨g, 0, none⟩) j (srtI ah j) := by
              obtain ⟨a', c', e', _, h'⟩ := own_ints HOW1.out (by omega)
              injection e' with e1 _ _
              subst e1
              exact h'.to fun b hb => ⟨hb.2, rfl⟩
            have HT := Lib.hid (hx1.takeI k hkj)
            obtain ⟨AD, hAD, hD⟩ : ∃ od : Nat, (if cp = k then (some ⟨g, 0, none⟩ : Option Addr) else some ⟨g, k, none⟩) = some ⟨g, od, none⟩ ∧ IntsAt w1 (· < w1.heap.size) (some ⟨g, od, none⟩) (j - k) ((srtI ah j).drop k) := by
              by_cases hck : cp = k
              · exact ⟨0, by rw [if_pos hck], by have := hx1.lenEq; simp; omega, by omega, fun h0 => by omega⟩
              · exact ⟨k, by rw [if_neg hck], hx1.dropI k hkj⟩
            have HD := Lib.hid hD
            clear hD hx1
            have hkc : k ≤ cp := by omega
            have QA := Lib.hid (World.ownsRow_made (base := w1.heap.size) (size := 1) (e := 3) w1 #[] 0 (Nat.le_refl _) (Nat.zero_le _) rfl)
            have QB : Hid (((w1.alloc (.cells #[.int .i64 (j : Int)] 3)).alloc (.cells #[] 3)).ownsRow w1.heap.size 3 1 (.slice (some ⟨w1.heap.size + 1, 0, none⟩) 0 0) 0 (([] : List Int).map (.int .i64))) := Lib.hid (by
              have := World.ownsRow_made (base := w1.heap.size) (size := 1) (e := 3) (w1.alloc (.cells #[.int .i64 (j : Int)] 3)) #[] 0 (by simp) (Nat.zero_le _) rfl
              simpa using this)
            have YA : Hid (IntsAt ((w1.alloc (.cells #[] 3)).alloc (.cells #[.int .i64 (j : Int)] 3)) (fun k => k = w1.heap.size + 1) (some ⟨w1.heap.size + 1, 0, none⟩) 1 [(j : Int)]) := Lib.hid (IntsAt.lit rfl rfl (by simp) (by omega))
            have YB : Hid (IntsAt ((w1.alloc (.cells #[.int .i64 (j : Int)] 3)).alloc (.cells #[] 3)) (fun k => k = w1.heap.size) (some ⟨w1.heap.size, 0, none⟩) 1 [(j : Int)]) := Lib.hid (IntsAt.to (IntsAt.lit (W := w1) (cs := #[.int .i64 (j : Int)]) (t := 3) (xs := [(j : Int)]) (len := 1) rfl rfl rfl (by omega)) (fun b hb => ⟨hb, by subst hb; exact Below.heap_alloc _ _ _ (by simp)⟩))
            have B1 : Hid (Below w1.heap.size w1 (w1.alloc (.cells #[] 3)).drew) := Lib.hid ((Below.refl _ _).alloc (Nat.le_refl _) _).drew
            have B2 : Hid (Below w1.heap.size w1 ((w1.alloc (.cells #[] 3)).alloc (.cells #[.int .i64 (j : Int)] 3)).drew) := Lib.hid (((Below.refl _ _).alloc (Nat.le_refl _) _).alloc (by simp) _).drew
            have B3 : Hid (Below w1.heap.size w1 ((w1.alloc (.cells #[.int .i64 (j : Int)] 3)).alloc (.cells #[] 3)).drew) := Lib.hid (((Below.refl _ _).alloc (Nat.le_refl _) _).alloc (by simp) _).drew
            go_wp2_with fail
            go_region_law (first
              | (refine stepApp (by rfl) _ _ (by rfl) w1.heap.size 0 0 w1.heap.size [] (· < w1.heap.size) g 0 k cp ((srtI ah j).take k) (by rfl) QA.out.drew (by rfl) (HT.out.below B1.out) B1.out.size k (by omega) ((srtI ah j).take k) (by simp) (by omega) ?_
                 intro g4 c4 w4 own4 hc4 gr4 hb4 hl4
                 have BC := Lib.hid (B1.out.grown gr4 B1.out.size (by intro k e; injection e with e; omega)))
              | (refine stepApp (by rfl) _ _ (by rfl) w1.heap.size 0 0 w1.heap.size [] (· < w1.heap.size) g 0 k cp ((srtI ah j).take k) (by rfl) (QA.out.alloc _).drew (by rfl) (HT.out.below B2.out) B2.out.size k (by omega) ((srtI ah j).take k) (by simp) (by omega) ?_
                 intro g4 c4 w4 own4 hc4 gr4 hb4 hl4
                 have BA := Lib.hid (B2.out.grown gr4 B2.out.size (by intro k e; injection e with e; omega))
                 have Y4 := Lib.hid (YA.out.grownEq gr4 rfl (by simp <;> omega) (by omega)))
              | (refine stepApp (by rfl) _ _ (by rfl) w1.heap.size 0 0 (w1.heap.size + 1) [] (· < w1.heap.size) g 0 k cp ((srtI ah j).take k) (by rfl) QB.out.drew (by rfl) (HT.out.below B3.out) B3.out.size k (by omega) ((srtI ah j).take k) (by simp) (by omega) ?_
                 intro g4 c4 w4 own4 hc4 gr4 hb4 hl4
                 have BA := Lib.hid (B3.out.grown gr4 B3.out.size (by intro k e; injection e with e; omega))
                 have Y4 := Lib.hid (YB.out.grownEq gr4 rfl (by simp <;> omega) (by omega)))
              | (refine stepApp (by rfl) _ _ (by rfl) w1.heap.size k c4 g4 ((srtI ah j).take k) (fun b => b = w4.heap.size) w4.heap.size 0 1 1 [(j : Int)] (by rfl) (own4.alloc _) (by rfl) (IntsAt.lit (W := w4) (cs := #[.int .i64 (j : Int)]) (t := 3) (xs := [(j : Int)]) (len := 1) rfl rfl rfl (by omega)) (by have := BC.out.size; simp; omega) (k + 1) rfl ((srtI ah j).take k ++ [(j : Int)]) rfl (by omega) ?_
                 intro g5 c5 w5 own5 hc5 gr5 hb5 hl5
                 have B5 := Lib.hid ((BC.out.alloc BC.out.size _).grown gr5 (by have := BC.out.size; simp; omega) (by intro k e; injection e with e; omega)))
              | (refine stepApp (by rfl) _ _ (by rfl) w1.heap.size k c4 g4 ((srtI ah j).take k) _ _ 0 1 1 [(j : Int)] (by rfl) own4 (by rfl) Y4.out BA.out.size (k + 1) rfl ((srtI ah j).take k ++ [(j : Int)]) rfl (by omega) ?_
                 intro g5 c5 w5 own5 hc5 gr5 hb5 hl5
                 have B5 := Lib.hid (BA.out.grown gr5 BA.out.size (by intro k e; injection e with e; omega)))
              | (refine stepApp (by rfl) _ _ (by rfl) w1.heap.size (k + 1) c5 g5 ((srtI ah j).take k ++ [(j : Int)]) (· < w1.heap.size) g AD (j - k) (cp - k) ((srtI ah j).drop k) (by rfl) own5 (by rfl) (HD.out.below B5.out) B5.out.size (j + 1) (by omega) ((srtI ah j).take k ++ [(j : Int)] ++ (srtI ah j).drop k) rfl (by omega) ?_
                 intro g6 c6 w6 own6 hc6 gr6 hb6 hl6
                 have B6 := Lib.hid (B5.out.grown gr6 B5.out.size (by intro k e; injection e with e; omega))))
            all_goals (have H6 := Lib.hid own6; clear own6 own5 own4 gr4 gr5 gr6)
            all_goals go_wp2_with fail
            all_goals go_roundw
            case rel => exact ⟨j + 1, c6, g6, by go_num, rfl, by rw [HSU.out]; exact own_base H6.out HB1.out.size, hc6, by omega, HB1.out.trans (B6.out.mono HB1.out.size)⟩
            case measure => simp [intOf] <;> omega
            case rel => exact ⟨j + 1, c6, g6, by go_num, rfl, by rw [HSU.out]; exact own_base H6.out HB1.out.size, hc6, by omega, HB1.out.trans (B6.out.mono HB1.out.size)⟩
            case measure => simp [intOf] <;> omega
            case rel => exact ⟨j + 1, c6, g6, by go_num, rfl, by rw [HSU.out]; exact own_base H6.out HB1.out.size, hc6, by omega, HB1.out.trans (B6.out.mono HB1.out.size)⟩
            case measure => simp [intOf] <;> omega
        · have HSU := Lib.hid (srtI_succ (ah := ah) (n := j) (k := k) HALL.out (fun h => absurd h hkl) hkj)
          have hk3 : ¬ (0 : Int) < (k : Int) := by omega
          have hk4 : decide ((0 : Int) < (k : Int)) = false := decide_eq_false hk3
          have hk5 : decide (0 < k) = false := decide_eq_false hkl
          go_wp2_with fail
          go_quiet (fail)
          obtain ⟨w1, hw1⟩ : ∃ w1 : World, wi.drewN nq = w1 := ⟨_, rfl⟩
          rw [hw1]
          have HOW1 : Hid (w1.ownsRow w.heap.size 3 1 (.slice (some ⟨g, 0, none⟩) j cp) j ((srtI ah j).map (.int .i64))) := Lib.hid (by
            rw [← hw1]; exact own_drewN hown1 _)
          have HB1 : Hid (Below w.heap.size w w1) := Lib.hid (by
            rw [← hw1]; exact ⟨HB0.out.os, HB0.out.tape, HB0.out.output, HB0.out.size, HB0.out.block⟩)
          clear hown1 HALL hw1 hk4 hk5
          have hx1 : IntsAt w1 (· < w1.heap.size) (some ⟨g, 0, none⟩) j (srtI ah j) := by
            obtain ⟨a', c', e', _, h'⟩ := own_ints HOW1.out (by omega)
            injection e' with e1 _ _
            subst e1
            exact h'.to fun b hb => ⟨hb.2, rfl⟩
          have HT := Lib.hid (hx1.takeI k hkj)
          obtain ⟨AD, hAD, hD⟩ : ∃ od : Nat, (if cp = k then (some ⟨g, 0, none⟩ : Option Addr) else some ⟨g, k, none⟩) = some ⟨g, od, none⟩ ∧ IntsAt w1 (· < w1.heap.size) (some ⟨g, od, none⟩) (j - k) ((srtI ah j).drop k) := by
            by_cases hck : cp = k
            · exact ⟨0, by rw [if_pos hck], by have := hx1.lenEq; simp; omega, by omega, fun h0 => by omega⟩
            · exact ⟨k, by rw [if_neg hck], hx1.dropI k hkj⟩
          have HD := Lib.hid hD
          clear hD hx1
          have hkc : k ≤ cp := by omega
          have QA := Lib.hid (World.ownsRow_made (base := w1.heap.size) (size := 1) (e := 3) w1 #[] 0 (Nat.le_refl _) (Nat.zero_le _) rfl)
          have QB : Hid (((w1.alloc (.cells #[.int .i64 (j : Int)] 3)).alloc (.cells #[] 3)).ownsRow w1.heap.size 3 1 (.slice (some ⟨w1.heap.size + 1, 0, none⟩) 0 0) 0 (([] : List Int).map (.int .i64))) := Lib.hid (by
            have := World.ownsRow_made (base := w1.heap.size) (size := 1) (e := 3) (w1.alloc (.cells #[.int .i64 (j : Int)] 3)) #[] 0 (by simp) (Nat.zero_le _) rfl
            simpa using this)
          have YA : Hid (IntsAt ((w1.alloc (.cells #[] 3)).alloc (.cells #[.int .i64 (j : Int)] 3)) (fun k => k = w1.heap.size + 1) (some ⟨w1.heap.size + 1, 0, none⟩) 1 [(j : Int)]) := Lib.hid (IntsAt.lit rfl rfl (by simp) (by omega))
          have YB : Hid (IntsAt ((w1.alloc (.cells #[.int .i64 (j : Int)] 3)).alloc (.cells #[] 3)) (fun k => k = w1.heap.size) (some ⟨w1.heap.size, 0, none⟩) 1 [(j : Int)]) := Lib.hid (IntsAt.to (IntsAt.lit (W := w1) (cs := #[.int .i64 (j : Int)]) (t := 3) (xs := [(j : Int)]) (len := 1) rfl rfl rfl (by omega)) (fun b hb => ⟨hb, by subst hb; exact Below.heap_alloc _ _ _ (by simp)⟩))
          have B1 : Hid (Below w1.heap.size w1 (w1.alloc (.cells #[] 3)).drew) := Lib.hid ((Below.refl _ _).alloc (Nat.le_refl _) _).drew
          have B2 : Hid (Below w1.heap.size w1 ((w1.alloc (.cells #[] 3)).alloc (.cells #[.int .i64 (j : Int)] 3)).drew) := Lib.hid (((Below.refl _ _).alloc (Nat.le_refl _) _).alloc (by simp) _).drew
          have B3 : Hid (Below w1.heap.size w1 ((w1.alloc (.cells #[.int .i64 (j : Int)] 3)).alloc (.cells #[] 3)).drew) := Lib.hid (((Below.refl _ _).alloc (Nat.le_refl _) _).alloc (by simp) _).drew
          go_wp2_with fail
          go_region_law (first
            | (refine stepApp (by rfl) _ _ (by rfl) w1.heap.size 0 0 w1.heap.size [] (· < w1.heap.size) g 0 k cp ((srtI ah j).take k) (by rfl) QA.out.drew (by rfl) (HT.out.below B1.out) B1.out.size k (by omega) ((srtI ah j).take k) (by simp) (by omega) ?_
               intro g4 c4 w4 own4 hc4 gr4 hb4 hl4
               have BC := Lib.hid (B1.out.grown gr4 B1.out.size (by intro k e; injection e with e; omega)))
            | (refine stepApp (by rfl) _ _ (by rfl) w1.heap.size 0 0 w1.heap.size [] (· < w1.heap.size) g 0 k cp ((srtI ah j).take k) (by rfl) (QA.out.alloc _).drew (by rfl) (HT.out.below B2.out) B2.out.size k (by omega) ((srtI ah j).take k) (by simp) (by omega) ?_
               intro g4 c4 w4 own4 hc4 gr4 hb4 hl4
               have BA := Lib.hid (B2.out.grown gr4 B2.out.size (by intro k e; injection e with e; omega))
               have Y4 := Lib.hid (YA.out.grownEq gr4 rfl (by simp <;> omega) (by omega)))
            | (refine stepApp (by rfl) _ _ (by rfl) w1.heap.size 0 0 (w1.heap.size + 1) [] (· < w1.heap.size) g 0 k cp ((srtI ah j).take k) (by rfl) QB.out.drew (by rfl) (HT.out.below B3.out) B3.out.size k (by omega) ((srtI ah j).take k) (by simp) (by omega) ?_
               intro g4 c4 w4 own4 hc4 gr4 hb4 hl4
               have BA := Lib.hid (B3.out.grown gr4 B3.out.size (by intro k e; injection e with e; omega))
               have Y4 := Lib.hid (YB.out.grownEq gr4 rfl (by simp <;> omega) (by omega)))
            | (refine stepApp (by rfl) _ _ (by rfl) w1.heap.size k c4 g4 ((srtI ah j).take k) (fun b => b = w4.heap.size) w4.heap.size 0 1 1 [(j : Int)] (by rfl) (own4.alloc _) (by rfl) (IntsAt.lit (W := w4) (cs := #[.int .i64 (j : Int)]) (t := 3) (xs := [(j : Int)]) (len := 1) rfl rfl rfl (by omega)) (by have := BC.out.size; simp; omega) (k + 1) rfl ((srtI ah j).take k ++ [(j : Int)]) rfl (by omega) ?_
               intro g5 c5 w5 own5 hc5 gr5 hb5 hl5
               have B5 := Lib.hid ((BC.out.alloc BC.out.size _).grown gr5 (by have := BC.out.size; simp; omega) (by intro k e; injection e with e; omega)))
            | (refine stepApp (by rfl) _ _ (by rfl) w1.heap.size k c4 g4 ((srtI ah j).take k) _ _ 0 1 1 [(j : Int)] (by rfl) own4 (by rfl) Y4.out BA.out.size (k + 1) rfl ((srtI ah j).take k ++ [(j : Int)]) rfl (by omega) ?_
               intro g5 c5 w5 own5 hc5 gr5 hb5 hl5
               have B5 := Lib.hid (BA.out.grown gr5 BA.out.size (by intro k e; injection e with e; omega)))
            | (refine stepApp (by rfl) _ _ (by rfl) w1.heap.size (k + 1) c5 g5 ((srtI ah j).take k ++ [(j : Int)]) (· < w1.heap.size) g AD (j - k) (cp - k) ((srtI ah j).drop k) (by rfl) own5 (by rfl) (HD.out.below B5.out) B5.out.size (j + 1) (by omega) ((srtI ah j).take k ++ [(j : Int)] ++ (srtI ah j).drop k) rfl (by omega) ?_
               intro g6 c6 w6 own6 hc6 gr6 hb6 hl6
               have B6 := Lib.hid (B5.out.grown gr6 B5.out.size (by intro k e; injection e with e; omega))))
          all_goals (have H6 := Lib.hid own6; clear own6 own5 own4 gr4 gr5 gr6)
          all_goals go_wp2_with fail
          all_goals go_roundw
          case rel => exact ⟨j + 1, c6, g6, by go_num, rfl, by rw [HSU.out]; exact own_base H6.out HB1.out.size, hc6, by omega, HB1.out.trans (B6.out.mono HB1.out.size)⟩
          case measure => simp [intOf] <;> omega
          case rel => exact ⟨j + 1, c6, g6, by go_num, rfl, by rw [HSU.out]; exact own_base H6.out HB1.out.size, hc6, by omega, HB1.out.trans (B6.out.mono HB1.out.size)⟩
          case measure => simp [intOf] <;> omega
          case rel => exact ⟨j + 1, c6, g6, by go_num, rfl, by rw [HSU.out]; exact own_base H6.out HB1.out.size, hc6, by omega, HB1.out.trans (B6.out.mono HB1.out.size)⟩
          case measure => simp [intOf] <;> omega
    · obtain rfl : j = len := by omega
      have hltI : ¬ (j : Int) < (j : Int) := by omega
      go_wp2_with fail
      go_ret
      exact ⟨_, _, _, rfl, by omega, HOWN.out, HBB.out⟩
end Go.Proofs.YtjcbpnffmebihaaGreatDoor
