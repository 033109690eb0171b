import Derived.Test.YthmifadnfaajbacRows
import Derived.WalkKit
import Derived.LoopTactic
import Derived.Outline
import Derived.WalkSpells
import Derived.WalkLawsBesides
import Derived.ProofKit
import Derived.Test.YthmifadnfaajbacM0
import Derived.Test.YthmifadnfaajbacM1
import Derived.Test.YthmifadnfaajbacM2
import Derived.Test.YthmifadnfaajbacM6
import Derived.Test.YthmifadnfaajbacM7
import Derived.Test.YthmifadnfaajbacM9
import Derived.Test.YthmifadnfaajbacM10
import Derived.Test.YthmifadnfaajbacM11
import Derived.Deep.QuietTactic
import Derived.BigQuiet
import Derived.Lib.Hide
import Derived.IntWalk
namespace Go.Proofs.Ythmifadnfaajbac
open Go.RowKit Go.WideShapes

/-- length x stands ahead of y: y is shorter -/
def ahL (xs : List Int) (x y : Nat) : Bool := decide (xs.getD y 0 < xs.getD x 0)
set_option maxRecDepth 100000 in
set_option maxHeartbeats 8000000 in
theorem byLength_any (a : Option Addr) (len cap : Nat) (xs : List Int) (w : World) (h : IntsAt w (· < w.heap.size) a len xs) (hl8 : len ≤ 8) :
    Calls Try.prog 35 #[.slice a len cap] w (NewOwn w (srtI (ahL xs) len)) := by
  have ho0 := World.ownsRow_made (base := w.heap.size) (size := 1) (e := 3) w #[] 0 (Nat.le_refl _) (Nat.zero_le _) rfl
  have HAHD := Lib.hid (fun x y => show ahL xs x y = decide (xs.getD y 0 < xs.getD x 0) from rfl)
  have hst : srtI (ahL xs) 0 = [] := by simp [srtI, sortE]
  generalize ahL xs = ah at *
  have HST := Lib.hid hst
  have HH := Lib.hid (fun w' (hb : Below w.heap.size w w') => h.below hb)
  clear hst h
  go_enter Try.func35, Try.ntmps35
  go_wp2_with fail
  go_loopw [3, 4] (fun v i wr => ∃ (j cp g : Nat), i = .int .i64 j ∧ v = .slice (some ⟨g, 0, none⟩) j cp ∧ wr.ownsRow w.heap.size 3 1 v j ((srtI ah j).map (.int .i64)) ∧ j ≤ cp ∧ j ≤ len ∧ Below w.heap.size w wr) (fun _ i _ => len - (intOf i).toNat)
  case atStart => exact ⟨0, 0, w.heap.size, rfl, rfl, (by rw [HST.out]; exact ho0), Nat.zero_le _, Nat.zero_le _, (Below.refl _ _).alloc (Nat.le_refl _) _⟩
  case round =>
    clear ho0
    obtain ⟨j, cp, g, rfl, rfl, hown, hjc, hjl, hB⟩ := hrel
    obtain ⟨wo, rfl⟩ : ∃ wo : World, wo = wr := ⟨_, rfl⟩
    have HOWN := Lib.hid hown
    have HBB := Lib.hid hB
    clear hown hB
    by_cases hlt : j < len
    · have hltI : (j : Int) < (len : Int) := by omega
      go_wp2_with fail
      go_loopw [5] (fun kk ws => ∃ k : Nat, kk = .int .i64 k ∧ k ≤ j ∧ Drew wo ws ∧ ∀ m, k ≤ m → m < j → ah j ((sortE ah j).getD m 0) = true) (fun kk _ => (intOf kk).toNat)
      case atStart => exact ⟨j, rfl, Nat.le_refl _, Drew.refl _, fun m hm hm2 => by omega⟩
      case round =>
        obtain ⟨k, rfl, hkj, hdw, hall⟩ := hrel
        have HALL := Lib.hid hall
        clear hall
        obtain ⟨wi, rfl⟩ : ∃ wi : World, wi = wr := ⟨_, rfl⟩
        have HDW := Lib.hid hdw
        clear hdw
        have hown1 : wi.ownsRow w.heap.size 3 1 (.slice (some ⟨g, 0, none⟩) j cp) j ((srtI ah j).map (.int .i64)) := by
          obtain ⟨q0, hq0⟩ := HDW.out
          rw [hq0]; exact own_drewN HOWN.out _
        have HB0 : Hid (Below w.heap.size w wi) := Lib.hid (by
          obtain ⟨q0, hq0⟩ := HDW.out
          rw [hq0]; exact ⟨HBB.out.os, HBB.out.tape, HBB.out.output, HBB.out.size, HBB.out.block⟩)
        by_cases hkl : 0 < k
        · obtain ⟨p, rfl⟩ : ∃ p, k = p + 1 := ⟨k - 1, by omega⟩
          have hx0 : IntsAt wi (· < wi.heap.size) (some ⟨g, 0, none⟩) j (srtI ah j) := by
            obtain ⟨a', c', e', _, h'⟩ := own_ints hown1 (by omega)
            injection e' with e1 _ _
            subst e1
            exact h'.to fun b hb => ⟨hb.2, rfl⟩
          obtain ⟨b9, off9, x9, e9, hx9, hc9⟩ := hx0.get (k := p) (by omega)
          cases e9
          rw [Nat.zero_add] at hc9
          obtain ⟨y, rfl, hyj, hy⟩ := srtI_get hx9
          have HY := Lib.hid hy
          have HOWI := Lib.hid hown1
          clear hx0 hx9 hy hown1
          obtain ⟨bi, oi, vi, rfl, hvi, hci⟩ := (HH.out wi HB0.out).get hlt
          obtain ⟨by', oy, vy, ey, hvy, hcy⟩ := (HH.out wi HB0.out).get (show y < len by omega)
          cases ey
          have HD := Lib.hid (show ah j y = decide (vy < vi) by rw [HAHD.out, getD_of hvi, getD_of hvy])
          clear hvi hvy
          have hkl' : (0 : Int) < ((p + 1 : Nat) : Int) := by omega
          have hkld : decide ((0 : Int) < ((p + 1 : Nat) : Int)) = true := decide_eq_true hkl'
          have hkln : decide (0 < p + 1) = true := decide_eq_true (by omega)
          have hklm : decide ((0 : Int) < (p : Int) + 1) = true := decide_eq_true (by omega)
          have hpI : (p : Int) < (j : Int) := by omega
          have hyI : (y : Int) < (len : Int) := by omega
          have hpe : ((p + 1 : Nat) : Int) - 1 = (p : Int) := by omega
          have hwp : IntKind.i64.wrap (((p + 1 : Nat) : Int) - 1) = (p : Int) := by rw [hpe]; exact IntWalk.i64_in _ (by omega)
          have hwp2 : IntKind.i64.wrap ((p : Int) + 1 - 1) = (p : Int) := by rw [Int.add_sub_cancel]; exact IntWalk.i64_in _ (by omega)
          by_cases hbt : vy < vi
          · have hbd : decide (vy < vi) = true := decide_eq_true hbt
            go_wp2_with fail
            go_quiet (fail)
            go_wp2_with fail
            go_roundw
            case rel => exact ⟨p, by go_num, by omega, HDW.out.drew _, fun m hm hm2 => by
              rcases Nat.lt_or_ge p m with h' | h'
              · exact HALL.out m (by omega) hm2
              · have : m = p := by omega
                subst this
                rw [HY.out, HD.out]; exact hbd⟩
            case measure => simp [intOf] <;> omega
          · have hbd : decide (vy < vi) = false := decide_eq_false hbt
            have HSU := Lib.hid (srtI_succ (ah := ah) (n := j) (k := p + 1) HALL.out (fun _ => by rw [Nat.add_sub_cancel, HY.out, HD.out]; exact hbd) hkj)
            go_wp2_with fail
            go_quiet (fail)
            obtain ⟨w1, hw1⟩ : ∃ w1 : World, wi.drewN nq = w1 := ⟨_, rfl⟩
            rw [hw1]
            have HOW1 : Hid (w1.ownsRow w.heap.size 3 1 (.slice (some ⟨g, 0, none⟩) j cp) j ((srtI ah j).map (.int .i64))) := Lib.hid (by
              rw [← hw1]; exact own_drewN HOWI.out _)
            have HB1 : Hid (Below w.heap.size w w1) := Lib.hid (by
              rw [← hw1]; exact ⟨HB0.out.os, HB0.out.tape, HB0.out.output, HB0.out.size, HB0.out.block⟩)
            clear hw1
            obtain ⟨k, hk1⟩ : ∃ k, p + 1 = k := ⟨_, rfl⟩
            have hk1I : (p : Int) + 1 = (k : Int) := by omega
            rw [hk1] at HSU hkj hkl'
            try rw [hk1]
            try rw [hk1I]
            clear hbt hbd hc9 hci hcy hpe hpI hk1 hk1I HALL HY HD hkld hkln hklm hwp hwp2 hyI
            have hx1 : IntsAt w1 (· < w1.heap.size) (some ⟨g, 0, none⟩) j (srtI ah j) := by
              obtain ⟨a', c', e', _, h'⟩ := own_ints HOW1.out (by omega)
              injection e' with e1 _ _
              subst e1
              exact h'.to fun b hb => ⟨hb.2, rfl⟩
            have HT := Lib.hid (hx1.takeI k hkj)
            obtain ⟨AD, hAD, hD⟩ : ∃ od : Nat, (if cp = k then (some ⟨g, 0, none⟩ : Option Addr) else some ⟨g, k, none⟩) = some ⟨g, od, none⟩ ∧ IntsAt w1 (· < w1.heap.size) (some ⟨g, od, none⟩) (j - k) ((srtI ah j).drop k) := by
              by_cases hck : cp = k
              · exact ⟨0, by rw [if_pos hck], by have := hx1.lenEq; simp; omega, by omega, fun h0 => by omega⟩
              · exact ⟨k, by rw [if_neg hck], hx1.dropI k hkj⟩
            have HD := Lib.hid hD
            clear hD hx1
            have hkc : k ≤ cp := by omega
            have QA := Lib.hid (World.ownsRow_made (base := w1.heap.size) (size := 1) (e := 3) w1 #[] 0 (Nat.le_refl _) (Nat.zero_le _) rfl)
            have QB : Hid (((w1.alloc (.cells #[.int .i64 (j : Int)] 3)).alloc (.cells #[] 3)).ownsRow w1.heap.size 3 1 (.slice (some ⟨w1.heap.size + 1, 0, none⟩) 0 0) 0 (([] : List Int).map (.int .i64))) := Lib.hid (by
              have := World.ownsRow_made (base := w1.heap.size) (size := 1) (e := 3) (w1.alloc (.cells #[.int .i64 (j : Int)] 3)) #[] 0 (by simp) (Nat.zero_le _) rfl
              simpa using this)
            have YA : Hid (IntsAt ((w1.alloc (.cells #[] 3)).alloc (.cells #[.int .i64 (j : Int)] 3)) (fun k => k = w1.heap.size + 1) (some ⟨w1.heap.size + 1, 0, none⟩) 1 [(j : Int)]) := Lib.hid (IntsAt.lit rfl rfl (by simp) (by omega))
            have YB : Hid (IntsAt ((w1.alloc (.cells #[.int .i64 (j : Int)] 3)).alloc (.cells #[] 3)) (fun k => k = w1.heap.size) (some ⟨w1.heap.size, 0, none⟩) 1 [(j : Int)]) := Lib.hid (IntsAt.to (IntsAt.lit (W := w1) (cs := #[.int .i64 (j : Int)]) (t := 3) (xs := [(j : Int)]) (len := 1) rfl rfl rfl (by omega)) (fun b hb => ⟨hb, by subst hb; exact Below.heap_alloc _ _ _ (by simp)⟩))
            have B1 : Hid (Below w1.heap.size w1 (w1.alloc (.cells #[] 3)).drew) := Lib.hid ((Below.refl _ _).alloc (Nat.le_refl _) _).drew
            have B2 : Hid (Below w1.heap.size w1 ((w1.alloc (.cells #[] 3)).alloc (.cells #[.int .i64 (j : Int)] 3)).drew) := Lib.hid (((Below.refl _ _).alloc (Nat.le_refl _) _).alloc (by simp) _).drew
            have B3 : Hid (Below w1.heap.size w1 ((w1.alloc (.cells #[.int .i64 (j : Int)] 3)).alloc (.cells #[] 3)).drew) := Lib.hid (((Below.refl _ _).alloc (Nat.le_refl _) _).alloc (by simp) _).drew
            go_wp2_with fail
            go_region_law (first
              | (refine stepApp (by rfl) _ _ (by rfl) w1.heap.size 0 0 w1.heap.size [] (· < w1.heap.size) g 0 k cp ((srtI ah j).take k) (by rfl) QA.out.drew (by rfl) (HT.out.below B1.out) B1.out.size k (by omega) ((srtI ah j).take k) (by simp) (by omega) ?_
                 intro g4 c4 w4 own4 hc4 gr4 hb4 hl4
                 have BC := Lib.hid (B1.out.grown gr4 B1.out.size (by intro k e; injection e with e; omega)))
              | (refine stepApp (by rfl) _ _ (by rfl) w1.heap.size 0 0 w1.heap.size [] (· < w1.heap.size) g 0 k cp ((srtI ah j).take k) (by rfl) (QA.out.alloc _).drew (by rfl) (HT.out.below B2.out) B2.out.size k (by omega) ((srtI ah j).take k) (by simp) (by omega) ?_
                 intro g4 c4 w4 own4 hc4 gr4 hb4 hl4
                 have BA := Lib.hid (B2.out.grown gr4 B2.out.size (by intro k e; injection e with e; omega))
                 have Y4 := Lib.hid (YA.out.grownEq gr4 rfl (by simp <;> omega) (by omega)))
              | (refine stepApp (by rfl) _ _ (by rfl) w1.heap.size 0 0 (w1.heap.size + 1) [] (· < w1.heap.size) g 0 k cp ((srtI ah j).take k) (by rfl) QB.out.drew (by rfl) (HT.out.below B3.out) B3.out.size k (by omega) ((srtI ah j).take k) (by simp) (by omega) ?_
                 intro g4 c4 w4 own4 hc4 gr4 hb4 hl4
                 have BA := Lib.hid (B3.out.grown gr4 B3.out.size (by intro k e; injection e with e; omega))
                 have Y4 := Lib.hid (YB.out.grownEq gr4 rfl (by simp <;> omega) (by omega)))
              | (refine stepApp (by rfl) _ _ (by rfl) w1.heap.size k c4 g4 ((srtI ah j).take k) (fun b => b = w4.heap.size) w4.heap.size 0 1 1 [(j : Int)] (by rfl) (own4.alloc _) (by rfl) (IntsAt.lit (W := w4) (cs := #[.int .i64 (j : Int)]) (t := 3) (xs := [(j : Int)]) (len := 1) rfl rfl rfl (by omega)) (by have := BC.out.size; simp; omega) (k + 1) rfl ((srtI ah j).take k ++ [(j : Int)]) rfl (by omega) ?_
                 intro g5 c5 w5 own5 hc5 gr5 hb5 hl5
                 have B5 := Lib.hid ((BC.out.alloc BC.out.size _).grown gr5 (by have := BC.out.size; simp; omega) (by intro k e; injection e with e; omega)))
              | (refine stepApp (by rfl) _ _ (by rfl) w1.heap.size k c4 g4 ((srtI ah j).take k) _ _ 0 1 1 [(j : Int)] (by rfl) own4 (by rfl) Y4.out BA.out.size (k + 1) rfl ((srtI ah j).take k ++ [(j : Int)]) rfl (by omega) ?_
                 intro g5 c5 w5 own5 hc5 gr5 hb5 hl5
                 have B5 := Lib.hid (BA.out.grown gr5 BA.out.size (by intro k e; injection e with e; omega)))
              | (refine stepApp (by rfl) _ _ (by rfl) w1.heap.size (k + 1) c5 g5 ((srtI ah j).take k ++ [(j : Int)]) (· < w1.heap.size) g AD (j - k) (cp - k) ((srtI ah j).drop k) (by rfl) own5 (by rfl) (HD.out.below B5.out) B5.out.size (j + 1) (by omega) ((srtI ah j).take k ++ [(j : Int)] ++ (srtI ah j).drop k) rfl (by omega) ?_
                 intro g6 c6 w6 own6 hc6 gr6 hb6 hl6
                 have B6 := Lib.hid (B5.out.grown gr6 B5.out.size (by intro k e; injection e with e; omega))))
            all_goals (have H6 := Lib.hid own6; clear own6 own5 own4 gr4 gr5 gr6)
            all_goals go_wp2_with fail
            all_goals go_roundw
            case rel => exact ⟨j + 1, c6, g6, by go_num, rfl, by rw [HSU.out]; exact own_base H6.out HB1.out.size, hc6, by omega, HB1.out.trans (B6.out.mono HB1.out.size)⟩
            case measure => simp [intOf] <;> omega
            case rel => exact ⟨j + 1, c6, g6, by go_num, rfl, by rw [HSU.out]; exact own_base H6.out HB1.out.size, hc6, by omega, HB1.out.trans (B6.out.mono HB1.out.size)⟩
            case measure => simp [intOf] <;> omega
            case rel => exact ⟨j + 1, c6, g6, by go_num, rfl, by rw [HSU.out]; exact own_base H6.out HB1.out.size, hc6, by omega, HB1.out.trans (B6.out.mono HB1.out.size)⟩
            case measure => simp [intOf] <;> omega
        · have HSU := Lib.hid (srtI_succ (ah := ah) (n := j) (k := k) HALL.out (fun h => absurd h hkl) hkj)
          have hk3 : ¬ (0 : Int) < (k : Int) := by omega
          have hk4 : decide ((0 : Int) < (k : Int)) = false := decide_eq_false hk3
          have hk5 : decide (0 < k) = false := decide_eq_false hkl
          go_wp2_with fail
          go_quiet (fail)
          obtain ⟨w1, hw1⟩ : ∃ w1 : World, wi.drewN nq = w1 := ⟨_, rfl⟩
          rw [hw1]
          have HOW1 : Hid (w1.ownsRow w.heap.size 3 1 (.slice (some ⟨g, 0, none⟩) j cp) j ((srtI ah j).map (.int .i64))) := Lib.hid (by
            rw [← hw1]; exact own_drewN hown1 _)
          have HB1 : Hid (Below w.heap.size w w1) := Lib.hid (by
            rw [← hw1]; exact ⟨HB0.out.os, HB0.out.tape, HB0.out.output, HB0.out.size, HB0.out.block⟩)
          clear hown1 HALL hw1 hk4 hk5
          have hx1 : IntsAt w1 (· < w1.heap.size) (some ⟨g, 0, none⟩) j (srtI ah j) := by
            obtain ⟨a', c', e', _, h'⟩ := own_ints HOW1.out (by omega)
            injection e' with e1 _ _
            subst e1
            exact h'.to fun b hb => ⟨hb.2, rfl⟩
          have HT := Lib.hid (hx1.takeI k hkj)
          obtain ⟨AD, hAD, hD⟩ : ∃ od : Nat, (if cp = k then (some ⟨g, 0, none⟩ : Option Addr) else some ⟨g, k, none⟩) = some ⟨g, od, none⟩ ∧ IntsAt w1 (· < w1.heap.size) (some ⟨g, od, none⟩) (j - k) ((srtI ah j).drop k) := by
            by_cases hck : cp = k
            · exact ⟨0, by rw [if_pos hck], by have := hx1.lenEq; simp; omega, by omega, fun h0 => by omega⟩
            · exact ⟨k, by rw [if_neg hck], hx1.dropI k hkj⟩
          have HD := Lib.hid hD
          clear hD hx1
          have hkc : k ≤ cp := by omega
          have QA := Lib.hid (World.ownsRow_made (base := w1.heap.size) (size := 1) (e := 3) w1 #[] 0 (Nat.le_refl _) (Nat.zero_le _) rfl)
          have QB : Hid (((w1.alloc (.cells #[.int .i64 (j : Int)] 3)).alloc (.cells #[] 3)).ownsRow w1.heap.size 3 1 (.slice (some ⟨w1.heap.size + 1, 0, none⟩) 0 0) 0 (([] : List Int).map (.int .i64))) := Lib.hid (by
            have := World.ownsRow_made (base := w1.heap.size) (size := 1) (e := 3) (w1.alloc (.cells #[.int .i64 (j : Int)] 3)) #[] 0 (by simp) (Nat.zero_le _) rfl
            simpa using this)
          have YA : Hid (IntsAt ((w1.alloc (.cells #[] 3)).alloc (.cells #[.int .i64 (j : Int)] 3)) (fun k => k = w1.heap.size + 1) (some ⟨w1.heap.size + 1, 0, none⟩) 1 [(j : Int)]) := Lib.hid (IntsAt.lit rfl rfl (by simp) (by omega))
          have YB : Hid (IntsAt ((w1.alloc (.cells #[.int .i64 (j : Int)] 3)).alloc (.cells #[] 3)) (fun k => k = w1.heap.size) (some ⟨w1.heap.size, 0, none⟩) 1 [(j : Int)]) := Lib.hid (IntsAt.to (IntsAt.lit (W := w1) (cs := #[.int .i64 (j : Int)]) (t := 3) (xs := [(j : Int)]) (len := 1) rfl rfl rfl (by omega)) (fun b hb => ⟨hb, by subst hb; exact Below.heap_alloc _ _ _ (by simp)⟩))
          have B1 : Hid (Below w1.heap.size w1 (w1.alloc (.cells #[] 3)).drew) := Lib.hid ((Below.refl _ _).alloc (Nat.le_refl _) _).drew
          have B2 : Hid (Below w1.heap.size w1 ((w1.alloc (.cells #[] 3)).alloc (.cells #[.int .i64 (j : Int)] 3)).drew) := Lib.hid (((Below.refl _ _).alloc (Nat.le_refl _) _).alloc (by simp) _).drew
          have B3 : Hid (Below w1.heap.size w1 ((w1.alloc (.cells #[.int .i64 (j : Int)] 3)).alloc (.cells #[] 3)).drew) := Lib.hid (((Below.refl _ _).alloc (Nat.le_refl _) _).alloc (by simp) _).drew
          go_wp2_with fail
          go_region_law (first
            | (refine stepApp (by rfl) _ _ (by rfl) w1.heap.size 0 0 w1.heap.size [] (· < w1.heap.size) g 0 k cp ((srtI ah j).take k) (by rfl) QA.out.drew (by rfl) (HT.out.below B1.out) B1.out.size k (by omega) ((srtI ah j).take k) (by simp) (by omega) ?_
               intro g4 c4 w4 own4 hc4 gr4 hb4 hl4
               have BC := Lib.hid (B1.out.grown gr4 B1.out.size (by intro k e; injection e with e; omega)))
            | (refine stepApp (by rfl) _ _ (by rfl) w1.heap.size 0 0 w1.heap.size [] (· < w1.heap.size) g 0 k cp ((srtI ah j).take k) (by rfl) (QA.out.alloc _).drew (by rfl) (HT.out.below B2.out) B2.out.size k (by omega) ((srtI ah j).take k) (by simp) (by omega) ?_
               intro g4 c4 w4 own4 hc4 gr4 hb4 hl4
               have BA := Lib.hid (B2.out.grown gr4 B2.out.size (by intro k e; injection e with e; omega))
               have Y4 := Lib.hid (YA.out.grownEq gr4 rfl (by simp <;> omega) (by omega)))
            | (refine stepApp (by rfl) _ _ (by rfl) w1.heap.size 0 0 (w1.heap.size + 1) [] (· < w1.heap.size) g 0 k cp ((srtI ah j).take k) (by rfl) QB.out.drew (by rfl) (HT.out.below B3.out) B3.out.size k (by omega) ((srtI ah j).take k) (by simp) (by omega) ?_
               intro g4 c4 w4 own4 hc4 gr4 hb4 hl4
               have BA := Lib.hid (B3.out.grown gr4 B3.out.size (by intro k e; injection e with e; omega))
               have Y4 := Lib.hid (YB.out.grownEq gr4 rfl (by simp <;> omega) (by omega)))
            | (refine stepApp (by rfl) _ _ (by rfl) w1.heap.size k c4 g4 ((srtI ah j).take k) (fun b => b = w4.heap.size) w4.heap.size 0 1 1 [(j : Int)] (by rfl) (own4.alloc _) (by rfl) (IntsAt.lit (W := w4) (cs := #[.int .i64 (j : Int)]) (t := 3) (xs := [(j : Int)]) (len := 1) rfl rfl rfl (by omega)) (by have := BC.out.size; simp; omega) (k + 1) rfl ((srtI ah j).take k ++ [(j : Int)]) rfl (by omega) ?_
               intro g5 c5 w5 own5 hc5 gr5 hb5 hl5
               have B5 := Lib.hid ((BC.out.alloc BC.out.size _).grown gr5 (by have := BC.out.size; simp; omega) (by intro k e; injection e with e; omega)))
            | (refine stepApp (by rfl) _ _ (by rfl) w1.heap.size k c4 g4 ((srtI ah j).take k) _ _ 0 1 1 [(j : Int)] (by rfl) own4 (by rfl) Y4.out BA.out.size (k + 1) rfl ((srtI ah j).take k ++ [(j : Int)]) rfl (by omega) ?_
               intro g5 c5 w5 own5 hc5 gr5 hb5 hl5
               have B5 := Lib.hid (BA.out.grown gr5 BA.out.size (by intro k e; injection e with e; omega)))
            | (refine stepApp (by rfl) _ _ (by rfl) w1.heap.size (k + 1) c5 g5 ((srtI ah j).take k ++ [(j : Int)]) (· < w1.heap.size) g AD (j - k) (cp - k) ((srtI ah j).drop k) (by rfl) own5 (by rfl) (HD.out.below B5.out) B5.out.size (j + 1) (by omega) ((srtI ah j).take k ++ [(j : Int)] ++ (srtI ah j).drop k) rfl (by omega) ?_
               intro g6 c6 w6 own6 hc6 gr6 hb6 hl6
               have B6 := Lib.hid (B5.out.grown gr6 B5.out.size (by intro k e; injection e with e; omega))))
          all_goals (have H6 := Lib.hid own6; clear own6 own5 own4 gr4 gr5 gr6)
          all_goals go_wp2_with fail
          all_goals go_roundw
          case rel => exact ⟨j + 1, c6, g6, by go_num, rfl, by rw [HSU.out]; exact own_base H6.out HB1.out.size, hc6, by omega, HB1.out.trans (B6.out.mono HB1.out.size)⟩
          case measure => simp [intOf] <;> omega
          case rel => exact ⟨j + 1, c6, g6, by go_num, rfl, by rw [HSU.out]; exact own_base H6.out HB1.out.size, hc6, by omega, HB1.out.trans (B6.out.mono HB1.out.size)⟩
          case measure => simp [intOf] <;> omega
          case rel => exact ⟨j + 1, c6, g6, by go_num, rfl, by rw [HSU.out]; exact own_base H6.out HB1.out.size, hc6, by omega, HB1.out.trans (B6.out.mono HB1.out.size)⟩
          case measure => simp [intOf] <;> omega
    · obtain rfl : j = len := by omega
      have hltI : ¬ (j : Int) < (j : Int) := by omega
      go_wp2_with fail
      go_ret
      exact ⟨_, _, _, rfl, by omega, HOWN.out, HBB.out⟩
end Go.Proofs.Ythmifadnfaajbac
namespace Go.Proofs.Ythmifadnfaajbac
open Go.RowKit Go.WideShapes

def isLong (kind : ByteArray) : Bool := kind.toList == [108, 111, 110, 103]
def isFirst (kind : ByteArray) : Bool := kind.toList == [102, 105, 114, 115, 116]
theorem long_not_first {kind : ByteArray} (h : isLong kind = true) : isFirst kind = false := by
  unfold isLong at h
  unfold isFirst
  rw [beq_iff_eq] at h
  rw [h]; rfl
theorem l_isLong : isLong ⟨#[108, 111, 110, 103]⟩ = true := by kernel_rfl
theorem f_isFirst : isFirst ⟨#[102, 105, 114, 115, 116]⟩ = true := by kernel_rfl
def upI (n : Nat) : List Int := (List.range n).map (fun x : Nat => (x : Int))
theorem upI_get (n j : Nat) (h : j < n) : (upI n).getD j 0 = (((List.range n).getD j 0 : Nat) : Int) := by
  unfold upI
  simp [List.getD_eq_getElem?_getD, h]
theorem srtI_getD (ah : Nat → Nat → Bool) (n j : Nat) (h : j < n) : (srtI ah n).getD j 0 = (((sortE ah n).getD j 0 : Nat) : Int) := by
  have := sortE_len ah n
  unfold srtI
  simp [List.getD_eq_getElem?_getD, this, h]
theorem upI_succ (n : Nat) : upI (n + 1) = upI n ++ [(n : Int)] := by unfold upI; rw [List.range_succ, List.map_append]; rfl
/-- the order in which the kind cuts -/
def cutOrd (xs : List Int) (kind : ByteArray) : List Nat := if isLong kind then sortE (ahL xs) xs.length else List.range xs.length
theorem cutOrd_perm (xs : List Int) (kind : ByteArray) : (cutOrd xs kind).Perm (List.range xs.length) := by
  unfold cutOrd; split
  · exact sortE_perm _ _
  · exact List.Perm.refl _
/-- what RollsBy answers -/
def rollRes (xs : List Int) (R : Int) (kind : ByteArray) : List Int := if cutsM xs R && (isLong kind || isFirst kind) then tab (fun i => (rollP (lenT xs) R (cutOrd xs kind) xs.length i : Int)) xs.length else []
set_option maxRecDepth 100000 in
theorem upTo_any (n : Nat) (w : World) (hn : n ≤ 1000) : Calls Try.prog 36 #[.int .i64 n] w (NewOwn w (upI n)) := by
  have ho0 := World.ownsRow_made (base := w.heap.size) (size := 1) (e := 3) w #[] 0 (Nat.le_refl _) (Nat.zero_le _) rfl
  have HO0 := Lib.hid ho0
  clear ho0
  go_enter Try.func36, Try.ntmps36
  go_wp2_with fail
  go_loopw [3, 4] (fun v i wr => ∃ (k cp : Nat) (ax : Option Addr), k ≤ n ∧ i = .int .i64 k ∧ v = .slice ax k cp ∧ wr.ownsRow w.heap.size 3 1 v k ((upI k).map (.int .i64)) ∧ Below w.heap.size w wr) (fun _ i _ => n - (intOf i).toNat)
  case atStart => exact ⟨0, 0, _, Nat.zero_le _, rfl, rfl, HO0.out, (Below.refl _ _).alloc (Nat.le_refl _) _⟩
  case round =>
    clear HO0
    obtain ⟨k, cp, ax, hk, rfl, rfl, hown, hB⟩ := hrel
    obtain ⟨wo, rfl⟩ : ∃ wo : World, wo = wr := ⟨_, rfl⟩
    have HO9 := Lib.hid hown
    have HB9 := Lib.hid hB
    clear hown hB
    by_cases hlt : k < n
    · have hkI : (k : Int) < (n : Int) := by omega
      go_wp2_with (at_builtin; refine wpApp1 rfl _ _ rfl w.heap.size _ _ _ _ _ rfl HO9.out rfl HB9.out.size (by omega) ?_)
      intro a6 c6 w6 hown hc6 hgr
      have HO6 := Lib.hid hown
      have HG6 := Lib.hid hgr
      clear hown hgr
      go_wp2
      go_roundw
      case rel => exact ⟨k + 1, c6, a6, by omega, by go_num, rfl, by rw [upI_succ]; exact own_snoc HO6.out, HB9.out.grown HG6.out HB9.out.size (own_block HO9.out)⟩
      case measure => simp [intOf]; omega
    · obtain rfl : k = n := by omega
      have hkI : ¬ (k : Int) < (k : Int) := by omega
      go_wp2_with fail
      go_ret
      exact ⟨_, _, _, rfl, by omega, HO9.out, HB9.out⟩
set_option maxRecDepth 100000 in
set_option maxHeartbeats 2000000 in
theorem rollsBy_own (a : Option Addr) (len cap : Nat) (xs : List Int) (R : Int) (kind : ByteArray) (w : World) (h : IntsAt w (· < w.heap.size) a len xs) :
    Calls Try.prog 10 #[.slice a len cap, .int .i64 R, .string kind] w (NewInts w (rollRes xs R kind)) := by
  have HL := Lib.hid h.lenEq
  cases hv : cutsM xs R
  · have HR := Lib.hid (show rollRes xs R kind = [] by unfold rollRes; rw [hv]; rfl)
    rw [HR.out]
    go_enter Try.func10, Try.ntmps10
    go_wp2_with (first | (go_at_call 33; refine (vcuts hv _ h).mono ?_; rintro e w' ⟨rfl, rfl⟩) | fail)
    go_ret
    exact newInts_nil w
  · have hl7 : len ≤ 7 := by have := (cuts_get hv).2.2.1; have := HL.out; omega
    have HVJ := Lib.hid (vcuts (cap := cap) hv w h)
    have e1 : (kind.toList == [108, 111, 110, 103]) = isLong kind := rfl
    have e2 : (kind.toList == [102, 105, 114, 115, 116]) = isFirst kind := rfl
    cases h1 : isLong kind
    · rw [h1] at e1
      cases h2 : isFirst kind
      · rw [h2] at e2
        have HR := Lib.hid (show rollRes xs R kind = [] by unfold rollRes; rw [hv, h1, h2]; rfl)
        rw [HR.out]
        clear h1 h2
        go_enter Try.func10, Try.ntmps10
        go_wp2_with fail
        refine HVJ.out.mono ?_
        rintro e w' ⟨rfl, rfl⟩
        go_wp2_with fail
        go_ret
        exact newInts_nil _
      · rw [h2] at e2
        have HR := Lib.hid (show rollRes xs R kind = tab (fun i => (rollP (lenT xs) R (List.range len) len i : Int)) len by unfold rollRes cutOrd; rw [hv, h1, h2, HL.out]; rfl)
        rw [HR.out]
        clear h1 h2
        go_enter Try.func10, Try.ntmps10
        go_wp2_with fail
        refine HVJ.out.mono ?_
        rintro e w' ⟨rfl, rfl⟩
        go_wp2_with fail
        refine (upTo_any len w (by omega)).mono ?_
        rintro e w1 h1
        obtain ⟨a3, l3, c3, rfl, h3, hc3, hb1⟩ := h1.ints
        have hl3 : l3 = len := by have := h3.lenEq; simp [upI] at this; omega
        subst hl3
        have HF := Lib.hid (fit_any a a3 l3 cap c3 xs (upI l3) R (List.range l3) w1 ((h.below hb1).to (fun b hb => ⟨Nat.lt_of_lt_of_le hb hb1.size, rfl⟩)) (h3.to (fun b hb => ⟨hb.2, rfl⟩)) hv (List.Perm.refl _) (fun j hj => upI_get _ j hj))
        have HB1 := Lib.hid hb1
        clear h3 hb1 h1
        go_wp2_with fail
        refine HF.out.mono ?_
        rintro e w2 h2
        obtain ⟨a4, l4, c4, rfl, h4, hc4, hb2⟩ := h2.ints
        have H4 := Lib.hid h4
        have HB2 := Lib.hid (HB1.out.trans (hb2.mono HB1.out.size))
        clear h4 hb2 h2
        go_wp2_with fail
        go_ret
        exact ⟨a4, l4, c4, rfl, H4.out.to (fun b hb => ⟨⟨Nat.le_trans HB1.out.size hb.1, hb.2⟩, rfl⟩), hc4, HB2.out⟩
    · rw [h1] at e1
      have h2 := long_not_first h1
      rw [h2] at e2
      have HR := Lib.hid (show rollRes xs R kind = tab (fun i => (rollP (lenT xs) R (sortE (ahL xs) len) len i : Int)) len by unfold rollRes cutOrd; rw [hv, h1, HL.out]; rfl)
      rw [HR.out]
      clear h1 h2
      go_enter Try.func10, Try.ntmps10
      go_wp2_with fail
      refine HVJ.out.mono ?_
      rintro e w' ⟨rfl, rfl⟩
      go_wp2_with fail
      refine (byLength_any a len cap xs w h (by omega)).mono ?_
      rintro e w1 h1
      obtain ⟨a3, l3, c3, rfl, h3, hc3, hb1⟩ := h1.ints
      have hl3 : l3 = len := by have := h3.lenEq; rw [srtI_len] at this; omega
      subst hl3
      have HF := Lib.hid (fit_any a a3 l3 cap c3 xs (srtI (ahL xs) l3) R (sortE (ahL xs) l3) w1 ((h.below hb1).to (fun b hb => ⟨Nat.lt_of_lt_of_le hb hb1.size, rfl⟩)) (h3.to (fun b hb => ⟨hb.2, rfl⟩)) hv (sortE_perm _ _) (fun j hj => srtI_getD _ _ j hj))
      have HB1 := Lib.hid hb1
      clear h3 hb1 h1
      go_wp2_with fail
      refine HF.out.mono ?_
      rintro e w2 h2
      obtain ⟨a4, l4, c4, rfl, h4, hc4, hb2⟩ := h2.ints
      have H4 := Lib.hid h4
      have HB2 := Lib.hid (HB1.out.trans (hb2.mono HB1.out.size))
      clear h4 hb2 h2
      go_wp2_with fail
      go_ret
      exact ⟨a4, l4, c4, rfl, H4.out.to (fun b hb => ⟨⟨Nat.le_trans HB1.out.size hb.1, hb.2⟩, rfl⟩), hc4, HB2.out⟩
end Go.Proofs.Ythmifadnfaajbac
namespace Go.Proofs.Ythmifadnfaajbac
open Go.RowKit Go.WideShapes

-- chapter 11's code: ValidCuts, LeastRolls
theorem fromOne11 (n hi : Int) (w : World) {b : Bool} (hb : inB 1 hi n = b) :
    Calls Try.prog 46 #[.int .i64 n, .int .i64 hi] w fun e w' => e = .returned (.bool b) ∧ w' = w := by
  subst hb
  by_cases h1 : 1 ≤ n
  · by_cases h2 : n ≤ hi
    · go_enter Try.func46, Try.ntmps46
      go_wp2
      go_ret
      exact ⟨ret_bool (inB_true h1 h2).symm, rfl⟩
    · go_enter Try.func46, Try.ntmps46
      go_wp2
      go_ret
      exact ⟨ret_bool (inB_hi (by omega)).symm, rfl⟩
  · go_enter Try.func46, Try.ntmps46
    go_wp2
    go_ret
    exact ⟨ret_bool (inB_lo (by omega)).symm, rfl⟩
set_option maxRecDepth 100000 in
set_option maxHeartbeats 2000000 in
theorem vCuts_impl (S : Nat → Prop) (a : Option Addr) (len cap : Nat) (xs : List Int) (R : Int) (w : World) (h : IntsAt w S a len xs) :
    Calls Try.prog 29 #[.slice a len cap, .int .i64 R] w fun e w' => e = .returned (.bool (cutsM xs R)) ∧ w' = w := by
  have hs := h.small
  have HL := Lib.hid h.lenEq
  by_cases h7 : (len : Int) > 7
  · have HF := Lib.hid (show cutsM xs R = false by unfold cutsM; rw [HL.out, decide_eq_false (by omega)]; simp)
    go_enter Try.func29, Try.ntmps29
    go_wp2_with fail
    go_ret
    exact ⟨ret_bool HF.out.symm, rfl⟩
  · cases hR : inB 1 20 R
    · have HF := Lib.hid (show cutsM xs R = false by unfold cutsM; rw [hR]; simp)
      go_enter Try.func29, Try.ntmps29
      go_wp2_with (go_at_call 46; refine (fromOne11 _ _ _ hR).mono ?_; rintro e w' ⟨rfl, rfl⟩)
      go_ret
      exact ⟨ret_bool HF.out.symm, rfl⟩
    · have HC := Lib.hid (show cutsM xs R = allIn 1 R xs by unfold cutsM; rw [hR, HL.out, decide_eq_true (by omega)]; simp)
      go_enter Try.func29, Try.ntmps29
      go_wp2_with (go_at_call 46; refine (fromOne11 _ _ _ hR).mono ?_; rintro e w' ⟨rfl, rfl⟩)
      clear hR
      go_loop [17] (fun i => ∃ k : Nat, k ≤ len ∧ i = .int .i64 k ∧ allIn 1 R (xs.take k) = true) (fun i => len - (intOf i).toNat)
      case atStart => exact ⟨0, Nat.zero_le _, rfl, rfl⟩
      case round =>
        obtain ⟨k, hk, rfl, ha⟩ := hrel
        have HA := Lib.hid ha
        clear ha
        by_cases hlt : k < len
        · have hkI : (k : Int) < (len : Int) := by omega
          obtain ⟨b, off, x, rfl, hx, hc⟩ := h.get hlt
          have HX := Lib.hid hx
          clear hx
          cases hq : inB 1 R x
          · have HF := Lib.hid (show cutsM xs R = false by rw [HC.out, allIn_false HX.out hq])
            go_wp2_with (go_at_call 46; refine (fromOne11 _ _ _ hq).mono ?_; rintro e w' ⟨rfl, rfl⟩)
            go_ret
            exact ⟨ret_bool HF.out.symm, rfl⟩
          · go_wp2_with (go_at_call 46; refine (fromOne11 _ _ _ hq).mono ?_; rintro e w' ⟨rfl, rfl⟩)
            go_round
            case rel => exact ⟨k + 1, by omega, by go_num, allIn_step HX.out HA.out hq⟩
            case measure => simp [intOf]; omega
        · obtain rfl : k = len := by omega
          have hkI : ¬ (k : Int) < (k : Int) := by omega
          have ha := HA.out
          rw [List.take_of_length_le (by rw [HL.out]; omega)] at ha
          have HT := Lib.hid (show cutsM xs R = true by rw [HC.out, ha])
          clear ha
          go_wp2_with fail
          go_ret
          exact ⟨ret_bool HT.out.symm, rfl⟩
theorem vcutsI {S : Nat → Prop} {a : Option Addr} {len cap : Nat} {xs : List Int} {R : Int} {b : Bool} (hb : cutsM xs R = b) (w : World) (h : IntsAt w S a len xs) : Calls Try.prog 29 #[.slice a len cap, .int .i64 R] w fun e w' => e = .returned (.bool b) ∧ w' = w := by
  subst hb; exact vCuts_impl S a len cap xs R w h
/-- the cuts longer than half of a roll, and what the others need beside the room that these leave -/
def ownN (T : Nat → Int) (R : Int) (n : Nat) : Nat := card (fun i => decide (R < 2 * T i)) n
theorem own_add {T : Nat → Int} {R x : Int} (hx : 2 * x ≤ R) : ∀ n, longN T R x n + midN T R x n = ownN T R n
  | 0 => rfl
  | n + 1 => by
    have ih := own_add (T := T) hx n
    unfold longN midN ownN at ih ⊢
    rw [card, card, card]
    by_cases g1 : R - x < T n
    · rw [decide_eq_true g1, decide_eq_true (show R < 2 * T n by omega)]; simp; omega
    · rw [decide_eq_false g1]
      by_cases g2 : R < 2 * T n
      · rw [decide_eq_true g2]; simp; omega
      · rw [decide_eq_false g2]; simp; omega
def overN (T : Nat → Int) (R x : Int) (n : Nat) : Int := smallN T R x n - roomN T R x n
theorem ownN_step (T : Nat → Int) (R : Int) (n : Nat) : ownN T R (n + 1) = ownN T R n + if decide (R < 2 * T n) then 1 else 0 := rfl
theorem over_step (T : Nat → Int) (R x : Int) (n : Nat) : overN T R x (n + 1) = overN T R x n + (if R - x < T n then 0 else if R < 2 * T n then T n - R else if x ≤ T n then T n else 0) := by
  unfold overN smallN roomN
  rw [wsum, wsum]
  by_cases g1 : R - x < T n
  · rw [decide_eq_true g1, if_pos g1]; simp
  · rw [decide_eq_false g1, if_neg g1]
    by_cases g2 : R < 2 * T n
    · rw [decide_eq_true g2, if_pos g2]; simp; omega
    · rw [decide_eq_false g2, if_neg g2]
      by_cases g3 : x ≤ T n
      · rw [decide_eq_true g3, if_pos g3]; simp; omega
      · rw [decide_eq_false g3, if_neg g3]; simp
theorem own_le (T : Nat → Int) (R : Int) : ∀ n, ownN T R n ≤ n
  | 0 => Nat.le_refl _
  | n + 1 => by have := own_le T R n; rw [ownN_step]; split <;> omega
theorem leastX_own {T : Nat → Int} {R x : Int} (hR : 1 ≤ R) (hx : 2 * x ≤ R) (n : Nat) : leastX T R x n = ownN T R n + ((if 0 < overN T R x n then overN T R x n else 0) + R - 1) / R := by
  have h1 : leastX T R x n = longN T R x n + midN T R x n + (max (overN T R x n + R - 1) 0) / R := rfl
  rw [h1, ← own_add hx n]
  obtain ⟨D, hD⟩ : ∃ D, overN T R x n = D := ⟨_, rfl⟩
  rw [hD]
  by_cases g : 0 < D
  · rw [if_pos g, Int.max_eq_left (by omega)]; push_cast; omega
  · rw [if_neg g]
    have a : (0 + R - 1) / R = 0 := Int.ediv_eq_zero_of_lt (by omega) (by omega)
    have b : max (D + R - 1) 0 / R = 0 := Int.ediv_eq_zero_of_lt (by omega) (by omega)
    rw [a, b]; push_cast; omega
end Go.Proofs.Ythmifadnfaajbac
