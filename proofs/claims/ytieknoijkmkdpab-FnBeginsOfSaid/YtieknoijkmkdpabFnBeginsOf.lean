/- The law FnBeginsOf returns true at every code, and the code reads behind the call as it read before. No condition. -/
import Derived.Test.YtieknoijkmkdpabRows
import Derived.WalkKit
import Derived.LoopTactic
import Derived.Outline
import Derived.WalkSpells
import Derived.WalkLawsBesides
import Derived.ProofKit
import Derived.Deep.QuietTactic
import Derived.BigQuiet
import Derived.IntWalk
import Derived.Test.YtieknoijkmkdpabLib
import Derived.Test.YtieknoijkmkdpabRd
import Derived.Test.YtieknoijkmkdpabLaws
import Derived.Test.YtieknoijkmkdpabNetM
import Derived.Test.YtieknoijkmkdpabVal2
import Derived.Test.YtieknoijkmkdpabDrawDN
import Derived.Test.YtieknoijkmkdpabLots
import Derived.Test.YtieknoijkmkdpabBegins
import Derived.Test.YtieknoijkmkdpabEx
namespace Go.Proofs.Ytieknoijkmkdpab
open Go.RowKit Go.WideShapes

theorem begRes_nonempty2 {ms : List Int} {d : Int} (h : 0 < (begRes ms d).length) : validMadeM ms = true ∧ 0 ≤ d ∧ d ≤ 8 := by
  unfold begRes at h
  split at h
  · rename_i h'
    simp only [Bool.and_eq_true] at h'
    have h2 : 0 ≤ d ∧ d ≤ 8 := by simpa [inB] using h'.2
    exact ⟨h'.1, h2.1, h2.2⟩
  · simp at h
theorem mem_bd2 {xs : List Int} {B : Int} (hB0 : 0 ≤ B) (h : ∀ k, 0 ≤ xs.getD k 0 ∧ xs.getD k 0 ≤ B) (hB : B ≤ 1099511627776) : ∀ x ∈ xs, -1099511627776 ≤ x ∧ x ≤ 1099511627776 := by
  intro x hx
  obtain ⟨k, hk, rfl⟩ := List.mem_iff_getElem.1 hx
  have := h k
  rw [List.getD_eq_getElem?_getD, List.getElem?_eq_getElem hk] at this
  simp at this
  omega
theorem IntsAt.cut {w : World} {S : Nat → Prop} {a : Option Addr} {len : Nat} {xs : List Int} (h : IntsAt w S a len xs) (k : Nat) (hk : k ≤ len) : IntsAt w S a k (xs.take k) := by
  have hl := h.lenEq
  have hs := h.small
  refine ⟨by simp; omega, by omega, fun h0 => ?_⟩
  obtain ⟨b, off, ha, hs, hc⟩ := h.cells (by omega)
  refine ⟨b, off, ha, hs, fun i r hr => hc i r ?_⟩
  rw [List.getElem?_take] at hr
  split at hr
  · exact hr
  · cases hr
theorem begM_bd {ms : List Int} (hv : validMadeM ms = true) (n k : Nat) : 0 ≤ (begM ms n).getD k 0 ∧ (begM ms n).getD k 0 ≤ 1280 := by
  have hl8 := validMade_len hv
  rcases Nat.lt_or_ge k ms.length with hk | hk
  · rw [begM, tab_getD _ hk, begAt]
    split
    · have := sumN_bd (validMade_at hv) (min (n + 1) ms.length); omega
    · have := validMade_at hv (k + n); omega
  · rw [getD_past (by rw [begM_length]; exact hk)]; omega

set_option maxRecDepth 100000 in
set_option maxHeartbeats 20000000 in
theorem fnBeginsOf_any (a : Option Addr) (len cap : Nat) (w : World) (hb : BytesAt w w.heap.size a len) (hl : len ≤ cap) (hs : len ≤ 9223372036854775807) :
    Calls Try.prog 5 #[.slice a len cap] w (LawPost w) := by
  by_cases h20 : len ≤ 1048576
  · go_enter Try.func5, Try.ntmps5
    go_wp2_with fail
    refine (drawBeginsOf_any a len cap w hb hl hs).mono ?_
    rintro e w1 ⟨a1, l1, c1, xs, s, rfl, hx1, hlc, hl9, hdays, hsl, hsu, hB1⟩
    clear hb
    go_wp2_with fail
    refine (begins_implC a1 l1 c1 xs s w1 hx1 hlc).mono ?_
    rintro e w2 ⟨a2, l2, c2, rfl, g2, _, hc2, hb2⟩
    have hx2 := ints_lift hx1 hb2
    have hB2 : Below w.heap.size w w2 := hB1.trans (hb2.mono hB1.size)
    go_wp2_with fail
    refine (begins_spec a1 l1 c1 xs s w2 hx2).mono ?_
    rintro e w3 ⟨a3, l3, c3, rfl, m3, _, hb3⟩
    have hx3 := ints_lift hx2 hb3
    have g3 := ints_lift (ints_in g2 (Nat.le_refl _)) hb3
    have hB3 : Below w.heap.size w w3 := hB2.trans (hb3.mono hB2.size)
    have heq : eqB (begRes xs s) (begRes xs s) = true := decide_eq_true rfl
    go_wp2_with fail
    refine (equalInts_any _ _ _ _ _ _ _ _ _ _ _ g3 m3).mono ?_
    rintro e w4 ⟨rfl, d4⟩
    have hx4 := ints_lift hx3 (d4.below _)
    have g4 := ints_lift g3 (d4.below _)
    have hB4 := hB3.trans (d4.below w.heap.size)
    by_cases hl0 : l2 = 0
    · subst hl0
      go_wp2_with fail
      refine (begins_spec a1 l1 c1 xs s w4 hx4).mono ?_
      rintro e w5 ⟨a5, l5, c5, rfl, m5, _, hb5⟩
      have g5 := ints_lift g4 hb5
      have hB5 : Below w.heap.size w w5 := hB4.trans (hb5.mono hB4.size)
      go_wp2_with fail
      refine (equalInts_any _ _ _ _ _ _ _ _ _ _ _ g5 m5).mono ?_
      rintro e w6 ⟨rfl, d6⟩
      go_wp2_with fail
      go_ret
      exact ⟨rfl, hB5.trans (d6.below _)⟩
    · have hl0e : ((l2 : Int) == 0) = false := by simp; omega
      obtain ⟨hv, hs0, hs1⟩ := begRes_nonempty2 (ms := xs) (d := s) (by rw [g4.lenEq]; omega)
      obtain ⟨n, rfl⟩ : ∃ n : Nat, s = (n : Int) := ⟨s.toNat, by omega⟩
      rw [begRes_yes (by rw [hv, inB_true hs0 hs1]; rfl)] at g4
      have hlen := hx4.lenEq
      obtain rfl : l2 = l1 := by rw [← g4.lenEq, begM_length, hlen]
      have hl8 : l2 ≤ 8 := by have := validMade_len hv; omega
      have HMX := Lib.hid (mem_bd2 (by omega) (validMade_at hv) (by omega))
      have HML := Lib.hid (mem_bd2 (by omega) (begM_bd hv n) (by omega))
      have HLX := Lib.hid hlen
      have HLB := Lib.hid g4.lenEq
      have HPRE := Lib.hid (show ∀ k, k < l2 → totalM ((begM xs n).take (k + 1)) = totalM (xs.take (min (k + n + 1) l2)) from fun k hk => by
        rw [totalM_take _ _ (by rw [begM_length]; omega), totalM_take _ _ (by omega), sumN_beg xs n k (by omega), hlen])
      have HALL := Lib.hid (show totalM (begM xs n) = totalM xs by
        rw [totalM_eq, totalM_eq, begM_length, hlen]
        have := sumN_beg xs n (l2 - 1) (by omega)
        rw [show l2 - 1 + 1 = l2 by omega, show min (l2 - 1 + n + 1) xs.length = l2 by omega] at this
        exact this)
      clear hv hlen g2 g3 m3 hx1 hx2 hx3 hB1 hB2 hB3 d4 hb2 hb3 hdays
      go_wp2_with fail
      clear heq
      go_loopw [6] (fun i wr => ∃ k : Nat, k ≤ l2 ∧ i = .int .i64 k ∧ Drew w4 wr) (fun i _ => l2 - (intOf i).toNat)
      case atStart => exact ⟨0, Nat.zero_le _, rfl, Drew.refl _⟩
      case round =>
        obtain ⟨k, hk, rfl, hdw⟩ := hrel
        by_cases hlt : k < l2
        · obtain ⟨q, hq⟩ : ∃ q, q = min (k + n + 1) l2 := ⟨_, rfl⟩
          have hpre := HPRE.out k hlt
          rw [← hq] at hpre
          generalize hT1 : totalM ((begM xs n).take (k + 1)) = T1 at hpre
          generalize hT2 : totalM (xs.take q) = T2 at hpre
          have HT1 := Lib.hid hT1
          have HT2 := Lib.hid hT2
          clear hT1 hT2
          subst hpre
          have HC2 := Lib.hid (show ∀ z, Calls Try.prog 12 #[.slice a2 (k + 1) c2] (wr.drewN z) (fun e w' => e = .returned (.int .i64 T1) ∧ ∃ q, w' = (wr.drewN z).drewN q) from fun z => by
            rw [← HT1.out]
            exact (total_any _ a2 (k + 1) c2 _ _ (Drew.ints ((Drew.ints g4 hdw).cut (k + 1) (by omega)) ⟨z, rfl⟩) (fun x hx => HML.out x (List.mem_of_mem_take hx)) (by omega)).mono (fun e w' he => ⟨he.1, 0, by rw [← he.2]; rfl⟩))
          have HC3 := Lib.hid (show ∀ z, Calls Try.prog 12 #[.slice a1 q c1] (wr.drewN z) (fun e w' => e = .returned (.int .i64 T1) ∧ ∃ q, w' = (wr.drewN z).drewN q) from fun z => by
            rw [← HT2.out]
            exact (total_any _ a1 q c1 _ _ (Drew.ints ((Drew.ints hx4 hdw).cut q (by omega)) ⟨z, rfl⟩) (fun x hx => HMX.out x (List.mem_of_mem_take hx)) (by omega)).mono (fun e w' he => ⟨he.1, 0, by rw [← he.2]; rfl⟩))
          have hkc : k + 1 ≤ c2 := by omega
          have hqc : q ≤ c1 := by omega
          have hw1 : IntKind.i64.wrap ((k : Int) + 1) = (k : Int) + 1 := IntWalk.i64_in _ (by omega)
          have hw2 : IntKind.i64.wrap ((k : Int) + (n : Int)) = (k : Int) + (n : Int) := IntWalk.i64_in _ (by omega)
          have hw3 : IntKind.i64.wrap ((k : Int) + (n : Int) + 1) = (k : Int) + (n : Int) + 1 := IntWalk.i64_in _ (by omega)
          have hkl : (k : Int) < (l2 : Int) := by omega
          have HQ := Lib.hid hq
          by_cases hmin : k + n + 1 ≤ l2
          · obtain rfl : q = k + n + 1 := by omega
            have hmi : (k : Int) + (n : Int) + 1 ≤ (l2 : Int) := by omega
            clear hq
            go_wp2_with fail
            go_quiet ((go_at_call 12; first | (with_reducible exact Calls.quiet_of (HC2.out _)) | (with_reducible exact Calls.quiet_of (HC3.out _))))
            go_wp2_with fail
            go_roundw
            case rel => exact ⟨k + 1, by omega, by go_num, hdw.drew _⟩
            case measure => simp [intOf]; omega
          · obtain rfl : q = l2 := by omega
            have hmi : ¬ (k : Int) + (n : Int) + 1 ≤ (q : Int) := by omega
            clear hq
            go_wp2_with fail
            go_quiet ((go_at_call 12; first | (with_reducible exact Calls.quiet_of (HC2.out _)) | (with_reducible exact Calls.quiet_of (HC3.out _))))
            go_wp2_with fail
            go_roundw
            case rel => exact ⟨k + 1, by omega, by go_num, hdw.drew _⟩
            case measure => simp [intOf]; omega
        · go_wp2_with fail
          refine (total_any _ a2 l2 c2 (begM xs n) wr (Drew.ints g4 hdw) HML.out (by omega)).mono ?_
          rintro e w6 ⟨rfl, rfl⟩
          rw [HALL.out]
          go_wp2_with fail
          refine (total_any _ a1 l2 c1 xs wr (Drew.ints hx4 hdw) HMX.out (by omega)).mono ?_
          rintro e w6 ⟨rfl, rfl⟩
          go_wp2_with fail
          go_ret
          exact ⟨rfl, hB4.trans (hdw.below _)⟩
  · go_enter Try.func5, Try.ntmps5
    go_wp2
    go_ret
    exact ⟨rfl, Below.refl _ _⟩
end Go.Proofs.Ytieknoijkmkdpab
