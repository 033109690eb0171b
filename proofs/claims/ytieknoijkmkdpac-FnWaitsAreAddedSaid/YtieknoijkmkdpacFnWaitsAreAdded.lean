/- The law FnWaitsAreAdded returns true at every code, and the code reads behind the call as it read before. No condition. -/
import Derived.Test.YtieknoijkmkdpacRows
import Derived.WalkKit
import Derived.LoopTactic
import Derived.Outline
import Derived.WalkSpells
import Derived.WalkLawsBesides
import Derived.ProofKit
import Derived.Test.YtieknoijkmkdpacLib
import Derived.Test.YtieknoijkmkdpacRd
import Derived.Test.YtieknoijkmkdpacLaws
import Derived.Test.YtieknoijkmkdpacNetM
import Derived.Test.YtieknoijkmkdpacVal2
import Derived.Test.YtieknoijkmkdpacDrawDN
import Derived.Test.YtieknoijkmkdpacLots
import Derived.Test.YtieknoijkmkdpacBegins
import Derived.Test.YtieknoijkmkdpacEx
namespace Go.Proofs.Ytieknoijkmkdpac
open Go.RowKit Go.WideShapes

theorem begRes_nonempty {ms : List Int} {d : Int} (h : 0 < (begRes ms d).length) : validMadeM ms = true ∧ 0 ≤ d ∧ d ≤ 8 := by
  unfold begRes at h
  split at h
  · rename_i h'
    simp only [Bool.and_eq_true] at h'
    have h2 : 0 ≤ d ∧ d ≤ 8 := by simpa [inB] using h'.2
    exact ⟨h'.1, h2.1, h2.2⟩
  · simp at h
theorem sumN_days {ms : List Int} (hv : validMadeM ms = true) (hd : DaysOk ms) : ∀ k, sumN ms k ≤ 21 + 12 * (k : Int) ∧ 0 ≤ sumN ms k := by
  intro k
  induction k with
  | zero => simp [sumN]
  | succ k ih =>
    have h1 := hd.2.2 k
    have h2 := validMade_at hv k
    rw [sumN]
    cases k with
    | zero =>
      have e : sumN ms 0 = 0 := rfl
      rw [if_pos rfl] at h1
      rw [e]; push_cast; omega
    | succ k => rw [if_neg (by omega)] at h1; push_cast at *; omega
theorem begM_valid {ms : List Int} (hv : validMadeM ms = true) (hd : DaysOk ms) (n : Nat) : validMadeM (begM ms n) = true := by
  have hl8 := validMade_len hv
  refine validMade_mk (by rw [begM_length]; exact hl8) (fun k hk => ?_)
  rw [begM_length] at hk
  rw [begM, tab_getD _ hk, begAt]
  split
  · have := sumN_days hv hd (min (n + 1) ms.length); omega
  · have := validMade_at hv (k + n); omega

set_option maxRecDepth 100000 in
set_option maxHeartbeats 2000000 in
theorem fnWaitsAreAdded_any (a : Option Addr) (len cap : Nat) (w : World) (hb : BytesAt w w.heap.size a len) (hl : len ≤ cap) (hs : len ≤ 9223372036854775807) :
    Calls Try.prog 6 #[.slice a len cap] w (LawPost w) := by
  by_cases h20 : len ≤ 1048576
  · go_enter Try.func6, Try.ntmps6
    go_wp2_with fail
    refine (drawBeginsOf_any a len cap w hb hl hs).mono ?_
    rintro e w1 ⟨a1, l1, c1, xs, s, rfl, hx1, hlc, hl9, hdays, hsl, hsu, hB1⟩
    clear hb
    go_wp2_with fail
    refine (begins_impl a1 l1 c1 xs s w1 hx1 hlc).mono ?_
    rintro e w2 ⟨a2, l2, c2, rfl, g2, _, hb2⟩
    have hx2 := ints_lift hx1 hb2
    have hB2 : Below w.heap.size w w2 := hB1.trans (hb2.mono hB1.size)
    go_wp2_with fail
    refine (begins_spec a1 l1 c1 xs s w2 hx2).mono ?_
    rintro e w3 ⟨a3, l3, c3, rfl, m3, _, hb3⟩
    have hx3 := ints_lift hx2 hb3
    have g3 := ints_lift (g2.to (S' := (· < w2.heap.size)) (w' := w2) (fun b hb => ⟨hb.2, rfl⟩)) hb3
    have hB3 : Below w.heap.size w w3 := hB2.trans (hb3.mono hB2.size)
    have heq : eqB (begRes xs s) (begRes xs s) = true := decide_eq_true rfl
    go_wp2_with fail
    refine (equalInts_any _ _ _ _ _ _ _ _ _ _ _ g3 m3).mono ?_
    rintro e w4 ⟨rfl, d4⟩
    have hx4 := ints_lift hx3 (d4.below _)
    have hB4 := hB3.trans (d4.below w.heap.size)
    go_wp2_with fail
    refine (begins_implC a1 l1 c1 xs s w4 hx4 hlc).mono ?_
    rintro e w5 ⟨a5, l5, c5, rfl, g5, _, hc5, hb5⟩
    have hx5 := ints_lift hx4 hb5
    have f5 := g5.to (S' := (· < w5.heap.size)) (w' := w5) (fun b hb => ⟨hb.2, rfl⟩)
    have hB5 : Below w.heap.size w w5 := hB4.trans (hb5.mono hB4.size)
    by_cases hl0 : l5 = 0
    · subst hl0
      go_wp2_with fail
      go_ret
      exact ⟨rfl, hB5⟩
    · have hl0e : ((l5 : Int) == 0) = false := by simp; omega
      obtain ⟨hv, hs0, hs1⟩ := begRes_nonempty (ms := xs) (d := s) (by rw [f5.lenEq]; omega)
      obtain ⟨n, rfl⟩ : ∃ n : Nat, s = (n : Int) := ⟨s.toNat, by omega⟩
      have hres := begRes_yes (ms := xs) (d := n) (by rw [hv, inB_true hs0 hs1]; rfl)
      rw [hres] at f5
      have HV := Lib.hid hv
      have HNV := Lib.hid (begM_valid hv hdays n)
      clear hres hv g5 g3 g2 m3
      go_wp2_with fail
      go_loopw [6] (fun i wr => ∃ m : Nat, i = .int .i64 m ∧ m ≤ 10 ∧ IntsAt wr (· < wr.heap.size) a1 l1 xs ∧ IntsAt wr (· < wr.heap.size) a5 l5 (begM xs n) ∧ Below w.heap.size w wr) (fun i _ => 10 - (intOf i).toNat)
      case atStart => exact ⟨0, rfl, by omega, hx5, f5, hB5⟩
      case round =>
        obtain ⟨m, rfl, hm, hx6, f6, hB6⟩ := hrel
        by_cases hgo : (m : Int) + (n : Int) ≤ 8
        · obtain ⟨wo, rfl⟩ : ∃ wo : World, wo = wr := ⟨_, rfl⟩
          go_wp2_with fail
          refine (begins_impl a5 l5 c5 (begM xs n) m wo f6 hc5).mono ?_
          rintro e w7 ⟨a7, l7, c7, rfl, g7, _, hb7⟩
          rw [begRes_yes (by rw [HNV.out, inB_true (by omega) (by omega)]; rfl), begM_steps] at g7
          have hx7 := ints_lift hx6 hb7
          have f7 := ints_lift f6 hb7
          have hB7 : Below w.heap.size w w7 := hB6.trans (hb7.mono hB6.size)
          go_wp2_with fail
          refine (begins_impl a1 l1 c1 xs ((n : Int) + (m : Int)) w7 hx7 hlc).mono ?_
          rintro e w8 ⟨a8, l8, c8, rfl, g8, _, hb8⟩
          rw [show (n : Int) + (m : Int) = ((n + m : Nat) : Int) by omega, begRes_yes (by rw [HV.out, inB_true (by omega) (by omega)]; rfl)] at g8
          have hx8 := ints_lift hx7 hb8
          have f8 := ints_lift f7 hb8
          have g7' := ints_lift (ints_in g7 (Nat.le_refl _)) hb8
          have hB8 : Below w.heap.size w w8 := hB7.trans (hb8.mono hB7.size)
          have heq2 : eqB (begM xs (n + m)) (begM xs (n + m)) = true := decide_eq_true rfl
          go_wp2_with fail
          refine (equalInts_any _ _ _ _ _ _ _ _ _ _ _ g7' g8).mono ?_
          rintro e w9 ⟨rfl, d9⟩
          have hx9 := ints_lift hx8 (d9.below _)
          have f9 := ints_lift f8 (d9.below _)
          have hB9 := hB8.trans (d9.below w.heap.size)
          go_wp2_with fail
          go_roundw
          case rel => exact ⟨m + 2, by go_num, by omega, hx9, f9, hB9⟩
          case measure => simp [intOf]; omega
        · go_wp2_with fail
          go_ret
          exact ⟨rfl, hB6⟩
  · go_enter Try.func6, Try.ntmps6
    go_wp2
    go_ret
    exact ⟨rfl, Below.refl _ _⟩
end Go.Proofs.Ytieknoijkmkdpac
