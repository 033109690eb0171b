import Derived.Test.YtkjmpkincaainacRows
import Derived.WalkKit
import Derived.LoopTactic
import Derived.Outline
import Derived.WalkSpells
import Derived.WalkLawsBesides
import Derived.ProofKit
import Derived.Test.YtkjmpkincaainacM0
import Derived.Test.YtkjmpkincaainacM2
import Derived.Test.YtkjmpkincaainacM3
import Derived.Test.YtkjmpkincaainacM4
namespace Go.Proofs.Ytkjmpkincaainac
open Go.RowKit Go.WideShapes

def ChPost (w : World) (R p : Nat) (e : Ending) (w' : World) : Prop := ∃ (a : Option Addr) (len cap : Nat) (xs : List Int) (p' : Nat), e = .returned (.slice a len cap) ∧
  w'.ownsRow w.heap.size 3 1 (.slice a len cap) len (xs.map (.int .i64)) ∧ len ≤ cap ∧ len ≤ 8 ∧ Rd w' R p' ∧ p' ≤ p + 100 ∧ w.grownBy w' (some R)
theorem ChPost.mk {w w' : World} {R p p' : Nat} {a : Option Addr} {len cap : Nat} {xs : List Int} (h : w'.ownsRow w.heap.size 3 1 (.slice a len cap) len (xs.map (.int .i64))) (hl : len ≤ 8) (hr : Rd w' R p') (hp : p' ≤ p + 100) (hg : w.grownBy w' (some R)) :
    ChPost w R p (.returned (.slice a len cap)) w' := by
  obtain ⟨a', cap', e, hc⟩ := own_slice h
  simp only [Value.slice.injEq] at e
  obtain ⟨rfl, _, rfl⟩ := e
  exact ⟨_, _, _, xs, p', rfl, h, hc, hl, hr, hp, hg⟩
theorem ch_n {n : Int} (h : n ∈ [4, 5, 3, 7, 2, 1, 0, 8]) : ∃ m : Nat, n = (m : Int) ∧ m ≤ 8 := by simp at h; exact ⟨n.toNat, by omega, by omega⟩
theorem ch_hi {n : Int} (h : n ∈ [4, 9, 1]) : 1 ≤ n ∧ n ≤ 9 := by simp at h; omega
/-- behind the list, made whole: the last choice -/
theorem own_up {w1 w2 w' : World} {a : Option Addr} {n c : Nat} {xs : List Int} {B B' : Nat} (h : w'.ownsRow B 3 1 (.slice a n c) n (xs.map (.int .i64))) (hB : B' ≤ B) : w'.ownsRow B' 3 1 (.slice a n c) n (xs.map (.int .i64)) := own_base h hB
set_option maxRecDepth 100000 in
set_option maxHeartbeats 4000000 in
theorem someChances_any (R p : Nat) (w : World) (h : Rd w R p) (hp : p ≤ 900000) :
    Calls Try.prog 29 #[.pointer (some ⟨R, 0, none⟩)] w (ChPost w R p) := by
  have hR := h.lt
  go_enter Try.func29, Try.ntmps29
  go_wp2_with fail
  refine (one_any (fun k => k = w.heap.size) R p _ 8 8 [4, 5, 3, 7, 2, 1, 0, 8] _ (h.alloc _) (IntsAt.lit rfl rfl rfl (by omega)) (by intro b hb; simp; omega) (by omega) (by omega)).mono ?_
  rintro e w1 ⟨n, hn, rfl, hr1, hg1⟩
  obtain ⟨n, rfl, hn8⟩ := ch_n hn
  clear hn
  have gw1 : w.grownBy w1 (some R) := grown_r (World.grownBy_alloc _ _ _) hg1
  go_wp2_with fail
  refine (one_any (fun k => k = w1.heap.size) R (p + 1) _ 3 3 [4, 9, 1] _ (hr1.alloc _) (IntsAt.lit rfl rfl rfl (by omega)) (by intro b hb; have := hr1.lt; simp; omega) (by omega) (by omega)).mono ?_
  rintro e w2 ⟨hi, hhi, rfl, hr2, hg2⟩
  obtain ⟨hi1, hi9⟩ := ch_hi hhi
  clear hhi
  have gw2 := grown_r gw1 (grown_r (World.grownBy_alloc _ _ _) hg2)
  go_wp2_with fail
  refine (listOf_any R (p + 1 + 1) n 0 hi w2 hr2 (by omega) (by omega) (by omega) (by omega) (by omega)).mono ?_
  rintro e w3 ⟨a5, c5, xs, rfl, ho5, hc5, hl5, hall, hr3, hg3⟩
  have gw3 := grown_r gw2 hg3
  have ho := own_base ho5 gw2.size
  have HO := Lib.hid ho
  have HL := Lib.hid (fun w' (hx : IntsAt w' (· < w'.heap.size) a5 n xs) => specSum_any (· < w'.heap.size) a5 n c5 xs w' hx (fun y hy => by have := hall y hy; omega) (by omega))
  have HLOW := Lib.hid (own_low ho5 (by omega))
  have HR3 := Lib.hid hr3
  have HG3 := Lib.hid gw3
  clear ho5 ho hall hr1 hr2 hr3 hg1 hg2 hg3 gw1 gw2 gw3 h
  obtain ⟨T, hT⟩ : ∃ T, totalM xs = T := ⟨_, rfl⟩
  rw [hT] at HL
  clear hT
  by_cases h0 : 0 < n
  · go_wp2_with fail
    refine (HL.out w3 HLOW.out).mono ?_
    rintro e w4 ⟨rfl, rfl⟩
    by_cases hT0 : T = 0
    · subst hT0
      go_wp2_with fail
      refine (pick_any R (p + 1 + 1 + n) (n : Int) w3 HR3.out (by omega)).mono ?_
      rintro e w5 ⟨q, rfl, hq, hr5, hg5⟩
      have HO5 := Lib.hid (HO.out.kept hg5 (ne_low HO.out hR))
      have gw5 := grown_r HG3.out hg5
      have hqn : q < n := by omega
      obtain ⟨g, v0, rfl, hgB, hc0, hf0⟩ := own_place HO5.out (j := q) hqn
      obtain ⟨h7, g7⟩ := HO5.out.stored q (.int .i64 1)
      have hr7 := hr5.grown g7 (by intro b hb; injection hb; omega)
      have hg7 := grown_trans gw5 g7 (by intro b hb; injection hb; omega)
      have ho7 : World.ownsRow (w5.setCell ⟨g, q, none⟩ (.int .i64 1)) w.heap.size 3 1 (.slice (some ⟨g, 0, none⟩) n c5) n ((xs.set q 1).map (.int .i64)) := by rw [List.map_set]; simpa using h7
      have hr7' : Rd (w5.setCell ⟨g, q, none⟩ (.int .i64 1)) R (p + 1 + 1 + n + 1) := by simpa using hr7
      have hg7' : w.grownBy (w5.setCell ⟨g, q, none⟩ (.int .i64 1)) (some R) := by simpa using hg7
      obtain ⟨w6, hw6⟩ : ∃ w6, w5.setCell ⟨g, q, none⟩ (.int .i64 1) = w6 := ⟨_, rfl⟩
      rw [hw6] at ho7 hr7' hg7'
      have HO7 := Lib.hid ho7
      have HR7 := Lib.hid hr7'
      have HG7 := Lib.hid hg7'
      have HW6 := Lib.hid hw6
      clear h7 g7 hg5 gw5 hr5 hr7 hg7 hr7' hg7' ho7 hw6 HO HO5
      go_wp2_with fail
      rw [HW6.out]
      go_wp2_with fail
      refine (pick_any R (p + 1 + 1 + n + 1) 30 w6 HR7.out (by omega)).mono ?_
      rintro e w8 ⟨q8, rfl, hq8, hr8, hg8⟩
      have HO8 := Lib.hid (HO7.out.kept hg8 (ne_low HO7.out hR))
      have hg9 := grown_r HG7.out hg8
      by_cases hq80 : q8 = 0
      · subst hq80
        go_wp2_with fail
        refine (one_any (fun b => b = w8.heap.size) R (p + 1 + 1 + n + 1 + 1) _ 2 2 [-1, 10] _ (hr8.alloc _) (IntsAt.lit rfl rfl rfl (by omega)) (by intro b hb; have := hr8.lt; simp; omega) (by omega) (by omega)).mono ?_
        rintro e w9 ⟨x, _, rfl, hr9, hg9b⟩
        have hgw : w8.grownBy w9 (some R) := grown_r (World.grownBy_alloc _ _ _) hg9b
        have HO9 := Lib.hid (HO8.out.kept hgw (ne_low HO8.out hR))
        have hg10 := grown_r hg9 hgw
        obtain ⟨g2, v0, e0, hgB, hc0, hf0⟩ := own_place HO9.out (j := 0) h0
        first | (obtain rfl := e0) | (simp only [Option.some.injEq, Addr.mk.injEq, and_true] at e0; subst e0)
        go_wp2
        go_ret
        obtain ⟨h7, g7⟩ := HO9.out.stored 0 (.int .i64 x)
        exact ChPost.mk (xs := (xs.set q 1).set 0 x) (by rw [List.map_set]; exact h7) (by omega) (hr9.grown g7 (by intro b hb; injection hb; omega)) (by omega) (grown_trans hg10 g7 (by intro b hb; injection hb; omega))
      · go_wp2_with fail
        go_ret
        exact ChPost.mk HO8.out (by omega) hr8 (by omega) hg9
    · go_wp2_with fail
      go_wp2_with fail
      refine (pick_any R (p + 1 + 1 + n) 30 w3 HR3.out (by omega)).mono ?_
      rintro e w8 ⟨q8, rfl, hq8, hr8, hg8⟩
      have HO8 := Lib.hid (HO.out.kept hg8 (ne_low HO.out hR))
      have hg9 := grown_r HG3.out hg8
      by_cases hq80 : q8 = 0
      · subst hq80
        go_wp2_with fail
        refine (one_any (fun b => b = w8.heap.size) R (p + 1 + 1 + n + 1) _ 2 2 [-1, 10] _ (hr8.alloc _) (IntsAt.lit rfl rfl rfl (by omega)) (by intro b hb; have := hr8.lt; simp; omega) (by omega) (by omega)).mono ?_
        rintro e w9 ⟨x, _, rfl, hr9, hg9b⟩
        have hgw : w8.grownBy w9 (some R) := grown_r (World.grownBy_alloc _ _ _) hg9b
        have HO9 := Lib.hid (HO8.out.kept hgw (ne_low HO8.out hR))
        have hg10 := grown_r hg9 hgw
        obtain ⟨g2, v0, e0, hgB, hc0, hf0⟩ := own_place HO9.out (j := 0) h0
        first | (obtain rfl := e0) | (simp only [Option.some.injEq, Addr.mk.injEq, and_true] at e0; subst e0)
        go_wp2
        go_ret
        obtain ⟨h7, g7⟩ := HO9.out.stored 0 (.int .i64 x)
        exact ChPost.mk (xs := xs.set 0 x) (by rw [List.map_set]; exact h7) (by omega) (hr9.grown g7 (by intro b hb; injection hb; omega)) (by omega) (grown_trans hg10 g7 (by intro b hb; injection hb; omega))
      · go_wp2_with fail
        go_ret
        exact ChPost.mk HO8.out (by omega) hr8 (by omega) hg9
  · have hn0 : n = 0 := by omega
    subst hn0
    go_wp2_with fail
    go_ret
    exact ChPost.mk HO.out (by omega) HR3.out (by omega) HG3.out
/-- drawn: a list, and numbers in their bounds -/
def DrawnW (w : World) (e : Ending) (w' : World) : Prop := ∃ (a : Option Addr) (len cap : Nat) (xs : List Int), e = .returned (.slice a len cap) ∧ IntsAt w' (· < w'.heap.size) a len xs ∧ len ≤ cap ∧ len ≤ 8 ∧ Below w.heap.size w w'
def DrawnW2 (w : World) (e : Ending) (w' : World) : Prop := ∃ (a : Option Addr) (len cap : Nat) (xs : List Int) (o u : Int), e = .returned (.tuple #[.slice a len cap, .int .i64 o, .int .i64 u]) ∧ IntsAt w' (· < w'.heap.size) a len xs ∧ len ≤ cap ∧ len ≤ 8 ∧ -1 ≤ o ∧ o ≤ 31 ∧ -1 ≤ u ∧ u ≤ 31 ∧ Below w.heap.size w w'
def DrawnW3 (w : World) (e : Ending) (w' : World) : Prop := ∃ (a : Option Addr) (len cap : Nat) (xs : List Int) (s o u : Int), e = .returned (.tuple #[.slice a len cap, .int .i64 s, .int .i64 o, .int .i64 u]) ∧ IntsAt w' (· < w'.heap.size) a len xs ∧ len ≤ cap ∧ len ≤ 8 ∧ -1 ≤ s ∧ s ≤ 31 ∧ -1 ≤ o ∧ o ≤ 31 ∧ -1 ≤ u ∧ u ≤ 31 ∧ Below w.heap.size w w'
set_option maxRecDepth 100000 in
set_option maxHeartbeats 2000000 in
theorem dDrawBestAge_any (a : Option Addr) (len cap : Nat) (w : World) (hb : BytesAt w w.heap.size a len) (hl : len ≤ cap) (hs : len ≤ 9223372036854775807) :
    Calls Try.prog 17 #[.slice a len cap] w (DrawnW2 w) := by
  go_enter Try.func17, Try.ntmps17
  go_wp2_with fail
  refine (newReader_any a len cap w hb hl hs).mono ?_
  rintro e w1 ⟨rfl, hr, hb1⟩
  go_wp2_with fail
  refine (someChances_any w.heap.size 0 w1 hr (by omega)).mono ?_
  rintro e w2 ⟨a2, l2, c2, xs, p2, rfl, h1, h2, h8, hr2, hp2, hg⟩
  have hlt := hr.lt
  have x2 := lat_own h1 hlt (by omega)
  go_wp2_with fail
  refine (one_any (fun b => b = w2.heap.size) w.heap.size (p2) _ 5 5 [1, 3, 0, 30, 31] _ (hr2.alloc _) (IntsAt.lit rfl rfl rfl (by omega)) (by intro b hb; have := hr2.lt; simp; omega) (by omega) (by omega)).mono ?_
  rintro e w3 ⟨y2, hy2, rfl, hr3, hg3⟩
  have by2 : -1 ≤ y2 ∧ y2 ≤ 31 := by simp at hy2; omega
  clear hy2
  have hg3 := grown_r (World.grownBy_alloc w2 _ _) hg3
  go_wp2_with fail
  refine (one_any (fun b => b = w3.heap.size) w.heap.size (p2 + 1) _ 5 5 [4, 2, 0, 10, -1] _ (hr3.alloc _) (IntsAt.lit rfl rfl rfl (by omega)) (by intro b hb; have := hr3.lt; simp; omega) (by omega) (by omega)).mono ?_
  rintro e w4 ⟨y3, hy3, rfl, hr4, hg4⟩
  have by3 : -1 ≤ y3 ∧ y3 ≤ 31 := by simp at hy3; omega
  clear hy3
  have hg4 := grown_r (World.grownBy_alloc w3 _ _) hg4
  have hg4 := grown_r hg3 hg4
  have x9 := (x2.step hg4).low
  have hbb : Below w.heap.size w w4 := grown_below (grown_r hg hg4) hb1 hb1.size
  go_wp2
  go_ret3
  exact ⟨_, _, _, xs, y2, y3, rfl, x9, h2, h8, by2.1, by2.2, by3.1, by3.2, hbb⟩
set_option maxRecDepth 100000 in
set_option maxHeartbeats 2000000 in
theorem dDrawAgeRate_any (a : Option Addr) (len cap : Nat) (w : World) (hb : BytesAt w w.heap.size a len) (hl : len ≤ cap) (hs : len ≤ 9223372036854775807) :
    Calls Try.prog 12 #[.slice a len cap] w (DrawnW3 w) := by
  go_enter Try.func12, Try.ntmps12
  go_wp2_with fail
  refine (newReader_any a len cap w hb hl hs).mono ?_
  rintro e w1 ⟨rfl, hr, hb1⟩
  go_wp2_with fail
  refine (someChances_any w.heap.size 0 w1 hr (by omega)).mono ?_
  rintro e w2 ⟨a2, l2, c2, xs, p2, rfl, h1, h2, h8, hr2, hp2, hg⟩
  have hlt := hr.lt
  have x2 := lat_own h1 hlt (by omega)
  go_wp2_with fail
  refine (one_any (fun b => b = w2.heap.size) w.heap.size (p2) _ 7 7 [2, 3, 1, 4, 7, 0, 8] _ (hr2.alloc _) (IntsAt.lit rfl rfl rfl (by omega)) (by intro b hb; have := hr2.lt; simp; omega) (by omega) (by omega)).mono ?_
  rintro e w3 ⟨y2, hy2, rfl, hr3, hg3⟩
  have by2 : -1 ≤ y2 ∧ y2 ≤ 31 := by simp at hy2; omega
  clear hy2
  have hg3 := grown_r (World.grownBy_alloc w2 _ _) hg3
  go_wp2_with fail
  refine (one_any (fun b => b = w3.heap.size) w.heap.size (p2 + 1) _ 5 5 [1, 3, 0, 30, 31] _ (hr3.alloc _) (IntsAt.lit rfl rfl rfl (by omega)) (by intro b hb; have := hr3.lt; simp; omega) (by omega) (by omega)).mono ?_
  rintro e w4 ⟨y3, hy3, rfl, hr4, hg4⟩
  have by3 : -1 ≤ y3 ∧ y3 ≤ 31 := by simp at hy3; omega
  clear hy3
  have hg4 := grown_r (World.grownBy_alloc w3 _ _) hg4
  have hg4 := grown_r hg3 hg4
  go_wp2_with fail
  refine (one_any (fun b => b = w4.heap.size) w.heap.size (p2 + 1 + 1) _ 5 5 [4, 2, 0, 10, -1] _ (hr4.alloc _) (IntsAt.lit rfl rfl rfl (by omega)) (by intro b hb; have := hr4.lt; simp; omega) (by omega) (by omega)).mono ?_
  rintro e w5 ⟨y4, hy4, rfl, hr5, hg5⟩
  have by4 : -1 ≤ y4 ∧ y4 ≤ 31 := by simp at hy4; omega
  clear hy4
  have hg5 := grown_r (World.grownBy_alloc w4 _ _) hg5
  have hg5 := grown_r hg4 hg5
  have x9 := (x2.step hg5).low
  have hbb : Below w.heap.size w w5 := grown_below (grown_r hg hg5) hb1 hb1.size
  go_wp2
  exact bodyPost_ret (v := .tuple #[.slice a2 l2 c2, .int .i64 y2, .int .i64 y3, .int .i64 y4]) (by simp [results, Try.results12, go_sem]) rfl ⟨_, _, _, xs, y2, y3, y4, rfl, x9, h2, h8, by2.1, by2.2, by3.1, by3.2, by4.1, by4.2, hbb⟩
end Go.Proofs.Ytkjmpkincaainac
