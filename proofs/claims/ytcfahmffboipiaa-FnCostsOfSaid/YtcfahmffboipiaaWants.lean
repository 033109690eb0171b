import Derived.Test.YtcfahmffboipiaaRows
import Derived.WalkKit
import Derived.Outline
import Derived.ProofKit
import Derived.Test.YtcfahmffboipiaaLib
import Derived.Test.YtcfahmffboipiaaRd
import Derived.Test.YtcfahmffboipiaaGen
import Derived.Test.YtcfahmffboipiaaOwn1
import Derived.Test.YtcfahmffboipiaaPick
import Derived.Test.YtcfahmffboipiaaNewReader
import Derived.Test.YtcfahmffboipiaaDr
import Derived.Test.YtcfahmffboipiaaApp
import Derived.Test.YtcfahmffboipiaaListOf
import Derived.Test.YtcfahmffboipiaaBill
namespace Go.Proofs.Ytcfahmffboipiaa
open Go.RowKit Go.WideShapes

def WantsPost (w : World) (R p n : Nat) (e : Ending) (w' : World) : Prop := ∃ (a : Option Addr) (len cap : Nat) (xs : List Int) (p' : Nat), e = .returned (.slice a len cap) ∧
  IntsAt w' (fun b => w.heap.size ≤ b ∧ b < w'.heap.size) a len xs ∧ len ≤ cap ∧ len ≤ n + 1 ∧ Rd w' R p' ∧ p' ≤ p + n + 10 ∧ w.grownBy w' (some R)
theorem WantsPost.mk {w w' : World} {R p n p' l c : Nat} {a : Option Addr} {xs : List Int} (h : w'.ownsRow w.heap.size 3 1 (.slice a l c) l (xs.map (.int .i64))) (hl : l ≤ n + 1) (hn : n ≤ 1000) (hr : Rd w' R p') (hp : p' ≤ p + n + 10) (hg : w.grownBy w' (some R)) : WantsPost w R p n (.returned (.slice a l c)) w' := by
  obtain ⟨ay, cy, hve, hcc, hints⟩ := own_ints h (by omega)
  simp only [Value.slice.injEq] at hve
  obtain ⟨rfl, _, rfl⟩ := hve
  exact ⟨_, _, _, xs, p', rfl, hints, hcc, hl, hr, hp, hg⟩
theorem hi_n {n : Int} (h : n ∈ [5, 20, 1]) : 0 ≤ n ∧ n ≤ 20 := by simp at h; omega
set_option maxRecDepth 100000 in
set_option maxHeartbeats 2000000 in
theorem wantsOf_any (R p n : Nat) (w : World) (h : Rd w R p) (hp : p ≤ 100000) (hn : n ≤ 1000) :
    Calls Try.prog 26 #[.pointer (some ⟨R, 0, none⟩), .int .i64 n] w (WantsPost w R p n) := by
  have hR := h.lt
  go_enter Try.func26, Try.ntmps26
  go_wp2_with fail
  refine (one_any (fun b => b = w.heap.size) R p _ 3 3 [5, 20, 1] _ (h.alloc _) (IntsAt.lit rfl rfl rfl (by omega)) (by intro b hb; simp; omega) (by omega) (by omega)).mono ?_
  rintro e w1 ⟨hi, hhi, rfl, hr1, hg1⟩
  obtain ⟨hh0, hh1⟩ := hi_n hhi
  clear hhi
  have g1 : w.grownBy w1 (some R) := grown_r (World.grownBy_alloc _ _ _) hg1
  go_wp2_with fail
  refine (listOf_any R (p + 1) n 0 hi w1 hr1 (by omega) hn (by omega) hh0 (by omega)).mono ?_
  rintro e w2 ⟨a2, c2, xs, rfl, o2, hc2, hl2, _, hr2, hg2⟩
  have o2 := own_base o2 g1.size
  have g2 := grown_r g1 hg2
  go_wp2_with fail
  refine (pick_any R (p + 1 + n) 40 w2 hr2 (by omega)).mono ?_
  rintro e w3 ⟨q, rfl, hq, hr3, hg3⟩
  have o3 := own_step o2 hg3 hR
  have g3 := grown_r g2 hg3
  have hsz := g3.size
  clear hg1 hg2 hg3 g1 g2 hr1 hr2 o2
  by_cases hq0 : q = 0
  · subst hq0
    go_wp2_with (at_builtin; refine wpApp1 rfl _ _ rfl w.heap.size _ _ _ _ _ rfl o3 rfl hsz (by omega) ?_)
    intro a9 c9 w9 o9 hc9 hg9
    have hb := own_block o3
    have g9 := grown_trans g3 hg9 (fun k e => Or.inr (hb k e))
    have r9 := hr3.grown hg9 (fun k e => by have := hb k e; omega)
    clear hg9 o3 g3
    go_wp2
    go_ret
    exact WantsPost.mk (own_snoc o9) (by omega) hn r9 (by omega) g9
  · by_cases hq1 : q = 1
    · subst hq1
      by_cases hn0 : 0 < n
      · go_wp2_with fail
        refine (one_any (fun b => b = w3.heap.size) R (p + 1 + n + 1) _ 2 2 [-1, 21] _ (hr3.alloc _) (IntsAt.lit rfl rfl rfl (by omega)) (by intro b hb; have := hr3.lt; simp; omega) (by omega) (by omega)).mono ?_
        rintro e w5 ⟨x, hx, rfl, hr5, hg5⟩
        clear hx
        have hgw : w3.grownBy w5 (some R) := grown_r (World.grownBy_alloc _ _ _) hg5
        have o5 := own_step o3 hgw hR
        have g5 := grown_r g3 hgw
        obtain ⟨g, v0, rfl, hgB, hc0, hf0⟩ := own_place o5 (j := 0) hn0
        obtain ⟨h7, g7⟩ := o5.stored 0 (.int .i64 x)
        have hb := own_block o5
        have HO := Lib.hid h7
        have G7 := Lib.hid (grown_trans g5 g7 (fun k e => Or.inr (hb k e)))
        have R7 := Lib.hid (hr5.grown g7 (fun k e => by have := hb k e; omega))
        clear hg5 hgw o3 g3 g5 h7 g7 o5
        go_wp2
        go_ret
        exact WantsPost.mk (xs := xs.set 0 x) (by rw [List.map_set]; exact HO.out) (by omega) hn R7.out (by omega) G7.out
      · go_wp2_with fail
        go_ret
        exact WantsPost.mk o3 (by omega) hn hr3 (by omega) g3
    · have e0 : ((q : Int) == 0) = false := by simp; omega
      have e1 : ((q : Int) == 1) = false := by simp; omega
      go_wp2_with fail
      go_ret
      exact WantsPost.mk o3 (by omega) hn hr3 (by omega) g3

def DrawnBW (w : World) (e : Ending) (w' : World) : Prop := ∃ (a : Option Addr) (len cap : Nat) (rows : List (List Int)) (a2 : Option Addr) (len2 cap2 : Nat) (xs : List Int),
  e = .returned (.tuple #[.slice a len cap, .slice a2 len2 cap2]) ∧ RowsAt w' (· < w'.heap.size) a len rows ∧ len ≤ cap ∧ IntsAt w' (· < w'.heap.size) a2 len2 xs ∧ len2 ≤ cap2 ∧ Below w.heap.size w w'
theorem drawNeedsOf_any (a : Option Addr) (len cap : Nat) (w : World) (hb : BytesAt w w.heap.size a len) (hl : len ≤ cap) (hs : len ≤ 9223372036854775807) :
    Calls Try.prog 7 #[.slice a len cap] w (DrawnBW w) := by
  go_enter Try.func7, Try.ntmps7
  go_wp2_with fail
  refine (newReader_any a len cap w hb hl hs).mono ?_
  rintro e w1 ⟨rfl, hr, hb1⟩
  go_wp2_with fail
  refine (someBill_any w.heap.size 0 w1 hr (by omega)).mono ?_
  rintro e w2 ⟨a2, l2, c2, rows, p2, rfl, h1, h2, h6, hr2, hp2, hg2⟩
  have hs1 := hr.lt
  have hlen := h1.lenEq
  go_wp2_with fail
  refine (wantsOf_any w.heap.size p2 l2 w2 hr2 (by omega) (by omega)).mono ?_
  rintro e w6 ⟨a6, l6, c6, xs, p6, rfl, n6, hc6, hl6, hr6, hp6, g6⟩
  have h1' := h1.to (S' := (· < w6.heap.size)) (w' := w6) (fun b hb => ⟨Nat.lt_of_lt_of_le hb.2 g6.size, g6.block b hb.2 (by simp; omega)⟩)
  have hbb : Below w.heap.size w w6 := grown_below (grown_r hg2 g6) hb1 hb1.size
  have n6' := n6.to (S' := (· < w6.heap.size)) (w' := w6) (fun b hb => ⟨hb.2, rfl⟩)
  clear hlen
  go_wp2
  go_ret2
  exact ⟨a2, l2, c2, rows, a6, l6, c6, xs, rfl, h1', h2, n6', hc6, hbb⟩
theorem drawCostsOf_any (a : Option Addr) (len cap : Nat) (w : World) (hb : BytesAt w w.heap.size a len) (hl : len ≤ cap) (hs : len ≤ 9223372036854775807) :
    Calls Try.prog 20 #[.slice a len cap] w (DrawnBW w) := by
  go_enter Try.func20, Try.ntmps20
  go_wp2_with fail
  refine (newReader_any a len cap w hb hl hs).mono ?_
  rintro e w1 ⟨rfl, hr, hb1⟩
  go_wp2_with fail
  refine (someBill_any w.heap.size 0 w1 hr (by omega)).mono ?_
  rintro e w2 ⟨a2, l2, c2, rows, p2, rfl, h1, h2, h6, hr2, hp2, hg2⟩
  have hs1 := hr.lt
  have hlen := h1.lenEq
  go_wp2_with fail
  refine (wantsOf_any w.heap.size p2 l2 w2 hr2 (by omega) (by omega)).mono ?_
  rintro e w6 ⟨a6, l6, c6, xs, p6, rfl, n6, hc6, hl6, hr6, hp6, g6⟩
  have h1' := h1.to (S' := (· < w6.heap.size)) (w' := w6) (fun b hb => ⟨Nat.lt_of_lt_of_le hb.2 g6.size, g6.block b hb.2 (by simp; omega)⟩)
  have hbb : Below w.heap.size w w6 := grown_below (grown_r hg2 g6) hb1 hb1.size
  have n6' := n6.to (S' := (· < w6.heap.size)) (w' := w6) (fun b hb => ⟨hb.2, rfl⟩)
  clear hlen
  go_wp2
  go_ret2
  exact ⟨a2, l2, c2, rows, a6, l6, c6, xs, rfl, h1', h2, n6', hc6, hbb⟩
end Go.Proofs.Ytcfahmffboipiaa
