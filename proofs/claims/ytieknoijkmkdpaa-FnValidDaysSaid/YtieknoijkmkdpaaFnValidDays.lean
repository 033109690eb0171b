/- The law FnValidDays returns true at every code, and the code reads behind the call as it read before. No condition. -/
import Derived.Test.YtieknoijkmkdpaaRows
import Derived.WalkKit
import Derived.Outline
import Derived.WalkSpells
import Derived.WalkLawsBesides
import Derived.ProofKit
import Derived.Test.YtieknoijkmkdpaaLib
import Derived.Test.YtieknoijkmkdpaaRd
import Derived.Test.YtieknoijkmkdpaaGen
import Derived.Test.YtieknoijkmkdpaaNewReader
import Derived.Test.YtieknoijkmkdpaaNetM
import Derived.Test.YtieknoijkmkdpaaVal2
import Derived.Test.YtieknoijkmkdpaaDays
namespace Go.Proofs.Ytieknoijkmkdpaa
open Go.RowKit Go.WideShapes

def DrawnDays (w : World) (e : Ending) (w' : World) : Prop := ∃ (a : Option Addr) (len cap : Nat) (xs : List Int), e = .returned (.slice a len cap) ∧
  IntsAt w' (· < w'.heap.size) a len xs ∧ len ≤ cap ∧ len ≤ 9 ∧ DaysOk xs ∧ Below w.heap.size w w'
theorem drawValidDays_any (a : Option Addr) (len cap : Nat) (w : World) (hb : BytesAt w w.heap.size a len) (hl : len ≤ cap) (hs : len ≤ 9223372036854775807) :
    Calls Try.prog 7 #[.slice a len cap] w (DrawnDays w) := by
  go_enter Try.func7, Try.ntmps7
  go_wp2_with fail
  refine (newReader_any a len cap w hb hl hs).mono ?_
  rintro e w1 ⟨rfl, hr, hb1⟩
  go_wp2_with fail
  refine (someDays_any w.heap.size 0 w1 hr (by omega)).mono ?_
  rintro e w2 ⟨a2, l2, c2, xs, p2, rfl, h1, h2, h9, hd, _, _, hg⟩
  have hbb : Below w.heap.size w w2 := grown_below hg hb1 hb1.size
  obtain ⟨a3, c3, e3, _, hi⟩ := own_ints h1 (by omega)
  simp only [Value.slice.injEq] at e3
  obtain ⟨rfl, _, rfl⟩ := e3
  go_wp2
  go_ret
  exact ⟨_, _, _, xs, rfl, hi.to (fun b hb => ⟨hb.2, rfl⟩), h2, h9, hd, hbb⟩
theorem IntsAt.take {w : World} {S : Nat → Prop} {a : Option Addr} {len : Nat} {xs : List Int} (h : IntsAt w S a len xs) (k : Nat) (hk : k ≤ len) : IntsAt w S a k (xs.take k) := by
  have hl := h.lenEq
  have hs := h.small
  refine ⟨by simp; omega, by omega, fun h0 => ?_⟩
  obtain ⟨b, off, ha, hs, hc⟩ := h.cells (by omega)
  refine ⟨b, off, ha, hs, fun i r hr => hc i r ?_⟩
  rw [List.getElem?_take] at hr
  split at hr
  · exact hr
  · cases hr
theorem validDays_take {xs : List Int} (h : validDaysM xs = true) (k : Nat) : validDaysM (xs.take k) = true := by
  refine validDays_mk (by rw [List.length_take]; have := validDays_len h; omega) (fun q hq => ?_)
  have := validDays_at h q
  rw [List.length_take] at hq
  have e : (xs.take k).getD q 0 = xs.getD q 0 := by
    rw [List.getD_eq_getElem?_getD, List.getElem?_take, if_pos (by omega), ← List.getD_eq_getElem?_getD]
  rw [e]; exact this

set_option maxHeartbeats 1000000 in
theorem fnValidDays_any (a : Option Addr) (len cap : Nat) (w : World) (hb : BytesAt w w.heap.size a len) (hl : len ≤ cap) (hs : len ≤ 9223372036854775807) :
    Calls Try.prog 3 #[.slice a len cap] w (LawPost w) := by
  by_cases h20 : len ≤ 1048576
  · go_enter Try.func3, Try.ntmps3
    go_wp2_with fail
    refine (drawValidDays_any a len cap w hb hl hs).mono ?_
    rintro e w1 ⟨a1, l1, c1, xs, rfl, hx, hlc, hl9, _, hbw⟩
    go_wp2_with fail
    refine (validDays_impl _ _ _ _ xs _ hx).mono ?_
    rintro e w2 ⟨rfl, rfl⟩
    cases hv : validDaysM xs
    · go_wp2_with (go_at_call 9; refine (validDays_spec _ _ _ _ xs _ hx).mono ?_; rintro e w2 ⟨rfl, rfl⟩)
      go_ret
      exact ⟨rfl, hbw⟩
    · by_cases hl1 : l1 = 0
      · subst hl1
        go_wp2_with (go_at_call 9; refine (validDays_spec _ _ _ _ xs _ hx).mono ?_; rintro e w2 ⟨rfl, rfl⟩)
        go_ret
        exact ⟨rfl, hbw⟩
      · have ht := validDays_take hv (l1 - 1)
        have htk := hx.take (l1 - 1) (by omega)
        have e1' : 1 ≤ l1 := by omega
        have hlne : ((l1 : Int) == 0) = false := by simp; omega
        go_wp2_with (go_at_call 9; refine (validDays_spec _ _ _ _ xs _ hx).mono ?_; rintro e w2 ⟨rfl, rfl⟩)
        refine (validDays_impl _ _ _ _ (xs.take (l1 - 1)) _ htk).mono ?_
        rintro e w2 ⟨rfl, rfl⟩
        go_wp2
        go_ret
        exact ⟨rfl, hbw⟩
  · go_enter Try.func3, Try.ntmps3
    go_wp2
    go_ret
    exact ⟨rfl, Below.refl _ _⟩
end Go.Proofs.Ytieknoijkmkdpaa
