import Derived.Test.YtcfahmffboipiabRows
import Derived.RangeFuncNested
import Derived.RangeFuncBound
import Derived.RangeFuncCalls
import Derived.RangeFuncLeaves
import Derived.Shelf.Abstract
import Derived.Shelf.RegionOpen
import Derived.WalkKit
import Derived.Outline
import Derived.OwnWalkIn
import Derived.TacticsInMore
import Derived.LoopNIn
import Derived.LoopIn
import Derived.IntWalk
import Derived.StillTailTactics
import Derived.Deep.OwnRows
import Derived.Test.YtcfahmffboipiabLib
import Derived.Test.YtcfahmffboipiabCountM
import Derived.Test.YtcfahmffboipiabTakesM
import Derived.Test.YtcfahmffboipiabBillM
import Derived.Test.YtcfahmffboipiabParts
import Derived.Test.YtcfahmffboipiabRound
import Derived.Test.YtcfahmffboipiabVb
import Derived.Test.YtcfahmffboipiabUp
import Derived.Test.YtcfahmffboipiabVal2
import Derived.Test.YtcfahmffboipiabApp
import Derived.Test.YtcfahmffboipiabBox
import Derived.Test.YtcfahmffboipiabCostSpec
import Derived.Test.YtcfahmffboipiabMark
namespace Go.Proofs.Ytcfahmffboipiab
open Go.RowKit Go.Shelf Go.Deep

attribute [local go_sem] Oper.semAt_some

def oneEachM (rows : List (List Int)) (xs : List Int) : Bool := validBillM rows && wantsM rows.length xs
theorem hasOne_any (S T : Nat → Prop) (a : Option Addr) (len cap : Nat) (rows : List (List Int)) (a2 : Option Addr) (len2 cap2 : Nat) (xs : List Int) (w : World) (h : RowsAt w S a len rows) (g : IntsAt w T a2 len2 xs) :
    Calls Try.prog 45 #[.slice a len cap, .slice a2 len2 cap2] w fun e w' => e = .returned (.bool (oneEachM rows xs)) ∧ w = w' := by
  have hs := h.small
  have hs2 := g.small
  have HL := Lib.hid h.lenEq
  have HL2 := Lib.hid g.lenEq
  cases hv : validBillM rows
  · go_enter Try.func45, Try.ntmps45
    go_wp2_with (go_at_call 11; refine (validBill_impl _ _ _ _ rows _ h).mono ?_; rintro e w2 ⟨rfl, rfl⟩)
    go_ret
    exact ⟨ret_bool (by unfold oneEachM; rw [hv]; rfl), rfl⟩
  · by_cases hll : len2 = len
    · subst hll
      go_enter Try.func45, Try.ntmps45
      go_wp2_with (first | (go_at_call 11; refine (validBill_impl _ _ _ _ rows _ h).mono ?_; rintro e w2 ⟨rfl, rfl⟩) | (go_at_call 41; refine (allUpTo_any _ _ _ _ xs 20 _ g).mono ?_; rintro e w' ⟨rfl, rfl⟩))
      go_ret
      exact ⟨ret_bool (by unfold oneEachM wantsM; rw [hv, HL.out, HL2.out]; simp), rfl⟩
    · have hne : ((len2 : Int) == (len : Int)) = false := by simp; omega
      go_enter Try.func45, Try.ntmps45
      go_wp2_with (go_at_call 11; refine (validBill_impl _ _ _ _ rows _ h).mono ?_; rintro e w2 ⟨rfl, rfl⟩)
      go_ret
      exact ⟨ret_bool (by unfold oneEachM wantsM; rw [hv, HL.out, HL2.out]; simp; omega), rfl⟩

/-- the costs in the making: those below i are done, that of i is at part, the others stand as the own costs -/
def costAt (rows : List (List Int)) (own : List Int) (i : Nat) (part : Int) (q : Nat) : Int := if q < i then costN rows own q else if q = i then part else own.getD q 0
theorem costAt_start (rows : List (List Int)) (own : List Int) (q : Nat) : own.getD q 0 = costAt rows own 0 (own.getD 0 0) q := by
  unfold costAt; rw [if_neg (by omega)]; split
  · rename_i h; rw [h]
  · rfl
theorem costAt_next {rows : List (List Int)} {own : List Int} {i : Nat} {part : Int} (hp : part = costN rows own i) (q : Nat) : costAt rows own i part q = costAt rows own (i + 1) (own.getD (i + 1) 0) q := by
  unfold costAt
  by_cases h1 : q < i
  · rw [if_pos h1, if_pos (by omega)]
  · by_cases h2 : q = i
    · subst h2; rw [if_neg h1, if_pos rfl, if_pos (by omega), hp]
    · rw [if_neg h1, if_neg h2, if_neg (by omega)]
      by_cases h3 : q = i + 1
      · subst h3; rw [if_pos rfl]
      · rw [if_neg h3]
def costOver (rows : List (List Int)) (own : List Int) (i : Nat) (l : List (Nat × Int)) : Int := own.getD i 0 + sumOver (fun p c => c * costN rows own p) l
theorem costOver_snoc (rows : List (List Int)) (own : List Int) (i : Nat) (l : List (Nat × Int)) (p : Nat × Int) : costOver rows own i (l ++ [p]) = costOver rows own i l + costN rows own p.1 * p.2 := by
  unfold costOver; rw [sumOver_snoc, Int.mul_comm (costN rows own p.1)]; omega
theorem costOver_all {rows : List (List Int)} (hv : validBillM rows = true) (own : List Int) {i : Nat} {r : List Int} (hr : rows[i]? = some r) : costOver rows own i (pairsTo r r.length) = costN rows own i := by
  obtain ⟨h1, h2, _⟩ := okRows_get hv hr
  have hi : i < rows.length := (List.getElem?_eq_some_iff.1 hr).1
  rw [cost_rec hv own hi, costOver, sumOver_pairs _ _ (fun x hx => (h2 x hx).1), h1]
  congr 1
  refine sumTo_congr (fun k _ => ?_)
  unfold useM
  rw [List.getD_eq_getElem?_getD (l := rows), hr]; rfl
theorem costOver_bd {rows : List (List Int)} (hv : validBillM rows = true) {own : List Int} (ho : ∀ k, 0 ≤ own.getD k 0 ∧ own.getD k 0 ≤ 20) {i : Nat} {r : List Int} (hr : rows[i]? = some r) {l : List (Nat × Int)} (hl : l.length ≤ 6) (h : ∀ p ∈ l, r[p.1]? = some p.2) :
    0 ≤ costOver rows own i l ∧ costOver rows own i l ≤ 100000000000 := by
  obtain ⟨h1, h2, h3⟩ := okRows_get hv hr
  have hb : ∀ p ∈ l, 0 ≤ p.2 * costN rows own p.1 ∧ p.2 * costN rows own p.1 ≤ 3 * 5000000000 := by
    intro p hp
    have hx := h p hp
    have := h2 _ (List.mem_of_getElem? hx)
    have hk : p.1 < r.length := (List.getElem?_eq_some_iff.1 hx).1
    have hc := costN_bd hv ho (show p.1 ≤ 6 by omega)
    exact mul_box this.1 this.2 hc.1 hc.2
  have h5 := sumOver_bd (f := fun p c => c * costN rows own p) (B := 3 * 5000000000) l hb
  have := ho i
  unfold costOver; omega

def RowOf (w : World) (len : Nat) (f : Nat → Int) (e : Ending) (w' : World) : Prop := ∃ (g cap : Nat), e = .returned (.slice (some ⟨g, 0, none⟩) len cap) ∧ w.heap.size ≤ g ∧ len ≤ cap ∧
  (∀ q, q < len → w'.cell? ⟨g, q, none⟩ = some (.int .i64 (f q)) ∧ w'.frozen? ⟨g, q, none⟩ = false) ∧ Below w.heap.size w w'

theorem resPost_blockG {w w' : World} {g len cap : Nat} {xs : List Int} (hl : xs.length = len) (hs : len ≤ 1048576) (hg : w.heap.size ≤ g) (hc : ∀ q x, xs[q]? = some x → w'.cell? ⟨g, q, none⟩ = some (.int .i64 x) ∧ w'.frozen? ⟨g, q, none⟩ = false) (hb : Below w.heap.size w w') :
    ResPost w xs (.returned (.slice (some ⟨g, 0, none⟩) len cap)) w' := by
  have hlt : 0 < len → g < w'.heap.size := fun h0 => by
    have := (hc 0 xs[0] (List.getElem?_eq_getElem (by omega))).1
    rcases Nat.lt_or_ge g w'.heap.size with h' | h'
    · exact h'
    · simp [World.cell?, Array.getElem?_eq_none h'] at this
  refine ⟨_, _, _, rfl, ⟨hl, by omega, fun h0 => ⟨_, 0, rfl, ⟨hg, hlt h0⟩, fun i x hx => ?_⟩⟩, ⟨by omega, fun h0 => ⟨_, 0, rfl, ⟨hg, hlt h0⟩, fun i hi => ?_⟩⟩, hb⟩
  · rw [Nat.zero_add]; exact (hc i x hx).1
  · have := hc i xs[i] (List.getElem?_eq_getElem (by omega))
    rw [Nat.zero_add]
    exact ⟨⟨_, this.1⟩, this.2⟩

/-- what CostsOf answers -/
def costRes (rows : List (List Int)) (own : List Int) : List Int := if oneEachM rows own then costsM rows own else []
theorem costRes_no {rows : List (List Int)} {own : List Int} (h : oneEachM rows own = false) : costRes rows own = [] := by unfold costRes; rw [h]; rfl
theorem costRes_yes {rows : List (List Int)} {own : List Int} (h : oneEachM rows own = true) : costRes rows own = costsM rows own := by unfold costRes; rw [h]; rfl
theorem costRes_len (rows : List (List Int)) (own : List Int) : (costRes rows own).length ≤ 1048576 := by
  cases h : oneEachM rows own
  · rw [costRes_no h]; simp
  · rw [costRes_yes h, costsM, tab_length]
    simp only [oneEachM, Bool.and_eq_true] at h
    have := validBill_len6 h.1; omega
end Go.Proofs.Ytcfahmffboipiab
