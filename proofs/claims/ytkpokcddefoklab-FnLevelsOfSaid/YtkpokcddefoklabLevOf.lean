import Derived.Test.YtkpokcddefoklabRows
import Derived.WalkKit
import Derived.Outline
import Derived.WalkSpells
import Derived.WalkLawsBesides
import Derived.Test.YtkpokcddefoklabLib
import Derived.Test.YtkpokcddefoklabLevels
import Derived.Test.YtkpokcddefoklabLevSpec
import Derived.Test.YtkpokcddefoklabMark
import Derived.Test.YtkpokcddefoklabVb
namespace Go.Proofs.Ytkpokcddefoklab
open Go.RowKit

/-- what LevelsOf answers -/
def levResM (rows : List (List Int)) : List Int := if validBillM rows then levelsM rows else []

theorem levelsOf_impl (a : Option Addr) (len cap : Nat) (rows : List (List Int)) (w : World) (h : RowsAt w (· < w.heap.size) a len rows) :
    Calls Try.prog 6 #[.slice a len cap] w (ResPost w (levResM rows)) := by
  cases hv : validBillM rows
  · have hr : levResM rows = [] := by unfold levResM; rw [hv]; rfl
    rw [hr]
    go_enter Try.func6, Try.ntmps6
    go_wp2_with (go_at_call 19; refine (validBill_impl _ _ _ _ rows _ h).mono ?_; rintro e w2 ⟨rfl, rfl⟩)
    go_ret
    exact resPost_nil w
  · have hr : levResM rows = levelsM rows := by unfold levResM; rw [hv]; rfl
    rw [hr]
    refine (levels_impl rows hv a len cap w h).mono ?_
    rintro e w' ⟨rfl, hc, hb⟩
    have hl := h.lenEq
    have h6 := validBill_len6 hv
    exact resPost_block (by simp [levelsM, hl]) (by omega) (fun q x hx => by
      obtain ⟨rfl, hq⟩ := levelsM_get hx
      exact hc q (by omega)) hb

theorem levelsOf_spec (S : Nat → Prop) (a : Option Addr) (len cap : Nat) (rows : List (List Int)) (w : World) (h : RowsAt w S a len rows) (hS : ∀ b, S b → b < w.heap.size) :
    Calls Try.prog 8 #[.slice a len cap] w (NewInts w (levResM rows)) := by
  cases hv : validBillM rows
  · have hr : levResM rows = [] := by unfold levResM; rw [hv]; rfl
    rw [hr]
    go_enter Try.func8, Try.ntmps8
    go_wp2_with (go_at_call 21; refine (validBill_spec0 _ _ _ _ rows _ h).mono ?_; rintro e w2 ⟨rfl, rfl⟩)
    go_ret
    exact ⟨none, 0, 0, rfl, ⟨rfl, Nat.zero_le _, fun h => absurd h (by omega)⟩, Nat.le_refl _, Below.refl _ _⟩
  · have hr : levResM rows = levelsM rows := by unfold levResM; rw [hv]; rfl
    rw [hr]
    go_enter Try.func8, Try.ntmps8
    go_wp2_with fail
    refine (validBill_spec0 _ _ _ _ rows _ h).mono ?_
    rintro e w2 ⟨rfl, rfl⟩
    go_wp2_with fail
    refine (levels_spec0 S a len cap rows _ hv h hS).mono ?_
    rintro e w2 ⟨a2, l2, c2, rfl, h1, h2, h3⟩
    go_wp2
    go_ret
    exact ⟨a2, l2, c2, rfl, h1, h2, h3⟩
end Go.Proofs.Ytkpokcddefoklab
