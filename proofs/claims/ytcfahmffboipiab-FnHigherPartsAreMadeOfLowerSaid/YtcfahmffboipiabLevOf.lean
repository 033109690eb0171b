import Derived.Test.YtcfahmffboipiabRows
import Derived.WalkKit
import Derived.Outline
import Derived.WalkSpells
import Derived.WalkLawsBesides
import Derived.Test.YtcfahmffboipiabLib
import Derived.Test.YtcfahmffboipiabLevels
import Derived.Test.YtcfahmffboipiabLevSpec
import Derived.Test.YtcfahmffboipiabMark
import Derived.Test.YtcfahmffboipiabVb
namespace Go.Proofs.Ytcfahmffboipiab
open Go.RowKit

/-- what LevelsOf answers -/
def levResM (rows : List (List Int)) : List Int := if validBillM rows then levelsM rows else []

theorem levelsOf_impl (a : Option Addr) (len cap : Nat) (rows : List (List Int)) (w : World) (h : RowsAt w (· < w.heap.size) a len rows) :
    Calls Try.prog 28 #[.slice a len cap] w (ResPost w (levResM rows)) := by
  cases hv : validBillM rows
  · have hr : levResM rows = [] := by unfold levResM; rw [hv]; rfl
    rw [hr]
    go_enter Try.func28, Try.ntmps28
    go_wp2_with (go_at_call 11; refine (validBill_impl _ _ _ _ rows _ h).mono ?_; rintro e w2 ⟨rfl, rfl⟩)
    go_ret
    exact resPost_nil w
  · have hr : levResM rows = levelsM rows := by unfold levResM; rw [hv]; rfl
    rw [hr]
    refine (levels_impl rows hv a len cap w h).mono ?_
    rintro e w' ⟨rfl, hc, hb⟩
    have hl := h.lenEq
    have h6 := validBill_len6 hv
    exact resPost_block (by simp [levelsM, hl]) (by omega) (fun q x hx => by
      obtain ⟨rfl, hq⟩ := levelsM_get hx
      exact hc q (by omega)) hb

end Go.Proofs.Ytcfahmffboipiab
