import Derived.Test.YtkjmpkincaainaaRows
import Derived.WalkKit
import Derived.LoopTactic
import Derived.Outline
import Derived.WalkSpells
import Derived.WalkLawsBesides
import Derived.ProofKit
import Derived.Lib.Hide
import Derived.IntWalk
import Derived.Deep.QuietTactic
import Derived.BigQuiet
import Derived.Shelf.RegionOpenPlain
import Derived.Test.YtkjmpkincaainaaLib
import Derived.Test.YtkjmpkincaainaaArr
import Derived.Test.YtkjmpkincaainaaUp
import Derived.Test.YtkjmpkincaainaaBitOp
import Derived.Test.YtkjmpkincaainaaGen
import Derived.Test.YtkjmpkincaainaaNetAt
import Derived.Test.YtkjmpkincaainaaTokM
namespace Go.Proofs.Ytkjmpkincaainaa
open Go.RowKit Go.WideShapes

theorem upTo8 (S : Nat → Prop) (a : Option Addr) (len cap : Nat) (xs : List Int) (lim : Int) (w : World) (h : IntsAt w S a len xs) {b : Bool} (hb : allIn 0 lim xs = b) :
    Calls Try.prog 17 #[.slice a len cap, .int .i64 lim] w fun e w' => e = .returned (.bool b) ∧ w' = w := by
  subst hb; exact (allUpTo_any S a len cap xs lim w h).mono fun _ _ h => ⟨h.1, h.2.symm⟩
theorem isUp8 (n hi : Int) (w : World) {b : Bool} (hb : inB 0 hi n = b) : Calls Try.prog 22 #[.int .i64 n, .int .i64 hi] w fun e w' => e = .returned (.bool b) ∧ w' = w := by
  subst hb; exact (isUpTo_any n hi w).mono fun _ _ h => ⟨h.1, h.2.symm⟩
theorem allIn_two {lo hi : Int} {r : List Int} {x y : Int} (h0 : r[0]? = some x) (h1 : r[1]? = some y) : allIn lo hi (r.take 2) = (inB lo hi x && inB lo hi y) := by
  rw [take_get (k := 1) h1, take_get (k := 0) h0]
  simp [allIn]
theorem ints_take8 {w : World} {S : Nat → Prop} {a : Option Addr} {len : Nat} {xs : List Int} (h : IntsAt w S a len xs) {k : Nat} (hk : k ≤ len) : IntsAt w S a k (xs.take k) := by
  have hl := h.lenEq
  have hs := h.small
  refine ⟨by simp; omega, by omega, fun h0 => ?_⟩
  obtain ⟨b, off, ha, hs, hc⟩ := h.cells (by omega)
  refine ⟨b, off, ha, hs, fun i x hx => hc i x ?_⟩
  rw [List.getElem?_take] at hx
  split at hx
  · exact hx
  · cases hx
end Go.Proofs.Ytkjmpkincaainaa
