import Derived.Test.YtcfahmffboipiabRows
import Derived.WalkKit
import Derived.LoopTactic
import Derived.Outline
import Derived.WalkSpells
import Derived.WalkLawsBesides
import Derived.ProofKit
import Derived.IntWalk
import Derived.Test.YtcfahmffboipiabLib
import Derived.Test.YtcfahmffboipiabArr
import Derived.Test.YtcfahmffboipiabOwn1
import Derived.Test.YtcfahmffboipiabRd
import Derived.Test.YtcfahmffboipiabGen
import Derived.Test.YtcfahmffboipiabCountM
import Derived.Test.YtcfahmffboipiabLevM
import Derived.Test.YtcfahmffboipiabVb
namespace Go.Proofs.Ytcfahmffboipiab
open Go.RowKit Go.WideShapes

theorem Try.infoIntS : (Try.prog.info? 3).map (fun i => (i.zero, i.size, i.bytes)) = some (some (.int .i64 0), 1, 8) := by kernel_rfl

def levTo (rows : List (List Int)) (k : Nat) : List Int := (List.range k).map (lev rows)
theorem levTo_succ (rows : List (List Int)) (k : Nat) : levTo rows (k + 1) = levTo rows k ++ [lev rows k] := by simp [levTo, List.range_succ]
theorem levTo_get {rows : List (List Int)} {k i : Nat} {x : Int} (h : (levTo rows k)[i]? = some x) : x = lev rows i := by
  simp only [levTo, List.getElem?_map, Option.map_eq_some_iff] at h
  obtain ⟨j, hj, rfl⟩ := h
  obtain ⟨_, h2⟩ := List.getElem?_eq_some_iff.1 hj
  simp at h2
  rw [h2]

end Go.Proofs.Ytcfahmffboipiab
