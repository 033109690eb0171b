import Derived.Test.YtobfencmfeneoacRows
import Derived.WalkKit
import Derived.LoopTactic
import Derived.Outline
import Derived.WalkSpells
import Derived.WalkLawsBesides
import Derived.ProofKit
import Derived.Lib.Hide
import Derived.IntWalk
import Derived.Test.YtobfencmfeneoacLib
import Derived.Test.YtobfencmfeneoacGen
import Derived.Test.YtobfencmfeneoacMark
import Derived.Test.YtobfencmfeneoacArr
import Derived.Test.YtobfencmfeneoacOwn1
import Derived.Test.YtobfencmfeneoacDr
import Derived.Test.YtobfencmfeneoacEx
import Derived.Test.YtobfencmfeneoacUp
import Derived.Test.YtobfencmfeneoacNetM
import Derived.Test.YtobfencmfeneoacLineM
import Derived.Test.YtobfencmfeneoacTactM
import Derived.Test.YtobfencmfeneoacTaskSpec
import Derived.Test.YtobfencmfeneoacLoadSpec
import Derived.Test.YtobfencmfeneoacWeightSpec
import Derived.Test.YtobfencmfeneoacStations
import Derived.Test.YtobfencmfeneoacFewSpec
namespace Go.Proofs.Ytobfencmfeneoac
open Go.RowKit Go.WideShapes

/-- what WeightsOf answers -/
def weightsRes (T ys : List Int) : List Int := if tasksP T ys then weightsM T (natsOf ys) else []
theorem weightsRes_len (T ys : List Int) : (weightsRes T ys).length ≤ 1048576 := by
  unfold weightsRes
  split
  · rename_i h; rw [weightsM_len]; have := h.2.2; omega
  · simp
/-- what LeastTact answers -/
def tactFine (T ys : List Int) (p : Int) : Bool := tasksM T ys && inB 1 6 p
def tactRes (T ys : List Int) (p : Int) : Int := if tactFine T ys p then (leastT T (natsOf ys) p : Int) else -1
theorem tactRes_no {T ys : List Int} {p : Int} (h : tactFine T ys p = false) : tactRes T ys p = -1 := by unfold tactRes; rw [h]; rfl
theorem tactRes_yes {T ys : List Int} {p : Int} (h : tactFine T ys p = true) : tactRes T ys p = (leastT T (natsOf ys) p : Int) := by unfold tactRes; rw [h]; rfl
end Go.Proofs.Ytobfencmfeneoac
