import Derived.Test.YtcfahmffboipiaaRows
import Derived.WalkKit
import Derived.LoopTactic
import Derived.Outline
import Derived.WalkSpells
import Derived.WalkLawsBesides
import Derived.Deep.QuietTactic
import Derived.BigQuiet
import Derived.IntWalk
import Derived.Test.YtcfahmffboipiaaLib
import Derived.Test.YtcfahmffboipiaaCountM
namespace Go.Proofs.Ytcfahmffboipiaa
open Go.RowKit

def IntPost (w : World) (n : Int) (e : Ending) (w' : World) : Prop := e = .returned (.int .i64 n) ∧ Drew w w'

end Go.Proofs.Ytcfahmffboipiaa
