import Derived.Test.YtobfencmfeneoaaRows
import Derived.WalkKit
import Derived.LoopTactic
import Derived.Outline
import Derived.WalkSpells
import Derived.WalkLawsBesides
import Derived.ProofKit
import Derived.Lib.Hide
import Derived.Deep.QuietTactic
import Derived.BigQuiet
import Derived.IntWalk
import Derived.Test.YtobfencmfeneoaaBySpec
import Derived.Test.YtobfencmfeneoaaLineE
import Derived.Test.YtobfencmfeneoaaLineG
namespace Go.Proofs.Ytobfencmfeneoaa
open Go.RowKit Go.WideShapes

end Go.Proofs.Ytobfencmfeneoaa
