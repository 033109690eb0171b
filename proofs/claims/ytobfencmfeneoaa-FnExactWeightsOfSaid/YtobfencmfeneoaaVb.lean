import Derived.Test.YtobfencmfeneoaaRows
import Derived.WalkKit
import Derived.LoopTactic
import Derived.Outline
import Derived.WalkSpells
import Derived.WalkLawsBesides
import Derived.Lib.Hide
import Derived.Test.YtobfencmfeneoaaLib
import Derived.Test.YtobfencmfeneoaaUp
namespace Go.Proofs.Ytobfencmfeneoaa
open Go.RowKit

end Go.Proofs.Ytobfencmfeneoaa
