import Derived.Test.YtobfencmfeneoabRows
import Derived.WalkKit
import Derived.LoopTactic
import Derived.Outline
import Derived.WalkSpells
import Derived.WalkLawsBesides
import Derived.Lib.Hide
import Derived.Test.YtobfencmfeneoabLib
import Derived.Test.YtobfencmfeneoabUp
namespace Go.Proofs.Ytobfencmfeneoab
open Go.RowKit

end Go.Proofs.Ytobfencmfeneoab
