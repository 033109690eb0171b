import Derived.Test.YtobfencmfeneoacRows
import Derived.WalkKit
import Derived.LoopTactic
import Derived.Outline
import Derived.WalkSpells
import Derived.WalkLawsBesides
import Derived.Lib.Hide
import Derived.Test.YtobfencmfeneoacLib
import Derived.Test.YtobfencmfeneoacUp
namespace Go.Proofs.Ytobfencmfeneoac
open Go.RowKit

end Go.Proofs.Ytobfencmfeneoac
