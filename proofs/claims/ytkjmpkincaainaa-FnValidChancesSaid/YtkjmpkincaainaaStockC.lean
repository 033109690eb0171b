import Derived.Test.YtkjmpkincaainaaRows
import Derived.WalkKit
import Derived.LoopTactic
import Derived.Outline
import Derived.WalkSpells
import Derived.WalkLawsBesides
import Derived.ProofKit
import Derived.Lib.Hide
import Derived.IntWalk
import Derived.Carry
import Derived.Maps.RangeWalk
import Derived.Test.YtkjmpkincaainaaLib
import Derived.Test.YtkjmpkincaainaaArr
import Derived.Test.YtkjmpkincaainaaGen
import Derived.Test.YtkjmpkincaainaaUp
import Derived.Test.YtkjmpkincaainaaLots
import Derived.Test.YtkjmpkincaainaaTokA
import Derived.Test.YtkjmpkincaainaaLotA
import Derived.Test.YtkjmpkincaainaaNetM
import Derived.Test.YtkjmpkincaainaaStockM
import Derived.Test.YtkjmpkincaainaaStockMap
import Derived.Test.YtkjmpkincaainaaStockT
import Derived.Test.YtkjmpkincaainaaStockA
import Derived.Test.YtkjmpkincaainaaStockB
namespace Go.Proofs.Ytkjmpkincaainaa
open Go.RowKit Go.WideShapes Go.Maps

end Go.Proofs.Ytkjmpkincaainaa
