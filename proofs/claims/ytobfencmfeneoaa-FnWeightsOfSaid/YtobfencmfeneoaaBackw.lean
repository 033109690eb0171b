import Derived.Test.YtobfencmfeneoaaRows
import Derived.WalkKit
import Derived.LoopTactic
import Derived.Outline
import Derived.WalkSpells
import Derived.WalkLawsBesides
import Derived.ProofKit
import Derived.Lib.Hide
import Derived.Test.YtobfencmfeneoaaLib
import Derived.Test.YtobfencmfeneoaaGen
import Derived.Test.YtobfencmfeneoaaArr
import Derived.Test.YtobfencmfeneoaaOwn1
import Derived.Test.YtobfencmfeneoaaApp
namespace Go.Proofs.Ytobfencmfeneoaa
open Go.RowKit Go.WideShapes

def revM (xs : List Int) : List Int := tab (fun q => xs.getD (xs.length - 1 - q) 0) xs.length
theorem revM_length (xs : List Int) : (revM xs).length = xs.length := tab_length _ _
theorem revM_getD (xs : List Int) {q : Nat} (h : q < xs.length) : (revM xs).getD q 0 = xs.getD (xs.length - 1 - q) 0 := tab_getD _ h
end Go.Proofs.Ytobfencmfeneoaa
