import Derived.Test.YtobfencmfeneoaaLineH
import Derived.Test.YtobfencmfeneoaaResC
namespace Go.Proofs.Ytobfencmfeneoaa
open Go.RowKit Go.WideShapes

end Go.Proofs.Ytobfencmfeneoaa
