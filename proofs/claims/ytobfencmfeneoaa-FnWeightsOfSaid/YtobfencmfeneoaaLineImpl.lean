import Derived.Test.YtobfencmfeneoaaLineD
import Derived.Test.YtobfencmfeneoaaLineI
import Derived.Test.YtobfencmfeneoaaResC
import Derived.Test.YtobfencmfeneoaaTactSpec
namespace Go.Proofs.Ytobfencmfeneoaa
open Go.RowKit Go.WideShapes

end Go.Proofs.Ytobfencmfeneoaa
