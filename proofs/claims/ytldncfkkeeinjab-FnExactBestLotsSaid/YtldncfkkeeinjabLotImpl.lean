import Derived.Test.YtldncfkkeeinjabRows
import Derived.WalkKit
import Derived.ProofKit
import Derived.Test.YtldncfkkeeinjabLib
import Derived.Test.YtldncfkkeeinjabLotSpec
import Derived.Test.YtldncfkkeeinjabBestSpec
import Derived.Test.YtldncfkkeeinjabMeanSpec
import Derived.Test.YtldncfkkeeinjabLotA
import Derived.Test.YtldncfkkeeinjabTriedImpl
import Derived.Test.YtldncfkkeeinjabLeastBy
import Derived.Test.YtldncfkkeeinjabMadeBy
import Derived.Test.YtldncfkkeeinjabResC
namespace Go.Proofs.Ytldncfkkeeinjab
open Go.RowKit
theorem bestLots_implR (a : Option Addr) (len cap : Nat) (xs : List Int) (s h : Int) (w : World) (hx : IntsAt w (· < w.heap.size) a len xs) (hcap : len ≤ cap) :
    Calls Try.prog 13 #[.slice a len cap, .int .i64 s, .int .i64 h] w (ResPost w (bestRes xs s h)) :=
  (bestLots_impl a len cap xs s h w hx hcap).mono (fun _ _ h => h.res)
end Go.Proofs.Ytldncfkkeeinjab
