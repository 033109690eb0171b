import Derived.Test.YtldncfkkeeinjacRows
import Derived.WalkKit
import Derived.ProofKit
import Derived.Test.YtldncfkkeeinjacLib
import Derived.Test.YtldncfkkeeinjacLotSpec
import Derived.Test.YtldncfkkeeinjacBestSpec
import Derived.Test.YtldncfkkeeinjacMeanSpec
import Derived.Test.YtldncfkkeeinjacLotA
import Derived.Test.YtldncfkkeeinjacTriedImpl
import Derived.Test.YtldncfkkeeinjacLeastBy
import Derived.Test.YtldncfkkeeinjacMadeBy
import Derived.Test.YtldncfkkeeinjacResC
namespace Go.Proofs.Ytldncfkkeeinjac
open Go.RowKit
theorem bestLots_implR (a : Option Addr) (len cap : Nat) (xs : List Int) (s h : Int) (w : World) (hx : IntsAt w (· < w.heap.size) a len xs) (hcap : len ≤ cap) :
    Calls Try.prog 19 #[.slice a len cap, .int .i64 s, .int .i64 h] w (ResPost w (bestRes xs s h)) :=
  (bestLots_impl a len cap xs s h w hx hcap).mono (fun _ _ h => h.res)
theorem meanLots_implR (a : Option Addr) (len cap : Nat) (xs : List Int) (s h : Int) (w : World) (hx : IntsAt w (· < w.heap.size) a len xs) (hcap : len ≤ cap) :
    Calls Try.prog 8 #[.slice a len cap, .int .i64 s, .int .i64 h] w (ResPost w (meanRes xs s h)) :=
  (meanLots_impl a len cap xs s h w hx hcap).mono (fun _ _ h => h.res)
end Go.Proofs.Ytldncfkkeeinjac
