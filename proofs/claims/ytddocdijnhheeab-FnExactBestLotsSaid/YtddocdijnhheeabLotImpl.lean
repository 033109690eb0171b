import Derived.Test.YtddocdijnhheeabRows
import Derived.WalkKit
import Derived.ProofKit
import Derived.Test.YtddocdijnhheeabLib
import Derived.Test.YtddocdijnhheeabLotSpec
import Derived.Test.YtddocdijnhheeabBestSpec
import Derived.Test.YtddocdijnhheeabMeanSpec
import Derived.Test.YtddocdijnhheeabLotA
import Derived.Test.YtddocdijnhheeabTriedImpl
import Derived.Test.YtddocdijnhheeabLeastBy
import Derived.Test.YtddocdijnhheeabMadeBy
import Derived.Test.YtddocdijnhheeabResC
namespace Go.Proofs.Ytddocdijnhheeab
open Go.RowKit
theorem bestLots_implR (a : Option Addr) (len cap : Nat) (xs : List Int) (s h : Int) (w : World) (hx : IntsAt w (· < w.heap.size) a len xs) (hcap : len ≤ cap) :
    Calls Try.prog 13 #[.slice a len cap, .int .i64 s, .int .i64 h] w (ResPost w (bestRes xs s h)) :=
  (bestLots_impl a len cap xs s h w hx hcap).mono (fun _ _ h => h.res)
end Go.Proofs.Ytddocdijnhheeab
