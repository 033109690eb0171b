import Derived.Test.YtddocdijnhheeacRows
import Derived.WalkKit
import Derived.ProofKit
import Derived.Test.YtddocdijnhheeacLib
import Derived.Test.YtddocdijnhheeacLotSpec
import Derived.Test.YtddocdijnhheeacBestSpec
import Derived.Test.YtddocdijnhheeacMeanSpec
import Derived.Test.YtddocdijnhheeacLotA
import Derived.Test.YtddocdijnhheeacTriedImpl
import Derived.Test.YtddocdijnhheeacLeastBy
import Derived.Test.YtddocdijnhheeacMadeBy
import Derived.Test.YtddocdijnhheeacResC
namespace Go.Proofs.Ytddocdijnhheeac
open Go.RowKit
theorem bestLots_implR (a : Option Addr) (len cap : Nat) (xs : List Int) (s h : Int) (w : World) (hx : IntsAt w (· < w.heap.size) a len xs) (hcap : len ≤ cap) :
    Calls Try.prog 19 #[.slice a len cap, .int .i64 s, .int .i64 h] w (ResPost w (bestRes xs s h)) :=
  (bestLots_impl a len cap xs s h w hx hcap).mono (fun _ _ h => h.res)
theorem meanLots_implR (a : Option Addr) (len cap : Nat) (xs : List Int) (s h : Int) (w : World) (hx : IntsAt w (· < w.heap.size) a len xs) (hcap : len ≤ cap) :
    Calls Try.prog 8 #[.slice a len cap, .int .i64 s, .int .i64 h] w (ResPost w (meanRes xs s h)) :=
  (meanLots_impl a len cap xs s h w hx hcap).mono (fun _ _ h => h.res)
end Go.Proofs.Ytddocdijnhheeac
