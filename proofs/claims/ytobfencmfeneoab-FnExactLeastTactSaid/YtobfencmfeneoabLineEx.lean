import Derived.Test.YtobfencmfeneoabRows
import Derived.WalkKit
import Derived.ProofKit
import Derived.Test.YtobfencmfeneoabLib
import Derived.Test.YtobfencmfeneoabResC
import Derived.Test.YtobfencmfeneoabEx
import Derived.Test.YtobfencmfeneoabTactSpec
import Derived.Test.YtobfencmfeneoabFewSpec
import Derived.Test.YtobfencmfeneoabBySpec
import Derived.Test.YtobfencmfeneoabLineImpl
namespace Go.Proofs.Ytobfencmfeneoab
open Go.RowKit
theorem validTasks_implV (a : Option Addr) (len cap : Nat) (T : List Int) (a2 : Option Addr) (len2 cap2 : Nat) (ys : List Int) (w : World) (ht : IntsAt w (· < w.heap.size) a len T) (hy : IntsAt w (· < w.heap.size) a2 len2 ys) (hc : len ≤ cap) (hc2 : len2 ≤ cap2) (hl : len ≤ 1048576) (hl2 : len2 ≤ 1048576) :
    Calls Try.prog 28 #[.slice a len cap, .slice a2 len2 cap2] w (ValPost w (.bool (tasksM T ys))) :=
  (validTasks_impl _ a len cap T a2 len2 cap2 ys w ht hy hc hc2 hl hl2).mono (fun _ _ h => ⟨h.1, h.2.below _⟩)
theorem fewest_specV (a : Option Addr) (len cap : Nat) (T : List Int) (a2 : Option Addr) (len2 cap2 : Nat) (ys : List Int) (c : Int) (w : World) (ht : IntsAt w (· < w.heap.size) a len T) (hy : IntsAt w (· < w.heap.size) a2 len2 ys) (_hl : len ≤ 1048576) (hl2 : len2 ≤ 1048576) :
    Calls Try.prog 9 #[.slice a len cap, .slice a2 len2 cap2, .int .i64 c] w (ValPost w (.int .i64 (fewRes T ys c))) := fewest_spec a a2 len cap len2 cap2 T ys c w ht hy hl2
theorem leastTact_specV (a : Option Addr) (len cap : Nat) (T : List Int) (a2 : Option Addr) (len2 cap2 : Nat) (ys : List Int) (p : Int) (w : World) (ht : IntsAt w (· < w.heap.size) a len T) (hy : IntsAt w (· < w.heap.size) a2 len2 ys) (_hl : len ≤ 1048576) (hl2 : len2 ≤ 1048576) :
    Calls Try.prog 17 #[.slice a len cap, .slice a2 len2 cap2, .int .i64 p] w (ValPost w (.int .i64 (tactRes T ys p))) := leastTact_spec a a2 len cap len2 cap2 T ys p w ht hy hl2
theorem weights_implR (a : Option Addr) (len cap : Nat) (T : List Int) (a2 : Option Addr) (len2 cap2 : Nat) (ys : List Int) (w : World) (ht : IntsAt w (· < w.heap.size) a len T) (hy : IntsAt w (· < w.heap.size) a2 len2 ys) (hc : len ≤ cap) (hc2 : len2 ≤ cap2) (hl : len ≤ 1048576) (hl2 : len2 ≤ 1048576) :
    Calls Try.prog 25 #[.slice a len cap, .slice a2 len2 cap2] w (ResPost w (weightsRes T ys)) := (weights_impl a len cap T a2 len2 cap2 ys w ht hy hc hc2 hl hl2).mono (fun _ _ h => h.res)
theorem placesBy_implR (a : Option Addr) (len cap : Nat) (T : List Int) (a2 : Option Addr) (len2 cap2 : Nat) (ys : List Int) (c : Int) (w : World) (ht : IntsAt w (· < w.heap.size) a len T) (hy : IntsAt w (· < w.heap.size) a2 len2 ys) (hc : len ≤ cap) (hc2 : len2 ≤ cap2) (hl : len ≤ 1048576) (hl2 : len2 ≤ 1048576) :
    Calls Try.prog 10 #[.slice a len cap, .slice a2 len2 cap2, .int .i64 c] w (ResPost w (byRes T ys c)) := (placesBy_impl a len cap T a2 len2 cap2 ys c w ht hy hc hc2 hl hl2).mono (fun _ _ h => h.res)
end Go.Proofs.Ytobfencmfeneoab
