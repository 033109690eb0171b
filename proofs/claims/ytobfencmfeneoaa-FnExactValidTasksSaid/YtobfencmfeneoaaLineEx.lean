import Derived.Test.YtobfencmfeneoaaRows
import Derived.WalkKit
import Derived.ProofKit
import Derived.Test.YtobfencmfeneoaaLib
import Derived.Test.YtobfencmfeneoaaResC
import Derived.Test.YtobfencmfeneoaaEx
import Derived.Test.YtobfencmfeneoaaTactSpec
import Derived.Test.YtobfencmfeneoaaFewSpec
import Derived.Test.YtobfencmfeneoaaBySpec
import Derived.Test.YtobfencmfeneoaaLineImpl
namespace Go.Proofs.Ytobfencmfeneoaa
open Go.RowKit
theorem validTasks_implV (a : Option Addr) (len cap : Nat) (T : List Int) (a2 : Option Addr) (len2 cap2 : Nat) (ys : List Int) (w : World) (ht : IntsAt w (· < w.heap.size) a len T) (hy : IntsAt w (· < w.heap.size) a2 len2 ys) (hc : len ≤ cap) (hc2 : len2 ≤ cap2) (hl : len ≤ 1048576) (hl2 : len2 ≤ 1048576) :
    Calls Try.prog 8 #[.slice a len cap, .slice a2 len2 cap2] w (ValPost w (.bool (tasksM T ys))) :=
  (validTasks_impl _ a len cap T a2 len2 cap2 ys w ht hy hc hc2 hl hl2).mono (fun _ _ h => ⟨h.1, h.2.below _⟩)
theorem validTasks_specV (a : Option Addr) (len cap : Nat) (T : List Int) (a2 : Option Addr) (len2 cap2 : Nat) (ys : List Int) (w : World) (ht : IntsAt w (· < w.heap.size) a len T) (hy : IntsAt w (· < w.heap.size) a2 len2 ys) (_hl : len ≤ 1048576) (hl2 : len2 ≤ 1048576) :
    Calls Try.prog 9 #[.slice a len cap, .slice a2 len2 cap2] w (ValPost w (.bool (tasksM T ys))) :=
  (validTasks_spec _ a a2 len cap len2 cap2 T ys w ht hy hl2).mono (fun _ _ h => ⟨h.1, h.2.below _⟩)
theorem weights_specV (a : Option Addr) (len cap : Nat) (T : List Int) (a2 : Option Addr) (len2 cap2 : Nat) (ys : List Int) (w : World) (ht : IntsAt w (· < w.heap.size) a len T) (hy : IntsAt w (· < w.heap.size) a2 len2 ys) (_hl : len ≤ 1048576) (hl2 : len2 ≤ 1048576) :
    Calls Try.prog 15 #[.slice a len cap, .slice a2 len2 cap2] w (NewInts w (weightsRes T ys)) := weightsOf_spec a a2 len cap len2 cap2 T ys w ht hy hl2
theorem weights_implR (a : Option Addr) (len cap : Nat) (T : List Int) (a2 : Option Addr) (len2 cap2 : Nat) (ys : List Int) (w : World) (ht : IntsAt w (· < w.heap.size) a len T) (hy : IntsAt w (· < w.heap.size) a2 len2 ys) (hc : len ≤ cap) (hc2 : len2 ≤ cap2) (hl : len ≤ 1048576) (hl2 : len2 ≤ 1048576) :
    Calls Try.prog 13 #[.slice a len cap, .slice a2 len2 cap2] w (ResPost w (weightsRes T ys)) := (weights_impl a len cap T a2 len2 cap2 ys w ht hy hc hc2 hl hl2).mono (fun _ _ h => h.res)
end Go.Proofs.Ytobfencmfeneoaa
