import Derived.Test.YtkjmpkincaainaaRows
import Derived.Test.YtkjmpkincaainaaLib
import Derived.Test.YtkjmpkincaainaaEx
import Derived.Test.YtkjmpkincaainaaStockS
import Derived.Test.YtkjmpkincaainaaStockC
namespace Go.Proofs.Ytkjmpkincaainaa
open Go.RowKit Go.WideShapes
theorem validChances_X (a : Option Addr) (len cap : Nat) (xs : List Int) (w : World) (h : IntsAt w (· < w.heap.size) a len xs) :
    Calls Try.prog 9 #[.slice a len cap] w (ValPost w (.bool (chM xs))) :=
  (validChances_impl _ a len cap xs w h).mono fun _ _ h => ⟨h.1, by rw [← h.2]; exact Below.refl _ _⟩
theorem validChances_Y (a : Option Addr) (len cap : Nat) (xs : List Int) (w : World) (h : IntsAt w (· < w.heap.size) a len xs) :
    Calls Try.prog 7 #[.slice a len cap] w (ValPost w (.bool (chM xs))) :=
  (validChances_spec _ a len cap xs w h).mono fun _ _ h => ⟨h.1, by rw [← h.2]; exact Below.refl _ _⟩
theorem stockCost_Y (a : Option Addr) (len cap : Nat) (xs : List Int) (s o u : Int) (w : World) (h : IntsAt w (· < w.heap.size) a len xs) :
    Calls Try.prog 11 #[.slice a len cap, .int .i64 s, .int .i64 o, .int .i64 u] w (ValPost w (.int .i64 (stockRes xs s o u))) :=
  (stockCost_spec _ a len cap xs s o u w h).mono fun _ _ h => ⟨h.1, by rw [← h.2]; exact Below.refl _ _⟩
end Go.Proofs.Ytkjmpkincaainaa
