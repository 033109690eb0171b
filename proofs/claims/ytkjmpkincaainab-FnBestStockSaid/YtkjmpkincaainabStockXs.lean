import Derived.Test.YtkjmpkincaainabRows
import Derived.Test.YtkjmpkincaainabLib
import Derived.Test.YtkjmpkincaainabEx
import Derived.Test.YtkjmpkincaainabStockS
import Derived.Test.YtkjmpkincaainabStockC
namespace Go.Proofs.Ytkjmpkincaainab
open Go.RowKit Go.WideShapes
theorem validChances_X (a : Option Addr) (len cap : Nat) (xs : List Int) (w : World) (h : IntsAt w (· < w.heap.size) a len xs) :
    Calls Try.prog 18 #[.slice a len cap] w (ValPost w (.bool (chM xs))) :=
  (validChances_impl _ a len cap xs w h).mono fun _ _ h => ⟨h.1, by rw [← h.2]; exact Below.refl _ _⟩
theorem bestStock_Y (a : Option Addr) (len cap : Nat) (xs : List Int) (o u : Int) (w : World) (h : IntsAt w (· < w.heap.size) a len xs) :
    Calls Try.prog 7 #[.slice a len cap, .int .i64 o, .int .i64 u] w (ValPost w (.int .i64 (shareRes xs o u))) :=
  (bestStock_spec _ a len cap xs o u w h).mono fun _ _ h => ⟨h.1, by rw [← h.2]; exact Below.refl _ _⟩
theorem stockByShare_Y (a : Option Addr) (len cap : Nat) (xs : List Int) (o u : Int) (w : World) (h : IntsAt w (· < w.heap.size) a len xs) :
    Calls Try.prog 14 #[.slice a len cap, .int .i64 o, .int .i64 u] w (ValPost w (.int .i64 (shareRes xs o u))) :=
  (stockByShare_spec _ a len cap xs o u w h).mono fun _ _ h => ⟨h.1, by rw [← h.2]; exact Below.refl _ _⟩
end Go.Proofs.Ytkjmpkincaainab
