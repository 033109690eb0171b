import Derived.Test.YtkjmpkincaainabRows
import Derived.WalkKit
import Derived.LoopTactic
import Derived.Outline
import Derived.WalkSpells
import Derived.WalkLawsBesides
import Derived.ProofKit
import Derived.Lib.Hide
import Derived.Deep.QuietTactic
import Derived.BigQuiet
import Derived.Test.YtkjmpkincaainabLib
import Derived.Test.YtkjmpkincaainabGen
import Derived.Test.YtkjmpkincaainabExact
import Derived.Test.YtkjmpkincaainabMark
import Derived.Test.YtkjmpkincaainabArr
import Derived.Test.YtkjmpkincaainabOwn1
import Derived.Test.YtkjmpkincaainabUp
import Derived.Test.YtkjmpkincaainabNetM
import Derived.Test.YtkjmpkincaainabVal2
import Derived.Test.YtkjmpkincaainabEx
namespace Go.Proofs.Ytkjmpkincaainab
open Go.RowKit Go.WideShapes

theorem Try.infoIntT : (Try.prog.info? 3).map (fun i => (i.zero, i.size, i.bytes)) = some (some (.int .i64 0), 1, 8) := by kernel_rfl

theorem stocks_no {s : Int} {ms ws : List Int} (h : stocksFine s ms ws = false) : stocksM s ms ws = [] := by unfold stocksM; rw [h]; rfl
theorem stocks_yes {s : Int} {ms ws : List Int} (h : stocksFine s ms ws = true) : stocksM s ms ws = tab (fun q => stockTo ms ws s (q + 1)) ws.length := by unfold stocksM; rw [h]; rfl
theorem stocksM_len (s : Int) (ms ws : List Int) : (stocksM s ms ws).length ≤ 1048576 := by
  unfold stocksM
  split
  · rename_i h
    simp only [stocksFine, stocksIn, Bool.and_eq_true] at h
    have := validDays_len h.1.1.2
    rw [tab_length]; omega
  · simp
theorem resPostB_none {w w' : World} (h : Below w.heap.size w w') : ResPostB w [] false (.returned (.tuple #[.slice none 0 0, .bool false])) w' :=
  ⟨none, 0, 0, rfl, ⟨rfl, Nat.zero_le _, fun h => absurd h (by omega)⟩, ⟨Nat.zero_le _, fun h => absurd h (by omega)⟩, h⟩
theorem newIntsB_none {w w' : World} (h : Below w.heap.size w w') : NewIntsB w [] false (.returned (.tuple #[.slice none 0 0, .bool false])) w' :=
  ⟨none, 0, 0, rfl, ⟨rfl, Nat.zero_le _, fun h => absurd h (by omega)⟩, Nat.le_refl _, h⟩
theorem newIntsB_of {w w' : World} {xs : List Int} {b : Bool} {a : Option Addr} {len cap : Nat} (h : NewInts w xs (.returned (.slice a len cap)) w') : NewIntsB w xs b (.returned (.tuple #[.slice a len cap, .bool b])) w' := by
  obtain ⟨a', l', c', e, h1, h2, h3⟩ := h
  simp only [Ending.returned.injEq, Value.slice.injEq] at e
  obtain ⟨rfl, rfl, rfl⟩ := e
  exact ⟨_, _, _, rfl, h1, h2, h3⟩

def stocksMB (s : Int) (ms ws : List Int) : Bool := stocksFine s ms ws

end Go.Proofs.Ytkjmpkincaainab
