import Derived.Test.YtkjmpkincaainabRows
import Derived.WalkKit
import Derived.LoopTactic
import Derived.Outline
import Derived.WalkSpells
import Derived.WalkLawsBesides
import Derived.ProofKit
import Derived.Lib.Hide
import Derived.IntWalk
import Derived.Deep.QuietTactic
import Derived.BigQuiet
import Derived.Test.YtkjmpkincaainabLib
import Derived.Test.YtkjmpkincaainabArr
import Derived.Test.YtkjmpkincaainabUp
import Derived.Test.YtkjmpkincaainabNetAt
namespace Go.Proofs.Ytkjmpkincaainab
open Go.RowKit Go.WideShapes

theorem inR {lo hi n : Int} {b : Bool} (h : inB lo hi n = b) (w : World) : Calls Try.prog 28 #[.int .i64 n, .int .i64 lo, .int .i64 hi] w fun e w' => e = .returned (.bool b) ∧ w' = w := by
  subst h; exact (inRange_any n lo hi w).mono fun _ _ h => ⟨h.1, h.2.symm⟩
end Go.Proofs.Ytkjmpkincaainab
