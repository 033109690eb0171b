import Derived.Test.YtkjmpkincaainaaRows
import Derived.WalkKit
import Derived.LoopTactic
import Derived.Outline
import Derived.WalkSpells
import Derived.WalkLawsBesides
import Derived.ProofKit
import Derived.Lib.Hide
import Derived.IntWalk
import Derived.Deep.QuietTactic
import Derived.BigQuiet
import Derived.Shelf.RegionOpenPlain
import Derived.Test.YtkjmpkincaainaaLib
import Derived.Test.YtkjmpkincaainaaNetAt
import Derived.Test.YtkjmpkincaainaaTokF
import Derived.Test.YtkjmpkincaainaaDrawNet
namespace Go.Proofs.Ytkjmpkincaainaa
open Go.RowKit Go.WideShapes

def fU (T C : Nat) : Nat := T / Nat.gcd T C
def fD (T C : Nat) : Nat := C / Nat.gcd T C
theorem gcd_step {a b : Nat} : Nat.gcd a b = Nat.gcd b (a % b) := by rw [Nat.gcd_comm b, Nat.gcd_comm a b, ← Nat.gcd_rec, Nat.gcd_comm]
theorem gcd_le8 {T C : Nat} (hC : 1 ≤ C) : 1 ≤ Nat.gcd T C ∧ Nat.gcd T C ≤ C := ⟨Nat.gcd_pos_of_pos_right _ hC, Nat.le_of_dvd hC (Nat.gcd_dvd_right _ _)⟩
/-- what a call of fractions hands back -/
def FracP (w : World) (U D : Nat) (e : Ending) (w' : World) : Prop := e = .returned (.agg #[.int .i64 U, .int .i64 D]) ∧ Below w.heap.size w w'
end Go.Proofs.Ytkjmpkincaainaa
