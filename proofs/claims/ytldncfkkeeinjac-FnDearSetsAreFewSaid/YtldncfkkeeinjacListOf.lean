import Derived.Test.YtldncfkkeeinjacRows
import Derived.WalkKit
import Derived.LoopTactic
import Derived.Outline
import Derived.WalkSpells
import Derived.WalkLawsBesides
import Derived.ProofKit
import Derived.Test.YtldncfkkeeinjacLib
import Derived.Test.YtldncfkkeeinjacRd
import Derived.Test.YtldncfkkeeinjacGen
import Derived.Test.YtldncfkkeeinjacPick
import Derived.Test.YtldncfkkeeinjacArr
import Derived.Test.YtldncfkkeeinjacOwn1
import Derived.Test.YtldncfkkeeinjacNetM
import Derived.Test.YtldncfkkeeinjacDays
namespace Go.Proofs.Ytldncfkkeeinjac
open Go.RowKit Go.WideShapes

/-- a list that is drawn: numbers in lo..hi -/
def ListPost (w : World) (R p n : Nat) (lo hi : Int) (e : Ending) (w' : World) : Prop := ∃ (a : Option Addr) (cap : Nat) (xs : List Int), e = .returned (.slice a n cap) ∧
  w'.ownsRow w.heap.size 3 1 (.slice a n cap) n (xs.map (.int .i64)) ∧ n ≤ cap ∧ xs.length = n ∧ (∀ x ∈ xs, lo ≤ x ∧ x ≤ hi) ∧ Rd w' R (p + n) ∧ w.grownBy w' (some R)

end Go.Proofs.Ytldncfkkeeinjac
