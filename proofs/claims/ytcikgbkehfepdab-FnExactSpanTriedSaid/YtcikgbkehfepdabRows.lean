/-
  No cell of these rows narrows 'for every input' (looked for: loops, veiled, ifaces, maps, wideKeys, modest, calm, conditions, laid).
  DERIVED. THE GIVEN ROWS OF THIS SEAT. 4 by the template 'for every input the law returns true; each argument reads behind the call as it read before'; 0 by the template 'total and deterministic' (their statements: YtcikgbkehfepdabTotals.lean).
  GIVEN WITH THE SEED: the statements are not yours to turn. If you find one false, say at which input.
  Laid BY PROGRAM, IN A SANDBOX (cutbox-rows.mjs): the forced cells as the released guide's own fill.sh prints them over the translation e771f1a71e68df9b… (all of the seat's roots in one cut). By AI agents, Wed Nov 11 2026. No macro, syntax, notation, axiom, sorry.
-/
import Derived.Test.YtcikgbkehfepdabChecked
import GoSem.Claim
import GoSem.ClaimJoined
import GoSem.ClaimMapViews
import Derived.JoinedTies
import Derived.KernelRfl
namespace Go.Proofs.Ytcikgbkehfepdab
/- THE CELL 'sum', in the pinned program and in every row, IS THE sha256 OF THE DUMP (.gsa) THAT YtcikgbkehfepdabProg.lean LOADS. Nothing in Lean hashes anything: it is a label: what it is worth is what the hold of that sum in a sandbox is worth. -/
noncomputable def Try.pinned : Pinned := { name := "ytcikgbkehfepdab", sum := "e771f1a71e68df9b2f961b2d81d2b73fc1b9241cbfa9a606781b14da380dbbb0", checked := Try.checked }
namespace Rows
def none {H : Type} : Left H := { results := [], args := [] }

/-- 'laws.FnSpanByTurns': WHATEVER THE INPUT: true; the input reads as it did. -/
def fnSpanByTurnsSpec : ChangeSpec := { name := "fnSpanByTurns", fn := fun _ => fun
  | [d] => { results := [.lit (.bool true)], args := [d] }
  | _ => none }
def fnSpanByTurnsRow : OpenClaim := { program := "ytcikgbkehfepdab", sum := "e771f1a71e68df9b2f961b2d81d2b73fc1b9241cbfa9a606781b14da380dbbb0", func := "loop.example/shopsthatmake/laws.FnSpanByTurns", spec := "fnSpanByTurns", unfollowed := true, recurses := true, apart := false }
def FnSpanByTurnsSaid : Prop := fnSpanByTurnsRow.holds Try.pinned (OpenSpec.ofChange fnSpanByTurnsSpec)

/-- ITS FALSE NEIGHBOUR: 'it returns false'. Refute it at one input. -/
def fnSpanByTurnsWrong : ChangeSpec := { name := "fnSpanByTurns", fn := fun _ => fun
  | [d] => { results := [.lit (.bool false)], args := [d] }
  | _ => none }
def FnSpanByTurnsWrongFalsely : Prop := fnSpanByTurnsRow.holds Try.pinned (OpenSpec.ofChange fnSpanByTurnsWrong)

/-- 'laws.FnExactSpanByTurns': WHATEVER THE INPUT: true; the input reads as it did. -/
def fnExactSpanByTurnsSpec : ChangeSpec := { name := "fnExactSpanByTurns", fn := fun _ => fun
  | [d1, d2] => { results := [.lit (.bool true)], args := [d1, d2] }
  | _ => none }
def fnExactSpanByTurnsRow : OpenClaim := { program := "ytcikgbkehfepdab", sum := "e771f1a71e68df9b2f961b2d81d2b73fc1b9241cbfa9a606781b14da380dbbb0", func := "loop.example/shopsthatmake/laws.FnExactSpanByTurns", spec := "fnExactSpanByTurns", apart := false }
def FnExactSpanByTurnsSaid : Prop := fnExactSpanByTurnsRow.holds Try.pinned (OpenSpec.ofChange fnExactSpanByTurnsSpec)

/-- ITS FALSE NEIGHBOUR: 'it returns false'. Refute it at one input. -/
def fnExactSpanByTurnsWrong : ChangeSpec := { name := "fnExactSpanByTurns", fn := fun _ => fun
  | [d1, d2] => { results := [.lit (.bool false)], args := [d1, d2] }
  | _ => none }
def FnExactSpanByTurnsWrongFalsely : Prop := fnExactSpanByTurnsRow.holds Try.pinned (OpenSpec.ofChange fnExactSpanByTurnsWrong)

/-- 'laws.FnSpanTried': WHATEVER THE INPUT: true; the input reads as it did. -/
def fnSpanTriedSpec : ChangeSpec := { name := "fnSpanTried", fn := fun _ => fun
  | [d] => { results := [.lit (.bool true)], args := [d] }
  | _ => none }
def fnSpanTriedRow : OpenClaim := { program := "ytcikgbkehfepdab", sum := "e771f1a71e68df9b2f961b2d81d2b73fc1b9241cbfa9a606781b14da380dbbb0", func := "loop.example/shopsthatmake/laws.FnSpanTried", spec := "fnSpanTried", unfollowed := true, recurses := true, apart := false }
def FnSpanTriedSaid : Prop := fnSpanTriedRow.holds Try.pinned (OpenSpec.ofChange fnSpanTriedSpec)

/-- ITS FALSE NEIGHBOUR: 'it returns false'. Refute it at one input. -/
def fnSpanTriedWrong : ChangeSpec := { name := "fnSpanTried", fn := fun _ => fun
  | [d] => { results := [.lit (.bool false)], args := [d] }
  | _ => none }
def FnSpanTriedWrongFalsely : Prop := fnSpanTriedRow.holds Try.pinned (OpenSpec.ofChange fnSpanTriedWrong)

/-- 'laws.FnExactSpanTried': WHATEVER THE INPUT: true; the input reads as it did. -/
def fnExactSpanTriedSpec : ChangeSpec := { name := "fnExactSpanTried", fn := fun _ => fun
  | [d] => { results := [.lit (.bool true)], args := [d] }
  | _ => none }
def fnExactSpanTriedRow : OpenClaim := { program := "ytcikgbkehfepdab", sum := "e771f1a71e68df9b2f961b2d81d2b73fc1b9241cbfa9a606781b14da380dbbb0", func := "loop.example/shopsthatmake/laws.FnExactSpanTried", spec := "fnExactSpanTried", unfollowed := true, recurses := true, apart := false }
def FnExactSpanTriedSaid : Prop := fnExactSpanTriedRow.holds Try.pinned (OpenSpec.ofChange fnExactSpanTriedSpec)

/-- ITS FALSE NEIGHBOUR: 'it returns false'. Refute it at one input. -/
def fnExactSpanTriedWrong : ChangeSpec := { name := "fnExactSpanTried", fn := fun _ => fun
  | [d] => { results := [.lit (.bool false)], args := [d] }
  | _ => none }
def FnExactSpanTriedWrongFalsely : Prop := fnExactSpanTriedRow.holds Try.pinned (OpenSpec.ofChange fnExactSpanTriedWrong)

/- THE SECOND FORM. 'bulk': how many values and letters a reading holds, each counted each time it is reached (what is shared counts as often as it is met; a slice's spare places count too). A statement '..UptoSaid' is the law's where the arguments, and the package variables that the reading takes, are together of bulk at most 1048576: NARROWER than '..Said'. Prove '..Said' where nothing that the law and all that it calls make is longer than what came in: it says more and counts as full. Else prove '..UptoSaid'. A law counts once. -/
mutual
def uptoBulk {H : Type} : DataW H → Nat
  | .lit (.string bytes) => bytes.length + 1
  | .lit _ => 1
  | .nil => 1
  | .ptr d => uptoBulk d + 1
  | .slice elems spare => uptoBulkAll elems + uptoBulkAll spare + 1
  | .agg parts => uptoBulkAll parts + 1
  | .iface _ d => uptoBulk d + 1
  | .map entries => uptoBulkEntries entries + 1
  | .held _ => 1
def uptoBulkAll {H : Type} : List (DataW H) → Nat
  | [] => 0
  | d :: r => uptoBulk d + uptoBulkAll r
def uptoBulkEntries {H : Type} : List (Lit × DataW H) → Nat
  | [] => 0
  | x :: r => uptoBulkEntry x + uptoBulkEntries r
def uptoBulkEntry {H : Type} : Lit × DataW H → Nat
  | (.string bytes, d) => bytes.length + uptoBulk d + 1
  | (_, d) => uptoBulk d + 1
 end
def uptoSmall : (H : Type) → List (DataW H) → Bool := fun _ ds => decide (uptoBulkAll ds ≤ 1048576)
def OpenSpec.upto (s : _root_.Go.ChangeSpec) : _root_.Go.OpenSpec := { _root_.Go.OpenSpec.ofChange s with cond := some uptoSmall }

/-- 'laws.FnSpanByTurns', WHERE WHAT IT READS IS OF BULK AT MOST 1048576: true; the input reads as it did. -/
def fnSpanByTurnsUptoRow : OpenClaim := { program := "ytcikgbkehfepdab", sum := "e771f1a71e68df9b2f961b2d81d2b73fc1b9241cbfa9a606781b14da380dbbb0", func := "loop.example/shopsthatmake/laws.FnSpanByTurns", spec := "fnSpanByTurns", unfollowed := true, recurses := true, apart := false, narrowed := true }
def FnSpanByTurnsUptoSaid : Prop := fnSpanByTurnsUptoRow.holds Try.pinned (OpenSpec.upto fnSpanByTurnsSpec)

/-- 'laws.FnExactSpanByTurns', WHERE WHAT IT READS IS OF BULK AT MOST 1048576: true; the input reads as it did. -/
def fnExactSpanByTurnsUptoRow : OpenClaim := { program := "ytcikgbkehfepdab", sum := "e771f1a71e68df9b2f961b2d81d2b73fc1b9241cbfa9a606781b14da380dbbb0", func := "loop.example/shopsthatmake/laws.FnExactSpanByTurns", spec := "fnExactSpanByTurns", apart := false, narrowed := true }
def FnExactSpanByTurnsUptoSaid : Prop := fnExactSpanByTurnsUptoRow.holds Try.pinned (OpenSpec.upto fnExactSpanByTurnsSpec)

/-- 'laws.FnSpanTried', WHERE WHAT IT READS IS OF BULK AT MOST 1048576: true; the input reads as it did. -/
def fnSpanTriedUptoRow : OpenClaim := { program := "ytcikgbkehfepdab", sum := "e771f1a71e68df9b2f961b2d81d2b73fc1b9241cbfa9a606781b14da380dbbb0", func := "loop.example/shopsthatmake/laws.FnSpanTried", spec := "fnSpanTried", unfollowed := true, recurses := true, apart := false, narrowed := true }
def FnSpanTriedUptoSaid : Prop := fnSpanTriedUptoRow.holds Try.pinned (OpenSpec.upto fnSpanTriedSpec)

/-- 'laws.FnExactSpanTried', WHERE WHAT IT READS IS OF BULK AT MOST 1048576: true; the input reads as it did. -/
def fnExactSpanTriedUptoRow : OpenClaim := { program := "ytcikgbkehfepdab", sum := "e771f1a71e68df9b2f961b2d81d2b73fc1b9241cbfa9a606781b14da380dbbb0", func := "loop.example/shopsthatmake/laws.FnExactSpanTried", spec := "fnExactSpanTried", unfollowed := true, recurses := true, apart := false, narrowed := true }
def FnExactSpanTriedUptoSaid : Prop := fnExactSpanTriedUptoRow.holds Try.pinned (OpenSpec.upto fnExactSpanTriedSpec)

end Rows
end Go.Proofs.Ytcikgbkehfepdab
