/-
  No cell of these rows narrows 'for every input' (looked for: loops, veiled, ifaces, maps, wideKeys, modest, calm, conditions, laid).
  DERIVED. THE GIVEN ROWS OF THIS SEAT. 4 by the template 'for every input the law returns true; each argument reads behind the call as it read before'; 0 by the template 'total and deterministic' (their statements: YthmlgicjedhgfabTotals.lean).
  GIVEN WITH THE SEED: the statements are not yours to turn. If you find one false, say at which input.
  Laid BY PROGRAM, IN A SANDBOX (cutbox-rows.mjs): the forced cells as the released guide's own fill.sh prints them over the translation 7224b16ba83e97b8… (all of the seat's roots in one cut). By AI agents, Wed Nov 11 2026. No macro, syntax, notation, axiom, sorry.
-/
import Derived.Test.YthmlgicjedhgfabChecked
import GoSem.Claim
import GoSem.ClaimJoined
import GoSem.ClaimMapViews
import Derived.JoinedTies
import Derived.KernelRfl
namespace Go.Proofs.Ythmlgicjedhgfab
/- THE CELL 'sum', in the pinned program and in every row, IS THE sha256 OF THE DUMP (.gsa) THAT YthmlgicjedhgfabProg.lean LOADS. Nothing in Lean hashes anything: it is a label: what it is worth is what the hold of that sum in a sandbox is worth. -/
noncomputable def Try.pinned : Pinned := { name := "ythmlgicjedhgfab", sum := "7224b16ba83e97b8858ac0aaf5340424be4555c015a4c13474c913534aade86c", checked := Try.checked }
namespace Rows
def none {H : Type} : Left H := { results := [], args := [] }

/-- 'laws.FnShopTimes': WHATEVER THE INPUT: true; the input reads as it did. -/
def fnShopTimesSpec : ChangeSpec := { name := "fnShopTimes", fn := fun _ => fun
  | [d] => { results := [.lit (.bool true)], args := [d] }
  | _ => none }
def fnShopTimesRow : OpenClaim := { program := "ythmlgicjedhgfab", sum := "7224b16ba83e97b8858ac0aaf5340424be4555c015a4c13474c913534aade86c", func := "loop.example/shopsthatmake/laws.FnShopTimes", spec := "fnShopTimes", apart := false }
def FnShopTimesSaid : Prop := fnShopTimesRow.holds Try.pinned (OpenSpec.ofChange fnShopTimesSpec)

/-- ITS FALSE NEIGHBOUR: 'it returns false'. Refute it at one input. -/
def fnShopTimesWrong : ChangeSpec := { name := "fnShopTimes", fn := fun _ => fun
  | [d] => { results := [.lit (.bool false)], args := [d] }
  | _ => none }
def FnShopTimesWrongFalsely : Prop := fnShopTimesRow.holds Try.pinned (OpenSpec.ofChange fnShopTimesWrong)

/-- 'laws.FnExactShopTimes': WHATEVER THE INPUT: true; the input reads as it did. -/
def fnExactShopTimesSpec : ChangeSpec := { name := "fnExactShopTimes", fn := fun _ => fun
  | [d1, d2] => { results := [.lit (.bool true)], args := [d1, d2] }
  | _ => none }
def fnExactShopTimesRow : OpenClaim := { program := "ythmlgicjedhgfab", sum := "7224b16ba83e97b8858ac0aaf5340424be4555c015a4c13474c913534aade86c", func := "loop.example/shopsthatmake/laws.FnExactShopTimes", spec := "fnExactShopTimes", apart := false }
def FnExactShopTimesSaid : Prop := fnExactShopTimesRow.holds Try.pinned (OpenSpec.ofChange fnExactShopTimesSpec)

/-- ITS FALSE NEIGHBOUR: 'it returns false'. Refute it at one input. -/
def fnExactShopTimesWrong : ChangeSpec := { name := "fnExactShopTimes", fn := fun _ => fun
  | [d1, d2] => { results := [.lit (.bool false)], args := [d1, d2] }
  | _ => none }
def FnExactShopTimesWrongFalsely : Prop := fnExactShopTimesRow.holds Try.pinned (OpenSpec.ofChange fnExactShopTimesWrong)

/-- 'laws.FnMostTurns': WHATEVER THE INPUT: true; the input reads as it did. -/
def fnMostTurnsSpec : ChangeSpec := { name := "fnMostTurns", fn := fun _ => fun
  | [d] => { results := [.lit (.bool true)], args := [d] }
  | _ => none }
def fnMostTurnsRow : OpenClaim := { program := "ythmlgicjedhgfab", sum := "7224b16ba83e97b8858ac0aaf5340424be4555c015a4c13474c913534aade86c", func := "loop.example/shopsthatmake/laws.FnMostTurns", spec := "fnMostTurns", apart := false }
def FnMostTurnsSaid : Prop := fnMostTurnsRow.holds Try.pinned (OpenSpec.ofChange fnMostTurnsSpec)

/-- ITS FALSE NEIGHBOUR: 'it returns false'. Refute it at one input. -/
def fnMostTurnsWrong : ChangeSpec := { name := "fnMostTurns", fn := fun _ => fun
  | [d] => { results := [.lit (.bool false)], args := [d] }
  | _ => none }
def FnMostTurnsWrongFalsely : Prop := fnMostTurnsRow.holds Try.pinned (OpenSpec.ofChange fnMostTurnsWrong)

/-- 'laws.FnExactMostTurns': WHATEVER THE INPUT: true; the input reads as it did. -/
def fnExactMostTurnsSpec : ChangeSpec := { name := "fnExactMostTurns", fn := fun _ => fun
  | [d] => { results := [.lit (.bool true)], args := [d] }
  | _ => none }
def fnExactMostTurnsRow : OpenClaim := { program := "ythmlgicjedhgfab", sum := "7224b16ba83e97b8858ac0aaf5340424be4555c015a4c13474c913534aade86c", func := "loop.example/shopsthatmake/laws.FnExactMostTurns", spec := "fnExactMostTurns", apart := false }
def FnExactMostTurnsSaid : Prop := fnExactMostTurnsRow.holds Try.pinned (OpenSpec.ofChange fnExactMostTurnsSpec)

/-- ITS FALSE NEIGHBOUR: 'it returns false'. Refute it at one input. -/
def fnExactMostTurnsWrong : ChangeSpec := { name := "fnExactMostTurns", fn := fun _ => fun
  | [d] => { results := [.lit (.bool false)], args := [d] }
  | _ => none }
def FnExactMostTurnsWrongFalsely : Prop := fnExactMostTurnsRow.holds Try.pinned (OpenSpec.ofChange fnExactMostTurnsWrong)

/- THE SECOND FORM. 'bulk': how many values and letters a reading holds, each counted each time it is reached (what is shared counts as often as it is met; a slice's spare places count too). A statement '..UptoSaid' is the law's where the arguments, and the package variables that the reading takes, are together of bulk at most 1048576: NARROWER than '..Said'. Prove '..Said' where nothing that the law and all that it calls make is longer than what came in: it says more and counts as full. Else prove '..UptoSaid'. A law counts once. -/
mutual
def uptoBulk {H : Type} : DataW H → Nat
  | .lit (.string bytes) => bytes.length + 1
  | .lit _ => 1
  | .nil => 1
  | .ptr d => uptoBulk d + 1
  | .slice elems spare => uptoBulkAll elems + uptoBulkAll spare + 1
  | .agg parts => uptoBulkAll parts + 1
  | .iface _ d => uptoBulk d + 1
  | .map entries => uptoBulkEntries entries + 1
  | .held _ => 1
def uptoBulkAll {H : Type} : List (DataW H) → Nat
  | [] => 0
  | d :: r => uptoBulk d + uptoBulkAll r
def uptoBulkEntries {H : Type} : List (Lit × DataW H) → Nat
  | [] => 0
  | x :: r => uptoBulkEntry x + uptoBulkEntries r
def uptoBulkEntry {H : Type} : Lit × DataW H → Nat
  | (.string bytes, d) => bytes.length + uptoBulk d + 1
  | (_, d) => uptoBulk d + 1
 end
def uptoSmall : (H : Type) → List (DataW H) → Bool := fun _ ds => decide (uptoBulkAll ds ≤ 1048576)
def OpenSpec.upto (s : _root_.Go.ChangeSpec) : _root_.Go.OpenSpec := { _root_.Go.OpenSpec.ofChange s with cond := some uptoSmall }

/-- 'laws.FnShopTimes', WHERE WHAT IT READS IS OF BULK AT MOST 1048576: true; the input reads as it did. -/
def fnShopTimesUptoRow : OpenClaim := { program := "ythmlgicjedhgfab", sum := "7224b16ba83e97b8858ac0aaf5340424be4555c015a4c13474c913534aade86c", func := "loop.example/shopsthatmake/laws.FnShopTimes", spec := "fnShopTimes", apart := false, narrowed := true }
def FnShopTimesUptoSaid : Prop := fnShopTimesUptoRow.holds Try.pinned (OpenSpec.upto fnShopTimesSpec)

/-- 'laws.FnExactShopTimes', WHERE WHAT IT READS IS OF BULK AT MOST 1048576: true; the input reads as it did. -/
def fnExactShopTimesUptoRow : OpenClaim := { program := "ythmlgicjedhgfab", sum := "7224b16ba83e97b8858ac0aaf5340424be4555c015a4c13474c913534aade86c", func := "loop.example/shopsthatmake/laws.FnExactShopTimes", spec := "fnExactShopTimes", apart := false, narrowed := true }
def FnExactShopTimesUptoSaid : Prop := fnExactShopTimesUptoRow.holds Try.pinned (OpenSpec.upto fnExactShopTimesSpec)

/-- 'laws.FnMostTurns', WHERE WHAT IT READS IS OF BULK AT MOST 1048576: true; the input reads as it did. -/
def fnMostTurnsUptoRow : OpenClaim := { program := "ythmlgicjedhgfab", sum := "7224b16ba83e97b8858ac0aaf5340424be4555c015a4c13474c913534aade86c", func := "loop.example/shopsthatmake/laws.FnMostTurns", spec := "fnMostTurns", apart := false, narrowed := true }
def FnMostTurnsUptoSaid : Prop := fnMostTurnsUptoRow.holds Try.pinned (OpenSpec.upto fnMostTurnsSpec)

/-- 'laws.FnExactMostTurns', WHERE WHAT IT READS IS OF BULK AT MOST 1048576: true; the input reads as it did. -/
def fnExactMostTurnsUptoRow : OpenClaim := { program := "ythmlgicjedhgfab", sum := "7224b16ba83e97b8858ac0aaf5340424be4555c015a4c13474c913534aade86c", func := "loop.example/shopsthatmake/laws.FnExactMostTurns", spec := "fnExactMostTurns", apart := false, narrowed := true }
def FnExactMostTurnsUptoSaid : Prop := fnExactMostTurnsUptoRow.holds Try.pinned (OpenSpec.upto fnExactMostTurnsSpec)

end Rows
end Go.Proofs.Ythmlgicjedhgfab
