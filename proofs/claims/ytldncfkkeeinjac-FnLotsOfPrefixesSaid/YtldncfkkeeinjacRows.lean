/-
  No cell of these rows narrows 'for every input' (looked for: loops, veiled, ifaces, maps, wideKeys, modest, calm, conditions, laid).
  DERIVED. THE GIVEN ROWS OF THIS SEAT. 4 by the template 'for every input the law returns true; each argument reads behind the call as it read before'; 0 by the template 'total and deterministic' (their statements: YtldncfkkeeinjacTotals.lean).
  GIVEN WITH THE SEED: the statements are not yours to turn. If you find one false, say at which input.
  Laid BY PROGRAM, IN A SANDBOX (cutbox-rows.mjs): the forced cells as the released guide's own fill.sh prints them over the translation f3416bf677881ee0… (all of the seat's roots in one cut). By AI agents, Wed Nov 11 2026. No macro, syntax, notation, axiom, sorry.
-/
import Derived.Test.YtldncfkkeeinjacChecked
import GoSem.Claim
import GoSem.ClaimJoined
import GoSem.ClaimMapViews
import Derived.JoinedTies
import Derived.KernelRfl
namespace Go.Proofs.Ytldncfkkeeinjac
/- THE CELL 'sum', in the pinned program and in every row, IS THE sha256 OF THE DUMP (.gsa) THAT YtldncfkkeeinjacProg.lean LOADS. Nothing in Lean hashes anything: it is a label: what it is worth is what the hold of that sum in a sandbox is worth. -/
noncomputable def Try.pinned : Pinned := { name := "ytldncfkkeeinjac", sum := "f3416bf677881ee0d2ec5b556e9274be294f44452f44a842d6a354b697266709", checked := Try.checked }
namespace Rows
def none {H : Type} : Left H := { results := [], args := [] }

/-- 'laws.FnMeanLots': WHATEVER THE INPUT: true; the input reads as it did. -/
def fnMeanLotsSpec : ChangeSpec := { name := "fnMeanLots", fn := fun _ => fun
  | [d] => { results := [.lit (.bool true)], args := [d] }
  | _ => none }
def fnMeanLotsRow : OpenClaim := { program := "ytldncfkkeeinjac", sum := "f3416bf677881ee0d2ec5b556e9274be294f44452f44a842d6a354b697266709", func := "loop.example/shopsthatmake/laws.FnMeanLots", spec := "fnMeanLots", unfollowed := true, recurses := true, apart := false }
def FnMeanLotsSaid : Prop := fnMeanLotsRow.holds Try.pinned (OpenSpec.ofChange fnMeanLotsSpec)

/-- ITS FALSE NEIGHBOUR: 'it returns false'. Refute it at one input. -/
def fnMeanLotsWrong : ChangeSpec := { name := "fnMeanLots", fn := fun _ => fun
  | [d] => { results := [.lit (.bool false)], args := [d] }
  | _ => none }
def FnMeanLotsWrongFalsely : Prop := fnMeanLotsRow.holds Try.pinned (OpenSpec.ofChange fnMeanLotsWrong)

/-- 'laws.FnExactMeanLots': WHATEVER THE INPUT: true; the input reads as it did. -/
def fnExactMeanLotsSpec : ChangeSpec := { name := "fnExactMeanLots", fn := fun _ => fun
  | [d1, d2, d3] => { results := [.lit (.bool true)], args := [d1, d2, d3] }
  | _ => none }
def fnExactMeanLotsRow : OpenClaim := { program := "ytldncfkkeeinjac", sum := "f3416bf677881ee0d2ec5b556e9274be294f44452f44a842d6a354b697266709", func := "loop.example/shopsthatmake/laws.FnExactMeanLots", spec := "fnExactMeanLots", unfollowed := true, recurses := true, apart := false }
def FnExactMeanLotsSaid : Prop := fnExactMeanLotsRow.holds Try.pinned (OpenSpec.ofChange fnExactMeanLotsSpec)

/-- ITS FALSE NEIGHBOUR: 'it returns false'. Refute it at one input. -/
def fnExactMeanLotsWrong : ChangeSpec := { name := "fnExactMeanLots", fn := fun _ => fun
  | [d1, d2, d3] => { results := [.lit (.bool false)], args := [d1, d2, d3] }
  | _ => none }
def FnExactMeanLotsWrongFalsely : Prop := fnExactMeanLotsRow.holds Try.pinned (OpenSpec.ofChange fnExactMeanLotsWrong)

/-- 'laws.FnLotsOfPrefixes': WHATEVER THE INPUT: true; the input reads as it did. -/
def fnLotsOfPrefixesSpec : ChangeSpec := { name := "fnLotsOfPrefixes", fn := fun _ => fun
  | [d] => { results := [.lit (.bool true)], args := [d] }
  | _ => none }
def fnLotsOfPrefixesRow : OpenClaim := { program := "ytldncfkkeeinjac", sum := "f3416bf677881ee0d2ec5b556e9274be294f44452f44a842d6a354b697266709", func := "loop.example/shopsthatmake/laws.FnLotsOfPrefixes", spec := "fnLotsOfPrefixes", unfollowed := true, recurses := true, apart := false }
def FnLotsOfPrefixesSaid : Prop := fnLotsOfPrefixesRow.holds Try.pinned (OpenSpec.ofChange fnLotsOfPrefixesSpec)

/-- ITS FALSE NEIGHBOUR: 'it returns false'. Refute it at one input. -/
def fnLotsOfPrefixesWrong : ChangeSpec := { name := "fnLotsOfPrefixes", fn := fun _ => fun
  | [d] => { results := [.lit (.bool false)], args := [d] }
  | _ => none }
def FnLotsOfPrefixesWrongFalsely : Prop := fnLotsOfPrefixesRow.holds Try.pinned (OpenSpec.ofChange fnLotsOfPrefixesWrong)

/-- 'laws.FnDearSetsAreFew': WHATEVER THE INPUT: true; the input reads as it did. -/
def fnDearSetsAreFewSpec : ChangeSpec := { name := "fnDearSetsAreFew", fn := fun _ => fun
  | [d] => { results := [.lit (.bool true)], args := [d] }
  | _ => none }
def fnDearSetsAreFewRow : OpenClaim := { program := "ytldncfkkeeinjac", sum := "f3416bf677881ee0d2ec5b556e9274be294f44452f44a842d6a354b697266709", func := "loop.example/shopsthatmake/laws.FnDearSetsAreFew", spec := "fnDearSetsAreFew", unfollowed := true, recurses := true, apart := false }
def FnDearSetsAreFewSaid : Prop := fnDearSetsAreFewRow.holds Try.pinned (OpenSpec.ofChange fnDearSetsAreFewSpec)

/-- ITS FALSE NEIGHBOUR: 'it returns false'. Refute it at one input. -/
def fnDearSetsAreFewWrong : ChangeSpec := { name := "fnDearSetsAreFew", fn := fun _ => fun
  | [d] => { results := [.lit (.bool false)], args := [d] }
  | _ => none }
def FnDearSetsAreFewWrongFalsely : Prop := fnDearSetsAreFewRow.holds Try.pinned (OpenSpec.ofChange fnDearSetsAreFewWrong)

/- THE SECOND FORM. 'bulk': how many values and letters a reading holds, each counted each time it is reached (what is shared counts as often as it is met; a slice's spare places count too). A statement '..UptoSaid' is the law's where the arguments, and the package variables that the reading takes, are together of bulk at most 1048576: NARROWER than '..Said'. Prove '..Said' where nothing that the law and all that it calls make is longer than what came in: it says more and counts as full. Else prove '..UptoSaid'. A law counts once. -/
mutual
def uptoBulk {H : Type} : DataW H → Nat
  | .lit (.string bytes) => bytes.length + 1
  | .lit _ => 1
  | .nil => 1
  | .ptr d => uptoBulk d + 1
  | .slice elems spare => uptoBulkAll elems + uptoBulkAll spare + 1
  | .agg parts => uptoBulkAll parts + 1
  | .iface _ d => uptoBulk d + 1
  | .map entries => uptoBulkEntries entries + 1
  | .held _ => 1
def uptoBulkAll {H : Type} : List (DataW H) → Nat
  | [] => 0
  | d :: r => uptoBulk d + uptoBulkAll r
def uptoBulkEntries {H : Type} : List (Lit × DataW H) → Nat
  | [] => 0
  | x :: r => uptoBulkEntry x + uptoBulkEntries r
def uptoBulkEntry {H : Type} : Lit × DataW H → Nat
  | (.string bytes, d) => bytes.length + uptoBulk d + 1
  | (_, d) => uptoBulk d + 1
 end
def uptoSmall : (H : Type) → List (DataW H) → Bool := fun _ ds => decide (uptoBulkAll ds ≤ 1048576)
def OpenSpec.upto (s : _root_.Go.ChangeSpec) : _root_.Go.OpenSpec := { _root_.Go.OpenSpec.ofChange s with cond := some uptoSmall }

/-- 'laws.FnMeanLots', WHERE WHAT IT READS IS OF BULK AT MOST 1048576: true; the input reads as it did. -/
def fnMeanLotsUptoRow : OpenClaim := { program := "ytldncfkkeeinjac", sum := "f3416bf677881ee0d2ec5b556e9274be294f44452f44a842d6a354b697266709", func := "loop.example/shopsthatmake/laws.FnMeanLots", spec := "fnMeanLots", unfollowed := true, recurses := true, apart := false, narrowed := true }
def FnMeanLotsUptoSaid : Prop := fnMeanLotsUptoRow.holds Try.pinned (OpenSpec.upto fnMeanLotsSpec)

/-- 'laws.FnExactMeanLots', WHERE WHAT IT READS IS OF BULK AT MOST 1048576: true; the input reads as it did. -/
def fnExactMeanLotsUptoRow : OpenClaim := { program := "ytldncfkkeeinjac", sum := "f3416bf677881ee0d2ec5b556e9274be294f44452f44a842d6a354b697266709", func := "loop.example/shopsthatmake/laws.FnExactMeanLots", spec := "fnExactMeanLots", unfollowed := true, recurses := true, apart := false, narrowed := true }
def FnExactMeanLotsUptoSaid : Prop := fnExactMeanLotsUptoRow.holds Try.pinned (OpenSpec.upto fnExactMeanLotsSpec)

/-- 'laws.FnLotsOfPrefixes', WHERE WHAT IT READS IS OF BULK AT MOST 1048576: true; the input reads as it did. -/
def fnLotsOfPrefixesUptoRow : OpenClaim := { program := "ytldncfkkeeinjac", sum := "f3416bf677881ee0d2ec5b556e9274be294f44452f44a842d6a354b697266709", func := "loop.example/shopsthatmake/laws.FnLotsOfPrefixes", spec := "fnLotsOfPrefixes", unfollowed := true, recurses := true, apart := false, narrowed := true }
def FnLotsOfPrefixesUptoSaid : Prop := fnLotsOfPrefixesUptoRow.holds Try.pinned (OpenSpec.upto fnLotsOfPrefixesSpec)

/-- 'laws.FnDearSetsAreFew', WHERE WHAT IT READS IS OF BULK AT MOST 1048576: true; the input reads as it did. -/
def fnDearSetsAreFewUptoRow : OpenClaim := { program := "ytldncfkkeeinjac", sum := "f3416bf677881ee0d2ec5b556e9274be294f44452f44a842d6a354b697266709", func := "loop.example/shopsthatmake/laws.FnDearSetsAreFew", spec := "fnDearSetsAreFew", unfollowed := true, recurses := true, apart := false, narrowed := true }
def FnDearSetsAreFewUptoSaid : Prop := fnDearSetsAreFewUptoRow.holds Try.pinned (OpenSpec.upto fnDearSetsAreFewSpec)

end Rows
end Go.Proofs.Ytldncfkkeeinjac
