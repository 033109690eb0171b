/-
  No cell of these rows narrows 'for every input' (looked for: loops, veiled, ifaces, maps, wideKeys, modest, calm, conditions, laid).
  DERIVED. THE GIVEN ROWS OF THIS SEAT. 4 by the template 'for every input the law returns true; each argument reads behind the call as it read before'; 0 by the template 'total and deterministic' (their statements: YthmifadnfaajbaaTotals.lean).
  GIVEN WITH THE SEED: the statements are not yours to turn. If you find one false, say at which input.
  Laid BY PROGRAM, IN A SANDBOX (cutbox-rows.mjs): the forced cells as the released guide's own fill.sh prints them over the translation 2b93dccfeed11e4f… (all of the seat's roots in one cut). By AI agents, Wed Nov 11 2026. No macro, syntax, notation, axiom, sorry.
-/
import Derived.Test.YthmifadnfaajbaaChecked
import GoSem.Claim
import GoSem.ClaimJoined
import GoSem.ClaimMapViews
import Derived.JoinedTies
import Derived.KernelRfl
namespace Go.Proofs.Ythmifadnfaajbaa
/- THE CELL 'sum', in the pinned program and in every row, IS THE sha256 OF THE DUMP (.gsa) THAT YthmifadnfaajbaaProg.lean LOADS. Nothing in Lean hashes anything: it is a label: what it is worth is what the hold of that sum in a sandbox is worth. -/
noncomputable def Try.pinned : Pinned := { name := "ythmifadnfaajbaa", sum := "2b93dccfeed11e4f1020e32acf45ffadbc0fa21b3102e0d8c41e9f11fcb59170", checked := Try.checked }
namespace Rows
def none {H : Type} : Left H := { results := [], args := [] }

/-- 'laws.FnValidCuts': WHATEVER THE INPUT: true; the input reads as it did. -/
def fnValidCutsSpec : ChangeSpec := { name := "fnValidCuts", fn := fun _ => fun
  | [d] => { results := [.lit (.bool true)], args := [d] }
  | _ => none }
def fnValidCutsRow : OpenClaim := { program := "ythmifadnfaajbaa", sum := "2b93dccfeed11e4f1020e32acf45ffadbc0fa21b3102e0d8c41e9f11fcb59170", func := "loop.example/shopsthatmake/laws.FnValidCuts", spec := "fnValidCuts", apart := false }
def FnValidCutsSaid : Prop := fnValidCutsRow.holds Try.pinned (OpenSpec.ofChange fnValidCutsSpec)

/-- ITS FALSE NEIGHBOUR: 'it returns false'. Refute it at one input. -/
def fnValidCutsWrong : ChangeSpec := { name := "fnValidCuts", fn := fun _ => fun
  | [d] => { results := [.lit (.bool false)], args := [d] }
  | _ => none }
def FnValidCutsWrongFalsely : Prop := fnValidCutsRow.holds Try.pinned (OpenSpec.ofChange fnValidCutsWrong)

/-- 'laws.FnFewestRolls': WHATEVER THE INPUT: true; the input reads as it did. -/
def fnFewestRollsSpec : ChangeSpec := { name := "fnFewestRolls", fn := fun _ => fun
  | [d] => { results := [.lit (.bool true)], args := [d] }
  | _ => none }
def fnFewestRollsRow : OpenClaim := { program := "ythmifadnfaajbaa", sum := "2b93dccfeed11e4f1020e32acf45ffadbc0fa21b3102e0d8c41e9f11fcb59170", func := "loop.example/shopsthatmake/laws.FnFewestRolls", spec := "fnFewestRolls", unfollowed := true, recurses := true, apart := false }
def FnFewestRollsSaid : Prop := fnFewestRollsRow.holds Try.pinned (OpenSpec.ofChange fnFewestRollsSpec)

/-- ITS FALSE NEIGHBOUR: 'it returns false'. Refute it at one input. -/
def fnFewestRollsWrong : ChangeSpec := { name := "fnFewestRolls", fn := fun _ => fun
  | [d] => { results := [.lit (.bool false)], args := [d] }
  | _ => none }
def FnFewestRollsWrongFalsely : Prop := fnFewestRollsRow.holds Try.pinned (OpenSpec.ofChange fnFewestRollsWrong)

/-- 'laws.FnLeastRolls': WHATEVER THE INPUT: true; the input reads as it did. -/
def fnLeastRollsSpec : ChangeSpec := { name := "fnLeastRolls", fn := fun _ => fun
  | [d] => { results := [.lit (.bool true)], args := [d] }
  | _ => none }
def fnLeastRollsRow : OpenClaim := { program := "ythmifadnfaajbaa", sum := "2b93dccfeed11e4f1020e32acf45ffadbc0fa21b3102e0d8c41e9f11fcb59170", func := "loop.example/shopsthatmake/laws.FnLeastRolls", spec := "fnLeastRolls", apart := false }
def FnLeastRollsSaid : Prop := fnLeastRollsRow.holds Try.pinned (OpenSpec.ofChange fnLeastRollsSpec)

/-- ITS FALSE NEIGHBOUR: 'it returns false'. Refute it at one input. -/
def fnLeastRollsWrong : ChangeSpec := { name := "fnLeastRolls", fn := fun _ => fun
  | [d] => { results := [.lit (.bool false)], args := [d] }
  | _ => none }
def FnLeastRollsWrongFalsely : Prop := fnLeastRollsRow.holds Try.pinned (OpenSpec.ofChange fnLeastRollsWrong)

/-- 'laws.FnRollsOfOneLength': WHATEVER THE INPUT: true; the input reads as it did. -/
def fnRollsOfOneLengthSpec : ChangeSpec := { name := "fnRollsOfOneLength", fn := fun _ => fun
  | [d] => { results := [.lit (.bool true)], args := [d] }
  | _ => none }
def fnRollsOfOneLengthRow : OpenClaim := { program := "ythmifadnfaajbaa", sum := "2b93dccfeed11e4f1020e32acf45ffadbc0fa21b3102e0d8c41e9f11fcb59170", func := "loop.example/shopsthatmake/laws.FnRollsOfOneLength", spec := "fnRollsOfOneLength", unfollowed := true, recurses := true, apart := false }
def FnRollsOfOneLengthSaid : Prop := fnRollsOfOneLengthRow.holds Try.pinned (OpenSpec.ofChange fnRollsOfOneLengthSpec)

/-- ITS FALSE NEIGHBOUR: 'it returns false'. Refute it at one input. -/
def fnRollsOfOneLengthWrong : ChangeSpec := { name := "fnRollsOfOneLength", fn := fun _ => fun
  | [d] => { results := [.lit (.bool false)], args := [d] }
  | _ => none }
def FnRollsOfOneLengthWrongFalsely : Prop := fnRollsOfOneLengthRow.holds Try.pinned (OpenSpec.ofChange fnRollsOfOneLengthWrong)

/- THE SECOND FORM. 'bulk': how many values and letters a reading holds, each counted each time it is reached (what is shared counts as often as it is met; a slice's spare places count too). A statement '..UptoSaid' is the law's where the arguments, and the package variables that the reading takes, are together of bulk at most 1048576: NARROWER than '..Said'. Prove '..Said' where nothing that the law and all that it calls make is longer than what came in: it says more and counts as full. Else prove '..UptoSaid'. A law counts once. -/
mutual
def uptoBulk {H : Type} : DataW H → Nat
  | .lit (.string bytes) => bytes.length + 1
  | .lit _ => 1
  | .nil => 1
  | .ptr d => uptoBulk d + 1
  | .slice elems spare => uptoBulkAll elems + uptoBulkAll spare + 1
  | .agg parts => uptoBulkAll parts + 1
  | .iface _ d => uptoBulk d + 1
  | .map entries => uptoBulkEntries entries + 1
  | .held _ => 1
def uptoBulkAll {H : Type} : List (DataW H) → Nat
  | [] => 0
  | d :: r => uptoBulk d + uptoBulkAll r
def uptoBulkEntries {H : Type} : List (Lit × DataW H) → Nat
  | [] => 0
  | x :: r => uptoBulkEntry x + uptoBulkEntries r
def uptoBulkEntry {H : Type} : Lit × DataW H → Nat
  | (.string bytes, d) => bytes.length + uptoBulk d + 1
  | (_, d) => uptoBulk d + 1
 end
def uptoSmall : (H : Type) → List (DataW H) → Bool := fun _ ds => decide (uptoBulkAll ds ≤ 1048576)
def OpenSpec.upto (s : _root_.Go.ChangeSpec) : _root_.Go.OpenSpec := { _root_.Go.OpenSpec.ofChange s with cond := some uptoSmall }

/-- 'laws.FnValidCuts', WHERE WHAT IT READS IS OF BULK AT MOST 1048576: true; the input reads as it did. -/
def fnValidCutsUptoRow : OpenClaim := { program := "ythmifadnfaajbaa", sum := "2b93dccfeed11e4f1020e32acf45ffadbc0fa21b3102e0d8c41e9f11fcb59170", func := "loop.example/shopsthatmake/laws.FnValidCuts", spec := "fnValidCuts", apart := false, narrowed := true }
def FnValidCutsUptoSaid : Prop := fnValidCutsUptoRow.holds Try.pinned (OpenSpec.upto fnValidCutsSpec)

/-- 'laws.FnFewestRolls', WHERE WHAT IT READS IS OF BULK AT MOST 1048576: true; the input reads as it did. -/
def fnFewestRollsUptoRow : OpenClaim := { program := "ythmifadnfaajbaa", sum := "2b93dccfeed11e4f1020e32acf45ffadbc0fa21b3102e0d8c41e9f11fcb59170", func := "loop.example/shopsthatmake/laws.FnFewestRolls", spec := "fnFewestRolls", unfollowed := true, recurses := true, apart := false, narrowed := true }
def FnFewestRollsUptoSaid : Prop := fnFewestRollsUptoRow.holds Try.pinned (OpenSpec.upto fnFewestRollsSpec)

/-- 'laws.FnLeastRolls', WHERE WHAT IT READS IS OF BULK AT MOST 1048576: true; the input reads as it did. -/
def fnLeastRollsUptoRow : OpenClaim := { program := "ythmifadnfaajbaa", sum := "2b93dccfeed11e4f1020e32acf45ffadbc0fa21b3102e0d8c41e9f11fcb59170", func := "loop.example/shopsthatmake/laws.FnLeastRolls", spec := "fnLeastRolls", apart := false, narrowed := true }
def FnLeastRollsUptoSaid : Prop := fnLeastRollsUptoRow.holds Try.pinned (OpenSpec.upto fnLeastRollsSpec)

/-- 'laws.FnRollsOfOneLength', WHERE WHAT IT READS IS OF BULK AT MOST 1048576: true; the input reads as it did. -/
def fnRollsOfOneLengthUptoRow : OpenClaim := { program := "ythmifadnfaajbaa", sum := "2b93dccfeed11e4f1020e32acf45ffadbc0fa21b3102e0d8c41e9f11fcb59170", func := "loop.example/shopsthatmake/laws.FnRollsOfOneLength", spec := "fnRollsOfOneLength", unfollowed := true, recurses := true, apart := false, narrowed := true }
def FnRollsOfOneLengthUptoSaid : Prop := fnRollsOfOneLengthUptoRow.holds Try.pinned (OpenSpec.upto fnRollsOfOneLengthSpec)

end Rows
end Go.Proofs.Ythmifadnfaajbaa
