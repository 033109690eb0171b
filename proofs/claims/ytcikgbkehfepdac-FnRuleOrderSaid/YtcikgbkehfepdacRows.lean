/-
  No cell of these rows narrows 'for every input' (looked for: loops, veiled, ifaces, maps, wideKeys, modest, calm, conditions, laid).
  DERIVED. THE GIVEN ROWS OF THIS SEAT. 3 by the template 'for every input the law returns true; each argument reads behind the call as it read before'; 0 by the template 'total and deterministic' (their statements: YtcikgbkehfepdacTotals.lean).
  GIVEN WITH THE SEED: the statements are not yours to turn. If you find one false, say at which input.
  Laid BY PROGRAM, IN A SANDBOX (cutbox-rows.mjs): the forced cells as the released guide's own fill.sh prints them over the translation 8a27115f80ac311d… (all of the seat's roots in one cut). By AI agents, Wed Nov 11 2026. No macro, syntax, notation, axiom, sorry.
-/
import Derived.Test.YtcikgbkehfepdacChecked
import GoSem.Claim
import GoSem.ClaimJoined
import GoSem.ClaimMapViews
import Derived.JoinedTies
import Derived.KernelRfl
namespace Go.Proofs.Ytcikgbkehfepdac
/- THE CELL 'sum', in the pinned program and in every row, IS THE sha256 OF THE DUMP (.gsa) THAT YtcikgbkehfepdacProg.lean LOADS. Nothing in Lean hashes anything: it is a label: what it is worth is what the hold of that sum in a sandbox is worth. -/
noncomputable def Try.pinned : Pinned := { name := "ytcikgbkehfepdac", sum := "8a27115f80ac311daff3b0638a52e6569725b6582c43e043aeeb2a70bbf11bd9", checked := Try.checked }
namespace Rows
def none {H : Type} : Left H := { results := [], args := [] }

/-- 'laws.FnRuleOrder': WHATEVER THE INPUT: true; the input reads as it did. -/
def fnRuleOrderSpec : ChangeSpec := { name := "fnRuleOrder", fn := fun _ => fun
  | [d] => { results := [.lit (.bool true)], args := [d] }
  | _ => none }
def fnRuleOrderRow : OpenClaim := { program := "ytcikgbkehfepdac", sum := "8a27115f80ac311daff3b0638a52e6569725b6582c43e043aeeb2a70bbf11bd9", func := "loop.example/shopsthatmake/laws.FnRuleOrder", spec := "fnRuleOrder", unfollowed := true, recurses := true, apart := false }
def FnRuleOrderSaid : Prop := fnRuleOrderRow.holds Try.pinned (OpenSpec.ofChange fnRuleOrderSpec)

/-- ITS FALSE NEIGHBOUR: 'it returns false'. Refute it at one input. -/
def fnRuleOrderWrong : ChangeSpec := { name := "fnRuleOrder", fn := fun _ => fun
  | [d] => { results := [.lit (.bool false)], args := [d] }
  | _ => none }
def FnRuleOrderWrongFalsely : Prop := fnRuleOrderRow.holds Try.pinned (OpenSpec.ofChange fnRuleOrderWrong)

/-- 'laws.FnExactRuleOrder': WHATEVER THE INPUT: true; the input reads as it did. -/
def fnExactRuleOrderSpec : ChangeSpec := { name := "fnExactRuleOrder", fn := fun _ => fun
  | [d] => { results := [.lit (.bool true)], args := [d] }
  | _ => none }
def fnExactRuleOrderRow : OpenClaim := { program := "ytcikgbkehfepdac", sum := "8a27115f80ac311daff3b0638a52e6569725b6582c43e043aeeb2a70bbf11bd9", func := "loop.example/shopsthatmake/laws.FnExactRuleOrder", spec := "fnExactRuleOrder", unfollowed := true, recurses := true, apart := false }
def FnExactRuleOrderSaid : Prop := fnExactRuleOrderRow.holds Try.pinned (OpenSpec.ofChange fnExactRuleOrderSpec)

/-- ITS FALSE NEIGHBOUR: 'it returns false'. Refute it at one input. -/
def fnExactRuleOrderWrong : ChangeSpec := { name := "fnExactRuleOrder", fn := fun _ => fun
  | [d] => { results := [.lit (.bool false)], args := [d] }
  | _ => none }
def FnExactRuleOrderWrongFalsely : Prop := fnExactRuleOrderRow.holds Try.pinned (OpenSpec.ofChange fnExactRuleOrderWrong)

/-- 'laws.FnZeroIsNoMachine': WHATEVER THE INPUT: true; the input reads as it did. -/
def fnZeroIsNoMachineSpec : ChangeSpec := { name := "fnZeroIsNoMachine", fn := fun _ => fun
  | [d] => { results := [.lit (.bool true)], args := [d] }
  | _ => none }
def fnZeroIsNoMachineRow : OpenClaim := { program := "ytcikgbkehfepdac", sum := "8a27115f80ac311daff3b0638a52e6569725b6582c43e043aeeb2a70bbf11bd9", func := "loop.example/shopsthatmake/laws.FnZeroIsNoMachine", spec := "fnZeroIsNoMachine", unfollowed := true, recurses := true, apart := false }
def FnZeroIsNoMachineSaid : Prop := fnZeroIsNoMachineRow.holds Try.pinned (OpenSpec.ofChange fnZeroIsNoMachineSpec)

/-- ITS FALSE NEIGHBOUR: 'it returns false'. Refute it at one input. -/
def fnZeroIsNoMachineWrong : ChangeSpec := { name := "fnZeroIsNoMachine", fn := fun _ => fun
  | [d] => { results := [.lit (.bool false)], args := [d] }
  | _ => none }
def FnZeroIsNoMachineWrongFalsely : Prop := fnZeroIsNoMachineRow.holds Try.pinned (OpenSpec.ofChange fnZeroIsNoMachineWrong)

/- THE SECOND FORM. 'bulk': how many values and letters a reading holds, each counted each time it is reached (what is shared counts as often as it is met; a slice's spare places count too). A statement '..UptoSaid' is the law's where the arguments, and the package variables that the reading takes, are together of bulk at most 1048576: NARROWER than '..Said'. Prove '..Said' where nothing that the law and all that it calls make is longer than what came in: it says more and counts as full. Else prove '..UptoSaid'. A law counts once. -/
mutual
def uptoBulk {H : Type} : DataW H → Nat
  | .lit (.string bytes) => bytes.length + 1
  | .lit _ => 1
  | .nil => 1
  | .ptr d => uptoBulk d + 1
  | .slice elems spare => uptoBulkAll elems + uptoBulkAll spare + 1
  | .agg parts => uptoBulkAll parts + 1
  | .iface _ d => uptoBulk d + 1
  | .map entries => uptoBulkEntries entries + 1
  | .held _ => 1
def uptoBulkAll {H : Type} : List (DataW H) → Nat
  | [] => 0
  | d :: r => uptoBulk d + uptoBulkAll r
def uptoBulkEntries {H : Type} : List (Lit × DataW H) → Nat
  | [] => 0
  | x :: r => uptoBulkEntry x + uptoBulkEntries r
def uptoBulkEntry {H : Type} : Lit × DataW H → Nat
  | (.string bytes, d) => bytes.length + uptoBulk d + 1
  | (_, d) => uptoBulk d + 1
 end
def uptoSmall : (H : Type) → List (DataW H) → Bool := fun _ ds => decide (uptoBulkAll ds ≤ 1048576)
def OpenSpec.upto (s : _root_.Go.ChangeSpec) : _root_.Go.OpenSpec := { _root_.Go.OpenSpec.ofChange s with cond := some uptoSmall }

/-- 'laws.FnRuleOrder', WHERE WHAT IT READS IS OF BULK AT MOST 1048576: true; the input reads as it did. -/
def fnRuleOrderUptoRow : OpenClaim := { program := "ytcikgbkehfepdac", sum := "8a27115f80ac311daff3b0638a52e6569725b6582c43e043aeeb2a70bbf11bd9", func := "loop.example/shopsthatmake/laws.FnRuleOrder", spec := "fnRuleOrder", unfollowed := true, recurses := true, apart := false, narrowed := true }
def FnRuleOrderUptoSaid : Prop := fnRuleOrderUptoRow.holds Try.pinned (OpenSpec.upto fnRuleOrderSpec)

/-- 'laws.FnExactRuleOrder', WHERE WHAT IT READS IS OF BULK AT MOST 1048576: true; the input reads as it did. -/
def fnExactRuleOrderUptoRow : OpenClaim := { program := "ytcikgbkehfepdac", sum := "8a27115f80ac311daff3b0638a52e6569725b6582c43e043aeeb2a70bbf11bd9", func := "loop.example/shopsthatmake/laws.FnExactRuleOrder", spec := "fnExactRuleOrder", unfollowed := true, recurses := true, apart := false, narrowed := true }
def FnExactRuleOrderUptoSaid : Prop := fnExactRuleOrderUptoRow.holds Try.pinned (OpenSpec.upto fnExactRuleOrderSpec)

/-- 'laws.FnZeroIsNoMachine', WHERE WHAT IT READS IS OF BULK AT MOST 1048576: true; the input reads as it did. -/
def fnZeroIsNoMachineUptoRow : OpenClaim := { program := "ytcikgbkehfepdac", sum := "8a27115f80ac311daff3b0638a52e6569725b6582c43e043aeeb2a70bbf11bd9", func := "loop.example/shopsthatmake/laws.FnZeroIsNoMachine", spec := "fnZeroIsNoMachine", unfollowed := true, recurses := true, apart := false, narrowed := true }
def FnZeroIsNoMachineUptoSaid : Prop := fnZeroIsNoMachineUptoRow.holds Try.pinned (OpenSpec.upto fnZeroIsNoMachineSpec)

end Rows
end Go.Proofs.Ytcikgbkehfepdac
