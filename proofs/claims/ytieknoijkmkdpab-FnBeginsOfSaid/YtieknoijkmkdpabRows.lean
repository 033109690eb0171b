/-
  No cell of these rows narrows 'for every input' (looked for: loops, veiled, ifaces, maps, wideKeys, modest, calm, conditions, laid).
  DERIVED. THE GIVEN ROWS OF THIS SEAT. 4 by the template 'for every input the law returns true; each argument reads behind the call as it read before'; 0 by the template 'total and deterministic' (their statements: YtieknoijkmkdpabTotals.lean).
  GIVEN WITH THE SEED: the statements are not yours to turn. If you find one false, say at which input.
  Laid BY PROGRAM, IN A SANDBOX (cutbox-rows.mjs): the forced cells as the released guide's own fill.sh prints them over the translation 96255f7e4999414d… (all of the seat's roots in one cut). By AI agents, Wed Nov 11 2026. No macro, syntax, notation, axiom, sorry.
-/
import Derived.Test.YtieknoijkmkdpabChecked
import GoSem.Claim
import GoSem.ClaimJoined
import GoSem.ClaimMapViews
import Derived.JoinedTies
import Derived.KernelRfl
namespace Go.Proofs.Ytieknoijkmkdpab
/- THE CELL 'sum', in the pinned program and in every row, IS THE sha256 OF THE DUMP (.gsa) THAT YtieknoijkmkdpabProg.lean LOADS. Nothing in Lean hashes anything: it is a label: what it is worth is what the hold of that sum in a sandbox is worth. -/
noncomputable def Try.pinned : Pinned := { name := "ytieknoijkmkdpab", sum := "96255f7e4999414dc4d93dbd773c5b5c796e6858500761e926e56259f7ad26fe", checked := Try.checked }
namespace Rows
def none {H : Type} : Left H := { results := [], args := [] }

/-- 'laws.FnLotsFor': WHATEVER THE INPUT: true; the input reads as it did. -/
def fnLotsForSpec : ChangeSpec := { name := "fnLotsFor", fn := fun _ => fun
  | [d] => { results := [.lit (.bool true)], args := [d] }
  | _ => none }
def fnLotsForRow : OpenClaim := { program := "ytieknoijkmkdpab", sum := "96255f7e4999414dc4d93dbd773c5b5c796e6858500761e926e56259f7ad26fe", func := "loop.example/shopsthatmake/laws.FnLotsFor", spec := "fnLotsFor", apart := false }
def FnLotsForSaid : Prop := fnLotsForRow.holds Try.pinned (OpenSpec.ofChange fnLotsForSpec)

/-- ITS FALSE NEIGHBOUR: 'it returns false'. Refute it at one input. -/
def fnLotsForWrong : ChangeSpec := { name := "fnLotsFor", fn := fun _ => fun
  | [d] => { results := [.lit (.bool false)], args := [d] }
  | _ => none }
def FnLotsForWrongFalsely : Prop := fnLotsForRow.holds Try.pinned (OpenSpec.ofChange fnLotsForWrong)

/-- 'laws.FnExactLotsFor': WHATEVER THE INPUT: true; the input reads as it did. -/
def fnExactLotsForSpec : ChangeSpec := { name := "fnExactLotsFor", fn := fun _ => fun
  | [d1, d2] => { results := [.lit (.bool true)], args := [d1, d2] }
  | _ => none }
def fnExactLotsForRow : OpenClaim := { program := "ytieknoijkmkdpab", sum := "96255f7e4999414dc4d93dbd773c5b5c796e6858500761e926e56259f7ad26fe", func := "loop.example/shopsthatmake/laws.FnExactLotsFor", spec := "fnExactLotsFor", apart := false }
def FnExactLotsForSaid : Prop := fnExactLotsForRow.holds Try.pinned (OpenSpec.ofChange fnExactLotsForSpec)

/-- ITS FALSE NEIGHBOUR: 'it returns false'. Refute it at one input. -/
def fnExactLotsForWrong : ChangeSpec := { name := "fnExactLotsFor", fn := fun _ => fun
  | [d1, d2] => { results := [.lit (.bool false)], args := [d1, d2] }
  | _ => none }
def FnExactLotsForWrongFalsely : Prop := fnExactLotsForRow.holds Try.pinned (OpenSpec.ofChange fnExactLotsForWrong)

/-- 'laws.FnBeginsOf': WHATEVER THE INPUT: true; the input reads as it did. -/
def fnBeginsOfSpec : ChangeSpec := { name := "fnBeginsOf", fn := fun _ => fun
  | [d] => { results := [.lit (.bool true)], args := [d] }
  | _ => none }
def fnBeginsOfRow : OpenClaim := { program := "ytieknoijkmkdpab", sum := "96255f7e4999414dc4d93dbd773c5b5c796e6858500761e926e56259f7ad26fe", func := "loop.example/shopsthatmake/laws.FnBeginsOf", spec := "fnBeginsOf", apart := false }
def FnBeginsOfSaid : Prop := fnBeginsOfRow.holds Try.pinned (OpenSpec.ofChange fnBeginsOfSpec)

/-- ITS FALSE NEIGHBOUR: 'it returns false'. Refute it at one input. -/
def fnBeginsOfWrong : ChangeSpec := { name := "fnBeginsOf", fn := fun _ => fun
  | [d] => { results := [.lit (.bool false)], args := [d] }
  | _ => none }
def FnBeginsOfWrongFalsely : Prop := fnBeginsOfRow.holds Try.pinned (OpenSpec.ofChange fnBeginsOfWrong)

/-- 'laws.FnExactBeginsOf': WHATEVER THE INPUT: true; the input reads as it did. -/
def fnExactBeginsOfSpec : ChangeSpec := { name := "fnExactBeginsOf", fn := fun _ => fun
  | [d1, d2] => { results := [.lit (.bool true)], args := [d1, d2] }
  | _ => none }
def fnExactBeginsOfRow : OpenClaim := { program := "ytieknoijkmkdpab", sum := "96255f7e4999414dc4d93dbd773c5b5c796e6858500761e926e56259f7ad26fe", func := "loop.example/shopsthatmake/laws.FnExactBeginsOf", spec := "fnExactBeginsOf", apart := false }
def FnExactBeginsOfSaid : Prop := fnExactBeginsOfRow.holds Try.pinned (OpenSpec.ofChange fnExactBeginsOfSpec)

/-- ITS FALSE NEIGHBOUR: 'it returns false'. Refute it at one input. -/
def fnExactBeginsOfWrong : ChangeSpec := { name := "fnExactBeginsOf", fn := fun _ => fun
  | [d1, d2] => { results := [.lit (.bool false)], args := [d1, d2] }
  | _ => none }
def FnExactBeginsOfWrongFalsely : Prop := fnExactBeginsOfRow.holds Try.pinned (OpenSpec.ofChange fnExactBeginsOfWrong)

/- THE SECOND FORM. 'bulk': how many values and letters a reading holds, each counted each time it is reached (what is shared counts as often as it is met; a slice's spare places count too). A statement '..UptoSaid' is the law's where the arguments, and the package variables that the reading takes, are together of bulk at most 1048576: NARROWER than '..Said'. Prove '..Said' where nothing that the law and all that it calls make is longer than what came in: it says more and counts as full. Else prove '..UptoSaid'. A law counts once. -/
mutual
def uptoBulk {H : Type} : DataW H → Nat
  | .lit (.string bytes) => bytes.length + 1
  | .lit _ => 1
  | .nil => 1
  | .ptr d => uptoBulk d + 1
  | .slice elems spare => uptoBulkAll elems + uptoBulkAll spare + 1
  | .agg parts => uptoBulkAll parts + 1
  | .iface _ d => uptoBulk d + 1
  | .map entries => uptoBulkEntries entries + 1
  | .held _ => 1
def uptoBulkAll {H : Type} : List (DataW H) → Nat
  | [] => 0
  | d :: r => uptoBulk d + uptoBulkAll r
def uptoBulkEntries {H : Type} : List (Lit × DataW H) → Nat
  | [] => 0
  | x :: r => uptoBulkEntry x + uptoBulkEntries r
def uptoBulkEntry {H : Type} : Lit × DataW H → Nat
  | (.string bytes, d) => bytes.length + uptoBulk d + 1
  | (_, d) => uptoBulk d + 1
 end
def uptoSmall : (H : Type) → List (DataW H) → Bool := fun _ ds => decide (uptoBulkAll ds ≤ 1048576)
def OpenSpec.upto (s : _root_.Go.ChangeSpec) : _root_.Go.OpenSpec := { _root_.Go.OpenSpec.ofChange s with cond := some uptoSmall }

/-- 'laws.FnLotsFor', WHERE WHAT IT READS IS OF BULK AT MOST 1048576: true; the input reads as it did. -/
def fnLotsForUptoRow : OpenClaim := { program := "ytieknoijkmkdpab", sum := "96255f7e4999414dc4d93dbd773c5b5c796e6858500761e926e56259f7ad26fe", func := "loop.example/shopsthatmake/laws.FnLotsFor", spec := "fnLotsFor", apart := false, narrowed := true }
def FnLotsForUptoSaid : Prop := fnLotsForUptoRow.holds Try.pinned (OpenSpec.upto fnLotsForSpec)

/-- 'laws.FnExactLotsFor', WHERE WHAT IT READS IS OF BULK AT MOST 1048576: true; the input reads as it did. -/
def fnExactLotsForUptoRow : OpenClaim := { program := "ytieknoijkmkdpab", sum := "96255f7e4999414dc4d93dbd773c5b5c796e6858500761e926e56259f7ad26fe", func := "loop.example/shopsthatmake/laws.FnExactLotsFor", spec := "fnExactLotsFor", apart := false, narrowed := true }
def FnExactLotsForUptoSaid : Prop := fnExactLotsForUptoRow.holds Try.pinned (OpenSpec.upto fnExactLotsForSpec)

/-- 'laws.FnBeginsOf', WHERE WHAT IT READS IS OF BULK AT MOST 1048576: true; the input reads as it did. -/
def fnBeginsOfUptoRow : OpenClaim := { program := "ytieknoijkmkdpab", sum := "96255f7e4999414dc4d93dbd773c5b5c796e6858500761e926e56259f7ad26fe", func := "loop.example/shopsthatmake/laws.FnBeginsOf", spec := "fnBeginsOf", apart := false, narrowed := true }
def FnBeginsOfUptoSaid : Prop := fnBeginsOfUptoRow.holds Try.pinned (OpenSpec.upto fnBeginsOfSpec)

/-- 'laws.FnExactBeginsOf', WHERE WHAT IT READS IS OF BULK AT MOST 1048576: true; the input reads as it did. -/
def fnExactBeginsOfUptoRow : OpenClaim := { program := "ytieknoijkmkdpab", sum := "96255f7e4999414dc4d93dbd773c5b5c796e6858500761e926e56259f7ad26fe", func := "loop.example/shopsthatmake/laws.FnExactBeginsOf", spec := "fnExactBeginsOf", apart := false, narrowed := true }
def FnExactBeginsOfUptoSaid : Prop := fnExactBeginsOfUptoRow.holds Try.pinned (OpenSpec.upto fnExactBeginsOfSpec)

end Rows
end Go.Proofs.Ytieknoijkmkdpab
