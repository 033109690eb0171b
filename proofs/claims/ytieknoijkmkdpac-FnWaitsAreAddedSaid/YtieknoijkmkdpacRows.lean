/-
  No cell of these rows narrows 'for every input' (looked for: loops, veiled, ifaces, maps, wideKeys, modest, calm, conditions, laid).
  DERIVED. THE GIVEN ROWS OF THIS SEAT. 4 by the template 'for every input the law returns true; each argument reads behind the call as it read before'; 0 by the template 'total and deterministic' (their statements: YtieknoijkmkdpacTotals.lean).
  GIVEN WITH THE SEED: the statements are not yours to turn. If you find one false, say at which input.
  Laid BY PROGRAM, IN A SANDBOX (cutbox-rows.mjs): the forced cells as the released guide's own fill.sh prints them over the translation 28b06f4638d8949e… (all of the seat's roots in one cut). By AI agents, Wed Nov 11 2026. No macro, syntax, notation, axiom, sorry.
-/
import Derived.Test.YtieknoijkmkdpacChecked
import GoSem.Claim
import GoSem.ClaimJoined
import GoSem.ClaimMapViews
import Derived.JoinedTies
import Derived.KernelRfl
namespace Go.Proofs.Ytieknoijkmkdpac
/- THE CELL 'sum', in the pinned program and in every row, IS THE sha256 OF THE DUMP (.gsa) THAT YtieknoijkmkdpacProg.lean LOADS. Nothing in Lean hashes anything: it is a label: what it is worth is what the hold of that sum in a sandbox is worth. -/
noncomputable def Try.pinned : Pinned := { name := "ytieknoijkmkdpac", sum := "28b06f4638d8949eff4a9053bc98874387a115eca117a4c6581d8613732c2cd9", checked := Try.checked }
namespace Rows
def none {H : Type} : Left H := { results := [], args := [] }

/-- 'laws.FnStocksOf': WHATEVER THE INPUT: true; the input reads as it did. -/
def fnStocksOfSpec : ChangeSpec := { name := "fnStocksOf", fn := fun _ => fun
  | [d] => { results := [.lit (.bool true)], args := [d] }
  | _ => none }
def fnStocksOfRow : OpenClaim := { program := "ytieknoijkmkdpac", sum := "28b06f4638d8949eff4a9053bc98874387a115eca117a4c6581d8613732c2cd9", func := "loop.example/shopsthatmake/laws.FnStocksOf", spec := "fnStocksOf", apart := false }
def FnStocksOfSaid : Prop := fnStocksOfRow.holds Try.pinned (OpenSpec.ofChange fnStocksOfSpec)

/-- ITS FALSE NEIGHBOUR: 'it returns false'. Refute it at one input. -/
def fnStocksOfWrong : ChangeSpec := { name := "fnStocksOf", fn := fun _ => fun
  | [d] => { results := [.lit (.bool false)], args := [d] }
  | _ => none }
def FnStocksOfWrongFalsely : Prop := fnStocksOfRow.holds Try.pinned (OpenSpec.ofChange fnStocksOfWrong)

/-- 'laws.FnExactStocksOf': WHATEVER THE INPUT: true; the input reads as it did. -/
def fnExactStocksOfSpec : ChangeSpec := { name := "fnExactStocksOf", fn := fun _ => fun
  | [d1, d2, d3] => { results := [.lit (.bool true)], args := [d1, d2, d3] }
  | _ => none }
def fnExactStocksOfRow : OpenClaim := { program := "ytieknoijkmkdpac", sum := "28b06f4638d8949eff4a9053bc98874387a115eca117a4c6581d8613732c2cd9", func := "loop.example/shopsthatmake/laws.FnExactStocksOf", spec := "fnExactStocksOf", apart := false }
def FnExactStocksOfSaid : Prop := fnExactStocksOfRow.holds Try.pinned (OpenSpec.ofChange fnExactStocksOfSpec)

/-- ITS FALSE NEIGHBOUR: 'it returns false'. Refute it at one input. -/
def fnExactStocksOfWrong : ChangeSpec := { name := "fnExactStocksOf", fn := fun _ => fun
  | [d1, d2, d3] => { results := [.lit (.bool false)], args := [d1, d2, d3] }
  | _ => none }
def FnExactStocksOfWrongFalsely : Prop := fnExactStocksOfRow.holds Try.pinned (OpenSpec.ofChange fnExactStocksOfWrong)

/-- 'laws.FnNetsInSteps': WHATEVER THE INPUT: true; the input reads as it did. -/
def fnNetsInStepsSpec : ChangeSpec := { name := "fnNetsInSteps", fn := fun _ => fun
  | [d] => { results := [.lit (.bool true)], args := [d] }
  | _ => none }
def fnNetsInStepsRow : OpenClaim := { program := "ytieknoijkmkdpac", sum := "28b06f4638d8949eff4a9053bc98874387a115eca117a4c6581d8613732c2cd9", func := "loop.example/shopsthatmake/laws.FnNetsInSteps", spec := "fnNetsInSteps", apart := false }
def FnNetsInStepsSaid : Prop := fnNetsInStepsRow.holds Try.pinned (OpenSpec.ofChange fnNetsInStepsSpec)

/-- ITS FALSE NEIGHBOUR: 'it returns false'. Refute it at one input. -/
def fnNetsInStepsWrong : ChangeSpec := { name := "fnNetsInSteps", fn := fun _ => fun
  | [d] => { results := [.lit (.bool false)], args := [d] }
  | _ => none }
def FnNetsInStepsWrongFalsely : Prop := fnNetsInStepsRow.holds Try.pinned (OpenSpec.ofChange fnNetsInStepsWrong)

/-- 'laws.FnWaitsAreAdded': WHATEVER THE INPUT: true; the input reads as it did. -/
def fnWaitsAreAddedSpec : ChangeSpec := { name := "fnWaitsAreAdded", fn := fun _ => fun
  | [d] => { results := [.lit (.bool true)], args := [d] }
  | _ => none }
def fnWaitsAreAddedRow : OpenClaim := { program := "ytieknoijkmkdpac", sum := "28b06f4638d8949eff4a9053bc98874387a115eca117a4c6581d8613732c2cd9", func := "loop.example/shopsthatmake/laws.FnWaitsAreAdded", spec := "fnWaitsAreAdded", apart := false }
def FnWaitsAreAddedSaid : Prop := fnWaitsAreAddedRow.holds Try.pinned (OpenSpec.ofChange fnWaitsAreAddedSpec)

/-- ITS FALSE NEIGHBOUR: 'it returns false'. Refute it at one input. -/
def fnWaitsAreAddedWrong : ChangeSpec := { name := "fnWaitsAreAdded", fn := fun _ => fun
  | [d] => { results := [.lit (.bool false)], args := [d] }
  | _ => none }
def FnWaitsAreAddedWrongFalsely : Prop := fnWaitsAreAddedRow.holds Try.pinned (OpenSpec.ofChange fnWaitsAreAddedWrong)

/- THE SECOND FORM. 'bulk': how many values and letters a reading holds, each counted each time it is reached (what is shared counts as often as it is met; a slice's spare places count too). A statement '..UptoSaid' is the law's where the arguments, and the package variables that the reading takes, are together of bulk at most 1048576: NARROWER than '..Said'. Prove '..Said' where nothing that the law and all that it calls make is longer than what came in: it says more and counts as full. Else prove '..UptoSaid'. A law counts once. -/
mutual
def uptoBulk {H : Type} : DataW H → Nat
  | .lit (.string bytes) => bytes.length + 1
  | .lit _ => 1
  | .nil => 1
  | .ptr d => uptoBulk d + 1
  | .slice elems spare => uptoBulkAll elems + uptoBulkAll spare + 1
  | .agg parts => uptoBulkAll parts + 1
  | .iface _ d => uptoBulk d + 1
  | .map entries => uptoBulkEntries entries + 1
  | .held _ => 1
def uptoBulkAll {H : Type} : List (DataW H) → Nat
  | [] => 0
  | d :: r => uptoBulk d + uptoBulkAll r
def uptoBulkEntries {H : Type} : List (Lit × DataW H) → Nat
  | [] => 0
  | x :: r => uptoBulkEntry x + uptoBulkEntries r
def uptoBulkEntry {H : Type} : Lit × DataW H → Nat
  | (.string bytes, d) => bytes.length + uptoBulk d + 1
  | (_, d) => uptoBulk d + 1
 end
def uptoSmall : (H : Type) → List (DataW H) → Bool := fun _ ds => decide (uptoBulkAll ds ≤ 1048576)
def OpenSpec.upto (s : _root_.Go.ChangeSpec) : _root_.Go.OpenSpec := { _root_.Go.OpenSpec.ofChange s with cond := some uptoSmall }

/-- 'laws.FnStocksOf', WHERE WHAT IT READS IS OF BULK AT MOST 1048576: true; the input reads as it did. -/
def fnStocksOfUptoRow : OpenClaim := { program := "ytieknoijkmkdpac", sum := "28b06f4638d8949eff4a9053bc98874387a115eca117a4c6581d8613732c2cd9", func := "loop.example/shopsthatmake/laws.FnStocksOf", spec := "fnStocksOf", apart := false, narrowed := true }
def FnStocksOfUptoSaid : Prop := fnStocksOfUptoRow.holds Try.pinned (OpenSpec.upto fnStocksOfSpec)

/-- 'laws.FnExactStocksOf', WHERE WHAT IT READS IS OF BULK AT MOST 1048576: true; the input reads as it did. -/
def fnExactStocksOfUptoRow : OpenClaim := { program := "ytieknoijkmkdpac", sum := "28b06f4638d8949eff4a9053bc98874387a115eca117a4c6581d8613732c2cd9", func := "loop.example/shopsthatmake/laws.FnExactStocksOf", spec := "fnExactStocksOf", apart := false, narrowed := true }
def FnExactStocksOfUptoSaid : Prop := fnExactStocksOfUptoRow.holds Try.pinned (OpenSpec.upto fnExactStocksOfSpec)

/-- 'laws.FnNetsInSteps', WHERE WHAT IT READS IS OF BULK AT MOST 1048576: true; the input reads as it did. -/
def fnNetsInStepsUptoRow : OpenClaim := { program := "ytieknoijkmkdpac", sum := "28b06f4638d8949eff4a9053bc98874387a115eca117a4c6581d8613732c2cd9", func := "loop.example/shopsthatmake/laws.FnNetsInSteps", spec := "fnNetsInSteps", apart := false, narrowed := true }
def FnNetsInStepsUptoSaid : Prop := fnNetsInStepsUptoRow.holds Try.pinned (OpenSpec.upto fnNetsInStepsSpec)

/-- 'laws.FnWaitsAreAdded', WHERE WHAT IT READS IS OF BULK AT MOST 1048576: true; the input reads as it did. -/
def fnWaitsAreAddedUptoRow : OpenClaim := { program := "ytieknoijkmkdpac", sum := "28b06f4638d8949eff4a9053bc98874387a115eca117a4c6581d8613732c2cd9", func := "loop.example/shopsthatmake/laws.FnWaitsAreAdded", spec := "fnWaitsAreAdded", apart := false, narrowed := true }
def FnWaitsAreAddedUptoSaid : Prop := fnWaitsAreAddedUptoRow.holds Try.pinned (OpenSpec.upto fnWaitsAreAddedSpec)

end Rows
end Go.Proofs.Ytieknoijkmkdpac
