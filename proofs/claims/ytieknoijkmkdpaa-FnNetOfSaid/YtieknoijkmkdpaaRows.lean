/-
  No cell of these rows narrows 'for every input' (looked for: loops, veiled, ifaces, maps, wideKeys, modest, calm, conditions, laid).
  DERIVED. THE GIVEN ROWS OF THIS SEAT. 4 by the template 'for every input the law returns true; each argument reads behind the call as it read before'; 0 by the template 'total and deterministic' (their statements: YtieknoijkmkdpaaTotals.lean).
  GIVEN WITH THE SEED: the statements are not yours to turn. If you find one false, say at which input.
  Laid BY PROGRAM, IN A SANDBOX (cutbox-rows.mjs): the forced cells as the released guide's own fill.sh prints them over the translation cb0b9919af2e095c… (all of the seat's roots in one cut). By AI agents, Wed Nov 11 2026. No macro, syntax, notation, axiom, sorry.
-/
import Derived.Test.YtieknoijkmkdpaaChecked
import GoSem.Claim
import GoSem.ClaimJoined
import GoSem.ClaimMapViews
import Derived.JoinedTies
import Derived.KernelRfl
namespace Go.Proofs.Ytieknoijkmkdpaa
/- THE CELL 'sum', in the pinned program and in every row, IS THE sha256 OF THE DUMP (.gsa) THAT YtieknoijkmkdpaaProg.lean LOADS. Nothing in Lean hashes anything: it is a label: what it is worth is what the hold of that sum in a sandbox is worth. -/
noncomputable def Try.pinned : Pinned := { name := "ytieknoijkmkdpaa", sum := "cb0b9919af2e095c8cad16665cfc5d4d74be1495a0c5d3f4226000092fb08b33", checked := Try.checked }
namespace Rows
def none {H : Type} : Left H := { results := [], args := [] }

/-- 'laws.FnValidDays': WHATEVER THE INPUT: true; the input reads as it did. -/
def fnValidDaysSpec : ChangeSpec := { name := "fnValidDays", fn := fun _ => fun
  | [d] => { results := [.lit (.bool true)], args := [d] }
  | _ => none }
def fnValidDaysRow : OpenClaim := { program := "ytieknoijkmkdpaa", sum := "cb0b9919af2e095c8cad16665cfc5d4d74be1495a0c5d3f4226000092fb08b33", func := "loop.example/shopsthatmake/laws.FnValidDays", spec := "fnValidDays", apart := false }
def FnValidDaysSaid : Prop := fnValidDaysRow.holds Try.pinned (OpenSpec.ofChange fnValidDaysSpec)

/-- ITS FALSE NEIGHBOUR: 'it returns false'. Refute it at one input. -/
def fnValidDaysWrong : ChangeSpec := { name := "fnValidDays", fn := fun _ => fun
  | [d] => { results := [.lit (.bool false)], args := [d] }
  | _ => none }
def FnValidDaysWrongFalsely : Prop := fnValidDaysRow.holds Try.pinned (OpenSpec.ofChange fnValidDaysWrong)

/-- 'laws.FnExactValidDays': WHATEVER THE INPUT: true; the input reads as it did. -/
def fnExactValidDaysSpec : ChangeSpec := { name := "fnExactValidDays", fn := fun _ => fun
  | [d] => { results := [.lit (.bool true)], args := [d] }
  | _ => none }
def fnExactValidDaysRow : OpenClaim := { program := "ytieknoijkmkdpaa", sum := "cb0b9919af2e095c8cad16665cfc5d4d74be1495a0c5d3f4226000092fb08b33", func := "loop.example/shopsthatmake/laws.FnExactValidDays", spec := "fnExactValidDays", apart := false }
def FnExactValidDaysSaid : Prop := fnExactValidDaysRow.holds Try.pinned (OpenSpec.ofChange fnExactValidDaysSpec)

/-- ITS FALSE NEIGHBOUR: 'it returns false'. Refute it at one input. -/
def fnExactValidDaysWrong : ChangeSpec := { name := "fnExactValidDays", fn := fun _ => fun
  | [d] => { results := [.lit (.bool false)], args := [d] }
  | _ => none }
def FnExactValidDaysWrongFalsely : Prop := fnExactValidDaysRow.holds Try.pinned (OpenSpec.ofChange fnExactValidDaysWrong)

/-- 'laws.FnNetOf': WHATEVER THE INPUT: true; the input reads as it did. -/
def fnNetOfSpec : ChangeSpec := { name := "fnNetOf", fn := fun _ => fun
  | [d] => { results := [.lit (.bool true)], args := [d] }
  | _ => none }
def fnNetOfRow : OpenClaim := { program := "ytieknoijkmkdpaa", sum := "cb0b9919af2e095c8cad16665cfc5d4d74be1495a0c5d3f4226000092fb08b33", func := "loop.example/shopsthatmake/laws.FnNetOf", spec := "fnNetOf", apart := false }
def FnNetOfSaid : Prop := fnNetOfRow.holds Try.pinned (OpenSpec.ofChange fnNetOfSpec)

/-- ITS FALSE NEIGHBOUR: 'it returns false'. Refute it at one input. -/
def fnNetOfWrong : ChangeSpec := { name := "fnNetOf", fn := fun _ => fun
  | [d] => { results := [.lit (.bool false)], args := [d] }
  | _ => none }
def FnNetOfWrongFalsely : Prop := fnNetOfRow.holds Try.pinned (OpenSpec.ofChange fnNetOfWrong)

/-- 'laws.FnExactNetOf': WHATEVER THE INPUT: true; the input reads as it did. -/
def fnExactNetOfSpec : ChangeSpec := { name := "fnExactNetOf", fn := fun _ => fun
  | [d1, d2] => { results := [.lit (.bool true)], args := [d1, d2] }
  | _ => none }
def fnExactNetOfRow : OpenClaim := { program := "ytieknoijkmkdpaa", sum := "cb0b9919af2e095c8cad16665cfc5d4d74be1495a0c5d3f4226000092fb08b33", func := "loop.example/shopsthatmake/laws.FnExactNetOf", spec := "fnExactNetOf", apart := false }
def FnExactNetOfSaid : Prop := fnExactNetOfRow.holds Try.pinned (OpenSpec.ofChange fnExactNetOfSpec)

/-- ITS FALSE NEIGHBOUR: 'it returns false'. Refute it at one input. -/
def fnExactNetOfWrong : ChangeSpec := { name := "fnExactNetOf", fn := fun _ => fun
  | [d1, d2] => { results := [.lit (.bool false)], args := [d1, d2] }
  | _ => none }
def FnExactNetOfWrongFalsely : Prop := fnExactNetOfRow.holds Try.pinned (OpenSpec.ofChange fnExactNetOfWrong)

/- THE SECOND FORM. 'bulk': how many values and letters a reading holds, each counted each time it is reached (what is shared counts as often as it is met; a slice's spare places count too). A statement '..UptoSaid' is the law's where the arguments, and the package variables that the reading takes, are together of bulk at most 1048576: NARROWER than '..Said'. Prove '..Said' where nothing that the law and all that it calls make is longer than what came in: it says more and counts as full. Else prove '..UptoSaid'. A law counts once. -/
mutual
def uptoBulk {H : Type} : DataW H → Nat
  | .lit (.string bytes) => bytes.length + 1
  | .lit _ => 1
  | .nil => 1
  | .ptr d => uptoBulk d + 1
  | .slice elems spare => uptoBulkAll elems + uptoBulkAll spare + 1
  | .agg parts => uptoBulkAll parts + 1
  | .iface _ d => uptoBulk d + 1
  | .map entries => uptoBulkEntries entries + 1
  | .held _ => 1
def uptoBulkAll {H : Type} : List (DataW H) → Nat
  | [] => 0
  | d :: r => uptoBulk d + uptoBulkAll r
def uptoBulkEntries {H : Type} : List (Lit × DataW H) → Nat
  | [] => 0
  | x :: r => uptoBulkEntry x + uptoBulkEntries r
def uptoBulkEntry {H : Type} : Lit × DataW H → Nat
  | (.string bytes, d) => bytes.length + uptoBulk d + 1
  | (_, d) => uptoBulk d + 1
 end
def uptoSmall : (H : Type) → List (DataW H) → Bool := fun _ ds => decide (uptoBulkAll ds ≤ 1048576)
def OpenSpec.upto (s : _root_.Go.ChangeSpec) : _root_.Go.OpenSpec := { _root_.Go.OpenSpec.ofChange s with cond := some uptoSmall }

/-- 'laws.FnValidDays', WHERE WHAT IT READS IS OF BULK AT MOST 1048576: true; the input reads as it did. -/
def fnValidDaysUptoRow : OpenClaim := { program := "ytieknoijkmkdpaa", sum := "cb0b9919af2e095c8cad16665cfc5d4d74be1495a0c5d3f4226000092fb08b33", func := "loop.example/shopsthatmake/laws.FnValidDays", spec := "fnValidDays", apart := false, narrowed := true }
def FnValidDaysUptoSaid : Prop := fnValidDaysUptoRow.holds Try.pinned (OpenSpec.upto fnValidDaysSpec)

/-- 'laws.FnExactValidDays', WHERE WHAT IT READS IS OF BULK AT MOST 1048576: true; the input reads as it did. -/
def fnExactValidDaysUptoRow : OpenClaim := { program := "ytieknoijkmkdpaa", sum := "cb0b9919af2e095c8cad16665cfc5d4d74be1495a0c5d3f4226000092fb08b33", func := "loop.example/shopsthatmake/laws.FnExactValidDays", spec := "fnExactValidDays", apart := false, narrowed := true }
def FnExactValidDaysUptoSaid : Prop := fnExactValidDaysUptoRow.holds Try.pinned (OpenSpec.upto fnExactValidDaysSpec)

/-- 'laws.FnNetOf', WHERE WHAT IT READS IS OF BULK AT MOST 1048576: true; the input reads as it did. -/
def fnNetOfUptoRow : OpenClaim := { program := "ytieknoijkmkdpaa", sum := "cb0b9919af2e095c8cad16665cfc5d4d74be1495a0c5d3f4226000092fb08b33", func := "loop.example/shopsthatmake/laws.FnNetOf", spec := "fnNetOf", apart := false, narrowed := true }
def FnNetOfUptoSaid : Prop := fnNetOfUptoRow.holds Try.pinned (OpenSpec.upto fnNetOfSpec)

/-- 'laws.FnExactNetOf', WHERE WHAT IT READS IS OF BULK AT MOST 1048576: true; the input reads as it did. -/
def fnExactNetOfUptoRow : OpenClaim := { program := "ytieknoijkmkdpaa", sum := "cb0b9919af2e095c8cad16665cfc5d4d74be1495a0c5d3f4226000092fb08b33", func := "loop.example/shopsthatmake/laws.FnExactNetOf", spec := "fnExactNetOf", apart := false, narrowed := true }
def FnExactNetOfUptoSaid : Prop := fnExactNetOfUptoRow.holds Try.pinned (OpenSpec.upto fnExactNetOfSpec)

end Rows
end Go.Proofs.Ytieknoijkmkdpaa
