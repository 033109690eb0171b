/-
  No cell of these rows narrows 'for every input' (looked for: loops, veiled, ifaces, maps, wideKeys, modest, calm, conditions, laid).
  DERIVED. THE GIVEN ROWS OF THIS SEAT. 4 by the template 'for every input the law returns true; each argument reads behind the call as it read before'; 0 by the template 'total and deterministic' (their statements: YtobfencmfeneoabTotals.lean).
  GIVEN WITH THE SEED: the statements are not yours to turn. If you find one false, say at which input.
  Laid BY PROGRAM, IN A SANDBOX (cutbox-rows.mjs): the forced cells as the released guide's own fill.sh prints them over the translation fb6ca79ed7a1845b… (all of the seat's roots in one cut). By AI agents, Wed Nov 11 2026. No macro, syntax, notation, axiom, sorry.
-/
import Derived.Test.YtobfencmfeneoabChecked
import GoSem.Claim
import GoSem.ClaimJoined
import GoSem.ClaimMapViews
import Derived.JoinedTies
import Derived.KernelRfl
namespace Go.Proofs.Ytobfencmfeneoab
/- THE CELL 'sum', in the pinned program and in every row, IS THE sha256 OF THE DUMP (.gsa) THAT YtobfencmfeneoabProg.lean LOADS. Nothing in Lean hashes anything: it is a label: what it is worth is what the hold of that sum in a sandbox is worth. -/
noncomputable def Try.pinned : Pinned := { name := "ytobfencmfeneoab", sum := "fb6ca79ed7a1845b8bfc4f26a34e0a76195642be202c43a1ae9eb38da42d78ad", checked := Try.checked }
namespace Rows
def none {H : Type} : Left H := { results := [], args := [] }

/-- 'laws.FnFewestPlaces': WHATEVER THE INPUT: true; the input reads as it did. -/
def fnFewestPlacesSpec : ChangeSpec := { name := "fnFewestPlaces", fn := fun _ => fun
  | [d] => { results := [.lit (.bool true)], args := [d] }
  | _ => none }
def fnFewestPlacesRow : OpenClaim := { program := "ytobfencmfeneoab", sum := "fb6ca79ed7a1845b8bfc4f26a34e0a76195642be202c43a1ae9eb38da42d78ad", func := "loop.example/shopsthatmake/laws.FnFewestPlaces", spec := "fnFewestPlaces", apart := false }
def FnFewestPlacesSaid : Prop := fnFewestPlacesRow.holds Try.pinned (OpenSpec.ofChange fnFewestPlacesSpec)

/-- ITS FALSE NEIGHBOUR: 'it returns false'. Refute it at one input. -/
def fnFewestPlacesWrong : ChangeSpec := { name := "fnFewestPlaces", fn := fun _ => fun
  | [d] => { results := [.lit (.bool false)], args := [d] }
  | _ => none }
def FnFewestPlacesWrongFalsely : Prop := fnFewestPlacesRow.holds Try.pinned (OpenSpec.ofChange fnFewestPlacesWrong)

/-- 'laws.FnExactFewestPlaces': WHATEVER THE INPUT: true; the input reads as it did. -/
def fnExactFewestPlacesSpec : ChangeSpec := { name := "fnExactFewestPlaces", fn := fun _ => fun
  | [d1, d2, d3] => { results := [.lit (.bool true)], args := [d1, d2, d3] }
  | _ => none }
def fnExactFewestPlacesRow : OpenClaim := { program := "ytobfencmfeneoab", sum := "fb6ca79ed7a1845b8bfc4f26a34e0a76195642be202c43a1ae9eb38da42d78ad", func := "loop.example/shopsthatmake/laws.FnExactFewestPlaces", spec := "fnExactFewestPlaces", apart := false }
def FnExactFewestPlacesSaid : Prop := fnExactFewestPlacesRow.holds Try.pinned (OpenSpec.ofChange fnExactFewestPlacesSpec)

/-- ITS FALSE NEIGHBOUR: 'it returns false'. Refute it at one input. -/
def fnExactFewestPlacesWrong : ChangeSpec := { name := "fnExactFewestPlaces", fn := fun _ => fun
  | [d1, d2, d3] => { results := [.lit (.bool false)], args := [d1, d2, d3] }
  | _ => none }
def FnExactFewestPlacesWrongFalsely : Prop := fnExactFewestPlacesRow.holds Try.pinned (OpenSpec.ofChange fnExactFewestPlacesWrong)

/-- 'laws.FnLeastTact': WHATEVER THE INPUT: true; the input reads as it did. -/
def fnLeastTactSpec : ChangeSpec := { name := "fnLeastTact", fn := fun _ => fun
  | [d] => { results := [.lit (.bool true)], args := [d] }
  | _ => none }
def fnLeastTactRow : OpenClaim := { program := "ytobfencmfeneoab", sum := "fb6ca79ed7a1845b8bfc4f26a34e0a76195642be202c43a1ae9eb38da42d78ad", func := "loop.example/shopsthatmake/laws.FnLeastTact", spec := "fnLeastTact", apart := false }
def FnLeastTactSaid : Prop := fnLeastTactRow.holds Try.pinned (OpenSpec.ofChange fnLeastTactSpec)

/-- ITS FALSE NEIGHBOUR: 'it returns false'. Refute it at one input. -/
def fnLeastTactWrong : ChangeSpec := { name := "fnLeastTact", fn := fun _ => fun
  | [d] => { results := [.lit (.bool false)], args := [d] }
  | _ => none }
def FnLeastTactWrongFalsely : Prop := fnLeastTactRow.holds Try.pinned (OpenSpec.ofChange fnLeastTactWrong)

/-- 'laws.FnExactLeastTact': WHATEVER THE INPUT: true; the input reads as it did. -/
def fnExactLeastTactSpec : ChangeSpec := { name := "fnExactLeastTact", fn := fun _ => fun
  | [d1, d2, d3] => { results := [.lit (.bool true)], args := [d1, d2, d3] }
  | _ => none }
def fnExactLeastTactRow : OpenClaim := { program := "ytobfencmfeneoab", sum := "fb6ca79ed7a1845b8bfc4f26a34e0a76195642be202c43a1ae9eb38da42d78ad", func := "loop.example/shopsthatmake/laws.FnExactLeastTact", spec := "fnExactLeastTact", apart := false }
def FnExactLeastTactSaid : Prop := fnExactLeastTactRow.holds Try.pinned (OpenSpec.ofChange fnExactLeastTactSpec)

/-- ITS FALSE NEIGHBOUR: 'it returns false'. Refute it at one input. -/
def fnExactLeastTactWrong : ChangeSpec := { name := "fnExactLeastTact", fn := fun _ => fun
  | [d1, d2, d3] => { results := [.lit (.bool false)], args := [d1, d2, d3] }
  | _ => none }
def FnExactLeastTactWrongFalsely : Prop := fnExactLeastTactRow.holds Try.pinned (OpenSpec.ofChange fnExactLeastTactWrong)

/- THE SECOND FORM. 'bulk': how many values and letters a reading holds, each counted each time it is reached (what is shared counts as often as it is met; a slice's spare places count too). A statement '..UptoSaid' is the law's where the arguments, and the package variables that the reading takes, are together of bulk at most 1048576: NARROWER than '..Said'. Prove '..Said' where nothing that the law and all that it calls make is longer than what came in: it says more and counts as full. Else prove '..UptoSaid'. A law counts once. -/
mutual
def uptoBulk {H : Type} : DataW H → Nat
  | .lit (.string bytes) => bytes.length + 1
  | .lit _ => 1
  | .nil => 1
  | .ptr d => uptoBulk d + 1
  | .slice elems spare => uptoBulkAll elems + uptoBulkAll spare + 1
  | .agg parts => uptoBulkAll parts + 1
  | .iface _ d => uptoBulk d + 1
  | .map entries => uptoBulkEntries entries + 1
  | .held _ => 1
def uptoBulkAll {H : Type} : List (DataW H) → Nat
  | [] => 0
  | d :: r => uptoBulk d + uptoBulkAll r
def uptoBulkEntries {H : Type} : List (Lit × DataW H) → Nat
  | [] => 0
  | x :: r => uptoBulkEntry x + uptoBulkEntries r
def uptoBulkEntry {H : Type} : Lit × DataW H → Nat
  | (.string bytes, d) => bytes.length + uptoBulk d + 1
  | (_, d) => uptoBulk d + 1
 end
def uptoSmall : (H : Type) → List (DataW H) → Bool := fun _ ds => decide (uptoBulkAll ds ≤ 1048576)
def OpenSpec.upto (s : _root_.Go.ChangeSpec) : _root_.Go.OpenSpec := { _root_.Go.OpenSpec.ofChange s with cond := some uptoSmall }

/-- 'laws.FnFewestPlaces', WHERE WHAT IT READS IS OF BULK AT MOST 1048576: true; the input reads as it did. -/
def fnFewestPlacesUptoRow : OpenClaim := { program := "ytobfencmfeneoab", sum := "fb6ca79ed7a1845b8bfc4f26a34e0a76195642be202c43a1ae9eb38da42d78ad", func := "loop.example/shopsthatmake/laws.FnFewestPlaces", spec := "fnFewestPlaces", apart := false, narrowed := true }
def FnFewestPlacesUptoSaid : Prop := fnFewestPlacesUptoRow.holds Try.pinned (OpenSpec.upto fnFewestPlacesSpec)

/-- 'laws.FnExactFewestPlaces', WHERE WHAT IT READS IS OF BULK AT MOST 1048576: true; the input reads as it did. -/
def fnExactFewestPlacesUptoRow : OpenClaim := { program := "ytobfencmfeneoab", sum := "fb6ca79ed7a1845b8bfc4f26a34e0a76195642be202c43a1ae9eb38da42d78ad", func := "loop.example/shopsthatmake/laws.FnExactFewestPlaces", spec := "fnExactFewestPlaces", apart := false, narrowed := true }
def FnExactFewestPlacesUptoSaid : Prop := fnExactFewestPlacesUptoRow.holds Try.pinned (OpenSpec.upto fnExactFewestPlacesSpec)

/-- 'laws.FnLeastTact', WHERE WHAT IT READS IS OF BULK AT MOST 1048576: true; the input reads as it did. -/
def fnLeastTactUptoRow : OpenClaim := { program := "ytobfencmfeneoab", sum := "fb6ca79ed7a1845b8bfc4f26a34e0a76195642be202c43a1ae9eb38da42d78ad", func := "loop.example/shopsthatmake/laws.FnLeastTact", spec := "fnLeastTact", apart := false, narrowed := true }
def FnLeastTactUptoSaid : Prop := fnLeastTactUptoRow.holds Try.pinned (OpenSpec.upto fnLeastTactSpec)

/-- 'laws.FnExactLeastTact', WHERE WHAT IT READS IS OF BULK AT MOST 1048576: true; the input reads as it did. -/
def fnExactLeastTactUptoRow : OpenClaim := { program := "ytobfencmfeneoab", sum := "fb6ca79ed7a1845b8bfc4f26a34e0a76195642be202c43a1ae9eb38da42d78ad", func := "loop.example/shopsthatmake/laws.FnExactLeastTact", spec := "fnExactLeastTact", apart := false, narrowed := true }
def FnExactLeastTactUptoSaid : Prop := fnExactLeastTactUptoRow.holds Try.pinned (OpenSpec.upto fnExactLeastTactSpec)

end Rows
end Go.Proofs.Ytobfencmfeneoab
