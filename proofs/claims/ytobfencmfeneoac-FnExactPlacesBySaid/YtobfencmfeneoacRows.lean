/-
  No cell of these rows narrows 'for every input' (looked for: loops, veiled, ifaces, maps, wideKeys, modest, calm, conditions, laid).
  DERIVED. THE GIVEN ROWS OF THIS SEAT. 3 by the template 'for every input the law returns true; each argument reads behind the call as it read before'; 0 by the template 'total and deterministic' (their statements: YtobfencmfeneoacTotals.lean).
  GIVEN WITH THE SEED: the statements are not yours to turn. If you find one false, say at which input.
  Laid BY PROGRAM, IN A SANDBOX (cutbox-rows.mjs): the forced cells as the released guide's own fill.sh prints them over the translation d79c00d1c48469b2… (all of the seat's roots in one cut). By AI agents, Wed Nov 11 2026. No macro, syntax, notation, axiom, sorry.
-/
import Derived.Test.YtobfencmfeneoacChecked
import GoSem.Claim
import GoSem.ClaimJoined
import GoSem.ClaimMapViews
import Derived.JoinedTies
import Derived.KernelRfl
namespace Go.Proofs.Ytobfencmfeneoac
/- THE CELL 'sum', in the pinned program and in every row, IS THE sha256 OF THE DUMP (.gsa) THAT YtobfencmfeneoacProg.lean LOADS. Nothing in Lean hashes anything: it is a label: what it is worth is what the hold of that sum in a sandbox is worth. -/
noncomputable def Try.pinned : Pinned := { name := "ytobfencmfeneoac", sum := "d79c00d1c48469b2eda01d4a642de4f3d28eaaf987ecb536d325e965211bb6e7", checked := Try.checked }
namespace Rows
def none {H : Type} : Left H := { results := [], args := [] }

/-- 'laws.FnPlacesBy': WHATEVER THE INPUT: true; the input reads as it did. -/
def fnPlacesBySpec : ChangeSpec := { name := "fnPlacesBy", fn := fun _ => fun
  | [d] => { results := [.lit (.bool true)], args := [d] }
  | _ => none }
def fnPlacesByRow : OpenClaim := { program := "ytobfencmfeneoac", sum := "d79c00d1c48469b2eda01d4a642de4f3d28eaaf987ecb536d325e965211bb6e7", func := "loop.example/shopsthatmake/laws.FnPlacesBy", spec := "fnPlacesBy", apart := false }
def FnPlacesBySaid : Prop := fnPlacesByRow.holds Try.pinned (OpenSpec.ofChange fnPlacesBySpec)

/-- ITS FALSE NEIGHBOUR: 'it returns false'. Refute it at one input. -/
def fnPlacesByWrong : ChangeSpec := { name := "fnPlacesBy", fn := fun _ => fun
  | [d] => { results := [.lit (.bool false)], args := [d] }
  | _ => none }
def FnPlacesByWrongFalsely : Prop := fnPlacesByRow.holds Try.pinned (OpenSpec.ofChange fnPlacesByWrong)

/-- 'laws.FnExactPlacesBy': WHATEVER THE INPUT: true; the input reads as it did. -/
def fnExactPlacesBySpec : ChangeSpec := { name := "fnExactPlacesBy", fn := fun _ => fun
  | [d1, d2, d3] => { results := [.lit (.bool true)], args := [d1, d2, d3] }
  | _ => none }
def fnExactPlacesByRow : OpenClaim := { program := "ytobfencmfeneoac", sum := "d79c00d1c48469b2eda01d4a642de4f3d28eaaf987ecb536d325e965211bb6e7", func := "loop.example/shopsthatmake/laws.FnExactPlacesBy", spec := "fnExactPlacesBy", apart := false }
def FnExactPlacesBySaid : Prop := fnExactPlacesByRow.holds Try.pinned (OpenSpec.ofChange fnExactPlacesBySpec)

/-- ITS FALSE NEIGHBOUR: 'it returns false'. Refute it at one input. -/
def fnExactPlacesByWrong : ChangeSpec := { name := "fnExactPlacesBy", fn := fun _ => fun
  | [d1, d2, d3] => { results := [.lit (.bool false)], args := [d1, d2, d3] }
  | _ => none }
def FnExactPlacesByWrongFalsely : Prop := fnExactPlacesByRow.holds Try.pinned (OpenSpec.ofChange fnExactPlacesByWrong)

/-- 'laws.FnLinesTurned': WHATEVER THE INPUT: true; the input reads as it did. -/
def fnLinesTurnedSpec : ChangeSpec := { name := "fnLinesTurned", fn := fun _ => fun
  | [d] => { results := [.lit (.bool true)], args := [d] }
  | _ => none }
def fnLinesTurnedRow : OpenClaim := { program := "ytobfencmfeneoac", sum := "d79c00d1c48469b2eda01d4a642de4f3d28eaaf987ecb536d325e965211bb6e7", func := "loop.example/shopsthatmake/laws.FnLinesTurned", spec := "fnLinesTurned", apart := false }
def FnLinesTurnedSaid : Prop := fnLinesTurnedRow.holds Try.pinned (OpenSpec.ofChange fnLinesTurnedSpec)

/-- ITS FALSE NEIGHBOUR: 'it returns false'. Refute it at one input. -/
def fnLinesTurnedWrong : ChangeSpec := { name := "fnLinesTurned", fn := fun _ => fun
  | [d] => { results := [.lit (.bool false)], args := [d] }
  | _ => none }
def FnLinesTurnedWrongFalsely : Prop := fnLinesTurnedRow.holds Try.pinned (OpenSpec.ofChange fnLinesTurnedWrong)

/- THE SECOND FORM. 'bulk': how many values and letters a reading holds, each counted each time it is reached (what is shared counts as often as it is met; a slice's spare places count too). A statement '..UptoSaid' is the law's where the arguments, and the package variables that the reading takes, are together of bulk at most 1048576: NARROWER than '..Said'. Prove '..Said' where nothing that the law and all that it calls make is longer than what came in: it says more and counts as full. Else prove '..UptoSaid'. A law counts once. -/
mutual
def uptoBulk {H : Type} : DataW H → Nat
  | .lit (.string bytes) => bytes.length + 1
  | .lit _ => 1
  | .nil => 1
  | .ptr d => uptoBulk d + 1
  | .slice elems spare => uptoBulkAll elems + uptoBulkAll spare + 1
  | .agg parts => uptoBulkAll parts + 1
  | .iface _ d => uptoBulk d + 1
  | .map entries => uptoBulkEntries entries + 1
  | .held _ => 1
def uptoBulkAll {H : Type} : List (DataW H) → Nat
  | [] => 0
  | d :: r => uptoBulk d + uptoBulkAll r
def uptoBulkEntries {H : Type} : List (Lit × DataW H) → Nat
  | [] => 0
  | x :: r => uptoBulkEntry x + uptoBulkEntries r
def uptoBulkEntry {H : Type} : Lit × DataW H → Nat
  | (.string bytes, d) => bytes.length + uptoBulk d + 1
  | (_, d) => uptoBulk d + 1
 end
def uptoSmall : (H : Type) → List (DataW H) → Bool := fun _ ds => decide (uptoBulkAll ds ≤ 1048576)
def OpenSpec.upto (s : _root_.Go.ChangeSpec) : _root_.Go.OpenSpec := { _root_.Go.OpenSpec.ofChange s with cond := some uptoSmall }

/-- 'laws.FnPlacesBy', WHERE WHAT IT READS IS OF BULK AT MOST 1048576: true; the input reads as it did. -/
def fnPlacesByUptoRow : OpenClaim := { program := "ytobfencmfeneoac", sum := "d79c00d1c48469b2eda01d4a642de4f3d28eaaf987ecb536d325e965211bb6e7", func := "loop.example/shopsthatmake/laws.FnPlacesBy", spec := "fnPlacesBy", apart := false, narrowed := true }
def FnPlacesByUptoSaid : Prop := fnPlacesByUptoRow.holds Try.pinned (OpenSpec.upto fnPlacesBySpec)

/-- 'laws.FnExactPlacesBy', WHERE WHAT IT READS IS OF BULK AT MOST 1048576: true; the input reads as it did. -/
def fnExactPlacesByUptoRow : OpenClaim := { program := "ytobfencmfeneoac", sum := "d79c00d1c48469b2eda01d4a642de4f3d28eaaf987ecb536d325e965211bb6e7", func := "loop.example/shopsthatmake/laws.FnExactPlacesBy", spec := "fnExactPlacesBy", apart := false, narrowed := true }
def FnExactPlacesByUptoSaid : Prop := fnExactPlacesByUptoRow.holds Try.pinned (OpenSpec.upto fnExactPlacesBySpec)

/-- 'laws.FnLinesTurned', WHERE WHAT IT READS IS OF BULK AT MOST 1048576: true; the input reads as it did. -/
def fnLinesTurnedUptoRow : OpenClaim := { program := "ytobfencmfeneoac", sum := "d79c00d1c48469b2eda01d4a642de4f3d28eaaf987ecb536d325e965211bb6e7", func := "loop.example/shopsthatmake/laws.FnLinesTurned", spec := "fnLinesTurned", apart := false, narrowed := true }
def FnLinesTurnedUptoSaid : Prop := fnLinesTurnedUptoRow.holds Try.pinned (OpenSpec.upto fnLinesTurnedSpec)

end Rows
end Go.Proofs.Ytobfencmfeneoac
