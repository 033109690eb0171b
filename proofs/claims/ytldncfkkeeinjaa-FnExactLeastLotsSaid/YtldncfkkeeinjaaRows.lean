/-
  No cell of these rows narrows 'for every input' (looked for: loops, veiled, ifaces, maps, wideKeys, modest, calm, conditions, laid).
  DERIVED. THE GIVEN ROWS OF THIS SEAT. 4 by the template 'for every input the law returns true; each argument reads behind the call as it read before'; 0 by the template 'total and deterministic' (their statements: YtldncfkkeeinjaaTotals.lean).
  GIVEN WITH THE SEED: the statements are not yours to turn. If you find one false, say at which input.
  Laid BY PROGRAM, IN A SANDBOX (cutbox-rows.mjs): the forced cells as the released guide's own fill.sh prints them over the translation d09524ab92d956f6… (all of the seat's roots in one cut). By AI agents, Wed Nov 11 2026. No macro, syntax, notation, axiom, sorry.
-/
import Derived.Test.YtldncfkkeeinjaaChecked
import GoSem.Claim
import GoSem.ClaimJoined
import GoSem.ClaimMapViews
import Derived.JoinedTies
import Derived.KernelRfl
namespace Go.Proofs.Ytldncfkkeeinjaa
/- THE CELL 'sum', in the pinned program and in every row, IS THE sha256 OF THE DUMP (.gsa) THAT YtldncfkkeeinjaaProg.lean LOADS. Nothing in Lean hashes anything: it is a label: what it is worth is what the hold of that sum in a sandbox is worth. -/
noncomputable def Try.pinned : Pinned := { name := "ytldncfkkeeinjaa", sum := "d09524ab92d956f614458e2e783319baccd424629696205da88d838ff351140d", checked := Try.checked }
namespace Rows
def none {H : Type} : Left H := { results := [], args := [] }

/-- 'laws.FnLotCost': WHATEVER THE INPUT: true; the input reads as it did. -/
def fnLotCostSpec : ChangeSpec := { name := "fnLotCost", fn := fun _ => fun
  | [d] => { results := [.lit (.bool true)], args := [d] }
  | _ => none }
def fnLotCostRow : OpenClaim := { program := "ytldncfkkeeinjaa", sum := "d09524ab92d956f614458e2e783319baccd424629696205da88d838ff351140d", func := "loop.example/shopsthatmake/laws.FnLotCost", spec := "fnLotCost", unfollowed := true, recurses := true, apart := false }
def FnLotCostSaid : Prop := fnLotCostRow.holds Try.pinned (OpenSpec.ofChange fnLotCostSpec)

/-- ITS FALSE NEIGHBOUR: 'it returns false'. Refute it at one input. -/
def fnLotCostWrong : ChangeSpec := { name := "fnLotCost", fn := fun _ => fun
  | [d] => { results := [.lit (.bool false)], args := [d] }
  | _ => none }
def FnLotCostWrongFalsely : Prop := fnLotCostRow.holds Try.pinned (OpenSpec.ofChange fnLotCostWrong)

/-- 'laws.FnExactLotCost': WHATEVER THE INPUT: true; the input reads as it did. -/
def fnExactLotCostSpec : ChangeSpec := { name := "fnExactLotCost", fn := fun _ => fun
  | [d1, d2, d3, d4] => { results := [.lit (.bool true)], args := [d1, d2, d3, d4] }
  | _ => none }
def fnExactLotCostRow : OpenClaim := { program := "ytldncfkkeeinjaa", sum := "d09524ab92d956f614458e2e783319baccd424629696205da88d838ff351140d", func := "loop.example/shopsthatmake/laws.FnExactLotCost", spec := "fnExactLotCost", apart := false }
def FnExactLotCostSaid : Prop := fnExactLotCostRow.holds Try.pinned (OpenSpec.ofChange fnExactLotCostSpec)

/-- ITS FALSE NEIGHBOUR: 'it returns false'. Refute it at one input. -/
def fnExactLotCostWrong : ChangeSpec := { name := "fnExactLotCost", fn := fun _ => fun
  | [d1, d2, d3, d4] => { results := [.lit (.bool false)], args := [d1, d2, d3, d4] }
  | _ => none }
def FnExactLotCostWrongFalsely : Prop := fnExactLotCostRow.holds Try.pinned (OpenSpec.ofChange fnExactLotCostWrong)

/-- 'laws.FnLeastLots': WHATEVER THE INPUT: true; the input reads as it did. -/
def fnLeastLotsSpec : ChangeSpec := { name := "fnLeastLots", fn := fun _ => fun
  | [d] => { results := [.lit (.bool true)], args := [d] }
  | _ => none }
def fnLeastLotsRow : OpenClaim := { program := "ytldncfkkeeinjaa", sum := "d09524ab92d956f614458e2e783319baccd424629696205da88d838ff351140d", func := "loop.example/shopsthatmake/laws.FnLeastLots", spec := "fnLeastLots", unfollowed := true, recurses := true, apart := false }
def FnLeastLotsSaid : Prop := fnLeastLotsRow.holds Try.pinned (OpenSpec.ofChange fnLeastLotsSpec)

/-- ITS FALSE NEIGHBOUR: 'it returns false'. Refute it at one input. -/
def fnLeastLotsWrong : ChangeSpec := { name := "fnLeastLots", fn := fun _ => fun
  | [d] => { results := [.lit (.bool false)], args := [d] }
  | _ => none }
def FnLeastLotsWrongFalsely : Prop := fnLeastLotsRow.holds Try.pinned (OpenSpec.ofChange fnLeastLotsWrong)

/-- 'laws.FnExactLeastLots': WHATEVER THE INPUT: true; the input reads as it did. -/
def fnExactLeastLotsSpec : ChangeSpec := { name := "fnExactLeastLots", fn := fun _ => fun
  | [d1, d2, d3] => { results := [.lit (.bool true)], args := [d1, d2, d3] }
  | _ => none }
def fnExactLeastLotsRow : OpenClaim := { program := "ytldncfkkeeinjaa", sum := "d09524ab92d956f614458e2e783319baccd424629696205da88d838ff351140d", func := "loop.example/shopsthatmake/laws.FnExactLeastLots", spec := "fnExactLeastLots", unfollowed := true, recurses := true, apart := false }
def FnExactLeastLotsSaid : Prop := fnExactLeastLotsRow.holds Try.pinned (OpenSpec.ofChange fnExactLeastLotsSpec)

/-- ITS FALSE NEIGHBOUR: 'it returns false'. Refute it at one input. -/
def fnExactLeastLotsWrong : ChangeSpec := { name := "fnExactLeastLots", fn := fun _ => fun
  | [d1, d2, d3] => { results := [.lit (.bool false)], args := [d1, d2, d3] }
  | _ => none }
def FnExactLeastLotsWrongFalsely : Prop := fnExactLeastLotsRow.holds Try.pinned (OpenSpec.ofChange fnExactLeastLotsWrong)

/- THE SECOND FORM. 'bulk': how many values and letters a reading holds, each counted each time it is reached (what is shared counts as often as it is met; a slice's spare places count too). A statement '..UptoSaid' is the law's where the arguments, and the package variables that the reading takes, are together of bulk at most 1048576: NARROWER than '..Said'. Prove '..Said' where nothing that the law and all that it calls make is longer than what came in: it says more and counts as full. Else prove '..UptoSaid'. A law counts once. -/
mutual
def uptoBulk {H : Type} : DataW H → Nat
  | .lit (.string bytes) => bytes.length + 1
  | .lit _ => 1
  | .nil => 1
  | .ptr d => uptoBulk d + 1
  | .slice elems spare => uptoBulkAll elems + uptoBulkAll spare + 1
  | .agg parts => uptoBulkAll parts + 1
  | .iface _ d => uptoBulk d + 1
  | .map entries => uptoBulkEntries entries + 1
  | .held _ => 1
def uptoBulkAll {H : Type} : List (DataW H) → Nat
  | [] => 0
  | d :: r => uptoBulk d + uptoBulkAll r
def uptoBulkEntries {H : Type} : List (Lit × DataW H) → Nat
  | [] => 0
  | x :: r => uptoBulkEntry x + uptoBulkEntries r
def uptoBulkEntry {H : Type} : Lit × DataW H → Nat
  | (.string bytes, d) => bytes.length + uptoBulk d + 1
  | (_, d) => uptoBulk d + 1
 end
def uptoSmall : (H : Type) → List (DataW H) → Bool := fun _ ds => decide (uptoBulkAll ds ≤ 1048576)
def OpenSpec.upto (s : _root_.Go.ChangeSpec) : _root_.Go.OpenSpec := { _root_.Go.OpenSpec.ofChange s with cond := some uptoSmall }

/-- 'laws.FnLotCost', WHERE WHAT IT READS IS OF BULK AT MOST 1048576: true; the input reads as it did. -/
def fnLotCostUptoRow : OpenClaim := { program := "ytldncfkkeeinjaa", sum := "d09524ab92d956f614458e2e783319baccd424629696205da88d838ff351140d", func := "loop.example/shopsthatmake/laws.FnLotCost", spec := "fnLotCost", unfollowed := true, recurses := true, apart := false, narrowed := true }
def FnLotCostUptoSaid : Prop := fnLotCostUptoRow.holds Try.pinned (OpenSpec.upto fnLotCostSpec)

/-- 'laws.FnExactLotCost', WHERE WHAT IT READS IS OF BULK AT MOST 1048576: true; the input reads as it did. -/
def fnExactLotCostUptoRow : OpenClaim := { program := "ytldncfkkeeinjaa", sum := "d09524ab92d956f614458e2e783319baccd424629696205da88d838ff351140d", func := "loop.example/shopsthatmake/laws.FnExactLotCost", spec := "fnExactLotCost", apart := false, narrowed := true }
def FnExactLotCostUptoSaid : Prop := fnExactLotCostUptoRow.holds Try.pinned (OpenSpec.upto fnExactLotCostSpec)

/-- 'laws.FnLeastLots', WHERE WHAT IT READS IS OF BULK AT MOST 1048576: true; the input reads as it did. -/
def fnLeastLotsUptoRow : OpenClaim := { program := "ytldncfkkeeinjaa", sum := "d09524ab92d956f614458e2e783319baccd424629696205da88d838ff351140d", func := "loop.example/shopsthatmake/laws.FnLeastLots", spec := "fnLeastLots", unfollowed := true, recurses := true, apart := false, narrowed := true }
def FnLeastLotsUptoSaid : Prop := fnLeastLotsUptoRow.holds Try.pinned (OpenSpec.upto fnLeastLotsSpec)

/-- 'laws.FnExactLeastLots', WHERE WHAT IT READS IS OF BULK AT MOST 1048576: true; the input reads as it did. -/
def fnExactLeastLotsUptoRow : OpenClaim := { program := "ytldncfkkeeinjaa", sum := "d09524ab92d956f614458e2e783319baccd424629696205da88d838ff351140d", func := "loop.example/shopsthatmake/laws.FnExactLeastLots", spec := "fnExactLeastLots", unfollowed := true, recurses := true, apart := false, narrowed := true }
def FnExactLeastLotsUptoSaid : Prop := fnExactLeastLotsUptoRow.holds Try.pinned (OpenSpec.upto fnExactLeastLotsSpec)

end Rows
end Go.Proofs.Ytldncfkkeeinjaa
