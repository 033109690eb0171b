/-
  No cell of these rows narrows 'for every input' (looked for: loops, veiled, ifaces, maps, wideKeys, modest, calm, conditions, laid).
  DERIVED. THE GIVEN ROWS OF THIS SEAT. 4 by the template 'for every input the law returns true; each argument reads behind the call as it read before'; 0 by the template 'total and deterministic' (their statements: YtkjmpkincaainaaTotals.lean).
  GIVEN WITH THE SEED: the statements are not yours to turn. If you find one false, say at which input.
  Laid BY PROGRAM, IN A SANDBOX (cutbox-rows.mjs): the forced cells as the released guide's own fill.sh prints them over the translation 117a6364d5b09231… (all of the seat's roots in one cut). By AI agents, Wed Nov 11 2026. No macro, syntax, notation, axiom, sorry.
-/
import Derived.Test.YtkjmpkincaainaaChecked
import GoSem.Claim
import GoSem.ClaimJoined
import GoSem.ClaimMapViews
import Derived.JoinedTies
import Derived.KernelRfl
namespace Go.Proofs.Ytkjmpkincaainaa
/- THE CELL 'sum', in the pinned program and in every row, IS THE sha256 OF THE DUMP (.gsa) THAT YtkjmpkincaainaaProg.lean LOADS. Nothing in Lean hashes anything: it is a label: what it is worth is what the hold of that sum in a sandbox is worth. -/
noncomputable def Try.pinned : Pinned := { name := "ytkjmpkincaainaa", sum := "117a6364d5b0923177a1f3f62f07df95551d8010cce4b538f711400cdd20cac3", checked := Try.checked }
namespace Rows
def none {H : Type} : Left H := { results := [], args := [] }

/-- 'laws.FnExactValidChances': WHATEVER THE INPUT: true; the input reads as it did. -/
def fnExactValidChancesSpec : ChangeSpec := { name := "fnExactValidChances", fn := fun _ => fun
  | [d] => { results := [.lit (.bool true)], args := [d] }
  | _ => none }
def fnExactValidChancesRow : OpenClaim := { program := "ytkjmpkincaainaa", sum := "117a6364d5b0923177a1f3f62f07df95551d8010cce4b538f711400cdd20cac3", func := "loop.example/shopsthatmake/laws.FnExactValidChances", spec := "fnExactValidChances", apart := false }
def FnExactValidChancesSaid : Prop := fnExactValidChancesRow.holds Try.pinned (OpenSpec.ofChange fnExactValidChancesSpec)

/-- ITS FALSE NEIGHBOUR: 'it returns false'. Refute it at one input. -/
def fnExactValidChancesWrong : ChangeSpec := { name := "fnExactValidChances", fn := fun _ => fun
  | [d] => { results := [.lit (.bool false)], args := [d] }
  | _ => none }
def FnExactValidChancesWrongFalsely : Prop := fnExactValidChancesRow.holds Try.pinned (OpenSpec.ofChange fnExactValidChancesWrong)

/-- 'laws.FnExactStockCost': WHATEVER THE INPUT: true; the input reads as it did. -/
def fnExactStockCostSpec : ChangeSpec := { name := "fnExactStockCost", fn := fun _ => fun
  | [d1, d2, d3, d4] => { results := [.lit (.bool true)], args := [d1, d2, d3, d4] }
  | _ => none }
def fnExactStockCostRow : OpenClaim := { program := "ytkjmpkincaainaa", sum := "117a6364d5b0923177a1f3f62f07df95551d8010cce4b538f711400cdd20cac3", func := "loop.example/shopsthatmake/laws.FnExactStockCost", spec := "fnExactStockCost", apart := false }
def FnExactStockCostSaid : Prop := fnExactStockCostRow.holds Try.pinned (OpenSpec.ofChange fnExactStockCostSpec)

/-- ITS FALSE NEIGHBOUR: 'it returns false'. Refute it at one input. -/
def fnExactStockCostWrong : ChangeSpec := { name := "fnExactStockCost", fn := fun _ => fun
  | [d1, d2, d3, d4] => { results := [.lit (.bool false)], args := [d1, d2, d3, d4] }
  | _ => none }
def FnExactStockCostWrongFalsely : Prop := fnExactStockCostRow.holds Try.pinned (OpenSpec.ofChange fnExactStockCostWrong)

/-- 'laws.FnStockCost': WHATEVER THE INPUT: true; the input reads as it did. -/
def fnStockCostSpec : ChangeSpec := { name := "fnStockCost", fn := fun _ => fun
  | [d] => { results := [.lit (.bool true)], args := [d] }
  | _ => none }
def fnStockCostRow : OpenClaim := { program := "ytkjmpkincaainaa", sum := "117a6364d5b0923177a1f3f62f07df95551d8010cce4b538f711400cdd20cac3", func := "loop.example/shopsthatmake/laws.FnStockCost", spec := "fnStockCost", apart := false }
def FnStockCostSaid : Prop := fnStockCostRow.holds Try.pinned (OpenSpec.ofChange fnStockCostSpec)

/-- ITS FALSE NEIGHBOUR: 'it returns false'. Refute it at one input. -/
def fnStockCostWrong : ChangeSpec := { name := "fnStockCost", fn := fun _ => fun
  | [d] => { results := [.lit (.bool false)], args := [d] }
  | _ => none }
def FnStockCostWrongFalsely : Prop := fnStockCostRow.holds Try.pinned (OpenSpec.ofChange fnStockCostWrong)

/-- 'laws.FnValidChances': WHATEVER THE INPUT: true; the input reads as it did. -/
def fnValidChancesSpec : ChangeSpec := { name := "fnValidChances", fn := fun _ => fun
  | [d] => { results := [.lit (.bool true)], args := [d] }
  | _ => none }
def fnValidChancesRow : OpenClaim := { program := "ytkjmpkincaainaa", sum := "117a6364d5b0923177a1f3f62f07df95551d8010cce4b538f711400cdd20cac3", func := "loop.example/shopsthatmake/laws.FnValidChances", spec := "fnValidChances", apart := false }
def FnValidChancesSaid : Prop := fnValidChancesRow.holds Try.pinned (OpenSpec.ofChange fnValidChancesSpec)

/-- ITS FALSE NEIGHBOUR: 'it returns false'. Refute it at one input. -/
def fnValidChancesWrong : ChangeSpec := { name := "fnValidChances", fn := fun _ => fun
  | [d] => { results := [.lit (.bool false)], args := [d] }
  | _ => none }
def FnValidChancesWrongFalsely : Prop := fnValidChancesRow.holds Try.pinned (OpenSpec.ofChange fnValidChancesWrong)

/- THE SECOND FORM. 'bulk': how many values and letters a reading holds, each counted each time it is reached (what is shared counts as often as it is met; a slice's spare places count too). A statement '..UptoSaid' is the law's where the arguments, and the package variables that the reading takes, are together of bulk at most 1048576: NARROWER than '..Said'. Prove '..Said' where nothing that the law and all that it calls make is longer than what came in: it says more and counts as full. Else prove '..UptoSaid'. A law counts once. -/
mutual
def uptoBulk {H : Type} : DataW H → Nat
  | .lit (.string bytes) => bytes.length + 1
  | .lit _ => 1
  | .nil => 1
  | .ptr d => uptoBulk d + 1
  | .slice elems spare => uptoBulkAll elems + uptoBulkAll spare + 1
  | .agg parts => uptoBulkAll parts + 1
  | .iface _ d => uptoBulk d + 1
  | .map entries => uptoBulkEntries entries + 1
  | .held _ => 1
def uptoBulkAll {H : Type} : List (DataW H) → Nat
  | [] => 0
  | d :: r => uptoBulk d + uptoBulkAll r
def uptoBulkEntries {H : Type} : List (Lit × DataW H) → Nat
  | [] => 0
  | x :: r => uptoBulkEntry x + uptoBulkEntries r
def uptoBulkEntry {H : Type} : Lit × DataW H → Nat
  | (.string bytes, d) => bytes.length + uptoBulk d + 1
  | (_, d) => uptoBulk d + 1
 end
def uptoSmall : (H : Type) → List (DataW H) → Bool := fun _ ds => decide (uptoBulkAll ds ≤ 1048576)
def OpenSpec.upto (s : _root_.Go.ChangeSpec) : _root_.Go.OpenSpec := { _root_.Go.OpenSpec.ofChange s with cond := some uptoSmall }

/-- 'laws.FnExactValidChances', WHERE WHAT IT READS IS OF BULK AT MOST 1048576: true; the input reads as it did. -/
def fnExactValidChancesUptoRow : OpenClaim := { program := "ytkjmpkincaainaa", sum := "117a6364d5b0923177a1f3f62f07df95551d8010cce4b538f711400cdd20cac3", func := "loop.example/shopsthatmake/laws.FnExactValidChances", spec := "fnExactValidChances", apart := false, narrowed := true }
def FnExactValidChancesUptoSaid : Prop := fnExactValidChancesUptoRow.holds Try.pinned (OpenSpec.upto fnExactValidChancesSpec)

/-- 'laws.FnExactStockCost', WHERE WHAT IT READS IS OF BULK AT MOST 1048576: true; the input reads as it did. -/
def fnExactStockCostUptoRow : OpenClaim := { program := "ytkjmpkincaainaa", sum := "117a6364d5b0923177a1f3f62f07df95551d8010cce4b538f711400cdd20cac3", func := "loop.example/shopsthatmake/laws.FnExactStockCost", spec := "fnExactStockCost", apart := false, narrowed := true }
def FnExactStockCostUptoSaid : Prop := fnExactStockCostUptoRow.holds Try.pinned (OpenSpec.upto fnExactStockCostSpec)

/-- 'laws.FnStockCost', WHERE WHAT IT READS IS OF BULK AT MOST 1048576: true; the input reads as it did. -/
def fnStockCostUptoRow : OpenClaim := { program := "ytkjmpkincaainaa", sum := "117a6364d5b0923177a1f3f62f07df95551d8010cce4b538f711400cdd20cac3", func := "loop.example/shopsthatmake/laws.FnStockCost", spec := "fnStockCost", apart := false, narrowed := true }
def FnStockCostUptoSaid : Prop := fnStockCostUptoRow.holds Try.pinned (OpenSpec.upto fnStockCostSpec)

/-- 'laws.FnValidChances', WHERE WHAT IT READS IS OF BULK AT MOST 1048576: true; the input reads as it did. -/
def fnValidChancesUptoRow : OpenClaim := { program := "ytkjmpkincaainaa", sum := "117a6364d5b0923177a1f3f62f07df95551d8010cce4b538f711400cdd20cac3", func := "loop.example/shopsthatmake/laws.FnValidChances", spec := "fnValidChances", apart := false, narrowed := true }
def FnValidChancesUptoSaid : Prop := fnValidChancesUptoRow.holds Try.pinned (OpenSpec.upto fnValidChancesSpec)

end Rows
end Go.Proofs.Ytkjmpkincaainaa
