/-
  No cell of these rows narrows 'for every input' (looked for: loops, veiled, ifaces, maps, wideKeys, modest, calm, conditions, laid).
  DERIVED. THE GIVEN ROWS OF THIS SEAT. 4 by the template 'for every input the law returns true; each argument reads behind the call as it read before'; 0 by the template 'total and deterministic' (their statements: YtkjmpkincaainacTotals.lean).
  GIVEN WITH THE SEED: the statements are not yours to turn. If you find one false, say at which input.
  Laid BY PROGRAM, IN A SANDBOX (cutbox-rows.mjs): the forced cells as the released guide's own fill.sh prints them over the translation a5cf754beae38a89… (all of the seat's roots in one cut). By AI agents, Wed Nov 11 2026. No macro, syntax, notation, axiom, sorry.
-/
import Derived.Test.YtkjmpkincaainacChecked
import GoSem.Claim
import GoSem.ClaimJoined
import GoSem.ClaimMapViews
import Derived.JoinedTies
import Derived.KernelRfl
namespace Go.Proofs.Ytkjmpkincaainac
/- THE CELL 'sum', in the pinned program and in every row, IS THE sha256 OF THE DUMP (.gsa) THAT YtkjmpkincaainacProg.lean LOADS. Nothing in Lean hashes anything: it is a label: what it is worth is what the hold of that sum in a sandbox is worth. -/
noncomputable def Try.pinned : Pinned := { name := "ytkjmpkincaainac", sum := "a5cf754beae38a8965d87c1a14ec020ed3745adfccf64e34e07e4a2e6399ac68", checked := Try.checked }
namespace Rows
def none {H : Type} : Left H := { results := [], args := [] }

/-- 'laws.FnExactAgeRate': WHATEVER THE INPUT: true; the input reads as it did. -/
def fnExactAgeRateSpec : ChangeSpec := { name := "fnExactAgeRate", fn := fun _ => fun
  | [d1, d2, d3, d4] => { results := [.lit (.bool true)], args := [d1, d2, d3, d4] }
  | _ => none }
def fnExactAgeRateRow : OpenClaim := { program := "ytkjmpkincaainac", sum := "a5cf754beae38a8965d87c1a14ec020ed3745adfccf64e34e07e4a2e6399ac68", func := "loop.example/shopsthatmake/laws.FnExactAgeRate", spec := "fnExactAgeRate", apart := false }
def FnExactAgeRateSaid : Prop := fnExactAgeRateRow.holds Try.pinned (OpenSpec.ofChange fnExactAgeRateSpec)

/-- ITS FALSE NEIGHBOUR: 'it returns false'. Refute it at one input. -/
def fnExactAgeRateWrong : ChangeSpec := { name := "fnExactAgeRate", fn := fun _ => fun
  | [d1, d2, d3, d4] => { results := [.lit (.bool false)], args := [d1, d2, d3, d4] }
  | _ => none }
def FnExactAgeRateWrongFalsely : Prop := fnExactAgeRateRow.holds Try.pinned (OpenSpec.ofChange fnExactAgeRateWrong)

/-- 'laws.FnAgeRate': WHATEVER THE INPUT: true; the input reads as it did. -/
def fnAgeRateSpec : ChangeSpec := { name := "fnAgeRate", fn := fun _ => fun
  | [d] => { results := [.lit (.bool true)], args := [d] }
  | _ => none }
def fnAgeRateRow : OpenClaim := { program := "ytkjmpkincaainac", sum := "a5cf754beae38a8965d87c1a14ec020ed3745adfccf64e34e07e4a2e6399ac68", func := "loop.example/shopsthatmake/laws.FnAgeRate", spec := "fnAgeRate", apart := false }
def FnAgeRateSaid : Prop := fnAgeRateRow.holds Try.pinned (OpenSpec.ofChange fnAgeRateSpec)

/-- ITS FALSE NEIGHBOUR: 'it returns false'. Refute it at one input. -/
def fnAgeRateWrong : ChangeSpec := { name := "fnAgeRate", fn := fun _ => fun
  | [d] => { results := [.lit (.bool false)], args := [d] }
  | _ => none }
def FnAgeRateWrongFalsely : Prop := fnAgeRateRow.holds Try.pinned (OpenSpec.ofChange fnAgeRateWrong)

/-- 'laws.FnExactBestAge': WHATEVER THE INPUT: true; the input reads as it did. -/
def fnExactBestAgeSpec : ChangeSpec := { name := "fnExactBestAge", fn := fun _ => fun
  | [d1, d2, d3] => { results := [.lit (.bool true)], args := [d1, d2, d3] }
  | _ => none }
def fnExactBestAgeRow : OpenClaim := { program := "ytkjmpkincaainac", sum := "a5cf754beae38a8965d87c1a14ec020ed3745adfccf64e34e07e4a2e6399ac68", func := "loop.example/shopsthatmake/laws.FnExactBestAge", spec := "fnExactBestAge", apart := false }
def FnExactBestAgeSaid : Prop := fnExactBestAgeRow.holds Try.pinned (OpenSpec.ofChange fnExactBestAgeSpec)

/-- ITS FALSE NEIGHBOUR: 'it returns false'. Refute it at one input. -/
def fnExactBestAgeWrong : ChangeSpec := { name := "fnExactBestAge", fn := fun _ => fun
  | [d1, d2, d3] => { results := [.lit (.bool false)], args := [d1, d2, d3] }
  | _ => none }
def FnExactBestAgeWrongFalsely : Prop := fnExactBestAgeRow.holds Try.pinned (OpenSpec.ofChange fnExactBestAgeWrong)

/-- 'laws.FnBestAge': WHATEVER THE INPUT: true; the input reads as it did. -/
def fnBestAgeSpec : ChangeSpec := { name := "fnBestAge", fn := fun _ => fun
  | [d] => { results := [.lit (.bool true)], args := [d] }
  | _ => none }
def fnBestAgeRow : OpenClaim := { program := "ytkjmpkincaainac", sum := "a5cf754beae38a8965d87c1a14ec020ed3745adfccf64e34e07e4a2e6399ac68", func := "loop.example/shopsthatmake/laws.FnBestAge", spec := "fnBestAge", apart := false }
def FnBestAgeSaid : Prop := fnBestAgeRow.holds Try.pinned (OpenSpec.ofChange fnBestAgeSpec)

/-- ITS FALSE NEIGHBOUR: 'it returns false'. Refute it at one input. -/
def fnBestAgeWrong : ChangeSpec := { name := "fnBestAge", fn := fun _ => fun
  | [d] => { results := [.lit (.bool false)], args := [d] }
  | _ => none }
def FnBestAgeWrongFalsely : Prop := fnBestAgeRow.holds Try.pinned (OpenSpec.ofChange fnBestAgeWrong)

/- THE SECOND FORM. 'bulk': how many values and letters a reading holds, each counted each time it is reached (what is shared counts as often as it is met; a slice's spare places count too). A statement '..UptoSaid' is the law's where the arguments, and the package variables that the reading takes, are together of bulk at most 1048576: NARROWER than '..Said'. Prove '..Said' where nothing that the law and all that it calls make is longer than what came in: it says more and counts as full. Else prove '..UptoSaid'. A law counts once. -/
mutual
def uptoBulk {H : Type} : DataW H → Nat
  | .lit (.string bytes) => bytes.length + 1
  | .lit _ => 1
  | .nil => 1
  | .ptr d => uptoBulk d + 1
  | .slice elems spare => uptoBulkAll elems + uptoBulkAll spare + 1
  | .agg parts => uptoBulkAll parts + 1
  | .iface _ d => uptoBulk d + 1
  | .map entries => uptoBulkEntries entries + 1
  | .held _ => 1
def uptoBulkAll {H : Type} : List (DataW H) → Nat
  | [] => 0
  | d :: r => uptoBulk d + uptoBulkAll r
def uptoBulkEntries {H : Type} : List (Lit × DataW H) → Nat
  | [] => 0
  | x :: r => uptoBulkEntry x + uptoBulkEntries r
def uptoBulkEntry {H : Type} : Lit × DataW H → Nat
  | (.string bytes, d) => bytes.length + uptoBulk d + 1
  | (_, d) => uptoBulk d + 1
 end
def uptoSmall : (H : Type) → List (DataW H) → Bool := fun _ ds => decide (uptoBulkAll ds ≤ 1048576)
def OpenSpec.upto (s : _root_.Go.ChangeSpec) : _root_.Go.OpenSpec := { _root_.Go.OpenSpec.ofChange s with cond := some uptoSmall }

/-- 'laws.FnExactAgeRate', WHERE WHAT IT READS IS OF BULK AT MOST 1048576: true; the input reads as it did. -/
def fnExactAgeRateUptoRow : OpenClaim := { program := "ytkjmpkincaainac", sum := "a5cf754beae38a8965d87c1a14ec020ed3745adfccf64e34e07e4a2e6399ac68", func := "loop.example/shopsthatmake/laws.FnExactAgeRate", spec := "fnExactAgeRate", apart := false, narrowed := true }
def FnExactAgeRateUptoSaid : Prop := fnExactAgeRateUptoRow.holds Try.pinned (OpenSpec.upto fnExactAgeRateSpec)

/-- 'laws.FnAgeRate', WHERE WHAT IT READS IS OF BULK AT MOST 1048576: true; the input reads as it did. -/
def fnAgeRateUptoRow : OpenClaim := { program := "ytkjmpkincaainac", sum := "a5cf754beae38a8965d87c1a14ec020ed3745adfccf64e34e07e4a2e6399ac68", func := "loop.example/shopsthatmake/laws.FnAgeRate", spec := "fnAgeRate", apart := false, narrowed := true }
def FnAgeRateUptoSaid : Prop := fnAgeRateUptoRow.holds Try.pinned (OpenSpec.upto fnAgeRateSpec)

/-- 'laws.FnExactBestAge', WHERE WHAT IT READS IS OF BULK AT MOST 1048576: true; the input reads as it did. -/
def fnExactBestAgeUptoRow : OpenClaim := { program := "ytkjmpkincaainac", sum := "a5cf754beae38a8965d87c1a14ec020ed3745adfccf64e34e07e4a2e6399ac68", func := "loop.example/shopsthatmake/laws.FnExactBestAge", spec := "fnExactBestAge", apart := false, narrowed := true }
def FnExactBestAgeUptoSaid : Prop := fnExactBestAgeUptoRow.holds Try.pinned (OpenSpec.upto fnExactBestAgeSpec)

/-- 'laws.FnBestAge', WHERE WHAT IT READS IS OF BULK AT MOST 1048576: true; the input reads as it did. -/
def fnBestAgeUptoRow : OpenClaim := { program := "ytkjmpkincaainac", sum := "a5cf754beae38a8965d87c1a14ec020ed3745adfccf64e34e07e4a2e6399ac68", func := "loop.example/shopsthatmake/laws.FnBestAge", spec := "fnBestAge", apart := false, narrowed := true }
def FnBestAgeUptoSaid : Prop := fnBestAgeUptoRow.holds Try.pinned (OpenSpec.upto fnBestAgeSpec)

end Rows
end Go.Proofs.Ytkjmpkincaainac
