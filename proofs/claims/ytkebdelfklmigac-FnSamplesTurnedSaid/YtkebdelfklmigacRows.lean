/-
  No cell of these rows narrows 'for every input' (looked for: loops, veiled, ifaces, maps, wideKeys, modest, calm, conditions, laid).
  DERIVED. THE GIVEN ROWS OF THIS SEAT. 4 by the template 'for every input the law returns true; each argument reads behind the call as it read before'; 0 by the template 'total and deterministic' (their statements: YtkebdelfklmigacTotals.lean).
  GIVEN WITH THE SEED: the statements are not yours to turn. If you find one false, say at which input.
  Laid BY PROGRAM, IN A SANDBOX (cutbox-rows.mjs): the forced cells as the released guide's own fill.sh prints them over the translation 3a2ac383e42bbf36… (all of the seat's roots in one cut). By AI agents, Wed Nov 11 2026. No macro, syntax, notation, axiom, sorry.
-/
import Derived.Test.YtkebdelfklmigacChecked
import GoSem.Claim
import GoSem.ClaimJoined
import GoSem.ClaimMapViews
import Derived.JoinedTies
import Derived.KernelRfl
namespace Go.Proofs.Ytkebdelfklmigac
/- THE CELL 'sum', in the pinned program and in every row, IS THE sha256 OF THE DUMP (.gsa) THAT YtkebdelfklmigacProg.lean LOADS. Nothing in Lean hashes anything: it is a label: what it is worth is what the hold of that sum in a sandbox is worth. -/
noncomputable def Try.pinned : Pinned := { name := "ytkebdelfklmigac", sum := "3a2ac383e42bbf36372373b5febfb890ad2f3ff164fd2bcf693e9e660ad6a096", checked := Try.checked }
namespace Rows
def none {H : Type} : Left H := { results := [], args := [] }

/-- 'laws.FnLeastSample': WHATEVER THE INPUT: true; the input reads as it did. -/
def fnLeastSampleSpec : ChangeSpec := { name := "fnLeastSample", fn := fun _ => fun
  | [d] => { results := [.lit (.bool true)], args := [d] }
  | _ => none }
def fnLeastSampleRow : OpenClaim := { program := "ytkebdelfklmigac", sum := "3a2ac383e42bbf36372373b5febfb890ad2f3ff164fd2bcf693e9e660ad6a096", func := "loop.example/shopsthatmake/laws.FnLeastSample", spec := "fnLeastSample", apart := false }
def FnLeastSampleSaid : Prop := fnLeastSampleRow.holds Try.pinned (OpenSpec.ofChange fnLeastSampleSpec)

/-- ITS FALSE NEIGHBOUR: 'it returns false'. Refute it at one input. -/
def fnLeastSampleWrong : ChangeSpec := { name := "fnLeastSample", fn := fun _ => fun
  | [d] => { results := [.lit (.bool false)], args := [d] }
  | _ => none }
def FnLeastSampleWrongFalsely : Prop := fnLeastSampleRow.holds Try.pinned (OpenSpec.ofChange fnLeastSampleWrong)

/-- 'laws.FnExactLeastSample': WHATEVER THE INPUT: true; the input reads as it did. -/
def fnExactLeastSampleSpec : ChangeSpec := { name := "fnExactLeastSample", fn := fun _ => fun
  | [d1, d2, d3, d4, d5] => { results := [.lit (.bool true)], args := [d1, d2, d3, d4, d5] }
  | _ => none }
def fnExactLeastSampleRow : OpenClaim := { program := "ytkebdelfklmigac", sum := "3a2ac383e42bbf36372373b5febfb890ad2f3ff164fd2bcf693e9e660ad6a096", func := "loop.example/shopsthatmake/laws.FnExactLeastSample", spec := "fnExactLeastSample", apart := false }
def FnExactLeastSampleSaid : Prop := fnExactLeastSampleRow.holds Try.pinned (OpenSpec.ofChange fnExactLeastSampleSpec)

/-- ITS FALSE NEIGHBOUR: 'it returns false'. Refute it at one input. -/
def fnExactLeastSampleWrong : ChangeSpec := { name := "fnExactLeastSample", fn := fun _ => fun
  | [d1, d2, d3, d4, d5] => { results := [.lit (.bool false)], args := [d1, d2, d3, d4, d5] }
  | _ => none }
def FnExactLeastSampleWrongFalsely : Prop := fnExactLeastSampleRow.holds Try.pinned (OpenSpec.ofChange fnExactLeastSampleWrong)

/-- 'laws.FnAllChances': WHATEVER THE INPUT: true; the input reads as it did. -/
def fnAllChancesSpec : ChangeSpec := { name := "fnAllChances", fn := fun _ => fun
  | [d] => { results := [.lit (.bool true)], args := [d] }
  | _ => none }
def fnAllChancesRow : OpenClaim := { program := "ytkebdelfklmigac", sum := "3a2ac383e42bbf36372373b5febfb890ad2f3ff164fd2bcf693e9e660ad6a096", func := "loop.example/shopsthatmake/laws.FnAllChances", spec := "fnAllChances", apart := false }
def FnAllChancesSaid : Prop := fnAllChancesRow.holds Try.pinned (OpenSpec.ofChange fnAllChancesSpec)

/-- ITS FALSE NEIGHBOUR: 'it returns false'. Refute it at one input. -/
def fnAllChancesWrong : ChangeSpec := { name := "fnAllChances", fn := fun _ => fun
  | [d] => { results := [.lit (.bool false)], args := [d] }
  | _ => none }
def FnAllChancesWrongFalsely : Prop := fnAllChancesRow.holds Try.pinned (OpenSpec.ofChange fnAllChancesWrong)

/-- 'laws.FnSamplesTurned': WHATEVER THE INPUT: true; the input reads as it did. -/
def fnSamplesTurnedSpec : ChangeSpec := { name := "fnSamplesTurned", fn := fun _ => fun
  | [d] => { results := [.lit (.bool true)], args := [d] }
  | _ => none }
def fnSamplesTurnedRow : OpenClaim := { program := "ytkebdelfklmigac", sum := "3a2ac383e42bbf36372373b5febfb890ad2f3ff164fd2bcf693e9e660ad6a096", func := "loop.example/shopsthatmake/laws.FnSamplesTurned", spec := "fnSamplesTurned", recurses := true, apart := false }
def FnSamplesTurnedSaid : Prop := fnSamplesTurnedRow.holds Try.pinned (OpenSpec.ofChange fnSamplesTurnedSpec)

/-- ITS FALSE NEIGHBOUR: 'it returns false'. Refute it at one input. -/
def fnSamplesTurnedWrong : ChangeSpec := { name := "fnSamplesTurned", fn := fun _ => fun
  | [d] => { results := [.lit (.bool false)], args := [d] }
  | _ => none }
def FnSamplesTurnedWrongFalsely : Prop := fnSamplesTurnedRow.holds Try.pinned (OpenSpec.ofChange fnSamplesTurnedWrong)

/- THE SECOND FORM. 'bulk': how many values and letters a reading holds, each counted each time it is reached (what is shared counts as often as it is met; a slice's spare places count too). A statement '..UptoSaid' is the law's where the arguments, and the package variables that the reading takes, are together of bulk at most 1048576: NARROWER than '..Said'. Prove '..Said' where nothing that the law and all that it calls make is longer than what came in: it says more and counts as full. Else prove '..UptoSaid'. A law counts once. -/
mutual
def uptoBulk {H : Type} : DataW H → Nat
  | .lit (.string bytes) => bytes.length + 1
  | .lit _ => 1
  | .nil => 1
  | .ptr d => uptoBulk d + 1
  | .slice elems spare => uptoBulkAll elems + uptoBulkAll spare + 1
  | .agg parts => uptoBulkAll parts + 1
  | .iface _ d => uptoBulk d + 1
  | .map entries => uptoBulkEntries entries + 1
  | .held _ => 1
def uptoBulkAll {H : Type} : List (DataW H) → Nat
  | [] => 0
  | d :: r => uptoBulk d + uptoBulkAll r
def uptoBulkEntries {H : Type} : List (Lit × DataW H) → Nat
  | [] => 0
  | x :: r => uptoBulkEntry x + uptoBulkEntries r
def uptoBulkEntry {H : Type} : Lit × DataW H → Nat
  | (.string bytes, d) => bytes.length + uptoBulk d + 1
  | (_, d) => uptoBulk d + 1
 end
def uptoSmall : (H : Type) → List (DataW H) → Bool := fun _ ds => decide (uptoBulkAll ds ≤ 1048576)
def OpenSpec.upto (s : _root_.Go.ChangeSpec) : _root_.Go.OpenSpec := { _root_.Go.OpenSpec.ofChange s with cond := some uptoSmall }

/-- 'laws.FnLeastSample', WHERE WHAT IT READS IS OF BULK AT MOST 1048576: true; the input reads as it did. -/
def fnLeastSampleUptoRow : OpenClaim := { program := "ytkebdelfklmigac", sum := "3a2ac383e42bbf36372373b5febfb890ad2f3ff164fd2bcf693e9e660ad6a096", func := "loop.example/shopsthatmake/laws.FnLeastSample", spec := "fnLeastSample", apart := false, narrowed := true }
def FnLeastSampleUptoSaid : Prop := fnLeastSampleUptoRow.holds Try.pinned (OpenSpec.upto fnLeastSampleSpec)

/-- 'laws.FnExactLeastSample', WHERE WHAT IT READS IS OF BULK AT MOST 1048576: true; the input reads as it did. -/
def fnExactLeastSampleUptoRow : OpenClaim := { program := "ytkebdelfklmigac", sum := "3a2ac383e42bbf36372373b5febfb890ad2f3ff164fd2bcf693e9e660ad6a096", func := "loop.example/shopsthatmake/laws.FnExactLeastSample", spec := "fnExactLeastSample", apart := false, narrowed := true }
def FnExactLeastSampleUptoSaid : Prop := fnExactLeastSampleUptoRow.holds Try.pinned (OpenSpec.upto fnExactLeastSampleSpec)

/-- 'laws.FnAllChances', WHERE WHAT IT READS IS OF BULK AT MOST 1048576: true; the input reads as it did. -/
def fnAllChancesUptoRow : OpenClaim := { program := "ytkebdelfklmigac", sum := "3a2ac383e42bbf36372373b5febfb890ad2f3ff164fd2bcf693e9e660ad6a096", func := "loop.example/shopsthatmake/laws.FnAllChances", spec := "fnAllChances", apart := false, narrowed := true }
def FnAllChancesUptoSaid : Prop := fnAllChancesUptoRow.holds Try.pinned (OpenSpec.upto fnAllChancesSpec)

/-- 'laws.FnSamplesTurned', WHERE WHAT IT READS IS OF BULK AT MOST 1048576: true; the input reads as it did. -/
def fnSamplesTurnedUptoRow : OpenClaim := { program := "ytkebdelfklmigac", sum := "3a2ac383e42bbf36372373b5febfb890ad2f3ff164fd2bcf693e9e660ad6a096", func := "loop.example/shopsthatmake/laws.FnSamplesTurned", spec := "fnSamplesTurned", recurses := true, apart := false, narrowed := true }
def FnSamplesTurnedUptoSaid : Prop := fnSamplesTurnedUptoRow.holds Try.pinned (OpenSpec.upto fnSamplesTurnedSpec)

end Rows
end Go.Proofs.Ytkebdelfklmigac
