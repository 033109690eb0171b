/-
  No cell of these rows narrows 'for every input' (looked for: loops, veiled, ifaces, maps, wideKeys, modest, calm, conditions, laid).
  DERIVED. THE GIVEN ROWS OF THIS SEAT. 4 by the template 'for every input the law returns true; each argument reads behind the call as it read before'; 0 by the template 'total and deterministic' (their statements: YtiapaddmnbeheaaTotals.lean).
  GIVEN WITH THE SEED: the statements are not yours to turn. If you find one false, say at which input.
  Laid BY PROGRAM, IN A SANDBOX (cutbox-rows.mjs): the forced cells as the released guide's own fill.sh prints them over the translation c925278cc4d23888… (all of the seat's roots in one cut). By AI agents, Wed Nov 11 2026. No macro, syntax, notation, axiom, sorry.
-/
import Derived.Test.YtiapaddmnbeheaaChecked
import GoSem.Claim
import GoSem.ClaimJoined
import GoSem.ClaimMapViews
import Derived.JoinedTies
import Derived.KernelRfl
namespace Go.Proofs.Ytiapaddmnbeheaa
/- THE CELL 'sum', in the pinned program and in every row, IS THE sha256 OF THE DUMP (.gsa) THAT YtiapaddmnbeheaaProg.lean LOADS. Nothing in Lean hashes anything: it is a label: what it is worth is what the hold of that sum in a sandbox is worth. -/
noncomputable def Try.pinned : Pinned := { name := "ytiapaddmnbeheaa", sum := "c925278cc4d23888e20f28347511b6498be54c146f06277e5f0feb35ca4fcac2", checked := Try.checked }
namespace Rows
def none {H : Type} : Left H := { results := [], args := [] }

/-- 'laws.FnValidNet': WHATEVER THE INPUT: true; the input reads as it did. -/
def fnValidNetSpec : ChangeSpec := { name := "fnValidNet", fn := fun _ => fun
  | [d] => { results := [.lit (.bool true)], args := [d] }
  | _ => none }
def fnValidNetRow : OpenClaim := { program := "ytiapaddmnbeheaa", sum := "c925278cc4d23888e20f28347511b6498be54c146f06277e5f0feb35ca4fcac2", func := "loop.example/shopsthatmake/laws.FnValidNet", spec := "fnValidNet", apart := false }
def FnValidNetSaid : Prop := fnValidNetRow.holds Try.pinned (OpenSpec.ofChange fnValidNetSpec)

/-- ITS FALSE NEIGHBOUR: 'it returns false'. Refute it at one input. -/
def fnValidNetWrong : ChangeSpec := { name := "fnValidNet", fn := fun _ => fun
  | [d] => { results := [.lit (.bool false)], args := [d] }
  | _ => none }
def FnValidNetWrongFalsely : Prop := fnValidNetRow.holds Try.pinned (OpenSpec.ofChange fnValidNetWrong)

/-- 'laws.FnExactValidNet': WHATEVER THE INPUT: true; the input reads as it did. -/
def fnExactValidNetSpec : ChangeSpec := { name := "fnExactValidNet", fn := fun _ => fun
  | [d] => { results := [.lit (.bool true)], args := [d] }
  | _ => none }
def fnExactValidNetRow : OpenClaim := { program := "ytiapaddmnbeheaa", sum := "c925278cc4d23888e20f28347511b6498be54c146f06277e5f0feb35ca4fcac2", func := "loop.example/shopsthatmake/laws.FnExactValidNet", spec := "fnExactValidNet", apart := false }
def FnExactValidNetSaid : Prop := fnExactValidNetRow.holds Try.pinned (OpenSpec.ofChange fnExactValidNetSpec)

/-- ITS FALSE NEIGHBOUR: 'it returns false'. Refute it at one input. -/
def fnExactValidNetWrong : ChangeSpec := { name := "fnExactValidNet", fn := fun _ => fun
  | [d] => { results := [.lit (.bool false)], args := [d] }
  | _ => none }
def FnExactValidNetWrongFalsely : Prop := fnExactValidNetRow.holds Try.pinned (OpenSpec.ofChange fnExactValidNetWrong)

/-- 'laws.FnIsDead': WHATEVER THE INPUT: true; the input reads as it did. -/
def fnIsDeadSpec : ChangeSpec := { name := "fnIsDead", fn := fun _ => fun
  | [d] => { results := [.lit (.bool true)], args := [d] }
  | _ => none }
def fnIsDeadRow : OpenClaim := { program := "ytiapaddmnbeheaa", sum := "c925278cc4d23888e20f28347511b6498be54c146f06277e5f0feb35ca4fcac2", func := "loop.example/shopsthatmake/laws.FnIsDead", spec := "fnIsDead", apart := false }
def FnIsDeadSaid : Prop := fnIsDeadRow.holds Try.pinned (OpenSpec.ofChange fnIsDeadSpec)

/-- ITS FALSE NEIGHBOUR: 'it returns false'. Refute it at one input. -/
def fnIsDeadWrong : ChangeSpec := { name := "fnIsDead", fn := fun _ => fun
  | [d] => { results := [.lit (.bool false)], args := [d] }
  | _ => none }
def FnIsDeadWrongFalsely : Prop := fnIsDeadRow.holds Try.pinned (OpenSpec.ofChange fnIsDeadWrong)

/-- 'laws.FnExactIsDead': WHATEVER THE INPUT: true; the input reads as it did. -/
def fnExactIsDeadSpec : ChangeSpec := { name := "fnExactIsDead", fn := fun _ => fun
  | [d] => { results := [.lit (.bool true)], args := [d] }
  | _ => none }
def fnExactIsDeadRow : OpenClaim := { program := "ytiapaddmnbeheaa", sum := "c925278cc4d23888e20f28347511b6498be54c146f06277e5f0feb35ca4fcac2", func := "loop.example/shopsthatmake/laws.FnExactIsDead", spec := "fnExactIsDead", apart := false }
def FnExactIsDeadSaid : Prop := fnExactIsDeadRow.holds Try.pinned (OpenSpec.ofChange fnExactIsDeadSpec)

/-- ITS FALSE NEIGHBOUR: 'it returns false'. Refute it at one input. -/
def fnExactIsDeadWrong : ChangeSpec := { name := "fnExactIsDead", fn := fun _ => fun
  | [d] => { results := [.lit (.bool false)], args := [d] }
  | _ => none }
def FnExactIsDeadWrongFalsely : Prop := fnExactIsDeadRow.holds Try.pinned (OpenSpec.ofChange fnExactIsDeadWrong)

/- THE SECOND FORM. 'bulk': how many values and letters a reading holds, each counted each time it is reached (what is shared counts as often as it is met; a slice's spare places count too). A statement '..UptoSaid' is the law's where the arguments, and the package variables that the reading takes, are together of bulk at most 1048576: NARROWER than '..Said'. Prove '..Said' where nothing that the law and all that it calls make is longer than what came in: it says more and counts as full. Else prove '..UptoSaid'. A law counts once. -/
mutual
def uptoBulk {H : Type} : DataW H → Nat
  | .lit (.string bytes) => bytes.length + 1
  | .lit _ => 1
  | .nil => 1
  | .ptr d => uptoBulk d + 1
  | .slice elems spare => uptoBulkAll elems + uptoBulkAll spare + 1
  | .agg parts => uptoBulkAll parts + 1
  | .iface _ d => uptoBulk d + 1
  | .map entries => uptoBulkEntries entries + 1
  | .held _ => 1
def uptoBulkAll {H : Type} : List (DataW H) → Nat
  | [] => 0
  | d :: r => uptoBulk d + uptoBulkAll r
def uptoBulkEntries {H : Type} : List (Lit × DataW H) → Nat
  | [] => 0
  | x :: r => uptoBulkEntry x + uptoBulkEntries r
def uptoBulkEntry {H : Type} : Lit × DataW H → Nat
  | (.string bytes, d) => bytes.length + uptoBulk d + 1
  | (_, d) => uptoBulk d + 1
 end
def uptoSmall : (H : Type) → List (DataW H) → Bool := fun _ ds => decide (uptoBulkAll ds ≤ 1048576)
def OpenSpec.upto (s : _root_.Go.ChangeSpec) : _root_.Go.OpenSpec := { _root_.Go.OpenSpec.ofChange s with cond := some uptoSmall }

/-- 'laws.FnValidNet', WHERE WHAT IT READS IS OF BULK AT MOST 1048576: true; the input reads as it did. -/
def fnValidNetUptoRow : OpenClaim := { program := "ytiapaddmnbeheaa", sum := "c925278cc4d23888e20f28347511b6498be54c146f06277e5f0feb35ca4fcac2", func := "loop.example/shopsthatmake/laws.FnValidNet", spec := "fnValidNet", apart := false, narrowed := true }
def FnValidNetUptoSaid : Prop := fnValidNetUptoRow.holds Try.pinned (OpenSpec.upto fnValidNetSpec)

/-- 'laws.FnExactValidNet', WHERE WHAT IT READS IS OF BULK AT MOST 1048576: true; the input reads as it did. -/
def fnExactValidNetUptoRow : OpenClaim := { program := "ytiapaddmnbeheaa", sum := "c925278cc4d23888e20f28347511b6498be54c146f06277e5f0feb35ca4fcac2", func := "loop.example/shopsthatmake/laws.FnExactValidNet", spec := "fnExactValidNet", apart := false, narrowed := true }
def FnExactValidNetUptoSaid : Prop := fnExactValidNetUptoRow.holds Try.pinned (OpenSpec.upto fnExactValidNetSpec)

/-- 'laws.FnIsDead', WHERE WHAT IT READS IS OF BULK AT MOST 1048576: true; the input reads as it did. -/
def fnIsDeadUptoRow : OpenClaim := { program := "ytiapaddmnbeheaa", sum := "c925278cc4d23888e20f28347511b6498be54c146f06277e5f0feb35ca4fcac2", func := "loop.example/shopsthatmake/laws.FnIsDead", spec := "fnIsDead", apart := false, narrowed := true }
def FnIsDeadUptoSaid : Prop := fnIsDeadUptoRow.holds Try.pinned (OpenSpec.upto fnIsDeadSpec)

/-- 'laws.FnExactIsDead', WHERE WHAT IT READS IS OF BULK AT MOST 1048576: true; the input reads as it did. -/
def fnExactIsDeadUptoRow : OpenClaim := { program := "ytiapaddmnbeheaa", sum := "c925278cc4d23888e20f28347511b6498be54c146f06277e5f0feb35ca4fcac2", func := "loop.example/shopsthatmake/laws.FnExactIsDead", spec := "fnExactIsDead", apart := false, narrowed := true }
def FnExactIsDeadUptoSaid : Prop := fnExactIsDeadUptoRow.holds Try.pinned (OpenSpec.upto fnExactIsDeadSpec)

end Rows
end Go.Proofs.Ytiapaddmnbeheaa
