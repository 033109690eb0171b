/-
  No cell of these rows narrows 'for every input' (looked for: loops, veiled, ifaces, maps, wideKeys, modest, calm, conditions, laid).
  DERIVED. THE GIVEN ROWS OF THIS SEAT. 4 by the template 'for every input the law returns true; each argument reads behind the call as it read before'; 0 by the template 'total and deterministic' (their statements: YtmcongioghkdcadTotals.lean).
  GIVEN WITH THE SEED: the statements are not yours to turn. If you find one false, say at which input.
  Laid BY PROGRAM, IN A SANDBOX (cutbox-rows.mjs): the forced cells as the released guide's own fill.sh prints them over the translation a631e3d14b92f2cb… (all of the seat's roots in one cut). By AI agents, Wed Nov 11 2026. No macro, syntax, notation, axiom, sorry.
-/
import Derived.Test.YtmcongioghkdcadChecked
import GoSem.Claim
import GoSem.ClaimJoined
import GoSem.ClaimMapViews
import Derived.JoinedTies
import Derived.KernelRfl
namespace Go.Proofs.Ytmcongioghkdcad
/- THE CELL 'sum', in the pinned program and in every row, IS THE sha256 OF THE DUMP (.gsa) THAT YtmcongioghkdcadProg.lean LOADS. Nothing in Lean hashes anything: it is a label: what it is worth is what the hold of that sum in a sandbox is worth. -/
noncomputable def Try.pinned : Pinned := { name := "ytmcongioghkdcad", sum := "a631e3d14b92f2cb76aa828d3b21dd5e595244f44211107f197f9500ee9eda62", checked := Try.checked }
namespace Rows
def none {H : Type} : Left H := { results := [], args := [] }

/-- 'laws.FnOrderBy': WHATEVER THE INPUT: true; the input reads as it did. -/
def fnOrderBySpec : ChangeSpec := { name := "fnOrderBy", fn := fun _ => fun
  | [d] => { results := [.lit (.bool true)], args := [d] }
  | _ => none }
def fnOrderByRow : OpenClaim := { program := "ytmcongioghkdcad", sum := "a631e3d14b92f2cb76aa828d3b21dd5e595244f44211107f197f9500ee9eda62", func := "loop.example/shopsthatmake/laws.FnOrderBy", spec := "fnOrderBy", unfollowed := true, recurses := true, apart := false }
def FnOrderBySaid : Prop := fnOrderByRow.holds Try.pinned (OpenSpec.ofChange fnOrderBySpec)

/-- ITS FALSE NEIGHBOUR: 'it returns false'. Refute it at one input. -/
def fnOrderByWrong : ChangeSpec := { name := "fnOrderBy", fn := fun _ => fun
  | [d] => { results := [.lit (.bool false)], args := [d] }
  | _ => none }
def FnOrderByWrongFalsely : Prop := fnOrderByRow.holds Try.pinned (OpenSpec.ofChange fnOrderByWrong)

/-- 'laws.FnExactOrderBy': WHATEVER THE INPUT: true; the input reads as it did. -/
def fnExactOrderBySpec : ChangeSpec := { name := "fnExactOrderBy", fn := fun _ => fun
  | [d1, d2] => { results := [.lit (.bool true)], args := [d1, d2] }
  | _ => none }
def fnExactOrderByRow : OpenClaim := { program := "ytmcongioghkdcad", sum := "a631e3d14b92f2cb76aa828d3b21dd5e595244f44211107f197f9500ee9eda62", func := "loop.example/shopsthatmake/laws.FnExactOrderBy", spec := "fnExactOrderBy", unfollowed := true, recurses := true, apart := false }
def FnExactOrderBySaid : Prop := fnExactOrderByRow.holds Try.pinned (OpenSpec.ofChange fnExactOrderBySpec)

/-- ITS FALSE NEIGHBOUR: 'it returns false'. Refute it at one input. -/
def fnExactOrderByWrong : ChangeSpec := { name := "fnExactOrderBy", fn := fun _ => fun
  | [d1, d2] => { results := [.lit (.bool false)], args := [d1, d2] }
  | _ => none }
def FnExactOrderByWrongFalsely : Prop := fnExactOrderByRow.holds Try.pinned (OpenSpec.ofChange fnExactOrderByWrong)

/-- 'laws.FnKeptOnTime': WHATEVER THE INPUT: true; the input reads as it did. -/
def fnKeptOnTimeSpec : ChangeSpec := { name := "fnKeptOnTime", fn := fun _ => fun
  | [d] => { results := [.lit (.bool true)], args := [d] }
  | _ => none }
def fnKeptOnTimeRow : OpenClaim := { program := "ytmcongioghkdcad", sum := "a631e3d14b92f2cb76aa828d3b21dd5e595244f44211107f197f9500ee9eda62", func := "loop.example/shopsthatmake/laws.FnKeptOnTime", spec := "fnKeptOnTime", unfollowed := true, recurses := true, apart := false }
def FnKeptOnTimeSaid : Prop := fnKeptOnTimeRow.holds Try.pinned (OpenSpec.ofChange fnKeptOnTimeSpec)

/-- ITS FALSE NEIGHBOUR: 'it returns false'. Refute it at one input. -/
def fnKeptOnTimeWrong : ChangeSpec := { name := "fnKeptOnTime", fn := fun _ => fun
  | [d] => { results := [.lit (.bool false)], args := [d] }
  | _ => none }
def FnKeptOnTimeWrongFalsely : Prop := fnKeptOnTimeRow.holds Try.pinned (OpenSpec.ofChange fnKeptOnTimeWrong)

/-- 'laws.FnExactKeptOnTime': WHATEVER THE INPUT: true; the input reads as it did. -/
def fnExactKeptOnTimeSpec : ChangeSpec := { name := "fnExactKeptOnTime", fn := fun _ => fun
  | [d] => { results := [.lit (.bool true)], args := [d] }
  | _ => none }
def fnExactKeptOnTimeRow : OpenClaim := { program := "ytmcongioghkdcad", sum := "a631e3d14b92f2cb76aa828d3b21dd5e595244f44211107f197f9500ee9eda62", func := "loop.example/shopsthatmake/laws.FnExactKeptOnTime", spec := "fnExactKeptOnTime", unfollowed := true, recurses := true, apart := false }
def FnExactKeptOnTimeSaid : Prop := fnExactKeptOnTimeRow.holds Try.pinned (OpenSpec.ofChange fnExactKeptOnTimeSpec)

/-- ITS FALSE NEIGHBOUR: 'it returns false'. Refute it at one input. -/
def fnExactKeptOnTimeWrong : ChangeSpec := { name := "fnExactKeptOnTime", fn := fun _ => fun
  | [d] => { results := [.lit (.bool false)], args := [d] }
  | _ => none }
def FnExactKeptOnTimeWrongFalsely : Prop := fnExactKeptOnTimeRow.holds Try.pinned (OpenSpec.ofChange fnExactKeptOnTimeWrong)

/- THE SECOND FORM. 'bulk': how many values and letters a reading holds, each counted each time it is reached (what is shared counts as often as it is met; a slice's spare places count too). A statement '..UptoSaid' is the law's where the arguments, and the package variables that the reading takes, are together of bulk at most 1048576: NARROWER than '..Said'. Prove '..Said' where nothing that the law and all that it calls make is longer than what came in: it says more and counts as full. Else prove '..UptoSaid'. A law counts once. -/
mutual
def uptoBulk {H : Type} : DataW H → Nat
  | .lit (.string bytes) => bytes.length + 1
  | .lit _ => 1
  | .nil => 1
  | .ptr d => uptoBulk d + 1
  | .slice elems spare => uptoBulkAll elems + uptoBulkAll spare + 1
  | .agg parts => uptoBulkAll parts + 1
  | .iface _ d => uptoBulk d + 1
  | .map entries => uptoBulkEntries entries + 1
  | .held _ => 1
def uptoBulkAll {H : Type} : List (DataW H) → Nat
  | [] => 0
  | d :: r => uptoBulk d + uptoBulkAll r
def uptoBulkEntries {H : Type} : List (Lit × DataW H) → Nat
  | [] => 0
  | x :: r => uptoBulkEntry x + uptoBulkEntries r
def uptoBulkEntry {H : Type} : Lit × DataW H → Nat
  | (.string bytes, d) => bytes.length + uptoBulk d + 1
  | (_, d) => uptoBulk d + 1
 end
def uptoSmall : (H : Type) → List (DataW H) → Bool := fun _ ds => decide (uptoBulkAll ds ≤ 1048576)
def OpenSpec.upto (s : _root_.Go.ChangeSpec) : _root_.Go.OpenSpec := { _root_.Go.OpenSpec.ofChange s with cond := some uptoSmall }

/-- 'laws.FnOrderBy', WHERE WHAT IT READS IS OF BULK AT MOST 1048576: true; the input reads as it did. -/
def fnOrderByUptoRow : OpenClaim := { program := "ytmcongioghkdcad", sum := "a631e3d14b92f2cb76aa828d3b21dd5e595244f44211107f197f9500ee9eda62", func := "loop.example/shopsthatmake/laws.FnOrderBy", spec := "fnOrderBy", unfollowed := true, recurses := true, apart := false, narrowed := true }
def FnOrderByUptoSaid : Prop := fnOrderByUptoRow.holds Try.pinned (OpenSpec.upto fnOrderBySpec)

/-- 'laws.FnExactOrderBy', WHERE WHAT IT READS IS OF BULK AT MOST 1048576: true; the input reads as it did. -/
def fnExactOrderByUptoRow : OpenClaim := { program := "ytmcongioghkdcad", sum := "a631e3d14b92f2cb76aa828d3b21dd5e595244f44211107f197f9500ee9eda62", func := "loop.example/shopsthatmake/laws.FnExactOrderBy", spec := "fnExactOrderBy", unfollowed := true, recurses := true, apart := false, narrowed := true }
def FnExactOrderByUptoSaid : Prop := fnExactOrderByUptoRow.holds Try.pinned (OpenSpec.upto fnExactOrderBySpec)

/-- 'laws.FnKeptOnTime', WHERE WHAT IT READS IS OF BULK AT MOST 1048576: true; the input reads as it did. -/
def fnKeptOnTimeUptoRow : OpenClaim := { program := "ytmcongioghkdcad", sum := "a631e3d14b92f2cb76aa828d3b21dd5e595244f44211107f197f9500ee9eda62", func := "loop.example/shopsthatmake/laws.FnKeptOnTime", spec := "fnKeptOnTime", unfollowed := true, recurses := true, apart := false, narrowed := true }
def FnKeptOnTimeUptoSaid : Prop := fnKeptOnTimeUptoRow.holds Try.pinned (OpenSpec.upto fnKeptOnTimeSpec)

/-- 'laws.FnExactKeptOnTime', WHERE WHAT IT READS IS OF BULK AT MOST 1048576: true; the input reads as it did. -/
def fnExactKeptOnTimeUptoRow : OpenClaim := { program := "ytmcongioghkdcad", sum := "a631e3d14b92f2cb76aa828d3b21dd5e595244f44211107f197f9500ee9eda62", func := "loop.example/shopsthatmake/laws.FnExactKeptOnTime", spec := "fnExactKeptOnTime", unfollowed := true, recurses := true, apart := false, narrowed := true }
def FnExactKeptOnTimeUptoSaid : Prop := fnExactKeptOnTimeUptoRow.holds Try.pinned (OpenSpec.upto fnExactKeptOnTimeSpec)

end Rows
end Go.Proofs.Ytmcongioghkdcad
