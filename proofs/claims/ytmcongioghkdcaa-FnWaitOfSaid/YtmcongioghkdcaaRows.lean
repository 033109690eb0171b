/-
  No cell of these rows narrows 'for every input' (looked for: loops, veiled, ifaces, maps, wideKeys, modest, calm, conditions, laid).
  DERIVED. THE GIVEN ROWS OF THIS SEAT. 4 by the template 'for every input the law returns true; each argument reads behind the call as it read before'; 0 by the template 'total and deterministic' (their statements: YtmcongioghkdcaaTotals.lean).
  GIVEN WITH THE SEED: the statements are not yours to turn. If you find one false, say at which input.
  Laid BY PROGRAM, IN A SANDBOX (cutbox-rows.mjs): the forced cells as the released guide's own fill.sh prints them over the translation c2f2b145f6c26fd5… (all of the seat's roots in one cut). By AI agents, Wed Nov 11 2026. No macro, syntax, notation, axiom, sorry.
-/
import Derived.Test.YtmcongioghkdcaaChecked
import GoSem.Claim
import GoSem.ClaimJoined
import GoSem.ClaimMapViews
import Derived.JoinedTies
import Derived.KernelRfl
namespace Go.Proofs.Ytmcongioghkdcaa
/- THE CELL 'sum', in the pinned program and in every row, IS THE sha256 OF THE DUMP (.gsa) THAT YtmcongioghkdcaaProg.lean LOADS. Nothing in Lean hashes anything: it is a label: what it is worth is what the hold of that sum in a sandbox is worth. -/
noncomputable def Try.pinned : Pinned := { name := "ytmcongioghkdcaa", sum := "c2f2b145f6c26fd512cbffbdf0a2b85f7d04524077aca9caa15776f965cfea39", checked := Try.checked }
namespace Rows
def none {H : Type} : Left H := { results := [], args := [] }

/-- 'laws.FnValidJobs': WHATEVER THE INPUT: true; the input reads as it did. -/
def fnValidJobsSpec : ChangeSpec := { name := "fnValidJobs", fn := fun _ => fun
  | [d] => { results := [.lit (.bool true)], args := [d] }
  | _ => none }
def fnValidJobsRow : OpenClaim := { program := "ytmcongioghkdcaa", sum := "c2f2b145f6c26fd512cbffbdf0a2b85f7d04524077aca9caa15776f965cfea39", func := "loop.example/shopsthatmake/laws.FnValidJobs", spec := "fnValidJobs", apart := false }
def FnValidJobsSaid : Prop := fnValidJobsRow.holds Try.pinned (OpenSpec.ofChange fnValidJobsSpec)

/-- ITS FALSE NEIGHBOUR: 'it returns false'. Refute it at one input. -/
def fnValidJobsWrong : ChangeSpec := { name := "fnValidJobs", fn := fun _ => fun
  | [d] => { results := [.lit (.bool false)], args := [d] }
  | _ => none }
def FnValidJobsWrongFalsely : Prop := fnValidJobsRow.holds Try.pinned (OpenSpec.ofChange fnValidJobsWrong)

/-- 'laws.FnExactValidJobs': WHATEVER THE INPUT: true; the input reads as it did. -/
def fnExactValidJobsSpec : ChangeSpec := { name := "fnExactValidJobs", fn := fun _ => fun
  | [d] => { results := [.lit (.bool true)], args := [d] }
  | _ => none }
def fnExactValidJobsRow : OpenClaim := { program := "ytmcongioghkdcaa", sum := "c2f2b145f6c26fd512cbffbdf0a2b85f7d04524077aca9caa15776f965cfea39", func := "loop.example/shopsthatmake/laws.FnExactValidJobs", spec := "fnExactValidJobs", apart := false }
def FnExactValidJobsSaid : Prop := fnExactValidJobsRow.holds Try.pinned (OpenSpec.ofChange fnExactValidJobsSpec)

/-- ITS FALSE NEIGHBOUR: 'it returns false'. Refute it at one input. -/
def fnExactValidJobsWrong : ChangeSpec := { name := "fnExactValidJobs", fn := fun _ => fun
  | [d] => { results := [.lit (.bool false)], args := [d] }
  | _ => none }
def FnExactValidJobsWrongFalsely : Prop := fnExactValidJobsRow.holds Try.pinned (OpenSpec.ofChange fnExactValidJobsWrong)

/-- 'laws.FnWaitOf': WHATEVER THE INPUT: true; the input reads as it did. -/
def fnWaitOfSpec : ChangeSpec := { name := "fnWaitOf", fn := fun _ => fun
  | [d] => { results := [.lit (.bool true)], args := [d] }
  | _ => none }
def fnWaitOfRow : OpenClaim := { program := "ytmcongioghkdcaa", sum := "c2f2b145f6c26fd512cbffbdf0a2b85f7d04524077aca9caa15776f965cfea39", func := "loop.example/shopsthatmake/laws.FnWaitOf", spec := "fnWaitOf", unfollowed := true, recurses := true, apart := false }
def FnWaitOfSaid : Prop := fnWaitOfRow.holds Try.pinned (OpenSpec.ofChange fnWaitOfSpec)

/-- ITS FALSE NEIGHBOUR: 'it returns false'. Refute it at one input. -/
def fnWaitOfWrong : ChangeSpec := { name := "fnWaitOf", fn := fun _ => fun
  | [d] => { results := [.lit (.bool false)], args := [d] }
  | _ => none }
def FnWaitOfWrongFalsely : Prop := fnWaitOfRow.holds Try.pinned (OpenSpec.ofChange fnWaitOfWrong)

/-- 'laws.FnExactWaitOf': WHATEVER THE INPUT: true; the input reads as it did. -/
def fnExactWaitOfSpec : ChangeSpec := { name := "fnExactWaitOf", fn := fun _ => fun
  | [d1, d2] => { results := [.lit (.bool true)], args := [d1, d2] }
  | _ => none }
def fnExactWaitOfRow : OpenClaim := { program := "ytmcongioghkdcaa", sum := "c2f2b145f6c26fd512cbffbdf0a2b85f7d04524077aca9caa15776f965cfea39", func := "loop.example/shopsthatmake/laws.FnExactWaitOf", spec := "fnExactWaitOf", unfollowed := true, recurses := true, apart := false }
def FnExactWaitOfSaid : Prop := fnExactWaitOfRow.holds Try.pinned (OpenSpec.ofChange fnExactWaitOfSpec)

/-- ITS FALSE NEIGHBOUR: 'it returns false'. Refute it at one input. -/
def fnExactWaitOfWrong : ChangeSpec := { name := "fnExactWaitOf", fn := fun _ => fun
  | [d1, d2] => { results := [.lit (.bool false)], args := [d1, d2] }
  | _ => none }
def FnExactWaitOfWrongFalsely : Prop := fnExactWaitOfRow.holds Try.pinned (OpenSpec.ofChange fnExactWaitOfWrong)

/- THE SECOND FORM. 'bulk': how many values and letters a reading holds, each counted each time it is reached (what is shared counts as often as it is met; a slice's spare places count too). A statement '..UptoSaid' is the law's where the arguments, and the package variables that the reading takes, are together of bulk at most 1048576: NARROWER than '..Said'. Prove '..Said' where nothing that the law and all that it calls make is longer than what came in: it says more and counts as full. Else prove '..UptoSaid'. A law counts once. -/
mutual
def uptoBulk {H : Type} : DataW H → Nat
  | .lit (.string bytes) => bytes.length + 1
  | .lit _ => 1
  | .nil => 1
  | .ptr d => uptoBulk d + 1
  | .slice elems spare => uptoBulkAll elems + uptoBulkAll spare + 1
  | .agg parts => uptoBulkAll parts + 1
  | .iface _ d => uptoBulk d + 1
  | .map entries => uptoBulkEntries entries + 1
  | .held _ => 1
def uptoBulkAll {H : Type} : List (DataW H) → Nat
  | [] => 0
  | d :: r => uptoBulk d + uptoBulkAll r
def uptoBulkEntries {H : Type} : List (Lit × DataW H) → Nat
  | [] => 0
  | x :: r => uptoBulkEntry x + uptoBulkEntries r
def uptoBulkEntry {H : Type} : Lit × DataW H → Nat
  | (.string bytes, d) => bytes.length + uptoBulk d + 1
  | (_, d) => uptoBulk d + 1
 end
def uptoSmall : (H : Type) → List (DataW H) → Bool := fun _ ds => decide (uptoBulkAll ds ≤ 1048576)
def OpenSpec.upto (s : _root_.Go.ChangeSpec) : _root_.Go.OpenSpec := { _root_.Go.OpenSpec.ofChange s with cond := some uptoSmall }

/-- 'laws.FnValidJobs', WHERE WHAT IT READS IS OF BULK AT MOST 1048576: true; the input reads as it did. -/
def fnValidJobsUptoRow : OpenClaim := { program := "ytmcongioghkdcaa", sum := "c2f2b145f6c26fd512cbffbdf0a2b85f7d04524077aca9caa15776f965cfea39", func := "loop.example/shopsthatmake/laws.FnValidJobs", spec := "fnValidJobs", apart := false, narrowed := true }
def FnValidJobsUptoSaid : Prop := fnValidJobsUptoRow.holds Try.pinned (OpenSpec.upto fnValidJobsSpec)

/-- 'laws.FnExactValidJobs', WHERE WHAT IT READS IS OF BULK AT MOST 1048576: true; the input reads as it did. -/
def fnExactValidJobsUptoRow : OpenClaim := { program := "ytmcongioghkdcaa", sum := "c2f2b145f6c26fd512cbffbdf0a2b85f7d04524077aca9caa15776f965cfea39", func := "loop.example/shopsthatmake/laws.FnExactValidJobs", spec := "fnExactValidJobs", apart := false, narrowed := true }
def FnExactValidJobsUptoSaid : Prop := fnExactValidJobsUptoRow.holds Try.pinned (OpenSpec.upto fnExactValidJobsSpec)

/-- 'laws.FnWaitOf', WHERE WHAT IT READS IS OF BULK AT MOST 1048576: true; the input reads as it did. -/
def fnWaitOfUptoRow : OpenClaim := { program := "ytmcongioghkdcaa", sum := "c2f2b145f6c26fd512cbffbdf0a2b85f7d04524077aca9caa15776f965cfea39", func := "loop.example/shopsthatmake/laws.FnWaitOf", spec := "fnWaitOf", unfollowed := true, recurses := true, apart := false, narrowed := true }
def FnWaitOfUptoSaid : Prop := fnWaitOfUptoRow.holds Try.pinned (OpenSpec.upto fnWaitOfSpec)

/-- 'laws.FnExactWaitOf', WHERE WHAT IT READS IS OF BULK AT MOST 1048576: true; the input reads as it did. -/
def fnExactWaitOfUptoRow : OpenClaim := { program := "ytmcongioghkdcaa", sum := "c2f2b145f6c26fd512cbffbdf0a2b85f7d04524077aca9caa15776f965cfea39", func := "loop.example/shopsthatmake/laws.FnExactWaitOf", spec := "fnExactWaitOf", unfollowed := true, recurses := true, apart := false, narrowed := true }
def FnExactWaitOfUptoSaid : Prop := fnExactWaitOfUptoRow.holds Try.pinned (OpenSpec.upto fnExactWaitOfSpec)

end Rows
end Go.Proofs.Ytmcongioghkdcaa
