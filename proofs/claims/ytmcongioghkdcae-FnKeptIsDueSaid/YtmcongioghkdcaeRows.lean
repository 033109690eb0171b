/-
  No cell of these rows narrows 'for every input' (looked for: loops, veiled, ifaces, maps, wideKeys, modest, calm, conditions, laid).
  DERIVED. THE GIVEN ROWS OF THIS SEAT. 3 by the template 'for every input the law returns true; each argument reads behind the call as it read before'; 0 by the template 'total and deterministic' (their statements: YtmcongioghkdcaeTotals.lean).
  GIVEN WITH THE SEED: the statements are not yours to turn. If you find one false, say at which input.
  Laid BY PROGRAM, IN A SANDBOX (cutbox-rows.mjs): the forced cells as the released guide's own fill.sh prints them over the translation c4d4ae3c17a5846a… (all of the seat's roots in one cut). By AI agents, Wed Nov 11 2026. No macro, syntax, notation, axiom, sorry.
-/
import Derived.Test.YtmcongioghkdcaeChecked
import GoSem.Claim
import GoSem.ClaimJoined
import GoSem.ClaimMapViews
import Derived.JoinedTies
import Derived.KernelRfl
namespace Go.Proofs.Ytmcongioghkdcae
/- THE CELL 'sum', in the pinned program and in every row, IS THE sha256 OF THE DUMP (.gsa) THAT YtmcongioghkdcaeProg.lean LOADS. Nothing in Lean hashes anything: it is a label: what it is worth is what the hold of that sum in a sandbox is worth. -/
noncomputable def Try.pinned : Pinned := { name := "ytmcongioghkdcae", sum := "c4d4ae3c17a5846aaa9d02d953e7e09aa11ef2ac741fc0f89ae4f8449652a604", checked := Try.checked }
namespace Rows
def none {H : Type} : Left H := { results := [], args := [] }

/-- 'laws.FnWaitsTurned': WHATEVER THE INPUT: true; the input reads as it did. -/
def fnWaitsTurnedSpec : ChangeSpec := { name := "fnWaitsTurned", fn := fun _ => fun
  | [d] => { results := [.lit (.bool true)], args := [d] }
  | _ => none }
def fnWaitsTurnedRow : OpenClaim := { program := "ytmcongioghkdcae", sum := "c4d4ae3c17a5846aaa9d02d953e7e09aa11ef2ac741fc0f89ae4f8449652a604", func := "loop.example/shopsthatmake/laws.FnWaitsTurned", spec := "fnWaitsTurned", unfollowed := true, recurses := true, apart := false }
def FnWaitsTurnedSaid : Prop := fnWaitsTurnedRow.holds Try.pinned (OpenSpec.ofChange fnWaitsTurnedSpec)

/-- ITS FALSE NEIGHBOUR: 'it returns false'. Refute it at one input. -/
def fnWaitsTurnedWrong : ChangeSpec := { name := "fnWaitsTurned", fn := fun _ => fun
  | [d] => { results := [.lit (.bool false)], args := [d] }
  | _ => none }
def FnWaitsTurnedWrongFalsely : Prop := fnWaitsTurnedRow.holds Try.pinned (OpenSpec.ofChange fnWaitsTurnedWrong)

/-- 'laws.FnLateWithoutTime': WHATEVER THE INPUT: true; the input reads as it did. -/
def fnLateWithoutTimeSpec : ChangeSpec := { name := "fnLateWithoutTime", fn := fun _ => fun
  | [d] => { results := [.lit (.bool true)], args := [d] }
  | _ => none }
def fnLateWithoutTimeRow : OpenClaim := { program := "ytmcongioghkdcae", sum := "c4d4ae3c17a5846aaa9d02d953e7e09aa11ef2ac741fc0f89ae4f8449652a604", func := "loop.example/shopsthatmake/laws.FnLateWithoutTime", spec := "fnLateWithoutTime", unfollowed := true, recurses := true, apart := false }
def FnLateWithoutTimeSaid : Prop := fnLateWithoutTimeRow.holds Try.pinned (OpenSpec.ofChange fnLateWithoutTimeSpec)

/-- ITS FALSE NEIGHBOUR: 'it returns false'. Refute it at one input. -/
def fnLateWithoutTimeWrong : ChangeSpec := { name := "fnLateWithoutTime", fn := fun _ => fun
  | [d] => { results := [.lit (.bool false)], args := [d] }
  | _ => none }
def FnLateWithoutTimeWrongFalsely : Prop := fnLateWithoutTimeRow.holds Try.pinned (OpenSpec.ofChange fnLateWithoutTimeWrong)

/-- 'laws.FnKeptIsDue': WHATEVER THE INPUT: true; the input reads as it did. -/
def fnKeptIsDueSpec : ChangeSpec := { name := "fnKeptIsDue", fn := fun _ => fun
  | [d] => { results := [.lit (.bool true)], args := [d] }
  | _ => none }
def fnKeptIsDueRow : OpenClaim := { program := "ytmcongioghkdcae", sum := "c4d4ae3c17a5846aaa9d02d953e7e09aa11ef2ac741fc0f89ae4f8449652a604", func := "loop.example/shopsthatmake/laws.FnKeptIsDue", spec := "fnKeptIsDue", unfollowed := true, recurses := true, apart := false }
def FnKeptIsDueSaid : Prop := fnKeptIsDueRow.holds Try.pinned (OpenSpec.ofChange fnKeptIsDueSpec)

/-- ITS FALSE NEIGHBOUR: 'it returns false'. Refute it at one input. -/
def fnKeptIsDueWrong : ChangeSpec := { name := "fnKeptIsDue", fn := fun _ => fun
  | [d] => { results := [.lit (.bool false)], args := [d] }
  | _ => none }
def FnKeptIsDueWrongFalsely : Prop := fnKeptIsDueRow.holds Try.pinned (OpenSpec.ofChange fnKeptIsDueWrong)

/- THE SECOND FORM. 'bulk': how many values and letters a reading holds, each counted each time it is reached (what is shared counts as often as it is met; a slice's spare places count too). A statement '..UptoSaid' is the law's where the arguments, and the package variables that the reading takes, are together of bulk at most 1048576: NARROWER than '..Said'. Prove '..Said' where nothing that the law and all that it calls make is longer than what came in: it says more and counts as full. Else prove '..UptoSaid'. A law counts once. -/
mutual
def uptoBulk {H : Type} : DataW H → Nat
  | .lit (.string bytes) => bytes.length + 1
  | .lit _ => 1
  | .nil => 1
  | .ptr d => uptoBulk d + 1
  | .slice elems spare => uptoBulkAll elems + uptoBulkAll spare + 1
  | .agg parts => uptoBulkAll parts + 1
  | .iface _ d => uptoBulk d + 1
  | .map entries => uptoBulkEntries entries + 1
  | .held _ => 1
def uptoBulkAll {H : Type} : List (DataW H) → Nat
  | [] => 0
  | d :: r => uptoBulk d + uptoBulkAll r
def uptoBulkEntries {H : Type} : List (Lit × DataW H) → Nat
  | [] => 0
  | x :: r => uptoBulkEntry x + uptoBulkEntries r
def uptoBulkEntry {H : Type} : Lit × DataW H → Nat
  | (.string bytes, d) => bytes.length + uptoBulk d + 1
  | (_, d) => uptoBulk d + 1
 end
def uptoSmall : (H : Type) → List (DataW H) → Bool := fun _ ds => decide (uptoBulkAll ds ≤ 1048576)
def OpenSpec.upto (s : _root_.Go.ChangeSpec) : _root_.Go.OpenSpec := { _root_.Go.OpenSpec.ofChange s with cond := some uptoSmall }

/-- 'laws.FnWaitsTurned', WHERE WHAT IT READS IS OF BULK AT MOST 1048576: true; the input reads as it did. -/
def fnWaitsTurnedUptoRow : OpenClaim := { program := "ytmcongioghkdcae", sum := "c4d4ae3c17a5846aaa9d02d953e7e09aa11ef2ac741fc0f89ae4f8449652a604", func := "loop.example/shopsthatmake/laws.FnWaitsTurned", spec := "fnWaitsTurned", unfollowed := true, recurses := true, apart := false, narrowed := true }
def FnWaitsTurnedUptoSaid : Prop := fnWaitsTurnedUptoRow.holds Try.pinned (OpenSpec.upto fnWaitsTurnedSpec)

/-- 'laws.FnLateWithoutTime', WHERE WHAT IT READS IS OF BULK AT MOST 1048576: true; the input reads as it did. -/
def fnLateWithoutTimeUptoRow : OpenClaim := { program := "ytmcongioghkdcae", sum := "c4d4ae3c17a5846aaa9d02d953e7e09aa11ef2ac741fc0f89ae4f8449652a604", func := "loop.example/shopsthatmake/laws.FnLateWithoutTime", spec := "fnLateWithoutTime", unfollowed := true, recurses := true, apart := false, narrowed := true }
def FnLateWithoutTimeUptoSaid : Prop := fnLateWithoutTimeUptoRow.holds Try.pinned (OpenSpec.upto fnLateWithoutTimeSpec)

/-- 'laws.FnKeptIsDue', WHERE WHAT IT READS IS OF BULK AT MOST 1048576: true; the input reads as it did. -/
def fnKeptIsDueUptoRow : OpenClaim := { program := "ytmcongioghkdcae", sum := "c4d4ae3c17a5846aaa9d02d953e7e09aa11ef2ac741fc0f89ae4f8449652a604", func := "loop.example/shopsthatmake/laws.FnKeptIsDue", spec := "fnKeptIsDue", unfollowed := true, recurses := true, apart := false, narrowed := true }
def FnKeptIsDueUptoSaid : Prop := fnKeptIsDueUptoRow.holds Try.pinned (OpenSpec.upto fnKeptIsDueSpec)

end Rows
end Go.Proofs.Ytmcongioghkdcae
