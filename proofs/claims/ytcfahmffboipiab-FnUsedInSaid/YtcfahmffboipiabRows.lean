/-
  No cell of these rows narrows 'for every input' (looked for: loops, veiled, ifaces, maps, wideKeys, modest, calm, conditions, laid).
  DERIVED. THE GIVEN ROWS OF THIS SEAT. 4 by the template 'for every input the law returns true; each argument reads behind the call as it read before'; 0 by the template 'total and deterministic' (their statements: YtcfahmffboipiabTotals.lean).
  GIVEN WITH THE SEED: the statements are not yours to turn. If you find one false, say at which input.
  Laid BY PROGRAM, IN A SANDBOX (cutbox-rows.mjs): the forced cells as the released guide's own fill.sh prints them over the translation 70cbd66f8db11bd6… (all of the seat's roots in one cut). By AI agents, Wed Nov 11 2026. No macro, syntax, notation, axiom, sorry.
-/
import Derived.Test.YtcfahmffboipiabChecked
import GoSem.Claim
import GoSem.ClaimJoined
import GoSem.ClaimMapViews
import Derived.JoinedTies
import Derived.KernelRfl
namespace Go.Proofs.Ytcfahmffboipiab
/- THE CELL 'sum', in the pinned program and in every row, IS THE sha256 OF THE DUMP (.gsa) THAT YtcfahmffboipiabProg.lean LOADS. Nothing in Lean hashes anything: it is a label: what it is worth is what the hold of that sum in a sandbox is worth. -/
noncomputable def Try.pinned : Pinned := { name := "ytcfahmffboipiab", sum := "70cbd66f8db11bd6ab21e74628229d48edc7f5a6cc28c529e9bb1f9f520b3af1", checked := Try.checked }
namespace Rows
def none {H : Type} : Left H := { results := [], args := [] }

/-- 'laws.FnUsedIn': WHATEVER THE INPUT: true; the input reads as it did. -/
def fnUsedInSpec : ChangeSpec := { name := "fnUsedIn", fn := fun _ => fun
  | [d] => { results := [.lit (.bool true)], args := [d] }
  | _ => none }
def fnUsedInRow : OpenClaim := { program := "ytcfahmffboipiab", sum := "70cbd66f8db11bd6ab21e74628229d48edc7f5a6cc28c529e9bb1f9f520b3af1", func := "loop.example/shopsthatmake/laws.FnUsedIn", spec := "fnUsedIn", unfollowed := true, recurses := true, apart := false }
def FnUsedInSaid : Prop := fnUsedInRow.holds Try.pinned (OpenSpec.ofChange fnUsedInSpec)

/-- ITS FALSE NEIGHBOUR: 'it returns false'. Refute it at one input. -/
def fnUsedInWrong : ChangeSpec := { name := "fnUsedIn", fn := fun _ => fun
  | [d] => { results := [.lit (.bool false)], args := [d] }
  | _ => none }
def FnUsedInWrongFalsely : Prop := fnUsedInRow.holds Try.pinned (OpenSpec.ofChange fnUsedInWrong)

/-- 'laws.FnExactUsedIn': WHATEVER THE INPUT: true; the input reads as it did. -/
def fnExactUsedInSpec : ChangeSpec := { name := "fnExactUsedIn", fn := fun _ => fun
  | [d1, d2] => { results := [.lit (.bool true)], args := [d1, d2] }
  | _ => none }
def fnExactUsedInRow : OpenClaim := { program := "ytcfahmffboipiab", sum := "70cbd66f8db11bd6ab21e74628229d48edc7f5a6cc28c529e9bb1f9f520b3af1", func := "loop.example/shopsthatmake/laws.FnExactUsedIn", spec := "fnExactUsedIn", unfollowed := true, recurses := true, apart := false }
def FnExactUsedInSaid : Prop := fnExactUsedInRow.holds Try.pinned (OpenSpec.ofChange fnExactUsedInSpec)

/-- ITS FALSE NEIGHBOUR: 'it returns false'. Refute it at one input. -/
def fnExactUsedInWrong : ChangeSpec := { name := "fnExactUsedIn", fn := fun _ => fun
  | [d1, d2] => { results := [.lit (.bool false)], args := [d1, d2] }
  | _ => none }
def FnExactUsedInWrongFalsely : Prop := fnExactUsedInRow.holds Try.pinned (OpenSpec.ofChange fnExactUsedInWrong)

/-- 'laws.FnWantsAreAdded': WHATEVER THE INPUT: true; the input reads as it did. -/
def fnWantsAreAddedSpec : ChangeSpec := { name := "fnWantsAreAdded", fn := fun _ => fun
  | [d] => { results := [.lit (.bool true)], args := [d] }
  | _ => none }
def fnWantsAreAddedRow : OpenClaim := { program := "ytcfahmffboipiab", sum := "70cbd66f8db11bd6ab21e74628229d48edc7f5a6cc28c529e9bb1f9f520b3af1", func := "loop.example/shopsthatmake/laws.FnWantsAreAdded", spec := "fnWantsAreAdded", unfollowed := true, recurses := true, apart := false }
def FnWantsAreAddedSaid : Prop := fnWantsAreAddedRow.holds Try.pinned (OpenSpec.ofChange fnWantsAreAddedSpec)

/-- ITS FALSE NEIGHBOUR: 'it returns false'. Refute it at one input. -/
def fnWantsAreAddedWrong : ChangeSpec := { name := "fnWantsAreAdded", fn := fun _ => fun
  | [d] => { results := [.lit (.bool false)], args := [d] }
  | _ => none }
def FnWantsAreAddedWrongFalsely : Prop := fnWantsAreAddedRow.holds Try.pinned (OpenSpec.ofChange fnWantsAreAddedWrong)

/-- 'laws.FnHigherPartsAreMadeOfLower': WHATEVER THE INPUT: true; the input reads as it did. -/
def fnHigherPartsAreMadeOfLowerSpec : ChangeSpec := { name := "fnHigherPartsAreMadeOfLower", fn := fun _ => fun
  | [d] => { results := [.lit (.bool true)], args := [d] }
  | _ => none }
def fnHigherPartsAreMadeOfLowerRow : OpenClaim := { program := "ytcfahmffboipiab", sum := "70cbd66f8db11bd6ab21e74628229d48edc7f5a6cc28c529e9bb1f9f520b3af1", func := "loop.example/shopsthatmake/laws.FnHigherPartsAreMadeOfLower", spec := "fnHigherPartsAreMadeOfLower", unfollowed := true, recurses := true, apart := false }
def FnHigherPartsAreMadeOfLowerSaid : Prop := fnHigherPartsAreMadeOfLowerRow.holds Try.pinned (OpenSpec.ofChange fnHigherPartsAreMadeOfLowerSpec)

/-- ITS FALSE NEIGHBOUR: 'it returns false'. Refute it at one input. -/
def fnHigherPartsAreMadeOfLowerWrong : ChangeSpec := { name := "fnHigherPartsAreMadeOfLower", fn := fun _ => fun
  | [d] => { results := [.lit (.bool false)], args := [d] }
  | _ => none }
def FnHigherPartsAreMadeOfLowerWrongFalsely : Prop := fnHigherPartsAreMadeOfLowerRow.holds Try.pinned (OpenSpec.ofChange fnHigherPartsAreMadeOfLowerWrong)

/- THE SECOND FORM. 'bulk': how many values and letters a reading holds, each counted each time it is reached (what is shared counts as often as it is met; a slice's spare places count too). A statement '..UptoSaid' is the law's where the arguments, and the package variables that the reading takes, are together of bulk at most 1048576: NARROWER than '..Said'. Prove '..Said' where nothing that the law and all that it calls make is longer than what came in: it says more and counts as full. Else prove '..UptoSaid'. A law counts once. -/
mutual
def uptoBulk {H : Type} : DataW H → Nat
  | .lit (.string bytes) => bytes.length + 1
  | .lit _ => 1
  | .nil => 1
  | .ptr d => uptoBulk d + 1
  | .slice elems spare => uptoBulkAll elems + uptoBulkAll spare + 1
  | .agg parts => uptoBulkAll parts + 1
  | .iface _ d => uptoBulk d + 1
  | .map entries => uptoBulkEntries entries + 1
  | .held _ => 1
def uptoBulkAll {H : Type} : List (DataW H) → Nat
  | [] => 0
  | d :: r => uptoBulk d + uptoBulkAll r
def uptoBulkEntries {H : Type} : List (Lit × DataW H) → Nat
  | [] => 0
  | x :: r => uptoBulkEntry x + uptoBulkEntries r
def uptoBulkEntry {H : Type} : Lit × DataW H → Nat
  | (.string bytes, d) => bytes.length + uptoBulk d + 1
  | (_, d) => uptoBulk d + 1
 end
def uptoSmall : (H : Type) → List (DataW H) → Bool := fun _ ds => decide (uptoBulkAll ds ≤ 1048576)
def OpenSpec.upto (s : _root_.Go.ChangeSpec) : _root_.Go.OpenSpec := { _root_.Go.OpenSpec.ofChange s with cond := some uptoSmall }

/-- 'laws.FnUsedIn', WHERE WHAT IT READS IS OF BULK AT MOST 1048576: true; the input reads as it did. -/
def fnUsedInUptoRow : OpenClaim := { program := "ytcfahmffboipiab", sum := "70cbd66f8db11bd6ab21e74628229d48edc7f5a6cc28c529e9bb1f9f520b3af1", func := "loop.example/shopsthatmake/laws.FnUsedIn", spec := "fnUsedIn", unfollowed := true, recurses := true, apart := false, narrowed := true }
def FnUsedInUptoSaid : Prop := fnUsedInUptoRow.holds Try.pinned (OpenSpec.upto fnUsedInSpec)

/-- 'laws.FnExactUsedIn', WHERE WHAT IT READS IS OF BULK AT MOST 1048576: true; the input reads as it did. -/
def fnExactUsedInUptoRow : OpenClaim := { program := "ytcfahmffboipiab", sum := "70cbd66f8db11bd6ab21e74628229d48edc7f5a6cc28c529e9bb1f9f520b3af1", func := "loop.example/shopsthatmake/laws.FnExactUsedIn", spec := "fnExactUsedIn", unfollowed := true, recurses := true, apart := false, narrowed := true }
def FnExactUsedInUptoSaid : Prop := fnExactUsedInUptoRow.holds Try.pinned (OpenSpec.upto fnExactUsedInSpec)

/-- 'laws.FnWantsAreAdded', WHERE WHAT IT READS IS OF BULK AT MOST 1048576: true; the input reads as it did. -/
def fnWantsAreAddedUptoRow : OpenClaim := { program := "ytcfahmffboipiab", sum := "70cbd66f8db11bd6ab21e74628229d48edc7f5a6cc28c529e9bb1f9f520b3af1", func := "loop.example/shopsthatmake/laws.FnWantsAreAdded", spec := "fnWantsAreAdded", unfollowed := true, recurses := true, apart := false, narrowed := true }
def FnWantsAreAddedUptoSaid : Prop := fnWantsAreAddedUptoRow.holds Try.pinned (OpenSpec.upto fnWantsAreAddedSpec)

/-- 'laws.FnHigherPartsAreMadeOfLower', WHERE WHAT IT READS IS OF BULK AT MOST 1048576: true; the input reads as it did. -/
def fnHigherPartsAreMadeOfLowerUptoRow : OpenClaim := { program := "ytcfahmffboipiab", sum := "70cbd66f8db11bd6ab21e74628229d48edc7f5a6cc28c529e9bb1f9f520b3af1", func := "loop.example/shopsthatmake/laws.FnHigherPartsAreMadeOfLower", spec := "fnHigherPartsAreMadeOfLower", unfollowed := true, recurses := true, apart := false, narrowed := true }
def FnHigherPartsAreMadeOfLowerUptoSaid : Prop := fnHigherPartsAreMadeOfLowerUptoRow.holds Try.pinned (OpenSpec.upto fnHigherPartsAreMadeOfLowerSpec)

end Rows
end Go.Proofs.Ytcfahmffboipiab
