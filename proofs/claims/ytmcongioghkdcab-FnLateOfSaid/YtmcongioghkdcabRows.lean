/-
  No cell of these rows narrows 'for every input' (looked for: loops, veiled, ifaces, maps, wideKeys, modest, calm, conditions, laid).
  DERIVED. THE GIVEN ROWS OF THIS SEAT. 4 by the template 'for every input the law returns true; each argument reads behind the call as it read before'; 0 by the template 'total and deterministic' (their statements: YtmcongioghkdcabTotals.lean).
  GIVEN WITH THE SEED: the statements are not yours to turn. If you find one false, say at which input.
  Laid BY PROGRAM, IN A SANDBOX (cutbox-rows.mjs): the forced cells as the released guide's own fill.sh prints them over the translation afcaa20e4885b739… (all of the seat's roots in one cut). By AI agents, Wed Nov 11 2026. No macro, syntax, notation, axiom, sorry.
-/
import Derived.Test.YtmcongioghkdcabChecked
import GoSem.Claim
import GoSem.ClaimJoined
import GoSem.ClaimMapViews
import Derived.JoinedTies
import Derived.KernelRfl
namespace Go.Proofs.Ytmcongioghkdcab
/- THE CELL 'sum', in the pinned program and in every row, IS THE sha256 OF THE DUMP (.gsa) THAT YtmcongioghkdcabProg.lean LOADS. Nothing in Lean hashes anything: it is a label: what it is worth is what the hold of that sum in a sandbox is worth. -/
noncomputable def Try.pinned : Pinned := { name := "ytmcongioghkdcab", sum := "afcaa20e4885b73964eaa814247eacd4217aed2afd01288dfb07b9ac3187acb0", checked := Try.checked }
namespace Rows
def none {H : Type} : Left H := { results := [], args := [] }

/-- 'laws.FnLatestOf': WHATEVER THE INPUT: true; the input reads as it did. -/
def fnLatestOfSpec : ChangeSpec := { name := "fnLatestOf", fn := fun _ => fun
  | [d] => { results := [.lit (.bool true)], args := [d] }
  | _ => none }
def fnLatestOfRow : OpenClaim := { program := "ytmcongioghkdcab", sum := "afcaa20e4885b73964eaa814247eacd4217aed2afd01288dfb07b9ac3187acb0", func := "loop.example/shopsthatmake/laws.FnLatestOf", spec := "fnLatestOf", unfollowed := true, recurses := true, apart := false }
def FnLatestOfSaid : Prop := fnLatestOfRow.holds Try.pinned (OpenSpec.ofChange fnLatestOfSpec)

/-- ITS FALSE NEIGHBOUR: 'it returns false'. Refute it at one input. -/
def fnLatestOfWrong : ChangeSpec := { name := "fnLatestOf", fn := fun _ => fun
  | [d] => { results := [.lit (.bool false)], args := [d] }
  | _ => none }
def FnLatestOfWrongFalsely : Prop := fnLatestOfRow.holds Try.pinned (OpenSpec.ofChange fnLatestOfWrong)

/-- 'laws.FnExactLatestOf': WHATEVER THE INPUT: true; the input reads as it did. -/
def fnExactLatestOfSpec : ChangeSpec := { name := "fnExactLatestOf", fn := fun _ => fun
  | [d1, d2] => { results := [.lit (.bool true)], args := [d1, d2] }
  | _ => none }
def fnExactLatestOfRow : OpenClaim := { program := "ytmcongioghkdcab", sum := "afcaa20e4885b73964eaa814247eacd4217aed2afd01288dfb07b9ac3187acb0", func := "loop.example/shopsthatmake/laws.FnExactLatestOf", spec := "fnExactLatestOf", unfollowed := true, recurses := true, apart := false }
def FnExactLatestOfSaid : Prop := fnExactLatestOfRow.holds Try.pinned (OpenSpec.ofChange fnExactLatestOfSpec)

/-- ITS FALSE NEIGHBOUR: 'it returns false'. Refute it at one input. -/
def fnExactLatestOfWrong : ChangeSpec := { name := "fnExactLatestOf", fn := fun _ => fun
  | [d1, d2] => { results := [.lit (.bool false)], args := [d1, d2] }
  | _ => none }
def FnExactLatestOfWrongFalsely : Prop := fnExactLatestOfRow.holds Try.pinned (OpenSpec.ofChange fnExactLatestOfWrong)

/-- 'laws.FnLateOf': WHATEVER THE INPUT: true; the input reads as it did. -/
def fnLateOfSpec : ChangeSpec := { name := "fnLateOf", fn := fun _ => fun
  | [d] => { results := [.lit (.bool true)], args := [d] }
  | _ => none }
def fnLateOfRow : OpenClaim := { program := "ytmcongioghkdcab", sum := "afcaa20e4885b73964eaa814247eacd4217aed2afd01288dfb07b9ac3187acb0", func := "loop.example/shopsthatmake/laws.FnLateOf", spec := "fnLateOf", unfollowed := true, recurses := true, apart := false }
def FnLateOfSaid : Prop := fnLateOfRow.holds Try.pinned (OpenSpec.ofChange fnLateOfSpec)

/-- ITS FALSE NEIGHBOUR: 'it returns false'. Refute it at one input. -/
def fnLateOfWrong : ChangeSpec := { name := "fnLateOf", fn := fun _ => fun
  | [d] => { results := [.lit (.bool false)], args := [d] }
  | _ => none }
def FnLateOfWrongFalsely : Prop := fnLateOfRow.holds Try.pinned (OpenSpec.ofChange fnLateOfWrong)

/-- 'laws.FnExactLateOf': WHATEVER THE INPUT: true; the input reads as it did. -/
def fnExactLateOfSpec : ChangeSpec := { name := "fnExactLateOf", fn := fun _ => fun
  | [d1, d2] => { results := [.lit (.bool true)], args := [d1, d2] }
  | _ => none }
def fnExactLateOfRow : OpenClaim := { program := "ytmcongioghkdcab", sum := "afcaa20e4885b73964eaa814247eacd4217aed2afd01288dfb07b9ac3187acb0", func := "loop.example/shopsthatmake/laws.FnExactLateOf", spec := "fnExactLateOf", unfollowed := true, recurses := true, apart := false }
def FnExactLateOfSaid : Prop := fnExactLateOfRow.holds Try.pinned (OpenSpec.ofChange fnExactLateOfSpec)

/-- ITS FALSE NEIGHBOUR: 'it returns false'. Refute it at one input. -/
def fnExactLateOfWrong : ChangeSpec := { name := "fnExactLateOf", fn := fun _ => fun
  | [d1, d2] => { results := [.lit (.bool false)], args := [d1, d2] }
  | _ => none }
def FnExactLateOfWrongFalsely : Prop := fnExactLateOfRow.holds Try.pinned (OpenSpec.ofChange fnExactLateOfWrong)

/- THE SECOND FORM. 'bulk': how many values and letters a reading holds, each counted each time it is reached (what is shared counts as often as it is met; a slice's spare places count too). A statement '..UptoSaid' is the law's where the arguments, and the package variables that the reading takes, are together of bulk at most 1048576: NARROWER than '..Said'. Prove '..Said' where nothing that the law and all that it calls make is longer than what came in: it says more and counts as full. Else prove '..UptoSaid'. A law counts once. -/
mutual
def uptoBulk {H : Type} : DataW H → Nat
  | .lit (.string bytes) => bytes.length + 1
  | .lit _ => 1
  | .nil => 1
  | .ptr d => uptoBulk d + 1
  | .slice elems spare => uptoBulkAll elems + uptoBulkAll spare + 1
  | .agg parts => uptoBulkAll parts + 1
  | .iface _ d => uptoBulk d + 1
  | .map entries => uptoBulkEntries entries + 1
  | .held _ => 1
def uptoBulkAll {H : Type} : List (DataW H) → Nat
  | [] => 0
  | d :: r => uptoBulk d + uptoBulkAll r
def uptoBulkEntries {H : Type} : List (Lit × DataW H) → Nat
  | [] => 0
  | x :: r => uptoBulkEntry x + uptoBulkEntries r
def uptoBulkEntry {H : Type} : Lit × DataW H → Nat
  | (.string bytes, d) => bytes.length + uptoBulk d + 1
  | (_, d) => uptoBulk d + 1
 end
def uptoSmall : (H : Type) → List (DataW H) → Bool := fun _ ds => decide (uptoBulkAll ds ≤ 1048576)
def OpenSpec.upto (s : _root_.Go.ChangeSpec) : _root_.Go.OpenSpec := { _root_.Go.OpenSpec.ofChange s with cond := some uptoSmall }

/-- 'laws.FnLatestOf', WHERE WHAT IT READS IS OF BULK AT MOST 1048576: true; the input reads as it did. -/
def fnLatestOfUptoRow : OpenClaim := { program := "ytmcongioghkdcab", sum := "afcaa20e4885b73964eaa814247eacd4217aed2afd01288dfb07b9ac3187acb0", func := "loop.example/shopsthatmake/laws.FnLatestOf", spec := "fnLatestOf", unfollowed := true, recurses := true, apart := false, narrowed := true }
def FnLatestOfUptoSaid : Prop := fnLatestOfUptoRow.holds Try.pinned (OpenSpec.upto fnLatestOfSpec)

/-- 'laws.FnExactLatestOf', WHERE WHAT IT READS IS OF BULK AT MOST 1048576: true; the input reads as it did. -/
def fnExactLatestOfUptoRow : OpenClaim := { program := "ytmcongioghkdcab", sum := "afcaa20e4885b73964eaa814247eacd4217aed2afd01288dfb07b9ac3187acb0", func := "loop.example/shopsthatmake/laws.FnExactLatestOf", spec := "fnExactLatestOf", unfollowed := true, recurses := true, apart := false, narrowed := true }
def FnExactLatestOfUptoSaid : Prop := fnExactLatestOfUptoRow.holds Try.pinned (OpenSpec.upto fnExactLatestOfSpec)

/-- 'laws.FnLateOf', WHERE WHAT IT READS IS OF BULK AT MOST 1048576: true; the input reads as it did. -/
def fnLateOfUptoRow : OpenClaim := { program := "ytmcongioghkdcab", sum := "afcaa20e4885b73964eaa814247eacd4217aed2afd01288dfb07b9ac3187acb0", func := "loop.example/shopsthatmake/laws.FnLateOf", spec := "fnLateOf", unfollowed := true, recurses := true, apart := false, narrowed := true }
def FnLateOfUptoSaid : Prop := fnLateOfUptoRow.holds Try.pinned (OpenSpec.upto fnLateOfSpec)

/-- 'laws.FnExactLateOf', WHERE WHAT IT READS IS OF BULK AT MOST 1048576: true; the input reads as it did. -/
def fnExactLateOfUptoRow : OpenClaim := { program := "ytmcongioghkdcab", sum := "afcaa20e4885b73964eaa814247eacd4217aed2afd01288dfb07b9ac3187acb0", func := "loop.example/shopsthatmake/laws.FnExactLateOf", spec := "fnExactLateOf", unfollowed := true, recurses := true, apart := false, narrowed := true }
def FnExactLateOfUptoSaid : Prop := fnExactLateOfUptoRow.holds Try.pinned (OpenSpec.upto fnExactLateOfSpec)

end Rows
end Go.Proofs.Ytmcongioghkdcab
