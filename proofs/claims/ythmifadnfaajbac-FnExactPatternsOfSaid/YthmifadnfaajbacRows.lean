/-
  No cell of these rows narrows 'for every input' (looked for: loops, veiled, ifaces, maps, wideKeys, modest, calm, conditions, laid).
  DERIVED. THE GIVEN ROWS OF THIS SEAT. 4 by the template 'for every input the law returns true; each argument reads behind the call as it read before'; 0 by the template 'total and deterministic' (their statements: YthmifadnfaajbacTotals.lean).
  GIVEN WITH THE SEED: the statements are not yours to turn. If you find one false, say at which input.
  Laid BY PROGRAM, IN A SANDBOX (cutbox-rows.mjs): the forced cells as the released guide's own fill.sh prints them over the translation 10a77236d11e4514… (all of the seat's roots in one cut). By AI agents, Wed Nov 11 2026. No macro, syntax, notation, axiom, sorry.
-/
import Derived.Test.YthmifadnfaajbacChecked
import GoSem.Claim
import GoSem.ClaimJoined
import GoSem.ClaimMapViews
import Derived.JoinedTies
import Derived.KernelRfl
namespace Go.Proofs.Ythmifadnfaajbac
/- THE CELL 'sum', in the pinned program and in every row, IS THE sha256 OF THE DUMP (.gsa) THAT YthmifadnfaajbacProg.lean LOADS. Nothing in Lean hashes anything: it is a label: what it is worth is what the hold of that sum in a sandbox is worth. -/
noncomputable def Try.pinned : Pinned := { name := "ythmifadnfaajbac", sum := "10a77236d11e45141c29ed4641e35f48c1eb97f010c8c87fe0e0868dd72c75a0", checked := Try.checked }
namespace Rows
def none {H : Type} : Left H := { results := [], args := [] }

/-- 'laws.FnRollsBy': WHATEVER THE INPUT: true; the input reads as it did. -/
def fnRollsBySpec : ChangeSpec := { name := "fnRollsBy", fn := fun _ => fun
  | [d] => { results := [.lit (.bool true)], args := [d] }
  | _ => none }
def fnRollsByRow : OpenClaim := { program := "ythmifadnfaajbac", sum := "10a77236d11e45141c29ed4641e35f48c1eb97f010c8c87fe0e0868dd72c75a0", func := "loop.example/shopsthatmake/laws.FnRollsBy", spec := "fnRollsBy", unfollowed := true, recurses := true, apart := false }
def FnRollsBySaid : Prop := fnRollsByRow.holds Try.pinned (OpenSpec.ofChange fnRollsBySpec)

/-- ITS FALSE NEIGHBOUR: 'it returns false'. Refute it at one input. -/
def fnRollsByWrong : ChangeSpec := { name := "fnRollsBy", fn := fun _ => fun
  | [d] => { results := [.lit (.bool false)], args := [d] }
  | _ => none }
def FnRollsByWrongFalsely : Prop := fnRollsByRow.holds Try.pinned (OpenSpec.ofChange fnRollsByWrong)

/-- 'laws.FnExactRollsBy': WHATEVER THE INPUT: true; the input reads as it did. -/
def fnExactRollsBySpec : ChangeSpec := { name := "fnExactRollsBy", fn := fun _ => fun
  | [d1, d2, d3] => { results := [.lit (.bool true)], args := [d1, d2, d3] }
  | _ => none }
def fnExactRollsByRow : OpenClaim := { program := "ythmifadnfaajbac", sum := "10a77236d11e45141c29ed4641e35f48c1eb97f010c8c87fe0e0868dd72c75a0", func := "loop.example/shopsthatmake/laws.FnExactRollsBy", spec := "fnExactRollsBy", unfollowed := true, recurses := true, apart := false }
def FnExactRollsBySaid : Prop := fnExactRollsByRow.holds Try.pinned (OpenSpec.ofChange fnExactRollsBySpec)

/-- ITS FALSE NEIGHBOUR: 'it returns false'. Refute it at one input. -/
def fnExactRollsByWrong : ChangeSpec := { name := "fnExactRollsBy", fn := fun _ => fun
  | [d1, d2, d3] => { results := [.lit (.bool false)], args := [d1, d2, d3] }
  | _ => none }
def FnExactRollsByWrongFalsely : Prop := fnExactRollsByRow.holds Try.pinned (OpenSpec.ofChange fnExactRollsByWrong)

/-- 'laws.FnPatternsOf': WHATEVER THE INPUT: true; the input reads as it did. -/
def fnPatternsOfSpec : ChangeSpec := { name := "fnPatternsOf", fn := fun _ => fun
  | [d] => { results := [.lit (.bool true)], args := [d] }
  | _ => none }
def fnPatternsOfRow : OpenClaim := { program := "ythmifadnfaajbac", sum := "10a77236d11e45141c29ed4641e35f48c1eb97f010c8c87fe0e0868dd72c75a0", func := "loop.example/shopsthatmake/laws.FnPatternsOf", spec := "fnPatternsOf", recurses := true, apart := false }
def FnPatternsOfSaid : Prop := fnPatternsOfRow.holds Try.pinned (OpenSpec.ofChange fnPatternsOfSpec)

/-- ITS FALSE NEIGHBOUR: 'it returns false'. Refute it at one input. -/
def fnPatternsOfWrong : ChangeSpec := { name := "fnPatternsOf", fn := fun _ => fun
  | [d] => { results := [.lit (.bool false)], args := [d] }
  | _ => none }
def FnPatternsOfWrongFalsely : Prop := fnPatternsOfRow.holds Try.pinned (OpenSpec.ofChange fnPatternsOfWrong)

/-- 'laws.FnExactPatternsOf': WHATEVER THE INPUT: true; the input reads as it did. -/
def fnExactPatternsOfSpec : ChangeSpec := { name := "fnExactPatternsOf", fn := fun _ => fun
  | [d1, d2] => { results := [.lit (.bool true)], args := [d1, d2] }
  | _ => none }
def fnExactPatternsOfRow : OpenClaim := { program := "ythmifadnfaajbac", sum := "10a77236d11e45141c29ed4641e35f48c1eb97f010c8c87fe0e0868dd72c75a0", func := "loop.example/shopsthatmake/laws.FnExactPatternsOf", spec := "fnExactPatternsOf", recurses := true, apart := false }
def FnExactPatternsOfSaid : Prop := fnExactPatternsOfRow.holds Try.pinned (OpenSpec.ofChange fnExactPatternsOfSpec)

/-- ITS FALSE NEIGHBOUR: 'it returns false'. Refute it at one input. -/
def fnExactPatternsOfWrong : ChangeSpec := { name := "fnExactPatternsOf", fn := fun _ => fun
  | [d1, d2] => { results := [.lit (.bool false)], args := [d1, d2] }
  | _ => none }
def FnExactPatternsOfWrongFalsely : Prop := fnExactPatternsOfRow.holds Try.pinned (OpenSpec.ofChange fnExactPatternsOfWrong)

/- THE SECOND FORM. 'bulk': how many values and letters a reading holds, each counted each time it is reached (what is shared counts as often as it is met; a slice's spare places count too). A statement '..UptoSaid' is the law's where the arguments, and the package variables that the reading takes, are together of bulk at most 1048576: NARROWER than '..Said'. Prove '..Said' where nothing that the law and all that it calls make is longer than what came in: it says more and counts as full. Else prove '..UptoSaid'. A law counts once. -/
mutual
def uptoBulk {H : Type} : DataW H → Nat
  | .lit (.string bytes) => bytes.length + 1
  | .lit _ => 1
  | .nil => 1
  | .ptr d => uptoBulk d + 1
  | .slice elems spare => uptoBulkAll elems + uptoBulkAll spare + 1
  | .agg parts => uptoBulkAll parts + 1
  | .iface _ d => uptoBulk d + 1
  | .map entries => uptoBulkEntries entries + 1
  | .held _ => 1
def uptoBulkAll {H : Type} : List (DataW H) → Nat
  | [] => 0
  | d :: r => uptoBulk d + uptoBulkAll r
def uptoBulkEntries {H : Type} : List (Lit × DataW H) → Nat
  | [] => 0
  | x :: r => uptoBulkEntry x + uptoBulkEntries r
def uptoBulkEntry {H : Type} : Lit × DataW H → Nat
  | (.string bytes, d) => bytes.length + uptoBulk d + 1
  | (_, d) => uptoBulk d + 1
 end
def uptoSmall : (H : Type) → List (DataW H) → Bool := fun _ ds => decide (uptoBulkAll ds ≤ 1048576)
def OpenSpec.upto (s : _root_.Go.ChangeSpec) : _root_.Go.OpenSpec := { _root_.Go.OpenSpec.ofChange s with cond := some uptoSmall }

/-- 'laws.FnRollsBy', WHERE WHAT IT READS IS OF BULK AT MOST 1048576: true; the input reads as it did. -/
def fnRollsByUptoRow : OpenClaim := { program := "ythmifadnfaajbac", sum := "10a77236d11e45141c29ed4641e35f48c1eb97f010c8c87fe0e0868dd72c75a0", func := "loop.example/shopsthatmake/laws.FnRollsBy", spec := "fnRollsBy", unfollowed := true, recurses := true, apart := false, narrowed := true }
def FnRollsByUptoSaid : Prop := fnRollsByUptoRow.holds Try.pinned (OpenSpec.upto fnRollsBySpec)

/-- 'laws.FnExactRollsBy', WHERE WHAT IT READS IS OF BULK AT MOST 1048576: true; the input reads as it did. -/
def fnExactRollsByUptoRow : OpenClaim := { program := "ythmifadnfaajbac", sum := "10a77236d11e45141c29ed4641e35f48c1eb97f010c8c87fe0e0868dd72c75a0", func := "loop.example/shopsthatmake/laws.FnExactRollsBy", spec := "fnExactRollsBy", unfollowed := true, recurses := true, apart := false, narrowed := true }
def FnExactRollsByUptoSaid : Prop := fnExactRollsByUptoRow.holds Try.pinned (OpenSpec.upto fnExactRollsBySpec)

/-- 'laws.FnPatternsOf', WHERE WHAT IT READS IS OF BULK AT MOST 1048576: true; the input reads as it did. -/
def fnPatternsOfUptoRow : OpenClaim := { program := "ythmifadnfaajbac", sum := "10a77236d11e45141c29ed4641e35f48c1eb97f010c8c87fe0e0868dd72c75a0", func := "loop.example/shopsthatmake/laws.FnPatternsOf", spec := "fnPatternsOf", recurses := true, apart := false, narrowed := true }
def FnPatternsOfUptoSaid : Prop := fnPatternsOfUptoRow.holds Try.pinned (OpenSpec.upto fnPatternsOfSpec)

/-- 'laws.FnExactPatternsOf', WHERE WHAT IT READS IS OF BULK AT MOST 1048576: true; the input reads as it did. -/
def fnExactPatternsOfUptoRow : OpenClaim := { program := "ythmifadnfaajbac", sum := "10a77236d11e45141c29ed4641e35f48c1eb97f010c8c87fe0e0868dd72c75a0", func := "loop.example/shopsthatmake/laws.FnExactPatternsOf", spec := "fnExactPatternsOf", recurses := true, apart := false, narrowed := true }
def FnExactPatternsOfUptoSaid : Prop := fnExactPatternsOfUptoRow.holds Try.pinned (OpenSpec.upto fnExactPatternsOfSpec)

end Rows
end Go.Proofs.Ythmifadnfaajbac
