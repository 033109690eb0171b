/-
  No cell of these rows narrows 'for every input' (looked for: loops, veiled, ifaces, maps, wideKeys, modest, calm, conditions, laid).
  DERIVED. THE GIVEN ROWS OF THIS SEAT. 4 by the template 'for every input the law returns true; each argument reads behind the call as it read before'; 0 by the template 'total and deterministic' (their statements: YthmifadnfaajbabTotals.lean).
  GIVEN WITH THE SEED: the statements are not yours to turn. If you find one false, say at which input.
  Laid BY PROGRAM, IN A SANDBOX (cutbox-rows.mjs): the forced cells as the released guide's own fill.sh prints them over the translation f066046fcb8fce34… (all of the seat's roots in one cut). By AI agents, Wed Nov 11 2026. No macro, syntax, notation, axiom, sorry.
-/
import Derived.Test.YthmifadnfaajbabChecked
import GoSem.Claim
import GoSem.ClaimJoined
import GoSem.ClaimMapViews
import Derived.JoinedTies
import Derived.KernelRfl
namespace Go.Proofs.Ythmifadnfaajbab
/- THE CELL 'sum', in the pinned program and in every row, IS THE sha256 OF THE DUMP (.gsa) THAT YthmifadnfaajbabProg.lean LOADS. Nothing in Lean hashes anything: it is a label: what it is worth is what the hold of that sum in a sandbox is worth. -/
noncomputable def Try.pinned : Pinned := { name := "ythmifadnfaajbab", sum := "f066046fcb8fce342a2073976bc413b08575999cb207fc19993a734a814e02e5", checked := Try.checked }
namespace Rows
def none {H : Type} : Left H := { results := [], args := [] }

/-- 'laws.FnExactValidCuts': WHATEVER THE INPUT: true; the input reads as it did. -/
def fnExactValidCutsSpec : ChangeSpec := { name := "fnExactValidCuts", fn := fun _ => fun
  | [d1, d2] => { results := [.lit (.bool true)], args := [d1, d2] }
  | _ => none }
def fnExactValidCutsRow : OpenClaim := { program := "ythmifadnfaajbab", sum := "f066046fcb8fce342a2073976bc413b08575999cb207fc19993a734a814e02e5", func := "loop.example/shopsthatmake/laws.FnExactValidCuts", spec := "fnExactValidCuts", apart := false }
def FnExactValidCutsSaid : Prop := fnExactValidCutsRow.holds Try.pinned (OpenSpec.ofChange fnExactValidCutsSpec)

/-- ITS FALSE NEIGHBOUR: 'it returns false'. Refute it at one input. -/
def fnExactValidCutsWrong : ChangeSpec := { name := "fnExactValidCuts", fn := fun _ => fun
  | [d1, d2] => { results := [.lit (.bool false)], args := [d1, d2] }
  | _ => none }
def FnExactValidCutsWrongFalsely : Prop := fnExactValidCutsRow.holds Try.pinned (OpenSpec.ofChange fnExactValidCutsWrong)

/-- 'laws.FnExactFewestRolls': WHATEVER THE INPUT: true; the input reads as it did. -/
def fnExactFewestRollsSpec : ChangeSpec := { name := "fnExactFewestRolls", fn := fun _ => fun
  | [d1, d2] => { results := [.lit (.bool true)], args := [d1, d2] }
  | _ => none }
def fnExactFewestRollsRow : OpenClaim := { program := "ythmifadnfaajbab", sum := "f066046fcb8fce342a2073976bc413b08575999cb207fc19993a734a814e02e5", func := "loop.example/shopsthatmake/laws.FnExactFewestRolls", spec := "fnExactFewestRolls", unfollowed := true, recurses := true, apart := false }
def FnExactFewestRollsSaid : Prop := fnExactFewestRollsRow.holds Try.pinned (OpenSpec.ofChange fnExactFewestRollsSpec)

/-- ITS FALSE NEIGHBOUR: 'it returns false'. Refute it at one input. -/
def fnExactFewestRollsWrong : ChangeSpec := { name := "fnExactFewestRolls", fn := fun _ => fun
  | [d1, d2] => { results := [.lit (.bool false)], args := [d1, d2] }
  | _ => none }
def FnExactFewestRollsWrongFalsely : Prop := fnExactFewestRollsRow.holds Try.pinned (OpenSpec.ofChange fnExactFewestRollsWrong)

/-- 'laws.FnExactLeastRolls': WHATEVER THE INPUT: true; the input reads as it did. -/
def fnExactLeastRollsSpec : ChangeSpec := { name := "fnExactLeastRolls", fn := fun _ => fun
  | [d1, d2] => { results := [.lit (.bool true)], args := [d1, d2] }
  | _ => none }
def fnExactLeastRollsRow : OpenClaim := { program := "ythmifadnfaajbab", sum := "f066046fcb8fce342a2073976bc413b08575999cb207fc19993a734a814e02e5", func := "loop.example/shopsthatmake/laws.FnExactLeastRolls", spec := "fnExactLeastRolls", apart := false }
def FnExactLeastRollsSaid : Prop := fnExactLeastRollsRow.holds Try.pinned (OpenSpec.ofChange fnExactLeastRollsSpec)

/-- ITS FALSE NEIGHBOUR: 'it returns false'. Refute it at one input. -/
def fnExactLeastRollsWrong : ChangeSpec := { name := "fnExactLeastRolls", fn := fun _ => fun
  | [d1, d2] => { results := [.lit (.bool false)], args := [d1, d2] }
  | _ => none }
def FnExactLeastRollsWrongFalsely : Prop := fnExactLeastRollsRow.holds Try.pinned (OpenSpec.ofChange fnExactLeastRollsWrong)

/-- 'laws.FnFreeTasksAreCuts': WHATEVER THE INPUT: true; the input reads as it did. -/
def fnFreeTasksAreCutsSpec : ChangeSpec := { name := "fnFreeTasksAreCuts", fn := fun _ => fun
  | [d] => { results := [.lit (.bool true)], args := [d] }
  | _ => none }
def fnFreeTasksAreCutsRow : OpenClaim := { program := "ythmifadnfaajbab", sum := "f066046fcb8fce342a2073976bc413b08575999cb207fc19993a734a814e02e5", func := "loop.example/shopsthatmake/laws.FnFreeTasksAreCuts", spec := "fnFreeTasksAreCuts", unfollowed := true, recurses := true, apart := false }
def FnFreeTasksAreCutsSaid : Prop := fnFreeTasksAreCutsRow.holds Try.pinned (OpenSpec.ofChange fnFreeTasksAreCutsSpec)

/-- ITS FALSE NEIGHBOUR: 'it returns false'. Refute it at one input. -/
def fnFreeTasksAreCutsWrong : ChangeSpec := { name := "fnFreeTasksAreCuts", fn := fun _ => fun
  | [d] => { results := [.lit (.bool false)], args := [d] }
  | _ => none }
def FnFreeTasksAreCutsWrongFalsely : Prop := fnFreeTasksAreCutsRow.holds Try.pinned (OpenSpec.ofChange fnFreeTasksAreCutsWrong)

/- THE SECOND FORM. 'bulk': how many values and letters a reading holds, each counted each time it is reached (what is shared counts as often as it is met; a slice's spare places count too). A statement '..UptoSaid' is the law's where the arguments, and the package variables that the reading takes, are together of bulk at most 1048576: NARROWER than '..Said'. Prove '..Said' where nothing that the law and all that it calls make is longer than what came in: it says more and counts as full. Else prove '..UptoSaid'. A law counts once. -/
mutual
def uptoBulk {H : Type} : DataW H → Nat
  | .lit (.string bytes) => bytes.length + 1
  | .lit _ => 1
  | .nil => 1
  | .ptr d => uptoBulk d + 1
  | .slice elems spare => uptoBulkAll elems + uptoBulkAll spare + 1
  | .agg parts => uptoBulkAll parts + 1
  | .iface _ d => uptoBulk d + 1
  | .map entries => uptoBulkEntries entries + 1
  | .held _ => 1
def uptoBulkAll {H : Type} : List (DataW H) → Nat
  | [] => 0
  | d :: r => uptoBulk d + uptoBulkAll r
def uptoBulkEntries {H : Type} : List (Lit × DataW H) → Nat
  | [] => 0
  | x :: r => uptoBulkEntry x + uptoBulkEntries r
def uptoBulkEntry {H : Type} : Lit × DataW H → Nat
  | (.string bytes, d) => bytes.length + uptoBulk d + 1
  | (_, d) => uptoBulk d + 1
 end
def uptoSmall : (H : Type) → List (DataW H) → Bool := fun _ ds => decide (uptoBulkAll ds ≤ 1048576)
def OpenSpec.upto (s : _root_.Go.ChangeSpec) : _root_.Go.OpenSpec := { _root_.Go.OpenSpec.ofChange s with cond := some uptoSmall }

/-- 'laws.FnExactValidCuts', WHERE WHAT IT READS IS OF BULK AT MOST 1048576: true; the input reads as it did. -/
def fnExactValidCutsUptoRow : OpenClaim := { program := "ythmifadnfaajbab", sum := "f066046fcb8fce342a2073976bc413b08575999cb207fc19993a734a814e02e5", func := "loop.example/shopsthatmake/laws.FnExactValidCuts", spec := "fnExactValidCuts", apart := false, narrowed := true }
def FnExactValidCutsUptoSaid : Prop := fnExactValidCutsUptoRow.holds Try.pinned (OpenSpec.upto fnExactValidCutsSpec)

/-- 'laws.FnExactFewestRolls', WHERE WHAT IT READS IS OF BULK AT MOST 1048576: true; the input reads as it did. -/
def fnExactFewestRollsUptoRow : OpenClaim := { program := "ythmifadnfaajbab", sum := "f066046fcb8fce342a2073976bc413b08575999cb207fc19993a734a814e02e5", func := "loop.example/shopsthatmake/laws.FnExactFewestRolls", spec := "fnExactFewestRolls", unfollowed := true, recurses := true, apart := false, narrowed := true }
def FnExactFewestRollsUptoSaid : Prop := fnExactFewestRollsUptoRow.holds Try.pinned (OpenSpec.upto fnExactFewestRollsSpec)

/-- 'laws.FnExactLeastRolls', WHERE WHAT IT READS IS OF BULK AT MOST 1048576: true; the input reads as it did. -/
def fnExactLeastRollsUptoRow : OpenClaim := { program := "ythmifadnfaajbab", sum := "f066046fcb8fce342a2073976bc413b08575999cb207fc19993a734a814e02e5", func := "loop.example/shopsthatmake/laws.FnExactLeastRolls", spec := "fnExactLeastRolls", apart := false, narrowed := true }
def FnExactLeastRollsUptoSaid : Prop := fnExactLeastRollsUptoRow.holds Try.pinned (OpenSpec.upto fnExactLeastRollsSpec)

/-- 'laws.FnFreeTasksAreCuts', WHERE WHAT IT READS IS OF BULK AT MOST 1048576: true; the input reads as it did. -/
def fnFreeTasksAreCutsUptoRow : OpenClaim := { program := "ythmifadnfaajbab", sum := "f066046fcb8fce342a2073976bc413b08575999cb207fc19993a734a814e02e5", func := "loop.example/shopsthatmake/laws.FnFreeTasksAreCuts", spec := "fnFreeTasksAreCuts", unfollowed := true, recurses := true, apart := false, narrowed := true }
def FnFreeTasksAreCutsUptoSaid : Prop := fnFreeTasksAreCutsUptoRow.holds Try.pinned (OpenSpec.upto fnFreeTasksAreCutsSpec)

end Rows
end Go.Proofs.Ythmifadnfaajbab
