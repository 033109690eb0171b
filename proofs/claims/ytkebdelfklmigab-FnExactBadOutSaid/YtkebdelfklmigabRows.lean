/-
  No cell of these rows narrows 'for every input' (looked for: loops, veiled, ifaces, maps, wideKeys, modest, calm, conditions, laid).
  DERIVED. THE GIVEN ROWS OF THIS SEAT. 4 by the template 'for every input the law returns true; each argument reads behind the call as it read before'; 0 by the template 'total and deterministic' (their statements: YtkebdelfklmigabTotals.lean).
  GIVEN WITH THE SEED: the statements are not yours to turn. If you find one false, say at which input.
  Laid BY PROGRAM, IN A SANDBOX (cutbox-rows.mjs): the forced cells as the released guide's own fill.sh prints them over the translation b925fa740f08f9a2… (all of the seat's roots in one cut). By AI agents, Wed Nov 11 2026. No macro, syntax, notation, axiom, sorry.
-/
import Derived.Test.YtkebdelfklmigabChecked
import GoSem.Claim
import GoSem.ClaimJoined
import GoSem.ClaimMapViews
import Derived.JoinedTies
import Derived.KernelRfl
namespace Go.Proofs.Ytkebdelfklmigab
/- THE CELL 'sum', in the pinned program and in every row, IS THE sha256 OF THE DUMP (.gsa) THAT YtkebdelfklmigabProg.lean LOADS. Nothing in Lean hashes anything: it is a label: what it is worth is what the hold of that sum in a sandbox is worth. -/
noncomputable def Try.pinned : Pinned := { name := "ytkebdelfklmigab", sum := "b925fa740f08f9a2146dfc46c4979482543eea9444ec259010614bd16e78bb69", checked := Try.checked }
namespace Rows
def none {H : Type} : Left H := { results := [], args := [] }

/-- 'laws.FnPassChance': WHATEVER THE INPUT: true; the input reads as it did. -/
def fnPassChanceSpec : ChangeSpec := { name := "fnPassChance", fn := fun _ => fun
  | [d] => { results := [.lit (.bool true)], args := [d] }
  | _ => none }
def fnPassChanceRow : OpenClaim := { program := "ytkebdelfklmigab", sum := "b925fa740f08f9a2146dfc46c4979482543eea9444ec259010614bd16e78bb69", func := "loop.example/shopsthatmake/laws.FnPassChance", spec := "fnPassChance", recurses := true, apart := false }
def FnPassChanceSaid : Prop := fnPassChanceRow.holds Try.pinned (OpenSpec.ofChange fnPassChanceSpec)

/-- ITS FALSE NEIGHBOUR: 'it returns false'. Refute it at one input. -/
def fnPassChanceWrong : ChangeSpec := { name := "fnPassChance", fn := fun _ => fun
  | [d] => { results := [.lit (.bool false)], args := [d] }
  | _ => none }
def FnPassChanceWrongFalsely : Prop := fnPassChanceRow.holds Try.pinned (OpenSpec.ofChange fnPassChanceWrong)

/-- 'laws.FnExactPassChance': WHATEVER THE INPUT: true; the input reads as it did. -/
def fnExactPassChanceSpec : ChangeSpec := { name := "fnExactPassChance", fn := fun _ => fun
  | [d1, d2, d3, d4] => { results := [.lit (.bool true)], args := [d1, d2, d3, d4] }
  | _ => none }
def fnExactPassChanceRow : OpenClaim := { program := "ytkebdelfklmigab", sum := "b925fa740f08f9a2146dfc46c4979482543eea9444ec259010614bd16e78bb69", func := "loop.example/shopsthatmake/laws.FnExactPassChance", spec := "fnExactPassChance", apart := false }
def FnExactPassChanceSaid : Prop := fnExactPassChanceRow.holds Try.pinned (OpenSpec.ofChange fnExactPassChanceSpec)

/-- ITS FALSE NEIGHBOUR: 'it returns false'. Refute it at one input. -/
def fnExactPassChanceWrong : ChangeSpec := { name := "fnExactPassChance", fn := fun _ => fun
  | [d1, d2, d3, d4] => { results := [.lit (.bool false)], args := [d1, d2, d3, d4] }
  | _ => none }
def FnExactPassChanceWrongFalsely : Prop := fnExactPassChanceRow.holds Try.pinned (OpenSpec.ofChange fnExactPassChanceWrong)

/-- 'laws.FnBadOut': WHATEVER THE INPUT: true; the input reads as it did. -/
def fnBadOutSpec : ChangeSpec := { name := "fnBadOut", fn := fun _ => fun
  | [d] => { results := [.lit (.bool true)], args := [d] }
  | _ => none }
def fnBadOutRow : OpenClaim := { program := "ytkebdelfklmigab", sum := "b925fa740f08f9a2146dfc46c4979482543eea9444ec259010614bd16e78bb69", func := "loop.example/shopsthatmake/laws.FnBadOut", spec := "fnBadOut", apart := false }
def FnBadOutSaid : Prop := fnBadOutRow.holds Try.pinned (OpenSpec.ofChange fnBadOutSpec)

/-- ITS FALSE NEIGHBOUR: 'it returns false'. Refute it at one input. -/
def fnBadOutWrong : ChangeSpec := { name := "fnBadOut", fn := fun _ => fun
  | [d] => { results := [.lit (.bool false)], args := [d] }
  | _ => none }
def FnBadOutWrongFalsely : Prop := fnBadOutRow.holds Try.pinned (OpenSpec.ofChange fnBadOutWrong)

/-- 'laws.FnExactBadOut': WHATEVER THE INPUT: true; the input reads as it did. -/
def fnExactBadOutSpec : ChangeSpec := { name := "fnExactBadOut", fn := fun _ => fun
  | [d1, d2, d3, d4] => { results := [.lit (.bool true)], args := [d1, d2, d3, d4] }
  | _ => none }
def fnExactBadOutRow : OpenClaim := { program := "ytkebdelfklmigab", sum := "b925fa740f08f9a2146dfc46c4979482543eea9444ec259010614bd16e78bb69", func := "loop.example/shopsthatmake/laws.FnExactBadOut", spec := "fnExactBadOut", apart := false }
def FnExactBadOutSaid : Prop := fnExactBadOutRow.holds Try.pinned (OpenSpec.ofChange fnExactBadOutSpec)

/-- ITS FALSE NEIGHBOUR: 'it returns false'. Refute it at one input. -/
def fnExactBadOutWrong : ChangeSpec := { name := "fnExactBadOut", fn := fun _ => fun
  | [d1, d2, d3, d4] => { results := [.lit (.bool false)], args := [d1, d2, d3, d4] }
  | _ => none }
def FnExactBadOutWrongFalsely : Prop := fnExactBadOutRow.holds Try.pinned (OpenSpec.ofChange fnExactBadOutWrong)

/- THE SECOND FORM. 'bulk': how many values and letters a reading holds, each counted each time it is reached (what is shared counts as often as it is met; a slice's spare places count too). A statement '..UptoSaid' is the law's where the arguments, and the package variables that the reading takes, are together of bulk at most 1048576: NARROWER than '..Said'. Prove '..Said' where nothing that the law and all that it calls make is longer than what came in: it says more and counts as full. Else prove '..UptoSaid'. A law counts once. -/
mutual
def uptoBulk {H : Type} : DataW H → Nat
  | .lit (.string bytes) => bytes.length + 1
  | .lit _ => 1
  | .nil => 1
  | .ptr d => uptoBulk d + 1
  | .slice elems spare => uptoBulkAll elems + uptoBulkAll spare + 1
  | .agg parts => uptoBulkAll parts + 1
  | .iface _ d => uptoBulk d + 1
  | .map entries => uptoBulkEntries entries + 1
  | .held _ => 1
def uptoBulkAll {H : Type} : List (DataW H) → Nat
  | [] => 0
  | d :: r => uptoBulk d + uptoBulkAll r
def uptoBulkEntries {H : Type} : List (Lit × DataW H) → Nat
  | [] => 0
  | x :: r => uptoBulkEntry x + uptoBulkEntries r
def uptoBulkEntry {H : Type} : Lit × DataW H → Nat
  | (.string bytes, d) => bytes.length + uptoBulk d + 1
  | (_, d) => uptoBulk d + 1
 end
def uptoSmall : (H : Type) → List (DataW H) → Bool := fun _ ds => decide (uptoBulkAll ds ≤ 1048576)
def OpenSpec.upto (s : _root_.Go.ChangeSpec) : _root_.Go.OpenSpec := { _root_.Go.OpenSpec.ofChange s with cond := some uptoSmall }

/-- 'laws.FnPassChance', WHERE WHAT IT READS IS OF BULK AT MOST 1048576: true; the input reads as it did. -/
def fnPassChanceUptoRow : OpenClaim := { program := "ytkebdelfklmigab", sum := "b925fa740f08f9a2146dfc46c4979482543eea9444ec259010614bd16e78bb69", func := "loop.example/shopsthatmake/laws.FnPassChance", spec := "fnPassChance", recurses := true, apart := false, narrowed := true }
def FnPassChanceUptoSaid : Prop := fnPassChanceUptoRow.holds Try.pinned (OpenSpec.upto fnPassChanceSpec)

/-- 'laws.FnExactPassChance', WHERE WHAT IT READS IS OF BULK AT MOST 1048576: true; the input reads as it did. -/
def fnExactPassChanceUptoRow : OpenClaim := { program := "ytkebdelfklmigab", sum := "b925fa740f08f9a2146dfc46c4979482543eea9444ec259010614bd16e78bb69", func := "loop.example/shopsthatmake/laws.FnExactPassChance", spec := "fnExactPassChance", apart := false, narrowed := true }
def FnExactPassChanceUptoSaid : Prop := fnExactPassChanceUptoRow.holds Try.pinned (OpenSpec.upto fnExactPassChanceSpec)

/-- 'laws.FnBadOut', WHERE WHAT IT READS IS OF BULK AT MOST 1048576: true; the input reads as it did. -/
def fnBadOutUptoRow : OpenClaim := { program := "ytkebdelfklmigab", sum := "b925fa740f08f9a2146dfc46c4979482543eea9444ec259010614bd16e78bb69", func := "loop.example/shopsthatmake/laws.FnBadOut", spec := "fnBadOut", apart := false, narrowed := true }
def FnBadOutUptoSaid : Prop := fnBadOutUptoRow.holds Try.pinned (OpenSpec.upto fnBadOutSpec)

/-- 'laws.FnExactBadOut', WHERE WHAT IT READS IS OF BULK AT MOST 1048576: true; the input reads as it did. -/
def fnExactBadOutUptoRow : OpenClaim := { program := "ytkebdelfklmigab", sum := "b925fa740f08f9a2146dfc46c4979482543eea9444ec259010614bd16e78bb69", func := "loop.example/shopsthatmake/laws.FnExactBadOut", spec := "fnExactBadOut", apart := false, narrowed := true }
def FnExactBadOutUptoSaid : Prop := fnExactBadOutUptoRow.holds Try.pinned (OpenSpec.upto fnExactBadOutSpec)

end Rows
end Go.Proofs.Ytkebdelfklmigab
