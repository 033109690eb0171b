/-
  No cell of these rows narrows 'for every input' (looked for: loops, veiled, ifaces, maps, wideKeys, modest, calm, conditions, laid).
  DERIVED. THE GIVEN ROWS OF THIS SEAT. 4 by the template 'for every input the law returns true; each argument reads behind the call as it read before'; 0 by the template 'total and deterministic' (their statements: YtkpokcddefoklaaTotals.lean).
  GIVEN WITH THE SEED: the statements are not yours to turn. If you find one false, say at which input.
  Laid BY PROGRAM, IN A SANDBOX (cutbox-rows.mjs): the forced cells as the released guide's own fill.sh prints them over the translation 6e84c88251b934f9… (all of the seat's roots in one cut). By AI agents, Wed Nov 11 2026. No macro, syntax, notation, axiom, sorry.
-/
import Derived.Test.YtkpokcddefoklaaChecked
import GoSem.Claim
import GoSem.ClaimJoined
import GoSem.ClaimMapViews
import Derived.JoinedTies
import Derived.KernelRfl
namespace Go.Proofs.Ytkpokcddefoklaa
/- THE CELL 'sum', in the pinned program and in every row, IS THE sha256 OF THE DUMP (.gsa) THAT YtkpokcddefoklaaProg.lean LOADS. Nothing in Lean hashes anything: it is a label: what it is worth is what the hold of that sum in a sandbox is worth. -/
noncomputable def Try.pinned : Pinned := { name := "ytkpokcddefoklaa", sum := "6e84c88251b934f91333ec01e572dffb3086497cf201fc9da626508ebbc67d83", checked := Try.checked }
namespace Rows
def none {H : Type} : Left H := { results := [], args := [] }

/-- 'laws.FnValidBill': WHATEVER THE INPUT: true; the input reads as it did. -/
def fnValidBillSpec : ChangeSpec := { name := "fnValidBill", fn := fun _ => fun
  | [d] => { results := [.lit (.bool true)], args := [d] }
  | _ => none }
def fnValidBillRow : OpenClaim := { program := "ytkpokcddefoklaa", sum := "6e84c88251b934f91333ec01e572dffb3086497cf201fc9da626508ebbc67d83", func := "loop.example/shopsthatmake/laws.FnValidBill", spec := "fnValidBill", apart := false }
def FnValidBillSaid : Prop := fnValidBillRow.holds Try.pinned (OpenSpec.ofChange fnValidBillSpec)

/-- ITS FALSE NEIGHBOUR: 'it returns false'. Refute it at one input. -/
def fnValidBillWrong : ChangeSpec := { name := "fnValidBill", fn := fun _ => fun
  | [d] => { results := [.lit (.bool false)], args := [d] }
  | _ => none }
def FnValidBillWrongFalsely : Prop := fnValidBillRow.holds Try.pinned (OpenSpec.ofChange fnValidBillWrong)

/-- 'laws.FnExactValidBill': WHATEVER THE INPUT: true; the input reads as it did. -/
def fnExactValidBillSpec : ChangeSpec := { name := "fnExactValidBill", fn := fun _ => fun
  | [d] => { results := [.lit (.bool true)], args := [d] }
  | _ => none }
def fnExactValidBillRow : OpenClaim := { program := "ytkpokcddefoklaa", sum := "6e84c88251b934f91333ec01e572dffb3086497cf201fc9da626508ebbc67d83", func := "loop.example/shopsthatmake/laws.FnExactValidBill", spec := "fnExactValidBill", apart := false }
def FnExactValidBillSaid : Prop := fnExactValidBillRow.holds Try.pinned (OpenSpec.ofChange fnExactValidBillSpec)

/-- ITS FALSE NEIGHBOUR: 'it returns false'. Refute it at one input. -/
def fnExactValidBillWrong : ChangeSpec := { name := "fnExactValidBill", fn := fun _ => fun
  | [d] => { results := [.lit (.bool false)], args := [d] }
  | _ => none }
def FnExactValidBillWrongFalsely : Prop := fnExactValidBillRow.holds Try.pinned (OpenSpec.ofChange fnExactValidBillWrong)

/-- 'laws.FnTakesOf': WHATEVER THE INPUT: true; the input reads as it did. -/
def fnTakesOfSpec : ChangeSpec := { name := "fnTakesOf", fn := fun _ => fun
  | [d] => { results := [.lit (.bool true)], args := [d] }
  | _ => none }
def fnTakesOfRow : OpenClaim := { program := "ytkpokcddefoklaa", sum := "6e84c88251b934f91333ec01e572dffb3086497cf201fc9da626508ebbc67d83", func := "loop.example/shopsthatmake/laws.FnTakesOf", spec := "fnTakesOf", unfollowed := true, recurses := true, apart := false }
def FnTakesOfSaid : Prop := fnTakesOfRow.holds Try.pinned (OpenSpec.ofChange fnTakesOfSpec)

/-- ITS FALSE NEIGHBOUR: 'it returns false'. Refute it at one input. -/
def fnTakesOfWrong : ChangeSpec := { name := "fnTakesOf", fn := fun _ => fun
  | [d] => { results := [.lit (.bool false)], args := [d] }
  | _ => none }
def FnTakesOfWrongFalsely : Prop := fnTakesOfRow.holds Try.pinned (OpenSpec.ofChange fnTakesOfWrong)

/-- 'laws.FnExactTakesOf': WHATEVER THE INPUT: true; the input reads as it did. -/
def fnExactTakesOfSpec : ChangeSpec := { name := "fnExactTakesOf", fn := fun _ => fun
  | [d1, d2, d3] => { results := [.lit (.bool true)], args := [d1, d2, d3] }
  | _ => none }
def fnExactTakesOfRow : OpenClaim := { program := "ytkpokcddefoklaa", sum := "6e84c88251b934f91333ec01e572dffb3086497cf201fc9da626508ebbc67d83", func := "loop.example/shopsthatmake/laws.FnExactTakesOf", spec := "fnExactTakesOf", unfollowed := true, recurses := true, apart := false }
def FnExactTakesOfSaid : Prop := fnExactTakesOfRow.holds Try.pinned (OpenSpec.ofChange fnExactTakesOfSpec)

/-- ITS FALSE NEIGHBOUR: 'it returns false'. Refute it at one input. -/
def fnExactTakesOfWrong : ChangeSpec := { name := "fnExactTakesOf", fn := fun _ => fun
  | [d1, d2, d3] => { results := [.lit (.bool false)], args := [d1, d2, d3] }
  | _ => none }
def FnExactTakesOfWrongFalsely : Prop := fnExactTakesOfRow.holds Try.pinned (OpenSpec.ofChange fnExactTakesOfWrong)

/- THE SECOND FORM. 'bulk': how many values and letters a reading holds, each counted each time it is reached (what is shared counts as often as it is met; a slice's spare places count too). A statement '..UptoSaid' is the law's where the arguments, and the package variables that the reading takes, are together of bulk at most 1048576: NARROWER than '..Said'. Prove '..Said' where nothing that the law and all that it calls make is longer than what came in: it says more and counts as full. Else prove '..UptoSaid'. A law counts once. -/
mutual
def uptoBulk {H : Type} : DataW H → Nat
  | .lit (.string bytes) => bytes.length + 1
  | .lit _ => 1
  | .nil => 1
  | .ptr d => uptoBulk d + 1
  | .slice elems spare => uptoBulkAll elems + uptoBulkAll spare + 1
  | .agg parts => uptoBulkAll parts + 1
  | .iface _ d => uptoBulk d + 1
  | .map entries => uptoBulkEntries entries + 1
  | .held _ => 1
def uptoBulkAll {H : Type} : List (DataW H) → Nat
  | [] => 0
  | d :: r => uptoBulk d + uptoBulkAll r
def uptoBulkEntries {H : Type} : List (Lit × DataW H) → Nat
  | [] => 0
  | x :: r => uptoBulkEntry x + uptoBulkEntries r
def uptoBulkEntry {H : Type} : Lit × DataW H → Nat
  | (.string bytes, d) => bytes.length + uptoBulk d + 1
  | (_, d) => uptoBulk d + 1
 end
def uptoSmall : (H : Type) → List (DataW H) → Bool := fun _ ds => decide (uptoBulkAll ds ≤ 1048576)
def OpenSpec.upto (s : _root_.Go.ChangeSpec) : _root_.Go.OpenSpec := { _root_.Go.OpenSpec.ofChange s with cond := some uptoSmall }

/-- 'laws.FnValidBill', WHERE WHAT IT READS IS OF BULK AT MOST 1048576: true; the input reads as it did. -/
def fnValidBillUptoRow : OpenClaim := { program := "ytkpokcddefoklaa", sum := "6e84c88251b934f91333ec01e572dffb3086497cf201fc9da626508ebbc67d83", func := "loop.example/shopsthatmake/laws.FnValidBill", spec := "fnValidBill", apart := false, narrowed := true }
def FnValidBillUptoSaid : Prop := fnValidBillUptoRow.holds Try.pinned (OpenSpec.upto fnValidBillSpec)

/-- 'laws.FnExactValidBill', WHERE WHAT IT READS IS OF BULK AT MOST 1048576: true; the input reads as it did. -/
def fnExactValidBillUptoRow : OpenClaim := { program := "ytkpokcddefoklaa", sum := "6e84c88251b934f91333ec01e572dffb3086497cf201fc9da626508ebbc67d83", func := "loop.example/shopsthatmake/laws.FnExactValidBill", spec := "fnExactValidBill", apart := false, narrowed := true }
def FnExactValidBillUptoSaid : Prop := fnExactValidBillUptoRow.holds Try.pinned (OpenSpec.upto fnExactValidBillSpec)

/-- 'laws.FnTakesOf', WHERE WHAT IT READS IS OF BULK AT MOST 1048576: true; the input reads as it did. -/
def fnTakesOfUptoRow : OpenClaim := { program := "ytkpokcddefoklaa", sum := "6e84c88251b934f91333ec01e572dffb3086497cf201fc9da626508ebbc67d83", func := "loop.example/shopsthatmake/laws.FnTakesOf", spec := "fnTakesOf", unfollowed := true, recurses := true, apart := false, narrowed := true }
def FnTakesOfUptoSaid : Prop := fnTakesOfUptoRow.holds Try.pinned (OpenSpec.upto fnTakesOfSpec)

/-- 'laws.FnExactTakesOf', WHERE WHAT IT READS IS OF BULK AT MOST 1048576: true; the input reads as it did. -/
def fnExactTakesOfUptoRow : OpenClaim := { program := "ytkpokcddefoklaa", sum := "6e84c88251b934f91333ec01e572dffb3086497cf201fc9da626508ebbc67d83", func := "loop.example/shopsthatmake/laws.FnExactTakesOf", spec := "fnExactTakesOf", unfollowed := true, recurses := true, apart := false, narrowed := true }
def FnExactTakesOfUptoSaid : Prop := fnExactTakesOfUptoRow.holds Try.pinned (OpenSpec.upto fnExactTakesOfSpec)

end Rows
end Go.Proofs.Ytkpokcddefoklaa
