/-
  No cell of these rows narrows 'for every input' (looked for: loops, veiled, ifaces, maps, wideKeys, modest, calm, conditions, laid).
  DERIVED. THE GIVEN ROWS OF THIS SEAT. 4 by the template 'for every input the law returns true; each argument reads behind the call as it read before'; 0 by the template 'total and deterministic' (their statements: YtkjmpkincaainabTotals.lean).
  GIVEN WITH THE SEED: the statements are not yours to turn. If you find one false, say at which input.
  Laid BY PROGRAM, IN A SANDBOX (cutbox-rows.mjs): the forced cells as the released guide's own fill.sh prints them over the translation ccff30344e4b0101… (all of the seat's roots in one cut). By AI agents, Wed Nov 11 2026. No macro, syntax, notation, axiom, sorry.
-/
import Derived.Test.YtkjmpkincaainabChecked
import GoSem.Claim
import GoSem.ClaimJoined
import GoSem.ClaimMapViews
import Derived.JoinedTies
import Derived.KernelRfl
namespace Go.Proofs.Ytkjmpkincaainab
/- THE CELL 'sum', in the pinned program and in every row, IS THE sha256 OF THE DUMP (.gsa) THAT YtkjmpkincaainabProg.lean LOADS. Nothing in Lean hashes anything: it is a label: what it is worth is what the hold of that sum in a sandbox is worth. -/
noncomputable def Try.pinned : Pinned := { name := "ytkjmpkincaainab", sum := "ccff30344e4b01014fda21d4539e09da792d4dfb8bd951c00e060e20fcb92f1e", checked := Try.checked }
namespace Rows
def none {H : Type} : Left H := { results := [], args := [] }

/-- 'laws.FnExactBestStock': WHATEVER THE INPUT: true; the input reads as it did. -/
def fnExactBestStockSpec : ChangeSpec := { name := "fnExactBestStock", fn := fun _ => fun
  | [d1, d2, d3] => { results := [.lit (.bool true)], args := [d1, d2, d3] }
  | _ => none }
def fnExactBestStockRow : OpenClaim := { program := "ytkjmpkincaainab", sum := "ccff30344e4b01014fda21d4539e09da792d4dfb8bd951c00e060e20fcb92f1e", func := "loop.example/shopsthatmake/laws.FnExactBestStock", spec := "fnExactBestStock", apart := false }
def FnExactBestStockSaid : Prop := fnExactBestStockRow.holds Try.pinned (OpenSpec.ofChange fnExactBestStockSpec)

/-- ITS FALSE NEIGHBOUR: 'it returns false'. Refute it at one input. -/
def fnExactBestStockWrong : ChangeSpec := { name := "fnExactBestStock", fn := fun _ => fun
  | [d1, d2, d3] => { results := [.lit (.bool false)], args := [d1, d2, d3] }
  | _ => none }
def FnExactBestStockWrongFalsely : Prop := fnExactBestStockRow.holds Try.pinned (OpenSpec.ofChange fnExactBestStockWrong)

/-- 'laws.FnBestStock': WHATEVER THE INPUT: true; the input reads as it did. -/
def fnBestStockSpec : ChangeSpec := { name := "fnBestStock", fn := fun _ => fun
  | [d] => { results := [.lit (.bool true)], args := [d] }
  | _ => none }
def fnBestStockRow : OpenClaim := { program := "ytkjmpkincaainab", sum := "ccff30344e4b01014fda21d4539e09da792d4dfb8bd951c00e060e20fcb92f1e", func := "loop.example/shopsthatmake/laws.FnBestStock", spec := "fnBestStock", apart := false }
def FnBestStockSaid : Prop := fnBestStockRow.holds Try.pinned (OpenSpec.ofChange fnBestStockSpec)

/-- ITS FALSE NEIGHBOUR: 'it returns false'. Refute it at one input. -/
def fnBestStockWrong : ChangeSpec := { name := "fnBestStock", fn := fun _ => fun
  | [d] => { results := [.lit (.bool false)], args := [d] }
  | _ => none }
def FnBestStockWrongFalsely : Prop := fnBestStockRow.holds Try.pinned (OpenSpec.ofChange fnBestStockWrong)

/-- 'laws.FnExactStockByShare': WHATEVER THE INPUT: true; the input reads as it did. -/
def fnExactStockByShareSpec : ChangeSpec := { name := "fnExactStockByShare", fn := fun _ => fun
  | [d1, d2, d3] => { results := [.lit (.bool true)], args := [d1, d2, d3] }
  | _ => none }
def fnExactStockByShareRow : OpenClaim := { program := "ytkjmpkincaainab", sum := "ccff30344e4b01014fda21d4539e09da792d4dfb8bd951c00e060e20fcb92f1e", func := "loop.example/shopsthatmake/laws.FnExactStockByShare", spec := "fnExactStockByShare", apart := false }
def FnExactStockByShareSaid : Prop := fnExactStockByShareRow.holds Try.pinned (OpenSpec.ofChange fnExactStockByShareSpec)

/-- ITS FALSE NEIGHBOUR: 'it returns false'. Refute it at one input. -/
def fnExactStockByShareWrong : ChangeSpec := { name := "fnExactStockByShare", fn := fun _ => fun
  | [d1, d2, d3] => { results := [.lit (.bool false)], args := [d1, d2, d3] }
  | _ => none }
def FnExactStockByShareWrongFalsely : Prop := fnExactStockByShareRow.holds Try.pinned (OpenSpec.ofChange fnExactStockByShareWrong)

/-- 'laws.FnStockByShare': WHATEVER THE INPUT: true; the input reads as it did. -/
def fnStockByShareSpec : ChangeSpec := { name := "fnStockByShare", fn := fun _ => fun
  | [d] => { results := [.lit (.bool true)], args := [d] }
  | _ => none }
def fnStockByShareRow : OpenClaim := { program := "ytkjmpkincaainab", sum := "ccff30344e4b01014fda21d4539e09da792d4dfb8bd951c00e060e20fcb92f1e", func := "loop.example/shopsthatmake/laws.FnStockByShare", spec := "fnStockByShare", apart := false }
def FnStockByShareSaid : Prop := fnStockByShareRow.holds Try.pinned (OpenSpec.ofChange fnStockByShareSpec)

/-- ITS FALSE NEIGHBOUR: 'it returns false'. Refute it at one input. -/
def fnStockByShareWrong : ChangeSpec := { name := "fnStockByShare", fn := fun _ => fun
  | [d] => { results := [.lit (.bool false)], args := [d] }
  | _ => none }
def FnStockByShareWrongFalsely : Prop := fnStockByShareRow.holds Try.pinned (OpenSpec.ofChange fnStockByShareWrong)

/- THE SECOND FORM. 'bulk': how many values and letters a reading holds, each counted each time it is reached (what is shared counts as often as it is met; a slice's spare places count too). A statement '..UptoSaid' is the law's where the arguments, and the package variables that the reading takes, are together of bulk at most 1048576: NARROWER than '..Said'. Prove '..Said' where nothing that the law and all that it calls make is longer than what came in: it says more and counts as full. Else prove '..UptoSaid'. A law counts once. -/
mutual
def uptoBulk {H : Type} : DataW H → Nat
  | .lit (.string bytes) => bytes.length + 1
  | .lit _ => 1
  | .nil => 1
  | .ptr d => uptoBulk d + 1
  | .slice elems spare => uptoBulkAll elems + uptoBulkAll spare + 1
  | .agg parts => uptoBulkAll parts + 1
  | .iface _ d => uptoBulk d + 1
  | .map entries => uptoBulkEntries entries + 1
  | .held _ => 1
def uptoBulkAll {H : Type} : List (DataW H) → Nat
  | [] => 0
  | d :: r => uptoBulk d + uptoBulkAll r
def uptoBulkEntries {H : Type} : List (Lit × DataW H) → Nat
  | [] => 0
  | x :: r => uptoBulkEntry x + uptoBulkEntries r
def uptoBulkEntry {H : Type} : Lit × DataW H → Nat
  | (.string bytes, d) => bytes.length + uptoBulk d + 1
  | (_, d) => uptoBulk d + 1
 end
def uptoSmall : (H : Type) → List (DataW H) → Bool := fun _ ds => decide (uptoBulkAll ds ≤ 1048576)
def OpenSpec.upto (s : _root_.Go.ChangeSpec) : _root_.Go.OpenSpec := { _root_.Go.OpenSpec.ofChange s with cond := some uptoSmall }

/-- 'laws.FnExactBestStock', WHERE WHAT IT READS IS OF BULK AT MOST 1048576: true; the input reads as it did. -/
def fnExactBestStockUptoRow : OpenClaim := { program := "ytkjmpkincaainab", sum := "ccff30344e4b01014fda21d4539e09da792d4dfb8bd951c00e060e20fcb92f1e", func := "loop.example/shopsthatmake/laws.FnExactBestStock", spec := "fnExactBestStock", apart := false, narrowed := true }
def FnExactBestStockUptoSaid : Prop := fnExactBestStockUptoRow.holds Try.pinned (OpenSpec.upto fnExactBestStockSpec)

/-- 'laws.FnBestStock', WHERE WHAT IT READS IS OF BULK AT MOST 1048576: true; the input reads as it did. -/
def fnBestStockUptoRow : OpenClaim := { program := "ytkjmpkincaainab", sum := "ccff30344e4b01014fda21d4539e09da792d4dfb8bd951c00e060e20fcb92f1e", func := "loop.example/shopsthatmake/laws.FnBestStock", spec := "fnBestStock", apart := false, narrowed := true }
def FnBestStockUptoSaid : Prop := fnBestStockUptoRow.holds Try.pinned (OpenSpec.upto fnBestStockSpec)

/-- 'laws.FnExactStockByShare', WHERE WHAT IT READS IS OF BULK AT MOST 1048576: true; the input reads as it did. -/
def fnExactStockByShareUptoRow : OpenClaim := { program := "ytkjmpkincaainab", sum := "ccff30344e4b01014fda21d4539e09da792d4dfb8bd951c00e060e20fcb92f1e", func := "loop.example/shopsthatmake/laws.FnExactStockByShare", spec := "fnExactStockByShare", apart := false, narrowed := true }
def FnExactStockByShareUptoSaid : Prop := fnExactStockByShareUptoRow.holds Try.pinned (OpenSpec.upto fnExactStockByShareSpec)

/-- 'laws.FnStockByShare', WHERE WHAT IT READS IS OF BULK AT MOST 1048576: true; the input reads as it did. -/
def fnStockByShareUptoRow : OpenClaim := { program := "ytkjmpkincaainab", sum := "ccff30344e4b01014fda21d4539e09da792d4dfb8bd951c00e060e20fcb92f1e", func := "loop.example/shopsthatmake/laws.FnStockByShare", spec := "fnStockByShare", apart := false, narrowed := true }
def FnStockByShareUptoSaid : Prop := fnStockByShareUptoRow.holds Try.pinned (OpenSpec.upto fnStockByShareSpec)

end Rows
end Go.Proofs.Ytkjmpkincaainab
