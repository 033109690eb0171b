/-
  No cell of these rows narrows 'for every input' (looked for: loops, veiled, ifaces, maps, wideKeys, modest, calm, conditions, laid).
  DERIVED. THE GIVEN ROWS OF THIS SEAT. 4 by the template 'for every input the law returns true; each argument reads behind the call as it read before'; 0 by the template 'total and deterministic' (their statements: YthmlgicjedhgfaaTotals.lean).
  GIVEN WITH THE SEED: the statements are not yours to turn. If you find one false, say at which input.
  Laid BY PROGRAM, IN A SANDBOX (cutbox-rows.mjs): the forced cells as the released guide's own fill.sh prints them over the translation 99bcc4f82917a52b… (all of the seat's roots in one cut). By AI agents, Wed Nov 11 2026. No macro, syntax, notation, axiom, sorry.
-/
import Derived.Test.YthmlgicjedhgfaaChecked
import GoSem.Claim
import GoSem.ClaimJoined
import GoSem.ClaimMapViews
import Derived.JoinedTies
import Derived.KernelRfl
namespace Go.Proofs.Ythmlgicjedhgfaa
/- THE CELL 'sum', in the pinned program and in every row, IS THE sha256 OF THE DUMP (.gsa) THAT YthmlgicjedhgfaaProg.lean LOADS. Nothing in Lean hashes anything: it is a label: what it is worth is what the hold of that sum in a sandbox is worth. -/
noncomputable def Try.pinned : Pinned := { name := "ythmlgicjedhgfaa", sum := "99bcc4f82917a52bbdcfb1751ced1fefb0047768da2fb9198448cc425d4280b5", checked := Try.checked }
namespace Rows
def none {H : Type} : Left H := { results := [], args := [] }

/-- 'laws.FnValidShop': WHATEVER THE INPUT: true; the input reads as it did. -/
def fnValidShopSpec : ChangeSpec := { name := "fnValidShop", fn := fun _ => fun
  | [d] => { results := [.lit (.bool true)], args := [d] }
  | _ => none }
def fnValidShopRow : OpenClaim := { program := "ythmlgicjedhgfaa", sum := "99bcc4f82917a52bbdcfb1751ced1fefb0047768da2fb9198448cc425d4280b5", func := "loop.example/shopsthatmake/laws.FnValidShop", spec := "fnValidShop", apart := false }
def FnValidShopSaid : Prop := fnValidShopRow.holds Try.pinned (OpenSpec.ofChange fnValidShopSpec)

/-- ITS FALSE NEIGHBOUR: 'it returns false'. Refute it at one input. -/
def fnValidShopWrong : ChangeSpec := { name := "fnValidShop", fn := fun _ => fun
  | [d] => { results := [.lit (.bool false)], args := [d] }
  | _ => none }
def FnValidShopWrongFalsely : Prop := fnValidShopRow.holds Try.pinned (OpenSpec.ofChange fnValidShopWrong)

/-- 'laws.FnExactValidShop': WHATEVER THE INPUT: true; the input reads as it did. -/
def fnExactValidShopSpec : ChangeSpec := { name := "fnExactValidShop", fn := fun _ => fun
  | [d] => { results := [.lit (.bool true)], args := [d] }
  | _ => none }
def fnExactValidShopRow : OpenClaim := { program := "ythmlgicjedhgfaa", sum := "99bcc4f82917a52bbdcfb1751ced1fefb0047768da2fb9198448cc425d4280b5", func := "loop.example/shopsthatmake/laws.FnExactValidShop", spec := "fnExactValidShop", apart := false }
def FnExactValidShopSaid : Prop := fnExactValidShopRow.holds Try.pinned (OpenSpec.ofChange fnExactValidShopSpec)

/-- ITS FALSE NEIGHBOUR: 'it returns false'. Refute it at one input. -/
def fnExactValidShopWrong : ChangeSpec := { name := "fnExactValidShop", fn := fun _ => fun
  | [d] => { results := [.lit (.bool false)], args := [d] }
  | _ => none }
def FnExactValidShopWrongFalsely : Prop := fnExactValidShopRow.holds Try.pinned (OpenSpec.ofChange fnExactValidShopWrong)

/-- 'laws.FnLeastShop': WHATEVER THE INPUT: true; the input reads as it did. -/
def fnLeastShopSpec : ChangeSpec := { name := "fnLeastShop", fn := fun _ => fun
  | [d] => { results := [.lit (.bool true)], args := [d] }
  | _ => none }
def fnLeastShopRow : OpenClaim := { program := "ythmlgicjedhgfaa", sum := "99bcc4f82917a52bbdcfb1751ced1fefb0047768da2fb9198448cc425d4280b5", func := "loop.example/shopsthatmake/laws.FnLeastShop", spec := "fnLeastShop", apart := false }
def FnLeastShopSaid : Prop := fnLeastShopRow.holds Try.pinned (OpenSpec.ofChange fnLeastShopSpec)

/-- ITS FALSE NEIGHBOUR: 'it returns false'. Refute it at one input. -/
def fnLeastShopWrong : ChangeSpec := { name := "fnLeastShop", fn := fun _ => fun
  | [d] => { results := [.lit (.bool false)], args := [d] }
  | _ => none }
def FnLeastShopWrongFalsely : Prop := fnLeastShopRow.holds Try.pinned (OpenSpec.ofChange fnLeastShopWrong)

/-- 'laws.FnExactLeastShop': WHATEVER THE INPUT: true; the input reads as it did. -/
def fnExactLeastShopSpec : ChangeSpec := { name := "fnExactLeastShop", fn := fun _ => fun
  | [d] => { results := [.lit (.bool true)], args := [d] }
  | _ => none }
def fnExactLeastShopRow : OpenClaim := { program := "ythmlgicjedhgfaa", sum := "99bcc4f82917a52bbdcfb1751ced1fefb0047768da2fb9198448cc425d4280b5", func := "loop.example/shopsthatmake/laws.FnExactLeastShop", spec := "fnExactLeastShop", apart := false }
def FnExactLeastShopSaid : Prop := fnExactLeastShopRow.holds Try.pinned (OpenSpec.ofChange fnExactLeastShopSpec)

/-- ITS FALSE NEIGHBOUR: 'it returns false'. Refute it at one input. -/
def fnExactLeastShopWrong : ChangeSpec := { name := "fnExactLeastShop", fn := fun _ => fun
  | [d] => { results := [.lit (.bool false)], args := [d] }
  | _ => none }
def FnExactLeastShopWrongFalsely : Prop := fnExactLeastShopRow.holds Try.pinned (OpenSpec.ofChange fnExactLeastShopWrong)

/- THE SECOND FORM. 'bulk': how many values and letters a reading holds, each counted each time it is reached (what is shared counts as often as it is met; a slice's spare places count too). A statement '..UptoSaid' is the law's where the arguments, and the package variables that the reading takes, are together of bulk at most 1048576: NARROWER than '..Said'. Prove '..Said' where nothing that the law and all that it calls make is longer than what came in: it says more and counts as full. Else prove '..UptoSaid'. A law counts once. -/
mutual
def uptoBulk {H : Type} : DataW H → Nat
  | .lit (.string bytes) => bytes.length + 1
  | .lit _ => 1
  | .nil => 1
  | .ptr d => uptoBulk d + 1
  | .slice elems spare => uptoBulkAll elems + uptoBulkAll spare + 1
  | .agg parts => uptoBulkAll parts + 1
  | .iface _ d => uptoBulk d + 1
  | .map entries => uptoBulkEntries entries + 1
  | .held _ => 1
def uptoBulkAll {H : Type} : List (DataW H) → Nat
  | [] => 0
  | d :: r => uptoBulk d + uptoBulkAll r
def uptoBulkEntries {H : Type} : List (Lit × DataW H) → Nat
  | [] => 0
  | x :: r => uptoBulkEntry x + uptoBulkEntries r
def uptoBulkEntry {H : Type} : Lit × DataW H → Nat
  | (.string bytes, d) => bytes.length + uptoBulk d + 1
  | (_, d) => uptoBulk d + 1
 end
def uptoSmall : (H : Type) → List (DataW H) → Bool := fun _ ds => decide (uptoBulkAll ds ≤ 1048576)
def OpenSpec.upto (s : _root_.Go.ChangeSpec) : _root_.Go.OpenSpec := { _root_.Go.OpenSpec.ofChange s with cond := some uptoSmall }

/-- 'laws.FnValidShop', WHERE WHAT IT READS IS OF BULK AT MOST 1048576: true; the input reads as it did. -/
def fnValidShopUptoRow : OpenClaim := { program := "ythmlgicjedhgfaa", sum := "99bcc4f82917a52bbdcfb1751ced1fefb0047768da2fb9198448cc425d4280b5", func := "loop.example/shopsthatmake/laws.FnValidShop", spec := "fnValidShop", apart := false, narrowed := true }
def FnValidShopUptoSaid : Prop := fnValidShopUptoRow.holds Try.pinned (OpenSpec.upto fnValidShopSpec)

/-- 'laws.FnExactValidShop', WHERE WHAT IT READS IS OF BULK AT MOST 1048576: true; the input reads as it did. -/
def fnExactValidShopUptoRow : OpenClaim := { program := "ythmlgicjedhgfaa", sum := "99bcc4f82917a52bbdcfb1751ced1fefb0047768da2fb9198448cc425d4280b5", func := "loop.example/shopsthatmake/laws.FnExactValidShop", spec := "fnExactValidShop", apart := false, narrowed := true }
def FnExactValidShopUptoSaid : Prop := fnExactValidShopUptoRow.holds Try.pinned (OpenSpec.upto fnExactValidShopSpec)

/-- 'laws.FnLeastShop', WHERE WHAT IT READS IS OF BULK AT MOST 1048576: true; the input reads as it did. -/
def fnLeastShopUptoRow : OpenClaim := { program := "ythmlgicjedhgfaa", sum := "99bcc4f82917a52bbdcfb1751ced1fefb0047768da2fb9198448cc425d4280b5", func := "loop.example/shopsthatmake/laws.FnLeastShop", spec := "fnLeastShop", apart := false, narrowed := true }
def FnLeastShopUptoSaid : Prop := fnLeastShopUptoRow.holds Try.pinned (OpenSpec.upto fnLeastShopSpec)

/-- 'laws.FnExactLeastShop', WHERE WHAT IT READS IS OF BULK AT MOST 1048576: true; the input reads as it did. -/
def fnExactLeastShopUptoRow : OpenClaim := { program := "ythmlgicjedhgfaa", sum := "99bcc4f82917a52bbdcfb1751ced1fefb0047768da2fb9198448cc425d4280b5", func := "loop.example/shopsthatmake/laws.FnExactLeastShop", spec := "fnExactLeastShop", apart := false, narrowed := true }
def FnExactLeastShopUptoSaid : Prop := fnExactLeastShopUptoRow.holds Try.pinned (OpenSpec.upto fnExactLeastShopSpec)

end Rows
end Go.Proofs.Ythmlgicjedhgfaa
