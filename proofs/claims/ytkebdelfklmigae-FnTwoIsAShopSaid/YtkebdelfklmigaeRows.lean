/-
  No cell of these rows narrows 'for every input' (looked for: loops, veiled, ifaces, maps, wideKeys, modest, calm, conditions, laid).
  DERIVED. THE GIVEN ROWS OF THIS SEAT. 4 by the template 'for every input the law returns true; each argument reads behind the call as it read before'; 0 by the template 'total and deterministic' (their statements: YtkebdelfklmigaeTotals.lean).
  GIVEN WITH THE SEED: the statements are not yours to turn. If you find one false, say at which input.
  Laid BY PROGRAM, IN A SANDBOX (cutbox-rows.mjs): the forced cells as the released guide's own fill.sh prints them over the translation d27a7a9a94344064… (all of the seat's roots in one cut). By AI agents, Wed Nov 11 2026. No macro, syntax, notation, axiom, sorry.
-/
import Derived.Test.YtkebdelfklmigaeChecked
import GoSem.Claim
import GoSem.ClaimJoined
import GoSem.ClaimMapViews
import Derived.JoinedTies
import Derived.KernelRfl
namespace Go.Proofs.Ytkebdelfklmigae
/- THE CELL 'sum', in the pinned program and in every row, IS THE sha256 OF THE DUMP (.gsa) THAT YtkebdelfklmigaeProg.lean LOADS. Nothing in Lean hashes anything: it is a label: what it is worth is what the hold of that sum in a sandbox is worth. -/
noncomputable def Try.pinned : Pinned := { name := "ytkebdelfklmigae", sum := "d27a7a9a94344064041c97722905658c81e86ce68d67c0aa9a017c487ec825a6", checked := Try.checked }
namespace Rows
def none {H : Type} : Left H := { results := [], args := [] }

/-- 'laws.FnPaceOf': WHATEVER THE INPUT: true; the input reads as it did. -/
def fnPaceOfSpec : ChangeSpec := { name := "fnPaceOf", fn := fun _ => fun
  | [d] => { results := [.lit (.bool true)], args := [d] }
  | _ => none }
def fnPaceOfRow : OpenClaim := { program := "ytkebdelfklmigae", sum := "d27a7a9a94344064041c97722905658c81e86ce68d67c0aa9a017c487ec825a6", func := "loop.example/shopsthatmake/laws.FnPaceOf", spec := "fnPaceOf", recurses := true, apart := false }
def FnPaceOfSaid : Prop := fnPaceOfRow.holds Try.pinned (OpenSpec.ofChange fnPaceOfSpec)

/-- ITS FALSE NEIGHBOUR: 'it returns false'. Refute it at one input. -/
def fnPaceOfWrong : ChangeSpec := { name := "fnPaceOf", fn := fun _ => fun
  | [d] => { results := [.lit (.bool false)], args := [d] }
  | _ => none }
def FnPaceOfWrongFalsely : Prop := fnPaceOfRow.holds Try.pinned (OpenSpec.ofChange fnPaceOfWrong)

/-- 'laws.FnExactPaceOf': WHATEVER THE INPUT: true; the input reads as it did. -/
def fnExactPaceOfSpec : ChangeSpec := { name := "fnExactPaceOf", fn := fun _ => fun
  | [d] => { results := [.lit (.bool true)], args := [d] }
  | _ => none }
def fnExactPaceOfRow : OpenClaim := { program := "ytkebdelfklmigae", sum := "d27a7a9a94344064041c97722905658c81e86ce68d67c0aa9a017c487ec825a6", func := "loop.example/shopsthatmake/laws.FnExactPaceOf", spec := "fnExactPaceOf", recurses := true, apart := false }
def FnExactPaceOfSaid : Prop := fnExactPaceOfRow.holds Try.pinned (OpenSpec.ofChange fnExactPaceOfSpec)

/-- ITS FALSE NEIGHBOUR: 'it returns false'. Refute it at one input. -/
def fnExactPaceOfWrong : ChangeSpec := { name := "fnExactPaceOf", fn := fun _ => fun
  | [d] => { results := [.lit (.bool false)], args := [d] }
  | _ => none }
def FnExactPaceOfWrongFalsely : Prop := fnExactPaceOfRow.holds Try.pinned (OpenSpec.ofChange fnExactPaceOfWrong)

/-- 'laws.FnKeepsPace': WHATEVER THE INPUT: true; the input reads as it did. -/
def fnKeepsPaceSpec : ChangeSpec := { name := "fnKeepsPace", fn := fun _ => fun
  | [d] => { results := [.lit (.bool true)], args := [d] }
  | _ => none }
def fnKeepsPaceRow : OpenClaim := { program := "ytkebdelfklmigae", sum := "d27a7a9a94344064041c97722905658c81e86ce68d67c0aa9a017c487ec825a6", func := "loop.example/shopsthatmake/laws.FnKeepsPace", spec := "fnKeepsPace", recurses := true, apart := false }
def FnKeepsPaceSaid : Prop := fnKeepsPaceRow.holds Try.pinned (OpenSpec.ofChange fnKeepsPaceSpec)

/-- ITS FALSE NEIGHBOUR: 'it returns false'. Refute it at one input. -/
def fnKeepsPaceWrong : ChangeSpec := { name := "fnKeepsPace", fn := fun _ => fun
  | [d] => { results := [.lit (.bool false)], args := [d] }
  | _ => none }
def FnKeepsPaceWrongFalsely : Prop := fnKeepsPaceRow.holds Try.pinned (OpenSpec.ofChange fnKeepsPaceWrong)

/-- 'laws.FnTwoIsAShop': WHATEVER THE INPUT: true; the input reads as it did. -/
def fnTwoIsAShopSpec : ChangeSpec := { name := "fnTwoIsAShop", fn := fun _ => fun
  | [d] => { results := [.lit (.bool true)], args := [d] }
  | _ => none }
def fnTwoIsAShopRow : OpenClaim := { program := "ytkebdelfklmigae", sum := "d27a7a9a94344064041c97722905658c81e86ce68d67c0aa9a017c487ec825a6", func := "loop.example/shopsthatmake/laws.FnTwoIsAShop", spec := "fnTwoIsAShop", unfollowed := true, recurses := true, apart := false }
def FnTwoIsAShopSaid : Prop := fnTwoIsAShopRow.holds Try.pinned (OpenSpec.ofChange fnTwoIsAShopSpec)

/-- ITS FALSE NEIGHBOUR: 'it returns false'. Refute it at one input. -/
def fnTwoIsAShopWrong : ChangeSpec := { name := "fnTwoIsAShop", fn := fun _ => fun
  | [d] => { results := [.lit (.bool false)], args := [d] }
  | _ => none }
def FnTwoIsAShopWrongFalsely : Prop := fnTwoIsAShopRow.holds Try.pinned (OpenSpec.ofChange fnTwoIsAShopWrong)

/- THE SECOND FORM. 'bulk': how many values and letters a reading holds, each counted each time it is reached (what is shared counts as often as it is met; a slice's spare places count too). A statement '..UptoSaid' is the law's where the arguments, and the package variables that the reading takes, are together of bulk at most 1048576: NARROWER than '..Said'. Prove '..Said' where nothing that the law and all that it calls make is longer than what came in: it says more and counts as full. Else prove '..UptoSaid'. A law counts once. -/
mutual
def uptoBulk {H : Type} : DataW H → Nat
  | .lit (.string bytes) => bytes.length + 1
  | .lit _ => 1
  | .nil => 1
  | .ptr d => uptoBulk d + 1
  | .slice elems spare => uptoBulkAll elems + uptoBulkAll spare + 1
  | .agg parts => uptoBulkAll parts + 1
  | .iface _ d => uptoBulk d + 1
  | .map entries => uptoBulkEntries entries + 1
  | .held _ => 1
def uptoBulkAll {H : Type} : List (DataW H) → Nat
  | [] => 0
  | d :: r => uptoBulk d + uptoBulkAll r
def uptoBulkEntries {H : Type} : List (Lit × DataW H) → Nat
  | [] => 0
  | x :: r => uptoBulkEntry x + uptoBulkEntries r
def uptoBulkEntry {H : Type} : Lit × DataW H → Nat
  | (.string bytes, d) => bytes.length + uptoBulk d + 1
  | (_, d) => uptoBulk d + 1
 end
def uptoSmall : (H : Type) → List (DataW H) → Bool := fun _ ds => decide (uptoBulkAll ds ≤ 1048576)
def OpenSpec.upto (s : _root_.Go.ChangeSpec) : _root_.Go.OpenSpec := { _root_.Go.OpenSpec.ofChange s with cond := some uptoSmall }

/-- 'laws.FnPaceOf', WHERE WHAT IT READS IS OF BULK AT MOST 1048576: true; the input reads as it did. -/
def fnPaceOfUptoRow : OpenClaim := { program := "ytkebdelfklmigae", sum := "d27a7a9a94344064041c97722905658c81e86ce68d67c0aa9a017c487ec825a6", func := "loop.example/shopsthatmake/laws.FnPaceOf", spec := "fnPaceOf", recurses := true, apart := false, narrowed := true }
def FnPaceOfUptoSaid : Prop := fnPaceOfUptoRow.holds Try.pinned (OpenSpec.upto fnPaceOfSpec)

/-- 'laws.FnExactPaceOf', WHERE WHAT IT READS IS OF BULK AT MOST 1048576: true; the input reads as it did. -/
def fnExactPaceOfUptoRow : OpenClaim := { program := "ytkebdelfklmigae", sum := "d27a7a9a94344064041c97722905658c81e86ce68d67c0aa9a017c487ec825a6", func := "loop.example/shopsthatmake/laws.FnExactPaceOf", spec := "fnExactPaceOf", recurses := true, apart := false, narrowed := true }
def FnExactPaceOfUptoSaid : Prop := fnExactPaceOfUptoRow.holds Try.pinned (OpenSpec.upto fnExactPaceOfSpec)

/-- 'laws.FnKeepsPace', WHERE WHAT IT READS IS OF BULK AT MOST 1048576: true; the input reads as it did. -/
def fnKeepsPaceUptoRow : OpenClaim := { program := "ytkebdelfklmigae", sum := "d27a7a9a94344064041c97722905658c81e86ce68d67c0aa9a017c487ec825a6", func := "loop.example/shopsthatmake/laws.FnKeepsPace", spec := "fnKeepsPace", recurses := true, apart := false, narrowed := true }
def FnKeepsPaceUptoSaid : Prop := fnKeepsPaceUptoRow.holds Try.pinned (OpenSpec.upto fnKeepsPaceSpec)

/-- 'laws.FnTwoIsAShop', WHERE WHAT IT READS IS OF BULK AT MOST 1048576: true; the input reads as it did. -/
def fnTwoIsAShopUptoRow : OpenClaim := { program := "ytkebdelfklmigae", sum := "d27a7a9a94344064041c97722905658c81e86ce68d67c0aa9a017c487ec825a6", func := "loop.example/shopsthatmake/laws.FnTwoIsAShop", spec := "fnTwoIsAShop", unfollowed := true, recurses := true, apart := false, narrowed := true }
def FnTwoIsAShopUptoSaid : Prop := fnTwoIsAShopUptoRow.holds Try.pinned (OpenSpec.upto fnTwoIsAShopSpec)

end Rows
end Go.Proofs.Ytkebdelfklmigae
