/-
  No cell of these rows narrows 'for every input' (looked for: loops, veiled, ifaces, maps, wideKeys, modest, calm, conditions, laid).
  DERIVED. THE GIVEN ROWS OF THIS SEAT. 4 by the template 'for every input the law returns true; each argument reads behind the call as it read before'; 0 by the template 'total and deterministic' (their statements: YtkebdelfklmigaaTotals.lean).
  GIVEN WITH THE SEED: the statements are not yours to turn. If you find one false, say at which input.
  Laid BY PROGRAM, IN A SANDBOX (cutbox-rows.mjs): the forced cells as the released guide's own fill.sh prints them over the translation 6e83e1f7241d2d2b… (all of the seat's roots in one cut). By AI agents, Wed Nov 11 2026. No macro, syntax, notation, axiom, sorry.
-/
import Derived.Test.YtkebdelfklmigaaChecked
import GoSem.Claim
import GoSem.ClaimJoined
import GoSem.ClaimMapViews
import Derived.JoinedTies
import Derived.KernelRfl
namespace Go.Proofs.Ytkebdelfklmigaa
/- THE CELL 'sum', in the pinned program and in every row, IS THE sha256 OF THE DUMP (.gsa) THAT YtkebdelfklmigaaProg.lean LOADS. Nothing in Lean hashes anything: it is a label: what it is worth is what the hold of that sum in a sandbox is worth. -/
noncomputable def Try.pinned : Pinned := { name := "ytkebdelfklmigaa", sum := "6e83e1f7241d2d2b08b4fa8ba1de288d13b03acc97592771b801fe4e39c9d687", checked := Try.checked }
namespace Rows
def none {H : Type} : Left H := { results := [], args := [] }

/-- 'laws.FnChooseOf': WHATEVER THE INPUT: true; the input reads as it did. -/
def fnChooseOfSpec : ChangeSpec := { name := "fnChooseOf", fn := fun _ => fun
  | [d] => { results := [.lit (.bool true)], args := [d] }
  | _ => none }
def fnChooseOfRow : OpenClaim := { program := "ytkebdelfklmigaa", sum := "6e83e1f7241d2d2b08b4fa8ba1de288d13b03acc97592771b801fe4e39c9d687", func := "loop.example/shopsthatmake/laws.FnChooseOf", spec := "fnChooseOf", apart := false }
def FnChooseOfSaid : Prop := fnChooseOfRow.holds Try.pinned (OpenSpec.ofChange fnChooseOfSpec)

/-- ITS FALSE NEIGHBOUR: 'it returns false'. Refute it at one input. -/
def fnChooseOfWrong : ChangeSpec := { name := "fnChooseOf", fn := fun _ => fun
  | [d] => { results := [.lit (.bool false)], args := [d] }
  | _ => none }
def FnChooseOfWrongFalsely : Prop := fnChooseOfRow.holds Try.pinned (OpenSpec.ofChange fnChooseOfWrong)

/-- 'laws.FnExactChooseOf': WHATEVER THE INPUT: true; the input reads as it did. -/
def fnExactChooseOfSpec : ChangeSpec := { name := "fnExactChooseOf", fn := fun _ => fun
  | [d1, d2] => { results := [.lit (.bool true)], args := [d1, d2] }
  | _ => none }
def fnExactChooseOfRow : OpenClaim := { program := "ytkebdelfklmigaa", sum := "6e83e1f7241d2d2b08b4fa8ba1de288d13b03acc97592771b801fe4e39c9d687", func := "loop.example/shopsthatmake/laws.FnExactChooseOf", spec := "fnExactChooseOf", apart := false }
def FnExactChooseOfSaid : Prop := fnExactChooseOfRow.holds Try.pinned (OpenSpec.ofChange fnExactChooseOfSpec)

/-- ITS FALSE NEIGHBOUR: 'it returns false'. Refute it at one input. -/
def fnExactChooseOfWrong : ChangeSpec := { name := "fnExactChooseOf", fn := fun _ => fun
  | [d1, d2] => { results := [.lit (.bool false)], args := [d1, d2] }
  | _ => none }
def FnExactChooseOfWrongFalsely : Prop := fnExactChooseOfRow.holds Try.pinned (OpenSpec.ofChange fnExactChooseOfWrong)

/-- 'laws.FnPassByDraws': WHATEVER THE INPUT: true; the input reads as it did. -/
def fnPassByDrawsSpec : ChangeSpec := { name := "fnPassByDraws", fn := fun _ => fun
  | [d] => { results := [.lit (.bool true)], args := [d] }
  | _ => none }
def fnPassByDrawsRow : OpenClaim := { program := "ytkebdelfklmigaa", sum := "6e83e1f7241d2d2b08b4fa8ba1de288d13b03acc97592771b801fe4e39c9d687", func := "loop.example/shopsthatmake/laws.FnPassByDraws", spec := "fnPassByDraws", recurses := true, apart := false }
def FnPassByDrawsSaid : Prop := fnPassByDrawsRow.holds Try.pinned (OpenSpec.ofChange fnPassByDrawsSpec)

/-- ITS FALSE NEIGHBOUR: 'it returns false'. Refute it at one input. -/
def fnPassByDrawsWrong : ChangeSpec := { name := "fnPassByDraws", fn := fun _ => fun
  | [d] => { results := [.lit (.bool false)], args := [d] }
  | _ => none }
def FnPassByDrawsWrongFalsely : Prop := fnPassByDrawsRow.holds Try.pinned (OpenSpec.ofChange fnPassByDrawsWrong)

/-- 'laws.FnExactPassByDraws': WHATEVER THE INPUT: true; the input reads as it did. -/
def fnExactPassByDrawsSpec : ChangeSpec := { name := "fnExactPassByDraws", fn := fun _ => fun
  | [d1, d2, d3, d4] => { results := [.lit (.bool true)], args := [d1, d2, d3, d4] }
  | _ => none }
def fnExactPassByDrawsRow : OpenClaim := { program := "ytkebdelfklmigaa", sum := "6e83e1f7241d2d2b08b4fa8ba1de288d13b03acc97592771b801fe4e39c9d687", func := "loop.example/shopsthatmake/laws.FnExactPassByDraws", spec := "fnExactPassByDraws", recurses := true, apart := false }
def FnExactPassByDrawsSaid : Prop := fnExactPassByDrawsRow.holds Try.pinned (OpenSpec.ofChange fnExactPassByDrawsSpec)

/-- ITS FALSE NEIGHBOUR: 'it returns false'. Refute it at one input. -/
def fnExactPassByDrawsWrong : ChangeSpec := { name := "fnExactPassByDraws", fn := fun _ => fun
  | [d1, d2, d3, d4] => { results := [.lit (.bool false)], args := [d1, d2, d3, d4] }
  | _ => none }
def FnExactPassByDrawsWrongFalsely : Prop := fnExactPassByDrawsRow.holds Try.pinned (OpenSpec.ofChange fnExactPassByDrawsWrong)

/- THE SECOND FORM. 'bulk': how many values and letters a reading holds, each counted each time it is reached (what is shared counts as often as it is met; a slice's spare places count too). A statement '..UptoSaid' is the law's where the arguments, and the package variables that the reading takes, are together of bulk at most 1048576: NARROWER than '..Said'. Prove '..Said' where nothing that the law and all that it calls make is longer than what came in: it says more and counts as full. Else prove '..UptoSaid'. A law counts once. -/
mutual
def uptoBulk {H : Type} : DataW H → Nat
  | .lit (.string bytes) => bytes.length + 1
  | .lit _ => 1
  | .nil => 1
  | .ptr d => uptoBulk d + 1
  | .slice elems spare => uptoBulkAll elems + uptoBulkAll spare + 1
  | .agg parts => uptoBulkAll parts + 1
  | .iface _ d => uptoBulk d + 1
  | .map entries => uptoBulkEntries entries + 1
  | .held _ => 1
def uptoBulkAll {H : Type} : List (DataW H) → Nat
  | [] => 0
  | d :: r => uptoBulk d + uptoBulkAll r
def uptoBulkEntries {H : Type} : List (Lit × DataW H) → Nat
  | [] => 0
  | x :: r => uptoBulkEntry x + uptoBulkEntries r
def uptoBulkEntry {H : Type} : Lit × DataW H → Nat
  | (.string bytes, d) => bytes.length + uptoBulk d + 1
  | (_, d) => uptoBulk d + 1
 end
def uptoSmall : (H : Type) → List (DataW H) → Bool := fun _ ds => decide (uptoBulkAll ds ≤ 1048576)
def OpenSpec.upto (s : _root_.Go.ChangeSpec) : _root_.Go.OpenSpec := { _root_.Go.OpenSpec.ofChange s with cond := some uptoSmall }

/-- 'laws.FnChooseOf', WHERE WHAT IT READS IS OF BULK AT MOST 1048576: true; the input reads as it did. -/
def fnChooseOfUptoRow : OpenClaim := { program := "ytkebdelfklmigaa", sum := "6e83e1f7241d2d2b08b4fa8ba1de288d13b03acc97592771b801fe4e39c9d687", func := "loop.example/shopsthatmake/laws.FnChooseOf", spec := "fnChooseOf", apart := false, narrowed := true }
def FnChooseOfUptoSaid : Prop := fnChooseOfUptoRow.holds Try.pinned (OpenSpec.upto fnChooseOfSpec)

/-- 'laws.FnExactChooseOf', WHERE WHAT IT READS IS OF BULK AT MOST 1048576: true; the input reads as it did. -/
def fnExactChooseOfUptoRow : OpenClaim := { program := "ytkebdelfklmigaa", sum := "6e83e1f7241d2d2b08b4fa8ba1de288d13b03acc97592771b801fe4e39c9d687", func := "loop.example/shopsthatmake/laws.FnExactChooseOf", spec := "fnExactChooseOf", apart := false, narrowed := true }
def FnExactChooseOfUptoSaid : Prop := fnExactChooseOfUptoRow.holds Try.pinned (OpenSpec.upto fnExactChooseOfSpec)

/-- 'laws.FnPassByDraws', WHERE WHAT IT READS IS OF BULK AT MOST 1048576: true; the input reads as it did. -/
def fnPassByDrawsUptoRow : OpenClaim := { program := "ytkebdelfklmigaa", sum := "6e83e1f7241d2d2b08b4fa8ba1de288d13b03acc97592771b801fe4e39c9d687", func := "loop.example/shopsthatmake/laws.FnPassByDraws", spec := "fnPassByDraws", recurses := true, apart := false, narrowed := true }
def FnPassByDrawsUptoSaid : Prop := fnPassByDrawsUptoRow.holds Try.pinned (OpenSpec.upto fnPassByDrawsSpec)

/-- 'laws.FnExactPassByDraws', WHERE WHAT IT READS IS OF BULK AT MOST 1048576: true; the input reads as it did. -/
def fnExactPassByDrawsUptoRow : OpenClaim := { program := "ytkebdelfklmigaa", sum := "6e83e1f7241d2d2b08b4fa8ba1de288d13b03acc97592771b801fe4e39c9d687", func := "loop.example/shopsthatmake/laws.FnExactPassByDraws", spec := "fnExactPassByDraws", recurses := true, apart := false, narrowed := true }
def FnExactPassByDrawsUptoSaid : Prop := fnExactPassByDrawsUptoRow.holds Try.pinned (OpenSpec.upto fnExactPassByDrawsSpec)

end Rows
end Go.Proofs.Ytkebdelfklmigaa
