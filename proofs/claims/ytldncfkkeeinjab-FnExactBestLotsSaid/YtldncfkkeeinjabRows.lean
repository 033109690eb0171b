/-
  No cell of these rows narrows 'for every input' (looked for: loops, veiled, ifaces, maps, wideKeys, modest, calm, conditions, laid).
  DERIVED. THE GIVEN ROWS OF THIS SEAT. 4 by the template 'for every input the law returns true; each argument reads behind the call as it read before'; 0 by the template 'total and deterministic' (their statements: YtldncfkkeeinjabTotals.lean).
  GIVEN WITH THE SEED: the statements are not yours to turn. If you find one false, say at which input.
  Laid BY PROGRAM, IN A SANDBOX (cutbox-rows.mjs): the forced cells as the released guide's own fill.sh prints them over the translation 3284f0c0cce3042a… (all of the seat's roots in one cut). By AI agents, Wed Nov 11 2026. No macro, syntax, notation, axiom, sorry.
-/
import Derived.Test.YtldncfkkeeinjabChecked
import GoSem.Claim
import GoSem.ClaimJoined
import GoSem.ClaimMapViews
import Derived.JoinedTies
import Derived.KernelRfl
namespace Go.Proofs.Ytldncfkkeeinjab
/- THE CELL 'sum', in the pinned program and in every row, IS THE sha256 OF THE DUMP (.gsa) THAT YtldncfkkeeinjabProg.lean LOADS. Nothing in Lean hashes anything: it is a label: what it is worth is what the hold of that sum in a sandbox is worth. -/
noncomputable def Try.pinned : Pinned := { name := "ytldncfkkeeinjab", sum := "3284f0c0cce3042a6a113e5b29ef330cfd09f6af7edc961a56c57fb3244ac62f", checked := Try.checked }
namespace Rows
def none {H : Type} : Left H := { results := [], args := [] }

/-- 'laws.FnLotsTried': WHATEVER THE INPUT: true; the input reads as it did. -/
def fnLotsTriedSpec : ChangeSpec := { name := "fnLotsTried", fn := fun _ => fun
  | [d] => { results := [.lit (.bool true)], args := [d] }
  | _ => none }
def fnLotsTriedRow : OpenClaim := { program := "ytldncfkkeeinjab", sum := "3284f0c0cce3042a6a113e5b29ef330cfd09f6af7edc961a56c57fb3244ac62f", func := "loop.example/shopsthatmake/laws.FnLotsTried", spec := "fnLotsTried", apart := false }
def FnLotsTriedSaid : Prop := fnLotsTriedRow.holds Try.pinned (OpenSpec.ofChange fnLotsTriedSpec)

/-- ITS FALSE NEIGHBOUR: 'it returns false'. Refute it at one input. -/
def fnLotsTriedWrong : ChangeSpec := { name := "fnLotsTried", fn := fun _ => fun
  | [d] => { results := [.lit (.bool false)], args := [d] }
  | _ => none }
def FnLotsTriedWrongFalsely : Prop := fnLotsTriedRow.holds Try.pinned (OpenSpec.ofChange fnLotsTriedWrong)

/-- 'laws.FnExactLotsTried': WHATEVER THE INPUT: true; the input reads as it did. -/
def fnExactLotsTriedSpec : ChangeSpec := { name := "fnExactLotsTried", fn := fun _ => fun
  | [d1, d2, d3] => { results := [.lit (.bool true)], args := [d1, d2, d3] }
  | _ => none }
def fnExactLotsTriedRow : OpenClaim := { program := "ytldncfkkeeinjab", sum := "3284f0c0cce3042a6a113e5b29ef330cfd09f6af7edc961a56c57fb3244ac62f", func := "loop.example/shopsthatmake/laws.FnExactLotsTried", spec := "fnExactLotsTried", apart := false }
def FnExactLotsTriedSaid : Prop := fnExactLotsTriedRow.holds Try.pinned (OpenSpec.ofChange fnExactLotsTriedSpec)

/-- ITS FALSE NEIGHBOUR: 'it returns false'. Refute it at one input. -/
def fnExactLotsTriedWrong : ChangeSpec := { name := "fnExactLotsTried", fn := fun _ => fun
  | [d1, d2, d3] => { results := [.lit (.bool false)], args := [d1, d2, d3] }
  | _ => none }
def FnExactLotsTriedWrongFalsely : Prop := fnExactLotsTriedRow.holds Try.pinned (OpenSpec.ofChange fnExactLotsTriedWrong)

/-- 'laws.FnBestLots': WHATEVER THE INPUT: true; the input reads as it did. -/
def fnBestLotsSpec : ChangeSpec := { name := "fnBestLots", fn := fun _ => fun
  | [d] => { results := [.lit (.bool true)], args := [d] }
  | _ => none }
def fnBestLotsRow : OpenClaim := { program := "ytldncfkkeeinjab", sum := "3284f0c0cce3042a6a113e5b29ef330cfd09f6af7edc961a56c57fb3244ac62f", func := "loop.example/shopsthatmake/laws.FnBestLots", spec := "fnBestLots", unfollowed := true, recurses := true, apart := false }
def FnBestLotsSaid : Prop := fnBestLotsRow.holds Try.pinned (OpenSpec.ofChange fnBestLotsSpec)

/-- ITS FALSE NEIGHBOUR: 'it returns false'. Refute it at one input. -/
def fnBestLotsWrong : ChangeSpec := { name := "fnBestLots", fn := fun _ => fun
  | [d] => { results := [.lit (.bool false)], args := [d] }
  | _ => none }
def FnBestLotsWrongFalsely : Prop := fnBestLotsRow.holds Try.pinned (OpenSpec.ofChange fnBestLotsWrong)

/-- 'laws.FnExactBestLots': WHATEVER THE INPUT: true; the input reads as it did. -/
def fnExactBestLotsSpec : ChangeSpec := { name := "fnExactBestLots", fn := fun _ => fun
  | [d1, d2, d3] => { results := [.lit (.bool true)], args := [d1, d2, d3] }
  | _ => none }
def fnExactBestLotsRow : OpenClaim := { program := "ytldncfkkeeinjab", sum := "3284f0c0cce3042a6a113e5b29ef330cfd09f6af7edc961a56c57fb3244ac62f", func := "loop.example/shopsthatmake/laws.FnExactBestLots", spec := "fnExactBestLots", unfollowed := true, recurses := true, apart := false }
def FnExactBestLotsSaid : Prop := fnExactBestLotsRow.holds Try.pinned (OpenSpec.ofChange fnExactBestLotsSpec)

/-- ITS FALSE NEIGHBOUR: 'it returns false'. Refute it at one input. -/
def fnExactBestLotsWrong : ChangeSpec := { name := "fnExactBestLots", fn := fun _ => fun
  | [d1, d2, d3] => { results := [.lit (.bool false)], args := [d1, d2, d3] }
  | _ => none }
def FnExactBestLotsWrongFalsely : Prop := fnExactBestLotsRow.holds Try.pinned (OpenSpec.ofChange fnExactBestLotsWrong)

/- THE SECOND FORM. 'bulk': how many values and letters a reading holds, each counted each time it is reached (what is shared counts as often as it is met; a slice's spare places count too). A statement '..UptoSaid' is the law's where the arguments, and the package variables that the reading takes, are together of bulk at most 1048576: NARROWER than '..Said'. Prove '..Said' where nothing that the law and all that it calls make is longer than what came in: it says more and counts as full. Else prove '..UptoSaid'. A law counts once. -/
mutual
def uptoBulk {H : Type} : DataW H → Nat
  | .lit (.string bytes) => bytes.length + 1
  | .lit _ => 1
  | .nil => 1
  | .ptr d => uptoBulk d + 1
  | .slice elems spare => uptoBulkAll elems + uptoBulkAll spare + 1
  | .agg parts => uptoBulkAll parts + 1
  | .iface _ d => uptoBulk d + 1
  | .map entries => uptoBulkEntries entries + 1
  | .held _ => 1
def uptoBulkAll {H : Type} : List (DataW H) → Nat
  | [] => 0
  | d :: r => uptoBulk d + uptoBulkAll r
def uptoBulkEntries {H : Type} : List (Lit × DataW H) → Nat
  | [] => 0
  | x :: r => uptoBulkEntry x + uptoBulkEntries r
def uptoBulkEntry {H : Type} : Lit × DataW H → Nat
  | (.string bytes, d) => bytes.length + uptoBulk d + 1
  | (_, d) => uptoBulk d + 1
 end
def uptoSmall : (H : Type) → List (DataW H) → Bool := fun _ ds => decide (uptoBulkAll ds ≤ 1048576)
def OpenSpec.upto (s : _root_.Go.ChangeSpec) : _root_.Go.OpenSpec := { _root_.Go.OpenSpec.ofChange s with cond := some uptoSmall }

/-- 'laws.FnLotsTried', WHERE WHAT IT READS IS OF BULK AT MOST 1048576: true; the input reads as it did. -/
def fnLotsTriedUptoRow : OpenClaim := { program := "ytldncfkkeeinjab", sum := "3284f0c0cce3042a6a113e5b29ef330cfd09f6af7edc961a56c57fb3244ac62f", func := "loop.example/shopsthatmake/laws.FnLotsTried", spec := "fnLotsTried", apart := false, narrowed := true }
def FnLotsTriedUptoSaid : Prop := fnLotsTriedUptoRow.holds Try.pinned (OpenSpec.upto fnLotsTriedSpec)

/-- 'laws.FnExactLotsTried', WHERE WHAT IT READS IS OF BULK AT MOST 1048576: true; the input reads as it did. -/
def fnExactLotsTriedUptoRow : OpenClaim := { program := "ytldncfkkeeinjab", sum := "3284f0c0cce3042a6a113e5b29ef330cfd09f6af7edc961a56c57fb3244ac62f", func := "loop.example/shopsthatmake/laws.FnExactLotsTried", spec := "fnExactLotsTried", apart := false, narrowed := true }
def FnExactLotsTriedUptoSaid : Prop := fnExactLotsTriedUptoRow.holds Try.pinned (OpenSpec.upto fnExactLotsTriedSpec)

/-- 'laws.FnBestLots', WHERE WHAT IT READS IS OF BULK AT MOST 1048576: true; the input reads as it did. -/
def fnBestLotsUptoRow : OpenClaim := { program := "ytldncfkkeeinjab", sum := "3284f0c0cce3042a6a113e5b29ef330cfd09f6af7edc961a56c57fb3244ac62f", func := "loop.example/shopsthatmake/laws.FnBestLots", spec := "fnBestLots", unfollowed := true, recurses := true, apart := false, narrowed := true }
def FnBestLotsUptoSaid : Prop := fnBestLotsUptoRow.holds Try.pinned (OpenSpec.upto fnBestLotsSpec)

/-- 'laws.FnExactBestLots', WHERE WHAT IT READS IS OF BULK AT MOST 1048576: true; the input reads as it did. -/
def fnExactBestLotsUptoRow : OpenClaim := { program := "ytldncfkkeeinjab", sum := "3284f0c0cce3042a6a113e5b29ef330cfd09f6af7edc961a56c57fb3244ac62f", func := "loop.example/shopsthatmake/laws.FnExactBestLots", spec := "fnExactBestLots", unfollowed := true, recurses := true, apart := false, narrowed := true }
def FnExactBestLotsUptoSaid : Prop := fnExactBestLotsUptoRow.holds Try.pinned (OpenSpec.upto fnExactBestLotsSpec)

end Rows
end Go.Proofs.Ytldncfkkeeinjab
