/-
  No cell of these rows narrows 'for every input' (looked for: loops, veiled, ifaces, maps, wideKeys, modest, calm, conditions, laid).
  DERIVED. THE GIVEN ROWS OF THIS SEAT. 4 by the template 'for every input the law returns true; each argument reads behind the call as it read before'; 0 by the template 'total and deterministic' (their statements: YtmcongioghkdcacTotals.lean).
  GIVEN WITH THE SEED: the statements are not yours to turn. If you find one false, say at which input.
  Laid BY PROGRAM, IN A SANDBOX (cutbox-rows.mjs): the forced cells as the released guide's own fill.sh prints them over the translation cc0deeb725590343… (all of the seat's roots in one cut). By AI agents, Wed Nov 11 2026. No macro, syntax, notation, axiom, sorry.
-/
import Derived.Test.YtmcongioghkdcacChecked
import GoSem.Claim
import GoSem.ClaimJoined
import GoSem.ClaimMapViews
import Derived.JoinedTies
import Derived.KernelRfl
namespace Go.Proofs.Ytmcongioghkdcac
/- THE CELL 'sum', in the pinned program and in every row, IS THE sha256 OF THE DUMP (.gsa) THAT YtmcongioghkdcacProg.lean LOADS. Nothing in Lean hashes anything: it is a label: what it is worth is what the hold of that sum in a sandbox is worth. -/
noncomputable def Try.pinned : Pinned := { name := "ytmcongioghkdcac", sum := "cc0deeb725590343da465b4d634808bfaaa17d9f37dfc2271e018d086b806ca9", checked := Try.checked }
namespace Rows
def none {H : Type} : Left H := { results := [], args := [] }

/-- 'laws.FnTardyOf': WHATEVER THE INPUT: true; the input reads as it did. -/
def fnTardyOfSpec : ChangeSpec := { name := "fnTardyOf", fn := fun _ => fun
  | [d] => { results := [.lit (.bool true)], args := [d] }
  | _ => none }
def fnTardyOfRow : OpenClaim := { program := "ytmcongioghkdcac", sum := "cc0deeb725590343da465b4d634808bfaaa17d9f37dfc2271e018d086b806ca9", func := "loop.example/shopsthatmake/laws.FnTardyOf", spec := "fnTardyOf", unfollowed := true, recurses := true, apart := false }
def FnTardyOfSaid : Prop := fnTardyOfRow.holds Try.pinned (OpenSpec.ofChange fnTardyOfSpec)

/-- ITS FALSE NEIGHBOUR: 'it returns false'. Refute it at one input. -/
def fnTardyOfWrong : ChangeSpec := { name := "fnTardyOf", fn := fun _ => fun
  | [d] => { results := [.lit (.bool false)], args := [d] }
  | _ => none }
def FnTardyOfWrongFalsely : Prop := fnTardyOfRow.holds Try.pinned (OpenSpec.ofChange fnTardyOfWrong)

/-- 'laws.FnExactTardyOf': WHATEVER THE INPUT: true; the input reads as it did. -/
def fnExactTardyOfSpec : ChangeSpec := { name := "fnExactTardyOf", fn := fun _ => fun
  | [d1, d2] => { results := [.lit (.bool true)], args := [d1, d2] }
  | _ => none }
def fnExactTardyOfRow : OpenClaim := { program := "ytmcongioghkdcac", sum := "cc0deeb725590343da465b4d634808bfaaa17d9f37dfc2271e018d086b806ca9", func := "loop.example/shopsthatmake/laws.FnExactTardyOf", spec := "fnExactTardyOf", unfollowed := true, recurses := true, apart := false }
def FnExactTardyOfSaid : Prop := fnExactTardyOfRow.holds Try.pinned (OpenSpec.ofChange fnExactTardyOfSpec)

/-- ITS FALSE NEIGHBOUR: 'it returns false'. Refute it at one input. -/
def fnExactTardyOfWrong : ChangeSpec := { name := "fnExactTardyOf", fn := fun _ => fun
  | [d1, d2] => { results := [.lit (.bool false)], args := [d1, d2] }
  | _ => none }
def FnExactTardyOfWrongFalsely : Prop := fnExactTardyOfRow.holds Try.pinned (OpenSpec.ofChange fnExactTardyOfWrong)

/-- 'laws.FnLeastTardy': WHATEVER THE INPUT: true; the input reads as it did. -/
def fnLeastTardySpec : ChangeSpec := { name := "fnLeastTardy", fn := fun _ => fun
  | [d] => { results := [.lit (.bool true)], args := [d] }
  | _ => none }
def fnLeastTardyRow : OpenClaim := { program := "ytmcongioghkdcac", sum := "cc0deeb725590343da465b4d634808bfaaa17d9f37dfc2271e018d086b806ca9", func := "loop.example/shopsthatmake/laws.FnLeastTardy", spec := "fnLeastTardy", unfollowed := true, recurses := true, apart := false }
def FnLeastTardySaid : Prop := fnLeastTardyRow.holds Try.pinned (OpenSpec.ofChange fnLeastTardySpec)

/-- ITS FALSE NEIGHBOUR: 'it returns false'. Refute it at one input. -/
def fnLeastTardyWrong : ChangeSpec := { name := "fnLeastTardy", fn := fun _ => fun
  | [d] => { results := [.lit (.bool false)], args := [d] }
  | _ => none }
def FnLeastTardyWrongFalsely : Prop := fnLeastTardyRow.holds Try.pinned (OpenSpec.ofChange fnLeastTardyWrong)

/-- 'laws.FnExactLeastTardy': WHATEVER THE INPUT: true; the input reads as it did. -/
def fnExactLeastTardySpec : ChangeSpec := { name := "fnExactLeastTardy", fn := fun _ => fun
  | [d] => { results := [.lit (.bool true)], args := [d] }
  | _ => none }
def fnExactLeastTardyRow : OpenClaim := { program := "ytmcongioghkdcac", sum := "cc0deeb725590343da465b4d634808bfaaa17d9f37dfc2271e018d086b806ca9", func := "loop.example/shopsthatmake/laws.FnExactLeastTardy", spec := "fnExactLeastTardy", apart := false }
def FnExactLeastTardySaid : Prop := fnExactLeastTardyRow.holds Try.pinned (OpenSpec.ofChange fnExactLeastTardySpec)

/-- ITS FALSE NEIGHBOUR: 'it returns false'. Refute it at one input. -/
def fnExactLeastTardyWrong : ChangeSpec := { name := "fnExactLeastTardy", fn := fun _ => fun
  | [d] => { results := [.lit (.bool false)], args := [d] }
  | _ => none }
def FnExactLeastTardyWrongFalsely : Prop := fnExactLeastTardyRow.holds Try.pinned (OpenSpec.ofChange fnExactLeastTardyWrong)

/- THE SECOND FORM. 'bulk': how many values and letters a reading holds, each counted each time it is reached (what is shared counts as often as it is met; a slice's spare places count too). A statement '..UptoSaid' is the law's where the arguments, and the package variables that the reading takes, are together of bulk at most 1048576: NARROWER than '..Said'. Prove '..Said' where nothing that the law and all that it calls make is longer than what came in: it says more and counts as full. Else prove '..UptoSaid'. A law counts once. -/
mutual
def uptoBulk {H : Type} : DataW H → Nat
  | .lit (.string bytes) => bytes.length + 1
  | .lit _ => 1
  | .nil => 1
  | .ptr d => uptoBulk d + 1
  | .slice elems spare => uptoBulkAll elems + uptoBulkAll spare + 1
  | .agg parts => uptoBulkAll parts + 1
  | .iface _ d => uptoBulk d + 1
  | .map entries => uptoBulkEntries entries + 1
  | .held _ => 1
def uptoBulkAll {H : Type} : List (DataW H) → Nat
  | [] => 0
  | d :: r => uptoBulk d + uptoBulkAll r
def uptoBulkEntries {H : Type} : List (Lit × DataW H) → Nat
  | [] => 0
  | x :: r => uptoBulkEntry x + uptoBulkEntries r
def uptoBulkEntry {H : Type} : Lit × DataW H → Nat
  | (.string bytes, d) => bytes.length + uptoBulk d + 1
  | (_, d) => uptoBulk d + 1
 end
def uptoSmall : (H : Type) → List (DataW H) → Bool := fun _ ds => decide (uptoBulkAll ds ≤ 1048576)
def OpenSpec.upto (s : _root_.Go.ChangeSpec) : _root_.Go.OpenSpec := { _root_.Go.OpenSpec.ofChange s with cond := some uptoSmall }

/-- 'laws.FnTardyOf', WHERE WHAT IT READS IS OF BULK AT MOST 1048576: true; the input reads as it did. -/
def fnTardyOfUptoRow : OpenClaim := { program := "ytmcongioghkdcac", sum := "cc0deeb725590343da465b4d634808bfaaa17d9f37dfc2271e018d086b806ca9", func := "loop.example/shopsthatmake/laws.FnTardyOf", spec := "fnTardyOf", unfollowed := true, recurses := true, apart := false, narrowed := true }
def FnTardyOfUptoSaid : Prop := fnTardyOfUptoRow.holds Try.pinned (OpenSpec.upto fnTardyOfSpec)

/-- 'laws.FnExactTardyOf', WHERE WHAT IT READS IS OF BULK AT MOST 1048576: true; the input reads as it did. -/
def fnExactTardyOfUptoRow : OpenClaim := { program := "ytmcongioghkdcac", sum := "cc0deeb725590343da465b4d634808bfaaa17d9f37dfc2271e018d086b806ca9", func := "loop.example/shopsthatmake/laws.FnExactTardyOf", spec := "fnExactTardyOf", unfollowed := true, recurses := true, apart := false, narrowed := true }
def FnExactTardyOfUptoSaid : Prop := fnExactTardyOfUptoRow.holds Try.pinned (OpenSpec.upto fnExactTardyOfSpec)

/-- 'laws.FnLeastTardy', WHERE WHAT IT READS IS OF BULK AT MOST 1048576: true; the input reads as it did. -/
def fnLeastTardyUptoRow : OpenClaim := { program := "ytmcongioghkdcac", sum := "cc0deeb725590343da465b4d634808bfaaa17d9f37dfc2271e018d086b806ca9", func := "loop.example/shopsthatmake/laws.FnLeastTardy", spec := "fnLeastTardy", unfollowed := true, recurses := true, apart := false, narrowed := true }
def FnLeastTardyUptoSaid : Prop := fnLeastTardyUptoRow.holds Try.pinned (OpenSpec.upto fnLeastTardySpec)

/-- 'laws.FnExactLeastTardy', WHERE WHAT IT READS IS OF BULK AT MOST 1048576: true; the input reads as it did. -/
def fnExactLeastTardyUptoRow : OpenClaim := { program := "ytmcongioghkdcac", sum := "cc0deeb725590343da465b4d634808bfaaa17d9f37dfc2271e018d086b806ca9", func := "loop.example/shopsthatmake/laws.FnExactLeastTardy", spec := "fnExactLeastTardy", apart := false, narrowed := true }
def FnExactLeastTardyUptoSaid : Prop := fnExactLeastTardyUptoRow.holds Try.pinned (OpenSpec.upto fnExactLeastTardySpec)

end Rows
end Go.Proofs.Ytmcongioghkdcac
