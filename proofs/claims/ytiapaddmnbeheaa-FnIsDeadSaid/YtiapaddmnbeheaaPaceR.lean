import Derived.Test.YtiapaddmnbeheaaRows
import Derived.WalkKit
import Derived.ProofKit
import Derived.Test.YtiapaddmnbeheaaLib
import Derived.Test.YtiapaddmnbeheaaNetAt
import Derived.Test.YtiapaddmnbeheaaTokD
import Derived.Test.YtiapaddmnbeheaaTokF
namespace Go.Proofs.Ytiapaddmnbeheaa
open Go.RowKit
/-- the pace of a net that is alive, else nothing -/
def PaceRes (ts : List Int) (rows : List (List Int)) (U D : Nat) (b : Bool) : Prop := (aliveB ts rows = true ∧ b = true ∧ IsPace (grOf ts rows) U D) ∨ (aliveB ts rows = false ∧ b = false ∧ U = 0 ∧ D = 0)
theorem paceRes_unique {ts : List Int} {rows : List (List Int)} {U D U' D' : Nat} {b b' : Bool} (h : PaceRes ts rows U D b) (h' : PaceRes ts rows U' D' b') : U = U' ∧ D = D' ∧ b = b' := by
  rcases h with ⟨a, rfl, p⟩ | ⟨a, rfl, rfl, rfl⟩ <;> rcases h' with ⟨a', rfl, p'⟩ | ⟨a', rfl, rfl, rfl⟩
  · obtain ⟨e1, e2⟩ := pace_unique p p'; exact ⟨e1, e2, rfl⟩
  · rw [a] at a'; cases a'
  · rw [a] at a'; cases a'
  · exact ⟨rfl, rfl, rfl⟩
def PacePostR (w : World) (ts : List Int) (rows : List (List Int)) (e : Ending) (w' : World) : Prop := ∃ (U D : Nat) (b : Bool), e = .returned (.tuple #[.agg #[.int .i64 U, .int .i64 D], .bool b]) ∧ PaceRes ts rows U D b ∧ Below w.heap.size w w'
end Go.Proofs.Ytiapaddmnbeheaa
