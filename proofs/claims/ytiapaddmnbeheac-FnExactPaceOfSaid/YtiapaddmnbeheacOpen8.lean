import Derived.ProofKit
import Derived.Deep.Matrix
import Derived.Deep.Slices
import Derived.Lib.SmallJoins
import Derived.Test.YtiapaddmnbeheacLib
import Derived.Test.YtiapaddmnbeheacOpen
import Derived.Test.YtiapaddmnbeheacNetAt
namespace Go.Proofs.Ytiapaddmnbeheac
open Go.RowKit Go.ChangeShapes Go.WideShapes Go.Deep

section
variable {H : Type} {enc : TypeId × Value → H} {P : Program} {W : World}
theorem open_rows_cs8 {t e q : TypeId} {fuel : Nat} {cs : List Value} {x : DataW H × List MemPlace} (ht : P.underlying t = some (.slice e)) (he : P.underlying e = some (.slice q)) (hq : P.underlying q = some (.int .i64))
    (ce : P.cellsOf e = 1) (cq : P.cellsOf q = 1) (h : DataW.trod enc P W 0 (fun _ => true) true fuel t cs = some x) : ∃ a len cap rows, cs = [.slice a len cap] ∧ len ≤ cap ∧ RowsAt W (· < W.heap.size) a len rows := by
  rcases open_int_rows ht he hq ce cq h with ⟨hcs, _⟩ | ⟨a, len', cap', A, L, C, Z, hcs, _, hl, hmx, _, hx⟩
  · exact ⟨none, 0, 0, [], hcs, Nat.le_refl _, rfl, Nat.zero_le _, fun h => absurd h (by omega)⟩
  · exact ⟨some a, len', cap', _, hcs, hl, rowsAt_of hl hmx hx⟩
theorem open_ints_cs8 {t e : TypeId} {fuel : Nat} {cs : List Value} {x : DataW H × List MemPlace} (ht : P.underlying t = some (.slice e)) (he : P.underlying e = some (.int .i64))
    (ce : P.cellsOf e = 1) (h : DataW.trod enc P W 0 (fun _ => true) true fuel t cs = some x) : ∃ a len cap xs, cs = [.slice a len cap] ∧ len ≤ cap ∧ IntsAt W (· < W.heap.size) a len xs := by
  rcases open_ints ht he ce h with ⟨hcs, _⟩ | ⟨a, len', cap', zs, hcs, _, hl, hmx, hz, _, hcell, _⟩
  · exact ⟨none, 0, 0, [], hcs, Nat.le_refl _, rfl, Nat.zero_le _, fun h => absurd h (by omega)⟩
  · simp only [if_true] at hz
    exact ⟨some a, len', cap', _, hcs, hl, intsAt_of hl hmx hz (fun h => by cases h) (fun a' ha c hc => by cases ha; exact hcell c (by omega))⟩
theorem open_net_arg {r : Reach} {b0 : Nat} {t e q : TypeId} {f0 f1 : Field} {v : Value} {d : DataW H} {p : List MemPlace} (hs : P.underlying t = some (.struct #[f0, f1])) (hone : oneCellFields P #[f0, f1] = true) (hC : P.cellsOf t = 2)
    (t0 : P.underlying f0.type = some (.slice q)) (t1 : P.underlying f1.type = some (.slice e)) (te : P.underlying e = some (.slice q)) (tq : P.underlying q = some (.int .i64)) (ce : P.cellsOf e = 1) (cq : P.cellsOf q = 1)
    (hv : Value.okWide P W r b0 t v) (h : DataW.Trod enc P W 0 (fun _ => true) true t v d p) : ∃ (d : NV) (ts : List Int) (rows : List (List Int)), v = .agg #[.slice d.aT d.lT d.cT, .slice d.aW d.lW d.cW] ∧ NetAt W (· < W.heap.size) d ts rows := by
  obtain ⟨v0, v1, y0, y1, n, rfl, _, _, h0, h1⟩ := Go.Joins.open_agg2 hs hone hC hv h
  obtain ⟨aT, lT, cT, ts, e0, hc0, i0⟩ := open_ints_cs8 t0 tq cq h0
  obtain ⟨aW, lW, cW, rows, e1, hc1, i1⟩ := open_rows_cs8 t1 te tq ce cq h1
  simp only [List.cons.injEq, and_true] at e0 e1
  subst e0
  subst e1
  exact ⟨⟨aT, lT, cT, aW, lW, cW⟩, ts, rows, rfl, i0, i1, hc0, hc1⟩
end
end Go.Proofs.Ytiapaddmnbeheac
