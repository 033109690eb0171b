import Derived.Test.YtldncfkkeeinjabRows
import Derived.WalkKit
import Derived.Laws.StructEq
import Derived.Test.YtldncfkkeeinjabLib
import Derived.Test.YtldncfkkeeinjabBits8
namespace Go.Proofs.Ytldncfkkeeinjab
open Go.RowKit

section
variable {P : Program} (w : World)
theorem run_equalIn_bools (d : Nat) (t e : TypeId) (n : Nat) (ht : P.underlying t = some (.array n e)) (he : P.underlying e = some .bool) (hsz : ∀ w, (sizeOf e).run P w = .ok 1 w)
    (xs ys : List Bool) (hx : xs.length = n) (hy : ys.length = n) :
    (Op.equalIn (d + 2) t (.agg (xs.map Value.bool).toArray) (.agg (ys.map Value.bool).toArray)).run P w = .ok ((List.range n).all fun i => xs.getD i false == ys.getD i false) w := by
  rw [List.range_eq_range', Op.equalIn]
  simp only [Sem.run_bind, run_underlying ht, Result.andThen_ok, hsz, Std.Legacy.Range.forIn_eq_forIn_range', Std.Legacy.Range.size, Nat.sub_zero, Nat.add_sub_cancel, Nat.div_one]
  have hl : ∀ i ∈ List.range' 0 n 1, i < n := fun i hi => by simpa using (List.mem_range'_1.1 hi).2
  generalize List.range' 0 n 1 = l at hl ⊢
  induction l with
  | nil => simp
  | cons i l ih =>
    have hi : i < n := hl i (by simp)
    have px : (part e (xs.map Value.bool).toArray (i * 1)).run P w = .ok (.bool (xs.getD i false)) w := by
      simp [part, isAgg, run_underlying he, List.getD, List.getElem?_eq_getElem (show i < xs.length by omega)]
    have py : (part e (ys.map Value.bool).toArray (i * 1)).run P w = .ok (.bool (ys.getD i false)) w := by
      simp [part, isAgg, run_underlying he, List.getD, List.getElem?_eq_getElem (show i < ys.length by omega)]
    have pe : (Op.equalIn (d + 1) e (.bool (xs.getD i false)) (.bool (ys.getD i false))).run P w = .ok (xs.getD i false == ys.getD i false) w := by
      rw [run_equalIn_bool' w d e _ _ he]
    simp only [List.forIn_cons, Sem.run_bind, px, py, pe, Result.andThen_ok, List.all_cons]
    cases hb : (xs.getD i false == ys.getD i false)
    · simp
    · simp only [Bool.not_true, Bool.false_eq_true, if_false, Sem.run_pure, Result.andThen_ok, Bool.true_and]
      exact ih fun j hj => hl j (by simp [hj])
end
def list8 (f : Nat → Bool) : List Bool := [f 0, f 1, f 2, f 3, f 4, f 5, f 6, f 7]
def eq8 (f g : Nat → Bool) : Bool := (List.range 8).all fun i => f i == g i
theorem same8 (f g : Nat → Bool) : ((List.range 8).all fun i => (list8 f).getD i false == (list8 g).getD i false) = eq8 f g := by
  simp [eq8, List.range, List.range.loop, list8]
theorem eq8_true {f g : Nat → Bool} (h : ∀ q, q < 8 → f q = g q) : eq8 f g = true := by
  simp only [eq8, List.all_eq_true, List.mem_range, beq_iff_eq]; exact h
theorem eq8_false {f g : Nat → Bool} {q : Nat} (hq : q < 8) (h : f q ≠ g q) : eq8 f g = false := by
  simp only [eq8, List.all_eq_false, List.mem_range]
  exact ⟨q, hq, by simpa using h⟩
/-- the comparison of two sets -/
theorem run_equal8 (f g : Nat → Bool) (w : World) : (Op.equalIn 10000 44 (agg8 f) (agg8 g)).run Try.prog w = .ok (eq8 f g) w := by
  have := run_equalIn_bools w 9998 44 4 8 Try.underlying44 Try.underlying4 (fun w => by simp [go_sem]) (list8 f) (list8 g) rfl rfl
  rw [same8] at this
  exact this
theorem guard8 : Try.prog.eqGuardType Try.prog.depth 44 = false := by kernel_rfl
end Go.Proofs.Ytldncfkkeeinjab
