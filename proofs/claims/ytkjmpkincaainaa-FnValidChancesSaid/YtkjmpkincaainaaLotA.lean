import Derived.Test.YtkjmpkincaainaaRows
import Derived.WalkKit
import Derived.LoopTactic
import Derived.Outline
import Derived.WalkSpells
import Derived.WalkLawsBesides
import Derived.ProofKit
import Derived.Lib.Hide
import Derived.IntWalk
import Derived.Test.YtkjmpkincaainaaLib
import Derived.Test.YtkjmpkincaainaaGen
import Derived.Test.YtkjmpkincaainaaMark
import Derived.Test.YtkjmpkincaainaaArr
import Derived.Test.YtkjmpkincaainaaOwn1
import Derived.Test.YtkjmpkincaainaaUp
import Derived.Test.YtkjmpkincaainaaLaws
import Derived.Test.YtkjmpkincaainaaNetM
import Derived.Test.YtkjmpkincaainaaVal2
import Derived.Test.YtkjmpkincaainaaEx
import Derived.Test.YtkjmpkincaainaaLots
import Derived.Test.YtkjmpkincaainaaStocks
import Derived.Test.YtkjmpkincaainaaPlanM
import Derived.Test.YtkjmpkincaainaaLotSpec
namespace Go.Proofs.Ytkjmpkincaainaa
open Go.RowKit Go.WideShapes

/-- what it costs to set for so many -/
def setM (n s : Int) : Int := if n = 0 then 0 else s
theorem areCosts_any (s h : Int) (w : World) :
    Calls Try.prog 23 #[.int .i64 s, .int .i64 h] w fun e w' => e = .returned (.bool (inB 0 30 s && inB 0 30 h)) ∧ w = w' := by
  cases hs : inB 0 30 s
  · go_enter Try.func23, Try.ntmps23
    go_wp2_with (go_at_call 22; refine (isUpTo_any _ _ _).mono ?_; rintro e w' ⟨rfl, rfl⟩)
    go_ret
    exact ⟨rfl, rfl⟩
  · go_enter Try.func23, Try.ntmps23
    go_wp2_with (go_at_call 22; refine (isUpTo_any _ _ _).mono ?_; rintro e w' ⟨rfl, rfl⟩)
    go_ret
    exact ⟨rfl, rfl⟩
theorem setM_pos {n s : Int} (h : 0 ≤ n) : setM n s = if 0 < n then s else 0 := by
  unfold setM
  by_cases e : n = 0
  · subst e; rfl
  · rw [if_neg e, if_pos (by omega)]
theorem runD_part {xs : List Int} {s h : Int} {i d : Nat} (hd : i + d ≤ xs.length) : runD ((xs.drop i).take d) s h 0 d = runD xs s h i d := by
  have e1 : ∀ q, q ≤ d → hsum ((xs.drop i).take d) 0 q = hsum xs i q := by
    intro q
    induction q with
    | zero => intro _; rfl
    | succ q ih =>
      intro hq
      rw [hsum, hsum, ih (by omega)]
      congr 2
      rw [List.getD_eq_getElem?_getD, List.getD_eq_getElem?_getD, List.getElem?_take, if_pos (by omega), List.getElem?_drop]
      congr 2; omega
  have e2 := totalM_part xs i d hd
  rw [totalM_eq] at e2
  have e3 : ((xs.drop i).take d).length = d := by simp; omega
  rw [e3] at e2
  unfold runD
  rw [e1 d (Nat.le_refl _), Nat.zero_add, e2]
  simp [sumN]
theorem plan_parts (ms xs : List Int) (s h : Int) : ∀ n, planTo ms xs s h n = h * sumN (tab (fun q => stockTo ms xs 0 (q + 1)) n) n + sumN (tab (fun q => if 0 < ms.getD q 0 then s else 0) n) n := by
  intro n
  induction n with
  | zero => simp [planTo, sumN]
  | succ n ih =>
    rw [planTo, ih, sumN, sumN, tab_getD _ (by omega), tab_getD _ (by omega), sumN_tab _ (n + 1) n (by omega), sumN_tab _ (n + 1) n (by omega), Int.mul_add, dayC, stockTo_closed, show (0 : Int) + sumN ms (n + 1) - sumN xs (n + 1) = sumN ms (n + 1) - sumN xs (n + 1) by omega]
    omega
def setTo (ms : List Int) (s : Int) (k : Nat) : Int := sumN (tab (fun q => if 0 < ms.getD q 0 then s else 0) k) k
theorem setTo_succ (ms : List Int) (s : Int) (k : Nat) : setTo ms s (k + 1) = setTo ms s k + (if 0 < ms.getD k 0 then s else 0) := by
  unfold setTo; rw [sumN, tab_getD _ (by omega), sumN_tab _ (k + 1) k (by omega)]
theorem setTo_bd {ms : List Int} {s : Int} (hs : 0 ≤ s ∧ s ≤ 30) : ∀ k, 0 ≤ setTo ms s k ∧ setTo ms s k ≤ 30 * (k : Int) := by
  intro k
  induction k with
  | zero => exact ⟨Int.le_refl _, Int.le_refl _⟩
  | succ k ih => rw [setTo_succ]; split <;> push_cast <;> omega
end Go.Proofs.Ytkjmpkincaainaa
