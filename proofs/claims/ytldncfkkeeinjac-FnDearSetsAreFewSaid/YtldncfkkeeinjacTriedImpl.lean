import Derived.Test.YtldncfkkeeinjacRows
import Derived.WalkKit
import Derived.LoopTactic
import Derived.Outline
import Derived.WalkSpells
import Derived.WalkLawsBesides
import Derived.ProofKit
import Derived.Lib.Hide
import Derived.IntWalk
import Derived.Test.YtldncfkkeeinjacLib
import Derived.Test.YtldncfkkeeinjacGen
import Derived.Test.YtldncfkkeeinjacMark
import Derived.Test.YtldncfkkeeinjacArr
import Derived.Test.YtldncfkkeeinjacOwn1
import Derived.Test.YtldncfkkeeinjacUp
import Derived.Test.YtldncfkkeeinjacLaws
import Derived.Test.YtldncfkkeeinjacNetM
import Derived.Test.YtldncfkkeeinjacVal2
import Derived.Test.YtldncfkkeeinjacEx
import Derived.Test.YtldncfkkeeinjacPlanM
import Derived.Test.YtldncfkkeeinjacBlockM
import Derived.Test.YtldncfkkeeinjacTriedM
import Derived.Test.YtldncfkkeeinjacLotSpec
import Derived.Test.YtldncfkkeeinjacBestSpec
import Derived.Test.YtldncfkkeeinjacLotA
import Derived.Test.YtldncfkkeeinjacLotLawM
import Derived.Test.YtldncfkkeeinjacBits8
import Derived.Test.YtldncfkkeeinjacOnM
import Derived.Test.YtldncfkkeeinjacEq8
namespace Go.Proofs.Ytldncfkkeeinjac
open Go.RowKit Go.WideShapes

theorem Try.infoIntTI : (Try.prog.info? 3).map (fun i => (i.zero, i.size, i.bytes)) = some (some (.int .i64 0), 1, 8) := by kernel_rfl
theorem ints_below {w0 w w' : World} {a : Option Addr} {len : Nat} {xs : List Int} (h : IntsAt w0 (· < w0.heap.size) a len xs) (hb : Below w0.heap.size w0 w') : IntsAt w' (· < w0.heap.size) a len xs := h.below hb
/-- the bits of a set's number -/
def sb (m q : Nat) : Bool := m.testBit q
theorem numOf_self : ∀ k m, numOf (sb m) k = m % 2 ^ k := by
  intro k m
  have e0 : sb m = m.testBit := rfl
  rw [e0]
  apply Nat.eq_of_testBit_eq
  intro q
  rw [Nat.testBit_mod_two_pow]
  by_cases h : q < k
  · rw [numOf_bit _ _ _ h, decide_eq_true h]; rfl
  · rw [decide_eq_false h, low_bits (numOf_lt _ k) (by omega)]; rfl
/-- a set's number -/
def rdOn (v : Value) (w : World) : Nat := match v with | .pointer (some a) => numOf (fun q => match w.cell? ⟨a.block, q, none⟩ with | some (.bool b) => b | _ => false) 8 | _ => 0
theorem numOf_congr {f g : Nat → Bool} : ∀ k, (∀ q, q < k → f q = g q) → numOf f k = numOf g k := by
  intro k
  induction k with
  | zero => intro _; rfl
  | succ k ih => intro h; rw [numOf, numOf, ih (fun q hq => h q (by omega)), h k (by omega)]
theorem rdOn_is {w : World} {b m : Nat} (h : ArrB w b (sb m)) (hm : m < 256) : rdOn (.pointer (some ⟨b, 0, none⟩)) w = m := by
  have e : rdOn (.pointer (some ⟨b, 0, none⟩)) w = numOf (fun q => match w.cell? ⟨b, q, none⟩ with | some (.bool b) => b | _ => false) 8 := rfl
  rw [e, numOf_congr (g := (sb m)) 8 (fun q hq => by rw [(h q hq).1]), numOf_self, Nat.mod_eq_of_lt (by simpa using hm)]
/-- no set that came is cheaper -/
def TriedTo (xs : List Int) (s h : Int) (c : Nat) (L : Int) : Prop := leastRes xs s h ≤ L ∧ L ≤ lotCostM xs xs s h ∧ ∀ m, 1 ≤ m → m < c → lotFine (onM (sb m) xs) xs s h = true → L ≤ lotCostM (onM (sb m) xs) xs s h
theorem tried_end {xs : List Int} {s h L : Int} (hv : validLotsM xs s h = true) (ht : TriedTo xs s h (2 ^ xs.length) L) : L = leastRes xs s h := by
  obtain ⟨h1, h2, h3⟩ := ht
  have hn := nxB_nexts xs s h
  by_cases h0 : xs.length = 0
  · have e1 : leastRes xs s h = 0 := by rw [leastRes_yes hv]; have := bst_end xs s h; rw [h0] at this; exact this
    have e2 : lotCostM xs xs s h = 0 := by rw [lotCost_yes (fine_each hv), h0]; rfl
    omega
  · have e := onM_made (on := sb (numOf (fun q => decide (owner (nxB xs s h) q = q)) xs.length)) hn (fun q hq => numOf_bit _ _ _ hq)
    have hm1 : 1 ≤ numOf (fun q => decide (owner (nxB xs s h) q = q)) xs.length := by
      rcases Nat.eq_zero_or_pos (numOf (fun q => decide (owner (nxB xs s h) q = q)) xs.length) with h' | h'
      · have := numOf_bit (fun q => decide (owner (nxB xs s h) q = q)) xs.length 0 (by omega)
        rw [h', Nat.zero_testBit] at this
        simp [owner] at this
      · exact h'
    have := h3 _ hm1 (numOf_lt _ _) (by rw [e]; exact fine_made hv hn)
    rw [e] at this
    have hb := best_cost hv
    unfold bestLotsM at hb
    omega
theorem tried_next {xs : List Int} {s h L : Int} {c : Nat} (hc : 1 ≤ c) (ht : TriedTo xs s h c L) {L' : Int}
    (hL : (lotFine (onM (sb c) xs) xs s h = true ∧ L' = min L (lotCostM (onM (sb c) xs) xs s h)) ∨ (lotFine (onM (sb c) xs) xs s h = false ∧ L' = L)) : TriedTo xs s h (c + 1) L' := by
  obtain ⟨h1, h2, h3⟩ := ht
  rcases hL with ⟨hf, rfl⟩ | ⟨hf, rfl⟩
  · have := fine_least hf
    refine ⟨by omega, by omega, fun m hm1 hm2 hmf => ?_⟩
    by_cases e : m = c
    · subst e; omega
    · have := h3 m hm1 (by omega) hmf; omega
  · refine ⟨h1, h2, fun m hm1 hm2 hmf => ?_⟩
    by_cases e : m = c
    · subst e; rw [hf] at hmf; cases hmf
    · exact h3 m hm1 (by omega) hmf
end Go.Proofs.Ytldncfkkeeinjac
