import Derived.Test.YtldncfkkeeinjabLib
import Derived.Below
import Derived.Deep.Draws
import Derived.Laws.Bits64
namespace Go.Proofs.Ytldncfkkeeinjab
open Go.RowKit

/-- the byte slice (a, n) can be read; its bytes lie below block B -/
def BytesAt (w : World) (B : Nat) (a : Option Addr) (n : Nat) : Prop :=
  0 < n → ∃ b off, a = some ⟨b, off, none⟩ ∧ b < B ∧ ∀ i, i < n → ∃ x : Nat, x < 256 ∧ w.cell? ⟨b, off + i, none⟩ = some (.int .u8 x)

/-- block R is a reader of code at position p -/
structure Rd (w : World) (R p : Nat) : Prop where
  pos : w.cell? ⟨R, 1, none⟩ = some (.int .i64 p)
  free : w.frozen? ⟨R, 1, none⟩ = false
  code : ∃ (a : Option Addr) (n cap : Nat), w.cell? ⟨R, 0, none⟩ = some (.slice a n cap) ∧ n ≤ 2000 ∧ BytesAt w R a n

theorem Rd.lt {w : World} {R p : Nat} (h : Rd w R p) : R < w.heap.size := by
  have h1 := h.pos
  rcases Nat.lt_or_ge R w.heap.size with h' | h'
  · exact h'
  · simp [World.cell?, Array.getElem?_eq_none h'] at h1

/-- all blocks but R are as they were -/
theorem grownBy_setCell (w : World) (a : Addr) (v : Value) : w.grownBy (w.setCell a v) (some a.block) :=
  ⟨rfl, rfl, rfl, by simp [World.setCell], fun k _ hk => Below.heap_setCell _ _ _ _ (fun e => hk (by rw [e]))⟩

theorem grownBy_drewN (w : World) (q : Nat) (r : Option Nat) : w.grownBy (w.drewN q) r :=
  ⟨rfl, rfl, rfl, Nat.le_refl _, fun _ _ _ => rfl⟩

theorem Rd.keep {w w' : World} {R p : Nat} (h : Rd w R p) (hg : w.grownBy w' (some R)) (hp : w'.cell? ⟨R, 1, none⟩ = some (.int .i64 ((p + 1 : Nat) : Int)))
    (hf : w'.frozen? ⟨R, 1, none⟩ = false) (hs : w'.cell? ⟨R, 0, none⟩ = w.cell? ⟨R, 0, none⟩) : Rd w' R (p + 1) := by
  obtain ⟨a, n, cap, h1, h2, h3⟩ := h.code
  refine ⟨hp, hf, a, n, cap, hs.trans h1, h2, fun hn => ?_⟩
  obtain ⟨b, off, ha, hb, hc⟩ := h3 hn
  refine ⟨b, off, ha, hb, fun i hi => ?_⟩
  obtain ⟨x, hx, hx'⟩ := hc i hi
  exact ⟨x, hx, hg.cell hx' (by simp; omega)⟩
theorem Rd.stored {w : World} {R p : Nat} (h : Rd w R p) (q : Nat) :
    Rd ((w.setCell ⟨R, 1, none⟩ (.int .i64 ((p : Int) + 1))).drewN q) R (p + 1) ∧ w.grownBy ((w.setCell ⟨R, 1, none⟩ (.int .i64 ((p : Int) + 1))).drewN q) (some R) := by
  have hg : w.grownBy ((w.setCell ⟨R, 1, none⟩ (.int .i64 ((p : Int) + 1))).drewN q) (some R) := by
    have h0 := grownBy_setCell w ⟨R, 1, none⟩ (.int .i64 ((p : Int) + 1))
    exact ⟨h0.os, h0.tape, h0.output, h0.size, h0.block⟩
  have hc : (w.setCell ⟨R, 1, none⟩ (.int .i64 ((p : Int) + 1))).cell? ⟨R, 1, none⟩ = some (.int .i64 ((p + 1 : Nat) : Int)) := by
    rw [World.cell?_setCell_same' _ _ _ (by rw [h.pos]; rfl)]; rfl
  refine ⟨h.keep hg hc ?_ ?_, hg⟩
  · show (w.setCell ⟨R, 1, none⟩ (.int .i64 ((p : Int) + 1))).frozen? ⟨R, 1, none⟩ = false
    rw [World.frozen?_setCell]; exact h.free
  · show (w.setCell ⟨R, 1, none⟩ (.int .i64 ((p : Int) + 1))).cell? ⟨R, 0, none⟩ = _
    rw [World.cell?_setCell_other _ _ _ _ (by simp)]
theorem Rd.stored0 {w : World} {R p : Nat} (h : Rd w R p) :
    Rd (w.setCell ⟨R, 1, none⟩ (.int .i64 ((p : Int) + 1))) R (p + 1) ∧ w.grownBy (w.setCell ⟨R, 1, none⟩ (.int .i64 ((p : Int) + 1))) (some R) := h.stored 0
theorem xor_i64_nat (a b : Nat) (ha : a < 9223372036854775808) (hb : b < 9223372036854775808) :
    bits .xor .i64 (a : Int) (b : Int) = ((a ^^^ b : Nat) : Int) := by
  have hx : a ^^^ b < 2 ^ 63 := Nat.xor_lt_two_pow (by omega) (by omega)
  have h1 : (BitVec.ofInt 64 (a : Int)).toNat = a := by
    rw [BitVec.ofInt_natCast, BitVec.toNat_ofNat]; exact Nat.mod_eq_of_lt (by omega)
  have h2 : (BitVec.ofInt 64 (b : Int)).toNat = b := by
    rw [BitVec.ofInt_natCast, BitVec.toNat_ofNat]; exact Nat.mod_eq_of_lt (by omega)
  show IntKind.i64.wrap ((BitVec.ofInt 64 (a : Int) ^^^ BitVec.ofInt 64 (b : Int)).toNat : Int) = _
  rw [BitVec.toNat_xor, h1, h2, IntKind.wrap_i64]
  omega

theorem mixed (S n : Int) (h0 : 0 ≤ S) (h1 : S < 4611686018427387904) (hn : 1 ≤ n) : ∃ k : Nat, (bits .xor .i64 S (S / 64)).tmod n = (k : Int) ∧ (k : Int) < n := by
  obtain ⟨s, rfl⟩ := Int.eq_ofNat_of_zero_le h0
  have e : ((s : Int) / 64) = ((s / 64 : Nat) : Int) := by omega
  rw [e, xor_i64_nat s (s / 64) (by omega) (by omega), Int.tmod_eq_emod_of_nonneg (by omega)]
  have e1 : 0 ≤ (((s ^^^ s / 64 : Nat) : Int)) % n := Int.emod_nonneg _ (by omega)
  have e2 : (((s ^^^ s / 64 : Nat) : Int)) % n < n := Int.emod_lt_of_pos _ (by omega)
  exact ⟨((((s ^^^ s / 64 : Nat) : Int)) % n).toNat, by omega, by omega⟩
end Go.Proofs.Ytldncfkkeeinjab
