import Derived.Test.YthmifadnfaajbacRows
import Derived.WalkKit
import Derived.ProofKit
import Derived.WalkSpells
import Derived.WalkLawsBesides
import Derived.Lib.Hide
import Derived.Test.YthmifadnfaajbacM0
import Derived.Test.YthmifadnfaajbacM1
import Derived.Test.YthmifadnfaajbacM2
import Derived.Test.YthmifadnfaajbacM5
import Derived.LoopTactic
import Derived.Outline
import Derived.Deep.QuietTactic
import Derived.BigQuiet
import Derived.IntWalk
import Derived.Test.YthmifadnfaajbacM4
namespace Go.Proofs.Ythmifadnfaajbac
open Go.RowKit Go.WideShapes

/-- append of one int to a list of the call's own -/
theorem wpApp1 {ops : Array Oper} {rest : List Oper} {o : Oper} {a : Act} {Q : Exit → Act → World → Prop} {wo : World} (hgd : o.guard = none) (s x : Operand)
    (ho : o.op = .call { callee := .builtin .append, args := #[s, x], argTypes := #[23, 23] })
    (base k cp : Nat) (ax : Option Addr) (xs : List Int) (v : Int) (hs : a.eval s = .slice ax k cp)
    (hown : wo.ownsRow base 3 1 (.slice ax k cp) k (xs.map (.int .i64))) (hx : a.eval x = .slice (some ⟨wo.heap.size, 0, none⟩) 1 1)
    (hbase : base ≤ wo.heap.size) (hk : k ≤ 1048576)
    (h : ∀ (a6 : Option Addr) (c6 : Nat) (w' : World), w'.ownsRow base 3 1 (.slice a6 (k + 1) c6) (k + 1) (xs.map (.int .i64) ++ [.int .i64 v]) → k + 1 ≤ c6 → wo.grownBy w' (Value.slice ax k cp).ownBlock →
      wpList Try.prog ops Q rest (a.put o.dst (.slice a6 (k + 1) c6)) w') :
    wpList Try.prog ops Q (o :: rest) a (wo.alloc (.cells #[.int .i64 v] 3)) := by
  obtain ⟨i0, hi, hz0, hz1, hz2⟩ := info_parts Try.infoIntO
  refine wpList_append_own _ hgd s x 23 ho base 3 i0 (.int .i64 0) 1 8 Try.underlying23 hi hz0 hz1 hz2 rfl (by decide) _ k _ hs (hown.alloc _) ⟨wo.heap.size, 0, none⟩ 1 1 [.int .i64 v] hx rfl (one_new _ _ _) (one_cell_int _ _) (by unfold maxLen; omega) (by omega) (by simp; omega) ?_
  intro v' w6 hown6 hgrow _
  obtain ⟨a6, c6, rfl, hc⟩ := own_slice hown6
  exact h a6 c6 w6 hown6 hc (grown_comp (World.grownBy_alloc wo _ _) hgrow)
/-- append of a list to a list of the call's own -/
theorem wpAppN {ops : Array Oper} {rest : List Oper} {o : Oper} {a : Act} {Q : Exit → Act → World → Prop} {wo : World} (hgd : o.guard = none) (s x : Operand)
    (ho : o.op = .call { callee := .builtin .append, args := #[s, x], argTypes := #[23, 23] })
    (base k cp : Nat) (ax : Option Addr) (xs : List Int) (S : Nat → Prop) (b off m c : Nat) (ys : List Int) (hs : a.eval s = .slice ax k cp)
    (hown : wo.ownsRow base 3 1 (.slice ax k cp) k (xs.map (.int .i64))) (hx : a.eval x = .slice (some ⟨b, off, none⟩) m c) (hy : IntsAt wo S (some ⟨b, off, none⟩) m ys)
    (hbase : base ≤ wo.heap.size) (hk : k + m ≤ 1048576)
    (h : ∀ (a6 : Option Addr) (c6 : Nat) (w' : World), w'.ownsRow base 3 1 (.slice a6 (k + m) c6) (k + m) (xs.map (.int .i64) ++ ys.map (.int .i64)) → k + m ≤ c6 → wo.grownBy w' (Value.slice ax k cp).ownBlock →
      wpList Try.prog ops Q rest (a.put o.dst (.slice a6 (k + m) c6)) w') :
    wpList Try.prog ops Q (o :: rest) a wo := by
  obtain ⟨i0, hi, hz0, hz1, hz2⟩ := info_parts Try.infoIntO
  refine wpList_append_own _ hgd s x 23 ho base 3 i0 (.int .i64 0) 1 8 Try.underlying23 hi hz0 hz1 hz2 rfl (by decide) _ k _ hs hown ⟨b, off, none⟩ m c (ys.map (.int .i64)) hx (by simp [hy.lenEq]) ?_ ?_ (by unfold maxLen; omega) (by omega) hbase ?_
  · intro j u hj
    rw [List.getElem?_map] at hj
    cases hq : ys[j]? with
    | none => rw [hq] at hj; cases hj
    | some z =>
      rw [hq] at hj
      simp only [Option.map_some, Option.some.injEq] at hj
      have hlt : j < ys.length := (List.getElem?_eq_some_iff.1 hq).1
      obtain ⟨b', off', e, _, hc⟩ := hy.cells (by have := hy.lenEq; omega)
      cases e
      rw [add_plain, hc _ _ hq, ← hj]
  · intro u hu
    obtain ⟨x, _, rfl⟩ := List.mem_map.1 hu
    rfl
  intro v' w6 hown6 hgrow _
  obtain ⟨a6, c6, rfl, hc⟩ := own_slice hown6
  exact h a6 c6 w6 hown6 hc hgrow
theorem clone_any (S : Nat → Prop) (b off len cap : Nat) (xs : List Int) (w : World) (h : IntsAt w S (some ⟨b, off, none⟩) len xs) (hS : ∀ b, S b → b < w.heap.size) (hl : len ≤ 1048576) :
    Calls Try.prog 58 #[.slice (some ⟨b, off, none⟩) len cap] w (NewOwn w xs) := by
  have hx := h.to (w' := w.alloc (.cells #[] 3)) (S' := S) (fun k hk => ⟨hk, Below.heap_alloc _ _ _ (by have := hS k hk; omega)⟩)
  have HX := Lib.hid hx
  have q22 : ∀ (w : World) (a : Option Addr) (n c n' c' : Nat), (binOp .eql 23 (.slice a n c) (.slice none n' c')).run Try.prog w = .ok (.bool a.isNone) w := fun w a n c n' c' => Lib.run_eql_slice_nil w _ _ a n c n' c' Try.underlying23
  clear hx
  go_enter Try.func58, Try.ntmps58
  go_wp2_with (at_builtin; refine wpAppN rfl _ _ rfl w.heap.size 0 _ _ [] S b off len cap xs rfl (World.ownsRow_made w #[] 0 (Nat.le_refl _) (Nat.zero_le _) rfl) rfl HX.out (by simp) (by omega) ?_)
  intro a6 c6 w6 hown hc6 hgr
  have HO := Lib.hid hown
  have HG := Lib.hid hgr
  clear hown hgr
  go_wp2
  go_ret
  exact ⟨a6, len, c6, rfl, by omega, by simpa using HO.out, ((Below.refl _ w).alloc (Nat.le_refl _) _).grown HG.out (by simp) (by intro k hk; simp [Value.ownBlock] at hk; omega)⟩
theorem own_block {w : World} {B e s n : Nat} {v : Value} {xs : List Value} (h : w.ownsRow B e s v n xs) : ∀ k, v.ownBlock = some k → B ≤ k := fun k e => (h.lt k e).1
theorem own_snoc {w : World} {B n : Nat} {u : Value} {xs : List Int} {x : Int} (h : w.ownsRow B 3 1 u n (xs.map (.int .i64) ++ [.int .i64 x])) : w.ownsRow B 3 1 u n ((xs ++ [x]).map (.int .i64)) := by
  rw [List.map_append]; exact h
end Go.Proofs.Ythmifadnfaajbac
namespace Go.Proofs.Ythmifadnfaajbac
open Go.RowKit Go.WideShapes

def bI (x j : Nat) : Int := if x.testBit j then 1 else 0
theorem bI_bd (x j : Nat) : 0 ≤ bI x j ∧ bI x j ≤ 1 := by unfold bI; split <;> omega
theorem csum_range {T : List Int} (hT : ∀ k, 0 ≤ T.getD k 0 ∧ T.getD k 0 ≤ 9) (P : Nat → Bool) : ∀ n : Nat, 0 ≤ csum T P n ∧ csum T P n ≤ 9 * (n : Int)
  | 0 => by simp [csum]
  | n + 1 => by have := csum_range hT P n; have := hT n; rw [csum]; push_cast; split <;> omega
def natsOf (ys : List Int) : List Nat := ys.map Int.toNat
theorem natsOf_len (ys : List Int) : (natsOf ys).length = ys.length := by simp [natsOf]
theorem natsOf_get {ys : List Int} {n : Nat} (h : powIn ys n) {i : Nat} (hi : i < n) : (((natsOf ys).getD i 0 : Nat) : Int) = ys.getD i 0 := by
  have := h i hi
  simp only [natsOf, List.getD_eq_getElem?_getD, List.getElem?_map] at this ⊢
  cases hq : ys[i]? with
  | none => simp
  | some z => rw [hq] at this; simp at this ⊢; omega
theorem natsOf_lt {ys : List Int} (h : powIn ys ys.length) (i : Nat) : (natsOf ys).getD i 0 < 2 ^ i := by
  have := Nat.two_pow_pos i
  by_cases hi : i < ys.length
  · have h1 := natsOf_get h hi; have h2 := h i hi; omega
  · simp only [List.getD_eq_getElem?_getD]; rw [List.getElem?_eq_none (by rw [natsOf_len]; omega)]; simpa using this
theorem natsOf_small {ys : List Int} (h : powIn ys ys.length) {i : Nat} (hi : i ≤ 6) : (natsOf ys).getD i 0 ≤ 64 := by
  have := natsOf_lt h i; have := Nat.pow_le_pow_right (n := 2) (by omega) hi; omega
theorem natsOf_hA {ys : List Int} (h : powIn ys ys.length) : ∀ i k, ((natsOf ys).getD i 0).testBit k = true → k < i := by
  intro i k hk
  rcases Nat.lt_or_ge k i with h1 | h1
  · exact h1
  · rw [Nat.testBit_lt_two_pow (Nat.lt_of_lt_of_le (natsOf_lt h i) (Nat.pow_le_pow_right (by omega) h1))] at hk; cases hk
theorem tasks_at {T : List Int} (h : allIn 1 9 T = true) : (∀ k, 0 ≤ T.getD k 0 ∧ T.getD k 0 ≤ 9) ∧ ∀ k, k < T.length → 1 ≤ T.getD k 0 := by
  have key : ∀ k, k < T.length → 1 ≤ T.getD k 0 ∧ T.getD k 0 ≤ 9 := by
    intro k hk
    unfold allIn at h
    rw [List.all_eq_true] at h
    have := h (T.getD k 0) (by rw [List.getD_eq_getElem?_getD, List.getElem?_eq_getElem hk]; simp)
    simpa [inB] using this
  refine ⟨fun k => ?_, fun k hk => (key k hk).1⟩
  by_cases hk : k < T.length
  · have := key k hk; omega
  · rw [List.getD_eq_getElem?_getD, List.getElem?_eq_none (by omega)]; simp
end Go.Proofs.Ythmifadnfaajbac
namespace Go.Proofs.Ythmifadnfaajbac
open Go.RowKit Go.WideShapes

theorem cloM_false {A : List Nat} {s k : Nat} (h : cloM A s (k + 1) = false) : ∀ n, k < n → cloM A s n = false
  | n + 1, hn => by
    rcases Nat.lt_or_eq_of_le (Nat.le_of_lt_succ hn) with h1 | rfl
    · rw [cloM, cloM_false h n h1]; rfl
    · exact h
end Go.Proofs.Ythmifadnfaajbac
namespace Go.Proofs.Ythmifadnfaajbac

theorem scanP_bd {T : List Int} {c : Int} {t : List Int} {s : Nat} {B : Int} (h0 : -1 ≤ B) (hB : ∀ r, r < s → t.getD r 0 + 1 ≤ B) : ∀ R, R ≤ s → -1 ≤ scanP T c t s R ∧ scanP T c t s R ≤ B
  | 0, _ => ⟨Int.le_refl _, h0⟩
  | R + 1, h => by
    have := scanP_bd (T := T) (c := c) h0 hB R (by omega)
    have h1 := hB R (by omega)
    rw [scanP]; split
    · rename_i h2; have := h2.1.2.1; omega
    · exact this
theorem stP_bd {T : List Int} {A : List Nat} {c : Int} : ∀ N s, s ≤ N → -1 ≤ stP T A c s ∧ stP T A c s ≤ s
  | N, 0, _ => by show (-1 : Int) ≤ 0 ∧ (0 : Int) ≤ 0; omega
  | N + 1, s + 1, h => by
    rw [stP_succ]; unfold nxtP; split
    · exact scanP_bd (B := ((s + 1 : Nat) : Int)) (by omega) (fun r hr => by rw [tabP_at (show r ≤ s by omega)]; have := stP_bd (T := T) (A := A) (c := c) N r (by omega); omega) (s + 1) (Nat.le_refl _)
    · omega
theorem tabP_step (T : List Int) (A : List Nat) (c : Int) {k : Nat} (h : 1 ≤ k) : tabP T A c k = tabP T A c (k - 1) ++ [nxtP T A c (tabP T A c (k - 1)) k] := by
  obtain ⟨d, rfl⟩ : ∃ d, k = d + 1 := ⟨k - 1, by omega⟩
  rfl
theorem tab_bd {T : List Int} {A : List Nat} {c : Int} {k r : Nat} (h : r < k) : -1 ≤ (tabP T A c (k - 1)).getD r 0 ∧ (tabP T A c (k - 1)).getD r 0 ≤ r := by
  rw [tabP_at (show r ≤ k - 1 by omega)]; exact stP_bd r r (Nat.le_refl _)
theorem scan_bd {T : List Int} {A : List Nat} {c : Int} {k R : Nat} (h : R ≤ k) : -1 ≤ scanP T c (tabP T A c (k - 1)) k R ∧ scanP T c (tabP T A c (k - 1)) k R ≤ k :=
  scanP_bd (by omega) (fun r hr => by have := tab_bd (T := T) (A := A) (c := c) hr; omega) R h
end Go.Proofs.Ythmifadnfaajbac
namespace Go.Proofs.Ythmifadnfaajbac
open Go.RowKit

set_option maxRecDepth 100000 in
set_option maxHeartbeats 1000000 in
theorem pick_any (R p : Nat) (n : Int) (w : World) (h : Rd w R p) (hp : p ≤ 1099511627776) :
    Calls Try.prog 40 #[.pointer (some ⟨R, 0, none⟩), .int .i64 n] w fun e w' => ∃ k : Nat, e = .returned (.int .i64 k) ∧ (k : Int) < max n 1 ∧ Rd w' R (p + 1) ∧ w.grownBy w' (some R) := by
  have HR := Lib.hid h
  obtain ⟨h1, hf, a, m, cap, h0, hm, hb⟩ := h
  by_cases hn : n < 1
  · go_enter Try.func40, Try.ntmps40
    go_wp2
    go_ret
    exact ⟨0, rfl, by omega, HR.out.stored0⟩
  · by_cases hm0 : m = 0
    · subst hm0
      go_enter Try.func40, Try.ntmps40
      go_wp2
      go_ret
      exact ⟨0, rfl, by omega, HR.out.stored0⟩
    · obtain ⟨b, off, rfl, hbR, hby⟩ := hb (by omega)
      by_cases hlt : p < m
      · obtain ⟨x, hx, hc⟩ := hby p hlt
        have hc' : (w.setCell ⟨R, 1, none⟩ (.int .i64 ((p : Int) + 1))).cell? ⟨b, off + p, none⟩ = some (.int .u8 x) := by
          rw [World.cell?_setCell_other _ _ _ _ (by intro e; injection e; omega)]; exact hc
        clear hby hb
        go_enter Try.func40, Try.ntmps40
        go_wp2
        go_ret
        have e1 : 0 ≤ (x : Int) % n := Int.emod_nonneg _ (by omega)
        have e2 : (x : Int) % n < n := Int.emod_lt_of_pos _ (by omega)
        exact ⟨((x : Int) % n).toNat, ret_int (by omega), by omega, HR.out.stored0⟩
      · have hm1 : 1 ≤ m := by omega
        obtain ⟨x1, hx1, hc1⟩ := hby (p % m) (Nat.mod_lt _ (by omega))
        obtain ⟨x2, hx2, hc2⟩ := hby ((p * 7 + 3) % m) (Nat.mod_lt _ (by omega))
        have hd1 : (w.setCell ⟨R, 1, none⟩ (.int .i64 ((p : Int) + 1))).cell? ⟨b, off + p % m, none⟩ = some (.int .u8 x1) := by
          rw [World.cell?_setCell_other _ _ _ _ (by intro e; injection e; omega)]; exact hc1
        have hd2 : (w.setCell ⟨R, 1, none⟩ (.int .i64 ((p : Int) + 1))).cell? ⟨b, off + (p * 7 + 3) % m, none⟩ = some (.int .u8 x2) := by
          rw [World.cell?_setCell_other _ _ _ _ (by intro e; injection e; omega)]; exact hc2
        clear hc1 hc2 hby hb
        have b1 : p % m < m := Nat.mod_lt _ (by omega)
        have b2 : (p * 7 + 3) % m < m := Nat.mod_lt _ (by omega)
        have g1 : 0 ≤ ((p : Int) * 7 + 3) % (m : Int) := Int.emod_nonneg _ (by omega)
        have g2 : ((p : Int) * 7 + 3) % (m : Int) < (m : Int) := Int.emod_lt_of_pos _ (by omega)
        have g3 : 0 ≤ (p : Int) / (m : Int) := Int.ediv_nonneg (by omega) (by omega)
        have g4 : (p : Int) / (m : Int) ≤ p := Int.ediv_le_self _ (by omega)
        go_enter Try.func40, Try.ntmps40
        go_wp2
        go_quiet (fail)
        go_wp2
        go_ret
        obtain ⟨k, hk, hk'⟩ := mixed ((x1 : Int) * 131 + x2 * 1117 + p * 29 + (p : Int) / (m : Int) * 53) n (by omega) (by omega) hn
        exact ⟨k, ret_int hk, by omega, HR.out.stored _⟩

theorem one_any (S : Nat → Prop) (R p : Nat) (a : Option Addr) (len cap : Nat) (xs : List Int) (w : World) (h : Rd w R p) (hx : IntsAt w S a len xs) (hne : ∀ b, S b → b ≠ R ∧ b < w.heap.size) (hl : 1 ≤ len) (hp : p ≤ 1099511627776) :
    Calls Try.prog 39 #[.pointer (some ⟨R, 0, none⟩), .slice a len cap] w fun e w' => ∃ x, x ∈ xs ∧ e = .returned (.int .i64 x) ∧ Rd w' R (p + 1) ∧ w.grownBy w' (some R) := by
  have hs := hx.small
  go_enter Try.func39, Try.ntmps39
  go_wp2_with fail
  refine (pick_any R p (len : Int) w h hp).mono ?_
  rintro e w' ⟨k, rfl, hk, hr, hg⟩
  obtain ⟨b, off, x, rfl, hx1, hx2⟩ := (hx.to (S' := S) (w' := w') fun b hb => ⟨hb, hg.block b (hne b hb).2 (by have := (hne b hb).1; simpa using this)⟩).get (k := k) (by omega)
  have HX := Lib.hid hx1
  clear hx1
  have hk' : k < len := by omega
  go_wp2
  go_ret
  exact ⟨x, List.mem_of_getElem? HX.out, rfl, hr, hg⟩
end Go.Proofs.Ythmifadnfaajbac
namespace Go.Proofs.Ythmifadnfaajbac
open Go.RowKit Go.WideShapes

theorem rd_new (w : World) (a : Option Addr) (n cap : Nat) (t : TypeId) (hn : n ≤ 2000) (hb : BytesAt w w.heap.size a n) : Rd (w.alloc (.cells #[.slice a n cap, .int .i64 0] t)) w.heap.size 0 := by
  refine ⟨by rw [World.cell?_alloc_new]; rfl, World.frozen?_alloc_new w _ _ _, a, n, cap, by rw [World.cell?_alloc_new]; rfl, hn, fun h0 => ?_⟩
  obtain ⟨b, off, ha, hb', hc⟩ := hb h0
  refine ⟨b, off, ha, hb', fun i hi => ?_⟩
  obtain ⟨x, hx, hx'⟩ := hc i hi
  exact ⟨x, hx, by rw [World.cell?_alloc_lt _ _ _ hb']; exact hx'⟩

def ReaderPost (w : World) (e : Ending) (w' : World) : Prop := e = .returned (.pointer (some ⟨w.heap.size, 0, none⟩)) ∧ Rd w' w.heap.size 0 ∧ Below w.heap.size w w'

theorem newReader_any (a : Option Addr) (len cap : Nat) (w : World) (hb : BytesAt w w.heap.size a len) (hl : len ≤ cap) (hs : len ≤ 9223372036854775807) :
    Calls Try.prog 25 #[.slice a len cap] w (ReaderPost w) := by
  by_cases h : len ≤ 2000
  · go_enter Try.func25, Try.ntmps25
    go_wp2
    go_ret
    exact ⟨rfl, rd_new w a len cap _ h hb, (Below.refl _ _).alloc (Nat.le_refl _) _⟩
  · obtain ⟨b, off, rfl, hb1, hc⟩ := hb (by omega)
    have h2 : BytesAt w w.heap.size (some ⟨b, off, none⟩) 2000 := fun _ => ⟨b, off, rfl, hb1, fun i hi => hc i (by omega)⟩
    clear hc
    go_enter Try.func25, Try.ntmps25
    go_wp2
    go_ret
    exact ⟨rfl, rd_new w _ 2000 cap _ (by omega) h2, (Below.refl _ _).alloc (Nat.le_refl _) _⟩
end Go.Proofs.Ythmifadnfaajbac
namespace Go.Proofs.Ythmifadnfaajbac
open Go.RowKit Go.WideShapes

/-- a list made behind the reader R, ahead of block B -/
def LAt (w : World) (R B : Nat) (a : Option Addr) (l : Nat) (xs : List Int) : Prop := IntsAt w (fun b => R < b ∧ b < B) a l xs ∧ B ≤ w.heap.size
theorem LAt.step {w w' : World} {R B l : Nat} {a : Option Addr} {xs : List Int} (h : LAt w R B a l xs) (hg : w.grownBy w' (some R)) : LAt w' R B a l xs :=
  ⟨h.1.to (fun b hb => ⟨hb, hg.block b (Nat.lt_of_lt_of_le hb.2 h.2) (by intro e; injection e; omega)⟩), Nat.le_trans h.2 hg.size⟩
theorem LAt.stepR {w w' : World} {R B l : Nat} {a : Option Addr} {xs : List Int} {r : Option Nat} (h : LAt w R B a l xs) (hg : w.grownBy w' r) (hr : ∀ k, r = some k → B ≤ k) : LAt w' R B a l xs :=
  ⟨h.1.to (fun b hb => ⟨hb, hg.block b (Nat.lt_of_lt_of_le hb.2 h.2) (by intro e; have := hr b e.symm; omega)⟩), Nat.le_trans h.2 hg.size⟩
theorem LAt.alloc {w : World} {R B l : Nat} {a : Option Addr} {xs : List Int} (h : LAt w R B a l xs) (o : Obj) : LAt (w.alloc o) R B a l xs := h.step (World.grownBy_alloc _ _ _)
theorem LAt.low {w : World} {R B l : Nat} {a : Option Addr} {xs : List Int} (h : LAt w R B a l xs) : IntsAt w (· < w.heap.size) a l xs := h.1.to (fun _ hb => ⟨Nat.lt_of_lt_of_le hb.2 h.2, rfl⟩)
theorem lat_new {w w' : World} {R l : Nat} {a : Option Addr} {xs : List Int} (h : IntsAt w' (fun b => w.heap.size ≤ b ∧ b < w'.heap.size) a l xs) (hR : R < w.heap.size) : LAt w' R w'.heap.size a l xs :=
  ⟨h.to (fun _ hb => ⟨⟨by omega, hb.2⟩, rfl⟩), Nat.le_refl _⟩
theorem lat_own {w w' : World} {R l cp : Nat} {a : Option Addr} {xs : List Int} (h : w'.ownsRow w.heap.size 3 1 (.slice a l cp) l (xs.map (.int .i64))) (hR : R < w.heap.size) (hl : l ≤ 9223372036854775807) : LAt w' R w'.heap.size a l xs := by
  obtain ⟨ay, cy, hve, _, hints⟩ := own_ints h hl
  simp only [Value.slice.injEq] at hve
  obtain ⟨rfl, _, rfl⟩ := hve
  exact lat_new hints hR
theorem own_low {w : World} {B l cp : Nat} {a : Option Addr} {xs : List Int} (h : w.ownsRow B 3 1 (.slice a l cp) l (xs.map (.int .i64))) (hl : l ≤ 9223372036854775807) : IntsAt w (· < w.heap.size) a l xs := by
  obtain ⟨ay, cy, hve, _, hints⟩ := own_ints h hl
  simp only [Value.slice.injEq] at hve
  obtain ⟨rfl, _, rfl⟩ := hve
  exact hints.to (fun _ hb => ⟨hb.2, rfl⟩)
theorem grown_of_below {w w' : World} (h : Below w.heap.size w w') (r : Option Nat) : w.grownBy w' r := ⟨h.os, h.tape, h.output, h.size, fun b hb _ => h.block b hb⟩
theorem Rd.step {w w' : World} {R p : Nat} (h : Rd w R p) (hb : Below w.heap.size w w') : Rd w' R p :=
  h.grown (r := none) (grown_of_below hb none) (fun k e => by cases e)
theorem own_step {w w' : World} {B R l : Nat} {v : Value} {xs : List Value} (h : w.ownsRow B 3 1 v l xs) (hg : w.grownBy w' (some R)) (hR : R < B) : w'.ownsRow B 3 1 v l xs := h.kept hg (ne_low h hR)
end Go.Proofs.Ythmifadnfaajbac
namespace Go.Proofs.Ythmifadnfaajbac
open Go.RowKit Go.WideShapes

theorem own_lit (w : World) (xs : List Int) (len : Nat) (hl : xs.length = len) (hs : len ≤ 1048576) : (w.alloc (.cells (cellsOf xs) 3)).ownsRow w.heap.size 3 1 (.slice (some ⟨w.heap.size, 0, none⟩) len len) len (xs.map (.int .i64)) :=
  ⟨by simp [hl], .inr ⟨w.heap.size, len, cellsOf xs, rfl, Nat.le_refl _, heap_alloc_new w _, Nat.le_refl _, by unfold maxLen; omega, by simp [cellsOf, hl], by simp [cellsOf]; exact List.take_of_length_le (by simp [hl])⟩⟩
theorem drew_two {a b c : World} (h1 : Drew a b) (h2 : Drew b c) : Drew a c := by obtain ⟨q, rfl⟩ := h2; exact h1.drew q
end Go.Proofs.Ythmifadnfaajbac
namespace Go.Proofs.Ythmifadnfaajbac

-- chapter 11, plain: cuts on rolls; first fit, and first fit by falling lengths
def wsum (f : Nat → Int) (P : Nat → Bool) : Nat → Int
  | 0 => 0
  | k + 1 => wsum f P k + if P k then f k else 0
def card (P : Nat → Bool) : Nat → Nat
  | 0 => 0
  | k + 1 => card P k + if P k then 1 else 0
def bsumN (f : Nat → Nat) : Nat → Nat
  | 0 => 0
  | k + 1 => bsumN f k + f k
theorem csum_w (T : List Int) (P : Nat → Bool) : ∀ n, csum T P n = wsum (fun i => T.getD i 0) P n
  | 0 => rfl
  | n + 1 => by rw [csum, wsum, csum_w T P n]
theorem wsum_congr {f g : Nat → Int} {P Q : Nat → Bool} : ∀ n, (∀ i, i < n → P i = Q i) → (∀ i, i < n → P i = true → f i = g i) → wsum f P n = wsum g Q n
  | 0, _, _ => rfl
  | n + 1, h, h2 => by
    rw [wsum, wsum, wsum_congr n (fun i hi => h i (by omega)) (fun i hi => h2 i (by omega)), ← h n (by omega)]
    cases e : P n
    · rfl
    · rw [h2 n (by omega) e]
theorem wsum_none {f : Nat → Int} {P : Nat → Bool} : ∀ n, (∀ i, i < n → P i = false) → wsum f P n = 0
  | 0, _ => rfl
  | n + 1, h => by rw [wsum, wsum_none n (fun i hi => h i (by omega)), h n (by omega)]; rfl
theorem wsum_mono {f : Nat → Int} {P Q : Nat → Bool} : ∀ n, (∀ i, i < n → 0 ≤ f i) → (∀ i, i < n → P i = true → Q i = true) → wsum f P n ≤ wsum f Q n
  | 0, _, _ => Int.le_refl _
  | n + 1, h0, h => by
    have ih := wsum_mono n (fun i hi => h0 i (by omega)) (fun i hi => h i (by omega))
    have h1 := h0 n (by omega)
    have h2 := h n (by omega)
    rw [wsum, wsum]
    cases e : P n
    · cases Q n <;> simp <;> omega
    · rw [h2 e]; simp; omega
theorem wsum_nn {f : Nat → Int} {P : Nat → Bool} (n : Nat) (h : ∀ i, i < n → 0 ≤ f i) : 0 ≤ wsum f P n := by
  have := wsum_mono (P := fun _ => false) (Q := P) n h (fun i _ e => by cases e)
  rwa [wsum_none n (fun _ _ => rfl)] at this
theorem wsum_only {f : Nat → Int} {P : Nat → Bool} {a : Nat} : ∀ n, a < n → P a = true → (∀ i, i < n → P i = true → i = a) → wsum f P n = f a
  | 0, h, _, _ => by omega
  | n + 1, h, ha, hu => by
    rw [wsum]
    by_cases e : a = n
    · subst e
      rw [wsum_none a (fun i hi => by
        cases e : P i
        · rfl
        · have := hu i (by omega) e; omega), ha]
      simp
    · rw [wsum_only n (by omega) ha (fun i hi => hu i (by omega))]
      cases e2 : P n
      · simp
      · have := hu n (by omega) e2; omega
theorem wsum_or {f : Nat → Int} {P Q : Nat → Bool} : ∀ n, (∀ i, i < n → ¬ (P i = true ∧ Q i = true)) → wsum f (fun i => P i || Q i) n = wsum f P n + wsum f Q n
  | 0, _ => rfl
  | n + 1, h => by
    rw [wsum, wsum, wsum, wsum_or n (fun i hi => h i (by omega))]
    have := h n (by omega)
    cases e1 : P n <;> cases e2 : Q n <;> simp [e1, e2] at this ⊢ <;> omega
theorem wsum_mem {f : Nat → Int} {P : Nat → Bool} {a n : Nat} (h0 : ∀ i, i < n → 0 ≤ f i) (ha : a < n) (hp : P a = true) : f a ≤ wsum f P n := by
  rw [← wsum_only (f := f) (P := fun i => i == a) n ha (by simp) (fun i _ e => by simpa using e)]
  exact wsum_mono n h0 (fun i _ e => by have : i = a := by simpa using e
                                        rw [this]; exact hp)
theorem wsum_two {f : Nat → Int} {P : Nat → Bool} {a b n : Nat} (h0 : ∀ i, i < n → 0 ≤ f i) (ha : a < n) (hb : b < n) (hab : a ≠ b) (hp : P a = true) (hq : P b = true) : f a + f b ≤ wsum f P n := by
  rw [← wsum_only (f := f) (P := fun i => i == a) n ha (by simp) (fun i _ e => by simpa using e), ← wsum_only (f := f) (P := fun i => i == b) n hb (by simp) (fun i _ e => by simpa using e), ← wsum_or]
  · exact wsum_mono n h0 (fun i _ e => by
      simp only [Bool.or_eq_true, beq_iff_eq] at e
      rcases e with e | e <;> (rw [e]; assumption))
  · intro i _ h
    simp only [beq_iff_eq] at h
    omega
theorem wsum_split {f : Nat → Int} {P : Nat → Bool} {q : Nat → Nat} (m : Nat) : ∀ n, wsum f (fun i => P i && decide (q i < m + 1)) n = wsum f (fun i => P i && decide (q i < m)) n + wsum f (fun i => P i && q i == m) n
  | 0 => rfl
  | n + 1 => by
    rw [wsum, wsum, wsum, wsum_split m n]
    cases P n
    · simp
    · by_cases h1 : q n < m
      · rw [show decide (q n < m + 1) = true by simp; omega, show decide (q n < m) = true by simp [h1], show (q n == m) = false by simp; omega]; simp; omega
      · by_cases h2 : q n = m
        · rw [show decide (q n < m + 1) = true by simp; omega, show decide (q n < m) = false by simp; omega, show (q n == m) = true by simp [h2]]; simp; omega
        · rw [show decide (q n < m + 1) = false by simp; omega, show decide (q n < m) = false by simp; omega, show (q n == m) = false by simp [h2]]; simp
theorem wsum_rolls {f : Nat → Int} {P : Nat → Bool} {q : Nat → Nat} {n : Nat} {R : Int} : ∀ m : Nat, (∀ j, j < m → wsum f (fun i => P i && q i == j) n ≤ R) → wsum f (fun i => P i && decide (q i < m)) n ≤ (m : Int) * R
  | 0, _ => by rw [wsum_none n (fun i _ => by simp)]; simp
  | m + 1, h => by
    have ih := wsum_rolls m (fun j hj => h j (by omega))
    have := h m (by omega)
    rw [wsum_split]; push_cast; rw [Int.add_mul, Int.one_mul]; omega
theorem wsum_all {f : Nat → Int} {P : Nat → Bool} {q : Nat → Nat} {n m : Nat} {R : Int} (hq : ∀ i, i < n → q i < m) (h : ∀ j, j < m → wsum f (fun i => P i && q i == j) n ≤ R) : wsum f P n ≤ (m : Int) * R := by
  have := wsum_rolls m h
  rwa [wsum_congr (g := f) (Q := P) n (fun i hi => by simp [hq i hi]) (fun _ _ _ => rfl)] at this
theorem wsum_const {S : Nat → Bool} {R : Int} {T : Nat → Int} : ∀ n, wsum (fun i => if S i then R else T i) S n = wsum (fun _ => 1) S n * R
  | 0 => by simp [wsum]
  | n + 1 => by
    rw [wsum, wsum, Int.add_mul, wsum_const n]
    cases S n <;> simp
-- counting
theorem card_w (P : Nat → Bool) : ∀ n, (card P n : Int) = wsum (fun _ => 1) P n
  | 0 => rfl
  | n + 1 => by rw [card, wsum, ← card_w P n]; cases P n <;> simp
theorem card_split {P : Nat → Bool} {p : Nat → Nat} {n : Nat} : ∀ v : Nat, card (fun i => P i && decide (p i < v)) n = bsumN (fun b => card (fun i => P i && p i == b) n) v
  | 0 => by
    have := card_w (fun i => P i && decide (p i < 0)) n
    rw [wsum_none n (fun i _ => by simp)] at this
    rw [bsumN]; omega
  | v + 1 => by
    have h := wsum_split (f := fun _ => 1) (P := P) (q := p) v n
    rw [← card_w, ← card_w, ← card_w] at h
    rw [bsumN, ← card_split v]; omega
theorem card_bins {P : Nat → Bool} {p : Nat → Nat} {n v : Nat} (hp : ∀ i, i < n → P i = true → p i < v) : card P n = bsumN (fun b => card (fun i => P i && p i == b) n) v := by
  rw [← card_split]
  have h := wsum_congr (f := fun _ => 1) (g := fun _ => 1) (P := P) (Q := fun i => P i && decide (p i < v)) n (fun i hi => by
    cases e : P i
    · rfl
    · simp [hp i hi e]) (fun _ _ _ => rfl)
  rw [← card_w, ← card_w] at h
  omega
theorem card_none {P : Nat → Bool} {n : Nat} (h : ∀ i, i < n → P i = false) : card P n = 0 := by
  have := card_w P n
  rw [wsum_none n h] at this; omega
theorem card_mem {P : Nat → Bool} {n a : Nat} (ha : a < n) (hp : P a = true) : 1 ≤ card P n := by
  have h := wsum_mem (f := fun _ => 1) (P := P) (n := n) (fun _ _ => by omega) ha hp
  rw [← card_w] at h; omega
theorem card_one {P : Nat → Bool} {n a b : Nat} (h : card P n = 1) (ha : a < n) (hp : P a = true) (hb : b < n) (hq : P b = true) : b = a := by
  by_cases e : a = b
  · exact e.symm
  · have h2 := wsum_two (f := fun _ => 1) (P := P) (n := n) (fun _ _ => by omega) ha hb e hp hq
    rw [← card_w] at h2; omega
theorem card_lt {P : Nat → Bool} {n z : Nat} (hz : z < n) (hp : P z = false) : card P n + 1 ≤ n := by
  have h1 := wsum_or (f := fun _ => 1) (P := P) (Q := fun i => i == z) n (fun i _ h => by
    have : i = z := by simpa using h.2
    rw [this, hp] at h; exact absurd h.1 (by simp))
  have h2 := wsum_only (f := fun _ => (1 : Int)) (P := fun i => i == z) n hz (by simp) (fun i _ e => by simpa using e)
  have h3 := wsum_mono (f := fun _ => 1) (P := fun i => P i || i == z) (Q := fun _ => true) n (fun _ _ => by omega) (fun _ _ _ => rfl)
  have h4 : wsum (fun _ => 1) (fun _ => true) n = (n : Int) := by
    clear h1 h2 h3 hz hp
    induction n with
    | zero => rfl
    | succ n ih => rw [wsum, ih]; simp
  rw [h1, h2, h4, ← card_w] at h3
  omega
theorem bsumN_le {f g : Nat → Nat} : ∀ v, (∀ b, b < v → f b ≤ g b) → bsumN f v ≤ bsumN g v
  | 0, _ => Nat.le_refl _
  | v + 1, h => by have := bsumN_le v (fun b hb => h b (by omega)); have := h v (by omega); rw [bsumN, bsumN]; omega
theorem bsumN_eq {f g : Nat → Nat} : ∀ v, (∀ b, b < v → f b = g b) → bsumN f v = bsumN g v
  | 0, _ => rfl
  | v + 1, h => by rw [bsumN, bsumN, bsumN_eq v (fun b hb => h b (by omega)), h v (by omega)]
theorem bsumN_two {f : Nat → Nat} : ∀ v, bsumN (fun b => 2 - f b) v + bsumN f v ≥ 2 * v
  | 0 => by simp [bsumN]
  | v + 1 => by have := bsumN_two (f := f) v; simp only [bsumN] at this ⊢; omega
theorem bsumN_one {f : Nat → Nat} {v : Nat} (h : ∀ b, b < v → f b = 1) : bsumN f v = v := by
  induction v with
  | zero => rfl
  | succ v ih => rw [bsumN, ih (fun b hb => h b (by omega)), h v (by omega)]
/-- first fit by falling lengths: the last roll that was begun (by z, behind those of B), and all other plans -/
theorem fall_bound {n v m z : Nat} {R : Int} {T : Nat → Int} {p q : Nat → Nat} {B : Nat → Bool}
    (hT : ∀ i, i < n → 1 ≤ T i ∧ T i ≤ R) (hz : z < n) (hBz : B z = false) (hB : ∀ i, i < n → B i = true → T z ≤ T i ∧ p i < v) (hv : ∀ b, b < v → R < wsum T (fun i => B i && p i == b) n + T z)
    (hq : ∀ i, i < n → q i < m) (hql : ∀ j, j < m → wsum T (fun i => q i == j) n ≤ R) :
    ∃ s, 2 * v ≤ s + (n - 1) ∧ s ≤ v ∧ (s < v → s + 2 ≤ m) ∧ (s = v → v + 1 ≤ m) := by
  have h0 : ∀ i, i < n → 0 ≤ T i := fun i hi => by have := (hT i hi).1; omega
  have hTz := hT z hz
  obtain ⟨cnt, hcnt⟩ : ∃ cnt : Nat → Nat, cnt = fun b => card (fun i => B i && p i == b) n := ⟨_, rfl⟩
  obtain ⟨S, hS⟩ : ∃ S : Nat → Bool, S = fun i => B i && cnt (p i) == 1 := ⟨_, rfl⟩
  have hSB : ∀ i, S i = true → B i = true ∧ cnt (p i) = 1 := fun i h => by rw [hS] at h; simpa using h
  have hc1 : ∀ b, b < v → 1 ≤ cnt b := fun b hb => by
    have h1 := hv b hb
    rcases Nat.eq_zero_or_pos (cnt b) with e | e
    · exfalso
      have : wsum T (fun i => B i && p i == b) n = 0 := wsum_none n (fun i hi => by
        cases e2 : (B i && p i == b)
        · rfl
        · have := card_mem (P := fun i => B i && p i == b) hi e2
          rw [hcnt] at e; dsimp only at e; omega)
      omega
    · exact e
  -- one alone stands with none
  have hal : ∀ a, a < n → S a = true → R < T a + T z := fun a ha hs => by
    obtain ⟨hb, hc⟩ := hSB a hs
    have h1 := hv (p a) (hB a ha hb).2
    rwa [wsum_only (a := a) n ha (by simp [hb]) (fun i hi e => card_one (P := fun i => B i && p i == p a) (by rw [hcnt] at hc; exact hc) ha (by simp [hb]) hi e)] at h1
  have hroll : ∀ j, j < m → wsum (fun i => if S i then R else T i) (fun i => (B i || i == z) && q i == j) n ≤ R := fun j hj => by
    by_cases hx : ∃ a, a < n ∧ S a = true ∧ q a = j
    · obtain ⟨a, ha, hs, hqa⟩ := hx
      rw [wsum_only (a := a) n ha (by simp [(hSB a hs).1, hqa]) (fun y hy e => by
        simp only [Bool.and_eq_true, Bool.or_eq_true, beq_iff_eq] at e
        by_cases hya : y = a
        · exact hya
        · exfalso
          have h1 := wsum_two (f := T) (P := fun i => q i == j) h0 ha hy (Ne.symm hya) (by simp [hqa]) (by simp [e.2])
          have h2 := hql j hj
          have h3 := hal a ha hs
          have h4 : T z ≤ T y := by
            rcases e.1 with e1 | e1
            · exact (hB y hy e1).1
            · rw [e1]; exact Int.le_refl _
          omega)]
      simp [hs]
    · refine Int.le_trans ?_ (hql j hj)
      rw [wsum_congr (g := T) (Q := fun i => (B i || i == z) && q i == j) n (fun _ _ => rfl) (fun i hi e => by
        cases e2 : S i
        · rfl
        · exact absurd ⟨i, hi, e2, by simp only [Bool.and_eq_true, beq_iff_eq] at e; exact e.2⟩ hx)]
      exact wsum_mono n h0 (fun i _ e => by simp only [Bool.and_eq_true] at e; exact e.2)
  have htot := wsum_all hq hroll
  have hSz : S z = false := by rw [hS]; simp [hBz]
  have hsplit : wsum (fun i => if S i then R else T i) (fun i => B i || i == z) n = (card S n : Int) * R + wsum T (fun i => (B i && !S i) || i == z) n := by
    have e1 := wsum_or (f := fun i => if S i then R else T i) (P := S) (Q := fun i => (B i && !S i) || i == z) n (fun i _ h => by
      simp only [Bool.or_eq_true, Bool.and_eq_true, Bool.not_eq_true', beq_iff_eq] at h
      rcases h.2 with h2 | h2
      · rw [h.1] at h2; exact absurd h2.2 (by simp)
      · rw [h2, hSz] at h; exact absurd h.1 (by simp))
    rw [wsum_congr (g := fun i => if S i then R else T i) (Q := fun i => S i || ((B i && !S i) || i == z)) n (fun i _ => by
      cases e2 : S i
      · simp
      · simp [(hSB i e2).1]) (fun _ _ _ => rfl), e1]
    congr 1
    · rw [card_w]; exact wsum_const n
    · exact wsum_congr n (fun _ _ => rfl) (fun i _ e => by
        cases e2 : S i
        · simp
        · simp only [e2, Bool.not_true, Bool.and_false, Bool.false_or, beq_iff_eq] at e
          rw [e, hSz] at e2; cases e2)
  rw [hsplit] at htot
  have hcS : card S n = bsumN (fun b => if cnt b = 1 then 1 else 0) v := by
    rw [card_bins (P := S) (p := p) (fun i hi e => (hB i hi (hSB i e).1).2)]
    refine bsumN_eq v (fun b hb => ?_)
    by_cases e : cnt b = 1
    · rw [if_pos e]
      have e2 := card_w (fun i => S i && p i == b) n
      rw [wsum_congr (g := fun _ => 1) (Q := fun i => B i && p i == b) n (fun i _ => by
        rw [hS]; by_cases e3 : p i = b
        · simp [e3, e]
        · have e4 : (p i == b) = false := by simp [e3]
          simp [e4]) (fun _ _ _ => rfl), ← card_w] at e2
      rw [hcnt] at e; dsimp only at e; omega
    · rw [if_neg e]
      exact card_none (fun i _ => by
        rw [hS]; by_cases e3 : p i = b
        · simp [e3, e]
        · have e4 : (p i == b) = false := by simp [e3]
          simp [e4])
  have hcB : bsumN cnt v = card B n := by rw [card_bins (P := B) (p := p) (fun i hi e => (hB i hi e).2), hcnt]
  have hlt := card_lt hz hBz
  have h2 := bsumN_two (f := fun b => if cnt b = 1 then 1 else 0) v
  have h3 := bsumN_le (f := fun b => 2 - if cnt b = 1 then 1 else 0) (g := cnt) v (fun b hb => by have := hc1 b hb; split <;> omega)
  have h4 := bsumN_le (f := fun b => if cnt b = 1 then 1 else 0) (g := fun _ => 1) v (fun b hb => by split <;> omega)
  rw [bsumN_one (f := fun _ => 1) (fun _ _ => rfl)] at h4
  refine ⟨card S n, by omega, by omega, fun hs => ?_, fun hs => ?_⟩
  · -- one of the rolls has several
    have hb : ∃ b, b < v ∧ cnt b ≠ 1 := by
      refine Classical.byContradiction fun hn => ?_
      have : bsumN (fun b => if cnt b = 1 then 1 else 0) v = v := bsumN_one (fun b hb => by
        by_cases e : cnt b = 1
        · rw [if_pos e]
        · exact absurd ⟨b, hb, e⟩ hn)
      omega
    obtain ⟨b, hb, hcb⟩ := hb
    have e1 := wsum_or (f := T) (P := fun i => B i && p i == b) (Q := fun i => i == z) n (fun i _ h => by
      have h5 : i = z := by simpa using h.2
      have h6 := h.1
      rw [h5, hBz] at h6; exact absurd h6 (by simp))
    have e2 := wsum_only (f := T) (P := fun i => i == z) n hz (by simp) (fun i _ e => by simpa using e)
    have e3 := wsum_mono (f := T) (P := fun i => (B i && p i == b) || i == z) (Q := fun i => (B i && !S i) || i == z) n h0 (fun i _ e => by
      simp only [Bool.or_eq_true, Bool.and_eq_true, beq_iff_eq] at e
      rcases e with e | e
      · have : S i = false := by rw [hS]; simp [e.2, hcb]
        simp [e.1, this]
      · simp [e])
    have e4 := hv b hb
    have hgt : (card S n : Int) * R + R < (m : Int) * R := by omega
    have : ((card S n : Int) + 1) * R < (m : Int) * R := by rw [Int.add_mul, Int.one_mul]; exact hgt
    have := Int.lt_of_mul_lt_mul_right this (by omega)
    omega
  · have e2 := wsum_only (f := T) (P := fun i => i == z) n hz (by simp) (fun i _ e => by simpa using e)
    have e3 := wsum_mono (f := T) (P := fun i => i == z) (Q := fun i => (B i && !S i) || i == z) n h0 (fun i _ e => by simp [e])
    have hgt : (card S n : Int) * R < (m : Int) * R := by omega
    have := Int.lt_of_mul_lt_mul_right hgt (by omega)
    omega
end Go.Proofs.Ythmifadnfaajbac
