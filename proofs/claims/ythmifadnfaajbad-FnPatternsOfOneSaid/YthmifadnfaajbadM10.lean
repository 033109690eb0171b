import Derived.Test.YthmifadnfaajbadM9
import Derived.Test.YthmifadnfaajbadRows
import Derived.WalkKit
import Derived.LoopTactic
import Derived.Outline
import Derived.WalkSpells
import Derived.WalkLawsBesides
import Derived.Deep.QuietTactic
import Derived.BigQuiet
import Derived.IntWalk
import Derived.Test.YthmifadnfaajbadM0
import Derived.ProofKit
import Derived.Test.YthmifadnfaajbadM1
import Derived.Test.YthmifadnfaajbadM8
import Derived.Test.YthmifadnfaajbadM7
import Derived.Deep.Upon
import Derived.Test.YthmifadnfaajbadM3
import Derived.Lib.Hide
import Derived.Deep.AppendLies
namespace Go.Proofs.Ythmifadnfaajbad

theorem scanP_bd {T : List Int} {c : Int} {t : List Int} {s : Nat} {B : Int} (h0 : -1 ≤ B) (hB : ∀ r, r < s → t.getD r 0 + 1 ≤ B) : ∀ R, R ≤ s → -1 ≤ scanP T c t s R ∧ scanP T c t s R ≤ B
  | 0, _ => ⟨Int.le_refl _, h0⟩
  | R + 1, h => by
    have := scanP_bd (T := T) (c := c) h0 hB R (by omega)
    have h1 := hB R (by omega)
    rw [scanP]; split
    · rename_i h2; have := h2.1.2.1; omega
    · exact this
theorem stP_bd {T : List Int} {A : List Nat} {c : Int} : ∀ N s, s ≤ N → -1 ≤ stP T A c s ∧ stP T A c s ≤ s
  | N, 0, _ => by show (-1 : Int) ≤ 0 ∧ (0 : Int) ≤ 0; omega
  | N + 1, s + 1, h => by
    rw [stP_succ]; unfold nxtP; split
    · exact scanP_bd (B := ((s + 1 : Nat) : Int)) (by omega) (fun r hr => by rw [tabP_at (show r ≤ s by omega)]; have := stP_bd (T := T) (A := A) (c := c) N r (by omega); omega) (s + 1) (Nat.le_refl _)
    · omega
theorem tabP_step (T : List Int) (A : List Nat) (c : Int) {k : Nat} (h : 1 ≤ k) : tabP T A c k = tabP T A c (k - 1) ++ [nxtP T A c (tabP T A c (k - 1)) k] := by
  obtain ⟨d, rfl⟩ : ∃ d, k = d + 1 := ⟨k - 1, by omega⟩
  rfl
theorem tab_bd {T : List Int} {A : List Nat} {c : Int} {k r : Nat} (h : r < k) : -1 ≤ (tabP T A c (k - 1)).getD r 0 ∧ (tabP T A c (k - 1)).getD r 0 ≤ r := by
  rw [tabP_at (show r ≤ k - 1 by omega)]; exact stP_bd r r (Nat.le_refl _)
theorem scan_bd {T : List Int} {A : List Nat} {c : Int} {k R : Nat} (h : R ≤ k) : -1 ≤ scanP T c (tabP T A c (k - 1)) k R ∧ scanP T c (tabP T A c (k - 1)) k R ≤ k :=
  scanP_bd (by omega) (fun r hr => by have := tab_bd (T := T) (A := A) (c := c) hr; omega) R h
end Go.Proofs.Ythmifadnfaajbad
namespace Go.Proofs.Ythmifadnfaajbad
open Go.RowKit

set_option maxRecDepth 100000 in
set_option maxHeartbeats 1000000 in
theorem pick_any (R p : Nat) (n : Int) (w : World) (h : Rd w R p) (hp : p ≤ 1099511627776) :
    Calls Try.prog 11 #[.pointer (some ⟨R, 0, none⟩), .int .i64 n] w fun e w' => ∃ k : Nat, e = .returned (.int .i64 k) ∧ (k : Int) < max n 1 ∧ Rd w' R (p + 1) ∧ w.grownBy w' (some R) := by
  have HR := Lib.hid h
  obtain ⟨h1, hf, a, m, cap, h0, hm, hb⟩ := h
  by_cases hn : n < 1
  · go_enter Try.func11, Try.ntmps11
    go_wp2
    go_ret
    exact ⟨0, rfl, by omega, HR.out.stored0⟩
  · by_cases hm0 : m = 0
    · subst hm0
      go_enter Try.func11, Try.ntmps11
      go_wp2
      go_ret
      exact ⟨0, rfl, by omega, HR.out.stored0⟩
    · obtain ⟨b, off, rfl, hbR, hby⟩ := hb (by omega)
      by_cases hlt : p < m
      · obtain ⟨x, hx, hc⟩ := hby p hlt
        have hc' : (w.setCell ⟨R, 1, none⟩ (.int .i64 ((p : Int) + 1))).cell? ⟨b, off + p, none⟩ = some (.int .u8 x) := by
          rw [World.cell?_setCell_other _ _ _ _ (by intro e; injection e; omega)]; exact hc
        clear hby hb
        go_enter Try.func11, Try.ntmps11
        go_wp2
        go_ret
        have e1 : 0 ≤ (x : Int) % n := Int.emod_nonneg _ (by omega)
        have e2 : (x : Int) % n < n := Int.emod_lt_of_pos _ (by omega)
        exact ⟨((x : Int) % n).toNat, ret_int (by omega), by omega, HR.out.stored0⟩
      · have hm1 : 1 ≤ m := by omega
        obtain ⟨x1, hx1, hc1⟩ := hby (p % m) (Nat.mod_lt _ (by omega))
        obtain ⟨x2, hx2, hc2⟩ := hby ((p * 7 + 3) % m) (Nat.mod_lt _ (by omega))
        have hd1 : (w.setCell ⟨R, 1, none⟩ (.int .i64 ((p : Int) + 1))).cell? ⟨b, off + p % m, none⟩ = some (.int .u8 x1) := by
          rw [World.cell?_setCell_other _ _ _ _ (by intro e; injection e; omega)]; exact hc1
        have hd2 : (w.setCell ⟨R, 1, none⟩ (.int .i64 ((p : Int) + 1))).cell? ⟨b, off + (p * 7 + 3) % m, none⟩ = some (.int .u8 x2) := by
          rw [World.cell?_setCell_other _ _ _ _ (by intro e; injection e; omega)]; exact hc2
        clear hc1 hc2 hby hb
        have b1 : p % m < m := Nat.mod_lt _ (by omega)
        have b2 : (p * 7 + 3) % m < m := Nat.mod_lt _ (by omega)
        have g1 : 0 ≤ ((p : Int) * 7 + 3) % (m : Int) := Int.emod_nonneg _ (by omega)
        have g2 : ((p : Int) * 7 + 3) % (m : Int) < (m : Int) := Int.emod_lt_of_pos _ (by omega)
        have g3 : 0 ≤ (p : Int) / (m : Int) := Int.ediv_nonneg (by omega) (by omega)
        have g4 : (p : Int) / (m : Int) ≤ p := Int.ediv_le_self _ (by omega)
        go_enter Try.func11, Try.ntmps11
        go_wp2
        go_quiet (fail)
        go_wp2
        go_ret
        obtain ⟨k, hk, hk'⟩ := mixed ((x1 : Int) * 131 + x2 * 1117 + p * 29 + (p : Int) / (m : Int) * 53) n (by omega) (by omega) hn
        exact ⟨k, ret_int hk, by omega, HR.out.stored _⟩

theorem one_any (S : Nat → Prop) (R p : Nat) (a : Option Addr) (len cap : Nat) (xs : List Int) (w : World) (h : Rd w R p) (hx : IntsAt w S a len xs) (hne : ∀ b, S b → b ≠ R ∧ b < w.heap.size) (hl : 1 ≤ len) (hp : p ≤ 1099511627776) :
    Calls Try.prog 10 #[.pointer (some ⟨R, 0, none⟩), .slice a len cap] w fun e w' => ∃ x, x ∈ xs ∧ e = .returned (.int .i64 x) ∧ Rd w' R (p + 1) ∧ w.grownBy w' (some R) := by
  have hs := hx.small
  go_enter Try.func10, Try.ntmps10
  go_wp2_with fail
  refine (pick_any R p (len : Int) w h hp).mono ?_
  rintro e w' ⟨k, rfl, hk, hr, hg⟩
  obtain ⟨b, off, x, rfl, hx1, hx2⟩ := (hx.to (S' := S) (w' := w') fun b hb => ⟨hb, hg.block b (hne b hb).2 (by have := (hne b hb).1; simpa using this)⟩).get (k := k) (by omega)
  have HX := Lib.hid hx1
  clear hx1
  have hk' : k < len := by omega
  go_wp2
  go_ret
  exact ⟨x, List.mem_of_getElem? HX.out, rfl, hr, hg⟩
end Go.Proofs.Ythmifadnfaajbad
namespace Go.Proofs.Ythmifadnfaajbad
open Go.RowKit Go.WideShapes

theorem rd_new (w : World) (a : Option Addr) (n cap : Nat) (t : TypeId) (hn : n ≤ 2000) (hb : BytesAt w w.heap.size a n) : Rd (w.alloc (.cells #[.slice a n cap, .int .i64 0] t)) w.heap.size 0 := by
  refine ⟨by rw [World.cell?_alloc_new]; rfl, World.frozen?_alloc_new w _ _ _, a, n, cap, by rw [World.cell?_alloc_new]; rfl, hn, fun h0 => ?_⟩
  obtain ⟨b, off, ha, hb', hc⟩ := hb h0
  refine ⟨b, off, ha, hb', fun i hi => ?_⟩
  obtain ⟨x, hx, hx'⟩ := hc i hi
  exact ⟨x, hx, by rw [World.cell?_alloc_lt _ _ _ hb']; exact hx'⟩

def ReaderPost (w : World) (e : Ending) (w' : World) : Prop := e = .returned (.pointer (some ⟨w.heap.size, 0, none⟩)) ∧ Rd w' w.heap.size 0 ∧ Below w.heap.size w w'

theorem newReader_any (a : Option Addr) (len cap : Nat) (w : World) (hb : BytesAt w w.heap.size a len) (hl : len ≤ cap) (hs : len ≤ 9223372036854775807) :
    Calls Try.prog 9 #[.slice a len cap] w (ReaderPost w) := by
  by_cases h : len ≤ 2000
  · go_enter Try.func9, Try.ntmps9
    go_wp2
    go_ret
    exact ⟨rfl, rd_new w a len cap _ h hb, (Below.refl _ _).alloc (Nat.le_refl _) _⟩
  · obtain ⟨b, off, rfl, hb1, hc⟩ := hb (by omega)
    have h2 : BytesAt w w.heap.size (some ⟨b, off, none⟩) 2000 := fun _ => ⟨b, off, rfl, hb1, fun i hi => hc i (by omega)⟩
    clear hc
    go_enter Try.func9, Try.ntmps9
    go_wp2
    go_ret
    exact ⟨rfl, rd_new w _ 2000 cap _ (by omega) h2, (Below.refl _ _).alloc (Nat.le_refl _) _⟩
end Go.Proofs.Ythmifadnfaajbad
namespace Go.Proofs.Ythmifadnfaajbad
open Go.RowKit Go.WideShapes

/-- a list made behind the reader R, ahead of block B -/
def LAt (w : World) (R B : Nat) (a : Option Addr) (l : Nat) (xs : List Int) : Prop := IntsAt w (fun b => R < b ∧ b < B) a l xs ∧ B ≤ w.heap.size
theorem LAt.step {w w' : World} {R B l : Nat} {a : Option Addr} {xs : List Int} (h : LAt w R B a l xs) (hg : w.grownBy w' (some R)) : LAt w' R B a l xs :=
  ⟨h.1.to (fun b hb => ⟨hb, hg.block b (Nat.lt_of_lt_of_le hb.2 h.2) (by intro e; injection e; omega)⟩), Nat.le_trans h.2 hg.size⟩
theorem LAt.stepR {w w' : World} {R B l : Nat} {a : Option Addr} {xs : List Int} {r : Option Nat} (h : LAt w R B a l xs) (hg : w.grownBy w' r) (hr : ∀ k, r = some k → B ≤ k) : LAt w' R B a l xs :=
  ⟨h.1.to (fun b hb => ⟨hb, hg.block b (Nat.lt_of_lt_of_le hb.2 h.2) (by intro e; have := hr b e.symm; omega)⟩), Nat.le_trans h.2 hg.size⟩
theorem LAt.alloc {w : World} {R B l : Nat} {a : Option Addr} {xs : List Int} (h : LAt w R B a l xs) (o : Obj) : LAt (w.alloc o) R B a l xs := h.step (World.grownBy_alloc _ _ _)
theorem LAt.low {w : World} {R B l : Nat} {a : Option Addr} {xs : List Int} (h : LAt w R B a l xs) : IntsAt w (· < w.heap.size) a l xs := h.1.to (fun _ hb => ⟨Nat.lt_of_lt_of_le hb.2 h.2, rfl⟩)
theorem lat_new {w w' : World} {R l : Nat} {a : Option Addr} {xs : List Int} (h : IntsAt w' (fun b => w.heap.size ≤ b ∧ b < w'.heap.size) a l xs) (hR : R < w.heap.size) : LAt w' R w'.heap.size a l xs :=
  ⟨h.to (fun _ hb => ⟨⟨by omega, hb.2⟩, rfl⟩), Nat.le_refl _⟩
theorem lat_own {w w' : World} {R l cp : Nat} {a : Option Addr} {xs : List Int} (h : w'.ownsRow w.heap.size 3 1 (.slice a l cp) l (xs.map (.int .i64))) (hR : R < w.heap.size) (hl : l ≤ 9223372036854775807) : LAt w' R w'.heap.size a l xs := by
  obtain ⟨ay, cy, hve, _, hints⟩ := own_ints h hl
  simp only [Value.slice.injEq] at hve
  obtain ⟨rfl, _, rfl⟩ := hve
  exact lat_new hints hR
theorem own_low {w : World} {B l cp : Nat} {a : Option Addr} {xs : List Int} (h : w.ownsRow B 3 1 (.slice a l cp) l (xs.map (.int .i64))) (hl : l ≤ 9223372036854775807) : IntsAt w (· < w.heap.size) a l xs := by
  obtain ⟨ay, cy, hve, _, hints⟩ := own_ints h hl
  simp only [Value.slice.injEq] at hve
  obtain ⟨rfl, _, rfl⟩ := hve
  exact hints.to (fun _ hb => ⟨hb.2, rfl⟩)
theorem grown_of_below {w w' : World} (h : Below w.heap.size w w') (r : Option Nat) : w.grownBy w' r := ⟨h.os, h.tape, h.output, h.size, fun b hb _ => h.block b hb⟩
theorem Rd.step {w w' : World} {R p : Nat} (h : Rd w R p) (hb : Below w.heap.size w w') : Rd w' R p :=
  h.grown (r := none) (grown_of_below hb none) (fun k e => by cases e)
theorem own_step {w w' : World} {B R l : Nat} {v : Value} {xs : List Value} (h : w.ownsRow B 3 1 v l xs) (hg : w.grownBy w' (some R)) (hR : R < B) : w'.ownsRow B 3 1 v l xs := h.kept hg (ne_low h hR)
end Go.Proofs.Ythmifadnfaajbad
namespace Go.Proofs.Ythmifadnfaajbad
open Go.RowKit Go.WideShapes

theorem own_lit (w : World) (xs : List Int) (len : Nat) (hl : xs.length = len) (hs : len ≤ 1048576) : (w.alloc (.cells (cellsOf xs) 3)).ownsRow w.heap.size 3 1 (.slice (some ⟨w.heap.size, 0, none⟩) len len) len (xs.map (.int .i64)) :=
  ⟨by simp [hl], .inr ⟨w.heap.size, len, cellsOf xs, rfl, Nat.le_refl _, heap_alloc_new w _, Nat.le_refl _, by unfold maxLen; omega, by simp [cellsOf, hl], by simp [cellsOf]; exact List.take_of_length_le (by simp [hl])⟩⟩
theorem drew_two {a b c : World} (h1 : Drew a b) (h2 : Drew b c) : Drew a c := by obtain ⟨q, rfl⟩ := h2; exact h1.drew q
end Go.Proofs.Ythmifadnfaajbad
namespace Go.Proofs.Ythmifadnfaajbad
open Go.RowKit Go.WideShapes

theorem cut_at {T : List Int} {c : Int} (h : cutsM T c = true) (k : Nat) : 0 ≤ T.getD k 0 ∧ T.getD k 0 ≤ 20 := by
  obtain ⟨h1, h2, _, h4⟩ := cuts_get h
  rcases Nat.lt_or_ge k T.length with g | g
  · have := h4 k g; unfold lenT at this; omega
  · rw [getD_past g]; omega
theorem inRC {lo hi n : Int} {b : Bool} (h : inB lo hi n = b) (w : World) : Calls Try.prog 24 #[.int .i64 n, .int .i64 lo, .int .i64 hi] w fun e w' => e = .returned (.bool b) ∧ w = w' := by
  subst h; exact inRange_any n lo hi w
set_option maxRecDepth 100000 in
set_option maxHeartbeats 2000000 in
theorem vCuts_spec (S : Nat → Prop) (a : Option Addr) (len cap : Nat) (xs : List Int) (R : Int) (w : World) (h : IntsAt w S a len xs) :
    Calls Try.prog 15 #[.slice a len cap, .int .i64 R] w fun e w' => e = .returned (.bool (cutsM xs R)) ∧ w = w' := by
  have hs := h.small
  have HL := Lib.hid h.lenEq
  go_enter Try.func15, Try.ntmps15
  go_wp2_with fail
  go_loop [5] (fun i => ∃ k : Nat, k ≤ len ∧ i = .int .i64 k ∧ allIn 1 R (xs.take k) = true) (fun i => len - (intOf i).toNat)
  case atStart => exact ⟨0, Nat.zero_le _, rfl, rfl⟩
  case round =>
    obtain ⟨k, hk, rfl, ha⟩ := hrel
    have HA := Lib.hid ha
    clear ha
    by_cases hlt : k < len
    · have hkI : (k : Int) < (len : Int) := by omega
      obtain ⟨b, off, x, rfl, hx, hc⟩ := h.get hlt
      have HX := Lib.hid hx
      clear hx
      cases hq : inB 1 R x
      · have HF := Lib.hid (show cutsM xs R = false by unfold cutsM; rw [allIn_false HX.out hq]; rfl)
        go_wp2_with (go_at_call 24; refine (inRC hq _).mono ?_; rintro e w' ⟨rfl, rfl⟩)
        go_ret
        exact ⟨ret_bool HF.out.symm, rfl⟩
      · go_wp2_with (go_at_call 24; refine (inRC hq _).mono ?_; rintro e w' ⟨rfl, rfl⟩)
        go_round
        case rel => exact ⟨k + 1, by omega, by go_num, allIn_step HX.out HA.out hq⟩
        case measure => simp [intOf]; omega
    · obtain rfl : k = len := by omega
      have hkI : ¬ (k : Int) < (k : Int) := by omega
      have ha := HA.out
      rw [List.take_of_length_le (by rw [HL.out]; omega)] at ha
      cases h1 : inB 1 20 R
      · have HF := Lib.hid (show cutsM xs R = false by unfold cutsM; rw [h1, ha]; rfl)
        clear ha
        go_wp2_with (go_at_call 24; refine (inRC h1 _).mono ?_; rintro e w' ⟨rfl, rfl⟩)
        go_ret
        exact ⟨ret_bool HF.out.symm, rfl⟩
      · have HF := Lib.hid (show cutsM xs R = decide ((k : Int) ≤ 7) by unfold cutsM; rw [h1, ha, HL.out]; simp; omega)
        clear ha
        go_wp2_with (go_at_call 24; refine (inRC h1 _).mono ?_; rintro e w' ⟨rfl, rfl⟩)
        go_ret
        exact ⟨ret_bool (by rw [HF.out]), rfl⟩
theorem vcuts {S : Nat → Prop} {a : Option Addr} {len cap : Nat} {xs : List Int} {R : Int} {b : Bool} (hb : cutsM xs R = b) (w : World) (h : IntsAt w S a len xs) : Calls Try.prog 15 #[.slice a len cap, .int .i64 R] w fun e w' => e = .returned (.bool b) ∧ w = w' := by
  subst hb; exact vCuts_spec S a len cap xs R w h
/-- what FewestRolls answers -/
def rollsRes (xs : List Int) (R : Int) : Int := if cutsM xs R then fewRl xs R else -1
end Go.Proofs.Ythmifadnfaajbad
namespace Go.Proofs.Ythmifadnfaajbad
open Go.RowKit Go.WideShapes

/-- append of a list that may be empty, at whatever address, to a list of the call's own -/
theorem wpAppAny {ops : Array Oper} {rest : List Oper} {o : Oper} {a : Act} {Q : Exit → Act → World → Prop} {wo : World} (hgd : o.guard = none) (s x : Operand)
    (ho : o.op = .call { callee := .builtin .append, args := #[s, x], argTypes := #[23, 23] })
    (base k cp : Nat) (ax : Option Addr) (xs : List Int) (S : Nat → Prop) (ay : Option Addr) (m c : Nat) (ys : List Int) (hs : a.eval s = .slice ax k cp)
    (hown : wo.ownsRow base 3 1 (.slice ax k cp) k (xs.map (.int .i64))) (hx : a.eval x = .slice ay m c) (hy : IntsAt wo S ay m ys)
    (hbase : base ≤ wo.heap.size) (hk : k + m ≤ 1048576)
    (h : ∀ (a6 : Option Addr) (c6 : Nat) (w' : World), w'.ownsRow base 3 1 (.slice a6 (k + m) c6) (k + m) ((xs ++ ys).map (.int .i64)) → k + m ≤ c6 → wo.grownBy w' (Value.slice ax k cp).ownBlock →
      wpList Try.prog ops Q rest (a.put o.dst (.slice a6 (k + m) c6)) w') :
    wpList Try.prog ops Q (o :: rest) a wo := by
  by_cases hm : 0 < m
  · obtain ⟨b, off, rfl, _, _⟩ := hy.cells hm
    exact wpAppN hgd s x ho base k cp ax xs S b off m c ys hs hown hx hy hbase hk (fun a6 c6 w' h1 h2 h3 => h a6 c6 w' (by rw [List.map_append]; exact h1) h2 h3)
  · obtain rfl : m = 0 := by omega
    have hy0 : ys = [] := List.eq_nil_of_length_eq_zero hy.lenEq
    subst hy0
    obtain ⟨a', cp', e, hle⟩ := own_slice hown
    injection e with _ _ e2
    subst e2
    obtain ⟨i0, hi, hz0, hz1, hz2⟩ := info_parts Try.infoIntO
    have hsrc : Src Try.prog i0.size 23 (.slice ay 0 c) 0 [] wo := by
      cases ay with
      | none => exact Src.ofNil wo Try.underlying23 c
      | some ad => exact Src.ofSlice wo Try.underlying23 ad 0 c [] (by simp) (fun j u hj => by simp at hj) (fun u hu => by cases hu)
    have hrun := run_append_nothing (P := Try.prog) wo 23 23 o.type 3 i0 Try.underlying23 hi ax k cp hle (.slice ay 0 c) hsrc
    refine wpList_plain hgd fun K hK => ?_
    unfold Oper.wp
    simp [execOp, ho, resolve, invoke, builtin, hs, hx, hrun, Result.andThen]
    exact hK _ _ (h ax cp wo (by rw [List.append_nil]; exact hown) hle (grown_refl _ _))
end Go.Proofs.Ythmifadnfaajbad
namespace Go.Proofs.Ythmifadnfaajbad
open Go.RowKit Go.WideShapes

-- blocks, whole
theorem heap_set {w : World} {b i : Nat} {cs : Array Value} {t : TypeId} {fr : Nat × Nat} (h : w.heap[b]? = some (.cells cs t fr)) (v : Value) :
    (w.setCell ⟨b, i, none⟩ v).heap[b]? = some (.cells (cs.setIfInBounds i v) t fr) := by
  simp [World.setCell, Array.getElem?_modify, h]
theorem heap_set_ne {w : World} {b c i : Nat} (h : c ≠ b) (v : Value) : (w.setCell ⟨b, i, none⟩ v).heap[c]? = w.heap[c]? := Below.heap_setCell _ _ _ _ h
theorem frozen_row {w : World} {b : Nat} {cs : Array Value} {t : TypeId} (h : w.heap[b]? = some (.cells cs t (0, 0))) (i : Nat) : w.frozen? ⟨b, i, none⟩ = false := by
  simp [World.frozen?, h]
theorem ne_type {w : World} {b c : Nat} {cs ds : Array Value} {t u : TypeId} {fr gr : Nat × Nat} (h : w.heap[b]? = some (.cells cs t fr)) (g : w.heap[c]? = some (.cells ds u gr)) (hn : t ≠ u) : b ≠ c := by
  rintro rfl
  rw [h] at g
  simp only [Option.some.injEq, Obj.cells.injEq] at g
  exact hn g.2.1
theorem lt_heap {w : World} {b : Nat} {o : Obj} (h : w.heap[b]? = some o) : b < w.heap.size := (Array.getElem?_eq_some_iff.1 h).1

def tabV (f : Nat → Value) (n : Nat) : Array Value := ((List.range n).map f).toArray
theorem tabV_get (f : Nat → Value) {n j : Nat} (h : j < n) : (tabV f n)[j]? = some (f j) := by simp [tabV, h]
theorem tabV_congr {f g : Nat → Value} {n : Nat} (h : ∀ j, j < n → f j = g j) : tabV f n = tabV g n := by
  unfold tabV
  rw [List.map_congr_left fun j hj => h j (List.mem_range.1 hj)]
theorem tabV_set (f : Nat → Value) (n j : Nat) (v : Value) : (tabV f n).setIfInBounds j v = tabV (setN f j v) n := by
  apply Array.ext_getElem?
  intro i
  rw [Array.getElem?_setIfInBounds]
  by_cases hi : i < n
  · rw [tabV_get _ hi, tabV_get _ hi]
    by_cases e : j = i
    · subst e; rw [if_pos rfl, setN_at, if_pos (by simp [tabV, hi])]
    · rw [if_neg e, setN_ne _ _ (fun h => e h.symm)]
  · have h1 : (tabV f n)[i]? = none := by simp [tabV]; omega
    have h2 : (tabV (setN f j v) n)[i]? = none := by simp [tabV]; omega
    rw [h1, h2]
    split
    · rw [if_neg (by simp [tabV]; omega)]
    · rfl
end Go.Proofs.Ythmifadnfaajbad
namespace Go.Proofs.Ythmifadnfaajbad
open Go.RowKit Go.WideShapes

-- rolls in memory: a box with their length and what is cut from each, all of it in blocks from B on
structure RollsW {α : Type} (enc : α → List Value) (sz : Nat) (TR TS TC : TypeId) (w : World) (B r : Nat) (R : Int) (v : Value) (vs : List Value) (rows : List (List α)) : Prop where
  box : w.heap[r]? = some (.cells #[.int .i64 R, v] TR (0, 0))
  outer : w.ownsRow B TS 1 v rows.length vs
  row : ∀ i u, vs[i]? = some u → w.ownsRow B TC sz u (rows.getD i []).length ((rows.getD i []).flatMap enc)
  sep : ∀ (i j : Nat) (u u' : Value), vs[i]? = some u → vs[j]? = some u' → i ≠ j → u.ownBlock = none ∨ u.ownBlock ≠ u'.ownBlock
/-- all blocks below H are as they were, but for those of Q -/
structure BelowQ (Q : Nat → Prop) (H : Nat) (w w' : World) : Prop where
  os : w'.os = w.os
  tape : w'.tape = w.tape
  output : w'.output = w.output
  size : w.heap.size ≤ w'.heap.size
  block : ∀ k, k < H → ¬ Q k → w'.heap[k]? = w.heap[k]?
theorem BelowQ.refl (Q : Nat → Prop) (H : Nat) (w : World) : BelowQ Q H w w := ⟨rfl, rfl, rfl, Nat.le_refl _, fun _ _ _ => rfl⟩
theorem BelowQ.trans {Q : Nat → Prop} {H : Nat} {a b c : World} (h : BelowQ Q H a b) (k : BelowQ Q H b c) : BelowQ Q H a c :=
  ⟨k.os.trans h.os, k.tape.trans h.tape, k.output.trans h.output, Nat.le_trans h.size k.size, fun i hi hr => (k.block i hi hr).trans (h.block i hi hr)⟩
theorem BelowQ.alloc {Q : Nat → Prop} {H : Nat} {a w : World} (h : BelowQ Q H a w) (hB : H ≤ w.heap.size) (o : Obj) : BelowQ Q H a (w.alloc o) :=
  h.trans ⟨rfl, rfl, rfl, by simp, fun k hk _ => Below.heap_alloc _ _ _ (by omega)⟩
theorem BelowQ.grown {Q : Nat → Prop} {H : Nat} {a w w' : World} {row : Option Nat} (h : BelowQ Q H a w) (hg : w.grownBy w' row) (hB : H ≤ w.heap.size) (hr : ∀ k, row = some k → Q k ∨ H ≤ k) : BelowQ Q H a w' :=
  h.trans ⟨hg.os, hg.tape, hg.output, hg.size, fun k hk hq => hg.block k (by omega) (fun e => by rcases hr k e.symm with g | g; exact hq g; omega)⟩
theorem BelowQ.setCell {Q : Nat → Prop} {H : Nat} {a w : World} (h : BelowQ Q H a w) {p : Addr} (hp : Q p.block ∨ H ≤ p.block) (u : Value) : BelowQ Q H a (w.setCell p u) :=
  h.trans ⟨rfl, rfl, rfl, by simp [World.setCell], fun k hk hq => Below.heap_setCell _ _ _ _ (fun e => by rcases hp with g | g; exact hq (e ▸ g); omega)⟩
theorem own_keep {w w' : World} {B : Nat} {e : TypeId} {size : Nat} {v : Value} {n : Nat} {xs : List Value} (h : w.ownsRow B e size v n xs) (hg : ∀ b, v.ownBlock = some b → B ≤ b → b < w.heap.size → w'.heap[b]? = w.heap[b]?) : w'.ownsRow B e size v n xs := by
  refine ⟨h.1, ?_⟩
  rcases h.2 with hn | ⟨g, cap, cur, rfl, hb, hgg, rest⟩
  · exact .inl hn
  · exact .inr ⟨g, cap, cur, rfl, hb, (hg g rfl hb (Array.getElem?_eq_some_iff.1 hgg).1).trans hgg, rest⟩
theorem own_kind {w : World} {B : Nat} {e : TypeId} {size : Nat} {v : Value} {n : Nat} {xs : List Value} (h : w.ownsRow B e size v n xs) {g : Nat} (hg : v.ownBlock = some g) : ∃ c, w.heap[g]? = some (.cells c e (0, 0)) := by
  rcases h.2 with ⟨rfl, _⟩ | ⟨g', cap, cur, rfl, _, hgg, _⟩
  · simp [Value.ownBlock] at hg
  · simp [Value.ownBlock] at hg
    subst hg
    exact ⟨cur, hgg⟩
theorem own_cut {w : World} {B : Nat} {e : TypeId} {size : Nat} {a : Option Addr} {n c : Nat} {xs : List Value} (h : w.ownsRow B e size (.slice a n c) n xs) {k : Nat} (hk : k ≤ n) : w.ownsRow B e size (.slice a k c) k (xs.take (k * size)) := by
  have hle : k * size ≤ n * size := Nat.mul_le_mul_right _ hk
  refine ⟨by rw [List.length_take, h.1]; omega, ?_⟩
  rcases h.2 with ⟨hv, rfl⟩ | ⟨g, cap, cur, hv, hb, hgg, hnc, hcm, hcs, htake⟩
  · injection hv with h1 h2 h3
    exact .inl ⟨by rw [h1, h3, Nat.le_zero.1 hk], by omega⟩
  · injection hv with h1 h2 h3
    exact .inr ⟨g, cap, cur, by rw [h1, h3], hb, hgg, by omega, hcm, hcs, by rw [← htake, List.take_take, Nat.min_eq_left hle]⟩
theorem getD_set_row {α : Type} {rows : List (List α)} {i j : Nat} {x : List α} (hi : i < rows.length) : (rows.set i x).getD j [] = if j = i then x else rows.getD j [] := by
  rw [List.getD_eq_getElem?_getD, List.getD_eq_getElem?_getD, List.getElem?_set]
  by_cases h : i = j
  · subst h; rw [if_pos rfl, if_pos rfl, if_pos hi]; rfl
  · rw [if_neg h, if_neg (fun e => h e.symm)]
section
variable {α : Type} {enc : α → List Value} {sz : Nat} {TR TS TC : TypeId} {w w' : World} {B r : Nat} {R : Int} {v : Value} {vs : List Value} {rows : List (List α)}
theorem RollsW.keep (h : RollsW enc sz TR TS TC w B r R v vs rows) (hg : ∀ b, (B ≤ b ∨ b = r) → b < w.heap.size → w'.heap[b]? = w.heap[b]?) : RollsW enc sz TR TS TC w' B r R v vs rows :=
  ⟨(hg _ (.inr rfl) (lt_heap h.box)).trans h.box, own_keep h.outer fun b _ h1 h2 => hg b (.inl h1) h2, fun i u hu => own_keep (h.row i u hu) fun b _ h1 h2 => hg b (.inl h1) h2, h.sep⟩
theorem RollsW.lenV (h : RollsW enc sz TR TS TC w B r R v vs rows) : vs.length = rows.length := by simpa using h.outer.1
theorem RollsW.cells (h : RollsW enc sz TR TS TC w B r R v vs rows) : w.cell? ⟨r, 0, none⟩ = some (.int .i64 R) ∧ w.cell? ⟨r, 1, none⟩ = some v ∧ ∀ i, w.frozen? ⟨r, i, none⟩ = false := by
  refine ⟨?_, ?_, frozen_row h.box⟩ <;> rw [cell_of_row _ _ _ _ _ _ h.box] <;> rfl
theorem RollsW.box_ne_outer (h : RollsW enc sz TR TS TC w B r R v vs rows) (h1 : TR ≠ TS) : v.ownBlock ≠ some r := fun e => by
  obtain ⟨c, hc⟩ := own_kind h.outer e
  exact ne_type h.box hc h1 rfl
theorem RollsW.box_ne_row (h : RollsW enc sz TR TS TC w B r R v vs rows) (h1 : TR ≠ TC) {i : Nat} {u : Value} (hu : vs[i]? = some u) : u.ownBlock ≠ some r := fun e => by
  obtain ⟨c, hc⟩ := own_kind (h.row i u hu) e
  exact ne_type h.box hc h1 rfl
theorem RollsW.row_ne_outer (h : RollsW enc sz TR TS TC w B r R v vs rows) (h1 : TS ≠ TC) {i : Nat} {u : Value} (hu : vs[i]? = some u) : u.ownBlock = none ∨ u.ownBlock ≠ v.ownBlock := by
  cases e : u.ownBlock with
  | none => exact .inl rfl
  | some b =>
    refine .inr fun e2 => ?_
    obtain ⟨c, hc⟩ := own_kind (h.row i u hu) e
    obtain ⟨d, hd⟩ := own_kind h.outer e2.symm
    exact ne_type hd hc h1 rfl
/-- a new roll behind the others -/
theorem RollsW.pushNil (h : RollsW enc sz TR TS TC w B r R v vs rows) (h1 : TR ≠ TS) (h2 : TR ≠ TC) (h3 : TS ≠ TC) {v' : Value} (hown : w'.ownsRow B TS 1 v' (rows.length + 1) (vs ++ [.slice none 0 0])) (hgr : w.grownBy w' v.ownBlock) :
    RollsW enc sz TR TS TC (w'.setCell ⟨r, 1, none⟩ v') B r R v' (vs ++ [.slice none 0 0]) (rows ++ [[]]) := by
  have hbox : w'.heap[r]? = some (.cells #[.int .i64 R, v] TR (0, 0)) := (hgr.block r (lt_heap h.box) (fun e => h.box_ne_outer h1 e.symm)).trans h.box
  have hl := h.lenV
  refine ⟨by rw [heap_set hbox]; rfl, ?_, fun i u hu => ?_, fun i j u u' hu hu' hij => ?_⟩
  · rw [List.length_append, List.length_singleton]
    refine own_keep hown fun b hb _ _ => heap_set_ne (fun e => ?_) _
    obtain ⟨c, hc⟩ := own_kind hown hb
    exact ne_type hbox hc h1 e.symm
  · by_cases hi : i < vs.length
    · rw [List.getElem?_append_left hi] at hu
      rw [show (rows ++ [[]] : List (List α)).getD i [] = rows.getD i [] by rw [List.getD_eq_getElem?_getD, List.getD_eq_getElem?_getD, List.getElem?_append_left (by omega)]]
      refine own_keep (h.row i u hu) fun b hb _ hlt => ?_
      rw [heap_set_ne (fun e => h.box_ne_row h2 hu (by rw [hb, e]))]
      refine hgr.block b hlt (fun e => ?_)
      rcases h.row_ne_outer h3 hu with g | g
      · rw [g] at hb; cases hb
      · exact g (hb.trans e)
    · rw [List.getElem?_append_right (by omega)] at hu
      have hi2 : i = rows.length := by
        have := (List.getElem?_eq_some_iff.1 hu).1
        simp at this; omega
      subst hi2
      rw [← hl, Nat.sub_self] at hu
      injection hu with hu
      subst hu
      rw [show (rows ++ [[]] : List (List α)).getD rows.length [] = [] by rw [List.getD_eq_getElem?_getD, List.getElem?_append_right (Nat.le_refl _), Nat.sub_self]; rfl]
      exact World.ownsRow_nil _ _ _ _
  · have hn : ∀ k z, (vs ++ [Value.slice none 0 0])[k]? = some z → ¬ k < vs.length → z = .slice none 0 0 := fun k z hz hk => by
      rw [List.getElem?_append_right (by omega)] at hz
      have := (List.getElem?_eq_some_iff.1 hz).1
      simp at this
      rw [this] at hz
      injection hz with hz
      exact hz.symm
    by_cases hi : i < vs.length
    · by_cases hj : j < vs.length
      · rw [List.getElem?_append_left hi] at hu
        rw [List.getElem?_append_left hj] at hu'
        exact h.sep i j u u' hu hu' hij
      · rw [hn j u' hu' hj]
        cases u.ownBlock
        · exact .inl rfl
        · exact .inr (fun e => by cases e)
    · rw [hn i u hu hi]
      exact .inl rfl
/-- a roll changed: its new list lies where the elder one lay, or in a new block, or nowhere -/
theorem RollsW.setRow (h : RollsW enc sz TR TS TC w B r R v vs rows) (h1 : TR ≠ TS) (h2 : TR ≠ TC) (h3 : TS ≠ TC) {i g cap n : Nat} (hv : v = .slice (some ⟨g, 0, none⟩) n cap) {u u' : Value} (hu : vs[i]? = some u) {nrow : List α}
    (hown : w'.ownsRow B TC sz u' nrow.length (nrow.flatMap enc)) (hgr : w.grownBy w' u.ownBlock) (hat : ∀ b, u'.ownBlock = some b → u.ownBlock = some b ∨ w.heap.size ≤ b) :
    RollsW enc sz TR TS TC (w'.setCell ⟨g, i, none⟩ u') B r R v (vs.set i u') (rows.set i nrow) := by
  have hbox : w'.heap[r]? = some (.cells #[.int .i64 R, v] TR (0, 0)) := (hgr.block r (lt_heap h.box) (fun e => h.box_ne_row h2 hu e.symm)).trans h.box
  have hl := h.lenV
  have hi : i < vs.length := (List.getElem?_eq_some_iff.1 hu).1
  have ho : w'.ownsRow B TS 1 v rows.length vs := by
    refine own_keep h.outer fun b hb _ hlt => hgr.block b hlt fun e => ?_
    rcases h.row_ne_outer h3 hu with g | g
    · rw [g] at e; cases e
    · exact g (e.symm.trans hb.symm)
  have hn : n = rows.length := by
    rcases ho.2 with ⟨e, _⟩ | ⟨_, _, _, e, _⟩
    · rw [hv] at e; cases e
    · rw [hv] at e; injection e
  subst hn
  have hgk : v.ownBlock = some g := by rw [hv]; rfl
  obtain ⟨cg, hcg⟩ := own_kind ho hgk
  refine ⟨by rw [heap_set_ne (ne_type hbox hcg h1)]; exact hbox, ?_, fun j z hz => ?_, fun j k z z' hz hz' hjk => ?_⟩
  · rw [List.length_set]
    rw [hv] at ho ⊢
    exact (ho.stored i u').1
  · rw [getD_set_row (by omega)]
    by_cases e : j = i
    · subst e
      rw [List.getElem?_set, if_pos rfl, if_pos hi] at hz
      injection hz with hz
      subst hz
      rw [if_pos rfl]
      refine own_keep hown fun b hb _ _ => heap_set_ne (fun e => ?_) _
      obtain ⟨c, hc⟩ := own_kind hown hb
      exact ne_type hcg hc h3 e.symm
    · rw [List.getElem?_set, if_neg (fun e2 => e e2.symm)] at hz
      rw [if_neg e]
      refine own_keep (h.row j z hz) fun b hb _ hlt => ?_
      rw [heap_set_ne (fun e2 => ?_)]
      · refine hgr.block b hlt (fun e2 => ?_)
        rcases h.sep j i z u hz hu e with g | g
        · rw [g] at hb; cases hb
        · exact g (hb.trans e2)
      · rcases h.row_ne_outer h3 hz with g' | g'
        · rw [g'] at hb; cases hb
        · exact g' (by rw [hb, hgk, e2])
  · have hlt : ∀ (j : Nat) (z : Value) (b : Nat), vs[j]? = some z → z.ownBlock = some b → b < w.heap.size := fun j z b hz hb => ((h.row j z hz).lt b hb).2
    by_cases e : j = i
    · have e2 : k ≠ i := fun e2 => hjk (e.trans e2.symm)
      subst e
      rw [List.getElem?_set, if_pos rfl, if_pos hi] at hz
      rw [List.getElem?_set, if_neg (fun e3 => e2 e3.symm)] at hz'
      injection hz with hz
      subst hz
      cases hb : u'.ownBlock with
      | none => exact .inl rfl
      | some b =>
        refine .inr (fun e4 => ?_)
        rcases hat b hb with g | g
        · rcases h.sep j k u z' hu hz' hjk with g2 | g2
          · rw [g] at g2; cases g2
          · exact g2 (g.trans e4)
        · have := hlt k z' b hz' e4.symm; omega
    · rw [List.getElem?_set, if_neg (fun e3 => e e3.symm)] at hz
      by_cases e2 : k = i
      · subst e2
        rw [List.getElem?_set, if_pos rfl, if_pos hi] at hz'
        injection hz' with hz'
        subst hz'
        cases hb : z.ownBlock with
        | none => exact .inl rfl
        | some b =>
          refine .inr (fun e4 => ?_)
          rcases hat b e4.symm with g | g
          · rcases h.sep j k z u hz hu hjk with g2 | g2
            · rw [hb] at g2; cases g2
            · exact g2 (hb.trans g.symm)
          · have := hlt j z b hz hb; omega
      · rw [List.getElem?_set, if_neg (fun e3 => e2 e3.symm)] at hz'
        exact h.sep j k z z' hz hz' hjk
/-- the last rolls taken away -/
theorem RollsW.cutOuter (h : RollsW enc sz TR TS TC w B r R v vs rows) (h1 : TR ≠ TS) (h2 : TR ≠ TC) {a : Option Addr} {cap n k : Nat} (hv : v = .slice a n cap) (hk : k ≤ rows.length) :
    RollsW enc sz TR TS TC (w.setCell ⟨r, 1, none⟩ (.slice a k cap)) B r R (.slice a k cap) (vs.take k) (rows.take k) := by
  have hl := h.lenV
  have hn : n = rows.length := by
    rcases h.outer.2 with ⟨e, e2⟩ | ⟨_, _, _, e, _⟩
    · rw [hv] at e; injection e with _ e; omega
    · rw [hv] at e; injection e
  subst hn
  have ho := h.outer
  rw [hv] at ho
  have hc := own_cut ho hk
  rw [Nat.mul_one] at hc
  have hlt : (rows.take k).length = k := by rw [List.length_take]; omega
  refine ⟨by rw [heap_set h.box]; rfl, ?_, fun i u hu => ?_, fun i j u u' hu hu' hij => ?_⟩
  · rw [hlt]
    refine own_keep hc fun b hb _ _ => heap_set_ne (fun e => h.box_ne_outer h1 ?_) _
    rw [hv, ← e, ← hb]
    cases a <;> rfl
  · have hi : i < k := by
      have := (List.getElem?_eq_some_iff.1 hu).1
      rw [List.length_take] at this; omega
    rw [List.getElem?_take, if_pos hi] at hu
    rw [show (rows.take k).getD i [] = rows.getD i [] by rw [List.getD_eq_getElem?_getD, List.getD_eq_getElem?_getD, List.getElem?_take, if_pos hi]]
    exact own_keep (h.row i u hu) fun b hb _ _ => heap_set_ne (fun e => h.box_ne_row h2 hu (by rw [hb, e])) _
  · have hlk : ∀ i u, (vs.take k)[i]? = some u → vs[i]? = some u := fun i u hu => by
      have := (List.getElem?_eq_some_iff.1 hu).1
      rw [List.length_take] at this
      rwa [List.getElem?_take, if_pos (by omega)] at hu
    exact h.sep i j u u' (hlk i u hu) (hlk j u' hu') hij
end
end Go.Proofs.Ythmifadnfaajbad
