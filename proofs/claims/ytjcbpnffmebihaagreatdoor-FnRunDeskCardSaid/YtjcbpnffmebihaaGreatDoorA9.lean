import Derived.Test.YtjcbpnffmebihaaGreatDoorA8
import Derived.Test.YtjcbpnffmebihaaGreatDoorRows
import Derived.WalkKit
import Derived.LoopTactic
import Derived.Outline
import Derived.WalkSpells
import Derived.WalkLawsBesides
import Derived.ProofKit
import Derived.Lib.Hide
import Derived.Deep.QuietTactic
import Derived.BigQuiet
import Derived.RegionTactic
import Derived.BigRegion
import Derived.IntWalk
set_option linter.unusedVariables false
set_option linter.unusedSimpArgs false
namespace Go.Proofs.YtjcbpnffmebihaaGreatDoor
open Go.RowKit Go.WideShapes

theorem Tryz.infoStr : (Tryz.prog.info? 9).map (fun i => (i.zero, i.size, i.bytes)) = some (some (.string ByteArray.empty), 1, 16) := by kernel_rfl
/-- a list of texts in memory -/
structure StrsAt (w : World) (S : Nat → Prop) (a : Option Addr) (len : Nat) (ss : List ByteArray) : Prop where
  lenEq : ss.length = len
  small : len ≤ 9223372036854775807
  cells : 0 < len → ∃ b off, a = some ⟨b, off, none⟩ ∧ S b ∧ ∀ i x, ss[i]? = some x → w.cell? ⟨b, off + i, none⟩ = some (.string x)
theorem StrsAt.get {w : World} {S : Nat → Prop} {a : Option Addr} {len : Nat} {ss : List ByteArray} (h : StrsAt w S a len ss) {k : Nat} (hk : k < len) :
    ∃ b off x, a = some ⟨b, off, none⟩ ∧ ss[k]? = some x ∧ w.cell? ⟨b, off + k, none⟩ = some (.string x) := by
  obtain ⟨b, off, ha, _, hc⟩ := h.cells (by omega)
  have hl := h.lenEq
  have hx : ss[k]? = some (ss[k]'(by omega)) := List.getElem?_eq_getElem (by omega)
  exact ⟨b, off, _, ha, hx, hc _ _ hx⟩
theorem StrsAt.to {w w' : World} {S S' : Nat → Prop} {a : Option Addr} {len : Nat} {ss : List ByteArray} (h : StrsAt w S a len ss) (hk : ∀ k, S k → S' k ∧ w'.heap[k]? = w.heap[k]?) : StrsAt w' S' a len ss := by
  refine ⟨h.lenEq, h.small, fun h0 => ?_⟩
  obtain ⟨b, off, ha, hb, hc⟩ := h.cells h0
  exact ⟨b, off, ha, (hk b hb).1, fun i x hx => by rw [World.cell?_of_block (w := w) (hk b hb).2]; exact hc i x hx⟩
theorem StrsAt.below {w w' : World} {n : Nat} {a : Option Addr} {len : Nat} {ss : List ByteArray} (h : StrsAt w (· < n) a len ss) (hb : Below n w w') : StrsAt w' (· < n) a len ss :=
  h.to fun k hk => ⟨hk, hb.block k hk⟩
/-- append of one text to a list of the call's own -/
theorem wpAppS {ops : Array Oper} {rest : List Oper} {o : Oper} {a : Act} {Q : Exit → Act → World → Prop} {wo : World} (hgd : o.guard = none) (s x : Operand)
    (ho : o.op = .call { callee := .builtin .append, args := #[s, x], argTypes := #[23, 23] })
    (base k cp : Nat) (ax : Option Addr) (xs : List ByteArray) (v : ByteArray) (hs : a.eval s = .slice ax k cp)
    (hown : wo.ownsRow base 9 1 (.slice ax k cp) k (xs.map .string)) (hx : a.eval x = .slice (some ⟨wo.heap.size, 0, none⟩) 1 1)
    (hbase : base ≤ wo.heap.size) (hk : k ≤ 1048576)
    (h : ∀ (a6 : Option Addr) (c6 : Nat) (w' : World), w'.ownsRow base 9 1 (.slice a6 (k + 1) c6) (k + 1) ((xs ++ [v]).map .string) → k + 1 ≤ c6 → wo.grownBy w' (Value.slice ax k cp).ownBlock →
      wpList Tryz.prog ops Q rest (a.put o.dst (.slice a6 (k + 1) c6)) w') :
    wpList Tryz.prog ops Q (o :: rest) a (wo.alloc (.cells #[.string v] 9)) := by
  obtain ⟨i0, hi, hz0, hz1, hz2⟩ := info_parts Tryz.infoStr
  refine wpList_append_own _ hgd s x 23 ho base 9 i0 (.string ByteArray.empty) 1 16 Tryz.underlying23 hi hz0 hz1 hz2 rfl (by decide) _ k _ hs (hown.alloc _) ⟨wo.heap.size, 0, none⟩ 1 1 [.string v] hx rfl (one_new _ _ _) (by simp [Value.oneCell']) (by unfold maxLen; omega) (by omega) (by simp; omega) ?_
  intro v' w6 hown6 hgrow _
  obtain ⟨a6, c6, rfl, hc⟩ := own_slice hown6
  refine h a6 c6 w6 ?_ hc (grown_comp (World.grownBy_alloc wo _ _) hgrow)
  rw [List.map_append]
  exact hown6
theorem strs_snoc {w : World} {B n : Nat} {u : Value} {xs : List ByteArray} {x : ByteArray} (h : w.ownsRow B 9 1 u n (xs.map .string ++ [.string x])) : w.ownsRow B 9 1 u n ((xs ++ [x]).map .string) := by
  rw [List.map_append]; exact h
theorem own_strs {w : World} {B l : Nat} {u : Value} {ss : List ByteArray} (h : w.ownsRow B 9 1 u l (ss.map .string)) (hl : l ≤ 9223372036854775807) :
    ∃ a cap, u = .slice a l cap ∧ l ≤ cap ∧ StrsAt w (fun b => B ≤ b ∧ b < w.heap.size) a l ss := by
  have hlen : ss.length = l := by have := h.1; simpa using this
  have hlt := h.lt
  have hc := fun g hg => h.cells (g := g) hg
  rcases h.2 with ⟨rfl, rfl⟩ | ⟨g, cap, cur, rfl, _, _, hcap, _⟩
  · exact ⟨none, 0, rfl, Nat.le_refl _, hlen, hl, fun h0 => absurd h0 (by omega)⟩
  · refine ⟨some ⟨g, 0, none⟩, cap, rfl, hcap, hlen, hl, fun h0 => ⟨g, 0, rfl, hlt g rfl, fun i x hx => ?_⟩⟩
    have := hc g rfl i (.string x) (by rw [List.getElem?_map, hx]; rfl)
    rw [add_plain] at this
    exact this
/-- a new list of these texts, that is the call's own -/
def NewStrs (w : World) (ss : List ByteArray) (e : Ending) (w' : World) : Prop := ∃ (a : Option Addr) (len cap : Nat), e = .returned (.slice a len cap) ∧ len ≤ 1048576 ∧
  w'.ownsRow w.heap.size 9 1 (.slice a len cap) len (ss.map .string) ∧ Below w.heap.size w w'
theorem newStrs_own {w wr : World} {k cp : Nat} {ax : Option Addr} {ss : List ByteArray} (h : wr.ownsRow w.heap.size 9 1 (.slice ax k cp) k (ss.map .string)) (hb : Below w.heap.size w wr) (hk : k ≤ 1048576) :
    NewStrs w ss (.returned (.slice ax k cp)) wr := ⟨_, _, _, rfl, hk, h, hb⟩
theorem own_strsAt {w : World} {B l c : Nat} {a : Option Addr} {ss : List ByteArray} (h : w.ownsRow B 9 1 (.slice a l c) l (ss.map .string)) (hl : l ≤ 1048576) : StrsAt w (fun b => B ≤ b ∧ b < w.heap.size) a l ss := by
  obtain ⟨a', c', e, _, hs⟩ := own_strs h (by omega)
  injection e with e1 _ _
  subst e1
  exact hs
set_option maxRecDepth 100000 in
set_option maxHeartbeats 2000000 in
/-- the model's cut of a text -/
theorem splitAt_any (s : ByteArray) (c : UInt8) (w : World) (hs : s.size ≤ 1048575) :
    Calls Tryz.prog 31 #[.string s, .int .u8 (c.toNat : Int)] w (NewStrs w (splitB s c)) := by
  have hlen := splitB_pos s c
  go_enter Tryz.func31, Tryz.ntmps31
  go_wp2
  go_loopw [5, 6, 7] (fun v f i wr => ∃ (k q m cp : Nat) (ax : Option Addr) (ps : List ByteArray), k ≤ s.size ∧ q ≤ k ∧ i = .int .i64 k ∧ f = .int .i64 q ∧ v = .slice ax m cp ∧ m ≤ k ∧ wr.ownsRow w.heap.size 9 1 v m (ps.map .string) ∧ ps ++ pieces s c q k = splitB s c ∧ Below w.heap.size w wr) (fun _ _ i _ => s.size - (intOf i).toNat)
  case atStart => exact ⟨0, 0, 0, 0, _, [], Nat.zero_le _, Nat.le_refl _, rfl, rfl, rfl, Nat.le_refl _, World.ownsRow_made _ _ _ (Nat.le_refl _) (Nat.zero_le _) rfl, rfl, (Below.refl _ _).alloc (Nat.le_refl _) _⟩
  case round =>
    obtain ⟨k, q, m, cp, ax, ps, hk, hqk, rfl, rfl, rfl, hm, hown, hps, hB⟩ := hrel
    obtain ⟨wo, rfl⟩ : ∃ wo : World, wo = wr := ⟨_, rfl⟩
    have HOWN := Lib.hid hown
    have HB := Lib.hid hB
    have HP := Lib.hid hps
    clear hown hB hps
    by_cases hlt : k < s.size
    · have hki : (k : Int) < (s.size : Int) := by omega
      by_cases e : s[k] = c
      · have HP2 := Lib.hid (show (ps ++ [s.extract q k]) ++ pieces s c (k + 1) (k + 1) = splitB s c by rw [← HP.out, pieces_hit hlt e, List.append_assoc]; rfl)
        have HE := Lib.hid e
        have he : ((s[k].toNat : Int) == (c.toNat : Int)) = true := by rw [e]; exact beq_self_eq_true _
        clear e
        go_wp2_with (at_builtin; refine wpAppS rfl _ _ rfl w.heap.size _ _ _ _ _ rfl HOWN.out rfl HB.out.size (by omega) ?_)
        intro a6 c6 w6 hown hc6 hgr
        have HO6 := Lib.hid hown
        have HG6 := Lib.hid hgr
        clear hown hgr
        go_wp2
        go_roundw
        case rel => exact ⟨k + 1, k + 1, m + 1, c6, a6, _, by omega, Nat.le_refl _, by go_num, by go_num, rfl, by omega, strs_snoc HO6.out, HP2.out, HB.out.grown HG6.out HB.out.size (own_block HOWN.out)⟩
        case measure => simp [intOf] <;> omega
      · have HP2 := Lib.hid (show ps ++ pieces s c q (k + 1) = splitB s c by rw [← HP.out, pieces_miss hlt e])
        have he : ((s[k].toNat : Int) == (c.toNat : Int)) = false := by
          rw [beq_eq_false_iff_ne]
          intro h
          exact e (UInt8.toNat_inj.1 (by omega))
        clear e
        go_wp2
        go_roundw
        case rel => exact ⟨k + 1, q, m, cp, ax, ps, by omega, by omega, by go_num, rfl, rfl, by omega, HOWN.out, HP2.out, HB.out⟩
        case measure => simp [intOf] <;> omega
    · have HP2 := Lib.hid (show ps ++ [s.extract q s.size] = splitB s c by rw [← HP.out, pieces_end hlt])
      have hki : ¬ (k : Int) < (s.size : Int) := by omega
      have hq0 : q ≤ s.size := by omega
      go_wp2_with (at_builtin; refine wpAppS rfl _ _ rfl w.heap.size _ _ _ _ _ rfl HOWN.out rfl HB.out.size (by omega) ?_)
      intro a6 c6 w6 hown hc6 hgr
      have HO6 := Lib.hid hown
      have HG6 := Lib.hid hgr
      clear hown hgr
      go_wp2
      go_ret
      rw [← HP2.out]
      exact newStrs_own (strs_snoc HO6.out) (HB.out.grown HG6.out HB.out.size (own_block HOWN.out)) (by omega)
end Go.Proofs.YtjcbpnffmebihaaGreatDoor
namespace Go.Proofs.YtjcbpnffmebihaaGreatDoor

def bitN (x j : Nat) : Nat := x / 2 ^ j % 2
inductive PF (xs : List Int) (s h : Int) : Nat → Int → Prop where
  | none : PF xs s h 0 0
  | lot (i d : Nat) (c : Int) (hd : i + (d + 1) ≤ xs.length) (hc : PF xs s h i c) : PF xs s h (i + (d + 1)) (c + runD xs s h i (d + 1))
theorem runD_up {xs : List Int} (hx : ∀ k, 0 ≤ xs.getD k 0) {s h s' h' : Int} (hs : s ≤ s') (hh : h ≤ h') (i d : Nat) : runD xs s h i d ≤ runD xs s' h' i d := by
  have := Int.mul_le_mul_of_nonneg_right hh (hsum_nonneg hx i d)
  unfold runD; split <;> omega
theorem PC.up {xs : List Int} (hx : ∀ k, 0 ≤ xs.getD k 0) {s h s' h' : Int} (hs : s ≤ s') (hh : h ≤ h') {i : Nat} {c : Int} (p : PC xs s' h' i c) : ∃ c', PC xs s h i c' ∧ c' ≤ c := by
  induction p with
  | done => exact ⟨0, PC.done, Int.le_refl _⟩
  | lot i d c hd _ ih =>
    obtain ⟨c', h1, h2⟩ := ih
    exact ⟨_, PC.lot i d c' hd h1, by have := runD_up hx hs hh i (d + 1); omega⟩
end Go.Proofs.YtjcbpnffmebihaaGreatDoor
namespace Go.Proofs.YtjcbpnffmebihaaGreatDoor
open Go.RowKit Go.WideShapes

/-- a list made behind the reader R, ahead of block B -/
def LAt (w : World) (R B : Nat) (a : Option Addr) (l : Nat) (xs : List Int) : Prop := IntsAt w (fun b => R < b ∧ b < B) a l xs ∧ B ≤ w.heap.size
theorem LAt.step {w w' : World} {R B l : Nat} {a : Option Addr} {xs : List Int} (h : LAt w R B a l xs) (hg : w.grownBy w' (some R)) : LAt w' R B a l xs :=
  ⟨h.1.to (fun b hb => ⟨hb, hg.block b (Nat.lt_of_lt_of_le hb.2 h.2) (by intro e; injection e; omega)⟩), Nat.le_trans h.2 hg.size⟩
theorem LAt.alloc {w : World} {R B l : Nat} {a : Option Addr} {xs : List Int} (h : LAt w R B a l xs) (o : Obj) : LAt (w.alloc o) R B a l xs := h.step (World.grownBy_alloc _ _ _)
theorem LAt.low {w : World} {R B l : Nat} {a : Option Addr} {xs : List Int} (h : LAt w R B a l xs) : IntsAt w (· < w.heap.size) a l xs := h.1.to (fun _ hb => ⟨Nat.lt_of_lt_of_le hb.2 h.2, rfl⟩)
theorem own_low {w : World} {B l cp : Nat} {a : Option Addr} {xs : List Int} (h : w.ownsRow B 3 1 (.slice a l cp) l (xs.map (.int .i64))) (hl : l ≤ 9223372036854775807) : IntsAt w (· < w.heap.size) a l xs := by
  obtain ⟨ay, cy, hve, _, hints⟩ := own_ints h hl
  simp only [Value.slice.injEq] at hve
  obtain ⟨rfl, _, rfl⟩ := hve
  exact hints.to (fun _ hb => ⟨hb.2, rfl⟩)
theorem grown_of_below {w w' : World} (h : Below w.heap.size w w') (r : Option Nat) : w.grownBy w' r := ⟨h.os, h.tape, h.output, h.size, fun b hb _ => h.block b hb⟩
theorem Rd.step {w w' : World} {R p : Nat} (h : Rd w R p) (hb : Below w.heap.size w w') : Rd w' R p :=
  h.grown (r := none) (grown_of_below hb none) (fun k e => by cases e)
end Go.Proofs.YtjcbpnffmebihaaGreatDoor
namespace Go.Proofs.YtjcbpnffmebihaaGreatDoor
open Go.RowKit Go.WideShapes

theorem Tryz.infoIntP : (Tryz.prog.info? 3).map (fun i => (i.zero, i.size, i.bytes)) = some (some (.int .i64 0), 1, 8) := by kernel_rfl
def validLotsM (xs : List Int) (s h : Int) : Bool := validDaysM xs && inB 0 30 s && inB 0 30 h
theorem validLots_get {xs : List Int} {s h : Int} (hv : validLotsM xs s h = true) : validDaysM xs = true ∧ (0 ≤ s ∧ s ≤ 30) ∧ (0 ≤ h ∧ h ≤ 30) := by
  simp only [validLotsM, Bool.and_eq_true] at hv
  have h1 : 0 ≤ s ∧ s ≤ 30 := by simpa [inB] using hv.1.2
  have h2 : 0 ≤ h ∧ h ≤ 30 := by simpa [inB] using hv.2
  exact ⟨hv.1.1, h1, h2⟩
theorem validLots_any (S : Nat → Prop) (a : Option Addr) (len cap : Nat) (xs : List Int) (s h : Int) (w : World) (hx : IntsAt w S a len xs) :
    Calls Tryz.prog 38 #[.slice a len cap, .int .i64 s, .int .i64 h] w fun e w' => e = .returned (.bool (validLotsM xs s h)) ∧ w = w' := by
  cases hv : validDaysM xs
  · go_enter Tryz.func38, Tryz.ntmps38
    go_wp2_with (go_at_call 57; refine (validDays_spec0 _ _ _ _ xs _ hx).mono ?_; rintro e w' ⟨rfl, rfl⟩)
    go_ret
    exact ⟨ret_bool (by unfold validLotsM; rw [hv]; rfl), rfl⟩
  · cases hs : inB 0 30 s
    · go_enter Tryz.func38, Tryz.ntmps38
      go_wp2_with (first | (go_at_call 57; refine (validDays_spec0 _ _ _ _ xs _ hx).mono ?_; rintro e w' ⟨rfl, rfl⟩) | (go_at_call 54; refine (inRange_any _ _ _ _).mono ?_; rintro e w' ⟨rfl, rfl⟩))
      go_ret
      exact ⟨ret_bool (by unfold validLotsM; rw [hv, hs]; rfl), rfl⟩
    · go_enter Tryz.func38, Tryz.ntmps38
      go_wp2_with (first | (go_at_call 57; refine (validDays_spec0 _ _ _ _ xs _ hx).mono ?_; rintro e w' ⟨rfl, rfl⟩) | (go_at_call 54; refine (inRange_any _ _ _ _).mono ?_; rintro e w' ⟨rfl, rfl⟩))
      go_ret
      exact ⟨ret_bool (by unfold validLotsM; rw [hv, hs]; rfl), rfl⟩
theorem specSum_any (S : Nat → Prop) (a : Option Addr) (len cap : Nat) (xs : List Int) (w : World) (h : IntsAt w S a len xs) (hb : ∀ x ∈ xs, -1099511627776 ≤ x ∧ x ≤ 1099511627776) (hl : len ≤ 1048576) :
    Calls Tryz.prog 28 #[.slice a len cap] w fun e w' => e = .returned (.int .i64 (totalM xs)) ∧ w = w' := by
  go_enter Tryz.func28, Tryz.ntmps28
  go_wp2
  go_loop [3, 4] (fun n i => ∃ k : Nat, k ≤ len ∧ i = .int .i64 k ∧ n = .int .i64 (totalM (xs.take k))) (fun _ i => len - (intOf i).toNat)
  case atStart => exact ⟨0, Nat.zero_le _, rfl, rfl⟩
  case round =>
    obtain ⟨k, hk, rfl, rfl⟩ := hrel
    by_cases hlt : k < len
    · obtain ⟨b, off, x, rfl, hx, hc⟩ := h.get hlt
      have hx1 := hb x (List.mem_of_getElem? hx)
      have hx2 := totalM_bd (B := 1099511627776) (by omega) (fun y hy => hb y (take_mem (k := k) hy))
      have hll : ((xs.take k).length : Int) ≤ 1048576 := by rw [List.length_take]; omega
      have HX := Lib.hid hx
      clear hx
      generalize hT : totalM (xs.take k) = t at hx2 ⊢
      have HT := Lib.hid hT
      clear hT
      have ht1 : -1152921504606846976 ≤ t := by omega
      have ht2 : t ≤ 1152921504606846976 := by omega
      clear hx2 hll
      go_wp2
      go_round
      case rel => exact ⟨k + 1, by omega, by go_num, by rw [take_get HX.out, totalM_snoc, HT.out]⟩
      case measure => simp [intOf]; omega
    · have hle := h.lenEq
      have HL := Lib.hid hle
      clear hle
      go_wp2
      go_ret
      exact ⟨ret_int (by rw [List.take_of_length_le (by rw [HL.out]; omega)]), rfl⟩
theorem mul_box3 {a b A B : Int} (ha : 0 ≤ a) (ha' : a ≤ A) (hb : 0 ≤ b) (hb' : b ≤ B) : 0 ≤ a * b ∧ a * b ≤ A * B :=
  ⟨Int.mul_nonneg ha hb, Int.mul_le_mul ha' hb' hb (by omega)⟩
theorem ints_part {w : World} {S : Nat → Prop} {b off len : Nat} {xs : List Int} (h : IntsAt w S (some ⟨b, off, none⟩) len xs) (i k : Nat) (hi : i < k) (hk : k ≤ len) : IntsAt w S (some ⟨b, off + i, none⟩) (k - i) ((xs.drop i).take (k - i)) := by
  have hl := h.lenEq
  have hs := h.small
  obtain ⟨b', off', e, hS, hc⟩ := h.cells (by omega)
  cases e
  refine ⟨by simp; omega, by omega, fun _ => ⟨b, off + i, rfl, hS, fun j x hx => ?_⟩⟩
  rw [List.getElem?_take] at hx
  split at hx
  · rw [List.getElem?_drop] at hx
    rw [Nat.add_assoc]
    exact hc _ _ hx
  · cases hx
theorem days_mem {xs : List Int} (hx : ∀ k, 0 ≤ xs.getD k 0 ∧ xs.getD k 0 ≤ 20) : ∀ x ∈ xs, -1099511627776 ≤ x ∧ x ≤ 1099511627776 := by
  intro x hx'
  obtain ⟨k, hk, rfl⟩ := List.mem_iff_getElem.1 hx'
  have := hx k
  rw [List.getD_eq_getElem?_getD, List.getElem?_eq_getElem hk] at this
  simp at this
  omega
set_option maxRecDepth 100000 in
set_option maxHeartbeats 2000000 in
theorem run_any (S : Nat → Prop) (a : Option Addr) (len cap : Nat) (xs : List Int) (i k : Nat) (s h : Int) (w : World) (hx : IntsAt w S a len xs) (hcap : len ≤ cap) (hl : len ≤ 8) (hv : ∀ k, 0 ≤ xs.getD k 0 ∧ xs.getD k 0 ≤ 20) (hik : i < k) (hk : k ≤ len) (hs : 0 ≤ s ∧ s ≤ 31) (hh : 0 ≤ h ∧ h ≤ 31) :
    Calls Tryz.prog 58 #[.slice a len cap, .int .i64 i, .int .i64 k, .int .i64 s, .int .i64 h] w fun e w' => e = .returned (.int .i64 (runD xs s h i (k - i))) ∧ w = w' := by
  obtain ⟨hs0, hs1⟩ := hs
  obtain ⟨hh0, hh1⟩ := hh
  have HL := Lib.hid hx.lenEq
  have HV := Lib.hid hv
  obtain ⟨b, off, rfl, hS, hcell⟩ := hx.cells (by omega)
  have HX := Lib.hid hx
  clear hv hx
  go_enter Tryz.func58, Tryz.ntmps58
  go_wp2
  go_loop [11, 12] (fun n v => ∃ q : Nat, i ≤ q ∧ q ≤ k ∧ v = .int .i64 q ∧ n = .int .i64 (h * hsum xs i (q - i))) (fun _ q => k - (intOf q).toNat)
  case atStart => exact ⟨i, by omega, by omega, rfl, by simp [hsum]⟩
  case round =>
    obtain ⟨q, hq1, hq2, rfl, rfl⟩ := hrel
    by_cases hlt : q < k
    · obtain ⟨b', off', x, e, hxx, hc⟩ := HX.out.get (k := q) (by omega)
      cases e
      have hxb := HV.out q
      rw [getD_of hxx] at hxb
      have h1 := hsum_bd HV.out i (q - i) (by omega)
      have h2 := hsum_nonneg (fun k => (HV.out k).1) i (q - i)
      have HN := Lib.hid (show h * hsum xs i (q + 1 - i) = h * hsum xs i (q - i) + h * ((q : Int) - (i : Int)) * x by
        rw [show q + 1 - i = (q - i) + 1 by omega, hsum, show i + (q - i) = q by omega, getD_of hxx, show ((q - i : Nat) : Int) = (q : Int) - (i : Int) by omega, Int.mul_add, Int.mul_assoc])
      have h3 := mul_box3 hh0 hh1 h2 (show hsum xs i (q - i) ≤ 1280 by omega)
      have h4 := mul_box3 hh0 hh1 (show (0 : Int) ≤ (q : Int) - (i : Int) by omega) (show (q : Int) - (i : Int) ≤ 8 by omega)
      clear hxx h1 h2 hcell
      generalize h * hsum xs i (q - i) = o at h3 HN ⊢
      generalize hp : h * ((q : Int) - (i : Int)) = p at h4 HN
      have h5 := mul_box3 h4.1 h4.2 hxb.1 hxb.2
      have hlt2 : (q : Int) < (k : Int) := by omega
      have hlt3 : (q : Int) < (len : Int) := by omega
      have hlt4 : q < len := by omega
      go_wp2
      go_round
      case rel => exact ⟨q + 1, by omega, by omega, by go_num, by rw [HN.out]⟩
      case measure => simp [intOf]; omega
    · obtain rfl : q = k := by omega
      have hpart := ints_part HX.out i q hik hk
      have HS := Lib.hid (totalM_part xs i (q - i) (by rw [HL.out]; omega))
      have h1 := hsum_bd HV.out i (q - i) (by omega)
      have h2 := hsum_nonneg (fun k => (HV.out k).1) i (q - i)
      have h3 := mul_box3 hh0 hh1 h2 (show hsum xs i (q - i) ≤ 1280 by omega)
      have HR := Lib.hid (show runD xs s h i (q - i) = h * hsum xs i (q - i) + (if 0 < sumN xs (i + (q - i)) - sumN xs i then s else 0) from rfl)
      clear h1 h2 hcell
      generalize h * hsum xs i (q - i) = o at h3 HR ⊢
      have hne : ¬ cap = i := by omega
      have hiq : i ≤ q := by omega
      have hqc : q ≤ cap := by omega
      go_wp2_with fail
      refine (specSum_any S _ (q - i) (cap - i) _ w hpart (fun y hy => days_mem HV.out y (List.mem_of_mem_drop (List.mem_of_mem_take hy))) (by omega)).mono ?_
      rintro e w' ⟨rfl, rfl⟩
      rw [HS.out]
      generalize sumN xs (i + (q - i)) - sumN xs i = t at HR ⊢
      by_cases ht : 0 < t
      · rw [if_pos ht] at HR
        go_wp2
        go_ret
        exact ⟨ret_int HR.out.symm, rfl⟩
      · rw [if_neg ht, Int.add_zero] at HR
        go_wp2
        go_ret
        exact ⟨ret_int HR.out.symm, rfl⟩

-- LotCost
/-- of the days behind i, so many lots are tried: the least cost, -1 ahead of the first -/
def curM (xs : List Int) (s h : Int) (i : Nat) : Nat → Int
  | 0 => -1
  | m + 1 => minTo (fun d => runD xs s h i (d + 1) + bst xs s h (i + (d + 1))) m
def doneB (xs : List Int) (s h : Int) (m q : Nat) : Int := if m ≤ q then bst xs s h q else 0
def bestNow (xs : List Int) (s h : Int) (i : Nat) (c : Int) (q : Nat) : Int := if q = i then c else if i < q then bst xs s h q else 0
set_option maxRecDepth 100000 in
set_option maxHeartbeats 4000000 in
theorem bestFrom_spec (a : Option Addr) (len cap : Nat) (xs : List Int) (s h : Int) (w : World) (hx : IntsAt w (· < w.heap.size) a len xs) (hcap : len ≤ cap) (hv : validLotsM xs s h = true) :
    Calls Tryz.prog 41 #[.slice a len cap, .int .i64 s, .int .i64 h] w fun e w' => e = .returned (.slice (some ⟨w.heap.size, 0, none⟩) (len + 1) (len + 1)) ∧ OwnF w w' (len + 1) (bst xs s h) := by
  obtain ⟨hvd, hs', hh'⟩ := validLots_get hv
  have HL := Lib.hid hx.lenEq
  have hl8 : len ≤ 8 := by have := validDays_len hvd; have := HL.out; omega
  have HAT := Lib.hid (validDays_at hvd)
  have HBD := Lib.hid (fun i (hi : i ≤ xs.length) => bst_bd (s := s) (h := h) (validDays_len hvd) (validDays_at hvd) (by omega) (by omega) hi)
  have HEND := Lib.hid (bst_end xs s h)
  have hmk := fun w => run_make_row' (P := Tryz.prog) 35 3 (.int .i64 0) 8 Tryz.underlying35 Tryz.infoIntP rfl .i64 .i64 (len + 1) (by omega) (by omega) w
  have hpc : (((len + 1 : Nat) : Int)) = (len : Int) + 1 := by omega
  rw [hpc] at hmk
  clear hpc
  have hO0 := (OwnF.start w (len + 1) (by omega)).congr (g := doneB xs s h len) (fun q hq => by unfold doneB; split; rw [show q = xs.length by rw [HL.out]; omega, HEND.out]; rfl)
  have HO0 := Lib.hid hO0
  obtain ⟨hs0, hs1⟩ := hs'
  obtain ⟨hh0, hh1⟩ := hh'
  clear hO0 hv hvd
  go_enter Tryz.func41, Tryz.ntmps41
  go_wp2
  clear hmk
  go_loopw [9] (fun i wr => ∃ v : Int, -1 ≤ v ∧ v < len ∧ i = .int .i64 v ∧ OwnF w wr (len + 1) (doneB xs s h (v + 1).toNat)) (fun i _ => (intOf i + 1).toNat)
  case atStart => exact ⟨(len : Int) - 1, by omega, by omega, rfl, by rw [show ((len : Int) - 1 + 1).toNat = len by omega]; exact HO0.out⟩
  case round =>
    obtain ⟨v, hv1, hv2, rfl, hC⟩ := hrel
    clear HO0
    obtain ⟨wo, rfl⟩ : ∃ wo : World, wo = wr := ⟨_, rfl⟩
    by_cases h0v : 0 ≤ v
    · obtain ⟨i, rfl⟩ : ∃ i : Nat, v = (i : Int) := ⟨v.toNat, by omega⟩
      rw [show ((i : Int) + 1).toNat = i + 1 by omega] at hC
      have hil : i < len := by omega
      obtain ⟨e1, f1⟩ := hC.cell (q := i) (by omega)
      have HC1 := Lib.hid ((hC.put i (-1)).congr (g := bestNow xs s h i (curM xs s h i 0)) (fun q _ => by unfold bestNow doneB curM; by_cases e : q = i; rw [if_pos e, if_pos e]; rw [if_neg e, if_neg e]; (repeat' split) <;> first | rfl | omega))
      have hil2 : (i : Int) < (len : Int) + 1 := by omega
      have hil3 : i < len + 1 := by omega
      clear hC
      go_wp2
      go_loopw [10] (fun k wr => ∃ m : Nat, i + m ≤ len ∧ k = .int .i64 ((i + 1 + m : Nat) : Int) ∧ OwnF w wr (len + 1) (bestNow xs s h i (curM xs s h i m))) (fun k _ => len + 1 - (intOf k).toNat)
      case atStart => exact ⟨0, by omega, by go_num, HC1.out⟩
      case round =>
        clear HC1
        obtain ⟨m, hm, rfl, hC⟩ := hrel
        obtain ⟨wi, rfl⟩ : ∃ wi : World, wi = wr := ⟨_, rfl⟩
        by_cases hml : i + 1 + m ≤ len
        · obtain ⟨kk, hkk⟩ : ∃ kk, kk = i + 1 + m := ⟨_, rfl⟩
          rw [← hkk] at hml ⊢
          obtain ⟨e1, f1⟩ := hC.cell (q := i) (by omega)
          obtain ⟨e2, f2⟩ := hC.cell (q := kk) (by omega)
          have v1 : bestNow xs s h i (curM xs s h i m) i = curM xs s h i m := by unfold bestNow; rw [if_pos rfl]
          have v2 : bestNow xs s h i (curM xs s h i m) kk = bst xs s h kk := by unfold bestNow; rw [if_neg (by omega), if_pos (by omega)]
          rw [v1] at e1
          rw [v2] at e2
          have hxw := hx.below hC.below
          have hrb := runD_bd HAT.out (s := s) (h := h) (by omega) (by omega) i (kk - i) (by omega)
          have hbb := HBD.out kk (by rw [HL.out]; omega)
          have HC := Lib.hid hC
          have HKK := Lib.hid hkk
          have HRUN := Lib.hid (show ∀ z, Calls Tryz.prog 58 #[.slice a len cap, .int .i64 i, .int .i64 kk, .int .i64 s, .int .i64 h] (wi.drewN z) (fun e w' => e = .returned (.int .i64 (runD xs s h i (kk - i))) ∧ ∃ q, w' = (wi.drewN z).drewN q) from fun z =>
            (run_any _ a len cap xs i kk s h (wi.drewN z) (Drew.ints hxw ⟨z, rfl⟩) hcap hl8 HAT.out (by omega) hml (by omega) (by omega)).mono (fun e w' he => ⟨he.1, 0, by rw [← he.2]; rfl⟩))
          have HG := Lib.hid (show curM xs s h i (m + 1) = if m = 0 then runD xs s h i (kk - i) + bst xs s h kk else min (curM xs s h i m) (runD xs s h i (kk - i) + bst xs s h kk) by
            rw [hkk, show i + 1 + m - i = m + 1 by omega]
            cases m with
            | zero => rfl
            | succ m => rw [if_neg (by omega), curM, minTo, curM, show i + 1 + (m + 1) = i + (m + 1 + 1) by omega])
          have hcb : m = 0 ∧ curM xs s h i m = -1 ∨ 0 < m ∧ 0 ≤ curM xs s h i m ∧ curM xs s h i m ≤ 1000000 := by
            cases m with
            | zero => exact Or.inl ⟨rfl, rfl⟩
            | succ m =>
              right
              obtain ⟨d, hd, e⟩ := minTo_at (fun d => runD xs s h i (d + 1) + bst xs s h (i + (d + 1))) m
              have := runD_bd HAT.out (s := s) (h := h) (by omega) (by omega) i (d + 1) (by omega)
              have := HBD.out (i + (d + 1)) (by rw [HL.out]; omega)
              rw [curM, e]; omega
          clear hC hkk v1 v2 hxw
          generalize runD xs s h i (kk - i) = r at hrb HRUN HG
          generalize bst xs s h kk = bk at hbb e2 HG
          generalize curM xs s h i m = cu at e1 hcb HG HC ⊢
          have hkl : (kk : Int) < (len : Int) + 1 := by omega
          have hkl3 : (kk : Int) ≤ (len : Int) := by omega
          have hkl2 : kk < len + 1 := by omega
          have hw1 : IntKind.i64.wrap (r + bk) = r + bk := IntWalk.i64_in _ (by omega)
          go_wp2_with fail
          go_quiet ((go_at_call 58; exact Calls.quiet_of (HRUN.out _)))
          clear hw1
          have HCD := Lib.hid (HC.out.drew nq)
          have e1' : (wi.drewN nq).cell? ⟨w.heap.size, i, none⟩ = some (.int .i64 cu) := e1
          have f1' : (wi.drewN nq).frozen? ⟨w.heap.size, i, none⟩ = false := f1
          clear e1 f1 e2 f2 HC
          generalize wi.drewN nq = wd at *
          have hrel : ∀ c', curM xs s h i (m + 1) = c' → ∀ q, q < len + 1 → (if q = i then c' else bestNow xs s h i cu q) = bestNow xs s h i (curM xs s h i (m + 1)) q := fun c' e q _ => by
            unfold bestNow; rw [e]; by_cases e' : q = i; rw [if_pos e', if_pos e']; rw [if_neg e', if_neg e', if_neg e']
          have HREL := Lib.hid hrel
          clear hrel
          rcases hcb with ⟨hm0, hcu⟩ | ⟨hm0, hcu0, hcu1⟩
          · have HG0 := Lib.hid (HG.out.trans (if_pos hm0))
            have HCU := Lib.hid hcu
            subst hcu
            clear hm0
            go_wp2
            go_roundw
            case rel => exact ⟨m + 1, by have := HKK.out; omega, by have := HKK.out; subst this; go_num, (HCD.out.put i _).congr (fun q hq => HREL.out _ HG0.out q hq)⟩
            case measure => simp [intOf]; omega
          · have HG0 := Lib.hid (HG.out.trans (if_neg (by omega)))
            by_cases hlt : r + bk < cu
            · have HG1 := Lib.hid (HG0.out.trans (by omega : min cu (r + bk) = r + bk))
              go_wp2
              go_roundw
              case rel => exact ⟨m + 1, by have := HKK.out; omega, by have := HKK.out; subst this; go_num, (HCD.out.put i _).congr (fun q hq => HREL.out _ HG1.out q hq)⟩
              case measure => simp [intOf]; omega
            · have HG1 := Lib.hid (HG0.out.trans (by omega : min cu (r + bk) = cu))
              go_wp2
              go_roundw
              case rel => exact ⟨m + 1, by have := HKK.out; omega, by have := HKK.out; subst this; go_num, by rw [HG1.out]; exact HCD.out⟩
              case measure => simp [intOf]; omega
        · have hmz : m = len - i := by omega
          have HC := Lib.hid (hC.congr (g := doneB xs s h i) (fun q _ => by
            have e : curM xs s h i m = bst xs s h i := by
              rw [bst_rec (by rw [HL.out]; exact hil), HL.out, show m = len - 1 - i + 1 by omega]; rfl
            unfold bestNow doneB
            rw [e]
            by_cases e1 : q = i
            · subst e1; rw [if_pos rfl, if_pos (by omega)]
            · rw [if_neg e1]; by_cases e2 : i < q
              · rw [if_pos e2, if_pos (by omega)]
              · rw [if_neg e2, if_neg (by omega)]))
          have hkl : (len : Int) < ((i + 1 + m : Nat) : Int) := by omega
          clear hC hmz
          generalize i + 1 + m = kk at *
          go_wp2
          go_roundw
          case rel => exact ⟨(i : Int) - 1, by omega, by omega, rfl, by rw [show ((i : Int) - 1 + 1).toNat = i by omega]; exact HC.out⟩
          case measure => simp [intOf] <;> omega
    · obtain rfl : v = -1 := by omega
      have HC := Lib.hid (hC.congr (g := bst xs s h) (fun q _ => by unfold doneB; rw [if_pos (by omega)]))
      clear hC
      go_wp2
      go_ret
      exact ⟨rfl, HC.out⟩
def leastRes (xs : List Int) (s h : Int) : Int := if validLotsM xs s h then bst xs s h 0 else -1
theorem leastRes_no {xs : List Int} {s h : Int} (e : validLotsM xs s h = false) : leastRes xs s h = -1 := by unfold leastRes; rw [e]; rfl
theorem leastRes_yes {xs : List Int} {s h : Int} (e : validLotsM xs s h = true) : leastRes xs s h = bst xs s h 0 := by unfold leastRes; rw [e]; rfl
def IntVal (w : World) (n : Int) (e : Ending) (w' : World) : Prop := e = .returned (.int .i64 n) ∧ Below w.heap.size w w'
end Go.Proofs.YtjcbpnffmebihaaGreatDoor
namespace Go.Proofs.YtjcbpnffmebihaaGreatDoor

/-- the first day of the lot of day q, when the lot of day i ends ahead of day nx i -/
def owner (nx : Nat → Nat) : Nat → Nat
  | 0 => 0
  | q + 1 => if nx (owner nx q) = q + 1 then q + 1 else owner nx q
def Nexts (nx : Nat → Nat) (n : Nat) : Prop := ∀ i, i < n → i < nx i ∧ nx i ≤ n
/-- within a lot -/
theorem owner_run {nx : Nat → Nat} {i : Nat} (hi : owner nx i = i) : ∀ d, i + d < nx i → owner nx (i + d) = i := by
  intro d
  induction d with
  | zero => intro _; exact hi
  | succ d ih =>
    intro h
    rw [← Nat.add_assoc, owner, ih (by omega), if_neg (by omega)]
/-- the next lot begins -/
theorem owner_next {nx : Nat → Nat} {i : Nat} (hi : owner nx i = i) (h : i < nx i) : owner nx (nx i) = nx i := by
  obtain ⟨d, hd⟩ : ∃ d, nx i = i + d + 1 := ⟨nx i - i - 1, by omega⟩
  rw [hd, owner, owner_run hi d (by omega), if_pos hd]
/-- what is made on day q -/
def madeAt (nx : Nat → Nat) (xs : List Int) (q : Nat) : Int := if owner nx q = q then sumN xs (nx q) - sumN xs q else 0
def madeM (nx : Nat → Nat) (xs : List Int) : List Int := tab (madeAt nx xs) xs.length
theorem madeM_length (nx : Nat → Nat) (xs : List Int) : (madeM nx xs).length = xs.length := tab_length _ _
theorem madeAt_bd {nx : Nat → Nat} {xs : List Int} {B : Int} (hx : ∀ k, 0 ≤ xs.getD k 0 ∧ xs.getD k 0 ≤ B) (h : Nexts nx xs.length) {q : Nat} (hq : q < xs.length) : 0 ≤ madeAt nx xs q ∧ madeAt nx xs q ≤ B * xs.length := by
  have h1 := h q hq
  have h2 := sumN_le (fun k => (hx k).1) (show q ≤ nx q by omega)
  have h3 := sumN_bd hx (nx q)
  have h4 := sumN_bd hx q
  have hB : 0 ≤ B := by have := hx 0; omega
  have h5 : B * ((nx q : Nat) : Int) ≤ B * xs.length := Int.mul_le_mul_of_nonneg_left (by omega) hB
  unfold madeAt; split <;> omega
end Go.Proofs.YtjcbpnffmebihaaGreatDoor
namespace Go.Proofs.YtjcbpnffmebihaaGreatDoor

-- the pace (plain)
/-- U by D is the greatest of the pairs, 0 by 1 if all are 0 -/
structure IsGr (U D : Nat) (Q : Int → Nat → Prop) : Prop where
  d1 : 1 ≤ D
  u36 : U ≤ 36
  d12 : D ≤ 12
  cop : Nat.gcd U D = 1
  all : ∀ T C, Q T C → T * (D : Int) ≤ (U : Int) * (C : Int)
  one : (U = 0 ∧ D = 1) ∨ ∃ T C, Q T C ∧ 1 ≤ C ∧ T * (D : Int) = (U : Int) * (C : Int)
/-- the pace of a net: in lowest terms, kept, and nothing less is kept -/
structure IsPace (g : Gr) (U D : Nat) : Prop where
  d1 : 1 ≤ D
  u36 : U ≤ 36
  d12 : D ≤ 12
  cop : Nat.gcd U D = 1
  kept : g.keeps U D
  least : ∀ up down : Int, 0 ≤ up → 1 ≤ down → g.keeps up down → (U : Int) * down ≤ up * (D : Int)
end Go.Proofs.YtjcbpnffmebihaaGreatDoor
namespace Go.Proofs.YtjcbpnffmebihaaGreatDoor
open Go.RowKit Go.WideShapes

theorem ret_slice {a : Option Addr} {l c l' c' : Nat} (h : l = l') (h2 : c = c') : Ending.returned (.slice a l c) = Ending.returned (.slice a l' c') := by rw [h, h2]
theorem sumOf_any (S : Nat → Prop) (a : Option Addr) (len cap : Nat) (xs : List Int) (w : World) (h : IntsAt w S a len xs) (hb : ∀ x ∈ xs, -1099511627776 ≤ x ∧ x ≤ 1099511627776) (hl : len ≤ 1048576) :
    Calls Tryz.prog 131 #[.slice a len cap] w fun e w' => e = .returned (.int .i64 (totalM xs)) ∧ w = w' := by
  go_enter Tryz.func131, Tryz.ntmps131
  go_wp2
  go_loop [3, 8] (fun n i => ∃ k : Nat, k ≤ len ∧ i = .int .i64 k ∧ n = .int .i64 (totalM (xs.take k))) (fun _ i => len - (intOf i).toNat)
  case atStart => exact ⟨0, Nat.zero_le _, rfl, rfl⟩
  case round =>
    obtain ⟨k, hk, rfl, rfl⟩ := hrel
    by_cases hlt : k < len
    · obtain ⟨b, off, x, rfl, hx, hc⟩ := h.get hlt
      have hx1 := hb x (List.mem_of_getElem? hx)
      have hx2 := totalM_bd (B := 1099511627776) (by omega) (fun y hy => hb y (take_mem (k := k) hy))
      have hll : ((xs.take k).length : Int) ≤ 1048576 := by rw [List.length_take]; omega
      have HX := Lib.hid hx
      clear hx
      generalize hT : totalM (xs.take k) = t at hx2 ⊢
      have HT := Lib.hid hT
      clear hT
      have ht1 : -1152921504606846976 ≤ t := by omega
      have ht2 : t ≤ 1152921504606846976 := by omega
      clear hx2 hll
      go_wp2
      go_round
      case rel => exact ⟨k + 1, by omega, by go_num, by rw [take_get HX.out, totalM_snoc, HT.out]⟩
      case measure => simp [intOf]; omega
    · have hle := h.lenEq
      have HL := Lib.hid hle
      clear hle
      go_wp2
      go_ret
      exact ⟨ret_int (by rw [List.take_of_length_le (by rw [HL.out]; omega)]), rfl⟩
end Go.Proofs.YtjcbpnffmebihaaGreatDoor
