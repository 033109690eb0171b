import Derived.Test.YtcfahmffboipiabRows
import Derived.RangeFuncNested
import Derived.RangeFuncBound
import Derived.RangeFuncCalls
import Derived.RangeFuncLeaves
import Derived.Shelf.Abstract
import Derived.Shelf.RegionOpen
import Derived.WalkKit
import Derived.Outline
import Derived.OwnWalkIn
import Derived.TacticsInMore
import Derived.LoopNIn
import Derived.LoopIn
import Derived.IntWalk
import Derived.StillTailTactics
import Derived.Deep.OwnRows
import Derived.Test.YtcfahmffboipiabLib
import Derived.Test.YtcfahmffboipiabRd
import Derived.Test.YtcfahmffboipiabGen
import Derived.Test.YtcfahmffboipiabCountM
import Derived.Test.YtcfahmffboipiabTakesM
import Derived.Test.YtcfahmffboipiabCount
import Derived.Test.YtcfahmffboipiabTakes
import Derived.Test.YtcfahmffboipiabParts
import Derived.Test.YtcfahmffboipiabRound
import Derived.Test.YtcfahmffboipiabApp
import Derived.Test.YtcfahmffboipiabMark
import Derived.Test.YtcfahmffboipiabOwn1
import Derived.Test.YtcfahmffboipiabBillM
import Derived.Test.YtcfahmffboipiabVb
import Derived.Test.YtcfahmffboipiabCosts
namespace Go.Proofs.Ytcfahmffboipiab
open Go.RowKit Go.Shelf Go.Deep

attribute [local go_sem] Oper.semAt_some

def usedP (rows : List (List Int)) (j i : Nat) : Bool := decide (i ≠ j) && decide (0 < takeM rows i j)
def usedTo (rows : List (List Int)) (j k : Nat) : List Nat := (List.range k).filter (usedP rows j)
theorem usedTo_yes {rows : List (List Int)} {j k : Nat} (h : usedP rows j k = true) : usedTo rows j (k + 1) = usedTo rows j k ++ [k] := by simp [usedTo, List.range_succ, List.filter_append, h]
theorem usedTo_no {rows : List (List Int)} {j k : Nat} (h : usedP rows j k = false) : usedTo rows j (k + 1) = usedTo rows j k := by simp [usedTo, List.range_succ, List.filter_append, h]
theorem usedTo_length (rows : List (List Int)) (j k : Nat) : (usedTo rows j k).length ≤ k := by
  have := List.length_filter_le (usedP rows j) (List.range k)
  simpa [usedTo] using this

set_option maxRecDepth 100000 in
set_option maxHeartbeats 2000000 in
/-- the closure of UsedIn: part i takes part j -/
theorem takesIt_any (n : Nat) (rows : List (List Int)) (hv : validBillM rows = true) (a : Option Addr) (len cap i j Bj Bb : Nat) (w : World) (h : RowsAt w (· < w.heap.size) a len rows) (hi : i < len) (hj : j < len)
    (hbj : w.cell? ⟨Bj, 0, none⟩ = some (.int .i64 j)) (hbb : w.cell? ⟨Bb, 0, none⟩ = some (.slice a len cap)) :
    CallsIn Fence.wide n Try.prog 34 #[.int .i64 i, .pointer (some ⟨Bj, 0, none⟩), .pointer (some ⟨Bb, 0, none⟩)] w fun e w' => e = .returned (.bool (usedP rows j i)) ∧ Below w.heap.size w w' := by
  have hl := h.lenEq
  refine callsIn_wide.2 ?_
  by_cases hij : i = j
  · subst hij
    have hp : usedP rows i i = false := by simp [usedP]
    rw [hp]
    clear hp
    go_enter Try.func34, Try.ntmps34
    go_wp2
    go_ret
    exact ⟨rfl, Below.refl _ _⟩
  · have hne : ((i : Int) != (j : Int)) = true := by simp; omega
    have HP := Lib.hid (show usedP rows j i = decide (0 < takeM rows i j) by simp [usedP, hij])
    have hi6 : i < 6 := by have := validBill_len6 hv; omega
    clear hl
    go_enter Try.func34, Try.ntmps34
    go_wp2_with fail
    refine (count_calls rows hv a len cap j 6 i w (Nat.le_refl _) hi6 hi h).mono ?_
    rintro e w' ⟨rfl, hb'⟩
    have HE := Lib.hid (show (countM rows j 6 i) = takeM rows i j from rfl)
    have h0 := takeM_nonneg hv i j
    rw [HE.out]
    generalize takeM rows i j = t at HP h0 ⊢
    go_wp2
    go_ret
    exact ⟨ret_bool HP.out.symm, hb'⟩

def natArgs (x : Nat) : Array Value := #[.int .i64 (x : Int)]
set_option maxRecDepth 100000 in
set_option maxHeartbeats 2000000 in
theorem that_walk (n : Nat) (hn : 1 ≤ n) (rows : List (List Int)) (hv : validBillM rows = true) (l n₀ : Nat) (a : Option Addr) (len cap j Bs Bk Bj Bb : Nat) (hj : j < len) (J Jx : List Nat → World → Prop)
    (hY : ∀ pre x W, J pre W → pre.length < rows.length → YieldAt Fence.wide (n - 1) Try.prog l (natArgs x) W fun e W' =>
      (e = .returned (.bool true) ∧ J (pre ++ [x]) W' ∧ Below n₀ W W') ∨ (e = .returned (.bool false) ∧ Jx (pre ++ [x]) W'))
    (W : World) (hJ : AbidesFrom W.heap.size J) (hl1 : Bs < n₀ ∧ Bk < n₀ ∧ Bj < n₀ ∧ Bb < n₀) (hn₀ : n₀ ≤ W.heap.size) (hBs : W.cell? ⟨Bs, 0, none⟩ = some (.slice a len cap)) (hBk : W.cell? ⟨Bk, 0, none⟩ = some (.func (.func 34) #[] #[.pointer (some ⟨Bj, 0, none⟩), .pointer (some ⟨Bb, 0, none⟩)]))
    (hBj : W.cell? ⟨Bj, 0, none⟩ = some (.int .i64 j)) (hBb : W.cell? ⟨Bb, 0, none⟩ = some (.slice a len cap)) (hI : RowsAt W (· < n₀) a len rows) (h0 : J [] W) :
    CallsIn Fence.wide n Try.prog 52 #[.func (.yield l) #[] #[], .pointer (some ⟨Bs, 0, none⟩), .pointer (some ⟨Bk, 0, none⟩)] W fun e W' => (∃ v, e = .returned v) ∧
      ((∃ ys : List Nat, ys = usedTo rows j rows.length ∧ J ys W') ∨ (∃ pre : List Nat, True ∧ Jx pre W')) := by
  have hs := hI.small
  obtain ⟨l1, l2, l3, l4⟩ := hl1
  refine callsIn_of_wp Try.func52 rfl trivial ?_ rfl
  simp only [Try.ntmps52, List.size_toArray, List.length_cons, List.length_nil, Nat.reduceAdd, Nat.reduceSub, Array.replicate_succ, Array.replicate_zero, List.push_toArray, List.append_toArray, List.nil_append, List.cons_append]
  gi_wp2
  gi_loopw [7] (fun i wr => ∃ k : Nat, k ≤ len ∧ i = .int .i64 k ∧ J (usedTo rows j k) wr ∧ Below n₀ W wr)
    (fun i _ => len - (intOf i).toNat)
  case atStart => exact ⟨0, Nat.zero_le _, rfl, h0, Below.refl _ _⟩
  case round =>
    obtain ⟨k, hk, rfl, hJs, hnx⟩ := hrel
    have HL := Lib.hid hI.lenEq
    have hsz := hnx.size
    by_cases hlt : k < len
    · have c1 := (hnx.cell (p := ⟨Bk, 0, none⟩) l2).trans hBk
      have c2 := (hnx.cell (p := ⟨Bj, 0, none⟩) l3).trans hBj
      have c3 := (hnx.cell (p := ⟨Bb, 0, none⟩) l4).trans hBb
      have hrw : RowsAt wr (· < wr.heap.size) a len rows := (hI.below hnx).to (fun b hb => ⟨Nat.lt_of_lt_of_le hb (Nat.le_trans hn₀ hsz), rfl⟩)
      have HC := Lib.hid (takesIt_any (n - 1) rows hv a len cap k j Bj Bb wr hrw hlt hj c2 c3)
      have HJ := Lib.hid hJs
      have HN := Lib.hid hnx
      clear hBk hBj hBb hBs hrw hJs
      gi_wp2
      refine ⟨trivial, ?_⟩
      refine HC.out.mono ?_
      rintro e w2 ⟨rfl, hb2⟩
      have HJ2 := Lib.hid (hJ _ _ _ none HJ.out (show wr.grownBy w2 none from ⟨hb2.os, hb2.tape, hb2.output, hb2.size, fun b hb _ => hb2.block b hb⟩) (fun r e => by cases e))
      have HN2 := Lib.hid (HN.out.trans (hb2.mono (Nat.le_trans hn₀ hsz)))
      clear hb2
      cases hp : usedP rows j k
      · have HS := Lib.hid (usedTo_no hp)
        clear hp
        gi_wp2
        refine ⟨fun _ h => (by cases h), ?_⟩
        gi_wp2
        go_roundw
        case rel => exact ⟨k + 1, by omega, by simp, by rw [HS.out]; exact HJ2.out, HN2.out⟩
        case measure => simp [intOf]; omega
      · have HS := Lib.hid (usedTo_yes hp)
        clear hp
        obtain ⟨fn, tmps, assign, body, hy, hR⟩ := hY (usedTo rows j k) k w2 HJ2.out (by have := usedTo_length rows j k; have := HL.out; omega)
        dsimp only [natArgs] at hy
        gi_wp2
        refine hR.mono ?_
        rintro e W3 (⟨rfl, hJ3, hk3⟩ | ⟨rfl, hJx3⟩)
        · gi_wp2
          go_roundw
          case rel => exact ⟨k + 1, by omega, by simp, by rw [HS.out]; exact hJ3, HN2.out.trans hk3⟩
          case measure => simp [intOf]; omega
        · gi_wp2
          refine bodyPost_ret (results_none rfl _ _ _) rfl ?_
          exact ⟨⟨_, rfl⟩, .inr ⟨_, trivial, hJx3⟩⟩
    · obtain rfl : k = len := by omega
      have HJ := Lib.hid hJs
      gi_wp2
      go_end0
      exact ⟨⟨_, rfl⟩, .inl ⟨_, rfl, by rw [HL.out]; exact HJ.out⟩⟩

theorem that_stops (n : Nat) (hn : 1 ≤ n) (rows : List (List Int)) (hv : validBillM rows = true) (n₀ : Nat) (a : Option Addr) (len cap j Bs Bk Bj Bb : Nat) (hj : j < len) (w : World) (hl1 : Bs < n₀ ∧ Bk < n₀ ∧ Bj < n₀ ∧ Bb < n₀) (hn₀ : n₀ ≤ w.heap.size)
    (hBs : w.cell? ⟨Bs, 0, none⟩ = some (.slice a len cap)) (hBk : w.cell? ⟨Bk, 0, none⟩ = some (.func (.func 34) #[] #[.pointer (some ⟨Bj, 0, none⟩), .pointer (some ⟨Bb, 0, none⟩)]))
    (hBj : w.cell? ⟨Bj, 0, none⟩ = some (.int .i64 j)) (hBb : w.cell? ⟨Bb, 0, none⟩ = some (.slice a len cap)) (hI : RowsAt w (· < n₀) a len rows) :
    SeqStopsK Fence.wide n Try.prog 52 #[.pointer (some ⟨Bs, 0, none⟩), .pointer (some ⟨Bk, 0, none⟩)] natArgs (Below n₀) (fun ys => ys = usedTo rows j rows.length) (fun _ => True) rows.length w := fun l J Jx W hW hJ _ hY h0 =>
  that_walk n hn rows hv l n₀ a len cap j Bs Bk Bj Bb hj J Jx hY W hJ hl1 (Nat.le_trans hn₀ hW.size) ((hW.cell (p := ⟨Bs, 0, none⟩) (show Bs < w.heap.size by omega)).trans hBs) ((hW.cell (p := ⟨Bk, 0, none⟩) (show Bk < w.heap.size by omega)).trans hBk) ((hW.cell (p := ⟨Bj, 0, none⟩) (show Bj < w.heap.size by omega)).trans hBj) ((hW.cell (p := ⟨Bb, 0, none⟩) (show Bb < w.heap.size by omega)).trans hBb) (hI.below (hW.mono hn₀)) h0

def natVals (ys : List Nat) : List Value := ys.map (fun (x : Nat) => Value.int .i64 (x : Int))
def Gathered (S : List Nat → Prop) (w : World) (e : Ending) (w' : World) : Prop := ∃ (v : Value) (ys : List Nat), e = .returned v ∧ S ys ∧ w'.ownsRow w.heap.size 3 1 v ys.length (natVals ys) ∧ Below w.heap.size w w'
set_option maxRecDepth 100000 in
set_option maxHeartbeats 2000000 in
theorem appendSeq_any (n : Nat) (hn : 4 ≤ n) (gf : Nat) (lb : Array Value) (eg : ∀ args w, (callFunc gf args).run Try.prog w = .ok (.enter gf args) w) (S Sp : List Nat → Prop) (N : Nat) (hN : N ≤ 1000) (n₀ : Nat) (w : World) (hn₀ : n₀ ≤ w.heap.size)
    (hseq : SeqStopsK Fence.wide (n - 1) Try.prog gf lb natArgs (Below n₀) S Sp N w) :
    CallsIn Fence.wide n Try.prog 51 #[.slice none 0 0, .func (.func gf) #[] lb] w (Gathered S w) := by
  obtain ⟨i0, hi, hz0, hz1, hz2⟩ := info_parts Try.infoIntO
  refine callsIn_of_wp_marks Try.func51 rfl trivial ?_ rfl
  simp only [Try.ntmps51, List.size_toArray, List.length_cons, List.length_nil, Nat.reduceAdd, Nat.reduceSub, Array.replicate_succ, Array.replicate_zero, List.push_toArray, List.append_toArray, List.nil_append, List.cons_append]
  gi_wp2
  have bO := Boxed.new w 26 (.slice none 0 0)
  have hB0 : Below w.heap.size w (w.alloc (.cells #[.slice none 0 0] 26)) := (Below.refl _ w).alloc (Nat.le_refl _) _
  refine wpIn_rangeFunc_ownG rfl (by omega) (gf := gf) (lb := lb) rfl trivial eg hseq belowK_t (belowK_b (by simp; omega)) hB0 (fun _ => rfl)
    (fun pre W => (∃ v, Boxed W w.heap.size 26 v ∧ W.ownsRow w.heap.size 3 1 v pre.length (natVals pre) ∧ True) ∧ Below w.heap.size w W)
    (fun _ _ _ => False)
    (OwnFrom.and (Own.from (holdsRow_own w.heap.size w.heap.size 26 3 1 (fun pre => pre.length) natVals (fun _ _ => True)) _) (ownFrom_below (Nat.le_refl _) (by simp)))
    (fun _ _ _ _ _ hs _ _ => hs)
    ⟨⟨_, bO, World.ownsRow_nil _ _ _ _, trivial⟩, hB0⟩
    (fun x => { tmps := #[.slice none 0 0, .func (.func gf) #[] lb, .pointer (some ⟨w.heap.size, 0, none⟩), undef, .slice none 0 0, .int .i64 (x : Int), .func (.func gf) #[] lb, .int .i64 (x : Int), undef, undef, undef, undef, undef], defers := [] }) ?assign ?body ?done ?stop
  case assign =>
    intro l x W K hK
    dsimp only [natArgs]
    gi_wp2
    exact hK
  case body =>
    rintro l pre x W ⟨⟨v, hv, hrow, _⟩, hB⟩ hlt
    have hc := hv.cell
    gi_wp2_with (gi_at_builtin; refine wpListIn_append_own _ rfl _ _ 26 rfl w.heap.size 3 i0 (.int .i64 0) 1 8 Try.underlying26 hi hz0 hz1 hz2 rfl (by decide) _ _ _ rfl (hrow.alloc _) ⟨W.heap.size, 0, none⟩ 1 1 [.int .i64 (x : Int)] rfl rfl (one_new _ _ _) (by simp [Value.oneCell']) (by unfold maxLen; omega) (by omega) (by have := hB.size; simp; omega) ?_; intro v' w1 hown' hgrow _; obtain ⟨g', cap', rfl⟩ := ownsRow_succ hown'; obtain ⟨hv1, hv2, hr2, hk2, hb2⟩ := hv.appended (by decide) hrow hB.size (Nat.le_refl _) hown' hgrow; have hc1 := hv1.cell; have hf1 := hv1.frozen)
    exact ⟨hk2.from _, hb2.mono hn₀, ⟨_, hv2, by simpa [natVals] using hr2, trivial⟩, hB.trans hb2⟩
  case done =>
    rintro D ys W hD hS ⟨⟨v, hv, hrow, _⟩, hB⟩ hK
    have hc := hv.cell
    have HS := Lib.hid hS
    clear hS
    gi_wp2
    refine ⟨by simp, .inl ⟨_, _, rfl, run_takeDeferred hK, ?_⟩⟩
    exact ⟨_, results_tmp rfl _ _ _, v, ys, rfl, HS.out, ownsRow_putObj hrow _ hK rfl, hB.trans (belowK_b (w := w) (Nat.le_refl _) W D _ _ (by simp at hD; omega) hK rfl rfl)⟩
  case stop =>
    rintro D c pre W _ _ h _
    exact h.elim
set_option maxHeartbeats 1000000 in
theorem collect_any (n : Nat) (hn : 5 ≤ n) (gf : Nat) (lb : Array Value) (eg : ∀ args w, (callFunc gf args).run Try.prog w = .ok (.enter gf args) w) (S Sp : List Nat → Prop) (N : Nat) (hN : N ≤ 1000) (n₀ : Nat) (w : World) (hn₀ : n₀ ≤ w.heap.size)
    (hseq : SeqStopsK Fence.wide (n - 1 - 1) Try.prog gf lb natArgs (Below n₀) S Sp N w) :
    CallsIn Fence.wide n Try.prog 36 #[.func (.func gf) #[] lb] w (Gathered S w) := by
  have HC := Lib.hid (appendSeq_any (n - 1) (by omega) gf lb eg S Sp N hN n₀ w hn₀ hseq)
  clear hseq
  refine callsIn_of_wp Try.func36 rfl trivial ?_ rfl
  simp only [Try.ntmps36, List.size_toArray, List.length_cons, List.length_nil, Nat.reduceAdd, Nat.reduceSub, Array.replicate_succ, Array.replicate_zero, List.push_toArray, List.append_toArray, List.nil_append, List.cons_append]
  gi_wp2
  refine ⟨trivial, fun _ => by omega, ?_⟩
  refine HC.out.mono ?_
  rintro e w' ⟨v, ys, rfl, h1, h2, h3⟩
  gi_wp2
  go_ret
  exact ⟨v, ys, rfl, h1, h2, h3⟩
set_option maxHeartbeats 1000000 in
theorem partsThat_any (n : Nat) (a : Option Addr) (len cap gf : Nat) (lb : Array Value) (w : World) :
    CallsIn Fence.wide n Try.prog 37 #[.slice a len cap, .func (.func gf) #[] lb] w fun e w' => e = .returned (.func (.func 52) #[] #[.pointer (some ⟨w.heap.size, 0, none⟩), .pointer (some ⟨w.heap.size + 1, 0, none⟩)]) ∧ (w.alloc (.cells #[.slice a len cap] 23)).alloc (.cells #[.func (.func gf) #[] lb] 51) = w' := by
  refine callsIn_of_wp Try.func37 rfl trivial ?_ rfl
  simp only [Try.ntmps37, List.size_toArray, List.length_cons, List.length_nil, Nat.reduceAdd, Nat.reduceSub, Array.replicate_succ, Array.replicate_zero, List.push_toArray, List.append_toArray, List.nil_append, List.cons_append]
  gi_wp2
  go_ret
  exact ⟨rfl, rfl⟩

theorem resPost_own {w w' : World} {B k : Nat} {v : Value} {xs : List Int} (h : w'.ownsRow B 3 1 v k (xs.map (.int .i64))) (hB : w.heap.size ≤ B) (hk : k ≤ 1048576) (hb : Below w.heap.size w w') : ResPost w xs (.returned v) w' := by
  obtain ⟨a, c, rfl, _⟩ := own_slice h
  have hlen : xs.length = k := by have := h.1; simpa using this
  rcases Nat.eq_zero_or_pos k with rfl | h0
  · obtain rfl := List.eq_nil_of_length_eq_zero hlen
    exact ⟨a, 0, c, rfl, ⟨rfl, Nat.zero_le _, fun h => absurd h (by omega)⟩, ⟨Nat.zero_le _, fun h => absurd h (by omega)⟩, hb⟩
  · obtain ⟨g, v0, rfl, hg, _, _⟩ := own_place h (j := 0) h0
    refine resPost_blockG hlen hk (Nat.le_trans hB hg) (fun q x hx => ?_) hb
    have hq : q < xs.length := (List.getElem?_eq_some_iff.1 hx).1
    have hc := h.cellAt q (by simp; omega)
    rw [List.getElem?_map, hx] at hc
    exact ⟨hc, h.frozenAt q⟩
/-- what UsedIn answers -/
def usedRes (rows : List (List Int)) (j : Int) : List Int := if (validBillM rows && isPartM rows.length j) = true then (usedTo rows j.toNat rows.length).map (fun (x : Nat) => (x : Int)) else []
theorem usedRes_no {rows : List (List Int)} {j : Int} (h : (validBillM rows && isPartM rows.length j) = false) : usedRes rows j = [] := by unfold usedRes; rw [h]; rfl
theorem usedRes_yes {rows : List (List Int)} {j : Nat} (hv : validBillM rows = true) (hj : j < rows.length) : usedRes rows j = (usedTo rows j rows.length).map (fun (x : Nat) => (x : Int)) := by
  have h1 : isPartM rows.length j = true := inB_true (by omega) (by omega)
  unfold usedRes; rw [hv, h1]; rfl
theorem usedRes_len (rows : List (List Int)) (j : Int) : (usedRes rows j).length ≤ 1048576 := by
  cases h : (validBillM rows && isPartM rows.length j)
  · rw [usedRes_no h]; simp
  · unfold usedRes; rw [h, if_pos rfl, List.length_map]
    simp only [Bool.and_eq_true] at h
    have := usedTo_length rows j.toNat rows.length
    have := validBill_len6 h.1; omega
set_option maxRecDepth 100000 in
set_option maxHeartbeats 4000000 in
theorem usedIn_impl (a : Option Addr) (len cap : Nat) (rows : List (List Int)) (j : Int) (w : World) (h : RowsAt w (· < w.heap.size) a len rows) :
    Calls Try.prog 8 #[.slice a len cap, .int .i64 j] w (ResPost w (usedRes rows j)) := by
  have hs := h.small
  have hl := h.lenEq
  have HB2 := Lib.hid (show Below w.heap.size w ((w.alloc (.cells #[.slice a len cap] 23)).alloc (.cells #[.int .i64 j] 3)) from ((Below.refl _ w).alloc (Nat.le_refl _) _).alloc (by simp) _)
  have HR := Lib.hid (h.below HB2.out)
  have c1 := cell_alloc_l (.cells #[.int .i64 j] 3) (cell_new_l w (.slice a len cap) 23).1
  have c2 := (cell_new_l (w.alloc (.cells #[.slice a len cap] 23)) (.int .i64 j) 3).1
  rw [World.size_alloc] at c2
  have HSZ := Lib.hid (show ((w.alloc (.cells #[.slice a len cap] 23)).alloc (.cells #[.int .i64 j] 3)).heap.size = w.heap.size + 2 by simp)
  cases hv : validBillM rows
  · rw [usedRes_no (by rw [hv]; rfl)]
    clear hl
    go_enter Try.func8, Try.ntmps8
    go_wp2_with (go_at_call 11; refine (validBill_impl _ _ _ _ rows _ HR.out).mono ?_; rintro e w2 ⟨rfl, rfl⟩)
    go_ret
    obtain ⟨a', l', c', e, h1, h2, h3⟩ := resPost_nil ((w.alloc (.cells #[.slice a len cap] 23)).alloc (.cells #[.int .i64 j] 3))
    simp only [Ending.returned.injEq, Value.slice.injEq] at e
    obtain ⟨rfl, rfl, rfl⟩ := e
    exact ⟨none, 0, 0, rfl, ⟨rfl, Nat.zero_le _, fun h => absurd h (by omega)⟩, ⟨Nat.zero_le _, fun h => absurd h (by omega)⟩, HB2.out⟩
  · cases hp : isPartM len j
    · rw [usedRes_no (by rw [hv, hl, hp]; rfl)]
      clear hl
      go_enter Try.func8, Try.ntmps8
      go_wp2_with (first | (go_at_call 11; refine (validBill_impl _ _ _ _ rows _ HR.out).mono ?_; rintro e w2 ⟨rfl, rfl⟩) | (go_at_call 33; refine (isPart_any _ _ _ _ _ hs).mono ?_; rintro e w2 ⟨rfl, rfl⟩))
      go_ret
      exact ⟨none, 0, 0, rfl, ⟨rfl, Nat.zero_le _, fun h => absurd h (by omega)⟩, ⟨Nat.zero_le _, fun h => absurd h (by omega)⟩, HB2.out⟩
    · obtain ⟨j, rfl, hj⟩ := isPart_nat hp
      have hl6 : len ≤ 6 := by have := validBill_len6 hv; omega
      have HRES := Lib.hid (usedRes_yes hv (show j < rows.length by omega))
      have hrl : rows.length ≤ 6 := by omega
      clear hl
      refine (callsIn_wide (n := 12)).1 ?_
      refine callsIn_of_wp Try.func8 rfl trivial ?_ rfl
      simp only [Try.ntmps8, List.size_toArray, List.length_cons, List.length_nil, Nat.reduceAdd, Nat.reduceSub, Array.replicate_succ, Array.replicate_zero, List.push_toArray, List.append_toArray, List.nil_append, List.cons_append]
      gi_wp2_with (first | (refine ⟨trivial, ?_⟩; gi_at_call 11; refine (callsIn_wide.2 (validBill_impl _ _ _ _ rows _ HR.out)).mono ?_; rintro e w2 ⟨rfl, rfl⟩) | (refine ⟨trivial, ?_⟩; gi_at_call 33; refine (callsIn_wide.2 (isPart_any _ _ _ _ _ hs)).mono ?_; rintro e w2 ⟨rfl, rfl⟩))
      clear hp
      obtain ⟨W2, hW2⟩ : ∃ W2, ((w.alloc (.cells #[.slice a len cap] 23)).alloc (.cells #[.int .i64 (j : Int)] 3)) = W2 := ⟨_, rfl⟩
      rw [hW2] at HB2 HR c1 c2 HSZ ⊢
      clear hW2
      have hsz := HSZ.out
      refine ⟨trivial, ?_⟩
      refine (partsThat_any _ a len cap _ _ W2).mono ?_
      rintro e W4 ⟨rfl, hW4⟩
      have d1 := cell_new_l W2 (.slice a len cap) 23
      have d2 := cell_new_l (W2.alloc (.cells #[.slice a len cap] 23)) (.func (.func 34) #[] #[.pointer (some ⟨w.heap.size + 1, 0, none⟩), .pointer (some ⟨w.heap.size, 0, none⟩)]) 51
      rw [World.size_alloc] at d2
      have hb4 : Below W2.heap.size W2 W4 := by rw [← hW4]; exact ((Below.refl _ _).alloc (Nat.le_refl _) _).alloc (by simp) _
      have e1 : W4.cell? ⟨W2.heap.size, 0, none⟩ = some (.slice a len cap) := by rw [← hW4]; exact cell_alloc_l _ d1.1
      have e2 : W4.cell? ⟨W2.heap.size + 1, 0, none⟩ = some (.func (.func 34) #[] #[.pointer (some ⟨w.heap.size + 1, 0, none⟩), .pointer (some ⟨w.heap.size, 0, none⟩)]) := by rw [← hW4]; exact d2.1
      have hs4 : W4.heap.size = W2.heap.size + 2 := by rw [← hW4]; simp
      have e3 : W4.cell? ⟨w.heap.size + 1, 0, none⟩ = some (.int .i64 (j : Int)) := (hb4.cell (p := ⟨w.heap.size + 1, 0, none⟩) (show w.heap.size + 1 < W2.heap.size by omega)).trans c2
      have e4 : W4.cell? ⟨w.heap.size, 0, none⟩ = some (.slice a len cap) := (hb4.cell (p := ⟨w.heap.size, 0, none⟩) (show w.heap.size < W2.heap.size by omega)).trans c1
      have hr4 : RowsAt W4 (· < W4.heap.size) a len rows := HR.out.to (fun b hb => ⟨Nat.lt_of_lt_of_le hb (by omega), hb4.block b (by omega)⟩)
      have hbw4 : Below w.heap.size w W4 := HB2.out.trans (hb4.mono HB2.out.size)
      have HC := Lib.hid (fun n (hn : 5 ≤ n) => collect_any n hn 52 _ (enters_of Try.func52 (by kernel_rfl) rfl) (fun ys => ys = usedTo rows j rows.length) (fun _ => True) rows.length (by omega) W4.heap.size W4 (Nat.le_refl _)
        (that_stops (n - 1 - 1) (by omega) rows hv W4.heap.size a len cap j W2.heap.size (W2.heap.size + 1) (w.heap.size + 1) w.heap.size hj W4 (by omega) (Nat.le_refl _) e1 e2 e3 e4 hr4))
      rw [hsz] at HC
      have HBW := Lib.hid hbw4
      clear hW4 d1 d2 hb4 e1 e2 e3 e4 hr4 hbw4 c1 c2 HSZ HR HB2 h
      gi_wp2
      refine ⟨trivial, ?_⟩
      refine (HC.out 11 (by omega)).mono ?_
      rintro e w' ⟨v, ys, rfl, hys, ho, hb⟩
      have HYS := Lib.hid hys
      clear hys
      gi_wp2
      go_ret
      rw [HRES.out, ← HYS.out]
      have hlen := usedTo_length rows j rows.length
      rw [← HYS.out] at hlen
      exact resPost_own (by rw [List.map_map]; exact ho) HBW.out.size (by omega) (HBW.out.trans (hb.mono HBW.out.size))
end Go.Proofs.Ytcfahmffboipiab
