import Derived.Test.YtjcbpnffmebihaaGreatDoorA27
import Derived.Test.YtjcbpnffmebihaaGreatDoorRows
import Derived.WalkKit
import Derived.LoopTactic
import Derived.Outline
import Derived.WalkSpells
import Derived.WalkLawsBesides
import Derived.ProofKit
import Derived.Lib.Hide
import Derived.IntWalk
namespace Go.Proofs.YtjcbpnffmebihaaGreatDoor
open Go.RowKit Go.WideShapes

-- chapter 11's code: kindOf, cutsIn
def CellsC (w : World) (b n : Nat) (f : Nat → Int) : Prop := ∀ j, j < n → w.cell? ⟨b, j, none⟩ = some (.int .i64 (f j)) ∧ w.frozen? ⟨b, j, none⟩ = false
theorem CellsC.put {w : World} {b n : Nat} {f : Nat → Int} (h : CellsC w b n f) {k : Nat} (hk : k < n) (x : Int) : CellsC (w.setCell ⟨b, k, none⟩ (.int .i64 x)) b n (fun j => if j = k then x else f j) := fun j hj => by
  refine ⟨?_, by rw [World.frozen?_setCell]; exact (h j hj).2⟩
  by_cases e : j = k
  · subst e
    dsimp only
    rw [if_pos rfl]
    exact World.cell?_setCell_same _ _ _ (h j hj).1
  · dsimp only
    rw [if_neg e, World.cell?_setCell_other _ _ _ _ (by intro e'; injection e' with _ e2; omega)]
    exact (h j hj).1
/-- the first k places filled -/
def pairC (f : Nat → Int) (k j : Nat) : Int := if j / 2 < k then (if j % 2 = 0 then f (j / 2) else ((j / 2 : Nat) : Int)) else 0
theorem pairC_step {w : World} {b n k : Nat} {f : Nat → Int} (h : CellsC w b (n * 2) (pairC f k)) (hk : k < n) : CellsC ((w.setCell ⟨b, k * 2, none⟩ (.int .i64 (f k))).setCell ⟨b, k * 2 + 1, none⟩ (.int .i64 (k : Int))) b (n * 2) (pairC f (k + 1)) := by
  have := (h.put (k := k * 2) (by omega) (f k)).put (k := k * 2 + 1) (by omega) (k : Int)
  intro j hj
  obtain ⟨h1, h2⟩ := this j hj
  refine ⟨?_, h2⟩
  rw [h1]
  congr 2
  unfold pairC
  dsimp only
  by_cases e : j = k * 2 + 1
  · subst e
    rw [if_pos rfl, show (k * 2 + 1) / 2 = k by omega, if_pos (by omega), if_neg (by omega)]
  · rw [if_neg e]
    by_cases e2 : j = k * 2
    · subst e2
      rw [if_pos rfl, show k * 2 / 2 = k by omega, if_pos (by omega), if_pos (by omega)]
    · rw [if_neg e2]
      by_cases g : j / 2 < k
      · rw [if_pos g, if_pos (show j / 2 < k + 1 by omega)]
      · rw [if_neg g, if_neg (show ¬ j / 2 < k + 1 by omega)]
theorem pairC_all {w : World} {b n : Nat} {f : Nat → Int} (h : CellsC w b (n * 2) (pairC f n)) : PairB w b f (List.range n) := by
  intro q x hx
  obtain ⟨hq, e⟩ := List.getElem?_eq_some_iff.1 hx
  simp at hq e
  subst e
  obtain ⟨h1, h2⟩ := h (q * 2) (by omega)
  obtain ⟨h3, h4⟩ := h (q * 2 + 1) (by omega)
  refine ⟨⟨?_, ?_⟩, h2, h4⟩
  · rw [h1]; unfold pairC; rw [show q * 2 / 2 = q by omega, if_pos hq, if_pos (by omega)]
  · rw [h3]; unfold pairC; rw [show (q * 2 + 1) / 2 = q by omega, if_pos hq, if_neg (by omega)]
theorem Tryz.infoLC : (Tryz.prog.info? 164).map (fun i => (i.zero, i.size, i.bytes)) = some (some (.agg #[.int .i64 0, .int .i64 0]), 2, 16) := by kernel_rfl
theorem run_makeListed (n : Nat) (hn : n ≤ 8) (w : World) :
    (Instr.makeSlice 161 (.int .i64 (n : Int)) (.int .i64 (n : Int))).run Tryz.prog w = .ok (.slice (some ⟨w.heap.size, 0, none⟩) n n) (w.alloc (.cells (madeCells #[.int .i64 0, .int .i64 0] (n * 2)) 164)) := by
  obtain ⟨i, hi, hzz⟩ := Option.map_eq_some_iff.1 Tryz.infoLC
  simp only [Prod.mk.injEq] at hzz
  obtain ⟨hz, hs, hb⟩ := hzz
  have hr := run_make (P := Tryz.prog) w 161 164 i _ Tryz.underlying161 hi hz .i64 .i64 n n (by omega) (Int.le_refl _) (by rw [hb]; omega) (by omega)
  simp only [Int.toNat_natCast, hs] at hr
  exact hr
theorem pairC_start (f : Nat → Int) (w : World) (n : Nat) : CellsC (w.alloc (.cells (madeCells #[.int .i64 0, .int .i64 0] (n * 2)) 164)) w.heap.size (n * 2) (pairC f 0) := fun j hj => by
  refine ⟨?_, World.frozen?_alloc_new w _ _ _⟩
  rw [World.cell?_alloc_new]
  have hj2 : j % 2 = 0 ∨ j % 2 = 1 := by omega
  simp only [madeCells, Array.getElem?_map, Array.getElem?_range, hj, if_true, Option.map_some]
  unfold pairC
  rw [if_neg (by omega)]
  rcases hj2 with e | e <;> simp [e]
/-- the cuts in the order of a kind, in a block of its own -/
def CutsPost (w : World) (n : Nat) (f : Nat → Int) (l : List Nat) (e : Ending) (w' : World) : Prop := ∃ b, e = .returned (.slice (some ⟨b, 0, none⟩) n n) ∧ w.heap.size ≤ b ∧ b < w'.heap.size ∧ PairB w' b f l ∧ Below w.heap.size w w'
def kindO (kind : ByteArray) : Int := if isFirst kind then 1 else if isLong kind then 2 else 0
def cutOrdO (xs : List Int) (o : Int) : List Nat := if o = 2 then sortE (ahL xs) xs.length else List.range xs.length
set_option maxRecDepth 100000 in
set_option maxHeartbeats 4000000 in
theorem cutsIn_any (a : Option Addr) (len cap : Nat) (xs : List Int) (o : Int) (w : World) (h : IntsAt w (· < w.heap.size) a len xs) (hn : len ≤ 7) (ho : 0 ≤ o ∧ o ≤ 2) :
    Calls Tryz.prog 128 #[.slice a len cap, .int .i64 o] w (CutsPost w len (lenT xs) (cutOrdO xs o)) := by
  have HL := Lib.hid h.lenEq
  have hmk := fun w => run_makeListed len (by omega) w
  have HH := Lib.hid h
  clear h
  go_enter Tryz.func128, Tryz.ntmps128
  go_wp2_with fail
  clear hmk
  go_loopw [13] (fun i wr => ∃ k : Nat, k ≤ len ∧ i = .int .i64 k ∧ Below w.heap.size w wr ∧ w.heap.size < wr.heap.size ∧ CellsC wr w.heap.size (len * 2) (pairC (lenT xs) k)) (fun i _ => len - (intOf i).toNat)
  case atStart => exact ⟨0, Nat.zero_le _, rfl, (Below.refl _ _).alloc (Nat.le_refl _) _, by simp, pairC_start _ _ _⟩
  case round =>
    obtain ⟨k, hk, rfl, hb, hsz, hc⟩ := hrel
    have HB := Lib.hid hb
    have HC := Lib.hid hc
    by_cases hlt : k < len
    · have hkI : (k : Int) < (len : Int) := by omega
      obtain ⟨b, off, x, rfl, hx, hcx⟩ := (HH.out.below hb).get hlt
      have HX := Lib.hid (show lenT xs k = x from getD_of hx)
      obtain ⟨g0, f0⟩ := hc (k * 2) (by omega)
      obtain ⟨g1, f1⟩ := hc (k * 2 + 1) (by omega)
      clear hx hc hb
      go_wp2_with fail
      have HC2 := Lib.hid (pairC_step HC.out hlt)
      rw [HX.out] at HC2
      go_roundw
      case rel => exact ⟨k + 1, by omega, by go_num, (HB.out.setCell (p := ⟨w.heap.size, k * 2, none⟩) (Nat.le_refl _) _).setCell (p := ⟨w.heap.size, k * 2 + 1, none⟩) (Nat.le_refl _) _, by simpa [World.setCell] using hsz, HC2.out⟩
      case measure => simp [intOf]; omega
    · obtain rfl : k = len := by omega
      have hkI : ¬ (k : Int) < (k : Int) := by omega
      have HP := Lib.hid (pairC_all hc)
      clear hb hc
      by_cases h2 : o = 2
      · have HO := Lib.hid (show cutOrdO xs o = sortE (ahL xs) k by unfold cutOrdO; rw [if_pos h2, HL.out])
        subst h2
        have hC : CmpAt11 (lenT xs) 156 #[] (ahL xs) k w.heap.size wr := fun i y W hi hy hW =>
          ⟨cc11 (lenT xs y) (lenT xs i), by rw [cc11_lt]; unfold ahL lenT; rw [decide_eq_true_iff], cutsCmp_any _ _ _ _ W⟩
        have HS := Lib.hid (sortStable11_any (lenT xs) (ahL xs) w.heap.size k k wr (by omega) hsz hC HP.out)
        clear hC
        go_wp2_with fail
        refine HS.out.mono ?_
        rintro e w4 ⟨rfl, h4, hb4⟩
        have H4 := Lib.hid h4
        have HB4 := Lib.hid hb4
        clear h4 hb4
        go_wp2_with fail
        go_ret
        exact ⟨w.heap.size, rfl, Nat.le_refl _, Nat.lt_of_lt_of_le hsz HB4.out.size, by rw [HO.out]; exact H4.out, HB.out.trans HB4.out⟩
      · have HO := Lib.hid (show cutOrdO xs o = List.range k by unfold cutOrdO; rw [if_neg h2, HL.out])
        go_wp2_with fail
        go_ret
        exact ⟨w.heap.size, rfl, Nat.le_refl _, hsz, by rw [HO.out]; exact HP.out, HB.out⟩
set_option maxRecDepth 100000 in
theorem kindOf_any (kind : ByteArray) (w : World) : Calls Tryz.prog 127 #[.string kind] w fun e w' => e = .returned (.int .i64 (kindO kind)) ∧ w' = w := by
  have e1 : (kind.toList == [108, 111, 110, 103]) = isLong kind := rfl
  have e2 : (kind.toList == [102, 105, 114, 115, 116]) = isFirst kind := rfl
  cases h2 : isFirst kind
  · cases h1 : isLong kind
    · have HK := Lib.hid (show kindO kind = 0 by unfold kindO; rw [h1, h2]; rfl)
      rw [h1] at e1
      rw [h2] at e2
      go_enter Tryz.func127, Tryz.ntmps127
      go_wp2_with fail
      go_ret
      exact ⟨ret_int HK.out.symm, rfl⟩
    · have HK := Lib.hid (show kindO kind = 2 by unfold kindO; rw [h1, h2]; rfl)
      rw [h1] at e1
      rw [h2] at e2
      go_enter Tryz.func127, Tryz.ntmps127
      go_wp2_with fail
      go_ret
      exact ⟨ret_int HK.out.symm, rfl⟩
  · have HK := Lib.hid (show kindO kind = 1 by unfold kindO; rw [h2]; rfl)
    rw [h2] at e2
    go_enter Tryz.func127, Tryz.ntmps127
    go_wp2_with fail
    go_ret
    exact ⟨ret_int HK.out.symm, rfl⟩
end Go.Proofs.YtjcbpnffmebihaaGreatDoor
namespace Go.Proofs.YtjcbpnffmebihaaGreatDoor
open Go.RowKit Go.WideShapes

-- rolls of listed cuts
def encL (y : Int × Int) : List Value := [.int .i64 y.1, .int .i64 y.2]
def RollsL (w : World) (B r : Nat) (R : Int) (v : Value) (vs : List Value) (rows : List (List (Int × Int))) : Prop := RollsW encL 2 160 161 164 w B r R v vs rows
theorem encL_get : ∀ (l : List (Int × Int)) (j : Nat) (y : Int × Int), l[j]? = some y → (l.flatMap encL)[j * 2]? = some (.int .i64 y.1) ∧ (l.flatMap encL)[j * 2 + 1]? = some (.int .i64 y.2)
  | [], j, y, h => by simp at h
  | x :: l, 0, y, h => by
    simp at h
    subst h
    exact ⟨rfl, rfl⟩
  | x :: l, j + 1, y, h => by
    have ih := encL_get l j y (by simpa using h)
    rw [List.flatMap_cons]
    show ([Value.int .i64 x.1, Value.int .i64 x.2] ++ _)[(j + 1) * 2]? = _ ∧ ([Value.int .i64 x.1, Value.int .i64 x.2] ++ _)[(j + 1) * 2 + 1]? = _
    rw [List.getElem?_append_right (by simp; omega), List.getElem?_append_right (by simp; omega)]
    rw [show (j + 1) * 2 - [Value.int .i64 x.1, Value.int .i64 x.2].length = j * 2 by simp; omega, show (j + 1) * 2 + 1 - [Value.int .i64 x.1, Value.int .i64 x.2].length = j * 2 + 1 by simp; omega]
    exact ih
theorem own_listed {w : World} {B : Nat} {e : TypeId} {u : Value} {n : Nat} {l : List (Int × Int)} (h : w.ownsRow B e 2 u n (l.flatMap encL)) : ∃ a c, u = .slice a n c ∧ n ≤ c ∧
    ∀ j y, l[j]? = some y → j < n → ∃ g, a = some ⟨g, 0, none⟩ ∧ g < w.heap.size ∧ w.cell? ⟨g, j * 2, none⟩ = some (.int .i64 y.1) ∧ w.cell? ⟨g, j * 2 + 1, none⟩ = some (.int .i64 y.2) := by
  obtain ⟨a, c, rfl, hc⟩ := own_slice h
  refine ⟨a, c, rfl, hc, fun j y hj hn => ?_⟩
  obtain ⟨g, cap, e, hb, hlt⟩ := h.form (by omega)
  injection e with e1 e2 e3
  subst e1 e3
  obtain ⟨g1, g2⟩ := encL_get l j y hj
  exact ⟨g, rfl, hlt, (h.cellAt (j * 2) (by omega)).trans g1, (h.cellAt (j * 2 + 1) (by omega)).trans g2⟩
end Go.Proofs.YtjcbpnffmebihaaGreatDoor
namespace Go.Proofs.YtjcbpnffmebihaaGreatDoor
open Go.RowKit Go.WideShapes

-- chapter 11's code: hasRoom, firstFor of listed cuts
theorem lenL_meth (y p : Int) : ∀ (k : Nat) (w : World), (method (k + 1) 164 (.agg #[.int .i64 y, .int .i64 p]) "loop.example/shopsthatmake/impl.length").run Tryz.prog w = .ok (157, (.int .i64 y)) w := fun _ _ => by kernel_rfl
theorem map_getD (l : List (Int × Int)) {j : Nat} {x : Int × Int} (h : l[j]? = some x) : (l.map Prod.fst).getD j 0 = x.1 := by
  rw [List.getD_eq_getElem?_getD, List.getElem?_map, h]; rfl
set_option maxRecDepth 100000 in
set_option maxHeartbeats 2000000 in
theorem hasRoomL_any {w : World} {B r : Nat} {R : Int} {v : Value} {vs : List Value} {rows : List (List (Int × Int))} {n : Nat} (h : RollsL w B r R v vs rows) (hok : RowsOk Prod.fst rows n) (hn : n ≤ 20) (hR : 0 ≤ R ∧ R ≤ 20) {k : Nat} (hk : k ≤ rows.length) (y p : Int) :
    Calls Tryz.prog 158 #[.pointer (some ⟨r, 0, none⟩), .int .i64 k, .agg #[.int .i64 y, .int .i64 p]] w fun e w' => e = .returned (.bool (hasR R (loadsOf Prod.fst rows) k y)) ∧ Below w.heap.size w w' := by
  have hrl0 := lt_heap h.box
  obtain ⟨a0, a1, _⟩ := h.cells
  have hlen := hok.len
  obtain ⟨av, cv, hv, hcv⟩ := own_slice h.outer
  rw [hv] at a1
  have HB0 := Lib.hid ((Below.refl w.heap.size w).alloc (Nat.le_refl _) (.cells #[.int .i64 y, .int .i64 p] 164))
  have c0 : (w.alloc (.cells #[.int .i64 y, .int .i64 p] 164)).cell? ⟨r, 0, none⟩ = some (.int .i64 R) := (World.cell?_of_block (w := w) (Below.heap_alloc _ _ _ hrl0)).trans a0
  have c1 : (w.alloc (.cells #[.int .i64 y, .int .i64 p] 164)).cell? ⟨r, 1, none⟩ = some (.slice av rows.length cv) := (World.cell?_of_block (w := w) (Below.heap_alloc _ _ _ hrl0)).trans a1
  by_cases hkn : k = rows.length
  · have HF := Lib.hid (show hasR R (loadsOf Prod.fst rows) k y = true by unfold hasR; rw [loads_len, decide_eq_true hkn]; rfl)
    subst hkn
    clear hv hok h a0 a1 c0
    go_enter Tryz.func158, Tryz.ntmps158
    go_wp2_with fail
    go_ret
    exact ⟨ret_bool HF.out.symm, HB0.out⟩
  · have hkl : k < rows.length := by omega
    have HF := Lib.hid (show hasR R (loadsOf Prod.fst rows) k y = decide (y ≤ R - sumI ((rows.getD k []).map Prod.fst)) by unfold hasR; rw [loads_len, decide_eq_false hkn, loads_get]; simp)
    obtain ⟨g, cap, hv2, _, hgl⟩ := h.outer.form (by omega)
    have ho := h.outer
    rw [hv2] at ho hv
    injection hv with hv1 _ hv3
    subst hv1 hv3
    obtain ⟨u, hu⟩ : ∃ u, vs[k]? = some u := ⟨vs[k]'(by rw [h.lenV]; exact hkl), List.getElem?_eq_getElem _⟩
    have cr0 := (ho.cellAt k (by omega)).trans hu
    have hrow := h.row k u hu
    obtain ⟨au, cu, rfl, hcu, hpairs⟩ := own_listed hrow
    have cr : (w.alloc (.cells #[.int .i64 y, .int .i64 p] 164)).cell? ⟨g, k, none⟩ = _ := (World.cell?_of_block (w := w) (Below.heap_alloc _ _ _ hgl)).trans cr0
    have hrl := hok.row k
    have hrv := hok.val k
    obtain ⟨l, hl⟩ : ∃ l, rows.getD k [] = l := ⟨_, rfl⟩
    rw [hl] at hpairs hrl hrv HF cr
    have hrv2 : ∀ x ∈ l.map Prod.fst, 0 ≤ x ∧ x ≤ 20 := fun x hx => by
      obtain ⟨z, hz, rfl⟩ := List.mem_map.1 hx
      exact hrv z hz
    have hbd := fun j hj => sumI_bd hrv2 j hj
    have HB := Lib.hid hbd
    obtain ⟨m, hm⟩ : ∃ m, l.length = m := ⟨_, rfl⟩
    rw [hm] at hpairs cr hrl
    have HM := Lib.hid hm
    have HM2 := Lib.hid (show (l.map Prod.fst).length = m by rw [List.length_map, hm])
    obtain ⟨L, hL⟩ : ∃ L, l.map Prod.fst = L := ⟨_, rfl⟩
    rw [hL] at HF HB HM2
    have HLL := Lib.hid hL
    have HP := Lib.hid hpairs
    have hknI : ¬ (k : Int) = (rows.length : Int) := by omega
    have hklI : (k : Int) < (rows.length : Int) := by omega
    obtain ⟨N, hN⟩ : ∃ N, rows.length = N := ⟨_, rfl⟩
    rw [hN] at c1 hkl hknI hklI hlen
    have hmeth := lenL_meth
    have HBX := Lib.hid (heap_alloc_new w (.cells #[.int .i64 y, .int .i64 p] 164))
    clear hok h ho hu hrow hpairs hrv hrv2 hbd hv2 hl hm hN hkn hcv hcu hL a0 a1 cr0
    go_enter Tryz.func158, Tryz.ntmps158
    go_wp2_with fail
    go_loopw [7, 29] (fun s i wr => ∃ j : Nat, j ≤ m ∧ i = .int .i64 j ∧ s = .int .i64 (R - wsum (lenT L) (fun _ => true) j) ∧ Below (w.heap.size + 1) (w.alloc (.cells #[.int .i64 y, .int .i64 p] 164)) wr) (fun _ i _ => m - (intOf i).toNat)
    case atStart => exact ⟨0, Nat.zero_le _, rfl, by simp [wsum], Below.refl _ _⟩
    case round =>
      obtain ⟨j, hj, rfl, rfl, hbr⟩ := hrel
      have HBR := Lib.hid hbr
      have hsb := HB.out j (by rw [HM2.out]; exact hj)
      by_cases hlt : j < m
      · have hjI : (j : Int) < (m : Int) := by omega
        obtain ⟨x, hx⟩ : ∃ x, l[j]? = some x := ⟨l[j]'(by rw [HM.out]; exact hlt), List.getElem?_eq_getElem _⟩
        obtain ⟨b, rfl, hbl, d0, d1⟩ := HP.out j x hx hlt
        have k0 := (hbr.cell (p := ⟨b, j * 2, none⟩) (by show b < _; omega)).trans ((World.cell?_of_block (w := w) (Below.heap_alloc _ _ _ hbl)).trans d0)
        have k1 := (hbr.cell (p := ⟨b, j * 2 + 1, none⟩) (by show b < _; omega)).trans ((World.cell?_of_block (w := w) (Below.heap_alloc _ _ _ hbl)).trans d1)
        have HST := Lib.hid (show wsum (lenT L) (fun _ => true) (j + 1) = wsum (lenT L) (fun _ => true) j + x.1 by rw [sumI_pre L j (by rw [HM2.out]; exact hlt), ← HLL.out, map_getD l hx])
        have hxb := HB.out (j + 1) (by rw [HM2.out]; exact hlt)
        rw [HST.out] at hxb
        obtain ⟨x1, x2⟩ := x
        dsimp only at k0 k1 HST hxb
        obtain ⟨s, hs⟩ : ∃ s, wsum (lenT L) (fun _ => true) j = s := ⟨_, rfl⟩
        rw [hs] at hsb hxb HST ⊢
        push_cast at hxb
        have hsz := hbr.size
        have HB3 := Lib.hid (HBR.out.alloc (by have : (w.alloc (.cells #[.int .i64 y, .int .i64 p] 164)).heap.size = w.heap.size + 1 := by simp
                                               omega) (.cells #[.int .i64 x1, .int .i64 x2] 164))
        clear hs hx hbr d0 d1 hsz
        go_wp2_with (first | (go_at_call 157; refine (lenP_any _ _).mono ?_; rintro e w' ⟨rfl, rfl⟩) | fail)
        go_roundw
        case rel => exact ⟨j + 1, by omega, by go_num, by rw [HST.out]; simp; omega, HB3.out⟩
        case measure => simp [intOf]; omega
      · obtain rfl : j = m := by omega
        have hjI : ¬ (j : Int) < (j : Int) := by omega
        have HS := Lib.hid (show sumI L = wsum (lenT L) (fun _ => true) j by unfold sumI; rw [HM2.out])
        obtain ⟨s, hs⟩ : ∃ s, wsum (lenT L) (fun _ => true) j = s := ⟨_, rfl⟩
        rw [hs] at HS ⊢
        have e0 : wr.cell? ⟨w.heap.size, 0, none⟩ = some (.int .i64 y) := (hbr.cell (p := ⟨w.heap.size, 0, none⟩) (by show w.heap.size < _; omega)).trans (by rw [cell_of_row _ _ _ _ _ _ HBX.out]; rfl)
        have e1 : wr.cell? ⟨w.heap.size, 1, none⟩ = some (.int .i64 p) := (hbr.cell (p := ⟨w.heap.size, 1, none⟩) (by show w.heap.size < _; omega)).trans (by rw [cell_of_row _ _ _ _ _ _ HBX.out]; rfl)
        clear hs hbr
        go_wp2_with (first | (go_at_call 157; refine (lenP_any _ _).mono ?_; rintro e w' ⟨rfl, rfl⟩) | fail)
        go_ret
        exact ⟨ret_bool (by rw [HF.out, HS.out]), HB0.out.trans (HBR.out.mono (by omega))⟩
end Go.Proofs.YtjcbpnffmebihaaGreatDoor
