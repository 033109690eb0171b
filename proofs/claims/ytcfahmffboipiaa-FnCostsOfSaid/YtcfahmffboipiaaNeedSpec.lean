import Derived.Test.YtcfahmffboipiaaRows
import Derived.WalkKit
import Derived.LoopTactic
import Derived.Outline
import Derived.WalkSpells
import Derived.WalkLawsBesides
import Derived.ProofKit
import Derived.Lib.Hide
import Derived.StillTailTactics
import Derived.IntWalk
import Derived.Test.YtcfahmffboipiaaLib
import Derived.Test.YtcfahmffboipiaaGen
import Derived.Test.YtcfahmffboipiaaCountM
import Derived.Test.YtcfahmffboipiaaTakesM
import Derived.Test.YtcfahmffboipiaaBillM
import Derived.Test.YtcfahmffboipiaaVb
import Derived.Test.YtcfahmffboipiaaVal2
import Derived.Test.YtcfahmffboipiaaApp
import Derived.Test.YtcfahmffboipiaaOwn1
import Derived.Test.YtcfahmffboipiaaMark
import Derived.Test.YtcfahmffboipiaaEx
import Derived.Test.YtcfahmffboipiaaCostSpec
import Derived.Test.YtcfahmffboipiaaCosts
import Derived.Test.YtcfahmffboipiaaNeeds
namespace Go.Proofs.Ytcfahmffboipiaa
open Go.RowKit Go.WideShapes

/-- a row of ints of the call's own, at g -/
structure CellsF (w wr : World) (g len : Nat) (f : Nat → Int) : Prop where
  low : w.heap.size ≤ g
  cells : ∀ q, q < len → wr.cell? ⟨g, q, none⟩ = some (.int .i64 (f q)) ∧ wr.frozen? ⟨g, q, none⟩ = false
  below : Below w.heap.size w wr
theorem CellsF.congr {w wr : World} {g len : Nat} {f f' : Nat → Int} (h : CellsF w wr g len f) (e : ∀ q, q < len → f q = f' q) : CellsF w wr g len f' :=
  ⟨h.low, fun q hq => by rw [← e q hq]; exact h.cells q hq, h.below⟩
theorem CellsF.drew {w wr : World} {g len : Nat} {f : Nat → Int} (h : CellsF w wr g len f) : CellsF w wr.drew g len f := ⟨h.low, h.cells, h.below.drew⟩
theorem CellsF.put {w wr : World} {g len : Nat} {f : Nat → Int} (h : CellsF w wr g len f) (k : Nat) (v : Int) : CellsF w (wr.setCell ⟨g, k, none⟩ (.int .i64 v)) g len (fun q => if q = k then v else f q) := by
  refine ⟨h.low, fun q hq => ⟨?_, ?_⟩, h.below.setCell h.low _⟩
  · by_cases e : q = k
    · subst e
      rw [if_pos rfl]
      exact World.cell?_setCell_same _ _ _ (h.cells q hq).1
    · rw [World.cell?_setCell_other _ _ _ _ (by intro e'; injection e'; omega), if_neg e]
      exact (h.cells q hq).1
  · rw [World.frozen?_setCell]; exact (h.cells q hq).2
theorem cells_start {w w1 : World} {a : Option Addr} {len cap : Nat} {xs : List Int} (ho : w1.ownsRow w.heap.size 3 1 (.slice a len cap) len (xs.map (.int .i64))) (hb : Below w.heap.size w w1) (h0 : 0 < len) :
    ∃ g, a = some ⟨g, 0, none⟩ ∧ CellsF w w1 g len (fun q => xs.getD q 0) := by
  have hlen : xs.length = len := by have := ho.1; simpa using this
  obtain ⟨g, v0, rfl, hg, _, _⟩ := own_place ho (j := 0) h0
  refine ⟨g, rfl, hg, fun q hq => ?_, hb⟩
  have hc := ho.cellAt q (by simp [hlen]; exact hq)
  rw [List.getElem?_map, get_getD (by omega)] at hc
  exact ⟨hc, ho.frozenAt q⟩
theorem CellsF.res {w wr : World} {g len cap : Nat} {f : Nat → Int} (h : CellsF w wr g len f) (hs : len ≤ 1048576) : ResPost w (tab f len) (.returned (.slice (some ⟨g, 0, none⟩) len cap)) wr :=
  resPost_blockG (tab_length _ _) hs h.low (fun q x hx => by obtain ⟨rfl, hq⟩ := tab_get hx; exact h.cells q hq) h.below
theorem resPost_new {w w' : World} {xs : List Int} {a : Option Addr} {l c : Nat} (h : ResPost w xs (.returned (.slice a l c)) w') (hc : l ≤ c) : NewInts w xs (.returned (.slice a l c)) w' := by
  obtain ⟨a', l', c', e, h1, _, h3⟩ := h
  simp only [Ending.returned.injEq, Value.slice.injEq] at e
  obtain ⟨rfl, rfl, rfl⟩ := e
  exact ⟨_, _, _, rfl, h1, hc, h3⟩

def needsM (rows : List (List Int)) (ws : List Int) : List Int := tab (needN rows ws) rows.length
/-- in part i, the parts below j are done -/
def needIn (rows : List (List Int)) (ws : List Int) (i j q : Nat) : Int := needTo rows ws (i + 1) q + if q < j then needN rows ws i * useM rows i q else 0
theorem needIn_zero (rows : List (List Int)) (ws : List Int) (i q : Nat) : needIn rows ws i 0 q = needTo rows ws (i + 1) q := by unfold needIn; rw [if_neg (by omega), Int.add_zero]
theorem needIn_succ (rows : List (List Int)) (ws : List Int) (i j q : Nat) : needIn rows ws i (j + 1) q = if q = j then needIn rows ws i j j + needN rows ws i * useM rows i j else needIn rows ws i j q := by
  unfold needIn
  by_cases h : q = j
  · subst h; rw [if_pos (by omega), if_pos rfl, if_neg (by omega)]; omega
  · rw [if_neg h]
    by_cases h2 : q < j
    · rw [if_pos h2, if_pos (by omega)]
    · rw [if_neg h2, if_neg (by omega)]
theorem needIn_all {rows : List (List Int)} (hv : validBillM rows = true) (ws : List Int) {i : Nat} (hi : i < rows.length) (q : Nat) : needIn rows ws i i q = needTo rows ws i q := by
  rw [needTo_step hi, needIn]
  by_cases h : q < i
  · rw [if_pos h]
  · rw [if_neg h, useM_high hv (show i ≤ q by omega), Int.mul_zero]
theorem needIn_self {rows : List (List Int)} (hv : validBillM rows = true) (ws : List Int) {i j : Nat} (hi : i < rows.length) (hj : j ≤ i) : needIn rows ws i j i = needN rows ws i := by
  unfold needIn
  rw [if_neg (by omega), Int.add_zero]
  exact needTo_done hv hi (by omega)

set_option maxRecDepth 100000 in
set_option maxHeartbeats 4000000 in
theorem needs_spec0 (a : Option Addr) (len cap : Nat) (rows : List (List Int)) (a2 : Option Addr) (len2 cap2 : Nat) (own : List Int) (w : World) (hv : validBillM rows = true) (hw : wantsM rows.length own = true) (h : RowsAt w (· < w.heap.size) a len rows) (g : IntsAt w (· < w.heap.size) a2 len2 own) :
    Calls Try.prog 33 #[.slice a len cap, .slice a2 len2 cap2] w (NewInts w (needsM rows own)) := by
  have hl := h.lenEq
  have hl2 : len2 = len := by have := wants_len hw; have := g.lenEq; omega
  subst hl2
  have hl6 : len2 ≤ 6 := by have := validBill_len6 hv; omega
  have hl1 : 0 < len2 := by have := validBill_pos hv; omega
  have HO := Lib.hid (show ∀ k, 0 ≤ own.getD k 0 ∧ own.getD k 0 ≤ 40 from fun k => by have := wants_at hw k; omega)
  have HL := Lib.hid hl
  obtain ⟨b2, off2, rfl, hb2, _⟩ := g.cells hl1
  have hx := g.to (w' := w.alloc (.cells #[] 3)) (S' := (· < w.heap.size)) (fun k hk => ⟨hk, Below.heap_alloc _ _ _ (by omega)⟩)
  have HX := Lib.hid hx
  clear hl hw hx
  go_enter Try.func33, Try.ntmps33
  go_wp2_with (at_builtin; refine wpAppN rfl _ _ rfl w.heap.size 0 _ _ [] _ b2 off2 len2 cap2 own rfl (World.ownsRow_made w #[] 0 (Nat.le_refl _) (Nat.zero_le _) rfl) rfl HX.out (by simp) (by omega) ?_)
  intro a6 c6 w1 hown hc6 hgr
  have hb1 : Below w.heap.size w w1 := ((Below.refl _ w).alloc (Nat.le_refl _) _).grown hgr (by simp) (by intro k hk; simp [Value.ownBlock] at hk; omega)
  obtain ⟨g6, rfl, hcf⟩ := cells_start hown hb1 hl1
  have HCF := Lib.hid (hcf.congr (f' := needTo rows own len2) (fun q _ => by rw [← HL.out]; exact (needTo_end rows own q).symm))
  clear hown hgr hcf hb1
  go_wp2
  go_loopw [6] (fun i wr => ∃ v : Int, -1 ≤ v ∧ v < len2 ∧ i = .int .i64 v ∧ CellsF w wr g6 len2 (needTo rows own (v + 1).toNat)) (fun i _ => (intOf i + 1).toNat)
  case atStart => exact ⟨(len2 : Int) - 1, by omega, by omega, rfl, by rw [show ((len2 : Int) - 1 + 1).toNat = len2 by omega]; exact HCF.out⟩
  case round =>
    obtain ⟨v, hv1, hv2, rfl, hC⟩ := hrel
    obtain ⟨wo, rfl⟩ : ∃ wo : World, wo = wr := ⟨_, rfl⟩
    by_cases h0v : 0 ≤ v
    · obtain ⟨i, rfl⟩ : ∃ i : Nat, v = (i : Int) := ⟨v.toNat, by omega⟩
      rw [show ((i : Int) + 1).toNat = i + 1 by omega] at hC
      have hil : i < len2 := by omega
      have HC0 := Lib.hid hC
      clear hC
      go_wp2
      go_loopw [7] (fun j wr => ∃ m : Nat, m ≤ i ∧ j = .int .i64 m ∧ CellsF w wr g6 len2 (needIn rows own i m)) (fun j _ => i - (intOf j).toNat)
      case atStart => exact ⟨0, Nat.zero_le _, rfl, HC0.out.congr (fun q _ => (needIn_zero rows own i q).symm)⟩
      case round =>
        obtain ⟨m, hm, rfl, hC⟩ := hrel
        obtain ⟨wi, rfl⟩ : ∃ wi : World, wi = wr := ⟨_, rfl⟩
        by_cases hml : m < i
        · obtain ⟨b, off, r, a', l, c, rfl, hx, hc, _, hri⟩ := (h.below hC.below).get hil
          obtain ⟨hr1, _, _⟩ := okRows_get hv hx
          have hlr : l = i := by rw [← hri.lenEq]; exact hr1
          obtain ⟨b3, off3, x, rfl, hy, hd⟩ := hri.get (k := m) (by omega)
          obtain ⟨e1, f1⟩ := hC.cells m (by omega)
          obtain ⟨e2, f2⟩ := hC.cells i hil
          have hu := useM_get hx hy
          have hub := useM_bd hv i m
          rw [hu] at hub
          have hself := needIn_self hv own (j := m) (show i < rows.length by rw [HL.out]; exact hil) hm
          rw [hself] at e2
          have hvb := needN_bd hv HO.out i
          have hzb : 0 ≤ needIn rows own i m m ∧ needIn rows own i m m ≤ 200000000000 := by
            unfold needIn; rw [if_neg (by omega), Int.add_zero]; exact needTo_bd hv HO.out (by rw [HL.out]; omega) m
          have HS := Lib.hid (show ∀ q, needIn rows own i (m + 1) q = if q = m then needIn rows own i m m + needN rows own i * x else needIn rows own i m q from fun q => by rw [needIn_succ, hu])
          have HC := Lib.hid hC
          clear hx hy hu hself hr1 hC hri
          subst hlr
          generalize needIn rows own l m m = u at e1 hzb HS
          generalize needN rows own l = v at e2 hvb HS
          have hmb : 0 ≤ v * x ∧ v * x ≤ 10000000000 * 3 := mul_box hvb.1 hvb.2 hub.1 hub.2
          have hml2 : (m : Int) < (l : Int) := by omega
          have hml3 : (m : Int) < (len2 : Int) := by omega
          have hll2 : (l : Int) < (len2 : Int) := by omega
          have hml4 : m < len2 := by omega
          have hw1 : IntKind.i64.wrap (v * x) = v * x := IntWalk.i64_in _ (by omega)
          have hw2 : IntKind.i64.wrap (u + v * x) = u + v * x := IntWalk.i64_in _ (by omega)
          go_wp2_with fail
          go_still_tail 20, (by kernel_rfl)
          go_wp2
          go_roundw
          case rel => exact ⟨m + 1, by omega, by go_num, (HC.out.drew.put m _).congr (fun q _ => (HS.out q).symm)⟩
          case measure => simp [intOf] <;> omega
        · obtain rfl : m = i := by omega
          have HC := Lib.hid (hC.congr (fun q _ => needIn_all hv own (show m < rows.length by rw [HL.out]; exact hil) q))
          clear hC
          go_wp2
          go_roundw
          case rel => exact ⟨(m : Int) - 1, by omega, by omega, rfl, by rw [show ((m : Int) - 1 + 1).toNat = m by omega]; exact HC.out⟩
          case measure => simp [intOf] <;> omega
    · obtain rfl : v = -1 := by omega
      have HC := Lib.hid (hC.congr (f' := needN rows own) (fun q hq => needTo_done hv (by rw [HL.out]; exact hq) (by omega)))
      clear hC
      go_wp2
      go_ret
      have e : needsM rows own = tab (needN rows own) len2 := by unfold needsM; rw [HL.out]
      rw [e]
      exact resPost_new (HC.out.res (by omega)) hc6
/-- what NeedsOf answers -/
def needRes (rows : List (List Int)) (own : List Int) : List Int := if oneEachM rows own then needsM rows own else []
theorem needRes_no {rows : List (List Int)} {own : List Int} (h : oneEachM rows own = false) : needRes rows own = [] := by unfold needRes; rw [h]; rfl
theorem needRes_yes {rows : List (List Int)} {own : List Int} (h : oneEachM rows own = true) : needRes rows own = needsM rows own := by unfold needRes; rw [h]; rfl
theorem needRes_len (rows : List (List Int)) (own : List Int) : (needRes rows own).length ≤ 1048576 := by
  cases h : oneEachM rows own
  · rw [needRes_no h]; simp
  · rw [needRes_yes h, needsM, tab_length]
    simp only [oneEachM, Bool.and_eq_true] at h
    have := validBill_len6 h.1; omega
theorem needsOf_impl (a : Option Addr) (len cap : Nat) (rows : List (List Int)) (a2 : Option Addr) (len2 cap2 : Nat) (own : List Int) (w : World) (h : RowsAt w (· < w.heap.size) a len rows) (g : IntsAt w (· < w.heap.size) a2 len2 own) :
    Calls Try.prog 8 #[.slice a len cap, .slice a2 len2 cap2] w (ResPost w (needRes rows own)) := by
  cases hone : oneEachM rows own
  · rw [needRes_no hone]
    go_enter Try.func8, Try.ntmps8
    go_wp2_with fail
    refine (hasOne_any _ _ _ _ _ rows _ _ _ own _ h g).mono ?_
    rintro e w2 ⟨rfl, rfl⟩
    rw [hone]
    go_wp2
    go_ret
    exact resPost_nil w
  · rw [needRes_yes hone]
    simp only [oneEachM, Bool.and_eq_true] at hone
    refine (needs_impl rows own hone.1 hone.2 a len cap a2 len2 cap2 w h g).mono ?_
    rintro e w' ⟨g6, c6, rfl, hg, _, hc, hb⟩
    have hl := h.lenEq
    have h6 := validBill_len6 hone.1
    refine resPost_blockG (by rw [needsM, tab_length]; exact hl) (by omega) hg (fun q x hx => ?_) hb
    obtain ⟨rfl, hq⟩ := tab_get hx
    exact hc q (by omega)
theorem needsOf_spec (a : Option Addr) (len cap : Nat) (rows : List (List Int)) (a2 : Option Addr) (len2 cap2 : Nat) (own : List Int) (w : World) (h : RowsAt w (· < w.heap.size) a len rows) (g : IntsAt w (· < w.heap.size) a2 len2 own) :
    Calls Try.prog 10 #[.slice a len cap, .slice a2 len2 cap2] w (NewInts w (needRes rows own)) := by
  have HL := Lib.hid h.lenEq
  cases hv : validBillM rows
  · rw [needRes_no (by unfold oneEachM; rw [hv]; rfl)]
    go_enter Try.func10, Try.ntmps10
    go_wp2_with (go_at_call 31; refine (validBill_spec0 _ _ _ _ rows _ h).mono ?_; rintro e w2 ⟨rfl, rfl⟩)
    go_ret
    exact newInts_nil w
  · cases hw : wantsM (len : Int) own
    · rw [needRes_no (by unfold oneEachM; rw [hv, HL.out, hw]; rfl)]
      go_enter Try.func10, Try.ntmps10
      go_wp2_with (first | (go_at_call 31; refine (validBill_spec0 _ _ _ _ rows _ h).mono ?_; rintro e w2 ⟨rfl, rfl⟩) | (go_at_call 32; refine (validWants_any _ _ _ _ own _ _ g).mono ?_; rintro e w2 ⟨rfl, rfl⟩))
      go_ret
      exact newInts_nil w
    · have hw' : wantsM rows.length own = true := by rw [HL.out]; exact hw
      rw [needRes_yes (by unfold oneEachM; rw [hv, hw']; rfl)]
      go_enter Try.func10, Try.ntmps10
      go_wp2_with (first | (go_at_call 31; refine (validBill_spec0 _ _ _ _ rows _ h).mono ?_; rintro e w2 ⟨rfl, rfl⟩) | (go_at_call 32; refine (validWants_any _ _ _ _ own _ _ g).mono ?_; rintro e w2 ⟨rfl, rfl⟩) | (go_at_call 33; refine (needs_spec0 _ _ _ rows _ _ _ own _ hv hw' h g).mono ?_; rintro e w' ⟨a3, l3, c3, rfl, h1, h2, h3⟩))
      go_ret
      exact ⟨a3, l3, c3, rfl, h1, h2, h3⟩
end Go.Proofs.Ytcfahmffboipiaa
