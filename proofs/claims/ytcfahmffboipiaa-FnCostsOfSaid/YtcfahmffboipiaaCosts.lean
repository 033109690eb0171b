import Derived.Test.YtcfahmffboipiaaRows
import Derived.RangeFuncNested
import Derived.RangeFuncBound
import Derived.RangeFuncCalls
import Derived.RangeFuncLeaves
import Derived.Shelf.Abstract
import Derived.Shelf.RegionOpen
import Derived.WalkKit
import Derived.Outline
import Derived.OwnWalkIn
import Derived.TacticsInMore
import Derived.LoopNIn
import Derived.LoopIn
import Derived.IntWalk
import Derived.StillTailTactics
import Derived.Deep.OwnRows
import Derived.Test.YtcfahmffboipiaaLib
import Derived.Test.YtcfahmffboipiaaCountM
import Derived.Test.YtcfahmffboipiaaTakesM
import Derived.Test.YtcfahmffboipiaaBillM
import Derived.Test.YtcfahmffboipiaaParts
import Derived.Test.YtcfahmffboipiaaRound
import Derived.Test.YtcfahmffboipiaaVb
import Derived.Test.YtcfahmffboipiaaUp
import Derived.Test.YtcfahmffboipiaaVal2
import Derived.Test.YtcfahmffboipiaaApp
import Derived.Test.YtcfahmffboipiaaBox
import Derived.Test.YtcfahmffboipiaaCostSpec
import Derived.Test.YtcfahmffboipiaaMark
namespace Go.Proofs.Ytcfahmffboipiaa
open Go.RowKit Go.Shelf Go.Deep

attribute [local go_sem] Oper.semAt_some

def oneEachM (rows : List (List Int)) (xs : List Int) : Bool := validBillM rows && wantsM rows.length xs
theorem hasOne_any (S T : Nat → Prop) (a : Option Addr) (len cap : Nat) (rows : List (List Int)) (a2 : Option Addr) (len2 cap2 : Nat) (xs : List Int) (w : World) (h : RowsAt w S a len rows) (g : IntsAt w T a2 len2 xs) :
    Calls Try.prog 27 #[.slice a len cap, .slice a2 len2 cap2] w fun e w' => e = .returned (.bool (oneEachM rows xs)) ∧ w = w' := by
  have hs := h.small
  have hs2 := g.small
  have HL := Lib.hid h.lenEq
  have HL2 := Lib.hid g.lenEq
  cases hv : validBillM rows
  · go_enter Try.func27, Try.ntmps27
    go_wp2_with (go_at_call 34; refine (validBill_impl _ _ _ _ rows _ h).mono ?_; rintro e w2 ⟨rfl, rfl⟩)
    go_ret
    exact ⟨ret_bool (by unfold oneEachM; rw [hv]; rfl), rfl⟩
  · by_cases hll : len2 = len
    · subst hll
      go_enter Try.func27, Try.ntmps27
      go_wp2_with (first | (go_at_call 34; refine (validBill_impl _ _ _ _ rows _ h).mono ?_; rintro e w2 ⟨rfl, rfl⟩) | (go_at_call 42; refine (allUpTo_any _ _ _ _ xs 20 _ g).mono ?_; rintro e w' ⟨rfl, rfl⟩))
      go_ret
      exact ⟨ret_bool (by unfold oneEachM wantsM; rw [hv, HL.out, HL2.out]; simp), rfl⟩
    · have hne : ((len2 : Int) == (len : Int)) = false := by simp; omega
      go_enter Try.func27, Try.ntmps27
      go_wp2_with (go_at_call 34; refine (validBill_impl _ _ _ _ rows _ h).mono ?_; rintro e w2 ⟨rfl, rfl⟩)
      go_ret
      exact ⟨ret_bool (by unfold oneEachM wantsM; rw [hv, HL.out, HL2.out]; simp; omega), rfl⟩

/-- the costs in the making: those below i are done, that of i is at part, the others stand as the own costs -/
def costAt (rows : List (List Int)) (own : List Int) (i : Nat) (part : Int) (q : Nat) : Int := if q < i then costN rows own q else if q = i then part else own.getD q 0
theorem costAt_start (rows : List (List Int)) (own : List Int) (q : Nat) : own.getD q 0 = costAt rows own 0 (own.getD 0 0) q := by
  unfold costAt; rw [if_neg (by omega)]; split
  · rename_i h; rw [h]
  · rfl
theorem costAt_next {rows : List (List Int)} {own : List Int} {i : Nat} {part : Int} (hp : part = costN rows own i) (q : Nat) : costAt rows own i part q = costAt rows own (i + 1) (own.getD (i + 1) 0) q := by
  unfold costAt
  by_cases h1 : q < i
  · rw [if_pos h1, if_pos (by omega)]
  · by_cases h2 : q = i
    · subst h2; rw [if_neg h1, if_pos rfl, if_pos (by omega), hp]
    · rw [if_neg h1, if_neg h2, if_neg (by omega)]
      by_cases h3 : q = i + 1
      · subst h3; rw [if_pos rfl]
      · rw [if_neg h3]
def costOver (rows : List (List Int)) (own : List Int) (i : Nat) (l : List (Nat × Int)) : Int := own.getD i 0 + sumOver (fun p c => c * costN rows own p) l
theorem costOver_snoc (rows : List (List Int)) (own : List Int) (i : Nat) (l : List (Nat × Int)) (p : Nat × Int) : costOver rows own i (l ++ [p]) = costOver rows own i l + costN rows own p.1 * p.2 := by
  unfold costOver; rw [sumOver_snoc, Int.mul_comm (costN rows own p.1)]; omega
theorem costOver_all {rows : List (List Int)} (hv : validBillM rows = true) (own : List Int) {i : Nat} {r : List Int} (hr : rows[i]? = some r) : costOver rows own i (pairsTo r r.length) = costN rows own i := by
  obtain ⟨h1, h2, _⟩ := okRows_get hv hr
  have hi : i < rows.length := (List.getElem?_eq_some_iff.1 hr).1
  rw [cost_rec hv own hi, costOver, sumOver_pairs _ _ (fun x hx => (h2 x hx).1), h1]
  congr 1
  refine sumTo_congr (fun k _ => ?_)
  unfold useM
  rw [List.getD_eq_getElem?_getD (l := rows), hr]; rfl
theorem costOver_bd {rows : List (List Int)} (hv : validBillM rows = true) {own : List Int} (ho : ∀ k, 0 ≤ own.getD k 0 ∧ own.getD k 0 ≤ 20) {i : Nat} {r : List Int} (hr : rows[i]? = some r) {l : List (Nat × Int)} (hl : l.length ≤ 6) (h : ∀ p ∈ l, r[p.1]? = some p.2) :
    0 ≤ costOver rows own i l ∧ costOver rows own i l ≤ 100000000000 := by
  obtain ⟨h1, h2, h3⟩ := okRows_get hv hr
  have hb : ∀ p ∈ l, 0 ≤ p.2 * costN rows own p.1 ∧ p.2 * costN rows own p.1 ≤ 3 * 5000000000 := by
    intro p hp
    have hx := h p hp
    have := h2 _ (List.mem_of_getElem? hx)
    have hk : p.1 < r.length := (List.getElem?_eq_some_iff.1 hx).1
    have hc := costN_bd hv ho (show p.1 ≤ 6 by omega)
    exact mul_box this.1 this.2 hc.1 hc.2
  have h5 := sumOver_bd (f := fun p c => c * costN rows own p) (B := 3 * 5000000000) l hb
  have := ho i
  unfold costOver; omega

def RowOf (w : World) (len : Nat) (f : Nat → Int) (e : Ending) (w' : World) : Prop := ∃ (g cap : Nat), e = .returned (.slice (some ⟨g, 0, none⟩) len cap) ∧ w.heap.size ≤ g ∧ len ≤ cap ∧
  (∀ q, q < len → w'.cell? ⟨g, q, none⟩ = some (.int .i64 (f q)) ∧ w'.frozen? ⟨g, q, none⟩ = false) ∧ Below w.heap.size w w'

set_option maxRecDepth 100000 in
set_option maxHeartbeats 4000000 in
theorem costs_impl (rows : List (List Int)) (own : List Int) (hv : validBillM rows = true) (hwn : wantsM rows.length own = true) (a : Option Addr) (len cap : Nat) (a2 : Option Addr) (len2 cap2 : Nat) (w : World) (h : RowsAt w (· < w.heap.size) a len rows) (g : IntsAt w (· < w.heap.size) a2 len2 own) :
    Calls Try.prog 21 #[.slice a len cap, .slice a2 len2 cap2] w (RowOf w len (costN rows own)) := by
  have hs := h.small
  have hl := h.lenEq
  have hl2 : len2 = len := by have := wants_len hwn; have := g.lenEq; omega
  subst hl2
  have hl6 : len2 ≤ 6 := by have := validBill_len6 hv; omega
  have hl1 : 0 < len2 := by have := validBill_pos hv; omega
  have HO := Lib.hid (wants_at hwn)
  have HL := Lib.hid hl
  have HONE := Lib.hid (show oneEachM rows own = true by rw [oneEachM, hv, hwn]; rfl)
  obtain ⟨b2, off2, rfl, hb2, _⟩ := g.cells hl1
  clear hl hwn
  refine (callsIn_wide (n := 3)).1 ?_
  refine callsIn_of_wp_marks Try.func21 rfl trivial ?_ rfl
  simp only [Try.ntmps21, List.size_toArray, List.length_cons, List.length_nil, Nat.reduceAdd, Nat.reduceSub, Array.replicate_succ, Array.replicate_zero, List.push_toArray, List.append_toArray, List.nil_append, List.cons_append]
  gi_wp2_with (refine ⟨trivial, ?_⟩; gi_at_call 27; refine (callsIn_wide.2 (hasOne_any _ _ _ _ _ rows _ _ _ own _ h g)).mono ?_; rintro e w2 ⟨rfl, rfl⟩; rw [HONE.out])
  gi_wp2_with (refine ⟨trivial, ?_⟩; gi_at_call 28; refine (callsIn_wide.2 (clone_any _ _ _ _ _ own _ g (fun _ hb => hb) (by omega))).mono ?_; rintro e w1 ⟨a6, l6, c6, rfl, hl6', ho6, hb6⟩)
  have hll : l6 = len2 := by have := ho6.1; simp at this; have := g.lenEq; omega
  subst hll
  obtain ⟨g6, rfl, hbox⟩ := box_start ho6 hb6 hl1 24
  have hc6 : l6 ≤ c6 := (own_slice ho6).elim (fun a ⟨c, e, h⟩ => by simp only [Value.slice.injEq] at e; omega)
  have hsz1 := hb6.size
  have hgx := hbox.up
  have hgl := hbox.low
  have hbox0 := hbox.congr (fun q _ => costAt_start rows own q)
  clear hbox ho6
  generalize hX : w1.heap.size = x at hbox0 hgx hsz1 ⊢
  clear hX
  refine wpIn_loop (fun a' w' => ∃ (k : Nat) (Ds : List Nat) (u6 u7 u19 u20 u21 u22 u23 u24 u39 : Value), a' = { tmps := #[.slice a l6 cap, .slice (some ⟨b2, off2, none⟩) l6 cap2, undef, undef, .slice none 0 0, .pointer (some ⟨x, 0, none⟩), u6, u7, undef, undef, .slice a l6 cap, .slice (some ⟨b2, off2, none⟩) l6 cap2, .bool true, .bool false, .slice (some ⟨b2, off2, none⟩) l6 cap2, .slice (some ⟨g6, 0, none⟩) l6 c6, .slice a l6 cap, .int .i64 l6, .int .i64 (k : Int), u19, u20, u21, u22, u23, u24, undef, undef, undef, undef, undef, undef, undef, undef, undef, undef, undef, undef, undef, undef, u39, undef], defers := Ds.map collected } ∧ k ≤ l6 ∧ BoxInv w w' g6 x l6 c6 (costAt rows own k (own.getD k 0)) ∧ Marks w' w.heap.size Ds)
    (fun a' _ => l6 - (intOf (a'.tmps.getD 18 undef)).toNat) ?_ ?_
  · exact ⟨0, [], _, _, _, _, _, _, _, _, _, rfl, Nat.zero_le _, hbox0, trivial⟩
  · rintro a1 wr ⟨k, Ds, u6, u7, u19, u20, u21, u22, u23, u24, u39, rfl, hk, hinv, hmks⟩
    have HMK := Lib.hid hmks
    clear hmks
    by_cases hlt : k < l6
    · have hB := hinv.below
      obtain ⟨b, off, r, a', l, c, rfl, hx, hc, _, hri⟩ := (h.below hB).get hlt
      have hbw : b < w.heap.size := h.mem (by omega)
      have hbr : b < wr.heap.size := Nat.lt_of_lt_of_le hbw hB.size
      have hxw : x < wr.heap.size := lt_cell hinv.box
      have HX := Lib.hid hx
      have HINV := Lib.hid hinv
      clear hx hinv
      gi_wp2_with (refine ⟨trivial, ?_⟩; gi_at_call 30; refine (partsTaken_any _ _ _ _ _).mono ?_; rintro e w' ⟨rfl, rfl⟩)
      have cI := cell_new_l wr (.int .i64 k) 3
      have cR := cell_new_l (wr.alloc (.cells #[.int .i64 k] 3)) (.slice a' l c) 24
      rw [World.size_alloc] at cR
      obtain ⟨W0, hW0⟩ : ∃ W0, ((wr.alloc (.cells #[.int .i64 k] 3)).alloc (.cells #[.slice a' l c] 24)) = W0 := ⟨_, rfl⟩
      have hsz : W0.heap.size = wr.heap.size + 2 := by rw [← hW0]; simp
      have cI' : W0.cell? ⟨wr.heap.size, 0, none⟩ = some (.int .i64 k) := by rw [← hW0]; exact cell_alloc_l _ cI.1
      have cR' : W0.cell? ⟨wr.heap.size + 1, 0, none⟩ = some (.slice a' l c) := by rw [← hW0]; exact cR.1
      have hinv0 : BoxInv w W0 g6 x l6 c6 (costAt rows own k (costOver rows own k [])) := by
        rw [← hW0, show costOver rows own k [] = own.getD k 0 by simp [costOver, sumOver]]; exact (HINV.out.alloc _).alloc _
      have hmk0 : Marks W0 w.heap.size Ds := by rw [← hW0]; exact (HMK.out.alloc _).alloc _
      rw [hW0]
      clear cI cR hW0
      have hws := hB.size
      refine wpIn_rangeFunc_ownF rfl (by omega) (gf := 44) (lb := #[.pointer (some ⟨wr.heap.size + 1, 0, none⟩)]) rfl trivial (enters_of Try.func44 (by kernel_rfl) rfl)
        (parts_stops _ (by omega) (wr.heap.size + 1) w.heap.size a' l c r W0 (by omega) (by omega) cR' (hri.to (fun q hq => ⟨hq, (hinv0.below.block q hq).trans (hB.block q hq).symm⟩))) belowK_t (belowK_b (by omega)) (Below.refl _ _) (fun _ => rfl)
        (fun (pre : List (Part r)) W => W.cell? ⟨wr.heap.size, 0, none⟩ = some (.int .i64 k) ∧ BoxInv w W g6 x l6 c6 (costAt rows own k (costOver rows own k (pre.map (·.1)))) ∧ Marks W w.heap.size Ds)
        (fun _ _ _ => False)
        (by intro s A B row hs hg hr; exact ⟨cell_kept hs.1 hg (fun r e => (hr r e).2), hs.2.1.kept hg (fun r e => ⟨by have := (hr r e).1; omega, (hr r e).2⟩), hs.2.2.kept (fun x hx hx' => by
          rw [hg.block x (hs.2.2.lt hx) (fun e => by have := (hr x e.symm).1; have := HMK.out.lt hx; omega)]; exact hx')⟩)
        (fun _ _ _ _ _ hs _ _ => hs)
        ⟨cI', hinv0, hmk0⟩
        (fun x1 => { tmps := #[.slice (some ⟨b, off, none⟩) l6 cap, .slice (some ⟨b2, off2, none⟩) l6 cap2, undef, undef, .slice none 0 0, .pointer (some ⟨x, 0, none⟩), .pointer (some ⟨wr.heap.size, 0, none⟩), .slice a' l c, .int .i64 (x1.1.1 : Int), .int .i64 x1.1.2,
          .slice (some ⟨b, off, none⟩) l6 cap, .slice (some ⟨b2, off2, none⟩) l6 cap2, .bool true, .bool false, .slice (some ⟨b2, off2, none⟩) l6 cap2, .slice (some ⟨g6, 0, none⟩) l6 c6, .slice (some ⟨b, off, none⟩) l6 cap, .int .i64 l6, .int .i64 k,
          .bool true, .int .i64 k, .pointer (some ⟨b, off + k, none⟩), .slice a' l c, .slice a' l c, .func (.func 44) #[] #[.pointer (some ⟨wr.heap.size + 1, 0, none⟩)], .int .i64 (x1.1.1 : Int), .int .i64 x1.1.2,
          undef, undef, undef, undef, undef, undef, undef, undef, undef, undef, undef, undef, u39, undef], defers := [] }) ?assign ?body ?done ?stop
      case assign =>
        intro l x W K hK
        dsimp only [partArgs]
        gi_wp2
        exact hK
      case body =>
        rintro l' pre ⟨⟨p, cc⟩, hp1, hp2⟩ W ⟨hi1, hinv1, hmk1⟩ hpl
        obtain ⟨hr1, hr3, _⟩ := okRows_get hv HX.out
        have hccb := hr3 _ (List.mem_of_getElem? hp1)
        have hpk : p < k := by
          rw [← hr1]
          rcases Nat.lt_or_ge p r.length with h' | h'
          · exact h'
          · simp [List.getElem?_eq_none h'] at hp1
        have e1 := (hinv1.cells k hlt).1
        have v1 : costAt rows own k (costOver rows own k (pre.map (·.1))) k = costOver rows own k (pre.map (·.1)) := by unfold costAt; rw [if_neg (by omega), if_pos rfl]
        rw [v1] at e1
        have f1 := (hinv1.cells k hlt).2
        have e2 := (hinv1.cells p (by omega)).1
        have v2 : costAt rows own k (costOver rows own k (pre.map (·.1))) p = costN rows own p := by unfold costAt; rw [if_pos hpk]
        rw [v2] at e2
        have e3 := hinv1.box
        have hb0 := costN_bd hv HO.out (show p ≤ 6 by omega)
        have hpre : pre.length ≤ 6 := by omega
        have hb1 := costOver_bd hv HO.out HX.out (l := pre.map (·.1)) (by rw [List.length_map]; exact hpre) (fun q hq => by obtain ⟨z, _, rfl⟩ := List.mem_map.1 hq; exact z.2.1)
        have HSN := Lib.hid (show costOver rows own k ((pre ++ [(⟨(p, cc), hp1, hp2⟩ : Part r)]).map (·.1)) = costOver rows own k (pre.map (·.1)) + costN rows own p * cc by
          rw [List.map_append, List.map_cons, List.map_nil, costOver_snoc])
        have HI1 := Lib.hid hinv1
        have HM1 := Lib.hid hmk1
        clear hmk1
        have hkl : (k : Int) < (l6 : Int) := by omega
        have hpl2 : (p : Int) < (l6 : Int) := by omega
        have hpl3 : p < l6 := by omega
        have HP := Lib.hid hpk
        generalize hS : costOver rows own k (pre.map (·.1)) = m0 at e1 hb1 HSN HI1
        generalize hV : costN rows own p = lp at e2 hb0 HSN
        clear hinv1 hr1 hr3 hpl hpre hS hV hpk v1 v2
        have hmb : 0 ≤ lp * cc ∧ lp * cc ≤ 5000000000 * 3 := mul_box hb0.1 hb0.2 hccb.1 hccb.2
        have hmx : Try.prog.follows .mixedOrders = true := by kernel_rfl
        have w1 : IntKind.i64.wrap (lp * cc) = lp * cc := IntWalk.i64_in _ (by omega)
        have w2 : IntKind.i64.wrap (m0 + lp * cc) = m0 + lp * cc := IntWalk.i64_in _ (by omega)
        have hGk : x < wr.heap.size := hxw
        have hggx := HI1.out.up
        gi_wp2
        refine region_round_tail l' _ 12 (by kernel_rfl) (fun _ _ h => h) hmx (by kernel_rfl) ?_
        simp only [List.take_succ_cons, List.take_zero, List.drop_succ_cons, List.drop_zero]
        repeat still_step
        (try refine wpStill_nil ?_)
        go_wp2
        exact box_close HI1.out HM1.out hlt hi1 hGk (fun q _ => by
          unfold costAt
          by_cases h1 : q = k
          · subst h1; rw [if_pos rfl, if_neg (by omega), if_pos rfl, HSN.out]
          · rw [if_neg h1, if_neg h1, if_neg h1])
      case done =>
        rintro D ys W hD hys ⟨hi1, hinv1, hmk1⟩ hK
        have HI1 := Lib.hid (hinv1.congr (fun q _ => costAt_next (by rw [hys]; exact costOver_all hv own HX.out) q))
        have HM1 := Lib.hid hmk1
        have HK := Lib.hid hK
        clear hinv1 hK hys hmk1
        gi_wp2
        refine ⟨⟨k + 1, D :: Ds, _, _, _, _, _, _, _, _, _, rfl, by omega, HI1.out, ⟨⟨HK.out, by omega, fun x hx => by have := HMK.out.lt hx; omega⟩, HM1.out⟩⟩, ?_⟩
        simp [intOf]; omega
      case stop =>
        rintro D c pre W _ _ h _
        exact h.elim
    · obtain rfl : k = l6 := by omega
      have HINV := Lib.hid hinv
      clear hinv
      have hbx := HINV.out.box
      gi_wp2
      exact leaves_marks (fun _ => results_tmp rfl _ _ _) Ds wr HMK.out (fun w' hw' => ⟨g6, c6, rfl, hgl, hc6, fun q hq => ⟨(hw'.cell _).trans (by rw [(HINV.out.cells q hq).1]; unfold costAt; rw [if_pos hq]), (hw'.frozen _).trans (HINV.out.cells q hq).2⟩, HINV.out.below.trans hw'.below⟩)
theorem resPost_blockG {w w' : World} {g len cap : Nat} {xs : List Int} (hl : xs.length = len) (hs : len ≤ 1048576) (hg : w.heap.size ≤ g) (hc : ∀ q x, xs[q]? = some x → w'.cell? ⟨g, q, none⟩ = some (.int .i64 x) ∧ w'.frozen? ⟨g, q, none⟩ = false) (hb : Below w.heap.size w w') :
    ResPost w xs (.returned (.slice (some ⟨g, 0, none⟩) len cap)) w' := by
  have hlt : 0 < len → g < w'.heap.size := fun h0 => by
    have := (hc 0 xs[0] (List.getElem?_eq_getElem (by omega))).1
    rcases Nat.lt_or_ge g w'.heap.size with h' | h'
    · exact h'
    · simp [World.cell?, Array.getElem?_eq_none h'] at this
  refine ⟨_, _, _, rfl, ⟨hl, by omega, fun h0 => ⟨_, 0, rfl, ⟨hg, hlt h0⟩, fun i x hx => ?_⟩⟩, ⟨by omega, fun h0 => ⟨_, 0, rfl, ⟨hg, hlt h0⟩, fun i hi => ?_⟩⟩, hb⟩
  · rw [Nat.zero_add]; exact (hc i x hx).1
  · have := hc i xs[i] (List.getElem?_eq_getElem (by omega))
    rw [Nat.zero_add]
    exact ⟨⟨_, this.1⟩, this.2⟩

/-- what CostsOf answers -/
def costRes (rows : List (List Int)) (own : List Int) : List Int := if oneEachM rows own then costsM rows own else []
theorem costRes_no {rows : List (List Int)} {own : List Int} (h : oneEachM rows own = false) : costRes rows own = [] := by unfold costRes; rw [h]; rfl
theorem costRes_yes {rows : List (List Int)} {own : List Int} (h : oneEachM rows own = true) : costRes rows own = costsM rows own := by unfold costRes; rw [h]; rfl
theorem costRes_len (rows : List (List Int)) (own : List Int) : (costRes rows own).length ≤ 1048576 := by
  cases h : oneEachM rows own
  · rw [costRes_no h]; simp
  · rw [costRes_yes h, costsM, tab_length]
    simp only [oneEachM, Bool.and_eq_true] at h
    have := validBill_len6 h.1; omega
theorem costsOf_impl (a : Option Addr) (len cap : Nat) (rows : List (List Int)) (a2 : Option Addr) (len2 cap2 : Nat) (own : List Int) (w : World) (h : RowsAt w (· < w.heap.size) a len rows) (g : IntsAt w (· < w.heap.size) a2 len2 own) :
    Calls Try.prog 21 #[.slice a len cap, .slice a2 len2 cap2] w (ResPost w (costRes rows own)) := by
  cases hone : oneEachM rows own
  · rw [costRes_no hone]
    go_enter Try.func21, Try.ntmps21
    go_wp2_with fail
    refine (hasOne_any _ _ _ _ _ rows _ _ _ own _ h g).mono ?_
    rintro e w2 ⟨rfl, rfl⟩
    rw [hone]
    go_wp2
    go_ret
    exact resPost_nil w
  · rw [costRes_yes hone]
    simp only [oneEachM, Bool.and_eq_true] at hone
    refine (costs_impl rows own hone.1 hone.2 a len cap a2 len2 cap2 w h g).mono ?_
    rintro e w' ⟨g6, c6, rfl, hg, _, hc, hb⟩
    have hl := h.lenEq
    have h6 := validBill_len6 hone.1
    refine resPost_blockG (by rw [costsM, tab_length]; exact hl) (by omega) hg (fun q x hx => ?_) hb
    obtain ⟨rfl, hq⟩ := tab_get hx
    exact hc q (by omega)
theorem costsOf_spec (a : Option Addr) (len cap : Nat) (rows : List (List Int)) (a2 : Option Addr) (len2 cap2 : Nat) (own : List Int) (w : World) (h : RowsAt w (· < w.heap.size) a len rows) (g : IntsAt w (· < w.heap.size) a2 len2 own) :
    Calls Try.prog 22 #[.slice a len cap, .slice a2 len2 cap2] w (NewInts w (costRes rows own)) := by
  have HL := Lib.hid h.lenEq
  cases hv : validBillM rows
  · rw [costRes_no (by unfold oneEachM; rw [hv]; rfl)]
    go_enter Try.func22, Try.ntmps22
    go_wp2_with (go_at_call 31; refine (validBill_spec0 _ _ _ _ rows _ h).mono ?_; rintro e w2 ⟨rfl, rfl⟩)
    go_ret
    exact newInts_nil w
  · cases hw : wantsM (len : Int) own
    · rw [costRes_no (by unfold oneEachM; rw [hv, HL.out, hw]; rfl)]
      go_enter Try.func22, Try.ntmps22
      go_wp2_with (first | (go_at_call 31; refine (validBill_spec0 _ _ _ _ rows _ h).mono ?_; rintro e w2 ⟨rfl, rfl⟩) | (go_at_call 32; refine (validWants_any _ _ _ _ own _ _ g).mono ?_; rintro e w2 ⟨rfl, rfl⟩))
      go_ret
      exact newInts_nil w
    · have hw' : wantsM rows.length own = true := by rw [HL.out]; exact hw
      rw [costRes_yes (by unfold oneEachM; rw [hv, hw']; rfl)]
      go_enter Try.func22, Try.ntmps22
      go_wp2_with (first | (go_at_call 31; refine (validBill_spec0 _ _ _ _ rows _ h).mono ?_; rintro e w2 ⟨rfl, rfl⟩) | (go_at_call 32; refine (validWants_any _ _ _ _ own _ _ g).mono ?_; rintro e w2 ⟨rfl, rfl⟩) | (go_at_call 38; refine (costs_spec0 _ _ _ rows _ _ _ own _ hv hw' h g).mono ?_; rintro e w' ⟨a3, l3, c3, rfl, h1, h2, h3⟩))
      go_ret
      exact NewOwn.ints ⟨a3, l3, c3, rfl, h1, h2, h3⟩
end Go.Proofs.Ytcfahmffboipiaa
