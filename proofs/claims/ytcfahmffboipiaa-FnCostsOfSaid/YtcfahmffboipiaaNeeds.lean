import Derived.Test.YtcfahmffboipiaaRows
import Derived.RangeFuncNested
import Derived.RangeFuncBound
import Derived.RangeFuncCalls
import Derived.RangeFuncLeaves
import Derived.Shelf.Abstract
import Derived.Shelf.RegionOpen
import Derived.WalkKit
import Derived.Outline
import Derived.OwnWalkIn
import Derived.TacticsInMore
import Derived.LoopNIn
import Derived.LoopIn
import Derived.IntWalk
import Derived.StillTailTactics
import Derived.Deep.OwnRows
import Derived.Test.YtcfahmffboipiaaLib
import Derived.Test.YtcfahmffboipiaaCountM
import Derived.Test.YtcfahmffboipiaaTakesM
import Derived.Test.YtcfahmffboipiaaBillM
import Derived.Test.YtcfahmffboipiaaParts
import Derived.Test.YtcfahmffboipiaaBack
import Derived.Test.YtcfahmffboipiaaRound
import Derived.Test.YtcfahmffboipiaaRd
import Derived.Test.YtcfahmffboipiaaVb
import Derived.Test.YtcfahmffboipiaaUp
import Derived.Test.YtcfahmffboipiaaVal2
import Derived.Test.YtcfahmffboipiaaApp
import Derived.Test.YtcfahmffboipiaaBox
import Derived.Test.YtcfahmffboipiaaCostSpec
import Derived.Test.YtcfahmffboipiaaCosts
namespace Go.Proofs.Ytcfahmffboipiaa
open Go.RowKit Go.Shelf Go.Deep

attribute [local go_sem] Oper.semAt_some

/-- what is needed when of part i the parts l are done -/
def needMid (rows : List (List Int)) (ws : List Int) (i : Nat) (l : List (Nat × Int)) (q : Nat) : Int := needTo rows ws (i + 1) q + needN rows ws i * sumOver (fun p c => if p = q then c else 0) l
theorem needMid_nil (rows : List (List Int)) (ws : List Int) (i q : Nat) : needMid rows ws i [] q = needTo rows ws (i + 1) q := by simp [needMid, sumOver]
theorem needMid_snoc (rows : List (List Int)) (ws : List Int) (i : Nat) (l : List (Nat × Int)) (p : Nat × Int) (q : Nat) : needMid rows ws i (l ++ [p]) q = if q = p.1 then needMid rows ws i l q + needN rows ws i * p.2 else needMid rows ws i l q := by
  unfold needMid
  rw [sumOver_snoc]
  by_cases h : q = p.1
  · rw [if_pos h, if_pos h.symm, Int.mul_add]; omega
  · rw [if_neg h, if_neg (fun e => h e.symm), Int.add_zero]
theorem needMid_self {rows : List (List Int)} (hv : validBillM rows = true) (ws : List Int) {i : Nat} {l : List (Nat × Int)} (hi : i < rows.length) (hl : ∀ p ∈ l, p.1 < i) : needMid rows ws i l i = needN rows ws i := by
  have e : sumOver (fun p c => if p = i then c else 0) l = 0 := by
    have key : ∀ (l : List (Nat × Int)) (s : Int), (∀ p ∈ l, p.1 < i) → l.foldl (fun s p => s + (if p.1 = i then p.2 else 0)) s = s := by
      intro l
      induction l with
      | nil => intro s _; rfl
      | cons p l ih =>
        intro s h
        simp only [List.foldl_cons]
        rw [if_neg (by have := h p List.mem_cons_self; omega), Int.add_zero]
        exact ih s (fun q hq => h q (List.mem_cons_of_mem _ hq))
    exact key l 0 hl
  rw [needMid, e, Int.mul_zero, Int.add_zero]
  exact needTo_done hv hi (by omega)
theorem needMid_all {rows : List (List Int)} (hv : validBillM rows = true) (ws : List Int) {i : Nat} {r : List Int} (hr : rows[i]? = some r) (q : Nat) : needMid rows ws i (pairsTo r r.length) q = needTo rows ws i q := by
  obtain ⟨h1, h2, _⟩ := okRows_get hv hr
  have hi : i < rows.length := (List.getElem?_eq_some_iff.1 hr).1
  have hu : ∀ k, useM rows i k = r.getD k 0 := fun k => by unfold useM; rw [List.getD_eq_getElem?_getD (l := rows), hr]; rfl
  have e : sumOver (fun p c => if p = q then c else 0) (pairsTo r r.length) = useM rows i q := by
    have e1 : (fun (p : Nat) (c : Int) => if p = q then c else 0) = (fun p c => c * (if p = q then 1 else 0)) := by
      funext p c; split <;> simp
    rw [e1, sumOver_pairs (fun p => if p = q then 1 else 0) r (fun x hx => (h2 x hx).1)]
    by_cases hq : q < r.length
    · rw [sumTo_one (i := q) hq (fun k _ hk => by rw [if_neg hk, Int.mul_zero]), if_pos rfl, Int.mul_one, hu]
    · rw [sumTo_zero (fun k hk => by rw [if_neg (by omega), Int.mul_zero]), hu, getD_past (by omega)]
  rw [needMid, e, needTo_step hi]
theorem needMid_bd {rows : List (List Int)} (hv : validBillM rows = true) {ws : List Int} (ho : ∀ k, 0 ≤ ws.getD k 0 ∧ ws.getD k 0 ≤ 40) {i : Nat} {r : List Int} (hr : rows[i]? = some r) {l : List (Nat × Int)} (hl : l.length ≤ 6) (h : ∀ p ∈ l, r[p.1]? = some p.2) (q : Nat) :
    0 ≤ needMid rows ws i l q ∧ needMid rows ws i l q ≤ 1000000000000 := by
  obtain ⟨h1, h2, h3⟩ := okRows_get hv hr
  have hi : i < rows.length := (List.getElem?_eq_some_iff.1 hr).1
  have hb : ∀ p ∈ l, 0 ≤ (if p.1 = q then p.2 else 0) ∧ (if p.1 = q then p.2 else 0) ≤ 3 := by
    intro p hp
    have := h2 _ (List.mem_of_getElem? (h p hp))
    split <;> omega
  have h5 := sumOver_bd (f := fun p c => if p = q then c else 0) (B := 3) l hb
  have h6 := needN_bd hv ho i
  have h7 := needTo_bd hv ho (m := i + 1) (by omega) q
  have h8 := mul_box h6.1 h6.2 h5.1 (show _ ≤ (18 : Int) by omega)
  unfold needMid; omega
theorem boxed_put {W : World} {B g p : Nat} {t : TypeId} {v u : Value} (h : Boxed W B t v) (hne : B ≠ g) : Boxed (W.setCell ⟨g, p, none⟩ u).drew B t v := by
  have := h.kept (grownBy_setCell W ⟨g, p, none⟩ u) (by simpa using hne)
  exact this
theorem w64 (z : Int) (h1 : -9223372036854775808 ≤ z) (h2 : z ≤ 9223372036854775807) : wrap64 z = z := by unfold wrap64; omega
theorem downs_get {len j : Nat} {l : List Nat} (h : l = downs len (j + 1)) (pre : List Nat) (i : Nat) (e : l = pre ++ [i]) : i = len - 1 - j := by
  rw [e, downs_succ] at h
  exact (List.append_inj' h rfl).2 |> List.cons.inj |> And.left


set_option maxRecDepth 100000 in
set_option maxHeartbeats 4000000 in
theorem needs_impl (rows : List (List Int)) (own : List Int) (hv : validBillM rows = true) (hwn : wantsM rows.length own = true) (a : Option Addr) (len cap : Nat) (a2 : Option Addr) (len2 cap2 : Nat) (w : World) (h : RowsAt w (· < w.heap.size) a len rows) (g : IntsAt w (· < w.heap.size) a2 len2 own) :
    Calls Try.prog 8 #[.slice a len cap, .slice a2 len2 cap2] w (RowOf w len (needN rows own)) := by
  have hs := h.small
  have hl := h.lenEq
  have hl2 : len2 = len := by have := wants_len hwn; have := g.lenEq; omega
  subst hl2
  have hl6 : len2 ≤ 6 := by have := validBill_len6 hv; omega
  have hl1 : 0 < len2 := by have := validBill_pos hv; omega
  have HO := Lib.hid (show ∀ k, 0 ≤ own.getD k 0 ∧ own.getD k 0 ≤ 40 from fun k => by have := wants_at hwn k; omega)
  have HL := Lib.hid hl
  have HONE := Lib.hid (show oneEachM rows own = true by rw [oneEachM, hv, hwn]; rfl)
  obtain ⟨b2, off2, rfl, hb2, _⟩ := g.cells hl1
  clear hl hwn
  refine (callsIn_wide (n := 9)).1 ?_
  refine callsIn_of_wp_marks Try.func8 rfl trivial ?_ rfl
  simp only [Try.ntmps8, List.size_toArray, List.length_cons, List.length_nil, Nat.reduceAdd, Nat.reduceSub, Array.replicate_succ, Array.replicate_zero, List.push_toArray, List.append_toArray, List.nil_append, List.cons_append]
  gi_wp2_with (refine ⟨trivial, ?_⟩; gi_at_call 27; refine (callsIn_wide.2 (hasOne_any _ _ _ _ _ rows _ _ _ own _ h g)).mono ?_; rintro e w2 ⟨rfl, rfl⟩; rw [HONE.out])
  gi_wp2_with (refine ⟨trivial, ?_⟩; gi_at_call 28; refine (callsIn_wide.2 (clone_any _ _ _ _ _ own _ g (fun _ hb => hb) (by omega))).mono ?_; rintro e w1 ⟨a6, l6, c6, rfl, hl6', ho6, hb6⟩)
  gi_wp2_with (refine ⟨trivial, ?_⟩; gi_at_call 29; refine (backward_any _ _ _ _ _).mono ?_; rintro e w' ⟨rfl, rfl⟩)
  have hll : l6 = len2 := by have := ho6.1; simp at this; have := g.lenEq; omega
  subst hll
  obtain ⟨g6, rfl, hbox⟩ := box_start ho6 hb6 hl1 24
  have hc6 : l6 ≤ c6 := (own_slice ho6).elim (fun a ⟨c, e, h⟩ => by simp only [Value.slice.injEq] at e; omega)
  have hsz1 := hb6.size
  have hgx := hbox.up
  have hgl := hbox.low
  have hbox0 : BoxInv w ((w1.alloc (.cells #[.slice (some ⟨g6, 0, none⟩) l6 c6] 24)).alloc (.cells #[.slice a l6 cap] 23)) g6 w1.heap.size l6 c6 (needTo rows own l6) := (hbox.congr (fun q _ => by rw [← HL.out]; exact (needTo_end rows own q).symm)).alloc _
  have bB := Boxed.new (w1.alloc (.cells #[.slice (some ⟨g6, 0, none⟩) l6 c6] 24)) 23 (.slice a l6 cap)
  obtain ⟨W0, hW0⟩ : ∃ W0, ((w1.alloc (.cells #[.slice (some ⟨g6, 0, none⟩) l6 c6] 24)).alloc (.cells #[.slice a l6 cap] 23)) = W0 := ⟨_, rfl⟩
  have hsz : W0.heap.size = w1.heap.size + 2 := by rw [← hW0]; simp
  rw [hW0] at hbox0 bB ⊢
  clear hbox ho6 hW0
  rw [World.size_alloc] at bB
  generalize hX : w1.heap.size = x at *
  clear hX
  have hB0 := hbox0.below
  have hrows0 := h.below hB0
  refine wpIn_rangeFunc_ownH rfl (by omega) (gf := 43) (lb := #[.pointer (some ⟨x + 1, 0, none⟩)]) rfl trivial (enters_of Try.func43 (by kernel_rfl) rfl)
    (back_stops _ (by omega) (x + 1) w.heap.size a l6 cap rows W0 (by omega) (by omega) bB.cell hrows0) (fun h1 h2 => KeepB.trans h1 h2)
    (fun W l o o' h1 h2 h3 h4 => ⟨belowK_b (w := W0) (n₀ := w.heap.size) (by omega) W l o o' h1 h2 h3 h4, (grownBy_putObj' W l o').block (x + 1) (by have := (Array.getElem?_eq_some_iff.1 h2).1; omega) (fun e => by injection e; omega)⟩) (Below.refl _ _) (fun _ => rfl)
    (fun (pre : List (BRow W0 w.heap.size rows)) W => ∃ f, BoxInv w W g6 x l6 c6 f ∧ Boxed W (x + 1) 23 (.slice a l6 cap) ∧ (pre.map (·.1.1) = downs l6 pre.length → ∀ q, q < l6 → f q = needTo rows own (l6 - pre.length) q))
    (fun _ _ _ => False)
    (by rintro s A B row ⟨f, hs1, hs2, hs3⟩ hg hr; exact ⟨f, hs1.kept hg (fun r e => ⟨by have := (hr r e).1; omega, (hr r e).2⟩), hs2.kept hg (fun e => by have := (hr _ e.symm).1; omega), hs3⟩)
    (fun _ _ _ _ _ hs _ _ => hs)
    ⟨_, hbox0, bB, fun _ _ _ => rfl⟩
    (fun x1 a' W => ∃ Bx, x + 1 < Bx ∧ Boxed W Bx 3 (.int .i64 (x1.1.1 : Int)) ∧ a' = { tmps := #[.slice a l6 cap, .slice (some ⟨b2, off2, none⟩) l6 cap2, undef, undef, .slice none 0 0, .pointer (some ⟨x, 0, none⟩), .pointer (some ⟨Bx, 0, none⟩), .slice x1.1.2.1 x1.1.2.2.1 x1.1.2.2.2, undef, undef,
      .slice a l6 cap, .slice (some ⟨b2, off2, none⟩) l6 cap2, .bool true, .bool false, .slice (some ⟨b2, off2, none⟩) l6 cap2, .slice (some ⟨g6, 0, none⟩) l6 c6, .slice a l6 cap, .func (.func 43) #[] #[.pointer (some ⟨x + 1, 0, none⟩)], .int .i64 (x1.1.1 : Int), .slice x1.1.2.1 x1.1.2.2.1 x1.1.2.2.2,
      undef, undef, undef, undef, undef, undef, undef, undef, undef, undef, undef, undef, undef, undef, undef, undef, undef], defers := [] })
    (fun x1 a' _ X Y row hs hg hr => by obtain ⟨Bx, h1, h2, h3⟩ := hs; exact ⟨Bx, h1, boxed_own Bx 3 (fun (_ : Unit) => Value.int .i64 (x1.1.1 : Int)) () X Y row h2 hg (fun r e => (hr r e).2), h3⟩)
    ?assign ?body ?done ?stop
  case assign =>
    rintro l pre x1 W K ⟨f, hinv, hbx, hd⟩ hK
    dsimp only [backArgs]
    gi_wp2
    exact hK _ _ ((KeepsOthers.alloc _ _).from _) ⟨(Below.refl _ W).alloc hinv.below.size _, by rw [Below.heap_alloc _ _ _ hbx.lt]⟩ ⟨f, hinv.alloc _, hbx.alloc _, hd⟩ ⟨W.heap.size, hbx.lt, Boxed.new W 3 _, rfl⟩
  case body =>
    rintro l pre ⟨⟨i, a', lr, cr⟩, r, hx, hri⟩ a7 W hl ⟨rr, hrr⟩ ⟨f, hinv, hbx, hd⟩ ⟨Bx, hBx, bX, rfl⟩ hplt
    have hsW := hinv.below.size
    have hBW := hinv.below
    have hil : i < l6 := by have := (List.getElem?_eq_some_iff.1 hx).1; have := HL.out; omega
    obtain ⟨hr1, hr3, _⟩ := okRows_get hv hx
    have HX := Lib.hid hx
    have HR3 := Lib.hid hr3
    have hriW : IntsAt (W.alloc (.cells #[.slice a' lr cr] 24)) (· < w.heap.size) a' lr r := hri.to (fun b hb => ⟨hb, (Below.heap_alloc _ _ _ (by omega)).trans ((hBW.block b hb).trans (hB0.block b hb).symm)⟩)
    have HD := Lib.hid (show (pre ++ [(⟨(i, (a', lr, cr)), r, hx, hri⟩ : BRow W0 w.heap.size rows)]).map (·.1.1) = downs l6 (pre ++ [(⟨(i, (a', lr, cr)), r, hx, hri⟩ : BRow W0 w.heap.size rows)]).length → (∀ q, q < l6 → f q = needTo rows own (i + 1) q) ∧ l6 - (pre ++ [(⟨(i, (a', lr, cr)), r, hx, hri⟩ : BRow W0 w.heap.size rows)]).length = i from fun e => by
      rw [List.length_append, List.length_singleton, downs_succ, List.map_append] at e
      obtain ⟨e1, e2⟩ := List.append_inj e (by simp [downs])
      simp only [List.map_cons, List.map_nil, List.cons.injEq, and_true] at e2
      have e3 : pre.length < l6 := by have := HL.out; omega
      refine ⟨fun q hq => ?_, by rw [List.length_append, List.length_singleton]; omega⟩
      rw [hd e1 q hq, show l6 - pre.length = i + 1 by omega])
    have bX2 : Boxed W Bx 3 (.int .i64 (i : Int)) := bX
    clear bX hr3 hd
    dsimp only
    gi_wp2_with (refine ⟨trivial, ?_⟩; gi_at_call 30; refine (CallsIn.inRound l (partsTaken_any _ _ _ _ _)).mono ?_; rintro e w' ⟨rfl, rfl⟩)
    have bN := Boxed.new W 24 (.slice a' lr cr)
    have hrr' : (W.alloc (.cells #[.slice a' lr cr] 24)).heap[l]? = some (.loop rr) := (Below.heap_alloc W _ l (Array.getElem?_eq_some_iff.1 hrr).1).trans hrr
    have hxW : x + 1 < W.heap.size := hbx.lt
    refine wpIn_rangeFunc_ownN (l₀ := l) (r₀ := rr) rfl hrr' (by omega) (gf := 44) (lb := #[.pointer (some ⟨W.heap.size, 0, none⟩)]) rfl trivial (enters_of Try.func44 (by kernel_rfl) rfl)
      ((parts_stops _ (by omega) W.heap.size w.heap.size a' lr cr r _ (by simp) (by simp; omega) bN.cell hriW).inRound l) belowK_t (belowK_b (by simp; omega)) (Below.refl _ _) (fun _ => rfl)
      (fun (pre' : List (Part r)) W' => (∃ f', BoxInv w W' g6 x l6 c6 f' ∧ ((∀ q, q < l6 → f q = needTo rows own (i + 1) q) → ∀ q, q < l6 → f' q = needMid rows own i (pre'.map (·.1)) q)) ∧ (Boxed W' (x + 1) 23 (.slice a l6 cap) ∧ Boxed W' Bx 3 (.int .i64 (i : Int))) ∧ (Below w.heap.size W W' ∧ KeepsFrom W0.heap.size W W'))
      (fun _ _ _ => False)
      (by
        rintro s A B row ⟨⟨f', hs1, hs2⟩, ⟨hs3, hs4⟩, hs5, hs6⟩ hg hr
        have hno : ∀ r, row = some r → W.heap.size ≤ r := fun r e => by have := (hr r e).1; simp at this; omega
        exact ⟨⟨f', hs1.kept hg (fun r e => ⟨by have := hno r e; omega, (hr r e).2⟩), hs2⟩, ⟨hs3.kept hg (fun e => by have := hno _ e.symm; omega), hs4.kept hg (fun e => by have := hno _ e.symm; have := bX2.lt; omega)⟩,
          ownFrom_below (β := Unit) hsW (by simp; omega) () A B row hs5 hg hr, ownFrom_keepsFrom (β := Unit) (by simp) () A B row hs6 hg hr⟩)
      (fun _ _ _ _ _ hs _ _ => hs)
      ⟨⟨f, hinv.alloc _, fun hf q hq => by rw [List.map_nil, needMid_nil]; exact hf q hq⟩, ⟨hbx.alloc _, bX2.alloc _⟩, (Below.refl _ W).alloc hsW _, (KeepsOthers.alloc _ _).from _⟩
      (fun y a'' _ => a'' = { tmps := #[.slice a l6 cap, .slice (some ⟨b2, off2, none⟩) l6 cap2, undef, undef, .slice none 0 0, .pointer (some ⟨x, 0, none⟩), .pointer (some ⟨Bx, 0, none⟩), .slice a' lr cr, .int .i64 (y.1.1 : Int), .int .i64 y.1.2,
        .slice a l6 cap, .slice (some ⟨b2, off2, none⟩) l6 cap2, .bool true, .bool false, .slice (some ⟨b2, off2, none⟩) l6 cap2, .slice (some ⟨g6, 0, none⟩) l6 c6, .slice a l6 cap, .func (.func 43) #[] #[.pointer (some ⟨x + 1, 0, none⟩)], .int .i64 (i : Int), .slice a' lr cr,
        .slice a' lr cr, .func (.func 44) #[] #[.pointer (some ⟨W.heap.size, 0, none⟩)], .int .i64 (y.1.1 : Int), .int .i64 y.1.2, undef, undef, undef, undef, undef, undef, undef, undef, undef, undef, undef, undef, undef], defers := [] })
      (fun _ _ _ _ _ _ hs _ _ => hs)
      ?assign2 ?body2 ?done2 ?stop2
    case assign2 =>
      rintro l2 pre' y W' K hi hK
      dsimp only [partArgs]
      gi_wp2
      exact hK _ _ (KeepsFrom.refl _ _) (Below.refl _ _) hi rfl
    case body2 =>
      rintro l2 pre' ⟨⟨p, cc⟩, hp1, hp2⟩ a'' W' _ _ ⟨⟨f', hi1, hf1⟩, ⟨hb1, hbX1⟩, hBW1, hKF⟩ rfl hplen
      have hpk : p < i := by
        rw [← hr1]
        rcases Nat.lt_or_ge p r.length with h' | h'
        · exact h'
        · simp [List.getElem?_eq_none h'] at hp1
      have hccb := HR3.out _ (List.mem_of_getElem? hp1)
      have e1 := (hi1.cells p (by omega)).1
      have f1 := (hi1.cells p (by omega)).2
      have e2 := (hi1.cells i hil).1
      have e3 := hi1.box
      have e4 := hbX1.cell
      have HSN := Lib.hid (show ∀ q, needMid rows own i ((pre' ++ [(⟨(p, cc), hp1, hp2⟩ : Part r)]).map (·.1)) q = if q = p then needMid rows own i (pre'.map (·.1)) q + needN rows own i * cc else needMid rows own i (pre'.map (·.1)) q from fun q => by
        rw [List.map_append, List.map_cons, List.map_nil, needMid_snoc])
      have HI1 := Lib.hid hi1
      have HF1 := Lib.hid hf1
      have hpl3 : p < l6 := by omega
      have hpl2 : (p : Int) < (l6 : Int) := by omega
      have hil2 : (i : Int) < (l6 : Int) := by omega
      have hmx : Try.prog.follows .mixedOrders = true := by kernel_rfl
      have HP := Lib.hid hpk
      have HR2 := Lib.hid hr1
      have hpl : pre'.length < 6 := by omega
      clear hi1 hf1 hr1 hpk hplen
      generalize hU : f' p = u at e1
      generalize hV : f' i = v at e2
      have HU := Lib.hid hU
      have HV := Lib.hid hV
      clear hU hV
      gi_wp2
      refine region_round_tail l2 _ 12 (by kernel_rfl) (fun _ _ h => h) hmx (by kernel_rfl) ?_
      simp only [List.take_succ_cons, List.take_zero, List.drop_succ_cons, List.drop_zero]
      repeat still_step
      (try refine wpStill_nil ?_)
      go_wp2
      have hc := box_close (f' := fun q => if q = p then wrap64 (u + wrap64 (v * cc)) else f' q) HI1.out (Ds := []) trivial hpl3 e4 (by omega) (fun q _ => rfl)
      refine ⟨hc.1.from _, hc.2.1, ⟨_, hc.2.2.2.1, fun hf q hq => ?_⟩, ⟨boxed_put hb1 (by omega), boxed_put hbX1 (by omega)⟩, hBW1.trans hc.2.1, hKF.trans (hc.1.from _)⟩
      rw [HSN.out]
      by_cases hqp : q = p
      · subst hqp
        rw [if_pos rfl, if_pos rfl]
        have hpre : (pre'.map (·.1)).length ≤ 6 := by rw [List.length_map]; omega
        have hmem : ∀ z ∈ pre'.map (·.1), r[z.1]? = some z.2 := fun z hz => by obtain ⟨y, _, rfl⟩ := List.mem_map.1 hz; exact y.2.1
        have hlow : ∀ z ∈ pre'.map (·.1), z.1 < i := fun z hz => by have := (List.getElem?_eq_some_iff.1 (hmem z hz)).1; rw [HR2.out] at this; exact this
        have hu : u = needMid rows own i (pre'.map (·.1)) q := by rw [← HU.out]; exact HF1.out hf q hq
        have hv' : v = needN rows own i := by rw [← HV.out, HF1.out hf i hil]; exact needMid_self hv own (by rw [HL.out]; exact hil) hlow
        have hub := needMid_bd hv HO.out HX.out hpre hmem q
        have hvb := needN_bd hv HO.out i
        rw [← hu] at hub ⊢
        rw [← hv'] at hvb ⊢
        have hmb : 0 ≤ v * cc ∧ v * cc ≤ 10000000000 * 3 := mul_box hvb.1 hvb.2 hccb.1 hccb.2
        rw [w64 (v * cc) (by omega) (by omega), w64 _ (by omega) (by omega)]
      · rw [if_neg hqp, if_neg hqp]
        exact HF1.out hf q hq
    case done2 =>
      rintro ys' W' hys ⟨⟨f', hi1, hf1⟩, ⟨hb1, hbX1⟩, hBW1, hKF⟩
      have HF := Lib.hid hf1
      have HI := Lib.hid hi1
      have HYS := Lib.hid hys
      clear hf1 hi1 hys
      gi_wp2
      exact ⟨hKF, ⟨hBW1, by rw [show W'.heap[x + 1]? = _ from hb1, show W.heap[x + 1]? = _ from hbx]⟩, f', HI.out, hb1, fun e q hq => by
        obtain ⟨e1, e2⟩ := HD.out e
        rw [HF.out e1 q hq, e2, HYS.out, needMid_all hv own HX.out]⟩
    case stop2 =>
      rintro c pre' W' _ h
      exact h.elim
  case done =>
    rintro D ys W hD hys ⟨f, hinv0, hbx, hd⟩ hK
    have ey : ys.length = l6 := by
      have := congrArg List.length hys
      simpa [downs] using this
    have hinv := hinv0.congr (hd (by rw [ey]; exact hys))
    rw [show l6 - ys.length = 0 by omega] at hinv
    clear hinv0
    have HINV := Lib.hid hinv
    have HK := Lib.hid hK
    have hbx2 := hinv.box
    clear hinv hK hys hd ey
    gi_wp2
    exact leaves_marks (fun _ => results_tmp rfl _ _ _) [D] W ⟨⟨HK.out, by omega, fun x hx => by cases hx⟩, trivial⟩ (fun w' hw' => ⟨g6, c6, rfl, hgl, hc6, fun q hq => ⟨(hw'.cell _).trans (by rw [(HINV.out.cells q hq).1, needTo_done hv (by rw [HL.out]; exact hq) (by omega)]), (hw'.frozen _).trans (HINV.out.cells q hq).2⟩, HINV.out.below.trans hw'.below⟩)
  case stop =>
    rintro D c pre W _ _ h _
    exact h.elim
end Go.Proofs.Ytcfahmffboipiaa
