import Derived.Test.YtcikgbkehfepdabRows
import Derived.RangeFuncNested
import Derived.RangeFuncBound
import Derived.RangeFuncCalls
import Derived.RangeFuncLeaves
import Derived.Shelf.Abstract
import Derived.Shelf.RegionOpen
import Derived.WalkKit
import Derived.OwnWalkIn
import Derived.TacticsInMore
import Derived.LoopNIn
import Derived.LoopIn
import Derived.Test.YtcikgbkehfepdabM0
import Derived.Test.YtcikgbkehfepdabM10
import Derived.Test.YtcikgbkehfepdabM1
import Derived.Test.YtcikgbkehfepdabM2
import Derived.Test.YtcikgbkehfepdabM9
import Derived.LoopTactic
import Derived.Outline
import Derived.WalkSpells
import Derived.WalkLawsBesides
import Derived.ProofKit
import Derived.Deep.AppendLies
import Derived.Test.YtcikgbkehfepdabM6
namespace Go.Proofs.Ytcikgbkehfepdab
open Go.RowKit Go.WideShapes

attribute [local go_sem] Oper.semAt_some

/-- what holds behind k rounds -/
structure LeastI (w : World) (n : Nat) (a : Option Addr) (len cap : Nat) (sp : Nat → Int) (k : Nat) (W : World) : Prop where
  below : Below w.heap.size w W
  jobs : W.cell? ⟨n, 0, none⟩ = some (.slice a len cap)
  least : W.cell? ⟨n + 1, 0, none⟩ = some (.int .i64 (lstT sp k))
  free : W.frozen? ⟨n + 1, 0, none⟩ = false
theorem LeastI.later {w : World} {n : Nat} {a : Option Addr} {len cap : Nat} {sp : Nat → Int} {k m : Nat} {A B : World} (h : LeastI w n a len cap sp k A) (hb : Below m A B) (hm : n + 2 ≤ m) (hw : w.heap.size ≤ n) : LeastI w n a len cap sp k B :=
  ⟨h.below.trans (hb.mono (by omega)), (hb.cell (p := ⟨n, 0, none⟩) (by show n < m; omega)).trans h.jobs, (hb.cell (p := ⟨n + 1, 0, none⟩) (by show n + 1 < m; omega)).trans h.least, by
    rw [World.frozen?_of_block (w := A) (hb.block (n + 1) (by omega))]; exact h.free⟩
def encS (x : Option Addr × Nat × Nat) : Value := .slice x.1 x.2.1 x.2.2
set_option maxRecDepth 100000 in
set_option maxHeartbeats 4000000 in
theorem leastSpan_gen (a : Option Addr) (len cap : Nat) (rows : List (List Int)) (T f1 gf : Nat) (v : Value) (t1 : TypeId) (os : Nat → List Int) (m : Nat) (E : Nat → Nat → Option Addr × Nat × Nat → World → Prop) (w : World) (h : RowsAt w (· < w.heap.size) a len rows) (hp : pairsM rows = true)
    (hmeth : ∀ (k : Nat) (w : World), (method (k + 1) T v "loop.example/shopsthatmake/impl.each").run Try.prog w = .ok (f1, v) w)
    (hent : ∀ (args : Array Value) (w : World), (callFunc f1 args).run Try.prog w = .ok (.enter f1 args) w) (hentg : ∀ (args : Array Value) (w : World), (callFunc gf args).run Try.prog w = .ok (.enter gf args) w)
    (hfit : ∀ w', Below w.heap.size w w' → Calls Try.prog 23 #[.slice a len cap, .iface T v] w' fun e w2 => e = .returned (.bool true) ∧ Drew w' w2)
    (heach : ∀ w', CallsIn Fence.wide 8 Try.prog f1 #[v] w' fun e w2 => e = .returned (.func (.func gf) #[] #[.pointer (some ⟨w'.heap.size, 0, none⟩)]) ∧ w'.alloc (.cells #[v] t1) = w2)
    (hseq : ∀ w' : World, w'.heap.size = w.heap.size + 3 → Below w.heap.size w w' → w'.cell? ⟨w.heap.size + 2, 0, none⟩ = some v → SeqCount Fence.wide 8 Try.prog gf #[.pointer (some ⟨w.heap.size + 2, 0, none⟩)] encS (· = m) E w')
    (hE1 : ∀ m k x A B, E m k x A → KeepsUp m A B → E m k x B)
    (hE2 : ∀ m k x W, E m k x W → Below w.heap.size w W → ∃ S, IntsAt W S x.1 x.2.1 (os k) ∧ x.2.1 ≤ 8 ∧ ∀ x ∈ os k, 0 ≤ x ∧ x < (len : Int)) :
    Calls Try.prog 26 #[.slice a len cap, .iface T v] w (ValPost w (.int .i64 (lstT (fun k => spanT (ta rows) (tb rows) (nO (os k))) m))) := by
  refine (callsIn_wide (n := 9)).1 ?_
  refine callsIn_of_wp_marks Try.func26 rfl trivial ?_ rfl
  simp only [Try.ntmps26, List.size_toArray, List.length_cons, List.length_nil, Nat.reduceAdd, Nat.reduceSub, Array.replicate_succ, Array.replicate_zero, List.push_toArray, List.append_toArray, List.nil_append, List.cons_append]
  gi_wp2_with fail
  refine ⟨trivial, (callsIn_wide.2 (hfit _ ((Below.refl _ w).alloc (Nat.le_refl _) _))).mono ?_⟩
  rintro e w2 ⟨rfl, hdw⟩
  obtain ⟨z, rfl⟩ := hdw
  gi_wp2_with fail
  refine ⟨trivial, ?_⟩
  gi_wp2_with fail
  refine (heach _).mono ?_
  rintro e w3 ⟨rfl, rfl⟩
  gi_wp2_with fail
  obtain ⟨W0, hW0⟩ : ∃ W0, ((((w.alloc (Obj.cells #[Value.slice a len cap] 23)).drewN z).alloc (Obj.cells #[Value.int IntKind.i64 (-1)] 3)).alloc (Obj.cells #[v] t1)) = W0 := ⟨_, rfl⟩
  have hsz : W0.heap.size = w.heap.size + 3 := by rw [← hW0]; simp
  have hbl : Below w.heap.size w W0 := by
    rw [← hW0]
    exact ((((Below.refl w.heap.size w).alloc (Nat.le_refl _) _).trans (Drew.below ⟨z, rfl⟩ _)).alloc (by simp) _).alloc (by simp <;> omega) _
  have hI0 : LeastI w w.heap.size a len cap (fun k => spanT (ta rows) (tb rows) (nO (os k))) 0 W0 := by
    refine ⟨hbl, ?_, ?_, ?_⟩
    all_goals rw [← hW0]
    · have z1 := cell_new_l w (.slice a len cap) 23
      exact cell_alloc_l _ (cell_alloc_l _ z1.1)
    · have z2 := cell_new_l ((w.alloc (Obj.cells #[Value.slice a len cap] 23)).drewN z) (.int .i64 (-1)) 3
      simp only [World.heap_drewN, World.size_alloc] at z2
      exact cell_alloc_l _ z2.1
    · have z2 := cell_new_l ((w.alloc (Obj.cells #[Value.slice a len cap] 23)).drewN z) (.int .i64 (-1)) 3
      simp only [World.heap_drewN, World.size_alloc] at z2
      exact frozen_alloc_l _ z2.1 z2.2
  have hv0 : W0.cell? ⟨w.heap.size + 2, 0, none⟩ = some v := by
    rw [← hW0]
    have z3 := cell_new_l (((w.alloc (Obj.cells #[Value.slice a len cap] 23)).drewN z).alloc (Obj.cells #[Value.int IntKind.i64 (-1)] 3)) v t1
    simp only [World.heap_drewN, World.size_alloc] at z3
    exact z3.1
  rw [hW0]
  clear hW0
  simp only [Nat.add_assoc, Nat.reduceAdd]
  have HBD := Lib.hid (show ∀ k, 0 ≤ spanT (ta rows) (tb rows) (nO (os k)) from fun k => span_nn (fun x => (t_bd hp x).1.1) (fun x => (t_bd hp x).2.1) _)
  refine wpIn_rangeFunc_count rfl (by omega) (gf := gf) (lb := #[.pointer (some ⟨w.heap.size + 2, 0, none⟩)]) rfl trivial hentg (hseq W0 hsz hbl hv0) rfl hE1
    (LeastI w w.heap.size a len cap (fun k => spanT (ta rows) (tb rows) (nO (os k)))) (fun k A B hi hb => hi.later hb (by omega) (Nat.le_refl _)) hI0
    (fun x => { tmps := #[.slice a len cap, .iface T v, .pointer (some ⟨w.heap.size, 0, none⟩), undef, .int .i64 0, .pointer (some ⟨w.heap.size + 1, 0, none⟩), .slice x.1 x.2.1 x.2.2, undef,
      .slice a len cap, .iface T v, .bool true, .bool false, .iface T v, .func (.func gf) #[] #[.pointer (some ⟨w.heap.size + 2, 0, none⟩)], .slice x.1 x.2.1 x.2.2, undef, undef, undef, undef, undef, undef, undef, undef, undef, undef, undef, undef], defers := [] })
    ?assign ?body ?done
  case assign =>
    rintro l ⟨a3, l3, c3⟩ W K hK
    dsimp only [encS] at hK ⊢
    gi_wp2
    exact hK
  case body =>
    rintro l k ⟨a3, l3, c3⟩ W hI hE hWs
    obtain ⟨S, hx, hl3, hxo⟩ := hE2 _ _ _ _ hE hI.below
    dsimp only at hx hl3 ⊢
    have HX := Lib.hid hx
    have z1 := hI.jobs
    have z2 := hI.least
    have z3 := hI.free
    have HI := Lib.hid hI
    have HN := Lib.hid (show lstT (fun k => spanT (ta rows) (tb rows) (nO (os k))) (k + 1) = if lstT (fun k => spanT (ta rows) (tb rows) (nO (os k))) k < 0 ∨ spanT (ta rows) (tb rows) (nO (os k)) < lstT (fun k => spanT (ta rows) (tb rows) (nO (os k))) k then spanT (ta rows) (tb rows) (nO (os k)) else lstT (fun k => spanT (ta rows) (tb rows) (nO (os k))) k from rfl)
    have HSP := Lib.hid (spanIn_any _ _ a len cap rows a3 l3 c3 (os k) W (h.below hI.below) hx hp hxo hl3)
    have hlt1 : w.heap.size + 1 < W.heap.size := by omega
    clear hx hE hI
    obtain ⟨sp, hsp⟩ : ∃ sp, spanT (ta rows) (tb rows) (nO (os k)) = sp := ⟨_, rfl⟩
    rw [hsp] at HN HSP
    obtain ⟨ls, hls⟩ : ∃ ls, lstT (fun k => spanT (ta rows) (tb rows) (nO (os k))) k = ls := ⟨_, rfl⟩
    rw [hls] at HN z2
    have hput : ∀ v : Int, lstT (fun k => spanT (ta rows) (tb rows) (nO (os k))) (k + 1) = v → LeastI w w.heap.size a len cap (fun k => spanT (ta rows) (tb rows) (nO (os k))) (k + 1) (W.setCell ⟨w.heap.size + 1, 0, none⟩ (.int .i64 v)) := fun v hv =>
      ⟨HI.out.below.setCell (by show w.heap.size ≤ w.heap.size + 1; omega) _, by rw [World.cell?_setCell_other _ _ _ _ (by intro e'; injection e'; omega)]; exact HI.out.jobs, by rw [hv]; exact World.cell?_setCell_same _ _ _ HI.out.least,
       by rw [World.frozen?_setCell]; exact HI.out.free⟩
    have hkeep : ls = lstT (fun k => spanT (ta rows) (tb rows) (nO (os k))) (k + 1) → LeastI w w.heap.size a len cap (fun k => spanT (ta rows) (tb rows) (nO (os k))) (k + 1) W := fun e =>
      ⟨HI.out.below, HI.out.jobs, by rw [← e, ← hls]; exact HI.out.least, HI.out.free⟩
    have HPUT := Lib.hid hput
    have HKEEP := Lib.hid hkeep
    clear hput hkeep hls hsp
    by_cases hc : ls < 0 ∨ sp < ls
    · have HV := Lib.hid (HN.out.trans (if_pos hc))
      by_cases hn : ls < 0
      · clear hc
        gi_wp2_with (refine ⟨trivial, ?_⟩; gi_at_call 38; refine (CallsIn.inRound l (callsIn_wide.2 HSP.out)).mono ?_; rintro e w' ⟨rfl, rfl⟩)
        exact ⟨KeepsUp.setCell _ _ (by show w.heap.size + 1 < _; omega) _, HPUT.out _ HV.out⟩
      · have hs : sp < ls := by omega
        clear hc
        gi_wp2_with (refine ⟨trivial, ?_⟩; gi_at_call 38; refine (CallsIn.inRound l (callsIn_wide.2 HSP.out)).mono ?_; rintro e w' ⟨rfl, rfl⟩)
        exact ⟨KeepsUp.setCell _ _ (by show w.heap.size + 1 < _; omega) _, HPUT.out _ HV.out⟩
    · have HV := Lib.hid (HN.out.trans (if_neg hc))
      have hn : ¬ ls < 0 := fun h => hc (.inl h)
      have hs : ¬ sp < ls := fun h => hc (.inr h)
      clear hc
      gi_wp2_with (refine ⟨trivial, ?_⟩; gi_at_call 38; refine (CallsIn.inRound l (callsIn_wide.2 HSP.out)).mono ?_; rintro e w' ⟨rfl, rfl⟩)
      exact ⟨KeepsUp.refl _ _, HKEEP.out HV.out.symm⟩
  case done =>
    rintro D k W hD rfl hI hK
    have c2 := hI.least
    have HI := Lib.hid hI
    clear hI
    gi_wp2
    exact leaves_marks (fun _ => results_tmp rfl _ _ _) [D] W ⟨⟨hK, hD, fun x hx => by cases hx⟩, trivial⟩ (fun w' hw' => ⟨rfl, HI.out.below.trans (hw'.below.mono (by omega))⟩)
-- a given order
set_option maxRecDepth 100000 in
theorem eachOne_any (n : Nat) (a2 : Option Addr) (len2 cap2 : Nat) (w : World) :
    CallsIn Fence.wide n Try.prog 57 #[.slice a2 len2 cap2] w fun e w' => e = .returned (.func (.func 58) #[] #[.pointer (some ⟨w.heap.size, 0, none⟩)]) ∧ w.alloc (.cells #[.slice a2 len2 cap2] 43) = w' := by
  refine callsIn_of_wp Try.func57 rfl trivial ?_ rfl
  simp only [Try.ntmps57, List.size_toArray, List.length_cons, List.length_nil, Nat.reduceAdd, Nat.reduceSub, Array.replicate_succ, Array.replicate_zero, List.push_toArray, List.append_toArray, List.nil_append, List.cons_append]
  gi_wp2
  go_ret
  exact ⟨rfl, rfl⟩
/-- the one order that comes -/
def OneE (a2 : Option Addr) (len2 cap2 : Nat) (T : Nat → Prop) (o : List Int) (_ k : Nat) (x : Option Addr × Nat × Nat) (W : World) : Prop := k = 0 ∧ x = (a2, len2, cap2)
theorem one_seq (a2 : Option Addr) (len2 cap2 Bs : Nat) (T : Nat → Prop) (o : List Int) (w : World) (hBs : Bs < w.heap.size) (hc : w.cell? ⟨Bs, 0, none⟩ = some (.slice a2 len2 cap2)) :
    SeqCount Fence.wide 8 Try.prog 58 #[.pointer (some ⟨Bs, 0, none⟩)] encS (· = 1) (OneE a2 len2 cap2 T o) w := by
  intro l J W1 hW hsz hJ hY h0
  have hc1 := (hW.cell (p := ⟨Bs, 0, none⟩) hBs).trans hc
  obtain ⟨fn, tmps, assign, body, hy, hR⟩ := hY 0 (a2, len2, cap2) W1 h0 ⟨rfl, rfl⟩
  dsimp only [encS] at hy
  refine callsIn_of_wp Try.func58 rfl trivial ?_ rfl
  simp only [Try.ntmps58, List.size_toArray, List.length_cons, List.length_nil, Nat.reduceAdd, Nat.reduceSub, Array.replicate_succ, Array.replicate_zero, List.push_toArray, List.append_toArray, List.nil_append, List.cons_append]
  gi_wp2
  refine hR.mono ?_
  rintro e W3 ⟨rfl, hJ3, hk3⟩
  gi_wp2
  go_end0
  exact ⟨⟨_, rfl⟩, 1, rfl, hJ3⟩
end Go.Proofs.Ytcikgbkehfepdab
namespace Go.Proofs.Ytcikgbkehfepdab
open Go.RowKit Go.WideShapes

set_option maxRecDepth 100000 in
theorem leastOne_no (a : Option Addr) (len cap : Nat) (rows : List (List Int)) (a2 : Option Addr) (len2 cap2 : Nat) (o : List Int) (w : World) (h : RowsAt w (· < w.heap.size) a len rows) (g : IntsAt w (· < w.heap.size) a2 len2 o) (hc : len ≤ cap) (hf : spanFine rows o = false) :
    Calls Try.prog 26 #[.slice a len cap, .iface 43 (.slice a2 len2 cap2)] w (ValPost w (.int .i64 (-1))) := by
  have hB := (Below.refl w.heap.size w).alloc (Nat.le_refl _) (.cells #[.slice a len cap] 23)
  have HFIT := Lib.hid (fitOne_any _ _ a len cap rows a2 len2 cap2 o _ (h.below hB) (g.below hB) hc)
  rw [hf] at HFIT
  refine (callsIn_wide (n := 9)).1 ?_
  refine callsIn_of_wp Try.func26 rfl trivial ?_ rfl
  simp only [Try.ntmps26, List.size_toArray, List.length_cons, List.length_nil, Nat.reduceAdd, Nat.reduceSub, Array.replicate_succ, Array.replicate_zero, List.push_toArray, List.append_toArray, List.nil_append, List.cons_append]
  clear hB
  gi_wp2_with fail
  refine ⟨trivial, (callsIn_wide.2 HFIT.out).mono ?_⟩
  rintro e w2 ⟨rfl, hdw⟩
  have HD := Lib.hid (((Below.refl w.heap.size w).alloc (Nat.le_refl _) (.cells #[.slice a len cap] 23)).trans (hdw.below _))
  clear hdw
  gi_wp2_with fail
  go_ret
  exact ⟨rfl, HD.out⟩
theorem spanOf_impl (a : Option Addr) (len cap : Nat) (rows : List (List Int)) (a2 : Option Addr) (len2 cap2 : Nat) (o : List Int) (w : World) (h : RowsAt w (· < w.heap.size) a len rows) (g : IntsAt w (· < w.heap.size) a2 len2 o) (hc : len ≤ cap) (hc2 : len2 ≤ cap2) :
    Calls Try.prog 10 #[.slice a len cap, .slice a2 len2 cap2] w (ValPost w (.int .i64 (spanRes rows o))) := by
  have HL := Lib.hid h.lenEq
  cases hf : spanFine rows o
  · rw [spanRes_no hf]
    go_enter Try.func10, Try.ntmps10
    go_wp2_with fail
    refine (leastOne_no a len cap rows a2 len2 cap2 o w h g hc hf).mono ?_
    rintro e w' ⟨rfl, hb⟩
    go_wp2_with fail
    go_ret
    exact ⟨rfl, hb⟩
  · rw [spanRes_yes hf]
    obtain ⟨hp, hO⟩ := spanFine_get hf
    have hl8 : len ≤ 8 := by have := (pairs_get hp).1; have := HL.out; omega
    have hl2 : len2 = len := by have := hO.2; have := HL.out; have := g.lenEq; omega
    have hG := leastSpan_gen a len cap rows 43 57 58 (.slice a2 len2 cap2) 43 (fun _ => o) 1 (OneE a2 len2 cap2 (· < w.heap.size) o) w h hp
      (fun _ _ => by kernel_rfl) (enters_of Try.func57 (by kernel_rfl) rfl) (enters_of Try.func58 (by kernel_rfl) rfl)
      (fun w' hb => (fitOne_any _ _ a len cap rows a2 len2 cap2 o w' (h.below hb) (g.below hb) hc).mono (by rintro e w2 ⟨rfl, hd⟩; rw [hf]; exact ⟨rfl, hd⟩))
      (fun w' => eachOne_any 8 a2 len2 cap2 w')
      (fun w' hsz _ hcell => one_seq a2 len2 cap2 _ _ o w' (by omega) hcell)
      (fun m k x A B he _ => he)
      (fun m k x W he hb => by
        obtain ⟨rfl, rfl⟩ := he
        exact ⟨_, g.below hb, by dsimp only; omega, fun x hx => by have := hO.1.1 x hx; rw [HL.out] at this; exact this⟩)
    have hv : lstT (fun _ => spanT (ta rows) (tb rows) (nO o)) 1 = spanT (ta rows) (tb rows) (nO o) := by
      rw [lstT, lstT]; simp
    rw [hv] at hG
    generalize spanT (ta rows) (tb rows) (nO o) = v at hG ⊢
    have HG := Lib.hid hG
    clear hv hG hl2
    go_enter Try.func10, Try.ntmps10
    go_wp2_with fail
    refine HG.out.mono ?_
    rintro e w' ⟨rfl, hb⟩
    go_wp2_with fail
    go_ret
    exact ⟨rfl, hb⟩
end Go.Proofs.Ytcikgbkehfepdab
namespace Go.Proofs.Ytcikgbkehfepdab
open Go.RowKit Go.WideShapes

def natI (h : List Nat) : List Int := h.map (fun x : Nat => (x : Int))
theorem natI_get {h : List Nat} {k : Nat} {x : Int} (hx : (natI h)[k]? = some x) : ∃ y : Nat, x = (y : Int) ∧ h[k]? = some y := by
  unfold natI at hx
  rw [List.getElem?_map] at hx
  cases hq : h[k]? with
  | none => rw [hq] at hx; cases hx
  | some y => rw [hq] at hx; simp only [Option.map_some, Option.some.injEq] at hx; exact ⟨y, hx.symm, rfl⟩
theorem nO_natI (h : List Nat) : nO (natI h) = h := by
  unfold nO natI
  rw [List.map_map]
  conv => rhs; rw [← List.map_id h]
  exact List.map_congr_left (fun x _ => by simp)
theorem natI_mem {h : List Nat} {n : Nat} (hh : ∀ x ∈ h, x < n) : ∀ x ∈ natI h, 0 ≤ x ∧ x < (n : Int) := by
  intro x hx
  obtain ⟨y, hy, rfl⟩ := List.mem_map.1 hx
  have := hh y hy; omega
set_option maxRecDepth 100000 in
set_option maxHeartbeats 4000000 in
theorem spanFrom_any (a : Option Addr) (len cap : Nat) (rows : List (List Int)) (hp : pairsM rows = true) : ∀ (f : Nat) (h : List Nat) (lh b2 cap2 : Nat) (w : World), h.length = lh → lh + f = len → (∀ x ∈ h, x < len) →
    RowsAt w (· < w.heap.size) a len rows → IntsAt w (· < w.heap.size) (some ⟨b2, 0, none⟩) lh (natI h) →
    Calls Try.prog 28 #[.slice a len cap, .slice (some ⟨b2, 0, none⟩) lh cap2] w (fun e w' => e = .returned (.int .i64 (fromT (ta rows) (tb rows) len f h)) ∧ Below w.heap.size w w') := by
  intro f
  induction f with
  | zero =>
    intro h lh b2 cap2 w hlh hf hh hr hx
    have hl8 : len ≤ 8 := by have := (pairs_get hp).1; have := hr.lenEq; omega
    have HRL := Lib.hid hr.lenEq
    obtain rfl : lh = len := by omega
    have HH := Lib.hid (natI_mem hh)
    go_enter Try.func28, Try.ntmps28
    go_wp2_with fail
    refine (span_any _ _ a lh cap rows (some ⟨b2, 0, none⟩) lh cap2 (natI h) w hr hx hp (by intro x hx'; have := HH.out x hx'; omega) hl8).mono ?_
    rintro e w' ⟨rfl, rfl⟩
    go_wp2_with fail
    go_ret
    exact ⟨by rw [nO_natI]; rfl, Below.refl _ _⟩
  | succ f ih =>
    intro h lh b2 cap2 w hlh hf hh hr hx
    have hl8 : len ≤ 8 := by have := (pairs_get hp).1; have := hr.lenEq; omega
    have HLH := Lib.hid hlh
    have IH := Lib.hid ih
    clear ih hlh
    have hne : ((lh : Int) == (len : Int)) = false := by simp; omega
    go_enter Try.func28, Try.ntmps28
    go_wp2_with fail
    go_loopw [5, 6] (fun bv iv wr => ∃ i : Nat, i ≤ len ∧ iv = .int .i64 i ∧ bv = .int .i64 (scanG (fun i => fromT (ta rows) (tb rows) len f (h ++ [i])) h i) ∧ Below w.heap.size w wr) (fun _ iv _ => len - (intOf iv).toNat)
    case atStart => exact ⟨0, Nat.zero_le _, rfl, rfl, Below.refl _ _⟩
    case round =>
      obtain ⟨i, hil, rfl, rfl, hB⟩ := hrel
      obtain ⟨wo, rfl⟩ : ∃ wo : World, wo = wr := ⟨_, rfl⟩
      have HB := Lib.hid hB
      have HR := Lib.hid (hr.below hB)
      have HX := Lib.hid (hx.below hB)
      clear hB
      by_cases hlt : i < len
      · have HST : Hid (scanG (fun i => fromT (ta rows) (tb rows) len f (h ++ [i])) h (i + 1) = if i ∈ h then scanG (fun i => fromT (ta rows) (tb rows) len f (h ++ [i])) h i else if scanG (fun i => fromT (ta rows) (tb rows) len f (h ++ [i])) h i < 0 ∨ fromT (ta rows) (tb rows) len f (h ++ [i]) < scanG (fun i => fromT (ta rows) (tb rows) len f (h ++ [i])) h i then fromT (ta rows) (tb rows) len f (h ++ [i]) else scanG (fun i => fromT (ta rows) (tb rows) len f (h ++ [i])) h i) := Lib.hid rfl
        obtain ⟨sv, hsv⟩ : ∃ sv, scanG (fun i => fromT (ta rows) (tb rows) len f (h ++ [i])) h i = sv := ⟨_, rfl⟩
        have HSV := Lib.hid hsv
        rw [hsv] at HST ⊢
        clear hsv
        go_wp2_with fail
        go_loop [7, 8] (fun uv kv => ∃ k : Nat, k ≤ lh ∧ kv = .int .i64 k ∧ uv = .bool (decide (i ∈ h.take k))) (fun _ kv => lh - (intOf kv).toNat)
        case atStart => exact ⟨0, Nat.zero_le _, rfl, by simp⟩
        case round =>
          obtain ⟨k, hk, rfl, rfl⟩ := hrel
          by_cases hkl : k < lh
          · obtain ⟨b9, off9, x9, e9, hx9, hc9⟩ := HX.out.get hkl
            cases e9
            rw [Nat.zero_add] at hc9
            obtain ⟨y, rfl, hy⟩ := natI_get hx9
            have HTK := Lib.hid (show decide (i ∈ h.take (k + 1)) = (decide (i ∈ h.take k) || decide ((y : Int) = (i : Int))) by
              rw [take_get hy, Bool.eq_iff_iff]
              simp only [decide_eq_true_eq, Bool.or_eq_true, List.mem_append, List.mem_singleton]
              exact or_congr Iff.rfl ⟨fun e => by omega, fun e => by omega⟩)
            clear hx9 hy
            cases hu : decide (i ∈ h.take k)
            · rw [hu] at HTK
              by_cases hyi : (y : Int) = (i : Int)
              · have he : ((y : Int) == (i : Int)) = true := by simpa using hyi
                have HQ := Lib.hid (HTK.out.trans (by rw [decide_eq_true hyi]; rfl : _ = true))
                clear hyi
                go_wp2_with fail
                go_round
                case rel => exact ⟨k + 1, by omega, by go_num, by rw [HQ.out]⟩
                case measure => simp [intOf]; omega
              · have he : ((y : Int) == (i : Int)) = false := by simpa using hyi
                have HQ := Lib.hid (HTK.out.trans (by rw [decide_eq_false hyi]; rfl : _ = false))
                clear hyi
                go_wp2_with fail
                go_round
                case rel => exact ⟨k + 1, by omega, by go_num, by rw [HQ.out]⟩
                case measure => simp [intOf]; omega
            · rw [hu] at HTK
              have HQ := Lib.hid (HTK.out.trans (Bool.true_or _))
              go_wp2_with fail
              go_round
              case rel => exact ⟨k + 1, by omega, by go_num, by rw [HQ.out]⟩
              case measure => simp [intOf]; omega
          · have hall : h.take k = h := List.take_of_length_le (by rw [HLH.out]; omega)
            rw [hall]
            clear hall
            have hkk : ¬ (k : Int) < (lh : Int) := by omega
            by_cases hm : i ∈ h
            · rw [decide_eq_true hm]
              have HS := Lib.hid (HST.out.trans (if_pos hm))
              clear hm
              go_wp2_with fail
              go_roundw
              case rel => exact ⟨i + 1, by omega, by go_num, by rw [HS.out], HB.out⟩
              case measure => simp [intOf]; omega
            · rw [decide_eq_false hm]
              have HS := Lib.hid (HST.out.trans (if_neg hm))
              clear hm
              go_wp2_with (at_builtin; refine wpAppN rfl _ _ rfl wo.heap.size 0 _ _ [] (· < w.heap.size) b2 0 lh cap2 (natI h) rfl (World.ownsRow_made wo #[] 0 (Nat.le_refl _) (Nat.zero_le _) rfl) rfl (HX.out.below ((Below.refl _ _).alloc HB.out.size _)) (by simp) (by omega) ?_)
              intro a6 c6 w6 hown6 hc6 hgr6
              have B6 : Hid (Below wo.heap.size wo w6) := Lib.hid (((Below.refl _ _).alloc (Nat.le_refl _) _).grown hgr6 (by simp) (by intro k e; simp [Value.ownBlock] at e; omega))
              have HO6 : Hid (w6.ownsRow wo.heap.size 3 1 (.slice a6 lh c6) lh ((natI h).map (.int .i64))) := Lib.hid (by simpa using hown6)
              clear hown6 hgr6 hc6
              try rw [Nat.zero_add]
              go_wp2_with (at_builtin; refine wpApp1 rfl _ _ rfl wo.heap.size lh c6 a6 (natI h) i rfl HO6.out rfl B6.out.size (by omega) ?_)
              intro a7 c7 w7 hown7 hc7 hgr7
              have B7 : Hid (Below wo.heap.size wo w7) := Lib.hid (B6.out.grown hgr7 B6.out.size (own_block HO6.out))
              obtain ⟨g7, c8, hv7, hb7, hl7⟩ := World.ownsRow.form hown7 (by omega)
              injection hv7 with e7 _ e8
              subst e7 e8
              have HX7 : Hid (IntsAt w7 (· < w7.heap.size) (some ⟨g7, 0, none⟩) (lh + 1) (natI (h ++ [i]))) := Lib.hid (by
                have h7 : w7.ownsRow wo.heap.size 3 1 (.slice (some ⟨g7, 0, none⟩) (lh + 1) c7) (lh + 1) ((natI (h ++ [i])).map (.int .i64)) := by simpa [natI] using hown7
                obtain ⟨a', c', e', _, h'⟩ := own_ints h7 (by omega)
                injection e' with e1 _ _
                subst e1
                exact h'.to fun b hb => ⟨hb.2, rfl⟩)
              have HR7 : Hid (RowsAt w7 (· < w7.heap.size) a len rows) := Lib.hid ((HR.out.below (B7.out.mono HB.out.size)).to fun b hb => ⟨Nat.lt_of_lt_of_le hb (Nat.le_trans HB.out.size B7.out.size), rfl⟩)
              have hh7 : Hid (∀ x ∈ h ++ [i], x < len) := Lib.hid (fun x hx => by
                rcases List.mem_append.1 hx with hx | hx
                · exact hh x hx
                · simp only [List.mem_singleton] at hx; omega)
              have HL7 : Hid ((h ++ [i]).length = lh + 1) := Lib.hid (by rw [List.length_append, HLH.out]; rfl)
              clear hown7 hgr7 hb7 hl7
              go_wp2_with fail
              refine (IH.out (h ++ [i]) (lh + 1) g7 c7 w7 HL7.out (by omega) hh7.out HR7.out HX7.out).mono ?_
              rintro e w8 ⟨rfl, hB8⟩
              have B8 : Hid (Below w.heap.size w w8) := Lib.hid (HB.out.trans ((B7.out.trans (hB8.mono B7.out.size)).mono HB.out.size))
              clear hB8
              obtain ⟨nv, hnv⟩ : ∃ nv, fromT (ta rows) (tb rows) len f (h ++ [i]) = nv := ⟨_, rfl⟩
              rw [hnv] at HS ⊢
              clear hnv
              by_cases hc : sv < 0 ∨ nv < sv
              · have HS2 := Lib.hid (HS.out.trans (if_pos hc))
                by_cases hs0 : sv < 0
                · clear hc
                  go_wp2_with fail
                  go_roundw
                  case rel => exact ⟨i + 1, by omega, by go_num, by rw [HS2.out], B8.out⟩
                  case measure => simp [intOf]; omega
                · have hn0 : nv < sv := by omega
                  clear hc
                  go_wp2_with fail
                  go_roundw
                  case rel => exact ⟨i + 1, by omega, by go_num, by rw [HS2.out], B8.out⟩
                  case measure => simp [intOf]; omega
              · have HS2 := Lib.hid (HS.out.trans (if_neg hc))
                have hs0 : ¬ sv < 0 := fun h => hc (.inl h)
                have hn0 : ¬ nv < sv := fun h => hc (.inr h)
                clear hc
                go_wp2_with fail
                go_roundw
                case rel => exact ⟨i + 1, by omega, by go_num, by rw [HS2.out], B8.out⟩
                case measure => simp [intOf]; omega
      · obtain rfl : i = len := by omega
        go_wp2_with fail
        go_ret
        exact ⟨rfl, HB.out⟩
end Go.Proofs.Ytcikgbkehfepdab
