import Derived.Test.YtkebdelfklmigaeRows
import Derived.RangeFuncNested
import Derived.RangeFuncBound
import Derived.RangeFuncCalls
import Derived.RangeFuncLeaves
import Derived.Shelf.Abstract
import Derived.Shelf.RegionOpen
import Derived.WalkKit
import Derived.OwnWalkIn
import Derived.TacticsInMore
import Derived.LoopNIn
import Derived.LoopIn
import Derived.Test.YtkebdelfklmigaeM0
import Derived.Test.YtkebdelfklmigaeM8
import Derived.Test.YtkebdelfklmigaeM9
import Derived.Test.YtkebdelfklmigaeM1
import Derived.Test.YtkebdelfklmigaeM2
import Derived.Test.YtkebdelfklmigaeM10
import Derived.LoopTactic
import Derived.Outline
import Derived.WalkSpells
import Derived.WalkLawsBesides
import Derived.ProofKit
import Derived.Lib.Hide
import Derived.Deep.QuietTactic
import Derived.BigQuiet
import Derived.IntWalk
import Derived.Deep.LoopGhost
import Derived.Shelf.RegionOpenPlain
namespace Go.Proofs.Ytkebdelfklmigae
open Go.RowKit Go.WideShapes

attribute [local go_sem] Oper.semAt_some

/-- what holds behind k rounds -/
structure LeastI (w : World) (n : Nat) (a : Option Addr) (len cap : Nat) (sp : Nat → Int) (k : Nat) (W : World) : Prop where
  below : Below w.heap.size w W
  jobs : W.cell? ⟨n, 0, none⟩ = some (.slice a len cap)
  least : W.cell? ⟨n + 1, 0, none⟩ = some (.int .i64 (lstT sp k))
  free : W.frozen? ⟨n + 1, 0, none⟩ = false
theorem LeastI.later {w : World} {n : Nat} {a : Option Addr} {len cap : Nat} {sp : Nat → Int} {k m : Nat} {A B : World} (h : LeastI w n a len cap sp k A) (hb : Below m A B) (hm : n + 2 ≤ m) (hw : w.heap.size ≤ n) : LeastI w n a len cap sp k B :=
  ⟨h.below.trans (hb.mono (by omega)), (hb.cell (p := ⟨n, 0, none⟩) (by show n < m; omega)).trans h.jobs, (hb.cell (p := ⟨n + 1, 0, none⟩) (by show n + 1 < m; omega)).trans h.least, by
    rw [World.frozen?_of_block (w := A) (hb.block (n + 1) (by omega))]; exact h.free⟩
def encS (x : Option Addr × Nat × Nat) : Value := .slice x.1 x.2.1 x.2.2
set_option maxRecDepth 100000 in
set_option maxHeartbeats 4000000 in
theorem leastSpan_gen (a : Option Addr) (len cap : Nat) (rows : List (List Int)) (T f1 gf : Nat) (v : Value) (t1 : TypeId) (os : Nat → List Int) (m : Nat) (E : Nat → Nat → Option Addr × Nat × Nat → World → Prop) (w : World) (h : RowsAt w (· < w.heap.size) a len rows) (hp : pairsM rows = true)
    (hmeth : ∀ (k : Nat) (w : World), (method (k + 1) T v "loop.example/shopsthatmake/impl.each").run Try.prog w = .ok (f1, v) w)
    (hent : ∀ (args : Array Value) (w : World), (callFunc f1 args).run Try.prog w = .ok (.enter f1 args) w) (hentg : ∀ (args : Array Value) (w : World), (callFunc gf args).run Try.prog w = .ok (.enter gf args) w)
    (hfit : ∀ w', Below w.heap.size w w' → Calls Try.prog 66 #[.slice a len cap, .iface T v] w' fun e w2 => e = .returned (.bool true) ∧ Drew w' w2)
    (heach : ∀ w', CallsIn Fence.wide 8 Try.prog f1 #[v] w' fun e w2 => e = .returned (.func (.func gf) #[] #[.pointer (some ⟨w'.heap.size, 0, none⟩)]) ∧ w'.alloc (.cells #[v] t1) = w2)
    (hseq : ∀ w' : World, w'.heap.size = w.heap.size + 3 → Below w.heap.size w w' → w'.cell? ⟨w.heap.size + 2, 0, none⟩ = some v → SeqCount Fence.wide 8 Try.prog gf #[.pointer (some ⟨w.heap.size + 2, 0, none⟩)] encS (· = m) E w')
    (hE1 : ∀ m k x A B, E m k x A → KeepsUp m A B → E m k x B)
    (hE2 : ∀ m k x W, E m k x W → Below w.heap.size w W → ∃ S, IntsAt W S x.1 x.2.1 (os k) ∧ x.2.1 ≤ 8 ∧ ∀ x ∈ os k, 0 ≤ x ∧ x < (len : Int)) :
    Calls Try.prog 50 #[.slice a len cap, .iface T v] w (ValPost w (.int .i64 (lstT (fun k => spanT (ta rows) (tb rows) (nO (os k))) m))) := by
  refine (callsIn_wide (n := 9)).1 ?_
  refine callsIn_of_wp_marks Try.func50 rfl trivial ?_ rfl
  simp only [Try.ntmps50, List.size_toArray, List.length_cons, List.length_nil, Nat.reduceAdd, Nat.reduceSub, Array.replicate_succ, Array.replicate_zero, List.push_toArray, List.append_toArray, List.nil_append, List.cons_append]
  gi_wp2_with fail
  refine ⟨trivial, (callsIn_wide.2 (hfit _ ((Below.refl _ w).alloc (Nat.le_refl _) _))).mono ?_⟩
  rintro e w2 ⟨rfl, hdw⟩
  obtain ⟨z, rfl⟩ := hdw
  gi_wp2_with fail
  refine ⟨trivial, ?_⟩
  gi_wp2_with fail
  refine (heach _).mono ?_
  rintro e w3 ⟨rfl, rfl⟩
  gi_wp2_with fail
  obtain ⟨W0, hW0⟩ : ∃ W0, ((((w.alloc (Obj.cells #[Value.slice a len cap] 24)).drewN z).alloc (Obj.cells #[Value.int IntKind.i64 (-1)] 3)).alloc (Obj.cells #[v] t1)) = W0 := ⟨_, rfl⟩
  have hsz : W0.heap.size = w.heap.size + 3 := by rw [← hW0]; simp
  have hbl : Below w.heap.size w W0 := by
    rw [← hW0]
    exact ((((Below.refl w.heap.size w).alloc (Nat.le_refl _) _).trans (Drew.below ⟨z, rfl⟩ _)).alloc (by simp) _).alloc (by simp <;> omega) _
  have hI0 : LeastI w w.heap.size a len cap (fun k => spanT (ta rows) (tb rows) (nO (os k))) 0 W0 := by
    refine ⟨hbl, ?_, ?_, ?_⟩
    all_goals rw [← hW0]
    · have z1 := cell_new_l w (.slice a len cap) 24
      exact cell_alloc_l _ (cell_alloc_l _ z1.1)
    · have z2 := cell_new_l ((w.alloc (Obj.cells #[Value.slice a len cap] 24)).drewN z) (.int .i64 (-1)) 3
      simp only [World.heap_drewN, World.size_alloc] at z2
      exact cell_alloc_l _ z2.1
    · have z2 := cell_new_l ((w.alloc (Obj.cells #[Value.slice a len cap] 24)).drewN z) (.int .i64 (-1)) 3
      simp only [World.heap_drewN, World.size_alloc] at z2
      exact frozen_alloc_l _ z2.1 z2.2
  have hv0 : W0.cell? ⟨w.heap.size + 2, 0, none⟩ = some v := by
    rw [← hW0]
    have z3 := cell_new_l (((w.alloc (Obj.cells #[Value.slice a len cap] 24)).drewN z).alloc (Obj.cells #[Value.int IntKind.i64 (-1)] 3)) v t1
    simp only [World.heap_drewN, World.size_alloc] at z3
    exact z3.1
  rw [hW0]
  clear hW0
  simp only [Nat.add_assoc, Nat.reduceAdd]
  have HBD := Lib.hid (show ∀ k, 0 ≤ spanT (ta rows) (tb rows) (nO (os k)) from fun k => span_nn (fun x => (t_bd hp x).1.1) (fun x => (t_bd hp x).2.1) _)
  refine wpIn_rangeFunc_count rfl (by omega) (gf := gf) (lb := #[.pointer (some ⟨w.heap.size + 2, 0, none⟩)]) rfl trivial hentg (hseq W0 hsz hbl hv0) rfl hE1
    (LeastI w w.heap.size a len cap (fun k => spanT (ta rows) (tb rows) (nO (os k)))) (fun k A B hi hb => hi.later hb (by omega) (Nat.le_refl _)) hI0
    (fun x => { tmps := #[.slice a len cap, .iface T v, .pointer (some ⟨w.heap.size, 0, none⟩), undef, .int .i64 0, .pointer (some ⟨w.heap.size + 1, 0, none⟩), .slice x.1 x.2.1 x.2.2, undef,
      .slice a len cap, .iface T v, .bool true, .bool false, .iface T v, .func (.func gf) #[] #[.pointer (some ⟨w.heap.size + 2, 0, none⟩)], .slice x.1 x.2.1 x.2.2, undef, undef, undef, undef, undef, undef, undef, undef, undef, undef, undef, undef], defers := [] })
    ?assign ?body ?done
  case assign =>
    rintro l ⟨a3, l3, c3⟩ W K hK
    dsimp only [encS] at hK ⊢
    gi_wp2
    exact hK
  case body =>
    rintro l k ⟨a3, l3, c3⟩ W hI hE hWs
    obtain ⟨S, hx, hl3, hxo⟩ := hE2 _ _ _ _ hE hI.below
    dsimp only at hx hl3 ⊢
    have HX := Lib.hid hx
    have z1 := hI.jobs
    have z2 := hI.least
    have z3 := hI.free
    have HI := Lib.hid hI
    have HN := Lib.hid (show lstT (fun k => spanT (ta rows) (tb rows) (nO (os k))) (k + 1) = if lstT (fun k => spanT (ta rows) (tb rows) (nO (os k))) k < 0 ∨ spanT (ta rows) (tb rows) (nO (os k)) < lstT (fun k => spanT (ta rows) (tb rows) (nO (os k))) k then spanT (ta rows) (tb rows) (nO (os k)) else lstT (fun k => spanT (ta rows) (tb rows) (nO (os k))) k from rfl)
    have HSP := Lib.hid (spanIn_any _ _ a len cap rows a3 l3 c3 (os k) W (h.below hI.below) hx hp hxo hl3)
    have hlt1 : w.heap.size + 1 < W.heap.size := by omega
    clear hx hE hI
    obtain ⟨sp, hsp⟩ : ∃ sp, spanT (ta rows) (tb rows) (nO (os k)) = sp := ⟨_, rfl⟩
    rw [hsp] at HN HSP
    obtain ⟨ls, hls⟩ : ∃ ls, lstT (fun k => spanT (ta rows) (tb rows) (nO (os k))) k = ls := ⟨_, rfl⟩
    rw [hls] at HN z2
    have hput : ∀ v : Int, lstT (fun k => spanT (ta rows) (tb rows) (nO (os k))) (k + 1) = v → LeastI w w.heap.size a len cap (fun k => spanT (ta rows) (tb rows) (nO (os k))) (k + 1) (W.setCell ⟨w.heap.size + 1, 0, none⟩ (.int .i64 v)) := fun v hv =>
      ⟨HI.out.below.setCell (by show w.heap.size ≤ w.heap.size + 1; omega) _, by rw [World.cell?_setCell_other _ _ _ _ (by intro e'; injection e'; omega)]; exact HI.out.jobs, by rw [hv]; exact World.cell?_setCell_same _ _ _ HI.out.least,
       by rw [World.frozen?_setCell]; exact HI.out.free⟩
    have hkeep : ls = lstT (fun k => spanT (ta rows) (tb rows) (nO (os k))) (k + 1) → LeastI w w.heap.size a len cap (fun k => spanT (ta rows) (tb rows) (nO (os k))) (k + 1) W := fun e =>
      ⟨HI.out.below, HI.out.jobs, by rw [← e, ← hls]; exact HI.out.least, HI.out.free⟩
    have HPUT := Lib.hid hput
    have HKEEP := Lib.hid hkeep
    clear hput hkeep hls hsp
    by_cases hc : ls < 0 ∨ sp < ls
    · have HV := Lib.hid (HN.out.trans (if_pos hc))
      by_cases hn : ls < 0
      · clear hc
        gi_wp2_with (refine ⟨trivial, ?_⟩; gi_at_call 67; refine (CallsIn.inRound l (callsIn_wide.2 HSP.out)).mono ?_; rintro e w' ⟨rfl, rfl⟩)
        exact ⟨KeepsUp.setCell _ _ (by show w.heap.size + 1 < _; omega) _, HPUT.out _ HV.out⟩
      · have hs : sp < ls := by omega
        clear hc
        gi_wp2_with (refine ⟨trivial, ?_⟩; gi_at_call 67; refine (CallsIn.inRound l (callsIn_wide.2 HSP.out)).mono ?_; rintro e w' ⟨rfl, rfl⟩)
        exact ⟨KeepsUp.setCell _ _ (by show w.heap.size + 1 < _; omega) _, HPUT.out _ HV.out⟩
    · have HV := Lib.hid (HN.out.trans (if_neg hc))
      have hn : ¬ ls < 0 := fun h => hc (.inl h)
      have hs : ¬ sp < ls := fun h => hc (.inr h)
      clear hc
      gi_wp2_with (refine ⟨trivial, ?_⟩; gi_at_call 67; refine (CallsIn.inRound l (callsIn_wide.2 HSP.out)).mono ?_; rintro e w' ⟨rfl, rfl⟩)
      exact ⟨KeepsUp.refl _ _, HKEEP.out HV.out.symm⟩
  case done =>
    rintro D k W hD rfl hI hK
    have c2 := hI.least
    have HI := Lib.hid hI
    clear hI
    gi_wp2
    exact leaves_marks (fun _ => results_tmp rfl _ _ _) [D] W ⟨⟨hK, hD, fun x hx => by cases hx⟩, trivial⟩ (fun w' hw' => ⟨rfl, HI.out.below.trans (hw'.below.mono (by omega))⟩)
-- a given order
set_option maxRecDepth 100000 in
theorem eachOne_any (n : Nat) (a2 : Option Addr) (len2 cap2 : Nat) (w : World) :
    CallsIn Fence.wide n Try.prog 106 #[.slice a2 len2 cap2] w fun e w' => e = .returned (.func (.func 107) #[] #[.pointer (some ⟨w.heap.size, 0, none⟩)]) ∧ w.alloc (.cells #[.slice a2 len2 cap2] 110) = w' := by
  refine callsIn_of_wp Try.func106 rfl trivial ?_ rfl
  simp only [Try.ntmps106, List.size_toArray, List.length_cons, List.length_nil, Nat.reduceAdd, Nat.reduceSub, Array.replicate_succ, Array.replicate_zero, List.push_toArray, List.append_toArray, List.nil_append, List.cons_append]
  gi_wp2
  go_ret
  exact ⟨rfl, rfl⟩
/-- the one order that comes -/
def OneE (a2 : Option Addr) (len2 cap2 : Nat) (T : Nat → Prop) (o : List Int) (_ k : Nat) (x : Option Addr × Nat × Nat) (W : World) : Prop := k = 0 ∧ x = (a2, len2, cap2)
theorem one_seq (a2 : Option Addr) (len2 cap2 Bs : Nat) (T : Nat → Prop) (o : List Int) (w : World) (hBs : Bs < w.heap.size) (hc : w.cell? ⟨Bs, 0, none⟩ = some (.slice a2 len2 cap2)) :
    SeqCount Fence.wide 8 Try.prog 107 #[.pointer (some ⟨Bs, 0, none⟩)] encS (· = 1) (OneE a2 len2 cap2 T o) w := by
  intro l J W1 hW hsz hJ hY h0
  have hc1 := (hW.cell (p := ⟨Bs, 0, none⟩) hBs).trans hc
  obtain ⟨fn, tmps, assign, body, hy, hR⟩ := hY 0 (a2, len2, cap2) W1 h0 ⟨rfl, rfl⟩
  dsimp only [encS] at hy
  refine callsIn_of_wp Try.func107 rfl trivial ?_ rfl
  simp only [Try.ntmps107, List.size_toArray, List.length_cons, List.length_nil, Nat.reduceAdd, Nat.reduceSub, Array.replicate_succ, Array.replicate_zero, List.push_toArray, List.append_toArray, List.nil_append, List.cons_append]
  gi_wp2
  refine hR.mono ?_
  rintro e W3 ⟨rfl, hJ3, hk3⟩
  gi_wp2
  go_end0
  exact ⟨⟨_, rfl⟩, 1, rfl, hJ3⟩
end Go.Proofs.Ytkebdelfklmigae
namespace Go.Proofs.Ytkebdelfklmigae
open Go.RowKit Go.WideShapes

theorem Try.infoIntOB : (Try.prog.info? 3).map (fun i => (i.zero, i.size, i.bytes)) = some (some (.int .i64 0), 1, 8) := by kernel_rfl
/-- the cells of block b, from its first one on, hold these numbers, and may be written -/
def RowB (w : World) (b : Nat) (xs : List Nat) : Prop := ∀ (q x : Nat), xs[q]? = some x → w.cell? ⟨b, q, none⟩ = some (.int .i64 (x : Int)) ∧ w.frozen? ⟨b, q, none⟩ = false
theorem RowB.block {w w' : World} {b : Nat} {xs : List Nat} (h : RowB w b xs) (e : w'.heap[b]? = w.heap[b]?) : RowB w' b xs := by
  intro q x hx
  obtain ⟨h1, h2⟩ := h q x hx
  exact ⟨by rw [World.cell?_of_block (w := w) e]; exact h1, by rw [World.frozen?_of_block (w := w) e]; exact h2⟩
theorem RowB.drew {w : World} {b : Nat} {xs : List Nat} (h : RowB w b xs) : RowB w.drew b xs := h
theorem RowB.drewN {w : World} {b : Nat} {xs : List Nat} (h : RowB w b xs) (n : Nat) : RowB (w.drewN n) b xs := h
theorem RowB.at {w : World} {b q : Nat} {xs : List Nat} (h : RowB w b xs) (hq : q < xs.length) : w.cell? ⟨b, q, none⟩ = some (.int .i64 ((xs.getD q 0 : Nat) : Int)) ∧ w.frozen? ⟨b, q, none⟩ = false := by
  refine h q _ ?_
  rw [List.getD_eq_getElem?_getD, List.getElem?_eq_getElem hq]; rfl
theorem RowB.lt {w : World} {b : Nat} {xs : List Nat} (h : RowB w b xs) (hq : 0 < xs.length) : b < w.heap.size := World.block_lt_of_cell? w _ (h.at hq).1
theorem RowB.put {w : World} {b : Nat} {xs : List Nat} (h : RowB w b xs) {k : Nat} (hk : k < xs.length) (v : Nat) : RowB (w.setCell ⟨b, k, none⟩ (.int .i64 (v : Int))) b (xs.set k v) := by
  intro q x hx
  rw [List.getElem?_set] at hx
  refine ⟨?_, ?_⟩
  · by_cases e : k = q
    · subst e
      rw [if_pos rfl, if_pos hk] at hx
      cases hx
      exact World.cell?_setCell_same _ _ _ (h.at hk).1
    · rw [if_neg e] at hx
      rw [World.cell?_setCell_other _ _ _ _ (by intro e'; injection e' with _ e2; exact e (by omega))]
      exact (h q x hx).1
  · rw [World.frozen?_setCell]
    by_cases e : k = q
    · subst e; exact (h.at hk).2
    · rw [if_neg e] at hx; exact (h q x hx).2
theorem RowB.ints {w : World} {b n : Nat} {xs : List Nat} (h : RowB w b xs) (hl : xs.length = n) (hn : n ≤ 1048576) {S : Nat → Prop} (hS : S b) : IntsAt w S (some ⟨b, 0, none⟩) n (natI xs) :=
  ⟨by simp [natI, hl], by omega, fun _ => ⟨b, 0, rfl, hS, fun i x hx => by
    obtain ⟨y, rfl, hy⟩ := natI_get hx
    have := (h i y hy).1
    simpa using this⟩⟩
theorem getD_set_self {xs : List Nat} {k v : Nat} (h : k < xs.length) : (xs.set k v).getD k 0 = v := by simp [List.getD_eq_getElem?_getD, h]
theorem RowB.swap {w : World} {b : Nat} {xs : List Nat} (h : RowB w b xs) {i j : Nat} (hi : i < xs.length) (hj : j < xs.length) :
    RowB ((w.setCell ⟨b, i, none⟩ (.int .i64 ((xs.getD j 0 : Nat) : Int))).setCell ⟨b, j, none⟩ (.int .i64 ((xs.getD i 0 : Nat) : Int))) b (swN xs i j) :=
  (h.put hi (xs.getD j 0)).put (by simpa using hj) (xs.getD i 0)
set_option maxRecDepth 100000 in
set_option maxHeartbeats 2000000 in
theorem reverseB_any (b off l cap : Nat) (xs : List Nat) (w : World) (h : RowB w b xs) (hl : off + l = xs.length) (hl1 : 1 ≤ l) (hn : xs.length ≤ 8) :
    Calls Try.prog 104 #[.slice (some ⟨b, off, none⟩) l cap] w fun e w' => e = .returned (.tuple #[]) ∧ RowB w' b (revK xs off (xs.length - 1) xs.length) ∧ Below b w w' := by
  have mixed : Try.prog.follows .mixedOrders = true := by kernel_rfl
  have HN := Lib.hid hn
  go_enter Try.func104, Try.ntmps104
  go_wp2_with fail
  go_loopg [2, 3] l (fun k s2 s3 wr => ∃ (i j f : Nat) (ys : List Nat), s2 = .int .i64 (i : Int) ∧ s3 = .int .i64 (j : Int) ∧ i ≤ l ∧ j < l ∧ j - i ≤ k ∧ j - i ≤ f ∧ ys.length = xs.length ∧ RowB wr b ys ∧ Below b w wr ∧ revK ys (off + i) (off + j) f = revK xs off (xs.length - 1) xs.length)
  case atStart => exact ⟨0, l - 1, xs.length, xs, rfl, by congr 1; omega, by omega, by omega, by omega, by omega, rfl, h, Below.refl _ _, by rw [Nat.add_zero, show off + (l - 1) = xs.length - 1 by omega]⟩
  case round =>
    obtain ⟨i, j, f, ys, rfl, rfl, hi, hj, hk, hf, hyl, hR, hB, he⟩ := hrel
    by_cases hlt : i < j
    · obtain ⟨ci, fi⟩ := hR.at (q := off + i) (by omega)
      obtain ⟨cj, fj⟩ := hR.at (q := off + j) (by omega)
      have HR := Lib.hid hR
      have HB := Lib.hid hB
      have HE := Lib.hid he
      have hij : (i : Int) < (j : Int) := by omega
      have hil : (i : Int) < (l : Int) := by omega
      have hjl : (j : Int) < (l : Int) := by omega
      have HYL := Lib.hid hyl
      clear hR hB he hyl h
      obtain ⟨x, hx⟩ : ∃ x, ys.getD (off + i) 0 = x := ⟨_, rfl⟩
      obtain ⟨y, hy⟩ : ∃ y, ys.getD (off + j) 0 = y := ⟨_, rfl⟩
      rw [hx] at ci
      rw [hy] at cj
      have HX := Lib.hid hx
      have HY := Lib.hid hy
      clear hx hy
      go_wp2_with fail
      go_region_o
      go_wp2_with fail
      go_roundg (j - 1 - (i + 1))
      case measure => omega
      case rel =>
        have hsw := (HR.out.swap (i := off + i) (j := off + j) (by have := HYL.out; omega) (by have := HYL.out; omega)).drew
        rw [HX.out, HY.out] at hsw
        have he := HE.out
        obtain ⟨f', rfl⟩ : ∃ f', f = f' + 1 := ⟨f - 1, by omega⟩
        rw [revK, if_pos (by omega)] at he
        exact ⟨i + 1, j - 1, f', swN ys (off + i) (off + j), by go_num, by congr 1; omega, by omega, by omega, by omega, by omega, by rw [swN_length]; exact HYL.out, hsw,
          ((HB.out.setCell (Nat.le_refl _) _).setCell (Nat.le_refl _) _).drew, by rw [← he, show off + i + 1 = off + (i + 1) by omega, show off + j - 1 = off + (j - 1) by omega]⟩
    · have HR := Lib.hid hR
      have HB := Lib.hid hB
      have HE := Lib.hid (he.symm.trans (revK_end (show ¬ off + i < off + j by omega) f))
      have hij : ¬ (i : Int) < (j : Int) := by omega
      clear hR hB he
      go_wp2_with fail
      go_end0
      exact ⟨rfl, by rw [HE.out]; exact HR.out, HB.out⟩
theorem riseAt_lt : ∀ (k : Nat) (xs : List Nat) (a : Nat), riseAt xs k = some a → a < k ∧ xs.getD a 0 < xs.getD (a + 1) 0 := by
  intro k
  induction k with
  | zero => intro xs a h; cases h
  | succ k ih =>
    intro xs a h
    rw [riseAt] at h
    split at h
    · have := ih xs a h; exact ⟨by omega, this.2⟩
    · cases h; exact ⟨by omega, by omega⟩
theorem overAt_get {xs : List Nat} {x a : Nat} (hx : x < xs.getD (a + 1) 0) : ∀ k, a < k → a < overAt xs x k ∧ overAt xs x k ≤ k := by
  intro k
  induction k with
  | zero => intro h; omega
  | succ k ih =>
    intro h
    rw [overAt]
    split
    · rename_i hc
      by_cases e : k = a
      · subst e; omega
      · have := ih (by omega); omega
    · omega
theorem nextP_none {xs : List Nat} (h : riseAt xs (xs.length - 1) = none) : nextP xs = none := by unfold nextP; rw [h]
theorem nextP_some {xs : List Nat} {a : Nat} (h : riseAt xs (xs.length - 1) = some a) : nextP xs = some (revK (swN xs a (overAt xs (xs.getD a 0) (xs.length - 1))) (a + 1) (xs.length - 1) xs.length) := by unfold nextP; rw [h]
set_option maxRecDepth 100000 in
set_option maxHeartbeats 4000000 in
theorem nextOrder_any (b n : Nat) (xs : List Nat) (w : World) (h : RowB w b xs) (hl : xs.length = n) (hn : n ≤ 8) :
    Calls Try.prog 103 #[.slice (some ⟨b, 0, none⟩) n n] w fun e w' => e = .returned (.bool (nextP xs).isSome) ∧ RowB w' b ((nextP xs).getD xs) ∧ Below b w w' := by
  have mixed : Try.prog.follows .mixedOrders = true := by kernel_rfl
  have HL := Lib.hid hl
  have HC := Lib.hid (fun q (hq : q < n) => h.at (q := q) (by omega))
  have HROW := Lib.hid h
  clear h hl
  go_enter Try.func103, Try.ntmps103
  go_wp2_with fail
  go_loopw [3] (fun i wr => ∃ v : Int, i = .int .i64 v ∧ -2 ≤ v ∧ (v + 1).toNat ≤ n - 1 ∧ riseAt xs (n - 1) = riseAt xs (v + 1).toNat ∧ Drew w wr) (fun v _ => (intOf v + 2).toNat)
  case atStart => exact ⟨(n : Int) - 2, rfl, by omega, by omega, by rw [show ((n : Int) - 2 + 1).toNat = n - 1 by omega], Drew.refl _⟩
  case round =>
    obtain ⟨v, rfl, hv2, hvn, hr, hdw⟩ := hrel
    by_cases h0 : 0 ≤ v
    · obtain ⟨k, rfl⟩ : ∃ k : Nat, v = (k : Int) := ⟨v.toNat, by omega⟩
      rw [show ((k : Int) + 1).toNat = k + 1 by omega] at hr hvn
      obtain ⟨c1, f1⟩ := HC.out k (by omega)
      obtain ⟨c2, f2⟩ := HC.out (k + 1) (by omega)
      obtain ⟨z, rfl⟩ := hdw
      have hkn : (k : Int) < (n : Int) := by omega
      have hkn1 : (k : Int) + 1 < (n : Int) := by omega
      have HR := Lib.hid hr
      have HRS := Lib.hid (show riseAt xs (k + 1) = if xs.getD (k + 1) 0 ≤ xs.getD k 0 then riseAt xs k else some k from rfl)
      obtain ⟨x, hx⟩ : ∃ x, xs.getD k 0 = x := ⟨_, rfl⟩
      obtain ⟨y, hy⟩ : ∃ y, xs.getD (k + 1) 0 = y := ⟨_, rfl⟩
      rw [hx] at c1 HRS
      rw [hy] at c2 HRS
      have HX := Lib.hid hx
      have HY := Lib.hid hy
      clear hx hy hr
      by_cases hle : y ≤ x
      · have hle' : (y : Int) ≤ (x : Int) := by omega
        go_wp2_with fail
        go_quiet (fail)
        go_wp2_with fail
        go_roundw
        case rel => exact ⟨(k : Int) - 1, rfl, by omega, by omega, by rw [HR.out, HRS.out, if_pos hle, show ((k : Int) - 1 + 1).toNat = k by omega], ⟨_, rfl⟩⟩
        case measure => simp [intOf] <;> omega
      · have hle' : ¬ (y : Int) ≤ (x : Int) := by omega
        have HA := Lib.hid (show riseAt xs (xs.length - 1) = some k by rw [HL.out, HR.out, HRS.out, if_neg hle])
        have HN := Lib.hid (nextP_some HA.out)
        rw [HL.out, HX.out] at HN
        have HOV := Lib.hid (overAt_get (xs := xs) (x := x) (a := k) (by rw [HY.out]; omega) (n - 1) (by omega))
        clear hle
        go_wp2_with fail
        go_quiet (fail)
        go_wp2_with fail
        go_loopw [4] (fun i wr => ∃ j : Nat, i = .int .i64 (j : Int) ∧ k < j ∧ j ≤ n - 1 ∧ overAt xs x (n - 1) = overAt xs x j ∧ Drew w wr) (fun v _ => (intOf v).toNat)
        case atStart => exact ⟨n - 1, by congr 1; omega, by omega, by omega, rfl, ⟨_, rfl⟩⟩
        case round =>
          obtain ⟨j, rfl, hkj, hjn, hov, hdw⟩ := hrel
          obtain ⟨j', rfl⟩ : ∃ j', j = j' + 1 := ⟨j - 1, by omega⟩
          obtain ⟨c3, f3⟩ := HC.out (j' + 1) (by omega)
          obtain ⟨z2, rfl⟩ := hdw
          have HO := Lib.hid hov
          have HOS := Lib.hid (show overAt xs x (j' + 1) = if xs.getD (j' + 1) 0 ≤ x then overAt xs x j' else j' + 1 from rfl)
          have hoy : j' = k → ¬ xs.getD (j' + 1) 0 ≤ x := fun e => by rw [e, HY.out]; omega
          have HOY := Lib.hid hoy
          have hjI : ((j' + 1 : Nat) : Int) < (n : Int) := by omega
          obtain ⟨u, hu⟩ : ∃ u, xs.getD (j' + 1) 0 = u := ⟨_, rfl⟩
          rw [hu] at c3 HOS HOY
          have HU := Lib.hid hu
          clear hu hov hoy
          by_cases hux : u ≤ x
          · have hux' : (u : Int) ≤ (x : Int) := by omega
            go_wp2_with fail
            go_quiet (fail)
            go_wp2_with fail
            go_roundw
            case rel => exact ⟨j', by go_num, by
              rcases Nat.lt_or_ge k j' with h | h
              · exact h
              · exact absurd hux (HOY.out (by omega)), by omega, by rw [HO.out, HOS.out, if_pos hux], ⟨_, rfl⟩⟩
            case measure => simp [intOf] <;> omega
          · have hux' : ¬ (u : Int) ≤ (x : Int) := by omega
            have HOE := Lib.hid (show overAt xs x (n - 1) = j' + 1 by rw [HO.out, HOS.out, if_neg hux])
            obtain ⟨j, hj⟩ : ∃ j, j' + 1 = j := ⟨_, rfl⟩
            have HJ := Lib.hid hj
            rw [hj] at HU HOE c3 f3 hjI hkj hjn ⊢
            clear hux hj
            rw [HOE.out] at HN
            clear c2 f2
            go_wp2_with fail
            go_quiet (fail)
            go_wp2_with fail
            go_region_o
            go_wp2_with fail
            have hsw := (HROW.out.drewN (z2 + nq + 1)).swap (i := k) (j := j) (by have := HL.out; omega) (by have := HL.out; omega)
            rw [HU.out, HX.out] at hsw
            refine (reverseB_any b (k + 1) (n - (k + 1)) _ (swN xs k j) _ hsw (by rw [swN_length, HL.out]; omega) (by omega) (by rw [swN_length, HL.out]; exact hn)).mono ?_
            rintro e w5 ⟨rfl, hr5, hb5⟩
            rw [swN_length, HL.out] at hr5
            have HR5 := Lib.hid hr5
            have HB5 := Lib.hid ((((Drew.below (w := w) ⟨z2 + nq + 1, rfl⟩ b).setCell (p := ⟨b, k, none⟩) (Nat.le_refl _) _).setCell (p := ⟨b, j, none⟩) (Nat.le_refl _) _).trans hb5)
            clear hsw hr5 hb5
            go_wp2_with fail
            go_ret
            exact ⟨ret_bool (by rw [HN.out]; rfl), by rw [HN.out]; exact HR5.out, HB5.out⟩
    · have HN := Lib.hid (nextP_none (xs := xs) (by rw [HL.out, hr, show (v + 1).toNat = 0 by omega]; rfl))
      obtain ⟨z, rfl⟩ := hdw
      clear hr
      have h1 : decide (0 ≤ v) = false := decide_eq_false h0
      have h2 : v < 0 := by omega
      clear h0
      go_wp2_with fail
      go_quiet (fail)
      go_wp2_with fail
      go_ret
      exact ⟨ret_bool (by rw [HN.out]; rfl), by rw [HN.out]; exact HROW.out, Drew.below ⟨_, rfl⟩ _⟩
end Go.Proofs.Ytkebdelfklmigae
namespace Go.Proofs.Ytkebdelfklmigae
open Go.RowKit Go.WideShapes

attribute [local go_sem] Oper.semAt_some

/-- a loop told by a number that falls, and that no slot holds -/
theorem wpIn_loop_ghost {F : Fence} {n : Nat} {P : Program} {Q : Exit → Act → World → Prop} {c : Code} (J : Nat → Act → World → Prop)
    (round : ∀ k a w, J k a w → c.wpIn F n P (Exit.then (fun a' w' => ∃ k', k' < k ∧ J k' a' w') Q) a w) {m : Nat} {a : Act} {w : World} (h0 : J m a w) : (Code.loop c).wpIn F n P Q a w := by
  refine wpIn_loop_rounds (m + 1) ?_
  have key : ∀ (m k : Nat) (a : Act) (w : World), k < m → J k a w → Code.roundsIn F n P c Q m a w := by
    intro m
    induction m with
    | zero => intro k a w h; omega
    | succ m ih =>
      intro k a w h hJ
      refine wpIn_mono (round k a w hJ) ?_
      intro e a' w' hq
      cases e with
      | normal => obtain ⟨k', hk, hJ'⟩ := hq; exact ih k' a' w' (by omega) hJ'
      | _ => exact hq
  exact key (m + 1) m a w (by omega) h0
set_option maxHeartbeats 1000000 in
theorem firstOrder_any (n : Nat) (w : World) (hn : n ≤ 8) :
    Calls Try.prog 102 #[.int .i64 n] w fun e w' => e = .returned (.slice (some ⟨w.heap.size, 0, none⟩) n n) ∧ OwnF w w' n (fun q => (q : Int)) := by
  have hmk := fun w => run_make_row' (P := Try.prog) 23 3 (.int .i64 0) 8 Try.underlying23 Try.infoIntOB rfl .i64 .i64 n (by omega) (by omega) w
  go_enter Try.func102, Try.ntmps102
  go_wp2_with fail
  clear hmk
  go_loopw [9] (fun i wr => ∃ k : Nat, k ≤ n ∧ i = .int .i64 k ∧ OwnF w wr n (fun q => if q < k then (q : Int) else 0)) (fun i _ => n - (intOf i).toNat)
  case atStart => exact ⟨0, Nat.zero_le _, rfl, (OwnF.start w n (by omega)).congr (fun q _ => by rw [if_neg (by omega)])⟩
  case round =>
    obtain ⟨k, hk, rfl, hC⟩ := hrel
    by_cases hlt : k < n
    · obtain ⟨c1, f1⟩ := hC.cell hlt
      have HC := Lib.hid hC
      have hkn : (k : Int) < (n : Int) := by omega
      clear hC
      go_wp2_with fail
      go_roundw
      case rel => exact ⟨k + 1, by omega, by go_num, (HC.out.put k _).congr (fun q hq => by
        by_cases e : q = k
        · subst e; rw [if_pos rfl, if_pos (by omega)]
        · rw [if_neg e]
          by_cases e2 : q < k
          · rw [if_pos e2, if_pos (by omega)]
          · rw [if_neg e2, if_neg (by omega)])⟩
      case measure => simp [intOf] <;> omega
    · have HC := Lib.hid (hC.congr (g := fun q => (q : Int)) (fun q hq => by rw [if_pos (by omega)]))
      clear hC
      go_wp2_with fail
      go_ret
      exact ⟨rfl, HC.out⟩
theorem OwnF.rowB {w w' : World} {n : Nat} (h : OwnF w w' n (fun q => (q : Int))) : RowB w' w.heap.size (List.range n) := by
  intro q x hx
  have hq : q < n := by have := (List.getElem?_eq_some_iff.1 hx).1; simpa using this
  rw [List.getElem?_range hq] at hx
  cases hx
  exact h.cell hq
theorem eachAll_any (n : Nat) (k : Nat) (w : World) :
    CallsIn Fence.wide n Try.prog 100 #[.int .i64 k] w fun e w' => e = .returned (.func (.func 101) #[] #[.pointer (some ⟨w.heap.size, 0, none⟩)]) ∧ w.alloc (.cells #[.int .i64 k] 73) = w' := by
  refine callsIn_of_wp Try.func100 rfl trivial ?_ rfl
  simp only [Try.ntmps100, List.size_toArray, List.length_cons, List.length_nil, Nat.reduceAdd, Nat.reduceSub, Array.replicate_succ, Array.replicate_zero, List.push_toArray, List.append_toArray, List.nil_append, List.cons_append]
  gi_wp2
  go_ret
  exact ⟨rfl, rfl⟩
/-- the orders that come -/
def AllE (n m k : Nat) (x : Option Addr × Nat × Nat) (W : World) : Prop := ∃ b, m ≤ b ∧ b < W.heap.size ∧ x = (some ⟨b, 0, none⟩, n, n) ∧ k < (ordL n).length ∧ RowB W b ((ordL n).getD k [])
theorem AllE.kept {n m k : Nat} {x : Option Addr × Nat × Nat} {A B : World} (h : AllE n m k x A) (hk : KeepsUp m A B) : AllE n m k x B := by
  obtain ⟨b, h1, h2, h3, h4, h5⟩ := h
  exact ⟨b, h1, Nat.lt_of_lt_of_le h2 hk.1, h3, h4, h5.block (hk.2 b h1 h2)⟩
theorem all_len {n k : Nat} (h : n ≤ 5) (hk : k < (ordL n).length) : ((ordL n).getD k []).length = n := by
  refine ((ord_is h).len _ ?_).1
  rw [List.getD_eq_getElem?_getD, List.getElem?_eq_getElem hk]; exact List.getElem_mem hk
set_option maxRecDepth 100000 in
set_option maxHeartbeats 2000000 in
theorem all_seq (n Bs : Nat) (hn : n ≤ 5) (w : World) (hBs : Bs < w.heap.size) (hc : w.cell? ⟨Bs, 0, none⟩ = some (.int .i64 n)) :
    SeqCount Fence.wide 8 Try.prog 101 #[.pointer (some ⟨Bs, 0, none⟩)] encS (· = (ordL n).length) (AllE n) w := by
  intro l J W1 hW hsz hJ hY h0
  have hc1 := (hW.cell (p := ⟨Bs, 0, none⟩) hBs).trans hc
  have HO := Lib.hid (ord_is hn)
  have HPOS := Lib.hid (ordL_pos hn)
  have HJ := Lib.hid hJ
  have HY := Lib.hid hY
  clear hJ hY hsz
  refine callsIn_of_wp Try.func101 rfl trivial ?_ rfl
  simp only [Try.ntmps101, List.size_toArray, List.length_cons, List.length_nil, Nat.reduceAdd, Nat.reduceSub, Array.replicate_succ, Array.replicate_zero, List.push_toArray, List.append_toArray, List.nil_append, List.cons_append]
  gi_wp2_with (refine ⟨trivial, ?_⟩; gi_at_call 102; refine (callsIn_wide.2 (firstOrder_any n W1 (by omega))).mono ?_; rintro e w2 ⟨rfl, hown⟩)
  have HB := Lib.hid hown.below
  have HR := Lib.hid hown.rowB
  have hlt : W1.heap.size < w2.heap.size := (Array.getElem?_eq_some_iff.1 hown.heap).1
  clear hown
  refine wpIn_loop_ghost (fun k a' W => ∃ (j : Nat) (u6 u7 u8 u9 u10 u11 u12 : Value), a' = { tmps := #[.func (.yield l) #[] #[], .pointer (some ⟨Bs, 0, none⟩), undef, .slice (some ⟨W1.heap.size, 0, none⟩) n n, .int .i64 n, .slice (some ⟨W1.heap.size, 0, none⟩) n n, u6, u7, u8, u9, u10, u11, u12], defers := [] } ∧ j + k + 1 = (ordL n).length ∧ J j W ∧ RowB W W1.heap.size ((ordL n).getD j []) ∧ W1.heap.size < W.heap.size) ?_ (m := (ordL n).length - 1) ?_
  · rintro k a' W ⟨j, u6, u7, u8, u9, u10, u11, u12, rfl, hjk, hJj, hRow, hWs⟩
    have HJK := Lib.hid hjk
    have hjl : j < (ordL n).length := by omega
    have HLEN := Lib.hid (all_len hn hjl)
    have HNX := Lib.hid (HO.out.next j hjl)
    obtain ⟨fn, tmps, assign, body, hy, hR⟩ := HY.out j (some ⟨W1.heap.size, 0, none⟩, n, n) W hJj ⟨_, Nat.le_refl _, hWs, rfl, hjl, hRow⟩
    dsimp only [encS] at hy
    have HROW := Lib.hid hRow
    clear hRow hjk
    gi_wp2
    refine hR.mono ?_
    rintro e W3 ⟨rfl, hJ3, hk3⟩
    have HR3 := Lib.hid (HROW.out.block (hk3.2 _ (Nat.le_refl _) hWs))
    have hs3 := Nat.lt_of_lt_of_le hWs hk3.1
    have HJ3 := Lib.hid hJ3
    clear hJ3 hk3 hR hy
    have HNEXT := Lib.hid (nextOrder_any W1.heap.size n ((ordL n).getD j []) W3 HR3.out HLEN.out (by omega))
    rw [HNX.out] at HNEXT
    cases hq : (ordL n)[j + 1]? with
    | none =>
      have HE := Lib.hid (show j + 1 = (ordL n).length by have := List.getElem?_eq_none_iff.1 hq; omega)
      rw [hq] at HNEXT
      clear hq
      gi_wp2_with (refine ⟨trivial, ?_⟩; gi_at_call 103; refine (callsIn_wide.2 HNEXT.out).mono ?_; rintro e w5 ⟨rfl, hr5, hb5⟩)
      go_end0
      exact ⟨⟨_, rfl⟩, _, HE.out, HJ.out _ _ _ HJ3.out hb5⟩
    | some ys =>
      have HE := Lib.hid (show j + 1 < (ordL n).length from (List.getElem?_eq_some_iff.1 hq).1)
      have HYS := Lib.hid (show (ordL n).getD (j + 1) [] = ys by rw [List.getD_eq_getElem?_getD, hq]; rfl)
      rw [hq] at HNEXT
      clear hq
      gi_wp2_with (refine ⟨trivial, ?_⟩; gi_at_call 103; refine (callsIn_wide.2 HNEXT.out).mono ?_; rintro e w5 ⟨rfl, hr5, hb5⟩)
      exact ⟨k - 1, by have := HE.out; have := HJK.out; omega, j + 1, _, _, _, _, _, _, _, rfl, by have := HE.out; have := HJK.out; omega, HJ.out _ _ _ HJ3.out hb5, by rw [HYS.out]; exact hr5, Nat.lt_of_lt_of_le hs3 hb5.size⟩
  · exact ⟨0, _, _, _, _, _, _, _, rfl, by have := HPOS.out; omega, HJ.out _ _ _ h0 HB.out, by
      have : (ordL n).getD 0 [] = List.range n := by rw [List.getD_eq_getElem?_getD, HO.out.first]; rfl
      rw [this]; exact HR.out, hlt⟩
theorem fitAll_any (S : Nat → Prop) (a : Option Addr) (len cap : Nat) (rows : List (List Int)) (w : World) (h : RowsAt w S a len rows) (hc : len ≤ cap) :
    Calls Try.prog 66 #[.slice a len cap, .iface 73 (.int .i64 len)] w fun e w' => e = .returned (.bool (triedFine rows)) ∧ Drew w w' := by
  have HL := Lib.hid h.lenEq
  have hs := h.small
  have ta1 : ∀ w : World, (Instr.typeAssert (.iface 73 (.int .i64 len)) 92 110 true).run Try.prog w = .ok (.tuple #[.slice none 0 0, .bool false]) w := fun _ => by kernel_rfl
  have ta2 : ∀ w : World, (Instr.typeAssert (.iface 73 (.int .i64 len)) 92 73 true).run Try.prog w = .ok (.tuple #[.int .i64 len, .bool true]) w := fun _ => by kernel_rfl
  cases hp : pairsM rows
  · have HF := Lib.hid (show triedFine rows = false by unfold triedFine; rw [hp]; rfl)
    go_enter Try.func66, Try.ntmps66
    go_wp2_with fail
    refine (validPairs_impl S a len cap rows w h hc).mono ?_
    rintro e w' ⟨rfl, hdw⟩
    rw [hp]
    go_wp2_with fail
    go_ret
    exact ⟨ret_bool HF.out.symm, hdw⟩
  · have HF := Lib.hid (show triedFine rows = inB 0 5 (len : Int) by
      unfold triedFine; rw [HL.out, hp, Bool.true_and]; unfold inB; exact decide_eq_decide.2 (by omega))
    go_enter Try.func66, Try.ntmps66
    go_wp2_with fail
    refine (validPairs_impl S a len cap rows w h hc).mono ?_
    rintro e w' ⟨rfl, hdw⟩
    rw [hp]
    go_wp2_with fail
    refine (isUpTo_any _ _ _).mono ?_
    rintro e w' ⟨rfl, rfl⟩
    go_wp2_with fail
    go_ret
    exact ⟨ret_bool HF.out.symm, hdw⟩
set_option maxRecDepth 100000 in
theorem leastAll_no (a : Option Addr) (len cap : Nat) (rows : List (List Int)) (w : World) (h : RowsAt w (· < w.heap.size) a len rows) (hc : len ≤ cap) (hf : triedFine rows = false) :
    Calls Try.prog 50 #[.slice a len cap, .iface 73 (.int .i64 len)] w (ValPost w (.int .i64 (-1))) := by
  have hB := (Below.refl w.heap.size w).alloc (Nat.le_refl _) (.cells #[.slice a len cap] 24)
  have HFIT := Lib.hid (fitAll_any _ a len cap rows _ (h.below hB) hc)
  rw [hf] at HFIT
  refine (callsIn_wide (n := 9)).1 ?_
  refine callsIn_of_wp Try.func50 rfl trivial ?_ rfl
  simp only [Try.ntmps50, List.size_toArray, List.length_cons, List.length_nil, Nat.reduceAdd, Nat.reduceSub, Array.replicate_succ, Array.replicate_zero, List.push_toArray, List.append_toArray, List.nil_append, List.cons_append]
  clear hB
  gi_wp2_with fail
  refine ⟨trivial, (callsIn_wide.2 HFIT.out).mono ?_⟩
  rintro e w2 ⟨rfl, hdw⟩
  have HD := Lib.hid (((Below.refl w.heap.size w).alloc (Nat.le_refl _) (.cells #[.slice a len cap] 24)).trans (hdw.below _))
  clear hdw
  gi_wp2_with fail
  go_ret
  exact ⟨rfl, HD.out⟩
theorem spanTried_impl (a : Option Addr) (len cap : Nat) (rows : List (List Int)) (w : World) (h : RowsAt w (· < w.heap.size) a len rows) (hc : len ≤ cap) :
    Calls Try.prog 22 #[.slice a len cap] w (ValPost w (.int .i64 (triedRes rows))) := by
  have HL := Lib.hid h.lenEq
  have hs := h.small
  cases hf : triedFine rows
  · rw [triedRes_no hf]
    have HG := Lib.hid (leastAll_no a len cap rows w h hc hf)
    clear hf
    go_enter Try.func22, Try.ntmps22
    go_wp2_with fail
    refine HG.out.mono ?_
    rintro e w' ⟨rfl, hb⟩
    go_wp2_with fail
    go_ret
    exact ⟨rfl, hb⟩
  · rw [triedRes_yes hf]
    obtain ⟨hp, hl5⟩ : pairsM rows = true ∧ len ≤ 5 := by
      have := hf
      simp only [triedFine, Bool.and_eq_true, decide_eq_true_eq] at this
      exact ⟨this.1, by have := HL.out; omega⟩
    have hG := leastSpan_gen a len cap rows 73 100 101 (.int .i64 len) 73 (fun k => natI ((ordL len).getD k [])) (ordL len).length (AllE len) w h hp
      (fun _ _ => by kernel_rfl) (enters_of Try.func100 (by kernel_rfl) rfl) (enters_of Try.func101 (by kernel_rfl) rfl)
      (fun w' hb => (fitAll_any _ a len cap rows w' (h.below hb) hc).mono (by rintro e w2 ⟨rfl, hd⟩; rw [hf]; exact ⟨rfl, hd⟩))
      (fun w' => eachAll_any 8 len w')
      (fun w' hsz _ hcell => all_seq len _ hl5 w' (by omega) hcell)
      (fun m k x A B he hk => he.kept hk)
      (fun m k x W he hb => by
        obtain ⟨b, h1, h2, rfl, h4, h5⟩ := he
        exact ⟨fun _ => True, h5.ints (all_len hl5 h4) (by omega) trivial, by dsimp only; omega, natI_mem ((ord_is hl5).len _ (by rw [List.getD_eq_getElem?_getD, List.getElem?_eq_getElem h4]; exact List.getElem_mem h4)).2.1⟩)
    have hv : lstT (fun k => spanT (ta rows) (tb rows) (nO (natI ((ordL len).getD k [])))) (ordL len).length = fromT (ta rows) (tb rows) rows.length rows.length [] := by
      simp only [nO_natI]
      rw [HL.out]
      exact ord_tried (fun x => (t_bd hp x).1.1) (fun x => (t_bd hp x).2.1) hl5
    rw [hv] at hG
    generalize fromT (ta rows) (tb rows) rows.length rows.length [] = v at hG ⊢
    have HG := Lib.hid hG
    clear hv hG hf
    go_enter Try.func22, Try.ntmps22
    go_wp2_with fail
    refine HG.out.mono ?_
    rintro e w' ⟨rfl, hb⟩
    go_wp2_with fail
    go_ret
    exact ⟨rfl, hb⟩
end Go.Proofs.Ytkebdelfklmigae
