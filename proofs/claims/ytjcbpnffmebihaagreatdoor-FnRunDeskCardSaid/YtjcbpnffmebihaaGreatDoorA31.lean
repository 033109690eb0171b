import Derived.Test.YtjcbpnffmebihaaGreatDoorA28
import Derived.Test.YtjcbpnffmebihaaGreatDoorA29
import Derived.Test.YtjcbpnffmebihaaGreatDoorA30
import Derived.Test.YtjcbpnffmebihaaGreatDoorRows
import Derived.WalkKit
import Derived.RangeFuncNested
import Derived.RangeFuncBound
import Derived.RangeFuncCalls
import Derived.RangeFuncLeaves
import Derived.Shelf.Abstract
import Derived.Shelf.RegionOpen
import Derived.OwnWalkIn
import Derived.TacticsInMore
import Derived.LoopNIn
import Derived.LoopIn
import Derived.LoopTactic
import Derived.Outline
import Derived.WalkSpells
import Derived.WalkLawsBesides
import Derived.ProofKit
import Derived.Lib.Hide
import Derived.IntWalk
set_option linter.unusedVariables false
set_option linter.unusedSimpArgs false
namespace Go.Proofs.YtjcbpnffmebihaaGreatDoor

/-! The desk, plain: what a line is answered by. -/
def kTwo : ByteArray := ⟨#[116, 119, 111]⟩
def kKept : ByteArray := ⟨#[107, 101, 112, 116]⟩
def kLots : ByteArray := ⟨#[108, 111, 116, 115]⟩
def kRolls : ByteArray := ⟨#[114, 111, 108, 108, 115]⟩
def kStock : ByteArray := ⟨#[115, 116, 111, 99, 107]⟩
def kLong : ByteArray := ⟨#[108, 111, 110, 103]⟩
def sWhat : ByteArray := ⟨#[119, 104, 97, 116]⟩
def sWrong : ByteArray := ⟨#[119, 114, 111, 110, 103]⟩
def twoB (rows : List (List Int)) : ByteArray := listB (ruleI rows rows.length) ++ sgnB 32 ++ numB (spanT (ta rows) (tb rows) (nO (ruleI rows rows.length)))
def keptB (rows : List (List Int)) : ByteArray := listB (nI (keptM rows rows.length rows.length))
def lotsB (xs : List Int) (a b : Int) : ByteArray := listB (bestLotsM xs a b) ++ sgnB 32 ++ numB (bst xs a b 0)
def rollsB (xs : List Int) (R : Int) : ByteArray := numB (rollsRes xs R) ++ sgnB 32 ++ listB (rollRes xs R kLong)
def stockB (xs : List Int) (o u : Int) : ByteArray := numB (shareRes xs o u)
/-- the answer to words, the last of them read as rows -/
def wordsB (ws : List ByteArray) (rows : List (List Int)) : ByteArray :=
  if ws.getD 0 ByteArray.empty = kTwo then (if ws.length = 2 ∧ pairsM rows = true then twoB rows else sWrong)
  else if ws.getD 0 ByteArray.empty = kKept then (if ws.length = 2 ∧ jobsM rows = true then keptB rows else sWrong)
  else if ws.getD 0 ByteArray.empty = kLots then
    (if ws.length = 4 ∧ validLotsM (rows.getD 0 []) (readB (ws.getD 1 ByteArray.empty)) (readB (ws.getD 2 ByteArray.empty)) = true ∧ rows.length = 1 then lotsB (rows.getD 0 []) (readB (ws.getD 1 ByteArray.empty)) (readB (ws.getD 2 ByteArray.empty)) else sWrong)
  else if ws.getD 0 ByteArray.empty = kRolls then
    (if ws.length = 3 ∧ rows.length = 1 ∧ cutsM (rows.getD 0 []) (readB (ws.getD 1 ByteArray.empty)) = true then rollsB (rows.getD 0 []) (readB (ws.getD 1 ByteArray.empty)) else sWrong)
  else if ws.getD 0 ByteArray.empty = kStock then
    (if ws.length = 4 ∧ rows.length = 1 ∧ okO (rows.getD 0 []) (readB (ws.getD 1 ByteArray.empty)) (readB (ws.getD 2 ByteArray.empty)) = true then stockB (rows.getD 0 []) (readB (ws.getD 1 ByteArray.empty)) (readB (ws.getD 2 ByteArray.empty)) else sWrong)
  else sWhat
/-- the answer to a line -/
def ansB (line : ByteArray) : ByteArray := wordsB (splitB line 32) (rowsB ((splitB line 32).getD ((splitB line 32).length - 1) ByteArray.empty))
/-- the answers, each with a newline behind it -/
def deskB : List ByteArray → ByteArray
  | [] => ByteArray.empty
  | l :: ls => ansB l ++ sgnB 10 ++ deskB ls
/-- the desk -/
def deskRes (ls : List ByteArray) : ByteArray := if ls.length ≤ 20 then deskB ls else ByteArray.empty
theorem deskB_app : ∀ a b : List ByteArray, deskB (a ++ b) = deskB a ++ deskB b
  | [], b => by rw [List.nil_append, deskB, ByteArray.empty_append]
  | x :: xs, b => by rw [List.cons_append, deskB, deskB, deskB_app xs b]; simp only [ByteArray.append_assoc]
theorem deskB_snoc (ls : List ByteArray) (l : ByteArray) : deskB (ls ++ [l]) = deskB ls ++ ansB l ++ sgnB 10 := by
  rw [deskB_app, deskB, deskB, ByteArray.append_empty]; simp only [ByteArray.append_assoc]
theorem deskB_size {C : Nat} (h : ∀ l, (ansB l).size ≤ C) : ∀ ls : List ByteArray, (deskB ls).size ≤ ls.length * (C + 1)
  | [] => by rw [deskB]; exact Nat.zero_le _
  | l :: ls => by
    have a := deskB_size h ls
    have b := h l
    rw [deskB, ByteArray.size_append, ByteArray.size_append, sgnB_size, List.length_cons, Nat.succ_mul]
    omega
/-- how many newlines a text has -/
def nlB (s : ByteArray) : Nat := (s.data.toList.filter (fun c => c = 10)).length
theorem nlB_app (a b : ByteArray) : nlB (a ++ b) = nlB a + nlB b := by
  unfold nlB
  rw [ByteArray.data_append, Array.toList_append, List.filter_append, List.length_append]
theorem nlB_desk (h : ∀ l, nlB (ansB l) = 0) : ∀ ls : List ByteArray, nlB (deskB ls) = ls.length
  | [] => rfl
  | l :: ls => by
    rw [deskB, nlB_app, nlB_app, nlB_desk h ls, h l, List.length_cons]
    show 0 + 1 + _ = _
    omega
theorem nlB_dig {n : Nat} (h : n < 10) : nlB (digB n) = 0 := by
  have : ∀ k : Fin 10, nlB (digB k.1) = 0 := by decide
  exact this ⟨n, h⟩
theorem nlB_nat (n : Nat) : nlB (natB n) = 0 := by
  induction n using Nat.strongRecOn with
  | ind n ih =>
    by_cases h : n < 10
    · rw [natB_lt h]; exact nlB_dig h
    · rw [natB_ge h, nlB_app, ih (n / 10) (by omega), ih (n % 10) (by omega)]
theorem nlB_num (n : Int) : nlB (numB n) = 0 := by
  unfold numB
  split
  · rw [nlB_app, nlB_nat]; rfl
  · exact nlB_nat _
theorem nlB_tail : ∀ xs : List Int, nlB (tailB xs) = 0
  | [] => rfl
  | x :: xs => by rw [tailB, nlB_app, nlB_app, nlB_num, nlB_tail xs]; rfl
theorem nlB_list (xs : List Int) : nlB (listB xs) = 0 := by
  cases xs with
  | nil => rfl
  | cons x xs => rw [listB, nlB_app, nlB_num, nlB_tail]
theorem nlB_words (ws : List ByteArray) (rows : List (List Int)) : nlB (wordsB ws rows) = 0 := by
  have s1 : nlB (sgnB 32) = 0 := rfl
  have s2 : nlB sWrong = 0 := rfl
  have s3 : nlB sWhat = 0 := rfl
  unfold wordsB
  repeat' split
  all_goals first | exact s2 | exact s3 | (unfold twoB; rw [nlB_app, nlB_app, nlB_list, nlB_num, s1]) | (unfold keptB; exact nlB_list _) | (unfold lotsB; rw [nlB_app, nlB_app, nlB_list, nlB_num, s1]) | (unfold rollsB; rw [nlB_app, nlB_app, nlB_list, nlB_num, s1]) | (unfold stockB; exact nlB_num _)
theorem nlB_ans (l : ByteArray) : nlB (ansB l) = 0 := nlB_words _ _
end Go.Proofs.YtjcbpnffmebihaaGreatDoor
namespace Go.Proofs.YtjcbpnffmebihaaGreatDoor
open Go.RowKit Go.WideShapes

theorem used_le {T : Nat → Int} {R : Int} {n : Nat} {l : List Nat} (hT : ∀ i, i < n → 1 ≤ T i ∧ T i ≤ R) (h : l.Perm (List.range n)) : rollU T R l n ≤ n := (fit_hi hT h (Nat.le_refl n)).1
section
variable {k1 k2 : ByteArray}
variable {xs : List Int} {R : Int} {kind : ByteArray}
theorem roll_yes (hv : cutsM xs R = true) (hk : (isLong kind || isFirst kind) = true) : rollRes xs R kind = tab (fun i => (rollP (lenT xs) R (cutOrd xs kind) xs.length i : Int)) xs.length := by
  unfold rollRes; rw [hv, hk]; rfl
end
end Go.Proofs.YtjcbpnffmebihaaGreatDoor
namespace Go.Proofs.YtjcbpnffmebihaaGreatDoor
open Go.RowKit Go.WideShapes

attribute [local go_sem] Oper.semAt_some

/-- what holds behind k rounds -/
structure LeastI (w : World) (n : Nat) (a : Option Addr) (len cap : Nat) (sp : Nat → Int) (k : Nat) (W : World) : Prop where
  below : Below w.heap.size w W
  jobs : W.cell? ⟨n, 0, none⟩ = some (.slice a len cap)
  least : W.cell? ⟨n + 1, 0, none⟩ = some (.int .i64 (lstT sp k))
  free : W.frozen? ⟨n + 1, 0, none⟩ = false
theorem LeastI.later {w : World} {n : Nat} {a : Option Addr} {len cap : Nat} {sp : Nat → Int} {k m : Nat} {A B : World} (h : LeastI w n a len cap sp k A) (hb : Below m A B) (hm : n + 2 ≤ m) (hw : w.heap.size ≤ n) : LeastI w n a len cap sp k B :=
  ⟨h.below.trans (hb.mono (by omega)), (hb.cell (p := ⟨n, 0, none⟩) (by show n < m; omega)).trans h.jobs, (hb.cell (p := ⟨n + 1, 0, none⟩) (by show n + 1 < m; omega)).trans h.least, by
    rw [World.frozen?_of_block (w := A) (hb.block (n + 1) (by omega))]; exact h.free⟩
def encS (x : Option Addr × Nat × Nat) : Value := .slice x.1 x.2.1 x.2.2
set_option maxRecDepth 100000 in
set_option maxHeartbeats 4000000 in
theorem leastSpan_gen (a : Option Addr) (len cap : Nat) (rows : List (List Int)) (T f1 gf : Nat) (v : Value) (t1 : TypeId) (os : Nat → List Int) (m : Nat) (E : Nat → Nat → Option Addr × Nat × Nat → World → Prop) (w : World) (h : RowsAt w (· < w.heap.size) a len rows) (hp : pairsM rows = true)
    (hmeth : ∀ (k : Nat) (w : World), (method (k + 1) T v "loop.example/shopsthatmake/impl.each").run Tryz.prog w = .ok (f1, v) w)
    (hent : ∀ (args : Array Value) (w : World), (callFunc f1 args).run Tryz.prog w = .ok (.enter f1 args) w) (hentg : ∀ (args : Array Value) (w : World), (callFunc gf args).run Tryz.prog w = .ok (.enter gf args) w)
    (hfit : ∀ w', Below w.heap.size w w' → Calls Tryz.prog 146 #[.slice a len cap, .iface T v] w' fun e w2 => e = .returned (.bool true) ∧ Drew w' w2)
    (heach : ∀ w', CallsIn Fence.wide 8 Tryz.prog f1 #[v] w' fun e w2 => e = .returned (.func (.func gf) #[] #[.pointer (some ⟨w'.heap.size, 0, none⟩)]) ∧ w'.alloc (.cells #[v] t1) = w2)
    (hseq : ∀ w' : World, w'.heap.size = w.heap.size + 3 → Below w.heap.size w w' → w'.cell? ⟨w.heap.size + 2, 0, none⟩ = some v → SeqCount Fence.wide 8 Tryz.prog gf #[.pointer (some ⟨w.heap.size + 2, 0, none⟩)] encS (· = m) E w')
    (hE1 : ∀ m k x A B, E m k x A → KeepsUp m A B → E m k x B)
    (hE2 : ∀ m k x W, E m k x W → Below w.heap.size w W → ∃ S, IntsAt W S x.1 x.2.1 (os k) ∧ x.2.1 ≤ 8 ∧ ∀ x ∈ os k, 0 ≤ x ∧ x < (len : Int)) :
    Calls Tryz.prog 112 #[.slice a len cap, .iface T v] w (ValPost w (.int .i64 (lstT (fun k => spanT (ta rows) (tb rows) (nO (os k))) m))) := by
  refine (callsIn_wide (n := 9)).1 ?_
  refine callsIn_of_wp_marks Tryz.func112 rfl trivial ?_ rfl
  simp only [Tryz.ntmps112, List.size_toArray, List.length_cons, List.length_nil, Nat.reduceAdd, Nat.reduceSub, Array.replicate_succ, Array.replicate_zero, List.push_toArray, List.append_toArray, List.nil_append, List.cons_append]
  gi_wp2_with fail
  refine ⟨trivial, (callsIn_wide.2 (hfit _ ((Below.refl _ w).alloc (Nat.le_refl _) _))).mono ?_⟩
  rintro e w2 ⟨rfl, hdw⟩
  obtain ⟨z, rfl⟩ := hdw
  gi_wp2_with fail
  refine ⟨trivial, ?_⟩
  gi_wp2_with fail
  refine (heach _).mono ?_
  rintro e w3 ⟨rfl, rfl⟩
  gi_wp2_with fail
  obtain ⟨W0, hW0⟩ : ∃ W0, ((((w.alloc (Obj.cells #[Value.slice a len cap] 37)).drewN z).alloc (Obj.cells #[Value.int IntKind.i64 (-1)] 3)).alloc (Obj.cells #[v] t1)) = W0 := ⟨_, rfl⟩
  have hsz : W0.heap.size = w.heap.size + 3 := by rw [← hW0]; simp
  have hbl : Below w.heap.size w W0 := by
    rw [← hW0]
    exact ((((Below.refl w.heap.size w).alloc (Nat.le_refl _) _).trans (Drew.below ⟨z, rfl⟩ _)).alloc (by simp) _).alloc (by simp <;> omega) _
  have hI0 : LeastI w w.heap.size a len cap (fun k => spanT (ta rows) (tb rows) (nO (os k))) 0 W0 := by
    refine ⟨hbl, ?_, ?_, ?_⟩
    all_goals rw [← hW0]
    · have z1 := cell_new_l w (.slice a len cap) 37
      exact cell_alloc_l _ (cell_alloc_l _ z1.1)
    · have z2 := cell_new_l ((w.alloc (Obj.cells #[Value.slice a len cap] 37)).drewN z) (.int .i64 (-1)) 3
      simp only [World.heap_drewN, World.size_alloc] at z2
      exact cell_alloc_l _ z2.1
    · have z2 := cell_new_l ((w.alloc (Obj.cells #[Value.slice a len cap] 37)).drewN z) (.int .i64 (-1)) 3
      simp only [World.heap_drewN, World.size_alloc] at z2
      exact frozen_alloc_l _ z2.1 z2.2
  have hv0 : W0.cell? ⟨w.heap.size + 2, 0, none⟩ = some v := by
    rw [← hW0]
    have z3 := cell_new_l (((w.alloc (Obj.cells #[Value.slice a len cap] 37)).drewN z).alloc (Obj.cells #[Value.int IntKind.i64 (-1)] 3)) v t1
    simp only [World.heap_drewN, World.size_alloc] at z3
    exact z3.1
  rw [hW0]
  clear hW0
  simp only [Nat.add_assoc, Nat.reduceAdd]
  have HBD := Lib.hid (show ∀ k, 0 ≤ spanT (ta rows) (tb rows) (nO (os k)) from fun k => span_nn (fun x => (t_bd hp x).1.1) (fun x => (t_bd hp x).2.1) _)
  refine wpIn_rangeFunc_count rfl (by omega) (gf := gf) (lb := #[.pointer (some ⟨w.heap.size + 2, 0, none⟩)]) rfl trivial hentg (hseq W0 hsz hbl hv0) rfl hE1
    (LeastI w w.heap.size a len cap (fun k => spanT (ta rows) (tb rows) (nO (os k)))) (fun k A B hi hb => hi.later hb (by omega) (Nat.le_refl _)) hI0
    (fun x => { tmps := #[.slice a len cap, .iface T v, .pointer (some ⟨w.heap.size, 0, none⟩), undef, .int .i64 0, .pointer (some ⟨w.heap.size + 1, 0, none⟩), .slice x.1 x.2.1 x.2.2, undef,
      .slice a len cap, .iface T v, .bool true, .bool false, .iface T v, .func (.func gf) #[] #[.pointer (some ⟨w.heap.size + 2, 0, none⟩)], .slice x.1 x.2.1 x.2.2, undef, undef, undef, undef, undef, undef, undef, undef, undef, undef, undef, undef], defers := [] })
    ?assign ?body ?done
  case assign =>
    rintro l ⟨a3, l3, c3⟩ W K hK
    dsimp only [encS] at hK ⊢
    gi_wp2
    exact hK
  case body =>
    rintro l k ⟨a3, l3, c3⟩ W hI hE hWs
    obtain ⟨S, hx, hl3, hxo⟩ := hE2 _ _ _ _ hE hI.below
    dsimp only at hx hl3 ⊢
    have HX := Lib.hid hx
    have z1 := hI.jobs
    have z2 := hI.least
    have z3 := hI.free
    have HI := Lib.hid hI
    have HN := Lib.hid (show lstT (fun k => spanT (ta rows) (tb rows) (nO (os k))) (k + 1) = if lstT (fun k => spanT (ta rows) (tb rows) (nO (os k))) k < 0 ∨ spanT (ta rows) (tb rows) (nO (os k)) < lstT (fun k => spanT (ta rows) (tb rows) (nO (os k))) k then spanT (ta rows) (tb rows) (nO (os k)) else lstT (fun k => spanT (ta rows) (tb rows) (nO (os k))) k from rfl)
    have HSP := Lib.hid (spanIn_any _ _ a len cap rows a3 l3 c3 (os k) W (h.below hI.below) hx hp hxo hl3)
    have hlt1 : w.heap.size + 1 < W.heap.size := by omega
    clear hx hE hI
    obtain ⟨sp, hsp⟩ : ∃ sp, spanT (ta rows) (tb rows) (nO (os k)) = sp := ⟨_, rfl⟩
    rw [hsp] at HN HSP
    obtain ⟨ls, hls⟩ : ∃ ls, lstT (fun k => spanT (ta rows) (tb rows) (nO (os k))) k = ls := ⟨_, rfl⟩
    rw [hls] at HN z2
    have hput : ∀ v : Int, lstT (fun k => spanT (ta rows) (tb rows) (nO (os k))) (k + 1) = v → LeastI w w.heap.size a len cap (fun k => spanT (ta rows) (tb rows) (nO (os k))) (k + 1) (W.setCell ⟨w.heap.size + 1, 0, none⟩ (.int .i64 v)) := fun v hv =>
      ⟨HI.out.below.setCell (by show w.heap.size ≤ w.heap.size + 1; omega) _, by rw [World.cell?_setCell_other _ _ _ _ (by intro e'; injection e'; omega)]; exact HI.out.jobs, by rw [hv]; exact World.cell?_setCell_same _ _ _ HI.out.least,
       by rw [World.frozen?_setCell]; exact HI.out.free⟩
    have hkeep : ls = lstT (fun k => spanT (ta rows) (tb rows) (nO (os k))) (k + 1) → LeastI w w.heap.size a len cap (fun k => spanT (ta rows) (tb rows) (nO (os k))) (k + 1) W := fun e =>
      ⟨HI.out.below, HI.out.jobs, by rw [← e, ← hls]; exact HI.out.least, HI.out.free⟩
    have HPUT := Lib.hid hput
    have HKEEP := Lib.hid hkeep
    clear hput hkeep hls hsp
    by_cases hc : ls < 0 ∨ sp < ls
    · have HV := Lib.hid (HN.out.trans (if_pos hc))
      by_cases hn : ls < 0
      · clear hc
        gi_wp2_with (refine ⟨trivial, ?_⟩; gi_at_call 147; refine (CallsIn.inRound l (callsIn_wide.2 HSP.out)).mono ?_; rintro e w' ⟨rfl, rfl⟩)
        exact ⟨KeepsUp.setCell _ _ (by show w.heap.size + 1 < _; omega) _, HPUT.out _ HV.out⟩
      · have hs : sp < ls := by omega
        clear hc
        gi_wp2_with (refine ⟨trivial, ?_⟩; gi_at_call 147; refine (CallsIn.inRound l (callsIn_wide.2 HSP.out)).mono ?_; rintro e w' ⟨rfl, rfl⟩)
        exact ⟨KeepsUp.setCell _ _ (by show w.heap.size + 1 < _; omega) _, HPUT.out _ HV.out⟩
    · have HV := Lib.hid (HN.out.trans (if_neg hc))
      have hn : ¬ ls < 0 := fun h => hc (.inl h)
      have hs : ¬ sp < ls := fun h => hc (.inr h)
      clear hc
      gi_wp2_with (refine ⟨trivial, ?_⟩; gi_at_call 147; refine (CallsIn.inRound l (callsIn_wide.2 HSP.out)).mono ?_; rintro e w' ⟨rfl, rfl⟩)
      exact ⟨KeepsUp.refl _ _, HKEEP.out HV.out.symm⟩
  case done =>
    rintro D k W hD rfl hI hK
    have c2 := hI.least
    have HI := Lib.hid hI
    clear hI
    gi_wp2
    exact leaves_marks (fun _ => results_tmp rfl _ _ _) [D] W ⟨⟨hK, hD, fun x hx => by cases hx⟩, trivial⟩ (fun w' hw' => ⟨rfl, HI.out.below.trans (hw'.below.mono (by omega))⟩)
-- a given order
set_option maxRecDepth 100000 in
theorem eachOne_any (n : Nat) (a2 : Option Addr) (len2 cap2 : Nat) (w : World) :
    CallsIn Fence.wide n Tryz.prog 232 #[.slice a2 len2 cap2] w fun e w' => e = .returned (.func (.func 233) #[] #[.pointer (some ⟨w.heap.size, 0, none⟩)]) ∧ w.alloc (.cells #[.slice a2 len2 cap2] 137) = w' := by
  refine callsIn_of_wp Tryz.func232 rfl trivial ?_ rfl
  simp only [Tryz.ntmps232, List.size_toArray, List.length_cons, List.length_nil, Nat.reduceAdd, Nat.reduceSub, Array.replicate_succ, Array.replicate_zero, List.push_toArray, List.append_toArray, List.nil_append, List.cons_append]
  gi_wp2
  go_ret
  exact ⟨rfl, rfl⟩
/-- the one order that comes -/
def OneE (a2 : Option Addr) (len2 cap2 : Nat) (T : Nat → Prop) (o : List Int) (_ k : Nat) (x : Option Addr × Nat × Nat) (W : World) : Prop := k = 0 ∧ x = (a2, len2, cap2)
theorem one_seq (a2 : Option Addr) (len2 cap2 Bs : Nat) (T : Nat → Prop) (o : List Int) (w : World) (hBs : Bs < w.heap.size) (hc : w.cell? ⟨Bs, 0, none⟩ = some (.slice a2 len2 cap2)) :
    SeqCount Fence.wide 8 Tryz.prog 233 #[.pointer (some ⟨Bs, 0, none⟩)] encS (· = 1) (OneE a2 len2 cap2 T o) w := by
  intro l J W1 hW hsz hJ hY h0
  have hc1 := (hW.cell (p := ⟨Bs, 0, none⟩) hBs).trans hc
  obtain ⟨fn, tmps, assign, body, hy, hR⟩ := hY 0 (a2, len2, cap2) W1 h0 ⟨rfl, rfl⟩
  dsimp only [encS] at hy
  refine callsIn_of_wp Tryz.func233 rfl trivial ?_ rfl
  simp only [Tryz.ntmps233, List.size_toArray, List.length_cons, List.length_nil, Nat.reduceAdd, Nat.reduceSub, Array.replicate_succ, Array.replicate_zero, List.push_toArray, List.append_toArray, List.nil_append, List.cons_append]
  gi_wp2
  refine hR.mono ?_
  rintro e W3 ⟨rfl, hJ3, hk3⟩
  gi_wp2
  go_end0
  exact ⟨⟨_, rfl⟩, 1, rfl, hJ3⟩
end Go.Proofs.YtjcbpnffmebihaaGreatDoor
namespace Go.Proofs.YtjcbpnffmebihaaGreatDoor
open Go.RowKit Go.WideShapes

theorem made_tabP (z : Value) (n : Nat) : madeCells #[z] n = tabV (fun _ => z) n := by
  apply Array.ext_getElem?
  intro i
  by_cases hi : i < n
  · rw [tabV_get _ hi]; simp [madeCells, hi, Nat.mod_one]
  · rw [Array.getElem?_eq_none (by rw [size_madeCells]; omega), Array.getElem?_eq_none (by simp [tabV]; omega)]
/-- a list of the call's own, being filled -/
structure Fill (w wr : World) (T : TypeId) (n : Nat) (xs : List Int) (k : Nat) : Prop where
  below : Below w.heap.size w wr
  row : wr.heap[w.heap.size]? = some (.cells (tabV (fun v => .int .i64 (if v < k then xs.getD v 0 else 0)) n) T (0, 0))
theorem Fill.step {w wr : World} {T : TypeId} {n k : Nat} {xs : List Int} {x : Int} (h : Fill w wr T n xs k) (hx : xs[k]? = some x) : Fill w (wr.setCell ⟨w.heap.size, k, none⟩ (.int .i64 x)) T n xs (k + 1) := by
  refine ⟨h.below.setCell (p := ⟨w.heap.size, k, none⟩) (Nat.le_refl _) _, ?_⟩
  rw [heap_set h.row, tabV_set]
  congr 3
  funext v
  unfold setN
  by_cases e : v = k
  · subst e; rw [if_pos rfl, if_pos (by omega), getD_of hx]
  · rw [if_neg e]
    show Value.int .i64 (if v < k then xs.getD v 0 else 0) = .int .i64 (if v < k + 1 then xs.getD v 0 else 0)
    by_cases g : v < k
    · rw [if_pos g, if_pos (by omega)]
    · rw [if_neg g, if_neg (by omega)]
theorem Fill.ints {w wr w' : World} {T : TypeId} {n : Nat} {xs : List Int} (h : Fill w wr T n xs n) (hl : xs.length = n) (hs : n ≤ 9223372036854775807) (hb : w'.heap[w.heap.size]? = wr.heap[w.heap.size]?) : IntsAt w' (fun b => b = w.heap.size) (some ⟨w.heap.size, 0, none⟩) n xs :=
  ⟨hl, hs, fun _ => ⟨_, 0, rfl, rfl, fun i x hx => by
    have hi : i < n := by rw [← hl]; exact (List.getElem?_eq_some_iff.1 hx).1
    rw [Nat.zero_add, cell_of_row _ _ _ _ _ _ (hb.trans h.row), tabV_get _ hi, if_pos hi, getD_of hx]⟩⟩
set_option maxRecDepth 100000 in
set_option maxHeartbeats 4000000 in
theorem fewestRolls_impl (a : Option Addr) (len cap : Nat) (xs : List Int) (R : Int) (w : World) (h : IntsAt w (· < w.heap.size) a len xs) :
    Calls Tryz.prog 95 #[.slice a len cap, .int .i64 R] w fun e w' => e = .returned (.int .i64 (rollsRes xs R)) ∧ Below w.heap.size w w' := by
  have HL := Lib.hid h.lenEq
  cases hv : cutsM xs R
  · have HR := Lib.hid (show rollsRes xs R = -1 by unfold rollsRes; rw [hv]; rfl)
    go_enter Tryz.func95, Tryz.ntmps95
    go_wp2_with (go_at_call 94; refine (vcutsI hv _ h).mono ?_; rintro e w' ⟨rfl, rfl⟩)
    go_ret
    exact ⟨ret_int HR.out.symm, Below.refl _ _⟩
  · obtain ⟨hR1, hR2, hl7, hT⟩ := cuts_get hv
    have HR := Lib.hid (show rollsRes xs R = goL R xs [] by unfold rollsRes; rw [hv, go_few hv]; rfl)
    rw [HL.out] at hl7
    have HXS := Lib.hid (show ∀ y ∈ xs, 0 ≤ y ∧ y ≤ 20 from fun y hy => by
      obtain ⟨i, hi⟩ := List.mem_iff_getElem?.1 hy
      have := hT i (List.getElem?_eq_some_iff.1 hi).1
      unfold lenT at this
      rw [getD_of hi] at this
      omega)
    have hmk := fun w => run_make_row' (P := Tryz.prog) 150 151 (.int .i64 0) 8 Tryz.underlying150 Tryz.infoPC rfl .i64 .i64 len (by omega) (by omega) w
    have HH := Lib.hid h
    have HV := Lib.hid hv
    clear hT h
    go_enter Tryz.func95, Tryz.ntmps95
    go_wp2_with (first | (go_at_call 94; refine (vcutsI HV.out _ HH.out).mono ?_; rintro e w' ⟨rfl, rfl⟩) | fail)
    clear hv hmk
    go_loopw [18] (fun i wr => ∃ k : Nat, k ≤ len ∧ i = .int .i64 k ∧ Fill w' wr 151 len xs k) (fun i _ => len - (intOf i).toNat)
    case atStart => exact ⟨0, Nat.zero_le _, rfl, (Below.refl _ _).alloc (Nat.le_refl _) _, by rw [heap_alloc_new, made_tabP]; rfl⟩
    case round =>
      obtain ⟨k, hk, rfl, hf⟩ := hrel
      have HF := Lib.hid hf
      by_cases hlt : k < len
      · have hkI : (k : Int) < (len : Int) := by omega
        obtain ⟨b, off, x, rfl, hx, hc⟩ := (HH.out.below hf.below).get hlt
        have HX := Lib.hid hx
        have hfz := frozen_row hf.row k
        have hcc : wr.cell? ⟨w'.heap.size, k, none⟩ = some (.int .i64 0) := by rw [cell_of_row _ _ _ _ _ _ hf.row, tabV_get _ hlt, if_neg (by omega)]
        clear hf hx
        go_wp2_with fail
        go_roundw
        case rel => exact ⟨k + 1, by omega, by go_num, HF.out.step HX.out⟩
        case measure => simp [intOf]; omega
      · obtain rfl : k = len := by omega
        have hkI : ¬ (k : Int) < (k : Int) := by omega
        have HROLL := Lib.hid (show RollsP (wr.alloc (.cells #[.int .i64 R, .slice none 0 0] 154)) wr.heap.size wr.heap.size R (.slice none 0 0) [] [] from
          ⟨heap_alloc_new _ _, World.ownsRow_nil _ _ _ _, fun i u hu => by simp at hu, fun i j u u' hu => by simp at hu⟩)
        have hlt := lt_heap hf.row
        have HX := Lib.hid ((hf.ints (w' := wr.alloc (.cells #[.int .i64 R, .slice none 0 0] 154)) HL.out (by omega) (Below.heap_alloc _ _ _ hlt)).to (S' := (· < wr.heap.size)) (fun b hb => ⟨by rw [hb]; exact hlt, rfl⟩))
        clear hf
        go_wp2_with fail
        refine (fewestP_any (B := wr.heap.size) (r := wr.heap.size) (R := R) (Nat.le_refl _) ⟨by omega, hR2⟩ xs _ _ _ [] 0 w'.heap.size 0 k k HROLL.out (by simp) RowsOk.nil (by rw [HL.out]; omega) (fun k hk => by simp at hk) HX.out (Nat.le_refl _) HXS.out).mono ?_
        rintro e w3 ⟨rfl, v3, vs3, _, hb3⟩
        have HB3 := Lib.hid ((HF.out.below.alloc HF.out.below.size (.cells #[.int .i64 R, .slice none 0 0] 154)).trans (hb3.mono HF.out.below.size))
        clear hb3
        go_wp2_with fail
        go_ret
        exact ⟨ret_int (by rw [HR.out]; rfl), HB3.out⟩
end Go.Proofs.YtjcbpnffmebihaaGreatDoor
namespace Go.Proofs.YtjcbpnffmebihaaGreatDoor

/-! What the answers' numbers are at most. -/
def In64 (x : Int) : Prop := -9223372036854775807 ≤ x ∧ x ≤ 9223372036854775807
theorem two_bd {rows : List (List Int)} (hp : pairsM rows = true) : rows.length ≤ 8 ∧ (∀ x ∈ ruleI rows rows.length, 0 ≤ x ∧ x < (rows.length : Int)) ∧ 0 ≤ spanT (ta rows) (tb rows) (nO (ruleI rows rows.length)) ∧ spanT (ta rows) (tb rows) (nO (ruleI rows rows.length)) ≤ 144 := by
  have h8 := (pairs_get hp).1
  have hb := (run_bd hp (nO (ruleI rows rows.length))).2
  have hl : ((nO (ruleI rows rows.length)).length : Int) ≤ 8 := by unfold nO; rw [List.length_map, ruleI_len]; omega
  refine ⟨h8, fun x hx => ?_, hb.1, by have := hb.2; unfold spanT; omega⟩
  obtain ⟨k, hk⟩ := List.mem_iff_getElem?.1 hx
  obtain ⟨y, rfl, hy, _⟩ := ruleI_get hk
  omega
theorem twoB_size {rows : List (List Int)} (hp : pairsM rows = true) : (twoB rows).size ≤ 400 := by
  obtain ⟨h8, h1, h2, h3⟩ := two_bd hp
  have a := listB_size (xs := ruleI rows rows.length) fun x hx => by have := h1 x hx; omega
  have b := numB_size (n := spanT (ta rows) (tb rows) (nO (ruleI rows rows.length))) (by omega) (by omega)
  rw [ruleI_len] at a
  rw [twoB, ByteArray.size_append, ByteArray.size_append, sgnB_size]
  omega
theorem kept_bd {rows : List (List Int)} (hp : jobsM rows = true) (h8 : rows.length ≤ 8) : ∀ x ∈ nI (keptM rows rows.length rows.length), 0 ≤ x ∧ x < 8 := by
  intro x hx
  obtain ⟨y, hy, rfl⟩ := List.mem_map.1 hx
  have := kept_mem hp hy
  omega
theorem keptB_size {rows : List (List Int)} (hp : jobsM rows = true) (h8 : rows.length ≤ 8) : (keptB rows).size ≤ 400 := by
  have a := listB_size (xs := nI (keptM rows rows.length rows.length)) fun x hx => by have := kept_bd hp h8 x hx; omega
  have b : (nI (keptM rows rows.length rows.length)).length ≤ rows.length := by unfold nI; rw [List.length_map]; exact kept_len hp
  unfold keptB
  omega
theorem stockB_size {xs : List Int} {o u : Int} (h : okO xs o u = true) (hs : shareN xs o u < 1000000) : (stockB xs o u).size ≤ 400 := by
  have b := numB_size (n := shareRes xs o u) (by unfold shareRes; rw [h]; simp only [if_true]; omega) (by unfold shareRes; rw [h]; simp only [if_true]; omega)
  unfold stockB
  omega
end Go.Proofs.YtjcbpnffmebihaaGreatDoor
namespace Go.Proofs.YtjcbpnffmebihaaGreatDoor
open Go.RowKit Go.WideShapes

set_option maxRecDepth 100000 in
set_option maxHeartbeats 2000000 in
/-- the model's desk, out of its answers -/
theorem runDesk_of (C : Nat) (hC : C ≤ 1000000) (hsz : ∀ l, (ansB l).size ≤ C) (S : Nat → Prop) (a : Option Addr) (len cap : Nat) (ls : List ByteArray) (w : World) (hS : ∀ b, S b → b < w.heap.size) (h : StrsAt w S a len ls) (hl : ∀ l ∈ ls, l.size ≤ 1048575)
    (hans : ∀ (l : ByteArray) (w' : World), l.size ≤ 1048575 → Calls Tryz.prog 26 #[.string l] w' (fun e w2 => e = .returned (.string (ansB l)) ∧ Below w'.heap.size w' w2)) :
    Calls Tryz.prog 7 #[.slice a len cap] w (fun e w' => e = .returned (.string (deskRes ls)) ∧ Below w.heap.size w w') := by
  have HL := Lib.hid h.lenEq
  by_cases h20 : 20 < len
  · have HE := Lib.hid (show deskRes ls = ByteArray.empty from if_neg (by rw [HL.out]; omega))
    have h20i : (20 : Int) < (len : Int) := by omega
    clear h20
    go_enter Tryz.func7, Tryz.ntmps7
    go_wp2
    go_ret
    exact ⟨ret_str HE.out.symm, Below.refl _ _⟩
  · have HE := Lib.hid (show deskRes ls = deskB ls from if_pos (by rw [HL.out]; omega))
    have h20i : ¬ (20 : Int) < (len : Int) := by omega
    have HA := Lib.hid hans
    have HZ := Lib.hid (deskB_size hsz)
    have HS := Lib.hid hS
    have HSZ := Lib.hid hsz
    have HLL := Lib.hid hl
    clear hans hsz hS hl
    go_enter Tryz.func7, Tryz.ntmps7
    go_wp2
    go_loopw [3, 4] (fun o i wr => ∃ k : Nat, k ≤ len ∧ i = .int .i64 k ∧ o = .string (deskB (ls.take k)) ∧ Below w.heap.size w wr) (fun _ i _ => len - (intOf i).toNat)
    case atStart => exact ⟨0, Nat.zero_le _, rfl, rfl, Below.refl _ _⟩
    case round =>
      obtain ⟨k, hk, rfl, rfl, hB⟩ := hrel
      have HB := Lib.hid hB
      by_cases hlt : k < len
      · have hki : (k : Int) < (len : Int) := by omega
        obtain ⟨b, off, l, rfl, hlk, hc⟩ := (h.to (w' := wr) (S' := S) fun b hb => ⟨hb, hB.block b (HS.out b hb)⟩).get hlt
        have hll := HLL.out l (List.mem_of_getElem? hlk)
        have HK := Lib.hid (show deskB (ls.take (k + 1)) = deskB (ls.take k) ++ ansB l ++ sgnB 10 by rw [take_get hlk]; exact deskB_snoc _ _)
        have s1 := HZ.out (ls.take k)
        have s2 := HSZ.out l
        have s3 : (ls.take k).length ≤ 20 := by rw [List.length_take]; omega
        have s4 : (ls.take k).length * (C + 1) ≤ 20 * (C + 1) := Nat.mul_le_mul_right _ s3
        generalize deskB (ls.take k) = L at *
        clear hlk hB
        have HAN := Lib.hid (HA.out l wr hll)
        generalize ansB l = X at *
        have t1 : ¬ 9223372036854775807 < L.size + X.size := by omega
        have t2 : ¬ 9223372036854775807 < (L ++ X).size + (⟨#[10]⟩ : ByteArray).size := by rw [ByteArray.size_append]; show ¬ _ < _ + 1; omega
        clear s1 s2 s3 s4
        go_wp2_with fail
        refine HAN.out.mono ?_
        rintro e w2 ⟨rfl, hb2⟩
        have HB2 := Lib.hid (HB.out.trans (hb2.mono HB.out.size))
        clear hb2
        go_wp2_with fail
        go_roundw
        case rel => exact ⟨k + 1, by omega, by go_num, by rw [HK.out]; rfl, HB2.out⟩
        case measure => simp [intOf] <;> omega
      · obtain rfl : k = len := by omega
        have HT := Lib.hid (show deskRes ls = deskB (ls.take k) by rw [HE.out, List.take_of_length_le (by rw [HL.out]; omega)])
        clear hB
        go_wp2_with fail
        go_ret
        exact ⟨ret_str HT.out.symm, HB.out⟩
end Go.Proofs.YtjcbpnffmebihaaGreatDoor
namespace Go.Proofs.YtjcbpnffmebihaaGreatDoor
open Go.RowKit Go.WideShapes

set_option maxRecDepth 100000 in
theorem leastOne_no (a : Option Addr) (len cap : Nat) (rows : List (List Int)) (a2 : Option Addr) (len2 cap2 : Nat) (o : List Int) (w : World) (h : RowsAt w (· < w.heap.size) a len rows) (g : IntsAt w (· < w.heap.size) a2 len2 o) (hc : len ≤ cap) (hf : spanFine rows o = false) :
    Calls Tryz.prog 112 #[.slice a len cap, .iface 137 (.slice a2 len2 cap2)] w (ValPost w (.int .i64 (-1))) := by
  have hB := (Below.refl w.heap.size w).alloc (Nat.le_refl _) (.cells #[.slice a len cap] 37)
  have HFIT := Lib.hid (fitOne_any _ _ a len cap rows a2 len2 cap2 o _ (h.below hB) (g.below hB) hc)
  rw [hf] at HFIT
  refine (callsIn_wide (n := 9)).1 ?_
  refine callsIn_of_wp Tryz.func112 rfl trivial ?_ rfl
  simp only [Tryz.ntmps112, List.size_toArray, List.length_cons, List.length_nil, Nat.reduceAdd, Nat.reduceSub, Array.replicate_succ, Array.replicate_zero, List.push_toArray, List.append_toArray, List.nil_append, List.cons_append]
  clear hB
  gi_wp2_with fail
  refine ⟨trivial, (callsIn_wide.2 HFIT.out).mono ?_⟩
  rintro e w2 ⟨rfl, hdw⟩
  have HD := Lib.hid (((Below.refl w.heap.size w).alloc (Nat.le_refl _) (.cells #[.slice a len cap] 37)).trans (hdw.below _))
  clear hdw
  gi_wp2_with fail
  go_ret
  exact ⟨rfl, HD.out⟩
theorem spanOf_impl (a : Option Addr) (len cap : Nat) (rows : List (List Int)) (a2 : Option Addr) (len2 cap2 : Nat) (o : List Int) (w : World) (h : RowsAt w (· < w.heap.size) a len rows) (g : IntsAt w (· < w.heap.size) a2 len2 o) (hc : len ≤ cap) (hc2 : len2 ≤ cap2) :
    Calls Tryz.prog 87 #[.slice a len cap, .slice a2 len2 cap2] w (ValPost w (.int .i64 (spanRes rows o))) := by
  have HL := Lib.hid h.lenEq
  cases hf : spanFine rows o
  · rw [spanRes_no hf]
    go_enter Tryz.func87, Tryz.ntmps87
    go_wp2_with fail
    refine (leastOne_no a len cap rows a2 len2 cap2 o w h g hc hf).mono ?_
    rintro e w' ⟨rfl, hb⟩
    go_wp2_with fail
    go_ret
    exact ⟨rfl, hb⟩
  · rw [spanRes_yes hf]
    obtain ⟨hp, hO⟩ := spanFine_get hf
    have hl8 : len ≤ 8 := by have := (pairs_get hp).1; have := HL.out; omega
    have hl2 : len2 = len := by have := hO.2; have := HL.out; have := g.lenEq; omega
    have hG := leastSpan_gen a len cap rows 137 232 233 (.slice a2 len2 cap2) 137 (fun _ => o) 1 (OneE a2 len2 cap2 (· < w.heap.size) o) w h hp
      (fun _ _ => by kernel_rfl) (enters_of Tryz.func232 (by kernel_rfl) rfl) (enters_of Tryz.func233 (by kernel_rfl) rfl)
      (fun w' hb => (fitOne_any _ _ a len cap rows a2 len2 cap2 o w' (h.below hb) (g.below hb) hc).mono (by rintro e w2 ⟨rfl, hd⟩; rw [hf]; exact ⟨rfl, hd⟩))
      (fun w' => eachOne_any 8 a2 len2 cap2 w')
      (fun w' hsz _ hcell => one_seq a2 len2 cap2 _ _ o w' (by omega) hcell)
      (fun m k x A B he _ => he)
      (fun m k x W he hb => by
        obtain ⟨rfl, rfl⟩ := he
        exact ⟨_, g.below hb, by dsimp only; omega, fun x hx => by have := hO.1.1 x hx; rw [HL.out] at this; exact this⟩)
    have hv : lstT (fun _ => spanT (ta rows) (tb rows) (nO o)) 1 = spanT (ta rows) (tb rows) (nO o) := by
      rw [lstT, lstT]; simp
    rw [hv] at hG
    generalize spanT (ta rows) (tb rows) (nO o) = v at hG ⊢
    have HG := Lib.hid hG
    clear hv hG hl2
    go_enter Tryz.func87, Tryz.ntmps87
    go_wp2_with fail
    refine HG.out.mono ?_
    rintro e w' ⟨rfl, hb⟩
    go_wp2_with fail
    go_ret
    exact ⟨rfl, hb⟩
end Go.Proofs.YtjcbpnffmebihaaGreatDoor
namespace Go.Proofs.YtjcbpnffmebihaaGreatDoor
open Go.RowKit Go.WideShapes

attribute [local go_sem] Oper.semAt_some

set_option maxHeartbeats 1000000 in
theorem firstOrder_any (n : Nat) (w : World) (hn : n ≤ 8) :
    Calls Tryz.prog 106 #[.int .i64 n] w fun e w' => e = .returned (.slice (some ⟨w.heap.size, 0, none⟩) n n) ∧ OwnF w w' n (fun q => (q : Int)) := by
  have hmk := fun w => run_make_row' (P := Tryz.prog) 35 3 (.int .i64 0) 8 Tryz.underlying35 Tryz.infoIntOB rfl .i64 .i64 n (by omega) (by omega) w
  go_enter Tryz.func106, Tryz.ntmps106
  go_wp2_with fail
  clear hmk
  go_loopw [9] (fun i wr => ∃ k : Nat, k ≤ n ∧ i = .int .i64 k ∧ OwnF w wr n (fun q => if q < k then (q : Int) else 0)) (fun i _ => n - (intOf i).toNat)
  case atStart => exact ⟨0, Nat.zero_le _, rfl, (OwnF.start w n (by omega)).congr (fun q _ => by rw [if_neg (by omega)])⟩
  case round =>
    obtain ⟨k, hk, rfl, hC⟩ := hrel
    by_cases hlt : k < n
    · obtain ⟨c1, f1⟩ := hC.cell hlt
      have HC := Lib.hid hC
      have hkn : (k : Int) < (n : Int) := by omega
      clear hC
      go_wp2_with fail
      go_roundw
      case rel => exact ⟨k + 1, by omega, by go_num, (HC.out.put k _).congr (fun q hq => by
        by_cases e : q = k
        · subst e; rw [if_pos rfl, if_pos (by omega)]
        · rw [if_neg e]
          by_cases e2 : q < k
          · rw [if_pos e2, if_pos (by omega)]
          · rw [if_neg e2, if_neg (by omega)])⟩
      case measure => simp [intOf] <;> omega
    · have HC := Lib.hid (hC.congr (g := fun q => (q : Int)) (fun q hq => by rw [if_pos (by omega)]))
      clear hC
      go_wp2_with fail
      go_ret
      exact ⟨rfl, HC.out⟩
theorem OwnF.rowB {w w' : World} {n : Nat} (h : OwnF w w' n (fun q => (q : Int))) : RowB w' w.heap.size (List.range n) := by
  intro q x hx
  have hq : q < n := by have := (List.getElem?_eq_some_iff.1 hx).1; simpa using this
  rw [List.getElem?_range hq] at hx
  cases hx
  exact h.cell hq
/-- the orders that come -/
def AllE (n m k : Nat) (x : Option Addr × Nat × Nat) (W : World) : Prop := ∃ b, m ≤ b ∧ b < W.heap.size ∧ x = (some ⟨b, 0, none⟩, n, n) ∧ k < (ordL n).length ∧ RowB W b ((ordL n).getD k [])
theorem AllE.kept {n m k : Nat} {x : Option Addr × Nat × Nat} {A B : World} (h : AllE n m k x A) (hk : KeepsUp m A B) : AllE n m k x B := by
  obtain ⟨b, h1, h2, h3, h4, h5⟩ := h
  exact ⟨b, h1, Nat.lt_of_lt_of_le h2 hk.1, h3, h4, h5.block (hk.2 b h1 h2)⟩
end Go.Proofs.YtjcbpnffmebihaaGreatDoor
