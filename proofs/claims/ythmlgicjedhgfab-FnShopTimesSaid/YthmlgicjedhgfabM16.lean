import Derived.Test.YthmlgicjedhgfabRows
import Derived.WalkKit
import Derived.LoopTactic
import Derived.Outline
import Derived.WalkSpells
import Derived.WalkLawsBesides
import Derived.ProofKit
import Derived.Lib.Hide
import Derived.IntWalk
import Derived.Deep.LoopGhost
import Derived.Test.YthmlgicjedhgfabM0
import Derived.Test.YthmlgicjedhgfabM1
import Derived.Test.YthmlgicjedhgfabM2
import Derived.Test.YthmlgicjedhgfabM6
import Derived.Test.YthmlgicjedhgfabM8
import Derived.Test.YthmlgicjedhgfabM13
import Derived.Test.YthmlgicjedhgfabM14
import Derived.Test.YthmlgicjedhgfabM15
import Derived.Deep.RegionHeld3
import Derived.Deep.AppendLies
import Derived.Deep.OwnRows
namespace Go.Proofs.Ythmlgicjedhgfab
open Go.RowKit Go.WideShapes

/-- the turns lie in a block that is new -/
def NewV (w : World) (v : Value) : Prop := ∀ b, v.ownBlock = some b → w.heap.size ≤ b
theorem NewV.next {w wr : World} {v v' : Value} (h : NewV w v) (hs : w.heap.size ≤ wr.heap.size) (g : SameOrNew wr v v') : NewV w v' := fun b e => by
  rcases g with h1 | h1
  · exact h b (by rw [← h1]; exact e)
  · have := h1 b e; omega
theorem newV_nil (w : World) : NewV w (.slice none 0 0) := fun b e => by simp [Value.ownBlock] at e
theorem resC_own {w w' : World} {B k cp : Nat} {ax : Option Addr} {xs : List Int} (h : w'.ownsRow B 3 1 (.slice ax k cp) k (xs.map (.int .i64))) (hB : w.heap.size ≤ B) (hk : k ≤ 1048576) (hb : Below w.heap.size w w') :
    ResPostC w xs (.returned (.slice ax k cp)) w' := by
  obtain ⟨a, c, e, hc, hi⟩ := own_ints h (by omega)
  simp only [Value.slice.injEq, true_and] at e
  obtain ⟨rfl, rfl⟩ := e
  refine ⟨_, _, _, rfl, hi.to (fun b hb => ⟨⟨by omega, hb.2⟩, rfl⟩), ⟨by omega, fun h0 => ?_⟩, hc, hb⟩
  obtain ⟨g, cap, e, hg1, hg2⟩ := h.form h0
  simp only [Value.slice.injEq, true_and] at e
  obtain ⟨rfl, rfl⟩ := e
  refine ⟨g, 0, rfl, ⟨by omega, hg2⟩, fun i hi => ?_⟩
  rw [Nat.zero_add]
  have hl : xs.length = k := by have := h.1; simpa using this
  exact ⟨⟨_, by rw [h.cellAt i (by simp; omega)]; exact List.getElem?_eq_getElem (by simp; omega)⟩, h.frozenAt i⟩
section
variable {w : World} {D : PD} {shop : List (List (List Int))} {v : Value} {l : List Nat}
theorem nextStep_at (h : PlanAt w D shop v l) (hv : shopM shop = true) (j : Nat) (hj : j < shop.length) :
    Calls Try.prog 43 #[.pointer (some ⟨D.P, 0, none⟩), .int .i64 j] w (DrewPost w (D.ptr (nextO (fun j => l.count j) shop j))) := by
  obtain ⟨bg, on, hm, _⟩ := h.mem
  exact nextStep_any hm hv j hj (h.cnt j)
theorem isDone_at (h : PlanAt w D shop v l) (hv : shopM shop = true) :
    Calls Try.prog 41 #[.pointer (some ⟨D.P, 0, none⟩)] w (DrewPost w (.bool (doneP shop (fun j => l.count j)))) := by
  obtain ⟨bg, on, hm, _⟩ := h.mem
  exact isDone_any hm hv h.cnt
end
theorem busiest_at {w : World} {D : PD} {shop : List (List (List Int))} {v : Value} {l : List Nat} (h : PlanAt w D shop v l) (hv : shopM shop = true) :
    Calls Try.prog 44 #[.pointer (some ⟨D.P, 0, none⟩)] w (DrewPost w (.int .i64 (busyJ shop (fun j => l.count j) shop.length))) := by
  obtain ⟨bg, on, hm, _⟩ := h.mem
  exact busiest_any hm hv h.cnt
theorem setN_count (l : List Nat) (q : Nat) : setN (fun j => l.count j) q (l.count q + 1) = fun j => (l ++ [q]).count j := by
  funext i
  rw [count_snoc]
  by_cases e : i = q
  · subst e; rw [setN_at, if_pos rfl]
  · rw [setN_ne _ _ e, if_neg e]
set_option maxRecDepth 100000 in
set_option maxHeartbeats 4000000 in
theorem mostTurns_impl (a : Option Addr) (len cap : Nat) (shop : List (List (List Int))) (w : World) (h : ShopAt w (· < w.heap.size) a len shop) (hc : len ≤ cap) :
    Calls Try.prog 23 #[.slice a len cap] w (ResPostC w (mostRes shop)) := by
  go_enter Try.func23, Try.ntmps23
  go_wp2_with fail
  refine (planOf_any a len cap shop w h hc).mono ?_
  intro e w1 hp
  unfold PlanOfPost at hp
  cases hv : shopM shop
  · rw [hv] at hp
    obtain ⟨rfl, hd⟩ := hp
    go_wp2_with fail
    go_ret
    unfold mostRes
    rw [hv]
    obtain ⟨q, rfl⟩ := hd
    exact ⟨none, 0, 0, rfl, ⟨rfl, Nat.zero_le _, fun h => absurd h (by omega)⟩, ⟨Nat.zero_le _, fun h => absurd h (by omega)⟩, Nat.le_refl _, Drew.below ⟨q, rfl⟩ _⟩
  · rw [hv, if_pos rfl] at hp
    obtain ⟨D, rfl, hpl, hB, hb1⟩ := hp
    have HV := Lib.hid hv
    have HB := Lib.hid hB
    have HB1 := Lib.hid hb1
    have HPL := Lib.hid hpl
    have HRES := Lib.hid (show mostRes shop = (mostM shop).map (fun q : Nat => (q : Int)) by unfold mostRes; rw [hv]; rfl)
    clear hv hpl hB hb1 h hc
    go_wp2_with fail
    go_loopg [10] (leftN shop (fun _ => 0) shop.length) (fun g0 s wr => ∃ (g : Nat) (l : List Nat) (v : Value), g ≤ g0 ∧ PlanAt wr D shop v l ∧ PFr D (.slice none 0 0) w1 wr ∧ NewV w1 v ∧ leftN shop (fun j => l.count j) shop.length = g ∧ mostM shop = l ++ mostRun shop g (fun j => l.count j))
    case atStart => exact ⟨_, [], _, Nat.le_refl _, HPL.out, PFr.refl _ _ _, newV_nil _, rfl, rfl⟩
    case round =>
      obtain ⟨g, l, v, hg0, hpl, hfr, hnew, hleft, hmost⟩ := hrel
      have HFR := Lib.hid hfr
      have HNEW := Lib.hid hnew
      have HMOST := Lib.hid hmost
      have HLEFT := Lib.hid hleft
      have HPW := Lib.hid hpl
      have HDONE := Lib.hid (isDone_at hpl HV.out)
      have hcases := atM_is shop (fun j => l.count j) shop.length
      clear hpl hfr hnew hleft hmost HPL
      rcases hcases with ⟨h1, h2⟩ | ⟨q, h1, h2, h3, _⟩
      · have hdn : doneP shop (fun j => l.count j) = true := by unfold doneP; rw [List.all_eq_true]; exact fun j hj => decide_eq_true (h2 j (List.mem_range.1 hj))
        have hrun : mostRun shop g (fun j => l.count j) = [] := by
          cases g with
          | zero => rfl
          | succ g => rw [mostRun, h1, if_pos (by omega)]
        rw [hdn] at HDONE
        have HRUN := Lib.hid hrun
        clear h1 h2 hdn hrun
        go_wp2_with fail
        refine HDONE.out.mono ?_
        rintro e w2 ⟨rfl, hd⟩
        obtain ⟨bg, on, hm, _, _⟩ := (HPW.out.drew hd).mem
        obtain ⟨_, _, _, _, _, p5⟩ := hm.cells
        have hown := (HPW.out.drew hd).own
        obtain ⟨ax, cp, rfl, hcp⟩ := own_slice hown
        have h9 := HPW.out.len HV.out
        have HOWN := Lib.hid hown
        have HOK := Lib.hid hm.ok.bt
        have HD := Lib.hid hd
        clear hm hd hown hcp
        go_wp2_with fail
        go_ret
        rw [HRES.out, HMOST.out, HRUN.out, List.append_nil]
        have hfr2 := HFR.out.drew HD.out
        have hbs := HB1.out.size
        refine resC_own (B := D.top) HOWN.out (by have := HB.out; have := HOK.out; omega) (by omega) ?_
        exact HB1.out.trans (hfr2.below HB.out hbs (fun b e => by simp [Value.ownBlock] at e))
      · have hdn : doneP shop (fun j => l.count j) = false := by unfold doneP; rw [List.all_eq_false]; exact ⟨q, List.mem_range.2 h2, by simp; omega⟩
        have hlp := leftN_put (nx := fun j => l.count j) h3 h2
        rw [setN_count, HLEFT.out] at hlp
        obtain ⟨g', rfl⟩ : ∃ g', g = g' + 1 := ⟨g - 1, by omega⟩
        have hrun : mostRun shop (g' + 1) (fun j => l.count j) = q :: mostRun shop g' (fun j => (l ++ [q]).count j) := by
          rw [mostRun, h1, if_neg (by omega), show ((q : Int)).toNat = q from rfl, ← setN_count]
        have hbj : busyJ shop (fun j => l.count j) shop.length = q := by unfold busyJ; rw [h1, if_neg (by omega)]
        have hno : nextO (fun j => l.count j) shop q = some (q, l.count q) := if_pos h3
        rw [hdn] at HDONE
        have HRUN := Lib.hid hrun
        have HLP := Lib.hid hlp
        have HBJ := Lib.hid hbj
        have HNO := Lib.hid hno
        have H2 := Lib.hid h2
        have H3 := Lib.hid (show l.count q < slen shop q from h3)
        clear h1 h2 h3 hdn hlp hrun hbj hno
        go_wp2_with fail
        refine HDONE.out.mono ?_
        rintro e w2 ⟨rfl, hd2⟩
        have HP2 := Lib.hid (HPW.out.drew hd2)
        have HF2 := Lib.hid (HFR.out.drew hd2)
        clear hd2
        go_wp2_with fail
        refine (busiest_at HP2.out HV.out).mono ?_
        rintro e w3 ⟨rfl, hd3⟩
        rw [HBJ.out]
        have HP3 := Lib.hid (HP2.out.drew hd3)
        have HF3 := Lib.hid (HF2.out.drew hd3)
        clear hd3
        go_wp2_with fail
        refine (nextStep_at HP3.out HV.out q H2.out).mono ?_
        rintro e w4 ⟨rfl, hd4⟩
        rw [HNO.out]
        have HP4 := Lib.hid (HP3.out.drew hd4)
        have HF4 := Lib.hid (HF3.out.drew hd4)
        clear hd4
        go_wp2_with fail
        refine (put_any HP4.out HV.out H2.out H3.out).mono ?_
        rintro e w5 ⟨rfl, v', hpl5, hfr5, hsn⟩
        have HP5 := Lib.hid hpl5
        have HF5 := Lib.hid (HF4.out.trans hfr5 (.inr HNEW.out))
        have HN5 := Lib.hid (HNEW.out.next HF4.out.size hsn)
        clear hpl5 hfr5 hsn
        go_wp2_with fail
        go_roundg g'
        case measure => omega
        case rel => exact ⟨g', l ++ [q], v', Nat.le_refl _, HP5.out, HF5.out, HN5.out, by have := HLP.out; omega, by rw [HMOST.out, HRUN.out, List.append_assoc]; rfl⟩
end Go.Proofs.Ythmlgicjedhgfab
namespace Go.Proofs.Ythmlgicjedhgfab
open Go.RowKit Go.WideShapes

theorem Try.infoRow7 : (Try.prog.info? 24).map (fun i => (i.zero, i.size, i.bytes)) = some (some (.slice none 0 0), 1, 24) := by kernel_rfl
/-- v is a slice of rows, all in memory of their own, no two in one block -/
def RowsO (w w' : World) (v : Value) (rows : List (List Int)) : Prop := ∃ us : List Value, w'.ownsRow w.heap.size 24 1 v rows.length us ∧
  (∀ (q : Nat) (u : Value), us[q]? = some u → ∃ (a : Option Addr) (l c : Nat) (r : List Int), rows[q]? = some r ∧ u = .slice a l c ∧ l ≤ c ∧ l ≤ 1048576 ∧ w'.ownsRow w.heap.size 3 1 u l (r.map (.int .i64))) ∧
  (∀ (p q : Nat) (u u' : Value), p ≠ q → us[p]? = some u → us[q]? = some u' → u.ownBlock = none ∨ u.ownBlock ≠ u'.ownBlock) ∧ Below w.heap.size w w'
/-- the rows, being made: c: how many of each -/
structure Bg (w w' : World) (n G : Nat) (b : Nat → Nat → Int) (c : Nat → Nat) (rv : Nat → Value) : Prop where
  below : Below w.heap.size w w'
  at' : w.heap.size ≤ G
  outer : w'.heap[G]? = some (.cells (tabV rv n) 24 (0, 0))
  rows : ∀ j, j < n → w'.ownsRow w.heap.size 3 1 (rv j) (c j) ((tab (b j) (c j)).map (.int .i64))
  sep : ∀ j i, j < n → i < n → j ≠ i → (rv j).ownBlock = none ∨ (rv j).ownBlock ≠ (rv i).ownBlock
theorem Bg.drewN {w w' : World} {n G : Nat} {b : Nat → Nat → Int} {c : Nat → Nat} {rv : Nat → Value} (h : Bg w w' n G b c rv) (q : Nat) : Bg w (w'.drewN q) n G b c rv :=
  ⟨h.below.trans (Drew.below ⟨q, rfl⟩ _), h.at', h.outer, fun j hj => own_drewN (h.rows j hj) q, h.sep⟩
theorem Bg.push {w w1 w6 : World} {n G : Nat} {b : Nat → Nat → Int} {c : Nat → Nat} {rv : Nat → Value} (h : Bg w w1 n G b c rv) {k m : Nat} {V : Value} (hk : k < n) (hm : c k = m)
    (hown : w6.ownsRow w.heap.size 3 1 V (m + 1) ((tab (b k) m).map (.int .i64) ++ [.int .i64 (b k m)])) (hgr : w1.grownBy w6 (rv k).ownBlock)
    (hat : V.ownBlock = (rv k).ownBlock ∨ ∀ b, V.ownBlock = some b → w1.heap.size ≤ b) :
    Bg w (w6.setCell ⟨G, k, none⟩ V) n G b (setN c k (m + 1)) (setN rv k V) := by
  have hrk := h.rows k hk
  have hne : ∀ {b : Nat} {cs : Array Value} {t : TypeId} {fr : Nat × Nat}, w1.heap[b]? = some (.cells cs t fr) → t ≠ 3 → w6.heap[b]? = some (.cells cs t fr) := fun {b cs t fr} hb ht => by
    rw [hgr.block b (lt_heap hb) (fun e => ?_)]
    · exact hb
    · rcases hrk.2 with ⟨e1, _⟩ | ⟨g, cap, cur, e1, _, hg, _⟩
      · rw [e1] at e; simp [Value.ownBlock] at e
      · rw [e1] at e
        simp only [Value.ownBlock, Option.some.injEq] at e
        subst e
        rw [hb] at hg
        simp only [Option.some.injEq, Obj.cells.injEq] at hg
        exact ht hg.2.1
  have hJ6 := hne h.outer (by decide)
  have hsz := hgr.size
  have hbs := h.below.size
  have hb6 : Below w.heap.size w w6 := h.below.grown hgr hbs (fun b e => (hrk.lt b e).1)
  have ownJ : ∀ {v : Value} {n : Nat} {xs : List Value}, w6.ownsRow w.heap.size 3 1 v n xs → (w6.setCell ⟨G, k, none⟩ V).ownsRow w.heap.size 3 1 v n xs := fun {v n xs} ho => by
    refine ho.kept (grown_set w6 G k V) ?_
    rcases ho.2 with ⟨e1, _⟩ | ⟨g, cap, cur, e1, _, hg, _⟩
    · exact .inl (by rw [e1]; rfl)
    · right
      rw [e1]
      simp only [Value.ownBlock, ne_eq, Option.some.injEq]
      exact ne_type hg hJ6 (by decide)
  refine ⟨hb6.setCell h.at' _, h.at', by rw [heap_set hJ6, tabV_set], fun j hj => ?_, fun j i hj hi hji => ?_⟩
  · by_cases e : j = k
    · subst e
      rw [setN_at, setN_at, tab_succ, List.map_append]
      exact ownJ hown
    · rw [setN_ne _ _ e, setN_ne _ _ e]
      exact ownJ ((h.rows j hj).kept hgr (h.sep j k hj hk e))
  · by_cases e1 : j = k
    · subst e1
      rw [setN_at, setN_ne _ _ (fun e => hji e.symm)]
      rcases hat with h1 | h1
      · rw [h1]; exact h.sep j i hj hi hji
      · cases hv : V.ownBlock with
        | none => exact .inl rfl
        | some b =>
          right
          intro e
          have h2 := h1 b hv
          have h3 := ((h.rows i hi).lt b e.symm).2
          omega
    · rw [setN_ne _ _ e1]
      by_cases e2 : i = k
      · subst e2
        rw [setN_at]
        rcases hat with h1 | h1
        · rw [h1]; exact h.sep j i hj hi hji
        · cases hv : (rv j).ownBlock with
          | none => exact .inl rfl
          | some b =>
            right
            intro e
            have h2 := h1 b e.symm
            have h3 := ((h.rows j hj).lt b hv).2
            omega
      · rw [setN_ne _ _ e2]; exact h.sep j i hj hi hji
theorem Bg.done {w w' : World} {n G : Nat} {b : Nat → Nat → Int} {c : Nat → Nat} {rv : Nat → Value} (h : Bg w w' n G b c rv) (hn : n ≤ 3) (hc : ∀ j, j < n → c j ≤ 3) {rows : List (List Int)} (hr : rows = (List.range n).map (fun j => tab (b j) (c j))) :
    RowsO w w' (.slice (some ⟨G, 0, none⟩) n n) rows := by
  have hl : rows.length = n := by rw [hr]; simp
  refine ⟨(List.range n).map rv, ?_, fun q u hq => ?_, fun p q u u' hpq hp hq => ?_, h.below⟩
  · rw [hl]
    exact ⟨by simp, .inr ⟨G, n, tabV rv n, rfl, h.at', h.outer, Nat.le_refl _, by unfold maxLen; omega, by simp [tabV], by simp [tabV]; exact List.take_of_length_le (by simp)⟩⟩
  · rw [List.getElem?_map] at hq
    obtain ⟨j, hj, rfl⟩ := Option.map_eq_some_iff.1 hq
    obtain ⟨hq1, hq2⟩ := List.getElem?_eq_some_iff.1 hj
    simp at hq1 hq2
    subst hq2
    have ho := h.rows q hq1
    obtain ⟨a, cp, e, hcp⟩ := own_slice ho
    have := hc q hq1
    exact ⟨a, c q, cp, tab (b q) (c q), by rw [hr]; simp [hq1], e, hcp, by omega, ho⟩
  · rw [List.getElem?_map] at hp hq
    obtain ⟨j, hj, rfl⟩ := Option.map_eq_some_iff.1 hp
    obtain ⟨i, hi, rfl⟩ := Option.map_eq_some_iff.1 hq
    obtain ⟨p1, p2⟩ := List.getElem?_eq_some_iff.1 hj
    obtain ⟨q1, q2⟩ := List.getElem?_eq_some_iff.1 hi
    simp at p1 p2 q1 q2
    subst p2 q2
    exact h.sep p q p1 q1 hpq
def cB (shop : List (List (List Int))) (k m j : Nat) : Nat := if j < k then slen shop j else if j = k then m else 0
set_option maxRecDepth 100000 in
set_option maxHeartbeats 4000000 in
theorem begins_any {w : World} {D : PD} {shop : List (List (List Int))} {v : Value} {l : List Nat} (h : PlanAt w D shop v l) (hv : shopM shop = true) (hfull : ∀ j, j < shop.length → l.count j = slen shop j) :
    Calls Try.prog 33 #[.pointer (some ⟨D.P, 0, none⟩)] w fun e w' => ∃ V, e = .returned V ∧ (∃ a len cap, V = .slice a len cap) ∧ RowsO w w' V (rowsS (runS (smach shop) (stime shop) shop0 l) shop.length) := by
  have hl3 := (shop_get hv).1
  have htop := h.top
  obtain ⟨bg, on, hm, hbg, _⟩ := h.mem
  have c0 := hm.cells.1
  have hbgs : ∀ j, j < shop.length → ∀ k, k < slen shop j → bg j k = (runS (smach shop) (stime shop) shop0 l).b j k := fun j hj k hk => hbg j k (by rw [hfull j hj]; exact hk)
  have hrows : rowsS (runS (smach shop) (stime shop) shop0 l) shop.length = (List.range shop.length).map (fun j => tab (bg j) (slen shop j)) := by
    unfold rowsS
    refine List.map_congr_left fun j hj => ?_
    have hj' := List.mem_range.1 hj
    unfold rowS
    rw [run_nx, hfull j hj']
    exact tab_cong fun q hq => (hbgs j hj' q hq).symm
  have HR := Lib.hid hrows
  have HM := Lib.hid hm
  have HT := Lib.hid htop
  have HV := Lib.hid hv
  have HSL := Lib.hid (fun j => slen_le hv j)
  have HLT := Lib.hid (lt_heap hm.plan)
  clear hm htop hv hrows hbgs hbg hfull h
  obtain ⟨n, hn⟩ : ∃ n, shop.length = n := ⟨_, rfl⟩
  have HN := Lib.hid hn
  rw [hn] at hl3 c0
  clear hn
  have hmk := fun w => run_make_row' (P := Try.prog) 27 24 (.slice none 0 0) 24 Try.underlying27 Try.infoRow7 rfl .i64 .i64 n (by omega) (by omega) w
  have c1 : (w.alloc (.cells (madeCells #[.slice none 0 0] n) 24)).cell? ⟨D.P, 0, none⟩ = some (.slice (some ⟨D.J, 0, none⟩) n n) := (World.cell?_of_block (w := w) (Below.heap_alloc _ _ _ HLT.out)).trans c0
  go_enter Try.func33, Try.ntmps33
  go_wp2_with fail
  have hst : Bg w (w.alloc (.cells (madeCells #[.slice none 0 0] n) 24)) n w.heap.size bg (cB shop 0 0) (fun _ => .slice none 0 0) := by
    have hc : ∀ j, cB shop 0 0 j = 0 := fun j => by unfold cB; rw [if_neg (by omega)]; split <;> rfl
    exact ⟨(Below.refl _ _).alloc (Nat.le_refl _) _, Nat.le_refl _, by rw [heap_alloc_new, made_tabV], fun j _ => by rw [hc]; exact World.ownsRow_nil _ _ _ _, fun _ _ _ _ _ => .inl rfl⟩
  obtain ⟨w1, hw1⟩ : ∃ w1, w.alloc (.cells (madeCells #[.slice none 0 0] n) 24) = w1 := ⟨_, rfl⟩
  obtain ⟨G, hG⟩ : ∃ G, w.heap.size = G := ⟨_, rfl⟩
  rw [hw1] at hst ⊢
  have HG := Lib.hid hG
  have hst2 : Bg w w1 n G bg (cB shop 0 0) (fun _ => .slice none 0 0) := by rw [← hG]; exact hst
  rw [hG]
  have HST := Lib.hid hst2
  have HK := Lib.hid (fun (w' : World) (hb : Below w.heap.size w w') => HM.out.to (w' := w') (fun b _ hb2 => hb.block b (by have := HT.out; omega)))
  clear hst hst2 hw1 hG hmk c0 c1
  go_loopw [19] (fun i wr => ∃ k : Nat, k ≤ n ∧ i = .int .i64 k ∧ ∃ rv, Bg w wr n G bg (cB shop k 0) rv) (fun i _ => n - (intOf i).toNat)
  case atStart => exact ⟨0, Nat.zero_le _, rfl, _, HST.out⟩
  case round =>
    clear HST
    obtain ⟨k, hk, rfl, rv0, hb0⟩ := hrel
    obtain ⟨wo, rfl⟩ : ∃ wo : World, wo = wr := ⟨_, rfl⟩
    have HB0 := Lib.hid hb0
    by_cases hkl : k < n
    · have hm := HK.out wo hb0.below
      have hkn : k < shop.length := by rw [HN.out]; exact hkl
      have cj := hm.jobCell hkn
      have hs3 := HSL.out k
      have HRA := Lib.hid (fun h0 => (hm.ok.row k hkn).2 h0)
      clear hb0 hm
      obtain ⟨aR, haR⟩ : ∃ a, D.aR k = a := ⟨_, rfl⟩
      rw [haR] at cj HRA
      have HAR := Lib.hid haR
      clear haR
      obtain ⟨sl, hsl⟩ : ∃ s, slen shop k = s := ⟨_, rfl⟩
      rw [hsl] at cj hs3 HRA
      have HSE := Lib.hid hsl
      clear hsl
      go_wp2_with fail
      go_loopw [26] (fun i wr => ∃ m : Nat, m ≤ sl ∧ i = .int .i64 m ∧ ∃ rv, Bg w wr n G bg (cB shop k m) rv) (fun i _ => sl - (intOf i).toNat)
      case atStart => exact ⟨0, Nat.zero_le _, rfl, rv0, HB0.out⟩
      case round =>
        clear HB0
        obtain ⟨m, hm, rfl, rv, hb⟩ := hrel
        obtain ⟨wi, rfl⟩ : ∃ wi : World, wi = wr := ⟨_, rfl⟩
        have HB := Lib.hid hb
        by_cases hml : m < sl
        · have hmk : m < slen shop k := by rw [HSE.out]; exact hml
          have hpw := HK.out wi hb.below
          have hr := hpw.rowCell hkn hmk
          obtain ⟨_, _, _, q3, _, _⟩ := hpw.stepCells hkn hmk
          have hq := lt_heap (HM.out.steps k m hkn hmk)
          have hta := hpw.steps k m hkn hmk
          obtain ⟨ha, _⟩ := HRA.out (by omega)
          subst ha
          have hck : cB shop k m k = m := by unfold cB; rw [if_neg (by omega), if_pos rfl]
          have hrow := hb.rows k hkl
          rw [hck] at hrow
          obtain ⟨ax, cp, hax, hcp⟩ := own_slice hrow
          rw [hax] at hrow
          have cg : wi.cell? ⟨G, k, none⟩ = some (.slice ax m cp) := by rw [cell_of_row _ _ _ _ _ _ hb.outer, tabV_get _ hkl, hax]
          have hGl := lt_heap hb.outer
          have hQl := lt_heap hta
          have hbs := hb.below.size
          have HGQ := Lib.hid (ne_type hb.outer hta (by decide))
          have far : ∀ {b : Nat} {cs : Array Value} {t : TypeId} {fr : Nat × Nat}, wi.heap[b]? = some (.cells cs t fr) → t ≠ 3 → some b ≠ (Value.slice ax m cp).ownBlock := fun {b cs t fr} hb ht e => by
            rcases hrow.2 with ⟨e1, _⟩ | ⟨g, cap, cur, e1, _, hg, _⟩
            · rw [e1] at e; simp [Value.ownBlock] at e
            · rw [e1] at e
              simp only [Value.ownBlock, Option.some.injEq] at e
              subst e
              rw [hb] at hg
              simp only [Option.some.injEq, Obj.cells.injEq] at hg
              exact ht hg.2.1
          obtain ⟨q, hqq⟩ : ∃ q, D.Q k m = q := ⟨_, rfl⟩
          obtain ⟨x, hx⟩ : ∃ x, bg k m = x := ⟨_, rfl⟩
          have HXX := Lib.hid hx
          rw [hqq] at hr q3 hQl HGQ hta
          rw [hx] at q3
          have FG := Lib.hid (show (wi.alloc (.cells #[.int .i64 x] 3)).drew.cell? ⟨G, k, none⟩ = some (.slice ax m cp) ∧ (wi.alloc (.cells #[.int .i64 x] 3)).drew.frozen? ⟨G, k, none⟩ = false ∧ G < (wi.alloc (.cells #[.int .i64 x] 3)).drew.heap.size ∧ some G ≠ (Value.slice ax m cp).ownBlock from
            ⟨(World.cell?_of_block (w := wi) (Below.heap_alloc _ _ _ hGl)).trans cg, (World.frozen?_of_block (w := wi) (Below.heap_alloc _ _ _ hGl)).trans (frozen_row hb.outer k), by show G < (wi.alloc _).heap.size; simp; omega, far hb.outer (by decide)⟩)
          have FQ := Lib.hid (show (wi.alloc (.cells #[.int .i64 x] 3)).drew.cell? ⟨q, 3, none⟩ = some (.int .i64 x) ∧ q < (wi.alloc (.cells #[.int .i64 x] 3)).drew.heap.size ∧ some q ≠ (Value.slice ax m cp).ownBlock from
            ⟨(World.cell?_of_block (w := wi) (Below.heap_alloc _ _ _ hQl)).trans q3, by show q < (wi.alloc _).heap.size; simp; omega, far hta (by decide)⟩)
          have K3 := Lib.hid (fun (W : World) (y : Value) (h : W.cell? ⟨q, 3, none⟩ = some (.int .i64 x)) => show (W.setCell ⟨G, k, none⟩ y).cell? ⟨q, 3, none⟩ = some (.int .i64 x) from
            (World.cell?_setCell_other W _ _ y (by intro e; injection e with e1; exact absurd e1 HGQ.out)).trans h)
          obtain ⟨i0, hi0, hz0, hz1, hz2⟩ := info_parts Try.infoInt7
          have hm9 : m ≤ 3 := by omega
          have cg2 := FG.out.1
          have HROW := Lib.hid hrow
          have HAX := Lib.hid hax
          have HCK := Lib.hid hck
          have hkl2 : (k : Int) < (n : Int) := by omega
          clear hb hrow far hax hck hta hpw hcp hqq hx
          go_wp2_with fail
          refine wp_region_held_drew (S := fun w' => w'.cell? ⟨q, 3, none⟩ = some (.int .i64 x)) (by kernel_rfl) q3 (fun hHeld => ?_)
          refine wpAnyH_take (i := 0) (v := .slice (some ⟨G, 0, none⟩) n n) rfl (by kernel_rfl) (by kernel_rfl) (by kernel_rfl) (fun _ _ _ h => h) (Or.inl ⟨by rfl, ?_⟩) hHeld ?_
          · intro w' k1; go_simp
          try simp only [Act.put, List.setIfInBounds_toArray, List.set_cons_zero, List.set_cons_succ]
          refine wpAnyH_take (i := 1) (v := .int .i64 k) rfl (by kernel_rfl) (by kernel_rfl) (by kernel_rfl) (fun _ _ _ h => h) (Or.inl ⟨by rfl, ?_⟩) hHeld ?_
          · intro w' k1; go_simp
          try simp only [Act.put, List.setIfInBounds_toArray, List.set_cons_zero, List.set_cons_succ]
          refine wpAnyH_take (i := 2) (v := .slice (some ⟨G, 0, none⟩) n n) rfl (by kernel_rfl) (by kernel_rfl) (by kernel_rfl) (fun _ _ _ h => h) (Or.inl ⟨by rfl, ?_⟩) hHeld ?_
          · intro w' k1; go_simp
          try simp only [Act.put, List.setIfInBounds_toArray, List.set_cons_zero, List.set_cons_succ]
          refine wpAnyH_take (i := 3) (v := .int .i64 k) rfl (by kernel_rfl) (by kernel_rfl) (by kernel_rfl) (fun _ _ _ h => h) (Or.inl ⟨by rfl, ?_⟩) hHeld ?_
          · intro w' k1; go_simp
          try simp only [Act.put, List.setIfInBounds_toArray, List.set_cons_zero, List.set_cons_succ]
          refine wpAnyH_take (i := 4) (v := .pointer (some ⟨G, k, none⟩)) rfl (by kernel_rfl) (by kernel_rfl) (by kernel_rfl) (fun _ _ _ h => h) (Or.inl ⟨by rfl, ?_⟩) hHeld ?_
          · intro w' k1; go_simp
          try simp only [Act.put, List.setIfInBounds_toArray, List.set_cons_zero, List.set_cons_succ]
          refine wpAnyH_take (i := 6) (v := .pointer (some ⟨q, 0, none⟩)) rfl (by kernel_rfl) (by kernel_rfl) (by kernel_rfl) (fun _ _ _ h => h) (Or.inl ⟨by rfl, ?_⟩) hHeld ?_
          · intro w' k1; go_simp
          try simp only [Act.put, List.setIfInBounds_toArray, List.set_cons_zero, List.set_cons_succ]
          refine wpAnyH_take (i := 7) (v := .pointer (some ⟨q, 0, none⟩)) rfl (by kernel_rfl) (by kernel_rfl) (by kernel_rfl) (fun _ _ _ h => h) (Or.inl ⟨by rfl, ?_⟩) hHeld ?_
          · intro w' k1; go_simp
          try simp only [Act.put, List.setIfInBounds_toArray, List.set_cons_zero, List.set_cons_succ]
          refine wpAnyH_take (i := 8) (v := .pointer (some ⟨q, 3, none⟩)) rfl (by kernel_rfl) (by kernel_rfl) (by kernel_rfl) (fun _ _ _ h => h) (Or.inl ⟨by rfl, ?_⟩) hHeld ?_
          · intro w' k1; go_simp
          try simp only [Act.put, List.setIfInBounds_toArray, List.set_cons_zero, List.set_cons_succ]
          refine wpAnyH_take (i := 9) (v := .int .i64 x) rfl (by kernel_rfl) (by kernel_rfl) (by kernel_rfl) (fun _ _ _ h => h) (Or.inl ⟨by rfl, ?_⟩) hHeld ?_
          · intro w' k1; go_simp
          try simp only [Act.put, List.setIfInBounds_toArray, List.set_cons_zero, List.set_cons_succ]
          refine wpAnyH_ready (rs := [5, 10]) (by kernel_rfl) (by simp) ?_
          refine AllReadyH.cons (o := _) rfl (fun K hK => ?_) (AllReadyH.cons (o := _) rfl (fun K hK => ?_) AllReadyH.nil)
          go_simp
          refine hK.out _ _ q3 (fun hHeld => ?_)
          clear hK K
          try simp only [Act.put, List.setIfInBounds_toArray, List.set_cons_zero, List.set_cons_succ]
          refine wpAnyH_ready (rs := [10]) (by kernel_rfl) (by simp) ?_
          refine AllReadyH.cons (o := _) rfl (fun K hK => ?_) AllReadyH.nil
          go_simp
          refine hK.out _ _ FQ.out.1 (fun hHeld => ?_)
          clear hK K
          try simp only [Act.put, List.setIfInBounds_toArray, List.set_cons_zero, List.set_cons_succ]
          rotate_left
          go_simp
          refine hK.out _ _ FQ.out.1 (fun hHeld => ?_)
          clear hK K
          try simp only [Act.put, List.setIfInBounds_toArray, List.set_cons_zero, List.set_cons_succ]
          refine wpAnyH_ready (rs := [5]) (by kernel_rfl) (by simp) ?_
          refine AllReadyH.cons (o := _) rfl (fun K hK => ?_) AllReadyH.nil
          go_simp
          refine hK.out _ _ FQ.out.1 (fun hHeld => ?_)
          clear hK K
          try simp only [Act.put, List.setIfInBounds_toArray, List.set_cons_zero, List.set_cons_succ]
          all_goals
            refine wpAnyH_ready (rs := [11]) (by kernel_rfl) (by simp) ?_
            refine AllReadyH.cons (o := _) rfl (fun K hK => ?_) AllReadyH.nil
            refine step_append_lies _ (by rfl) _ _ _ (by rfl) w.heap.size 3 i0 _ 1 8 Try.underlying24 hi0 hz0 hz1 hz2 rfl (by omega) (.slice ax m cp) m _ (by rfl) ((HROW.out.alloc _).drew) ⟨wi.heap.size, 0, none⟩ 1 1 [.int .i64 x] (by rfl) (by rfl) (World.news_of_block (cs := #[.int .i64 x]) (t := 3) (fr := (0, 0)) (heap_alloc_new wi _)) (by simp [Value.oneCell']) (by omega) (by unfold maxLen; omega) (by omega) (by simp; omega) (wi.heap.size + 1) (by simp) ?_
            intro g c6 w6 hown hgr hat hlt6
            have k6 := (hgr.cell_far ⟨q, 3, none⟩ FQ.out.2.1 FQ.out.2.2).trans FQ.out.1
            have j6 := (hgr.cell_far ⟨G, k, none⟩ FG.out.2.2.1 FG.out.2.2.2).trans FG.out.1
            have f6 := (hgr.frozen_far ⟨G, k, none⟩ FG.out.2.2.1 FG.out.2.2.2).trans FG.out.2.1
            refine hK.out _ _ k6 (fun hHeld => ?_)
            clear hK K
            try simp only [Act.put, List.setIfInBounds_toArray, List.set_cons_zero, List.set_cons_succ]
            refine wpAnyH_take (i := 12) (v := .pointer (some ⟨G, k, none⟩)) rfl (by kernel_rfl) (by kernel_rfl) (by kernel_rfl) (fun _ _ _ h => h) (Or.inl ⟨by rfl, ?_⟩) hHeld ?_
            · intro w' k1; go_simp
            try simp only [Act.put, List.setIfInBounds_toArray, List.set_cons_zero, List.set_cons_succ]
            refine wpAnyH_ready (rs := [13]) (by kernel_rfl) (by simp) ?_
            refine AllReadyH.cons (o := _) rfl (fun K hK => ?_) AllReadyH.nil
            go_simp
            refine hK.out _ _ (K3.out _ _ k6) (fun hHeld => ?_)
            clear hK K
            try simp only [Act.put, List.setIfInBounds_toArray, List.set_cons_zero, List.set_cons_succ]
            refine wpAnyH_done (by kernel_rfl) ?_ _
          all_goals
              have hgr2 : wi.grownBy w6 (Value.slice ax m cp).ownBlock := grown_comp (World.grownBy_alloc wi _ _) (grown_comp (grownBy_drewN _ 1 _) hgr)
              have hpush := HB.out.push (k := k) (m := m) (V := .slice (some ⟨g, 0, none⟩) (m + 1) c6) (w6 := w6) hkl HCK.out (by rw [HXX.out]; exact hown) (by rw [HAX.out]; exact hgr2) (by
                rw [HAX.out]
                rcases hat with e | e
                · exact .inl e.symm
                · exact .inr (fun b hb => by simp only [Value.ownBlock, Option.some.injEq] at hb; omega))
              have HPU := Lib.hid hpush
              clear hpush hgr2 hgr hown hat hlt6 k6 j6 f6
              go_wp2_with fail
              go_roundw
              case rel =>
                refine ⟨m + 1, by omega, by go_num, setN rv k (.slice (some ⟨g, 0, none⟩) (m + 1) c6), ?_⟩
                have e : setN (cB shop k m) k (m + 1) = cB shop k (m + 1) := by
                  funext j
                  unfold setN cB
                  by_cases h1 : j = k
                  · subst h1; rw [if_pos rfl, if_neg (by omega), if_pos rfl]
                  · rw [if_neg h1]
                    by_cases h2 : j < k
                    · rw [if_pos h2, if_pos h2]
                    · rw [if_neg h2, if_neg h2, if_neg h1, if_neg h1]
                rw [← e]
                exact HPU.out
              case measure => simp [intOf]; omega
        · obtain rfl : m = sl := by omega
          have e : cB shop k m = cB shop (k + 1) 0 := by
            funext j
            unfold cB
            by_cases h1 : j < k
            · rw [if_pos h1, if_pos (by omega)]
            · rw [if_neg h1]
              by_cases h2 : j = k
              · subst h2; rw [if_pos rfl, if_pos (by omega), HSE.out]
              · rw [if_neg h2, if_neg (by omega)]; split <;> rfl
          have HE := Lib.hid e
          clear hb e
          go_wp2_with fail
          go_roundw
          case rel => exact ⟨k + 1, by omega, by go_num, rv, by rw [← HE.out]; exact HB.out⟩
          case measure => simp [intOf]; omega
    · obtain rfl : k = n := by omega
      clear hb0
      go_wp2_with fail
      go_ret
      refine ⟨_, rfl, ⟨_, _, _, rfl⟩, HB0.out.done (by omega) (fun j hj => ?_) ?_⟩
      · unfold cB; rw [if_pos hj]; exact HSL.out j
      · rw [HR.out, HN.out]
        exact List.map_congr_left fun j hj => by unfold cB; rw [if_pos (List.mem_range.1 hj)]
end Go.Proofs.Ythmlgicjedhgfab
