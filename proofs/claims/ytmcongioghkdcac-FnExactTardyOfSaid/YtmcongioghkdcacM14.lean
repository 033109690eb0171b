import Derived.Test.YtmcongioghkdcacM13
import Derived.Test.YtmcongioghkdcacM6
import Derived.Test.YtmcongioghkdcacM7
import Derived.Test.YtmcongioghkdcacRows
import Derived.WalkKit
import Derived.LoopTactic
import Derived.Outline
import Derived.WalkSpells
import Derived.WalkLawsBesides
import Derived.ProofKit
import Derived.Test.YtmcongioghkdcacM0
import Derived.Test.YtmcongioghkdcacM1
import Derived.Test.YtmcongioghkdcacM2
import Derived.Deep.AppendLies
namespace Go.Proofs.Ytmcongioghkdcac
open Go.RowKit Go.WideShapes

attribute [local go_sem] Oper.semAt_some

theorem region_round_held {P : Program} {ops : Array Oper} {Q : Exit → Act → World → Prop} {S : World → Prop} {id : Nat} {a : Act} {w : World} (r n : Nat) (hnd : noDefer ops = true) (hQ : ∀ a w, ¬ Q .outgrown a w) (hm : P.follows .mixedOrders = true)
    (hS : S w.drew) (h : S w.drew → wpAnyH P .any ops Q S ops.size (Array.replicate ops.size false) a w.drew) : (Code.region id ops true).wpIn (Fence.wide.inRound r) n P Q a w :=
  region_round_any r n hnd hQ hm (wpAny_of_held _ _ _ _ (h hS))
theorem endK_sum {f : Nat → Int} {l : List Nat} : ∀ k, k ≤ l.length → endK (fun q => f (l.getD q 0)) k = sumL f (l.take k)
  | 0, _ => by simp [endK, sumL]
  | k + 1, h => by
    rw [endK, endK_sum k (by omega)]
    have hq : l[k]? = some (l.getD k 0) := by rw [List.getD_eq_getElem?_getD, List.getElem?_eq_getElem (by omega)]; rfl
    rw [sum_snoc hq]
/-- what holds behind k rounds -/
structure SumI (w : World) (n m : Nat) (rule : Value) (s : Nat → Int) (k : Nat) (W : World) : Prop where
  below : Below w.heap.size w W
  rule : W.cell? ⟨n, 0, none⟩ = some rule
  sum : W.cell? ⟨m, 0, none⟩ = some (.int .i64 (s k))
  free : W.frozen? ⟨m, 0, none⟩ = false
theorem SumI.later {w : World} {n m : Nat} {rule : Value} {s : Nat → Int} {k p : Nat} {A B : World} (h : SumI w n m rule s k A) (hb : Below p A B) (hn : n < p) (hm : m < p) (hw : w.heap.size ≤ p) : SumI w n m rule s k B :=
  ⟨h.below.trans (hb.mono hw), (hb.cell (p := ⟨n, 0, none⟩) hn).trans h.rule, (hb.cell (p := ⟨m, 0, none⟩) hm).trans h.sum, by rw [World.frozen?_of_block (w := A) (hb.block m hm)]; exact h.free⟩
set_option maxRecDepth 100000 in
set_option maxHeartbeats 4000000 in
theorem sumOver_yes (f : Nat) (g : Int → Int → Int → Int → Int) (hent : ∀ (args : Array Value) (w : World), (callFunc f args).run Try.prog w = .ok (.enter f args) w) (hrule : RuleIs f g)
    (hg : ∀ t v d c, 0 ≤ t ∧ t ≤ 9 → 0 ≤ v ∧ v ≤ 9 → 0 ≤ d ∧ d ≤ 60 → 0 ≤ c ∧ c ≤ 72 → 0 ≤ g t v d c ∧ g t v d c ≤ 700)
    (a : Option Addr) (len cap : Nat) (rows : List (List Int)) (a2 : Option Addr) (len2 cap2 : Nat) (o : List Int) (w : World) (h : RowsAt w (· < w.heap.size) a len rows) (gi : IntsAt w (· < w.heap.size) a2 len2 o) (hc : len ≤ cap) (hf : rowFine rows o = true) :
    Calls Try.prog 23 #[.slice a len cap, .slice a2 len2 cap2, .func (.func f) #[] #[]] w (ValPost w (.int .i64 (costG (ta rows) (fun x c => g (ta rows x) (tb rows x) (td rows x) c) 0 (nO o)))) := by
  obtain ⟨hp, hO⟩ := rowFine_get hf
  have HL := Lib.hid h.lenEq
  have hl8 : len ≤ 8 := by have := (jobs_get hp).1; have := HL.out; omega
  have HNL := Lib.hid (show (nO o).length = len by unfold nO; rw [List.length_map]; have := hO.2; have := HL.out; omega)
  have hba := (Below.refl w.heap.size w).alloc (Nat.le_refl _) (.cells #[.func (.func f) #[] #[]] 63)
  have HR := Lib.hid (rowOf_any a len cap rows a2 len2 cap2 o (w.alloc (.cells #[.func (.func f) #[] #[]] 63)) ((h.below hba).to fun b hb => ⟨by simp; omega, rfl⟩) ((gi.below hba).to fun b hb => ⟨by simp; omega, rfl⟩) hc)
  have HBA := Lib.hid hba
  have hrc := cell_new_l w (.func (.func f) #[] #[]) 63
  have HRC := Lib.hid hrc
  clear h gi hba hrc
  refine (callsIn_wide (n := 9)).1 ?_
  refine callsIn_of_wp_marks Try.func23 rfl trivial ?_ rfl
  simp only [Try.ntmps23, List.size_toArray, List.length_cons, List.length_nil, Nat.reduceAdd, Nat.reduceSub, Array.replicate_succ, Array.replicate_zero, List.push_toArray, List.append_toArray, List.nil_append, List.cons_append]
  gi_wp2_with fail
  refine ⟨trivial, (callsIn_wide.2 HR.out).mono ?_⟩
  rintro e w2 ⟨hb2, ⟨hf2, _⟩ | ⟨_, B, rfl, hBw, hB2, hJ⟩⟩
  · rw [hf] at hf2; cases hf2
  gi_wp2_with fail
  refine ⟨trivial, (endsOf_any 8 B len len _).mono ?_⟩
  rintro e w3 ⟨rfl, rfl⟩
  gi_wp2_with fail
  obtain ⟨W0, hW0⟩ : ∃ W0, ((w2.alloc (Obj.cells #[Value.int IntKind.i64 0] 3)).alloc (.cells #[.slice (some ⟨B, 0, none⟩) len len] 46)) = W0 := ⟨_, rfl⟩
  have hws : w.heap.size < w2.heap.size := by have := hb2.size; simp at this; omega
  have hBws : w.heap.size < B := by simp at hBw; omega
  have hsz : W0.heap.size = w2.heap.size + 2 := by rw [← hW0]; simp
  have hb20 : Below w2.heap.size w2 W0 := by rw [← hW0]; exact ((Below.refl _ _).alloc (Nat.le_refl _) _).alloc (by simp) _
  have hbl : Below w.heap.size w W0 := HBA.out.trans ((hb2.mono (by simp)).trans (hb20.mono (by omega)))
  obtain ⟨t, ht⟩ : ∃ t, (fun q => ta rows ((nO o).getD q 0)) = t := ⟨_, rfl⟩
  obtain ⟨v, hv⟩ : ∃ v, (fun q => tb rows ((nO o).getD q 0)) = v := ⟨_, rfl⟩
  obtain ⟨d, hd⟩ : ∃ d, (fun q => td rows ((nO o).getD q 0)) = d := ⟨_, rfl⟩
  rw [ht, hv, hd] at hJ
  have HT := Lib.hid ht
  have HV := Lib.hid hv
  have HD := Lib.hid hd
  have HBD := Lib.hid (show ∀ q, (0 ≤ t q ∧ t q ≤ 9) ∧ (0 ≤ v q ∧ v q ≤ 9) ∧ (0 ≤ d q ∧ d q ≤ 60) from fun q => by rw [← ht, ← hv, ← hd]; exact j_bd hp _)
  have hJ0 := hJ.block (hb20.block B hB2)
  have hc0 : W0.cell? ⟨w2.heap.size + 1, 0, none⟩ = some (.slice (some ⟨B, 0, none⟩) len len) := by
    rw [← hW0]
    have z := cell_new_l (w2.alloc (Obj.cells #[Value.int IntKind.i64 0] 3)) (.slice (some ⟨B, 0, none⟩) len len) 46
    simp only [World.size_alloc] at z
    exact z.1
  have hI0 : SumI w w.heap.size w2.heap.size (.func (.func f) #[] #[]) (fun k => costG (ta rows) (fun x c => g (ta rows x) (tb rows x) (td rows x) c) 0 ((nO o).take k)) 0 W0 := by
    refine ⟨hbl, ?_, ?_, ?_⟩
    · exact (hb20.cell (p := ⟨w.heap.size, 0, none⟩) hws).trans ((hb2.cell (p := ⟨w.heap.size, 0, none⟩) (by simp)).trans HRC.out.1)
    all_goals rw [← hW0]
    · have z := cell_new_l w2 (.int .i64 0) 3
      exact cell_alloc_l _ z.1
    · have z := cell_new_l w2 (.int .i64 0) 3
      exact frozen_alloc_l _ z.1 z.2
  rw [hW0]
  have HSEQ := ends_seq B len (w2.heap.size + 1) t v d W0 hl8 (fun q => (HBD.out q).1) (by omega) (by omega) hc0 hJ0
  clear hW0 hJ hJ0 hc0 ht hv hd hb2 hBw
  try simp only [Nat.add_assoc, Nat.reduceAdd]
  refine wpIn_rangeFunc_countP rfl (by omega) (gf := 52) (lb := #[.pointer (some ⟨w2.heap.size + 1, 0, none⟩)]) rfl trivial (enters_of Try.func52 (by kernel_rfl) rfl) (fun b hb => by omega) HSEQ (fun _ => rfl)
    (fun m k x A B he _ => he)
    (SumI w w.heap.size w2.heap.size (.func (.func f) #[] #[]) (fun k => costG (ta rows) (fun x c => g (ta rows x) (tb rows x) (td rows x) c) 0 ((nO o).take k))) (fun k A B hi hb => hi.later hb (by omega) (by omega) (by omega)) hI0
    (fun x W => { tmps := #[.slice a len cap, .slice a2 len2 cap2, .func (.func f) #[] #[], undef, undef, .pointer (some ⟨w.heap.size, 0, none⟩), .int .i64 0, .slice (some ⟨B, 0, none⟩) len len, .bool true, .pointer (some ⟨w2.heap.size, 0, none⟩), .pointer (some ⟨W.heap.size, 0, none⟩), .int .i64 (endK t (x + 1)),
      .tuple #[.slice (some ⟨B, 0, none⟩) len len, .bool true], .slice a len cap, .slice a2 len2 cap2, .tuple #[.slice (some ⟨B, 0, none⟩) len len, .bool true], .slice (some ⟨B, 0, none⟩) len len, .bool true, .bool true, .bool false, .slice (some ⟨B, 0, none⟩) len len,
      .func (.func 52) #[] #[.pointer (some ⟨w2.heap.size + 1, 0, none⟩)], .agg #[.int .i64 (t x), .int .i64 (v x), .int .i64 (d x)], .int .i64 (endK t (x + 1)), undef, undef, undef, undef, undef, undef, undef], defers := [] })
    (fun x W => W.alloc (.cells #[.int .i64 (t x), .int .i64 (v x), .int .i64 (d x)] 52)) (fun x W => (Below.refl _ _).alloc (Nat.le_refl _) _)
    ?assign ?body ?done
  case assign =>
    rintro l x W K hK
    dsimp only [encE] at hK ⊢
    gi_wp2
    exact hK
  case body =>
    rintro l k x W0' W hWs hnew hnsz hI ⟨rfl, hkl⟩
    have mixed : Try.prog.follows .mixedOrders = true := by kernel_rfl
    have hz : W0'.heap.size < W.heap.size := by rw [hnsz]; simp
    have hcell : ∀ j, W.cell? ⟨W0'.heap.size, j, none⟩ = #[Value.int .i64 (t x), Value.int .i64 (v x), Value.int .i64 (d x)][j]? := fun j => by
      rw [World.cell?_of_block (w := W0'.alloc (.cells #[.int .i64 (t x), .int .i64 (v x), .int .i64 (d x)] 52)) (hnew _ (by omega)), World.cell?_alloc_new]
    have j0 : W.cell? ⟨W0'.heap.size, 0, none⟩ = some (.int .i64 (t x)) := (hcell 0).trans rfl
    have j1 : W.cell? ⟨W0'.heap.size, 1, none⟩ = some (.int .i64 (v x)) := (hcell 1).trans rfl
    have j2 : W.cell? ⟨W0'.heap.size, 2, none⟩ = some (.int .i64 (d x)) := (hcell 2).trans rfl
    have c1 := hI.rule
    have c2 := hI.sum
    have c3 := hI.free
    have HI := Lib.hid hI
    have hq : (nO o)[x]? = some ((nO o).getD x 0) := by rw [List.getD_eq_getElem?_getD, List.getElem?_eq_getElem (by rw [HNL.out]; omega)]; rfl
    have hcs := cost_step (t := ta rows) (g := fun x c => g (ta rows x) (tb rows x) (td rows x) c) hq
    have hen : endK t (x + 1) = sumL (ta rows) ((nO o).take (x + 1)) := by rw [← HT.out]; exact endK_sum _ (by rw [HNL.out]; omega)
    have htx : ta rows ((nO o).getD x 0) = t x := by rw [← HT.out]
    have hvx : tb rows ((nO o).getD x 0) = v x := by rw [← HV.out]
    have hdx : td rows ((nO o).getD x 0) = d x := by rw [← HD.out]
    rw [← hen] at hcs
    rw [htx, hvx, hdx] at hcs
    have heb := endK_bd (fun q => (HBD.out q).1) (x + 1)
    have hcb := cost_bd (t := ta rows) (g := fun x c => g (ta rows x) (tb rows x) (td rows x) c) (fun x => (j_bd hp x).1) (fun x c h1 h2 => hg _ _ _ _ (j_bd hp x).1 (j_bd hp x).2.1 (j_bd hp x).2.2 ⟨h1, h2⟩) (l := nO o) (by rw [HNL.out]; exact hl8) x
    have hgb := hg (t x) (v x) (d x) (endK t (x + 1)) (HBD.out x).1 (HBD.out x).2.1 (HBD.out x).2.2 ⟨heb.1, by omega⟩
    have HRU := Lib.hid (fun W => hrule (t x) (v x) (d x) (endK t (x + 1)) W (HBD.out x).1 (HBD.out x).2.1 (HBD.out x).2.2 ⟨heb.1, by omega⟩)
    have HCS := Lib.hid hcs
    have hlt1 : w.heap.size < W.heap.size := by omega
    have hlt2 : w2.heap.size < W.heap.size := by omega
    have HNEW := Lib.hid (show ∀ b, b ≠ w2.heap.size → ∀ v, (W.setCell ⟨w2.heap.size, 0, none⟩ v).heap[b]? = W.heap[b]? from fun b hb v => Below.heap_setCell _ _ _ _ hb)
    clear hq hcs hen htx hvx hdx hcell hnew hnsz hI
    generalize endK t (x + 1) = en at *
    generalize g (t x) (v x) (d x) en = gv at *
    generalize costG (ta rows) (fun x c => g (ta rows x) (tb rows x) (td rows x) c) 0 ((nO o).take x) = s at *
    gi_wp2
    refine region_round_held (S := fun w' => w'.cell? ⟨w.heap.size, 0, none⟩ = some (.func (.func f) #[] #[]) ∧ w'.cell? ⟨W0'.heap.size, 0, none⟩ = some (.int .i64 (t x)) ∧ w'.cell? ⟨W0'.heap.size, 1, none⟩ = some (.int .i64 (v x)) ∧ w'.cell? ⟨W0'.heap.size, 2, none⟩ = some (.int .i64 (d x)))
      l _ (by kernel_rfl) (fun _ _ h => h) mixed ⟨c1, j0, j1, j2⟩ (fun hHeld => ?_)
    refine wpAnyH_take (i := 1) (v := .func (.func f) #[] #[]) rfl (by kernel_rfl) (by kernel_rfl) (by kernel_rfl) (fun _ _ _ h => h) (Or.inl ⟨by rfl, ?y1⟩) hHeld ?r1
    case y1 => rintro w' ⟨k3, k4, k5, k6⟩; go_simp
    simp only [Act.put, List.setIfInBounds_toArray, List.set_cons_zero, List.set_cons_succ]
    refine wpAnyH_take (i := 2) (v := .agg #[.int .i64 (t x), .int .i64 (v x), .int .i64 (d x)]) rfl (by kernel_rfl) (by kernel_rfl) (by kernel_rfl) (fun _ _ _ h => h) (Or.inl ⟨by rfl, ?y2⟩) hHeld ?r2
    case y2 => rintro w' ⟨k3, k4, k5, k6⟩; go_simp
    simp only [Act.put, List.setIfInBounds_toArray, List.set_cons_zero, List.set_cons_succ]
    refine wpAnyH_take (i := 3) (v := .int .i64 en) rfl (by kernel_rfl) (by kernel_rfl) (by kernel_rfl) (fun _ _ _ h => h) (Or.inl ⟨by rfl, ?y3⟩) hHeld ?r3
    case y3 => rintro w' ⟨k3, k4, k5, k6⟩; go_simp
    simp only [Act.put, List.setIfInBounds_toArray, List.set_cons_zero, List.set_cons_succ]
    refine wpAnyH_ready (rs := [0, 4]) (by kernel_rfl) (by simp) ?_
    have FIN := Lib.hid (show ∀ w4, Below W.drew.heap.size W.drew w4 → w4.cell? ⟨w.heap.size, 0, none⟩ = some (.func (.func f) #[] #[]) → w4.cell? ⟨w2.heap.size, 0, none⟩ = some (.int .i64 s) → w4.frozen? ⟨w2.heap.size, 0, none⟩ = false →
        KeepsP (fun b => W0.heap.size ≤ b ∨ b = B) W (w4.setCell ⟨w2.heap.size, 0, none⟩ (.int .i64 (s + gv))) ∧ SumI w w.heap.size w2.heap.size (.func (.func f) #[] #[]) (fun k => costG (ta rows) (fun x c => g (ta rows x) (tb rows x) (td rows x) c) 0 ((nO o).take k)) (x + 1) (w4.setCell ⟨w2.heap.size, 0, none⟩ (.int .i64 (s + gv))) from
      fun w4 hb4 q1 q2 q3 => ⟨(KeepsP.below _ (W' := w4) ((Below.refl W.heap.size W).drew.trans hb4)).trans (KeepsP.setCell _ _ (by show ¬ (W0.heap.size ≤ w2.heap.size ∨ w2.heap.size = B); omega) _),
        (HI.out.below.drew.trans (hb4.mono (by show w.heap.size ≤ W.heap.size; omega))).setCell (by show w.heap.size ≤ w2.heap.size; omega) _,
        by rw [World.cell?_setCell_other _ _ _ _ (by intro e'; injection e' with e1; omega)]; exact q1, by rw [HCS.out]; exact World.cell?_setCell_same _ _ _ q2, by rw [World.frozen?_setCell]; exact q3⟩)
    refine AllReadyH.cons (o := _) rfl (fun K hK => ?_) (AllReadyH.cons (o := _) rfl (fun K hK => ?_) AllReadyH.nil)
    · go_simp
      refine hK.out _ _ ⟨c1, j0, j1, j2⟩ (fun hHeld => ?_)
      clear hK K
      try simp only [Act.put, List.setIfInBounds_toArray, List.set_cons_zero, List.set_cons_succ]
      refine wpAnyH_ready (rs := [4]) (by kernel_rfl) (by simp) ?_
      refine AllReadyH.cons (o := _) rfl (fun K hK => ?_) AllReadyH.nil
      go_simp
      refine (HRU.out _).mono ?_
      rintro e w4 ⟨rfl, hb4⟩
      have q1 := (hb4.cell (p := ⟨w.heap.size, 0, none⟩) hlt1).trans c1
      have q2 := (hb4.cell (p := ⟨w2.heap.size, 0, none⟩) hlt2).trans c2
      have q3 : w4.frozen? ⟨w2.heap.size, 0, none⟩ = false := by rw [World.frozen?_of_block (w := W.drew) (hb4.block _ hlt2)]; exact c3
      have q4 := (hb4.cell (p := ⟨W0'.heap.size, 0, none⟩) hz).trans j0
      have q5 := (hb4.cell (p := ⟨W0'.heap.size, 1, none⟩) hz).trans j1
      have q6 := (hb4.cell (p := ⟨W0'.heap.size, 2, none⟩) hz).trans j2
      refine hK.out _ _ ⟨q1, q4, q5, q6⟩ (fun hHeld => ?_)
      clear hK K
      try simp only [Act.put, List.setIfInBounds_toArray, List.set_cons_zero, List.set_cons_succ]
      refine wpAnyH_take (i := 5) (v := .int .i64 (s + gv)) rfl (by kernel_rfl) (by kernel_rfl) (by kernel_rfl) (fun _ _ _ h => h) (Or.inl ⟨by rfl, ?_⟩) hHeld ?_
      · intro w' _; go_simp; exact IntWalk.i64_in _ (by omega)
      try simp only [Act.put, List.setIfInBounds_toArray, List.set_cons_zero, List.set_cons_succ]
      refine wpAnyH_ready (rs := [6]) (by kernel_rfl) (by simp) ?_
      refine AllReadyH.cons (o := _) rfl (fun K hK => ?_) AllReadyH.nil
      go_simp
      refine hK.out _ _ ⟨?_, ?_, ?_, ?_⟩ (fun hHeld => ?_)
      · rw [World.cell?_setCell_other _ _ _ _ (by intro e'; injection e' with e1; omega)]; exact q1
      · rw [World.cell?_setCell_other _ _ _ _ (by intro e'; injection e' with e1; omega)]; exact q4
      · rw [World.cell?_setCell_other _ _ _ _ (by intro e'; injection e' with e1; omega)]; exact q5
      · rw [World.cell?_setCell_other _ _ _ _ (by intro e'; injection e' with e1; omega)]; exact q6
      clear hK K
      try simp only [Act.put, List.setIfInBounds_toArray, List.set_cons_zero, List.set_cons_succ]
      refine wpAnyH_done (by kernel_rfl) ?_ _
      exact FIN.out w4 hb4 q1 q2 q3
    · go_simp
      refine (HRU.out _).mono ?_
      rintro e w4 ⟨rfl, hb4⟩
      have q1 := (hb4.cell (p := ⟨w.heap.size, 0, none⟩) hlt1).trans c1
      have q2 := (hb4.cell (p := ⟨w2.heap.size, 0, none⟩) hlt2).trans c2
      have q3 : w4.frozen? ⟨w2.heap.size, 0, none⟩ = false := by rw [World.frozen?_of_block (w := W.drew) (hb4.block _ hlt2)]; exact c3
      have q4 := (hb4.cell (p := ⟨W0'.heap.size, 0, none⟩) hz).trans j0
      have q5 := (hb4.cell (p := ⟨W0'.heap.size, 1, none⟩) hz).trans j1
      have q6 := (hb4.cell (p := ⟨W0'.heap.size, 2, none⟩) hz).trans j2
      refine hK.out _ _ ⟨q1, q4, q5, q6⟩ (fun hHeld => ?_)
      clear hK K
      try simp only [Act.put, List.setIfInBounds_toArray, List.set_cons_zero, List.set_cons_succ]
      refine wpAnyH_ready (rs := [0]) (by kernel_rfl) (by simp) ?_
      refine AllReadyH.cons (o := _) rfl (fun K hK => ?_) AllReadyH.nil
      go_simp
      refine hK.out _ _ ⟨q1, q4, q5, q6⟩ (fun hHeld => ?_)
      clear hK K
      try simp only [Act.put, List.setIfInBounds_toArray, List.set_cons_zero, List.set_cons_succ]
      refine wpAnyH_take (i := 5) (v := .int .i64 (s + gv)) rfl (by kernel_rfl) (by kernel_rfl) (by kernel_rfl) (fun _ _ _ h => h) (Or.inl ⟨by rfl, ?_⟩) hHeld ?_
      · intro w' _; go_simp; exact IntWalk.i64_in _ (by omega)
      try simp only [Act.put, List.setIfInBounds_toArray, List.set_cons_zero, List.set_cons_succ]
      refine wpAnyH_ready (rs := [6]) (by kernel_rfl) (by simp) ?_
      refine AllReadyH.cons (o := _) rfl (fun K hK => ?_) AllReadyH.nil
      go_simp
      refine hK.out _ _ ⟨?_, ?_, ?_, ?_⟩ (fun hHeld => ?_)
      · rw [World.cell?_setCell_other _ _ _ _ (by intro e'; injection e' with e1; omega)]; exact q1
      · rw [World.cell?_setCell_other _ _ _ _ (by intro e'; injection e' with e1; omega)]; exact q4
      · rw [World.cell?_setCell_other _ _ _ _ (by intro e'; injection e' with e1; omega)]; exact q5
      · rw [World.cell?_setCell_other _ _ _ _ (by intro e'; injection e' with e1; omega)]; exact q6
      clear hK K
      try simp only [Act.put, List.setIfInBounds_toArray, List.set_cons_zero, List.set_cons_succ]
      refine wpAnyH_done (by kernel_rfl) ?_ _
      exact FIN.out w4 hb4 q1 q2 q3
  case done =>
    rintro D k W hD rfl hI hK
    have c2 := hI.sum
    have HI := Lib.hid hI
    have HALL := Lib.hid (show (nO o).take k = nO o from List.take_of_length_le (by rw [HNL.out]; exact Nat.le_refl _))
    clear hI
    rw [HALL.out] at c2
    gi_wp2
    exact leaves_marks (fun _ => results_tmp rfl _ _ _) [D] W ⟨⟨hK, hD, fun x hx => by cases hx⟩, trivial⟩ (fun w' hw' => ⟨rfl, HI.out.below.trans (hw'.below.mono (by omega))⟩)
theorem sumOver_no (v : Value) (hv : v.oneCell' = true) (a : Option Addr) (len cap : Nat) (rows : List (List Int)) (a2 : Option Addr) (len2 cap2 : Nat) (o : List Int) (w : World) (h : RowsAt w (· < w.heap.size) a len rows) (gi : IntsAt w (· < w.heap.size) a2 len2 o) (hc : len ≤ cap) (hf : rowFine rows o = false) (fv : ∃ f : Nat, v = .func (.func f) #[] #[]) :
    Calls Try.prog 23 #[.slice a len cap, .slice a2 len2 cap2, v] w (ValPost w (.int .i64 (-1))) := by
  obtain ⟨f, rfl⟩ := fv
  have hba := (Below.refl w.heap.size w).alloc (Nat.le_refl _) (.cells #[.func (.func f) #[] #[]] 63)
  have HR := Lib.hid (rowOf_any a len cap rows a2 len2 cap2 o (w.alloc (.cells #[.func (.func f) #[] #[]] 63)) ((h.below hba).to fun b hb => ⟨by simp; omega, rfl⟩) ((gi.below hba).to fun b hb => ⟨by simp; omega, rfl⟩) hc)
  have HBA := Lib.hid hba
  clear h gi hba hv
  refine (callsIn_wide (n := 9)).1 ?_
  refine callsIn_of_wp Try.func23 rfl trivial ?_ rfl
  simp only [Try.ntmps23, List.size_toArray, List.length_cons, List.length_nil, Nat.reduceAdd, Nat.reduceSub, Array.replicate_succ, Array.replicate_zero, List.push_toArray, List.append_toArray, List.nil_append, List.cons_append]
  gi_wp2_with fail
  refine ⟨trivial, (callsIn_wide.2 HR.out).mono ?_⟩
  rintro e w2 ⟨hb2, ⟨hf2, rfl⟩ | ⟨hf2, _⟩⟩
  · gi_wp2_with fail
    go_ret
    exact ⟨rfl, HBA.out.trans (hb2.mono (by simp))⟩
  · rw [hf] at hf2; cases hf2
theorem lateOf_impl (a : Option Addr) (len cap : Nat) (rows : List (List Int)) (a2 : Option Addr) (len2 cap2 : Nat) (o : List Int) (w : World) (h : RowsAt w (· < w.heap.size) a len rows) (g : IntsAt w (· < w.heap.size) a2 len2 o) (hc : len ≤ cap) (hc2 : len2 ≤ cap2) :
    Calls Try.prog 11 #[.slice a len cap, .slice a2 len2 cap2] w (ValPost w (.int .i64 (lateRes rows o))) := by
  cases hf : rowFine rows o
  · have HR := Lib.hid (show lateRes rows o = -1 by unfold lateRes; rw [hf]; rfl)
    have HS := Lib.hid (sumOver_no (.func (.func 31) #[] #[]) rfl a len cap rows a2 len2 cap2 o w h g hc hf ⟨_, rfl⟩)
    rw [HR.out]
    clear h g hf HR
    go_enter Try.func11, Try.ntmps11
    go_wp2_with fail
    refine HS.out.mono ?_
    rintro e w' ⟨rfl, hb⟩
    go_wp2_with fail
    go_ret
    exact ⟨rfl, hb⟩
  · have HR := Lib.hid (show lateRes rows o = costG (ta rows) (lateG (td rows)) 0 (nO o) by unfold lateRes; rw [hf]; rfl)
    have hs := sumOver_yes 31 lateR (enters_of Try.func31 (by kernel_rfl) rfl) lateAt_any (fun t v d c _ hv _ hc => by
      unfold lateR; split <;> omega) a len cap rows a2 len2 cap2 o w h g hc hf
    rw [show (fun x c => lateR (ta rows x) (tb rows x) (td rows x) c) = lateG (td rows) from rfl] at hs
    have HS := Lib.hid hs
    rw [HR.out]
    clear h g hf hs HR
    generalize costG (ta rows) (lateG (td rows)) 0 (nO o) = v at *
    go_enter Try.func11, Try.ntmps11
    go_wp2_with fail
    refine HS.out.mono ?_
    rintro e w' ⟨rfl, hb⟩
    go_wp2_with fail
    go_ret
    exact ⟨rfl, hb⟩
theorem tardyOf_impl (a : Option Addr) (len cap : Nat) (rows : List (List Int)) (a2 : Option Addr) (len2 cap2 : Nat) (o : List Int) (w : World) (h : RowsAt w (· < w.heap.size) a len rows) (g : IntsAt w (· < w.heap.size) a2 len2 o) (hc : len ≤ cap) (hc2 : len2 ≤ cap2) :
    Calls Try.prog 8 #[.slice a len cap, .slice a2 len2 cap2] w (ValPost w (.int .i64 (tardRes rows o))) := by
  cases hf : rowFine rows o
  · have HR := Lib.hid (show tardRes rows o = -1 by unfold tardRes; rw [hf]; rfl)
    have HS := Lib.hid (sumOver_no (.func (.func 24) #[] #[]) rfl a len cap rows a2 len2 cap2 o w h g hc hf ⟨_, rfl⟩)
    rw [HR.out]
    clear h g hf HR
    go_enter Try.func8, Try.ntmps8
    go_wp2_with fail
    refine HS.out.mono ?_
    rintro e w' ⟨rfl, hb⟩
    go_wp2_with fail
    go_ret
    exact ⟨rfl, hb⟩
  · have HR := Lib.hid (show tardRes rows o = costG (ta rows) (tardG (tb rows) (td rows)) 0 (nO o) by unfold tardRes; rw [hf]; rfl)
    have hs := sumOver_yes 24 tardR (enters_of Try.func24 (by kernel_rfl) rfl) tardyAt_any (fun t v d c _ hv hd hc => by
      have := mul_boxJ hv.1 hv.2 (show 0 ≤ max (c - d) 0 by omega) (show max (c - d) 0 ≤ 72 by omega)
      unfold tardR; omega) a len cap rows a2 len2 cap2 o w h g hc hf
    rw [show (fun x c => tardR (ta rows x) (tb rows x) (td rows x) c) = tardG (tb rows) (td rows) from rfl] at hs
    have HS := Lib.hid hs
    rw [HR.out]
    clear h g hf hs HR
    generalize costG (ta rows) (tardG (tb rows) (td rows)) 0 (nO o) = v at *
    go_enter Try.func8, Try.ntmps8
    go_wp2_with fail
    refine HS.out.mono ?_
    rintro e w' ⟨rfl, hb⟩
    go_wp2_with fail
    go_ret
    exact ⟨rfl, hb⟩
end Go.Proofs.Ytmcongioghkdcac
namespace Go.Proofs.Ytmcongioghkdcac

-- orders, one after the other (plain)
def swN (xs : List Nat) (i j : Nat) : List Nat := (xs.set i (xs.getD j 0)).set j (xs.getD i 0)
theorem swN_length (xs : List Nat) (i j : Nat) : (swN xs i j).length = xs.length := by simp [swN]
def revK (xs : List Nat) (lo hi : Nat) : Nat → List Nat
  | 0 => xs
  | f + 1 => if lo < hi then revK (swN xs lo hi) (lo + 1) (hi - 1) f else xs
theorem revK_end {xs : List Nat} {lo hi : Nat} (h : ¬ lo < hi) (f : Nat) : revK xs lo hi f = xs := by
  cases f with
  | zero => rfl
  | succ f => rw [revK, if_neg h]
theorem revK_length : ∀ (f : Nat) (xs : List Nat) (lo hi : Nat), (revK xs lo hi f).length = xs.length := by
  intro f
  induction f with
  | zero => intro xs lo hi; rfl
  | succ f ih => intro xs lo hi; rw [revK]; split
                 · rw [ih, swN_length]
                 · rfl
/-- the last place below k whose number is less than the next one -/
def riseAt (xs : List Nat) : Nat → Option Nat
  | 0 => none
  | k + 1 => if xs.getD (k + 1) 0 ≤ xs.getD k 0 then riseAt xs k else some k
/-- the last place up to k whose number is greater than x -/
def overAt (xs : List Nat) (x : Nat) : Nat → Nat
  | 0 => 0
  | k + 1 => if xs.getD (k + 1) 0 ≤ x then overAt xs x k else k + 1
def nextP (xs : List Nat) : Option (List Nat) :=
  match riseAt xs (xs.length - 1) with
  | none => none
  | some a => some (revK (swN xs a (overAt xs (xs.getD a 0) (xs.length - 1))) (a + 1) (xs.length - 1) xs.length)
def ordK : Nat → List Nat → List (List Nat)
  | 0, _ => []
  | f + 1, xs => xs :: match nextP xs with
    | none => []
    | some ys => ordK f ys
def ordL (n : Nat) : List (List Nat) := ordK 125 (List.range n)
/-- all orders that begin with h -/
def ordF (n : Nat) : Nat → List Nat → List (List Nat)
  | 0, h => [h]
  | f + 1, h => (List.range n).flatMap (fun i => if i ∈ h then [] else ordF n f (h ++ [i]))
theorem ordF_mem {n : Nat} : ∀ (t h : List Nat), (h ++ t).Perm (List.range n) → h ++ t ∈ ordF n t.length h := by
  intro t
  induction t with
  | nil => intro h _; rw [List.append_nil, List.length_nil, ordF]; simp
  | cons x t ih =>
    intro h hp
    have hn := hp.symm.nodup List.nodup_range
    have hx : x < n := by have := hp.mem_iff.1 (show x ∈ h ++ x :: t by simp); simpa using this
    have hxh : x ∉ h := fun hm => (List.nodup_append.1 hn).2.2 x hm x (by simp) rfl
    rw [List.length_cons, ordF, List.mem_flatMap]
    refine ⟨x, List.mem_range.2 hx, ?_⟩
    rw [if_neg hxh]
    have := ih (h ++ [x]) (by simpa using hp)
    simpa using this
def ordOk (n : Nat) : Bool := (ordL n == ordF n n []) && (ordL n)[0]? == some (List.range n) && (ordL n).all (fun l => l.length == n && l.all (fun x => decide (x < n)) && l.isPerm (List.range n))
  && (List.range (ordL n).length).all (fun k => nextP ((ordL n).getD k []) == (ordL n)[k + 1]?)
theorem ordOk_all : ((List.range 6).all ordOk) = true := by decide +kernel
structure OrdIs (n : Nat) : Prop where
  all : ∀ l : List Nat, l.Perm (List.range n) → l ∈ ordL n
  first : (ordL n)[0]? = some (List.range n)
  len : ∀ l ∈ ordL n, l.length = n ∧ (∀ x ∈ l, x < n) ∧ l.Perm (List.range n)
  next : ∀ k, k < (ordL n).length → nextP ((ordL n).getD k []) = (ordL n)[k + 1]?
theorem ord_is {n : Nat} (h : n ≤ 5) : OrdIs n := by
  have := List.all_eq_true.1 ordOk_all n (List.mem_range.2 (by omega))
  simp only [ordOk, Bool.and_eq_true, beq_iff_eq, List.all_eq_true] at this
  obtain ⟨⟨⟨h1, h2⟩, h3⟩, h4⟩ := this
  refine ⟨fun l hp => ?_, h2, fun l hl => ?_, fun k hk => h4 k (List.mem_range.2 hk)⟩
  · rw [h1]
    have hl : l.length = n := by have := hp.length_eq; simpa using this
    have := ordF_mem l [] (by simpa using hp)
    rw [hl] at this
    simpa using this
  · obtain ⟨⟨e1, e2⟩, e3⟩ := h3 l hl
    exact ⟨e1, fun x hx => by simpa using e2 x hx, List.isPerm_iff.1 e3⟩
theorem ordL_pos {n : Nat} (h : n ≤ 5) : 0 < (ordL n).length := (List.getElem?_eq_some_iff.1 (ord_is h).first).1
/-- the least so far of k spans, -1: of none -/
def lstT (sp : Nat → Int) : Nat → Int
  | 0 => -1
  | k + 1 => if lstT sp k < 0 ∨ sp k < lstT sp k then sp k else lstT sp k
theorem lstT_is {sp : Nat → Int} (h : ∀ k, 0 ≤ sp k) : ∀ k, (k = 0 → lstT sp k = -1) ∧ (0 < k → 0 ≤ lstT sp k) ∧ (∀ j, j < k → lstT sp k ≤ sp j) ∧ (0 < k → ∃ j, j < k ∧ lstT sp k = sp j) := by
  intro k
  induction k with
  | zero => exact ⟨fun _ => rfl, fun h => absurd h (by omega), fun j hj => absurd hj (by omega), fun h => absurd h (by omega)⟩
  | succ k ih =>
    obtain ⟨h1, h2, h3, h4⟩ := ih
    have hk := h k
    refine ⟨fun e => by omega, fun _ => ?_, fun j hj => ?_, fun _ => ?_⟩
    · rw [lstT]; split
      · exact hk
      · rename_i hc; omega
    · rw [lstT]; split
      · rename_i hc
        by_cases e : j = k
        · subst e; omega
        · have := h3 j (by omega); have := h2 (by omega); omega
      · rename_i hc
        by_cases e : j = k
        · subst e; omega
        · exact h3 j (by omega)
    · rw [lstT]; split
      · exact ⟨k, by omega, rfl⟩
      · rename_i hc
        have : 0 < k := by
          rcases Nat.eq_zero_or_pos k with e | e
          · have := h1 e; omega
          · exact e
        obtain ⟨j, hj, e⟩ := h4 this
        exact ⟨j, by omega, e⟩
theorem ord_least {a b : Nat → Int} (ha : ∀ x, 0 ≤ a x) (hb : ∀ x, 0 ≤ b x) {n : Nat} (h : n ≤ 5) : LeastO a b n (lstT (fun k => spanT a b ((ordL n).getD k [])) (ordL n).length) := by
  have hO := ord_is h
  have hp := ordL_pos h
  obtain ⟨_, _, h3, h4⟩ := lstT_is (sp := fun k => spanT a b ((ordL n).getD k [])) (fun k => span_nn ha hb _) (ordL n).length
  obtain ⟨j, hj, e⟩ := h4 hp
  refine ⟨⟨(ordL n).getD j [], (hO.len _ ?_).2.2, e.symm⟩, fun l hl => ?_⟩
  · rw [List.getD_eq_getElem?_getD, List.getElem?_eq_getElem hj]; exact List.getElem_mem hj
  · obtain ⟨i, hi, rfl⟩ := List.getElem_of_mem (hO.all l hl)
    have := h3 i hi
    simp only [List.getD_eq_getElem?_getD, List.getElem?_eq_getElem hi, Option.getD_some] at this
    exact this
theorem ord_tried {a b : Nat → Int} (ha : ∀ x, 0 ≤ a x) (hb : ∀ x, 0 ≤ b x) {n : Nat} (h : n ≤ 5) : lstT (fun k => spanT a b ((ordL n).getD k [])) (ordL n).length = fromT a b n n [] :=
  (ord_least ha hb h).uniq (tried_is ha hb n)
end Go.Proofs.Ytmcongioghkdcac
namespace Go.Proofs.Ytmcongioghkdcac

-- the rule by comparing (plain)
def cc (p q : Int) : Int := if p < q then -1 else if q < p then 1 else 0
def cmp4 (x0 x1 y0 y1 : Int) : Int := if x0 < x1 then (if y0 < y1 then cc x0 y0 else -1) else (if y0 < y1 then 1 else cc y1 x1)
def cmpV (a b : Nat → Int) (x y : Nat) : Int := cmp4 (a x) (b x) (a y) (b y)
theorem cmpV_lt {a b : Nat → Int} {x y : Nat} (h : y < x) : cmpV a b x y < 0 ↔ ¬ btr a b y x := by
  unfold cmpV cmp4 cc btr
  by_cases h1 : a x < b x <;> by_cases h2 : a y < b y <;> simp only [h1, h2, if_true, if_false, not_true, not_false_eq_true]
  · constructor
    · intro h3; split at h3
      · omega
      · split at h3 <;> omega
    · intro h3; rw [if_pos (by omega)]; omega
  · exact ⟨fun _ => trivial, fun _ => by omega⟩
  · exact ⟨fun h3 => by omega, fun h3 => h3.elim⟩
  · constructor
    · intro h3; split at h3
      · omega
      · split at h3 <;> omega
    · intro h3; rw [if_pos (by omega)]; omega
theorem insR_split {a b : Nat → Int} {x : Nat} : ∀ (l1 l2 : List Nat), (∀ y ∈ l1, btr a b y x) → (∀ y ∈ l2, ¬ btr a b y x) → insR a b x (l1 ++ l2) = l1 ++ x :: l2 := by
  intro l1
  induction l1 with
  | nil =>
    intro l2 _ h2
    cases l2 with
    | nil => rfl
    | cons y l2 => rw [List.nil_append, insR, if_neg (h2 y (by simp))]; rfl
  | cons y l1 ih =>
    intro l2 h1 h2
    rw [List.cons_append, insR, if_pos (h1 y (by simp)), ih l2 (fun z hz => h1 z (by simp [hz])) h2]; rfl
/-- what lies there while job i is put in its place: l1 ahead of it, l2 behind it, and those that are still to come -/
def insAt (l1 : List Nat) (i : Nat) (l2 : List Nat) (n : Nat) : List Nat := l1 ++ i :: (l2 ++ List.range' (i + 1) (n - (i + 1)))
theorem insAt_length {l1 l2 : List Nat} {i n : Nat} (h : l1.length + l2.length = i) (hi : i < n) : (insAt l1 i l2 n).length = n := by
  simp only [insAt, List.length_append, List.length_cons, List.length_range']; omega
theorem insAt_here (l1 l2 : List Nat) (i n : Nat) : (insAt l1 i l2 n).getD l1.length 0 = i := by
  simp [insAt, List.getD_eq_getElem?_getD]
theorem insAt_ahead (l1 l2 : List Nat) (y i n : Nat) : (insAt (l1 ++ [y]) i l2 n).getD l1.length 0 = y := by
  simp [insAt, List.getD_eq_getElem?_getD]
theorem insAt_swap (l1 l2 : List Nat) (y i n : Nat) : swN (insAt (l1 ++ [y]) i l2 n) (l1.length + 1) l1.length = insAt l1 i (y :: l2) n := by
  have h1 : (insAt (l1 ++ [y]) i l2 n).getD (l1.length + 1) 0 = i := by have := insAt_here (l1 ++ [y]) l2 i n; simpa using this
  unfold swN
  rw [h1, insAt_ahead]
  unfold insAt
  rw [List.append_assoc, List.singleton_append]
  rw [List.set_append, if_neg (by omega), Nat.add_sub_cancel_left, List.set_cons_succ, List.set_cons_zero, List.set_append, if_neg (by omega), Nat.sub_self, List.set_cons_zero]
  simp
theorem insAt_next {a b : Nat → Int} {l1 l2 : List Nat} {i n : Nat} (hi : i + 1 < n) (h : l1 ++ i :: l2 = ruleT a b (i + 1)) : insAt l1 i l2 n = insAt (ruleT a b (i + 1)) (i + 1) [] n := by
  unfold insAt
  rw [← h]
  have : List.range' (i + 1) (n - (i + 1)) = (i + 1) :: List.range' (i + 1 + 1) (n - (i + 1 + 1)) := by
    obtain ⟨m, hm⟩ : ∃ m, n - (i + 1) = m + 1 := ⟨n - (i + 1) - 1, by omega⟩
    rw [hm, List.range'_succ, show n - (i + 1 + 1) = m by omega]
  rw [this]; simp
theorem insAt_last {a b : Nat → Int} {l1 l2 : List Nat} {i : Nat} (h : l1 ++ i :: l2 = ruleT a b (i + 1)) : insAt l1 i l2 (i + 1) = ruleT a b (i + 1) := by
  unfold insAt; rw [Nat.sub_self, List.range'_zero, List.append_nil, h]
theorem insAt_first {a b : Nat → Int} {n : Nat} (hn : 1 < n) : List.range n = insAt (ruleT a b 1) 1 [] n := by
  unfold insAt
  obtain ⟨m, rfl⟩ : ∃ m, n = m + 2 := ⟨n - 2, by omega⟩
  rw [List.range_eq_range', List.range'_succ, List.range'_succ]
  rfl
theorem ruleT_lenN (a b : Nat → Int) (n : Nat) : (ruleT a b n).length = n := by have := (ruleT_perm a b n).length_eq; simpa using this
/-- the loop's end: what is ahead is better, what is behind is not -/
theorem ins_done {a b : Nat → Int} {l1 l2 : List Nat} {i : Nat} (h : l1 ++ l2 = ruleT a b i) (h1 : ∀ y, l1.getLast? = some y → btr a b y i) (h2 : ∀ y ∈ l2, ¬ btr a b y i) : l1 ++ i :: l2 = ruleT a b (i + 1) := by
  rw [ruleT, ← h]
  refine (insR_split l1 l2 (fun y hy => ?_) h2).symm
  have hs : l1.Pairwise (btr a b) := by
    have := ruleT_sorted a b i
    rw [← h] at this
    exact (List.pairwise_append.1 this).1
  rcases List.eq_nil_or_concat l1 with rfl | ⟨l, z, rfl⟩
  · cases hy
  · have hz := h1 z (by simp)
    rw [List.concat_eq_append] at hy hs
    rcases List.mem_append.1 hy with hy | hy
    · exact btr_trans ((List.pairwise_append.1 hs).2.2 y hy z (by simp)) hz
    · simp only [List.mem_singleton] at hy; subst hy; exact hz
end Go.Proofs.Ytmcongioghkdcac
namespace Go.Proofs.Ytmcongioghkdcac

-- insertion in place, told by sortE (plain)
theorem ins_next {s l1 l2 : List Nat} {i n : Nat} (hi : i + 1 < n) (h : l1 ++ i :: l2 = s) : insAt l1 i l2 n = insAt s (i + 1) [] n := by
  unfold insAt
  rw [← h]
  have : List.range' (i + 1) (n - (i + 1)) = (i + 1) :: List.range' (i + 1 + 1) (n - (i + 1 + 1)) := by
    obtain ⟨m, hm⟩ : ∃ m, n - (i + 1) = m + 1 := ⟨n - (i + 1) - 1, by omega⟩
    rw [hm, List.range'_succ, show n - (i + 1 + 1) = m by omega]
  rw [this]; simp
theorem ins_last {s l1 l2 : List Nat} {i : Nat} (h : l1 ++ i :: l2 = s) : insAt l1 i l2 (i + 1) = s := by
  unfold insAt; rw [Nat.sub_self, List.range'_zero, List.append_nil, h]
theorem sortE_one (ah : Nat → Nat → Bool) : sortE ah 1 = [0] := by
  simp [sortE, insE, backK]
theorem ins_first (ah : Nat → Nat → Bool) {n : Nat} (hn : 1 < n) : List.range n = insAt (sortE ah 1) 1 [] n := by
  unfold insAt
  obtain ⟨m, rfl⟩ : ∃ m, n = m + 2 := ⟨n - 2, by omega⟩
  rw [List.range_eq_range', List.range'_succ, List.range'_succ, sortE_one]
  rfl
/-- the loop's end: what is behind comes behind, the last one ahead does not -/
theorem insE_done {ah : Nat → Nat → Bool} {l1 l2 : List Nat} {i : Nat} (h : l1 ++ l2 = sortE ah i) (h1 : ∀ l z, l1 = l ++ [z] → ah i z = false) (h2 : ∀ y ∈ l2, ah i y = true) : l1 ++ i :: l2 = sortE ah (i + 1) := by
  have hk : backK (ah i) (sortE ah i) (sortE ah i).length = l1.length := by
    refine backK_is (by rw [← h, List.length_append]; omega) (fun m hm hm2 => ?_) (fun hp => ?_)
    · rw [← h, List.getD_eq_getElem?_getD, List.getElem?_append_right hm]
      rw [← h, List.length_append] at hm2
      rw [List.getElem?_eq_getElem (by omega)]
      exact h2 _ (List.getElem_mem _)
    · rcases List.eq_nil_or_concat l1 with rfl | ⟨l, z, rfl⟩
      · simp at hp
      · have := h1 l z (by rw [List.concat_eq_append])
        rw [← h, List.getD_eq_getElem?_getD]
        simpa using this
  show _ = insE ah i (sortE ah i)
  unfold insE
  rw [hk, ← h]
  simp
end Go.Proofs.Ytmcongioghkdcac
namespace Go.Proofs.Ytmcongioghkdcac
open Go.RowKit Go.WideShapes

def natI (h : List Nat) : List Int := h.map (fun x : Nat => (x : Int))
theorem natI_get {h : List Nat} {k : Nat} {x : Int} (hx : (natI h)[k]? = some x) : ∃ y : Nat, x = (y : Int) ∧ h[k]? = some y := by
  unfold natI at hx
  rw [List.getElem?_map] at hx
  cases hq : h[k]? with
  | none => rw [hq] at hx; cases hx
  | some y => rw [hq] at hx; simp only [Option.map_some, Option.some.injEq] at hx; exact ⟨y, hx.symm, rfl⟩
theorem nO_natI (h : List Nat) : nO (natI h) = h := by
  unfold nO natI
  rw [List.map_map]
  conv => rhs; rw [← List.map_id h]
  exact List.map_congr_left (fun x _ => by simp)
theorem natI_mem {h : List Nat} {n : Nat} (hh : ∀ x ∈ h, x < n) : ∀ x ∈ natI h, 0 ≤ x ∧ x < (n : Int) := by
  intro x hx
  obtain ⟨y, hy, rfl⟩ := List.mem_map.1 hx
  have := hh y hy; omega
end Go.Proofs.Ytmcongioghkdcac
