import Derived.Test.YtmcongioghkdcabM12
import Derived.Test.YtmcongioghkdcabM10
import Derived.Test.YtmcongioghkdcabM6
namespace Go.Proofs.Ytmcongioghkdcab
open Go.RowKit Go.WideShapes

attribute [local go_sem] Oper.semAt_some

theorem region_round_held {P : Program} {ops : Array Oper} {Q : Exit → Act → World → Prop} {S : World → Prop} {id : Nat} {a : Act} {w : World} (r n : Nat) (hnd : noDefer ops = true) (hQ : ∀ a w, ¬ Q .outgrown a w) (hm : P.follows .mixedOrders = true)
    (hS : S w.drew) (h : S w.drew → wpAnyH P .any ops Q S ops.size (Array.replicate ops.size false) a w.drew) : (Code.region id ops true).wpIn (Fence.wide.inRound r) n P Q a w :=
  region_round_any r n hnd hQ hm (wpAny_of_held _ _ _ _ (h hS))
theorem endK_sum {f : Nat → Int} {l : List Nat} : ∀ k, k ≤ l.length → endK (fun q => f (l.getD q 0)) k = sumL f (l.take k)
  | 0, _ => by simp [endK, sumL]
  | k + 1, h => by
    rw [endK, endK_sum k (by omega)]
    have hq : l[k]? = some (l.getD k 0) := by rw [List.getD_eq_getElem?_getD, List.getElem?_eq_getElem (by omega)]; rfl
    rw [sum_snoc hq]
/-- what holds behind k rounds -/
structure SumI (w : World) (n m : Nat) (rule : Value) (s : Nat → Int) (k : Nat) (W : World) : Prop where
  below : Below w.heap.size w W
  rule : W.cell? ⟨n, 0, none⟩ = some rule
  sum : W.cell? ⟨m, 0, none⟩ = some (.int .i64 (s k))
  free : W.frozen? ⟨m, 0, none⟩ = false
theorem SumI.later {w : World} {n m : Nat} {rule : Value} {s : Nat → Int} {k p : Nat} {A B : World} (h : SumI w n m rule s k A) (hb : Below p A B) (hn : n < p) (hm : m < p) (hw : w.heap.size ≤ p) : SumI w n m rule s k B :=
  ⟨h.below.trans (hb.mono hw), (hb.cell (p := ⟨n, 0, none⟩) hn).trans h.rule, (hb.cell (p := ⟨m, 0, none⟩) hm).trans h.sum, by rw [World.frozen?_of_block (w := A) (hb.block m hm)]; exact h.free⟩
set_option maxRecDepth 100000 in
set_option maxHeartbeats 4000000 in
theorem sumOver_yes (f : Nat) (g : Int → Int → Int → Int → Int) (hent : ∀ (args : Array Value) (w : World), (callFunc f args).run Try.prog w = .ok (.enter f args) w) (hrule : RuleIs f g)
    (hg : ∀ t v d c, 0 ≤ t ∧ t ≤ 9 → 0 ≤ v ∧ v ≤ 9 → 0 ≤ d ∧ d ≤ 60 → 0 ≤ c ∧ c ≤ 72 → 0 ≤ g t v d c ∧ g t v d c ≤ 700)
    (a : Option Addr) (len cap : Nat) (rows : List (List Int)) (a2 : Option Addr) (len2 cap2 : Nat) (o : List Int) (w : World) (h : RowsAt w (· < w.heap.size) a len rows) (gi : IntsAt w (· < w.heap.size) a2 len2 o) (hc : len ≤ cap) (hf : rowFine rows o = true) :
    Calls Try.prog 31 #[.slice a len cap, .slice a2 len2 cap2, .func (.func f) #[] #[]] w (ValPost w (.int .i64 (costG (ta rows) (fun x c => g (ta rows x) (tb rows x) (td rows x) c) 0 (nO o)))) := by
  obtain ⟨hp, hO⟩ := rowFine_get hf
  have HL := Lib.hid h.lenEq
  have hl8 : len ≤ 8 := by have := (jobs_get hp).1; have := HL.out; omega
  have HNL := Lib.hid (show (nO o).length = len by unfold nO; rw [List.length_map]; have := hO.2; have := HL.out; omega)
  have hba := (Below.refl w.heap.size w).alloc (Nat.le_refl _) (.cells #[.func (.func f) #[] #[]] 73)
  have HR := Lib.hid (rowOf_any a len cap rows a2 len2 cap2 o (w.alloc (.cells #[.func (.func f) #[] #[]] 73)) ((h.below hba).to fun b hb => ⟨by simp; omega, rfl⟩) ((gi.below hba).to fun b hb => ⟨by simp; omega, rfl⟩) hc)
  have HBA := Lib.hid hba
  have hrc := cell_new_l w (.func (.func f) #[] #[]) 73
  have HRC := Lib.hid hrc
  clear h gi hba hrc
  refine (callsIn_wide (n := 9)).1 ?_
  refine callsIn_of_wp_marks Try.func31 rfl trivial ?_ rfl
  simp only [Try.ntmps31, List.size_toArray, List.length_cons, List.length_nil, Nat.reduceAdd, Nat.reduceSub, Array.replicate_succ, Array.replicate_zero, List.push_toArray, List.append_toArray, List.nil_append, List.cons_append]
  gi_wp2_with fail
  refine ⟨trivial, (callsIn_wide.2 HR.out).mono ?_⟩
  rintro e w2 ⟨hb2, ⟨hf2, _⟩ | ⟨_, B, rfl, hBw, hB2, hJ⟩⟩
  · rw [hf] at hf2; cases hf2
  gi_wp2_with fail
  refine ⟨trivial, (endsOf_any 8 B len len _).mono ?_⟩
  rintro e w3 ⟨rfl, rfl⟩
  gi_wp2_with fail
  obtain ⟨W0, hW0⟩ : ∃ W0, ((w2.alloc (Obj.cells #[Value.int IntKind.i64 0] 3)).alloc (.cells #[.slice (some ⟨B, 0, none⟩) len len] 43)) = W0 := ⟨_, rfl⟩
  have hws : w.heap.size < w2.heap.size := by have := hb2.size; simp at this; omega
  have hBws : w.heap.size < B := by simp at hBw; omega
  have hsz : W0.heap.size = w2.heap.size + 2 := by rw [← hW0]; simp
  have hb20 : Below w2.heap.size w2 W0 := by rw [← hW0]; exact ((Below.refl _ _).alloc (Nat.le_refl _) _).alloc (by simp) _
  have hbl : Below w.heap.size w W0 := HBA.out.trans ((hb2.mono (by simp)).trans (hb20.mono (by omega)))
  obtain ⟨t, ht⟩ : ∃ t, (fun q => ta rows ((nO o).getD q 0)) = t := ⟨_, rfl⟩
  obtain ⟨v, hv⟩ : ∃ v, (fun q => tb rows ((nO o).getD q 0)) = v := ⟨_, rfl⟩
  obtain ⟨d, hd⟩ : ∃ d, (fun q => td rows ((nO o).getD q 0)) = d := ⟨_, rfl⟩
  rw [ht, hv, hd] at hJ
  have HT := Lib.hid ht
  have HV := Lib.hid hv
  have HD := Lib.hid hd
  have HBD := Lib.hid (show ∀ q, (0 ≤ t q ∧ t q ≤ 9) ∧ (0 ≤ v q ∧ v q ≤ 9) ∧ (0 ≤ d q ∧ d q ≤ 60) from fun q => by rw [← ht, ← hv, ← hd]; exact j_bd hp _)
  have hJ0 := hJ.block (hb20.block B hB2)
  have hc0 : W0.cell? ⟨w2.heap.size + 1, 0, none⟩ = some (.slice (some ⟨B, 0, none⟩) len len) := by
    rw [← hW0]
    have z := cell_new_l (w2.alloc (Obj.cells #[Value.int IntKind.i64 0] 3)) (.slice (some ⟨B, 0, none⟩) len len) 43
    simp only [World.size_alloc] at z
    exact z.1
  have hI0 : SumI w w.heap.size w2.heap.size (.func (.func f) #[] #[]) (fun k => costG (ta rows) (fun x c => g (ta rows x) (tb rows x) (td rows x) c) 0 ((nO o).take k)) 0 W0 := by
    refine ⟨hbl, ?_, ?_, ?_⟩
    · exact (hb20.cell (p := ⟨w.heap.size, 0, none⟩) hws).trans ((hb2.cell (p := ⟨w.heap.size, 0, none⟩) (by simp)).trans HRC.out.1)
    all_goals rw [← hW0]
    · have z := cell_new_l w2 (.int .i64 0) 3
      exact cell_alloc_l _ z.1
    · have z := cell_new_l w2 (.int .i64 0) 3
      exact frozen_alloc_l _ z.1 z.2
  rw [hW0]
  have HSEQ := ends_seq B len (w2.heap.size + 1) t v d W0 hl8 (fun q => (HBD.out q).1) (by omega) (by omega) hc0 hJ0
  clear hW0 hJ hJ0 hc0 ht hv hd hb2 hBw
  try simp only [Nat.add_assoc, Nat.reduceAdd]
  refine wpIn_rangeFunc_countP rfl (by omega) (gf := 40) (lb := #[.pointer (some ⟨w2.heap.size + 1, 0, none⟩)]) rfl trivial (enters_of Try.func40 (by kernel_rfl) rfl) (fun b hb => by omega) HSEQ (fun _ => rfl)
    (fun m k x A B he _ => he)
    (SumI w w.heap.size w2.heap.size (.func (.func f) #[] #[]) (fun k => costG (ta rows) (fun x c => g (ta rows x) (tb rows x) (td rows x) c) 0 ((nO o).take k))) (fun k A B hi hb => hi.later hb (by omega) (by omega) (by omega)) hI0
    (fun x W => { tmps := #[.slice a len cap, .slice a2 len2 cap2, .func (.func f) #[] #[], undef, undef, .pointer (some ⟨w.heap.size, 0, none⟩), .int .i64 0, .slice (some ⟨B, 0, none⟩) len len, .bool true, .pointer (some ⟨w2.heap.size, 0, none⟩), .pointer (some ⟨W.heap.size, 0, none⟩), .int .i64 (endK t (x + 1)),
      .tuple #[.slice (some ⟨B, 0, none⟩) len len, .bool true], .slice a len cap, .slice a2 len2 cap2, .tuple #[.slice (some ⟨B, 0, none⟩) len len, .bool true], .slice (some ⟨B, 0, none⟩) len len, .bool true, .bool true, .bool false, .slice (some ⟨B, 0, none⟩) len len,
      .func (.func 40) #[] #[.pointer (some ⟨w2.heap.size + 1, 0, none⟩)], .agg #[.int .i64 (t x), .int .i64 (v x), .int .i64 (d x)], .int .i64 (endK t (x + 1)), undef, undef, undef, undef, undef, undef, undef], defers := [] })
    (fun x W => W.alloc (.cells #[.int .i64 (t x), .int .i64 (v x), .int .i64 (d x)] 50)) (fun x W => (Below.refl _ _).alloc (Nat.le_refl _) _)
    ?assign ?body ?done
  case assign =>
    rintro l x W K hK
    dsimp only [encE] at hK ⊢
    gi_wp2
    exact hK
  case body =>
    rintro l k x W0' W hWs hnew hnsz hI ⟨rfl, hkl⟩
    have mixed : Try.prog.follows .mixedOrders = true := by kernel_rfl
    have hz : W0'.heap.size < W.heap.size := by rw [hnsz]; simp
    have hcell : ∀ j, W.cell? ⟨W0'.heap.size, j, none⟩ = #[Value.int .i64 (t x), Value.int .i64 (v x), Value.int .i64 (d x)][j]? := fun j => by
      rw [World.cell?_of_block (w := W0'.alloc (.cells #[.int .i64 (t x), .int .i64 (v x), .int .i64 (d x)] 50)) (hnew _ (by omega)), World.cell?_alloc_new]
    have j0 : W.cell? ⟨W0'.heap.size, 0, none⟩ = some (.int .i64 (t x)) := (hcell 0).trans rfl
    have j1 : W.cell? ⟨W0'.heap.size, 1, none⟩ = some (.int .i64 (v x)) := (hcell 1).trans rfl
    have j2 : W.cell? ⟨W0'.heap.size, 2, none⟩ = some (.int .i64 (d x)) := (hcell 2).trans rfl
    have c1 := hI.rule
    have c2 := hI.sum
    have c3 := hI.free
    have HI := Lib.hid hI
    have hq : (nO o)[x]? = some ((nO o).getD x 0) := by rw [List.getD_eq_getElem?_getD, List.getElem?_eq_getElem (by rw [HNL.out]; omega)]; rfl
    have hcs := cost_step (t := ta rows) (g := fun x c => g (ta rows x) (tb rows x) (td rows x) c) hq
    have hen : endK t (x + 1) = sumL (ta rows) ((nO o).take (x + 1)) := by rw [← HT.out]; exact endK_sum _ (by rw [HNL.out]; omega)
    have htx : ta rows ((nO o).getD x 0) = t x := by rw [← HT.out]
    have hvx : tb rows ((nO o).getD x 0) = v x := by rw [← HV.out]
    have hdx : td rows ((nO o).getD x 0) = d x := by rw [← HD.out]
    rw [← hen] at hcs
    rw [htx, hvx, hdx] at hcs
    have heb := endK_bd (fun q => (HBD.out q).1) (x + 1)
    have hcb := cost_bd (t := ta rows) (g := fun x c => g (ta rows x) (tb rows x) (td rows x) c) (fun x => (j_bd hp x).1) (fun x c h1 h2 => hg _ _ _ _ (j_bd hp x).1 (j_bd hp x).2.1 (j_bd hp x).2.2 ⟨h1, h2⟩) (l := nO o) (by rw [HNL.out]; exact hl8) x
    have hgb := hg (t x) (v x) (d x) (endK t (x + 1)) (HBD.out x).1 (HBD.out x).2.1 (HBD.out x).2.2 ⟨heb.1, by omega⟩
    have HRU := Lib.hid (fun W => hrule (t x) (v x) (d x) (endK t (x + 1)) W (HBD.out x).1 (HBD.out x).2.1 (HBD.out x).2.2 ⟨heb.1, by omega⟩)
    have HCS := Lib.hid hcs
    have hlt1 : w.heap.size < W.heap.size := by omega
    have hlt2 : w2.heap.size < W.heap.size := by omega
    have HNEW := Lib.hid (show ∀ b, b ≠ w2.heap.size → ∀ v, (W.setCell ⟨w2.heap.size, 0, none⟩ v).heap[b]? = W.heap[b]? from fun b hb v => Below.heap_setCell _ _ _ _ hb)
    clear hq hcs hen htx hvx hdx hcell hnew hnsz hI
    generalize endK t (x + 1) = en at *
    generalize g (t x) (v x) (d x) en = gv at *
    generalize costG (ta rows) (fun x c => g (ta rows x) (tb rows x) (td rows x) c) 0 ((nO o).take x) = s at *
    gi_wp2
    refine region_round_held (S := fun w' => w'.cell? ⟨w.heap.size, 0, none⟩ = some (.func (.func f) #[] #[]) ∧ w'.cell? ⟨W0'.heap.size, 0, none⟩ = some (.int .i64 (t x)) ∧ w'.cell? ⟨W0'.heap.size, 1, none⟩ = some (.int .i64 (v x)) ∧ w'.cell? ⟨W0'.heap.size, 2, none⟩ = some (.int .i64 (d x)))
      l _ (by kernel_rfl) (fun _ _ h => h) mixed ⟨c1, j0, j1, j2⟩ (fun hHeld => ?_)
    refine wpAnyH_take (i := 1) (v := .func (.func f) #[] #[]) rfl (by kernel_rfl) (by kernel_rfl) (by kernel_rfl) (fun _ _ _ h => h) (Or.inl ⟨by rfl, ?y1⟩) hHeld ?r1
    case y1 => rintro w' ⟨k3, k4, k5, k6⟩; go_simp
    simp only [Act.put, List.setIfInBounds_toArray, List.set_cons_zero, List.set_cons_succ]
    refine wpAnyH_take (i := 2) (v := .agg #[.int .i64 (t x), .int .i64 (v x), .int .i64 (d x)]) rfl (by kernel_rfl) (by kernel_rfl) (by kernel_rfl) (fun _ _ _ h => h) (Or.inl ⟨by rfl, ?y2⟩) hHeld ?r2
    case y2 => rintro w' ⟨k3, k4, k5, k6⟩; go_simp
    simp only [Act.put, List.setIfInBounds_toArray, List.set_cons_zero, List.set_cons_succ]
    refine wpAnyH_take (i := 3) (v := .int .i64 en) rfl (by kernel_rfl) (by kernel_rfl) (by kernel_rfl) (fun _ _ _ h => h) (Or.inl ⟨by rfl, ?y3⟩) hHeld ?r3
    case y3 => rintro w' ⟨k3, k4, k5, k6⟩; go_simp
    simp only [Act.put, List.setIfInBounds_toArray, List.set_cons_zero, List.set_cons_succ]
    refine wpAnyH_ready (rs := [0, 4]) (by kernel_rfl) (by simp) ?_
    have FIN := Lib.hid (show ∀ w4, Below W.drew.heap.size W.drew w4 → w4.cell? ⟨w.heap.size, 0, none⟩ = some (.func (.func f) #[] #[]) → w4.cell? ⟨w2.heap.size, 0, none⟩ = some (.int .i64 s) → w4.frozen? ⟨w2.heap.size, 0, none⟩ = false →
        KeepsP (fun b => W0.heap.size ≤ b ∨ b = B) W (w4.setCell ⟨w2.heap.size, 0, none⟩ (.int .i64 (s + gv))) ∧ SumI w w.heap.size w2.heap.size (.func (.func f) #[] #[]) (fun k => costG (ta rows) (fun x c => g (ta rows x) (tb rows x) (td rows x) c) 0 ((nO o).take k)) (x + 1) (w4.setCell ⟨w2.heap.size, 0, none⟩ (.int .i64 (s + gv))) from
      fun w4 hb4 q1 q2 q3 => ⟨(KeepsP.below _ (W' := w4) ((Below.refl W.heap.size W).drew.trans hb4)).trans (KeepsP.setCell _ _ (by show ¬ (W0.heap.size ≤ w2.heap.size ∨ w2.heap.size = B); omega) _),
        (HI.out.below.drew.trans (hb4.mono (by show w.heap.size ≤ W.heap.size; omega))).setCell (by show w.heap.size ≤ w2.heap.size; omega) _,
        by rw [World.cell?_setCell_other _ _ _ _ (by intro e'; injection e' with e1; omega)]; exact q1, by rw [HCS.out]; exact World.cell?_setCell_same _ _ _ q2, by rw [World.frozen?_setCell]; exact q3⟩)
    refine AllReadyH.cons (o := _) rfl (fun K hK => ?_) (AllReadyH.cons (o := _) rfl (fun K hK => ?_) AllReadyH.nil)
    · go_simp
      refine hK.out _ _ ⟨c1, j0, j1, j2⟩ (fun hHeld => ?_)
      clear hK K
      try simp only [Act.put, List.setIfInBounds_toArray, List.set_cons_zero, List.set_cons_succ]
      refine wpAnyH_ready (rs := [4]) (by kernel_rfl) (by simp) ?_
      refine AllReadyH.cons (o := _) rfl (fun K hK => ?_) AllReadyH.nil
      go_simp
      refine (HRU.out _).mono ?_
      rintro e w4 ⟨rfl, hb4⟩
      have q1 := (hb4.cell (p := ⟨w.heap.size, 0, none⟩) hlt1).trans c1
      have q2 := (hb4.cell (p := ⟨w2.heap.size, 0, none⟩) hlt2).trans c2
      have q3 : w4.frozen? ⟨w2.heap.size, 0, none⟩ = false := by rw [World.frozen?_of_block (w := W.drew) (hb4.block _ hlt2)]; exact c3
      have q4 := (hb4.cell (p := ⟨W0'.heap.size, 0, none⟩) hz).trans j0
      have q5 := (hb4.cell (p := ⟨W0'.heap.size, 1, none⟩) hz).trans j1
      have q6 := (hb4.cell (p := ⟨W0'.heap.size, 2, none⟩) hz).trans j2
      refine hK.out _ _ ⟨q1, q4, q5, q6⟩ (fun hHeld => ?_)
      clear hK K
      try simp only [Act.put, List.setIfInBounds_toArray, List.set_cons_zero, List.set_cons_succ]
      refine wpAnyH_take (i := 5) (v := .int .i64 (s + gv)) rfl (by kernel_rfl) (by kernel_rfl) (by kernel_rfl) (fun _ _ _ h => h) (Or.inl ⟨by rfl, ?_⟩) hHeld ?_
      · intro w' _; go_simp; exact IntWalk.i64_in _ (by omega)
      try simp only [Act.put, List.setIfInBounds_toArray, List.set_cons_zero, List.set_cons_succ]
      refine wpAnyH_ready (rs := [6]) (by kernel_rfl) (by simp) ?_
      refine AllReadyH.cons (o := _) rfl (fun K hK => ?_) AllReadyH.nil
      go_simp
      refine hK.out _ _ ⟨?_, ?_, ?_, ?_⟩ (fun hHeld => ?_)
      · rw [World.cell?_setCell_other _ _ _ _ (by intro e'; injection e' with e1; omega)]; exact q1
      · rw [World.cell?_setCell_other _ _ _ _ (by intro e'; injection e' with e1; omega)]; exact q4
      · rw [World.cell?_setCell_other _ _ _ _ (by intro e'; injection e' with e1; omega)]; exact q5
      · rw [World.cell?_setCell_other _ _ _ _ (by intro e'; injection e' with e1; omega)]; exact q6
      clear hK K
      try simp only [Act.put, List.setIfInBounds_toArray, List.set_cons_zero, List.set_cons_succ]
      refine wpAnyH_done (by kernel_rfl) ?_ _
      exact FIN.out w4 hb4 q1 q2 q3
    · go_simp
      refine (HRU.out _).mono ?_
      rintro e w4 ⟨rfl, hb4⟩
      have q1 := (hb4.cell (p := ⟨w.heap.size, 0, none⟩) hlt1).trans c1
      have q2 := (hb4.cell (p := ⟨w2.heap.size, 0, none⟩) hlt2).trans c2
      have q3 : w4.frozen? ⟨w2.heap.size, 0, none⟩ = false := by rw [World.frozen?_of_block (w := W.drew) (hb4.block _ hlt2)]; exact c3
      have q4 := (hb4.cell (p := ⟨W0'.heap.size, 0, none⟩) hz).trans j0
      have q5 := (hb4.cell (p := ⟨W0'.heap.size, 1, none⟩) hz).trans j1
      have q6 := (hb4.cell (p := ⟨W0'.heap.size, 2, none⟩) hz).trans j2
      refine hK.out _ _ ⟨q1, q4, q5, q6⟩ (fun hHeld => ?_)
      clear hK K
      try simp only [Act.put, List.setIfInBounds_toArray, List.set_cons_zero, List.set_cons_succ]
      refine wpAnyH_ready (rs := [0]) (by kernel_rfl) (by simp) ?_
      refine AllReadyH.cons (o := _) rfl (fun K hK => ?_) AllReadyH.nil
      go_simp
      refine hK.out _ _ ⟨q1, q4, q5, q6⟩ (fun hHeld => ?_)
      clear hK K
      try simp only [Act.put, List.setIfInBounds_toArray, List.set_cons_zero, List.set_cons_succ]
      refine wpAnyH_take (i := 5) (v := .int .i64 (s + gv)) rfl (by kernel_rfl) (by kernel_rfl) (by kernel_rfl) (fun _ _ _ h => h) (Or.inl ⟨by rfl, ?_⟩) hHeld ?_
      · intro w' _; go_simp; exact IntWalk.i64_in _ (by omega)
      try simp only [Act.put, List.setIfInBounds_toArray, List.set_cons_zero, List.set_cons_succ]
      refine wpAnyH_ready (rs := [6]) (by kernel_rfl) (by simp) ?_
      refine AllReadyH.cons (o := _) rfl (fun K hK => ?_) AllReadyH.nil
      go_simp
      refine hK.out _ _ ⟨?_, ?_, ?_, ?_⟩ (fun hHeld => ?_)
      · rw [World.cell?_setCell_other _ _ _ _ (by intro e'; injection e' with e1; omega)]; exact q1
      · rw [World.cell?_setCell_other _ _ _ _ (by intro e'; injection e' with e1; omega)]; exact q4
      · rw [World.cell?_setCell_other _ _ _ _ (by intro e'; injection e' with e1; omega)]; exact q5
      · rw [World.cell?_setCell_other _ _ _ _ (by intro e'; injection e' with e1; omega)]; exact q6
      clear hK K
      try simp only [Act.put, List.setIfInBounds_toArray, List.set_cons_zero, List.set_cons_succ]
      refine wpAnyH_done (by kernel_rfl) ?_ _
      exact FIN.out w4 hb4 q1 q2 q3
  case done =>
    rintro D k W hD rfl hI hK
    have c2 := hI.sum
    have HI := Lib.hid hI
    have HALL := Lib.hid (show (nO o).take k = nO o from List.take_of_length_le (by rw [HNL.out]; exact Nat.le_refl _))
    clear hI
    rw [HALL.out] at c2
    gi_wp2
    exact leaves_marks (fun _ => results_tmp rfl _ _ _) [D] W ⟨⟨hK, hD, fun x hx => by cases hx⟩, trivial⟩ (fun w' hw' => ⟨rfl, HI.out.below.trans (hw'.below.mono (by omega))⟩)
theorem sumOver_no (v : Value) (hv : v.oneCell' = true) (a : Option Addr) (len cap : Nat) (rows : List (List Int)) (a2 : Option Addr) (len2 cap2 : Nat) (o : List Int) (w : World) (h : RowsAt w (· < w.heap.size) a len rows) (gi : IntsAt w (· < w.heap.size) a2 len2 o) (hc : len ≤ cap) (hf : rowFine rows o = false) (fv : ∃ f : Nat, v = .func (.func f) #[] #[]) :
    Calls Try.prog 31 #[.slice a len cap, .slice a2 len2 cap2, v] w (ValPost w (.int .i64 (-1))) := by
  obtain ⟨f, rfl⟩ := fv
  have hba := (Below.refl w.heap.size w).alloc (Nat.le_refl _) (.cells #[.func (.func f) #[] #[]] 73)
  have HR := Lib.hid (rowOf_any a len cap rows a2 len2 cap2 o (w.alloc (.cells #[.func (.func f) #[] #[]] 73)) ((h.below hba).to fun b hb => ⟨by simp; omega, rfl⟩) ((gi.below hba).to fun b hb => ⟨by simp; omega, rfl⟩) hc)
  have HBA := Lib.hid hba
  clear h gi hba hv
  refine (callsIn_wide (n := 9)).1 ?_
  refine callsIn_of_wp Try.func31 rfl trivial ?_ rfl
  simp only [Try.ntmps31, List.size_toArray, List.length_cons, List.length_nil, Nat.reduceAdd, Nat.reduceSub, Array.replicate_succ, Array.replicate_zero, List.push_toArray, List.append_toArray, List.nil_append, List.cons_append]
  gi_wp2_with fail
  refine ⟨trivial, (callsIn_wide.2 HR.out).mono ?_⟩
  rintro e w2 ⟨hb2, ⟨hf2, rfl⟩ | ⟨hf2, _⟩⟩
  · gi_wp2_with fail
    go_ret
    exact ⟨rfl, HBA.out.trans (hb2.mono (by simp))⟩
  · rw [hf] at hf2; cases hf2
theorem lateOf_impl (a : Option Addr) (len cap : Nat) (rows : List (List Int)) (a2 : Option Addr) (len2 cap2 : Nat) (o : List Int) (w : World) (h : RowsAt w (· < w.heap.size) a len rows) (g : IntsAt w (· < w.heap.size) a2 len2 o) (hc : len ≤ cap) (hc2 : len2 ≤ cap2) :
    Calls Try.prog 17 #[.slice a len cap, .slice a2 len2 cap2] w (ValPost w (.int .i64 (lateRes rows o))) := by
  cases hf : rowFine rows o
  · have HR := Lib.hid (show lateRes rows o = -1 by unfold lateRes; rw [hf]; rfl)
    have HS := Lib.hid (sumOver_no (.func (.func 32) #[] #[]) rfl a len cap rows a2 len2 cap2 o w h g hc hf ⟨_, rfl⟩)
    rw [HR.out]
    clear h g hf HR
    go_enter Try.func17, Try.ntmps17
    go_wp2_with fail
    refine HS.out.mono ?_
    rintro e w' ⟨rfl, hb⟩
    go_wp2_with fail
    go_ret
    exact ⟨rfl, hb⟩
  · have HR := Lib.hid (show lateRes rows o = costG (ta rows) (lateG (td rows)) 0 (nO o) by unfold lateRes; rw [hf]; rfl)
    have hs := sumOver_yes 32 lateR (enters_of Try.func32 (by kernel_rfl) rfl) lateAt_any (fun t v d c _ hv _ hc => by
      unfold lateR; split <;> omega) a len cap rows a2 len2 cap2 o w h g hc hf
    rw [show (fun x c => lateR (ta rows x) (tb rows x) (td rows x) c) = lateG (td rows) from rfl] at hs
    have HS := Lib.hid hs
    rw [HR.out]
    clear h g hf hs HR
    generalize costG (ta rows) (lateG (td rows)) 0 (nO o) = v at *
    go_enter Try.func17, Try.ntmps17
    go_wp2_with fail
    refine HS.out.mono ?_
    rintro e w' ⟨rfl, hb⟩
    go_wp2_with fail
    go_ret
    exact ⟨rfl, hb⟩
end Go.Proofs.Ytmcongioghkdcab
namespace Go.Proofs.Ytmcongioghkdcab
open Go.RowKit Go.WideShapes

attribute [local go_sem] Oper.semAt_some

/-- the greatest of the first k jobs, from the least number on -/
def mxK (t d : Nat → Int) : Nat → Int
  | 0 => -9223372036854775808
  | k + 1 => max (mxK t d k) (endK t (k + 1) - d k)
theorem mxK_lat {tt dd : Nat → Int} {l : List Nat} (ht : ∀ x, 0 ≤ tt x ∧ tt x ≤ 9) (hd : ∀ x, 0 ≤ dd x ∧ dd x ≤ 60) (hl8 : l.length ≤ 8) : ∀ k, k < l.length → mxK (fun q => tt (l.getD q 0)) (fun q => dd (l.getD q 0)) (k + 1) = latM tt dd l k
  | 0, h => by
    rw [mxK, mxK, endK_sum _ (by omega), latM]
    have h1 := end_bd ht hl8 1
    have h2 := hd (l.getD 0 0)
    simp only [Nat.zero_add]
    omega
  | k + 1, h => by
    rw [mxK, mxK_lat ht hd hl8 k (by omega), endK_sum _ (by omega), latM]
/-- what holds behind k rounds -/
structure LatI (w : World) (m : Nat) (s : Nat → Int) (k : Nat) (W : World) : Prop where
  below : Below w.heap.size w W
  sum : W.cell? ⟨m, 0, none⟩ = some (.int .i64 (s k))
  free : W.frozen? ⟨m, 0, none⟩ = false
theorem LatI.later {w : World} {m : Nat} {s : Nat → Int} {k p : Nat} {A B : World} (h : LatI w m s k A) (hb : Below p A B) (hm : m < p) (hw : w.heap.size ≤ p) : LatI w m s k B :=
  ⟨h.below.trans (hb.mono hw), (hb.cell (p := ⟨m, 0, none⟩) hm).trans h.sum, by rw [World.frozen?_of_block (w := A) (hb.block m hm)]; exact h.free⟩
set_option maxRecDepth 100000 in
set_option maxHeartbeats 4000000 in
theorem latestOf_impl (a : Option Addr) (len cap : Nat) (rows : List (List Int)) (a2 : Option Addr) (len2 cap2 : Nat) (o : List Int) (w : World) (h : RowsAt w (· < w.heap.size) a len rows) (gi : IntsAt w (· < w.heap.size) a2 len2 o) (hc : len ≤ cap) (hc2 : len2 ≤ cap2) :
    Calls Try.prog 8 #[.slice a len cap, .slice a2 len2 cap2] w (IntBool w (latestRes rows o) (latestB rows o)) := by
  have HL := Lib.hid h.lenEq
  have HR := Lib.hid (rowOf_any a len cap rows a2 len2 cap2 o w h gi hc)
  clear h gi
  cases hf : rowFine rows o
  · have HB := Lib.hid (show latestB rows o = false by unfold latestB; rw [hf]; rfl)
    have HV := Lib.hid (show latestRes rows o = 0 by unfold latestRes; rw [HB.out]; rfl)
    rw [HB.out, HV.out]
    refine (callsIn_wide (n := 9)).1 ?_
    refine callsIn_of_wp Try.func8 rfl trivial ?_ rfl
    simp only [Try.ntmps8, List.size_toArray, List.length_cons, List.length_nil, Nat.reduceAdd, Nat.reduceSub, Array.replicate_succ, Array.replicate_zero, List.push_toArray, List.append_toArray, List.nil_append, List.cons_append]
    gi_wp2_with fail
    refine ⟨trivial, (callsIn_wide.2 HR.out).mono ?_⟩
    rintro e w2 ⟨hb2, ⟨_, rfl⟩ | ⟨hf2, _⟩⟩
    · gi_wp2_with fail
      go_ret2
      exact ⟨rfl, hb2⟩
    · rw [hf] at hf2; cases hf2
  · obtain ⟨hp, hO⟩ := rowFine_get hf
    by_cases h0 : len = 0
    · have HB := Lib.hid (show latestB rows o = false by unfold latestB; rw [HL.out, h0]; simp)
      have HV := Lib.hid (show latestRes rows o = 0 by unfold latestRes; rw [HB.out]; rfl)
      rw [HB.out, HV.out]
      subst h0
      refine (callsIn_wide (n := 9)).1 ?_
      refine callsIn_of_wp Try.func8 rfl trivial ?_ rfl
      simp only [Try.ntmps8, List.size_toArray, List.length_cons, List.length_nil, Nat.reduceAdd, Nat.reduceSub, Array.replicate_succ, Array.replicate_zero, List.push_toArray, List.append_toArray, List.nil_append, List.cons_append]
      gi_wp2_with fail
      refine ⟨trivial, (callsIn_wide.2 HR.out).mono ?_⟩
      rintro e w2 ⟨hb2, ⟨hf2, _⟩ | ⟨_, B, rfl, _⟩⟩
      · rw [hf] at hf2; cases hf2
      · gi_wp2_with fail
        go_ret2
        exact ⟨rfl, hb2⟩
    · have hl8 : len ≤ 8 := by have := (jobs_get hp).1; have := HL.out; omega
      have HNL := Lib.hid (show (nO o).length = len by unfold nO; rw [List.length_map]; have := hO.2; have := HL.out; omega)
      have HB := Lib.hid (show latestB rows o = true by unfold latestB; rw [hf, HL.out]; simp; omega)
      have HV := Lib.hid (show latestRes rows o = mxK (fun q => ta rows ((nO o).getD q 0)) (fun q => td rows ((nO o).getD q 0)) len by
        unfold latestRes; rw [HB.out, if_pos rfl, HL.out, ← mxK_lat (fun x => (j_bd hp x).1) (fun x => (j_bd hp x).2.2) (by rw [HNL.out]; exact hl8) (len - 1) (by rw [HNL.out]; omega), show len - 1 + 1 = len by omega])
      have hne : ((len : Int) == 0) = false := by simp; omega
      rw [HB.out, HV.out]
      clear h0
      obtain ⟨t, ht⟩ : ∃ t, (fun q => ta rows ((nO o).getD q 0)) = t := ⟨_, rfl⟩
      obtain ⟨v, hv⟩ : ∃ v, (fun q => tb rows ((nO o).getD q 0)) = v := ⟨_, rfl⟩
      obtain ⟨d, hd⟩ : ∃ d, (fun q => td rows ((nO o).getD q 0)) = d := ⟨_, rfl⟩
      have HBD := Lib.hid (show ∀ q, (0 ≤ t q ∧ t q ≤ 9) ∧ (0 ≤ v q ∧ v q ≤ 9) ∧ (0 ≤ d q ∧ d q ≤ 60) from fun q => by rw [← ht, ← hv, ← hd]; exact j_bd hp _)
      have HTE := Lib.hid ht
      have HVE := Lib.hid hv
      have HDE := Lib.hid hd
      rw [ht, hd]
      clear ht hv hd
      refine (callsIn_wide (n := 9)).1 ?_
      refine callsIn_of_wp_marks Try.func8 rfl trivial ?_ rfl
      simp only [Try.ntmps8, List.size_toArray, List.length_cons, List.length_nil, Nat.reduceAdd, Nat.reduceSub, Array.replicate_succ, Array.replicate_zero, List.push_toArray, List.append_toArray, List.nil_append, List.cons_append]
      gi_wp2_with fail
      refine ⟨trivial, (callsIn_wide.2 HR.out).mono ?_⟩
      rintro e w2 ⟨hb2, ⟨hf2, _⟩ | ⟨_, B, rfl, hBw, hB2, hJ⟩⟩
      · rw [hf] at hf2; cases hf2
      gi_wp2_with fail
      refine ⟨trivial, (endsOf_any 8 B len len _).mono ?_⟩
      rintro e w3 ⟨rfl, rfl⟩
      gi_wp2_with fail
      obtain ⟨mn, hmn⟩ : ∃ mn : Int, (-9223372036854775808 : Int) = mn := ⟨_, rfl⟩
      rw [hmn]
      have HMN := Lib.hid hmn
      clear hmn
      obtain ⟨W0, hW0⟩ : ∃ W0, ((w2.alloc (Obj.cells #[Value.int IntKind.i64 mn] 3)).alloc (.cells #[.slice (some ⟨B, 0, none⟩) len len] 43)) = W0 := ⟨_, rfl⟩
      have hws : w.heap.size ≤ w2.heap.size := hb2.size
      have hsz : W0.heap.size = w2.heap.size + 2 := by rw [← hW0]; simp
      have hb20 : Below w2.heap.size w2 W0 := by rw [← hW0]; exact ((Below.refl _ _).alloc (Nat.le_refl _) _).alloc (by simp) _
      have hbl : Below w.heap.size w W0 := hb2.trans (hb20.mono hws)
      rw [HTE.out, HVE.out, HDE.out] at hJ
      have hJ0 := hJ.block (hb20.block B hB2)
      have hc0 : W0.cell? ⟨w2.heap.size + 1, 0, none⟩ = some (.slice (some ⟨B, 0, none⟩) len len) := by
        rw [← hW0]
        have z := cell_new_l (w2.alloc (Obj.cells #[Value.int IntKind.i64 mn] 3)) (.slice (some ⟨B, 0, none⟩) len len) 43
        simp only [World.size_alloc] at z
        exact z.1
      have hI0 : LatI w w2.heap.size (mxK t d) 0 W0 := by
        refine ⟨hbl, ?_, ?_⟩
        all_goals rw [← hW0]
        · have z := cell_new_l w2 (.int .i64 mn) 3
          rw [show mxK t d 0 = mn from HMN.out]
          exact cell_alloc_l _ z.1
        · have z := cell_new_l w2 (.int .i64 mn) 3
          exact frozen_alloc_l _ z.1 z.2
      rw [hW0]
      have HSEQ := ends_seq B len (w2.heap.size + 1) t v d W0 hl8 (fun q => (HBD.out q).1) (by omega) (by omega) hc0 hJ0
      clear hW0 hJ hJ0 hc0 hb2
      try simp only [Nat.add_assoc, Nat.reduceAdd]
      refine wpIn_rangeFunc_countP rfl (by omega) (gf := 40) (lb := #[.pointer (some ⟨w2.heap.size + 1, 0, none⟩)]) rfl trivial (enters_of Try.func40 (by kernel_rfl) rfl) (fun b hb => by omega) HSEQ (fun _ => rfl)
        (fun m k x A B he _ => he)
        (LatI w w2.heap.size (mxK t d)) (fun k A B hi hb => hi.later hb (by omega) (by omega)) hI0
        (fun x W => { tmps := #[.slice a len cap, .slice a2 len2 cap2, undef, undef, .int .i64 0, .bool false, .slice (some ⟨B, 0, none⟩) len len, .bool true, .pointer (some ⟨w2.heap.size, 0, none⟩), .pointer (some ⟨W.heap.size, 0, none⟩), .int .i64 (endK t (x + 1)),
          .tuple #[.slice (some ⟨B, 0, none⟩) len len, .bool true], .slice a len cap, .slice a2 len2 cap2, .tuple #[.slice (some ⟨B, 0, none⟩) len len, .bool true], .slice (some ⟨B, 0, none⟩) len len, .bool true, .bool true, .bool false, .bool false, .slice (some ⟨B, 0, none⟩) len len, .int .i64 len, .bool false, .bool false, .slice (some ⟨B, 0, none⟩) len len,
          .func (.func 40) #[] #[.pointer (some ⟨w2.heap.size + 1, 0, none⟩)], .agg #[.int .i64 (t x), .int .i64 (v x), .int .i64 (d x)], .int .i64 (endK t (x + 1)), undef, undef, undef, undef, undef, undef, undef], defers := [] })
        (fun x W => W.alloc (.cells #[.int .i64 (t x), .int .i64 (v x), .int .i64 (d x)] 50)) (fun x W => (Below.refl _ _).alloc (Nat.le_refl _) _)
        ?assign ?body ?done
      case assign =>
        rintro l x W K hK
        dsimp only [encE] at hK ⊢
        gi_wp2
        exact hK
      case body =>
        rintro l k x W0' W hWs hnew hnsz hI ⟨rfl, hkl⟩
        have hz : W0'.heap.size < W.heap.size := by rw [hnsz]; simp
        have hcell : ∀ j, W.cell? ⟨W0'.heap.size, j, none⟩ = #[Value.int .i64 (t x), Value.int .i64 (v x), Value.int .i64 (d x)][j]? := fun j => by
          rw [World.cell?_of_block (w := W0'.alloc (.cells #[.int .i64 (t x), .int .i64 (v x), .int .i64 (d x)] 50)) (hnew _ (by omega)), World.cell?_alloc_new]
        have j2 : W.cell? ⟨W0'.heap.size, 2, none⟩ = some (.int .i64 (d x)) := (hcell 2).trans rfl
        have c2 := hI.sum
        have c3 := hI.free
        have HI := Lib.hid hI
        have heb := endK_bd (fun q => (HBD.out q).1) (x + 1)
        have hdb := (HBD.out x).2.2
        have HN := Lib.hid (show mxK t d (x + 1) = max (mxK t d x) (endK t (x + 1) - d x) from rfl)
        have FIN := Lib.hid (show ∀ u : Int, mxK t d (x + 1) = u → KeepsP (fun b => W0.heap.size ≤ b ∨ b = B) W (W.setCell ⟨w2.heap.size, 0, none⟩ (.int .i64 u)) ∧ LatI w w2.heap.size (mxK t d) (x + 1) (W.setCell ⟨w2.heap.size, 0, none⟩ (.int .i64 u)) from
          fun u hu => ⟨KeepsP.setCell _ _ (by show ¬ (W0.heap.size ≤ w2.heap.size ∨ w2.heap.size = B); omega) _, HI.out.below.setCell (by show w.heap.size ≤ w2.heap.size; omega) _, by rw [hu]; exact World.cell?_setCell_same _ _ _ HI.out.sum, by rw [World.frozen?_setCell]; exact HI.out.free⟩)
        clear hcell hnew hnsz hI
        generalize mxK t d x = s at *
        generalize endK t (x + 1) = en at *
        generalize d x = dx at *
        by_cases hmx : s < en - dx
        · have HM := Lib.hid (HN.out.trans (show _ = en - dx by omega))
          gi_wp2
          exact FIN.out _ HM.out
        · have HM := Lib.hid (HN.out.trans (show _ = s by omega))
          gi_wp2
          have fin := FIN.out _ HM.out
          rw [hsz] at fin
          exact fin
      case done =>
        rintro D k W hD rfl hI hK
        have c2 := hI.sum
        have HI := Lib.hid hI
        clear hI
        gi_wp2
        exact leaves_marks (fun _ => results_tmp2 rfl _ _ _) [D] W ⟨⟨hK, hD, fun x hx => by cases hx⟩, trivial⟩ (fun w' hw' => ⟨rfl, HI.out.below.trans (hw'.below.mono (by omega))⟩)
end Go.Proofs.Ytmcongioghkdcab
namespace Go.Proofs.Ytmcongioghkdcab

-- orders, one after the other (plain)
def swN (xs : List Nat) (i j : Nat) : List Nat := (xs.set i (xs.getD j 0)).set j (xs.getD i 0)
theorem swN_length (xs : List Nat) (i j : Nat) : (swN xs i j).length = xs.length := by simp [swN]
def revK (xs : List Nat) (lo hi : Nat) : Nat → List Nat
  | 0 => xs
  | f + 1 => if lo < hi then revK (swN xs lo hi) (lo + 1) (hi - 1) f else xs
theorem revK_end {xs : List Nat} {lo hi : Nat} (h : ¬ lo < hi) (f : Nat) : revK xs lo hi f = xs := by
  cases f with
  | zero => rfl
  | succ f => rw [revK, if_neg h]
theorem revK_length : ∀ (f : Nat) (xs : List Nat) (lo hi : Nat), (revK xs lo hi f).length = xs.length := by
  intro f
  induction f with
  | zero => intro xs lo hi; rfl
  | succ f ih => intro xs lo hi; rw [revK]; split
                 · rw [ih, swN_length]
                 · rfl
/-- the last place below k whose number is less than the next one -/
def riseAt (xs : List Nat) : Nat → Option Nat
  | 0 => none
  | k + 1 => if xs.getD (k + 1) 0 ≤ xs.getD k 0 then riseAt xs k else some k
/-- the last place up to k whose number is greater than x -/
def overAt (xs : List Nat) (x : Nat) : Nat → Nat
  | 0 => 0
  | k + 1 => if xs.getD (k + 1) 0 ≤ x then overAt xs x k else k + 1
def nextP (xs : List Nat) : Option (List Nat) :=
  match riseAt xs (xs.length - 1) with
  | none => none
  | some a => some (revK (swN xs a (overAt xs (xs.getD a 0) (xs.length - 1))) (a + 1) (xs.length - 1) xs.length)
def ordK : Nat → List Nat → List (List Nat)
  | 0, _ => []
  | f + 1, xs => xs :: match nextP xs with
    | none => []
    | some ys => ordK f ys
def ordL (n : Nat) : List (List Nat) := ordK 125 (List.range n)
/-- all orders that begin with h -/
def ordF (n : Nat) : Nat → List Nat → List (List Nat)
  | 0, h => [h]
  | f + 1, h => (List.range n).flatMap (fun i => if i ∈ h then [] else ordF n f (h ++ [i]))
theorem ordF_mem {n : Nat} : ∀ (t h : List Nat), (h ++ t).Perm (List.range n) → h ++ t ∈ ordF n t.length h := by
  intro t
  induction t with
  | nil => intro h _; rw [List.append_nil, List.length_nil, ordF]; simp
  | cons x t ih =>
    intro h hp
    have hn := hp.symm.nodup List.nodup_range
    have hx : x < n := by have := hp.mem_iff.1 (show x ∈ h ++ x :: t by simp); simpa using this
    have hxh : x ∉ h := fun hm => (List.nodup_append.1 hn).2.2 x hm x (by simp) rfl
    rw [List.length_cons, ordF, List.mem_flatMap]
    refine ⟨x, List.mem_range.2 hx, ?_⟩
    rw [if_neg hxh]
    have := ih (h ++ [x]) (by simpa using hp)
    simpa using this
def ordOk (n : Nat) : Bool := (ordL n == ordF n n []) && (ordL n)[0]? == some (List.range n) && (ordL n).all (fun l => l.length == n && l.all (fun x => decide (x < n)) && l.isPerm (List.range n))
  && (List.range (ordL n).length).all (fun k => nextP ((ordL n).getD k []) == (ordL n)[k + 1]?)
theorem ordOk_all : ((List.range 6).all ordOk) = true := by decide +kernel
structure OrdIs (n : Nat) : Prop where
  all : ∀ l : List Nat, l.Perm (List.range n) → l ∈ ordL n
  first : (ordL n)[0]? = some (List.range n)
  len : ∀ l ∈ ordL n, l.length = n ∧ (∀ x ∈ l, x < n) ∧ l.Perm (List.range n)
  next : ∀ k, k < (ordL n).length → nextP ((ordL n).getD k []) = (ordL n)[k + 1]?
theorem ord_is {n : Nat} (h : n ≤ 5) : OrdIs n := by
  have := List.all_eq_true.1 ordOk_all n (List.mem_range.2 (by omega))
  simp only [ordOk, Bool.and_eq_true, beq_iff_eq, List.all_eq_true] at this
  obtain ⟨⟨⟨h1, h2⟩, h3⟩, h4⟩ := this
  refine ⟨fun l hp => ?_, h2, fun l hl => ?_, fun k hk => h4 k (List.mem_range.2 hk)⟩
  · rw [h1]
    have hl : l.length = n := by have := hp.length_eq; simpa using this
    have := ordF_mem l [] (by simpa using hp)
    rw [hl] at this
    simpa using this
  · obtain ⟨⟨e1, e2⟩, e3⟩ := h3 l hl
    exact ⟨e1, fun x hx => by simpa using e2 x hx, List.isPerm_iff.1 e3⟩
theorem ordL_pos {n : Nat} (h : n ≤ 5) : 0 < (ordL n).length := (List.getElem?_eq_some_iff.1 (ord_is h).first).1
/-- the least so far of k spans, -1: of none -/
def lstT (sp : Nat → Int) : Nat → Int
  | 0 => -1
  | k + 1 => if lstT sp k < 0 ∨ sp k < lstT sp k then sp k else lstT sp k
theorem lstT_is {sp : Nat → Int} (h : ∀ k, 0 ≤ sp k) : ∀ k, (k = 0 → lstT sp k = -1) ∧ (0 < k → 0 ≤ lstT sp k) ∧ (∀ j, j < k → lstT sp k ≤ sp j) ∧ (0 < k → ∃ j, j < k ∧ lstT sp k = sp j) := by
  intro k
  induction k with
  | zero => exact ⟨fun _ => rfl, fun h => absurd h (by omega), fun j hj => absurd hj (by omega), fun h => absurd h (by omega)⟩
  | succ k ih =>
    obtain ⟨h1, h2, h3, h4⟩ := ih
    have hk := h k
    refine ⟨fun e => by omega, fun _ => ?_, fun j hj => ?_, fun _ => ?_⟩
    · rw [lstT]; split
      · exact hk
      · rename_i hc; omega
    · rw [lstT]; split
      · rename_i hc
        by_cases e : j = k
        · subst e; omega
        · have := h3 j (by omega); have := h2 (by omega); omega
      · rename_i hc
        by_cases e : j = k
        · subst e; omega
        · exact h3 j (by omega)
    · rw [lstT]; split
      · exact ⟨k, by omega, rfl⟩
      · rename_i hc
        have : 0 < k := by
          rcases Nat.eq_zero_or_pos k with e | e
          · have := h1 e; omega
          · exact e
        obtain ⟨j, hj, e⟩ := h4 this
        exact ⟨j, by omega, e⟩
theorem ord_least {a b : Nat → Int} (ha : ∀ x, 0 ≤ a x) (hb : ∀ x, 0 ≤ b x) {n : Nat} (h : n ≤ 5) : LeastO a b n (lstT (fun k => spanT a b ((ordL n).getD k [])) (ordL n).length) := by
  have hO := ord_is h
  have hp := ordL_pos h
  obtain ⟨_, _, h3, h4⟩ := lstT_is (sp := fun k => spanT a b ((ordL n).getD k [])) (fun k => span_nn ha hb _) (ordL n).length
  obtain ⟨j, hj, e⟩ := h4 hp
  refine ⟨⟨(ordL n).getD j [], (hO.len _ ?_).2.2, e.symm⟩, fun l hl => ?_⟩
  · rw [List.getD_eq_getElem?_getD, List.getElem?_eq_getElem hj]; exact List.getElem_mem hj
  · obtain ⟨i, hi, rfl⟩ := List.getElem_of_mem (hO.all l hl)
    have := h3 i hi
    simp only [List.getD_eq_getElem?_getD, List.getElem?_eq_getElem hi, Option.getD_some] at this
    exact this
theorem ord_tried {a b : Nat → Int} (ha : ∀ x, 0 ≤ a x) (hb : ∀ x, 0 ≤ b x) {n : Nat} (h : n ≤ 5) : lstT (fun k => spanT a b ((ordL n).getD k [])) (ordL n).length = fromT a b n n [] :=
  (ord_least ha hb h).uniq (tried_is ha hb n)
end Go.Proofs.Ytmcongioghkdcab
