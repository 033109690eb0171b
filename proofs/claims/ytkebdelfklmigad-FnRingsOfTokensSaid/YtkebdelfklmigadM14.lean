import Derived.Test.YtkebdelfklmigadRows
import Derived.WalkKit
import Derived.LoopTactic
import Derived.Outline
import Derived.WalkSpells
import Derived.WalkLawsBesides
import Derived.ProofKit
import Derived.Lib.Hide
import Derived.IntWalk
import Derived.Test.YtkebdelfklmigadM0
import Derived.Test.YtkebdelfklmigadM2
import Derived.Test.YtkebdelfklmigadM6
import Derived.Test.YtkebdelfklmigadM13
import Derived.Test.YtkebdelfklmigadM12
import Derived.Deep.RegionLaw
import Derived.Deep.AppendLies
import Derived.Deep.RegionHeld3
import Derived.Test.YtkebdelfklmigadM1
import Derived.Test.YtkebdelfklmigadM3
import Derived.Test.YtkebdelfklmigadM7
import Derived.Test.YtkebdelfklmigadM4
namespace Go.Proofs.Ytkebdelfklmigad
open Go.RowKit Go.WideShapes

-- pairs
def pairB (r : List Int) : Bool := r.length == 2 && (inB 0 9 (r.getD 0 0) && inB 0 9 (r.getD 1 0))
def pairsM (rows : List (List Int)) : Bool := rows.all pairB && decide (rows.length ≤ 8)
theorem pairs_false {rows : List (List Int)} {k : Nat} {r : List Int} (h : rows[k]? = some r) (hr : pairB r = false) : pairsM rows = false := by
  unfold pairsM
  rw [List.all_eq_false.2 ⟨r, List.mem_of_getElem? h, by rw [hr]; simp⟩]; rfl
theorem pairs_get {rows : List (List Int)} (h : pairsM rows = true) : rows.length ≤ 8 ∧ ∀ r ∈ rows, r.length = 2 ∧ (0 ≤ r.getD 0 0 ∧ r.getD 0 0 ≤ 9) ∧ (0 ≤ r.getD 1 0 ∧ r.getD 1 0 ≤ 9) := by
  simp only [pairsM, Bool.and_eq_true, decide_eq_true_eq, List.all_eq_true] at h
  refine ⟨h.2, fun r hr => ?_⟩
  have := h.1 r hr
  simp only [pairB, Bool.and_eq_true, beq_iff_eq] at this
  exact ⟨this.1, by simpa [inB] using this.2.1, by simpa [inB] using this.2.2⟩
/-- the times of a job -/
def ta (rows : List (List Int)) (x : Nat) : Int := (rows.getD x []).getD 0 0
def tb (rows : List (List Int)) (x : Nat) : Int := (rows.getD x []).getD 1 0
theorem t_bd {rows : List (List Int)} (h : pairsM rows = true) (x : Nat) : (0 ≤ ta rows x ∧ ta rows x ≤ 9) ∧ (0 ≤ tb rows x ∧ tb rows x ≤ 9) := by
  obtain ⟨_, h2⟩ := pairs_get h
  unfold ta tb
  rcases Nat.lt_or_ge x rows.length with hx | hx
  · rw [List.getD_eq_getElem?_getD (l := rows), List.getElem?_eq_getElem hx]
    have := h2 rows[x] (List.getElem_mem hx)
    exact ⟨this.2.1, this.2.2⟩
  · rw [List.getD_eq_getElem?_getD (l := rows), List.getElem?_eq_none hx]; simp
theorem t_at {rows : List (List Int)} {x : Nat} {r : List Int} (h : rows[x]? = some r) : ta rows x = r.getD 0 0 ∧ tb rows x = r.getD 1 0 := by
  unfold ta tb; rw [List.getD_eq_getElem?_getD (l := rows), h]; exact ⟨rfl, rfl⟩
-- orders
def orderP (o : List Int) (n : Nat) : Prop := ((∀ x ∈ o, 0 ≤ x ∧ x < (n : Int)) ∧ o.Nodup) ∧ o.length = n
instance (o : List Int) (n : Nat) : Decidable (orderP o n) := by unfold orderP; infer_instance
def orderM (o : List Int) (n : Nat) : Bool := decide (orderP o n)
theorem orderM_get {o : List Int} {n : Nat} (h : orderM o n = true) : orderP o n := of_decide_eq_true h
def nO (o : List Int) : List Nat := o.map Int.toNat
theorem nO_perm {o : List Int} {n : Nat} (h : orderP o n) : (nO o).Perm (List.range n) := by
  obtain ⟨⟨h1, h2⟩, h3⟩ := h
  have hn : (nO o).Nodup := by
    refine List.pairwise_map.2 (h2.imp_of_mem (fun {x y} hx hy hne e => hne ?_))
    have := h1 x hx; have := h1 y hy; omega
  have hs : nO o ⊆ List.range n := fun x hx => by
    obtain ⟨y, hy, rfl⟩ := List.mem_map.1 hx
    have := h1 y hy; simp; omega
  refine (List.perm_ext_iff_of_nodup hn List.nodup_range).2 (fun x => ⟨fun hx => hs hx, fun hx => ?_⟩)
  apply Classical.byContradiction
  intro hm
  have : (x :: nO o).length ≤ (List.range n).length := List.Nodup.length_le_of_subset (List.nodup_cons.2 ⟨hm, hn⟩) (fun y hy => by
    rcases List.mem_cons.1 hy with rfl | hy
    · exact hx
    · exact hs hy)
  simp [nO] at this; omega
theorem order_bad {o : List Int} {n k : Nat} {x : Int} (h : o[k]? = some x) (hx : inB 0 ((n : Int) - 1) x = false) : orderM o n = false := by
  refine decide_eq_false (fun hp => ?_)
  have := hp.1.1 x (List.mem_of_getElem? h)
  unfold inB at hx
  simp only [decide_eq_false_iff_not] at hx
  omega
theorem order_twice {o : List Int} {n k : Nat} {x : Int} (h : o[k]? = some x) (hx : x ∈ o.take k) : orderM o n = false := by
  refine decide_eq_false (fun hp => ?_)
  have hn := hp.1.2
  have h2 : (o.take (k + 1)).Nodup := hn.sublist (List.take_sublist _ _)
  rw [take_get h] at h2
  exact (List.nodup_append.1 h2).2.2 x hx x (by simp) rfl
theorem nO_snoc {o : List Int} {k : Nat} {x : Int} (h : o[k]? = some x) : nO (o.take (k + 1)) = nO (o.take k) ++ [x.toNat] := by
  rw [take_get h]; simp [nO]
theorem run_bd {rows : List (List Int)} (hp : pairsM rows = true) (l : List Nat) : (0 ≤ (runT (ta rows) (tb rows) (0, 0) l).1 ∧ (runT (ta rows) (tb rows) (0, 0) l).1 ≤ 9 * (l.length : Int)) ∧ (0 ≤ (runT (ta rows) (tb rows) (0, 0) l).2 ∧ (runT (ta rows) (tb rows) (0, 0) l).2 ≤ 18 * (l.length : Int)) := by
  have h1 := runT_fst (ta rows) (tb rows) l (0, 0)
  have h2 := sumL_nn (fun x => (t_bd hp x).1.1) l
  have h3 := sumL_bd (fun x => (t_bd hp x).1.2) l
  have h4 := sumL_bd (fun x => (t_bd hp x).2.2) l
  have h5 := span_sums (fun x => (t_bd hp x).1.1) (fun x => (t_bd hp x).2.1) l
  have h6 := sumL_nn (fun x => (t_bd hp x).2.1) l
  unfold spanT at h5
  simp only at h1
  omega
/-- what SpanOf answers -/
def spanFine (rows : List (List Int)) (o : List Int) : Bool := pairsM rows && orderM o rows.length
def spanRes (rows : List (List Int)) (o : List Int) : Int := if spanFine rows o then spanT (ta rows) (tb rows) (nO o) else -1
theorem spanRes_no {rows : List (List Int)} {o : List Int} (h : spanFine rows o = false) : spanRes rows o = -1 := by unfold spanRes; rw [h]; rfl
theorem spanRes_yes {rows : List (List Int)} {o : List Int} (h : spanFine rows o = true) : spanRes rows o = spanT (ta rows) (tb rows) (nO o) := by unfold spanRes; rw [h]; rfl
theorem spanFine_get {rows : List (List Int)} {o : List Int} (h : spanFine rows o = true) : pairsM rows = true ∧ orderP o rows.length := by
  simp only [spanFine, Bool.and_eq_true] at h; exact ⟨h.1, orderM_get h.2⟩
end Go.Proofs.Ytkebdelfklmigad
namespace Go.Proofs.Ytkebdelfklmigad
open Go.RowKit Go.WideShapes

/-- v is a slice of the call's own, of rows of its own -/
def OwnRowsV (w : World) (B : Nat) (v : Value) (k : Nat) (rows : List (List Int)) : Prop := ∃ us : List Value, w.ownsRow B 23 1 v k us ∧ rows.length = k ∧
  ∀ (q : Nat) (u : Value), us[q]? = some u → ∃ (a : Option Addr) (l c : Nat) (r : List Int), rows[q]? = some r ∧ u = .slice a l c ∧ l ≤ c ∧ l ≤ 1048576 ∧ w.ownsRow B 3 1 u l (r.map (.int .i64))
theorem own_two (w : World) {B : Nat} (hB : B ≤ w.heap.size) (x y : Int) : (w.alloc (.cells #[.int .i64 x, .int .i64 y] 3)).ownsRow B 3 1 (.slice (some ⟨w.heap.size, 0, none⟩) 2 2) 2 ([x, y].map (.int .i64)) :=
  ⟨rfl, .inr ⟨w.heap.size, 2, _, rfl, hB, heap_alloc_new w _, Nat.le_refl _, by unfold maxLen; omega, rfl, rfl⟩⟩
theorem OwnRowsV.rows {w : World} {B k : Nat} {a : Option Addr} {cap : Nat} {rows : List (List Int)} (h : OwnRowsV w B (.slice a k cap) k rows) (hk : k ≤ 1048576) :
    RowsAt w (fun b => B ≤ b ∧ b < w.heap.size) a k rows := by
  obtain ⟨us, h1, h2, h3⟩ := h
  have hul : us.length = k := by have := h1.1; simpa using this
  refine ⟨h2, by omega, fun h0 => ?_⟩
  have hc := fun g hg => h1.cells (g := g) hg
  have hlt := h1.lt
  rcases h1.2 with ⟨e1, e2⟩ | ⟨g, cp, cur, e1, e2, _⟩
  · omega
  · injection e1 with e3 _ _
    subst e3
    refine ⟨g, 0, rfl, hlt g rfl, fun i r hr => ?_⟩
    have hi : i < us.length := by have := (List.getElem?_eq_some_iff.1 hr).1; omega
    obtain ⟨a', l, c, r', hr', hu, hlc, hl, hown⟩ := h3 i us[i] (List.getElem?_eq_getElem hi)
    rw [hr] at hr'
    injection hr' with hr'
    subst hr'
    rw [hu] at hown
    obtain ⟨a2, c2, e4, _, hints⟩ := own_ints hown (by omega)
    injection e4 with e5 _ _
    subst e5
    refine ⟨a', l, c, ?_, hlc, hints⟩
    have := hc g rfl i us[i] (List.getElem?_eq_getElem hi)
    rw [hu, add_plain] at this
    exact this
theorem OwnRowsV.push {w w' : World} {B k l : Nat} {v v' : Value} {a : Option Addr} {c : Nat} {rows : List (List Int)} {r : List Int} {us : List Value} (hv : w.ownsRow B 23 1 v k us) (hl : rows.length = k)
    (hus : ∀ (q : Nat) (u : Value), us[q]? = some u → ∃ (a : Option Addr) (l c : Nat) (r : List Int), rows[q]? = some r ∧ u = .slice a l c ∧ l ≤ c ∧ l ≤ 1048576 ∧ w.ownsRow B 3 1 u l (r.map (.int .i64)))
    (hu : w.ownsRow B 3 1 (.slice a l c) l (r.map (.int .i64))) (hlc : l ≤ c) (hl2 : l ≤ 1048576) (hv' : w'.ownsRow B 23 1 v' (k + 1) (us ++ [.slice a l c])) (hg : w.grownBy w' v.ownBlock) : OwnRowsV w' B v' (k + 1) (rows ++ [r]) := by
  have hul : us.length = k := by have := hv.1; simpa using this
  refine ⟨_, hv', by simp [hl], fun q u hq => ?_⟩
  rcases Nat.lt_or_ge q us.length with h | h
  · rw [List.getElem?_append_left h] at hq
    obtain ⟨a', l', c', r', h1, h2, h3, h4, h5⟩ := hus q u hq
    exact ⟨a', l', c', r', by rw [List.getElem?_append_left (by omega)]; exact h1, h2, h3, h4, h5.kept hg (own_ne h5 hv (by decide))⟩
  · rw [List.getElem?_append_right h] at hq
    have hq0 : q - us.length = 0 := by
      have := (List.getElem?_eq_some_iff.1 hq).1; simp at this; omega
    rw [hq0] at hq
    simp only [List.getElem?_cons_zero, Option.some.injEq] at hq
    subst hq
    exact ⟨a, l, c, r, by rw [List.getElem?_append_right (by omega), show q - rows.length = 0 by omega]; rfl, rfl, hlc, hl2, hu.kept hg (own_ne hu hv (by decide))⟩
def turnP (rows : List (List Int)) : List (List Int) := rows.map (fun r => [r.getD 1 0, r.getD 0 0])
end Go.Proofs.Ytkebdelfklmigad
namespace Go.Proofs.Ytkebdelfklmigad

-- the pace (plain)
/-- U by D is the greatest of the pairs, 0 by 1 if all are 0 -/
structure IsGr (U D : Nat) (Q : Int → Nat → Prop) : Prop where
  d1 : 1 ≤ D
  u36 : U ≤ 36
  d12 : D ≤ 12
  cop : Nat.gcd U D = 1
  all : ∀ T C, Q T C → T * (D : Int) ≤ (U : Int) * (C : Int)
  one : (U = 0 ∧ D = 1) ∨ ∃ T C, Q T C ∧ 1 ≤ C ∧ T * (D : Int) = (U : Int) * (C : Int)
theorem frac_trans {T U1 D1 C U2 D2 : Int} (h1 : T * D1 ≤ U1 * C) (h2 : U1 * D2 ≤ U2 * D1) (hC : 0 ≤ C) (hD1 : 0 < D1) (hD2 : 0 ≤ D2) : T * D2 ≤ U2 * C := by
  have a1 : T * D1 * D2 ≤ U1 * C * D2 := Int.mul_le_mul_of_nonneg_right h1 hD2
  have a2 : U1 * D2 * C ≤ U2 * D1 * C := Int.mul_le_mul_of_nonneg_right h2 hC
  refine Int.le_of_mul_le_mul_right ?_ hD1
  calc T * D2 * D1 = T * D1 * D2 := by rw [Int.mul_assoc, Int.mul_comm D2, ← Int.mul_assoc]
    _ ≤ U1 * C * D2 := a1
    _ = U1 * D2 * C := by rw [Int.mul_assoc, Int.mul_comm C, ← Int.mul_assoc]
    _ ≤ U2 * D1 * C := a2
    _ = U2 * C * D1 := by rw [Int.mul_assoc, Int.mul_comm D1, ← Int.mul_assoc]
theorem gr_zero {Q : Int → Nat → Prop} (h : ∀ T C, ¬ Q T C) : IsGr 0 1 Q := ⟨by omega, by omega, by omega, by decide, fun T C hq => absurd hq (h T C), .inl ⟨rfl, rfl⟩⟩
theorem gr_left {U D U' D' : Nat} {Q Q' R : Int → Nat → Prop} (h : IsGr U D Q) (h' : IsGr U' D' Q') (hl : ¬ (U : Int) * D' < (U' : Int) * D) (hR : ∀ T C, R T C ↔ Q T C ∨ Q' T C) : IsGr U D R := by
  refine ⟨h.d1, h.u36, h.d12, h.cop, fun T C hq => ?_, ?_⟩
  · rcases (hR T C).1 hq with hq | hq
    · exact h.all T C hq
    · exact frac_trans (h'.all T C hq) (by omega) (by omega) (by have := h'.d1; omega) (by omega)
  · rcases h.one with e | ⟨T, C, hq, e⟩
    · exact .inl e
    · exact .inr ⟨T, C, (hR T C).2 (.inl hq), e⟩
theorem gr_right {U D U' D' : Nat} {Q Q' R : Int → Nat → Prop} (h : IsGr U D Q) (h' : IsGr U' D' Q') (hl : (U : Int) * D' < (U' : Int) * D) (hR : ∀ T C, R T C ↔ Q T C ∨ Q' T C) : IsGr U' D' R := by
  refine ⟨h'.d1, h'.u36, h'.d12, h'.cop, fun T C hq => ?_, ?_⟩
  · rcases (hR T C).1 hq with hq | hq
    · exact frac_trans (h.all T C hq) (by omega) (by omega) (by have := h.d1; omega) (by omega)
    · exact h'.all T C hq
  · rcases h'.one with e | ⟨T, C, hq, e⟩
    · exact .inl e
    · exact .inr ⟨T, C, (hR T C).2 (.inr hq), e⟩
theorem gr_congr {U D : Nat} {Q R : Int → Nat → Prop} (h : IsGr U D Q) (hR : ∀ T C, R T C ↔ Q T C) : IsGr U D R := by
  refine ⟨h.d1, h.u36, h.d12, h.cop, fun T C hq => h.all T C ((hR T C).1 hq), ?_⟩
  rcases h.one with e | ⟨T, C, hq, e⟩
  · exact .inl e
  · exact .inr ⟨T, C, (hR T C).2 hq, e⟩
theorem gcd_div {T C : Nat} (hC : 1 ≤ C) : 1 ≤ C / Nat.gcd T C ∧ Nat.gcd (T / Nat.gcd T C) (C / Nat.gcd T C) = 1 ∧ T * (C / Nat.gcd T C) = T / Nat.gcd T C * C := by
  have hg : 0 < Nat.gcd T C := Nat.gcd_pos_of_pos_right _ hC
  obtain ⟨a, ha⟩ := Nat.gcd_dvd_left T C
  obtain ⟨b, hb⟩ := Nat.gcd_dvd_right T C
  refine ⟨?_, ?_, ?_⟩
  · exact Nat.div_pos (Nat.le_of_dvd hC (Nat.gcd_dvd_right T C)) hg
  · exact Nat.coprime_div_gcd_div_gcd hg
  · have e1 : T / Nat.gcd T C = a := Nat.div_eq_of_eq_mul_right hg ha
    have e2 : C / Nat.gcd T C = b := Nat.div_eq_of_eq_mul_right hg hb
    rw [e1, e2]
    calc T * b = Nat.gcd T C * a * b := by rw [← ha]
      _ = a * (Nat.gcd T C * b) := by rw [Nat.mul_comm (Nat.gcd T C) a, Nat.mul_assoc]
      _ = a * C := by rw [← hb]
theorem gr_one {T C : Nat} (hT : T ≤ 36) (hC : 1 ≤ C) (hC2 : C ≤ 12) : IsGr (T / Nat.gcd T C) (C / Nat.gcd T C) (fun t c => t = (T : Int) ∧ c = C) := by
  obtain ⟨h1, h2, h3⟩ := gcd_div (T := T) hC
  have h4 : (T : Int) * ((C / Nat.gcd T C : Nat) : Int) = ((T / Nat.gcd T C : Nat) : Int) * (C : Int) := by exact_mod_cast h3
  refine ⟨h1, Nat.le_trans (Nat.div_le_self _ _) hT, Nat.le_trans (Nat.div_le_self _ _) hC2, h2, ?_, .inr ⟨T, C, ⟨rfl, rfl⟩, hC, h4⟩⟩
  rintro t c ⟨rfl, rfl⟩
  exact Int.le_of_eq h4
/-- the pace of a net: in lowest terms, kept, and nothing less is kept -/
structure IsPace (g : Gr) (U D : Nat) : Prop where
  d1 : 1 ≤ D
  u36 : U ≤ 36
  d12 : D ≤ 12
  cop : Nat.gcd U D = 1
  kept : g.keeps U D
  least : ∀ up down : Int, 0 ≤ up → 1 ≤ down → g.keeps up down → (U : Int) * down ≤ up * (D : Int)
theorem pace_of {g : Gr} (hg : g.Ok) {rk : Nat → Nat} (hr : g.Rank rk) {U D : Nat} {Q : Int → Nat → Prop} (h : IsGr U D Q) (h1 : ∀ T C, g.Rounds T C → Q T C) (h2 : ∀ T C, Q T C → g.RoundsA T C) : IsPace g U D := by
  refine ⟨h.d1, h.u36, h.d12, h.cop, ?_, fun up down hu hd hk => ?_⟩
  · refine Classical.byContradiction fun hn => ?_
    obtain ⟨T, C, hq, hp⟩ := rounds_of_not hg hn
    have := h.all T C (h1 T C hq)
    rw [Int.mul_comm T] at this
    omega
  · rcases h.one with ⟨rfl, rfl⟩ | ⟨T, C, hq, hC, e⟩
    · simp; exact hu
    · obtain ⟨s, _, hb⟩ := h2 T C hq
      obtain ⟨p, hp⟩ := hk
      have h3 := back_pot hp hb
      have h4 : T * down ≤ up * (C : Int) := by rw [Int.mul_comm T]; omega
      have hC0 : (0 : Int) < (C : Int) := by omega
      refine Int.le_of_mul_le_mul_right ?_ hC0
      calc (U : Int) * down * C = (U : Int) * C * down := by rw [Int.mul_assoc, Int.mul_comm down, ← Int.mul_assoc]
        _ = T * (D : Int) * down := by rw [e]
        _ = T * down * (D : Int) := by rw [Int.mul_assoc, Int.mul_comm (D : Int), ← Int.mul_assoc]
        _ ≤ up * (C : Int) * (D : Int) := Int.mul_le_mul_of_nonneg_right h4 (by omega)
        _ = up * (D : Int) * (C : Int) := by rw [Int.mul_assoc, Int.mul_comm (C : Int), ← Int.mul_assoc]
theorem rounds_pos {g : Gr} {rk : Nat → Nat} (hr : g.Rank rk) {T : Int} {C : Nat} (h : g.RoundsA T C) : 1 ≤ C := by
  obtain ⟨s, _, hb⟩ := h
  rcases Nat.eq_zero_or_pos C with e | e
  · have := back_rank hr hb e; omega
  · exact e
theorem cop_unique {U D U' D' : Nat} (h1 : Nat.gcd U D = 1) (h2 : Nat.gcd U' D' = 1) (hD : 1 ≤ D) (he : U * D' = U' * D) : U = U' ∧ D = D' := by
  have a1 : D ∣ D' := Nat.Coprime.dvd_of_dvd_mul_left (k := D) (m := U) (by rw [Nat.Coprime, Nat.gcd_comm]; exact h1) ⟨U', by rw [he, Nat.mul_comm]⟩
  have a2 : D' ∣ D := Nat.Coprime.dvd_of_dvd_mul_left (k := D') (m := U') (by rw [Nat.Coprime, Nat.gcd_comm]; exact h2) ⟨U, by rw [← he, Nat.mul_comm]⟩
  have e : D = D' := Nat.dvd_antisymm a1 a2
  subst e
  exact ⟨Nat.eq_of_mul_eq_mul_right (by omega) he, rfl⟩
theorem pace_unique {g : Gr} {U D U' D' : Nat} (h : IsPace g U D) (h' : IsPace g U' D') : U = U' ∧ D = D' := by
  have a1 := h.least _ _ (by omega) (by have := h'.d1; omega) h'.kept
  have a2 := h'.least _ _ (by omega) (by have := h.d1; omega) h.kept
  refine cop_unique h.cop h'.cop h.d1 ?_
  have : (U : Int) * (D' : Int) = (U' : Int) * (D : Int) := by omega
  exact_mod_cast this
/-- a pace is kept at any scale -/
theorem keeps_scale {g : Gr} {up down k : Int} (hk : 0 < k) : g.keeps (k * up) (k * down) ↔ g.keeps up down := by
  constructor
  · rintro ⟨p, hp⟩
    refine ⟨fun v => p v / k, fun q hq => ?_⟩
    have h := hp q hq
    have e : g.w (k * up) (k * down) q = g.w up down q * k := by
      unfold Gr.w
      rw [Int.sub_mul, Int.mul_assoc, Int.mul_assoc, Int.mul_comm k, Int.mul_comm k]
    rw [e] at h
    have h2 := Int.ediv_le_ediv hk h
    rw [Int.add_mul_ediv_right _ _ (by omega)] at h2
    exact h2
  · rintro ⟨p, hp⟩
    refine ⟨fun v => k * p v, fun q hq => ?_⟩
    have h := Int.mul_le_mul_of_nonneg_left (hp q hq) (Int.le_of_lt hk)
    have e : g.w (k * up) (k * down) q = k * g.w up down q := by
      unfold Gr.w
      rw [Int.mul_sub, Int.mul_assoc, Int.mul_assoc]
    rw [e, ← Int.mul_add]
    exact h
theorem keeps_slower {g : Gr} {up up' down : Int} (h : g.keeps up down) (hu : up ≤ up') : g.keeps up' down := by
  obtain ⟨p, hp⟩ := h
  refine ⟨p, fun k hk => ?_⟩
  have := hp k hk
  have h2 : up * (g.c k : Int) ≤ up' * (g.c k : Int) := Int.mul_le_mul_of_nonneg_right hu (by omega)
  unfold Gr.w at this ⊢
  omega
/-- kept exactly if the pace is at most it -/
theorem pace_keeps {g : Gr} {U D : Nat} (h : IsPace g U D) {up down : Int} (hu : 0 ≤ up) (hd : 1 ≤ down) : g.keeps up down ↔ (U : Int) * down ≤ up * (D : Int) := by
  refine ⟨h.least up down hu hd, fun hle => ?_⟩
  have hD : (0 : Int) < (D : Int) := by have := h.d1; omega
  refine (keeps_scale hD).1 ?_
  have h1 := (keeps_scale (g := g) (up := (U : Int)) (down := (D : Int)) (k := down) (by omega)).2 h.kept
  rw [Int.mul_comm (D : Int) down]
  refine keeps_slower h1 ?_
  rw [Int.mul_comm down, Int.mul_comm (D : Int)]
  exact hle
/-- nothing less is kept -/
theorem pace_less {g : Gr} (hg : g.Ok) {U D : Nat} (h : IsPace g U D) (hU : 1 ≤ U) : g.keepB ((U : Int) - 1) D = false := by
  refine Bool.eq_false_iff.2 fun hk => ?_
  have h1 := h.least _ _ (by omega) (by have := h.d1; omega) ((keepB_iff hg).1 hk)
  have h2 := h.d1
  rw [Int.sub_mul] at h1
  omega
theorem pace_kept {g : Gr} (hg : g.Ok) {U D : Nat} (h : IsPace g U D) : g.keepB U D = true := (keepB_iff hg).2 h.kept
/-- with more tokens the pace is no more -/
theorem pace_more {g h : Gr} (em : h.m = g.m) (ef : ∀ k, k < g.m → h.f k = g.f k ∧ h.t k = g.t k ∧ g.c k ≤ h.c k) (et : ∀ v, h.tm v = g.tm v) {U D U' D' : Nat} (hp : IsPace g U D) (hp' : IsPace h U' D') : (U' : Int) * D ≤ (U : Int) * D' := by
  refine hp'.least U D (by omega) (by have := hp.d1; omega) ?_
  obtain ⟨p, hq⟩ := hp.kept
  refine ⟨p, fun k hk => ?_⟩
  rw [em] at hk
  obtain ⟨e1, e2, e3⟩ := ef k hk
  have h1 := hq k hk
  have h2 : (U : Int) * (g.c k : Int) ≤ (U : Int) * (h.c k : Int) := Int.mul_le_mul_of_nonneg_left (by omega) (by omega)
  unfold Gr.w at h1 ⊢
  rw [e1, e2, et]
  omega
/-- by the pace none begins too late -/
theorem b_pace {g : Gr} (hg : g.Ok) {rk : Nat → Nat} (hr : g.Rank rk) {U D : Nat} (h : IsPace g U D) : ∀ r v, r ≤ 40 → v < g.n → g.b r v * (D : Int) ≤ (U : Int) * (r : Int) + (D : Int) * sm g.tm g.n := by
  intro r v h40 hv
  have hk := h.kept
  have hD : (1 : Int) ≤ (D : Int) := by have := h.d1; omega
  have key : g.b r v ≤ ((U : Int) * (r : Int) + g.D U D g.n v) / (D : Int) := by
    refine b_le hg hr (fun r v => ((U : Int) * (r : Int) + g.D U D g.n v) / (D : Int)) (R := 41) (by omega) (fun r v _ _ => ?_) (fun r k hrR hkm hc hi => ?_) r v (by omega) hv
    · refine Int.ediv_nonneg ?_ (by omega)
      have := D_nn (g := g) (up := U) (down := D) g.n v
      have : 0 ≤ (U : Int) * (r : Int) := Int.mul_nonneg (by omega) (by omega)
      omega
    · have h1 := pot_D hg hk k hkm
      have h2 := (Int.le_ediv_iff_mul_le (by omega : (0 : Int) < (D : Int))).1 hi
      refine (Int.le_ediv_iff_mul_le (by omega : (0 : Int) < (D : Int))).2 ?_
      unfold Gr.w at h1
      have e : (((r - g.c k : Nat) : Int)) = (r : Int) - (g.c k : Int) := by omega
      rw [e, Int.mul_sub] at h2
      rw [Int.add_mul, Int.mul_comm (g.tm (g.f k))]
      omega
  have h1 := (Int.le_ediv_iff_mul_le (by omega : (0 : Int) < (D : Int))).1 key
  have h2 := D_total hg hk (by omega) (by omega) hv g.n
  omega
/-- a ring: its pace -/
theorem pace_ring {g : Gr} {n c : Nat} (hn : 0 < n) (hc : 1 ≤ c) (en : g.n = n) (em : g.m = n) (ef : ∀ k, k < n → g.f k = k ∧ g.t k = (k + 1) % n ∧ g.c k = if k = n - 1 then c else 0) {U D : Nat} (hd : 1 ≤ D) (hu : U ≤ 36) (hd2 : D ≤ 12) (hcop : Nat.gcd U D = 1) (he : sm g.tm n * (D : Int) = (U : Int) * (c : Int)) : IsPace g U D := by
  have eq1 : ∀ k, k < n → k ≠ n - 1 → (k + 1) % n = k + 1 := fun k hk hne => Nat.mod_eq_of_lt (by omega)
  have eq2 : (n - 1 + 1) % n = 0 := by rw [Nat.sub_add_cancel hn, Nat.mod_self]
  refine ⟨hd, hu, hd2, hcop, ⟨fun v => (D : Int) * sm g.tm v, fun k hk => ?_⟩, fun up down h0 h1 hk => ?_⟩
  · rw [em] at hk
    obtain ⟨e1, e2, e3⟩ := ef k hk
    unfold Gr.w
    rw [e1, e2, e3]
    by_cases hkn : k = n - 1
    · subst hkn
      rw [eq2, if_pos rfl]
      have : sm g.tm n = sm g.tm (n - 1) + g.tm (n - 1) := by
        obtain ⟨q, rfl⟩ : ∃ q, n = q + 1 := ⟨n - 1, by omega⟩
        rfl
      rw [this, Int.add_mul, Int.mul_comm (sm g.tm (n - 1)), Int.mul_comm (g.tm (n - 1))] at he
      simp only [sm]
      omega
    · rw [eq1 k hk hkn, if_neg hkn]
      simp only [sm, Int.mul_add]
      omega
  · obtain ⟨p, hp⟩ := hk
    have key : ∀ q, q < n → down * sm g.tm q ≤ p q - p 0 := by
      intro q
      induction q with
      | zero => intro _; simp only [sm]; omega
      | succ q ih =>
        intro hq
        have h2 := hp q (by omega)
        obtain ⟨e1, e2, e3⟩ := ef q (by omega)
        unfold Gr.w at h2
        rw [e1, e2, e3, eq1 q (by omega) (by omega), if_neg (by omega)] at h2
        have := ih (by omega)
        simp only [sm, Int.mul_add]
        omega
    have h2 := hp (n - 1) (by omega)
    obtain ⟨e1, e2, e3⟩ := ef (n - 1) (by omega)
    unfold Gr.w at h2
    rw [e1, e2, e3, eq2, if_pos rfl] at h2
    have h3 := key (n - 1) (by omega)
    have h4 : down * sm g.tm n ≤ up * (c : Int) := by
      obtain ⟨q, rfl⟩ : ∃ q, n = q + 1 := ⟨n - 1, by omega⟩
      simp only [Nat.add_sub_cancel] at h2 h3
      simp only [sm, Int.mul_add]
      omega
    have hC0 : (0 : Int) < (c : Int) := by omega
    refine Int.le_of_mul_le_mul_right ?_ hC0
    calc (U : Int) * down * c = (U : Int) * c * down := by rw [Int.mul_assoc, Int.mul_comm down, ← Int.mul_assoc]
      _ = sm g.tm n * (D : Int) * down := by rw [he]
      _ = down * sm g.tm n * (D : Int) := by rw [Int.mul_assoc, Int.mul_comm (D : Int), ← Int.mul_assoc, Int.mul_comm (sm g.tm n)]
      _ ≤ up * (c : Int) * (D : Int) := Int.mul_le_mul_of_nonneg_right h4 (by omega)
      _ = up * (D : Int) * (c : Int) := by rw [Int.mul_assoc, Int.mul_comm (c : Int), ← Int.mul_assoc]
theorem rank_ring {g : Gr} {n c : Nat} (hn : 0 < n) (hc : 1 ≤ c) (en : g.n = n) (em : g.m = n) (ef : ∀ k, k < n → g.f k = k ∧ g.t k = (k + 1) % n ∧ g.c k = if k = n - 1 then c else 0) : g.Rank (fun v => v) := by
  refine ⟨fun v hv => hv, fun k hk h0 => ?_⟩
  show g.f k < g.t k
  rw [em] at hk
  obtain ⟨e1, e2, e3⟩ := ef k hk
  by_cases hkn : k = n - 1
  · rw [e3, if_pos hkn] at h0; omega
  · rw [e1, e2, Nat.mod_eq_of_lt (by omega)]; omega
theorem sm_total (ts : List Int) : sm (fun v => ts.getD v 0) ts.length = ts.foldl (· + ·) 0 := by
  have key : ∀ (n : Nat), n ≤ ts.length → sm (fun v => ts.getD v 0) n = (ts.take n).foldl (· + ·) 0 := by
    intro n
    induction n with
    | zero => intro _; simp [sm]
    | succ n ih =>
      intro h
      have hx : ts[n]? = some (ts.getD n 0) := get_getD (by omega)
      rw [List.take_add_one, hx, List.foldl_append, ← ih (by omega)]
      rfl
  have := key ts.length (Nat.le_refl _)
  rwa [List.take_length] at this
end Go.Proofs.Ytkebdelfklmigad
namespace Go.Proofs.Ytkebdelfklmigad
open Go.RowKit
/-- the pace of a net that is alive, else nothing -/
def PaceRes (ts : List Int) (rows : List (List Int)) (U D : Nat) (b : Bool) : Prop := (aliveB ts rows = true ∧ b = true ∧ IsPace (grOf ts rows) U D) ∨ (aliveB ts rows = false ∧ b = false ∧ U = 0 ∧ D = 0)
theorem paceRes_unique {ts : List Int} {rows : List (List Int)} {U D U' D' : Nat} {b b' : Bool} (h : PaceRes ts rows U D b) (h' : PaceRes ts rows U' D' b') : U = U' ∧ D = D' ∧ b = b' := by
  rcases h with ⟨a, rfl, p⟩ | ⟨a, rfl, rfl, rfl⟩ <;> rcases h' with ⟨a', rfl, p'⟩ | ⟨a', rfl, rfl, rfl⟩
  · obtain ⟨e1, e2⟩ := pace_unique p p'; exact ⟨e1, e2, rfl⟩
  · rw [a] at a'; cases a'
  · rw [a] at a'; cases a'
  · exact ⟨rfl, rfl, rfl⟩
def PacePostR (w : World) (ts : List Int) (rows : List (List Int)) (e : Ending) (w' : World) : Prop := ∃ (U D : Nat) (b : Bool), e = .returned (.tuple #[.agg #[.int .i64 U, .int .i64 D], .bool b]) ∧ PaceRes ts rows U D b ∧ Below w.heap.size w w'
end Go.Proofs.Ytkebdelfklmigad
