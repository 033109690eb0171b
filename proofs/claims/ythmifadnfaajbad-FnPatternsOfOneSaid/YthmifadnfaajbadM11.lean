import Derived.Test.YthmifadnfaajbadRows
import Derived.WalkKit
import Derived.ProofKit
import Derived.WalkSpells
import Derived.WalkLawsBesides
import Derived.Lib.Hide
import Derived.Deep.Upon
import Derived.Deep.AppendLies
import Derived.Deep.DeepAppendRoom
import Derived.ArgAppend
import Derived.Test.YthmifadnfaajbadM0
import Derived.Test.YthmifadnfaajbadM1
import Derived.Test.YthmifadnfaajbadM8
import Derived.Test.YthmifadnfaajbadM10
import Derived.LoopTactic
import Derived.Outline
import Derived.IntWalk
import Derived.Test.YthmifadnfaajbadM9
import Derived.Test.YthmifadnfaajbadM2
import Derived.Deep.RegionLaw
import Derived.Deep.RegionHeld3
namespace Go.Proofs.Ythmifadnfaajbad
open Go.RowKit Go.WideShapes

theorem Try.infoIntPt : (Try.prog.info? 3).map (fun i => (i.zero, i.size, i.bytes)) = some (some (.int .i64 0), 1, 8) := by kernel_rfl
theorem Try.infoIntsPt : (Try.prog.info? 23).map (fun i => (i.zero, i.size, i.bytes)) = some (some (.slice none 0 0), 1, 24) := by kernel_rfl
/-- v is a list of rows, all in memory from B on, no two in one block -/
def Pats (w : World) (B : Nat) (v : Value) (rows : List (List Int)) : Prop := ∃ us : List Value, w.ownsRow B 23 1 v rows.length us ∧
  (∀ (q : Nat) (u : Value), us[q]? = some u → ∃ (g c : Nat) (r : List Int), rows[q]? = some r ∧ u = .slice (some ⟨g, 0, none⟩) r.length c ∧ r.length ≤ c ∧ r.length ≤ 1048576 ∧ w.ownsRow B 3 1 u r.length (r.map (.int .i64))) ∧
  (∀ (p q : Nat) (u u' : Value), p ≠ q → us[p]? = some u → us[q]? = some u' → u.ownBlock ≠ u'.ownBlock)
section
variable {w w' : World} {B : Nat} {v : Value} {rows : List (List Int)}
theorem Pats.keep (h : Pats w B v rows) (hg : ∀ b, B ≤ b → b < w.heap.size → w'.heap[b]? = w.heap[b]?) : Pats w' B v rows := by
  obtain ⟨us, h1, h2, h3⟩ := h
  refine ⟨us, own_keep h1 fun b _ a c => hg b a c, fun q u hu => ?_, h3⟩
  obtain ⟨g, c, r, e1, e2, e3, e4, e5⟩ := h2 q u hu
  exact ⟨g, c, r, e1, e2, e3, e4, own_keep e5 fun b _ a c => hg b a c⟩
theorem Pats.mono (h : Pats w B v rows) {B' : Nat} (hB : B' ≤ B) : Pats w B' v rows := by
  obtain ⟨us, h1, h2, h3⟩ := h
  have low : ∀ {e : TypeId} {v : Value} {n : Nat} {xs : List Value}, w.ownsRow B e 1 v n xs → w.ownsRow B' e 1 v n xs := fun {e v n xs} h => by
    refine ⟨h.1, ?_⟩
    rcases h.2 with hn | ⟨g, cap, cur, h1, hb, rest⟩
    · exact .inl hn
    · exact .inr ⟨g, cap, cur, h1, by omega, rest⟩
  refine ⟨us, low h1, fun q u hu => ?_, h3⟩
  obtain ⟨g, c, r, e1, e2, e3, e4, e5⟩ := h2 q u hu
  exact ⟨g, c, r, e1, e2, e3, e4, low e5⟩
theorem Pats.nil (w : World) (B : Nat) : Pats w B (.slice none 0 0) [] := ⟨[], World.ownsRow_nil _ _ _ _, fun q u h => by simp at h, fun p q u u' _ h => by simp at h⟩
theorem Pats.empty (w : World) (B : Nat) (hB : B ≤ w.heap.size) : Pats (w.alloc (.cells #[] 23)) B (.slice (some ⟨w.heap.size, 0, none⟩) 0 0) [] := ⟨[], World.ownsRow_made w #[] 0 hB (Nat.zero_le _) rfl, fun q u h => by simp at h, fun p q u u' _ h => by simp at h⟩
theorem Pats.one {r : List Int} {g c : Nat} (hB : B ≤ w.heap.size) (hu : w.ownsRow B 3 1 (.slice (some ⟨g, 0, none⟩) r.length c) r.length (r.map (.int .i64))) (hl : r.length ≤ 1048576) :
    Pats (w.alloc (.cells #[.slice (some ⟨g, 0, none⟩) r.length c] 23)) B (.slice (some ⟨w.heap.size, 0, none⟩) 1 1) [r] := by
  refine ⟨[.slice (some ⟨g, 0, none⟩) r.length c], ?_, fun q u hq => ?_, fun p q u u' hpq hp hq => ?_⟩
  · exact World.ownsRow_lit (size := 1) (e := 23) w #[.slice (some ⟨g, 0, none⟩) r.length c] 1 hB (by unfold maxLen; omega) rfl
  · obtain ⟨h1, h2⟩ := List.getElem?_eq_some_iff.1 hq
    have h0 : q = 0 := by simp at h1; omega
    subst h0
    simp at h2
    subst h2
    obtain ⟨a', c', e, hc⟩ := own_slice hu
    injection e with e1 _ e2
    exact ⟨g, c, r, rfl, rfl, by omega, hl, hu.alloc _⟩
  · have h1 := (List.getElem?_eq_some_iff.1 hp).1
    have h2 := (List.getElem?_eq_some_iff.1 hq).1
    simp at h1 h2; omega
theorem Pats.slice (h : Pats w B v rows) : ∃ a c, v = .slice a rows.length c ∧ rows.length ≤ c := by
  obtain ⟨us, h1, _⟩ := h
  obtain ⟨a, c, e, hc⟩ := own_slice h1
  exact ⟨a, c, e, hc⟩
theorem Pats.get (h : Pats w B v rows) {j : Nat} (hj : j < rows.length) : ∃ (G C g c : Nat) (r : List Int), v = .slice (some ⟨G, 0, none⟩) rows.length C ∧ rows[j]? = some r ∧ w.cell? ⟨G, j, none⟩ = some (.slice (some ⟨g, 0, none⟩) r.length c) ∧ r.length ≤ c ∧
    IntsAt w (fun b => B ≤ b ∧ b < w.heap.size) (some ⟨g, 0, none⟩) r.length r := by
  obtain ⟨us, h1, h2, _⟩ := h
  have hul : us.length = rows.length := by simpa using h1.1
  obtain ⟨G, C, hv, _, _⟩ := h1.form (by omega)
  obtain ⟨u, hu⟩ : ∃ u, us[j]? = some u := ⟨us[j]'(by omega), List.getElem?_eq_getElem _⟩
  obtain ⟨g, c, r, e1, e2, e3, e4, e5⟩ := h2 j u hu
  rw [hv] at h1
  subst e2
  refine ⟨G, C, g, c, r, hv, e1, (h1.cellAt j (by omega)).trans hu, e3, rfl, by omega, fun h0 => ⟨g, 0, rfl, e5.lt g rfl, fun i x hx => ?_⟩⟩
  have := e5.cells (g := g) rfl i (.int .i64 x) (by rw [List.getElem?_map, hx]; rfl)
  rwa [add_plain] at this
theorem Pats.rowsAt (h : Pats w B v rows) {a : Option Addr} {k c : Nat} (hv : v = .slice a k c) (hs : k ≤ 1048576) : RowsAt w (fun b => B ≤ b ∧ b < w.heap.size) a k rows := by
  have hk : rows.length = k := by
    obtain ⟨a', c', e, _⟩ := h.slice
    rw [hv] at e; injection e with _ e; omega
  refine ⟨hk, by omega, fun h0 => ?_⟩
  obtain ⟨G, C, g, c', r, e, _⟩ := h.get (j := 0) (by omega)
  rw [hv] at e
  injection e with e1 _ _
  obtain ⟨us, h1, _⟩ := h
  refine ⟨G, 0, e1, h1.lt G (by rw [hv, e1]; rfl), fun i r hi => ?_⟩
  obtain ⟨G2, C2, g2, c2, r2, e2, f1, f2, f3, f4⟩ := Pats.get ⟨us, h1, by assumption⟩ (j := i) (List.getElem?_eq_some_iff.1 hi).1
  rw [hv, e1] at e2
  injection e2 with e2 _ _
  injection e2 with e2
  injection e2 with e2
  subst e2
  rw [hi] at f1
  injection f1 with f1
  subst f1
  exact ⟨some ⟨g2, 0, none⟩, r.length, c2, by rw [Nat.zero_add]; exact f2, f3, f4⟩
/-- rows behind rows -/
theorem Pats.join {w0 wo : World} {B2 : Nat} {v2 v' : Value} {rows2 : List (List Int)} {us us2 : List Value} (hB : B ≤ B2) (hB2 : w0.heap.size ≤ B2) (hk : ∀ b, B ≤ b → b < w0.heap.size → wo.heap[b]? = w0.heap[b]?)
    (h1 : w0.ownsRow B 23 1 v rows.length us)
    (h2 : ∀ (q : Nat) (u : Value), us[q]? = some u → ∃ (g c : Nat) (r : List Int), rows[q]? = some r ∧ u = .slice (some ⟨g, 0, none⟩) r.length c ∧ r.length ≤ c ∧ r.length ≤ 1048576 ∧ w0.ownsRow B 3 1 u r.length (r.map (.int .i64)))
    (h3 : ∀ (p q : Nat) (u u' : Value), p ≠ q → us[p]? = some u → us[q]? = some u' → u.ownBlock ≠ u'.ownBlock)
    (g1 : wo.ownsRow B2 23 1 v2 rows2.length us2)
    (g2 : ∀ (q : Nat) (u : Value), us2[q]? = some u → ∃ (g c : Nat) (r : List Int), rows2[q]? = some r ∧ u = .slice (some ⟨g, 0, none⟩) r.length c ∧ r.length ≤ c ∧ r.length ≤ 1048576 ∧ wo.ownsRow B2 3 1 u r.length (r.map (.int .i64)))
    (g3 : ∀ (p q : Nat) (u u' : Value), p ≠ q → us2[p]? = some u → us2[q]? = some u' → u.ownBlock ≠ u'.ownBlock)
    (hown : w'.ownsRow B 23 1 v' (rows.length + rows2.length) (us ++ us2)) (hgr : wo.grownBy w' v.ownBlock) : Pats w' B v' (rows ++ rows2) := by
  have hul : us.length = rows.length := by simpa using h1.1
  have hul2 : us2.length = rows2.length := by simpa using g1.1
  have h1o := own_keep h1 fun b _ a c => hk b a c
  have hne : ∀ {n : Nat} {u : Value} {xs : List Value} {B' : Nat}, wo.ownsRow B' 3 1 u n xs → u.ownBlock = none ∨ u.ownBlock ≠ v.ownBlock := fun {n u xs B'} hu => by
    cases e : u.ownBlock with
    | none => exact .inl rfl
    | some b =>
      refine .inr fun e2 => ?_
      obtain ⟨c, hc⟩ := own_kind hu e
      obtain ⟨d, hd⟩ := own_kind h1o e2.symm
      exact ne_type hc hd (by decide) rfl
  have lo : ∀ (q : Nat) (u : Value), us[q]? = some u → ∀ b, u.ownBlock = some b → b < w0.heap.size := fun q u hq b hb => by
    obtain ⟨g, c, r, _, _, _, _, e5⟩ := h2 q u hq
    exact (e5.lt b hb).2
  have hi : ∀ (q : Nat) (u : Value), us2[q]? = some u → ∀ b, u.ownBlock = some b → B2 ≤ b := fun q u hq b hb => by
    obtain ⟨g, c, r, _, _, _, _, e5⟩ := g2 q u hq
    exact (e5.lt b hb).1
  have some1 : ∀ (q : Nat) (u : Value), us[q]? = some u → ∃ b, u.ownBlock = some b := fun q u hq => by
    obtain ⟨g, c, r, _, e2, _⟩ := h2 q u hq
    exact ⟨g, by rw [e2]; rfl⟩
  refine ⟨us ++ us2, by rw [List.length_append]; exact hown, fun q u hq => ?_, fun p q u u' hpq hp hq e => ?_⟩
  · by_cases h : q < us.length
    · rw [List.getElem?_append_left h] at hq
      obtain ⟨g, c, r, e1, e2, e3, e4, e5⟩ := h2 q u hq
      have e6 := own_keep e5 fun b _ a c => hk b a c
      exact ⟨g, c, r, by rw [List.getElem?_append_left (by omega)]; exact e1, e2, e3, e4, e6.kept hgr (hne e6)⟩
    · rw [List.getElem?_append_right (by omega)] at hq
      obtain ⟨g, c, r, e1, e2, e3, e4, e5⟩ := g2 _ u hq
      refine ⟨g, c, r, by rw [List.getElem?_append_right (by omega), ← hul]; exact e1, e2, e3, e4, ?_⟩
      have e6 := e5.kept hgr (hne e5)
      refine ⟨e6.1, ?_⟩
      rcases e6.2 with hn | ⟨g', cap, cur, k1, kb, rest⟩
      · exact .inl hn
      · exact .inr ⟨g', cap, cur, k1, by omega, rest⟩
  · by_cases hpl : p < us.length
    · rw [List.getElem?_append_left hpl] at hp
      by_cases hql : q < us.length
      · rw [List.getElem?_append_left hql] at hq
        exact h3 p q u u' hpq hp hq e
      · rw [List.getElem?_append_right (by omega)] at hq
        obtain ⟨b, hb⟩ := some1 p u hp
        have a1 := lo p u hp b hb
        have a2 := hi _ u' hq b (e ▸ hb)
        omega
    · rw [List.getElem?_append_right (by omega)] at hp
      by_cases hql : q < us.length
      · rw [List.getElem?_append_left hql] at hq
        obtain ⟨b, hb⟩ := some1 q u' hq
        have a1 := lo q u' hq b hb
        have a2 := hi _ u hp b (e.symm ▸ hb)
        omega
      · rw [List.getElem?_append_right (by omega)] at hq
        exact g3 _ _ u u' (by omega) hp hq e
end
/-- append of rows to rows -/
theorem wpPats {ops : Array Oper} {rest : List Oper} {o : Oper} {a : Act} {Q : Exit → Act → World → Prop} {w0 wo : World} (hgd : o.guard = none) (s x : Operand)
    (ho : o.op = .call { callee := .builtin .append, args := #[s, x], argTypes := #[27, 27] })
    (B B2 : Nat) (v v2 : Value) (rows rows2 : List (List Int)) (hs : a.eval s = v) (hx : a.eval x = v2) (h1 : Pats w0 B v rows) (hk : ∀ b, B ≤ b → b < w0.heap.size → wo.heap[b]? = w0.heap[b]?) (hsz : w0.heap.size ≤ wo.heap.size) (h2 : Pats wo B2 v2 rows2) (hB : B ≤ B2) (hB2 : w0.heap.size ≤ B2) (hBo : B ≤ wo.heap.size) (hlen : rows.length + rows2.length ≤ 1048576)
    (h : ∀ (v' : Value) (w' : World), Pats w' B v' (rows ++ rows2) → wo.grownBy w' v.ownBlock → (v'.ownBlock = v.ownBlock ∨ v'.ownBlock = some wo.heap.size) → wpList Try.prog ops Q rest (a.put o.dst v') w') :
    wpList Try.prog ops Q (o :: rest) a wo := by
  obtain ⟨us, p1, p2, p3⟩ := h1
  obtain ⟨us2, q1, q2, q3⟩ := h2
  obtain ⟨i1, hj, hy0, hy1, hy2⟩ := info_parts Try.infoIntsPt
  have p1o := own_keep p1 fun b _ a c => hk b a c
  by_cases hm : 0 < rows2.length
  · obtain ⟨G, C, e, _, _⟩ := q1.form hm
    have q1' := q1
    rw [e] at q1'
    refine wpList_append_own_at wo hgd s x 27 ho B 23 i1 (.slice none 0 0) 1 24 Try.underlying27 hj hy0 hy1 hy2 rfl (by decide) v rows.length us hs p1o ⟨G, 0, none⟩ rows2.length C us2 (by rw [hx, e]) (by simpa using q1.1) (q1'.cells (g := G) rfl) (fun u hu => ?_) (by unfold maxLen; omega) (by omega) hBo ?_
    · obtain ⟨q, hq⟩ := List.mem_iff_getElem?.1 hu
      obtain ⟨g, c, r, _, e2, _⟩ := q2 q u hq
      rw [e2]; rfl
    · intro v' w' hown hgr _ hat
      exact h v' w' (Pats.join hB hB2 hk p1 p2 p3 q1 q2 q3 hown hgr) hgr hat
  · have hr2 : rows2 = [] := List.eq_nil_of_length_eq_zero (by omega)
    subst hr2
    obtain ⟨av, cv, hv, hle⟩ := own_slice p1o
    obtain ⟨ay, cy, hy, _⟩ := own_slice q1
    subst hv hy
    have hsrc : Src Try.prog i1.size 27 (.slice ay ([] : List (List Int)).length cy) 0 [] wo := by
      cases ay with
      | none => exact Src.ofNil wo Try.underlying27 cy
      | some ad => exact Src.ofSlice wo Try.underlying27 ad 0 cy [] (by simp) (fun j u hj => by simp at hj) (fun u hu => by cases hu)
    have hrun := run_append_nothing (P := Try.prog) wo 27 27 o.type 23 i1 Try.underlying27 hj av rows.length cv hle (.slice ay ([] : List (List Int)).length cy) hsrc
    refine wpList_plain hgd fun K hK => ?_
    unfold Oper.wp
    simp only [execOp, ho, resolve, invoke, builtin, Sem.run_bind, Sem.run_pure, Result.andThen_ok, List.map_toArray, List.map_cons, List.map_nil, hs, hx, hrun]
    refine hK _ _ (h _ wo ?_ (grown_refl _ _) (.inl rfl))
    rw [List.append_nil]
    exact Pats.keep ⟨us, p1, p2, p3⟩ hk
/-- append of one number to a row which is looked at later, too -/
theorem wpKeep1 {ops : Array Oper} {rest : List Oper} {o : Oper} {a : Act} {Q : Exit → Act → World → Prop} {wo : World} (hgd : o.guard = none) (s x : Operand)
    (ho : o.op = .call { callee := .builtin .append, args := #[s, x], argTypes := #[23, 23] })
    (base k cp : Nat) (ax : Option Addr) (xs : List Int) (v : Int) (hs : a.eval s = .slice ax k cp)
    (hown : wo.ownsRow base 3 1 (.slice ax k cp) k (xs.map (.int .i64))) (hx : a.eval x = .slice (some ⟨wo.heap.size, 0, none⟩) 1 1)
    (hbase : base ≤ wo.heap.size) (hk : k ≤ 1048576)
    (h : ∀ (a6 : Option Addr) (c6 : Nat) (w' : World), w'.ownsRow base 3 1 (.slice a6 (k + 1) c6) (k + 1) ((xs ++ [v]).map (.int .i64)) → ((a6 = ax ∧ c6 = cp) ∨ ∃ g, a6 = some ⟨g, 0, none⟩ ∧ wo.heap.size ≤ g) → wo.grownBy w' (Value.slice ax k cp).ownBlock → w'.ownsRow base 3 1 (.slice ax k cp) k (xs.map (.int .i64)) →
      wpList Try.prog ops Q rest (a.put o.dst (.slice a6 (k + 1) c6)) w') :
    wpList Try.prog ops Q (o :: rest) a (wo.alloc (.cells #[.int .i64 v] 3)) := by
  obtain ⟨i0, hi, hz0, hz1, hz2⟩ := info_parts Try.infoIntPt
  have ho1 := hown.alloc (.cells #[.int .i64 v] 3)
  have hxl : xs.length = k := by simpa using hown.1
  obtain ⟨a', c', e, hle⟩ := own_slice hown
  injection e with _ _ e2
  subst e2
  by_cases hroom : k + 1 ≤ cp
  · obtain ⟨g, rfl⟩ : ∃ g, ax = some ⟨g, 0, none⟩ := by
      rcases hown.2 with ⟨e, _⟩ | ⟨g, _, _, e, _⟩
      · injection e with _ _ e; omega
      · injection e with e _ _; exact ⟨g, e⟩
    refine wpList_append_own_spare _ hgd s x 23 ho base 3 i0 1 Try.underlying23 hi hz1 g k cp _ hs ho1 ⟨wo.heap.size, 0, none⟩ 1 1 [.int .i64 v] hx rfl (one_new _ _ _) (one_cell_int _ _) hroom ?_
    intro w' h1 h2
    rw [← List.map_singleton, ← List.map_append] at h1
    refine h (some ⟨g, 0, none⟩) cp w' h1 (.inl ⟨rfl, rfl⟩) (grown_comp (World.grownBy_alloc wo _ _) h2) ?_
    have := own_cut h1 (k := k) (by omega)
    rwa [Nat.mul_one, ← List.map_take, List.take_append_of_le_length (by omega), List.take_of_length_le (by omega)] at this
  · refine wpList_append_grows _ hgd s x 23 ho 3 i0 (.int .i64 0) 1 8 Try.underlying23 hi hz0 hz1 hz2 rfl (by decide) ax k cp (xs.map (.int .i64)) hs (fun e => ?_) (by simp [hxl]) (fun b hb j u hj => ?_) ⟨wo.heap.size, 0, none⟩ 1 1 [.int .i64 v] hx rfl (one_new _ _ _) (one_cell_int _ _) (by omega) (by unfold maxLen; omega) (by omega) ?_
    · rcases hown.2 with ⟨e, h0⟩ | ⟨g, _, _, e1, _⟩
      · injection e with _ _ e; exact ⟨h0, e⟩
      · rw [e] at e1; injection e1 with e1; cases e1
    · rcases hown.2 with ⟨e, h0⟩ | ⟨g, _, _, e1, _⟩
      · injection e with e _ _; rw [e] at hb; cases hb
      · injection e1 with e1 _ _
        subst e1
        injection hb with hb
        subst hb
        exact ho1.cells (g := g) rfl j u hj
    · intro v' w' h1 h2
      obtain ⟨a6, c6, rfl, _⟩ := own_slice h1
      obtain ⟨g, cap, e, hb, _⟩ := h1.form (by omega)
      injection e with e1 e2 e3
      subst e1 e3
      have hgr : wo.grownBy w' (Value.slice ax k cp).ownBlock := grown_comp (World.grownBy_alloc wo _ _) ⟨h2.os, h2.tape, h2.output, h2.size, fun b hb _ => h2.block b hb (by simp)⟩
      have hb' : wo.heap.size ≤ g := by simp at hb; omega
      refine h (some ⟨g, 0, none⟩) c6 w' ?_ (.inr ⟨g, rfl, hb'⟩) hgr (ho1.kept h2 (by cases (Value.slice ax k cp).ownBlock <;> simp))
      rw [List.map_append]
      refine ⟨h1.1, ?_⟩
      rcases h1.2 with hn | ⟨g', cap, cur, k1, kb, rest⟩
      · exact .inl hn
      · exact .inr ⟨g', cap, cur, k1, by simp at kb; omega, rest⟩
end Go.Proofs.Ythmifadnfaajbad
namespace Go.Proofs.Ythmifadnfaajbad
open Go.RowKit Go.WideShapes

theorem Try.infoInt : (Try.prog.info? 3).map (fun i => (i.zero, i.size, i.bytes)) = some (some (.int .i64 0), 1, 8) := by kernel_rfl
theorem Try.infoInts : (Try.prog.info? 23).map (fun i => (i.zero, i.size, i.bytes)) = some (some (.slice none 0 0), 1, 24) := by kernel_rfl

theorem bill_n {n : Int} (h : n ∈ [4, 5, 3, 6, 2, 1, 0]) : ∃ m : Nat, n = (m : Int) ∧ m ≤ 6 := by
  simp at h
  exact ⟨n.toNat, by omega, by omega⟩

def BillPost (w : World) (R p : Nat) (e : Ending) (w' : World) : Prop := ∃ (a : Option Addr) (len cap : Nat) (rows : List (List Int)) (p' : Nat), e = .returned (.slice a len cap) ∧
      RowsAt w' (fun b => w.heap.size ≤ b ∧ b < w'.heap.size) a len rows ∧ len ≤ cap ∧ len ≤ 6 ∧ Rd w' R p' ∧ p' ≤ p + 1000 ∧ w.grownBy w' (some R)
theorem billPost_mk {w w' : World} {R p p' len cap M : Nat} {a : Option Addr} (h : OwnRows w' w.heap.size M (.slice a len cap) len) (hl : len ≤ cap) (h6 : len ≤ 6) (hr : Rd w' R p') (hp : p' ≤ p + 1000)
    (hg : w.grownBy w' (some R)) : BillPost w R p (.returned (.slice a len cap)) w' := by
  obtain ⟨a', cap', rows, hv, _, hrows⟩ := h.rows (by omega)
  simp only [Value.slice.injEq] at hv
  obtain ⟨rfl, _, rfl⟩ := hv
  exact ⟨_, _, _, rows, p', rfl, hrows, hl, h6, hr, hp, hg⟩

end Go.Proofs.Ythmifadnfaajbad
namespace Go.Proofs.Ythmifadnfaajbad
open Go.RowKit Go.WideShapes

-- pairs
def pairB (r : List Int) : Bool := r.length == 2 && (inB 0 9 (r.getD 0 0) && inB 0 9 (r.getD 1 0))
def pairsM (rows : List (List Int)) : Bool := rows.all pairB && decide (rows.length ≤ 8)
theorem pairs_false {rows : List (List Int)} {k : Nat} {r : List Int} (h : rows[k]? = some r) (hr : pairB r = false) : pairsM rows = false := by
  unfold pairsM
  rw [List.all_eq_false.2 ⟨r, List.mem_of_getElem? h, by rw [hr]; simp⟩]; rfl
theorem pairs_get {rows : List (List Int)} (h : pairsM rows = true) : rows.length ≤ 8 ∧ ∀ r ∈ rows, r.length = 2 ∧ (0 ≤ r.getD 0 0 ∧ r.getD 0 0 ≤ 9) ∧ (0 ≤ r.getD 1 0 ∧ r.getD 1 0 ≤ 9) := by
  simp only [pairsM, Bool.and_eq_true, decide_eq_true_eq, List.all_eq_true] at h
  refine ⟨h.2, fun r hr => ?_⟩
  have := h.1 r hr
  simp only [pairB, Bool.and_eq_true, beq_iff_eq] at this
  exact ⟨this.1, by simpa [inB] using this.2.1, by simpa [inB] using this.2.2⟩
/-- the times of a job -/
def ta (rows : List (List Int)) (x : Nat) : Int := (rows.getD x []).getD 0 0
def tb (rows : List (List Int)) (x : Nat) : Int := (rows.getD x []).getD 1 0
theorem t_bd {rows : List (List Int)} (h : pairsM rows = true) (x : Nat) : (0 ≤ ta rows x ∧ ta rows x ≤ 9) ∧ (0 ≤ tb rows x ∧ tb rows x ≤ 9) := by
  obtain ⟨_, h2⟩ := pairs_get h
  unfold ta tb
  rcases Nat.lt_or_ge x rows.length with hx | hx
  · rw [List.getD_eq_getElem?_getD (l := rows), List.getElem?_eq_getElem hx]
    have := h2 rows[x] (List.getElem_mem hx)
    exact ⟨this.2.1, this.2.2⟩
  · rw [List.getD_eq_getElem?_getD (l := rows), List.getElem?_eq_none hx]; simp
theorem t_at {rows : List (List Int)} {x : Nat} {r : List Int} (h : rows[x]? = some r) : ta rows x = r.getD 0 0 ∧ tb rows x = r.getD 1 0 := by
  unfold ta tb; rw [List.getD_eq_getElem?_getD (l := rows), h]; exact ⟨rfl, rfl⟩
-- orders
def orderP (o : List Int) (n : Nat) : Prop := ((∀ x ∈ o, 0 ≤ x ∧ x < (n : Int)) ∧ o.Nodup) ∧ o.length = n
instance (o : List Int) (n : Nat) : Decidable (orderP o n) := by unfold orderP; infer_instance
def orderM (o : List Int) (n : Nat) : Bool := decide (orderP o n)
theorem orderM_get {o : List Int} {n : Nat} (h : orderM o n = true) : orderP o n := of_decide_eq_true h
def nO (o : List Int) : List Nat := o.map Int.toNat
theorem nO_perm {o : List Int} {n : Nat} (h : orderP o n) : (nO o).Perm (List.range n) := by
  obtain ⟨⟨h1, h2⟩, h3⟩ := h
  have hn : (nO o).Nodup := by
    refine List.pairwise_map.2 (h2.imp_of_mem (fun {x y} hx hy hne e => hne ?_))
    have := h1 x hx; have := h1 y hy; omega
  have hs : nO o ⊆ List.range n := fun x hx => by
    obtain ⟨y, hy, rfl⟩ := List.mem_map.1 hx
    have := h1 y hy; simp; omega
  refine (List.perm_ext_iff_of_nodup hn List.nodup_range).2 (fun x => ⟨fun hx => hs hx, fun hx => ?_⟩)
  apply Classical.byContradiction
  intro hm
  have : (x :: nO o).length ≤ (List.range n).length := List.Nodup.length_le_of_subset (List.nodup_cons.2 ⟨hm, hn⟩) (fun y hy => by
    rcases List.mem_cons.1 hy with rfl | hy
    · exact hx
    · exact hs hy)
  simp [nO] at this; omega
theorem order_bad {o : List Int} {n k : Nat} {x : Int} (h : o[k]? = some x) (hx : inB 0 ((n : Int) - 1) x = false) : orderM o n = false := by
  refine decide_eq_false (fun hp => ?_)
  have := hp.1.1 x (List.mem_of_getElem? h)
  unfold inB at hx
  simp only [decide_eq_false_iff_not] at hx
  omega
theorem order_twice {o : List Int} {n k : Nat} {x : Int} (h : o[k]? = some x) (hx : x ∈ o.take k) : orderM o n = false := by
  refine decide_eq_false (fun hp => ?_)
  have hn := hp.1.2
  have h2 : (o.take (k + 1)).Nodup := hn.sublist (List.take_sublist _ _)
  rw [take_get h] at h2
  exact (List.nodup_append.1 h2).2.2 x hx x (by simp) rfl
theorem nO_snoc {o : List Int} {k : Nat} {x : Int} (h : o[k]? = some x) : nO (o.take (k + 1)) = nO (o.take k) ++ [x.toNat] := by
  rw [take_get h]; simp [nO]
theorem run_bd {rows : List (List Int)} (hp : pairsM rows = true) (l : List Nat) : (0 ≤ (runT (ta rows) (tb rows) (0, 0) l).1 ∧ (runT (ta rows) (tb rows) (0, 0) l).1 ≤ 9 * (l.length : Int)) ∧ (0 ≤ (runT (ta rows) (tb rows) (0, 0) l).2 ∧ (runT (ta rows) (tb rows) (0, 0) l).2 ≤ 18 * (l.length : Int)) := by
  have h1 := runT_fst (ta rows) (tb rows) l (0, 0)
  have h2 := sumL_nn (fun x => (t_bd hp x).1.1) l
  have h3 := sumL_bd (fun x => (t_bd hp x).1.2) l
  have h4 := sumL_bd (fun x => (t_bd hp x).2.2) l
  have h5 := span_sums (fun x => (t_bd hp x).1.1) (fun x => (t_bd hp x).2.1) l
  have h6 := sumL_nn (fun x => (t_bd hp x).2.1) l
  unfold spanT at h5
  simp only at h1
  omega
/-- what SpanOf answers -/
def spanFine (rows : List (List Int)) (o : List Int) : Bool := pairsM rows && orderM o rows.length
def spanRes (rows : List (List Int)) (o : List Int) : Int := if spanFine rows o then spanT (ta rows) (tb rows) (nO o) else -1
theorem spanRes_no {rows : List (List Int)} {o : List Int} (h : spanFine rows o = false) : spanRes rows o = -1 := by unfold spanRes; rw [h]; rfl
theorem spanRes_yes {rows : List (List Int)} {o : List Int} (h : spanFine rows o = true) : spanRes rows o = spanT (ta rows) (tb rows) (nO o) := by unfold spanRes; rw [h]; rfl
theorem spanFine_get {rows : List (List Int)} {o : List Int} (h : spanFine rows o = true) : pairsM rows = true ∧ orderP o rows.length := by
  simp only [spanFine, Bool.and_eq_true] at h; exact ⟨h.1, orderM_get h.2⟩
end Go.Proofs.Ythmifadnfaajbad
namespace Go.Proofs.Ythmifadnfaajbad
open Go.RowKit Go.WideShapes

/-- v is a slice of the call's own, of rows of its own -/
def OwnRowsV (w : World) (B : Nat) (v : Value) (k : Nat) (rows : List (List Int)) : Prop := ∃ us : List Value, w.ownsRow B 23 1 v k us ∧ rows.length = k ∧
  ∀ (q : Nat) (u : Value), us[q]? = some u → ∃ (a : Option Addr) (l c : Nat) (r : List Int), rows[q]? = some r ∧ u = .slice a l c ∧ l ≤ c ∧ l ≤ 1048576 ∧ w.ownsRow B 3 1 u l (r.map (.int .i64))
theorem own_two (w : World) {B : Nat} (hB : B ≤ w.heap.size) (x y : Int) : (w.alloc (.cells #[.int .i64 x, .int .i64 y] 3)).ownsRow B 3 1 (.slice (some ⟨w.heap.size, 0, none⟩) 2 2) 2 ([x, y].map (.int .i64)) :=
  ⟨rfl, .inr ⟨w.heap.size, 2, _, rfl, hB, heap_alloc_new w _, Nat.le_refl _, by unfold maxLen; omega, rfl, rfl⟩⟩
theorem OwnRowsV.rows {w : World} {B k : Nat} {a : Option Addr} {cap : Nat} {rows : List (List Int)} (h : OwnRowsV w B (.slice a k cap) k rows) (hk : k ≤ 1048576) :
    RowsAt w (fun b => B ≤ b ∧ b < w.heap.size) a k rows := by
  obtain ⟨us, h1, h2, h3⟩ := h
  have hul : us.length = k := by have := h1.1; simpa using this
  refine ⟨h2, by omega, fun h0 => ?_⟩
  have hc := fun g hg => h1.cells (g := g) hg
  have hlt := h1.lt
  rcases h1.2 with ⟨e1, e2⟩ | ⟨g, cp, cur, e1, e2, _⟩
  · omega
  · injection e1 with e3 _ _
    subst e3
    refine ⟨g, 0, rfl, hlt g rfl, fun i r hr => ?_⟩
    have hi : i < us.length := by have := (List.getElem?_eq_some_iff.1 hr).1; omega
    obtain ⟨a', l, c, r', hr', hu, hlc, hl, hown⟩ := h3 i us[i] (List.getElem?_eq_getElem hi)
    rw [hr] at hr'
    injection hr' with hr'
    subst hr'
    rw [hu] at hown
    obtain ⟨a2, c2, e4, _, hints⟩ := own_ints hown (by omega)
    injection e4 with e5 _ _
    subst e5
    refine ⟨a', l, c, ?_, hlc, hints⟩
    have := hc g rfl i us[i] (List.getElem?_eq_getElem hi)
    rw [hu, add_plain] at this
    exact this
theorem OwnRowsV.push {w w' : World} {B k l : Nat} {v v' : Value} {a : Option Addr} {c : Nat} {rows : List (List Int)} {r : List Int} {us : List Value} (hv : w.ownsRow B 23 1 v k us) (hl : rows.length = k)
    (hus : ∀ (q : Nat) (u : Value), us[q]? = some u → ∃ (a : Option Addr) (l c : Nat) (r : List Int), rows[q]? = some r ∧ u = .slice a l c ∧ l ≤ c ∧ l ≤ 1048576 ∧ w.ownsRow B 3 1 u l (r.map (.int .i64)))
    (hu : w.ownsRow B 3 1 (.slice a l c) l (r.map (.int .i64))) (hlc : l ≤ c) (hl2 : l ≤ 1048576) (hv' : w'.ownsRow B 23 1 v' (k + 1) (us ++ [.slice a l c])) (hg : w.grownBy w' v.ownBlock) : OwnRowsV w' B v' (k + 1) (rows ++ [r]) := by
  have hul : us.length = k := by have := hv.1; simpa using this
  refine ⟨_, hv', by simp [hl], fun q u hq => ?_⟩
  rcases Nat.lt_or_ge q us.length with h | h
  · rw [List.getElem?_append_left h] at hq
    obtain ⟨a', l', c', r', h1, h2, h3, h4, h5⟩ := hus q u hq
    exact ⟨a', l', c', r', by rw [List.getElem?_append_left (by omega)]; exact h1, h2, h3, h4, h5.kept hg (own_ne h5 hv (by decide))⟩
  · rw [List.getElem?_append_right h] at hq
    have hq0 : q - us.length = 0 := by
      have := (List.getElem?_eq_some_iff.1 hq).1; simp at this; omega
    rw [hq0] at hq
    simp only [List.getElem?_cons_zero, Option.some.injEq] at hq
    subst hq
    exact ⟨a, l, c, r, by rw [List.getElem?_append_right (by omega), show q - rows.length = 0 by omega]; rfl, rfl, hlc, hl2, hu.kept hg (own_ne hu hv (by decide))⟩
def turnP (rows : List (List Int)) : List (List Int) := rows.map (fun r => [r.getD 1 0, r.getD 0 0])
end Go.Proofs.Ythmifadnfaajbad
namespace Go.Proofs.Ythmifadnfaajbad
open Go.RowKit Go.WideShapes

theorem one_cell_row (b m : Nat) (cp : Nat) : ∀ u ∈ ([.slice (some ⟨b, 0, none⟩) m cp] : List Value), u.oneCell' := fun u hu => by
  rw [List.mem_singleton.1 hu]; rfl
theorem own_lits (w : World) {B : Nat} (hB : B ≤ w.heap.size) {cs : Array Value} {r : List Int} {m : Nat} (hcs : cs.toList = r.map (.int .i64)) (hm : r.length = m) (hs : m ≤ 1048576) : (w.alloc (.cells cs 3)).ownsRow B 3 1 (.slice (some ⟨w.heap.size, 0, none⟩) m m) m (r.map (.int .i64)) := by
  have hz : cs.size = m := by rw [← Array.length_toList, hcs, List.length_map, hm]
  refine ⟨by simp [hm], .inr ⟨w.heap.size, m, cs, rfl, hB, heap_alloc_new w _, Nat.le_refl _, by unfold maxLen; omega, by rw [hz]; simp, ?_⟩⟩
  rw [hcs, List.take_of_length_le (by simp [hm])]
/-- append of a new row to rows of the call's own -/
theorem wpAppRow {ops : Array Oper} {rest : List Oper} {o : Oper} {a : Act} {Q : Exit → Act → World → Prop} {wo : World} (hgd : o.guard = none) (s x : Operand)
    (ho : o.op = .call { callee := .builtin .append, args := #[s, x], argTypes := #[27, 27] })
    (base k cp : Nat) (ax : Option Addr) (rows : List (List Int)) (r : List Int) (cs : Array Value) (m : Nat) (hs : a.eval s = .slice ax k cp)
    (hown : OwnRowsV wo base (.slice ax k cp) k rows) (hcs : cs.toList = r.map (.int .i64)) (hm : r.length = m) (hm2 : m ≤ 1048576) (hx : a.eval x = .slice (some ⟨wo.heap.size + 1, 0, none⟩) 1 1)
    (hbase : base ≤ wo.heap.size) (hk : k ≤ 1048576)
    (h : ∀ (a6 : Option Addr) (c6 : Nat) (w' : World), OwnRowsV w' base (.slice a6 (k + 1) c6) (k + 1) (rows ++ [r]) → k + 1 ≤ c6 → (∀ B w, B ≤ base → Below B w wo → Below B w w') →
      wpList Try.prog ops Q rest (a.put o.dst (.slice a6 (k + 1) c6)) w') :
    wpList Try.prog ops Q (o :: rest) a ((wo.alloc (.cells cs 3)).alloc (.cells #[.slice (some ⟨wo.heap.size, 0, none⟩) m m] 23)) := by
  obtain ⟨i1, hj, hy0, hy1, hy2⟩ := info_parts Try.infoInts
  obtain ⟨us, hv, hlr, hus⟩ := hown
  have hsz : (wo.alloc (.cells cs 3)).heap.size = wo.heap.size + 1 := by simp
  have hone := one_new (wo.alloc (.cells cs 3)) (.slice (some ⟨wo.heap.size, 0, none⟩) m m) 23
  rw [hsz] at hone
  refine wpList_append_own _ hgd s x 27 ho base 23 i1 (.slice none 0 0) 1 24 Try.underlying27 hj hy0 hy1 hy2 rfl (by decide) _ k us hs ((hv.alloc _).alloc _) ⟨wo.heap.size + 1, 0, none⟩ 1 1 [.slice (some ⟨wo.heap.size, 0, none⟩) m m] hx rfl hone (one_cell_row _ _ _) (by unfold maxLen; omega) (by omega) (by simp; omega) ?_
  intro v' w6 hown6 hgrow _
  obtain ⟨a6, c6, rfl, hc⟩ := own_slice hown6
  refine h a6 c6 w6 (OwnRowsV.push (a := some ⟨wo.heap.size, 0, none⟩) (c := m) (l := m) ((hv.alloc _).alloc _) hlr (fun q u hq => ?_) ((own_lits wo hbase hcs hm hm2).alloc _) (Nat.le_refl _) hm2 hown6 hgrow) hc (fun B w hB hb => ?_)
  · obtain ⟨a', l', c', r', e1, e2, e3, e4, e5⟩ := hus q u hq
    exact ⟨a', l', c', r', e1, e2, e3, e4, (e5.alloc _).alloc _⟩
  · refine ((hb.alloc (by omega) _).alloc (by simp; omega) _).grown hgrow (by simp; omega) (fun g hg => ?_)
    exact Nat.le_trans hB (own_block hv g hg)
end Go.Proofs.Ythmifadnfaajbad
