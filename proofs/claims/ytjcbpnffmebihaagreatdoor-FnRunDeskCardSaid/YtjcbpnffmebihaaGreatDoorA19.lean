import Derived.Test.YtjcbpnffmebihaaGreatDoorA17
import Derived.Test.YtjcbpnffmebihaaGreatDoorRows
import Derived.WalkKit
import Derived.ProofKit
import Derived.WalkSpells
import Derived.WalkLawsBesides
import Derived.Lib.Hide
import Derived.Deep.Upon
import Derived.Deep.AppendLies
import Derived.Deep.DeepAppendRoom
import Derived.ArgAppend
import Derived.LoopTactic
import Derived.Outline
import Derived.IntWalk
set_option linter.unusedVariables false
set_option linter.unusedSimpArgs false
namespace Go.Proofs.YtjcbpnffmebihaaGreatDoor
open Go.RowKit Go.WideShapes

theorem Tryz.infoIntPt : (Tryz.prog.info? 3).map (fun i => (i.zero, i.size, i.bytes)) = some (some (.int .i64 0), 1, 8) := by kernel_rfl
theorem Tryz.infoIntsPt : (Tryz.prog.info? 35).map (fun i => (i.zero, i.size, i.bytes)) = some (some (.slice none 0 0), 1, 24) := by kernel_rfl
/-- v is a list of rows, all in memory from B on, no two in one block -/
def Pats (w : World) (B : Nat) (v : Value) (rows : List (List Int)) : Prop := ∃ us : List Value, w.ownsRow B 35 1 v rows.length us ∧
  (∀ (q : Nat) (u : Value), us[q]? = some u → ∃ (g c : Nat) (r : List Int), rows[q]? = some r ∧ u = .slice (some ⟨g, 0, none⟩) r.length c ∧ r.length ≤ c ∧ r.length ≤ 1048576 ∧ w.ownsRow B 3 1 u r.length (r.map (.int .i64))) ∧
  (∀ (p q : Nat) (u u' : Value), p ≠ q → us[p]? = some u → us[q]? = some u' → u.ownBlock ≠ u'.ownBlock)
section
variable {w w' : World} {B : Nat} {v : Value} {rows : List (List Int)}
theorem Pats.keep (h : Pats w B v rows) (hg : ∀ b, B ≤ b → b < w.heap.size → w'.heap[b]? = w.heap[b]?) : Pats w' B v rows := by
  obtain ⟨us, h1, h2, h3⟩ := h
  refine ⟨us, own_keep h1 fun b _ a c => hg b a c, fun q u hu => ?_, h3⟩
  obtain ⟨g, c, r, e1, e2, e3, e4, e5⟩ := h2 q u hu
  exact ⟨g, c, r, e1, e2, e3, e4, own_keep e5 fun b _ a c => hg b a c⟩
theorem Pats.mono (h : Pats w B v rows) {B' : Nat} (hB : B' ≤ B) : Pats w B' v rows := by
  obtain ⟨us, h1, h2, h3⟩ := h
  have low : ∀ {e : TypeId} {v : Value} {n : Nat} {xs : List Value}, w.ownsRow B e 1 v n xs → w.ownsRow B' e 1 v n xs := fun {e v n xs} h => by
    refine ⟨h.1, ?_⟩
    rcases h.2 with hn | ⟨g, cap, cur, h1, hb, rest⟩
    · exact .inl hn
    · exact .inr ⟨g, cap, cur, h1, by omega, rest⟩
  refine ⟨us, low h1, fun q u hu => ?_, h3⟩
  obtain ⟨g, c, r, e1, e2, e3, e4, e5⟩ := h2 q u hu
  exact ⟨g, c, r, e1, e2, e3, e4, low e5⟩
theorem Pats.nil (w : World) (B : Nat) : Pats w B (.slice none 0 0) [] := ⟨[], World.ownsRow_nil _ _ _ _, fun q u h => by simp at h, fun p q u u' _ h => by simp at h⟩
theorem Pats.empty (w : World) (B : Nat) (hB : B ≤ w.heap.size) : Pats (w.alloc (.cells #[] 35)) B (.slice (some ⟨w.heap.size, 0, none⟩) 0 0) [] := ⟨[], World.ownsRow_made w #[] 0 hB (Nat.zero_le _) rfl, fun q u h => by simp at h, fun p q u u' _ h => by simp at h⟩
theorem Pats.one {r : List Int} {g c : Nat} (hB : B ≤ w.heap.size) (hu : w.ownsRow B 3 1 (.slice (some ⟨g, 0, none⟩) r.length c) r.length (r.map (.int .i64))) (hl : r.length ≤ 1048576) :
    Pats (w.alloc (.cells #[.slice (some ⟨g, 0, none⟩) r.length c] 35)) B (.slice (some ⟨w.heap.size, 0, none⟩) 1 1) [r] := by
  refine ⟨[.slice (some ⟨g, 0, none⟩) r.length c], ?_, fun q u hq => ?_, fun p q u u' hpq hp hq => ?_⟩
  · exact World.ownsRow_lit (size := 1) (e := 35) w #[.slice (some ⟨g, 0, none⟩) r.length c] 1 hB (by unfold maxLen; omega) rfl
  · obtain ⟨h1, h2⟩ := List.getElem?_eq_some_iff.1 hq
    have h0 : q = 0 := by simp at h1; omega
    subst h0
    simp at h2
    subst h2
    obtain ⟨a', c', e, hc⟩ := own_slice hu
    injection e with e1 _ e2
    exact ⟨g, c, r, rfl, rfl, by omega, hl, hu.alloc _⟩
  · have h1 := (List.getElem?_eq_some_iff.1 hp).1
    have h2 := (List.getElem?_eq_some_iff.1 hq).1
    simp at h1 h2; omega
theorem Pats.slice (h : Pats w B v rows) : ∃ a c, v = .slice a rows.length c ∧ rows.length ≤ c := by
  obtain ⟨us, h1, _⟩ := h
  obtain ⟨a, c, e, hc⟩ := own_slice h1
  exact ⟨a, c, e, hc⟩
theorem Pats.get (h : Pats w B v rows) {j : Nat} (hj : j < rows.length) : ∃ (G C g c : Nat) (r : List Int), v = .slice (some ⟨G, 0, none⟩) rows.length C ∧ rows[j]? = some r ∧ w.cell? ⟨G, j, none⟩ = some (.slice (some ⟨g, 0, none⟩) r.length c) ∧ r.length ≤ c ∧
    IntsAt w (fun b => B ≤ b ∧ b < w.heap.size) (some ⟨g, 0, none⟩) r.length r := by
  obtain ⟨us, h1, h2, _⟩ := h
  have hul : us.length = rows.length := by simpa using h1.1
  obtain ⟨G, C, hv, _, _⟩ := h1.form (by omega)
  obtain ⟨u, hu⟩ : ∃ u, us[j]? = some u := ⟨us[j]'(by omega), List.getElem?_eq_getElem _⟩
  obtain ⟨g, c, r, e1, e2, e3, e4, e5⟩ := h2 j u hu
  rw [hv] at h1
  subst e2
  refine ⟨G, C, g, c, r, hv, e1, (h1.cellAt j (by omega)).trans hu, e3, rfl, by omega, fun h0 => ⟨g, 0, rfl, e5.lt g rfl, fun i x hx => ?_⟩⟩
  have := e5.cells (g := g) rfl i (.int .i64 x) (by rw [List.getElem?_map, hx]; rfl)
  rwa [add_plain] at this
theorem Pats.rowsAt (h : Pats w B v rows) {a : Option Addr} {k c : Nat} (hv : v = .slice a k c) (hs : k ≤ 1048576) : RowsAt w (fun b => B ≤ b ∧ b < w.heap.size) a k rows := by
  have hk : rows.length = k := by
    obtain ⟨a', c', e, _⟩ := h.slice
    rw [hv] at e; injection e with _ e; omega
  refine ⟨hk, by omega, fun h0 => ?_⟩
  obtain ⟨G, C, g, c', r, e, _⟩ := h.get (j := 0) (by omega)
  rw [hv] at e
  injection e with e1 _ _
  obtain ⟨us, h1, _⟩ := h
  refine ⟨G, 0, e1, h1.lt G (by rw [hv, e1]; rfl), fun i r hi => ?_⟩
  obtain ⟨G2, C2, g2, c2, r2, e2, f1, f2, f3, f4⟩ := Pats.get ⟨us, h1, by assumption⟩ (j := i) (List.getElem?_eq_some_iff.1 hi).1
  rw [hv, e1] at e2
  injection e2 with e2 _ _
  injection e2 with e2
  injection e2 with e2
  subst e2
  rw [hi] at f1
  injection f1 with f1
  subst f1
  exact ⟨some ⟨g2, 0, none⟩, r.length, c2, by rw [Nat.zero_add]; exact f2, f3, f4⟩
/-- rows behind rows -/
theorem Pats.join {w0 wo : World} {B2 : Nat} {v2 v' : Value} {rows2 : List (List Int)} {us us2 : List Value} (hB : B ≤ B2) (hB2 : w0.heap.size ≤ B2) (hk : ∀ b, B ≤ b → b < w0.heap.size → wo.heap[b]? = w0.heap[b]?)
    (h1 : w0.ownsRow B 35 1 v rows.length us)
    (h2 : ∀ (q : Nat) (u : Value), us[q]? = some u → ∃ (g c : Nat) (r : List Int), rows[q]? = some r ∧ u = .slice (some ⟨g, 0, none⟩) r.length c ∧ r.length ≤ c ∧ r.length ≤ 1048576 ∧ w0.ownsRow B 3 1 u r.length (r.map (.int .i64)))
    (h3 : ∀ (p q : Nat) (u u' : Value), p ≠ q → us[p]? = some u → us[q]? = some u' → u.ownBlock ≠ u'.ownBlock)
    (g1 : wo.ownsRow B2 35 1 v2 rows2.length us2)
    (g2 : ∀ (q : Nat) (u : Value), us2[q]? = some u → ∃ (g c : Nat) (r : List Int), rows2[q]? = some r ∧ u = .slice (some ⟨g, 0, none⟩) r.length c ∧ r.length ≤ c ∧ r.length ≤ 1048576 ∧ wo.ownsRow B2 3 1 u r.length (r.map (.int .i64)))
    (g3 : ∀ (p q : Nat) (u u' : Value), p ≠ q → us2[p]? = some u → us2[q]? = some u' → u.ownBlock ≠ u'.ownBlock)
    (hown : w'.ownsRow B 35 1 v' (rows.length + rows2.length) (us ++ us2)) (hgr : wo.grownBy w' v.ownBlock) : Pats w' B v' (rows ++ rows2) := by
  have hul : us.length = rows.length := by simpa using h1.1
  have hul2 : us2.length = rows2.length := by simpa using g1.1
  have h1o := own_keep h1 fun b _ a c => hk b a c
  have hne : ∀ {n : Nat} {u : Value} {xs : List Value} {B' : Nat}, wo.ownsRow B' 3 1 u n xs → u.ownBlock = none ∨ u.ownBlock ≠ v.ownBlock := fun {n u xs B'} hu => by
    cases e : u.ownBlock with
    | none => exact .inl rfl
    | some b =>
      refine .inr fun e2 => ?_
      obtain ⟨c, hc⟩ := own_kind hu e
      obtain ⟨d, hd⟩ := own_kind h1o e2.symm
      exact ne_type hc hd (by decide) rfl
  have lo : ∀ (q : Nat) (u : Value), us[q]? = some u → ∀ b, u.ownBlock = some b → b < w0.heap.size := fun q u hq b hb => by
    obtain ⟨g, c, r, _, _, _, _, e5⟩ := h2 q u hq
    exact (e5.lt b hb).2
  have hi : ∀ (q : Nat) (u : Value), us2[q]? = some u → ∀ b, u.ownBlock = some b → B2 ≤ b := fun q u hq b hb => by
    obtain ⟨g, c, r, _, _, _, _, e5⟩ := g2 q u hq
    exact (e5.lt b hb).1
  have some1 : ∀ (q : Nat) (u : Value), us[q]? = some u → ∃ b, u.ownBlock = some b := fun q u hq => by
    obtain ⟨g, c, r, _, e2, _⟩ := h2 q u hq
    exact ⟨g, by rw [e2]; rfl⟩
  refine ⟨us ++ us2, by rw [List.length_append]; exact hown, fun q u hq => ?_, fun p q u u' hpq hp hq e => ?_⟩
  · by_cases h : q < us.length
    · rw [List.getElem?_append_left h] at hq
      obtain ⟨g, c, r, e1, e2, e3, e4, e5⟩ := h2 q u hq
      have e6 := own_keep e5 fun b _ a c => hk b a c
      exact ⟨g, c, r, by rw [List.getElem?_append_left (by omega)]; exact e1, e2, e3, e4, e6.kept hgr (hne e6)⟩
    · rw [List.getElem?_append_right (by omega)] at hq
      obtain ⟨g, c, r, e1, e2, e3, e4, e5⟩ := g2 _ u hq
      refine ⟨g, c, r, by rw [List.getElem?_append_right (by omega), ← hul]; exact e1, e2, e3, e4, ?_⟩
      have e6 := e5.kept hgr (hne e5)
      refine ⟨e6.1, ?_⟩
      rcases e6.2 with hn | ⟨g', cap, cur, k1, kb, rest⟩
      · exact .inl hn
      · exact .inr ⟨g', cap, cur, k1, by omega, rest⟩
  · by_cases hpl : p < us.length
    · rw [List.getElem?_append_left hpl] at hp
      by_cases hql : q < us.length
      · rw [List.getElem?_append_left hql] at hq
        exact h3 p q u u' hpq hp hq e
      · rw [List.getElem?_append_right (by omega)] at hq
        obtain ⟨b, hb⟩ := some1 p u hp
        have a1 := lo p u hp b hb
        have a2 := hi _ u' hq b (e ▸ hb)
        omega
    · rw [List.getElem?_append_right (by omega)] at hp
      by_cases hql : q < us.length
      · rw [List.getElem?_append_left hql] at hq
        obtain ⟨b, hb⟩ := some1 q u' hq
        have a1 := lo q u' hq b hb
        have a2 := hi _ u hp b (e.symm ▸ hb)
        omega
      · rw [List.getElem?_append_right (by omega)] at hq
        exact g3 _ _ u u' (by omega) hp hq e
end
/-- append of rows to rows -/
theorem wpPats {ops : Array Oper} {rest : List Oper} {o : Oper} {a : Act} {Q : Exit → Act → World → Prop} {w0 wo : World} (hgd : o.guard = none) (s x : Operand)
    (ho : o.op = .call { callee := .builtin .append, args := #[s, x], argTypes := #[37, 37] })
    (B B2 : Nat) (v v2 : Value) (rows rows2 : List (List Int)) (hs : a.eval s = v) (hx : a.eval x = v2) (h1 : Pats w0 B v rows) (hk : ∀ b, B ≤ b → b < w0.heap.size → wo.heap[b]? = w0.heap[b]?) (hsz : w0.heap.size ≤ wo.heap.size) (h2 : Pats wo B2 v2 rows2) (hB : B ≤ B2) (hB2 : w0.heap.size ≤ B2) (hBo : B ≤ wo.heap.size) (hlen : rows.length + rows2.length ≤ 1048576)
    (h : ∀ (v' : Value) (w' : World), Pats w' B v' (rows ++ rows2) → wo.grownBy w' v.ownBlock → (v'.ownBlock = v.ownBlock ∨ v'.ownBlock = some wo.heap.size) → wpList Tryz.prog ops Q rest (a.put o.dst v') w') :
    wpList Tryz.prog ops Q (o :: rest) a wo := by
  obtain ⟨us, p1, p2, p3⟩ := h1
  obtain ⟨us2, q1, q2, q3⟩ := h2
  obtain ⟨i1, hj, hy0, hy1, hy2⟩ := info_parts Tryz.infoIntsPt
  have p1o := own_keep p1 fun b _ a c => hk b a c
  by_cases hm : 0 < rows2.length
  · obtain ⟨G, C, e, _, _⟩ := q1.form hm
    have q1' := q1
    rw [e] at q1'
    refine wpList_append_own_at wo hgd s x 37 ho B 35 i1 (.slice none 0 0) 1 24 Tryz.underlying37 hj hy0 hy1 hy2 rfl (by decide) v rows.length us hs p1o ⟨G, 0, none⟩ rows2.length C us2 (by rw [hx, e]) (by simpa using q1.1) (q1'.cells (g := G) rfl) (fun u hu => ?_) (by unfold maxLen; omega) (by omega) hBo ?_
    · obtain ⟨q, hq⟩ := List.mem_iff_getElem?.1 hu
      obtain ⟨g, c, r, _, e2, _⟩ := q2 q u hq
      rw [e2]; rfl
    · intro v' w' hown hgr _ hat
      exact h v' w' (Pats.join hB hB2 hk p1 p2 p3 q1 q2 q3 hown hgr) hgr hat
  · have hr2 : rows2 = [] := List.eq_nil_of_length_eq_zero (by omega)
    subst hr2
    obtain ⟨av, cv, hv, hle⟩ := own_slice p1o
    obtain ⟨ay, cy, hy, _⟩ := own_slice q1
    subst hv hy
    have hsrc : Src Tryz.prog i1.size 37 (.slice ay ([] : List (List Int)).length cy) 0 [] wo := by
      cases ay with
      | none => exact Src.ofNil wo Tryz.underlying37 cy
      | some ad => exact Src.ofSlice wo Tryz.underlying37 ad 0 cy [] (by simp) (fun j u hj => by simp at hj) (fun u hu => by cases hu)
    have hrun := run_append_nothing (P := Tryz.prog) wo 37 37 o.type 35 i1 Tryz.underlying37 hj av rows.length cv hle (.slice ay ([] : List (List Int)).length cy) hsrc
    refine wpList_plain hgd fun K hK => ?_
    unfold Oper.wp
    simp only [execOp, ho, resolve, invoke, builtin, Sem.run_bind, Sem.run_pure, Result.andThen_ok, List.map_toArray, List.map_cons, List.map_nil, hs, hx, hrun]
    refine hK _ _ (h _ wo ?_ (grown_refl _ _) (.inl rfl))
    rw [List.append_nil]
    exact Pats.keep ⟨us, p1, p2, p3⟩ hk
end Go.Proofs.YtjcbpnffmebihaaGreatDoor
namespace Go.Proofs.YtjcbpnffmebihaaGreatDoor
open Go.RowKit Go.WideShapes

/-- where the job that comes at place k stands, and its times -/
theorem job_at {w : World} {S T : Nat → Prop} {a a2 : Option Addr} {len len2 : Nat} {rows : List (List Int)} {o : List Int} (h : RowsAt w S a len rows) (g : IntsAt w T a2 len2 o) (hP : ∀ r ∈ rows, r.length = 2 ∧ (0 ≤ r.getD 0 0 ∧ r.getD 0 0 ≤ 9) ∧ (0 ≤ r.getD 1 0 ∧ r.getD 1 0 ≤ 9))
    (ho : ∀ x ∈ o, 0 ≤ x ∧ x < (len : Int)) {k : Nat} (hk : k < len2) : ∃ (b off q b2 off2 b3 off3 c : Nat), a2 = some ⟨b, off, none⟩ ∧ a = some ⟨b2, off2, none⟩ ∧ o[k]? = some (q : Int) ∧ q < len ∧ w.cell? ⟨b, off + k, none⟩ = some (.int .i64 (q : Int)) ∧
      w.cell? ⟨b2, off2 + q, none⟩ = some (.slice (some ⟨b3, off3, none⟩) 2 c) ∧ w.cell? ⟨b3, off3, none⟩ = some (.int .i64 (ta rows q)) ∧ w.cell? ⟨b3, off3 + 1, none⟩ = some (.int .i64 (tb rows q)) := by
  obtain ⟨b, off, x, rfl, hx, hc⟩ := g.get hk
  have hxb := ho x (List.mem_of_getElem? hx)
  obtain ⟨q, rfl⟩ : ∃ q : Nat, x = (q : Int) := ⟨x.toNat, by omega⟩
  have hql : q < len := by omega
  obtain ⟨b2, off2, r, a', l, c, rfl, hr, hcr, _, hri⟩ := h.get hql
  obtain ⟨hr2, _, _⟩ := hP r (List.mem_of_getElem? hr)
  have hl2 : l = 2 := by rw [← hri.lenEq, hr2]
  subst hl2
  obtain ⟨b3, off3, x3, rfl, h3, hc3⟩ := hri.get (k := 0) (by omega)
  obtain ⟨b4, off4, x4, e4, h4, hc4⟩ := hri.get (k := 1) (by omega)
  cases e4
  have ht := t_at hr
  rw [getD_of h3, getD_of h4] at ht
  rw [Nat.add_zero] at hc3
  exact ⟨b, off, q, b2, off2, b3, off3, c, rfl, rfl, hx, hql, hc, hcr, by rw [ht.1]; exact hc3, by rw [ht.2]; exact hc4⟩
end Go.Proofs.YtjcbpnffmebihaaGreatDoor
namespace Go.Proofs.YtjcbpnffmebihaaGreatDoor
open Go.RowKit Go.WideShapes

-- chapter 11's code: rolls of plain cuts
def encP (y : Int) : List Value := [.int .i64 y]
def RollsP (w : World) (B r : Nat) (R : Int) (v : Value) (vs : List Value) (rows : List (List Int)) : Prop := RollsW encP 1 154 150 151 w B r R v vs rows
theorem encP_flat (l : List Int) : l.flatMap encP = l.map (.int .i64) := by
  induction l with
  | nil => rfl
  | cons a l ih => rw [List.flatMap_cons, ih]; rfl
theorem own_intsP {w : World} {B : Nat} {e : TypeId} {u : Value} {n : Nat} {l : List Int} (h : w.ownsRow B e 1 u n (l.map (.int .i64))) : ∃ a c, u = .slice a n c ∧ n ≤ c ∧ IntsAt w (fun b => B ≤ b ∧ b < w.heap.size) a n l := by
  obtain ⟨a, c, rfl, hc⟩ := own_slice h
  have hl : l.length = n := by have := h.1; simpa using this
  refine ⟨a, c, rfl, hc, hl, ?_, fun h0 => ?_⟩
  · rcases h.2 with ⟨_, rfl⟩ | ⟨g, cap, cur, _, _, _, h1, h2, _⟩
    · omega
    · unfold maxLen at h2; omega
  · obtain ⟨g, cap, e, hb, hlt⟩ := h.form h0
    injection e with e1 e2 e3
    refine ⟨g, 0, e1, ⟨hb, hlt⟩, fun i x hx => ?_⟩
    have hx' : (l.map (Value.int .i64))[i]? = some (.int .i64 x) := by rw [List.getElem?_map, hx]; rfl
    have := h.cells (g := g) (by rw [e1]; rfl) i _ hx'
    rwa [add_plain] at this
theorem lenP_meth (y : Int) : ∀ (k : Nat) (w : World), (method (k + 1) 151 (.int .i64 y) "loop.example/shopsthatmake/impl.length").run Tryz.prog w = .ok (157, (.int .i64 y)) w := fun _ _ => by kernel_rfl
set_option maxRecDepth 100000 in
theorem lenP_any (y : Int) (w : World) : Calls Tryz.prog 157 #[.int .i64 y] w fun e w' => e = .returned (.int .i64 y) ∧ w' = w := by
  go_enter Tryz.func157, Tryz.ntmps157
  go_wp2
  go_ret
  exact ⟨rfl, rfl⟩
set_option maxRecDepth 100000 in
set_option maxHeartbeats 2000000 in
theorem hasRoomP_any {w : World} {B r : Nat} {R : Int} {v : Value} {vs : List Value} {rows : List (List Int)} {n : Nat} (h : RollsP w B r R v vs rows) (hok : RowsOk id rows n) (hn : n ≤ 20) (hR : 0 ≤ R ∧ R ≤ 20) {k : Nat} (hk : k ≤ rows.length) (y : Int) :
    Calls Tryz.prog 152 #[.pointer (some ⟨r, 0, none⟩), .int .i64 k, .int .i64 y] w fun e w' => e = .returned (.bool (hasR R (loadsOf id rows) k y)) ∧ w' = w := by
  obtain ⟨c0, c1, _⟩ := h.cells
  have hlen := hok.len
  obtain ⟨av, cv, hv, hcv⟩ := own_slice h.outer
  rw [hv] at c1
  by_cases hkn : k = rows.length
  · have HF := Lib.hid (show hasR R (loadsOf id rows) k y = true by unfold hasR; rw [loads_len, decide_eq_true hkn]; rfl)
    subst hkn
    clear hv hok h
    go_enter Tryz.func152, Tryz.ntmps152
    go_wp2_with fail
    go_ret
    exact ⟨ret_bool HF.out.symm, rfl⟩
  · have hkl : k < rows.length := by omega
    have HF := Lib.hid (show hasR R (loadsOf id rows) k y = decide (y ≤ R - sumI (rows.getD k [])) by unfold hasR; rw [loads_len, decide_eq_false hkn, loads_get]; simp)
    obtain ⟨g, cap, hv2, _, _⟩ := h.outer.form (by omega)
    have ho := h.outer
    rw [hv2] at ho hv
    injection hv with hv1 _ hv3
    subst hv1 hv3
    obtain ⟨u, hu⟩ : ∃ u, vs[k]? = some u := ⟨vs[k]'(by rw [h.lenV]; exact hkl), List.getElem?_eq_getElem _⟩
    have cr := (ho.cellAt k (by omega)).trans hu
    have hrow := h.row k u hu
    rw [encP_flat] at hrow
    obtain ⟨au, cu, rfl, hcu, hints⟩ := own_intsP hrow
    have hrl := hok.row k
    have hrv := hok.val k
    obtain ⟨l, hl⟩ : ∃ l, rows.getD k [] = l := ⟨_, rfl⟩
    rw [hl] at hints hrl hrv HF cr
    have hbd := fun j hj => sumI_bd hrv j hj
    have HB := Lib.hid hbd
    obtain ⟨m, hm⟩ : ∃ m, l.length = m := ⟨_, rfl⟩
    rw [hm] at hints cr hrl
    have HM := Lib.hid hm
    have HI := Lib.hid hints
    have hknI : ¬ (k : Int) = (rows.length : Int) := by omega
    have hklI : (k : Int) < (rows.length : Int) := by omega
    obtain ⟨N, hN⟩ : ∃ N, rows.length = N := ⟨_, rfl⟩
    rw [hN] at c1 hkl hknI hklI hlen
    have hmeth := lenP_meth
    clear hok h ho hu hrow hints hrv hbd hv2 hl hm hN hkn hcv hcu
    go_enter Tryz.func152, Tryz.ntmps152
    go_wp2_with fail
    go_loop [7, 29] (fun s i => ∃ j : Nat, j ≤ m ∧ i = .int .i64 j ∧ s = .int .i64 (R - wsum (lenT l) (fun _ => true) j)) (fun _ i => m - (intOf i).toNat)
    case atStart => exact ⟨0, Nat.zero_le _, rfl, by simp [wsum]⟩
    case round =>
      obtain ⟨j, hj, rfl, rfl⟩ := hrel
      have hsb := HB.out j (by rw [HM.out]; exact hj)
      by_cases hlt : j < m
      · have hjI : (j : Int) < (m : Int) := by omega
        obtain ⟨b, off, x, rfl, hx, hc⟩ := HI.out.get hlt
        have HST := Lib.hid (show wsum (lenT l) (fun _ => true) (j + 1) = wsum (lenT l) (fun _ => true) j + x by rw [sumI_pre l j (by rw [HM.out]; exact hlt), getD_of hx])
        have hxb := HB.out (j + 1) (by rw [HM.out]; exact hlt)
        rw [HST.out] at hxb
        obtain ⟨s, hs⟩ : ∃ s, wsum (lenT l) (fun _ => true) j = s := ⟨_, rfl⟩
        rw [hs] at hsb hxb HST ⊢
        push_cast at hxb
        clear hs hx
        go_wp2_with (first | (go_at_call 157; refine (lenP_any _ _).mono ?_; rintro e w' ⟨rfl, rfl⟩) | fail)
        go_round
        case rel => exact ⟨j + 1, by omega, by go_num, by rw [HST.out]; simp; omega⟩
        case measure => simp [intOf]; omega
      · obtain rfl : j = m := by omega
        have hjI : ¬ (j : Int) < (j : Int) := by omega
        have HS := Lib.hid (show sumI l = wsum (lenT l) (fun _ => true) j by unfold sumI; rw [HM.out])
        obtain ⟨s, hs⟩ : ∃ s, wsum (lenT l) (fun _ => true) j = s := ⟨_, rfl⟩
        rw [hs] at HS ⊢
        clear hs
        go_wp2_with (first | (go_at_call 157; refine (lenP_any _ _).mono ?_; rintro e w' ⟨rfl, rfl⟩) | fail)
        go_ret
        exact ⟨ret_bool (by rw [HF.out, HS.out]), rfl⟩
end Go.Proofs.YtjcbpnffmebihaaGreatDoor
