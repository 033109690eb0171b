import Derived.Test.YtjcbpnffmebihaaGreatDoorA13
import Derived.Test.YtjcbpnffmebihaaGreatDoorRows
import Derived.WalkKit
import Derived.ProofKit
import Derived.WalkSpells
import Derived.WalkLawsBesides
import Derived.Lib.Hide
import Derived.Deep.Upon
import Derived.Deep.AppendLies
import Derived.Deep.DeepAppendRoom
import Derived.ArgAppend
import Derived.LoopTactic
import Derived.Outline
import Derived.RegionTactic
import Derived.BigRegion
import Derived.IntWalk
namespace Go.Proofs.YtjcbpnffmebihaaGreatDoor

-- plain: what is cut from each roll, and its loads
section
variable {α : Type} {f : α → Int}
def sumI (l : List Int) : Int := wsum (lenT l) (fun _ => true) l.length
theorem wsum_all1 {f g : Nat → Int} (n : Nat) (h : ∀ i, i < n → f i = g i) : wsum f (fun _ => true) n = wsum g (fun _ => true) n := wsum_congr n (fun _ _ => rfl) (fun i hi _ => h i hi)
theorem sumI_snoc (l : List Int) (y : Int) : sumI (l ++ [y]) = sumI l + y := by
  unfold sumI
  rw [List.length_append, List.length_singleton, wsum, if_pos rfl, wsum_all1 (g := lenT l) l.length (fun i hi => by unfold lenT; rw [getD_snocI, if_pos hi])]
  unfold lenT
  rw [getD_snocI, if_neg (by omega), if_pos rfl]
theorem sumI_pre (l : List Int) (j : Nat) (hj : j < l.length) : wsum (lenT l) (fun _ => true) (j + 1) = wsum (lenT l) (fun _ => true) j + l.getD j 0 := by
  rw [wsum, if_pos rfl]; rfl
theorem sumI_bd {l : List Int} (h : ∀ x ∈ l, 0 ≤ x ∧ x ≤ 20) : ∀ j : Nat, j ≤ l.length → 0 ≤ wsum (lenT l) (fun _ => true) j ∧ wsum (lenT l) (fun _ => true) j ≤ 20 * (j : Int)
  | 0, _ => by simp [wsum]
  | j + 1, hj => by
    have ih := sumI_bd h j (by omega)
    have := h (l.getD j 0) (by rw [List.getD_eq_getElem?_getD, List.getElem?_eq_getElem (by omega)]; exact List.getElem_mem _)
    rw [sumI_pre l j (by omega)]
    push_cast; omega
def putRow (rows : List (List α)) (k : Nat) (y : α) : List (List α) := if k = rows.length then rows ++ [[y]] else rows.set k (rows.getD k [] ++ [y])
def loadsOf (f : α → Int) (rows : List (List α)) : List Int := rows.map (fun row => sumI (row.map f))
theorem loads_len (rows : List (List α)) : (loadsOf f rows).length = rows.length := by simp [loadsOf]
theorem loads_get (rows : List (List α)) (k : Nat) : (loadsOf f rows).getD k 0 = sumI ((rows.getD k []).map f) := by
  unfold loadsOf
  rw [List.getD_eq_getElem?_getD, List.getD_eq_getElem?_getD, List.getElem?_map]
  cases rows[k]? <;> rfl
theorem loads_put {rows : List (List α)} {k : Nat} (y : α) : loadsOf f (putRow rows k y) = putR (loadsOf f rows) k (f y) := by
  unfold putRow putR
  rw [loads_len]
  by_cases e : k = rows.length
  · rw [if_pos e, if_pos e]
    unfold loadsOf
    rw [List.map_append]
    simp [sumI, wsum, lenT]
  · rw [if_neg e, if_neg e, loads_get]
    unfold loadsOf
    rw [List.map_set, List.map_append, List.map_singleton, sumI_snoc]
structure RowsOk (f : α → Int) (rows : List (List α)) (n : Nat) : Prop where
  len : rows.length ≤ n
  row : ∀ i, (rows.getD i []).length ≤ n
  val : ∀ i, ∀ x ∈ rows.getD i [], 0 ≤ f x ∧ f x ≤ 20
theorem RowsOk.nil : RowsOk f ([] : List (List α)) 0 := ⟨Nat.le_refl _, fun i => by simp, fun i x hx => by simp at hx⟩
theorem putRow_get {rows : List (List α)} {k : Nat} {y : α} (hk : k ≤ rows.length) (i : Nat) : (putRow rows k y).getD i [] = if i = k then rows.getD k [] ++ [y] else rows.getD i [] := by
  unfold putRow
  by_cases e : k = rows.length
  · rw [if_pos e, List.getD_eq_getElem?_getD]
    by_cases h : i < rows.length
    · rw [if_neg (by omega), List.getElem?_append_left h, List.getD_eq_getElem?_getD]
    · rw [List.getElem?_append_right (by omega)]
      by_cases h2 : i = k
      · rw [if_pos h2, h2, e, Nat.sub_self, List.getD_eq_getElem?_getD, List.getElem?_eq_none (Nat.le_refl _)]; rfl
      · rw [if_neg h2, List.getElem?_eq_none (by simp; omega), List.getD_eq_getElem?_getD, List.getElem?_eq_none (by omega)]
  · rw [if_neg e, List.getD_eq_getElem?_getD, List.getElem?_set]
    by_cases h2 : k = i
    · subst h2; rw [if_pos rfl, if_pos rfl, if_pos (by omega)]; rfl
    · rw [if_neg h2, if_neg (fun e => h2 e.symm), List.getD_eq_getElem?_getD]
theorem putRow_len (rows : List (List α)) (k : Nat) (y : α) : (putRow rows k y).length = if k = rows.length then rows.length + 1 else rows.length := by
  unfold putRow; split <;> simp
theorem RowsOk.put {rows : List (List α)} {n k : Nat} {y : α} (h : RowsOk f rows n) (hk : k ≤ rows.length) (hy : 0 ≤ f y ∧ f y ≤ 20) : RowsOk f (putRow rows k y) (n + 1) := by
  have hl := h.len
  refine ⟨by rw [putRow_len]; split <;> omega, fun i => ?_, fun i x hx => ?_⟩
  · rw [putRow_get hk]
    split
    · have := h.row k
      rw [List.length_append, List.length_singleton]; omega
    · have := h.row i; omega
  · rw [putRow_get hk] at hx
    split at hx
    · rcases List.mem_append.1 hx with g | g
      · exact h.val k x g
      · rw [List.mem_singleton.1 g]; exact hy
    · exact h.val i x hx
/-- the last cut of a roll put back, and the roll, if nothing else is cut from it -/
theorem putRow_back {rows : List (List α)} {k : Nat} {y : α} (hk : k ≤ rows.length) (hne : k < rows.length → rows.getD k [] ≠ []) :
    (k = rows.length → (putRow rows k y).take k = rows ∧ ((putRow rows k y).getD k []).length = 1) ∧ (k < rows.length → (putRow rows k y).set k (((putRow rows k y).getD k []).take ((rows.getD k []).length)) = rows ∧ ((putRow rows k y).getD k []).length = (rows.getD k []).length + 1 ∧ 0 < (rows.getD k []).length) := by
  refine ⟨fun e => ⟨?_, ?_⟩, fun h => ⟨?_, ?_, ?_⟩⟩
  · unfold putRow
    rw [if_pos e, e, List.take_left]
  · rw [putRow_get hk, if_pos rfl, e, List.getD_eq_getElem?_getD, List.getElem?_eq_none (Nat.le_refl _)]; rfl
  · rw [putRow_get hk, if_pos rfl, List.take_left]
    unfold putRow
    rw [if_neg (by omega), List.set_set]
    rw [List.getD_eq_getElem?_getD, List.getElem?_eq_getElem h]
    exact List.set_getElem_self h
  · rw [putRow_get hk, if_pos rfl]; simp
  · have := hne h
    cases e : rows.getD k [] with
    | nil => exact absurd e this
    | cons a b => simp
def NoEmpty (rows : List (List α)) : Prop := ∀ k, k < rows.length → rows.getD k [] ≠ []
theorem NoEmpty.put {rows : List (List α)} {k : Nat} {y : α} (h : NoEmpty rows) (hk : k ≤ rows.length) : NoEmpty (putRow rows k y) := fun i hi => by
  rw [putRow_get hk]
  rw [putRow_len] at hi
  by_cases e : i = k
  · rw [if_pos e]; simp
  · rw [if_neg e]
    refine h i ?_
    split at hi <;> omega
end
end Go.Proofs.YtjcbpnffmebihaaGreatDoor
namespace Go.Proofs.YtjcbpnffmebihaaGreatDoor
open Go.RowKit Go.WideShapes

theorem Tryz.infoIntPt : (Tryz.prog.info? 3).map (fun i => (i.zero, i.size, i.bytes)) = some (some (.int .i64 0), 1, 8) := by kernel_rfl
theorem Tryz.infoIntsPt : (Tryz.prog.info? 35).map (fun i => (i.zero, i.size, i.bytes)) = some (some (.slice none 0 0), 1, 24) := by kernel_rfl
/-- v is a list of rows, all in memory from B on, no two in one block -/
def Pats (w : World) (B : Nat) (v : Value) (rows : List (List Int)) : Prop := ∃ us : List Value, w.ownsRow B 35 1 v rows.length us ∧
  (∀ (q : Nat) (u : Value), us[q]? = some u → ∃ (g c : Nat) (r : List Int), rows[q]? = some r ∧ u = .slice (some ⟨g, 0, none⟩) r.length c ∧ r.length ≤ c ∧ r.length ≤ 1048576 ∧ w.ownsRow B 3 1 u r.length (r.map (.int .i64))) ∧
  (∀ (p q : Nat) (u u' : Value), p ≠ q → us[p]? = some u → us[q]? = some u' → u.ownBlock ≠ u'.ownBlock)
section
variable {w w' : World} {B : Nat} {v : Value} {rows : List (List Int)}
theorem Pats.keep (h : Pats w B v rows) (hg : ∀ b, B ≤ b → b < w.heap.size → w'.heap[b]? = w.heap[b]?) : Pats w' B v rows := by
  obtain ⟨us, h1, h2, h3⟩ := h
  refine ⟨us, own_keep h1 fun b _ a c => hg b a c, fun q u hu => ?_, h3⟩
  obtain ⟨g, c, r, e1, e2, e3, e4, e5⟩ := h2 q u hu
  exact ⟨g, c, r, e1, e2, e3, e4, own_keep e5 fun b _ a c => hg b a c⟩
theorem Pats.mono (h : Pats w B v rows) {B' : Nat} (hB : B' ≤ B) : Pats w B' v rows := by
  obtain ⟨us, h1, h2, h3⟩ := h
  have low : ∀ {e : TypeId} {v : Value} {n : Nat} {xs : List Value}, w.ownsRow B e 1 v n xs → w.ownsRow B' e 1 v n xs := fun {e v n xs} h => by
    refine ⟨h.1, ?_⟩
    rcases h.2 with hn | ⟨g, cap, cur, h1, hb, rest⟩
    · exact .inl hn
    · exact .inr ⟨g, cap, cur, h1, by omega, rest⟩
  refine ⟨us, low h1, fun q u hu => ?_, h3⟩
  obtain ⟨g, c, r, e1, e2, e3, e4, e5⟩ := h2 q u hu
  exact ⟨g, c, r, e1, e2, e3, e4, low e5⟩
theorem Pats.nil (w : World) (B : Nat) : Pats w B (.slice none 0 0) [] := ⟨[], World.ownsRow_nil _ _ _ _, fun q u h => by simp at h, fun p q u u' _ h => by simp at h⟩
theorem Pats.empty (w : World) (B : Nat) (hB : B ≤ w.heap.size) : Pats (w.alloc (.cells #[] 35)) B (.slice (some ⟨w.heap.size, 0, none⟩) 0 0) [] := ⟨[], World.ownsRow_made w #[] 0 hB (Nat.zero_le _) rfl, fun q u h => by simp at h, fun p q u u' _ h => by simp at h⟩
theorem Pats.one {r : List Int} {g c : Nat} (hB : B ≤ w.heap.size) (hu : w.ownsRow B 3 1 (.slice (some ⟨g, 0, none⟩) r.length c) r.length (r.map (.int .i64))) (hl : r.length ≤ 1048576) :
    Pats (w.alloc (.cells #[.slice (some ⟨g, 0, none⟩) r.length c] 35)) B (.slice (some ⟨w.heap.size, 0, none⟩) 1 1) [r] := by
  refine ⟨[.slice (some ⟨g, 0, none⟩) r.length c], ?_, fun q u hq => ?_, fun p q u u' hpq hp hq => ?_⟩
  · exact World.ownsRow_lit (size := 1) (e := 35) w #[.slice (some ⟨g, 0, none⟩) r.length c] 1 hB (by unfold maxLen; omega) rfl
  · obtain ⟨h1, h2⟩ := List.getElem?_eq_some_iff.1 hq
    have h0 : q = 0 := by simp at h1; omega
    subst h0
    simp at h2
    subst h2
    obtain ⟨a', c', e, hc⟩ := own_slice hu
    injection e with e1 _ e2
    exact ⟨g, c, r, rfl, rfl, by omega, hl, hu.alloc _⟩
  · have h1 := (List.getElem?_eq_some_iff.1 hp).1
    have h2 := (List.getElem?_eq_some_iff.1 hq).1
    simp at h1 h2; omega
theorem Pats.slice (h : Pats w B v rows) : ∃ a c, v = .slice a rows.length c ∧ rows.length ≤ c := by
  obtain ⟨us, h1, _⟩ := h
  obtain ⟨a, c, e, hc⟩ := own_slice h1
  exact ⟨a, c, e, hc⟩
theorem Pats.get (h : Pats w B v rows) {j : Nat} (hj : j < rows.length) : ∃ (G C g c : Nat) (r : List Int), v = .slice (some ⟨G, 0, none⟩) rows.length C ∧ rows[j]? = some r ∧ w.cell? ⟨G, j, none⟩ = some (.slice (some ⟨g, 0, none⟩) r.length c) ∧ r.length ≤ c ∧
    IntsAt w (fun b => B ≤ b ∧ b < w.heap.size) (some ⟨g, 0, none⟩) r.length r := by
  obtain ⟨us, h1, h2, _⟩ := h
  have hul : us.length = rows.length := by simpa using h1.1
  obtain ⟨G, C, hv, _, _⟩ := h1.form (by omega)
  obtain ⟨u, hu⟩ : ∃ u, us[j]? = some u := ⟨us[j]'(by omega), List.getElem?_eq_getElem _⟩
  obtain ⟨g, c, r, e1, e2, e3, e4, e5⟩ := h2 j u hu
  rw [hv] at h1
  subst e2
  refine ⟨G, C, g, c, r, hv, e1, (h1.cellAt j (by omega)).trans hu, e3, rfl, by omega, fun h0 => ⟨g, 0, rfl, e5.lt g rfl, fun i x hx => ?_⟩⟩
  have := e5.cells (g := g) rfl i (.int .i64 x) (by rw [List.getElem?_map, hx]; rfl)
  rwa [add_plain] at this
theorem Pats.rowsAt (h : Pats w B v rows) {a : Option Addr} {k c : Nat} (hv : v = .slice a k c) (hs : k ≤ 1048576) : RowsAt w (fun b => B ≤ b ∧ b < w.heap.size) a k rows := by
  have hk : rows.length = k := by
    obtain ⟨a', c', e, _⟩ := h.slice
    rw [hv] at e; injection e with _ e; omega
  refine ⟨hk, by omega, fun h0 => ?_⟩
  obtain ⟨G, C, g, c', r, e, _⟩ := h.get (j := 0) (by omega)
  rw [hv] at e
  injection e with e1 _ _
  obtain ⟨us, h1, _⟩ := h
  refine ⟨G, 0, e1, h1.lt G (by rw [hv, e1]; rfl), fun i r hi => ?_⟩
  obtain ⟨G2, C2, g2, c2, r2, e2, f1, f2, f3, f4⟩ := Pats.get ⟨us, h1, by assumption⟩ (j := i) (List.getElem?_eq_some_iff.1 hi).1
  rw [hv, e1] at e2
  injection e2 with e2 _ _
  injection e2 with e2
  injection e2 with e2
  subst e2
  rw [hi] at f1
  injection f1 with f1
  subst f1
  exact ⟨some ⟨g2, 0, none⟩, r.length, c2, by rw [Nat.zero_add]; exact f2, f3, f4⟩
/-- rows behind rows -/
theorem Pats.join {w0 wo : World} {B2 : Nat} {v2 v' : Value} {rows2 : List (List Int)} {us us2 : List Value} (hB : B ≤ B2) (hB2 : w0.heap.size ≤ B2) (hk : ∀ b, B ≤ b → b < w0.heap.size → wo.heap[b]? = w0.heap[b]?)
    (h1 : w0.ownsRow B 35 1 v rows.length us)
    (h2 : ∀ (q : Nat) (u : Value), us[q]? = some u → ∃ (g c : Nat) (r : List Int), rows[q]? = some r ∧ u = .slice (some ⟨g, 0, none⟩) r.length c ∧ r.length ≤ c ∧ r.length ≤ 1048576 ∧ w0.ownsRow B 3 1 u r.length (r.map (.int .i64)))
    (h3 : ∀ (p q : Nat) (u u' : Value), p ≠ q → us[p]? = some u → us[q]? = some u' → u.ownBlock ≠ u'.ownBlock)
    (g1 : wo.ownsRow B2 35 1 v2 rows2.length us2)
    (g2 : ∀ (q : Nat) (u : Value), us2[q]? = some u → ∃ (g c : Nat) (r : List Int), rows2[q]? = some r ∧ u = .slice (some ⟨g, 0, none⟩) r.length c ∧ r.length ≤ c ∧ r.length ≤ 1048576 ∧ wo.ownsRow B2 3 1 u r.length (r.map (.int .i64)))
    (g3 : ∀ (p q : Nat) (u u' : Value), p ≠ q → us2[p]? = some u → us2[q]? = some u' → u.ownBlock ≠ u'.ownBlock)
    (hown : w'.ownsRow B 35 1 v' (rows.length + rows2.length) (us ++ us2)) (hgr : wo.grownBy w' v.ownBlock) : Pats w' B v' (rows ++ rows2) := by
  have hul : us.length = rows.length := by simpa using h1.1
  have hul2 : us2.length = rows2.length := by simpa using g1.1
  have h1o := own_keep h1 fun b _ a c => hk b a c
  have hne : ∀ {n : Nat} {u : Value} {xs : List Value} {B' : Nat}, wo.ownsRow B' 3 1 u n xs → u.ownBlock = none ∨ u.ownBlock ≠ v.ownBlock := fun {n u xs B'} hu => by
    cases e : u.ownBlock with
    | none => exact .inl rfl
    | some b =>
      refine .inr fun e2 => ?_
      obtain ⟨c, hc⟩ := own_kind hu e
      obtain ⟨d, hd⟩ := own_kind h1o e2.symm
      exact ne_type hc hd (by decide) rfl
  have lo : ∀ (q : Nat) (u : Value), us[q]? = some u → ∀ b, u.ownBlock = some b → b < w0.heap.size := fun q u hq b hb => by
    obtain ⟨g, c, r, _, _, _, _, e5⟩ := h2 q u hq
    exact (e5.lt b hb).2
  have hi : ∀ (q : Nat) (u : Value), us2[q]? = some u → ∀ b, u.ownBlock = some b → B2 ≤ b := fun q u hq b hb => by
    obtain ⟨g, c, r, _, _, _, _, e5⟩ := g2 q u hq
    exact (e5.lt b hb).1
  have some1 : ∀ (q : Nat) (u : Value), us[q]? = some u → ∃ b, u.ownBlock = some b := fun q u hq => by
    obtain ⟨g, c, r, _, e2, _⟩ := h2 q u hq
    exact ⟨g, by rw [e2]; rfl⟩
  refine ⟨us ++ us2, by rw [List.length_append]; exact hown, fun q u hq => ?_, fun p q u u' hpq hp hq e => ?_⟩
  · by_cases h : q < us.length
    · rw [List.getElem?_append_left h] at hq
      obtain ⟨g, c, r, e1, e2, e3, e4, e5⟩ := h2 q u hq
      have e6 := own_keep e5 fun b _ a c => hk b a c
      exact ⟨g, c, r, by rw [List.getElem?_append_left (by omega)]; exact e1, e2, e3, e4, e6.kept hgr (hne e6)⟩
    · rw [List.getElem?_append_right (by omega)] at hq
      obtain ⟨g, c, r, e1, e2, e3, e4, e5⟩ := g2 _ u hq
      refine ⟨g, c, r, by rw [List.getElem?_append_right (by omega), ← hul]; exact e1, e2, e3, e4, ?_⟩
      have e6 := e5.kept hgr (hne e5)
      refine ⟨e6.1, ?_⟩
      rcases e6.2 with hn | ⟨g', cap, cur, k1, kb, rest⟩
      · exact .inl hn
      · exact .inr ⟨g', cap, cur, k1, by omega, rest⟩
  · by_cases hpl : p < us.length
    · rw [List.getElem?_append_left hpl] at hp
      by_cases hql : q < us.length
      · rw [List.getElem?_append_left hql] at hq
        exact h3 p q u u' hpq hp hq e
      · rw [List.getElem?_append_right (by omega)] at hq
        obtain ⟨b, hb⟩ := some1 p u hp
        have a1 := lo p u hp b hb
        have a2 := hi _ u' hq b (e ▸ hb)
        omega
    · rw [List.getElem?_append_right (by omega)] at hp
      by_cases hql : q < us.length
      · rw [List.getElem?_append_left hql] at hq
        obtain ⟨b, hb⟩ := some1 q u' hq
        have a1 := lo q u' hq b hb
        have a2 := hi _ u hp b (e.symm ▸ hb)
        omega
      · rw [List.getElem?_append_right (by omega)] at hq
        exact g3 _ _ u u' (by omega) hp hq e
end
/-- append of rows to rows -/
theorem wpPats {ops : Array Oper} {rest : List Oper} {o : Oper} {a : Act} {Q : Exit → Act → World → Prop} {w0 wo : World} (hgd : o.guard = none) (s x : Operand)
    (ho : o.op = .call { callee := .builtin .append, args := #[s, x], argTypes := #[37, 37] })
    (B B2 : Nat) (v v2 : Value) (rows rows2 : List (List Int)) (hs : a.eval s = v) (hx : a.eval x = v2) (h1 : Pats w0 B v rows) (hk : ∀ b, B ≤ b → b < w0.heap.size → wo.heap[b]? = w0.heap[b]?) (hsz : w0.heap.size ≤ wo.heap.size) (h2 : Pats wo B2 v2 rows2) (hB : B ≤ B2) (hB2 : w0.heap.size ≤ B2) (hBo : B ≤ wo.heap.size) (hlen : rows.length + rows2.length ≤ 1048576)
    (h : ∀ (v' : Value) (w' : World), Pats w' B v' (rows ++ rows2) → wo.grownBy w' v.ownBlock → (v'.ownBlock = v.ownBlock ∨ v'.ownBlock = some wo.heap.size) → wpList Tryz.prog ops Q rest (a.put o.dst v') w') :
    wpList Tryz.prog ops Q (o :: rest) a wo := by
  obtain ⟨us, p1, p2, p3⟩ := h1
  obtain ⟨us2, q1, q2, q3⟩ := h2
  obtain ⟨i1, hj, hy0, hy1, hy2⟩ := info_parts Tryz.infoIntsPt
  have p1o := own_keep p1 fun b _ a c => hk b a c
  by_cases hm : 0 < rows2.length
  · obtain ⟨G, C, e, _, _⟩ := q1.form hm
    have q1' := q1
    rw [e] at q1'
    refine wpList_append_own_at wo hgd s x 37 ho B 35 i1 (.slice none 0 0) 1 24 Tryz.underlying37 hj hy0 hy1 hy2 rfl (by decide) v rows.length us hs p1o ⟨G, 0, none⟩ rows2.length C us2 (by rw [hx, e]) (by simpa using q1.1) (q1'.cells (g := G) rfl) (fun u hu => ?_) (by unfold maxLen; omega) (by omega) hBo ?_
    · obtain ⟨q, hq⟩ := List.mem_iff_getElem?.1 hu
      obtain ⟨g, c, r, _, e2, _⟩ := q2 q u hq
      rw [e2]; rfl
    · intro v' w' hown hgr _ hat
      exact h v' w' (Pats.join hB hB2 hk p1 p2 p3 q1 q2 q3 hown hgr) hgr hat
  · have hr2 : rows2 = [] := List.eq_nil_of_length_eq_zero (by omega)
    subst hr2
    obtain ⟨av, cv, hv, hle⟩ := own_slice p1o
    obtain ⟨ay, cy, hy, _⟩ := own_slice q1
    subst hv hy
    have hsrc : Src Tryz.prog i1.size 37 (.slice ay ([] : List (List Int)).length cy) 0 [] wo := by
      cases ay with
      | none => exact Src.ofNil wo Tryz.underlying37 cy
      | some ad => exact Src.ofSlice wo Tryz.underlying37 ad 0 cy [] (by simp) (fun j u hj => by simp at hj) (fun u hu => by cases hu)
    have hrun := run_append_nothing (P := Tryz.prog) wo 37 37 o.type 35 i1 Tryz.underlying37 hj av rows.length cv hle (.slice ay ([] : List (List Int)).length cy) hsrc
    refine wpList_plain hgd fun K hK => ?_
    unfold Oper.wp
    simp only [execOp, ho, resolve, invoke, builtin, Sem.run_bind, Sem.run_pure, Result.andThen_ok, List.map_toArray, List.map_cons, List.map_nil, hs, hx, hrun]
    refine hK _ _ (h _ wo ?_ (grown_refl _ _) (.inl rfl))
    rw [List.append_nil]
    exact Pats.keep ⟨us, p1, p2, p3⟩ hk
end Go.Proofs.YtjcbpnffmebihaaGreatDoor
namespace Go.Proofs.YtjcbpnffmebihaaGreatDoor
open Go.RowKit Go.WideShapes

theorem ret_slice {a : Option Addr} {l c l' c' : Nat} (h : l = l') (h2 : c = c') : Ending.returned (.slice a l c) = Ending.returned (.slice a l' c') := by rw [h, h2]
theorem sumOf_any (S : Nat → Prop) (a : Option Addr) (len cap : Nat) (xs : List Int) (w : World) (h : IntsAt w S a len xs) (hb : ∀ x ∈ xs, -1099511627776 ≤ x ∧ x ≤ 1099511627776) (hl : len ≤ 1048576) :
    Calls Tryz.prog 131 #[.slice a len cap] w fun e w' => e = .returned (.int .i64 (totalM xs)) ∧ w = w' := by
  go_enter Tryz.func131, Tryz.ntmps131
  go_wp2
  go_loop [3, 8] (fun n i => ∃ k : Nat, k ≤ len ∧ i = .int .i64 k ∧ n = .int .i64 (totalM (xs.take k))) (fun _ i => len - (intOf i).toNat)
  case atStart => exact ⟨0, Nat.zero_le _, rfl, rfl⟩
  case round =>
    obtain ⟨k, hk, rfl, rfl⟩ := hrel
    by_cases hlt : k < len
    · obtain ⟨b, off, x, rfl, hx, hc⟩ := h.get hlt
      have hx1 := hb x (List.mem_of_getElem? hx)
      have hx2 := totalM_bd (B := 1099511627776) (by omega) (fun y hy => hb y (take_mem (k := k) hy))
      have hll : ((xs.take k).length : Int) ≤ 1048576 := by rw [List.length_take]; omega
      have HX := Lib.hid hx
      clear hx
      generalize hT : totalM (xs.take k) = t at hx2 ⊢
      have HT := Lib.hid hT
      clear hT
      have ht1 : -1152921504606846976 ≤ t := by omega
      have ht2 : t ≤ 1152921504606846976 := by omega
      clear hx2 hll
      go_wp2
      go_round
      case rel => exact ⟨k + 1, by omega, by go_num, by rw [take_get HX.out, totalM_snoc, HT.out]⟩
      case measure => simp [intOf]; omega
    · have hle := h.lenEq
      have HL := Lib.hid hle
      clear hle
      go_wp2
      go_ret
      exact ⟨ret_int (by rw [List.take_of_length_le (by rw [HL.out]; omega)]), rfl⟩
end Go.Proofs.YtjcbpnffmebihaaGreatDoor
namespace Go.Proofs.YtjcbpnffmebihaaGreatDoor
open Go.RowKit

theorem costS_bd {xs : List Int} {o u : Int} (h : okO xs o u = true) {s : Nat} (hs : s ≤ 8) : 0 ≤ costS xs s o u ∧ costS xs s o u ≤ 30240 := by
  obtain ⟨h0, a, b, c, d⟩ := okO_at h
  obtain ⟨_, h7, h2, _⟩ := chM_at h0
  have := costK_bd10 (xs := xs) (s := s) h2 ⟨a, b⟩ ⟨c, d⟩ hs xs.length (by omega)
  unfold costS
  omega
theorem stockRes_no {xs : List Int} {s o u : Int} (h : okO xs o u = false ∨ inB 0 7 s = false) : stockRes xs s o u = -1 := by
  unfold stockRes
  rcases h with h | h <;> rw [h] <;> simp
theorem stockRes_yes {xs : List Int} {s : Nat} {o u : Int} (h : okO xs o u = true) (hs : s ≤ 7) : stockRes xs (s : Int) o u = costS xs s o u := by
  unfold stockRes
  rw [h, inB_true (by omega) (by omega)]
  simp
theorem shareRes_no {xs : List Int} {o u : Int} (h : okO xs o u = false) : shareRes xs o u = -1 := by unfold shareRes; rw [h]; rfl
theorem shareRes_yes {xs : List Int} {o u : Int} (h : okO xs o u = true) : shareRes xs o u = (shareN xs o u : Int) := by unfold shareRes; rw [h]; rfl
end Go.Proofs.YtjcbpnffmebihaaGreatDoor
namespace Go.Proofs.YtjcbpnffmebihaaGreatDoor
open Go.RowKit Go.WideShapes

theorem mem_9 {xs : List Int} (h : allIn 0 9 xs = true) : ∀ x ∈ xs, -1099511627776 ≤ x ∧ x ≤ 1099511627776 := fun x hx => by
  have := List.all_eq_true.1 h x hx
  simp [inB] at this
  omega
set_option maxRecDepth 100000 in
set_option maxHeartbeats 2000000 in
theorem vChances_spec (S : Nat → Prop) (a : Option Addr) (len cap : Nat) (xs : List Int) (w : World) (h : IntsAt w S a len xs) :
    Calls Tryz.prog 63 #[.slice a len cap] w fun e w' => e = .returned (.bool (chM xs)) ∧ w = w' := by
  have hs := h.small
  have HL := Lib.hid h.lenEq
  go_enter Tryz.func63, Tryz.ntmps63
  go_wp2_with fail
  go_loop [3] (fun i => ∃ k : Nat, k ≤ len ∧ i = .int .i64 k ∧ allIn 0 9 (xs.take k) = true) (fun i => len - (intOf i).toNat)
  case atStart => exact ⟨0, Nat.zero_le _, rfl, rfl⟩
  case round =>
    obtain ⟨k, hk, rfl, ha⟩ := hrel
    have HA := Lib.hid ha
    clear ha
    by_cases hlt : k < len
    · have hkI : (k : Int) < (len : Int) := by omega
      obtain ⟨b, off, x, rfl, hx, hc⟩ := h.get hlt
      have HX := Lib.hid hx
      clear hx
      cases hq : inB 0 9 x
      · have HF := Lib.hid (show chM xs = false by unfold chM; rw [allIn_false HX.out hq]; simp)
        go_wp2_with (go_at_call 54; refine (inRange_any _ _ _ _).mono ?_; rintro e w' ⟨rfl, rfl⟩)
        go_ret
        exact ⟨ret_bool HF.out.symm, rfl⟩
      · go_wp2_with (go_at_call 54; refine (inRange_any _ _ _ _).mono ?_; rintro e w' ⟨rfl, rfl⟩)
        go_round
        case rel => exact ⟨k + 1, by omega, by go_num, allIn_step HX.out HA.out hq⟩
        case measure => simp [intOf]; omega
    · obtain rfl : k = len := by omega
      have hkI : ¬ (k : Int) < (k : Int) := by omega
      have ha := HA.out
      rw [List.take_of_length_le (by rw [HL.out]; omega)] at ha
      have HM := Lib.hid (mem_9 ha)
      cases h1 : inB 1 7 (k : Int)
      · have HF := Lib.hid (show chM xs = false by unfold chM; simp [inB] at h1; rw [HL.out]; simp; omega)
        clear ha
        go_wp2_with (go_at_call 54; refine (inRange_any _ _ _ _).mono ?_; rintro e w' ⟨rfl, rfl⟩)
        go_ret
        exact ⟨ret_bool HF.out.symm, rfl⟩
      · have HF := Lib.hid (show chM xs = decide (totalM xs > 0) by unfold chM; rw [ha]; simp [inB] at h1; rw [HL.out, decide_eq_true (by omega)]; rfl)
        have hl8 : k ≤ 1048576 := by simp [inB] at h1; omega
        clear ha
        obtain ⟨T, hT⟩ : ∃ T, totalM xs = T := ⟨_, rfl⟩
        rw [hT] at HF
        have HT := Lib.hid hT
        clear hT
        go_wp2_with (first | (go_at_call 54; refine (inRange_any _ _ _ _).mono ?_; rintro e w' ⟨rfl, rfl⟩) | (go_at_call 28; refine (specSum_any _ _ _ _ xs _ h HM.out hl8).mono ?_; rintro e w' ⟨rfl, rfl⟩; rw [HT.out]))
        go_ret
        exact ⟨ret_bool HF.out.symm, rfl⟩
theorem vchS {S : Nat → Prop} {a : Option Addr} {len cap : Nat} {xs : List Int} {b : Bool} (hb : chM xs = b) (w : World) (h : IntsAt w S a len xs) : Calls Tryz.prog 63 #[.slice a len cap] w fun e w' => e = .returned (.bool b) ∧ w = w' := by
  subst hb; exact vChances_spec S a len cap xs w h
theorem inRS {lo hi n : Int} {b : Bool} (h : inB lo hi n = b) (w : World) : Calls Tryz.prog 54 #[.int .i64 n, .int .i64 lo, .int .i64 hi] w fun e w' => e = .returned (.bool b) ∧ w = w' := by
  subst h; exact inRange_any n lo hi w
set_option maxRecDepth 100000 in
set_option maxHeartbeats 2000000 in
theorem validOver_any (S : Nat → Prop) (a : Option Addr) (len cap : Nat) (xs : List Int) (o u : Int) (w : World) (h : IntsAt w S a len xs) :
    Calls Tryz.prog 45 #[.slice a len cap, .int .i64 o, .int .i64 u] w fun e w' => e = .returned (.bool (okO xs o u)) ∧ w = w' := by
  unfold okO
  cases hc : chM xs
  · go_enter Tryz.func45, Tryz.ntmps45
    go_wp2_with (go_at_call 63; refine (vchS hc _ h).mono ?_; rintro e w' ⟨rfl, rfl⟩)
    go_ret
    exact ⟨rfl, rfl⟩
  · cases ho : inB 0 30 o
    · go_enter Tryz.func45, Tryz.ntmps45
      go_wp2_with (first | (go_at_call 63; refine (vchS hc _ h).mono ?_; rintro e w' ⟨rfl, rfl⟩) | (go_at_call 54; refine (inRS ho _).mono ?_; rintro e w' ⟨rfl, rfl⟩))
      go_ret
      exact ⟨rfl, rfl⟩
    · go_enter Tryz.func45, Tryz.ntmps45
      go_wp2_with (first | (go_at_call 63; refine (vchS hc _ h).mono ?_; rintro e w' ⟨rfl, rfl⟩) | (go_at_call 54; refine (inRange_any _ _ _ _).mono ?_; rintro e w' ⟨rfl, rfl⟩; first | rw [ho] | skip))
      go_ret
      exact ⟨rfl, rfl⟩
theorem vov {S : Nat → Prop} {a : Option Addr} {len cap : Nat} {xs : List Int} {o u : Int} {b : Bool} (hb : okO xs o u = b) (w : World) (h : IntsAt w S a len xs) : Calls Tryz.prog 45 #[.slice a len cap, .int .i64 o, .int .i64 u] w fun e w' => e = .returned (.bool b) ∧ w = w' := by
  subst hb; exact validOver_any S a len cap xs o u w h
set_option maxRecDepth 100000 in
set_option maxHeartbeats 2000000 in
theorem sells_any (S : Nat → Prop) (a : Option Addr) (len cap : Nat) (xs : List Int) (s : Nat) (o u : Int) (w : World) (h : IntsAt w S a len xs) (hok : okO xs o u = true) (hs : s ≤ 7) :
    Calls Tryz.prog 64 #[.slice a len cap, .int .i64 s, .int .i64 o, .int .i64 u] w fun e w' => e = .returned (.int .i64 (costS xs s o u)) ∧ w = w' := by
  have hsm := h.small
  have HL := Lib.hid h.lenEq
  obtain ⟨hc, ho0, ho1, hu0, hu1⟩ := okO_at hok
  obtain ⟨hl1, hl7, hx9, _⟩ := chM_at hc
  have HX9 := Lib.hid hx9
  have HCB := Lib.hid (fun k (hk : k ≤ 8) => costK_bd10 (xs := xs) (s := s) hx9 ⟨ho0, ho1⟩ ⟨hu0, hu1⟩ (by omega) k hk)
  have hlen7 : len ≤ 7 := by rw [← HL.out]; exact hl7
  clear hx9 hok hc hl1 hl7
  go_enter Tryz.func64, Tryz.ntmps64
  go_wp2_with fail
  go_loop [9, 10] (fun t i => ∃ k : Nat, k ≤ len ∧ i = .int .i64 k ∧ t = .int .i64 (costK xs s o u k)) (fun _ i => len - (intOf i).toNat)
  case atStart => exact ⟨0, Nat.zero_le _, rfl, rfl⟩
  case round =>
    obtain ⟨k, hk, rfl, rfl⟩ := hrel
    have hcb := HCB.out k (by omega)
    by_cases hlt : k < len
    · have hkI : (k : Int) < (len : Int) := by omega
      obtain ⟨b, off, x, rfl, hx, hcx⟩ := h.get hlt
      have hxe : xs.getD k 0 = x := getD_of hx
      have hx9 := HX9.out k
      rw [hxe] at hx9
      obtain ⟨d1, e1⟩ : ∃ d1 : Int, ((s - k : Nat) : Int) = d1 := ⟨_, rfl⟩
      obtain ⟨d2, e2⟩ : ∃ d2 : Int, ((k - s : Nat) : Int) = d2 := ⟨_, rfl⟩
      have hF : unitC s k o u = o * d1 + u * d2 := by unfold unitC; rw [e1, e2]
      have hb := termC_bd hx9 (unit_bd (s := s) (v := k) ⟨ho0, ho1⟩ ⟨hu0, hu1⟩ (by omega) (by omega))
      rw [hF] at hb
      have HN := Lib.hid (show costK xs s o u (k + 1) = costK xs s o u k + x * (o * d1 + u * d2) by rw [costK, hxe, hF])
      clear hF hx hxe
      obtain ⟨t, ht⟩ : ∃ t, costK xs s o u k = t := ⟨_, rfl⟩
      rw [ht] at HN hcb ⊢
      clear ht
      have ht0 : 0 ≤ t := hcb.1
      have ht1 : t ≤ 40000 := by omega
      clear hcb
      have b1 : 0 ≤ o * d1 ∧ o * d1 ≤ 30 * 8 := ⟨Int.mul_nonneg ho0 (by omega), Int.mul_le_mul ho1 (by omega) (by omega) (by omega)⟩
      have b2 : 0 ≤ u * d2 ∧ u * d2 ≤ 30 * 8 := ⟨Int.mul_nonneg hu0 (by omega), Int.mul_le_mul hu1 (by omega) (by omega) (by omega)⟩
      have m1 : (if (s : Int) - (k : Int) < 0 then (0 : Int) else (s : Int) - (k : Int)) = d1 := by split <;> omega
      have n1 : (if (k : Int) - (s : Int) < 0 then (0 : Int) else (k : Int) - (s : Int)) = d2 := by split <;> omega
      clear e1 e2
      go_wp2_with fail
      go_round
      case rel => exact ⟨k + 1, by omega, by go_num, by rw [HN.out]⟩
      case measure => simp [intOf]; omega
    · obtain rfl : k = len := by omega
      have hkI : ¬ (k : Int) < (k : Int) := by omega
      go_wp2_with fail
      go_ret
      exact ⟨ret_int (by unfold costS; rw [HL.out]), rfl⟩
set_option maxRecDepth 100000 in
set_option maxHeartbeats 2000000 in
theorem bestStock_spec (S : Nat → Prop) (a : Option Addr) (len cap : Nat) (xs : List Int) (o u : Int) (w : World) (h : IntsAt w S a len xs) :
    Calls Tryz.prog 46 #[.slice a len cap, .int .i64 o, .int .i64 u] w fun e w' => e = .returned (.int .i64 (shareRes xs o u)) ∧ w = w' := by
  cases hok : okO xs o u
  · rw [shareRes_no hok]
    go_enter Tryz.func46, Tryz.ntmps46
    go_wp2_with (go_at_call 45; refine (vov hok _ h).mono ?_; rintro e w' ⟨rfl, rfl⟩)
    go_ret
    exact ⟨rfl, rfl⟩
  · rw [shareRes_yes hok]
    obtain ⟨hc, ho0, ho1, hu0, hu1⟩ := okO_at hok
    have hsl := (share_is hc ho0 hu0).1
    have hl7 := (chM_at hc).2.1
    have HST := Lib.hid (fun k => best_step (xs := xs) (k := k) hc ho0 hu0)
    have HBD := Lib.hid (fun k (hk : k ≤ 8) => costS_bd hok (s := k) hk)
    have HSE := Lib.hid (fun (k : Nat) (hk : k ≤ 7) => sells_any S a len cap xs k o u w h hok hk)
    obtain ⟨R, hS⟩ : ∃ R, shareN xs o u = R := ⟨_, rfl⟩
    rw [hS] at hsl HST ⊢
    clear hS
    have hS7 : R ≤ 6 := by omega
    clear hsl hl7 hc
    go_enter Tryz.func46, Tryz.ntmps46
    go_wp2_with (first | (go_at_call 45; refine (vov hok _ h).mono ?_; rintro e w' ⟨rfl, rfl⟩) | fail)
    go_loop [7, 8] (fun b i => ∃ k : Nat, 1 ≤ k ∧ k ≤ 8 ∧ i = .int .i64 k ∧ b = .int .i64 ((min R (k - 1) : Nat) : Int)) (fun _ i => 8 - (intOf i).toNat)
    case atStart => exact ⟨1, by omega, by omega, rfl, by simp⟩
    case round =>
      obtain ⟨k, hk1, hk, rfl, rfl⟩ := hrel
      have hst := HST.out k
      obtain ⟨B, hB⟩ : ∃ B, min R (k - 1) = B := ⟨_, rfl⟩
      have hB7 : B ≤ 7 := by omega
      rw [hB] at hst ⊢
      by_cases hlt : k < 8
      · have hkI : (k : Int) ≤ 7 := by omega
        have b1 := HBD.out k (by omega)
        have b2 := HBD.out B (by omega)
        have C1 := Lib.hid (HSE.out k (by omega))
        have C2 := Lib.hid (HSE.out B (by omega))
        obtain ⟨x, hx⟩ : ∃ x, costS xs k o u = x := ⟨_, rfl⟩
        obtain ⟨y, hy⟩ : ∃ y, costS xs B o u = y := ⟨_, rfl⟩
        rw [hx, hy] at hst
        rw [hx] at C1 b1
        rw [hy] at C2 b2
        clear hx hy
        have HST1 := Lib.hid hst
        clear hst
        go_wp2_with fail
        refine C1.out.mono ?_
        rintro e w2 ⟨rfl, rfl⟩
        go_wp2_with fail
        refine C2.out.mono ?_
        rintro e w3 ⟨rfl, rfl⟩
        by_cases hxy : x < y
        · go_wp2_with fail
          go_round
          case rel => exact ⟨k + 1, by omega, by omega, by go_num, by rw [show k + 1 - 1 = k by omega, ← HST1.out, if_pos hxy]⟩
          case measure => simp [intOf]; omega
        · go_wp2_with fail
          go_round
          case rel => exact ⟨k + 1, by omega, by omega, by go_num, by rw [show k + 1 - 1 = k by omega, ← HST1.out, if_neg (by omega)]⟩
          case measure => simp [intOf]; omega
      · obtain rfl : k = 8 := by omega
        go_wp2_with fail
        go_ret
        exact ⟨ret_int (by rw [← hB]; omega), rfl⟩
end Go.Proofs.YtjcbpnffmebihaaGreatDoor
namespace Go.Proofs.YtjcbpnffmebihaaGreatDoor
open Go.RowKit Go.WideShapes

theorem toList_ne {a b : ByteArray} (h : a ≠ b) : (a.toList == b.toList) = false := by
  rw [beq_eq_false_iff_ne]
  intro e
  rw [ByteArray.toList_eq, ByteArray.toList_eq] at e
  exact h (ByteArray.ext (Array.ext' e))
theorem toList_nil {a : ByteArray} (h : a ≠ ByteArray.empty) : (a.toList == []) = false := by
  rw [beq_eq_false_iff_ne]
  intro e
  rw [ByteArray.toList_eq] at e
  exact h (ByteArray.ext (Array.ext' e))
theorem readB_none {s : ByteArray} (h : readFrom s 0 0 = -1) : readB s = -1 := by rw [readB, if_pos h]
theorem readB_empty : readB ByteArray.empty = -1 := by rw [readB]; split; rfl; rw [if_pos rfl]
theorem readB_other {s : ByteArray} {n : Int} (h : readFrom s 0 0 = n) (hn : numB n ≠ s) : readB s = -1 := by
  rw [readB, h]
  split
  · rfl
  · split
    · rfl
    · rfl
theorem readB_num {n : Int} {s : ByteArray} (h : readFrom s 0 0 = n) (h0 : 0 ≤ n) (hn : numB n = s) : readB s = n := by
  rw [readB, h, if_neg (by omega), if_neg ?_, if_pos hn]
  rintro rfl
  have := numB_pos n
  rw [hn] at this
  exact absurd this (by decide)
set_option maxRecDepth 100000 in
set_option maxHeartbeats 2000000 in
/-- the model's reading of a number -/
theorem readNumber_any (s : ByteArray) (w : World) (hs : s.size ≤ 1048576) :
    Calls Tryz.prog 39 #[.string s] w fun e w' => e = .returned (.int .i64 (readB s)) ∧ w' = w := by
  go_enter Tryz.func39, Tryz.ntmps39
  go_wp2
  go_loop [3, 4] (fun v i => ∃ k m : Nat, k ≤ s.size ∧ m ≤ 10009 ∧ i = .int .i64 k ∧ v = .int .i64 m ∧ readFrom s k m = readFrom s 0 0) (fun _ i => s.size - (intOf i).toNat)
  case atStart => exact ⟨0, 0, Nat.zero_le _, Nat.zero_le _, rfl, rfl, rfl⟩
  case round =>
    obtain ⟨k, m, hk, hm, rfl, rfl, hrd⟩ := hrel
    have HR := Lib.hid hrd
    clear hrd
    by_cases hlt : k < s.size
    · have hki : (k : Int) < (s.size : Int) := by omega
      by_cases hbad : (s[k].toNat : Int) < 48 ∨ 57 < (s[k].toNat : Int) ∨ 1000 < (m : Int)
      · have HE := Lib.hid (show readB s = -1 from readB_none (by rw [← HR.out, readFrom_bad hlt hbad]))
        have HD := Lib.hid hbad
        clear hbad
        obtain ⟨d, hd⟩ : ∃ d : Nat, d = s[k].toNat := ⟨_, rfl⟩
        rw [← hd] at HD
        rcases HD.out with h1 | h1
        · have h1' : (s[k].toNat : Int) < 48 := by rw [← hd]; exact h1
          clear hd HD h1
          go_wp2
          go_ret
          exact ⟨ret_int HE.out.symm, rfl⟩
        · by_cases h2 : (d : Int) < 48
          · have h1' : (s[k].toNat : Int) < 48 := by rw [← hd]; exact h2
            clear hd HD h1 h2
            go_wp2
            go_ret
            exact ⟨ret_int HE.out.symm, rfl⟩
          · have h2' : ¬ (s[k].toNat : Int) < 48 := by rw [← hd]; exact h2
            by_cases h3 : 57 < (d : Int)
            · have h3' : 57 < (s[k].toNat : Int) := by rw [← hd]; exact h3
              clear hd HD h1 h2 h3
              go_wp2
              go_ret
              exact ⟨ret_int HE.out.symm, rfl⟩
            · have h3' : ¬ 57 < (s[k].toNat : Int) := by rw [← hd]; exact h3
              have h4 : 1000 < (m : Int) := by omega
              clear hd HD h1 h2 h3
              go_wp2
              go_ret
              exact ⟨ret_int HE.out.symm, rfl⟩
      · have HE := Lib.hid (show readFrom s (k + 1) (10 * (m : Int) + ((s[k].toNat : Int) - 48)) = readFrom s 0 0 by rw [← HR.out, readFrom_go hlt hbad])
        have h1 : ¬ (s[k].toNat : Int) < 48 := by omega
        have h2 : ¬ 57 < (s[k].toNat : Int) := by omega
        have h3 : ¬ 1000 < (m : Int) := by omega
        have hw1 : IntKind.u8.wrap ((s[k].toNat : Int) - 48) = (s[k].toNat : Int) - 48 := IntWalk.u8_in _ (by omega)
        have hw2 : IntKind.i64.wrap ((s[k].toNat : Int) - 48) = (s[k].toNat : Int) - 48 := IntWalk.i64_in _ (by omega)
        have hw3 : IntKind.i64.wrap (10 * (m : Int)) = 10 * (m : Int) := IntWalk.i64_in _ (by omega)
        have hw4 : IntKind.i64.wrap (10 * (m : Int) + ((s[k].toNat : Int) - 48)) = 10 * (m : Int) + ((s[k].toNat : Int) - 48) := IntWalk.i64_in _ (by omega)
        obtain ⟨r, hr⟩ : ∃ r : Nat, (r : Int) = 10 * (m : Int) + ((s[k].toNat : Int) - 48) := ⟨(10 * (m : Int) + ((s[k].toNat : Int) - 48)).toNat, by omega⟩
        have HRR := Lib.hid hr
        have hrb : r ≤ 10009 := by omega
        clear hbad hr
        go_wp2
        go_round
        case rel => exact ⟨k + 1, r, by omega, hrb, by go_num, by rw [HRR.out], by rw [HRR.out]; exact HE.out⟩
        case measure => simp [intOf] <;> omega
    · have hki : ¬ (k : Int) < (s.size : Int) := by omega
      have hend := (readFrom_end (n := (m : Int)) hlt).symm.trans HR.out
      have HC := Lib.hid (number_any (m : Int) w (by omega) (by omega))
      by_cases he : s = ByteArray.empty
      · have HE := Lib.hid (show readB s = -1 by rw [he]; exact readB_empty)
        have hee : (s.toList == ByteArray.toList ⟨#[]⟩) = true := by rw [he]; exact beq_self_eq_true _
        have hee2 : (s.toList == []) = true := by rw [he, ByteArray.toList_eq]; rfl
        clear he hend
        go_wp2_with fail
        go_ret
        exact ⟨ret_int HE.out.symm, rfl⟩
      · have hee : (s.toList == ByteArray.toList ⟨#[]⟩) = false := toList_ne he
        have hee2 : (s.toList == []) = false := toList_nil he
        by_cases hn : numB (m : Int) = s
        · have HE := Lib.hid (readB_num hend.symm (by omega) hn)
          have hne : ((numB (m : Int)).toList == s.toList) = true := by rw [hn]; exact beq_self_eq_true _
          generalize numB (m : Int) = X at *
          clear hn hend he
          go_wp2_with fail
          refine HC.out.mono ?_
          rintro e w1 ⟨rfl, hw⟩
          subst hw
          go_wp2_with fail
          go_ret
          exact ⟨ret_int HE.out.symm, rfl⟩
        · have HE := Lib.hid (readB_other hend.symm hn)
          have hne : ((numB (m : Int)).toList == s.toList) = false := toList_ne hn
          generalize numB (m : Int) = X at *
          clear hn hend he
          go_wp2_with fail
          refine HC.out.mono ?_
          rintro e w1 ⟨rfl, hw⟩
          subst hw
          go_wp2_with fail
          go_ret
          exact ⟨ret_int HE.out.symm, rfl⟩
end Go.Proofs.YtjcbpnffmebihaaGreatDoor
