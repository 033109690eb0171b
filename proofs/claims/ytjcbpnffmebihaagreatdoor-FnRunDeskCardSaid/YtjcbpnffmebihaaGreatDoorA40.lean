import Derived.Test.YtjcbpnffmebihaaGreatDoorA37
import Derived.Deep.RegionLaw
import Derived.Lib.SliceRun
import Derived.Laws.IdiomCopy
import Derived.Shelf.RegionOpenPlain
set_option linter.unusedVariables false
set_option linter.unusedSimpArgs false
namespace Go.Proofs.YtjcbpnffmebihaaGreatDoor
open Go.RowKit Go.WideShapes

/-- vs laid over xs from place o on -/
def setL (xs : List Value) : Nat → List Value → List Value
  | _, [] => xs
  | o, v :: r => setL (xs.set o v) (o + 1) r
theorem setL_len (vs : List Value) : ∀ (o : Nat) (xs : List Value), (setL xs o vs).length = xs.length := by
  induction vs with
  | nil => intro _ _; rfl
  | cons v r ih => intro o xs; rw [setL, ih, List.length_set]
theorem setL_get (vs : List Value) : ∀ (o : Nat) (xs : List Value) (q : Nat), o + vs.length ≤ xs.length → (setL xs o vs)[q]? = if o ≤ q ∧ q < o + vs.length then vs[q - o]? else xs[q]? := by
  induction vs with
  | nil => intro o xs q _; rw [setL, if_neg (fun h => by have := h.2; simp at this; omega)]
  | cons v r ih =>
    intro o xs q h
    rw [List.length_cons] at h
    rw [setL, ih (o + 1) _ q (by rw [List.length_set]; omega), List.length_cons]
    by_cases h1 : o = q
    · subst h1
      rw [if_neg (by omega), if_pos (by omega), Nat.sub_self, List.getElem?_set_self (by omega)]; rfl
    · rw [List.getElem?_set_ne h1]
      by_cases h2 : o + 1 ≤ q ∧ q < o + 1 + r.length
      · rw [if_pos h2, if_pos (by omega)]
        obtain ⟨m, hm⟩ : ∃ m, q = o + 1 + m := ⟨q - (o + 1), by omega⟩
        subst hm
        rw [show o + 1 + m - (o + 1) = m by omega, show o + 1 + m - o = m + 1 by omega, List.getElem?_cons_succ]
      · rw [if_neg h2, if_neg (by omega)]
theorem own_setCells {B g n cap : Nat} {e : TypeId} (vs : List Value) : ∀ (o : Nat) (w : World) (xs : List Value), w.ownsRow B e 1 (.slice (some ⟨g, 0, none⟩) n cap) n xs → (w.setCells g o vs).ownsRow B e 1 (.slice (some ⟨g, 0, none⟩) n cap) n (setL xs o vs) := by
  induction vs with
  | nil => intro _ _ _ h; exact h
  | cons v r ih => intro o w xs h; exact ih (o + 1) _ _ (h.stored o v).1
theorem map_erase {α β : Type} (f : α → β) : ∀ (l : List α) (i : Nat), (l.map f).eraseIdx i = (l.eraseIdx i).map f
  | [], _ => rfl
  | _ :: _, 0 => rfl
  | x :: l, i + 1 => by rw [List.map_cons, List.eraseIdx_cons_succ, List.eraseIdx_cons_succ, List.map_cons, map_erase f l i]
/-- a shorter row of the same block -/
theorem own_shorter {w : World} {B g n m cap : Nat} {e : TypeId} {xs : List Value} (h : w.ownsRow B e 1 (.slice (some ⟨g, 0, none⟩) n cap) n xs) (hm : m ≤ n) : w.ownsRow B e 1 (.slice (some ⟨g, 0, none⟩) m cap) m (xs.take m) := by
  obtain ⟨h1, h2⟩ := h
  rcases h2 with ⟨h', _⟩ | ⟨g', cap', cur, h', hb, hg, hnc, hcm, hcs, htake⟩
  · cases h'
  · simp only [Value.slice.injEq, Option.some.injEq, Addr.mk.injEq, and_true, true_and] at h'
    obtain ⟨rfl, rfl⟩ := h'
    refine ⟨by rw [List.length_take]; omega, .inr ⟨g, cap, cur, rfl, hb, hg, by omega, hcm, hcs, ?_⟩⟩
    rw [← htake, List.take_take, Nat.mul_one, Nat.mul_one, Nat.min_eq_left hm]
theorem below_sets {B g : Nat} (hg : B ≤ g) : ∀ (vs : List Value) (o : Nat) (w : World), Below B w (w.setCells g o vs)
  | [], _, w => Below.refl _ _
  | v :: r, o, w => ((Below.refl B w).setCell (p := ⟨g, o, none⟩) hg v).trans (below_sets hg r (o + 1) _)
theorem erase_laid (K : List Value) {i : Nat} (hi : i < K.length) (z : Value) : (setL (setL K i (K.drop (i + 1))) (K.length - 1) [z]).take (K.length - 1) = K.eraseIdx i := by
  apply List.ext_getElem?
  intro q
  rw [List.getElem?_take, List.getElem?_eraseIdx]
  by_cases hq : q < K.length - 1
  · rw [if_pos hq, setL_get _ _ _ _ (by rw [setL_len]; simp; omega), if_neg (by simp; omega), setL_get _ _ _ _ (by simp; omega)]
    by_cases h2 : q < i
    · rw [if_neg (by omega), if_pos h2]
    · rw [if_pos (by simp; omega), if_neg h2, List.getElem?_drop, show i + 1 + (q - i) = q + 1 by omega]
  · rw [if_neg hq]
    by_cases h2 : q < i
    · omega
    · rw [if_neg h2, List.getElem?_eq_none (by omega)]
set_option maxRecDepth 1000000 in
set_option maxHeartbeats 4000000 in
/-- slices.Delete of one place of a row of the call's own -/
theorem delete6_any (B g n cp i j : Nat) (hj : j = i + 1) (K : List Int) (w : World) (h : w.ownsRow B 3 1 (.slice (some ⟨g, 0, none⟩) n cp) n (K.map (.int .i64))) (hi : i < n) (hn : n ≤ 8) (hcp : n ≤ cp) (hg : B ≤ g) :
    Calls Tryz.prog 117 #[.slice (some ⟨g, 0, none⟩) n cp, .int .i64 i, .int .i64 (j : Int)] w fun e w' => e = .returned (.slice (some ⟨g, 0, none⟩) (n - 1) cp) ∧
      w'.ownsRow B 3 1 (.slice (some ⟨g, 0, none⟩) (n - 1) cp) (n - 1) ((K.eraseIdx i).map (.int .i64)) ∧ Below B w w' ∧ w'.heap.size = w.heap.size := by
  have mixed : Tryz.prog.follows .mixedOrders = true := by kernel_rfl
  obtain ⟨i0, hi0, hz0, hz1, hz2⟩ := info_parts Tryz.infoIntO
  have hlen : K.length = n := by have := h.1; simpa using this
  -- the cells that are moved to the left
  obtain ⟨news, hnews⟩ : ∃ news, news = (K.map (Value.int .i64)).drop (i + 1) := ⟨_, rfl⟩
  have hnl : news.length = n - (i + 1) := by rw [hnews]; simp [hlen]
  have hcell : ∀ q, q < n → w.cell? ⟨g, q, none⟩ = (K.map (Value.int .i64))[q]? := fun q hq => h.cellAt q (by simp [hlen]; omega)
  have hsome : ∀ q, q < n → (w.cell? ⟨g, q, none⟩).isSome = true := fun q hq => by rw [hcell q hq, List.getElem?_eq_getElem (by simp [hlen]; omega)]; rfl
  have hfz : ∀ q, w.frozen? ⟨g, q, none⟩ = false := fun q => h.frozenAt q
  obtain ⟨A, hA, hsrc⟩ : ∃ A : Addr, (if cp = i + 1 then some (⟨g, 0, none⟩ : Addr) else some ⟨g, i + 1, none⟩) = some A ∧ Hid (∀ t u, news[t]? = some u → w.drew.cell? (A.add t) = some u) := by
    by_cases hh : cp = i + 1
    · refine ⟨⟨g, 0, none⟩, by simp [hh], fun t u hu => ?_⟩
      have h0 : news.length = 0 := by rw [hnl]; omega
      rw [List.length_eq_zero_iff.1 h0] at hu
      simp at hu
    · refine ⟨⟨g, i + 1, none⟩, by simp [hh], fun t u hu => ?_⟩
      have ht : t < n - (i + 1) := by
        have := (List.getElem?_eq_some_iff.1 hu).1
        rwa [hnl] at this
      rw [hnews, List.getElem?_drop] at hu
      rw [Addr.add_mid]
      exact (hcell (i + 1 + t) (by omega)).trans hu
  have s1 : Hid (news.length = (n - (i + 1)) * 1) := by rw [Nat.mul_one]; exact hnl
  have s2 : Hid (∀ u ∈ news, u.oneCell' = true) := by
    intro u hu
    rw [hnews] at hu
    obtain ⟨x, _, rfl⟩ := List.mem_map.1 (List.mem_of_mem_drop hu)
    rfl
  have s3 : Hid (∀ t, t < news.length → (w.drew.cell? ⟨g, 0 + i * 1 + t, none⟩).isSome = true ∧ w.drew.frozen? ⟨g, 0 + i * 1 + t, none⟩ = false) := by
    intro t ht
    rw [hnl] at ht
    exact ⟨by rw [Nat.mul_one, Nat.zero_add]; exact hsome (i + t) (by omega), hfz _⟩
  obtain ⟨W1, hW1⟩ : ∃ W1, W1 = w.drew.setCells g (0 + i * 1) news := ⟨_, rfl⟩
  have hW : Hid (W1 = w.drew.setCells g (0 + i * 1) news) := hW1
  have hd : w.drew.ownsRow B 3 1 (.slice (some ⟨g, 0, none⟩) n cp) n (K.map (.int .i64)) := own_drewN h 1
  have hO1 : W1.ownsRow B 3 1 (.slice (some ⟨g, 0, none⟩) n cp) n (setL (K.map (.int .i64)) i ((K.map (Value.int .i64)).drop (i + 1))) := by
    rw [hW1, hnews, Nat.mul_one, Nat.zero_add]; exact own_setCells _ _ _ _ hd
  have hsz1 : W1.heap.size = w.heap.size := by
    rw [hW1]
    have : ∀ (vs : List Value) (o : Nat) (w : World), (w.setCells g o vs).heap.size = w.heap.size := fun vs => by
      induction vs with
      | nil => intro _ _; rfl
      | cons v r ih => intro o w; rw [World.setCells, ih]; simp [World.setCell]
    rw [this]; rfl
  have hb1 : Below B w W1 := by rw [hW1]; exact (Below.refl B w).drew.trans (below_sets hg _ _ _)
  have hl1 : (setL (K.map (Value.int .i64)) i ((K.map (Value.int .i64)).drop (i + 1))).length = n := by rw [setL_len]; simp [hlen]
  have hcl : ∀ ty, (Builtin.clear_ #[35] ty #[.slice (some ⟨g, n - 1, none⟩) 1 (cp - (n - 1))]).run Tryz.prog W1 = .ok (.tuple #[]) (W1.setCells g (n - 1) [.int .i64 0]) :=
    fun ty => Lib.run_clear_slice W1 _ _ ty _ Tryz.underlying35 (fun w => by kernel_rfl) rfl rfl g (n - 1) 1 _ (by omega)
      (fun t ht => by rw [hO1.cellAt _ (by omega), List.getElem?_eq_getElem (by rw [hl1]; omega)]; rfl) (fun t ht => hO1.frozenAt _)
  have HFIN := Lib.hid (show (W1.setCells g (n - 1) [.int .i64 0]).ownsRow B 3 1 (.slice (some ⟨g, 0, none⟩) (n - 1) cp) (n - 1) ((K.eraseIdx i).map (.int .i64)) ∧ Below B w (W1.setCells g (n - 1) [.int .i64 0]) ∧ (W1.setCells g (n - 1) [.int .i64 0]).heap.size = w.heap.size from
    ⟨by
      have h3 := own_shorter (own_setCells [.int .i64 0] (n - 1) W1 _ hO1) (Nat.sub_le n 1)
      have h4 := erase_laid (K.map (Value.int .i64)) (i := i) (by simp [hlen]; exact hi) (.int .i64 0)
      rw [List.length_map, hlen] at h4
      rw [h4] at h3
      rwa [map_erase] at h3, hb1.trans (below_sets hg _ _ _), by rw [World.setCells, World.setCells]; simp [World.setCell, hsz1]⟩)
  have hic : i ≤ cp := by omega
  have hjc : j ≤ cp := by omega
  have hjn : j ≤ n := by omega
  have hij : i ≤ j := by omega
  have hne : i ≠ j := by omega
  have hne' : ((i : Int) == (j : Int)) = false := by simp; omega
  have hin1 : (j : Int) ≤ (n : Int) := by omega
  have hic1 : (i : Int) ≤ (cp : Int) := by omega
  have hjc1 : (j : Int) ≤ (cp : Int) := by omega
  have hij1 : (i : Int) ≤ (j : Int) := by omega
  have hnc1 : (n : Int) ≤ (cp : Int) := by omega
  rw [← hj] at hA s1
  have hni : n - (i + 1) = n - j := by omega
  have hn1 : i + (n - j) = n - 1 := by omega
  have hn2 : n - (n - 1) = 1 := by omega
  have HJ := Lib.hid hj
  have hcl2 : ∀ ty, (Builtin.clear_ #[35] ty #[.slice (some ⟨g, i + (n - j), none⟩) (n - (i + (n - j))) (cp - (i + (n - j)))]).run Tryz.prog W1 = .ok (.tuple #[]) (W1.setCells g (n - 1) [.int .i64 0]) := fun ty => by rw [hn1, hn2]; exact hcl ty
  have HN1 := Lib.hid hn1
  clear hW1 hO1 hd hb1 hsz1 h hnews hnl hcell hsome hfz hlen hl1 hj hcl hni hn1 hn2
  go_enter Tryz.func117, Tryz.ntmps117
  go_wp2_with fail
  go_region_law_o (refine step_append_room rfl (.tmp 22) (.tmp 25) 35 rfl 3 i0 1 Tryz.underlying35 hi0 hz1 g 0 i cp (by simp [Act.eval, Act.put]) A (n - j) (cp - j) news (by simp [Act.eval, Act.put]) s1.out hsrc.out s2.out (by omega) s3.out ?_; rw [← hW.out])
  go_wp2
  go_ret
  have hn1 := HN1.out
  refine ⟨by rw [← hn1]; rfl, ?_, ?_, ?_⟩
  · exact HFIN.out.1
  · exact HFIN.out.2.1
  · exact HFIN.out.2.2
end Go.Proofs.YtjcbpnffmebihaaGreatDoor
