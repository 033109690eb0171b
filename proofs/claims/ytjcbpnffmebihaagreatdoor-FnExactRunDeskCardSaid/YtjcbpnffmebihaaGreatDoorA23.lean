import Derived.Test.YtjcbpnffmebihaaGreatDoorA22
import Derived.Deep.RegionLaw
import Derived.Lib.SliceRun
import Derived.Laws.IdiomCopy
import Derived.Shelf.RegionOpenPlain
import Derived.Deep.QuietTactic
import Derived.BigQuiet
import Derived.Test.YtjcbpnffmebihaaGreatDoorRows
import Derived.WalkKit
import Derived.LoopTactic
import Derived.Outline
import Derived.WalkSpells
import Derived.WalkLawsBesides
import Derived.ProofKit
import Derived.Lib.Hide
import Derived.IntWalk
import Derived.RangeFuncWrites
import Derived.RangeFuncLeaves
import Derived.RangeFuncCalls
import Derived.RangeFuncNested
import Derived.RangeFuncBound
namespace Go.Proofs.YtjcbpnffmebihaaGreatDoor
open Go.RowKit Go.WideShapes

/-- vs laid over xs from place o on -/
def setL (xs : List Value) : Nat → List Value → List Value
  | _, [] => xs
  | o, v :: r => setL (xs.set o v) (o + 1) r
theorem setL_len (vs : List Value) : ∀ (o : Nat) (xs : List Value), (setL xs o vs).length = xs.length := by
  induction vs with
  | nil => intro _ _; rfl
  | cons v r ih => intro o xs; rw [setL, ih, List.length_set]
theorem setL_get (vs : List Value) : ∀ (o : Nat) (xs : List Value) (q : Nat), o + vs.length ≤ xs.length → (setL xs o vs)[q]? = if o ≤ q ∧ q < o + vs.length then vs[q - o]? else xs[q]? := by
  induction vs with
  | nil => intro o xs q _; rw [setL, if_neg (fun h => by have := h.2; simp at this; omega)]
  | cons v r ih =>
    intro o xs q h
    rw [List.length_cons] at h
    rw [setL, ih (o + 1) _ q (by rw [List.length_set]; omega), List.length_cons]
    by_cases h1 : o = q
    · subst h1
      rw [if_neg (by omega), if_pos (by omega), Nat.sub_self, List.getElem?_set_self (by omega)]; rfl
    · rw [List.getElem?_set_ne h1]
      by_cases h2 : o + 1 ≤ q ∧ q < o + 1 + r.length
      · rw [if_pos h2, if_pos (by omega)]
        obtain ⟨m, hm⟩ : ∃ m, q = o + 1 + m := ⟨q - (o + 1), by omega⟩
        subst hm
        rw [show o + 1 + m - (o + 1) = m by omega, show o + 1 + m - o = m + 1 by omega, List.getElem?_cons_succ]
      · rw [if_neg h2, if_neg (by omega)]
theorem own_setCells {B g n cap : Nat} {e : TypeId} (vs : List Value) : ∀ (o : Nat) (w : World) (xs : List Value), w.ownsRow B e 1 (.slice (some ⟨g, 0, none⟩) n cap) n xs → (w.setCells g o vs).ownsRow B e 1 (.slice (some ⟨g, 0, none⟩) n cap) n (setL xs o vs) := by
  induction vs with
  | nil => intro _ _ _ h; exact h
  | cons v r ih => intro o w xs h; exact ih (o + 1) _ _ (h.stored o v).1
theorem map_erase {α β : Type} (f : α → β) : ∀ (l : List α) (i : Nat), (l.map f).eraseIdx i = (l.eraseIdx i).map f
  | [], _ => rfl
  | _ :: _, 0 => rfl
  | x :: l, i + 1 => by rw [List.map_cons, List.eraseIdx_cons_succ, List.eraseIdx_cons_succ, List.map_cons, map_erase f l i]
/-- a shorter row of the same block -/
theorem own_shorter {w : World} {B g n m cap : Nat} {e : TypeId} {xs : List Value} (h : w.ownsRow B e 1 (.slice (some ⟨g, 0, none⟩) n cap) n xs) (hm : m ≤ n) : w.ownsRow B e 1 (.slice (some ⟨g, 0, none⟩) m cap) m (xs.take m) := by
  obtain ⟨h1, h2⟩ := h
  rcases h2 with ⟨h', _⟩ | ⟨g', cap', cur, h', hb, hg, hnc, hcm, hcs, htake⟩
  · cases h'
  · simp only [Value.slice.injEq, Option.some.injEq, Addr.mk.injEq, and_true, true_and] at h'
    obtain ⟨rfl, rfl⟩ := h'
    refine ⟨by rw [List.length_take]; omega, .inr ⟨g, cap, cur, rfl, hb, hg, by omega, hcm, hcs, ?_⟩⟩
    rw [← htake, List.take_take, Nat.mul_one, Nat.mul_one, Nat.min_eq_left hm]
theorem below_sets {B g : Nat} (hg : B ≤ g) : ∀ (vs : List Value) (o : Nat) (w : World), Below B w (w.setCells g o vs)
  | [], _, w => Below.refl _ _
  | v :: r, o, w => ((Below.refl B w).setCell (p := ⟨g, o, none⟩) hg v).trans (below_sets hg r (o + 1) _)
theorem erase_laid (K : List Value) {i : Nat} (hi : i < K.length) (z : Value) : (setL (setL K i (K.drop (i + 1))) (K.length - 1) [z]).take (K.length - 1) = K.eraseIdx i := by
  apply List.ext_getElem?
  intro q
  rw [List.getElem?_take, List.getElem?_eraseIdx]
  by_cases hq : q < K.length - 1
  · rw [if_pos hq, setL_get _ _ _ _ (by rw [setL_len]; simp; omega), if_neg (by simp; omega), setL_get _ _ _ _ (by simp; omega)]
    by_cases h2 : q < i
    · rw [if_neg (by omega), if_pos h2]
    · rw [if_pos (by simp; omega), if_neg h2, List.getElem?_drop, show i + 1 + (q - i) = q + 1 by omega]
  · rw [if_neg hq]
    by_cases h2 : q < i
    · omega
    · rw [if_neg h2, List.getElem?_eq_none (by omega)]
set_option maxRecDepth 1000000 in
set_option maxHeartbeats 4000000 in
/-- slices.Delete of one place of a row of the call's own -/
theorem delete6_any (B g n cp i j : Nat) (hj : j = i + 1) (K : List Int) (w : World) (h : w.ownsRow B 3 1 (.slice (some ⟨g, 0, none⟩) n cp) n (K.map (.int .i64))) (hi : i < n) (hn : n ≤ 8) (hcp : n ≤ cp) (hg : B ≤ g) :
    Calls Tryz.prog 117 #[.slice (some ⟨g, 0, none⟩) n cp, .int .i64 i, .int .i64 (j : Int)] w fun e w' => e = .returned (.slice (some ⟨g, 0, none⟩) (n - 1) cp) ∧
      w'.ownsRow B 3 1 (.slice (some ⟨g, 0, none⟩) (n - 1) cp) (n - 1) ((K.eraseIdx i).map (.int .i64)) ∧ Below B w w' ∧ w'.heap.size = w.heap.size := by
  have mixed : Tryz.prog.follows .mixedOrders = true := by kernel_rfl
  obtain ⟨i0, hi0, hz0, hz1, hz2⟩ := info_parts Tryz.infoIntO
  have hlen : K.length = n := by have := h.1; simpa using this
  -- the cells that are moved to the left
  obtain ⟨news, hnews⟩ : ∃ news, news = (K.map (Value.int .i64)).drop (i + 1) := ⟨_, rfl⟩
  have hnl : news.length = n - (i + 1) := by rw [hnews]; simp [hlen]
  have hcell : ∀ q, q < n → w.cell? ⟨g, q, none⟩ = (K.map (Value.int .i64))[q]? := fun q hq => h.cellAt q (by simp [hlen]; omega)
  have hsome : ∀ q, q < n → (w.cell? ⟨g, q, none⟩).isSome = true := fun q hq => by rw [hcell q hq, List.getElem?_eq_getElem (by simp [hlen]; omega)]; rfl
  have hfz : ∀ q, w.frozen? ⟨g, q, none⟩ = false := fun q => h.frozenAt q
  obtain ⟨A, hA, hsrc⟩ : ∃ A : Addr, (if cp = i + 1 then some (⟨g, 0, none⟩ : Addr) else some ⟨g, i + 1, none⟩) = some A ∧ Hid (∀ t u, news[t]? = some u → w.drew.cell? (A.add t) = some u) := by
    by_cases hh : cp = i + 1
    · refine ⟨⟨g, 0, none⟩, by simp [hh], fun t u hu => ?_⟩
      have h0 : news.length = 0 := by rw [hnl]; omega
      rw [List.length_eq_zero_iff.1 h0] at hu
      simp at hu
    · refine ⟨⟨g, i + 1, none⟩, by simp [hh], fun t u hu => ?_⟩
      have ht : t < n - (i + 1) := by
        have := (List.getElem?_eq_some_iff.1 hu).1
        rwa [hnl] at this
      rw [hnews, List.getElem?_drop] at hu
      rw [Addr.add_mid]
      exact (hcell (i + 1 + t) (by omega)).trans hu
  have s1 : Hid (news.length = (n - (i + 1)) * 1) := by rw [Nat.mul_one]; exact hnl
  have s2 : Hid (∀ u ∈ news, u.oneCell' = true) := by
    intro u hu
    rw [hnews] at hu
    obtain ⟨x, _, rfl⟩ := List.mem_map.1 (List.mem_of_mem_drop hu)
    rfl
  have s3 : Hid (∀ t, t < news.length → (w.drew.cell? ⟨g, 0 + i * 1 + t, none⟩).isSome = true ∧ w.drew.frozen? ⟨g, 0 + i * 1 + t, none⟩ = false) := by
    intro t ht
    rw [hnl] at ht
    exact ⟨by rw [Nat.mul_one, Nat.zero_add]; exact hsome (i + t) (by omega), hfz _⟩
  obtain ⟨W1, hW1⟩ : ∃ W1, W1 = w.drew.setCells g (0 + i * 1) news := ⟨_, rfl⟩
  have hW : Hid (W1 = w.drew.setCells g (0 + i * 1) news) := hW1
  have hd : w.drew.ownsRow B 3 1 (.slice (some ⟨g, 0, none⟩) n cp) n (K.map (.int .i64)) := own_drewN h 1
  have hO1 : W1.ownsRow B 3 1 (.slice (some ⟨g, 0, none⟩) n cp) n (setL (K.map (.int .i64)) i ((K.map (Value.int .i64)).drop (i + 1))) := by
    rw [hW1, hnews, Nat.mul_one, Nat.zero_add]; exact own_setCells _ _ _ _ hd
  have hsz1 : W1.heap.size = w.heap.size := by
    rw [hW1]
    have : ∀ (vs : List Value) (o : Nat) (w : World), (w.setCells g o vs).heap.size = w.heap.size := fun vs => by
      induction vs with
      | nil => intro _ _; rfl
      | cons v r ih => intro o w; rw [World.setCells, ih]; simp [World.setCell]
    rw [this]; rfl
  have hb1 : Below B w W1 := by rw [hW1]; exact (Below.refl B w).drew.trans (below_sets hg _ _ _)
  have hl1 : (setL (K.map (Value.int .i64)) i ((K.map (Value.int .i64)).drop (i + 1))).length = n := by rw [setL_len]; simp [hlen]
  have hcl : ∀ ty, (Builtin.clear_ #[35] ty #[.slice (some ⟨g, n - 1, none⟩) 1 (cp - (n - 1))]).run Tryz.prog W1 = .ok (.tuple #[]) (W1.setCells g (n - 1) [.int .i64 0]) :=
    fun ty => Lib.run_clear_slice W1 _ _ ty _ Tryz.underlying35 (fun w => by kernel_rfl) rfl rfl g (n - 1) 1 _ (by omega)
      (fun t ht => by rw [hO1.cellAt _ (by omega), List.getElem?_eq_getElem (by rw [hl1]; omega)]; rfl) (fun t ht => hO1.frozenAt _)
  have HFIN := Lib.hid (show (W1.setCells g (n - 1) [.int .i64 0]).ownsRow B 3 1 (.slice (some ⟨g, 0, none⟩) (n - 1) cp) (n - 1) ((K.eraseIdx i).map (.int .i64)) ∧ Below B w (W1.setCells g (n - 1) [.int .i64 0]) ∧ (W1.setCells g (n - 1) [.int .i64 0]).heap.size = w.heap.size from
    ⟨by
      have h3 := own_shorter (own_setCells [.int .i64 0] (n - 1) W1 _ hO1) (Nat.sub_le n 1)
      have h4 := erase_laid (K.map (Value.int .i64)) (i := i) (by simp [hlen]; exact hi) (.int .i64 0)
      rw [List.length_map, hlen] at h4
      rw [h4] at h3
      rwa [map_erase] at h3, hb1.trans (below_sets hg _ _ _), by rw [World.setCells, World.setCells]; simp [World.setCell, hsz1]⟩)
  have hic : i ≤ cp := by omega
  have hjc : j ≤ cp := by omega
  have hjn : j ≤ n := by omega
  have hij : i ≤ j := by omega
  have hne : i ≠ j := by omega
  have hne' : ((i : Int) == (j : Int)) = false := by simp; omega
  have hin1 : (j : Int) ≤ (n : Int) := by omega
  have hic1 : (i : Int) ≤ (cp : Int) := by omega
  have hjc1 : (j : Int) ≤ (cp : Int) := by omega
  have hij1 : (i : Int) ≤ (j : Int) := by omega
  have hnc1 : (n : Int) ≤ (cp : Int) := by omega
  rw [← hj] at hA s1
  have hni : n - (i + 1) = n - j := by omega
  have hn1 : i + (n - j) = n - 1 := by omega
  have hn2 : n - (n - 1) = 1 := by omega
  have HJ := Lib.hid hj
  have hcl2 : ∀ ty, (Builtin.clear_ #[35] ty #[.slice (some ⟨g, i + (n - j), none⟩) (n - (i + (n - j))) (cp - (i + (n - j)))]).run Tryz.prog W1 = .ok (.tuple #[]) (W1.setCells g (n - 1) [.int .i64 0]) := fun ty => by rw [hn1, hn2]; exact hcl ty
  have HN1 := Lib.hid hn1
  clear hW1 hO1 hd hb1 hsz1 h hnews hnl hcell hsome hfz hlen hl1 hj hcl hni hn1 hn2
  go_enter Tryz.func117, Tryz.ntmps117
  go_wp2_with fail
  go_region_law_o (refine step_append_room rfl (.tmp 22) (.tmp 25) 35 rfl 3 i0 1 Tryz.underlying35 hi0 hz1 g 0 i cp (by simp [Act.eval, Act.put]) A (n - j) (cp - j) news (by simp [Act.eval, Act.put]) s1.out hsrc.out s2.out (by omega) s3.out ?_; rw [← hW.out])
  go_wp2
  go_ret
  have hn1 := HN1.out
  refine ⟨by rw [← hn1]; rfl, ?_, ?_, ?_⟩
  · exact HFIN.out.1
  · exact HFIN.out.2.1
  · exact HFIN.out.2.2
end Go.Proofs.YtjcbpnffmebihaaGreatDoor
namespace Go.Proofs.YtjcbpnffmebihaaGreatDoor
open Go.RowKit Go.WideShapes

set_option maxHeartbeats 2000000 in
theorem placeOf_any (B n g m cp : Nat) (t v d : Nat → Int) (K : List Nat) (w : World) (hJ : JobsB w B n t v d) (hI : IntsAt w (· < w.heap.size) (some ⟨g, 0, none⟩) m (nI K)) (hK : ∀ y ∈ K, y < n) (hm : 1 ≤ m) (hm8 : m ≤ 9) (hn : n ≤ 8) :
    Calls Tryz.prog 116 #[.slice (some ⟨B, 0, none⟩) n n, .slice (some ⟨g, 0, none⟩) m cp] w fun e w' => e = .returned (.int .i64 ((bigAt t K m : Nat) : Int)) ∧ Drew w w' := by
  have HKL := Lib.hid (show K.length = m by have := hI.lenEq; rwa [nI_len] at this)
  have HI := Lib.hid hI
  have HJ := Lib.hid hJ
  have HK := Lib.hid hK
  clear hI hJ hK
  go_enter Tryz.func116, Tryz.ntmps116
  go_wp2_with fail
  go_loopw [5, 10] (fun s i wr => ∃ k : Nat, i = .int .i64 k ∧ k ≤ m ∧ s = .int .i64 ((bigAt t K k : Nat) : Int) ∧ Drew w wr) (fun _ i _ => m - (intOf i).toNat)
  case atStart => exact ⟨0, rfl, Nat.zero_le _, rfl, Drew.refl _⟩
  case round =>
    obtain ⟨k, rfl, hk, rfl, hdw⟩ := hrel
    obtain ⟨z, rfl⟩ := hdw
    by_cases hlt : k < m
    · have hbl : bigAt t K k < m := by
        rcases Nat.eq_zero_or_pos k with e | e
        · rw [e, bigAt]; omega
        · have := bigAt_lt t K k e; omega
      obtain ⟨bm, offm, e1, _, hcb⟩ := ints_at HI.out hbl
      cases e1
      rw [Nat.zero_add] at hcb
      obtain ⟨bk, offk, e2, _, hck⟩ := ints_at HI.out hlt
      cases e2
      rw [Nat.zero_add] at hck
      have hyb : K.getD (bigAt t K k) 0 < n := HK.out _ (getD_mem (by rw [HKL.out]; exact hbl))
      have hyk : K.getD k 0 < n := HK.out _ (getD_mem (by rw [HKL.out]; exact hlt))
      obtain ⟨g0, _, _⟩ := HJ.out.at hyb
      obtain ⟨k0, _, _⟩ := HJ.out.at hyk
      have HN := Lib.hid (show bigAt t K (k + 1) = if t (K.getD (bigAt t K k) 0) ≤ t (K.getD k 0) then k else bigAt t K k from rfl)
      have hkI : (k : Int) < (m : Int) := by omega
      have hbI : ((bigAt t K k : Nat) : Int) < (m : Int) := by omega
      have hybI : ((K.getD (bigAt t K k) 0 : Nat) : Int) < (n : Int) := by omega
      have hykI : ((K.getD k 0 : Nat) : Int) < (n : Int) := by omega
      generalize K.getD (bigAt t K k) 0 = yb at *
      generalize K.getD k 0 = yk at *
      generalize bigAt t K k = bk at *
      generalize t yb = tb' at *
      generalize t yk = tk' at *
      by_cases hle : tb' ≤ tk'
      · have HM := Lib.hid (HN.out.trans (if_pos hle))
        go_wp2_with fail
        go_quiet (fail)
        go_wp2_with fail
        go_roundw
        case rel => exact ⟨k + 1, by go_num, by omega, by rw [HM.out], ⟨_, rfl⟩⟩
        case measure => simp [intOf] <;> omega
      · have HM := Lib.hid (HN.out.trans (if_neg hle))
        go_wp2_with fail
        go_quiet (fail)
        go_wp2_with fail
        go_roundw
        case rel => exact ⟨k + 1, by go_num, by omega, by rw [HM.out], ⟨_, rfl⟩⟩
        case measure => simp [intOf] <;> omega
    · obtain rfl : k = m := by omega
      go_wp2_with fail
      go_ret
      exact ⟨rfl, ⟨_, rfl⟩⟩
theorem resC_own {w wr : World} {B k cp : Nat} {ax : Option Addr} {xs : List Int} (hB : w.heap.size ≤ B) (h : wr.ownsRow B 3 1 (.slice ax k cp) k (xs.map (.int .i64))) (hb : Below w.heap.size w wr) (hk : k ≤ 1048576) :
    ResPostC w xs (.returned (.slice ax k cp)) wr := by
  obtain ⟨ay, cy, hve, hcc, hints⟩ := own_ints h (by omega)
  simp only [Value.slice.injEq] at hve
  obtain ⟨rfl, _, rfl⟩ := hve
  refine ⟨_, _, _, rfl, hints.to (fun b hb => ⟨⟨Nat.le_trans hB hb.1, hb.2⟩, rfl⟩), ⟨by omega, fun h0 => ?_⟩, hcc, hb⟩
  obtain ⟨g, v, rfl, hg, hc, _⟩ := own_place h (j := 0) (by omega)
  refine ⟨g, 0, rfl, ⟨Nat.le_trans hB hg, World.block_lt_of_cell? wr _ hc⟩, fun i hi => ?_⟩
  obtain ⟨g', v', e, _, hc', hf'⟩ := own_place h (j := i) hi
  cases e
  rw [Nat.zero_add]
  exact ⟨⟨_, hc'⟩, hf'⟩
set_option maxRecDepth 100000 in
set_option maxHeartbeats 8000000 in
theorem keptOnTime_impl (a : Option Addr) (len cap : Nat) (rows : List (List Int)) (w : World) (h : RowsAt w (· < w.heap.size) a len rows) (hc : len ≤ cap) :
    Calls Tryz.prog 89 #[.slice a len cap] w (ResPostC w (keptRes rows)) := by
  have HL := Lib.hid h.lenEq
  have HD := Lib.hid (dueJobsOf_any a len cap rows w h hc)
  clear h
  cases hp : jobsM rows
  · have HR := Lib.hid (show keptRes rows = [] by unfold keptRes; rw [hp]; rfl)
    rw [HR.out]
    go_enter Tryz.func89, Tryz.ntmps89
    go_wp2_with fail
    refine HD.out.mono ?_
    rintro e w1 ⟨hb, ⟨_, rfl⟩ | ⟨hf, _⟩⟩
    · go_wp2_with fail
      go_ret
      exact resC_low hb (resPostC_nil _)
    · rw [hp] at hf; cases hf
  · have hl8 : len ≤ 8 := by have := (jobs_get hp).1; have := HL.out; omega
    have HBD := Lib.hid (fun q => j_bd hp q)
    have HJ := Lib.hid hp
    have HR := Lib.hid (show keptRes rows = nI (keptM rows len len) by unfold keptRes; rw [if_pos hp, HL.out])
    rw [HR.out]
    go_enter Tryz.func89, Tryz.ntmps89
    go_wp2_with fail
    refine HD.out.mono ?_
    rintro e w1 ⟨hb, ⟨hf, _⟩ | ⟨_, B, rfl, hB1, hB2, hJB⟩⟩
    · rw [hp] at hf; cases hf
    have HB := Lib.hid hb
    have HS := Lib.hid (orderByRule_any 115 _ (enters_of Tryz.func115 (by kernel_rfl) rfl) byDue_any B len _ _ _ w1 HBD.out hB2 hJB hl8)
    have HJB := Lib.hid hJB
    clear hJB hb hp
    go_wp2_with fail
    refine HS.out.mono ?_
    rintro e w2 ⟨b, rfl, hb1, hb2, hrow, hbb⟩
    have HROW := Lib.hid (show RowB w2 b (sortE (ahD (td rows)) len) from hrow)
    have HBB := Lib.hid (HB.out.trans (hbb.mono HB.out.size))
    have HJ2 := Lib.hid (HJB.out.block (hbb.block B hB2))
    have hB3 : B < w2.heap.size := Nat.lt_of_lt_of_le hB2 hbb.size
    have HSL := Lib.hid (sortE_len (ahD (td rows)) len)
    clear hrow hbb HS HB HD
    go_wp2_with fail
    go_loopw [5, 6, 20] (fun v t i wr => ∃ (j m cp : Nat) (ax : Option Addr), i = .int .i64 j ∧ j ≤ len ∧ v = .slice ax m cp ∧ (keptM rows len j).length = m ∧ wr.ownsRow w2.heap.size 3 1 v m ((nI (keptM rows len j)).map (.int .i64)) ∧ m ≤ cp ∧ t = .int .i64 (sumL (ta rows) (keptM rows len j)) ∧ Below w2.heap.size w2 wr) (fun _ _ i _ => len - (intOf i).toNat)
    case atStart => exact ⟨0, 0, 0, none, rfl, Nat.zero_le _, rfl, by simp [keptM, keepL], ⟨by simp [keptM, keepL, nI], .inl ⟨rfl, rfl⟩⟩, Nat.le_refl _, by simp [keptM, keepL, sumL], Below.refl _ _⟩
    case round =>
      obtain ⟨j, m, cp, ax, rfl, hj, rfl, hm, hown, hmc, rfl, hBw⟩ := hrel
      obtain ⟨wo, rfl⟩ : ∃ wo : World, wo = wr := ⟨_, rfl⟩
      have HOWN := Lib.hid hown
      have HBW := Lib.hid hBw
      have HM := Lib.hid hm
      have hmj : m ≤ j := by have := kept_len HJ.out (n := len) (j := j); omega
      have hm8 : m ≤ 8 := by omega
      clear hown hBw hm
      by_cases hlt : j < len
      · obtain ⟨x, hx⟩ : ∃ x, (sortE (ahD (td rows)) len).getD j 0 = x := ⟨_, rfl⟩
        have hcx := ((HROW.out.block (w' := wo) (HBW.out.block b hb2)).at (q := j) (by rw [HSL.out]; exact hlt)).1
        rw [hx] at hcx
        have hxs : (sortE (ahD (td rows)) len)[j]? = some x := by
          rw [← hx, List.getD_eq_getElem?_getD, List.getElem?_eq_getElem (by rw [HSL.out]; exact hlt)]; rfl
        have hxl : x < len := sortE_mem.1 (List.mem_of_getElem? hxs)
        have HKS := Lib.hid (keptM_succ hxs)
        have hjI : (j : Int) < (len : Int) := by omega
        have hxI : (x : Int) < (len : Int) := by omega
        clear hx hxs
        obtain ⟨K, hK⟩ : ∃ K, keptM rows len j = K := ⟨_, rfl⟩
        rw [hK] at HM HKS HOWN
        have HMem := Lib.hid (show ∀ y ∈ K, y < len from fun y hy => kept_mem HJ.out (by rw [hK]; exact hy))
        have hbk := sum_bd (fun x => (HBD.out x).1) K K.length
        rw [List.take_length, HM.out] at hbk
        rw [hK]
        clear hK
        go_wp2_with (at_builtin; refine wpApp1 rfl _ _ rfl w2.heap.size m cp ax (nI K) (x : Int) rfl HOWN.out rfl HBW.out.size (by omega) ?_)
        intro a7 c7 w7 hown7 hc7 hgr7
        have hb7 := HBW.out.grown hgr7 HBW.out.size (own_block HOWN.out)
        obtain ⟨M, hM⟩ : ∃ M, K ++ [x] = M := ⟨_, rfl⟩
        have hO7 := own_snoc hown7
        rw [show nI K ++ [(x : Int)] = nI M by rw [← hM, nI_append]; rfl] at hO7
        obtain ⟨g, vv, rfl, hg, hcg, _⟩ := own_place hO7 (j := 0) (by omega)
        have HO7 := Lib.hid hO7
        have HB7 := Lib.hid hb7
        have HML := Lib.hid (show M.length = m + 1 by rw [← hM, List.length_append, HM.out]; rfl)
        have HMS := Lib.hid (show sumL (ta rows) M = sumL (ta rows) K + ta rows x by rw [← hM, sumL_append, sumL, sumL, Int.add_zero])
        have HKM := Lib.hid (show keptM rows len (j + 1) = if sumL (ta rows) M ≤ td rows x then M else M.eraseIdx (bigAt (ta rows) M M.length) by rw [HKS.out, ← hM]; rfl)
        have HMM := Lib.hid (show ∀ y ∈ M, y < len from fun y hy => by
          rw [← hM] at hy
          rcases List.mem_append.1 hy with hy | hy
          · exact HMem.out y hy
          · simp only [List.mem_singleton] at hy; omega)
        have hgw : g < w7.heap.size := World.block_lt_of_cell? w7 _ hcg
        have hJ7 := HJ2.out.block (w' := w7) (hb7.block B hB3)
        have HJ7 := Lib.hid hJ7
        obtain ⟨g0, _, g2⟩ := hJ7.at hxl
        have htx := (HBD.out x).1
        have hdx := (HBD.out x).2.2
        clear hM hO7 hb7 hown7 hgr7 hcx hcg hJ7
        obtain ⟨sk, hsk⟩ : ∃ sk, sumL (ta rows) K = sk := ⟨_, rfl⟩
        rw [hsk] at hbk HMS ⊢
        obtain ⟨tx, htx'⟩ : ∃ tx, ta rows x = tx := ⟨_, rfl⟩
        rw [htx'] at g0 htx HMS
        obtain ⟨dx, hdx'⟩ : ∃ dx, td rows x = dx := ⟨_, rfl⟩
        rw [hdx'] at g2 hdx HKM
        rw [HMS.out] at HKM
        clear hsk htx' hdx'
        by_cases hle : sk + tx ≤ dx
        · have HK1 := Lib.hid (HKM.out.trans (if_pos hle))
          go_wp2_with fail
          go_roundw
          case rel => exact ⟨j + 1, m + 1, c7, _, by go_num, by omega, rfl, by rw [HK1.out]; exact HML.out, by rw [HK1.out]; exact HO7.out, hc7, by rw [HK1.out, HMS.out], HB7.out⟩
          case measure => simp [intOf] <;> omega
        · have HK2 := Lib.hid (HKM.out.trans (if_neg hle))
          rw [HML.out] at HK2
          have hbl := bigAt_lt (ta rows) M (m + 1) (by omega)
          have HPO := Lib.hid (placeOf_any B len g (m + 1) c7 (ta rows) (tb rows) (td rows) M w7 HJ7.out (own_at HO7.out (by omega)) HMM.out (by omega) (by omega) hl8)
          have hyb : M.getD (bigAt (ta rows) M (m + 1)) 0 < len := HMM.out _ (getD_mem (by rw [HML.out]; exact hbl))
          have HSE := Lib.hid (sumL_eraseIdx (f := ta rows) M (bigAt (ta rows) M (m + 1)) (by rw [HML.out]; exact hbl))
          obtain ⟨bm, offm, e1, _, hcb⟩ := ints_at (own_at HO7.out (by omega)) hbl
          cases e1
          rw [Nat.zero_add] at hcb
          have HEL := Lib.hid (show (M.eraseIdx (bigAt (ta rows) M (m + 1))).length = m by rw [List.length_eraseIdx, if_pos (by rw [HML.out]; exact hbl), HML.out]; rfl)
          have hty := (HBD.out (M.getD (bigAt (ta rows) M (m + 1)) 0)).1
          obtain ⟨y0, _, _⟩ := HJ7.out.at hyb
          have hybI : ((M.getD (bigAt (ta rows) M (m + 1)) 0 : Nat) : Int) < (len : Int) := by omega
          have HDE := Lib.hid (fun z => delete6_any w2.heap.size g (m + 1) c7 (bigAt (ta rows) M (m + 1)) (bigAt (ta rows) M (m + 1) + 1) rfl (nI M) (w7.drewN z) (own_drewN HO7.out z) hbl (by omega) hc7 hg)
          have HEI := Lib.hid (show (nI M).eraseIdx (bigAt (ta rows) M (m + 1)) = nI (M.eraseIdx (bigAt (ta rows) M (m + 1))) from map_erase _ M _)
          generalize M.getD (bigAt (ta rows) M (m + 1)) 0 = yb at *
          generalize bigAt (ta rows) M (m + 1) = bk at *
          generalize ta rows yb = ty at *
          have hbI : ((bk : Nat) : Int) < (m : Int) + 1 := by omega
          have hbI2 : ((bk : Nat) : Int) < ((m + 1 : Nat) : Int) := by omega
          rw [show ((bk + 1 : Nat) : Int) = (bk : Int) + 1 by omega] at HDE
          go_wp2_with fail
          refine HPO.out.mono ?_
          rintro e w' ⟨rfl, hdw⟩
          obtain ⟨z, rfl⟩ := hdw
          go_wp2_with fail
          refine (HDE.out z).mono ?_
          rintro e w8 ⟨rfl, ho8, hb8, _⟩
          rw [HEI.out] at ho8
          have HO8 := Lib.hid ho8
          have HB8 := Lib.hid ((below_drewN HB7.out z).trans hb8)
          clear ho8 hb8
          go_wp2_with fail
          go_roundw
          case rel => exact ⟨j + 1, m, c7, _, by go_num, by omega, rfl, by rw [HK2.out]; exact HEL.out, by rw [HK2.out]; exact HO8.out, by omega, by rw [HK2.out, HSE.out, HMS.out], HB8.out⟩
          case measure => simp [intOf] <;> omega
      · obtain rfl : j = len := by omega
        go_wp2_with fail
        go_ret
        exact resC_own (by have := HBB.out.size; omega) HOWN.out (HBB.out.trans (HBW.out.mono HBB.out.size)) (by omega)
end Go.Proofs.YtjcbpnffmebihaaGreatDoor
namespace Go.Proofs.YtjcbpnffmebihaaGreatDoor
open Go.RowKit Go.WideShapes

/-- what it costs to set for so many -/
def setM (n s : Int) : Int := if n = 0 then 0 else s
theorem setFor_any (n s : Int) (w : World) :
    Calls Tryz.prog 151 #[.int .i64 n, .int .i64 s] w fun e w' => e = .returned (.int .i64 (setM n s)) ∧ w = w' := by
  by_cases h : n = 0
  · subst h
    go_enter Tryz.func151, Tryz.ntmps151
    go_wp2
    go_ret
    exact ⟨rfl, rfl⟩
  · have h' : (n == 0) = false := by simpa using h
    have HE := Lib.hid (show setM n s = s by unfold setM; rw [if_neg h])
    go_enter Tryz.func151, Tryz.ntmps151
    go_wp2
    go_ret
    exact ⟨ret_int HE.out.symm, rfl⟩
theorem areCosts_any (s h : Int) (w : World) :
    Calls Tryz.prog 90 #[.int .i64 s, .int .i64 h] w fun e w' => e = .returned (.bool (inB 0 30 s && inB 0 30 h)) ∧ w = w' := by
  cases hs : inB 0 30 s
  · go_enter Tryz.func90, Tryz.ntmps90
    go_wp2_with (go_at_call 118; refine (isUpTo_any _ _ _).mono ?_; rintro e w' ⟨rfl, rfl⟩)
    go_ret
    exact ⟨rfl, rfl⟩
  · go_enter Tryz.func90, Tryz.ntmps90
    go_wp2_with (go_at_call 118; refine (isUpTo_any _ _ _).mono ?_; rintro e w' ⟨rfl, rfl⟩)
    go_ret
    exact ⟨rfl, rfl⟩
theorem setM_pos {n s : Int} (h : 0 ≤ n) : setM n s = if 0 < n then s else 0 := by
  unfold setM
  by_cases e : n = 0
  · subst e; rfl
  · rw [if_neg e, if_pos (by omega)]
theorem runD_part {xs : List Int} {s h : Int} {i d : Nat} (hd : i + d ≤ xs.length) : runD ((xs.drop i).take d) s h 0 d = runD xs s h i d := by
  have e1 : ∀ q, q ≤ d → hsum ((xs.drop i).take d) 0 q = hsum xs i q := by
    intro q
    induction q with
    | zero => intro _; rfl
    | succ q ih =>
      intro hq
      rw [hsum, hsum, ih (by omega)]
      congr 2
      rw [List.getD_eq_getElem?_getD, List.getD_eq_getElem?_getD, List.getElem?_take, if_pos (by omega), List.getElem?_drop]
      congr 2; omega
  have e2 := totalM_part xs i d hd
  rw [totalM_eq] at e2
  have e3 : ((xs.drop i).take d).length = d := by simp; omega
  rw [e3] at e2
  unfold runD
  rw [e1 d (Nat.le_refl _), Nat.zero_add, e2]
  simp [sumN]
set_option maxRecDepth 100000 in
set_option maxHeartbeats 2000000 in
theorem costOfLot_any (S : Nat → Prop) (a : Option Addr) (len cap : Nat) (xs : List Int) (s h : Int) (w : World) (hx : IntsAt w S a len xs) (hl : len ≤ 8) (hv : ∀ k, 0 ≤ xs.getD k 0 ∧ xs.getD k 0 ≤ 20) (hs : 0 ≤ s ∧ s ≤ 30) (hh : 0 ≤ h ∧ h ≤ 30) :
    Calls Tryz.prog 123 #[.slice a len cap, .int .i64 s, .int .i64 h] w fun e w' => e = .returned (.int .i64 (runD xs s h 0 len)) ∧ w = w' := by
  obtain ⟨hs0, hs1⟩ := hs
  obtain ⟨hh0, hh1⟩ := hh
  have HL := Lib.hid hx.lenEq
  have HV := Lib.hid hv
  have hsum_ := sumN_bd hv len
  have HT := Lib.hid (show totalM xs = sumN xs len by rw [totalM_eq, HL.out])
  have hset : setM (sumN xs len) s = if 0 < sumN xs len then s else 0 := setM_pos hsum_.1
  obtain ⟨st, hst⟩ : ∃ st, setM (sumN xs len) s = st := ⟨_, rfl⟩
  have hstb : 0 ≤ st ∧ st ≤ 30 := by rw [← hst, hset]; split <;> omega
  have HR := Lib.hid (show runD xs s h 0 len = st + h * hsum xs 0 len by
    unfold runD; rw [← hst, hset, Nat.zero_add]
    simp only [sumN, Int.sub_zero]; omega)
  have HST := Lib.hid hst
  clear hst hset hsum_ hv
  go_enter Tryz.func123, Tryz.ntmps123
  go_wp2_with fail
  refine (sumOf_any S a len cap xs w hx (days_mem HV.out) (by omega)).mono ?_
  rintro e w' ⟨rfl, rfl⟩
  rw [HT.out]
  go_wp2_with fail
  refine (setFor_any _ _ _).mono ?_
  rintro e w' ⟨rfl, rfl⟩
  rw [HST.out]
  go_wp2_with fail
  go_loop [7, 16] (fun n v => ∃ q : Nat, q ≤ len ∧ v = .int .i64 q ∧ n = .int .i64 (st + h * hsum xs 0 q)) (fun _ q => len - (intOf q).toNat)
  case atStart => exact ⟨0, Nat.zero_le _, rfl, by simp [hsum]⟩
  case round =>
    obtain ⟨q, hq, rfl, rfl⟩ := hrel
    by_cases hlt : q < len
    · obtain ⟨b, off, x, rfl, hxx, hc⟩ := hx.get hlt
      have hxb := HV.out q
      rw [getD_of hxx] at hxb
      have h1 := hsum_bd HV.out 0 q (by omega)
      have h2 := hsum_nonneg (fun k => (HV.out k).1) 0 q
      have HN := Lib.hid (show h * hsum xs 0 (q + 1) = h * hsum xs 0 q + h * (q : Int) * x by
        rw [hsum, Nat.zero_add, getD_of hxx, Int.mul_add, Int.mul_assoc])
      have h3 := mul_box3 hh0 hh1 h2 (show hsum xs 0 q ≤ 1280 by omega)
      have h4 := mul_box3 hh0 hh1 (show (0 : Int) ≤ (q : Int) by omega) (show (q : Int) ≤ 8 by omega)
      clear hxx h1 h2
      generalize h * hsum xs 0 q = o at h3 HN ⊢
      generalize hp : h * (q : Int) = p at h4 HN
      have h5 := mul_box3 h4.1 h4.2 hxb.1 hxb.2
      have hlt3 : (q : Int) < (len : Int) := by omega
      go_wp2_with fail
      go_round
      case rel => exact ⟨q + 1, by omega, by go_num, by rw [HN.out]; congr 1; omega⟩
      case measure => simp [intOf] <;> omega
    · obtain rfl : q = len := by omega
      go_wp2_with fail
      go_ret
      exact ⟨ret_int HR.out.symm, rfl⟩
-- LotCost
end Go.Proofs.YtjcbpnffmebihaaGreatDoor
namespace Go.Proofs.YtjcbpnffmebihaaGreatDoor
open Go.RowKit Go.Shelf Go.Deep

/-- a boxed row of ints of the call's own: its place g, its box x -/
structure BoxInv (w wr : World) (g x len cap : Nat) (f : Nat → Int) : Prop where
  low : w.heap.size ≤ g
  up : g < x
  box : wr.cell? ⟨x, 0, none⟩ = some (.slice (some ⟨g, 0, none⟩) len cap)
  cells : ∀ q, q < len → wr.cell? ⟨g, q, none⟩ = some (.int .i64 (f q)) ∧ wr.frozen? ⟨g, q, none⟩ = false
  below : Below w.heap.size w wr
theorem BoxInv.kept {w a b : World} {g x len cap : Nat} {f : Nat → Int} (h : BoxInv w a g x len cap f) {row : Option Nat} (hg : a.grownBy b row) (hr : ∀ r, row = some r → w.heap.size ≤ r ∧ ∃ o : Obj, a.heap[r]? = some o ∧ o.isCells = false) : BoxInv w b g x len cap f :=
  ⟨h.low, h.up, cell_kept h.box hg (fun r e => (hr r e).2), fun q hq => ⟨cell_kept (h.cells q hq).1 hg (fun r e => (hr r e).2), (frozen_kept (h.cells q hq).1 hg (fun r e => (hr r e).2)).trans (h.cells q hq).2⟩,
    h.below.grown hg h.below.size (fun k e => (hr k e).1)⟩
theorem BoxInv.alloc {w a : World} {g x len cap : Nat} {f : Nat → Int} (h : BoxInv w a g x len cap f) (o : Obj) : BoxInv w (a.alloc o) g x len cap f :=
  h.kept (World.grownBy_alloc a o none) (fun r e => by cases e)
theorem BoxInv.congr {w a : World} {g x len cap : Nat} {f f' : Nat → Int} (h : BoxInv w a g x len cap f) (e : ∀ q, q < len → f q = f' q) : BoxInv w a g x len cap f' :=
  ⟨h.low, h.up, h.box, fun q hq => by rw [← e q hq]; exact h.cells q hq, h.below⟩
theorem BoxInv.put {w a : World} {g x len cap : Nat} {f : Nat → Int} (h : BoxInv w a g x len cap f) {k : Nat} {v : Int} : BoxInv w (a.drew.setCell ⟨g, k, none⟩ (.int .i64 v)) g x len cap (fun q => if q = k then v else f q) := by
  refine ⟨h.low, h.up, ?_, fun q hq => ⟨?_, ?_⟩, h.below.drew.setCell h.low _⟩
  · have := h.up
    rw [World.cell?_setCell_other _ _ _ _ (by intro e; injection e; omega)]; exact h.box
  · by_cases e : q = k
    · subst e
      rw [if_pos rfl]
      exact World.cell?_setCell_same _ _ _ (h.cells q hq).1
    · rw [World.cell?_setCell_other _ _ _ _ (by intro e'; injection e'; omega), if_neg e]
      exact (h.cells q hq).1
  · rw [World.frozen?_setCell]; exact (h.cells q hq).2
end Go.Proofs.YtjcbpnffmebihaaGreatDoor
