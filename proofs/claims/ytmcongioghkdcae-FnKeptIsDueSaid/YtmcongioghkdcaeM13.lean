import Derived.Test.YtmcongioghkdcaeRows
import Derived.WalkKit
import Derived.LoopTactic
import Derived.Outline
import Derived.WalkSpells
import Derived.WalkLawsBesides
import Derived.ProofKit
import Derived.Lib.Hide
import Derived.IntWalk
import Derived.Test.YtmcongioghkdcaeM0
import Derived.Test.YtmcongioghkdcaeM1
import Derived.Test.YtmcongioghkdcaeM2
import Derived.Test.YtmcongioghkdcaeM5
import Derived.Test.YtmcongioghkdcaeM6
import Derived.Test.YtmcongioghkdcaeM12
import Derived.Laws.StructEq
import Derived.Deep.RegionHeld3
import Derived.Shelf.RegionOpenPlain
import Derived.StillTailTactics
import Derived.Test.YtmcongioghkdcaeM8
namespace Go.Proofs.Ytmcongioghkdcae
open Go.RowKit Go.WideShapes

theorem p2_le {n : Nat} (h : n ≤ 20) : 1 ≤ 2 ^ n ∧ 2 ^ n ≤ 1048576 := ⟨Nat.two_pow_pos n, by have := Nat.pow_le_pow_right (n := 2) (by omega) h; omega⟩
theorem allOf_any (n : Nat) (hn : n ≤ 20) (w : World) :
    Calls Try.prog 28 #[.int .i64 n] w fun e w' => e = .returned (.int .i64 (((2 ^ n - 1 : Nat) : Nat) : Int)) ∧ w = w' := by
  have hp := p2_le hn
  go_enter Try.func28, Try.ntmps28
  go_wp2
  go_ret
  refine ⟨ret_int ?_, rfl⟩
  have e : ((2 : Int) ^ n) = ((2 ^ n : Nat) : Int) := by push_cast; rfl
  rw [e]
  generalize 2 ^ n = p at hp ⊢
  have e1 : wrap64 (p : Int) = p := w64_id (by omega) (by omega)
  rw [e1]
  have e2 : wrap64 ((p : Int) - 1) = (p : Int) - 1 := w64_id (by omega) (by omega)
  rw [e2]
  omega
theorem inSet_any (s j : Nat) (hs : s < 1048576) (hj : j ≤ 20) (w : World) :
    Calls Try.prog 30 #[.int .i64 s, .int .i64 j] w fun e w' => e = .returned (.bool (s.testBit j)) ∧ w = w' := by
  go_enter Try.func30, Try.ntmps30
  go_wp2
  go_ret
  refine ⟨ret_bool ?_, rfl⟩
  have h2 : s / 2 ^ j ≤ s := Nat.div_le_self _ _
  have e : (s : Int) / 2 ^ j = ((s / 2 ^ j : Nat) : Int) := by push_cast; rfl
  rw [e, Nat.testBit_eq_decide_div_mod_eq]
  generalize s / 2 ^ j = x at h2 ⊢
  have hx : x < 1048576 := by omega
  rw [show (1 : Int) = ((1 : Nat) : Int) from rfl, i_and x 1 hx (by omega), Nat.and_one_is_mod, Bool.eq_iff_iff, beq_iff_eq, decide_eq_true_eq]
  omega
end Go.Proofs.Ytmcongioghkdcae
namespace Go.Proofs.Ytmcongioghkdcae
open Go.RowKit Go.WideShapes

/-- where the job that comes at place k stands, and its times -/
theorem job_at {w : World} {S T : Nat → Prop} {a a2 : Option Addr} {len len2 : Nat} {rows : List (List Int)} {o : List Int} (h : RowsAt w S a len rows) (g : IntsAt w T a2 len2 o) (hP : ∀ r ∈ rows, r.length = 2 ∧ (0 ≤ r.getD 0 0 ∧ r.getD 0 0 ≤ 9) ∧ (0 ≤ r.getD 1 0 ∧ r.getD 1 0 ≤ 9))
    (ho : ∀ x ∈ o, 0 ≤ x ∧ x < (len : Int)) {k : Nat} (hk : k < len2) : ∃ (b off q b2 off2 b3 off3 c : Nat), a2 = some ⟨b, off, none⟩ ∧ a = some ⟨b2, off2, none⟩ ∧ o[k]? = some (q : Int) ∧ q < len ∧ w.cell? ⟨b, off + k, none⟩ = some (.int .i64 (q : Int)) ∧
      w.cell? ⟨b2, off2 + q, none⟩ = some (.slice (some ⟨b3, off3, none⟩) 2 c) ∧ w.cell? ⟨b3, off3, none⟩ = some (.int .i64 (ta rows q)) ∧ w.cell? ⟨b3, off3 + 1, none⟩ = some (.int .i64 (tb rows q)) := by
  obtain ⟨b, off, x, rfl, hx, hc⟩ := g.get hk
  have hxb := ho x (List.mem_of_getElem? hx)
  obtain ⟨q, rfl⟩ : ∃ q : Nat, x = (q : Int) := ⟨x.toNat, by omega⟩
  have hql : q < len := by omega
  obtain ⟨b2, off2, r, a', l, c, rfl, hr, hcr, _, hri⟩ := h.get hql
  obtain ⟨hr2, _, _⟩ := hP r (List.mem_of_getElem? hr)
  have hl2 : l = 2 := by rw [← hri.lenEq, hr2]
  subst hl2
  obtain ⟨b3, off3, x3, rfl, h3, hc3⟩ := hri.get (k := 0) (by omega)
  obtain ⟨b4, off4, x4, e4, h4, hc4⟩ := hri.get (k := 1) (by omega)
  cases e4
  have ht := t_at hr
  rw [getD_of h3, getD_of h4] at ht
  rw [Nat.add_zero] at hc3
  exact ⟨b, off, q, b2, off2, b3, off3, c, rfl, rfl, hx, hql, hc, hcr, by rw [ht.1]; exact hc3, by rw [ht.2]; exact hc4⟩
def turnsRes (rows : List (List Int)) (o : List Int) : Int := spanRes rows o
theorem nO_take (o : List Int) (k : Nat) : nO (o.take k) = (nO o).take k := by simp [nO, List.map_take]
theorem nO_length (o : List Int) : (nO o).length = o.length := by simp [nO]
theorem sum_take_snoc {o : List Int} {k q : Nat} (f : Nat → Int) (h : o[k]? = some (q : Int)) : sumL f ((nO o).take (k + 1)) = sumL f ((nO o).take k) + f q := by
  rw [← nO_take, ← nO_take, nO_snoc h, sumL_append, Int.toNat_natCast, sumL, sumL, Int.add_zero]
theorem sum_mid_snoc {o : List Int} {i k q : Nat} (f : Nat → Int) (h : o[i]? = some (q : Int)) (hki : k ≤ i) : sumL f (((nO o).take (i + 1)).drop k) = sumL f (((nO o).take i).drop k) + f q := by
  have hi : i < o.length := (List.getElem?_eq_some_iff.1 h).1
  rw [← nO_take, ← nO_take, nO_snoc h, List.drop_append_of_le_length (by rw [nO_length, List.length_take]; omega), sumL_append, Int.toNat_natCast, sumL, sumL, Int.add_zero]
end Go.Proofs.Ytmcongioghkdcae
namespace Go.Proofs.Ytmcongioghkdcae
open Go.RowKit Go.WideShapes

theorem pair_allIn {r : List Int} (h : r.length = 2) : pairB r = allIn 0 9 r := by
  obtain ⟨x, y, rfl⟩ : ∃ x y, r = [x, y] := by
    cases r with
    | nil => simp at h
    | cons x r => cases r with
      | nil => simp at h
      | cons y r => cases r with
        | nil => exact ⟨x, y, rfl⟩
        | cons z r => simp at h
  simp [pairB, allIn]
theorem nodup_cover {α : Type} [DecidableEq α] : ∀ (l s : List α), s.Nodup → s ⊆ l → l.length ≤ s.length → l.Nodup := by
  intro l
  induction l with
  | nil => intro s _ _ _; exact List.nodup_nil
  | cons x t ih =>
    intro s hn hs hl
    have hx : x ∉ t := by
      intro hm
      have h1 : s ⊆ t := fun y hy => by
        rcases List.mem_cons.1 (hs hy) with rfl | h
        · exact hm
        · exact h
      have := List.Nodup.length_le_of_subset hn h1
      simp at hl; omega
    refine List.nodup_cons.2 ⟨hx, ih (s.erase x) (hn.erase x) (fun y hy => ?_) ?_⟩
    · have h1 := (List.Nodup.mem_erase_iff hn).1 hy
      rcases List.mem_cons.1 (hs h1.2) with h | h
      · exact absurd h h1.1
      · exact h
    · have : s.length - 1 ≤ (s.erase x).length := by rw [List.length_erase]; split <;> omega
      simp at hl; omega
theorem order_full {o : List Int} {n D : Nat} (hr : ∀ x ∈ o, 0 ≤ x ∧ x < (n : Int)) (hl : o.length = n) (hD : ∀ i, D.testBit i = decide ((i : Int) ∈ o)) : orderM o n = decide (D = 2 ^ n - 1) := by
  rw [Bool.eq_iff_iff, decide_eq_true_eq]
  constructor
  · intro h
    have hp := nO_perm (orderM_get h)
    apply Nat.eq_of_testBit_eq
    intro i
    rw [hD, Nat.testBit_two_pow_sub_one]
    refine decide_eq_decide.2 ⟨fun hm => by have := hr _ hm; omega, fun hi => ?_⟩
    have := hp.mem_iff.2 (List.mem_range.2 hi)
    obtain ⟨y, hy, rfl⟩ := List.mem_map.1 this
    have := hr y hy
    rwa [Int.toNat_of_nonneg this.1]
  · intro h
    subst h
    refine decide_eq_true ⟨⟨hr, ?_⟩, hl⟩
    have hn : (nO o).Nodup := nodup_cover (nO o) (List.range n) List.nodup_range (fun i hi => by
      have hi := List.mem_range.1 hi
      have := hD i
      rw [Nat.testBit_two_pow_sub_one, decide_eq_true hi] at this
      have hm := of_decide_eq_true this.symm
      exact List.mem_map.2 ⟨(i : Int), hm, by simp⟩) (by simp [nO, hl])
    exact (List.pairwise_map.1 hn).imp (fun {x y} h e => h (by rw [e]))
set_option maxHeartbeats 1000000 in
theorem isOrder_any (S : Nat → Prop) (a : Option Addr) (len cap : Nat) (o : List Int) (n : Nat) (w : World) (h : IntsAt w S a len o) (hn : n ≤ 8) :
    Calls Try.prog 56 #[.slice a len cap, .int .i64 n] w fun e w' => e = .returned (.bool (orderM o n)) ∧ w = w' := by
  have hs := h.small
  have HL := Lib.hid h.lenEq
  by_cases hln : len = n
  · subst hln
    have hp8 : 1 ≤ 2 ^ len ∧ 2 ^ len ≤ 256 := ⟨Nat.two_pow_pos _, Nat.pow_le_pow_right (n := 2) (j := 8) (by omega) hn⟩
    have HALL := Lib.hid (fun w => allOf_any len (by omega) w)
    have hneq : ((len : Int) != (len : Int)) = false := by simp
    go_enter Try.func56, Try.ntmps56
    go_wp2_with fail
    go_loop [5, 14] (fun s i => ∃ k D : Nat, k ≤ len ∧ i = .int .i64 k ∧ s = .int .i64 (D : Int) ∧ (∀ x ∈ o.take k, 0 ≤ x ∧ x < (len : Int)) ∧ ∀ i, D.testBit i = decide ((i : Int) ∈ o.take k)) (fun _ i => len - (intOf i).toNat)
    case atStart => exact ⟨0, 0, Nat.zero_le _, rfl, rfl, fun x hx => by simp at hx, fun i => by simp⟩
    case round =>
      obtain ⟨k, D, hk, rfl, rfl, h1, h3⟩ := hrel
      have hD : D < 2 ^ len := Nat.lt_pow_two_of_testBit _ (fun i hi => by
        rw [h3]; exact decide_eq_false (fun hm => by have := h1 _ hm; omega))
      have H1 := Lib.hid h1
      have H3 := Lib.hid h3
      clear h1 h3
      by_cases hlt : k < len
      · obtain ⟨b, off, x, rfl, hx, hc⟩ := h.get hlt
        have HX := Lib.hid hx
        have hkl : (k : Int) < (len : Int) := by omega
        clear hx
        cases hq : inB 0 ((len : Int) - 1) x
        · go_wp2_with (go_at_call 61; refine (isUpTo_any _ _ _).mono ?_; rintro e w' ⟨rfl, rfl⟩)
          go_ret
          exact ⟨ret_bool (order_bad HX.out hq).symm, rfl⟩
        · have hxb : 0 ≤ x ∧ x ≤ (len : Int) - 1 := by simpa [inB] using hq
          obtain ⟨q, rfl⟩ : ∃ q : Nat, x = (q : Int) := ⟨x.toNat, by omega⟩
          have hpq : 1 ≤ 2 ^ q ∧ 2 ^ q ≤ 256 := ⟨Nat.two_pow_pos _, Nat.pow_le_pow_right (n := 2) (j := 8) (by omega) (by omega)⟩
          obtain ⟨pq, hpqe⟩ : ∃ pq, 2 ^ q = pq := ⟨_, rfl⟩
          have HPQ := Lib.hid hpqe
          rw [hpqe] at hpq
          clear hpqe
          go_wp2_with (go_at_call 61; refine (isUpTo_any _ _ _).mono ?_; rintro e w' ⟨rfl, rfl⟩)
          go_round
          case rel => exact ⟨k + 1, D ||| pq, by omega, by go_num, by
              rw [show ((2 : Int) ^ q) = ((pq : Nat) : Int) by rw [← HPQ.out]; push_cast; rfl, w64_id (by omega) (by omega), i_or D pq (by omega) (by omega)], fun x hx => by
              rw [take_get HX.out] at hx
              rcases List.mem_append.1 hx with hx | hx
              · exact H1.out x hx
              · simp at hx; omega, fun i => by
              rw [← HPQ.out, Nat.testBit_or, H3.out, take_get HX.out, Nat.testBit_two_pow, Bool.eq_iff_iff]
              simp only [Bool.or_eq_true, decide_eq_true_eq, List.mem_append, List.mem_singleton]
              exact or_congr Iff.rfl ⟨fun e => by omega, fun e => by omega⟩⟩
          case measure => simp [intOf] <;> omega
      · obtain rfl : k = len := by omega
        have hall : o.take k = o := List.take_of_length_le (by rw [HL.out]; omega)
        have HF := Lib.hid (show orderM o k = ((D : Int) == ((2 ^ k - 1 : Nat) : Int)) by
          have h1 := H1.out
          have h3 := H3.out
          rw [hall] at h1 h3
          rw [order_full h1 HL.out h3, Bool.eq_iff_iff, decide_eq_true_eq, beq_iff_eq]
          omega)
        generalize 2 ^ k - 1 = p at *
        clear hall
        go_wp2_with (go_at_call 28; refine (HALL.out _).mono ?_; rintro e w' ⟨rfl, rfl⟩)
        go_ret
        exact ⟨ret_bool HF.out.symm, rfl⟩
  · have HF := Lib.hid (show orderM o n = false from decide_eq_false fun hp => by have := hp.2; have := HL.out; omega)
    have hne : ((len : Int) != (n : Int)) = true := by simp; omega
    go_enter Try.func56, Try.ntmps56
    go_wp2_with fail
    go_ret
    exact ⟨ret_bool HF.out.symm, rfl⟩
-- the span
end Go.Proofs.Ytmcongioghkdcae
namespace Go.Proofs.Ytmcongioghkdcae
open Go.RowKit Go.WideShapes

/-- the nearest number within limits -/
def nearI (lo hi x : Int) : Int := min (max x lo) hi
theorem nearI_in {lo hi x : Int} (h : lo ≤ hi) : nearI lo hi x = x ↔ inB lo hi x = true := by
  unfold nearI inB; rw [decide_eq_true_iff]; omega
def job3 (t v d : Int) : Value := .agg #[.int .i64 t, .int .i64 v, .int .i64 d]
set_option maxHeartbeats 1000000 in
theorem within_any (t v d : Int) (w : World) :
    Calls Try.prog 46 #[.agg #[.int .i64 t, .int .i64 v, .int .i64 d]] w fun e w' => e = .returned (.agg #[.int .i64 (nearI 1 9 t), .int .i64 (nearI 0 9 v), .int .i64 (nearI 0 60 d)]) ∧ Below w.heap.size w w' := by
  go_enter Try.func46, Try.ntmps46
  go_wp2_with fail
  all_goals
    refine bodyPost_ret (v := .agg #[.int .i64 (nearI 1 9 t), .int .i64 (nearI 0 9 v), .int .i64 (nearI 0 60 d)]) (by simp [results, Try.results46, go_sem]; unfold nearI; omega) rfl ⟨rfl, ?_⟩
    exact (((Below.refl _ w).alloc (Nat.le_refl _) _).alloc (by simp) _)
/-- the first n cells of block b hold these numbers, and may be written -/
def CellsI (w : World) (b n : Nat) (f : Nat → Int) : Prop := ∀ j, j < n → w.cell? ⟨b, j, none⟩ = some (.int .i64 (f j)) ∧ w.frozen? ⟨b, j, none⟩ = false
theorem CellsI.block {w w' : World} {b n : Nat} {f : Nat → Int} (h : CellsI w b n f) (e : w'.heap[b]? = w.heap[b]?) : CellsI w' b n f := fun j hj =>
  ⟨by rw [World.cell?_of_block (w := w) e]; exact (h j hj).1, by rw [World.frozen?_of_block (w := w) e]; exact (h j hj).2⟩
theorem CellsI.congr {w : World} {b n : Nat} {f g : Nat → Int} (h : CellsI w b n f) (e : ∀ j, j < n → f j = g j) : CellsI w b n g := fun j hj => by rw [← e j hj]; exact h j hj
theorem CellsI.put {w : World} {b n : Nat} {f : Nat → Int} (h : CellsI w b n f) {k : Nat} (hk : k < n) (x : Int) : CellsI (w.setCell ⟨b, k, none⟩ (.int .i64 x)) b n (fun j => if j = k then x else f j) := fun j hj => by
  refine ⟨?_, by rw [World.frozen?_setCell]; exact (h j hj).2⟩
  dsimp only
  by_cases e : j = k
  · subst e
    rw [if_pos rfl]
    exact World.cell?_setCell_same _ _ _ (h j hj).1
  · rw [if_neg e, World.cell?_setCell_other _ _ _ _ (by intro e'; injection e' with _ e2; exact e e2.symm)]
    exact (h j hj).1
/-- a job's three numbers, by the cell -/
def jf (t v d : Nat → Int) (j : Nat) : Int := if j % 3 = 0 then t (j / 3) else if j % 3 = 1 then v (j / 3) else d (j / 3)
theorem jf0 (t v d : Nat → Int) (q : Nat) : jf t v d (q * 3) = t q := by
  unfold jf; rw [if_pos (by omega), show q * 3 / 3 = q by omega]
theorem jf1 (t v d : Nat → Int) (q : Nat) : jf t v d (q * 3 + 1) = v q := by
  unfold jf; rw [if_neg (by omega), if_pos (by omega), show (q * 3 + 1) / 3 = q by omega]
theorem jf2 (t v d : Nat → Int) (q : Nat) : jf t v d (q * 3 + 2) = d q := by
  unfold jf; rw [if_neg (by omega), if_neg (by omega), show (q * 3 + 2) / 3 = q by omega]
/-- block b holds jobs from its first cell on, three cells each -/
def JobsB (w : World) (b n : Nat) (t v d : Nat → Int) : Prop := CellsI w b (n * 3) (jf t v d)
theorem JobsB.at {w : World} {b n : Nat} {t v d : Nat → Int} (h : JobsB w b n t v d) {q : Nat} (hq : q < n) :
    w.cell? ⟨b, q * 3, none⟩ = some (.int .i64 (t q)) ∧ w.cell? ⟨b, q * 3 + 1, none⟩ = some (.int .i64 (v q)) ∧ w.cell? ⟨b, q * 3 + 2, none⟩ = some (.int .i64 (d q)) := by
  have h0 := (h (q * 3) (by omega)).1
  have h1 := (h (q * 3 + 1) (by omega)).1
  have h2 := (h (q * 3 + 2) (by omega)).1
  rw [jf0] at h0
  rw [jf1] at h1
  rw [jf2] at h2
  exact ⟨h0, h1, h2⟩
theorem JobsB.free {w : World} {b n : Nat} {t v d : Nat → Int} (h : JobsB w b n t v d) {q : Nat} (hq : q < n) :
    w.frozen? ⟨b, q * 3, none⟩ = false ∧ w.frozen? ⟨b, q * 3 + 1, none⟩ = false ∧ w.frozen? ⟨b, q * 3 + 2, none⟩ = false :=
  ⟨(h _ (by omega)).2, (h _ (by omega)).2, (h _ (by omega)).2⟩
theorem JobsB.block {w w' : World} {b n : Nat} {t v d : Nat → Int} (h : JobsB w b n t v d) (e : w'.heap[b]? = w.heap[b]?) : JobsB w' b n t v d := CellsI.block h e
theorem JobsB.congr {w : World} {b n : Nat} {t v d t' v' d' : Nat → Int} (h : JobsB w b n t v d) (e : ∀ q, q < n → t q = t' q ∧ v q = v' q ∧ d q = d' q) : JobsB w b n t' v' d' := CellsI.congr h fun j hj => by
  have := e (j / 3) (by omega)
  unfold jf; rw [this.1, this.2.1, this.2.2]
theorem JobsB.put {w : World} {b n : Nat} {t v d : Nat → Int} (h : JobsB w b n t v d) {k : Nat} (hk : k < n) (x y z : Int) :
    JobsB (((w.setCell ⟨b, k * 3, none⟩ (.int .i64 x)).setCell ⟨b, k * 3 + 1, none⟩ (.int .i64 y)).setCell ⟨b, k * 3 + 2, none⟩ (.int .i64 z)) b n (fun q => if q = k then x else t q) (fun q => if q = k then y else v q) (fun q => if q = k then z else d q) := by
  refine (((CellsI.put h (k := k * 3) (by omega) x).put (k := k * 3 + 1) (by omega) y).put (k := k * 3 + 2) (by omega) z).congr fun j hj => ?_
  unfold jf
  dsimp only
  by_cases e : j / 3 = k
  · rw [if_pos e, if_pos e, if_pos e]
    by_cases e0 : j % 3 = 0
    · rw [if_neg (by omega), if_neg (by omega), if_pos (by omega), if_pos e0]
    · by_cases e1 : j % 3 = 1
      · rw [if_neg (by omega), if_pos (by omega), if_neg e0, if_pos e1]
      · rw [if_pos (by omega), if_neg e0, if_neg e1]
  · rw [if_neg (by omega), if_neg (by omega), if_neg (by omega), if_neg e, if_neg e, if_neg e]
theorem JobsB.start (w : World) (n : Nat) : JobsB (w.alloc (.cells (madeCells #[.int .i64 0, .int .i64 0, .int .i64 0] (n * 3)) 50)) w.heap.size n (fun _ => 0) (fun _ => 0) (fun _ => 0) := fun j hj => by
  refine ⟨?_, World.frozen?_alloc_new w _ _ _⟩
  rw [World.cell?_alloc_new]
  have hj3 : j % 3 = 0 ∨ j % 3 = 1 ∨ j % 3 = 2 := by omega
  simp only [madeCells, Array.getElem?_map, Array.getElem?_range, hj, if_true, Option.map_some]
  unfold jf
  simp only [ite_self]
  rcases hj3 with e | e | e <;> simp [e]
theorem Try.infoJob : (Try.prog.info? 50).map (fun i => (i.zero, i.size, i.bytes)) = some (some (.agg #[.int .i64 0, .int .i64 0, .int .i64 0]), 3, 24) := by kernel_rfl
theorem run_makeJobs (n : Nat) (hn : n ≤ 8) (w : World) :
    (Instr.makeSlice 44 (.int .i64 (n : Int)) (.int .i64 (n : Int))).run Try.prog w = .ok (.slice (some ⟨w.heap.size, 0, none⟩) n n) (w.alloc (.cells (madeCells #[.int .i64 0, .int .i64 0, .int .i64 0] (n * 3)) 50)) := by
  obtain ⟨i, hi, hzz⟩ := Option.map_eq_some_iff.1 Try.infoJob
  simp only [Prod.mk.injEq] at hzz
  obtain ⟨hz, hs, hb⟩ := hzz
  have hr := run_make (P := Try.prog) w 44 50 i _ Try.underlying44 hi hz .i64 .i64 n n (by omega) (Int.le_refl _) (by rw [hb]; omega) (by omega)
  simp only [Int.toNat_natCast, hs] at hr
  exact hr
theorem jobB_near {r : List Int} {x y z : Int} (hl : r.length = 3) (h0 : r.getD 0 0 = x) (h1 : r.getD 1 0 = y) (h2 : r.getD 2 0 = z) : jobB r = ((x == nearI 1 9 x) && ((y == nearI 0 9 y) && (z == nearI 0 60 z))) := by
  unfold jobB
  rw [hl, h0, h1, h2]
  have e : ∀ {lo hi q : Int}, lo ≤ hi → (q == nearI lo hi q) = inB lo hi q := fun {lo hi q} h => by
    rw [Bool.eq_iff_iff, beq_iff_eq, ← nearI_in h]; exact ⟨Eq.symm, Eq.symm⟩
  rw [e (by omega), e (by omega), e (by omega)]; rfl
theorem run_neq_job (x y z x' y' z' : Int) (w : World) :
    (binOp .neq 50 (.agg #[.int .i64 x, .int .i64 y, .int .i64 z]) (.agg #[.int .i64 x', .int .i64 y', .int .i64 z'])).run Try.prog w = .ok (.bool (!((x == x') && ((y == y') && (z == z'))))) w := by
  have hu : Try.prog.underlying 3 = some (.int .i64) := Try.underlying3
  have he := run_equalIn_agg (P := Try.prog) w 9999 50 #[.int .i64 x, .int .i64 y, .int .i64 z] #[.int .i64 x', .int .i64 y', .int .i64 z'] (by kernel_rfl) (by kernel_rfl)
  rw [run_neq_struct, he]
  simp [Program.fieldsOf, Try.underlying50, Op.eqFields, go_sem]
  by_cases h1 : x = x' <;> by_cases h2 : y = y' <;> by_cases h3 : z = z' <;> simp [h1, h2, h3]
/-- the jobs, in a new block, or nothing -/
def JobsPost (w : World) (len : Nat) (rows : List (List Int)) (e : Ending) (w' : World) : Prop :=
  Below w.heap.size w w' ∧ ((jobsM rows = false ∧ e = .returned (.tuple #[.slice none 0 0, .bool false])) ∨
    (jobsM rows = true ∧ ∃ b, e = .returned (.tuple #[.slice (some ⟨b, 0, none⟩) len len, .bool true]) ∧ w.heap.size ≤ b ∧ b < w'.heap.size ∧ JobsB w' b len (ta rows) (tb rows) (td rows)))
set_option maxRecDepth 100000 in
set_option maxHeartbeats 4000000 in
theorem dueJobsOf_any (a : Option Addr) (len cap : Nat) (rows : List (List Int)) (w : World) (h : RowsAt w (· < w.heap.size) a len rows) (hc : len ≤ cap) :
    Calls Try.prog 27 #[.slice a len cap] w (JobsPost w len rows) := by
  have hs := h.small
  have HL := Lib.hid h.lenEq
  by_cases h8 : len ≤ 8
  · have hmk := run_makeJobs len h8
    have HH := Lib.hid (show ∀ w', Below w.heap.size w w' → RowsAt w' (· < w.heap.size) a len rows from fun w' hb => h.below hb)
    clear h
    go_enter Try.func27, Try.ntmps27
    go_wp2_with fail
    clear hmk
    go_loopw [15] (fun i wr => ∃ k : Nat, k ≤ len ∧ i = .int .i64 k ∧ (rows.take k).all jobB = true ∧ Below w.heap.size w wr ∧ w.heap.size < wr.heap.size ∧
      JobsB wr w.heap.size len (fun q => if q < k then ta rows q else 0) (fun q => if q < k then tb rows q else 0) (fun q => if q < k then td rows q else 0)) (fun i _ => len - (intOf i).toNat)
    case atStart => exact ⟨0, Nat.zero_le _, rfl, rfl, (Below.refl _ _).alloc (Nat.le_refl _) _, by simp, (JobsB.start w len).congr (fun q _ => by simp)⟩
    case round =>
      obtain ⟨k, hk, rfl, ha, hB, hsz, hJ⟩ := hrel
      have HA := Lib.hid ha
      have hr := HH.out wr hB
      have HB := Lib.hid hB
      clear ha hB
      by_cases hlt : k < len
      · obtain ⟨b, off, r, a', l, c, rfl, hx, hcr, hlc, hri⟩ := hr.get hlt
        have HX := Lib.hid hx
        have HRL := Lib.hid hri.lenEq
        have hrs := hri.small
        have hkl : (k : Int) < (len : Int) := by omega
        clear hx
        by_cases hl3 : l = 3
        · subst hl3
          obtain ⟨b', off', x, rfl, hy, hd⟩ := hri.get (k := 0) (by omega)
          obtain ⟨b2, off2, y, e2, hy2, hd2⟩ := hri.get (k := 1) (by omega)
          cases e2
          obtain ⟨b3, off3, z, e3, hy3, hd3⟩ := hri.get (k := 2) (by omega)
          cases e3
          rw [Nat.add_zero] at hd
          obtain ⟨g0, g1, g2⟩ := hJ.at hlt
          obtain ⟨f0, f1, f2⟩ := hJ.free hlt
          have HJ := Lib.hid hJ
          clear hJ
          go_wp2_with fail
          have mixed : Try.prog.follows .mixedOrders = true := by kernel_rfl
          go_region_o
          clear mixed
          go_wp2_with fail
          have HJ2 := Lib.hid (show JobsB (((wr.setCell ⟨w.heap.size, k * 3, none⟩ (.int .i64 x)).setCell ⟨w.heap.size, k * 3 + 1, none⟩ (.int .i64 y)).setCell ⟨w.heap.size, k * 3 + 2, none⟩ (.int .i64 z)).drew w.heap.size len _ _ _ from (HJ.out.put hlt x y z).block rfl)
          have HB2 := Lib.hid (show Below w.heap.size w (((wr.setCell ⟨w.heap.size, k * 3, none⟩ (.int .i64 x)).setCell ⟨w.heap.size, k * 3 + 1, none⟩ (.int .i64 y)).setCell ⟨w.heap.size, k * 3 + 2, none⟩ (.int .i64 z)).drew from
            (((HB.out.setCell (p := ⟨w.heap.size, k * 3, none⟩) (Nat.le_refl _) _).setCell (p := ⟨w.heap.size, k * 3 + 1, none⟩) (Nat.le_refl _) _).setCell (p := ⟨w.heap.size, k * 3 + 2, none⟩) (Nat.le_refl _) _).drew)
          have hs2 : (((wr.setCell ⟨w.heap.size, k * 3, none⟩ (.int .i64 x)).setCell ⟨w.heap.size, k * 3 + 1, none⟩ (.int .i64 y)).setCell ⟨w.heap.size, k * 3 + 2, none⟩ (.int .i64 z)).drew.heap.size = wr.heap.size := by simp [World.setCell]
          obtain ⟨w2, hw2⟩ : ∃ w2, (((wr.setCell ⟨w.heap.size, k * 3, none⟩ (.int .i64 x)).setCell ⟨w.heap.size, k * 3 + 1, none⟩ (.int .i64 y)).setCell ⟨w.heap.size, k * 3 + 2, none⟩ (.int .i64 z)).drew = w2 := ⟨_, rfl⟩
          rw [hw2] at HJ2 HB2 hs2 ⊢
          have hsz2 : w.heap.size < w2.heap.size := by omega
          clear hw2 g0 g1 g2 f0 f1 f2 hd hd2 hd3 hs2 HJ HB hsz
          obtain ⟨g0, g1, g2⟩ := HJ2.out.at hlt
          try dsimp only at g0 g1 g2
          rw [if_pos rfl] at g0 g1 g2
          have HNQ := Lib.hid (jobB_near HRL.out (getD_of hy) (getD_of hy2) (getD_of hy3))
          have HRW := Lib.hid (show r.getD 0 0 = x ∧ r.getD 1 0 = y ∧ r.getD 2 0 = z from ⟨getD_of hy, getD_of hy2, getD_of hy3⟩)
          clear hy hy2 hy3
          have HW := Lib.hid (within_any x y z w2.drew)
          have hne := run_neq_job x y z (nearI 1 9 x) (nearI 0 9 y) (nearI 0 60 z)
          rw [← HNQ.out] at hne
          generalize nearI 1 9 x = x' at *
          generalize nearI 0 9 y = y' at *
          generalize nearI 0 60 z = z' at *
          go_region_held3 (fun w' => w'.cell? ⟨w.heap.size, k * 3, none⟩ = some (.int .i64 x) ∧ w'.cell? ⟨w.heap.size, k * 3 + 1, none⟩ = some (.int .i64 y) ∧ w'.cell? ⟨w.heap.size, k * 3 + 2, none⟩ = some (.int .i64 z)) (first | go_keep | exact ⟨k0, k1, k2⟩)
            (first | (go_at_call 46; refine HW.out.mono ?_; rintro e w3 ⟨rfl, hb3⟩; have k0 := (hb3.cell (p := ⟨w.heap.size, k * 3, none⟩) hsz2).trans g0; have k1 := (hb3.cell (p := ⟨w.heap.size, k * 3 + 1, none⟩) hsz2).trans g1; have k2 := (hb3.cell (p := ⟨w.heap.size, k * 3 + 2, none⟩) hsz2).trans g2))
          have HB3 := Lib.hid (HB2.out.drew.trans (hb3.mono (by show w.heap.size ≤ w2.heap.size; omega)))
          have HJ3 := Lib.hid (HJ2.out.block (w' := w3) (hb3.block w.heap.size hsz2))
          have hsz3 : w.heap.size < w3.heap.size := Nat.lt_of_lt_of_le hsz2 hb3.size
          clear k0 k1 k2 g0 g1 g2 hb3 hne HW HB2 HJ2
          cases hq : jobB r
          · have HF := Lib.hid (jobs_false HX.out hq)
            clear hq
            go_wp2_with fail
            go_ret2
            exact ⟨HB3.out, .inl ⟨HF.out, rfl⟩⟩
          · have HQ := Lib.hid hq
            clear hq
            go_wp2_with fail
            go_roundw
            case rel => exact ⟨k + 1, by omega, by go_num, by
              rw [take_get HX.out, List.all_append, HA.out]
              simp only [List.all_cons, List.all_nil, Bool.and_true, Bool.true_and]
              exact HQ.out, HB3.out, hsz3, HJ3.out.congr fun q _ => by
              have hj := j_at HX.out
              by_cases e : q = k
              · subst e
                rw [if_pos rfl, if_pos rfl, if_pos rfl, if_pos (by omega), if_pos (by omega), if_pos (by omega), hj.1, hj.2.1, hj.2.2, HRW.out.1, HRW.out.2.1, HRW.out.2.2]
                exact ⟨rfl, rfl, rfl⟩
              · rw [if_neg e, if_neg e, if_neg e]
                by_cases e2 : q < k
                · rw [if_pos e2, if_pos e2, if_pos e2, if_pos (by omega), if_pos (by omega), if_pos (by omega)]; exact ⟨rfl, rfl, rfl⟩
                · rw [if_neg e2, if_neg e2, if_neg e2, if_neg (by omega), if_neg (by omega), if_neg (by omega)]; exact ⟨rfl, rfl, rfl⟩⟩
            case measure => simp [intOf] <;> omega
        · have hle : ((l : Int) != 3) = true := by simp; omega
          have HF := Lib.hid (jobs_false HX.out (by unfold jobB; rw [HRL.out, beq_eq_false_iff_ne.2 hl3]; rfl))
          go_wp2_with fail
          go_ret2
          exact ⟨HB.out, .inl ⟨HF.out, rfl⟩⟩
      · obtain rfl : k = len := by omega
        have ha := HA.out
        have hl := HL.out
        rw [List.take_of_length_le (by omega)] at ha
        have HF := Lib.hid (show jobsM rows = true by rw [jobsM, ha, hl, Bool.true_and]; exact decide_eq_true h8)
        have HJ := Lib.hid (hJ.congr (t' := ta rows) (v' := tb rows) (d' := td rows) fun q hq => by rw [if_pos hq, if_pos hq, if_pos hq]; exact ⟨rfl, rfl, rfl⟩)
        clear ha hl hJ
        go_wp2_with fail
        go_ret2
        exact ⟨HB.out, .inr ⟨HF.out, _, rfl, Nat.le_refl _, hsz, HJ.out⟩⟩
  · have HF := Lib.hid (show jobsM rows = false by unfold jobsM; rw [HL.out, decide_eq_false h8, Bool.and_false])
    go_enter Try.func27, Try.ntmps27
    go_wp2_with fail
    go_ret2
    exact ⟨Below.refl _ _, .inl ⟨HF.out, rfl⟩⟩
theorem validJobs_impl (a : Option Addr) (len cap : Nat) (rows : List (List Int)) (w : World) (h : RowsAt w (· < w.heap.size) a len rows) (hc : len ≤ cap) :
    Calls Try.prog 13 #[.slice a len cap] w (ValPost w (.bool (jobsM rows))) := by
  have HD := Lib.hid (dueJobsOf_any a len cap rows w h hc)
  clear h
  go_enter Try.func13, Try.ntmps13
  go_wp2_with fail
  refine HD.out.mono ?_
  rintro e w1 ⟨hb, ⟨hf, rfl⟩ | ⟨hf, b, rfl, _⟩⟩
  all_goals
    have HF := Lib.hid hf
    clear hf
    go_wp2_with fail
    go_ret
    exact ⟨ret_bool HF.out.symm, hb⟩
/-- the jobs as they are done, in a new block, or nothing -/
def RowPost (w : World) (len : Nat) (rows : List (List Int)) (o : List Int) (e : Ending) (w' : World) : Prop :=
  Below w.heap.size w w' ∧ ((rowFine rows o = false ∧ e = .returned (.tuple #[.slice none 0 0, .bool false])) ∨
    (rowFine rows o = true ∧ ∃ b, e = .returned (.tuple #[.slice (some ⟨b, 0, none⟩) len len, .bool true]) ∧ w.heap.size ≤ b ∧ b < w'.heap.size ∧
      JobsB w' b len (fun q => ta rows ((nO o).getD q 0)) (fun q => tb rows ((nO o).getD q 0)) (fun q => td rows ((nO o).getD q 0))))
set_option maxRecDepth 100000 in
set_option maxHeartbeats 4000000 in
theorem rowOf_any (a : Option Addr) (len cap : Nat) (rows : List (List Int)) (a2 : Option Addr) (len2 cap2 : Nat) (o : List Int) (w : World) (h : RowsAt w (· < w.heap.size) a len rows) (g : IntsAt w (· < w.heap.size) a2 len2 o) (hc : len ≤ cap) :
    Calls Try.prog 43 #[.slice a len cap, .slice a2 len2 cap2] w (RowPost w len rows o) := by
  have hs := g.small
  have HL := Lib.hid h.lenEq
  have HD := Lib.hid (dueJobsOf_any a len cap rows w h hc)
  have HG := Lib.hid (show ∀ w', Below w.heap.size w w' → IntsAt w' (· < w.heap.size) a2 len2 o from fun w' hb => g.below hb)
  have HL2 := Lib.hid g.lenEq
  clear h g
  go_enter Try.func43, Try.ntmps43
  go_wp2_with fail
  refine HD.out.mono ?_
  rintro e w1 ⟨hb, ⟨hf, rfl⟩ | ⟨hf, B, rfl, hBw, hB1, hJ⟩⟩
  · have HF := Lib.hid (show rowFine rows o = false by unfold rowFine; rw [hf]; rfl)
    have HB := Lib.hid hb
    clear hf hb
    go_wp2_with fail
    go_ret2
    exact ⟨HB.out, .inl ⟨HF.out, rfl⟩⟩
  · have h8 : len ≤ 8 := by have := (jobs_get hf).1; have := HL.out; omega
    have HF := Lib.hid (show rowFine rows o = orderM o len by unfold rowFine; rw [HL.out, hf, Bool.true_and])
    have HB := Lib.hid hb
    have HJ := Lib.hid hJ
    have HO := Lib.hid (isOrder_any _ a2 len2 cap2 o len w1 (HG.out w1 hb) h8)
    clear hf hb hJ
    cases hq : orderM o len
    · rw [hq] at HO HF
      clear hq
      go_wp2_with fail
      refine HO.out.mono ?_
      rintro e w' ⟨rfl, rfl⟩
      go_wp2_with fail
      go_ret2
      exact ⟨HB.out, .inl ⟨HF.out, rfl⟩⟩
    · rw [hq] at HO HF
      obtain ⟨⟨hox, _⟩, hol⟩ := orderM_get hq
      have hl2 : len2 = len := by have := HL2.out; omega
      have HOX := Lib.hid hox
      clear hq hox hol
      subst hl2
      have hmk := run_makeJobs len2 h8
      go_wp2_with fail
      refine HO.out.mono ?_
      rintro e w' ⟨rfl, rfl⟩
      go_wp2_with fail
      clear hmk
      go_loopw [30] (fun i wr => ∃ k : Nat, k ≤ len2 ∧ i = .int .i64 k ∧ Below w1.heap.size w1 wr ∧ w1.heap.size < wr.heap.size ∧
        JobsB wr w1.heap.size len2 (fun q => if q < k then ta rows ((nO o).getD q 0) else 0) (fun q => if q < k then tb rows ((nO o).getD q 0) else 0) (fun q => if q < k then td rows ((nO o).getD q 0) else 0)) (fun i _ => len2 - (intOf i).toNat)
      case atStart => exact ⟨0, Nat.zero_le _, rfl, (Below.refl _ _).alloc (Nat.le_refl _) _, by simp, (JobsB.start w1 len2).congr (fun q _ => by simp)⟩
      case round =>
        obtain ⟨k, hk, rfl, hB, hsz, hK⟩ := hrel
        have HBW := Lib.hid (HB.out.trans (hB.mono (by have := HB.out.size; omega)))
        have HB2 := Lib.hid hB
        have hg := HG.out wr HBW.out
        by_cases hlt : k < len2
        · obtain ⟨b, off, q, rfl, hx, hql, hcq⟩ := ord_at hg HOX.out hlt
          have HX := Lib.hid (show (nO o).getD k 0 = q by rw [List.getD_eq_getElem?_getD, hx]; rfl)
          have hJr := HJ.out.block (w' := wr) (hB.block B (by omega))
          obtain ⟨g0, g1, g2⟩ := hJr.at hql
          obtain ⟨f0, f1, f2⟩ := hK.free hlt
          obtain ⟨e0, e1, e2⟩ := hK.at hlt
          have HK := Lib.hid hK
          have hkl : (k : Int) < (len2 : Int) := by omega
          have hqI : (q : Int) < (len2 : Int) := by omega
          clear hx hK hJr hB hg
          go_wp2_with fail
          go_roundw
          case rel => exact ⟨k + 1, by omega, by go_num, ((HB2.out.setCell (p := ⟨w1.heap.size, k * 3, none⟩) (Nat.le_refl _) _).setCell (p := ⟨w1.heap.size, k * 3 + 1, none⟩) (Nat.le_refl _) _).setCell (p := ⟨w1.heap.size, k * 3 + 2, none⟩) (Nat.le_refl _) _, by simpa [World.setCell] using hsz,
            (HK.out.put hlt _ _ _).congr fun j _ => by
              by_cases e : j = k
              · subst e
                rw [if_pos rfl, if_pos rfl, if_pos rfl, if_pos (by omega), if_pos (by omega), if_pos (by omega), HX.out]
                exact ⟨rfl, rfl, rfl⟩
              · rw [if_neg e, if_neg e, if_neg e]
                by_cases e2 : j < k
                · rw [if_pos e2, if_pos e2, if_pos e2, if_pos (by omega), if_pos (by omega), if_pos (by omega)]; exact ⟨rfl, rfl, rfl⟩
                · rw [if_neg e2, if_neg e2, if_neg e2, if_neg (by omega), if_neg (by omega), if_neg (by omega)]; exact ⟨rfl, rfl, rfl⟩⟩
          case measure => simp [intOf] <;> omega
        · obtain rfl : k = len2 := by omega
          have HK := Lib.hid (hK.congr (t' := fun q => ta rows ((nO o).getD q 0)) (v' := fun q => tb rows ((nO o).getD q 0)) (d' := fun q => td rows ((nO o).getD q 0)) fun q hq => by rw [if_pos hq, if_pos hq, if_pos hq]; exact ⟨rfl, rfl, rfl⟩)
          clear hK hB hg
          go_wp2_with fail
          go_ret2
          exact ⟨HBW.out, .inr ⟨HF.out, _, rfl, HB.out.size, hsz, HK.out⟩⟩
end Go.Proofs.Ytmcongioghkdcae
