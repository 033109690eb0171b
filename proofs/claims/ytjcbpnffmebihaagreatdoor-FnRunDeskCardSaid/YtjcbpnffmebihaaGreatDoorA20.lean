import Derived.Test.YtjcbpnffmebihaaGreatDoorA17
import Derived.Test.YtjcbpnffmebihaaGreatDoorRows
import Derived.WalkKit
import Derived.LoopTactic
import Derived.Outline
import Derived.WalkSpells
import Derived.WalkLawsBesides
import Derived.ProofKit
import Derived.Lib.Hide
import Derived.Deep.QuietTactic
import Derived.BigQuiet
import Derived.IntWalk
import Derived.Deep.AppendLies
import Derived.Carry
import Derived.Maps.RangeWalk
set_option linter.unusedVariables false
set_option linter.unusedSimpArgs false
namespace Go.Proofs.YtjcbpnffmebihaaGreatDoor
open Go.RowKit Go.WideShapes

set_option maxHeartbeats 2000000 in
theorem better_any (S : Nat → Prop) (a : Option Addr) (len cap : Nat) (rows : List (List Int)) (i k : Nat) (w : World) (h : RowsAt w S a len rows) (hp : pairsM rows = true) (hi : i < len) (hk : k < len) :
    Calls Tryz.prog 55 #[.slice a len cap, .int .i64 i, .int .i64 k] w fun e w' => e = .returned (.bool (decide (btr (ta rows) (tb rows) i k))) ∧ Drew w w' := by
  have HP := (pairs_get hp).2
  have hs := h.small
  obtain ⟨b, off, r, a1, l1, c1, rfl, hr, hcr, _, hri⟩ := h.get hi
  obtain ⟨b', off', s, a2, l2, c2, e2, hs2, hcs, _, hsi⟩ := h.get hk
  cases e2
  obtain ⟨hr2, hra, hrb⟩ := HP r (List.mem_of_getElem? hr)
  obtain ⟨hs3, hsa, hsb⟩ := HP s (List.mem_of_getElem? hs2)
  have hl1 : l1 = 2 := by rw [← hri.lenEq, hr2]
  have hl2 : l2 = 2 := by rw [← hsi.lenEq, hs3]
  subst hl1 hl2
  obtain ⟨b3, off3, x0, rfl, h3, hc3⟩ := hri.get (k := 0) (by omega)
  obtain ⟨b4, off4, x1, e4, h4, hc4⟩ := hri.get (k := 1) (by omega)
  cases e4
  obtain ⟨b5, off5, y0, rfl, h5, hc5⟩ := hsi.get (k := 0) (by omega)
  obtain ⟨b6, off6, y1, e6, h6, hc6⟩ := hsi.get (k := 1) (by omega)
  cases e6
  rw [Nat.add_zero] at hc3 hc5
  have ht := t_at hr
  rw [getD_of h3, getD_of h4] at ht
  have hu := t_at hs2
  rw [getD_of h5, getD_of h6] at hu
  have HB := Lib.hid (show btr (ta rows) (tb rows) i k ↔ (if x0 < x1 then (if y0 < y1 then (x0 < y0 ∨ (x0 = y0 ∧ i < k)) else True) else (if y0 < y1 then False else (y1 < x1 ∨ (x1 = y1 ∧ i < k)))) by
    unfold btr; rw [ht.1, ht.2, hu.1, hu.2])
  have hii : (i : Int) < (len : Int) := by omega
  have hkk : (k : Int) < (len : Int) := by omega
  clear hr hs2 h3 h4 h5 h6 ht hu hr2 hs3 hra hrb hsa hsb HP hp
  by_cases g1 : x0 < x1
  · have d1 : decide (x0 < x1) = true := decide_eq_true g1
    by_cases g2 : y0 < y1
    · have d2 : decide (y0 < y1) = true := decide_eq_true g2
      by_cases g3 : x0 = y0
      · subst g3
        have HQ := Lib.hid (show decide (btr (ta rows) (tb rows) i k) = decide (i < k) by
          refine decide_eq_decide.2 (HB.out.trans ?_); rw [if_pos g1, if_pos g2]; simp)
        have d3 : (x0 != x0) = false := by simp
        go_enter Tryz.func55, Tryz.ntmps55
        go_wp2_with fail
        go_quiet (fail)
        go_wp2_with fail
        go_quiet (fail)
        go_wp2_with fail
        go_quiet (fail)
        go_wp2_with fail
        go_quiet (fail)
        go_wp2_with fail
        go_ret
        exact ⟨ret_bool HQ.out.symm, by repeat (first | exact Drew.refl _ | refine Drew.drew ?_ _)⟩
      · have HQ := Lib.hid (show decide (btr (ta rows) (tb rows) i k) = decide (x0 < y0) by
          refine decide_eq_decide.2 (HB.out.trans ?_); rw [if_pos g1, if_pos g2]
          exact ⟨fun h => h.elim id (fun h => absurd h.1 g3), Or.inl⟩)
        have d3 : (x0 != y0) = true := by simpa using g3
        go_enter Tryz.func55, Tryz.ntmps55
        go_wp2_with fail
        go_quiet (fail)
        go_wp2_with fail
        go_quiet (fail)
        go_wp2_with fail
        go_quiet (fail)
        go_wp2_with fail
        go_quiet (fail)
        go_wp2_with fail
        go_ret
        exact ⟨ret_bool HQ.out.symm, by repeat (first | exact Drew.refl _ | refine Drew.drew ?_ _)⟩
    · have d2 : decide (y0 < y1) = false := decide_eq_false g2
      have HQ := Lib.hid (show decide (btr (ta rows) (tb rows) i k) = true by
        refine decide_eq_true (HB.out.2 ?_); simp only [g1, g2, if_true, if_false])
      go_enter Tryz.func55, Tryz.ntmps55
      go_wp2_with fail
      go_quiet (fail)
      go_wp2_with fail
      go_quiet (fail)
      go_wp2_with fail
      go_ret
      exact ⟨ret_bool HQ.out.symm, by repeat (first | exact Drew.refl _ | refine Drew.drew ?_ _)⟩
  · have d1 : decide (x0 < x1) = false := decide_eq_false g1
    by_cases g2 : y0 < y1
    · have d2 : decide (y0 < y1) = true := decide_eq_true g2
      have HQ := Lib.hid (show decide (btr (ta rows) (tb rows) i k) = false by
        refine decide_eq_false (fun hb => ?_); have := HB.out.1 hb; simp only [g1, g2, if_true, if_false] at this)
      go_enter Tryz.func55, Tryz.ntmps55
      go_wp2_with fail
      go_quiet (fail)
      go_wp2_with fail
      go_quiet (fail)
      go_wp2_with fail
      go_ret
      exact ⟨ret_bool HQ.out.symm, by repeat (first | exact Drew.refl _ | refine Drew.drew ?_ _)⟩
    · have d2 : decide (y0 < y1) = false := decide_eq_false g2
      by_cases g3 : x1 = y1
      · subst g3
        have HQ := Lib.hid (show decide (btr (ta rows) (tb rows) i k) = decide (i < k) by
          refine decide_eq_decide.2 (HB.out.trans ?_); rw [if_neg g1, if_neg g2]; simp)
        have d3 : (x1 != x1) = false := by simp
        go_enter Tryz.func55, Tryz.ntmps55
        go_wp2_with fail
        go_quiet (fail)
        go_wp2_with fail
        go_quiet (fail)
        go_wp2_with fail
        go_quiet (fail)
        go_wp2_with fail
        go_quiet (fail)
        go_wp2_with fail
        go_ret
        exact ⟨ret_bool HQ.out.symm, by repeat (first | exact Drew.refl _ | refine Drew.drew ?_ _)⟩
      · have HQ := Lib.hid (show decide (btr (ta rows) (tb rows) i k) = decide (y1 < x1) by
          refine decide_eq_decide.2 (HB.out.trans ?_); rw [if_neg g1, if_neg g2]
          exact ⟨fun h => h.elim id (fun h => absurd h.1 g3), Or.inl⟩)
        have d3 : (x1 != y1) = true := by simpa using g3
        go_enter Tryz.func55, Tryz.ntmps55
        go_wp2_with fail
        go_quiet (fail)
        go_wp2_with fail
        go_quiet (fail)
        go_wp2_with fail
        go_quiet (fail)
        go_wp2_with fail
        go_quiet (fail)
        go_wp2_with fail
        go_quiet (fail)
        go_wp2_with fail
        go_ret
        exact ⟨ret_bool HQ.out.symm, by repeat (first | exact Drew.refl _ | refine Drew.drew ?_ _)⟩
end Go.Proofs.YtjcbpnffmebihaaGreatDoor
namespace Go.Proofs.YtjcbpnffmebihaaGreatDoor
open Go.RowKit Go.WideShapes

-- jobs of one machine
def jobB (r : List Int) : Bool := r.length == 3 && (inB 1 9 (r.getD 0 0) && (inB 0 9 (r.getD 1 0) && inB 0 60 (r.getD 2 0)))
def jobsM (rows : List (List Int)) : Bool := rows.all jobB && decide (rows.length ≤ 8)
theorem jobs_false {rows : List (List Int)} {k : Nat} {r : List Int} (h : rows[k]? = some r) (hr : jobB r = false) : jobsM rows = false := by
  unfold jobsM
  rw [List.all_eq_false.2 ⟨r, List.mem_of_getElem? h, by rw [hr]; simp⟩]; rfl
theorem jobs_get {rows : List (List Int)} (h : jobsM rows = true) : rows.length ≤ 8 ∧ ∀ r ∈ rows, r.length = 3 ∧ (1 ≤ r.getD 0 0 ∧ r.getD 0 0 ≤ 9) ∧ (0 ≤ r.getD 1 0 ∧ r.getD 1 0 ≤ 9) ∧ (0 ≤ r.getD 2 0 ∧ r.getD 2 0 ≤ 60) := by
  simp only [jobsM, Bool.and_eq_true, decide_eq_true_eq, List.all_eq_true] at h
  refine ⟨h.2, fun r hr => ?_⟩
  have := h.1 r hr
  simp only [jobB, Bool.and_eq_true, beq_iff_eq] at this
  exact ⟨this.1, by simpa [inB] using this.2.1, by simpa [inB] using this.2.2.1, by simpa [inB] using this.2.2.2⟩
theorem validJobs_any (S : Nat → Prop) (a : Option Addr) (len cap : Nat) (rows : List (List Int)) (w : World) (h : RowsAt w S a len rows) :
    Calls Tryz.prog 36 #[.slice a len cap] w fun e w' => e = .returned (.bool (jobsM rows)) ∧ w = w' := by
  have hs := h.small
  have HL := Lib.hid h.lenEq
  go_enter Tryz.func36, Tryz.ntmps36
  go_wp2
  go_loop [3] (fun i => ∃ k : Nat, k ≤ len ∧ i = .int .i64 k ∧ (rows.take k).all jobB = true) (fun i => len - (intOf i).toNat)
  case atStart => exact ⟨0, Nat.zero_le _, rfl, rfl⟩
  case round =>
    obtain ⟨k, hk, rfl, ha⟩ := hrel
    have HA := Lib.hid ha
    clear ha
    by_cases hlt : k < len
    · obtain ⟨b, off, r, a', l, c, rfl, hx, hc, _, hr⟩ := h.get hlt
      have HX := Lib.hid hx
      have HRL := Lib.hid hr.lenEq
      have hrs := hr.small
      clear hx
      by_cases hl3 : l = 3
      · subst hl3
        obtain ⟨b', off', x, rfl, hy, hd⟩ := hr.get (k := 0) (by omega)
        obtain ⟨b2, off2, y, e2, hy2, hd2⟩ := hr.get (k := 1) (by omega)
        cases e2
        obtain ⟨b3, off3, z, e3, hy3, hd3⟩ := hr.get (k := 2) (by omega)
        cases e3
        rw [Nat.add_zero] at hd
        have HY := Lib.hid (getD_of hy)
        have HY2 := Lib.hid (getD_of hy2)
        have HY3 := Lib.hid (getD_of hy3)
        clear hy hy2 hy3
        cases hq : inB 1 9 x
        · go_wp2_with (go_at_call 54; refine (inRange_any _ _ _ _).mono ?_; rintro e w' ⟨rfl, rfl⟩)
          go_ret
          exact ⟨ret_bool (by rw [jobs_false HX.out (by unfold jobB; rw [HY.out, hq]; simp)]), rfl⟩
        · cases hq2 : inB 0 9 y
          · go_wp2_with (go_at_call 54; refine (inRange_any _ _ _ _).mono ?_; rintro e w' ⟨rfl, rfl⟩)
            go_ret
            exact ⟨ret_bool (by rw [jobs_false HX.out (by unfold jobB; rw [HY2.out, hq2]; simp)]), rfl⟩
          · cases hq3 : inB 0 60 z
            · go_wp2_with (go_at_call 54; refine (inRange_any _ _ _ _).mono ?_; rintro e w' ⟨rfl, rfl⟩)
              go_ret
              exact ⟨ret_bool (by rw [jobs_false HX.out (by unfold jobB; rw [HY3.out, hq3]; simp)]), rfl⟩
            · go_wp2_with (go_at_call 54; refine (inRange_any _ _ _ _).mono ?_; rintro e w' ⟨rfl, rfl⟩)
              go_round
              case rel => exact ⟨k + 1, by omega, by go_num, by
                rw [take_get HX.out, List.all_append, HA.out]
                simp only [List.all_cons, List.all_nil, Bool.and_true, Bool.true_and]
                unfold jobB; rw [HY.out, HY2.out, HY3.out, hq, hq2, hq3, HRL.out]; rfl⟩
              case measure => simp [intOf]; omega
      · have hle : ((l : Int) != 3) = true := by simp; omega
        go_wp2
        go_ret
        exact ⟨ret_bool (by rw [jobs_false HX.out (by unfold jobB; rw [HRL.out, beq_eq_false_iff_ne.2 hl3]; rfl)]), rfl⟩
    · go_wp2
      go_ret
      have ha := HA.out
      have hl := HL.out
      rw [List.take_of_length_le (by omega)] at ha
      exact ⟨ret_bool (by rw [jobsM, ha, hl, Bool.true_and]; exact decide_eq_decide.2 (by omega)), rfl⟩
/-- the due time of a job -/
def td (rows : List (List Int)) (x : Nat) : Int := (rows.getD x []).getD 2 0
theorem j_bd {rows : List (List Int)} (h : jobsM rows = true) (x : Nat) : (0 ≤ ta rows x ∧ ta rows x ≤ 9) ∧ (0 ≤ tb rows x ∧ tb rows x ≤ 9) ∧ (0 ≤ td rows x ∧ td rows x ≤ 60) := by
  obtain ⟨_, h2⟩ := jobs_get h
  unfold ta tb td
  rcases Nat.lt_or_ge x rows.length with hx | hx
  · rw [List.getD_eq_getElem?_getD (l := rows), List.getElem?_eq_getElem hx]
    have := h2 rows[x] (List.getElem_mem hx)
    exact ⟨⟨Int.le_trans (by omega) this.2.1.1, this.2.1.2⟩, this.2.2.1, this.2.2.2⟩
  · rw [List.getD_eq_getElem?_getD (l := rows), List.getElem?_eq_none hx]; simp
theorem j_at {rows : List (List Int)} {x : Nat} {r : List Int} (h : rows[x]? = some r) : ta rows x = r.getD 0 0 ∧ tb rows x = r.getD 1 0 ∧ td rows x = r.getD 2 0 := by
  unfold ta tb td; rw [List.getD_eq_getElem?_getD (l := rows), h]; exact ⟨rfl, rfl, rfl⟩
/-- where a job's row stands -/
theorem row3_at {w : World} {S : Nat → Prop} {a : Option Addr} {len : Nat} {rows : List (List Int)} (h : RowsAt w S a len rows) (hP : ∀ r ∈ rows, r.length = 3 ∧ (1 ≤ r.getD 0 0 ∧ r.getD 0 0 ≤ 9) ∧ (0 ≤ r.getD 1 0 ∧ r.getD 1 0 ≤ 9) ∧ (0 ≤ r.getD 2 0 ∧ r.getD 2 0 ≤ 60)) {q : Nat} (hq : q < len) :
    ∃ (b2 off2 b3 off3 c : Nat), a = some ⟨b2, off2, none⟩ ∧
      w.cell? ⟨b2, off2 + q, none⟩ = some (.slice (some ⟨b3, off3, none⟩) 3 c) ∧ w.cell? ⟨b3, off3, none⟩ = some (.int .i64 (ta rows q)) ∧ w.cell? ⟨b3, off3 + 1, none⟩ = some (.int .i64 (tb rows q)) ∧ w.cell? ⟨b3, off3 + 2, none⟩ = some (.int .i64 (td rows q)) ∧ 3 ≤ c := by
  obtain ⟨b2, off2, r, a', l, c, rfl, hr, hcr, hlc, hri⟩ := h.get hq
  obtain ⟨hr3, _⟩ := hP r (List.mem_of_getElem? hr)
  have hl3 : l = 3 := by rw [← hri.lenEq, hr3]
  subst hl3
  obtain ⟨b3, off3, x3, rfl, h3, hc3⟩ := hri.get (k := 0) (by omega)
  obtain ⟨b4, off4, x4, e4, h4, hc4⟩ := hri.get (k := 1) (by omega)
  cases e4
  obtain ⟨b5, off5, x5, e5, h5, hc5⟩ := hri.get (k := 2) (by omega)
  cases e5
  have ht := j_at hr
  rw [getD_of h3, getD_of h4, getD_of h5] at ht
  rw [Nat.add_zero] at hc3
  exact ⟨b2, off2, b3, off3, c, rfl, hcr, by rw [ht.1]; exact hc3, by rw [ht.2.1]; exact hc4, by rw [ht.2.2]; exact hc5, hlc⟩
theorem sum_bd {f : Nat → Int} {B : Int} (h : ∀ x, 0 ≤ f x ∧ f x ≤ B) (l : List Nat) (k : Nat) : 0 ≤ sumL f (l.take k) ∧ sumL f (l.take k) ≤ B * ((l.take k).length : Int) :=
  ⟨sumL_nn (fun x => (h x).1) _, sumL_bd (fun x => (h x).2) _⟩
end Go.Proofs.YtjcbpnffmebihaaGreatDoor
namespace Go.Proofs.YtjcbpnffmebihaaGreatDoor
open Go.RowKit Go.WideShapes

def lineP (T ys : List Int) (c : Int) : Prop := (∀ k, k < T.length → T.getD k 0 ≤ c) ∧ tasksP T ys ∧ inB 1 60 c = true
instance (T ys : List Int) (c : Int) : Decidable (lineP T ys c) := by unfold lineP; infer_instance
end Go.Proofs.YtjcbpnffmebihaaGreatDoor
namespace Go.Proofs.YtjcbpnffmebihaaGreatDoor
open Go.RowKit Go.WideShapes

def natI (h : List Nat) : List Int := h.map (fun x : Nat => (x : Int))
theorem natI_get {h : List Nat} {k : Nat} {x : Int} (hx : (natI h)[k]? = some x) : ∃ y : Nat, x = (y : Int) ∧ h[k]? = some y := by
  unfold natI at hx
  rw [List.getElem?_map] at hx
  cases hq : h[k]? with
  | none => rw [hq] at hx; cases hx
  | some y => rw [hq] at hx; simp only [Option.map_some, Option.some.injEq] at hx; exact ⟨y, hx.symm, rfl⟩
end Go.Proofs.YtjcbpnffmebihaaGreatDoor
namespace Go.Proofs.YtjcbpnffmebihaaGreatDoor
open Go.RowKit Go.WideShapes

-- rolls of listed cuts
def encL (y : Int × Int) : List Value := [.int .i64 y.1, .int .i64 y.2]
def RollsL (w : World) (B r : Nat) (R : Int) (v : Value) (vs : List Value) (rows : List (List (Int × Int))) : Prop := RollsW encL 2 160 161 164 w B r R v vs rows
theorem encL_get : ∀ (l : List (Int × Int)) (j : Nat) (y : Int × Int), l[j]? = some y → (l.flatMap encL)[j * 2]? = some (.int .i64 y.1) ∧ (l.flatMap encL)[j * 2 + 1]? = some (.int .i64 y.2)
  | [], j, y, h => by simp at h
  | x :: l, 0, y, h => by
    simp at h
    subst h
    exact ⟨rfl, rfl⟩
  | x :: l, j + 1, y, h => by
    have ih := encL_get l j y (by simpa using h)
    rw [List.flatMap_cons]
    show ([Value.int .i64 x.1, Value.int .i64 x.2] ++ _)[(j + 1) * 2]? = _ ∧ ([Value.int .i64 x.1, Value.int .i64 x.2] ++ _)[(j + 1) * 2 + 1]? = _
    rw [List.getElem?_append_right (by simp; omega), List.getElem?_append_right (by simp; omega)]
    rw [show (j + 1) * 2 - [Value.int .i64 x.1, Value.int .i64 x.2].length = j * 2 by simp; omega, show (j + 1) * 2 + 1 - [Value.int .i64 x.1, Value.int .i64 x.2].length = j * 2 + 1 by simp; omega]
    exact ih
theorem own_listed {w : World} {B : Nat} {e : TypeId} {u : Value} {n : Nat} {l : List (Int × Int)} (h : w.ownsRow B e 2 u n (l.flatMap encL)) : ∃ a c, u = .slice a n c ∧ n ≤ c ∧
    ∀ j y, l[j]? = some y → j < n → ∃ g, a = some ⟨g, 0, none⟩ ∧ g < w.heap.size ∧ w.cell? ⟨g, j * 2, none⟩ = some (.int .i64 y.1) ∧ w.cell? ⟨g, j * 2 + 1, none⟩ = some (.int .i64 y.2) := by
  obtain ⟨a, c, rfl, hc⟩ := own_slice h
  refine ⟨a, c, rfl, hc, fun j y hj hn => ?_⟩
  obtain ⟨g, cap, e, hb, hlt⟩ := h.form (by omega)
  injection e with e1 e2 e3
  subst e1 e3
  obtain ⟨g1, g2⟩ := encL_get l j y hj
  exact ⟨g, rfl, hlt, (h.cellAt (j * 2) (by omega)).trans g1, (h.cellAt (j * 2 + 1) (by omega)).trans g2⟩
end Go.Proofs.YtjcbpnffmebihaaGreatDoor
namespace Go.Proofs.YtjcbpnffmebihaaGreatDoor
open Go.RowKit Go.WideShapes Go.Maps

set_option maxRecDepth 100000 in
set_option maxHeartbeats 4000000 in
theorem bestStock_impl (a : Option Addr) (len cap : Nat) (xs : List Int) (o u : Int) (w : World) (h : IntsAt w (· < w.heap.size) a len xs) :
    Calls Tryz.prog 98 #[.slice a len cap, .int .i64 o, .int .i64 u] w (valN w (.int .i64 (shareRes xs o u))) := by
  cases hc : chM xs
  · rw [shareRes_no (by rw [okO_eq hc rfl]; rfl)]
    go_enter Tryz.func98, Tryz.ntmps98
    go_wp2_with (go_at_call 97; refine (vchI hc _ h).mono ?_; rintro e w' ⟨rfl, rfl⟩)
    go_ret
    exact ⟨rfl, Below.refl _ _⟩
  · cases ho : (inB 0 30 o && inB 0 30 u)
    · rw [shareRes_no (by rw [okO_eq hc ho]; rfl)]
      go_enter Tryz.func98, Tryz.ntmps98
      go_wp2_with (first | (go_at_call 97; refine (vchI hc _ h).mono ?_; rintro e w' ⟨rfl, rfl⟩) | (go_at_call 90; refine (areC ho _).mono ?_; rintro e w' ⟨rfl, rfl⟩))
      go_ret
      exact ⟨rfl, Below.refl _ _⟩
    · have hok : okO xs o u = true := by rw [okO_eq hc ho]; rfl
      rw [shareRes_yes hok]
      obtain ⟨_, ho0, ho1, hu0, hu1⟩ := okO_at hok
      have hsl := (share_is hc ho0 hu0).1
      have hl7 := (chM_at hc).2.1
      have HSC := Lib.hid (fun w' (hb : Below w.heap.size w w') (k : Nat) (hk : k ≤ 7) => (show Calls Tryz.prog 132 #[.slice a len cap, .int .i64 k, .int .i64 o, .int .i64 u] w' (valN w' (.int .i64 (costS xs k o u))) by
        have hh := stockCost_impl a len cap xs (k : Int) o u w' ((h.below hb).to (fun b hb2 => ⟨Nat.lt_of_lt_of_le hb2 hb.size, rfl⟩))
        rwa [stockRes_yes hok hk] at hh))
      have HST := Lib.hid (fun k => best_step (xs := xs) (k := k) hc ho0 hu0)
      have HBD := Lib.hid (fun k (hk : k ≤ 8) => costS_bd hok (s := k) hk)
      obtain ⟨S, hS⟩ : ∃ S, shareN xs o u = S := ⟨_, rfl⟩
      rw [hS] at hsl HST ⊢
      clear hS
      have hS7 : S ≤ 6 := by omega
      clear hsl hl7
      go_enter Tryz.func98, Tryz.ntmps98
      go_wp2_with (first | (go_at_call 97; refine (vchI hc _ h).mono ?_; rintro e w' ⟨rfl, rfl⟩) | (go_at_call 90; refine (areC ho _).mono ?_; rintro e w' ⟨rfl, rfl⟩))
      clear h hc ho hok
      go_loopw [7, 18] (fun b i wr => ∃ k : Nat, k ≤ 8 ∧ i = .int .i64 k ∧ b = .int .i64 ((min S (k - 1) : Nat) : Int) ∧ Below w.heap.size w wr) (fun _ i _ => 8 - (intOf i).toNat)
      case atStart => exact ⟨0, by omega, rfl, by simp, Below.refl _ _⟩
      case round =>
        obtain ⟨k, hk, rfl, rfl, hb⟩ := hrel
        have HB := Lib.hid hb
        have hst := HST.out k
        obtain ⟨B, hB⟩ : ∃ B, min S (k - 1) = B := ⟨_, rfl⟩
        have hB7 : B ≤ 7 := by omega
        rw [hB] at hst ⊢
        by_cases hlt : k < 8
        · have hkI : (k : Int) < 8 := by omega
          have b1 := HBD.out k (by omega)
          have b2 := HBD.out B (by omega)
          have C1 := Lib.hid (fun w' hb => HSC.out w' hb k (by omega))
          have C2 := Lib.hid (fun w' hb => HSC.out w' hb B (by omega))
          obtain ⟨x, hx⟩ : ∃ x, costS xs k o u = x := ⟨_, rfl⟩
          obtain ⟨y, hy⟩ : ∃ y, costS xs B o u = y := ⟨_, rfl⟩
          rw [hx, hy] at hst
          rw [hx] at C1 b1
          rw [hy] at C2 b2
          clear hx hy hb
          have HST1 := Lib.hid hst
          clear hst
          go_wp2_with fail
          refine (C1.out _ HB.out).mono ?_
          rintro e w2 ⟨rfl, hb2⟩
          have HB2 := Lib.hid (HB.out.trans (hb2.mono HB.out.size))
          clear hb2
          go_wp2_with fail
          refine (C2.out _ HB2.out).mono ?_
          rintro e w3 ⟨rfl, hb3⟩
          have HB3 := Lib.hid (HB2.out.trans (hb3.mono HB2.out.size))
          clear hb3
          by_cases hxy : x < y
          · go_wp2_with fail
            go_roundw
            case rel => exact ⟨k + 1, by omega, by go_num, by rw [show k + 1 - 1 = k by omega, ← HST1.out, if_pos hxy], HB3.out⟩
            case measure => simp [intOf]; omega
          · go_wp2_with fail
            go_roundw
            case rel => exact ⟨k + 1, by omega, by go_num, by rw [show k + 1 - 1 = k by omega, ← HST1.out, if_neg (by omega)], HB3.out⟩
            case measure => simp [intOf]; omega
        · obtain rfl : k = 8 := by omega
          go_wp2_with fail
          go_ret
          exact ⟨ret_int (by rw [← hB]; omega), HB.out⟩
end Go.Proofs.YtjcbpnffmebihaaGreatDoor
