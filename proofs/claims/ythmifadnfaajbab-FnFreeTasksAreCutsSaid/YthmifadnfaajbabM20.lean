import Derived.Test.YthmifadnfaajbabRows
import Derived.WalkKit
import Derived.LoopTactic
import Derived.Outline
import Derived.WalkSpells
import Derived.WalkLawsBesides
import Derived.ProofKit
import Derived.Test.YthmifadnfaajbabM0
import Derived.Test.YthmifadnfaajbabM5
import Derived.Test.YthmifadnfaajbabM1
import Derived.Test.YthmifadnfaajbabM2
import Derived.Test.YthmifadnfaajbabM7
import Derived.Test.YthmifadnfaajbabM17
namespace Go.Proofs.Ythmifadnfaajbab
open Go.RowKit Go.WideShapes

/-- a list that is drawn: numbers in lo..hi -/
def ListPost (w : World) (R p n : Nat) (lo hi : Int) (e : Ending) (w' : World) : Prop := ∃ (a : Option Addr) (cap : Nat) (xs : List Int), e = .returned (.slice a n cap) ∧
  w'.ownsRow w.heap.size 3 1 (.slice a n cap) n (xs.map (.int .i64)) ∧ n ≤ cap ∧ xs.length = n ∧ (∀ x ∈ xs, lo ≤ x ∧ x ≤ hi) ∧ Rd w' R (p + n) ∧ w.grownBy w' (some R)

set_option maxRecDepth 100000 in
set_option maxHeartbeats 2000000 in
theorem listOf_any (R p n : Nat) (lo hi : Int) (w : World) (h : Rd w R p) (hp : p ≤ 1000000) (hn : n ≤ 1000) (hlo : -1000 ≤ lo) (hlh : lo ≤ hi) (hhi : hi ≤ 1000) :
    Calls Try.prog 42 #[.pointer (some ⟨R, 0, none⟩), .int .i64 n, .int .i64 lo, .int .i64 hi] w (ListPost w R p n lo hi) := by
  have hR := h.lt
  obtain ⟨i0, hi0, hz0, hz1, hz2⟩ := info_parts Try.infoIntD
  have ho0 := World.ownsRow_made (base := w.heap.size) (size := 1) (e := 3) w #[] 0 (Nat.le_refl _) (Nat.zero_le _) rfl
  go_enter Try.func42, Try.ntmps42
  go_wp2_with fail
  go_loopw [9] (fun v wr => ∃ (k cap : Nat) (a : Option Addr) (xs : List Int), v = .slice a k cap ∧ wr.ownsRow w.heap.size 3 1 v k (xs.map (.int .i64)) ∧ k ≤ n ∧ (∀ x ∈ xs, lo ≤ x ∧ x ≤ hi) ∧ Rd wr R (p + k) ∧ w.grownBy wr (some R)) (fun v _ => n - capOf v)
  case atStart => exact ⟨0, _, _, [], rfl, ho0, Nat.zero_le _, (fun x hx => by cases hx), h.alloc _, World.grownBy_alloc _ _ _⟩
  case round =>
    obtain ⟨k, cap, a, xs, rfl, hown, hkm, hall, hr, hg⟩ := hrel
    obtain ⟨wo, rfl⟩ : ∃ wo : World, wo = wr := ⟨_, rfl⟩
    have hsz := hg.size
    have HOWN := Lib.hid hown
    have HALL := Lib.hid hall
    clear hown hall
    by_cases hlt : k < n
    · go_wp2_with fail
      refine (pick_any R (p + k) (hi - lo + 1) wo hr (by omega)).mono ?_
      rintro e w5 ⟨q1, rfl, hq1, hr5, hgw⟩
      have HO5 := Lib.hid (HOWN.out.kept hgw (ne_low HOWN.out hR))
      have hg6 := grown_r hg hgw
      have hxb : lo ≤ lo + (q1 : Int) ∧ lo + (q1 : Int) ≤ hi := by omega
      go_wp2_with (at_builtin; refine wpList_append_own _ rfl _ _ 22 rfl w.heap.size 3 i0 (.int .i64 0) 1 8 Try.underlying22 hi0 hz0 hz1 hz2 rfl (by decide) _ _ _ rfl (HO5.out.alloc _) ⟨w5.heap.size, 0, none⟩ 1 1 [.int .i64 (lo + (q1 : Int))] rfl rfl ?c1 ?c2 ?c3 ?c4 ?c5 ?_)
      case c1 => exact one_new _ _ _
      case c2 => exact one_cell_int _ _
      case c3 => unfold maxLen; omega
      case c4 => omega
      case c5 => have := hgw.size; simp; omega
      intro v' w6 hown hgrow _
      obtain ⟨a6, c6, rfl, _⟩ := own_slice hown
      have hgr : w5.grownBy w6 (Value.slice a k cap).ownBlock := grown_comp (World.grownBy_alloc w5 _ _) hgrow
      have HO6 := Lib.hid hown
      have HG6 := Lib.hid hgr
      clear hown hgr hgrow
      go_wp2
      go_roundw
      case rel => exact ⟨k + 1, c6, a6, xs ++ [lo + (q1 : Int)], rfl, by rw [List.map_append]; exact HO6.out, by omega, (fun y hy => by
        rcases List.mem_append.1 hy with h' | h'
        · exact HALL.out y h'
        · simp only [List.mem_singleton] at h'; rw [h']; exact hxb), hr5.grown HG6.out (by intro b hb; have := (HO5.out.lt b hb).1; omega), grown_trans hg6 HG6.out (by intro b hb; have := (HO5.out.lt b hb).1; omega)⟩
      case measure => simp [capOf]; omega
    · obtain rfl : k = n := by omega
      go_wp2
      go_ret
      obtain ⟨a', c', e, hc⟩ := own_slice HOWN.out
      simp only [Value.slice.injEq] at e
      obtain ⟨rfl, _, rfl⟩ := e
      have hl := HOWN.out.1
      exact ⟨_, _, xs, rfl, HOWN.out, hc, by simpa using hl, HALL.out, hr, hg⟩
end Go.Proofs.Ythmifadnfaajbab
namespace Go.Proofs.Ythmifadnfaajbab
open Go.RowKit Go.WideShapes

/-- two lists behind a reader, whatever they hold -/
def TasksPost (w : World) (R p : Nat) (e : Ending) (w' : World) : Prop := ∃ (a : Option Addr) (l c : Nat) (xs : List Int) (a2 : Option Addr) (l2 c2 : Nat) (ys : List Int) (p' : Nat), e = .returned (.tuple #[.slice a l c, .slice a2 l2 c2]) ∧
  LAt w' R w'.heap.size a l xs ∧ l ≤ c ∧ l ≤ 8 ∧ LAt w' R w'.heap.size a2 l2 ys ∧ l2 ≤ c2 ∧ l2 ≤ 8 ∧ Rd w' R p' ∧ p' ≤ p + 1000 ∧ w.grownBy w' (some R)
theorem task_n {n : Int} (h : n ∈ [4, 5, 6, 3, 2, 1, 0]) : ∃ m : Nat, n = (m : Int) ∧ m ≤ 6 := by simp at h; exact ⟨n.toNat, by omega, by omega⟩
theorem task_hi {n : Int} (h : n ∈ [5, 9, 3]) : 1 ≤ n ∧ n ≤ 9 := by simp at h; omega
theorem lat_of {w : World} {R B l cp : Nat} {a : Option Addr} {xs : List Int} (h : w.ownsRow B 3 1 (.slice a l cp) l (xs.map (.int .i64))) (hR : R < B) (hl : l ≤ 9223372036854775807) : LAt w R w.heap.size a l xs := by
  obtain ⟨ay, cy, hve, _, hints⟩ := own_ints h hl
  simp only [Value.slice.injEq] at hve
  obtain ⟨rfl, _, rfl⟩ := hve
  exact ⟨hints.to (fun b hb => ⟨⟨by omega, hb.2⟩, rfl⟩), Nat.le_refl _⟩
set_option maxRecDepth 100000 in
set_option maxHeartbeats 4000000 in
theorem someTasks_any (R p : Nat) (w : World) (h : Rd w R p) (hp : p ≤ 900000) :
    Calls Try.prog 26 #[.pointer (some ⟨R, 0, none⟩)] w (TasksPost w R p) := by
  have hR := h.lt
  go_enter Try.func26, Try.ntmps26
  go_wp2_with fail
  refine (one_any (fun k => k = w.heap.size) R p _ 7 7 [4, 5, 6, 3, 2, 1, 0] _ (h.alloc _) (IntsAt.lit rfl rfl rfl (by omega)) (by intro b hb; simp; omega) (by omega) (by omega)).mono ?_
  rintro e w1 ⟨n', hn', rfl, hr1, hg1⟩
  obtain ⟨n, rfl, hn6⟩ := task_n hn'
  clear hn'
  have gw1 : w.grownBy w1 (some R) := grown_r (World.grownBy_alloc _ _ _) hg1
  go_wp2_with fail
  refine (one_any (fun k => k = w1.heap.size) R (p + 1) _ 3 3 [5, 9, 3] _ (hr1.alloc _) (IntsAt.lit rfl rfl rfl (by omega)) (by intro b hb; have := hr1.lt; simp; omega) (by omega) (by omega)).mono ?_
  rintro e w2 ⟨hi, hhi, rfl, hr2, hg2⟩
  obtain ⟨hi1, hi2⟩ := task_hi hhi
  clear hhi
  have gw2 := grown_r gw1 (grown_r (World.grownBy_alloc _ _ _) hg2)
  go_wp2_with fail
  refine (listOf_any R (p + 1 + 1) n 1 hi w2 hr2 (by omega) (by omega) (by omega) hi1 (by omega)).mono ?_
  rintro e w3 ⟨a5, c5, ts, rfl, ho5, hc5, hl5, _, hr3, hg3⟩
  have gw3 := grown_r gw2 hg3
  have hR2 := hr2.lt
  have HO5 := Lib.hid ho5
  have ho0 := World.ownsRow_made (base := w3.heap.size) (size := 1) (e := 3) w3 #[] 0 (Nat.le_refl _) (Nat.zero_le _) rfl
  have HR3 := Lib.hid hr3.lt
  have HS23 := Lib.hid hg3.size
  clear ho5 hg1 hg2 hg3
  go_wp2_with fail
  go_loopw [6] (fun v wr => ∃ (k p' cap : Nat) (a : Option Addr) (ys : List Int), v = .slice a k cap ∧ wr.ownsRow w3.heap.size 3 1 v k (ys.map (.int .i64)) ∧ k ≤ n ∧ Rd wr R p' ∧ p' ≤ p + 20 + 10 * k ∧ w3.grownBy wr (some R)) (fun v _ => n - capOf v)
  case atStart => exact ⟨0, _, _, _, [], rfl, ho0, Nat.zero_le _, hr3.alloc _, by omega, World.grownBy_alloc _ _ _⟩
  case round =>
    clear ho0
    obtain ⟨k, p', cap, a, ys, rfl, hown, hkm, hr, hpp, hg⟩ := hrel
    obtain ⟨wo, rfl⟩ : ∃ wo : World, wo = wr := ⟨_, rfl⟩
    have HOWN := Lib.hid hown
    clear hown
    by_cases hlt : k < n
    · go_wp2_with fail
      go_loopw [7, 8] (fun sv jv wr => ∃ (j : Nat) (s : Int) (p2 : Nat), j ≤ k ∧ jv = .int .i64 (j : Int) ∧ sv = .int .i64 s ∧ Rd wr R p2 ∧ p2 ≤ p' + j ∧ wo.grownBy wr (some R)) (fun _ jv _ => k - (intOf jv).toNat)
      case atStart => exact ⟨0, 0, p', Nat.zero_le _, rfl, rfl, hr, by omega, grown_refl _ _⟩
      case round =>
        obtain ⟨j, s, p2, hj, rfl, rfl, hr', hp2, hg'⟩ := hrel
        by_cases hjk : j < k
        · go_wp2_with fail
          refine (pick_any R p2 3 wr hr' (by omega)).mono ?_
          rintro e w4 ⟨q1, rfl, hq1, hr4, hg4⟩
          have hg5 := grown_r hg' hg4
          by_cases hq : q1 = 0
          · subst hq
            go_wp2_with fail
            refine (power_all j (by omega) w4).mono ?_
            rintro e w' ⟨rfl, rfl⟩
            go_wp2_with fail
            go_roundw
            case rel => exact ⟨j + 1, _, p2 + 1, by omega, by go_num, rfl, hr4, by omega, hg5⟩
            case measure => simp [intOf] <;> omega
          · have hqe : ((q1 : Int) == 0) = false := by simp; omega
            go_wp2_with fail
            go_roundw
            case rel => exact ⟨j + 1, _, p2 + 1, by omega, by go_num, rfl, hr4, by omega, hg5⟩
            case measure => simp [intOf] <;> omega
        · have hwr := Lib.hid hr'
          have HG := Lib.hid hg'
          have HO2 := Lib.hid (HOWN.out.kept hg' (ne_low HOWN.out HR3.out))
          have hsz := hg.size
          have hsz' := hg'.size
          clear hg'
          go_wp2_with (at_builtin; refine wpApp1 rfl _ _ rfl w3.heap.size k cap a ys s rfl HO2.out rfl (by omega) (by omega) ?_)
          intro a6 c6 w6 hown6 hc6 hgr6
          have HO6 := Lib.hid (own_snoc hown6)
          have HG6 := Lib.hid hgr6
          clear hown6 hgr6
          go_wp2
          go_roundw
          case rel => exact ⟨k + 1, p2, c6, a6, ys ++ [s], rfl, HO6.out, by omega, hwr.out.grown HG6.out (by intro b hb; have := (HO2.out.lt b hb).1; have := HR3.out; omega), by omega, grown_trans (grown_r hg HG.out) HG6.out (by intro b hb; have := (HO2.out.lt b hb).1; omega)⟩
          case measure => simp [capOf] <;> omega
    · obtain rfl : k = n := by omega
      have HO5b := Lib.hid (HO5.out.kept (row := some R) hg (by
        cases hv : (Value.slice a5 k c5).ownBlock with
        | none => exact Or.inl rfl
        | some z => right; have := HO5.out.lt z hv; intro e; injection e; omega))
      have HG := Lib.hid (grown_r gw3 hg)
      have hszw := gw2.size
      have hsz3 := gw3.size
      have hszo := hg.size
      go_wp2_with fail
      refine (pick_any R p' 40 wo hr (by omega)).mono ?_
      rintro e w4 ⟨q1, rfl, hq1, hr4, hg4⟩
      have HO6 := Lib.hid (HOWN.out.kept hg4 (ne_low HOWN.out HR3.out))
      have HT6 := Lib.hid (HO5b.out.kept (row := some R) hg4 (by
        cases hv : (Value.slice a5 k c5).ownBlock with
        | none => exact Or.inl rfl
        | some z => right; have := HO5.out.lt z hv; intro e; injection e; omega))
      have HG4 := Lib.hid (grown_r HG.out hg4)
      obtain ⟨_, _, he6, hcc6⟩ := own_slice HO6.out
      simp only [Value.slice.injEq] at he6
      obtain ⟨rfl, _, rfl⟩ := he6
      have HS34 := Lib.hid (Nat.le_trans hg.size hg4.size)
      clear hg hg4
      by_cases hq0 : q1 = 0
      · subst hq0
        have HY := Lib.hid (lat_of HO6.out HR3.out (by omega))
        go_wp2_with (at_builtin; refine wpApp1 rfl _ _ rfl w2.heap.size k c5 a5 ts 1 rfl HT6.out rfl (by have := HS23.out; have := HS34.out; omega) (by omega) ?_)
        intro a7 c7 w7 hown7 hc7 hgr7
        have HO7 := Lib.hid (own_snoc hown7)
        have HG7 := Lib.hid hgr7
        clear hown7 hgr7
        go_wp2
        go_ret2
        refine ⟨a7, k + 1, c7, ts ++ [1], _, k, _, ys, p' + 1, rfl, lat_of HO7.out hR2 (by omega), hc7, by omega, ?_, hcc6, by omega, hr4.grown HG7.out (by intro b hb; have := (HT6.out.lt b hb).1; omega), by omega, grown_trans HG4.out HG7.out (by intro b hb; have := (HT6.out.lt b hb).1; omega)⟩
        exact lat_of (HO6.out.kept HG7.out (by
          generalize hv : Value.ownBlock _ = o
          cases o with
          | none => exact Or.inl rfl
          | some z => right; intro e; have h1 := HO6.out.lt z hv; have h2 := HO5.out.lt z e.symm; omega)) HR3.out (by omega)
      · have hq0' : ((q1 : Int) == 0) = false := by simp; omega
        by_cases hq1' : q1 = 1
        · subst hq1'
          by_cases hk0 : 0 < k
          · obtain ⟨g, v0, rfl, hgB, hc0, hf0⟩ := own_place HO6.out (j := 0) hk0
            have hk0' : (0 : Int) < (k : Int) := by omega
            go_wp2
            go_ret2
            obtain ⟨h7, g7⟩ := HO6.out.stored 0 (.int .i64 1)
            refine ⟨_, k, _, ts, _, k, _, ys.set 0 1, p' + 1, rfl, ?_, hc5, by omega, lat_of (by rw [List.map_set]; exact h7) HR3.out (by omega), hcc6, by omega, hr4.grown g7 (by intro b hb; have := (HO6.out.lt b hb).1; have := HR3.out; omega), by omega, grown_trans HG4.out g7 (by intro b hb; have := (HO6.out.lt b hb).1; omega)⟩
            exact lat_of (HT6.out.kept g7 (by
              cases hv : (Value.slice a5 k c5).ownBlock with
              | none => exact Or.inl rfl
              | some z => right; have := HO5.out.lt z hv; intro e; have := (HO6.out.lt z e.symm).1; omega)) hR2 (by omega)
          · have hk0' : ¬ (0 : Int) < (k : Int) := by omega
            go_wp2
            go_ret2
            exact ⟨_, k, _, ts, _, k, _, ys, p' + 1, rfl, lat_of HT6.out hR2 (by omega), hc5, by omega, lat_of HO6.out HR3.out (by omega), hcc6, by omega, hr4, by omega, HG4.out⟩
        · have hq1e : ((q1 : Int) == 1) = false := by simp; omega
          go_wp2
          go_ret2
          exact ⟨_, k, _, ts, _, k, _, ys, p' + 1, rfl, lat_of HT6.out hR2 (by omega), hc5, by omega, lat_of HO6.out HR3.out (by omega), hcc6, by omega, hr4, by omega, HG4.out⟩
/-- tasks, drawn -/
def DrawnT (w : World) (e : Ending) (w' : World) : Prop := ∃ (a : Option Addr) (l c : Nat) (xs : List Int) (a2 : Option Addr) (l2 c2 : Nat) (ys : List Int), e = .returned (.tuple #[.slice a l c, .slice a2 l2 c2]) ∧
  IntsAt w' (· < w'.heap.size) a l xs ∧ l ≤ c ∧ l ≤ 8 ∧ IntsAt w' (· < w'.heap.size) a2 l2 ys ∧ l2 ≤ c2 ∧ l2 ≤ 8 ∧ Below w.heap.size w w'
/-- tasks and a number, drawn -/
def DrawnTn (w : World) (e : Ending) (w' : World) : Prop := ∃ (a : Option Addr) (l c : Nat) (xs : List Int) (a2 : Option Addr) (l2 c2 : Nat) (ys : List Int) (n : Int), e = .returned (.tuple #[.slice a l c, .slice a2 l2 c2, .int .i64 n]) ∧
  IntsAt w' (· < w'.heap.size) a l xs ∧ l ≤ c ∧ l ≤ 8 ∧ IntsAt w' (· < w'.heap.size) a2 l2 ys ∧ l2 ≤ c2 ∧ l2 ≤ 8 ∧ 0 ≤ n ∧ n ≤ 61 ∧ Below w.heap.size w w'
set_option maxRecDepth 100000 in
set_option maxHeartbeats 2000000 in
theorem drawPlacesBy_any (a : Option Addr) (len cap : Nat) (w : World) (hb : BytesAt w w.heap.size a len) (hl : len ≤ cap) (hs : len ≤ 9223372036854775807) :
    Calls Try.prog 15 #[.slice a len cap] w (DrawnTn w) := by
  go_enter Try.func15, Try.ntmps15
  go_wp2_with fail
  refine (newReader_any a len cap w hb hl hs).mono ?_
  rintro e w1 ⟨rfl, hr, hb1⟩
  go_wp2_with fail
  refine (someTasks_any w.heap.size 0 w1 hr (by omega)).mono ?_
  rintro e w2 ⟨a2, l2, c2, xs, a3, l3, c3, ys, p2, rfl, h1, h2, h3, h4, h5, h6, hr2, hp2, hg⟩
  go_wp2_with fail
  refine (one_any (fun b => b = w2.heap.size) w.heap.size p2 _ 8 8 [9, 10, 12, 6, 20, 60, 1, 61] _ (hr2.alloc _) (IntsAt.lit rfl rfl rfl (by omega)) (by intro b hb; have := hr2.lt; simp; omega) (by omega) (by omega)).mono ?_
  rintro e w3 ⟨n, hn, rfl, hr3, hg3⟩
  have hnb : 0 ≤ n ∧ n ≤ 61 := by simp at hn; omega
  clear hn
  have hg3 := grown_r (World.grownBy_alloc w2 _ _) hg3
  have hbb : Below w.heap.size w w3 := grown_below (grown_r hg hg3) hb1 hb1.size
  have x1 := (h1.step hg3).low
  have x2 := (h4.step hg3).low
  go_wp2
  go_ret3
  exact ⟨_, _, _, xs, _, _, _, ys, n, rfl, x1, h2, h3, x2, h5, h6, hnb.1, hnb.2, hbb⟩
end Go.Proofs.Ythmifadnfaajbab
namespace Go.Proofs.Ythmifadnfaajbab

-- chapter 11, plain: tasks that need not wait are cuts
def zerosI (n : Nat) : List Int := tab (fun _ => 0) n
theorem natsOf_zeros (n : Nat) : natsOf (zerosI n) = zerosN n := by
  unfold natsOf zerosI zerosN tab
  rw [List.map_map]
  have : ((Int.toNat ∘ fun _ => (0 : Int)) : Nat → Nat) = fun _ => 0 := by funext x; rfl
  rw [this]
  induction n with
  | zero => rfl
  | succ n ih => rw [List.range_succ, List.map_append, ih, List.replicate_succ']; rfl
theorem free_law {T ys : List Int} {c : Int} (h0 : 0 ≤ fewRes T (zerosI T.length) c) (hc : c ≤ 20) :
    rollsRes T c = fewRes T (zerosI T.length) c ∧ (fewRes T ys c < 0 ∨ fewRes T (zerosI T.length) c ≤ fewRes T ys c) := by
  have hP : lineP T (zerosI T.length) c := by
    unfold fewRes at h0
    split at h0
    · assumption
    · omega
  have h1 := lineP_c hP
  have hT := tasks_at hP.2.1.1.1
  have hv : cutsM T c = true := by
    unfold cutsM
    have h6 := hP.2.1.2.2
    rw [decide_eq_true (show T.length ≤ 7 by omega), inB_true (by omega) hc]
    rw [Bool.and_true, Bool.and_true]
    unfold allIn
    rw [List.all_eq_true]
    intro x hx
    obtain ⟨i, hi⟩ := List.mem_iff_getElem?.1 hx
    have hlt := (List.getElem?_eq_some_iff.1 hi).1
    have a := hT.2 i hlt
    have b := hP.1 i hlt
    rw [getD_of hi] at a b
    exact inB_true a b
  have hF : fewRes T (zerosI T.length) c = fewM T (zerosN T.length) c := by unfold fewRes; rw [if_pos hP, natsOf_zeros]
  refine ⟨by unfold rollsRes; rw [hv, hF]; rfl, ?_⟩
  by_cases hQ : lineP T ys c
  · right
    have hG : fewRes T ys c = fewM T (natsOf ys) c := if_pos hQ
    have hl : (natsOf ys).length = T.length := by rw [natsOf_len]; exact hQ.2.1.2.1
    have hn := (few_facts hQ).1.1
    obtain ⟨p, hp⟩ := few_get (T := T) (A := natsOf ys) (c := c) hl (by omega) (natsOf_hA hQ.2.1.1.2) hn
    have := (few_le (T := T) (A := zerosN T.length) (c := c) (by simp [zerosN]) (fun i k h => by rw [zeros_bit] at h; cases h) ⟨hp.low, fun i hi k h => (by rw [zeros_bit] at h; cases h), hp.load⟩).2
    rw [hF, hG]
    omega
  · left
    unfold fewRes
    rw [if_neg hQ]; omega
end Go.Proofs.Ythmifadnfaajbab
