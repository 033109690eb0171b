import Derived.Test.YtobfencmfeneoaaRows
import Derived.WalkKit
import Derived.LoopTactic
import Derived.Outline
import Derived.WalkSpells
import Derived.WalkLawsBesides
import Derived.ProofKit
import Derived.Test.YtobfencmfeneoaaLib
import Derived.Test.YtobfencmfeneoaaRd
import Derived.Test.YtobfencmfeneoaaGen
import Derived.Test.YtobfencmfeneoaaOwn1
import Derived.Test.YtobfencmfeneoaaPick
import Derived.Test.YtobfencmfeneoaaNewReader
import Derived.Test.YtobfencmfeneoaaDr
import Derived.Test.YtobfencmfeneoaaApp
import Derived.Test.YtobfencmfeneoaaListOf
import Derived.Test.YtobfencmfeneoaaDays
import Derived.Test.YtobfencmfeneoaaTaskSpec
namespace Go.Proofs.Ytobfencmfeneoaa
open Go.RowKit Go.WideShapes

/-- two lists behind a reader, whatever they hold -/
def TasksPost (w : World) (R p : Nat) (e : Ending) (w' : World) : Prop := ∃ (a : Option Addr) (l c : Nat) (xs : List Int) (a2 : Option Addr) (l2 c2 : Nat) (ys : List Int) (p' : Nat), e = .returned (.tuple #[.slice a l c, .slice a2 l2 c2]) ∧
  LAt w' R w'.heap.size a l xs ∧ l ≤ c ∧ l ≤ 8 ∧ LAt w' R w'.heap.size a2 l2 ys ∧ l2 ≤ c2 ∧ l2 ≤ 8 ∧ Rd w' R p' ∧ p' ≤ p + 1000 ∧ w.grownBy w' (some R)
theorem task_n {n : Int} (h : n ∈ [4, 5, 6, 3, 2, 1, 0]) : ∃ m : Nat, n = (m : Int) ∧ m ≤ 6 := by simp at h; exact ⟨n.toNat, by omega, by omega⟩
theorem task_hi {n : Int} (h : n ∈ [5, 9, 3]) : 1 ≤ n ∧ n ≤ 9 := by simp at h; omega
theorem lat_of {w : World} {R B l cp : Nat} {a : Option Addr} {xs : List Int} (h : w.ownsRow B 3 1 (.slice a l cp) l (xs.map (.int .i64))) (hR : R < B) (hl : l ≤ 9223372036854775807) : LAt w R w.heap.size a l xs := by
  obtain ⟨ay, cy, hve, _, hints⟩ := own_ints h hl
  simp only [Value.slice.injEq] at hve
  obtain ⟨rfl, _, rfl⟩ := hve
  exact ⟨hints.to (fun b hb => ⟨⟨by omega, hb.2⟩, rfl⟩), Nat.le_refl _⟩
set_option maxRecDepth 100000 in
set_option maxHeartbeats 4000000 in
theorem someTasks_any (R p : Nat) (w : World) (h : Rd w R p) (hp : p ≤ 900000) :
    Calls Try.prog 20 #[.pointer (some ⟨R, 0, none⟩)] w (TasksPost w R p) := by
  have hR := h.lt
  go_enter Try.func20, Try.ntmps20
  go_wp2_with fail
  refine (one_any (fun k => k = w.heap.size) R p _ 7 7 [4, 5, 6, 3, 2, 1, 0] _ (h.alloc _) (IntsAt.lit rfl rfl rfl (by omega)) (by intro b hb; simp; omega) (by omega) (by omega)).mono ?_
  rintro e w1 ⟨n', hn', rfl, hr1, hg1⟩
  obtain ⟨n, rfl, hn6⟩ := task_n hn'
  clear hn'
  have gw1 : w.grownBy w1 (some R) := grown_r (World.grownBy_alloc _ _ _) hg1
  go_wp2_with fail
  refine (one_any (fun k => k = w1.heap.size) R (p + 1) _ 3 3 [5, 9, 3] _ (hr1.alloc _) (IntsAt.lit rfl rfl rfl (by omega)) (by intro b hb; have := hr1.lt; simp; omega) (by omega) (by omega)).mono ?_
  rintro e w2 ⟨hi, hhi, rfl, hr2, hg2⟩
  obtain ⟨hi1, hi2⟩ := task_hi hhi
  clear hhi
  have gw2 := grown_r gw1 (grown_r (World.grownBy_alloc _ _ _) hg2)
  go_wp2_with fail
  refine (listOf_any R (p + 1 + 1) n 1 hi w2 hr2 (by omega) (by omega) (by omega) hi1 (by omega)).mono ?_
  rintro e w3 ⟨a5, c5, ts, rfl, ho5, hc5, hl5, _, hr3, hg3⟩
  have gw3 := grown_r gw2 hg3
  have hR2 := hr2.lt
  have HO5 := Lib.hid ho5
  have ho0 := World.ownsRow_made (base := w3.heap.size) (size := 1) (e := 3) w3 #[] 0 (Nat.le_refl _) (Nat.zero_le _) rfl
  have HR3 := Lib.hid hr3.lt
  have HS23 := Lib.hid hg3.size
  clear ho5 hg1 hg2 hg3
  go_wp2_with fail
  go_loopw [6] (fun v wr => ∃ (k p' cap : Nat) (a : Option Addr) (ys : List Int), v = .slice a k cap ∧ wr.ownsRow w3.heap.size 3 1 v k (ys.map (.int .i64)) ∧ k ≤ n ∧ Rd wr R p' ∧ p' ≤ p + 20 + 10 * k ∧ w3.grownBy wr (some R)) (fun v _ => n - capOf v)
  case atStart => exact ⟨0, _, _, _, [], rfl, ho0, Nat.zero_le _, hr3.alloc _, by omega, World.grownBy_alloc _ _ _⟩
  case round =>
    clear ho0
    obtain ⟨k, p', cap, a, ys, rfl, hown, hkm, hr, hpp, hg⟩ := hrel
    obtain ⟨wo, rfl⟩ : ∃ wo : World, wo = wr := ⟨_, rfl⟩
    have HOWN := Lib.hid hown
    clear hown
    by_cases hlt : k < n
    · go_wp2_with fail
      go_loopw [7, 8] (fun sv jv wr => ∃ (j : Nat) (s : Int) (p2 : Nat), j ≤ k ∧ jv = .int .i64 (j : Int) ∧ sv = .int .i64 s ∧ Rd wr R p2 ∧ p2 ≤ p' + j ∧ wo.grownBy wr (some R)) (fun _ jv _ => k - (intOf jv).toNat)
      case atStart => exact ⟨0, 0, p', Nat.zero_le _, rfl, rfl, hr, by omega, grown_refl _ _⟩
      case round =>
        obtain ⟨j, s, p2, hj, rfl, rfl, hr', hp2, hg'⟩ := hrel
        by_cases hjk : j < k
        · go_wp2_with fail
          refine (pick_any R p2 3 wr hr' (by omega)).mono ?_
          rintro e w4 ⟨q1, rfl, hq1, hr4, hg4⟩
          have hg5 := grown_r hg' hg4
          by_cases hq : q1 = 0
          · subst hq
            go_wp2_with fail
            refine (power_all j (by omega) w4).mono ?_
            rintro e w' ⟨rfl, rfl⟩
            go_wp2_with fail
            go_roundw
            case rel => exact ⟨j + 1, _, p2 + 1, by omega, by go_num, rfl, hr4, by omega, hg5⟩
            case measure => simp [intOf] <;> omega
          · have hqe : ((q1 : Int) == 0) = false := by simp; omega
            go_wp2_with fail
            go_roundw
            case rel => exact ⟨j + 1, _, p2 + 1, by omega, by go_num, rfl, hr4, by omega, hg5⟩
            case measure => simp [intOf] <;> omega
        · have hwr := Lib.hid hr'
          have HG := Lib.hid hg'
          have HO2 := Lib.hid (HOWN.out.kept hg' (ne_low HOWN.out HR3.out))
          have hsz := hg.size
          have hsz' := hg'.size
          clear hg'
          go_wp2_with (at_builtin; refine wpApp1 rfl _ _ rfl w3.heap.size k cap a ys s rfl HO2.out rfl (by omega) (by omega) ?_)
          intro a6 c6 w6 hown6 hc6 hgr6
          have HO6 := Lib.hid (own_snoc hown6)
          have HG6 := Lib.hid hgr6
          clear hown6 hgr6
          go_wp2
          go_roundw
          case rel => exact ⟨k + 1, p2, c6, a6, ys ++ [s], rfl, HO6.out, by omega, hwr.out.grown HG6.out (by intro b hb; have := (HO2.out.lt b hb).1; have := HR3.out; omega), by omega, grown_trans (grown_r hg HG.out) HG6.out (by intro b hb; have := (HO2.out.lt b hb).1; omega)⟩
          case measure => simp [capOf] <;> omega
    · obtain rfl : k = n := by omega
      have HO5b := Lib.hid (HO5.out.kept (row := some R) hg (by
        cases hv : (Value.slice a5 k c5).ownBlock with
        | none => exact Or.inl rfl
        | some z => right; have := HO5.out.lt z hv; intro e; injection e; omega))
      have HG := Lib.hid (grown_r gw3 hg)
      have hszw := gw2.size
      have hsz3 := gw3.size
      have hszo := hg.size
      go_wp2_with fail
      refine (pick_any R p' 40 wo hr (by omega)).mono ?_
      rintro e w4 ⟨q1, rfl, hq1, hr4, hg4⟩
      have HO6 := Lib.hid (HOWN.out.kept hg4 (ne_low HOWN.out HR3.out))
      have HT6 := Lib.hid (HO5b.out.kept (row := some R) hg4 (by
        cases hv : (Value.slice a5 k c5).ownBlock with
        | none => exact Or.inl rfl
        | some z => right; have := HO5.out.lt z hv; intro e; injection e; omega))
      have HG4 := Lib.hid (grown_r HG.out hg4)
      obtain ⟨_, _, he6, hcc6⟩ := own_slice HO6.out
      simp only [Value.slice.injEq] at he6
      obtain ⟨rfl, _, rfl⟩ := he6
      have HS34 := Lib.hid (Nat.le_trans hg.size hg4.size)
      clear hg hg4
      by_cases hq0 : q1 = 0
      · subst hq0
        have HY := Lib.hid (lat_of HO6.out HR3.out (by omega))
        go_wp2_with (at_builtin; refine wpApp1 rfl _ _ rfl w2.heap.size k c5 a5 ts 1 rfl HT6.out rfl (by have := HS23.out; have := HS34.out; omega) (by omega) ?_)
        intro a7 c7 w7 hown7 hc7 hgr7
        have HO7 := Lib.hid (own_snoc hown7)
        have HG7 := Lib.hid hgr7
        clear hown7 hgr7
        go_wp2
        go_ret2
        refine ⟨a7, k + 1, c7, ts ++ [1], _, k, _, ys, p' + 1, rfl, lat_of HO7.out hR2 (by omega), hc7, by omega, ?_, hcc6, by omega, hr4.grown HG7.out (by intro b hb; have := (HT6.out.lt b hb).1; omega), by omega, grown_trans HG4.out HG7.out (by intro b hb; have := (HT6.out.lt b hb).1; omega)⟩
        exact lat_of (HO6.out.kept HG7.out (by
          generalize hv : Value.ownBlock _ = o
          cases o with
          | none => exact Or.inl rfl
          | some z => right; intro e; have h1 := HO6.out.lt z hv; have h2 := HO5.out.lt z e.symm; omega)) HR3.out (by omega)
      · have hq0' : ((q1 : Int) == 0) = false := by simp; omega
        by_cases hq1' : q1 = 1
        · subst hq1'
          by_cases hk0 : 0 < k
          · obtain ⟨g, v0, rfl, hgB, hc0, hf0⟩ := own_place HO6.out (j := 0) hk0
            have hk0' : (0 : Int) < (k : Int) := by omega
            go_wp2
            go_ret2
            obtain ⟨h7, g7⟩ := HO6.out.stored 0 (.int .i64 1)
            refine ⟨_, k, _, ts, _, k, _, ys.set 0 1, p' + 1, rfl, ?_, hc5, by omega, lat_of (by rw [List.map_set]; exact h7) HR3.out (by omega), hcc6, by omega, hr4.grown g7 (by intro b hb; have := (HO6.out.lt b hb).1; have := HR3.out; omega), by omega, grown_trans HG4.out g7 (by intro b hb; have := (HO6.out.lt b hb).1; omega)⟩
            exact lat_of (HT6.out.kept g7 (by
              cases hv : (Value.slice a5 k c5).ownBlock with
              | none => exact Or.inl rfl
              | some z => right; have := HO5.out.lt z hv; intro e; have := (HO6.out.lt z e.symm).1; omega)) hR2 (by omega)
          · have hk0' : ¬ (0 : Int) < (k : Int) := by omega
            go_wp2
            go_ret2
            exact ⟨_, k, _, ts, _, k, _, ys, p' + 1, rfl, lat_of HT6.out hR2 (by omega), hc5, by omega, lat_of HO6.out HR3.out (by omega), hcc6, by omega, hr4, by omega, HG4.out⟩
        · have hq1e : ((q1 : Int) == 1) = false := by simp; omega
          go_wp2
          go_ret2
          exact ⟨_, k, _, ts, _, k, _, ys, p' + 1, rfl, lat_of HT6.out hR2 (by omega), hc5, by omega, lat_of HO6.out HR3.out (by omega), hcc6, by omega, hr4, by omega, HG4.out⟩
/-- tasks, drawn -/
def DrawnT (w : World) (e : Ending) (w' : World) : Prop := ∃ (a : Option Addr) (l c : Nat) (xs : List Int) (a2 : Option Addr) (l2 c2 : Nat) (ys : List Int), e = .returned (.tuple #[.slice a l c, .slice a2 l2 c2]) ∧
  IntsAt w' (· < w'.heap.size) a l xs ∧ l ≤ c ∧ l ≤ 8 ∧ IntsAt w' (· < w'.heap.size) a2 l2 ys ∧ l2 ≤ c2 ∧ l2 ≤ 8 ∧ Below w.heap.size w w'
/-- tasks and a number, drawn -/
def DrawnTn (w : World) (e : Ending) (w' : World) : Prop := ∃ (a : Option Addr) (l c : Nat) (xs : List Int) (a2 : Option Addr) (l2 c2 : Nat) (ys : List Int) (n : Int), e = .returned (.tuple #[.slice a l c, .slice a2 l2 c2, .int .i64 n]) ∧
  IntsAt w' (· < w'.heap.size) a l xs ∧ l ≤ c ∧ l ≤ 8 ∧ IntsAt w' (· < w'.heap.size) a2 l2 ys ∧ l2 ≤ c2 ∧ l2 ≤ 8 ∧ 0 ≤ n ∧ n ≤ 61 ∧ Below w.heap.size w w'
set_option maxRecDepth 100000 in
set_option maxHeartbeats 2000000 in
theorem drawValidTasks_any (a : Option Addr) (len cap : Nat) (w : World) (hb : BytesAt w w.heap.size a len) (hl : len ≤ cap) (hs : len ≤ 9223372036854775807) :
    Calls Try.prog 7 #[.slice a len cap] w (DrawnT w) := by
  go_enter Try.func7, Try.ntmps7
  go_wp2_with fail
  refine (newReader_any a len cap w hb hl hs).mono ?_
  rintro e w1 ⟨rfl, hr, hb1⟩
  go_wp2_with fail
  refine (someTasks_any w.heap.size 0 w1 hr (by omega)).mono ?_
  rintro e w2 ⟨a2, l2, c2, xs, a3, l3, c3, ys, p2, rfl, h1, h2, h3, h4, h5, h6, hr2, hp2, hg⟩
  have hbb : Below w.heap.size w w2 := grown_below hg hb1 hb1.size
  have x1 := h1.low
  have x2 := h4.low
  go_wp2
  go_ret2
  exact ⟨_, _, _, xs, _, _, _, ys, rfl, x1, h2, h3, x2, h5, h6, hbb⟩
set_option maxRecDepth 100000 in
set_option maxHeartbeats 2000000 in
theorem drawWeightsOf_any (a : Option Addr) (len cap : Nat) (w : World) (hb : BytesAt w w.heap.size a len) (hl : len ≤ cap) (hs : len ≤ 9223372036854775807) :
    Calls Try.prog 12 #[.slice a len cap] w (DrawnT w) := by
  go_enter Try.func12, Try.ntmps12
  go_wp2_with fail
  refine (newReader_any a len cap w hb hl hs).mono ?_
  rintro e w1 ⟨rfl, hr, hb1⟩
  go_wp2_with fail
  refine (someTasks_any w.heap.size 0 w1 hr (by omega)).mono ?_
  rintro e w2 ⟨a2, l2, c2, xs, a3, l3, c3, ys, p2, rfl, h1, h2, h3, h4, h5, h6, hr2, hp2, hg⟩
  have hbb : Below w.heap.size w w2 := grown_below hg hb1 hb1.size
  have x1 := h1.low
  have x2 := h4.low
  go_wp2
  go_ret2
  exact ⟨_, _, _, xs, _, _, _, ys, rfl, x1, h2, h3, x2, h5, h6, hbb⟩
end Go.Proofs.Ytobfencmfeneoaa
