import Derived.Test.YtmcongioghkdcabRows
import Derived.WalkKit
import Derived.LoopTactic
import Derived.Outline
import Derived.WalkSpells
import Derived.WalkLawsBesides
import Derived.ProofKit
import Derived.Test.YtmcongioghkdcabM0
import Derived.Test.YtmcongioghkdcabM1
import Derived.Test.YtmcongioghkdcabM2
import Derived.Test.YtmcongioghkdcabM8
import Derived.Test.YtmcongioghkdcabM9
import Derived.Test.YtmcongioghkdcabM16
namespace Go.Proofs.Ytmcongioghkdcab
open Go.RowKit Go.WideShapes

theorem own_lit3 (w : World) {B : Nat} (hB : B ≤ w.heap.size) (x y z : Int) : (w.alloc (.cells #[.int .i64 x, .int .i64 y, .int .i64 z] 3)).ownsRow B 3 1 (.slice (some ⟨w.heap.size, 0, none⟩) 3 3) 3 ([x, y, z].map (.int .i64)) :=
  ⟨rfl, .inr ⟨w.heap.size, 3, _, rfl, hB, heap_alloc_new w _, Nat.le_refl _, by unfold maxLen; omega, rfl, rfl⟩⟩
theorem job_t {n : Int} (h : n ∈ [5, 9]) : 5 ≤ n ∧ n ≤ 9 := by simp at h; omega
theorem job_d {n : Int} (h : n ∈ [12, 25, 6]) : 6 ≤ n ∧ n ≤ 25 := by simp at h; omega
set_option maxRecDepth 100000 in
set_option maxHeartbeats 4000000 in
theorem someJobs_any (R p : Nat) (w : World) (h : Rd w R p) (hp : p ≤ 900000) :
    Calls Try.prog 21 #[.pointer (some ⟨R, 0, none⟩)] w (PairsPost w R p) := by
  have hR := h.lt
  obtain ⟨i1, hj, hy0, hy1, hy2⟩ := info_parts Try.infoInts
  go_enter Try.func21, Try.ntmps21
  go_wp2_with fail
  refine (one_any (fun k => k = w.heap.size + 1) R p _ 7 7 [4, 3, 5, 2, 6, 1, 0] _ ((h.alloc _).alloc _) (IntsAt.lit rfl rfl (by simp) (by omega)) (by intro b hb; simp; omega) (by omega) (by omega)).mono ?_
  rintro e w1 ⟨n, hn, rfl, hr1, hg1⟩
  obtain ⟨m, rfl, hm⟩ : ∃ m : Nat, n = (m : Int) ∧ m ≤ 8 := by simp at hn; exact ⟨n.toNat, by omega, by omega⟩
  clear hn
  have hg2 : w.grownBy w1 (some R) := grown_r (World.grownBy_alloc w _ _) (grown_r (World.grownBy_alloc _ _ _) hg1)
  have ho1 : OwnRows w1 w.heap.size w1.heap.size (.slice (some ⟨w.heap.size, 0, none⟩) 0 0) 0 :=
    OwnRows.nil rfl (grown_r (World.grownBy_alloc _ _ _) hg1) hR
  go_wp2_with fail
  go_loopw [3] (fun v wr => ∃ (k p' cap : Nat) (a : Option Addr), v = .slice a k cap ∧ k ≤ cap ∧ OwnRows wr w.heap.size wr.heap.size v k ∧ k ≤ m ∧ Rd wr R p' ∧ p' ≤ p + 1 + 30 * k ∧ w.grownBy wr (some R)) (fun v _ => m - capOf v)
  case atStart => exact ⟨0, p + 1, 0, _, rfl, Nat.le_refl _, ho1, Nat.zero_le _, hr1, Nat.le_refl _, hg2⟩
  case round =>
    clear ho1
    obtain ⟨k, p', cap, a, rfl, hkc, ho, hkm, hr, hpp, hg⟩ := hrel
    obtain ⟨wo, rfl⟩ : ∃ wo : World, wo = wr := ⟨_, rfl⟩
    by_cases hlt : k < m
    · go_wp2_with fail
      refine (one_any (fun b => b = wo.heap.size) R p' _ 2 2 [5, 9] _ (hr.alloc _) (IntsAt.lit rfl rfl rfl (by omega)) (by intro b hb; have := hr.lt; simp; omega) (by omega) (by omega)).mono ?_
      rintro e w3 ⟨hi, hhi, rfl, hr3, hg3⟩
      obtain ⟨hi1, hi2⟩ := job_t hhi
      clear hhi
      have ga3 : wo.grownBy w3 (some R) := grown_r (World.grownBy_alloc wo _ _) hg3
      go_wp2_with fail
      refine (pick_any R (p' + 1) hi w3 hr3 (by omega)).mono ?_
      rintro e w4 ⟨q1, rfl, hq1, hr4, hg4⟩
      have ga4 := grown_r ga3 hg4
      have hq1b : q1 ≤ 9 := by omega
      go_wp2_with fail
      refine (pick_any R (p' + 1 + 1) 6 w4 hr4 (by omega)).mono ?_
      rintro e w5 ⟨q2, rfl, hq2, hr5, hg5⟩
      have ga5 := grown_r ga4 hg5
      go_wp2_with fail
      refine (one_any (fun b => b = w5.heap.size) R (p' + 1 + 1 + 1) _ 3 3 [12, 25, 6] _ (hr5.alloc _) (IntsAt.lit rfl rfl rfl (by omega)) (by intro b hb; have := hr5.lt; simp; omega) (by omega) (by omega)).mono ?_
      rintro e w6 ⟨di, hdi, rfl, hr6, hg6⟩
      have ga6 : wo.grownBy w6 (some R) := grown_r ga5 (grown_r (World.grownBy_alloc w5 _ _) hg6)
      clear hdi
      go_wp2_with fail
      refine (pick_any R (p' + 1 + 1 + 1 + 1) di w6 hr6 (by omega)).mono ?_
      rintro e w7 ⟨q3, rfl, _, hr7, hg7⟩
      have ga7 := grown_r ga6 hg7
      have hw0 : w.heap.size ≤ w7.heap.size := Nat.le_trans hg.size ga7.size
      have ho7 := ho.low ga7 hR
      have hlit := own_lit3 w7 (B := wo.heap.size) ga7.size ((1 : Int) + (q1 : Int)) (q2 : Int) (q3 : Int)
      obtain ⟨us, hout, hus⟩ := ho7.alloc (.cells #[.int .i64 ((1 : Int) + (q1 : Int)), .int .i64 (q2 : Int), .int .i64 (q3 : Int)] 3)
      have hr8 := hr7.alloc (.cells #[.int .i64 ((1 : Int) + (q1 : Int)), .int .i64 (q2 : Int), .int .i64 (q3 : Int)] 3)
      have ga8 := grown_alloc ga7 (.cells #[.int .i64 ((1 : Int) + (q1 : Int)), .int .i64 (q2 : Int), .int .i64 (q3 : Int)] 3)
      have hsz8 : (w7.alloc (.cells #[.int .i64 ((1 : Int) + (q1 : Int)), .int .i64 (q2 : Int), .int .i64 (q3 : Int)] 3)).heap.size = w7.heap.size + 1 := by simp
      obtain ⟨w8, hw8⟩ : ∃ w8, (w7.alloc (.cells #[.int .i64 ((1 : Int) + (q1 : Int)), .int .i64 (q2 : Int), .int .i64 (q3 : Int)] 3)) = w8 := ⟨_, rfl⟩
      rw [hw8] at hlit hout hus hr8 ga8 hsz8
      have HW8 := Lib.hid hw8
      have HSZ := Lib.hid hsz8
      have hgw8 := grown_r hg ga8
      clear hw8 hsz8 hr hr3 hr4 hr5 hr6 hr7 ga3 ga4 ga5 ga6 ga7 hg3 hg4 hg5 hg6 hg7
      have HLIT := Lib.hid hlit
      have HOUT := Lib.hid hout
      have HUS := Lib.hid hus
      have HR8 := Lib.hid hr8
      have HG8 := Lib.hid hgw8
      have HGA8 := Lib.hid ga8
      clear hlit hout hus hr8 hgw8 ga8 ho7
      go_wp2_with (at_builtin; rw [HW8.out]; refine wpList_append_own _ rfl _ _ 23 rfl w.heap.size 24 i1 (.slice none 0 0) 1 24 Try.underlying23 hj hy0 hy1 hy2 rfl (by decide) _ _ _ rfl (HOUT.out.alloc _) ⟨w8.heap.size, 0, none⟩ 1 1 [.slice (some ⟨w7.heap.size, 0, none⟩) 3 3] (by rw [HSZ.out]; rfl) rfl ?c1 ?c2 ?c3 ?c4 ?c5 ?_)
      case c1 => exact one_new _ _ _
      case c2 => exact one_cell_slice _ _ _
      case c3 => unfold maxLen; omega
      case c4 => omega
      case c5 => have := HG8.out.size; simp; omega
      intro v' w9 hown hgrow _
      obtain ⟨a6, c6, rfl, hjc6⟩ := own_slice hown
      have hgr : w8.grownBy w9 (Value.slice a k cap).ownBlock := grown_comp (World.grownBy_alloc w8 _ _) hgrow
      have HPUSH := Lib.hid (OwnRows.push HLIT.out hg.size HOUT.out HUS.out hown hgr)
      have HR6 := Lib.hid (HR8.out.grown hgr (by intro b hb; have := (HOUT.out.lt b hb).1; omega))
      have HG6 := Lib.hid (grown_trans HG8.out hgr (by intro b hb; have := (HOUT.out.lt b hb).1; omega))
      clear hown hgrow hgr
      go_wp2_with fail
      go_roundw
      case rel => exact ⟨k + 1, p' + 1 + 1 + 1 + 1 + 1, c6, a6, rfl, hjc6, HPUSH.out, by omega, HR6.out, by omega, HG6.out⟩
      case measure => simp [capOf] <;> omega
    · by_cases hk1 : 0 < k
      · obtain ⟨g, rfl, hgB⟩ := ho.addr (by omega)
        go_wp2_with fail
        refine (pick_any R p' 30 wo hr (by omega)).mono ?_
        rintro e w2 ⟨q, rfl, _, hr2, hg3⟩
        have ho2 := ho.low hg3 hR
        have hg4 := grown_r hg hg3
        by_cases hq : q = 0
        · subst hq
          go_wp2_with fail
          refine (one_any (fun b => b = w2.heap.size) R (p' + 1) _ 2 2 [0, 10] _ (hr2.alloc _) (IntsAt.lit rfl rfl rfl (by omega)) (by intro b hb; have := hr2.lt; simp; omega) (by omega) (by omega)).mono ?_
          rintro e w5 ⟨x, _, rfl, hr5, hg5⟩
          have hgw : w2.grownBy w5 (some R) := grown_r (World.grownBy_alloc w2 _ _) hg5
          have ho5 := ho2.low hgw hR
          have hg6 := grown_r hg4 hgw
          have hw5 : w.heap.size ≤ w5.heap.size := hg6.size
          have hlit := own_one w5 (B := w5.heap.size) (Nat.le_refl _) x
          have hsz : (w5.alloc (.cells #[.int .i64 x] 3)).heap.size = w5.heap.size + 1 := by simp
          have ho6 := (ho5.alloc (.cells #[.int .i64 x] 3)).alloc (.cells #[.int .i64 1, .int .i64 1] 3)
          have hg7 := grown_alloc (grown_alloc hg6 (.cells #[.int .i64 x] 3)) (.cells #[.int .i64 1, .int .i64 1] 3)
          have hr6 := (hr5.alloc (.cells #[.int .i64 x] 3)).alloc (.cells #[.int .i64 1, .int .i64 1] 3)
          have hl2 := hlit.alloc (.cells #[.int .i64 1, .int .i64 1] 3)
          have hy : IntsAt ((w5.alloc (.cells #[.int .i64 x] 3)).alloc (.cells #[.int .i64 1, .int .i64 1] 3)) (fun k => k = w5.heap.size + 1) (some ⟨w5.heap.size + 1, 0, none⟩) 2 [1, 1] := IntsAt.lit rfl rfl (by simp) (by omega)
          have hsz2 : ((w5.alloc (.cells #[.int .i64 x] 3)).alloc (.cells #[.int .i64 1, .int .i64 1] 3)).heap.size = w5.heap.size + 2 := by simp
          obtain ⟨w6, hw6⟩ : ∃ w6, ((w5.alloc (.cells #[.int .i64 x] 3)).alloc (.cells #[.int .i64 1, .int .i64 1] 3)) = w6 := ⟨_, rfl⟩
          rw [hw6] at hl2 ho6 hg7 hr6 hy hsz2
          have HW6 := Lib.hid hw6
          have HSZ := Lib.hid hsz2
          clear hw6 hsz ho5 hlit hsz2
          have HP := Lib.hid ho6
          have HL := Lib.hid hl2
          have HR6 := Lib.hid hr6
          have HG7 := Lib.hid hg7
          have HY := Lib.hid hy
          have HUP : wo.heap.size ≤ w5.heap.size := Nat.le_trans hg3.size hgw.size
          clear ho6 hl2 hr6 hg7 hy
          go_wp2_with (at_builtin; rw [HW6.out]; refine wpAppN rfl _ _ rfl w5.heap.size 1 1 _ [x] _ (w5.heap.size + 1) 0 2 2 [1, 1] rfl HL.out rfl HY.out (by rw [HSZ.out]; omega) (by omega) ?_)
          intro a7 c7 w7 hown7 hc7 hgr7
          have ho7 := (HP.out.up (M' := w5.heap.size) HUP).ints HL.out hgr7
          have hr7 := HR6.out.grown hgr7 (by intro b hb; have := (HL.out.lt b hb).1; omega)
          have hg8 := grown_trans HG7.out hgr7 (by intro b hb; have := (HL.out.lt b hb).1; omega)
          obtain ⟨v1, hc1, hf1⟩ := ho7.cell (j := 0) hk1
          have hown8 : w7.ownsRow w.heap.size 3 1 (.slice a7 3 c7) 3 ([x, 1, 1].map (.int .i64)) := own_base hown7 hw5
          obtain ⟨ho9, hg9⟩ := ho7.store (j := 0) hown8
          have H9 := Lib.hid ho9
          have G9 := Lib.hid hg9
          have G8 := Lib.hid hg8
          have R7 := Lib.hid hr7
          clear ho9 hg9 hg8 hr7 hown8 hown7 hgr7 ho7
          go_wp2
          go_ret
          exact pairsPost_mk H9.out hkc (by omega) (R7.out.grown G9.out (by intro b hb; injection hb; omega)) (by omega) (grown_trans G8.out G9.out (by intro b hb; injection hb; omega))
        · have hqe : ((q : Int) == 0) = false := by simp; omega
          go_wp2
          go_ret
          exact pairsPost_mk ho2 hkc (by omega) hr2 (by omega) hg4
      · have hk1' : ¬ (0 : Int) < (k : Int) := by omega
        go_wp2
        go_ret
        exact pairsPost_mk ho hkc (by omega) hr (by omega) hg
end Go.Proofs.Ytmcongioghkdcab
namespace Go.Proofs.Ytmcongioghkdcab
open Go.RowKit Go.WideShapes

/-- drawn jobs -/
def DrawnJ (w : World) (e : Ending) (w' : World) : Prop := ∃ (a : Option Addr) (l c : Nat) (rows : List (List Int)), e = .returned (.slice a l c) ∧ RowsAt w' (· < w'.heap.size) a l rows ∧ l ≤ c ∧ l ≤ 8 ∧ Below w.heap.size w w'
/-- and an order, most often -/
def DrawnJO (w : World) (e : Ending) (w' : World) : Prop := ∃ (a : Option Addr) (l c : Nat) (rows : List (List Int)) (a2 : Option Addr) (l2 c2 : Nat) (xs : List Int), e = .returned (.tuple #[.slice a l c, .slice a2 l2 c2]) ∧
  RowsAt w' (· < w'.heap.size) a l rows ∧ l ≤ c ∧ l ≤ 8 ∧ IntsAt w' (· < w'.heap.size) a2 l2 xs ∧ l2 ≤ c2 ∧ l2 = l ∧ (∀ x ∈ xs, -1 ≤ x ∧ x ≤ 8) ∧ Below w.heap.size w w'
theorem drawLatestOf_any (a : Option Addr) (len cap : Nat) (w : World) (hb : BytesAt w w.heap.size a len) (hl : len ≤ cap) (hs : len ≤ 9223372036854775807) :
    Calls Try.prog 7 #[.slice a len cap] w (DrawnJO w) := by
  go_enter Try.func7, Try.ntmps7
  go_wp2_with fail
  refine (newReader_any a len cap w hb hl hs).mono ?_
  rintro e w1 ⟨rfl, hr, hb1⟩
  go_wp2_with fail
  refine (someJobs_any w.heap.size 0 w1 hr (by omega)).mono ?_
  rintro e w2 ⟨a2, l2, c2, rows, p2, rfl, h1, h2, h3, hr2, hp2, hg⟩
  go_wp2_with fail
  refine (orderOf_any w.heap.size p2 l2 w2 hr2 (by omega) h3).mono ?_
  rintro e w3 ⟨g3, c3, xs, rfl, ho3, hc3, hall, hg3⟩
  have hbb : Below w.heap.size w w3 := grown_below (grown_r hg hg3) hb1 hb1.size
  have hrw : RowsAt w3 (· < w3.heap.size) a2 l2 rows := h1.to (fun b hb => ⟨Nat.lt_of_lt_of_le hb.2 hg3.size, hg3.block b hb.2 (by have := hr.lt; simp; omega)⟩)
  have hiw : IntsAt w3 (· < w3.heap.size) (some ⟨g3, 0, none⟩) l2 xs := by
    obtain ⟨a', c', e', _, h'⟩ := own_ints ho3 (by omega)
    injection e' with e1 _ _
    subst e1
    exact h'.to fun b hb => ⟨hb.2, rfl⟩
  go_wp2
  go_ret2
  exact ⟨a2, l2, c2, rows, _, l2, c3, xs, rfl, hrw, h2, h3, hiw, hc3, rfl, (fun x hx => by have := hall x hx; omega), hbb⟩
theorem drawLateOf_any (a : Option Addr) (len cap : Nat) (w : World) (hb : BytesAt w w.heap.size a len) (hl : len ≤ cap) (hs : len ≤ 9223372036854775807) :
    Calls Try.prog 16 #[.slice a len cap] w (DrawnJO w) := by
  go_enter Try.func16, Try.ntmps16
  go_wp2_with fail
  refine (newReader_any a len cap w hb hl hs).mono ?_
  rintro e w1 ⟨rfl, hr, hb1⟩
  go_wp2_with fail
  refine (someJobs_any w.heap.size 0 w1 hr (by omega)).mono ?_
  rintro e w2 ⟨a2, l2, c2, rows, p2, rfl, h1, h2, h3, hr2, hp2, hg⟩
  go_wp2_with fail
  refine (orderOf_any w.heap.size p2 l2 w2 hr2 (by omega) h3).mono ?_
  rintro e w3 ⟨g3, c3, xs, rfl, ho3, hc3, hall, hg3⟩
  have hbb : Below w.heap.size w w3 := grown_below (grown_r hg hg3) hb1 hb1.size
  have hrw : RowsAt w3 (· < w3.heap.size) a2 l2 rows := h1.to (fun b hb => ⟨Nat.lt_of_lt_of_le hb.2 hg3.size, hg3.block b hb.2 (by have := hr.lt; simp; omega)⟩)
  have hiw : IntsAt w3 (· < w3.heap.size) (some ⟨g3, 0, none⟩) l2 xs := by
    obtain ⟨a', c', e', _, h'⟩ := own_ints ho3 (by omega)
    injection e' with e1 _ _
    subst e1
    exact h'.to fun b hb => ⟨hb.2, rfl⟩
  go_wp2
  go_ret2
  exact ⟨a2, l2, c2, rows, _, l2, c3, xs, rfl, hrw, h2, h3, hiw, hc3, rfl, (fun x hx => by have := hall x hx; omega), hbb⟩
end Go.Proofs.Ytmcongioghkdcab
