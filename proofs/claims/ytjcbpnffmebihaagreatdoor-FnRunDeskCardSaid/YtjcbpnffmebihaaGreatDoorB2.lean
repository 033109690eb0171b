import Derived.Test.YtjcbpnffmebihaaGreatDoorB1
import Derived.Test.YtjcbpnffmebihaaGreatDoorA0
import Derived.Test.YtjcbpnffmebihaaGreatDoorA1
import Derived.Test.YtjcbpnffmebihaaGreatDoorA10
import Derived.Test.YtjcbpnffmebihaaGreatDoorA31
import Derived.Test.YtjcbpnffmebihaaGreatDoorA5
import Derived.Test.YtjcbpnffmebihaaGreatDoorA8
import Derived.Test.YtjcbpnffmebihaaGreatDoorA9
import Derived.Test.YtjcbpnffmebihaaGreatDoorRows
import Derived.WalkKit
import Derived.LoopTactic
import Derived.Outline
import Derived.WalkSpells
import Derived.WalkLawsBesides
import Derived.ProofKit
import Derived.Lib.Hide
set_option linter.unusedVariables false
set_option linter.unusedSimpArgs false
namespace Go.Proofs.YtjcbpnffmebihaaGreatDoor
open Go.RowKit Go.WideShapes

set_option maxRecDepth 100000 in
set_option maxHeartbeats 4000000 in
theorem someJobs_Q (R p : Nat) (w : World) (h : Rd w R p) (hp : p ≤ 900000) :
    Calls Tryz.prog 17 #[.pointer (some ⟨R, 0, none⟩)] w (PairsPostQ w R p) := by
  have hR := h.lt
  obtain ⟨i1, hj, hy0, hy1, hy2⟩ := info_parts Tryz.infoInts
  go_enter Tryz.func17, Tryz.ntmps17
  go_wp2_with fail
  refine (one_any (fun k => k = w.heap.size + 1) R p _ 7 7 [4, 3, 5, 2, 6, 1, 0] _ ((h.alloc _).alloc _) (IntsAt.lit rfl rfl (by simp) (by omega)) (by intro b hb; simp; omega) (by omega) (by omega)).mono ?_
  rintro e w1 ⟨n, hn, rfl, hr1, hg1⟩
  obtain ⟨m, rfl, hm⟩ : ∃ m : Nat, n = (m : Int) ∧ m ≤ 8 := by simp at hn; exact ⟨n.toNat, by omega, by omega⟩
  clear hn
  have hg2 : w.grownBy w1 (some R) := grown_r (World.grownBy_alloc w _ _) (grown_r (World.grownBy_alloc _ _ _) hg1)
  have ho1 : OwnRowsQ w1 w.heap.size w1.heap.size (.slice (some ⟨w.heap.size, 0, none⟩) 0 0) 0 :=
    OwnRowsQ.nil rfl (grown_r (World.grownBy_alloc _ _ _) hg1) hR
  go_wp2_with fail
  go_loopw [3] (fun v wr => ∃ (k p' cap : Nat) (a : Option Addr), v = .slice a k cap ∧ k ≤ cap ∧ OwnRowsQ wr w.heap.size wr.heap.size v k ∧ k ≤ m ∧ Rd wr R p' ∧ p' ≤ p + 1 + 30 * k ∧ w.grownBy wr (some R)) (fun v _ => m - capOf v)
  case atStart => exact ⟨0, p + 1, 0, _, rfl, Nat.le_refl _, ho1, Nat.zero_le _, hr1, Nat.le_refl _, hg2⟩
  case round =>
    clear ho1
    obtain ⟨k, p', cap, a, rfl, hkc, ho, hkm, hr, hpp, hg⟩ := hrel
    obtain ⟨wo, rfl⟩ : ∃ wo : World, wo = wr := ⟨_, rfl⟩
    by_cases hlt : k < m
    · go_wp2_with fail
      refine (one_any (fun b => b = wo.heap.size) R p' _ 2 2 [5, 9] _ (hr.alloc _) (IntsAt.lit rfl rfl rfl (by omega)) (by intro b hb; have := hr.lt; simp; omega) (by omega) (by omega)).mono ?_
      rintro e w3 ⟨hi, hhi, rfl, hr3, hg3⟩
      obtain ⟨hi1, hi2⟩ := job_t hhi
      clear hhi
      have ga3 : wo.grownBy w3 (some R) := grown_r (World.grownBy_alloc wo _ _) hg3
      go_wp2_with fail
      refine (pick_any R (p' + 1) hi w3 hr3 (by omega)).mono ?_
      rintro e w4 ⟨q1, rfl, hq1, hr4, hg4⟩
      have ga4 := grown_r ga3 hg4
      have hq1b : q1 ≤ 9 := by omega
      go_wp2_with fail
      refine (pick_any R (p' + 1 + 1) 6 w4 hr4 (by omega)).mono ?_
      rintro e w5 ⟨q2, rfl, hq2, hr5, hg5⟩
      have ga5 := grown_r ga4 hg5
      go_wp2_with fail
      refine (one_any (fun b => b = w5.heap.size) R (p' + 1 + 1 + 1) _ 3 3 [12, 25, 6] _ (hr5.alloc _) (IntsAt.lit rfl rfl rfl (by omega)) (by intro b hb; have := hr5.lt; simp; omega) (by omega) (by omega)).mono ?_
      rintro e w6 ⟨di, hdi, rfl, hr6, hg6⟩
      have ga6 : wo.grownBy w6 (some R) := grown_r ga5 (grown_r (World.grownBy_alloc w5 _ _) hg6)
      have hdi25 := job_d hdi
      clear hdi
      go_wp2_with fail
      refine (pick_any R (p' + 1 + 1 + 1 + 1) di w6 hr6 (by omega)).mono ?_
      rintro e w7 ⟨q3, rfl, hq3, hr7, hg7⟩
      have HQB := Lib.hid (show q1 ≤ 9 ∧ q2 ≤ 6 ∧ q3 ≤ 25 from ⟨hq1b, by omega, by omega⟩)
      have ga7 := grown_r ga6 hg7
      have hw0 : w.heap.size ≤ w7.heap.size := Nat.le_trans hg.size ga7.size
      have ho7 := ho.low ga7 hR
      have hlit := own_lit3 w7 (B := wo.heap.size) ga7.size ((1 : Int) + (q1 : Int)) (q2 : Int) (q3 : Int)
      obtain ⟨us, hout, hus⟩ := ho7.alloc (.cells #[.int .i64 ((1 : Int) + (q1 : Int)), .int .i64 (q2 : Int), .int .i64 (q3 : Int)] 3)
      have hr8 := hr7.alloc (.cells #[.int .i64 ((1 : Int) + (q1 : Int)), .int .i64 (q2 : Int), .int .i64 (q3 : Int)] 3)
      have ga8 := grown_alloc ga7 (.cells #[.int .i64 ((1 : Int) + (q1 : Int)), .int .i64 (q2 : Int), .int .i64 (q3 : Int)] 3)
      have hsz8 : (w7.alloc (.cells #[.int .i64 ((1 : Int) + (q1 : Int)), .int .i64 (q2 : Int), .int .i64 (q3 : Int)] 3)).heap.size = w7.heap.size + 1 := by simp
      obtain ⟨w8, hw8⟩ : ∃ w8, (w7.alloc (.cells #[.int .i64 ((1 : Int) + (q1 : Int)), .int .i64 (q2 : Int), .int .i64 (q3 : Int)] 3)) = w8 := ⟨_, rfl⟩
      rw [hw8] at hlit hout hus hr8 ga8 hsz8
      have HW8 := Lib.hid hw8
      have HSZ := Lib.hid hsz8
      have hgw8 := grown_r hg ga8
      clear hw8 hsz8 hr hr3 hr4 hr5 hr6 hr7 ga3 ga4 ga5 ga6 ga7 hg3 hg4 hg5 hg6 hg7
      have HLIT := Lib.hid hlit
      have HOUT := Lib.hid hout
      have HUS := Lib.hid hus
      have HR8 := Lib.hid hr8
      have HG8 := Lib.hid hgw8
      have HGA8 := Lib.hid ga8
      clear hlit hout hus hr8 hgw8 ga8 ho7
      go_wp2_with (at_builtin; rw [HW8.out]; refine wpList_append_own _ rfl _ _ 37 rfl w.heap.size 35 i1 (.slice none 0 0) 1 24 Tryz.underlying37 hj hy0 hy1 hy2 rfl (by decide) _ _ _ rfl (HOUT.out.alloc _) ⟨w8.heap.size, 0, none⟩ 1 1 [.slice (some ⟨w7.heap.size, 0, none⟩) 3 3] (by rw [HSZ.out]; rfl) rfl ?c1 ?c2 ?c3 ?c4 ?c5 ?_)
      case c1 => exact one_new _ _ _
      case c2 => exact one_cell_slice _ _ _
      case c3 => unfold maxLen; omega
      case c4 => omega
      case c5 => have := HG8.out.size; simp; omega
      intro v' w9 hown hgrow _
      obtain ⟨a6, c6, rfl, hjc6⟩ := own_slice hown
      have hgr : w8.grownBy w9 (Value.slice a k cap).ownBlock := grown_comp (World.grownBy_alloc w8 _ _) hgrow
      have HPUSH := Lib.hid (OwnRowsQ.push HLIT.out hg.size HOUT.out HUS.out hown hgr (Okn.of (by simp) fun y hy => by have := HQB.out; simp at hy; omega))
      have HR6 := Lib.hid (HR8.out.grown hgr (by intro b hb; have := (HOUT.out.lt b hb).1; omega))
      have HG6 := Lib.hid (grown_trans HG8.out hgr (by intro b hb; have := (HOUT.out.lt b hb).1; omega))
      clear hown hgrow hgr
      go_wp2_with fail
      go_roundw
      case rel => exact ⟨k + 1, p' + 1 + 1 + 1 + 1 + 1, c6, a6, rfl, hjc6, HPUSH.out, by omega, HR6.out, by omega, HG6.out⟩
      case measure => simp [capOf] <;> omega
    · by_cases hk1 : 0 < k
      · obtain ⟨g, rfl, hgB⟩ := ho.addr (by omega)
        go_wp2_with fail
        refine (pick_any R p' 30 wo hr (by omega)).mono ?_
        rintro e w2 ⟨q, rfl, _, hr2, hg3⟩
        have ho2 := ho.low hg3 hR
        have hg4 := grown_r hg hg3
        by_cases hq : q = 0
        · subst hq
          go_wp2_with fail
          refine (one_any (fun b => b = w2.heap.size) R (p' + 1) _ 2 2 [0, 10] _ (hr2.alloc _) (IntsAt.lit rfl rfl rfl (by omega)) (by intro b hb; have := hr2.lt; simp; omega) (by omega) (by omega)).mono ?_
          rintro e w5 ⟨x, hxm, rfl, hr5, hg5⟩
          have HXM := Lib.hid (show 0 ≤ x ∧ x ≤ 10 by simp at hxm; omega)
          clear hxm
          have hgw : w2.grownBy w5 (some R) := grown_r (World.grownBy_alloc w2 _ _) hg5
          have ho5 := ho2.low hgw hR
          have hg6 := grown_r hg4 hgw
          have hw5 : w.heap.size ≤ w5.heap.size := hg6.size
          have hlit := own_one w5 (B := w5.heap.size) (Nat.le_refl _) x
          have hsz : (w5.alloc (.cells #[.int .i64 x] 3)).heap.size = w5.heap.size + 1 := by simp
          have ho6 := (ho5.alloc (.cells #[.int .i64 x] 3)).alloc (.cells #[.int .i64 1, .int .i64 1] 3)
          have hg7 := grown_alloc (grown_alloc hg6 (.cells #[.int .i64 x] 3)) (.cells #[.int .i64 1, .int .i64 1] 3)
          have hr6 := (hr5.alloc (.cells #[.int .i64 x] 3)).alloc (.cells #[.int .i64 1, .int .i64 1] 3)
          have hl2 := hlit.alloc (.cells #[.int .i64 1, .int .i64 1] 3)
          have hy : IntsAt ((w5.alloc (.cells #[.int .i64 x] 3)).alloc (.cells #[.int .i64 1, .int .i64 1] 3)) (fun k => k = w5.heap.size + 1) (some ⟨w5.heap.size + 1, 0, none⟩) 2 [1, 1] := IntsAt.lit rfl rfl (by simp) (by omega)
          have hsz2 : ((w5.alloc (.cells #[.int .i64 x] 3)).alloc (.cells #[.int .i64 1, .int .i64 1] 3)).heap.size = w5.heap.size + 2 := by simp
          obtain ⟨w6, hw6⟩ : ∃ w6, ((w5.alloc (.cells #[.int .i64 x] 3)).alloc (.cells #[.int .i64 1, .int .i64 1] 3)) = w6 := ⟨_, rfl⟩
          rw [hw6] at hl2 ho6 hg7 hr6 hy hsz2
          have HW6 := Lib.hid hw6
          have HSZ := Lib.hid hsz2
          clear hw6 hsz ho5 hlit hsz2
          have HP := Lib.hid ho6
          have HL := Lib.hid hl2
          have HR6 := Lib.hid hr6
          have HG7 := Lib.hid hg7
          have HY := Lib.hid hy
          have HUP : wo.heap.size ≤ w5.heap.size := Nat.le_trans hg3.size hgw.size
          clear ho6 hl2 hr6 hg7 hy
          go_wp2_with (at_builtin; rw [HW6.out]; refine wpAppN rfl _ _ rfl w5.heap.size 1 1 _ [x] _ (w5.heap.size + 1) 0 2 2 [1, 1] rfl HL.out rfl HY.out (by rw [HSZ.out]; omega) (by omega) ?_)
          intro a7 c7 w7 hown7 hc7 hgr7
          have ho7 := (HP.out.up (M' := w5.heap.size) HUP).ints HL.out hgr7
          have hr7 := HR6.out.grown hgr7 (by intro b hb; have := (HL.out.lt b hb).1; omega)
          have hg8 := grown_trans HG7.out hgr7 (by intro b hb; have := (HL.out.lt b hb).1; omega)
          obtain ⟨v1, hc1, hf1⟩ := ho7.cell (j := 0) hk1
          have hown8 : w7.ownsRow w.heap.size 3 1 (.slice a7 3 c7) 3 ([x, 1, 1].map (.int .i64)) := own_base hown7 hw5
          obtain ⟨ho9, hg9⟩ := ho7.store (j := 0) hown8 (Okn.of (by simp) fun y hy => by have := HXM.out; simp at hy; omega)
          have H9 := Lib.hid ho9
          have G9 := Lib.hid hg9
          have G8 := Lib.hid hg8
          have R7 := Lib.hid hr7
          clear ho9 hg9 hg8 hr7 hown8 hown7 hgr7 ho7
          go_wp2
          go_ret
          exact pairsPostQ_mk H9.out hkc (by omega) (R7.out.grown G9.out (by intro b hb; injection hb; omega)) (by omega) (grown_trans G8.out G9.out (by intro b hb; injection hb; omega))
        · have hqe : ((q : Int) == 0) = false := by simp; omega
          go_wp2
          go_ret
          exact pairsPostQ_mk ho2 hkc (by omega) hr2 (by omega) hg4
      · have hk1' : ¬ (0 : Int) < (k : Int) := by omega
        go_wp2
        go_ret
        exact pairsPostQ_mk ho hkc (by omega) hr (by omega) hg
end Go.Proofs.YtjcbpnffmebihaaGreatDoor
namespace Go.Proofs.YtjcbpnffmebihaaGreatDoor
open Go.RowKit Go.WideShapes

def CutPost (w : World) (R p : Nat) (e : Ending) (w' : World) : Prop := ∃ (a : Option Addr) (len cap : Nat) (xs : List Int) (c : Int) (p' : Nat), e = .returned (.tuple #[.slice a len cap, .int .i64 c]) ∧
  w'.ownsRow w.heap.size 3 1 (.slice a len cap) len (xs.map (.int .i64)) ∧ len ≤ cap ∧ len ≤ 7 ∧ 1 ≤ c ∧ c ≤ 20 ∧ Rd w' R p' ∧ p' ≤ p + 100 ∧ w.grownBy w' (some R)
theorem CutPost.mk {w w' : World} {R p p' : Nat} {a : Option Addr} {len cap : Nat} {xs : List Int} {c : Int} (h : w'.ownsRow w.heap.size 3 1 (.slice a len cap) len (xs.map (.int .i64))) (hl : len ≤ 7) (hc1 : 1 ≤ c) (hc2 : c ≤ 20) (hr : Rd w' R p') (hp : p' ≤ p + 100) (hg : w.grownBy w' (some R)) :
    CutPost w R p (.returned (.tuple #[.slice a len cap, .int .i64 c])) w' := by
  obtain ⟨a', cap', e, hc⟩ := own_slice h
  simp only [Value.slice.injEq] at e
  obtain ⟨rfl, _, rfl⟩ := e
  exact ⟨_, _, _, xs, c, p', rfl, h, hc, hl, hc1, hc2, hr, hp, hg⟩
theorem cut_n {n : Int} (h : n ∈ [5, 4, 6, 3, 7, 2, 1, 0]) : ∃ m : Nat, n = (m : Int) ∧ m ≤ 7 := by simp at h; exact ⟨n.toNat, by omega, by omega⟩
theorem cut_c {n : Int} (h : n ∈ [10, 12, 7, 20, 5, 1]) : 1 ≤ n ∧ n ≤ 20 := by simp at h; omega
end Go.Proofs.YtjcbpnffmebihaaGreatDoor
namespace Go.Proofs.YtjcbpnffmebihaaGreatDoor
open Go.RowKit Go.WideShapes

/-- the newlines from a place on -/
def nlFrom (s : ByteArray) (k : Nat) : Nat := ((s.data.toList.drop k).filter (fun c => c = 10)).length
theorem nlFrom_0 (s : ByteArray) : nlFrom s 0 = nlB s := rfl
theorem nlFrom_end {s : ByteArray} {k : Nat} (h : ¬ k < s.size) : nlFrom s k = 0 := by
  have h2 : s.data.toList.length ≤ k := by have : s.data.size = s.size := rfl; rw [Array.length_toList]; omega
  unfold nlFrom
  rw [List.drop_eq_nil_of_le h2]
  rfl
theorem nlFrom_at {s : ByteArray} {k : Nat} (h : k < s.size) : s.data.toList.drop k = s[k] :: s.data.toList.drop (k + 1) := by
  have h2 : k < s.data.toList.length := by have : s.data.size = s.size := rfl; rw [Array.length_toList]; omega
  rw [List.drop_eq_getElem_cons h2]
  rfl
theorem nlFrom_hit {s : ByteArray} {k : Nat} (h : k < s.size) (e : s[k] = 10) : nlFrom s k = nlFrom s (k + 1) + 1 := by
  unfold nlFrom
  rw [nlFrom_at h, List.filter_cons, if_pos (by rw [e]; rfl), List.length_cons]
theorem nlFrom_miss {s : ByteArray} {k : Nat} (h : k < s.size) (e : ¬ s[k] = 10) : nlFrom s k = nlFrom s (k + 1) := by
  unfold nlFrom
  rw [nlFrom_at h, List.filter_cons, if_neg (by simpa using e)]
set_option maxRecDepth 100000 in
set_option maxHeartbeats 2000000 in
/-- how many newlines -/
theorem newlines_any (s : ByteArray) (w : World) (hs : s.size ≤ 1048576) :
    Calls Tryz.prog 8 #[.string s] w fun e w' => e = .returned (.int .i64 (nlB s)) ∧ w' = w := by
  go_enter Tryz.func8, Tryz.ntmps8
  go_wp2
  go_loopw [3, 4] (fun v i wr => ∃ (k c : Nat), k ≤ s.size ∧ c ≤ k ∧ i = .int .i64 k ∧ v = .int .i64 c ∧ c + nlFrom s k = nlB s ∧ wr = w) (fun _ i _ => s.size - (intOf i).toNat)
  case atStart => exact ⟨0, 0, Nat.zero_le _, Nat.le_refl _, rfl, rfl, by rw [nlFrom_0]; omega, rfl⟩
  case round =>
    obtain ⟨k, c, hk, hck, rfl, rfl, hc, rfl⟩ := hrel
    have HC := Lib.hid hc
    clear hc
    by_cases hlt : k < s.size
    · have hki : (k : Int) < (s.size : Int) := by omega
      by_cases e : s[k] = 10
      · have HC2 := Lib.hid (show (c + 1) + nlFrom s (k + 1) = nlB s by rw [← HC.out, nlFrom_hit hlt e]; omega)
        have he : ((s[k].toNat : Int) == 10) = true := by rw [e]; rfl
        clear e
        go_wp2_with fail
        go_roundw
        case rel => exact ⟨k + 1, c + 1, by omega, by omega, by go_num, by go_num, HC2.out, by first | rfl | trivial⟩
        case measure => simp [intOf] <;> omega
      · have HC2 := Lib.hid (show c + nlFrom s (k + 1) = nlB s by rw [← HC.out, nlFrom_miss hlt e])
        have he : ((s[k].toNat : Int) == 10) = false := by
          rw [beq_eq_false_iff_ne]
          intro h
          exact e (UInt8.toNat_inj.1 (by show s[k].toNat = 10; omega))
        clear e
        go_wp2_with fail
        go_roundw
        case rel => exact ⟨k + 1, c, by omega, by omega, by go_num, rfl, HC2.out, by first | rfl | trivial⟩
        case measure => simp [intOf] <;> omega
    · have HC2 := Lib.hid (show c = nlB s by rw [← HC.out, nlFrom_end hlt]; rfl)
      have hki : ¬ (k : Int) < (s.size : Int) := by omega
      go_wp2_with fail
      go_ret
      exact ⟨ret_int (by rw [HC2.out]), rfl⟩
/-- a part of a list of texts -/
theorem StrsAt.low {w : World} {S : Nat → Prop} {a : Option Addr} {len : Nat} {ss : List ByteArray} (h : StrsAt w S a len ss) {k : Nat} (hk : k ≤ len) : StrsAt w S a k (ss.take k) := by
  have hl := h.lenEq
  refine ⟨by rw [List.length_take]; omega, Nat.le_trans hk h.small, fun h0 => ?_⟩
  obtain ⟨b, off, ha, hb, hc⟩ := h.cells (by omega)
  refine ⟨b, off, ha, hb, fun i x hx => hc i x ?_⟩
  rw [List.getElem?_take] at hx
  split at hx
  · exact hx
  · cases hx
theorem StrsAt.high {w : World} {S : Nat → Prop} {b off len : Nat} {ss : List ByteArray} (h : StrsAt w S (some ⟨b, off, none⟩) len ss) (k : Nat) : StrsAt w S (some ⟨b, off + k, none⟩) (len - k) (ss.drop k) := by
  have hl := h.lenEq
  refine ⟨by rw [List.length_drop]; omega, Nat.le_trans (Nat.sub_le _ _) h.small, fun h0 => ?_⟩
  obtain ⟨b', off', ha, hb, hc⟩ := h.cells (by omega)
  cases ha
  refine ⟨b, off + k, rfl, hb, fun i x hx => ?_⟩
  rw [List.getElem?_drop] at hx
  rw [Nat.add_assoc]
  exact hc _ _ hx
end Go.Proofs.YtjcbpnffmebihaaGreatDoor
namespace Go.Proofs.YtjcbpnffmebihaaGreatDoor
open Go.RowKit Go.WideShapes

def CutPostQ (w : World) (R p : Nat) (e : Ending) (w' : World) : Prop := ∃ (a : Option Addr) (len cap : Nat) (xs : List Int) (c : Int) (p' : Nat), e = .returned (.tuple #[.slice a len cap, .int .i64 c]) ∧
  w'.ownsRow w.heap.size 3 1 (.slice a len cap) len (xs.map (.int .i64)) ∧ len ≤ cap ∧ Okn xs ∧ len ≤ 7 ∧ 1 ≤ c ∧ c ≤ 20 ∧ Rd w' R p' ∧ p' ≤ p + 100 ∧ w.grownBy w' (some R)
theorem CutPostQ.mk {w w' : World} {R p p' : Nat} {a : Option Addr} {len cap : Nat} {xs : List Int} {c : Int} (h : w'.ownsRow w.heap.size 3 1 (.slice a len cap) len (xs.map (.int .i64))) (hok : Okn xs) (hl : len ≤ 7) (hc1 : 1 ≤ c) (hc2 : c ≤ 20) (hr : Rd w' R p') (hp : p' ≤ p + 100) (hg : w.grownBy w' (some R)) :
    CutPostQ w R p (.returned (.tuple #[.slice a len cap, .int .i64 c])) w' := by
  obtain ⟨a', cap', e, hc⟩ := own_slice h
  simp only [Value.slice.injEq] at e
  obtain ⟨rfl, _, rfl⟩ := e
  exact ⟨_, _, _, xs, c, p', rfl, h, hc, hok, hl, hc1, hc2, hr, hp, hg⟩
set_option maxRecDepth 100000 in
set_option maxHeartbeats 4000000 in
theorem someCuts_Q (R p : Nat) (w : World) (h : Rd w R p) (hp : p ≤ 900000) :
    Calls Tryz.prog 21 #[.pointer (some ⟨R, 0, none⟩)] w (CutPostQ w R p) := by
  have hR := h.lt
  go_enter Tryz.func21, Tryz.ntmps21
  go_wp2_with fail
  refine (one_any (fun k => k = w.heap.size) R p _ 6 6 [10, 12, 7, 20, 5, 1] _ (h.alloc _) (IntsAt.lit rfl rfl rfl (by omega)) (by intro b hb; simp; omega) (by omega) (by omega)).mono ?_
  rintro e w1 ⟨c, hc, rfl, hr1, hg1⟩
  obtain ⟨hc1, hc2⟩ := cut_c hc
  clear hc
  have gw1 : w.grownBy w1 (some R) := grown_r (World.grownBy_alloc _ _ _) hg1
  go_wp2_with fail
  refine (one_any (fun k => k = w1.heap.size) R (p + 1) _ 8 8 [5, 4, 6, 3, 7, 2, 1, 0] _ (hr1.alloc _) (IntsAt.lit rfl rfl rfl (by omega)) (by intro b hb; have := hr1.lt; simp; omega) (by omega) (by omega)).mono ?_
  rintro e w2 ⟨n, hn, rfl, hr2, hg2⟩
  obtain ⟨n, rfl, hn7⟩ := cut_n hn
  clear hn
  have gw2 := grown_r gw1 (grown_r (World.grownBy_alloc _ _ _) hg2)
  go_wp2_with fail
  refine (listOf_any R (p + 1 + 1) n 1 c w2 hr2 (by omega) (by omega) (by omega) (by omega) (by omega)).mono ?_
  rintro e w3 ⟨a5, c5, xs, rfl, ho5, hc5, hl5, hall, hr3, hg3⟩
  have gw3 := grown_r gw2 hg3
  have ho := own_base ho5 gw2.size
  have HO := Lib.hid ho
  have HR3 := Lib.hid hr3
  have HG3 := Lib.hid gw3
  have HAL := Lib.hid (fun j (hj : j < n) => (show 1 ≤ xs.getD j 0 ∧ xs.getD j 0 ≤ c from by
    have hm : xs.getD j 0 ∈ xs := by rw [List.getD_eq_getElem?_getD, List.getElem?_eq_getElem (by omega)]; exact List.getElem_mem _
    have := hall _ hm; omega))
  have HLX := Lib.hid hl5
  have HOK0 := Lib.hid (Okn.of (xs := xs) (by omega) fun y hy => by have := hall y hy; omega)
  clear ho5 ho hall hr1 hr2 hr3 hg1 hg2 hg3 gw1 gw2 gw3 h hl5
  go_wp2_with fail
  go_loopw [7] (fun i wr => ∃ (k p' : Nat) (ys : List Int), k ≤ n ∧ i = .int .i64 k ∧ wr.ownsRow w.heap.size 3 1 (.slice a5 n c5) n (ys.map (.int .i64)) ∧ Okn ys ∧ (∀ j, k ≤ j → j < n → 1 ≤ ys.getD j 0 ∧ ys.getD j 0 ≤ c) ∧ Rd wr R p' ∧ p' ≤ p + 2 + n + k ∧ w.grownBy wr (some R)) (fun i _ => n - (intOf i).toNat)
  case atStart => exact ⟨0, p + 1 + 1 + n, xs, Nat.zero_le _, rfl, HO.out, HOK0.out, fun j _ hj => HAL.out j hj, HR3.out, by omega, HG3.out⟩
  case round =>
    clear HO HR3 HG3 HAL HLX HOK0
    obtain ⟨k, p', ys, hk, rfl, hown, hok, hall, hrd, hpp, hgr⟩ := hrel
    have HOK := Lib.hid hok
    clear hok
    obtain ⟨wo, rfl⟩ : ∃ wo : World, wo = wr := ⟨_, rfl⟩
    have HO := Lib.hid hown
    have HG := Lib.hid hgr
    have HR := Lib.hid hrd
    have HAL := Lib.hid hall
    clear hown hgr hrd hall
    by_cases hlt : k < n
    · have hkI : (k : Int) < (n : Int) := by omega
      have h0 : 0 < n := by omega
      have h0I : (0 : Int) < (n : Int) := by omega
      go_wp2_with fail
      refine (pick_any R p' 3 wo HR.out (by omega)).mono ?_
      rintro e w8 ⟨q8, rfl, hq8, hr8, hg8⟩
      have HO8 := Lib.hid (HO.out.kept hg8 (ne_low HO.out hR))
      have HG8 := Lib.hid (grown_r HG.out hg8)
      have HR8 := Lib.hid hr8
      clear hr8 hg8
      by_cases hq80 : q8 = 0
      · subst hq80
        go_wp2_with fail
        refine (pick_any R (p' + 1) 30 w8 HR8.out (by omega)).mono ?_
        rintro e w9 ⟨q9, rfl, hq9, hr9, hg9⟩
        have HO9 := Lib.hid (HO8.out.kept hg9 (ne_low HO8.out hR))
        have hg10 := grown_r HG8.out hg9
        by_cases hq90 : q9 = 0
        · subst hq90
          have hw1 : IntKind.i64.wrap (c + 1) = c + 1 := IntWalk.i64_in _ (by omega)
          go_wp2_with fail
          refine (one_any (fun b => b = w9.heap.size) R (p' + 1 + 1) _ 2 2 [0, c + 1] _ (hr9.alloc _) (IntsAt.lit rfl rfl rfl (by omega)) (by intro b hb; have := hr9.lt; simp; omega) (by omega) (by omega)).mono ?_
          rintro e wa ⟨x, hxm, rfl, hra, hga⟩
          have HXM := Lib.hid (show 0 ≤ x ∧ x ≤ 21 by simp at hxm; omega)
          clear hxm
          have hgw : w9.grownBy wa (some R) := grown_r (World.grownBy_alloc _ _ _) hga
          have HOA := Lib.hid (HO9.out.kept hgw (ne_low HO9.out hR))
          have hgb := grown_r hg10 hgw
          obtain ⟨g2, v0, e0, hgB, hc0, hf0⟩ := own_place HOA.out (j := 0) h0
          first | (obtain rfl := e0) | (simp only [Option.some.injEq, Addr.mk.injEq, and_true] at e0; subst e0)
          go_wp2
          go_ret2
          obtain ⟨h7, g7⟩ := HOA.out.stored 0 (.int .i64 x)
          exact CutPostQ.mk (xs := ys.set 0 x) (by rw [List.map_set]; exact h7) (HOK.out.set (by have := HXM.out; omega) (by have := HXM.out; omega)) (by omega) hc1 hc2 (hra.grown g7 (by intro b hb; injection hb; omega)) (by omega) (grown_trans hgb g7 (by intro b hb; injection hb; omega))
        · go_wp2_with fail
          go_ret2
          exact CutPostQ.mk HO9.out HOK.out (by omega) hc1 hc2 hr9 (by omega) hg10
      · obtain ⟨g, v0, rfl, hgB, hc0, hf0⟩ := own_place HO8.out (j := k) hlt
        have hx8 := own_low HO8.out (by omega)
        obtain ⟨b1, f1, x, e1, hxx, hcx⟩ := hx8.get hlt
        simp only [Option.some.injEq, Addr.mk.injEq, and_true] at e1
        obtain ⟨e1, e2⟩ := e1
        subst e1
        subst e2
        rw [Nat.zero_add] at hcx
        have hxb := HAL.out k (Nat.le_refl _) hlt
        rw [getD_of hxx] at hxb
        have hq8I : (0 : Int) < (q8 : Int) := by omega
        have hyl : ys.length = n := by have := HO8.out.1; simpa using this
        obtain ⟨h7, g7⟩ : World.ownsRow (w8.setCell ⟨g, k, none⟩ (.int .i64 (1 + x / 2))) w.heap.size 3 1 (.slice (some ⟨g, 0, none⟩) n c5) n ((ys.set k (1 + x / 2)).map (.int .i64)) ∧ w8.grownBy (w8.setCell ⟨g, k, none⟩ (.int .i64 (1 + x / 2))) (some g) := by
          have := HO8.out.stored k (.int .i64 (1 + x / 2))
          rw [List.map_set]; simpa using this
        have HO7 := Lib.hid h7
        have HR7 := Lib.hid (HR8.out.grown g7 (by intro b hb; injection hb; omega))
        have HG7 := Lib.hid (grown_trans HG8.out g7 (by intro b hb; injection hb; omega))
        have hcz : (w8.setCell ⟨g, k, none⟩ (.int .i64 (1 + x / 2))).cell? ⟨g, k, none⟩ = some (.int .i64 (1 + x / 2)) := by
          obtain ⟨b9, f9, x9, e9, hx9, hc9⟩ := (own_low h7 (by omega)).get hlt
          simp only [Option.some.injEq, Addr.mk.injEq, and_true] at e9
          obtain ⟨e9, e8⟩ := e9
          subst e9
          subst e8
          rw [Nat.zero_add] at hc9
          rw [hc9]
          have e7 := getD_of hx9
          rw [List.getD_eq_getElem?_getD, List.getElem?_set_self (by omega)] at e7
          simp at e7
          rw [e7]
        have htd : x.tdiv 2 = x / 2 := Int.tdiv_eq_ediv_of_nonneg (by omega)
        have hwq : IntKind.i64.wrap (x / 2) = x / 2 := IntWalk.i64_in _ (by omega)
        have hwa : IntKind.i64.wrap (1 + x / 2) = 1 + x / 2 := IntWalk.i64_in _ (by omega)
        have hng : ¬ c < 1 + x / 2 := by omega
        clear h7 g7 hxx hx8 hc0
        go_wp2_with fail
        go_roundw
        case rel => exact ⟨k + 1, p' + 1, ys.set k (1 + x / 2), by omega, by go_num, HO7.out, HOK.out.set (by omega) (by omega), fun j hj hjn => by
          rw [List.getD_eq_getElem?_getD, List.getElem?_set_ne (by omega), ← List.getD_eq_getElem?_getD]
          exact HAL.out j (by omega) hjn, HR7.out, by omega, HG7.out⟩
        case measure => simp [intOf]; omega
    · obtain rfl : k = n := by omega
      have hkI : ¬ (k : Int) < (k : Int) := by omega
      by_cases h0 : 0 < k
      · have h0I : (0 : Int) < (k : Int) := by omega
        go_wp2_with fail
        refine (pick_any R (p') 30 wo HR.out (by omega)).mono ?_
        rintro e w9 ⟨q9, rfl, hq9, hr9, hg9⟩
        have HO9 := Lib.hid (HO.out.kept hg9 (ne_low HO.out hR))
        have hg10 := grown_r HG.out hg9
        by_cases hq90 : q9 = 0
        · subst hq90
          have hw1 : IntKind.i64.wrap (c + 1) = c + 1 := IntWalk.i64_in _ (by omega)
          go_wp2_with fail
          refine (one_any (fun b => b = w9.heap.size) R (p' + 1) _ 2 2 [0, c + 1] _ (hr9.alloc _) (IntsAt.lit rfl rfl rfl (by omega)) (by intro b hb; have := hr9.lt; simp; omega) (by omega) (by omega)).mono ?_
          rintro e wa ⟨x, hxm, rfl, hra, hga⟩
          have HXM := Lib.hid (show 0 ≤ x ∧ x ≤ 21 by simp at hxm; omega)
          clear hxm
          have hgw : w9.grownBy wa (some R) := grown_r (World.grownBy_alloc _ _ _) hga
          have HOA := Lib.hid (HO9.out.kept hgw (ne_low HO9.out hR))
          have hgb := grown_r hg10 hgw
          obtain ⟨g2, v0, e0, hgB, hc0, hf0⟩ := own_place HOA.out (j := 0) h0
          first | (obtain rfl := e0) | (simp only [Option.some.injEq, Addr.mk.injEq, and_true] at e0; subst e0)
          go_wp2
          go_ret2
          obtain ⟨h7, g7⟩ := HOA.out.stored 0 (.int .i64 x)
          exact CutPostQ.mk (xs := ys.set 0 x) (by rw [List.map_set]; exact h7) (HOK.out.set (by have := HXM.out; omega) (by have := HXM.out; omega)) (by omega) hc1 hc2 (hra.grown g7 (by intro b hb; injection hb; omega)) (by omega) (grown_trans hgb g7 (by intro b hb; injection hb; omega))
        · go_wp2_with fail
          go_ret2
          exact CutPostQ.mk HO9.out HOK.out (by omega) hc1 hc2 hr9 (by omega) hg10
      · have h0n : k = 0 := by omega
        subst h0n
        go_wp2_with fail
        go_ret2
        exact CutPostQ.mk HO.out HOK.out (by omega) hc1 hc2 HR.out (by omega) HG.out
end Go.Proofs.YtjcbpnffmebihaaGreatDoor
