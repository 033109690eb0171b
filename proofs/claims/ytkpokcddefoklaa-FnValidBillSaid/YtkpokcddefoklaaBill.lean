import Derived.Test.YtkpokcddefoklaaRows
import Derived.WalkKit
import Derived.LoopTactic
import Derived.Outline
import Derived.WalkSpells
import Derived.WalkLawsBesides
import Derived.ProofKit
import Derived.Test.YtkpokcddefoklaaLib
import Derived.Test.YtkpokcddefoklaaRd
import Derived.Test.YtkpokcddefoklaaGen
import Derived.Test.YtkpokcddefoklaaPick
namespace Go.Proofs.Ytkpokcddefoklaa
open Go.RowKit Go.WideShapes

theorem Try.infoInt : (Try.prog.info? 3).map (fun i => (i.zero, i.size, i.bytes)) = some (some (.int .i64 0), 1, 8) := by kernel_rfl
theorem Try.infoInts : (Try.prog.info? 33).map (fun i => (i.zero, i.size, i.bytes)) = some (some (.slice none 0 0), 1, 24) := by kernel_rfl

theorem bill_n {n : Int} (h : n ∈ [4, 5, 3, 6, 2, 1, 0]) : ∃ m : Nat, n = (m : Int) ∧ m ≤ 6 := by
  simp at h
  exact ⟨n.toNat, by omega, by omega⟩

def BillPost (w : World) (R p : Nat) (e : Ending) (w' : World) : Prop := ∃ (a : Option Addr) (len cap : Nat) (rows : List (List Int)) (p' : Nat), e = .returned (.slice a len cap) ∧
      RowsAt w' (fun b => w.heap.size ≤ b ∧ b < w'.heap.size) a len rows ∧ len ≤ cap ∧ len ≤ 6 ∧ Rd w' R p' ∧ p' ≤ p + 1000 ∧ w.grownBy w' (some R)
theorem billPost_mk {w w' : World} {R p p' len cap M : Nat} {a : Option Addr} (h : OwnRows w' w.heap.size M (.slice a len cap) len) (hl : len ≤ cap) (h6 : len ≤ 6) (hr : Rd w' R p') (hp : p' ≤ p + 1000)
    (hg : w.grownBy w' (some R)) : BillPost w R p (.returned (.slice a len cap)) w' := by
  obtain ⟨a', cap', rows, hv, _, hrows⟩ := h.rows (by omega)
  simp only [Value.slice.injEq] at hv
  obtain ⟨rfl, _, rfl⟩ := hv
  exact ⟨_, _, _, rows, p', rfl, hrows, hl, h6, hr, hp, hg⟩

set_option maxHeartbeats 1000000 in
theorem someBill_any (R p : Nat) (w : World) (h : Rd w R p) (hp : p ≤ 1000000) :
    Calls Try.prog 16 #[.pointer (some ⟨R, 0, none⟩)] w (BillPost w R p) := by
  have hR := h.lt
  obtain ⟨i0, hi, hz0, hz1, hz2⟩ := info_parts Try.infoInt
  obtain ⟨i1, hj, hy0, hy1, hy2⟩ := info_parts Try.infoInts
  go_enter Try.func16, Try.ntmps16
  go_wp2_with fail
  refine (one_any (fun k => k = w.heap.size + 1) R p _ 7 7 [4, 5, 3, 6, 2, 1, 0] _ ((h.alloc _).alloc _) (IntsAt.lit rfl rfl (by simp) (by omega)) (by intro b hb; simp; omega) (by omega) (by omega)).mono ?_
  rintro e w1 ⟨n, hn, rfl, hr1, hg1⟩
  have hg2 : w.grownBy w1 (some R) := grown_trans (World.grownBy_alloc w _ _) (grown_trans (World.grownBy_alloc _ _ _) hg1 (by intro k e; cases e; exact Or.inl rfl)) (by intro k e; cases e; exact Or.inl rfl)
  have ho1 : OwnRows w1 w.heap.size w1.heap.size (.slice (some ⟨w.heap.size, 0, none⟩) 0 0) 0 :=
    OwnRows.nil rfl (grown_trans (World.grownBy_alloc _ _ _) hg1 (by intro k e; cases e; exact Or.inl rfl)) hR
  obtain ⟨m, rfl, hm⟩ := bill_n hn
  clear hn
  go_wp2_with fail
  go_loopw [3] (fun v wr => ∃ (k p' cap : Nat) (a : Option Addr), v = .slice a k cap ∧ k ≤ cap ∧ OwnRows wr w.heap.size wr.heap.size v k ∧ k ≤ m ∧ Rd wr R p' ∧ p' ≤ p + 1 + 30 * k ∧ w.grownBy wr (some R)) (fun v _ => m - capOf v)
  case atStart => exact ⟨0, p + 1, 0, _, rfl, Nat.le_refl _, ho1, Nat.zero_le _, hr1, Nat.le_refl _, hg2⟩
  case round =>
    obtain ⟨k, p', cap, a, rfl, hkc, ho, hkm, hr, hpp, hg⟩ := hrel
    obtain ⟨wo, rfl⟩ : ∃ wo : World, wo = wr := ⟨_, rfl⟩
    by_cases hlt : k < m
    · go_wp2_with fail
      have hgo : w.grownBy (wo.alloc (.cells #[] 3)) (some R) := grown_alloc hg _
      have hw0 : w.heap.size ≤ wo.heap.size := hg.size
      go_loopw [5] (fun r wr => ∃ (j p2 cj : Nat) (aj : Option Addr) (xs : List Int), r = .slice aj j cj ∧ j ≤ cj ∧ wr.ownsRow wo.heap.size 3 1 r j (xs.map (.int .i64)) ∧
        OwnRows wr w.heap.size wo.heap.size (.slice a k cap) k ∧ j ≤ k ∧ Rd wr R p2 ∧ p2 ≤ p' + 3 * j ∧ wo.heap.size ≤ wr.heap.size ∧ w.grownBy wr (some R)) (fun r _ => k - capOf r)
      case atStart => exact ⟨0, p', 0, _, [], rfl, Nat.le_refl _, World.ownsRow_made _ _ _ (Nat.le_refl _) (Nat.zero_le _) rfl, ho.alloc _, Nat.zero_le _, hr.alloc _, Nat.le_refl _, by simp, hgo⟩
      case round =>
        obtain ⟨j, p2, cj, aj, xs, rfl, hjc, hrow, ho2, hjk, hr2, hp2, hwo, hg2'⟩ := hrel
        obtain ⟨wi, rfl⟩ : ∃ wi : World, wi = wr := ⟨_, rfl⟩
        by_cases hlj : j < k
        · go_wp2_with fail
          refine (pick_any R p2 4 wi hr2 (by omega)).mono ?_
          rintro e w3 ⟨q1, rfl, hq1, hr3, hg3⟩
          go_wp2_with fail
          refine (pick_any R (p2 + 1) 2 w3 hr3 (by omega)).mono ?_
          rintro e w4 ⟨q2, rfl, hq2, hr4, hg4⟩
          go_wp2_with fail
          refine (one_any (fun b => b = w4.heap.size) R (p2 + 1 + 1) _ 3 3 [0, (q1 : Int), (q2 : Int)] _ (hr4.alloc _) (IntsAt.lit rfl rfl rfl (by omega)) (by intro b hb; have := hr4.lt; simp; omega) (by omega) (by omega)).mono ?_
          rintro e w5 ⟨x, _, rfl, hr5, hg5⟩
          have hgw : wi.grownBy w5 (some R) := grown_trans hg3 (grown_trans hg4 (grown_trans (World.grownBy_alloc w4 _ _) hg5 (by intro k e; cases e; exact Or.inl rfl)) (by intro k e; cases e; exact Or.inl rfl)) (by intro k e; cases e; exact Or.inl rfl)
          have hrow5 := hrow.kept hgw (ne_low hrow (by omega))
          have ho5 := ho2.low hgw hR
          have hg6 := grown_trans hg2' hgw (by intro k e; cases e; exact Or.inl rfl)
          go_wp2_with (at_builtin; refine wpList_append_own _ rfl _ _ 33 rfl wo.heap.size 3 i0 (.int .i64 0) 1 8 Try.underlying33 hi hz0 hz1 hz2 rfl (by decide) _ _ _ rfl (hrow5.alloc _) ⟨w5.heap.size, 0, none⟩ 1 1 [.int .i64 x] rfl rfl ?c1 ?c2 ?c3 ?c4 ?c5 ?_)
          case c1 => exact one_new _ _ _
          case c2 => exact one_cell_int _ _
          case c3 => unfold maxLen; omega
          case c4 => omega
          case c5 => have := hgw.size; simp; omega
          intro v' w6 hown hgrow _
          obtain ⟨a6, c6, rfl, hjc6⟩ := own_slice hown
          have hgr : w5.grownBy w6 (Value.slice aj j cj).ownBlock := grown_comp (World.grownBy_alloc w5 _ _) hgrow
          go_wp2
          go_roundw
          case rel => exact ⟨j + 1, p2 + 1 + 1 + 1, c6, a6, xs ++ [x], rfl, hjc6, by rw [List.map_append]; exact hown, ho5.ints hrow5 hgr, by omega, hr5.grown hgr (by intro b hb; have := (hrow5.lt b hb).1; omega), by omega, by have := hgr.size; have := hgw.size; omega, grown_trans hg6 hgr (by intro b hb; have := (hrow5.lt b hb).1; omega)⟩
          case measure => simp [capOf]; omega
        · obtain ⟨us, hout, hus⟩ := ho2
          go_wp2_with (at_builtin; refine wpList_append_own _ rfl _ _ 23 rfl w.heap.size 33 i1 (.slice none 0 0) 1 24 Try.underlying23 hj hy0 hy1 hy2 rfl (by decide) _ _ _ rfl (hout.alloc _) ⟨wi.heap.size, 0, none⟩ 1 1 [.slice aj j cj] rfl rfl ?c1 ?c2 ?c3 ?c4 ?c5 ?_)
          case c1 => exact one_new _ _ _
          case c2 => exact one_cell_slice _ _ _
          case c3 => unfold maxLen; omega
          case c4 => omega
          case c5 => have := hg2'.size; simp; omega
          intro v' w6 hown hgrow _
          obtain ⟨a6, c6, rfl, hjc6⟩ := own_slice hown
          have hgr : wi.grownBy w6 (Value.slice a k cap).ownBlock := grown_comp (World.grownBy_alloc wi _ _) hgrow
          go_wp2
          go_roundw
          case rel => exact ⟨k + 1, p2, c6, a6, rfl, hjc6, OwnRows.push hrow hw0 hout hus hown hgr, by omega, hr2.grown hgr (by intro b hb; have := (hout.lt b hb).1; omega), by omega, grown_trans hg2' hgr (by intro b hb; have := (hout.lt b hb).1; omega)⟩
          case measure => simp [capOf]; omega
    · by_cases hk1 : 1 < k
      · obtain ⟨g, rfl, hgB⟩ := ho.addr (by omega)
        go_wp2_with fail
        refine (pick_any R p' 30 wo hr (by omega)).mono ?_
        rintro e w2 ⟨q, rfl, _, hr2, hg3⟩
        have ho2 := ho.low hg3 hR
        have hg4 := grown_trans hg hg3 (by intro k e; cases e; exact Or.inl rfl)
        by_cases hq : q = 0
        · subst hq
          go_wp2_with fail
          refine (one_any (fun b => b = w2.heap.size) R (p' + 1) _ 2 2 [-1, 4] _ (hr2.alloc _) (IntsAt.lit rfl rfl rfl (by omega)) (by intro b hb; have := hr2.lt; simp; omega) (by omega) (by omega)).mono ?_
          rintro e w5 ⟨x, _, rfl, hr5, hg5⟩
          have hgw : w2.grownBy w5 (some R) := grown_trans (World.grownBy_alloc w2 _ _) hg5 (by intro k e; cases e; exact Or.inl rfl)
          have ho5 := (ho2.low hgw hR).alloc (.cells #[.int .i64 x] 3)
          have hg6 := grown_alloc (grown_trans hg4 hgw (by intro k e; cases e; exact Or.inl rfl)) (.cells #[.int .i64 x] 3)
          have hgg : g < w5.heap.size := by
            obtain ⟨us, hv, _⟩ := ho2.low hgw hR
            exact (hv.lt g rfl).2
          obtain ⟨v1, hc1, hf1⟩ := ho5.cell (j := 1) hk1
          go_wp2
          go_ret
          rw [← World.setCell_alloc_past (w := w5) _ g 1 _ hgg]
          obtain ⟨ho7, hg7⟩ := ho5.store (j := 1) (own_one w5 (by have := hg4.size; have := hgw.size; omega) x)
          exact billPost_mk ho7 hkc (by omega) ((hr5.alloc _).grown hg7 (by intro b hb; injection hb; omega)) (by omega) (grown_trans hg6 hg7 (by intro b hb; injection hb; omega))
        · go_wp2
          go_ret
          exact billPost_mk ho2 hkc (by omega) hr2 (by omega) hg4
      · go_wp2
        go_ret
        exact billPost_mk ho hkc (by omega) hr (by omega) hg
end Go.Proofs.Ytkpokcddefoklaa
