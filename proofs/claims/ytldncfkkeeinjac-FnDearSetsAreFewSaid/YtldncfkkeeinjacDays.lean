import Derived.Test.YtldncfkkeeinjacRows
import Derived.WalkKit
import Derived.LoopTactic
import Derived.Outline
import Derived.WalkSpells
import Derived.WalkLawsBesides
import Derived.ProofKit
import Derived.Test.YtldncfkkeeinjacLib
import Derived.Test.YtldncfkkeeinjacRd
import Derived.Test.YtldncfkkeeinjacGen
import Derived.Test.YtldncfkkeeinjacPick
import Derived.Test.YtldncfkkeeinjacArr
import Derived.Test.YtldncfkkeeinjacOwn1
import Derived.Test.YtldncfkkeeinjacNetM
namespace Go.Proofs.Ytldncfkkeeinjac
open Go.RowKit Go.WideShapes

theorem Try.infoIntD : (Try.prog.info? 3).map (fun i => (i.zero, i.size, i.bytes)) = some (some (.int .i64 0), 1, 8) := by kernel_rfl

/-- the days that are drawn -/
def DaysOk (xs : List Int) : Prop := xs.length ≤ 9 ∧ (∀ k, -1 ≤ xs.getD k 0) ∧ (∀ k, xs.getD k 0 ≤ if k = 0 then 21 else 12)
theorem daysOk_of {xs : List Int} (hl : xs.length ≤ 9) (h : ∀ x ∈ xs, 0 ≤ x ∧ x ≤ 12) : DaysOk xs := by
  have key : ∀ k, 0 ≤ xs.getD k 0 ∧ xs.getD k 0 ≤ 12 := by
    intro k
    rcases Nat.lt_or_ge k xs.length with h' | h'
    · exact h _ (List.mem_of_getElem? (get_getD h'))
    · rw [getD_past h']; omega
  exact ⟨hl, fun k => by have := key k; omega, fun k => by have := key k; split <;> omega⟩
theorem daysOk_set {xs : List Int} {x : Int} (hl : xs.length ≤ 9) (h : ∀ x ∈ xs, 0 ≤ x ∧ x ≤ 12) (hx : x = -1 ∨ x = 21) : DaysOk (xs.set 0 x) := by
  have key : ∀ k, 0 ≤ xs.getD k 0 ∧ xs.getD k 0 ≤ 12 := by
    intro k
    rcases Nat.lt_or_ge k xs.length with h' | h'
    · exact h _ (List.mem_of_getElem? (get_getD h'))
    · rw [getD_past h']; omega
  have e : ∀ k, (xs.set 0 x).getD k 0 = if k = 0 ∧ 0 < xs.length then x else xs.getD k 0 := by
    intro k
    rw [List.getD_eq_getElem?_getD, List.getD_eq_getElem?_getD, List.getElem?_set]
    by_cases hk : 0 = k
    · subst hk
      by_cases hp : 0 < xs.length
      · rw [if_pos rfl, if_pos hp, if_pos ⟨rfl, hp⟩]; rfl
      · rw [if_pos rfl, if_neg hp, if_neg (by omega), List.getElem?_eq_none (by omega)]
    · rw [if_neg hk, if_neg (by omega)]
  refine ⟨by rw [List.length_set]; exact hl, fun k => ?_, fun k => ?_⟩
  · rw [e]; have := key k; split <;> omega
  · rw [e]; have := key k; split <;> split <;> omega

def DaysPost (w : World) (R p : Nat) (e : Ending) (w' : World) : Prop := ∃ (a : Option Addr) (len cap : Nat) (xs : List Int) (p' : Nat), e = .returned (.slice a len cap) ∧
  w'.ownsRow w.heap.size 3 1 (.slice a len cap) len (xs.map (.int .i64)) ∧ len ≤ cap ∧ len ≤ 9 ∧ DaysOk xs ∧ Rd w' R p' ∧ p' ≤ p + 100 ∧ w.grownBy w' (some R)
theorem DaysPost.mk {w w' : World} {R p p' : Nat} {a : Option Addr} {len cap : Nat} {xs : List Int} (h : w'.ownsRow w.heap.size 3 1 (.slice a len cap) len (xs.map (.int .i64))) (hl : len ≤ 9) (hd : DaysOk xs) (hr : Rd w' R p') (hp : p' ≤ p + 100) (hg : w.grownBy w' (some R)) :
    DaysPost w R p (.returned (.slice a len cap)) w' := by
  obtain ⟨a', cap', e, hc⟩ := own_slice h
  simp only [Value.slice.injEq] at e
  obtain ⟨rfl, _, rfl⟩ := e
  exact ⟨_, _, _, xs, p', rfl, h, hc, hl, hd, hr, hp, hg⟩
theorem ro {R : Nat} : ∀ k, some R = some k → k = R ∨ False := by intro k e; cases e; exact Or.inl rfl

theorem most_n {n : Int} (h : n ∈ [6, 12, 3]) : 3 ≤ n ∧ n ≤ 12 := by simp at h; omega
theorem days_n {n : Int} (h : n ∈ [5, 6, 4, 8, 3, 2, 1, 0, 9]) : ∃ m : Nat, n = (m : Int) ∧ m ≤ 9 := by simp at h; exact ⟨n.toNat, by omega, by omega⟩
theorem grown_r {a b c : World} {R : Nat} (h : a.grownBy b (some R)) (g : b.grownBy c (some R)) : a.grownBy c (some R) := grown_trans h g (fun k e => by cases e; exact Or.inl rfl)

set_option maxRecDepth 100000 in
set_option maxHeartbeats 2000000 in
theorem someDays_any (R p : Nat) (w : World) (h : Rd w R p) (hp : p ≤ 1000000) :
    Calls Try.prog 22 #[.pointer (some ⟨R, 0, none⟩)] w (DaysPost w R p) := by
  have hR := h.lt
  obtain ⟨i0, hi, hz0, hz1, hz2⟩ := info_parts Try.infoIntD
  go_enter Try.func22, Try.ntmps22
  go_wp2_with fail
  refine (one_any (fun k => k = w.heap.size + 1) R p _ 3 3 [6, 12, 3] _ ((h.alloc _).alloc _) (IntsAt.lit rfl rfl (by simp) (by omega)) (by intro b hb; simp; omega) (by omega) (by omega)).mono ?_
  rintro e w1 ⟨most, hmost, rfl, hr1, hg1⟩
  have hmo := most_n hmost
  clear hmost
  have ga1 : (w.alloc (.cells #[] 3)).grownBy w1 (some R) := grown_r (World.grownBy_alloc _ _ _) hg1
  have ho0 := World.ownsRow_made (base := w.heap.size) (size := 1) (e := 3) w #[] 0 (Nat.le_refl _) (Nat.zero_le _) rfl
  have ho1 := ho0.kept ga1 (ne_low ho0 hR)
  have gw1 : w.grownBy w1 (some R) := grown_r (World.grownBy_alloc _ _ _) ga1
  clear ho0
  go_wp2_with fail
  refine (one_any (fun k => k = w1.heap.size) R (p + 1) _ 9 9 [5, 6, 4, 8, 3, 2, 1, 0, 9] _ (hr1.alloc _) (IntsAt.lit rfl rfl (by simp) (by omega)) (by intro b hb; have := hr1.lt; simp; omega) (by omega) (by omega)).mono ?_
  rintro e w2 ⟨n, hn, rfl, hr2, hg2⟩
  obtain ⟨m, rfl, hm⟩ := days_n hn
  clear hn
  have ga2 : w1.grownBy w2 (some R) := grown_r (World.grownBy_alloc _ _ _) hg2
  have ho2 := ho1.kept ga2 (ne_low ho1 hR)
  have gw2 := grown_r gw1 ga2
  clear ho1
  go_wp2_with fail
  go_loopw [3] (fun v wr => ∃ (k p' cap : Nat) (a : Option Addr) (xs : List Int), v = .slice a k cap ∧ wr.ownsRow w.heap.size 3 1 v k (xs.map (.int .i64)) ∧ k ≤ m ∧ (∀ x ∈ xs, 0 ≤ x ∧ x ≤ 12) ∧ Rd wr R p' ∧ p' ≤ p + 2 + 3 * k ∧ w.grownBy wr (some R)) (fun v _ => m - capOf v)
  case atStart => exact ⟨0, p + 1 + 1, _, _, [], rfl, ho2, Nat.zero_le _, (fun x hx => by cases hx), hr2, by omega, gw2⟩
  case round =>
    obtain ⟨k, p', cap, a, xs, rfl, hown, hkm, hall, hr, hpp, hg⟩ := hrel
    obtain ⟨wo, rfl⟩ : ∃ wo : World, wo = wr := ⟨_, rfl⟩
    have hsz := hg.size
    have HOWN := Lib.hid hown
    have HALL := Lib.hid hall
    clear hown hall
    by_cases hlt : k < m
    · go_wp2_with fail
      refine (pick_any R p' (most + 1) wo hr (by omega)).mono ?_
      rintro e w3 ⟨q1, rfl, hq1, hr3, hg3⟩
      go_wp2_with fail
      refine (pick_any R (p' + 1) (most + 1) w3 hr3 (by omega)).mono ?_
      rintro e w4 ⟨q2, rfl, hq2, hr4, hg4⟩
      go_wp2_with fail
      refine (one_any (fun b => b = w4.heap.size) R (p' + 1 + 1) _ 3 3 [(q1 : Int), (q2 : Int), 0] _ (hr4.alloc _) (IntsAt.lit rfl rfl rfl (by omega)) (by intro b hb; have := hr4.lt; simp; omega) (by omega) (by omega)).mono ?_
      rintro e w5 ⟨x, hx, rfl, hr5, hg5⟩
      have hxb : 0 ≤ x ∧ x ≤ 12 := by simp at hx; omega
      clear hx
      have hgw : wo.grownBy w5 (some R) := grown_r hg3 (grown_r hg4 (grown_r (World.grownBy_alloc _ _ _) hg5))
      have HO5 := Lib.hid (HOWN.out.kept hgw (ne_low HOWN.out hR))
      have hg6 := grown_r hg hgw
      go_wp2_with (at_builtin; refine wpList_append_own _ rfl _ _ 23 rfl w.heap.size 3 i0 (.int .i64 0) 1 8 Try.underlying23 hi hz0 hz1 hz2 rfl (by decide) _ _ _ rfl (HO5.out.alloc _) ⟨w5.heap.size, 0, none⟩ 1 1 [.int .i64 x] rfl rfl ?c1 ?c2 ?c3 ?c4 ?c5 ?_)
      case c1 => exact one_new _ _ _
      case c2 => exact one_cell_int _ _
      case c3 => unfold maxLen; omega
      case c4 => omega
      case c5 => have := hgw.size; simp; omega
      intro v' w6 hown hgrow _
      obtain ⟨a6, c6, rfl, _⟩ := own_slice hown
      have hgr : w5.grownBy w6 (Value.slice a k cap).ownBlock := grown_comp (World.grownBy_alloc w5 _ _) hgrow
      have HO6 := Lib.hid hown
      have HG6 := Lib.hid hgr
      clear hown hgr hgrow
      go_wp2
      go_roundw
      case rel => exact ⟨k + 1, p' + 1 + 1 + 1, c6, a6, xs ++ [x], rfl, by rw [List.map_append]; exact HO6.out, by omega, (fun y hy => by
        rcases List.mem_append.1 hy with h' | h'
        · exact HALL.out y h'
        · simp only [List.mem_singleton] at h'; rw [h']; exact hxb), hr5.grown HG6.out (by intro b hb; have := (HO5.out.lt b hb).1; omega), by omega, grown_trans hg6 HG6.out (by intro b hb; have := (HO5.out.lt b hb).1; omega)⟩
      case measure => simp [capOf]; omega
    · have hxl : xs.length ≤ 9 := by have := HOWN.out.1; simp at this; omega
      by_cases hk0 : 0 < k
      · go_wp2_with fail
        refine (pick_any R p' 30 wo hr (by omega)).mono ?_
        rintro e w3 ⟨q1, rfl, hq1, hr3, hg3⟩
        have HO3 := Lib.hid (HOWN.out.kept hg3 (ne_low HOWN.out hR))
        have hg4 := grown_r hg hg3
        by_cases hq : q1 = 0
        · subst hq
          go_wp2_with fail
          refine (one_any (fun b => b = w3.heap.size) R (p' + 1) _ 2 2 [-1, 21] _ (hr3.alloc _) (IntsAt.lit rfl rfl rfl (by omega)) (by intro b hb; have := hr3.lt; simp; omega) (by omega) (by omega)).mono ?_
          rintro e w5 ⟨x, hx, rfl, hr5, hg5⟩
          have hxb : x = -1 ∨ x = 21 := by simpa using hx
          clear hx
          have hgw : w3.grownBy w5 (some R) := grown_r (World.grownBy_alloc _ _ _) hg5
          have HO5 := Lib.hid (HO3.out.kept hgw (ne_low HO3.out hR))
          have hg6 := grown_r hg4 hgw
          obtain ⟨g, v0, rfl, hgB, hc0, hf0⟩ := own_place HO5.out (j := 0) hk0
          go_wp2
          go_ret
          obtain ⟨h7, g7⟩ := HO5.out.stored 0 (.int .i64 x)
          exact DaysPost.mk (xs := xs.set 0 x) (by rw [List.map_set]; exact h7) (by omega) (daysOk_set hxl HALL.out hxb) (hr5.grown g7 (by intro b hb; injection hb; omega)) (by omega) (grown_trans hg6 g7 (by intro b hb; injection hb; omega))
        · go_wp2
          go_ret
          exact DaysPost.mk HO3.out (by omega) (daysOk_of hxl HALL.out) hr3 (by omega) hg4
      · go_wp2
        go_ret
        exact DaysPost.mk HOWN.out (by omega) (daysOk_of hxl HALL.out) hr (by omega) hg
end Go.Proofs.Ytldncfkkeeinjac
