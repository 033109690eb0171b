import Derived.Test.YthmifadnfaajbacRows
import Derived.WalkKit
import Derived.LoopTactic
import Derived.Outline
import Derived.WalkSpells
import Derived.WalkLawsBesides
import Derived.ProofKit
import Derived.Test.YthmifadnfaajbacM0
import Derived.Test.YthmifadnfaajbacM1
import Derived.Test.YthmifadnfaajbacM6
import Derived.Test.YthmifadnfaajbacM2
import Derived.Test.YthmifadnfaajbacM22
import Derived.Test.YthmifadnfaajbacM7
namespace Go.Proofs.Ythmifadnfaajbac
open Go.RowKit Go.WideShapes

theorem Try.infoInt : (Try.prog.info? 3).map (fun i => (i.zero, i.size, i.bytes)) = some (some (.int .i64 0), 1, 8) := by kernel_rfl
theorem Try.infoInts : (Try.prog.info? 23).map (fun i => (i.zero, i.size, i.bytes)) = some (some (.slice none 0 0), 1, 24) := by kernel_rfl

theorem bill_n {n : Int} (h : n ∈ [4, 5, 3, 6, 2, 1, 0]) : ∃ m : Nat, n = (m : Int) ∧ m ≤ 6 := by
  simp at h
  exact ⟨n.toNat, by omega, by omega⟩

def BillPost (w : World) (R p : Nat) (e : Ending) (w' : World) : Prop := ∃ (a : Option Addr) (len cap : Nat) (rows : List (List Int)) (p' : Nat), e = .returned (.slice a len cap) ∧
      RowsAt w' (fun b => w.heap.size ≤ b ∧ b < w'.heap.size) a len rows ∧ len ≤ cap ∧ len ≤ 6 ∧ Rd w' R p' ∧ p' ≤ p + 1000 ∧ w.grownBy w' (some R)
theorem billPost_mk {w w' : World} {R p p' len cap M : Nat} {a : Option Addr} (h : OwnRows w' w.heap.size M (.slice a len cap) len) (hl : len ≤ cap) (h6 : len ≤ 6) (hr : Rd w' R p') (hp : p' ≤ p + 1000)
    (hg : w.grownBy w' (some R)) : BillPost w R p (.returned (.slice a len cap)) w' := by
  obtain ⟨a', cap', rows, hv, _, hrows⟩ := h.rows (by omega)
  simp only [Value.slice.injEq] at hv
  obtain ⟨rfl, _, rfl⟩ := hv
  exact ⟨_, _, _, rows, p', rfl, hrows, hl, h6, hr, hp, hg⟩

end Go.Proofs.Ythmifadnfaajbac
namespace Go.Proofs.Ythmifadnfaajbac
open Go.RowKit Go.WideShapes

def PairsPost (w : World) (R p : Nat) (e : Ending) (w' : World) : Prop := ∃ (a : Option Addr) (len cap : Nat) (rows : List (List Int)) (p' : Nat), e = .returned (.slice a len cap) ∧
      RowsAt w' (fun b => w.heap.size ≤ b ∧ b < w'.heap.size) a len rows ∧ len ≤ cap ∧ len ≤ 8 ∧ Rd w' R p' ∧ p' ≤ p + 1000 ∧ w.grownBy w' (some R)
theorem pairsPost_mk {w w' : World} {R p p' len cap M : Nat} {a : Option Addr} (h : OwnRows w' w.heap.size M (.slice a len cap) len) (hl : len ≤ cap) (h6 : len ≤ 8) (hr : Rd w' R p') (hp : p' ≤ p + 1000)
    (hg : w.grownBy w' (some R)) : PairsPost w R p (.returned (.slice a len cap)) w' := by
  obtain ⟨a', cap', rows, hv, _, hrows⟩ := h.rows (by omega)
  simp only [Value.slice.injEq] at hv
  obtain ⟨rfl, _, rfl⟩ := hv
  exact ⟨_, _, _, rows, p', rfl, hrows, hl, h6, hr, hp, hg⟩
theorem pair_hi {n : Int} (h : n ∈ [9, 4]) : 4 ≤ n ∧ n ≤ 9 := by simp at h; omega
theorem pair_x {n : Int} (h : n ∈ [10, -1]) : -1 ≤ n ∧ n ≤ 10 := by simp at h; omega
end Go.Proofs.Ythmifadnfaajbac
namespace Go.Proofs.Ythmifadnfaajbac
open Go.RowKit Go.WideShapes

theorem own_lit3 (w : World) {B : Nat} (hB : B ≤ w.heap.size) (x y z : Int) : (w.alloc (.cells #[.int .i64 x, .int .i64 y, .int .i64 z] 3)).ownsRow B 3 1 (.slice (some ⟨w.heap.size, 0, none⟩) 3 3) 3 ([x, y, z].map (.int .i64)) :=
  ⟨rfl, .inr ⟨w.heap.size, 3, _, rfl, hB, heap_alloc_new w _, Nat.le_refl _, by unfold maxLen; omega, rfl, rfl⟩⟩
theorem job_t {n : Int} (h : n ∈ [5, 9]) : 5 ≤ n ∧ n ≤ 9 := by simp at h; omega
theorem job_d {n : Int} (h : n ∈ [12, 25, 6]) : 6 ≤ n ∧ n ≤ 25 := by simp at h; omega
end Go.Proofs.Ythmifadnfaajbac
namespace Go.Proofs.Ythmifadnfaajbac
open Go.RowKit Go.WideShapes

/-- drawn jobs -/
def DrawnJ (w : World) (e : Ending) (w' : World) : Prop := ∃ (a : Option Addr) (l c : Nat) (rows : List (List Int)), e = .returned (.slice a l c) ∧ RowsAt w' (· < w'.heap.size) a l rows ∧ l ≤ c ∧ l ≤ 8 ∧ Below w.heap.size w w'
/-- and an order, most often -/
def DrawnJO (w : World) (e : Ending) (w' : World) : Prop := ∃ (a : Option Addr) (l c : Nat) (rows : List (List Int)) (a2 : Option Addr) (l2 c2 : Nat) (xs : List Int), e = .returned (.tuple #[.slice a l c, .slice a2 l2 c2]) ∧
  RowsAt w' (· < w'.heap.size) a l rows ∧ l ≤ c ∧ l ≤ 8 ∧ IntsAt w' (· < w'.heap.size) a2 l2 xs ∧ l2 ≤ c2 ∧ l2 = l ∧ (∀ x ∈ xs, -1 ≤ x ∧ x ≤ 8) ∧ Below w.heap.size w w'
end Go.Proofs.Ythmifadnfaajbac
namespace Go.Proofs.Ythmifadnfaajbac
open Go.RowKit Go.WideShapes

/-- one of some strings -/
theorem of_any (R p b len cap : Nat) (w : World) (h : Rd w R p) (hc : ∀ i, i < len → ∃ s : ByteArray, w.cell? ⟨b, i, none⟩ = some (.string s)) (hne : b ≠ R) (hb : b < w.heap.size) (hl : 1 ≤ len) (hl2 : len ≤ 1048576) (hp : p ≤ 1099511627776) :
    Calls Try.prog 27 #[.pointer (some ⟨R, 0, none⟩), .slice (some ⟨b, 0, none⟩) len cap] w fun e w' => ∃ s : ByteArray, e = .returned (.string s) ∧ Rd w' R (p + 1) ∧ w.grownBy w' (some R) := by
  go_enter Try.func27, Try.ntmps27
  go_wp2_with fail
  refine (pick_any R p (len : Int) w h hp).mono ?_
  rintro e w' ⟨k, rfl, hk, hr, hg⟩
  have hkl : k < len := by omega
  have hkI : (k : Int) < (len : Int) := by omega
  obtain ⟨s, hs⟩ := hc k hkl
  have hs' : w'.cell? ⟨b, k, none⟩ = some (.string s) := by rw [World.cell?_of_block (w := w) (hg.block b hb (by intro e; injection e with e; exact hne e))]; exact hs
  clear hs hc
  go_wp2_with fail
  go_ret
  exact ⟨s, rfl, hr, hg⟩
end Go.Proofs.Ythmifadnfaajbac
namespace Go.Proofs.Ythmifadnfaajbac
open Go.RowKit Go.WideShapes

def CutPost (w : World) (R p : Nat) (e : Ending) (w' : World) : Prop := ∃ (a : Option Addr) (len cap : Nat) (xs : List Int) (c : Int) (p' : Nat), e = .returned (.tuple #[.slice a len cap, .int .i64 c]) ∧
  w'.ownsRow w.heap.size 3 1 (.slice a len cap) len (xs.map (.int .i64)) ∧ len ≤ cap ∧ len ≤ 7 ∧ 1 ≤ c ∧ c ≤ 20 ∧ Rd w' R p' ∧ p' ≤ p + 100 ∧ w.grownBy w' (some R)
theorem CutPost.mk {w w' : World} {R p p' : Nat} {a : Option Addr} {len cap : Nat} {xs : List Int} {c : Int} (h : w'.ownsRow w.heap.size 3 1 (.slice a len cap) len (xs.map (.int .i64))) (hl : len ≤ 7) (hc1 : 1 ≤ c) (hc2 : c ≤ 20) (hr : Rd w' R p') (hp : p' ≤ p + 100) (hg : w.grownBy w' (some R)) :
    CutPost w R p (.returned (.tuple #[.slice a len cap, .int .i64 c])) w' := by
  obtain ⟨a', cap', e, hc⟩ := own_slice h
  simp only [Value.slice.injEq] at e
  obtain ⟨rfl, _, rfl⟩ := e
  exact ⟨_, _, _, xs, c, p', rfl, h, hc, hl, hc1, hc2, hr, hp, hg⟩
theorem cut_n {n : Int} (h : n ∈ [5, 4, 6, 3, 7, 2, 1, 0]) : ∃ m : Nat, n = (m : Int) ∧ m ≤ 7 := by simp at h; exact ⟨n.toNat, by omega, by omega⟩
theorem cut_c {n : Int} (h : n ∈ [10, 12, 7, 20, 5, 1]) : 1 ≤ n ∧ n ≤ 20 := by simp at h; omega
set_option maxRecDepth 100000 in
set_option maxHeartbeats 4000000 in
theorem someCuts_any (R p : Nat) (w : World) (h : Rd w R p) (hp : p ≤ 900000) :
    Calls Try.prog 26 #[.pointer (some ⟨R, 0, none⟩)] w (CutPost w R p) := by
  have hR := h.lt
  go_enter Try.func26, Try.ntmps26
  go_wp2_with fail
  refine (one_any (fun k => k = w.heap.size) R p _ 6 6 [10, 12, 7, 20, 5, 1] _ (h.alloc _) (IntsAt.lit rfl rfl rfl (by omega)) (by intro b hb; simp; omega) (by omega) (by omega)).mono ?_
  rintro e w1 ⟨c, hc, rfl, hr1, hg1⟩
  obtain ⟨hc1, hc2⟩ := cut_c hc
  clear hc
  have gw1 : w.grownBy w1 (some R) := grown_r (World.grownBy_alloc _ _ _) hg1
  go_wp2_with fail
  refine (one_any (fun k => k = w1.heap.size) R (p + 1) _ 8 8 [5, 4, 6, 3, 7, 2, 1, 0] _ (hr1.alloc _) (IntsAt.lit rfl rfl rfl (by omega)) (by intro b hb; have := hr1.lt; simp; omega) (by omega) (by omega)).mono ?_
  rintro e w2 ⟨n, hn, rfl, hr2, hg2⟩
  obtain ⟨n, rfl, hn7⟩ := cut_n hn
  clear hn
  have gw2 := grown_r gw1 (grown_r (World.grownBy_alloc _ _ _) hg2)
  go_wp2_with fail
  refine (listOf_any R (p + 1 + 1) n 1 c w2 hr2 (by omega) (by omega) (by omega) (by omega) (by omega)).mono ?_
  rintro e w3 ⟨a5, c5, xs, rfl, ho5, hc5, hl5, hall, hr3, hg3⟩
  have gw3 := grown_r gw2 hg3
  have ho := own_base ho5 gw2.size
  have HO := Lib.hid ho
  have HR3 := Lib.hid hr3
  have HG3 := Lib.hid gw3
  have HAL := Lib.hid (fun j (hj : j < n) => (show 1 ≤ xs.getD j 0 ∧ xs.getD j 0 ≤ c from by
    have hm : xs.getD j 0 ∈ xs := by rw [List.getD_eq_getElem?_getD, List.getElem?_eq_getElem (by omega)]; exact List.getElem_mem _
    have := hall _ hm; omega))
  have HLX := Lib.hid hl5
  clear ho5 ho hall hr1 hr2 hr3 hg1 hg2 hg3 gw1 gw2 gw3 h hl5
  go_wp2_with fail
  go_loopw [7] (fun i wr => ∃ (k p' : Nat) (ys : List Int), k ≤ n ∧ i = .int .i64 k ∧ wr.ownsRow w.heap.size 3 1 (.slice a5 n c5) n (ys.map (.int .i64)) ∧ (∀ j, k ≤ j → j < n → 1 ≤ ys.getD j 0 ∧ ys.getD j 0 ≤ c) ∧ Rd wr R p' ∧ p' ≤ p + 2 + n + k ∧ w.grownBy wr (some R)) (fun i _ => n - (intOf i).toNat)
  case atStart => exact ⟨0, p + 1 + 1 + n, xs, Nat.zero_le _, rfl, HO.out, fun j _ hj => HAL.out j hj, HR3.out, by omega, HG3.out⟩
  case round =>
    clear HO HR3 HG3 HAL HLX
    obtain ⟨k, p', ys, hk, rfl, hown, hall, hrd, hpp, hgr⟩ := hrel
    obtain ⟨wo, rfl⟩ : ∃ wo : World, wo = wr := ⟨_, rfl⟩
    have HO := Lib.hid hown
    have HG := Lib.hid hgr
    have HR := Lib.hid hrd
    have HAL := Lib.hid hall
    clear hown hgr hrd hall
    by_cases hlt : k < n
    · have hkI : (k : Int) < (n : Int) := by omega
      have h0 : 0 < n := by omega
      have h0I : (0 : Int) < (n : Int) := by omega
      go_wp2_with fail
      refine (pick_any R p' 3 wo HR.out (by omega)).mono ?_
      rintro e w8 ⟨q8, rfl, hq8, hr8, hg8⟩
      have HO8 := Lib.hid (HO.out.kept hg8 (ne_low HO.out hR))
      have HG8 := Lib.hid (grown_r HG.out hg8)
      have HR8 := Lib.hid hr8
      clear hr8 hg8
      by_cases hq80 : q8 = 0
      · subst hq80
        go_wp2_with fail
        refine (pick_any R (p' + 1) 30 w8 HR8.out (by omega)).mono ?_
        rintro e w9 ⟨q9, rfl, hq9, hr9, hg9⟩
        have HO9 := Lib.hid (HO8.out.kept hg9 (ne_low HO8.out hR))
        have hg10 := grown_r HG8.out hg9
        by_cases hq90 : q9 = 0
        · subst hq90
          have hw1 : IntKind.i64.wrap (c + 1) = c + 1 := IntWalk.i64_in _ (by omega)
          go_wp2_with fail
          refine (one_any (fun b => b = w9.heap.size) R (p' + 1 + 1) _ 2 2 [0, c + 1] _ (hr9.alloc _) (IntsAt.lit rfl rfl rfl (by omega)) (by intro b hb; have := hr9.lt; simp; omega) (by omega) (by omega)).mono ?_
          rintro e wa ⟨x, _, rfl, hra, hga⟩
          have hgw : w9.grownBy wa (some R) := grown_r (World.grownBy_alloc _ _ _) hga
          have HOA := Lib.hid (HO9.out.kept hgw (ne_low HO9.out hR))
          have hgb := grown_r hg10 hgw
          obtain ⟨g2, v0, e0, hgB, hc0, hf0⟩ := own_place HOA.out (j := 0) h0
          first | (obtain rfl := e0) | (simp only [Option.some.injEq, Addr.mk.injEq, and_true] at e0; subst e0)
          go_wp2
          go_ret2
          obtain ⟨h7, g7⟩ := HOA.out.stored 0 (.int .i64 x)
          exact CutPost.mk (xs := ys.set 0 x) (by rw [List.map_set]; exact h7) (by omega) hc1 hc2 (hra.grown g7 (by intro b hb; injection hb; omega)) (by omega) (grown_trans hgb g7 (by intro b hb; injection hb; omega))
        · go_wp2_with fail
          go_ret2
          exact CutPost.mk HO9.out (by omega) hc1 hc2 hr9 (by omega) hg10
      · obtain ⟨g, v0, rfl, hgB, hc0, hf0⟩ := own_place HO8.out (j := k) hlt
        have hx8 := own_low HO8.out (by omega)
        obtain ⟨b1, f1, x, e1, hxx, hcx⟩ := hx8.get hlt
        simp only [Option.some.injEq, Addr.mk.injEq, and_true] at e1
        obtain ⟨e1, e2⟩ := e1
        subst e1
        subst e2
        rw [Nat.zero_add] at hcx
        have hxb := HAL.out k (Nat.le_refl _) hlt
        rw [getD_of hxx] at hxb
        have hq8I : (0 : Int) < (q8 : Int) := by omega
        have hyl : ys.length = n := by have := HO8.out.1; simpa using this
        obtain ⟨h7, g7⟩ : World.ownsRow (w8.setCell ⟨g, k, none⟩ (.int .i64 (1 + x / 2))) w.heap.size 3 1 (.slice (some ⟨g, 0, none⟩) n c5) n ((ys.set k (1 + x / 2)).map (.int .i64)) ∧ w8.grownBy (w8.setCell ⟨g, k, none⟩ (.int .i64 (1 + x / 2))) (some g) := by
          have := HO8.out.stored k (.int .i64 (1 + x / 2))
          rw [List.map_set]; simpa using this
        have HO7 := Lib.hid h7
        have HR7 := Lib.hid (HR8.out.grown g7 (by intro b hb; injection hb; omega))
        have HG7 := Lib.hid (grown_trans HG8.out g7 (by intro b hb; injection hb; omega))
        have hcz : (w8.setCell ⟨g, k, none⟩ (.int .i64 (1 + x / 2))).cell? ⟨g, k, none⟩ = some (.int .i64 (1 + x / 2)) := by
          obtain ⟨b9, f9, x9, e9, hx9, hc9⟩ := (own_low h7 (by omega)).get hlt
          simp only [Option.some.injEq, Addr.mk.injEq, and_true] at e9
          obtain ⟨e9, e8⟩ := e9
          subst e9
          subst e8
          rw [Nat.zero_add] at hc9
          rw [hc9]
          have e7 := getD_of hx9
          rw [List.getD_eq_getElem?_getD, List.getElem?_set_self (by omega)] at e7
          simp at e7
          rw [e7]
        have htd : x.tdiv 2 = x / 2 := Int.tdiv_eq_ediv_of_nonneg (by omega)
        have hwq : IntKind.i64.wrap (x / 2) = x / 2 := IntWalk.i64_in _ (by omega)
        have hwa : IntKind.i64.wrap (1 + x / 2) = 1 + x / 2 := IntWalk.i64_in _ (by omega)
        have hng : ¬ c < 1 + x / 2 := by omega
        clear h7 g7 hxx hx8 hc0
        go_wp2_with fail
        go_roundw
        case rel => exact ⟨k + 1, p' + 1, ys.set k (1 + x / 2), by omega, by go_num, HO7.out, fun j hj hjn => by
          rw [List.getD_eq_getElem?_getD, List.getElem?_set_ne (by omega), ← List.getD_eq_getElem?_getD]
          exact HAL.out j (by omega) hjn, HR7.out, by omega, HG7.out⟩
        case measure => simp [intOf]; omega
    · obtain rfl : k = n := by omega
      have hkI : ¬ (k : Int) < (k : Int) := by omega
      by_cases h0 : 0 < k
      · have h0I : (0 : Int) < (k : Int) := by omega
        go_wp2_with fail
        refine (pick_any R (p') 30 wo HR.out (by omega)).mono ?_
        rintro e w9 ⟨q9, rfl, hq9, hr9, hg9⟩
        have HO9 := Lib.hid (HO.out.kept hg9 (ne_low HO.out hR))
        have hg10 := grown_r HG.out hg9
        by_cases hq90 : q9 = 0
        · subst hq90
          have hw1 : IntKind.i64.wrap (c + 1) = c + 1 := IntWalk.i64_in _ (by omega)
          go_wp2_with fail
          refine (one_any (fun b => b = w9.heap.size) R (p' + 1) _ 2 2 [0, c + 1] _ (hr9.alloc _) (IntsAt.lit rfl rfl rfl (by omega)) (by intro b hb; have := hr9.lt; simp; omega) (by omega) (by omega)).mono ?_
          rintro e wa ⟨x, _, rfl, hra, hga⟩
          have hgw : w9.grownBy wa (some R) := grown_r (World.grownBy_alloc _ _ _) hga
          have HOA := Lib.hid (HO9.out.kept hgw (ne_low HO9.out hR))
          have hgb := grown_r hg10 hgw
          obtain ⟨g2, v0, e0, hgB, hc0, hf0⟩ := own_place HOA.out (j := 0) h0
          first | (obtain rfl := e0) | (simp only [Option.some.injEq, Addr.mk.injEq, and_true] at e0; subst e0)
          go_wp2
          go_ret2
          obtain ⟨h7, g7⟩ := HOA.out.stored 0 (.int .i64 x)
          exact CutPost.mk (xs := ys.set 0 x) (by rw [List.map_set]; exact h7) (by omega) hc1 hc2 (hra.grown g7 (by intro b hb; injection hb; omega)) (by omega) (grown_trans hgb g7 (by intro b hb; injection hb; omega))
        · go_wp2_with fail
          go_ret2
          exact CutPost.mk HO9.out (by omega) hc1 hc2 hr9 (by omega) hg10
      · have h0n : k = 0 := by omega
        subst h0n
        go_wp2_with fail
        go_ret2
        exact CutPost.mk HO.out (by omega) hc1 hc2 HR.out (by omega) HG.out
/-- drawn: a list, and the length of the rolls -/
def DrawnC (w : World) (e : Ending) (w' : World) : Prop := ∃ (a : Option Addr) (len cap : Nat) (xs : List Int) (c : Int), e = .returned (.tuple #[.slice a len cap, .int .i64 c]) ∧ IntsAt w' (· < w'.heap.size) a len xs ∧ len ≤ cap ∧ len ≤ 7 ∧ 1 ≤ c ∧ c ≤ 20 ∧ Below w.heap.size w w'
def DrawnCK (w : World) (e : Ending) (w' : World) : Prop := ∃ (a : Option Addr) (len cap : Nat) (xs : List Int) (c : Int) (s : ByteArray), e = .returned (.tuple #[.slice a len cap, .int .i64 c, .string s]) ∧ IntsAt w' (· < w'.heap.size) a len xs ∧ len ≤ cap ∧ len ≤ 7 ∧ 1 ≤ c ∧ c ≤ 20 ∧ Below w.heap.size w w'
set_option maxRecDepth 100000 in
theorem dDrawRollsBy_any (a : Option Addr) (len cap : Nat) (w : World) (hb : BytesAt w w.heap.size a len) (hl : len ≤ cap) (hs : len ≤ 9223372036854775807) :
    Calls Try.prog 7 #[.slice a len cap] w (DrawnCK w) := by
  go_enter Try.func7, Try.ntmps7
  go_wp2_with fail
  refine (newReader_any a len cap w hb hl hs).mono ?_
  rintro e w1 ⟨rfl, hr, hb1⟩
  go_wp2_with fail
  refine (someCuts_any w.heap.size 0 w1 hr (by omega)).mono ?_
  rintro e w2 ⟨a2, l2, c2, xs, c, p2, rfl, h1, h2, h3, h4, h5, hr2, hp2, hg⟩
  go_wp2_with fail
  refine (of_any w.heap.size p2 w2.heap.size 5 5 _ (hr2.alloc _) (fun i hi => ?_) (by have := hr2.lt; omega) (by simp) (by omega) (by omega) (by omega)).mono ?_
  · rw [World.cell?_alloc_new]
    match i, hi with
    | 0, _ => exact ⟨_, rfl⟩
    | 1, _ => exact ⟨_, rfl⟩
    | 2, _ => exact ⟨_, rfl⟩
    | 3, _ => exact ⟨_, rfl⟩
    | 4, _ => exact ⟨_, rfl⟩
  rintro e w3 ⟨s, rfl, hr3, hg3⟩
  have hg4 : w2.grownBy w3 (some w.heap.size) := grown_r (World.grownBy_alloc w2 _ _) hg3
  have hbb : Below w.heap.size w w3 := grown_below (grown_r hg hg4) hb1 hb1.size
  have hi := own_low (h1.kept hg4 (ne_low h1 hr.lt)) (by omega)
  clear hg hg3 hg4 hr hr2 hr3 h1
  go_wp2_with fail
  go_ret3
  exact ⟨a2, l2, c2, xs, c, s, rfl, hi, h2, h3, h4, h5, hbb⟩
end Go.Proofs.Ythmifadnfaajbac
namespace Go.Proofs.Ythmifadnfaajbac
open Go.RowKit Go.WideShapes

theorem long_falls (xs : List Int) : ∀ i j, i < j → j < xs.length → lenT xs ((sortE (ahL xs) xs.length).getD j 0) ≤ lenT xs ((sortE (ahL xs) xs.length).getD i 0) := by
  have hs := sortE_sorted (ah := ahL xs) (N := xs.length) (fun i j k _ _ _ h1 h2 => by
    unfold ahL at h1 h2 ⊢
    rw [decide_eq_false_iff_not] at h1 h2 ⊢
    omega) (fun i k h => by
    unfold ahL at h ⊢
    rw [decide_eq_true_eq] at h
    rw [decide_eq_false_iff_not]
    omega) xs.length (Nat.le_refl _)
  intro i j hij hj
  have hl := sortE_len (ahL xs) xs.length
  have := List.pairwise_iff_getElem.1 hs i j (by omega) (by omega) hij
  have h4 := of_decide_eq_false (p := xs.getD ((sortE (ahL xs) xs.length)[i]) 0 < xs.getD ((sortE (ahL xs) xs.length)[j]) 0) this
  unfold lenT
  rw [List.getD_eq_getElem?_getD (l := sortE (ahL xs) xs.length), List.getD_eq_getElem?_getD (l := sortE (ahL xs) xs.length), List.getElem?_eq_getElem (by omega), List.getElem?_eq_getElem (by omega)]
  simp only [Option.getD_some]
  omega
theorem wsum_20 {f : Nat → Int} {P : Nat → Bool} : ∀ n, (∀ i, i < n → 0 ≤ f i ∧ f i ≤ 20) → 0 ≤ wsum f P n ∧ wsum f P n ≤ 20 * (n : Int)
  | 0, _ => by simp [wsum]
  | n + 1, h => by
    have h1 := wsum_20 (f := f) (P := P) n (fun i hi => h i (by omega))
    have h2 := h n (by omega)
    rw [wsum]; push_cast; split <;> omega
/-- what FnRollsBy asks -/
theorem rollsBy_law {xs : List Int} {R : Int} {kind : ByteArray} (h : rollRes xs R kind ≠ []) : cutsM xs R = true ∧ (isLong kind || isFirst kind) = true ∧ 0 < xs.length ∧ xs.length ≤ 7 ∧ (rollRes xs R kind).length = xs.length ∧ (∀ i, i < xs.length → 0 ≤ lenT xs i ∧ lenT xs i ≤ 20) ∧
    (∀ k : Nat, wsum (lenT xs) (fun i => decide ((rollRes xs R kind).getD i 0 = (k : Int))) xs.length ≤ R) ∧
    ∃ u m : Nat, greatM (rollRes xs R kind) + 1 = u ∧ diffM (rollRes xs R kind) xs.length = u ∧ rollsRes xs R = m ∧ u ≤ 7 ∧ m ≤ 7 ∧ (isFirst kind = true → 10 * u ≤ 17 * m) ∧ (isLong kind = true → 9 * u ≤ 11 * m + 6) := by
  have hv : cutsM xs R = true := by
    cases hv : cutsM xs R
    · exact absurd (by unfold rollRes; rw [hv]; rfl) h
    · rfl
  have hk : (isLong kind || isFirst kind) = true := by
    cases hk : (isLong kind || isFirst kind)
    · exact absurd (by unfold rollRes; rw [hv, hk]; rfl) h
    · rfl
  have hy := roll_yes hv hk
  have h0 : 0 < xs.length := by
    rcases Nat.eq_zero_or_pos xs.length with g | g
    · exact absurd (by rw [hy, g]; rfl) h
    · exact g
  obtain ⟨c1, c2, c7, hT⟩ := cuts_get hv
  obtain ⟨g1, g2⟩ := roll_great hv hk h0
  obtain ⟨p1, p2, p3, p4⟩ := roll_plan hT (cutOrd_perm xs kind)
  have hln : (rollRes xs R kind).length = xs.length := by rw [hy, tab_length]
  rw [hln] at g2
  obtain ⟨m, q, e, q1, q2⟩ := few_plan (xs := xs) (R := R) (by omega) (fun i hi => (hT i hi).2)
  have hrr : rollsRes xs R = fewRl xs R := by unfold rollsRes; rw [if_pos hv]
  have hr7 := rolls_bd xs R
  refine ⟨hv, hk, h0, c7, hln, fun i hi => by have := hT i hi; omega, fun k => ?_, _, m, g1, g2, by rw [hrr, e], Nat.le_trans (used_le hT (cutOrd_perm xs kind)) c7, by omega, fun _ => first_bound c1 hT (cutOrd_perm xs kind) h0 c7 q1 (fun j _ => q2 j), fun hl => ?_⟩
  · have e2 := wsum_congr (f := lenT xs) (g := lenT xs) (P := fun i => decide ((rollRes xs R kind).getD i 0 = (k : Int))) (Q := fun i => rollP (lenT xs) R (cutOrd xs kind) xs.length i == k) xs.length (fun i hi => by
      rw [hy, tab_getD _ hi]
      by_cases e : rollP (lenT xs) R (cutOrd xs kind) xs.length i = k
      · simp [e]
      · have : ¬ ((rollP (lenT xs) R (cutOrd xs kind) xs.length i : Nat) : Int) = (k : Int) := by omega
        simp [e, this]) (fun _ _ _ => rfl)
    rw [e2]
    rcases Nat.lt_or_ge k (rollU (lenT xs) R (cutOrd xs kind) xs.length) with g | g
    · exact p3 k g
    · rw [wsum_none _ (fun i hi => by have := p1 i hi; simp; omega)]; omega
  · refine long_bound c1 hT (cutOrd_perm xs kind) ?_ h0 c7 q1 (fun j _ => q2 j)
    unfold cutOrd
    rw [if_pos hl]
    exact long_falls xs
end Go.Proofs.Ythmifadnfaajbac
