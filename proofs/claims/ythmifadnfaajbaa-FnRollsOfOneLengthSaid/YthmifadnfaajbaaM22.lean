import Derived.Test.YthmifadnfaajbaaRows
import Derived.WalkKit
import Derived.LoopTactic
import Derived.Outline
import Derived.WalkSpells
import Derived.WalkLawsBesides
import Derived.ProofKit
import Derived.Test.YthmifadnfaajbaaM0
import Derived.Test.YthmifadnfaajbaaM1
import Derived.Test.YthmifadnfaajbaaM5
import Derived.Test.YthmifadnfaajbaaM21
import Derived.Test.YthmifadnfaajbaaM7
import Derived.Test.YthmifadnfaajbaaM2
import Derived.Test.YthmifadnfaajbaaM3
import Derived.Test.YthmifadnfaajbaaM6
import Derived.Test.YthmifadnfaajbaaM10
import Derived.Test.YthmifadnfaajbaaM11
namespace Go.Proofs.Ythmifadnfaajbaa
open Go.RowKit Go.WideShapes

def CutPost (w : World) (R p : Nat) (e : Ending) (w' : World) : Prop := ∃ (a : Option Addr) (len cap : Nat) (xs : List Int) (c : Int) (p' : Nat), e = .returned (.tuple #[.slice a len cap, .int .i64 c]) ∧
  w'.ownsRow w.heap.size 3 1 (.slice a len cap) len (xs.map (.int .i64)) ∧ len ≤ cap ∧ len ≤ 7 ∧ 1 ≤ c ∧ c ≤ 20 ∧ Rd w' R p' ∧ p' ≤ p + 100 ∧ w.grownBy w' (some R)
theorem CutPost.mk {w w' : World} {R p p' : Nat} {a : Option Addr} {len cap : Nat} {xs : List Int} {c : Int} (h : w'.ownsRow w.heap.size 3 1 (.slice a len cap) len (xs.map (.int .i64))) (hl : len ≤ 7) (hc1 : 1 ≤ c) (hc2 : c ≤ 20) (hr : Rd w' R p') (hp : p' ≤ p + 100) (hg : w.grownBy w' (some R)) :
    CutPost w R p (.returned (.tuple #[.slice a len cap, .int .i64 c])) w' := by
  obtain ⟨a', cap', e, hc⟩ := own_slice h
  simp only [Value.slice.injEq] at e
  obtain ⟨rfl, _, rfl⟩ := e
  exact ⟨_, _, _, xs, c, p', rfl, h, hc, hl, hc1, hc2, hr, hp, hg⟩
theorem cut_n {n : Int} (h : n ∈ [5, 4, 6, 3, 7, 2, 1, 0]) : ∃ m : Nat, n = (m : Int) ∧ m ≤ 7 := by simp at h; exact ⟨n.toNat, by omega, by omega⟩
theorem cut_c {n : Int} (h : n ∈ [10, 12, 7, 20, 5, 1]) : 1 ≤ n ∧ n ≤ 20 := by simp at h; omega
set_option maxRecDepth 100000 in
set_option maxHeartbeats 4000000 in
theorem someCuts_any (R p : Nat) (w : World) (h : Rd w R p) (hp : p ≤ 900000) :
    Calls Try.prog 20 #[.pointer (some ⟨R, 0, none⟩)] w (CutPost w R p) := by
  have hR := h.lt
  go_enter Try.func20, Try.ntmps20
  go_wp2_with fail
  refine (one_any (fun k => k = w.heap.size) R p _ 6 6 [10, 12, 7, 20, 5, 1] _ (h.alloc _) (IntsAt.lit rfl rfl rfl (by omega)) (by intro b hb; simp; omega) (by omega) (by omega)).mono ?_
  rintro e w1 ⟨c, hc, rfl, hr1, hg1⟩
  obtain ⟨hc1, hc2⟩ := cut_c hc
  clear hc
  have gw1 : w.grownBy w1 (some R) := grown_r (World.grownBy_alloc _ _ _) hg1
  go_wp2_with fail
  refine (one_any (fun k => k = w1.heap.size) R (p + 1) _ 8 8 [5, 4, 6, 3, 7, 2, 1, 0] _ (hr1.alloc _) (IntsAt.lit rfl rfl rfl (by omega)) (by intro b hb; have := hr1.lt; simp; omega) (by omega) (by omega)).mono ?_
  rintro e w2 ⟨n, hn, rfl, hr2, hg2⟩
  obtain ⟨n, rfl, hn7⟩ := cut_n hn
  clear hn
  have gw2 := grown_r gw1 (grown_r (World.grownBy_alloc _ _ _) hg2)
  go_wp2_with fail
  refine (listOf_any R (p + 1 + 1) n 1 c w2 hr2 (by omega) (by omega) (by omega) (by omega) (by omega)).mono ?_
  rintro e w3 ⟨a5, c5, xs, rfl, ho5, hc5, hl5, hall, hr3, hg3⟩
  have gw3 := grown_r gw2 hg3
  have ho := own_base ho5 gw2.size
  have HO := Lib.hid ho
  have HR3 := Lib.hid hr3
  have HG3 := Lib.hid gw3
  have HAL := Lib.hid (fun j (hj : j < n) => (show 1 ≤ xs.getD j 0 ∧ xs.getD j 0 ≤ c from by
    have hm : xs.getD j 0 ∈ xs := by rw [List.getD_eq_getElem?_getD, List.getElem?_eq_getElem (by omega)]; exact List.getElem_mem _
    have := hall _ hm; omega))
  have HLX := Lib.hid hl5
  clear ho5 ho hall hr1 hr2 hr3 hg1 hg2 hg3 gw1 gw2 gw3 h hl5
  go_wp2_with fail
  go_loopw [7] (fun i wr => ∃ (k p' : Nat) (ys : List Int), k ≤ n ∧ i = .int .i64 k ∧ wr.ownsRow w.heap.size 3 1 (.slice a5 n c5) n (ys.map (.int .i64)) ∧ (∀ j, k ≤ j → j < n → 1 ≤ ys.getD j 0 ∧ ys.getD j 0 ≤ c) ∧ Rd wr R p' ∧ p' ≤ p + 2 + n + k ∧ w.grownBy wr (some R)) (fun i _ => n - (intOf i).toNat)
  case atStart => exact ⟨0, p + 1 + 1 + n, xs, Nat.zero_le _, rfl, HO.out, fun j _ hj => HAL.out j hj, HR3.out, by omega, HG3.out⟩
  case round =>
    clear HO HR3 HG3 HAL HLX
    obtain ⟨k, p', ys, hk, rfl, hown, hall, hrd, hpp, hgr⟩ := hrel
    obtain ⟨wo, rfl⟩ : ∃ wo : World, wo = wr := ⟨_, rfl⟩
    have HO := Lib.hid hown
    have HG := Lib.hid hgr
    have HR := Lib.hid hrd
    have HAL := Lib.hid hall
    clear hown hgr hrd hall
    by_cases hlt : k < n
    · have hkI : (k : Int) < (n : Int) := by omega
      have h0 : 0 < n := by omega
      have h0I : (0 : Int) < (n : Int) := by omega
      go_wp2_with fail
      refine (pick_any R p' 3 wo HR.out (by omega)).mono ?_
      rintro e w8 ⟨q8, rfl, hq8, hr8, hg8⟩
      have HO8 := Lib.hid (HO.out.kept hg8 (ne_low HO.out hR))
      have HG8 := Lib.hid (grown_r HG.out hg8)
      have HR8 := Lib.hid hr8
      clear hr8 hg8
      by_cases hq80 : q8 = 0
      · subst hq80
        go_wp2_with fail
        refine (pick_any R (p' + 1) 30 w8 HR8.out (by omega)).mono ?_
        rintro e w9 ⟨q9, rfl, hq9, hr9, hg9⟩
        have HO9 := Lib.hid (HO8.out.kept hg9 (ne_low HO8.out hR))
        have hg10 := grown_r HG8.out hg9
        by_cases hq90 : q9 = 0
        · subst hq90
          have hw1 : IntKind.i64.wrap (c + 1) = c + 1 := IntWalk.i64_in _ (by omega)
          go_wp2_with fail
          refine (one_any (fun b => b = w9.heap.size) R (p' + 1 + 1) _ 2 2 [0, c + 1] _ (hr9.alloc _) (IntsAt.lit rfl rfl rfl (by omega)) (by intro b hb; have := hr9.lt; simp; omega) (by omega) (by omega)).mono ?_
          rintro e wa ⟨x, _, rfl, hra, hga⟩
          have hgw : w9.grownBy wa (some R) := grown_r (World.grownBy_alloc _ _ _) hga
          have HOA := Lib.hid (HO9.out.kept hgw (ne_low HO9.out hR))
          have hgb := grown_r hg10 hgw
          obtain ⟨g2, v0, e0, hgB, hc0, hf0⟩ := own_place HOA.out (j := 0) h0
          first | (obtain rfl := e0) | (simp only [Option.some.injEq, Addr.mk.injEq, and_true] at e0; subst e0)
          go_wp2
          go_ret2
          obtain ⟨h7, g7⟩ := HOA.out.stored 0 (.int .i64 x)
          exact CutPost.mk (xs := ys.set 0 x) (by rw [List.map_set]; exact h7) (by omega) hc1 hc2 (hra.grown g7 (by intro b hb; injection hb; omega)) (by omega) (grown_trans hgb g7 (by intro b hb; injection hb; omega))
        · go_wp2_with fail
          go_ret2
          exact CutPost.mk HO9.out (by omega) hc1 hc2 hr9 (by omega) hg10
      · obtain ⟨g, v0, rfl, hgB, hc0, hf0⟩ := own_place HO8.out (j := k) hlt
        have hx8 := own_low HO8.out (by omega)
        obtain ⟨b1, f1, x, e1, hxx, hcx⟩ := hx8.get hlt
        simp only [Option.some.injEq, Addr.mk.injEq, and_true] at e1
        obtain ⟨e1, e2⟩ := e1
        subst e1
        subst e2
        rw [Nat.zero_add] at hcx
        have hxb := HAL.out k (Nat.le_refl _) hlt
        rw [getD_of hxx] at hxb
        have hq8I : (0 : Int) < (q8 : Int) := by omega
        have hyl : ys.length = n := by have := HO8.out.1; simpa using this
        obtain ⟨h7, g7⟩ : World.ownsRow (w8.setCell ⟨g, k, none⟩ (.int .i64 (1 + x / 2))) w.heap.size 3 1 (.slice (some ⟨g, 0, none⟩) n c5) n ((ys.set k (1 + x / 2)).map (.int .i64)) ∧ w8.grownBy (w8.setCell ⟨g, k, none⟩ (.int .i64 (1 + x / 2))) (some g) := by
          have := HO8.out.stored k (.int .i64 (1 + x / 2))
          rw [List.map_set]; simpa using this
        have HO7 := Lib.hid h7
        have HR7 := Lib.hid (HR8.out.grown g7 (by intro b hb; injection hb; omega))
        have HG7 := Lib.hid (grown_trans HG8.out g7 (by intro b hb; injection hb; omega))
        have hcz : (w8.setCell ⟨g, k, none⟩ (.int .i64 (1 + x / 2))).cell? ⟨g, k, none⟩ = some (.int .i64 (1 + x / 2)) := by
          obtain ⟨b9, f9, x9, e9, hx9, hc9⟩ := (own_low h7 (by omega)).get hlt
          simp only [Option.some.injEq, Addr.mk.injEq, and_true] at e9
          obtain ⟨e9, e8⟩ := e9
          subst e9
          subst e8
          rw [Nat.zero_add] at hc9
          rw [hc9]
          have e7 := getD_of hx9
          rw [List.getD_eq_getElem?_getD, List.getElem?_set_self (by omega)] at e7
          simp at e7
          rw [e7]
        have htd : x.tdiv 2 = x / 2 := Int.tdiv_eq_ediv_of_nonneg (by omega)
        have hwq : IntKind.i64.wrap (x / 2) = x / 2 := IntWalk.i64_in _ (by omega)
        have hwa : IntKind.i64.wrap (1 + x / 2) = 1 + x / 2 := IntWalk.i64_in _ (by omega)
        have hng : ¬ c < 1 + x / 2 := by omega
        clear h7 g7 hxx hx8 hc0
        go_wp2_with fail
        go_roundw
        case rel => exact ⟨k + 1, p' + 1, ys.set k (1 + x / 2), by omega, by go_num, HO7.out, fun j hj hjn => by
          rw [List.getD_eq_getElem?_getD, List.getElem?_set_ne (by omega), ← List.getD_eq_getElem?_getD]
          exact HAL.out j (by omega) hjn, HR7.out, by omega, HG7.out⟩
        case measure => simp [intOf]; omega
    · obtain rfl : k = n := by omega
      have hkI : ¬ (k : Int) < (k : Int) := by omega
      by_cases h0 : 0 < k
      · have h0I : (0 : Int) < (k : Int) := by omega
        go_wp2_with fail
        refine (pick_any R (p') 30 wo HR.out (by omega)).mono ?_
        rintro e w9 ⟨q9, rfl, hq9, hr9, hg9⟩
        have HO9 := Lib.hid (HO.out.kept hg9 (ne_low HO.out hR))
        have hg10 := grown_r HG.out hg9
        by_cases hq90 : q9 = 0
        · subst hq90
          have hw1 : IntKind.i64.wrap (c + 1) = c + 1 := IntWalk.i64_in _ (by omega)
          go_wp2_with fail
          refine (one_any (fun b => b = w9.heap.size) R (p' + 1) _ 2 2 [0, c + 1] _ (hr9.alloc _) (IntsAt.lit rfl rfl rfl (by omega)) (by intro b hb; have := hr9.lt; simp; omega) (by omega) (by omega)).mono ?_
          rintro e wa ⟨x, _, rfl, hra, hga⟩
          have hgw : w9.grownBy wa (some R) := grown_r (World.grownBy_alloc _ _ _) hga
          have HOA := Lib.hid (HO9.out.kept hgw (ne_low HO9.out hR))
          have hgb := grown_r hg10 hgw
          obtain ⟨g2, v0, e0, hgB, hc0, hf0⟩ := own_place HOA.out (j := 0) h0
          first | (obtain rfl := e0) | (simp only [Option.some.injEq, Addr.mk.injEq, and_true] at e0; subst e0)
          go_wp2
          go_ret2
          obtain ⟨h7, g7⟩ := HOA.out.stored 0 (.int .i64 x)
          exact CutPost.mk (xs := ys.set 0 x) (by rw [List.map_set]; exact h7) (by omega) hc1 hc2 (hra.grown g7 (by intro b hb; injection hb; omega)) (by omega) (grown_trans hgb g7 (by intro b hb; injection hb; omega))
        · go_wp2_with fail
          go_ret2
          exact CutPost.mk HO9.out (by omega) hc1 hc2 hr9 (by omega) hg10
      · have h0n : k = 0 := by omega
        subst h0n
        go_wp2_with fail
        go_ret2
        exact CutPost.mk HO.out (by omega) hc1 hc2 HR.out (by omega) HG.out
/-- drawn: a list, and the length of the rolls -/
def DrawnC (w : World) (e : Ending) (w' : World) : Prop := ∃ (a : Option Addr) (len cap : Nat) (xs : List Int) (c : Int), e = .returned (.tuple #[.slice a len cap, .int .i64 c]) ∧ IntsAt w' (· < w'.heap.size) a len xs ∧ len ≤ cap ∧ len ≤ 7 ∧ 1 ≤ c ∧ c ≤ 20 ∧ Below w.heap.size w w'
def DrawnCK (w : World) (e : Ending) (w' : World) : Prop := ∃ (a : Option Addr) (len cap : Nat) (xs : List Int) (c : Int) (s : ByteArray), e = .returned (.tuple #[.slice a len cap, .int .i64 c, .string s]) ∧ IntsAt w' (· < w'.heap.size) a len xs ∧ len ≤ cap ∧ len ≤ 7 ∧ 1 ≤ c ∧ c ≤ 20 ∧ Below w.heap.size w w'
set_option maxRecDepth 100000 in
theorem dDrawValidCuts_any (a : Option Addr) (len cap : Nat) (w : World) (hb : BytesAt w w.heap.size a len) (hl : len ≤ cap) (hs : len ≤ 9223372036854775807) :
    Calls Try.prog 7 #[.slice a len cap] w (DrawnC w) := by
  go_enter Try.func7, Try.ntmps7
  go_wp2_with fail
  refine (newReader_any a len cap w hb hl hs).mono ?_
  rintro e w1 ⟨rfl, hr, hb1⟩
  go_wp2_with fail
  refine (someCuts_any w.heap.size 0 w1 hr (by omega)).mono ?_
  rintro e w2 ⟨a2, l2, c2, xs, c, p2, rfl, h1, h2, h3, h4, h5, hr2, hp2, hg⟩
  have hbb : Below w.heap.size w w2 := grown_below hg hb1 hb1.size
  have hi := own_low h1 (by omega)
  clear hg hr hr2 h1
  go_wp2_with fail
  go_ret2
  exact ⟨a2, l2, c2, xs, c, rfl, hi, h2, h3, h4, h5, hbb⟩
set_option maxRecDepth 100000 in
theorem dDrawFewestRolls_any (a : Option Addr) (len cap : Nat) (w : World) (hb : BytesAt w w.heap.size a len) (hl : len ≤ cap) (hs : len ≤ 9223372036854775807) :
    Calls Try.prog 10 #[.slice a len cap] w (DrawnC w) := by
  go_enter Try.func10, Try.ntmps10
  go_wp2_with fail
  refine (newReader_any a len cap w hb hl hs).mono ?_
  rintro e w1 ⟨rfl, hr, hb1⟩
  go_wp2_with fail
  refine (someCuts_any w.heap.size 0 w1 hr (by omega)).mono ?_
  rintro e w2 ⟨a2, l2, c2, xs, c, p2, rfl, h1, h2, h3, h4, h5, hr2, hp2, hg⟩
  have hbb : Below w.heap.size w w2 := grown_below hg hb1 hb1.size
  have hi := own_low h1 (by omega)
  clear hg hr hr2 h1
  go_wp2_with fail
  go_ret2
  exact ⟨a2, l2, c2, xs, c, rfl, hi, h2, h3, h4, h5, hbb⟩
set_option maxRecDepth 100000 in
theorem dDrawLeastRolls_any (a : Option Addr) (len cap : Nat) (w : World) (hb : BytesAt w w.heap.size a len) (hl : len ≤ cap) (hs : len ≤ 9223372036854775807) :
    Calls Try.prog 16 #[.slice a len cap] w (DrawnC w) := by
  go_enter Try.func16, Try.ntmps16
  go_wp2_with fail
  refine (newReader_any a len cap w hb hl hs).mono ?_
  rintro e w1 ⟨rfl, hr, hb1⟩
  go_wp2_with fail
  refine (someCuts_any w.heap.size 0 w1 hr (by omega)).mono ?_
  rintro e w2 ⟨a2, l2, c2, xs, c, p2, rfl, h1, h2, h3, h4, h5, hr2, hp2, hg⟩
  have hbb : Below w.heap.size w w2 := grown_below hg hb1 hb1.size
  have hi := own_low h1 (by omega)
  clear hg hr hr2 h1
  go_wp2_with fail
  go_ret2
  exact ⟨a2, l2, c2, xs, c, rfl, hi, h2, h3, h4, h5, hbb⟩
end Go.Proofs.Ythmifadnfaajbaa
namespace Go.Proofs.Ythmifadnfaajbaa

-- chapter 11, plain: cuts of one length
theorem card_ivl' (a b : Nat) : ∀ n, card (fun i => decide (a ≤ i) && decide (i < b)) n ≤ min n b - a
  | 0 => by simp [card]
  | n + 1 => by
    have ih := card_ivl' a b n
    rw [card]
    by_cases h1 : a ≤ n
    · by_cases h2 : n < b
      · simp [h1, h2]; omega
      · simp [h2]; omega
    · simp [h1]; omega
theorem card_ivl (a b n : Nat) : card (fun i => decide (a ≤ i) && decide (i < b)) n ≤ b - a := by
  have := card_ivl' a b n
  omega
/-- how many of n go on rolls of f each -/
def ceilN (n f : Nat) : Nat := (n + f - 1) / f
theorem ceilN_is {n f m : Nat} (hf : 1 ≤ f) : ceilN n f ≤ m ↔ n ≤ m * f := by
  unfold ceilN
  constructor
  · intro h
    have h1 := Nat.div_add_mod (n + f - 1) f
    have h2 := Nat.mod_lt (n + f - 1) (show 0 < f by omega)
    have h3 := Nat.mul_le_mul_left f h
    rw [Nat.mul_comm f m] at h3
    omega
  · intro h
    refine Nat.le_of_lt_succ ((Nat.div_lt_iff_lt_mul (by omega)).2 ?_)
    rw [Nat.succ_mul]; omega
theorem even_lower {n f m : Nat} {x R : Int} {T : Nat → Int} {q : Nat → Nat} (hx : 1 ≤ x) (hf2 : R < ((f : Int) + 1) * x) (hT : ∀ i, i < n → T i = x) (hq : ∀ i, i < n → q i < m) (hql : ∀ j, j < m → wsum T (fun i => q i == j) n ≤ R) : n ≤ m * f := by
  have h := wsum_all (f := fun _ => 1) (P := fun _ => true) (R := (f : Int)) hq (fun j hj => by
    have h1 := hql j hj
    rw [wsum_congr (g := fun _ => x) (Q := fun i => q i == j) n (fun _ _ => rfl) (fun i hi _ => hT i hi), wsum_one] at h1
    rw [← card_w, show (fun i => true && q i == j) = (fun i => q i == j) from funext fun i => by simp]
    have h2 : (card (fun i => q i == j) n : Int) * x < ((f : Int) + 1) * x := by omega
    have := Int.lt_of_mul_lt_mul_right h2 (by omega)
    omega)
  rw [← card_w, card_all] at h
  exact_mod_cast h
theorem even_upper {n f j : Nat} {x R : Int} {T : Nat → Int} (hx : 1 ≤ x) (hf : 1 ≤ f) (hf1 : (f : Int) * x ≤ R) (hT : ∀ i, i < n → T i = x) : wsum T (fun i => i / f == j) n ≤ R := by
  rw [wsum_congr (g := fun _ => x) (Q := fun i => decide (j * f ≤ i) && decide (i < j * f + f)) n (fun i _ => by
    have h1 := Nat.div_add_mod i f
    have h2 := Nat.mod_lt i (show 0 < f by omega)
    rw [Nat.mul_comm] at h1
    by_cases e : i / f = j
    · subst e
      rw [show (i / f == i / f) = true by simp, decide_eq_true (by omega), decide_eq_true (by omega)]; rfl
    · rw [show (i / f == j) = false by simp [e]]
      symm
      rw [Bool.and_eq_false_iff]
      rcases Nat.lt_or_ge i (j * f) with g | g
      · exact .inl (decide_eq_false (by omega))
      · refine .inr (decide_eq_false fun g2 => e ?_)
        have : j ≤ i / f := (Nat.le_div_iff_mul_le (by omega)).2 g
        have : i / f < j + 1 := (Nat.div_lt_iff_lt_mul (by omega)).2 (by rw [Nat.add_mul, Nat.one_mul]; exact g2)
        omega) (fun i hi _ => hT i hi), wsum_one]
  have h := card_ivl (j * f) (j * f + f) n
  have h2 : (card (fun i => decide (j * f ≤ i) && decide (i < j * f + f)) n : Int) * x ≤ (f : Int) * x := Int.mul_le_mul_of_nonneg_right (by omega) (by omega)
  omega
theorem even_used {n f u : Nat} {x R : Int} {T : Nat → Int} {p : Nat → Nat} (hx : 1 ≤ x) (hf1 : (f : Int) * x ≤ R) (hT : ∀ i, i < n → T i = x) (hp : ∀ i, i < n → p i < u) (hne : ∀ b, b < u → ∃ i, i < n ∧ p i = b)
    (hff : ∀ i, i < n → ∀ b, b < p i → R < wsum T (fun i => p i == b) n + T i) (hu : 0 < u) : (u - 1) * f + 1 ≤ n := by
  obtain ⟨i, hi, hpi⟩ := hne (u - 1) (by omega)
  have h1 : ∀ b, b < u - 1 → f ≤ card (fun i => true && p i == b) n := fun b hb => by
    have h := hff i hi b (by omega)
    rw [hT i hi, wsum_congr (g := fun _ => x) (Q := fun i => true && p i == b) n (fun _ _ => by simp) (fun i hi _ => hT i hi), wsum_one] at h
    have h2 : (f : Int) * x < ((card (fun i => true && p i == b) n : Int) + 1) * x := by rw [Int.add_mul, Int.one_mul]; omega
    have := Int.lt_of_mul_lt_mul_right h2 (by omega)
    omega
  have e := card_bins (P := fun _ => true) (p := p) (n := n) (v := u) (fun i hi _ => hp i hi)
  rw [card_all, show u = (u - 1) + 1 by omega, bsumN] at e
  have h2 := bsumN_le (f := fun _ => f) (g := fun b => card (fun i => true && p i == b) n) (u - 1) h1
  have h3 : ∀ v, bsumN (fun _ => f) v = v * f := fun v => by
    induction v with
    | zero => simp [bsumN]
    | succ v ih => rw [bsumN, ih, Nat.succ_mul]
  have h4 := card_mem (P := fun i => true && p i == u - 1) hi (by simp [hpi])
  rw [h3] at h2
  omega
/-- what FnRollsOfOneLength asks -/
theorem even_few {xs : List Int} {f : Nat} {x R : Int} (hx : 1 ≤ x) (hxR : x ≤ R) (hf1 : (f : Int) * x ≤ R) (hf2 : R < ((f : Int) + 1) * x) (hT : ∀ i, i < xs.length → lenT xs i = x) : fewRl xs R = (ceilN xs.length f : Int) := by
  have hf : 1 ≤ f := by
    rcases Nat.eq_zero_or_pos f with e | e
    · subst e; simp at hf2; omega
    · exact e
  obtain ⟨m, q, e, h1, h2⟩ := few_plan (xs := xs) (R := R) (by omega) (fun i hi => by rw [hT i hi]; exact hxR)
  have hl := even_lower hx hf2 hT h1 (fun j _ => h2 j)
  have hc : ceilN xs.length f ≤ m := (ceilN_is hf).2 hl
  have hu := (few_min (xs := xs) (R := R) (m := ceilN xs.length f) (q := fun i => i / f) (fun i hi => by
    have := (ceilN_is (n := xs.length) (f := f) (m := ceilN xs.length f) hf).1 (Nat.le_refl _)
    exact (Nat.div_lt_iff_lt_mul (by omega)).2 (by omega)) (fun j => even_upper hx hf hf1 hT)).2
  rw [e] at hu ⊢
  omega
theorem even_roll {xs : List Int} {f : Nat} {x R : Int} {l : List Nat} (hx : 1 ≤ x) (hxR : x ≤ R) (hf1 : (f : Int) * x ≤ R) (hf2 : R < ((f : Int) + 1) * x) (hT : ∀ i, i < xs.length → lenT xs i = x) (h : l.Perm (List.range xs.length)) (h0 : 0 < xs.length) : rollU (lenT xs) R l xs.length = ceilN xs.length f := by
  have hf : 1 ≤ f := by
    rcases Nat.eq_zero_or_pos f with e | e
    · subst e; simp at hf2; omega
    · exact e
  obtain ⟨p1, p2, p3, p4⟩ := roll_plan (T := lenT xs) (R := R) (fun i hi => by rw [hT i hi]; exact ⟨hx, hxR⟩) h
  have hu : 0 < rollU (lenT xs) R l xs.length := by have := p1 0 h0; omega
  have h1 := even_used hx hf1 hT p1 p2 p4 hu
  have h2 := even_lower hx hf2 hT p1 p3
  have h3 : ceilN xs.length f ≤ rollU (lenT xs) R l xs.length := (ceilN_is hf).2 h2
  have h4 : ¬ ceilN xs.length f ≤ rollU (lenT xs) R l xs.length - 1 := fun h => by
    have := (ceilN_is hf).1 h; omega
  omega
end Go.Proofs.Ythmifadnfaajbaa
namespace Go.Proofs.Ythmifadnfaajbaa
open Go.RowKit Go.WideShapes

/-- what FnRollsOfOneLength asks -/
theorem oneLen_law {xs : List Int} {R x : Int} {n : Nat} {k2 : ByteArray} (h : 0 ≤ rollsRes xs R) (hn : xs.length = n) (h0 : 0 < n) (hx : xs.getD 0 0 = x) (h2 : isFirst k2 = true) :
    1 ≤ x ∧ x ≤ R ∧ R ≤ 20 ∧ n ≤ 7 ∧ ∃ f c : Nat, R / x = (f : Int) ∧ 1 ≤ f ∧ f ≤ 20 ∧ ((n : Int) + f - 1) / f = (c : Int) ∧ c ≤ 7 ∧ rollsRes (List.replicate n x) R = (c : Int) ∧ greatM (rollRes (List.replicate n x) R k2) + 1 = (c : Int) ∧ leastRes11 (List.replicate n x) R ≤ (c : Int) := by
  have hv := rolls_yes h
  obtain ⟨c1, c2, c7, hT⟩ := cuts_get hv
  have hx0 := hT 0 (by omega)
  unfold lenT at hx0
  rw [hx] at hx0
  obtain ⟨x1, x2⟩ := hx0
  have hlen : (List.replicate n x).length = n := List.length_replicate
  have hTe : ∀ i, i < (List.replicate n x).length → lenT (List.replicate n x) i = x := by
    intro i hi
    rw [hlen] at hi
    unfold lenT
    rw [List.getD_eq_getElem?_getD, List.getElem?_replicate, if_pos hi]; rfl
  have hve : cutsM (List.replicate n x) R = true := by
    unfold cutsM
    rw [hlen]
    have a1 : allIn 1 R (List.replicate n x) = true := by
      unfold allIn
      rw [List.all_eq_true]
      intro y hy
      rw [List.eq_of_mem_replicate hy]
      simp [inB]; omega
    rw [a1]
    simp [inB]; omega
  have hf0 : 0 ≤ R / x := Int.ediv_nonneg (by omega) (by omega)
  have hf1 : R / x * x ≤ R := Int.ediv_mul_le R (by omega)
  have hf2 : R < (R / x + 1) * x := Int.lt_ediv_add_one_mul_self R (by omega)
  have hf3 : 1 ≤ R / x := by
    have := (Int.le_ediv_iff_mul_le (a := 1) (b := R) (c := x) (by omega)).2 (by omega)
    exact this
  have hf4 : R / x ≤ 20 := by
    have := Int.ediv_le_self x (show 0 ≤ R by omega)
    omega
  obtain ⟨f, hf⟩ : ∃ f : Nat, R / x = (f : Int) := ⟨(R / x).toNat, by omega⟩
  rw [hf] at hf1 hf2 hf3 hf4
  have e1 := even_few (xs := List.replicate n x) (f := f) x1 x2 hf1 hf2 hTe
  have e2 := even_roll (xs := List.replicate n x) (f := f) (l := cutOrd (List.replicate n x) k2) x1 x2 hf1 hf2 hTe (cutOrd_perm _ _) (by rw [hlen]; exact h0)
  obtain ⟨g1, _⟩ := roll_great hve (show (isLong k2 || isFirst k2) = true by rw [h2]; simp) (by rw [hlen]; exact h0)
  have l1 := least_few hve
  rw [e2] at g1
  rw [e1] at l1
  rw [hlen] at e1 g1 l1
  have hr : rollsRes (List.replicate n x) R = fewRl (List.replicate n x) R := by unfold rollsRes; rw [if_pos hve]
  have hc : ((n : Int) + f - 1) / f = (ceilN n f : Nat) := by
    unfold ceilN
    rw [show (n : Int) + f - 1 = ((n + f - 1 : Nat) : Int) by omega]
    exact (Int.natCast_ediv _ _).symm
  have hb := rolls_bd (List.replicate n x) R
  rw [hr, e1] at hb
  exact ⟨x1, x2, c2, by omega, f, ceilN n f, hf, by omega, by omega, hc, by omega, by rw [hr, e1], g1, l1⟩
end Go.Proofs.Ythmifadnfaajbaa
