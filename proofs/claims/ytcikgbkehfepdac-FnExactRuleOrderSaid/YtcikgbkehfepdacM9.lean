import Derived.Test.YtcikgbkehfepdacRows
import Derived.WalkKit
import Derived.LoopTactic
import Derived.Outline
import Derived.WalkSpells
import Derived.WalkLawsBesides
import Derived.ProofKit
import Derived.Test.YtcikgbkehfepdacM0
import Derived.Test.YtcikgbkehfepdacM1
import Derived.Test.YtcikgbkehfepdacM2
import Derived.Test.YtcikgbkehfepdacM7
import Derived.Test.YtcikgbkehfepdacM8
import Derived.Test.YtcikgbkehfepdacM6
import Derived.Lib.Hide
import Derived.IntWalk
import Derived.Test.YtcikgbkehfepdacM3
import Derived.Test.YtcikgbkehfepdacM4
namespace Go.Proofs.Ytcikgbkehfepdac
open Go.RowKit Go.WideShapes

def PairsPost (w : World) (R p : Nat) (e : Ending) (w' : World) : Prop := ∃ (a : Option Addr) (len cap : Nat) (rows : List (List Int)) (p' : Nat), e = .returned (.slice a len cap) ∧
      RowsAt w' (fun b => w.heap.size ≤ b ∧ b < w'.heap.size) a len rows ∧ len ≤ cap ∧ len ≤ 8 ∧ Rd w' R p' ∧ p' ≤ p + 1000 ∧ w.grownBy w' (some R)
theorem pairsPost_mk {w w' : World} {R p p' len cap M : Nat} {a : Option Addr} (h : OwnRows w' w.heap.size M (.slice a len cap) len) (hl : len ≤ cap) (h6 : len ≤ 8) (hr : Rd w' R p') (hp : p' ≤ p + 1000)
    (hg : w.grownBy w' (some R)) : PairsPost w R p (.returned (.slice a len cap)) w' := by
  obtain ⟨a', cap', rows, hv, _, hrows⟩ := h.rows (by omega)
  simp only [Value.slice.injEq] at hv
  obtain ⟨rfl, _, rfl⟩ := hv
  exact ⟨_, _, _, rows, p', rfl, hrows, hl, h6, hr, hp, hg⟩
theorem pair_hi {n : Int} (h : n ∈ [9, 4]) : 4 ≤ n ∧ n ≤ 9 := by simp at h; omega
theorem pair_x {n : Int} (h : n ∈ [10, -1]) : -1 ≤ n ∧ n ≤ 10 := by simp at h; omega
set_option maxRecDepth 100000 in
set_option maxHeartbeats 4000000 in
theorem somePairs_any (R p most : Nat) (w : World) (h : Rd w R p) (hp : p ≤ 900000) (hm8 : most ≤ 8) :
    Calls Try.prog 23 #[.pointer (some ⟨R, 0, none⟩), .int .i64 most] w (PairsPost w R p) := by
  have hR := h.lt
  obtain ⟨i1, hj, hy0, hy1, hy2⟩ := info_parts Try.infoInts
  go_enter Try.func23, Try.ntmps23
  go_wp2_with fail
  refine (one_any (fun k => k = w.heap.size + 1) R p _ 7 7 [4, 3, 5, 2, 1, 0, (most : Int)] _ ((h.alloc _).alloc _) (IntsAt.lit rfl rfl (by simp) (by omega)) (by intro b hb; simp; omega) (by omega) (by omega)).mono ?_
  rintro e w1 ⟨n, hn, rfl, hr1, hg1⟩
  obtain ⟨m, rfl, hm⟩ : ∃ m : Nat, n = (m : Int) ∧ m ≤ 8 := by simp at hn; exact ⟨n.toNat, by omega, by omega⟩
  clear hn
  have hg2 : w.grownBy w1 (some R) := grown_r (World.grownBy_alloc w _ _) (grown_r (World.grownBy_alloc _ _ _) hg1)
  have ho1 : OwnRows w1 w.heap.size w1.heap.size (.slice (some ⟨w.heap.size, 0, none⟩) 0 0) 0 :=
    OwnRows.nil rfl (grown_r (World.grownBy_alloc _ _ _) hg1) hR
  go_wp2_with fail
  go_loopw [5] (fun v wr => ∃ (k p' cap : Nat) (a : Option Addr), v = .slice a k cap ∧ k ≤ cap ∧ OwnRows wr w.heap.size wr.heap.size v k ∧ k ≤ m ∧ Rd wr R p' ∧ p' ≤ p + 1 + 30 * k ∧ w.grownBy wr (some R)) (fun v _ => m - capOf v)
  case atStart => exact ⟨0, p + 1, 0, _, rfl, Nat.le_refl _, ho1, Nat.zero_le _, hr1, Nat.le_refl _, hg2⟩
  case round =>
    clear ho1
    obtain ⟨k, p', cap, a, rfl, hkc, ho, hkm, hr, hpp, hg⟩ := hrel
    obtain ⟨wo, rfl⟩ : ∃ wo : World, wo = wr := ⟨_, rfl⟩
    by_cases hlt : k < m
    · go_wp2_with fail
      refine (one_any (fun b => b = wo.heap.size) R p' _ 2 2 [9, 4] _ (hr.alloc _) (IntsAt.lit rfl rfl rfl (by omega)) (by intro b hb; have := hr.lt; simp; omega) (by omega) (by omega)).mono ?_
      rintro e w3 ⟨hi, hhi, rfl, hr3, hg3⟩
      obtain ⟨hi1, hi2⟩ := pair_hi hhi
      clear hhi
      have ga3 : wo.grownBy w3 (some R) := grown_r (World.grownBy_alloc wo _ _) hg3
      go_wp2_with fail
      refine (listOf_any R (p' + 1) 2 0 hi w3 hr3 (by omega) (by omega) (by omega) (by omega) (by omega)).mono ?_
      rintro e w4 ⟨a5, c5, ts, rfl, ho5, hc5, hl5, _, hr4, hg4⟩
      have ga4 : wo.grownBy w4 (some R) := grown_r ga3 hg4
      have hw0 : w.heap.size ≤ w3.heap.size := Nat.le_trans hg.size ga3.size
      have ho3 := (ho.low ga3 hR).up (M' := w3.heap.size) ga3.size
      obtain ⟨us, hout, hus⟩ := ho3.low hg4 hR
      have hgw4 := grown_r hg ga4
      go_wp2_with (at_builtin; refine wpList_append_own _ rfl _ _ 23 rfl w.heap.size 25 i1 (.slice none 0 0) 1 24 Try.underlying23 hj hy0 hy1 hy2 rfl (by decide) _ _ _ rfl (hout.alloc _) ⟨w4.heap.size, 0, none⟩ 1 1 [.slice a5 2 c5] rfl rfl ?c1 ?c2 ?c3 ?c4 ?c5 ?_)
      case c1 => exact one_new _ _ _
      case c2 => exact one_cell_slice _ _ _
      case c3 => unfold maxLen; omega
      case c4 => omega
      case c5 => have := hgw4.size; simp; omega
      intro v' w6 hown hgrow _
      obtain ⟨a6, c6, rfl, hjc6⟩ := own_slice hown
      have hgr : w4.grownBy w6 (Value.slice a k cap).ownBlock := grown_comp (World.grownBy_alloc w4 _ _) hgrow
      have HPUSH := Lib.hid (OwnRows.push ho5 hw0 hout hus hown hgr)
      have HR6 := Lib.hid (hr4.grown hgr (by intro b hb; have := (hout.lt b hb).1; omega))
      have HG6 := Lib.hid (grown_trans hgw4 hgr (by intro b hb; have := (hout.lt b hb).1; omega))
      clear hown hgrow hgr hout hus ho5
      go_wp2
      go_roundw
      case rel => exact ⟨k + 1, p' + 1 + 2, c6, a6, rfl, hjc6, HPUSH.out, by omega, HR6.out, by omega, HG6.out⟩
      case measure => simp [capOf] <;> omega
    · by_cases hk1 : 0 < k
      · obtain ⟨g, rfl, hgB⟩ := ho.addr (by omega)
        go_wp2_with fail
        refine (pick_any R p' 30 wo hr (by omega)).mono ?_
        rintro e w2 ⟨q, rfl, _, hr2, hg3⟩
        have ho2 := ho.low hg3 hR
        have hg4 := grown_r hg hg3
        by_cases hq : q = 0
        · subst hq
          go_wp2_with fail
          refine (one_any (fun b => b = w2.heap.size) R (p' + 1) _ 2 2 [10, -1] _ (hr2.alloc _) (IntsAt.lit rfl rfl rfl (by omega)) (by intro b hb; have := hr2.lt; simp; omega) (by omega) (by omega)).mono ?_
          rintro e w5 ⟨x, _, rfl, hr5, hg5⟩
          have hgw : w2.grownBy w5 (some R) := grown_r (World.grownBy_alloc w2 _ _) hg5
          have ho5 := ho2.low hgw hR
          have hg6 := grown_r hg4 hgw
          have hw5 : w.heap.size ≤ w5.heap.size := hg6.size
          have hlit := own_one w5 (B := w5.heap.size) (Nat.le_refl _) x
          have hsz : (w5.alloc (.cells #[.int .i64 x] 3)).heap.size = w5.heap.size + 1 := by simp
          obtain ⟨w6, hw6⟩ : ∃ w6, (w5.alloc (.cells #[.int .i64 x] 3)) = w6 := ⟨_, rfl⟩
          have ho6 := ho5.alloc (.cells #[.int .i64 x] 3)
          have hg7 := grown_alloc hg6 (.cells #[.int .i64 x] 3)
          have hr6 := hr5.alloc (.cells #[.int .i64 x] 3)
          rw [hw6] at hlit hsz ho6 hg7 hr6
          have HW6 := Lib.hid hw6
          have HSZ := Lib.hid hsz
          clear hw6 hsz ho5
          have HP := Lib.hid ho6
          have HL := Lib.hid hlit
          have HR6 := Lib.hid hr6
          have HG7 := Lib.hid hg7
          have HUP : wo.heap.size ≤ w5.heap.size := Nat.le_trans hg3.size hgw.size
          clear ho6 hlit hr6 hg7
          have HSZX : Value.slice (some ⟨w5.heap.size + 1, 0, none⟩) 1 1 = Value.slice (some ⟨w6.heap.size, 0, none⟩) 1 1 := by rw [HSZ.out]
          go_wp2_with (at_builtin; rw [HW6.out]; refine wpApp1 rfl _ _ rfl w5.heap.size 1 1 _ [x] 1 rfl HL.out rfl (by rw [HSZ.out]; omega) (by omega) ?_)
          intro a7 c7 w7 hown7 hc7 hgr7
          have ho7 := (HP.out.up (M' := w5.heap.size) HUP).ints HL.out hgr7
          have hr7 := HR6.out.grown hgr7 (by intro b hb; have := (HL.out.lt b hb).1; omega)
          have hg8 := grown_trans HG7.out hgr7 (by intro b hb; have := (HL.out.lt b hb).1; omega)
          obtain ⟨v1, hc1, hf1⟩ := ho7.cell (j := 0) hk1
          have hown8 : w7.ownsRow w.heap.size 3 1 (.slice a7 2 c7) 2 ([x, 1].map (.int .i64)) := own_base hown7 hw5
          obtain ⟨ho9, hg9⟩ := ho7.store (j := 0) hown8
          have H9 := Lib.hid ho9
          have G9 := Lib.hid hg9
          have G8 := Lib.hid hg8
          have R7 := Lib.hid hr7
          clear ho9 hg9 hg8 hr7 hown8 hown7 hgr7 ho7
          go_wp2
          go_ret
          exact pairsPost_mk H9.out hkc (by omega) (R7.out.grown G9.out (by intro b hb; injection hb; omega)) (by omega) (grown_trans G8.out G9.out (by intro b hb; injection hb; omega))
        · have hqe : ((q : Int) == 0) = false := by simp; omega
          go_wp2
          go_ret
          exact pairsPost_mk ho2 hkc (by omega) hr2 (by omega) hg4
      · have hk1' : ¬ (0 : Int) < (k : Int) := by omega
        go_wp2
        go_ret
        exact pairsPost_mk ho hkc (by omega) hr (by omega) hg
end Go.Proofs.Ytcikgbkehfepdac
namespace Go.Proofs.Ytcikgbkehfepdac
open Go.RowKit Go.WideShapes

/-- drawn jobs of two machines -/
def DrawnP (w : World) (e : Ending) (w' : World) : Prop := ∃ (a : Option Addr) (l c : Nat) (rows : List (List Int)), e = .returned (.slice a l c) ∧ RowsAt w' (· < w'.heap.size) a l rows ∧ l ≤ c ∧ l ≤ 8 ∧ Below w.heap.size w w'
/-- and an order, most often -/
def DrawnPO (w : World) (e : Ending) (w' : World) : Prop := ∃ (a : Option Addr) (l c : Nat) (rows : List (List Int)) (a2 : Option Addr) (l2 c2 : Nat) (xs : List Int), e = .returned (.tuple #[.slice a l c, .slice a2 l2 c2]) ∧
  RowsAt w' (· < w'.heap.size) a l rows ∧ l ≤ c ∧ l ≤ 8 ∧ IntsAt w' (· < w'.heap.size) a2 l2 xs ∧ l2 ≤ c2 ∧ l2 = l ∧ (∀ x ∈ xs, -1 ≤ x ∧ x ≤ 8) ∧ Below w.heap.size w w'
theorem drawRuleOrder_any (a : Option Addr) (len cap : Nat) (w : World) (hb : BytesAt w w.heap.size a len) (hl : len ≤ cap) (hs : len ≤ 9223372036854775807) :
    Calls Try.prog 6 #[.slice a len cap] w (DrawnP w) := by
  go_enter Try.func6, Try.ntmps6
  go_wp2_with fail
  refine (newReader_any a len cap w hb hl hs).mono ?_
  rintro e w1 ⟨rfl, hr, hb1⟩
  go_wp2_with fail
  refine (somePairs_any w.heap.size 0 8 w1 hr (by omega) (by omega)).mono ?_
  rintro e w2 ⟨a2, l2, c2, rows, p2, rfl, h1, h2, h3, hr2, hp2, hg⟩
  have hbb : Below w.heap.size w w2 := grown_below hg hb1 hb1.size
  go_wp2_with fail
  go_ret
  exact ⟨a2, l2, c2, rows, rfl, h1.to (fun b hb => ⟨hb.2, rfl⟩), h2, h3, hbb⟩
theorem drawSpanOf_any (a : Option Addr) (len cap : Nat) (w : World) (hb : BytesAt w w.heap.size a len) (hl : len ≤ cap) (hs : len ≤ 9223372036854775807) :
    Calls Try.prog 21 #[.slice a len cap] w (DrawnPO w) := by
  go_enter Try.func21, Try.ntmps21
  go_wp2_with fail
  refine (newReader_any a len cap w hb hl hs).mono ?_
  rintro e w1 ⟨rfl, hr, hb1⟩
  go_wp2_with fail
  refine (somePairs_any w.heap.size 0 8 w1 hr (by omega) (by omega)).mono ?_
  rintro e w2 ⟨a2, l2, c2, rows, p2, rfl, h1, h2, h3, hr2, hp2, hg⟩
  go_wp2_with fail
  refine (orderOf_any w.heap.size p2 l2 w2 hr2 (by omega) h3).mono ?_
  rintro e w3 ⟨g3, c3, xs, rfl, ho3, hc3, hall, hg3⟩
  have hbb : Below w.heap.size w w3 := grown_below (grown_r hg hg3) hb1 hb1.size
  have hrw : RowsAt w3 (· < w3.heap.size) a2 l2 rows := h1.to (fun b hb => ⟨Nat.lt_of_lt_of_le hb.2 hg3.size, hg3.block b hb.2 (by have := hr.lt; simp; omega)⟩)
  have hiw : IntsAt w3 (· < w3.heap.size) (some ⟨g3, 0, none⟩) l2 xs := by
    obtain ⟨a', c', e', _, h'⟩ := own_ints ho3 (by omega)
    injection e' with e1 _ _
    subst e1
    exact h'.to fun b hb => ⟨hb.2, rfl⟩
  go_wp2
  go_ret2
  exact ⟨a2, l2, c2, rows, _, l2, c3, xs, rfl, hrw, h2, h3, hiw, hc3, rfl, (fun x hx => by have := hall x hx; omega), hbb⟩
end Go.Proofs.Ytcikgbkehfepdac
namespace Go.Proofs.Ytcikgbkehfepdac
open Go.RowKit Go.WideShapes

theorem cloM_false {A : List Nat} {s k : Nat} (h : cloM A s (k + 1) = false) : ∀ n, k < n → cloM A s n = false
  | n + 1, hn => by
    rcases Nat.lt_or_eq_of_le (Nat.le_of_lt_succ hn) with h1 | rfl
    · rw [cloM, cloM_false h n h1]; rfl
    · exact h
end Go.Proofs.Ytcikgbkehfepdac
namespace Go.Proofs.Ytcikgbkehfepdac

theorem scanP_bd {T : List Int} {c : Int} {t : List Int} {s : Nat} {B : Int} (h0 : -1 ≤ B) (hB : ∀ r, r < s → t.getD r 0 + 1 ≤ B) : ∀ R, R ≤ s → -1 ≤ scanP T c t s R ∧ scanP T c t s R ≤ B
  | 0, _ => ⟨Int.le_refl _, h0⟩
  | R + 1, h => by
    have := scanP_bd (T := T) (c := c) h0 hB R (by omega)
    have h1 := hB R (by omega)
    rw [scanP]; split
    · rename_i h2; have := h2.1.2.1; omega
    · exact this
theorem stP_bd {T : List Int} {A : List Nat} {c : Int} : ∀ N s, s ≤ N → -1 ≤ stP T A c s ∧ stP T A c s ≤ s
  | N, 0, _ => by show (-1 : Int) ≤ 0 ∧ (0 : Int) ≤ 0; omega
  | N + 1, s + 1, h => by
    rw [stP_succ]; unfold nxtP; split
    · exact scanP_bd (B := ((s + 1 : Nat) : Int)) (by omega) (fun r hr => by rw [tabP_at (show r ≤ s by omega)]; have := stP_bd (T := T) (A := A) (c := c) N r (by omega); omega) (s + 1) (Nat.le_refl _)
    · omega
theorem tabP_step (T : List Int) (A : List Nat) (c : Int) {k : Nat} (h : 1 ≤ k) : tabP T A c k = tabP T A c (k - 1) ++ [nxtP T A c (tabP T A c (k - 1)) k] := by
  obtain ⟨d, rfl⟩ : ∃ d, k = d + 1 := ⟨k - 1, by omega⟩
  rfl
theorem tab_bd {T : List Int} {A : List Nat} {c : Int} {k r : Nat} (h : r < k) : -1 ≤ (tabP T A c (k - 1)).getD r 0 ∧ (tabP T A c (k - 1)).getD r 0 ≤ r := by
  rw [tabP_at (show r ≤ k - 1 by omega)]; exact stP_bd r r (Nat.le_refl _)
theorem scan_bd {T : List Int} {A : List Nat} {c : Int} {k R : Nat} (h : R ≤ k) : -1 ≤ scanP T c (tabP T A c (k - 1)) k R ∧ scanP T c (tabP T A c (k - 1)) k R ≤ k :=
  scanP_bd (by omega) (fun r hr => by have := tab_bd (T := T) (A := A) (c := c) hr; omega) R h
end Go.Proofs.Ytcikgbkehfepdac
namespace Go.Proofs.Ytcikgbkehfepdac
open Go.RowKit Go.WideShapes

theorem own_lit (w : World) (xs : List Int) (len : Nat) (hl : xs.length = len) (hs : len ≤ 1048576) : (w.alloc (.cells (cellsOf xs) 3)).ownsRow w.heap.size 3 1 (.slice (some ⟨w.heap.size, 0, none⟩) len len) len (xs.map (.int .i64)) :=
  ⟨by simp [hl], .inr ⟨w.heap.size, len, cellsOf xs, rfl, Nat.le_refl _, heap_alloc_new w _, Nat.le_refl _, by unfold maxLen; omega, by simp [cellsOf, hl], by simp [cellsOf]; exact List.take_of_length_le (by simp [hl])⟩⟩
theorem drew_two {a b c : World} (h1 : Drew a b) (h2 : Drew b c) : Drew a c := by obtain ⟨q, rfl⟩ := h2; exact h1.drew q
end Go.Proofs.Ytcikgbkehfepdac
namespace Go.Proofs.Ytcikgbkehfepdac
open Go.RowKit Go.WideShapes

def lineP (T ys : List Int) (c : Int) : Prop := (∀ k, k < T.length → T.getD k 0 ≤ c) ∧ tasksP T ys ∧ inB 1 60 c = true
instance (T ys : List Int) (c : Int) : Decidable (lineP T ys c) := by unfold lineP; infer_instance
def lineM (T ys : List Int) (c : Int) : Bool := decide (lineP T ys c)
theorem lineM_yes {T ys : List Int} {c : Int} (h : lineP T ys c) : lineM T ys c = true := decide_eq_true h
theorem lineM_no {T ys : List Int} {c : Int} (h : ¬ lineP T ys c) : lineM T ys c = false := decide_eq_false h
theorem lineM_get {T ys : List Int} {c : Int} (h : lineM T ys c = true) : lineP T ys c := of_decide_eq_true h
theorem lineP_c {T ys : List Int} {c : Int} (h : lineP T ys c) : 1 ≤ c ∧ c ≤ 60 := by simpa [inB] using h.2.2
def fewRes (T ys : List Int) (c : Int) : Int := if lineP T ys c then fewM T (natsOf ys) c else -1
end Go.Proofs.Ytcikgbkehfepdac
namespace Go.Proofs.Ytcikgbkehfepdac

/-- how many tasks a set has -/
def popM (s : Nat) : Int := 6 - (undone s 6 : Int)
theorem popM_bd (s : Nat) : 0 ≤ popM s ∧ popM s ≤ 6 := by unfold popM; have := undone_le s 6; omega
theorem top_of {s n : Nat} (h0 : s ≠ 0) (h : s < 2 ^ n) : ∃ q r, q < n ∧ s = r + 2 ^ q ∧ r < 2 ^ q := by
  have h1 := Nat.log2_self_le h0
  have h2 := Nat.lt_log2_self (n := s)
  rw [Nat.pow_succ] at h2
  exact ⟨s.log2, s - 2 ^ s.log2, (Nat.pow_lt_pow_iff_right (by omega)).1 (Nat.lt_of_le_of_lt h1 h), by omega, by omega⟩
theorem clo_zero (A : List Nat) (n : Nat) : cloM A 0 n = true := (cloM_iff n).mpr fun i _ h => by simp at h
theorem st_not {T : List Int} {A : List Nat} {c : Int} {s : Nat} (h : cloM A s A.length = false) : stP T A c s = -1 := by
  cases s with
  | zero => rw [clo_zero] at h; cases h
  | succ s => rw [stP_succ]; unfold nxtP; rw [h]; rfl
/-- a set that can stand needs no more places than it has tasks -/
theorem st_pop {T : List Int} {A : List Nat} {c : Int} (hA : ∀ i k, (A.getD i 0).testBit k = true → k < i) (hc : 0 ≤ c) (hT : ∀ k, k < T.length → T.getD k 0 ≤ c) :
    ∀ N s, s ≤ N → s < 2 ^ 6 → cloM A s A.length = true → 0 ≤ stP T A c s ∧ stP T A c s ≤ popM s
  | _, 0, _, _, _ => ⟨Int.le_refl _, (popM_bd 0).1⟩
  | N + 1, s + 1, hs, h6, hcl => by
    obtain ⟨q, r, hq, he, hr⟩ := top_of (show s + 1 ≠ 0 by omega) h6
    have hrq : r.testBit q = false := Nat.testBit_lt_two_pow hr
    have hb := add_bit hrq
    rw [← he] at hb
    have hrs : r < s + 1 := by have := Nat.two_pow_pos q; omega
    have hcr : cloM A r A.length = true := (cloM_iff _).mpr fun i hi hri k hk => by
      have h1 := (cloM_iff _).mp hcl i hi (by rw [hb, hri]; rfl) k hk
      have h2 := hA i k hk
      have h3 : i < q := by
        rcases Nat.lt_or_ge i q with h | h
        · exact h
        · rw [Nat.testBit_lt_two_pow (Nat.lt_of_lt_of_le hr (Nat.pow_le_pow_right (by omega) h))] at hri; cases hri
      rw [hb] at h1
      simp only [Bool.or_eq_true, decide_eq_true_eq] at h1
      rcases h1 with h1 | h1
      · exact h1
      · omega
    have ih := st_pop hA hc hT N r (by omega) (by omega) hcr
    have hsub : r &&& (s + 1) = r := sub_iff.mpr fun i hi => by rw [hb, hi]; rfl
    have hld : csum T (fun i => (dif (s + 1) r).testBit i) T.length ≤ c := by
      rw [csum_congr (Q := fun i => i == q) _ fun i _ => by
        rw [dif_bit, hb]
        by_cases h : i = q
        · subst h; simp [hrq]
        · cases r.testBit i <;> simp [h]]
      rw [csum_one]
      split
      · rename_i h; exact hT q h
      · exact hc
    have hsc := scanP_le (T := T) (c := c) (t := tabP T A c s) (s := s + 1) (s + 1) r hrs ((okR_tab (by omega)).mpr ⟨hsub, ih.1, hld⟩)
    rw [tabP_at (show r ≤ s by omega)] at hsc
    rw [stP_succ]
    unfold nxtP
    rw [if_pos hcl]
    have hp := undone_add hrq 6 hq
    rw [← he] at hp
    unfold popM at ih ⊢
    omega
/-- the fewest places of a set, as the program counts them -/
def fewC (T : List Int) (A : List Nat) (c : Int) (s : Nat) : Int := if cloM A s A.length = true then stP T A c s else 7
def okC (T : List Int) (c : Int) (s r : Nat) : Prop := dif r s = 0 ∧ csum T (fun i => (dif s r).testBit i) T.length ≤ c
instance (T : List Int) (c : Int) (s r : Nat) : Decidable (okC T c s r) := by unfold okC; infer_instance
def runC (T : List Int) (A : List Nat) (c : Int) (s : Nat) : Nat → Int
  | 0 => popM s
  | r + 1 => if okC T c s r then min (runC T A c s r) (fewC T A c r + 1) else runC T A c s r
theorem fewC_bd {T : List Int} {A : List Nat} {c : Int} (hA : ∀ i k, (A.getD i 0).testBit k = true → k < i) (hc : 0 ≤ c) (hT : ∀ k, k < T.length → T.getD k 0 ≤ c) {s : Nat} (h6 : s < 2 ^ 6) : 0 ≤ fewC T A c s ∧ fewC T A c s ≤ 7 := by
  unfold fewC
  split
  · rename_i h; have := st_pop hA hc hT s s (Nat.le_refl _) h6 h; have := popM_bd s; omega
  · omega
theorem runC_scan {T : List Int} {A : List Nat} {c : Int} (hA : ∀ i k, (A.getD i 0).testBit k = true → k < i) (hc : 0 ≤ c) (hT : ∀ k, k < T.length → T.getD k 0 ≤ c) {s : Nat} (h6 : s < 2 ^ 6) :
    ∀ R, R ≤ s + 1 → runC T A c (s + 1) R = if scanP T c (tabP T A c s) (s + 1) R < 0 then popM (s + 1) else min (popM (s + 1)) (scanP T c (tabP T A c s) (s + 1) R)
  | 0, _ => by simp [runC, scanP]
  | R + 1, hR => by
    have ih := runC_scan hA hc hT h6 R (by omega)
    have hp := popM_bd (s + 1)
    have hs : scanP T c (tabP T A c s) (s + 1) (R + 1) = if okR T c (tabP T A c s) (s + 1) R ∧ (scanP T c (tabP T A c s) (s + 1) R < 0 ∨ stP T A c R + 1 < scanP T c (tabP T A c s) (s + 1) R) then stP T A c R + 1 else scanP T c (tabP T A c s) (s + 1) R := by
      rw [scanP, tabP_at (show R ≤ s by omega)]
    rw [runC, ih]
    have ho := okR_tab (T := T) (A := A) (c := c) (m := s) (s := s + 1) (r := R) (by omega)
    have hsub : (R &&& (s + 1) = R) ↔ dif R (s + 1) = 0 := by rw [sub_iff, dif_zero]
    clear ih
    generalize scanP T c (tabP T A c s) (s + 1) R = sc at hs ⊢
    by_cases h1 : okC T c (s + 1) R
    · rw [if_pos h1]
      unfold fewC
      by_cases h2 : cloM A R A.length = true
      · have h3 := st_pop hA hc hT R R (Nat.le_refl _) (by omega) h2
        have h4 := ho.mpr ⟨hsub.mpr h1.1, h3.1, h1.2⟩
        rw [if_pos h2]
        by_cases h5 : sc < 0
        · rw [hs.trans (if_pos ⟨h4, .inl h5⟩), if_pos h5, if_neg (by omega)]
        · rw [if_neg h5]
          by_cases h6 : stP T A c R + 1 < sc
          · rw [hs.trans (if_pos ⟨h4, .inr h6⟩), if_neg (by omega)]; omega
          · rw [hs.trans (if_neg (fun h => h.2.elim h5 h6)), if_neg h5]; omega
      · rw [if_neg h2]
        have h3 := st_not (T := T) (c := c) (Bool.not_eq_true _ |>.mp h2)
        rw [hs.trans (if_neg (fun h => by have := (ho.mp h.1).2.1; omega))]
        split <;> omega
    · rw [if_neg h1, hs.trans (if_neg (fun h => h1 (by have := ho.mp h.1; exact ⟨hsub.mp this.1, this.2.2⟩)))]
theorem runC_all {T : List Int} {A : List Nat} {c : Int} (hA : ∀ i k, (A.getD i 0).testBit k = true → k < i) (hc : 0 ≤ c) (hT : ∀ k, k < T.length → T.getD k 0 ≤ c) {s : Nat} (h6 : s < 2 ^ 6) (hcl : cloM A s A.length = true) : runC T A c s s = fewC T A c s := by
  have hp := st_pop hA hc hT s s (Nat.le_refl _) h6 hcl
  unfold fewC
  rw [if_pos hcl]
  cases s with
  | zero => rw [runC]; show popM 0 = 0; simp [popM, undone]
  | succ s =>
    rw [runC_scan hA hc hT (by omega) _ (Nat.le_refl _)]
    rw [stP_succ] at hp ⊢
    unfold nxtP at hp ⊢
    rw [if_pos hcl] at hp ⊢
    rw [if_neg (by omega)]; omega
theorem runC_bd {T : List Int} {A : List Nat} {c : Int} (hA : ∀ i k, (A.getD i 0).testBit k = true → k < i) (hc : 0 ≤ c) (hT : ∀ k, k < T.length → T.getD k 0 ≤ c) {s : Nat} : ∀ R, R ≤ 2 ^ 6 → 0 ≤ runC T A c s R ∧ runC T A c s R ≤ 6
  | 0, _ => popM_bd s
  | R + 1, h => by
    have := runC_bd hA hc hT (s := s) R (by omega)
    have := fewC_bd hA hc hT (s := R) (by omega)
    rw [runC]; split <;> omega
theorem fewC_full {T : List Int} {A : List Nat} {c : Int} (hl : A.length = T.length) (hA : ∀ i k, (A.getD i 0).testBit k = true → k < i) : fewC T A c (2 ^ T.length - 1) = fewM T A c := by
  unfold fewC fewM
  rw [if_pos ((cloM_iff _).mpr fun i hi _ k hk => by rw [full_bit]; have := hA i k hk; simp; omega)]

/-- all that must be done ahead of a task, over others, too -/
def aU (A : List Nat) (t : List Nat) (k : Nat) : Nat → Nat
  | 0 => A.getD k 0
  | m + 1 => if (A.getD k 0).testBit m = true then aU A t k m ||| t.getD m 0 else aU A t k m
def allT (A : List Nat) : Nat → List Nat
  | 0 => []
  | k + 1 => allT A k ++ [aU A (allT A k) k k]
def allX (A : List Nat) (x : Nat) : Nat := (allT A (x + 1)).getD x 0
theorem allT_len (A : List Nat) : ∀ k, (allT A k).length = k
  | 0 => rfl
  | k + 1 => by rw [allT, List.length_append, allT_len A k]; rfl
theorem allT_get (A : List Nat) (s : Nat) : ∀ d, (allT A (s + 1 + d)).getD s 0 = allX A s
  | 0 => rfl
  | d + 1 => by
    have h := allT_len A (s + 1 + d)
    rw [show s + 1 + (d + 1) = (s + 1 + d) + 1 by omega, allT, ← allT_get A s d]
    simp only [List.getD_eq_getElem?_getD]
    rw [List.getElem?_append_left (by omega)]
theorem allT_at {A : List Nat} {s m : Nat} (h : s < m) : (allT A m).getD s 0 = allX A s := by
  have := allT_get A s (m - s - 1); rwa [show s + 1 + (m - s - 1) = m by omega] at this
theorem allX_eq (A : List Nat) (k : Nat) : allX A k = aU A (allT A k) k k := by
  have h := allT_len A k
  unfold allX
  rw [allT]
  simp only [List.getD_eq_getElem?_getD]
  rw [List.getElem?_append_right (by omega), h, Nat.sub_self]; rfl
theorem aU_bit {A : List Nat} {k : Nat} (x : Nat) : ∀ m, m ≤ k → ((aU A (allT A k) k m).testBit x = true ↔ (A.getD k 0).testBit x = true ∨ ∃ y, y < m ∧ (A.getD k 0).testBit y = true ∧ (allX A y).testBit x = true)
  | 0, _ => by simp [aU]
  | m + 1, h => by
    have ih := aU_bit (A := A) (k := k) x m (by omega)
    rw [aU, allT_at (show m < k by omega)]
    by_cases h1 : (A.getD k 0).testBit m = true
    · rw [if_pos h1, Nat.testBit_or, Bool.or_eq_true, ih]
      constructor
      · rintro ((h2 | ⟨y, h2, h3⟩) | h2)
        · exact .inl h2
        · exact .inr ⟨y, by omega, h3⟩
        · exact .inr ⟨m, by omega, h1, h2⟩
      · rintro (h2 | ⟨y, h2, h3, h4⟩)
        · exact .inl (.inl h2)
        · rcases Nat.lt_or_eq_of_le (Nat.le_of_lt_succ h2) with h5 | rfl
          · exact .inl (.inr ⟨y, h5, h3, h4⟩)
          · exact .inr h4
    · rw [if_neg h1, ih]
      constructor
      · rintro (h2 | ⟨y, h2, h3⟩)
        · exact .inl h2
        · exact .inr ⟨y, by omega, h3⟩
      · rintro (h2 | ⟨y, h2, h3, h4⟩)
        · exact .inl h2
        · rcases Nat.lt_or_eq_of_le (Nat.le_of_lt_succ h2) with h5 | rfl
          · exact .inr ⟨y, h5, h3, h4⟩
          · exact absurd h3 h1
theorem allX_bit {A : List Nat} {k : Nat} (hA : ∀ i k, (A.getD i 0).testBit k = true → k < i) (x : Nat) : (allX A k).testBit x = true ↔ ∃ y, (A.getD k 0).testBit y = true ∧ (x = y ∨ (allX A y).testBit x = true) := by
  rw [allX_eq, aU_bit x k (Nat.le_refl _)]
  constructor
  · rintro (h | ⟨y, _, h2, h3⟩)
    · exact ⟨x, h, .inl rfl⟩
    · exact ⟨y, h2, .inr h3⟩
  · rintro ⟨y, h2, rfl | h3⟩
    · exact .inl h2
    · exact .inr ⟨y, hA k y h2, h2, h3⟩
theorem allX_low {A : List Nat} (hA : ∀ i k, (A.getD i 0).testBit k = true → k < i) : ∀ N k, k ≤ N → ∀ x, (allX A k).testBit x = true → x < k
  | 0, k, hk, x, h => by
    obtain rfl : k = 0 := by omega
    obtain ⟨y, h1, _⟩ := (allX_bit hA x).mp h
    have := hA 0 y h1; omega
  | N + 1, k, hk, x, h => by
    obtain ⟨y, h1, h2⟩ := (allX_bit hA x).mp h
    have h3 := hA k y h1
    rcases h2 with rfl | h2
    · exact h3
    · have := allX_low hA N y (by omega) x h2; omega
theorem allX_lt {A : List Nat} (hA : ∀ i k, (A.getD i 0).testBit k = true → k < i) (k : Nat) : allX A k < 2 ^ k :=
  Nat.lt_pow_two_of_testBit _ fun i hi => by
    cases h : (allX A k).testBit i
    · rfl
    · have := allX_low hA k k (Nat.le_refl _) i h; omega
theorem aU_lt {A : List Nat} (hA : ∀ i k, (A.getD i 0).testBit k = true → k < i) (k m : Nat) (hm : m ≤ k) : aU A (allT A k) k m < 2 ^ k :=
  Nat.lt_pow_two_of_testBit _ fun i hi => by
    cases h : (aU A (allT A k) k m).testBit i
    · rfl
    · rcases (aU_bit i m hm).mp h with h1 | ⟨y, h1, h2, h3⟩
      · have := hA k i h1; omega
      · have := hA k y h2; have := allX_low hA y y (Nat.le_refl _) i h3; omega
/-- those behind are those that all ahead of them hold -/
theorem bsM_keep {A : List Nat} {i x : Nat} : ∀ d, (bsM A i (x + 1 + d)).testBit x = (bsM A i (x + 1)).testBit x
  | 0 => rfl
  | d + 1 => by
    rw [← bsM_keep d]
    by_cases h : i < x + 1 + d
    · rw [show x + 1 + (d + 1) = (x + 1 + d) + 1 by omega, bsM_step h, show decide (x = x + 1 + d) = false by simp; omega, Bool.false_and, Bool.or_false]
    · by_cases h2 : x + 1 + d = i
      · subst h2
        rw [bsM_low (A := A) (i := x + 1 + d) (x + 1 + d) (Nat.le_refl _), show x + 1 + (d + 1) = (x + 1 + d) + 1 by omega, bsM, if_neg (by omega), if_pos rfl, Nat.testBit_two_pow]
        simp; omega
      · rw [bsM_low _ (by omega), bsM_low _ (by omega)]
theorem bsM_all {A : List Nat} (hA : ∀ i k, (A.getD i 0).testBit k = true → k < i) {i : Nat} : ∀ N x n, x ≤ N → x < n → ((bsM A i n).testBit x = true ↔ x = i ∨ (allX A x).testBit i = true)
  | N, x, n, hN, hx => by
    have hk := bsM_keep (A := A) (i := i) (x := x) (n - x - 1)
    rw [show x + 1 + (n - x - 1) = n by omega] at hk
    rw [hk]
    rcases Nat.lt_trichotomy x i with h | h | h
    · rw [bsM_low _ (by omega)]
      constructor
      · intro h2; simp at h2
      · rintro (h2 | h2)
        · omega
        · have := allX_low hA x x (Nat.le_refl _) i h2; omega
    · subst h
      rw [bsM, if_neg (by omega), if_pos rfl, Nat.testBit_two_pow]; simp
    · rw [bsM_step h, bsM_out (Nat.le_refl _), Bool.false_or]
      simp only [decide_true, Bool.true_and, decide_eq_true_eq]
      rw [allX_bit hA]
      constructor
      · intro h2
        obtain ⟨y, h3, h4⟩ := and_ne_get h2
        have hy := hA x y h3
        refine .inr ⟨y, h3, ?_⟩
        rcases (bsM_all hA (N - 1) y x (by omega) hy).mp h4 with h5 | h5
        · exact .inl h5.symm
        · exact .inr h5
      · rintro (h2 | ⟨y, h3, h4⟩)
        · omega
        · have hy := hA x y h3
          refine and_ne h3 ((bsM_all hA (N - 1) y x (by omega) hy).mpr ?_)
          rcases h4 with h5 | h5
          · exact .inl h5.symm
          · exact .inr h5
termination_by N x _ _ _ => x
decreasing_by all_goals exact hA _ _ h3
/-- the weights, as the program adds them up: k tasks are added, of the next one m others -/
def wC (T : List Int) (A : List Nat) (i k : Nat) : Int := csum T (fun x => x == i || (allX A x).testBit i) k
theorem wC_all {T : List Int} {A : List Nat} (hA : ∀ i k, (A.getD i 0).testBit k = true → k < i) (i : Nat) : wC T A i T.length = wM T A i := by
  unfold wC wM
  refine csum_congr _ fun x hx => ?_
  have := bsM_all hA (i := i) x x T.length (Nat.le_refl _) hx
  rw [Bool.eq_iff_iff, Bool.or_eq_true, beq_iff_eq]
  exact this.symm
theorem wC_succ (T : List Int) (A : List Nat) (i k : Nat) : wC T A i (k + 1) = wC T A i k + (if k = i ∨ (allX A k).testBit i = true then T.getD k 0 else 0) := by
  unfold wC
  rw [csum]
  congr 1
  simp only [Bool.or_eq_true, beq_iff_eq]
theorem or_add {D q : Nat} (h : D.testBit q = false) : D ||| 2 ^ q = D + 2 ^ q := by
  apply Nat.eq_of_testBit_eq; intro i
  rw [add_bit h, Nat.testBit_or, Nat.testBit_two_pow]
  by_cases hq : q = i
  · subst hq; simp
  · simp [hq, Ne.symm hq]
end Go.Proofs.Ytcikgbkehfepdac
namespace Go.Proofs.Ytcikgbkehfepdac
open Go.RowKit Go.WideShapes

theorem p2_le {n : Nat} (h : n ≤ 20) : 1 ≤ 2 ^ n ∧ 2 ^ n ≤ 1048576 := ⟨Nat.two_pow_pos n, by have := Nat.pow_le_pow_right (n := 2) (by omega) h; omega⟩
theorem allOf_any (n : Nat) (hn : n ≤ 20) (w : World) :
    Calls Try.prog 56 #[.int .i64 n] w fun e w' => e = .returned (.int .i64 (((2 ^ n - 1 : Nat) : Nat) : Int)) ∧ w = w' := by
  have hp := p2_le hn
  go_enter Try.func56, Try.ntmps56
  go_wp2
  go_ret
  refine ⟨ret_int ?_, rfl⟩
  have e : ((2 : Int) ^ n) = ((2 ^ n : Nat) : Int) := by push_cast; rfl
  rw [e]
  generalize 2 ^ n = p at hp ⊢
  have e1 : wrap64 (p : Int) = p := w64_id (by omega) (by omega)
  rw [e1]
  have e2 : wrap64 ((p : Int) - 1) = (p : Int) - 1 := w64_id (by omega) (by omega)
  rw [e2]
  omega
end Go.Proofs.Ytcikgbkehfepdac
