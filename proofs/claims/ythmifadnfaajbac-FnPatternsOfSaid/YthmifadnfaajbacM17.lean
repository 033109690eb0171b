import Derived.Test.YthmifadnfaajbacRows
import Derived.WalkKit
import Derived.LoopTactic
import Derived.Outline
import Derived.WalkSpells
import Derived.WalkLawsBesides
import Derived.ProofKit
import Derived.Deep.RegionLaw
import Derived.Deep.AppendLies
import Derived.Test.YthmifadnfaajbacM0
import Derived.Test.YthmifadnfaajbacM1
import Derived.Test.YthmifadnfaajbacM2
import Derived.Test.YthmifadnfaajbacM10
import Derived.Test.YthmifadnfaajbacM8
import Derived.Test.YthmifadnfaajbacM4
import Derived.Test.YthmifadnfaajbacM16
import Derived.Test.YthmifadnfaajbacM11
namespace Go.Proofs.Ythmifadnfaajbac
open Go.RowKit Go.WideShapes

set_option maxRecDepth 100000 in
/-- append of a list to a list of the call's own, at a step of a region that draws; the source may be empty -/
theorem stepApp {ops : Array Oper} {o : Oper} {a : Act} {K : Act → World → Prop} {Q : Exit → Act → World → Prop} {E : Prop} {wo : World} (hgd : o.guard = none) (s x : Operand)
    (ho : o.op = .call { callee := .builtin .append, args := #[s, x], argTypes := #[23, 23] })
    (base k cp gx : Nat) (xs : List Int) (S : Nat → Prop) (b off m c : Nat) (ys : List Int) (hs : a.eval s = .slice (some ⟨gx, 0, none⟩) k cp)
    (hown : wo.ownsRow base 3 1 (.slice (some ⟨gx, 0, none⟩) k cp) k (xs.map (.int .i64))) (hx : a.eval x = .slice (some ⟨b, off, none⟩) m c) (hy : IntsAt wo S (some ⟨b, off, none⟩) m ys)
    (hbase : base ≤ wo.heap.size) (km : Nat) (hkm : k + m = km) (zs : List Int) (hzs : xs ++ ys = zs) (hk : km ≤ 1048576)
    (h : ∀ (g6 c6 : Nat) (w' : World), w'.ownsRow base 3 1 (.slice (some ⟨g6, 0, none⟩) km c6) km (zs.map (.int .i64)) → km ≤ c6 → wo.grownBy w' (some gx) → base ≤ g6 → g6 < w'.heap.size →
      K (a.put o.dst (.slice (some ⟨g6, 0, none⟩) km c6)) w') :
    if Region.wanted o (yielded ops a.tmps) = true then Oper.wp Try.prog o a wo K Q else E := by
  subst hkm
  subst hzs
  have hw : Region.wanted o (yielded ops a.tmps) = true := by simp [Region.wanted, hgd]
  rw [if_pos hw]
  obtain ⟨i0, hi, hz0, hz1, hz2⟩ := info_parts Try.infoIntO
  obtain ⟨v', w', hr, h2, h3, h4, _⟩ := run_append_own_at (P := Try.prog) wo base 23 o.type 3 i0 (.int .i64 0) 1 8 Try.underlying23 hi hz0 hz1 hz2 rfl (by decide) _ k _ hown ⟨b, off, none⟩ m c (ys.map (.int .i64)) (by simp [hy.lenEq]) (by
    intro j u hj
    rw [List.getElem?_map] at hj
    cases hq : ys[j]? with
    | none => rw [hq] at hj; cases hj
    | some z =>
      rw [hq] at hj
      simp only [Option.map_some, Option.some.injEq] at hj
      have hlt : j < ys.length := (List.getElem?_eq_some_iff.1 hq).1
      obtain ⟨b', off', e, _, hc⟩ := hy.cells (by have := hy.lenEq; omega)
      cases e
      rw [add_plain, hc _ _ hq, ← hj]) (by
    intro u hu
    obtain ⟨x, _, rfl⟩ := List.mem_map.1 hu
    rfl) (by unfold maxLen; omega) (by omega) hbase
  unfold Oper.wp execOp
  simp only [ho, resolve, invoke, builtin, Sem.run_bind, Sem.run_pure, Result.andThen_ok, List.map_toArray, List.map_cons, List.map_nil, hs, hx, hr]
  obtain ⟨a6, c6, rfl, hc⟩ := own_slice h2
  rcases h2.2 with ⟨e1, e2⟩ | ⟨g, cap, cur, hv, hb, hg, _⟩
  · exact absurd (h4.1 (by injection e1 with e3 _ e4; subst e3; subst e4; rw [e2])).1 (by simp)
  · injection hv with e3 _ e4
    subst e3
    rw [← List.map_append] at h2
    refine h g c6 w' h2 hc h3 hb ?_
    rcases Nat.lt_or_ge g w'.heap.size with hlt | hge
    · exact hlt
    · rw [Array.getElem?_eq_none hge] at hg; cases hg

theorem IntsAt.takeI {w : World} {S : Nat → Prop} {b off len : Nat} {xs : List Int} (h : IntsAt w S (some ⟨b, off, none⟩) len xs) (k : Nat) (hk : k ≤ len) : IntsAt w S (some ⟨b, off, none⟩) k (xs.take k) := by
  have hl := h.lenEq
  have hs := h.small
  refine ⟨by simp; omega, by omega, fun h0 => ?_⟩
  obtain ⟨b', off', e, hS, hc⟩ := h.cells (by omega)
  cases e
  refine ⟨_, _, rfl, hS, fun i x hx => hc i x ?_⟩
  rw [List.getElem?_take] at hx
  split at hx
  · exact hx
  · cases hx
theorem IntsAt.dropI {w : World} {S : Nat → Prop} {b len : Nat} {xs : List Int} (h : IntsAt w S (some ⟨b, 0, none⟩) len xs) (k : Nat) (hk : k ≤ len) : IntsAt w S (some ⟨b, k, none⟩) (len - k) (xs.drop k) := by
  have hl := h.lenEq
  have hs := h.small
  refine ⟨by simp; omega, by omega, fun h0 => ?_⟩
  obtain ⟨b', off', e, hS, hc⟩ := h.cells (by omega)
  cases e
  refine ⟨_, _, rfl, hS, fun i x hx => ?_⟩
  rw [List.getElem?_drop] at hx
  have := hc _ x hx
  rwa [Nat.zero_add] at this
theorem IntsAt.grownEq {W W' w' : World} {b r len : Nat} {xs : List Int} (h : IntsAt W (fun k => k = b) (some ⟨b, 0, none⟩) len xs) (hg : W'.grownBy w' (some r)) (he : W'.heap = W.heap) (hb : b < W'.heap.size) (hr : b ≠ r) :
    IntsAt w' (fun k => k = b) (some ⟨b, 0, none⟩) len xs :=
  h.to fun k hk => ⟨hk, by subst hk; rw [hg.block _ hb (by simp; omega), he]⟩
theorem below_grown {n : Nat} {w w' : World} (h : Below n w w') (hn : n = w.heap.size) (r : Option Nat) : w.grownBy w' r := by
  subst hn
  exact ⟨h.os, h.tape, h.output, h.size, fun k hk _ => h.block k hk⟩
def OrderPost (w : World) (R p n : Nat) (e : Ending) (w' : World) : Prop := ∃ (g cap : Nat) (xs : List Int), e = .returned (.slice (some ⟨g, 0, none⟩) n cap) ∧
  w'.ownsRow w.heap.size 3 1 (.slice (some ⟨g, 0, none⟩) n cap) n (xs.map (.int .i64)) ∧ n ≤ cap ∧ (∀ x ∈ xs, -1 ≤ x ∧ x ≤ n) ∧ w.grownBy w' (some R)
end Go.Proofs.Ythmifadnfaajbac
namespace Go.Proofs.Ythmifadnfaajbac
open Go.RowKit Go.WideShapes

def PairsPost (w : World) (R p : Nat) (e : Ending) (w' : World) : Prop := ∃ (a : Option Addr) (len cap : Nat) (rows : List (List Int)) (p' : Nat), e = .returned (.slice a len cap) ∧
      RowsAt w' (fun b => w.heap.size ≤ b ∧ b < w'.heap.size) a len rows ∧ len ≤ cap ∧ len ≤ 8 ∧ Rd w' R p' ∧ p' ≤ p + 1000 ∧ w.grownBy w' (some R)
theorem pairsPost_mk {w w' : World} {R p p' len cap M : Nat} {a : Option Addr} (h : OwnRows w' w.heap.size M (.slice a len cap) len) (hl : len ≤ cap) (h6 : len ≤ 8) (hr : Rd w' R p') (hp : p' ≤ p + 1000)
    (hg : w.grownBy w' (some R)) : PairsPost w R p (.returned (.slice a len cap)) w' := by
  obtain ⟨a', cap', rows, hv, _, hrows⟩ := h.rows (by omega)
  simp only [Value.slice.injEq] at hv
  obtain ⟨rfl, _, rfl⟩ := hv
  exact ⟨_, _, _, rows, p', rfl, hrows, hl, h6, hr, hp, hg⟩
theorem pair_hi {n : Int} (h : n ∈ [9, 4]) : 4 ≤ n ∧ n ≤ 9 := by simp at h; omega
theorem pair_x {n : Int} (h : n ∈ [10, -1]) : -1 ≤ n ∧ n ≤ 10 := by simp at h; omega
end Go.Proofs.Ythmifadnfaajbac
namespace Go.Proofs.Ythmifadnfaajbac
open Go.RowKit Go.WideShapes

theorem own_lit3 (w : World) {B : Nat} (hB : B ≤ w.heap.size) (x y z : Int) : (w.alloc (.cells #[.int .i64 x, .int .i64 y, .int .i64 z] 3)).ownsRow B 3 1 (.slice (some ⟨w.heap.size, 0, none⟩) 3 3) 3 ([x, y, z].map (.int .i64)) :=
  ⟨rfl, .inr ⟨w.heap.size, 3, _, rfl, hB, heap_alloc_new w _, Nat.le_refl _, by unfold maxLen; omega, rfl, rfl⟩⟩
theorem job_t {n : Int} (h : n ∈ [5, 9]) : 5 ≤ n ∧ n ≤ 9 := by simp at h; omega
theorem job_d {n : Int} (h : n ∈ [12, 25, 6]) : 6 ≤ n ∧ n ≤ 25 := by simp at h; omega
end Go.Proofs.Ythmifadnfaajbac
namespace Go.Proofs.Ythmifadnfaajbac
open Go.RowKit Go.WideShapes

/-- drawn jobs -/
def DrawnJ (w : World) (e : Ending) (w' : World) : Prop := ∃ (a : Option Addr) (l c : Nat) (rows : List (List Int)), e = .returned (.slice a l c) ∧ RowsAt w' (· < w'.heap.size) a l rows ∧ l ≤ c ∧ l ≤ 8 ∧ Below w.heap.size w w'
/-- and an order, most often -/
def DrawnJO (w : World) (e : Ending) (w' : World) : Prop := ∃ (a : Option Addr) (l c : Nat) (rows : List (List Int)) (a2 : Option Addr) (l2 c2 : Nat) (xs : List Int), e = .returned (.tuple #[.slice a l c, .slice a2 l2 c2]) ∧
  RowsAt w' (· < w'.heap.size) a l rows ∧ l ≤ c ∧ l ≤ 8 ∧ IntsAt w' (· < w'.heap.size) a2 l2 xs ∧ l2 ≤ c2 ∧ l2 = l ∧ (∀ x ∈ xs, -1 ≤ x ∧ x ≤ 8) ∧ Below w.heap.size w w'
end Go.Proofs.Ythmifadnfaajbac
namespace Go.Proofs.Ythmifadnfaajbac
open Go.RowKit Go.WideShapes

/-- one of some strings -/
theorem of_any (R p b len cap : Nat) (w : World) (h : Rd w R p) (hc : ∀ i, i < len → ∃ s : ByteArray, w.cell? ⟨b, i, none⟩ = some (.string s)) (hne : b ≠ R) (hb : b < w.heap.size) (hl : 1 ≤ len) (hl2 : len ≤ 1048576) (hp : p ≤ 1099511627776) :
    Calls Try.prog 27 #[.pointer (some ⟨R, 0, none⟩), .slice (some ⟨b, 0, none⟩) len cap] w fun e w' => ∃ s : ByteArray, e = .returned (.string s) ∧ Rd w' R (p + 1) ∧ w.grownBy w' (some R) := by
  go_enter Try.func27, Try.ntmps27
  go_wp2_with fail
  refine (pick_any R p (len : Int) w h hp).mono ?_
  rintro e w' ⟨k, rfl, hk, hr, hg⟩
  have hkl : k < len := by omega
  have hkI : (k : Int) < (len : Int) := by omega
  obtain ⟨s, hs⟩ := hc k hkl
  have hs' : w'.cell? ⟨b, k, none⟩ = some (.string s) := by rw [World.cell?_of_block (w := w) (hg.block b hb (by intro e; injection e with e; exact hne e))]; exact hs
  clear hs hc
  go_wp2_with fail
  go_ret
  exact ⟨s, rfl, hr, hg⟩
end Go.Proofs.Ythmifadnfaajbac
namespace Go.Proofs.Ythmifadnfaajbac
open Go.RowKit Go.WideShapes

def CutPost (w : World) (R p : Nat) (e : Ending) (w' : World) : Prop := ∃ (a : Option Addr) (len cap : Nat) (xs : List Int) (c : Int) (p' : Nat), e = .returned (.tuple #[.slice a len cap, .int .i64 c]) ∧
  w'.ownsRow w.heap.size 3 1 (.slice a len cap) len (xs.map (.int .i64)) ∧ len ≤ cap ∧ len ≤ 7 ∧ 1 ≤ c ∧ c ≤ 20 ∧ Rd w' R p' ∧ p' ≤ p + 100 ∧ w.grownBy w' (some R)
theorem CutPost.mk {w w' : World} {R p p' : Nat} {a : Option Addr} {len cap : Nat} {xs : List Int} {c : Int} (h : w'.ownsRow w.heap.size 3 1 (.slice a len cap) len (xs.map (.int .i64))) (hl : len ≤ 7) (hc1 : 1 ≤ c) (hc2 : c ≤ 20) (hr : Rd w' R p') (hp : p' ≤ p + 100) (hg : w.grownBy w' (some R)) :
    CutPost w R p (.returned (.tuple #[.slice a len cap, .int .i64 c])) w' := by
  obtain ⟨a', cap', e, hc⟩ := own_slice h
  simp only [Value.slice.injEq] at e
  obtain ⟨rfl, _, rfl⟩ := e
  exact ⟨_, _, _, xs, c, p', rfl, h, hc, hl, hc1, hc2, hr, hp, hg⟩
theorem cut_n {n : Int} (h : n ∈ [5, 4, 6, 3, 7, 2, 1, 0]) : ∃ m : Nat, n = (m : Int) ∧ m ≤ 7 := by simp at h; exact ⟨n.toNat, by omega, by omega⟩
theorem cut_c {n : Int} (h : n ∈ [10, 12, 7, 20, 5, 1]) : 1 ≤ n ∧ n ≤ 20 := by simp at h; omega
set_option maxRecDepth 100000 in
set_option maxHeartbeats 4000000 in
theorem someCuts_any (R p : Nat) (w : World) (h : Rd w R p) (hp : p ≤ 900000) :
    Calls Try.prog 26 #[.pointer (some ⟨R, 0, none⟩)] w (CutPost w R p) := by
  have hR := h.lt
  go_enter Try.func26, Try.ntmps26
  go_wp2_with fail
  refine (one_any (fun k => k = w.heap.size) R p _ 6 6 [10, 12, 7, 20, 5, 1] _ (h.alloc _) (IntsAt.lit rfl rfl rfl (by omega)) (by intro b hb; simp; omega) (by omega) (by omega)).mono ?_
  rintro e w1 ⟨c, hc, rfl, hr1, hg1⟩
  obtain ⟨hc1, hc2⟩ := cut_c hc
  clear hc
  have gw1 : w.grownBy w1 (some R) := grown_r (World.grownBy_alloc _ _ _) hg1
  go_wp2_with fail
  refine (one_any (fun k => k = w1.heap.size) R (p + 1) _ 8 8 [5, 4, 6, 3, 7, 2, 1, 0] _ (hr1.alloc _) (IntsAt.lit rfl rfl rfl (by omega)) (by intro b hb; have := hr1.lt; simp; omega) (by omega) (by omega)).mono ?_
  rintro e w2 ⟨n, hn, rfl, hr2, hg2⟩
  obtain ⟨n, rfl, hn7⟩ := cut_n hn
  clear hn
  have gw2 := grown_r gw1 (grown_r (World.grownBy_alloc _ _ _) hg2)
  go_wp2_with fail
  refine (listOf_any R (p + 1 + 1) n 1 c w2 hr2 (by omega) (by omega) (by omega) (by omega) (by omega)).mono ?_
  rintro e w3 ⟨a5, c5, xs, rfl, ho5, hc5, hl5, hall, hr3, hg3⟩
  have gw3 := grown_r gw2 hg3
  have ho := own_base ho5 gw2.size
  have HO := Lib.hid ho
  have HR3 := Lib.hid hr3
  have HG3 := Lib.hid gw3
  have HAL := Lib.hid (fun j (hj : j < n) => (show 1 ≤ xs.getD j 0 ∧ xs.getD j 0 ≤ c from by
    have hm : xs.getD j 0 ∈ xs := by rw [List.getD_eq_getElem?_getD, List.getElem?_eq_getElem (by omega)]; exact List.getElem_mem _
    have := hall _ hm; omega))
  have HLX := Lib.hid hl5
  clear ho5 ho hall hr1 hr2 hr3 hg1 hg2 hg3 gw1 gw2 gw3 h hl5
  go_wp2_with fail
  go_loopw [7] (fun i wr => ∃ (k p' : Nat) (ys : List Int), k ≤ n ∧ i = .int .i64 k ∧ wr.ownsRow w.heap.size 3 1 (.slice a5 n c5) n (ys.map (.int .i64)) ∧ (∀ j, k ≤ j → j < n → 1 ≤ ys.getD j 0 ∧ ys.getD j 0 ≤ c) ∧ Rd wr R p' ∧ p' ≤ p + 2 + n + k ∧ w.grownBy wr (some R)) (fun i _ => n - (intOf i).toNat)
  case atStart => exact ⟨0, p + 1 + 1 + n, xs, Nat.zero_le _, rfl, HO.out, fun j _ hj => HAL.out j hj, HR3.out, by omega, HG3.out⟩
  case round =>
    clear HO HR3 HG3 HAL HLX
    obtain ⟨k, p', ys, hk, rfl, hown, hall, hrd, hpp, hgr⟩ := hrel
    obtain ⟨wo, rfl⟩ : ∃ wo : World, wo = wr := ⟨_, rfl⟩
    have HO := Lib.hid hown
    have HG := Lib.hid hgr
    have HR := Lib.hid hrd
    have HAL := Lib.hid hall
    clear hown hgr hrd hall
    by_cases hlt : k < n
    · have hkI : (k : Int) < (n : Int) := by omega
      have h0 : 0 < n := by omega
      have h0I : (0 : Int) < (n : Int) := by omega
      go_wp2_with fail
      refine (pick_any R p' 3 wo HR.out (by omega)).mono ?_
      rintro e w8 ⟨q8, rfl, hq8, hr8, hg8⟩
      have HO8 := Lib.hid (HO.out.kept hg8 (ne_low HO.out hR))
      have HG8 := Lib.hid (grown_r HG.out hg8)
      have HR8 := Lib.hid hr8
      clear hr8 hg8
      by_cases hq80 : q8 = 0
      · subst hq80
        go_wp2_with fail
        refine (pick_any R (p' + 1) 30 w8 HR8.out (by omega)).mono ?_
        rintro e w9 ⟨q9, rfl, hq9, hr9, hg9⟩
        have HO9 := Lib.hid (HO8.out.kept hg9 (ne_low HO8.out hR))
        have hg10 := grown_r HG8.out hg9
        by_cases hq90 : q9 = 0
        · subst hq90
          have hw1 : IntKind.i64.wrap (c + 1) = c + 1 := IntWalk.i64_in _ (by omega)
          go_wp2_with fail
          refine (one_any (fun b => b = w9.heap.size) R (p' + 1 + 1) _ 2 2 [0, c + 1] _ (hr9.alloc _) (IntsAt.lit rfl rfl rfl (by omega)) (by intro b hb; have := hr9.lt; simp; omega) (by omega) (by omega)).mono ?_
          rintro e wa ⟨x, _, rfl, hra, hga⟩
          have hgw : w9.grownBy wa (some R) := grown_r (World.grownBy_alloc _ _ _) hga
          have HOA := Lib.hid (HO9.out.kept hgw (ne_low HO9.out hR))
          have hgb := grown_r hg10 hgw
          obtain ⟨g2, v0, e0, hgB, hc0, hf0⟩ := own_place HOA.out (j := 0) h0
          first | (obtain rfl := e0) | (simp only [Option.some.injEq, Addr.mk.injEq, and_true] at e0; subst e0)
          go_wp2
          go_ret2
          obtain ⟨h7, g7⟩ := HOA.out.stored 0 (.int .i64 x)
          exact CutPost.mk (xs := ys.set 0 x) (by rw [List.map_set]; exact h7) (by omega) hc1 hc2 (hra.grown g7 (by intro b hb; injection hb; omega)) (by omega) (grown_trans hgb g7 (by intro b hb; injection hb; omega))
        · go_wp2_with fail
          go_ret2
          exact CutPost.mk HO9.out (by omega) hc1 hc2 hr9 (by omega) hg10
      · obtain ⟨g, v0, rfl, hgB, hc0, hf0⟩ := own_place HO8.out (j := k) hlt
        have hx8 := own_low HO8.out (by omega)
        obtain ⟨b1, f1, x, e1, hxx, hcx⟩ := hx8.get hlt
        simp only [Option.some.injEq, Addr.mk.injEq, and_true] at e1
        obtain ⟨e1, e2⟩ := e1
        subst e1
        subst e2
        rw [Nat.zero_add] at hcx
        have hxb := HAL.out k (Nat.le_refl _) hlt
        rw [getD_of hxx] at hxb
        have hq8I : (0 : Int) < (q8 : Int) := by omega
        have hyl : ys.length = n := by have := HO8.out.1; simpa using this
        obtain ⟨h7, g7⟩ : World.ownsRow (w8.setCell ⟨g, k, none⟩ (.int .i64 (1 + x / 2))) w.heap.size 3 1 (.slice (some ⟨g, 0, none⟩) n c5) n ((ys.set k (1 + x / 2)).map (.int .i64)) ∧ w8.grownBy (w8.setCell ⟨g, k, none⟩ (.int .i64 (1 + x / 2))) (some g) := by
          have := HO8.out.stored k (.int .i64 (1 + x / 2))
          rw [List.map_set]; simpa using this
        have HO7 := Lib.hid h7
        have HR7 := Lib.hid (HR8.out.grown g7 (by intro b hb; injection hb; omega))
        have HG7 := Lib.hid (grown_trans HG8.out g7 (by intro b hb; injection hb; omega))
        have hcz : (w8.setCell ⟨g, k, none⟩ (.int .i64 (1 + x / 2))).cell? ⟨g, k, none⟩ = some (.int .i64 (1 + x / 2)) := by
          obtain ⟨b9, f9, x9, e9, hx9, hc9⟩ := (own_low h7 (by omega)).get hlt
          simp only [Option.some.injEq, Addr.mk.injEq, and_true] at e9
          obtain ⟨e9, e8⟩ := e9
          subst e9
          subst e8
          rw [Nat.zero_add] at hc9
          rw [hc9]
          have e7 := getD_of hx9
          rw [List.getD_eq_getElem?_getD, List.getElem?_set_self (by omega)] at e7
          simp at e7
          rw [e7]
        have htd : x.tdiv 2 = x / 2 := Int.tdiv_eq_ediv_of_nonneg (by omega)
        have hwq : IntKind.i64.wrap (x / 2) = x / 2 := IntWalk.i64_in _ (by omega)
        have hwa : IntKind.i64.wrap (1 + x / 2) = 1 + x / 2 := IntWalk.i64_in _ (by omega)
        have hng : ¬ c < 1 + x / 2 := by omega
        clear h7 g7 hxx hx8 hc0
        go_wp2_with fail
        go_roundw
        case rel => exact ⟨k + 1, p' + 1, ys.set k (1 + x / 2), by omega, by go_num, HO7.out, fun j hj hjn => by
          rw [List.getD_eq_getElem?_getD, List.getElem?_set_ne (by omega), ← List.getD_eq_getElem?_getD]
          exact HAL.out j (by omega) hjn, HR7.out, by omega, HG7.out⟩
        case measure => simp [intOf]; omega
    · obtain rfl : k = n := by omega
      have hkI : ¬ (k : Int) < (k : Int) := by omega
      by_cases h0 : 0 < k
      · have h0I : (0 : Int) < (k : Int) := by omega
        go_wp2_with fail
        refine (pick_any R (p') 30 wo HR.out (by omega)).mono ?_
        rintro e w9 ⟨q9, rfl, hq9, hr9, hg9⟩
        have HO9 := Lib.hid (HO.out.kept hg9 (ne_low HO.out hR))
        have hg10 := grown_r HG.out hg9
        by_cases hq90 : q9 = 0
        · subst hq90
          have hw1 : IntKind.i64.wrap (c + 1) = c + 1 := IntWalk.i64_in _ (by omega)
          go_wp2_with fail
          refine (one_any (fun b => b = w9.heap.size) R (p' + 1) _ 2 2 [0, c + 1] _ (hr9.alloc _) (IntsAt.lit rfl rfl rfl (by omega)) (by intro b hb; have := hr9.lt; simp; omega) (by omega) (by omega)).mono ?_
          rintro e wa ⟨x, _, rfl, hra, hga⟩
          have hgw : w9.grownBy wa (some R) := grown_r (World.grownBy_alloc _ _ _) hga
          have HOA := Lib.hid (HO9.out.kept hgw (ne_low HO9.out hR))
          have hgb := grown_r hg10 hgw
          obtain ⟨g2, v0, e0, hgB, hc0, hf0⟩ := own_place HOA.out (j := 0) h0
          first | (obtain rfl := e0) | (simp only [Option.some.injEq, Addr.mk.injEq, and_true] at e0; subst e0)
          go_wp2
          go_ret2
          obtain ⟨h7, g7⟩ := HOA.out.stored 0 (.int .i64 x)
          exact CutPost.mk (xs := ys.set 0 x) (by rw [List.map_set]; exact h7) (by omega) hc1 hc2 (hra.grown g7 (by intro b hb; injection hb; omega)) (by omega) (grown_trans hgb g7 (by intro b hb; injection hb; omega))
        · go_wp2_with fail
          go_ret2
          exact CutPost.mk HO9.out (by omega) hc1 hc2 hr9 (by omega) hg10
      · have h0n : k = 0 := by omega
        subst h0n
        go_wp2_with fail
        go_ret2
        exact CutPost.mk HO.out (by omega) hc1 hc2 HR.out (by omega) HG.out
/-- drawn: a list, and the length of the rolls -/
def DrawnC (w : World) (e : Ending) (w' : World) : Prop := ∃ (a : Option Addr) (len cap : Nat) (xs : List Int) (c : Int), e = .returned (.tuple #[.slice a len cap, .int .i64 c]) ∧ IntsAt w' (· < w'.heap.size) a len xs ∧ len ≤ cap ∧ len ≤ 7 ∧ 1 ≤ c ∧ c ≤ 20 ∧ Below w.heap.size w w'
def DrawnCK (w : World) (e : Ending) (w' : World) : Prop := ∃ (a : Option Addr) (len cap : Nat) (xs : List Int) (c : Int) (s : ByteArray), e = .returned (.tuple #[.slice a len cap, .int .i64 c, .string s]) ∧ IntsAt w' (· < w'.heap.size) a len xs ∧ len ≤ cap ∧ len ≤ 7 ∧ 1 ≤ c ∧ c ≤ 20 ∧ Below w.heap.size w w'
set_option maxRecDepth 100000 in
theorem dDrawRollsBy_any (a : Option Addr) (len cap : Nat) (w : World) (hb : BytesAt w w.heap.size a len) (hl : len ≤ cap) (hs : len ≤ 9223372036854775807) :
    Calls Try.prog 7 #[.slice a len cap] w (DrawnCK w) := by
  go_enter Try.func7, Try.ntmps7
  go_wp2_with fail
  refine (newReader_any a len cap w hb hl hs).mono ?_
  rintro e w1 ⟨rfl, hr, hb1⟩
  go_wp2_with fail
  refine (someCuts_any w.heap.size 0 w1 hr (by omega)).mono ?_
  rintro e w2 ⟨a2, l2, c2, xs, c, p2, rfl, h1, h2, h3, h4, h5, hr2, hp2, hg⟩
  go_wp2_with fail
  refine (of_any w.heap.size p2 w2.heap.size 5 5 _ (hr2.alloc _) (fun i hi => ?_) (by have := hr2.lt; omega) (by simp) (by omega) (by omega) (by omega)).mono ?_
  · rw [World.cell?_alloc_new]
    match i, hi with
    | 0, _ => exact ⟨_, rfl⟩
    | 1, _ => exact ⟨_, rfl⟩
    | 2, _ => exact ⟨_, rfl⟩
    | 3, _ => exact ⟨_, rfl⟩
    | 4, _ => exact ⟨_, rfl⟩
  rintro e w3 ⟨s, rfl, hr3, hg3⟩
  have hg4 : w2.grownBy w3 (some w.heap.size) := grown_r (World.grownBy_alloc w2 _ _) hg3
  have hbb : Below w.heap.size w w3 := grown_below (grown_r hg hg4) hb1 hb1.size
  have hi := own_low (h1.kept hg4 (ne_low h1 hr.lt)) (by omega)
  clear hg hg3 hg4 hr hr2 hr3 h1
  go_wp2_with fail
  go_ret3
  exact ⟨a2, l2, c2, xs, c, s, rfl, hi, h2, h3, h4, h5, hbb⟩
end Go.Proofs.Ythmifadnfaajbac
namespace Go.Proofs.Ythmifadnfaajbac
open Go.RowKit Go.WideShapes

theorem pat_n {n : Int} (h : n ∈ [2, 3, 1, 2, 0, 4]) : ∃ m : Nat, n = (m : Int) ∧ m ≤ 4 := by simp at h; exact ⟨n.toNat, by omega, by omega⟩
theorem pat_c {n : Int} (h : n ∈ [10, 7, 12, 20, 5]) : ∃ m : Nat, n = (m : Int) ∧ 1 ≤ m ∧ m ≤ 20 := by simp at h; exact ⟨n.toNat, by omega, by omega, by omega⟩
set_option maxRecDepth 100000 in
set_option maxHeartbeats 4000000 in
theorem dDrawPatternsOf_any (a : Option Addr) (len cap : Nat) (w : World) (hb : BytesAt w w.heap.size a len) (hl : len ≤ cap) (hs : len ≤ 9223372036854775807) :
    Calls Try.prog 18 #[.slice a len cap] w (DrawnC w) := by
  go_enter Try.func18, Try.ntmps18
  go_wp2_with fail
  refine (newReader_any a len cap w hb hl hs).mono ?_
  rintro e w1 ⟨rfl, hr, hb1⟩
  have hR := hr.lt
  go_wp2_with fail
  refine (one_any (fun k => k = w1.heap.size) w.heap.size 0 _ 5 5 [10, 7, 12, 20, 5] _ (hr.alloc _) (IntsAt.lit rfl rfl rfl (by omega)) (by intro b hb; simp; omega) (by omega) (by omega)).mono ?_
  rintro e w2 ⟨c, hc, rfl, hr2, hg2⟩
  obtain ⟨c, rfl, hc1, hc2⟩ := pat_c hc
  clear hc
  have gw2 : w1.grownBy w2 (some w.heap.size) := grown_r (World.grownBy_alloc _ _ _) hg2
  have hsz2 := gw2.size
  have ho0 := World.ownsRow_made (base := w1.heap.size) (size := 1) (e := 3) w2 #[] 0 hsz2 (Nat.zero_le _) rfl
  have hsa : (w2.alloc (.cells #[] 3)).heap.size = w2.heap.size + 1 := by simp
  have hr2a := hr2.alloc (.cells #[] 3)
  have gw2a : w1.grownBy (w2.alloc (.cells #[] 3)) (some w.heap.size) := grown_r gw2 (World.grownBy_alloc _ _ _)
  obtain ⟨w2a, hw2a⟩ : ∃ w2a, w2.alloc (.cells #[] 3) = w2a := ⟨_, rfl⟩
  rw [hw2a] at ho0 hsa hr2a gw2a
  have HWA := Lib.hid hw2a
  clear hw2a
  go_wp2_with fail
  rw [HWA.out, ← hsa]
  refine (one_any (fun k => k = w2a.heap.size) w.heap.size 1 _ 6 6 [2, 3, 1, 2, 0, 4] _ (hr2a.alloc _) (IntsAt.lit rfl rfl rfl (by omega)) (by intro b hb; have := hr2a.lt; simp; omega) (by omega) (by omega)).mono ?_
  rintro e w3 ⟨n, hn, rfl, hr3, hg3⟩
  obtain ⟨n, rfl, hn4⟩ := pat_n hn
  clear hn
  have gw3 := grown_r gw2a (grown_r (World.grownBy_alloc _ _ _) hg3)
  have hgo : w2a.grownBy w3 (some w.heap.size) := grown_r (World.grownBy_alloc _ _ _) hg3
  have HO := Lib.hid (ho0.kept hgo (ne_low ho0 hR))
  have HR3 := Lib.hid hr3
  have HG3 := Lib.hid gw3
  clear ho0 hr2 hr2a hr3 hg2 hg3 hgo gw2 gw2a gw3 hr HWA hsa hsz2
  go_wp2_with fail
  go_loopw [6] (fun s6 wr => ∃ (k cp p' : Nat) (ys : List Int) (ax : Option Addr), s6 = .slice ax k cp ∧ k ≤ n ∧ wr.ownsRow w1.heap.size 3 1 (.slice ax k cp) k (ys.map (.int .i64)) ∧ Rd wr w.heap.size p' ∧ p' ≤ 2 + 2 * k ∧ w1.grownBy wr (some w.heap.size)) (fun s6 _ => n - (match s6 with | .slice _ k _ => k | _ => 0))
  case atStart => exact ⟨0, 0, 2, [], _, rfl, Nat.zero_le _, HO.out, HR3.out, by omega, HG3.out⟩
  case round =>
    clear HO HR3 HG3
    obtain ⟨k, cp, p', ys, ax, rfl, hk, hown, hrd, hpp, hgr⟩ := hrel
    obtain ⟨wo, rfl⟩ : ∃ wo : World, wo = wr := ⟨_, rfl⟩
    have HO := Lib.hid hown
    have HG := Lib.hid hgr
    have HR := Lib.hid hrd
    clear hown hgr hrd
    by_cases hlt : k < n
    · have hkI : (k : Int) < (n : Int) := by omega
      go_wp2_with fail
      refine (pick_any w.heap.size p' c wo HR.out (by omega)).mono ?_
      rintro e w8 ⟨q8, rfl, hq8, hr8, hg8⟩
      have HO8 := Lib.hid (HO.out.kept hg8 (ne_low HO.out hR))
      have HG8 := Lib.hid (grown_r HG.out hg8)
      have HR8 := Lib.hid hr8
      have hw1 : IntKind.i64.wrap (1 + (q8 : Int)) = 1 + (q8 : Int) := IntWalk.i64_in _ (by omega)
      clear hr8 hg8
      go_wp2_with fail
      refine (one_any (fun b => b = w8.heap.size) w.heap.size (p' + 1) _ 6 6 [2, 3, 4, 5, 1 + (q8 : Int), 7] _ (HR8.out.alloc _) (IntsAt.lit rfl rfl rfl (by omega)) (by intro b hb; have := HR8.out.lt; simp; omega) (by omega) (by omega)).mono ?_
      rintro e w9 ⟨x, _, rfl, hr9, hg9⟩
      have hg89 : w8.grownBy w9 (some w.heap.size) := grown_r (World.grownBy_alloc _ _ _) hg9
      have HO9 := Lib.hid (HO8.out.kept hg89 (ne_low HO8.out hR))
      have hgg := grown_r HG8.out hg89
      have HG9 := Lib.hid hgg
      have HR9 := Lib.hid hr9
      have hsz := hgg.size
      clear hr9 hg9 hg89 hgg
      go_wp2_with (at_builtin; refine wpApp1 rfl _ _ rfl w1.heap.size k cp ax ys x rfl HO9.out rfl hsz (by omega) ?_)
      intro a6 c6 w6 hown6 hc6 hg6
      have HX := Lib.hid (own_snoc hown6)
      have hlow : ∀ q, (Value.slice ax k cp).ownBlock = some q → w1.heap.size ≤ q := fun q hq => (HO9.out.lt q hq).1
      have HR6 := Lib.hid (HR9.out.grown hg6 (fun b hb => by have := hlow b hb; omega))
      have HG6 := Lib.hid (grown_trans HG9.out hg6 (fun b hb => by have := hlow b hb; omega))
      clear hown6 hg6 hlow
      go_wp2_with fail
      go_roundw
      case rel => exact ⟨k + 1, c6, p' + 2, ys ++ [x], a6, (by first | rfl | exact ⟨rfl, rfl, rfl⟩), by omega, HX.out, HR6.out, by omega, HG6.out⟩
      case measure => simp <;> omega
    · obtain rfl : k = n := by omega
      have hkI : ¬ (k : Int) < (k : Int) := by omega
      have hbb : Below w.heap.size w wo := grown_below HG.out hb1 hb1.size
      have hi := own_low HO.out (by omega)
      obtain ⟨a', c', e, hle⟩ := own_slice HO.out
      injection e with e1 _ e3
      subst e1 e3
      go_wp2_with fail
      go_ret2
      exact ⟨_, _, _, ys, (c : Int), rfl, hi, hle, by omega, by omega, by omega, hbb⟩
end Go.Proofs.Ythmifadnfaajbac
