import Derived.Test.YthmlgicjedhgfaaRows
import Derived.WalkKit
import Derived.LoopTactic
import Derived.Outline
import Derived.WalkSpells
import Derived.WalkLawsBesides
import Derived.ProofKit
import Derived.Lib.Hide
import Derived.IntWalk
import Derived.StillTailTactics
import Derived.BigQuiet
import Derived.RegionTactic
import Derived.BigRegion
import Derived.Test.YthmlgicjedhgfaaM0
import Derived.Test.YthmlgicjedhgfaaM1
import Derived.Test.YthmlgicjedhgfaaM2
import Derived.Test.YthmlgicjedhgfaaM8
import Derived.Test.YthmlgicjedhgfaaM9
import Derived.Test.YthmlgicjedhgfaaM6
import Derived.Deep.OwnRows
import Derived.Deep.QuietTactic
namespace Go.Proofs.Ythmlgicjedhgfaa
open Go.RowKit Go.WideShapes

/-- the call's own array of three ints -/
structure Own3 (w wr : World) (f : Nat → Int) : Prop where
  own : wr.heap[w.heap.size]? = some (.cells (tabV (fun j => .int .i64 (f j)) 3) 40 (0, 0))
  below : Below w.heap.size w wr
theorem Own3.start (w : World) (f : Nat → Int) (h : ∀ j, j < 3 → f j = 0) : Own3 w (w.alloc (.cells #[.int .i64 0, .int .i64 0, .int .i64 0] 40)) f := by
  refine ⟨?_, (Below.refl _ _).alloc (Nat.le_refl _) _⟩
  rw [heap_alloc_new]
  show _ = some (Obj.cells #[.int .i64 (f 0), .int .i64 (f 1), .int .i64 (f 2)] _ _)
  rw [h 0 (by omega), h 1 (by omega), h 2 (by omega)]
theorem Own3.cell {w wr : World} {f : Nat → Int} (h : Own3 w wr f) {q : Nat} (hq : q < 3) : wr.cell? ⟨w.heap.size, q, none⟩ = some (.int .i64 (f q)) ∧ wr.frozen? ⟨w.heap.size, q, none⟩ = false :=
  ⟨by rw [cell_of_row _ _ _ _ _ _ h.own, tabV_get _ hq], frozen_row h.own q⟩
theorem Own3.put {w wr : World} {f g : Nat → Int} (h : Own3 w wr f) (k : Nat) (v : Int) (e : ∀ q, q < 3 → g q = if q = k then v else f q) : Own3 w (wr.setCell ⟨w.heap.size, k, none⟩ (.int .i64 v)) g := by
  refine ⟨?_, h.below.setCell (Nat.le_refl _) _⟩
  rw [heap_set h.own, tabV_set]
  rw [tabV_congr (g := fun j => .int .i64 (g j)) fun q hq => ?_]
  rw [e q hq]
  unfold setN
  split <;> rfl
theorem Own3.drew {w wr : World} {f : Nat → Int} (h : Own3 w wr f) (n : Nat) : Own3 w (wr.drewN n) f := ⟨h.own, h.below.trans (Drew.below (w := wr) (wr := wr.drewN n) ⟨n, rfl⟩ _)⟩
theorem Own3.congr {w wr : World} {f g : Nat → Int} (h : Own3 w wr f) (e : ∀ q, f q = g q) : Own3 w wr g := by
  have : f = g := funext e
  subst this; exact h
def mx3 (x y z : Int) (k : Nat) : Int := if k = 1 then x else if k = 2 then (if x < y then y else x) else (if (if x < y then y else x) < z then z else (if x < y then y else x))
set_option maxRecDepth 100000 in
set_option maxHeartbeats 4000000 in
theorem max3_any (b cap : Nat) (x y z : Int) (w : World) (h0 : w.cell? ⟨b, 0, none⟩ = some (.int .i64 x)) (h1 : w.cell? ⟨b, 1, none⟩ = some (.int .i64 y)) (h2 : w.cell? ⟨b, 2, none⟩ = some (.int .i64 z)) :
    Calls Try.prog 23 #[.slice (some ⟨b, 0, none⟩) 3 cap] w fun e w' => e = .returned (.int .i64 (mx3 x y z 3)) ∧ w = w' := by
  go_enter Try.func23, Try.ntmps23
  go_wp2
  go_loop [3, 4] (fun o i => ∃ k : Nat, 1 ≤ k ∧ k ≤ 3 ∧ i = .int .i64 k ∧ o = .int .i64 (mx3 x y z k)) (fun _ i => 3 - (intOf i).toNat)
  case atStart => exact ⟨1, Nat.le_refl _, by omega, rfl, rfl⟩
  case round =>
    obtain ⟨k, hk1, hk3, rfl, rfl⟩ := hrel
    have : k = 1 ∨ k = 2 ∨ k = 3 := by omega
    rcases this with rfl | rfl | rfl
    · have e1 : mx3 x y z 1 = x := rfl
      rw [e1]
      go_wp2
      go_round
      case rel => exact ⟨2, by omega, by omega, by go_num, rfl⟩
      case measure => simp [intOf]
    · have e2 : (if mx3 x y z 2 < z then z else mx3 x y z 2) = mx3 x y z 3 := rfl
      have E2 := Lib.hid e2
      clear e2
      generalize mx3 x y z 2 = u at E2 ⊢
      go_wp2
      go_round
      case rel => exact ⟨3, by omega, by omega, by go_num, by rw [← E2.out]⟩
      case measure => simp [intOf]
    · generalize hu : mx3 x y z 3 = u
      go_wp2
      go_ret
      exact ⟨rfl, rfl⟩
theorem max3_is (x y z s : Int) : max s (mx3 x y z 3) = max (max (max s x) y) z := by
  show max s (if (if x < y then y else x) < z then z else (if x < y then y else x)) = _
  split <;> split <;> omega
theorem on_bd7 {shop : List (List (List Int))} (hv : shopM shop = true) {n : Nat} (hn : n ≤ 3) (M : Nat) : 0 ≤ onS shop n M ∧ onS shop n M ≤ 108 := by
  have := on_bd hv hn (Nat.zero_le 3) M
  rwa [show stepsJ n 0 = [] from rfl, List.append_nil] at this
theorem mx3_bd {x y z : Int} (hx : 0 ≤ x ∧ x ≤ 108) (hy : 0 ≤ y ∧ y ≤ 108) (hz : 0 ≤ z ∧ z ≤ 108) : 0 ≤ mx3 x y z 3 ∧ mx3 x y z 3 ≤ 108 := by
  show 0 ≤ (if (if x < y then y else x) < z then z else (if x < y then y else x)) ∧ (if (if x < y then y else x) < z then z else (if x < y then y else x)) ≤ 108
  split <;> split <;> omega
set_option maxRecDepth 100000 in
set_option maxHeartbeats 4000000 in
theorem leastShop_impl (a : Option Addr) (len cap : Nat) (shop : List (List (List Int))) (w : World) (h : ShopAt w (· < w.heap.size) a len shop) (hc : len ≤ cap) :
    Calls Try.prog 14 #[.slice a len cap] w fun e w' => e = .returned (.int .i64 (leastRes7 shop)) ∧ Below w.heap.size w w' := by
  go_enter Try.func14, Try.ntmps14
  go_wp2_with fail
  refine (validShop_impl _ a len cap shop w h hc).mono ?_
  rintro e w0 ⟨rfl, hd0⟩
  cases hv : shopM shop
  · go_wp2_with fail
    go_ret
    exact ⟨ret_int (by unfold leastRes7; rw [hv]; rfl), hd0.below _⟩
  · have HV := Lib.hid hv
    have HL := Lib.hid h.lenEq
    have hl3 : len ≤ 3 := by have := (shop_get hv).1; have := HL.out; omega
    have h0 : ShopAt w0 (· < w0.heap.size) a len shop := by have e := hd0.size; rw [e]; exact Drew.shop h hd0
    have HW := Lib.hid (show w.heap.size = w0.heap.size ∧ ∀ w', Below w0.heap.size w0 w' → Below w.heap.size w w' from ⟨hd0.size.symm, fun w' hb => by have e := hd0.size; rw [e] at hb; exact (hd0.below _).trans hb⟩)
    have HO0 := Lib.hid (Own3.start w0 (fun M => onS shop 0 M) (fun q hq => rfl))
    clear hv h hd0
    go_wp2_with fail
    go_loopw [3, 15] (fun o i wr => ∃ k : Nat, k ≤ len ∧ i = .int .i64 k ∧ o = .int .i64 (leastJ shop k) ∧ Own3 w0 wr (fun M => onS shop k M)) (fun _ i _ => len - (intOf i).toNat)
    case atStart => exact ⟨0, Nat.zero_le _, rfl, rfl, HO0.out⟩
    case round =>
      clear HO0
      obtain ⟨k, hk, rfl, rfl, hC⟩ := hrel
      obtain ⟨wo, rfl⟩ : ∃ wo : World, wo = wr := ⟨_, rfl⟩
      by_cases hlt : k < len
      · have HC0 := Lib.hid (hC.congr (g := fun M => onM (smach shop) (stime shop) M (stepsL shop k ++ stepsJ k 0)) (fun M => by show _ = onM _ _ _ (stepsL shop k ++ []); rw [List.append_nil]; rfl))
        obtain ⟨b, off, job, a', l, c, rfl, hx, hcc, hlc, hr⟩ := (h0.below hC.below).get hlt
        have hsl : l = slen shop k := by unfold slen; rw [List.getD_eq_getElem?_getD, hx]; exact hr.lenEq.symm
        subst hsl
        have HBO := Lib.hid hC.below
        have HBS := Lib.hid (show b < w0.heap.size from h0.mem (by omega))
        have HCC := Lib.hid hcc
        clear hC hx
        have HSL := Lib.hid (slen_le HV.out k)
        go_wp2_with fail
        go_loopw [7, 21] (fun o i wr => ∃ m : Nat, m ≤ slen shop k ∧ i = .int .i64 m ∧ o = .int .i64 (stepsTo (stime shop) k m) ∧ Own3 w0 wr (fun M => onM (smach shop) (stime shop) M (stepsL shop k ++ stepsJ k m))) (fun _ i _ => slen shop k - (intOf i).toNat)
        case atStart => exact ⟨0, Nat.zero_le _, rfl, rfl, HC0.out⟩
        case round =>
          clear HC0
          obtain ⟨m, hm, rfl, rfl, hC⟩ := hrel
          obtain ⟨wi, rfl⟩ : ∃ wi : World, wi = wr := ⟨_, rfl⟩
          by_cases hml : m < slen shop k
          · obtain ⟨b', off', b1, off1, c1, b2, off2, c2, e3, q1, q2, q3, q4, q5, q6⟩ := step_at (h0.below hC.below) HV.out hlt hml
            cases e3
            have ea : Value.slice a' (slen shop k) c = .slice (some ⟨b1, off1, none⟩) (slen shop k) c1 := by
              have x1 := hC.below.cell (p := ⟨b, off + k, none⟩) HBS.out
              have x2 := HBO.out.cell (p := ⟨b, off + k, none⟩) HBS.out
              rw [q1] at x1
              rw [HCC.out, ← x1] at x2
              exact Option.some.inj x2
            simp only [Value.slice.injEq, true_and] at ea
            obtain ⟨rfl, rfl⟩ := ea
            have hM := smach_lt HV.out k m
            obtain ⟨e1, f1⟩ := hC.cell (q := smach shop k m) hM
            have ht := stime_bd HV.out k m
            have hon := on_bd HV.out (show k ≤ 3 by omega) (show m ≤ 3 by have := HSL.out; omega) (smach shop k m)
            have hst := stepsTo_le (fun j k => stime_bd HV.out j k) k m
            have hst0 := stepsTo_nn (fun j k => (stime_bd HV.out j k).1) k m
            have hs3 := HSL.out
            have HST := Lib.hid (show stepsTo (stime shop) k (m + 1) = stepsTo (stime shop) k m + stime shop k m from rfl)
            have HON := Lib.hid (show ∀ M, onM (smach shop) (stime shop) M (stepsL shop k ++ stepsJ k (m + 1)) = onM (smach shop) (stime shop) M (stepsL shop k ++ stepsJ k m) + (if smach shop k m = M then stime shop k m else 0) from fun M => by
              rw [stepsJ_succ, ← List.append_assoc, onM_snoc])
            have HC := Lib.hid hC
            clear hC
            obtain ⟨sl, hsl⟩ : ∃ sl, slen shop k = sl := ⟨_, rfl⟩
            rw [hsl] at hml q1 q2 hs3 ⊢
            have HSE := Lib.hid hsl
            clear hsl
            obtain ⟨MM, hMM⟩ : ∃ MM, smach shop k m = MM := ⟨_, rfl⟩
            obtain ⟨tt, htt⟩ : ∃ tt, stime shop k m = tt := ⟨_, rfl⟩
            obtain ⟨uu, huu⟩ : ∃ uu, stepsTo (stime shop) k m = uu := ⟨_, rfl⟩
            rw [hMM] at hM e1 f1 hon q5 HON
            obtain ⟨oo, hoo⟩ : ∃ oo, onM (smach shop) (stime shop) MM (stepsL shop k ++ stepsJ k m) = oo := ⟨_, rfl⟩
            rw [hoo] at e1 hon
            rw [htt] at ht q6 HST HON
            rw [huu] at hst hst0 HST ⊢
            have HOO := Lib.hid hoo
            clear hMM htt huu hoo
            have hM2 : (MM : Int) < 3 := by omega
            go_wp2_with fail
            go_still_tail 10, (by kernel_rfl)
            go_wp2
            go_roundw
            case rel => exact ⟨m + 1, by omega, by go_num, by rw [HST.out], ((HC.out.drew 1).put MM (oo + tt) (fun z _ => by
              rw [HON.out]
              by_cases e : z = MM
              · subst e; rw [if_pos rfl, if_pos rfl, HOO.out]
              · rw [if_neg e, if_neg (fun e' => e e'.symm), Int.add_zero]))⟩
            case measure => simp [intOf]; omega
          · obtain rfl : m = slen shop k := by omega
            have hj := leastJ_bd HV.out k
            have hst := stepsTo_le (fun j k => stime_bd HV.out j k) k (slen shop k)
            have hs3 := HSL.out
            have HC := Lib.hid (show Own3 w0 wi (fun M => onS shop (k + 1) M) from hC)
            clear hC hr
            have HJ := Lib.hid (show leastJ shop (k + 1) = max (leastJ shop k) (stepsTo (stime shop) k (slen shop k)) from rfl)
            generalize stepsTo (stime shop) k (slen shop k) = uu at hst HJ ⊢
            generalize hjj : leastJ shop k = jj at hj HJ ⊢
            have HMX := Lib.hid (show max jj uu = if jj < uu then uu else jj by split <;> omega)
            generalize slen shop k = sl at *
            go_wp2_with fail
            go_roundw
            case rel => exact ⟨k + 1, by omega, by go_num, by rw [HJ.out, HMX.out], HC.out⟩
            case measure => simp [intOf]; omega
      · obtain rfl : k = len := by omega
        have HB := Lib.hid hC.below
        have c0 := (hC.cell (q := 0) (by omega)).1
        have c1 := (hC.cell (q := 1) (by omega)).1
        have c2 := (hC.cell (q := 2) (by omega)).1
        have b0 := on_bd7 HV.out hl3 0
        have b1 := on_bd7 HV.out hl3 1
        have b2 := on_bd7 HV.out hl3 2
        clear hC
        have hj := leastJ_bd HV.out k
        have HF := Lib.hid (show leastRes7 shop = max (max (max (leastJ shop k) (onS shop k 0)) (onS shop k 1)) (onS shop k 2) by unfold leastRes7 leastM; rw [HV.out, HL.out]; rfl)
        have HMB := Lib.hid (mx3_bd b0 b1 b2)
        have HMI := Lib.hid (max3_is (onS shop k 0) (onS shop k 1) (onS shop k 2) (leastJ shop k))
        have HMC := Lib.hid (fun cap => max3_any _ cap _ _ _ _ c0 c1 c2)
        generalize mx3 (onS shop k 0) (onS shop k 1) (onS shop k 2) 3 = mm at HMB HMI HMC
        generalize leastJ shop k = jj at hj HF HMI ⊢
        have HMX := Lib.hid (show max jj mm = if jj < mm then mm else jj by split <;> omega)
        clear c0 c1 c2
        by_cases hjm : jj < mm
        · go_wp2_with (go_at_call 23; refine (HMC.out _).mono ?_; rintro e w' ⟨rfl, rfl⟩)
          go_ret
          exact ⟨ret_int (by rw [HF.out, ← HMI.out, HMX.out, if_pos hjm]), HW.out.2 _ HB.out⟩
        · go_wp2_with (go_at_call 23; refine (HMC.out _).mono ?_; rintro e w' ⟨rfl, rfl⟩)
          go_ret
          exact ⟨ret_int (by rw [HF.out, ← HMI.out, HMX.out, if_neg (by omega)]), HW.out.2 _ HB.out⟩
end Go.Proofs.Ythmlgicjedhgfaa
namespace Go.Proofs.Ythmlgicjedhgfaa
open Go.RowKit
end Go.Proofs.Ythmlgicjedhgfaa
namespace Go.Proofs.Ythmlgicjedhgfaa
open Go.RowKit Go.WideShapes Go.Deep

-- lists of lists of lists, in the exact laws
def sizesB (shop : List (List (List Int))) : Prop := ∀ job ∈ shop, job.length ≤ 1048576 ∧ ∀ r ∈ job, r.length ≤ 1048576
def SizePost3 (w : World) (left : Int) (len : Nat) (shop : List (List (List Int))) (e : Ending) (w' : World) : Prop := ∃ q : Int, e = .returned (.int .i64 q) ∧ q ≤ left ∧ (0 ≤ q → (len : Int) ≤ left ∧ sizesB shop) ∧ w = w'
theorem szIntSSS_any (S : Nat → Prop) (a : Option Addr) (len cap : Nat) (shop : List (List (List Int))) (left : Int) (w : World) (h : ShopAt w S a len shop) (h0 : 0 ≤ left) (h1 : left ≤ 1048576) :
    Calls Try.prog 10 #[.slice a len cap, .int .i64 left] w (SizePost3 w left len shop) := by
  have hs := h.small
  by_cases hl : (len : Int) ≤ left
  · have HL := Lib.hid h.lenEq
    go_enter Try.func10, Try.ntmps10
    go_wp2
    go_loop [1, 5] (fun q i => ∃ (k : Nat) (n : Int), k ≤ len ∧ i = .int .i64 k ∧ q = .int .i64 n ∧ 0 ≤ n ∧ n ≤ left ∧ sizesB (shop.take k)) (fun _ i => len - (intOf i).toNat)
    case atStart => exact ⟨0, _, Nat.zero_le _, rfl, rfl, by omega, by omega, fun r hr => by simp at hr⟩
    case round =>
      obtain ⟨k, n, hk, rfl, rfl, hn0, hn1, hr⟩ := hrel
      have HR := Lib.hid hr
      clear hr
      by_cases hlt : k < len
      · obtain ⟨b, off, job, a', l, c, rfl, hx, hc, _, hri⟩ := h.get hlt
        have hsl := hri.small
        have HX := Lib.hid hx
        have HRL := Lib.hid hri.lenEq
        clear hx
        go_wp2_with fail
        refine (szIntSS_any _ a' l c job n _ hri hn0 (by omega)).mono ?_
        rintro e w2 ⟨q, rfl, hq1, hq2, rfl⟩
        by_cases hq0 : 0 ≤ q
        · have hq2' := hq2 hq0
          have HQ := Lib.hid hq2'
          clear hq2 hq2'
          go_wp2
          go_round
          case rel =>
            refine ⟨k + 1, q, by omega, by go_num, rfl, hq0, by omega, fun r' hr' => ?_⟩
            rw [take_get HX.out] at hr'
            rcases List.mem_append.1 hr' with h' | h'
            · exact HR.out r' h'
            · simp only [List.mem_singleton] at h'
              rw [h']
              exact ⟨by rw [HRL.out]; have := HQ.out.1; omega, fun r hr => by have := HQ.out.2 r hr; omega⟩
          case measure => simp [intOf]; omega
        · go_wp2
          go_ret
          exact ⟨_, rfl, by omega, fun h => absurd h (by omega), rfl⟩
      · go_wp2
        go_ret
        have hl' := HL.out
        have hr := HR.out
        rw [List.take_of_length_le (by omega)] at hr
        exact ⟨_, rfl, by omega, fun _ => ⟨hl, hr⟩, rfl⟩
  · go_enter Try.func10, Try.ntmps10
    go_wp2
    go_ret
    exact ⟨_, rfl, by omega, fun h => absurd h (by omega), rfl⟩
def eqSB (xs ys : List (List (List Int))) : Bool := decide (xs = ys)
set_option maxHeartbeats 400000 in
theorem eqIntSSS_any (S T : Nat → Prop) (a a2 : Option Addr) (len cap len2 cap2 : Nat) (xs ys : List (List (List Int))) (w : World) (h : ShopAt w S a len xs) (g : ShopAt w T a2 len2 ys) :
    Calls Try.prog 12 #[.slice a len cap, .slice a2 len2 cap2] w (EqPost w (eqSB xs ys)) := by
  have hs := h.small
  have hs2 := g.small
  by_cases hll : len = len2
  · subst hll
    go_enter Try.func12, Try.ntmps12
    go_wp2
    go_loopw [5] (fun i wr => ∃ k : Nat, k ≤ len ∧ i = .int .i64 k ∧ xs.take k = ys.take k ∧ Drew w wr) (fun i _ => len - (intOf i).toNat)
    case atStart => exact ⟨0, Nat.zero_le _, rfl, rfl, Drew.refl w⟩
    case round =>
      obtain ⟨k, hk, rfl, ht, hd⟩ := hrel
      have HT := Lib.hid ht
      clear ht
      by_cases hlt : k < len
      · obtain ⟨b, off, x, a3, l3, c3, rfl, hx, hc, _, hi⟩ := (Drew.shop h hd).get hlt
        obtain ⟨b2, off2, y, a4, l4, c4, rfl, hy, hc2, _, hi2⟩ := (Drew.shop g hd).get hlt
        have HX := Lib.hid hx
        have HY := Lib.hid hy
        clear hx hy
        have hcall : ∀ n, Calls Try.prog 22 #[.slice a3 l3 c3, .slice a4 l4 c4] (wr.drewN n) (fun e w' => e = .returned (.bool (eqRB x y)) ∧ ∃ m, w' = (wr.drewN n).drewN m) :=
          fun n => eqIntSS_any S T a3 a4 l3 c3 l4 c4 x y _ (Drew.rows hi ⟨n, rfl⟩) (Drew.rows hi2 ⟨n, rfl⟩)
        have HCALL := Lib.hid hcall
        clear hcall
        by_cases hxy : x = y
        · have hb : eqRB x y = true := decide_eq_true hxy
          have HXY := Lib.hid hxy
          clear hxy
          go_wp2
          go_quiet ((go_at_call 22; exact Calls.quiet_of (HCALL.out _)))
          go_wp2
          go_roundw
          case rel => exact ⟨k + 1, by omega, by go_num, take_eq_step HX.out (by rw [HXY.out]; exact HY.out) HT.out, hd.drew _⟩
          case measure => simp [intOf]; omega
        · have hb : eqRB x y = false := decide_eq_false hxy
          go_wp2
          go_quiet ((go_at_call 22; exact Calls.quiet_of (HCALL.out _)))
          go_wp2
          go_ret
          exact ⟨ret_bool (decide_eq_false (ne_of_get HX.out HY.out hxy)).symm, hd.drew _⟩
      · go_wp2
        go_ret
        have e1 := h.lenEq
        have e2 := g.lenEq
        have ht := HT.out
        rw [List.take_of_length_le (by omega), List.take_of_length_le (by omega)] at ht
        exact ⟨ret_bool (decide_eq_true ht).symm, hd⟩
  · have hne : xs ≠ ys := by rintro rfl; exact hll (h.lenEq.symm.trans g.lenEq)
    go_enter Try.func12, Try.ntmps12
    go_wp2
    go_ret
    exact ⟨ret_bool (decide_eq_false hne).symm, Drew.refl w⟩
theorem SameOn.shop {lo hi : Nat} {a b : World} {p : Option Addr} {len : Nat} {xs : List (List (List Int))} (h : SameOn lo hi a b) (x : ShopAt a (fun b => lo ≤ b ∧ b < hi) p len xs) : ShopAt b (fun b => lo ≤ b ∧ b < hi) p len xs :=
  x.to (fun k hk => ⟨hk, h k hk.1 hk.2⟩)
theorem shop_in {lo hi : Nat} {w : World} {a : Option Addr} {len : Nat} {xs : List (List (List Int))} (h : ShopAt w (fun b => lo ≤ b ∧ b < hi) a len xs) (hh : hi ≤ w.heap.size) : ShopAt w (· < w.heap.size) a len xs :=
  h.to (fun _ hb => ⟨Nat.lt_of_lt_of_le hb.2 hh, rfl⟩)
theorem shop_lift3 {w w1 : World} {a : Option Addr} {len : Nat} {shop : List (List (List Int))} (h : ShopAt w (· < w.heap.size) a len shop) (hb : Below w.heap.size w w1) : ShopAt w1 (· < w1.heap.size) a len shop :=
  (h.below hb).to (fun _ hb' => ⟨Nat.lt_of_lt_of_le hb' hb.size, rfl⟩)
theorem Try.infoInts3 : (Try.prog.info? 31).map (fun i => (i.zero, i.size, i.bytes)) = some (some (.slice none 0 0), 1, 24) := by kernel_rfl
/-- a copy of a shop so far: its top block holds k slices, and these read as the first k jobs, in blocks between -/
structure Copy3 (w wr : World) (len k : Nat) (shop : List (List (List Int))) : Prop where
  below : Below w.heap.size w wr
  lt : w.heap.size < wr.heap.size
  top : ∃ C : Array Value, wr.heap[w.heap.size]? = some (.cells C 31 (0, 0)) ∧ C.size = len ∧
    ∀ (j : Nat) (job : List (List Int)), j < k → shop[j]? = some job → ∃ g, C[j]? = some (.slice (some ⟨g, 0, none⟩) job.length job.length) ∧ w.heap.size < g ∧ g < wr.heap.size ∧ RowsAt wr (fun b => w.heap.size < b ∧ b < wr.heap.size) (some ⟨g, 0, none⟩) job.length job
theorem copy3_start (w : World) (len : Nat) (shop : List (List (List Int))) : Copy3 w (w.alloc (.cells (madeCells #[.slice none 0 0] len) 31)) len 0 shop :=
  ⟨(Below.refl _ _).alloc (Nat.le_refl _) _, by simp, ⟨_, heap_alloc_new w _, size_madeCells _ _, fun j r h => absurd h (by omega)⟩⟩
theorem Copy3.cell {w wr : World} {len k : Nat} {shop : List (List (List Int))} (h : Copy3 w wr len k shop) {j : Nat} (hj : j < len) : ∃ c, wr.cell? ⟨w.heap.size, j, none⟩ = some c ∧ wr.frozen? ⟨w.heap.size, j, none⟩ = false := by
  obtain ⟨C, h1, h2, _⟩ := h.top
  refine ⟨C[j]'(by omega), ?_, ?_⟩
  · simp only [World.cell?, h1]; exact Array.getElem?_eq_getElem _
  · simp [World.frozen?, h1]
theorem Copy3.later {w wr w2 : World} {len k : Nat} {shop : List (List (List Int))} (h : Copy3 w wr len k shop) (hb : Below wr.heap.size wr w2) : Copy3 w w2 len k shop := by
  obtain ⟨C, h1, h2, h3⟩ := h.top
  refine ⟨h.below.trans (hb.mono h.below.size), Nat.lt_of_lt_of_le h.lt hb.size, ⟨C, (hb.block _ h.lt).trans h1, h2, fun j job hj hjob => ?_⟩⟩
  obtain ⟨g, e1, e2, e3, e4⟩ := h3 j job hj hjob
  exact ⟨g, e1, e2, Nat.lt_of_lt_of_le e3 hb.size, e4.to fun b hb' => ⟨⟨hb'.1, Nat.lt_of_lt_of_le hb'.2 hb.size⟩, hb.block b hb'.2⟩⟩
theorem Copy3.step {w wr : World} {len k g : Nat} {shop : List (List (List Int))} {job : List (List Int)} (h : Copy3 w wr len k shop) (hk : k < len) (hjob : shop[k]? = some job) (hg : w.heap.size < g ∧ g < wr.heap.size) (hr : RowsAt wr (fun b => w.heap.size < b ∧ b < wr.heap.size) (some ⟨g, 0, none⟩) job.length job) :
    Copy3 w (wr.setCell ⟨w.heap.size, k, none⟩ (.slice (some ⟨g, 0, none⟩) job.length job.length)) len (k + 1) shop := by
  obtain ⟨C, h1, h2, h3⟩ := h.top
  have hsz : (wr.setCell ⟨w.heap.size, k, none⟩ (.slice (some ⟨g, 0, none⟩) job.length job.length)).heap.size = wr.heap.size := by simp [World.setCell]
  have hot : ∀ b, b ≠ w.heap.size → (wr.setCell ⟨w.heap.size, k, none⟩ (.slice (some ⟨g, 0, none⟩) job.length job.length)).heap[b]? = wr.heap[b]? := fun b hb => Below.heap_setCell _ _ _ _ hb
  refine ⟨h.below.setCell (Nat.le_refl _) _, by rw [hsz]; exact h.lt, ⟨C.setIfInBounds k (.slice (some ⟨g, 0, none⟩) job.length job.length), heap_setCell_same wr w.heap.size k C _ _ h1, by simpa using h2, fun j job' hj hjob' => ?_⟩⟩
  rw [Array.getElem?_setIfInBounds, hsz]
  by_cases e : k = j
  · subst e
    rw [if_pos rfl, if_pos (by omega)]
    have e' := hjob.symm.trans hjob'
    simp only [Option.some.injEq] at e'
    subst e'
    exact ⟨g, rfl, hg.1, hg.2, hr.to fun b hb => ⟨hb, hot b (by omega)⟩⟩
  · rw [if_neg e]
    obtain ⟨g', e1, e2, e3, e4⟩ := h3 j job' (by omega) hjob'
    exact ⟨g', e1, e2, e3, e4.to fun b hb => ⟨hb, hot b (by omega)⟩⟩
def CopyS3 (w : World) (len : Nat) (shop : List (List (List Int))) (e : Ending) (w' : World) : Prop := e = .returned (.slice (some ⟨w.heap.size, 0, none⟩) len len) ∧
  ShopAt w' (fun b => w.heap.size ≤ b ∧ b < w'.heap.size) (some ⟨w.heap.size, 0, none⟩) len shop ∧ w.heap.size < w'.heap.size ∧ Below w.heap.size w w'
set_option maxHeartbeats 400000 in
theorem toShop_new (a : Option Addr) (len cap : Nat) (shop : List (List (List Int))) (w : World) (h : ShopAt w (· < w.heap.size) a len shop) (hl : len ≤ 1048576) (hr : sizesB shop) :
    Calls Try.prog 11 #[.slice a len cap] w (CopyS3 w len shop) := by
  have HL := Lib.hid h.lenEq
  have hmk := fun w => run_make_row' (P := Try.prog) 23 31 (.slice none 0 0) 24 Try.underlying23 Try.infoInts3 rfl .i64 .i64 len (by omega) (by omega) w
  go_enter Try.func11, Try.ntmps11
  go_wp2
  clear hmk
  go_loopw [4] (fun i wr => ∃ (k : Nat), k ≤ len ∧ i = .int .i64 k ∧ Copy3 w wr len k shop) (fun i _ => len - (intOf i).toNat)
  case atStart => exact ⟨0, Nat.zero_le _, rfl, copy3_start w len shop⟩
  case round =>
    obtain ⟨k, hk, rfl, hco⟩ := hrel
    by_cases hlt : k < len
    · have hw := h.below hco.below
      obtain ⟨b, off, job, a', l, c, rfl, hx, hc, _, hri⟩ := hw.get hlt
      have hjl := hr job (List.mem_of_getElem? hx)
      have hl' : l ≤ 1048576 := by rw [← hri.lenEq]; exact hjl.1
      have hws := hco.lt
      have HX := Lib.hid hx
      have HRL := Lib.hid hri.lenEq
      clear hx
      have HTO := Lib.hid (toRows_new a' l c job wr (hri.to fun b hb => ⟨by omega, rfl⟩) hl' hjl.2)
      have HCO := Lib.hid hco
      obtain ⟨c0, hc1, hf1⟩ := hco.cell hlt
      clear hco
      go_wp2_with fail
      refine HTO.out.mono ?_
      rintro e w3 ⟨rfl, hrest⟩
      have h3 := hrest.1
      have hlt3 := hrest.2.1
      have hb3 : Below wr.heap.size wr w3 := by first | exact hrest.2.2 | exact hrest.2.2.1
      clear hrest
      have hco3 := HCO.out.later hb3
      obtain ⟨c1, hc2, hf2⟩ := hco3.cell hlt
      have HST := Lib.hid (hco3.step hlt HX.out ⟨hws, hlt3⟩ (by rw [HRL.out]; exact h3.to fun b hb => ⟨⟨by omega, hb.2⟩, rfl⟩))
      rw [HRL.out] at HST
      clear hco3 h3 hb3 hc1 hf1
      go_wp2
      go_roundw
      case rel => exact ⟨k + 1, by omega, by go_num, HST.out⟩
      case measure => simp [intOf]; omega
    · obtain rfl : k = len := by omega
      have HCO := Lib.hid hco
      clear hco
      go_wp2
      go_ret
      have hll := HL.out
      obtain ⟨C, h1, h2, h3⟩ := HCO.out.top
      refine ⟨rfl, ⟨hll, by omega, fun h0 => ⟨w.heap.size, 0, rfl, ⟨Nat.le_refl _, HCO.out.lt⟩, fun i job hi => ?_⟩⟩, HCO.out.lt, HCO.out.below⟩
      have hil : i < k := by
        have := (List.getElem?_eq_some_iff.1 hi).1
        omega
      obtain ⟨g, e1, e2, e3, e4⟩ := h3 i job hil hi
      refine ⟨some ⟨g, 0, none⟩, job.length, job.length, ?_, Nat.le_refl _, e4.to fun b hb => ⟨⟨by omega, hb.2⟩, rfl⟩⟩
      rw [Nat.zero_add]
      simp only [World.cell?, h1]
      exact e1
end Go.Proofs.Ythmlgicjedhgfaa
namespace Go.Proofs.Ythmlgicjedhgfaa
open Go.RowKit Go.WideShapes
end Go.Proofs.Ythmlgicjedhgfaa
namespace Go.Proofs.Ythmlgicjedhgfaa
open Go.RowKit
theorem validShop_implB (a : Option Addr) (len cap : Nat) (shop : List (List (List Int))) (w : World) (h : ShopAt w (· < w.heap.size) a len shop) (hc : len ≤ cap) :
    Calls Try.prog 8 #[.slice a len cap] w (ValPost w (.bool (shopM shop))) :=
  (validShop_impl _ a len cap shop w h hc).mono fun _ _ h => ⟨h.1, h.2.below _⟩
theorem validShop_specB (a : Option Addr) (len cap : Nat) (shop : List (List (List Int))) (w : World) (h : ShopAt w (· < w.heap.size) a len shop) :
    Calls Try.prog 9 #[.slice a len cap] w (ValPost w (.bool (shopM shop))) := validShop_spec a len cap shop w h
theorem leastShop_spec (a : Option Addr) (len cap : Nat) (shop : List (List (List Int))) (w : World) (h : ShopAt w (· < w.heap.size) a len shop) :
    Calls Try.prog 15 #[.slice a len cap] w (ValPost w (.int .i64 (leastRes7 shop))) := leastShop_any a len cap shop w h
theorem most_TurnsOf (shop : List (List (List Int))) : TurnsOf shop.length (slen shop) (mostM shop) := ⟨(most_turns shop).1, (most_turns shop).2⟩
theorem mostRes_len (shop : List (List (List Int))) : (mostRes shop).length ≤ 1048576 := by
  unfold mostRes
  cases hv : shopM shop
  · simp
  · rw [if_pos rfl, List.length_map]
    have h := most_TurnsOf shop
    have := turnsOf_len hv h.1 (turnsOf_cnt h)
    omega
end Go.Proofs.Ythmlgicjedhgfaa
namespace Go.Proofs.Ythmlgicjedhgfaa
open Go.RowKit

set_option maxRecDepth 100000 in
set_option maxHeartbeats 1000000 in
theorem pick_any (R p : Nat) (n : Int) (w : World) (h : Rd w R p) (hp : p ≤ 1099511627776) :
    Calls Try.prog 25 #[.pointer (some ⟨R, 0, none⟩), .int .i64 n] w fun e w' => ∃ k : Nat, e = .returned (.int .i64 k) ∧ (k : Int) < max n 1 ∧ Rd w' R (p + 1) ∧ w.grownBy w' (some R) := by
  have HR := Lib.hid h
  obtain ⟨h1, hf, a, m, cap, h0, hm, hb⟩ := h
  by_cases hn : n < 1
  · go_enter Try.func25, Try.ntmps25
    go_wp2
    go_ret
    exact ⟨0, rfl, by omega, HR.out.stored0⟩
  · by_cases hm0 : m = 0
    · subst hm0
      go_enter Try.func25, Try.ntmps25
      go_wp2
      go_ret
      exact ⟨0, rfl, by omega, HR.out.stored0⟩
    · obtain ⟨b, off, rfl, hbR, hby⟩ := hb (by omega)
      by_cases hlt : p < m
      · obtain ⟨x, hx, hc⟩ := hby p hlt
        have hc' : (w.setCell ⟨R, 1, none⟩ (.int .i64 ((p : Int) + 1))).cell? ⟨b, off + p, none⟩ = some (.int .u8 x) := by
          rw [World.cell?_setCell_other _ _ _ _ (by intro e; injection e; omega)]; exact hc
        clear hby hb
        go_enter Try.func25, Try.ntmps25
        go_wp2
        go_ret
        have e1 : 0 ≤ (x : Int) % n := Int.emod_nonneg _ (by omega)
        have e2 : (x : Int) % n < n := Int.emod_lt_of_pos _ (by omega)
        exact ⟨((x : Int) % n).toNat, ret_int (by omega), by omega, HR.out.stored0⟩
      · have hm1 : 1 ≤ m := by omega
        obtain ⟨x1, hx1, hc1⟩ := hby (p % m) (Nat.mod_lt _ (by omega))
        obtain ⟨x2, hx2, hc2⟩ := hby ((p * 7 + 3) % m) (Nat.mod_lt _ (by omega))
        have hd1 : (w.setCell ⟨R, 1, none⟩ (.int .i64 ((p : Int) + 1))).cell? ⟨b, off + p % m, none⟩ = some (.int .u8 x1) := by
          rw [World.cell?_setCell_other _ _ _ _ (by intro e; injection e; omega)]; exact hc1
        have hd2 : (w.setCell ⟨R, 1, none⟩ (.int .i64 ((p : Int) + 1))).cell? ⟨b, off + (p * 7 + 3) % m, none⟩ = some (.int .u8 x2) := by
          rw [World.cell?_setCell_other _ _ _ _ (by intro e; injection e; omega)]; exact hc2
        clear hc1 hc2 hby hb
        have b1 : p % m < m := Nat.mod_lt _ (by omega)
        have b2 : (p * 7 + 3) % m < m := Nat.mod_lt _ (by omega)
        have g1 : 0 ≤ ((p : Int) * 7 + 3) % (m : Int) := Int.emod_nonneg _ (by omega)
        have g2 : ((p : Int) * 7 + 3) % (m : Int) < (m : Int) := Int.emod_lt_of_pos _ (by omega)
        have g3 : 0 ≤ (p : Int) / (m : Int) := Int.ediv_nonneg (by omega) (by omega)
        have g4 : (p : Int) / (m : Int) ≤ p := Int.ediv_le_self _ (by omega)
        go_enter Try.func25, Try.ntmps25
        go_wp2
        go_quiet (fail)
        go_wp2
        go_ret
        obtain ⟨k, hk, hk'⟩ := mixed ((x1 : Int) * 131 + x2 * 1117 + p * 29 + (p : Int) / (m : Int) * 53) n (by omega) (by omega) hn
        exact ⟨k, ret_int hk, by omega, HR.out.stored _⟩

theorem one_any (S : Nat → Prop) (R p : Nat) (a : Option Addr) (len cap : Nat) (xs : List Int) (w : World) (h : Rd w R p) (hx : IntsAt w S a len xs) (hne : ∀ b, S b → b ≠ R ∧ b < w.heap.size) (hl : 1 ≤ len) (hp : p ≤ 1099511627776) :
    Calls Try.prog 24 #[.pointer (some ⟨R, 0, none⟩), .slice a len cap] w fun e w' => ∃ x, x ∈ xs ∧ e = .returned (.int .i64 x) ∧ Rd w' R (p + 1) ∧ w.grownBy w' (some R) := by
  have hs := hx.small
  go_enter Try.func24, Try.ntmps24
  go_wp2_with fail
  refine (pick_any R p (len : Int) w h hp).mono ?_
  rintro e w' ⟨k, rfl, hk, hr, hg⟩
  obtain ⟨b, off, x, rfl, hx1, hx2⟩ := (hx.to (S' := S) (w' := w') fun b hb => ⟨hb, hg.block b (hne b hb).2 (by have := (hne b hb).1; simpa using this)⟩).get (k := k) (by omega)
  have HX := Lib.hid hx1
  clear hx1
  have hk' : k < len := by omega
  go_wp2
  go_ret
  exact ⟨x, List.mem_of_getElem? HX.out, rfl, hr, hg⟩
end Go.Proofs.Ythmlgicjedhgfaa
namespace Go.Proofs.Ythmlgicjedhgfaa
open Go.RowKit Go.WideShapes

theorem rd_new (w : World) (a : Option Addr) (n cap : Nat) (t : TypeId) (hn : n ≤ 2000) (hb : BytesAt w w.heap.size a n) : Rd (w.alloc (.cells #[.slice a n cap, .int .i64 0] t)) w.heap.size 0 := by
  refine ⟨by rw [World.cell?_alloc_new]; rfl, World.frozen?_alloc_new w _ _ _, a, n, cap, by rw [World.cell?_alloc_new]; rfl, hn, fun h0 => ?_⟩
  obtain ⟨b, off, ha, hb', hc⟩ := hb h0
  refine ⟨b, off, ha, hb', fun i hi => ?_⟩
  obtain ⟨x, hx, hx'⟩ := hc i hi
  exact ⟨x, hx, by rw [World.cell?_alloc_lt _ _ _ hb']; exact hx'⟩

def ReaderPost (w : World) (e : Ending) (w' : World) : Prop := e = .returned (.pointer (some ⟨w.heap.size, 0, none⟩)) ∧ Rd w' w.heap.size 0 ∧ Below w.heap.size w w'

theorem newReader_any (a : Option Addr) (len cap : Nat) (w : World) (hb : BytesAt w w.heap.size a len) (hl : len ≤ cap) (hs : len ≤ 9223372036854775807) :
    Calls Try.prog 17 #[.slice a len cap] w (ReaderPost w) := by
  by_cases h : len ≤ 2000
  · go_enter Try.func17, Try.ntmps17
    go_wp2
    go_ret
    exact ⟨rfl, rd_new w a len cap _ h hb, (Below.refl _ _).alloc (Nat.le_refl _) _⟩
  · obtain ⟨b, off, rfl, hb1, hc⟩ := hb (by omega)
    have h2 : BytesAt w w.heap.size (some ⟨b, off, none⟩) 2000 := fun _ => ⟨b, off, rfl, hb1, fun i hi => hc i (by omega)⟩
    clear hc
    go_enter Try.func17, Try.ntmps17
    go_wp2
    go_ret
    exact ⟨rfl, rd_new w _ 2000 cap _ (by omega) h2, (Below.refl _ _).alloc (Nat.le_refl _) _⟩
end Go.Proofs.Ythmlgicjedhgfaa
namespace Go.Proofs.Ythmlgicjedhgfaa
open Go.RowKit Go.WideShapes

/-- a list made behind the reader R, ahead of block B -/
def LAt (w : World) (R B : Nat) (a : Option Addr) (l : Nat) (xs : List Int) : Prop := IntsAt w (fun b => R < b ∧ b < B) a l xs ∧ B ≤ w.heap.size
theorem LAt.step {w w' : World} {R B l : Nat} {a : Option Addr} {xs : List Int} (h : LAt w R B a l xs) (hg : w.grownBy w' (some R)) : LAt w' R B a l xs :=
  ⟨h.1.to (fun b hb => ⟨hb, hg.block b (Nat.lt_of_lt_of_le hb.2 h.2) (by intro e; injection e; omega)⟩), Nat.le_trans h.2 hg.size⟩
theorem LAt.stepR {w w' : World} {R B l : Nat} {a : Option Addr} {xs : List Int} {r : Option Nat} (h : LAt w R B a l xs) (hg : w.grownBy w' r) (hr : ∀ k, r = some k → B ≤ k) : LAt w' R B a l xs :=
  ⟨h.1.to (fun b hb => ⟨hb, hg.block b (Nat.lt_of_lt_of_le hb.2 h.2) (by intro e; have := hr b e.symm; omega)⟩), Nat.le_trans h.2 hg.size⟩
theorem LAt.alloc {w : World} {R B l : Nat} {a : Option Addr} {xs : List Int} (h : LAt w R B a l xs) (o : Obj) : LAt (w.alloc o) R B a l xs := h.step (World.grownBy_alloc _ _ _)
theorem LAt.low {w : World} {R B l : Nat} {a : Option Addr} {xs : List Int} (h : LAt w R B a l xs) : IntsAt w (· < w.heap.size) a l xs := h.1.to (fun _ hb => ⟨Nat.lt_of_lt_of_le hb.2 h.2, rfl⟩)
theorem lat_new {w w' : World} {R l : Nat} {a : Option Addr} {xs : List Int} (h : IntsAt w' (fun b => w.heap.size ≤ b ∧ b < w'.heap.size) a l xs) (hR : R < w.heap.size) : LAt w' R w'.heap.size a l xs :=
  ⟨h.to (fun _ hb => ⟨⟨by omega, hb.2⟩, rfl⟩), Nat.le_refl _⟩
theorem lat_own {w w' : World} {R l cp : Nat} {a : Option Addr} {xs : List Int} (h : w'.ownsRow w.heap.size 3 1 (.slice a l cp) l (xs.map (.int .i64))) (hR : R < w.heap.size) (hl : l ≤ 9223372036854775807) : LAt w' R w'.heap.size a l xs := by
  obtain ⟨ay, cy, hve, _, hints⟩ := own_ints h hl
  simp only [Value.slice.injEq] at hve
  obtain ⟨rfl, _, rfl⟩ := hve
  exact lat_new hints hR
theorem own_low {w : World} {B l cp : Nat} {a : Option Addr} {xs : List Int} (h : w.ownsRow B 3 1 (.slice a l cp) l (xs.map (.int .i64))) (hl : l ≤ 9223372036854775807) : IntsAt w (· < w.heap.size) a l xs := by
  obtain ⟨ay, cy, hve, _, hints⟩ := own_ints h hl
  simp only [Value.slice.injEq] at hve
  obtain ⟨rfl, _, rfl⟩ := hve
  exact hints.to (fun _ hb => ⟨hb.2, rfl⟩)
theorem grown_of_below {w w' : World} (h : Below w.heap.size w w') (r : Option Nat) : w.grownBy w' r := ⟨h.os, h.tape, h.output, h.size, fun b hb _ => h.block b hb⟩
theorem Rd.step {w w' : World} {R p : Nat} (h : Rd w R p) (hb : Below w.heap.size w w') : Rd w' R p :=
  h.grown (r := none) (grown_of_below hb none) (fun k e => by cases e)
theorem own_step {w w' : World} {B R l : Nat} {v : Value} {xs : List Value} (h : w.ownsRow B 3 1 v l xs) (hg : w.grownBy w' (some R)) (hR : R < B) : w'.ownsRow B 3 1 v l xs := h.kept hg (ne_low h hR)
end Go.Proofs.Ythmlgicjedhgfaa
