import Derived.Test.YtldncfkkeeinjacRows
import Derived.WalkKit
import Derived.LoopTactic
import Derived.Outline
import Derived.WalkSpells
import Derived.WalkLawsBesides
import Derived.ProofKit
import Derived.Lib.Hide
import Derived.IntWalk
import Derived.Test.YtldncfkkeeinjacLib
import Derived.Test.YtldncfkkeeinjacGen
import Derived.Test.YtldncfkkeeinjacMark
import Derived.Test.YtldncfkkeeinjacArr
import Derived.Test.YtldncfkkeeinjacOwn1
import Derived.Test.YtldncfkkeeinjacUp
import Derived.Test.YtldncfkkeeinjacLaws
import Derived.Test.YtldncfkkeeinjacNetM
import Derived.Test.YtldncfkkeeinjacVal2
import Derived.Test.YtldncfkkeeinjacEx
import Derived.Test.YtldncfkkeeinjacPlanM
import Derived.Test.YtldncfkkeeinjacBlockM
import Derived.Test.YtldncfkkeeinjacLotSpec
import Derived.Test.YtldncfkkeeinjacBestSpec
namespace Go.Proofs.Ytldncfkkeeinjac
open Go.RowKit Go.WideShapes

/-- what d days at the day i cost, set in any case -/
def raM (xs : List Int) (s h : Int) (i d : Nat) : Int := s + h * hsum xs i d
theorem raM_bd {xs : List Int} {s h : Int} (hx : ∀ k, 0 ≤ xs.getD k 0 ∧ xs.getD k 0 ≤ 20) (hs : 0 ≤ s ∧ s ≤ 31) (hh : 0 ≤ h ∧ h ≤ 31) (i d : Nat) (hd : d ≤ 8) : 0 ≤ raM xs s h i d ∧ raM xs s h i d ≤ 40000 := by
  have h1 := hsum_bd hx i d hd
  have h0 := hsum_nonneg (fun k => (hx k).1) i d
  have h2 := mul_box3 hh.1 hh.2 h0 (show hsum xs i d ≤ 1280 by omega)
  unfold raM; omega
/-- one day more is no dearer by the mean -/
def meanB (xs : List Int) (s h : Int) (i k : Nat) : Bool := decide (raM xs s h i (k + 1 - i) * ((k : Int) - i) ≤ raM xs s h i (k - i) * ((k : Int) + 1 - i))
def mup (xs : List Int) (s h : Int) (i : Nat) : Nat → Nat → Nat
  | 0, k => k
  | f + 1, k => if meanB xs s h i k then mup xs s h i f (k + 1) else k
def nxM (xs : List Int) (s h : Int) (i : Nat) : Nat := mup xs s h i (xs.length - (i + 1)) (i + 1)
theorem mup_in (xs : List Int) (s h : Int) (i : Nat) : ∀ f k, k ≤ mup xs s h i f k ∧ mup xs s h i f k ≤ k + f := by
  intro f
  induction f with
  | zero => intro k; exact ⟨Nat.le_refl _, Nat.le_refl _⟩
  | succ f ih =>
    intro k
    rw [mup]
    split
    · have := ih (k + 1); omega
    · omega
theorem nxM_nexts (xs : List Int) (s h : Int) : Nexts (nxM xs s h) xs.length := fun i hi => by
  have := mup_in xs s h i (xs.length - (i + 1)) (i + 1)
  unfold nxM; omega
def meanLotsM (xs : List Int) (s h : Int) : List Int := madeM (nxM xs s h) xs

set_option maxRecDepth 100000 in
set_option maxHeartbeats 2000000 in
theorem runAll_any (S : Nat → Prop) (a : Option Addr) (len cap : Nat) (xs : List Int) (i k : Nat) (s h : Int) (w : World) (hx : IntsAt w S a len xs) (hl : len ≤ 8) (hv : ∀ k, 0 ≤ xs.getD k 0 ∧ xs.getD k 0 ≤ 20) (hik : i < k) (hk : k ≤ len) (hs : 0 ≤ s ∧ s ≤ 31) (hh : 0 ≤ h ∧ h ≤ 31) :
    Calls Try.prog 30 #[.slice a len cap, .int .i64 i, .int .i64 k, .int .i64 s, .int .i64 h] w fun e w' => e = .returned (.int .i64 (raM xs s h i (k - i))) ∧ w = w' := by
  obtain ⟨hs0, hs1⟩ := hs
  obtain ⟨hh0, hh1⟩ := hh
  have HV := Lib.hid hv
  obtain ⟨b, off, rfl, hS, hcell⟩ := hx.cells (by omega)
  have HX := Lib.hid hx
  clear hv hx
  go_enter Try.func30, Try.ntmps30
  go_wp2
  go_loop [11, 12] (fun n v => ∃ q : Nat, i ≤ q ∧ q ≤ k ∧ v = .int .i64 q ∧ n = .int .i64 (raM xs s h i (q - i))) (fun _ q => k - (intOf q).toNat)
  case atStart => exact ⟨i, by omega, by omega, rfl, by simp [raM, hsum]⟩
  case round =>
    obtain ⟨q, hq1, hq2, rfl, rfl⟩ := hrel
    by_cases hlt : q < k
    · obtain ⟨b', off', x, e, hxx, hc⟩ := HX.out.get (k := q) (by omega)
      cases e
      have hxb := HV.out q
      rw [getD_of hxx] at hxb
      have HN := Lib.hid (show raM xs s h i (q + 1 - i) = raM xs s h i (q - i) + h * ((q : Int) - (i : Int)) * x by
        unfold raM
        rw [show q + 1 - i = (q - i) + 1 by omega, hsum, show i + (q - i) = q by omega, getD_of hxx, show ((q - i : Nat) : Int) = (q : Int) - (i : Int) by omega, Int.mul_add, Int.mul_assoc]
        omega)
      have h3 := raM_bd HV.out (s := s) (h := h) ⟨hs0, hs1⟩ ⟨hh0, hh1⟩ i (q - i) (by omega)
      have h4 := mul_box3 hh0 hh1 (show (0 : Int) ≤ (q : Int) - (i : Int) by omega) (show (q : Int) - (i : Int) ≤ 8 by omega)
      clear hxx hcell
      generalize raM xs s h i (q - i) = o at h3 HN ⊢
      generalize hp : h * ((q : Int) - (i : Int)) = p at h4 HN
      have h5 := mul_box3 h4.1 h4.2 hxb.1 hxb.2
      have hlt2 : (q : Int) < (k : Int) := by omega
      have hlt3 : (q : Int) < (len : Int) := by omega
      have hlt4 : q < len := by omega
      go_wp2
      go_round
      case rel => exact ⟨q + 1, by omega, by omega, by go_num, by rw [HN.out]⟩
      case measure => simp [intOf] <;> omega
    · obtain rfl : q = k := by omega
      go_wp2
      go_ret
      exact ⟨rfl, rfl⟩

def meanRes (xs : List Int) (s h : Int) : List Int := if validLotsM xs s h then meanLotsM xs s h else []
theorem meanRes_no {xs : List Int} {s h : Int} (e : validLotsM xs s h = false) : meanRes xs s h = [] := by unfold meanRes; rw [e]; rfl
theorem meanRes_yes {xs : List Int} {s h : Int} (e : validLotsM xs s h = true) : meanRes xs s h = meanLotsM xs s h := by unfold meanRes; rw [e]; rfl
theorem meanRes_len (xs : List Int) (s h : Int) : (meanRes xs s h).length ≤ 1048576 := by
  cases e : validLotsM xs s h
  · rw [meanRes_no e]; simp
  · rw [meanRes_yes e, meanLotsM, madeM_length]; have := validDays_len (validLots_get e).1; omega
set_option maxRecDepth 100000 in
set_option maxHeartbeats 4000000 in
theorem meanLots_spec (a : Option Addr) (len cap : Nat) (xs : List Int) (s h : Int) (w : World) (hx : IntsAt w (· < w.heap.size) a len xs) (hcap : len ≤ cap) :
    Calls Try.prog 10 #[.slice a len cap, .int .i64 s, .int .i64 h] w (NewInts w (meanRes xs s h)) := by
  cases hv : validLotsM xs s h
  · rw [meanRes_no hv]
    go_enter Try.func10, Try.ntmps10
    go_wp2_with (go_at_call 29; refine (validLots_any _ _ _ _ xs s h _ hx).mono ?_; rintro e w' ⟨rfl, rfl⟩)
    go_ret
    exact newInts_nil w
  · rw [meanRes_yes hv]
    obtain ⟨hvd, hs', hh'⟩ := validLots_get hv
    have HL := Lib.hid hx.lenEq
    have hl8 : len ≤ 8 := by have := validDays_len hvd; have := HL.out; omega
    have HAT := Lib.hid (validDays_at hvd)
    have hmk := fun w => run_make_row' (P := Try.prog) 23 3 (.int .i64 0) 8 Try.underlying23 Try.infoIntP rfl .i64 .i64 len (by omega) (by omega) w
    have HO0 := Lib.hid ((OwnF.start w len (by omega)).congr (g := madeTo (nxM xs s h) xs 0) (fun q _ => by unfold madeTo; rw [if_neg (by omega)]))
    obtain ⟨hs0, hs1⟩ := hs'
    obtain ⟨hh0, hh1⟩ := hh'
    go_enter Try.func10, Try.ntmps10
    go_wp2_with (go_at_call 29; refine (validLots_any _ _ _ _ xs s h _ hx).mono ?_; rintro e w' ⟨rfl, rfl⟩)
    clear hmk hv hvd
    go_loopw [8] (fun i wr => ∃ v : Nat, v ≤ len ∧ (v < len → owner (nxM xs s h) v = v) ∧ i = .int .i64 v ∧ OwnF w wr len (madeTo (nxM xs s h) xs v)) (fun i _ => len - (intOf i).toNat)
    case atStart => exact ⟨0, Nat.zero_le _, fun _ => rfl, rfl, HO0.out⟩
    case round =>
      clear HO0
      obtain ⟨i, hi, ho, rfl, hC⟩ := hrel
      obtain ⟨wo, rfl⟩ : ∃ wo : World, wo = wr := ⟨_, rfl⟩
      have HC := Lib.hid hC
      clear hC
      by_cases hil : i < len
      · have hilx : i < xs.length := by rw [HL.out]; exact hil
        obtain ⟨hn1, hn2⟩ := nxM_nexts xs s h i hilx
        have HNX := Lib.hid (madeTo_next (nxM_nexts xs s h) hilx (ho hil))
        have HNO := Lib.hid (fun hlt => owner_next (ho hil) hn1 : nxM xs s h i < len → _)
        rw [HL.out] at hn2
        have HNP := Lib.hid (made_part (xs := xs) (i := i) (k := nxM xs s h i) (by omega) (by rw [HL.out]; exact hn2))
        have HDEF := Lib.hid (show mup xs s h i (len - (i + 1)) (i + 1) = nxM xs s h i by unfold nxM; rw [HL.out])
        clear ho
        generalize nxM xs s h i = nx at *
        have hxw := hx.below HC.out.below
        have HXW := Lib.hid hxw
        go_wp2_with fail
        go_loop [9] (fun k => ∃ q : Nat, i < q ∧ q ≤ len ∧ k = .int .i64 q ∧ mup xs s h i (len - q) q = nx) (fun k => len - (intOf k).toNat)
        case atStart => exact ⟨i + 1, by omega, by omega, by go_num, HDEF.out⟩
        case round =>
          obtain ⟨q, hq1, hq2, rfl, hm⟩ := hrel
          have HM := Lib.hid hm
          clear hm
          by_cases hql : q < len
          · have HM2 := Lib.hid (show (if meanB xs s h i q then mup xs s h i (len - (q + 1)) (q + 1) else q) = nx by
              rw [← HM.out, show len - q = (len - (q + 1)) + 1 by omega]; rfl)
            have HR1 := Lib.hid (runAll_any _ a len cap xs i (q + 1) s h wo hxw hl8 HAT.out (by omega) (by omega) ⟨hs0, by omega⟩ ⟨hh0, by omega⟩)
            have HR2 := Lib.hid (runAll_any _ a len cap xs i q s h wo hxw hl8 HAT.out (by omega) (by omega) ⟨hs0, by omega⟩ ⟨hh0, by omega⟩)
            have hb1 := raM_bd HAT.out (s := s) (h := h) ⟨hs0, by omega⟩ ⟨hh0, by omega⟩ i (q + 1 - i) (by omega)
            have hb2 := raM_bd HAT.out (s := s) (h := h) ⟨hs0, by omega⟩ ⟨hh0, by omega⟩ i (q - i) (by omega)
            have HMB := Lib.hid (show meanB xs s h i q = decide (raM xs s h i (q + 1 - i) * ((q : Int) - i) ≤ raM xs s h i (q - i) * ((q : Int) + 1 - i)) from rfl)
            have hcast : ((q + 1 : Nat) : Int) = (q : Int) + 1 := by omega
            rw [hcast] at HR1
            clear hcast hxw
            generalize raM xs s h i (q + 1 - i) = r1 at hb1 HR1 HMB
            generalize raM xs s h i (q - i) = r2 at hb2 HR2 HMB
            have hm1 := mul_box3 hb1.1 hb1.2 (show (0 : Int) ≤ (q : Int) - i by omega) (show (q : Int) - i ≤ 8 by omega)
            have hm2 := mul_box3 hb2.1 hb2.2 (show (0 : Int) ≤ (q : Int) + 1 - i by omega) (show (q : Int) + 1 - i ≤ 8 by omega)
            have hqi : 0 ≤ (q : Int) - i := by omega
            have hqi2 : 0 ≤ (q : Int) + 1 - i := by omega
            have hql2 : (q : Int) < (len : Int) := by omega
            by_cases hle : r1 * ((q : Int) - i) ≤ r2 * ((q : Int) + 1 - i)
            · have HM3 := Lib.hid (show mup xs s h i (len - (q + 1)) (q + 1) = nx by rw [← HM2.out, HMB.out, decide_eq_true hle]; rfl)
              go_wp2_with fail
              refine HR1.out.mono ?_
              rintro e w' ⟨rfl, rfl⟩
              go_wp2_with fail
              refine HR2.out.mono ?_
              rintro e w' ⟨rfl, rfl⟩
              go_wp2_with fail
              go_round
              case rel => exact ⟨q + 1, by omega, by omega, by go_num, HM3.out⟩
              case measure => simp [intOf] <;> omega
            · have HQ := Lib.hid (show q = nx by rw [← HM2.out, HMB.out, decide_eq_false hle]; rfl)
              obtain ⟨bb, oo, hae, _, _⟩ := HXW.out.cells (by omega)
              obtain ⟨e1, f1⟩ := HC.out.cell hil
              have hne2 : ¬ cap = i := by omega
              have hiq : i ≤ q := by omega
              have hqc : q ≤ cap := by omega
              have hil3 : (i : Int) < (len : Int) := by omega
              subst hae
              have hpart := ints_part HXW.out i q (by omega) hq2
              have HNP2 := Lib.hid (show totalM ((xs.drop i).take (q - i)) = sumN xs nx - sumN xs i by rw [HQ.out]; exact HNP.out)
              go_wp2_with fail
              refine HR1.out.mono ?_
              rintro e w' ⟨rfl, rfl⟩
              go_wp2_with fail
              refine HR2.out.mono ?_
              rintro e w' ⟨rfl, rfl⟩
              go_wp2_with fail
              refine (specSum_any _ _ (q - i) (cap - i) _ wo hpart (fun y hy => days_mem HAT.out y (List.mem_of_mem_drop (List.mem_of_mem_take hy))) (by omega)).mono ?_
              rintro e w' ⟨rfl, rfl⟩
              rw [HNP2.out]
              go_wp2_with fail
              go_roundw
              case rel => exact ⟨q, hq2, fun hlt => by rw [HQ.out] at hlt ⊢; exact HNO.out hlt, rfl, by rw [HQ.out]; exact (HC.out.put i _).congr (fun z _ => HNX.out z)⟩
              case measure => simp [intOf] <;> omega
          · obtain rfl : q = len := by omega
            have HQ := Lib.hid (show q = nx by rw [← HM.out, Nat.sub_self]; rfl)
            obtain ⟨bb, oo, hae, _, _⟩ := HXW.out.cells (by omega)
            obtain ⟨e1, f1⟩ := HC.out.cell hil
            have hne2 : ¬ cap = i := by omega
            have hiq : i ≤ q := by omega
            have hqc : q ≤ cap := by omega
            have hil3 : (i : Int) < (q : Int) := by omega
            subst hae
            have hpart := ints_part HXW.out i q (by omega) hq2
            have HNP2 := Lib.hid (show totalM ((xs.drop i).take (q - i)) = sumN xs nx - sumN xs i by rw [HQ.out]; exact HNP.out)
            clear hxw
            go_wp2_with fail
            refine (specSum_any _ _ (q - i) (cap - i) _ wo hpart (fun y hy => days_mem HAT.out y (List.mem_of_mem_drop (List.mem_of_mem_take hy))) (by omega)).mono ?_
            rintro e w' ⟨rfl, rfl⟩
            rw [HNP2.out]
            go_wp2_with fail
            go_roundw
            case rel => exact ⟨q, hq2, fun hlt => absurd hlt (by omega), rfl, (HC.out.put i _).congr (fun z _ => by rw [HNX.out z, HQ.out])⟩
            case measure => simp [intOf] <;> omega
      · obtain rfl : i = len := by omega
        have HE := Lib.hid (show meanLotsM xs s h = tab (madeTo (nxM xs s h) xs i) i by
          unfold meanLotsM madeM
          rw [HL.out]
          exact tab_congr (fun q hq => by unfold madeTo; rw [if_pos hq]))
        go_wp2_with fail
        go_ret
        rw [HE.out]
        exact (HC.out.done (by omega)).ints
end Go.Proofs.Ytldncfkkeeinjac
