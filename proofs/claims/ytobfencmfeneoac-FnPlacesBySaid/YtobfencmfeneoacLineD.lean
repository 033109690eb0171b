import Derived.Test.YtobfencmfeneoacRows
import Derived.WalkKit
import Derived.LoopTactic
import Derived.Outline
import Derived.WalkSpells
import Derived.WalkLawsBesides
import Derived.ProofKit
import Derived.Lib.Hide
import Derived.IntWalk
import Derived.StillTail
import Derived.Deep.LoopGhost
import Derived.WalkMore
import Derived.StillTailTactics
import Derived.Test.YtobfencmfeneoacLib
import Derived.Test.YtobfencmfeneoacGen
import Derived.Test.YtobfencmfeneoacMark
import Derived.Test.YtobfencmfeneoacArr
import Derived.Test.YtobfencmfeneoacOwn1
import Derived.Test.YtobfencmfeneoacUp
import Derived.Test.YtobfencmfeneoacEx
import Derived.Test.YtobfencmfeneoacNetM
import Derived.Test.YtobfencmfeneoacBitOp
import Derived.Test.YtobfencmfeneoacTaskSpec
import Derived.Test.YtobfencmfeneoacLoadSpec
import Derived.Test.YtobfencmfeneoacFewSpec
import Derived.Test.YtobfencmfeneoacFewC
import Derived.Test.YtobfencmfeneoacLineA
import Derived.Test.YtobfencmfeneoacLineB
namespace Go.Proofs.Ytobfencmfeneoac
open Go.RowKit Go.WideShapes

/-- n ints in block b -/
def ArrN (w : World) (b n : Nat) (f : Nat → Int) : Prop := ∀ q, q < n → w.cell? ⟨b, q, none⟩ = some (.int .i64 (f q)) ∧ w.frozen? ⟨b, q, none⟩ = false
theorem ArrN.put {w : World} {b n : Nat} {f : Nat → Int} (h : ArrN w b n f) {k : Nat} (hk : k < n) (v : Int) : ArrN (w.setCell ⟨b, k, none⟩ (.int .i64 v)) b n (fun q => if q = k then v else f q) := by
  intro q hq
  obtain ⟨h1, h2⟩ := h q hq
  by_cases e : q = k
  · subst e
    exact ⟨by rw [World.cell?_setCell_same _ _ _ h1]; simp, by rw [World.frozen?_setCell]; exact h2⟩
  · exact ⟨by rw [World.cell?_setCell_other _ _ _ _ (by intro e'; injection e'; omega)]; simp [e, h1], by rw [World.frozen?_setCell]; exact h2⟩
theorem ArrN.congr {w : World} {b n : Nat} {f g : Nat → Int} (h : ArrN w b n f) (e : ∀ q, q < n → f q = g q) : ArrN w b n g := fun q hq => by rw [← e q hq]; exact h q hq
theorem ArrN.drew {w : World} {b n : Nat} {f : Nat → Int} (h : ArrN w b n f) : ArrN w.drew b n f := h
theorem ArrN.to {w w' : World} {b n : Nat} {f : Nat → Int} (h : ArrN w b n f) (e : w'.heap[b]? = w.heap[b]?) : ArrN w' b n f := fun q hq => by
  obtain ⟨h1, h2⟩ := h q hq
  exact ⟨by rw [World.cell?_of_block (w := w) e]; exact h1, by rw [World.frozen?_of_block (w := w) e]; exact h2⟩
theorem ArrN.new {w : World} {cs : Array Value} {t : TypeId} {n : Nat} {c : Int} (hcs : cs.toList = List.replicate n (.int .i64 c)) : ArrN (w.alloc (.cells cs t)) w.heap.size n (fun _ => c) := by
  intro q hq
  refine ⟨?_, World.frozen?_alloc_new w _ _ _⟩
  rw [World.cell?_alloc_new, ← Array.getElem?_toList, hcs, List.getElem?_replicate, if_pos hq]
/-- 64 zeros -/
def zero64 : Array Value := #[.int .i64 0, .int .i64 0, .int .i64 0, .int .i64 0, .int .i64 0, .int .i64 0, .int .i64 0, .int .i64 0, .int .i64 0, .int .i64 0, .int .i64 0, .int .i64 0, .int .i64 0, .int .i64 0, .int .i64 0, .int .i64 0, .int .i64 0, .int .i64 0, .int .i64 0, .int .i64 0, .int .i64 0, .int .i64 0, .int .i64 0, .int .i64 0, .int .i64 0, .int .i64 0, .int .i64 0, .int .i64 0, .int .i64 0, .int .i64 0, .int .i64 0, .int .i64 0, .int .i64 0, .int .i64 0, .int .i64 0, .int .i64 0, .int .i64 0, .int .i64 0, .int .i64 0, .int .i64 0, .int .i64 0, .int .i64 0, .int .i64 0, .int .i64 0, .int .i64 0, .int .i64 0, .int .i64 0, .int .i64 0, .int .i64 0, .int .i64 0, .int .i64 0, .int .i64 0, .int .i64 0, .int .i64 0, .int .i64 0, .int .i64 0, .int .i64 0, .int .i64 0, .int .i64 0, .int .i64 0, .int .i64 0, .int .i64 0, .int .i64 0, .int .i64 0]
theorem zero64_list : zero64.toList = List.replicate 64 (.int .i64 0) := rfl
set_option maxRecDepth 100000 in
set_option maxHeartbeats 8000000 in
theorem fewestBySets_any (a a2 : Option Addr) (len cap len2 cap2 : Nat) (T ys : List Int) (c : Int) (w : World) (hx : IntsAt w (· < w.heap.size) a len T) (hy : IntsAt w (· < w.heap.size) a2 len2 ys) (hv : lineP T ys c) :
    Calls Try.prog 34 #[.slice a len cap, .slice a2 len2 cap2, .int .i64 c] w (ValPost w (.int .i64 (fewM T (natsOf ys) c))) := by
  have HTL := Lib.hid hx.lenEq
  have HYL := Lib.hid hy.lenEq
  have hcb := lineP_c hv
  have hl6 : len ≤ 6 := by have := hv.2.1.2.2; have := HTL.out; omega
  have hle : len2 = len := by have := hv.2.1.2.1; have := HTL.out; have := HYL.out; omega
  subst hle
  have hA := natsOf_hA hv.2.1.1.2
  have HAL := Lib.hid (show (natsOf ys).length = len2 by rw [natsOf_len]; exact HYL.out)
  have HPI := Lib.hid hv.2.1.1.2
  have HTB := Lib.hid (tasks_at hv.2.1.1.1).1
  have HFB := Lib.hid (fun s (h : s < 64) => fewC_bd (T := T) (A := natsOf ys) (c := c) hA (by omega) hv.1 (s := s) h)
  have HRB := Lib.hid (fun s R (h : R ≤ 64) => runC_bd (T := T) (A := natsOf ys) (c := c) hA (by omega) hv.1 (s := s) R h)
  have HRA := Lib.hid (fun s (h : s < 64) hc => runC_all (T := T) (A := natsOf ys) (c := c) hA (by omega) hv.1 (s := s) h hc)
  have HFF := Lib.hid (fewC_full (T := T) (A := natsOf ys) (c := c) (by rw [natsOf_len]; exact hv.2.1.2.1) hA)
  rw [HTL.out] at HFF
  clear hv hA
  have hpb : 1 ≤ 2 ^ len2 ∧ 2 ^ len2 ≤ 64 := ⟨Nat.pow_pos (by omega), Nat.pow_le_pow_right (n := 2) (by omega) hl6⟩
  have HALL := Lib.hid (fun w => allOf_any len2 (by omega) w)
  obtain ⟨P, hPP⟩ : ∃ P, 2 ^ len2 = P := ⟨_, rfl⟩
  rw [hPP] at hpb HALL HFF
  clear hPP
  have hA0 := ArrN.new (w := w) (t := 49) zero64_list
  have hB0 := (Below.refl w.heap.size w).alloc (Nat.le_refl _) (.cells zero64 49)
  go_enter Try.func34, Try.ntmps34
  go_wp2
  go_step3
  go_wp2
  go_step3
  go_wp2_with fail
  change Calls _ _ _ (w.alloc (.cells zero64 49)) _
  generalize w.alloc (.cells zero64 49) = w0 at *
  have HA0 := Lib.hid hA0
  have HB0 := Lib.hid hB0
  clear hA0 hB0
  refine (HALL.out _).mono ?_
  rintro e w' ⟨rfl, rfl⟩
  have eP : ((P - 1 : Nat) : Int) + 1 = (P : Int) := by omega
  rw [show ((P - 1 : Nat) : Int) = (P : Int) - 1 by omega]
  go_wp2_with fail
  go_loopg [16] P (fun g s16 wr => ∃ (k : Nat) (f : Nat → Int), k + g = P ∧ s16 = .int .i64 k ∧ ArrN wr w.heap.size 64 f ∧ (∀ q, q < k → f q = fewC T (natsOf ys) c q) ∧ Below w.heap.size w wr)
  case atStart => exact ⟨0, _, by omega, rfl, HA0.out, fun q h => absurd h (by omega), HB0.out⟩
  case round =>
    clear HA0 HB0
    obtain ⟨k, f, hkg, rfl, hA, hf, hB⟩ := hrel
    cases gk with
    | zero =>
      obtain rfl : P = k := by omega
      obtain ⟨hcell, _⟩ := hA (P - 1) (by omega)
      have HV := Lib.hid (show f (P - 1) = fewM T (natsOf ys) c by rw [hf (P - 1) (by omega)]; exact HFF.out)
      have HB := Lib.hid hB
      have hi64 : ((P - 1 : Nat) : Int) < 64 := by omega
      have hi64' : P - 1 < 64 := by omega
      clear hA hf hB
      go_wp2_with fail
      refine (HALL.out _).mono ?_
      rintro e w' ⟨rfl, rfl⟩
      go_wp2_with fail
      try rw [Exit.noGoto_ret]
      go_ret
      exact ⟨ret_int HV.out, HB.out⟩
    | succ g =>
      have hkP : k < P := by omega
      have hkPi : (k : Int) < (P : Int) := by omega
      have hk64 : k < 64 := by omega
      have hk64i : (k : Int) < 64 := by omega
      have HA := Lib.hid hA
      have HF := Lib.hid hf
      have HB := Lib.hid hB
      clear hA hf hB
      go_wp2_with fail
      go_loopg [21] len2 (fun g2 s21 wy => ∃ j : Nat, j + g2 = len2 ∧ s21 = .int .i64 j ∧ cloM (natsOf ys) k j = true ∧ wr = wy)
      case atStart => exact ⟨0, by omega, rfl, rfl, rfl⟩
      case round =>
        obtain ⟨wi, rfl⟩ : ∃ wi : World, wi = wr := ⟨_, rfl⟩
        obtain ⟨j, hjg, rfl, hcl, rfl⟩ := hrel
        have HCL := Lib.hid hcl
        clear hcl
        cases gk with
        | zero =>
          obtain rfl : len2 = j := by omega
          have HN := Lib.hid (HRA.out k hk64 (by rw [HAL.out]; exact HCL.out))
          obtain ⟨hcell, hfrz⟩ := HA.out k hk64
          have hpop := popM_bd k
          have HP0 := Lib.hid (show popM k = runC T (natsOf ys) c k 0 from rfl)
          have HONE := Lib.hid (fun w => onesCount_any k hk64 w)
          generalize popM k = pk at *
          have hjl : ¬ (len2 : Int) < (len2 : Int) := by omega
          clear hjl
          have hjl : decide ((len2 : Int) < (len2 : Int)) = false := by simp
          go_wp2_with fail
          refine (HONE.out _).mono ?_
          rintro e w' ⟨rfl, rfl⟩
          go_wp2_with fail
          have HA1 := Lib.hid (HA.out.put hk64 pk)
          have HB1 := Lib.hid (HB.out.setCell (p := ⟨w.heap.size, k, none⟩) (Nat.le_refl _) (.int .i64 pk))
          generalize World.setCell _ _ _ = w1 at *
          clear hcell hfrz
          go_loopg [44] k (fun g3 s44 wz => ∃ (r : Nat) (f' : Nat → Int), r + g3 = k ∧ s44 = .int .i64 r ∧ ArrN wz w.heap.size 64 f' ∧ (∀ q, q < k → f' q = fewC T (natsOf ys) c q) ∧ f' k = runC T (natsOf ys) c k r ∧ Below w.heap.size w wz)
          case atStart => exact ⟨0, _, by omega, rfl, HA1.out, fun q hq => by rw [if_neg (by omega)]; exact HF.out q hq, by rw [if_pos rfl]; exact HP0.out, HB1.out⟩
          case round =>
            clear HA1 HB1
            obtain ⟨r, f', hrg, rfl, hA, hf, hfk, hB⟩ := hrel
            cases gk with
            | zero =>
              obtain rfl : k = r := by omega
              have hrl : decide ((k : Int) < (k : Int)) = false := by simp
              have HA2 := Lib.hid hA
              have HF2 := Lib.hid (show ∀ q, q < k + 1 → f' q = fewC T (natsOf ys) c q from fun q hq => by
                rcases Nat.lt_or_eq_of_le (Nat.le_of_lt_succ hq) with h | rfl
                · exact hf q h
                · rw [hfk]; exact HN.out)
              have HB2 := Lib.hid hB
              clear hA hf hfk hB
              go_wp2_with fail
              go_roundg g
              case measure => omega
              case rel => exact ⟨k + 1, f', by omega, by go_num, HA2.out, HF2.out, HB2.out⟩
            | succ g3 =>
              have hrk : r < k := by omega
              have hrki : (r : Int) < (k : Int) := by omega
              have hr64 : r < 64 := by omega
              have hr64i : (r : Int) < 64 := by omega
              obtain ⟨ck, zk⟩ := hA k hk64
              obtain ⟨cr, zr⟩ := hA r hr64
              rw [hfk] at ck
              rw [hf r hrk] at cr
              have hfb := HFB.out r hr64
              have hrb := HRB.out k r (by omega)
              have HRN := Lib.hid (show runC T (natsOf ys) c k (r + 1) = if okC T c k r then min (runC T (natsOf ys) c k r) (fewC T (natsOf ys) c r + 1) else runC T (natsOf ys) c k r from rfl)
              have HOK := Lib.hid (show okC T c k r ↔ dif r k = 0 ∧ csum T (fun i => (dif k r).testBit i) len2 ≤ c by unfold okC; rw [HTL.out])
              have EA := Lib.hid (i_not r k (by omega) (by omega))
              have EB := Lib.hid (i_not k r (by omega) (by omega))
              have hdl := dif_le k r
              have HTM := Lib.hid (fun w1 (h1 : IntsAt w1 (· < w.heap.size) a len2 T) => timeOf_any _ a len2 cap T (dif k r) w1 h1 HTB.out (by omega) (by omega))
              have hlb := csum_range HTB.out (fun i => (dif k r).testBit i) len2
              have HX1 := Lib.hid (hx.below hB)
              have HA2 := Lib.hid hA
              have HF2 := Lib.hid hf
              have HFK := Lib.hid hfk
              have HB2 := Lib.hid hB
              clear hA hf hfk hB
              generalize runC T (natsOf ys) c k r = rk at *
              generalize fewC T (natsOf ys) c r = fr at *
              generalize csum T (fun i => (dif k r).testBit i) len2 = L at *
              by_cases h1 : dif r k = 0
              · have e1 : (bits .andNot .i64 (r : Int) (k : Int) == 0) = true := by rw [EA.out, h1]; rfl
                by_cases h2 : L ≤ c
                · have HS := Lib.hid (HRN.out.trans (if_pos (HOK.out.mpr ⟨h1, h2⟩)))
                  clear h1
                  go_wp2_with fail
                  rw [EB.out]
                  refine (HTM.out _ HX1.out).mono ?_
                  rintro e w' ⟨rfl, rfl⟩
                  have hw1 : IntKind.i64.wrap (fr + 1) = fr + 1 := IntWalk.i64_in _ (by omega)
                  by_cases h3 : fr + 1 < rk
                  · have HS2 := Lib.hid (HS.out.trans (show min rk (fr + 1) = fr + 1 by omega))
                    go_wp2_with fail
                    go_still_tail 10, (by kernel_rfl)
                    go_wp2
                    go_roundg g3
                    case measure => omega
                    case rel => exact ⟨r + 1, _, by omega, by go_num, HA2.out.drew.put hk64 (fr + 1), fun q hq => by rw [if_neg (by omega)]; exact HF2.out q hq, by rw [if_pos rfl]; exact HS2.out.symm, HB2.out.drew.setCell (p := ⟨w.heap.size, k, none⟩) (Nat.le_refl _) _⟩
                  · have HS2 := Lib.hid (HS.out.trans (show min rk (fr + 1) = rk by omega))
                    go_wp2_with fail
                    go_still_tail 10, (by kernel_rfl)
                    go_wp2
                    go_roundg g3
                    case measure => omega
                    case rel => exact ⟨r + 1, _, by omega, by go_num, HA2.out.drew.put hk64 rk, fun q hq => by rw [if_neg (by omega)]; exact HF2.out q hq, by rw [if_pos rfl]; exact HS2.out.symm, HB2.out.drew.setCell (p := ⟨w.heap.size, k, none⟩) (Nat.le_refl _) _⟩
                · have HS := Lib.hid (HRN.out.trans (if_neg (fun h => h2 (HOK.out.mp h).2)))
                  clear h1
                  go_wp2_with fail
                  rw [EB.out]
                  refine (HTM.out _ HX1.out).mono ?_
                  rintro e w' ⟨rfl, rfl⟩
                  go_wp2_with fail
                  go_roundg g3
                  case measure => omega
                  case rel => exact ⟨r + 1, f', by omega, by go_num, HA2.out, HF2.out, by rw [HFK.out, HS.out], HB2.out⟩
              · have e1 : (bits .andNot .i64 (r : Int) (k : Int) == 0) = false := by rw [EA.out]; simp; omega
                have HS := Lib.hid (HRN.out.trans (if_neg (fun h => h1 (HOK.out.mp h).1)))
                clear h1
                go_wp2_with fail
                go_roundg g3
                case measure => omega
                case rel => exact ⟨r + 1, f', by omega, by go_num, HA2.out, HF2.out, by rw [HFK.out, HS.out], HB2.out⟩
        | succ g2 =>
          have hjl : j < len2 := by omega
          have hjli : (j : Int) < (len2 : Int) := by omega
          obtain ⟨b, off, y, rfl, hyy, hcy⟩ := (hy.below HB.out).get hjl
          have hye : y = (((natsOf ys).getD j 0 : Nat) : Int) := by rw [natsOf_get HPI.out (by rw [HYL.out]; exact hjl), getD_of hyy]
          subst hye
          have hab := natsOf_small HPI.out (i := j) (by omega)
          have HCS := Lib.hid (show cloM (natsOf ys) k (j + 1) = (cloM (natsOf ys) k j && (!k.testBit j || dif ((natsOf ys).getD j 0) k == 0)) from rfl)
          have HIN := Lib.hid (fun w => inSet_any k j (by omega) (by omega) w)
          clear hyy
          generalize (natsOf ys).getD j 0 = am at *
          have EA := Lib.hid (i_not am k (by omega) (by omega))
          cases hb : k.testBit j
          · have HC2 := Lib.hid (show cloM (natsOf ys) k (j + 1) = true by rw [HCS.out, HCL.out, hb]; rfl)
            go_wp2_with fail
            refine (HIN.out _).mono ?_
            rintro e w' ⟨rfl, rfl⟩
            rw [hb]
            go_wp2_with fail
            go_roundg g2
            case measure => omega
            case rel => exact ⟨j + 1, by omega, by go_num, HC2.out, rfl⟩
          · by_cases h1 : dif am k = 0
            · have e1 : (bits .andNot .i64 (am : Int) (k : Int) != 0) = false := by rw [EA.out, h1]; rfl
              have HC2 := Lib.hid (show cloM (natsOf ys) k (j + 1) = true by rw [HCS.out, HCL.out, hb, h1]; rfl)
              clear h1
              go_wp2_with fail
              refine (HIN.out _).mono ?_
              rintro e w' ⟨rfl, rfl⟩
              rw [hb]
              go_wp2_with fail
              go_roundg g2
              case measure => omega
              case rel => exact ⟨j + 1, by omega, by go_num, HC2.out, rfl⟩
            · have e1 : (bits .andNot .i64 (am : Int) (k : Int) != 0) = true := by rw [EA.out]; simp; omega
              have HC2 := Lib.hid (show cloM (natsOf ys) k (natsOf ys).length = false by
                cases hq : cloM (natsOf ys) k (natsOf ys).length
                · rfl
                · exfalso
                  have h2 := (cloM_iff _).mp hq j (by rw [HAL.out]; exact hjl) hb
                  have h3 := HCS.out
                  rw [hb, show (dif am k == 0) = false by simpa using h1] at h3
                  have h4 : cloM (natsOf ys) k (j + 1) = true := (cloM_iff _).mpr fun i hi => (cloM_iff _).mp hq i (by rw [HAL.out]; omega)
                  rw [h4] at h3; simp at h3)
              have HN := Lib.hid (show fewC T (natsOf ys) c k = 7 by unfold fewC; rw [HC2.out]; rfl)
              obtain ⟨ck, zk⟩ := HA.out k hk64
              clear h1
              go_wp2_with fail
              refine (HIN.out _).mono ?_
              rintro e w' ⟨rfl, rfl⟩
              rw [hb]
              go_wp2_with fail
              go_roundg g
              case measure => omega
              case rel => exact ⟨k + 1, _, by omega, by go_num, HA.out.put hk64 7, fun q hq => by
                rcases Nat.lt_or_eq_of_le (Nat.le_of_lt_succ hq) with h | rfl
                · rw [if_neg (by omega)]; exact HF.out q h
                · rw [if_pos rfl]; exact HN.out.symm, HB.out.setCell (p := ⟨w.heap.size, k, none⟩) (Nat.le_refl _) _⟩
end Go.Proofs.Ytobfencmfeneoac
