import Derived.Test.YthmlgicjedhgfabRows
import Derived.WalkKit
import Derived.LoopTactic
import Derived.Outline
import Derived.WalkSpells
import Derived.WalkLawsBesides
import Derived.ProofKit
import Derived.Lib.Hide
import Derived.IntWalk
import Derived.BigQuiet
import Derived.Test.YthmlgicjedhgfabM0
import Derived.Test.YthmlgicjedhgfabM1
import Derived.Test.YthmlgicjedhgfabM2
import Derived.Test.YthmlgicjedhgfabM8
import Derived.Test.YthmlgicjedhgfabM11
import Derived.Test.YthmlgicjedhgfabM6
import Derived.Deep.AppendLies
import Derived.StillTailTactics
import Derived.Test.YthmlgicjedhgfabM7
namespace Go.Proofs.Ythmlgicjedhgfab
open Go.RowKit Go.WideShapes

theorem Try.infoIntMt : (Try.prog.info? 3).map (fun i => (i.zero, i.size, i.bytes)) = some (some (.int .i64 0), 1, 8) := by kernel_rfl
theorem leftN_le {shop : List (List (List Int))} (hv : shopM shop = true) (nx : Nat → Nat) : ∀ n, leftN shop nx n ≤ 3 * n
  | 0 => Nat.le_refl _
  | n + 1 => by rw [leftN]; have := leftN_le hv nx n; have := slen_le hv n; omega
/-- the call's own block of ints beside another list of its own -/
def Nxt (w w1 wr : World) (len : Nat) (f : Nat → Int) : Prop :=
  wr.ownsRow w1.heap.size 3 1 (.slice (some ⟨w1.heap.size, 0, none⟩) len len) len ((tab f len).map (.int .i64)) ∧ Below w.heap.size w wr
theorem Nxt.cell {w w1 wr : World} {len q : Nat} {f : Nat → Int} (h : Nxt w w1 wr len f) (hq : q < len) : wr.cell? ⟨w1.heap.size, q, none⟩ = some (.int .i64 (f q)) ∧ wr.frozen? ⟨w1.heap.size, q, none⟩ = false := by
  refine ⟨?_, h.1.frozenAt q⟩
  rw [h.1.cellAt q (by simpa [tab_length] using hq), List.getElem?_map, tab_at f hq]; rfl
theorem Nxt.put {w w1 wr : World} {len : Nat} {f : Nat → Int} (h : Nxt w w1 wr len f) (hw : w.heap.size ≤ w1.heap.size) (k : Nat) (v : Int) : Nxt w w1 (wr.setCell ⟨w1.heap.size, k, none⟩ (.int .i64 v)) len (fun q => if q = k then v else f q) := by
  obtain ⟨h1, h2⟩ := h.1.stored k (.int .i64 v)
  refine ⟨?_, h.2.setCell hw _⟩
  rw [← tab_set, List.map_set]; exact h1
theorem Nxt.congr {w w1 wr : World} {len : Nat} {f g : Nat → Int} (h : Nxt w w1 wr len f) (e : ∀ q, q < len → f q = g q) : Nxt w w1 wr len g := ⟨by rw [← tab_congr e]; exact h.1, h.2⟩
theorem Nxt.drew {w w1 wr wz : World} {len : Nat} {f : Nat → Int} (h : Nxt w w1 wr len f) (d : Drew wr wz) : Nxt w w1 wz len f := by
  obtain ⟨n, rfl⟩ := d
  exact ⟨own_drewN h.1 n, h.2.trans (Drew.below (w := wr) (wr := wr.drewN n) ⟨n, rfl⟩ _)⟩
theorem Nxt.grown {w w1 wr wz : World} {len : Nat} {f : Nat → Int} {v : Value} (h : Nxt w w1 wr len f) (hg : wr.grownBy wz v.ownBlock) (hne : v.ownBlock ≠ some w1.heap.size) (hB : ∀ k, v.ownBlock = some k → w.heap.size ≤ k) : Nxt w w1 wz len f :=
  ⟨h.1.kept hg (.inr (fun e => hne e.symm)), h.2.trans ⟨hg.os, hg.tape, hg.output, hg.size, fun b hb => hg.block b (Nat.lt_of_lt_of_le hb h.2.size) (fun e => by have := hB b e.symm; omega)⟩⟩
set_option maxRecDepth 100000 in
set_option maxHeartbeats 8000000 in
theorem mostTurns_any (a : Option Addr) (len cap : Nat) (shop : List (List (List Int))) (w : World) (h : ShopAt w (· < w.heap.size) a len shop) :
    Calls Try.prog 25 #[.slice a len cap] w (NewInts w (mostRes shop)) := by
  go_enter Try.func25, Try.ntmps25
  go_wp2_with fail
  refine (validShop_any _ a len cap shop w h).mono ?_
  rintro e w' ⟨rfl, rfl⟩
  cases hv : shopM shop
  · go_wp2_with fail
    go_ret
    have e1 : mostRes shop = [] := by unfold mostRes; rw [hv]; rfl
    rw [e1]
    exact newInts_nil w
  · have HV := Lib.hid hv
    have HL := Lib.hid h.lenEq
    have hl3 : len ≤ 3 := by have := (shop_get hv).1; have := HL.out; omega
    obtain ⟨i0, hi, hz0, hz1, hz2⟩ := info_parts Try.infoIntMt
    have hmk := fun w => run_make_row' (P := Try.prog) 24 3 (.int .i64 0) 8 Try.underlying24 Try.infoIntMt rfl .i64 .i64 len (by omega) (by omega) w
    obtain ⟨w1, hw1⟩ : ∃ w1, w.alloc (.cells #[] 3) = w1 := ⟨_, rfl⟩
    have HSZ1 : Hid (w1.heap.size = w.heap.size + 1) := Lib.hid (by rw [← hw1]; simp)
    have HB1 : Hid (Below w.heap.size w w1) := Lib.hid (by rw [← hw1]; exact (Below.refl _ _).alloc (Nat.le_refl _) _)
    have h0r : w1.ownsRow w.heap.size 3 1 (.slice (some ⟨w.heap.size, 0, none⟩) 0 0) 0 (([] : List Int).map (.int .i64)) := by
      rw [← hw1]; exact World.ownsRow_made _ _ _ (Nat.le_refl _) (Nat.zero_le _) rfl
    have HR0 := Lib.hid (h0r.kept (World.grownBy_alloc w1 (.cells (madeCells #[.int .i64 0] len) 3) none) (by simp [Value.ownBlock]))
    have HO0 := Lib.hid ((OwnF.start w1 len (by omega)).congr (g := fun q => (((fun _ => 0 : Nat → Nat) q : Nat) : Int)) (fun q hq => rfl))
    have HN0 := Lib.hid (show Nxt w w1 _ len _ from ⟨HO0.out.own, HB1.out.trans (HO0.out.below.mono (by have := HSZ1.out; omega))⟩)
    have HW1 := Lib.hid hw1
    have hlt9 : leftN shop (fun _ => 0) len ≤ 9 := by have := leftN_le hv (fun _ => 0) len; omega
    have HLT := Lib.hid hlt9
    clear hv h0r hw1 hlt9
    go_wp2_with fail
    rw [HW1.out]
    clear hmk
    go_loopw [3] (fun v wr => ∃ (ts : List Nat) (f cp : Nat) (ax : Option Addr) (nx : Nat → Nat), v = .slice ax ts.length cp ∧ wr.ownsRow w.heap.size 3 1 v ts.length ((ts.map (fun q : Nat => (q : Int))).map (.int .i64)) ∧ v.ownBlock ≠ some w1.heap.size ∧
        Nxt w w1 wr len (fun q => (nx q : Nat)) ∧ ts ++ mostRun shop f nx = mostM shop ∧ leftN shop nx len ≤ f ∧ (∀ j, j < len → nx j ≤ slen shop j) ∧ ts.length + leftN shop nx len ≤ 9) (fun v _ => 9 - capOf v)
    case atStart => exact ⟨[], leftN shop (fun _ => 0) len, 0, _, fun _ => 0, rfl, HR0.out, by simp [Value.ownBlock]; have := HSZ1.out; omega, HN0.out, by unfold mostM; rw [HL.out]; rfl, Nat.le_refl _, fun _ _ => Nat.zero_le _, by have := HLT.out; simpa using this⟩
    case round =>
      clear HR0 HO0 HN0
      obtain ⟨ts, f, cp, ax, nx, rfl, hrow, hne, hC, hrun, hlf, hnx, hts⟩ := hrel
      obtain ⟨wo, rfl⟩ : ∃ wo : World, wo = wr := ⟨_, rfl⟩
      have HROW := Lib.hid hrow
      have HNE := Lib.hid hne
      have HC := Lib.hid hC
      have HRUN := Lib.hid hrun
      have HLF := Lib.hid hlf
      have HNX := Lib.hid hnx
      have HTS := Lib.hid hts
      clear hrow hne hC hrun hlf hnx hts
      have HS := Lib.hid (show ShopAt wo (· < w.heap.size) a len shop from h.below HC.out.2)
      go_wp2_with fail
      go_loopw [5, 6] (fun av jv wz => ∃ j : Nat, j ≤ len ∧ jv = .int .i64 j ∧ av = .int .i64 (atM shop nx j) ∧ Drew wo wz) (fun _ jv _ => len - (intOf jv).toNat)
      case atStart => exact ⟨0, Nat.zero_le _, rfl, rfl, Drew.refl _⟩
      case round =>
        obtain ⟨j, hj, rfl, rfl, hdw⟩ := hrel
        obtain ⟨wi, rfl⟩ : ∃ wi : World, wi = wr := ⟨_, rfl⟩
        have HDW := Lib.hid hdw
        clear hdw
        by_cases hlt : j < len
        · have e1 : wi.cell? ⟨w.heap.size + 1, j, none⟩ = some (.int .i64 ((nx j : Nat) : Int)) := by
            obtain ⟨z, rfl⟩ := HDW.out
            have := (HC.out.cell hlt).1
            rw [HSZ1.out] at this
            exact this
          obtain ⟨b, off, job, a', l, c, rfl, hx, hc, _, hr⟩ := (Drew.shop HS.out HDW.out).get hlt
          have hsl : slen shop j = l := by unfold slen; rw [List.getD_eq_getElem?_getD, hx]; exact hr.lenEq
          have hl3' : l ≤ 3 := by rw [← hsl]; exact slen_le HV.out j
          have HSL := Lib.hid hsl
          have HAT := Lib.hid (show atM shop nx (j + 1) = if nx j < slen shop j ∧ (atM shop nx j < 0 ∨ restW shop (atM shop nx j).toNat (nx (atM shop nx j).toNat) < restW shop j (nx j)) then (j : Int) else atM shop nx j from rfl)
          have HIS := Lib.hid (atM_is shop nx j)
          clear hx hr
          rw [hsl] at HAT
          have hjl : (j : Int) < (len : Int) := by omega
          have hnj : nx j ≤ 3 := by have := HNX.out j hlt; omega
          clear hsl
          by_cases hg : nx j < l
          · have hd : decide (((nx j : Nat) : Int) < (l : Int)) = true := decide_eq_true (by omega)
            rcases HIS.out with ⟨h1, h2⟩ | ⟨q, h1, h2, h3, h4⟩
            · have HA := Lib.hid (show atM shop nx (j + 1) = (j : Int) by rw [HAT.out, if_pos ⟨hg, .inl (by omega)⟩])
              rw [h1]
              clear h1 h2
              go_wp2_with fail
              go_quiet (fail)
              go_wp2
              go_roundw
              case rel => exact ⟨j + 1, by omega, by go_num, by rw [HA.out], HDW.out.drew _⟩
              case measure => simp [intOf] <;> omega
            · have hql : q < len := by omega
              have e2 : wi.cell? ⟨w.heap.size + 1, q, none⟩ = some (.int .i64 ((nx q : Nat) : Int)) := by
                obtain ⟨z, rfl⟩ := HDW.out
                have := (HC.out.cell hql).1
                rw [HSZ1.out] at this
                exact this
              have HWJ := Lib.hid (fun z => (workLeft_any _ _ len cap shop j (nx j) (wi.drewN z) (Drew.shop (Drew.shop HS.out HDW.out) ⟨z, rfl⟩) HV.out hlt (HNX.out j hlt)).mono (fun e w' he => (⟨he.1, 0, by rw [← he.2]; rfl⟩ : e = .returned (.int .i64 (restW shop j (nx j))) ∧ ∃ q, w' = (wi.drewN z).drewN q)))
              have HWQ := Lib.hid (fun z => (workLeft_any _ _ len cap shop q (nx q) (wi.drewN z) (Drew.shop (Drew.shop HS.out HDW.out) ⟨z, rfl⟩) HV.out hql (HNX.out q hql)).mono (fun e w' he => (⟨he.1, 0, by rw [← he.2]; rfl⟩ : e = .returned (.int .i64 (restW shop q (nx q))) ∧ ∃ q, w' = (wi.drewN z).drewN q)))
              rw [h1] at HAT ⊢
              rw [show ((q : Int)).toNat = q from rfl] at HAT
              have hql2 : (q : Int) < (len : Int) := by omega
              have hq0 : ¬ (q : Int) < 0 := by omega
              have hd0 : decide ((q : Int) < 0) = false := decide_eq_false hq0
              clear h1 h2 h3 h4
              obtain ⟨nj, hnje⟩ : ∃ nj, nx j = nj := ⟨_, rfl⟩
              obtain ⟨nq, hnqe⟩ : ∃ nq, nx q = nq := ⟨_, rfl⟩
              rw [hnje] at e1 hd hnj hg HAT HWJ
              rw [hnqe] at e2 HAT HWQ
              generalize hrj : restW shop j nj = rj at HAT HWJ
              generalize hrq : restW shop q nq = rq at HAT HWQ
              clear hnje hnqe hrj hrq
              by_cases hcmp : rq < rj
              · have HA := Lib.hid (show atM shop nx (j + 1) = (j : Int) by rw [HAT.out, if_pos ⟨hg, .inr hcmp⟩])
                have hdc : decide (rq < rj) = true := decide_eq_true hcmp
                go_wp2_with fail
                go_quiet (first | (go_at_call 45; with_reducible exact Calls.quiet_of (HWJ.out _)) | (go_at_call 45; with_reducible exact Calls.quiet_of (HWQ.out _)))
                go_wp2
                go_roundw
                case rel => exact ⟨j + 1, by omega, by go_num, by rw [HA.out], HDW.out.drew _⟩
                case measure => simp [intOf] <;> omega
              · have HA := Lib.hid (show atM shop nx (j + 1) = (q : Int) by rw [HAT.out, if_neg (fun hh => by rcases hh.2 with h | h; exact hq0 h; exact hcmp h)])
                have hdc : decide (rq < rj) = false := decide_eq_false hcmp
                go_wp2_with fail
                go_quiet (first | (go_at_call 45; with_reducible exact Calls.quiet_of (HWJ.out _)) | (go_at_call 45; with_reducible exact Calls.quiet_of (HWQ.out _)))
                go_wp2
                go_roundw
                case rel => exact ⟨j + 1, by omega, by go_num, by rw [HA.out], HDW.out.drew _⟩
                case measure => simp [intOf] <;> omega
          · have hd : decide (((nx j : Nat) : Int) < (l : Int)) = false := decide_eq_false (by omega)
            have HA := Lib.hid (show atM shop nx (j + 1) = atM shop nx j by rw [HAT.out, if_neg (fun hh => hg hh.1)])
            go_wp2_with fail
            go_quiet (fail)
            go_wp2
            go_roundw
            case rel => exact ⟨j + 1, by omega, by go_num, by rw [HA.out], HDW.out.drew _⟩
            case measure => simp [intOf] <;> omega
        · have hjl : len = j := by omega
          subst hjl
          have HROWI := Lib.hid (show wi.ownsRow w.heap.size 3 1 (.slice ax ts.length cp) ts.length ((ts.map (fun q : Nat => (q : Int))).map (.int .i64)) by obtain ⟨z, rfl⟩ := HDW.out; exact own_drewN HROW.out z)
          have HCI := Lib.hid (HC.out.drew HDW.out)
          have hkk : ¬ (len : Int) < (len : Int) := by omega
          rcases atM_is shop nx len with ⟨h1, h2⟩ | ⟨q, h1, h2, h3, h4⟩
          · have HE := Lib.hid (show ts = mostM shop by
              rw [← HRUN.out]
              cases f with
              | zero => simp [mostRun]
              | succ f => rw [mostRun, HL.out, h1, if_pos (by omega)]; simp)
            rw [h1]
            clear h1 h2
            go_wp2_with fail
            go_ret
            have hn := newInts_own HROWI.out HCI.out.2 (by have := HTS.out; omega)
            have e2 : mostRes shop = ts.map (fun q : Nat => (q : Int)) := by unfold mostRes; rw [HV.out, HE.out]; rfl
            rw [e2]
            exact hn
          · have hql : q < len := h2
            have HLP := Lib.hid (leftN_put h3 h2)
            have hf1 : 0 < f := by have := HLP.out; have := HLF.out; omega
            have HNE2 := Lib.hid (show mostRun shop f nx = q :: mostRun shop (f - 1) (setN nx q (nx q + 1)) by
              obtain ⟨f', rfl⟩ : ∃ f', f = f' + 1 := ⟨f - 1, by omega⟩
              rw [mostRun, HL.out, h1, if_neg (by omega)]; rfl)
            have HQS := Lib.hid h3
            have hq0 : ¬ (q : Int) < 0 := by omega
            have hql2 : (q : Int) < (len : Int) := by omega
            have hts8 : ts.length ≤ 8 := by have := HTS.out; have := HLP.out; omega
            have hnq3 : nx q ≤ 3 := by have := slen_le HV.out q; omega
            have HBK := Lib.hid (fun k (e : (Value.slice ax ts.length cp).ownBlock = some k) => (HROWI.out.lt k e).1)
            have HLTW := Lib.hid ((HCI.out.1.lt w1.heap.size rfl).2)
            have HWI := Lib.hid HCI.out.2.size
            rw [h1]
            clear h1 h2 h3 h4
            go_wp2_with (at_builtin; go_loud (refine wpList_append_lies _ rfl _ _ 24 rfl w.heap.size 3 i0 (.int .i64 0) 1 8 Try.underlying24 hi hz0 hz1 hz2 rfl (by decide) _ _ _ rfl (HROWI.out.kept (World.grownBy_alloc wi _ none) (by cases (Value.slice ax ts.length cp).ownBlock <;> simp)) ⟨wi.heap.size, 0, none⟩ 1 1 [.int .i64 (q : Int)] rfl rfl ?c1 ?c2 (by omega) ?c3 ?c4 ?c5 (wi.heap.size + 1) (by simp) ?_))
            case c2 => simp [Value.oneCell']
            case c3 => unfold maxLen; omega
            case c4 => omega
            case c5 => have := HWI.out; simp; omega
            intro g c6 w6 hown hgrow hat hlt6
            have hgr : wi.grownBy w6 (Value.slice ax ts.length cp).ownBlock := grown_comp (World.grownBy_alloc wi _ _) hgrow
            have HC6 := Lib.hid (HCI.out.grown hgr HNE.out HBK.out)
            have HNE6 := Lib.hid (show g ≠ w1.heap.size from fun e => by
              rcases hat with h | h
              · exact HNE.out (by rw [h, e])
              · have := HLTW.out; omega)
            have HO6 := Lib.hid hown
            clear hown hgrow hat hgr
            obtain ⟨e6, f6⟩ := HC6.out.cell hql
            rw [HSZ1.out] at e6 f6
            obtain ⟨nq, hnqe⟩ : ∃ nq, nx q = nq := ⟨_, rfl⟩
            rw [hnqe] at e6 hnq3
            have HNQ := Lib.hid hnqe
            clear hnqe
            have hP := ((HC6.out.put (by have := HSZ1.out; omega) q ((nq : Int) + 1)).congr (g := fun z => ((setN nx q (nx q + 1) z : Nat) : Int)) (fun z _ => by
              unfold setN; by_cases e : z = q
              · rw [if_pos e, if_pos e, HNQ.out]; rfl
              · rw [if_neg e, if_neg e]))
            have hK := HO6.out.kept (HC6.out.1.stored q (.int .i64 ((nq : Int) + 1))).2 (.inr (by simp [Value.ownBlock]; exact HNE6.out))
            rw [HSZ1.out] at hP hK
            have HP := Lib.hid hP
            have HK := Lib.hid hK
            clear hP hK
            go_wp2_with fail
            go_roundw
            case rel => exact ⟨ts ++ [q], f - 1, c6, some ⟨g, 0, none⟩, setN nx q (nx q + 1), by simp, by
                have e : (ts ++ [q]).length = ts.length + 1 := by simp
                rw [e, List.map_append, List.map_append, List.map_map]; exact HK.out, by simp [Value.ownBlock]; exact HNE6.out, HP.out, by rw [← HRUN.out, HNE2.out]; simp, by have := HLP.out; have := HLF.out; omega, fun j hj => by
                have := HNX.out j hj
                by_cases e : j = q
                · subst e; rw [setN_at]; have := HQS.out; omega
                · rw [setN_ne _ _ e]; exact this, by have := HLP.out; have := HTS.out; simp; omega⟩
            case measure => simp [capOf] <;> omega
end Go.Proofs.Ythmlgicjedhgfab
namespace Go.Proofs.Ythmlgicjedhgfab

-- plans of shops (plain): what was put to each machine last
def lastF (m : Nat → Nat → Nat) (s : (Nat → Nat) × (Nat → Option (Nat × Nat))) (j : Nat) : (Nat → Nat) × (Nat → Option (Nat × Nat)) :=
  (setN s.1 j (s.1 j + 1), setN s.2 (m j (s.1 j)) (some (j, s.1 j)))
def lastL (m : Nat → Nat → Nat) (l : List Nat) : Nat → Option (Nat × Nat) := (l.foldl (lastF m) (fun _ => 0, fun _ => none)).2
theorem lastF_cnt (m : Nat → Nat → Nat) : ∀ (l : List Nat) (s : (Nat → Nat) × (Nat → Option (Nat × Nat))) (j : Nat), (l.foldl (lastF m) s).1 j = s.1 j + l.count j
  | [], s, j => by simp
  | i :: l, s, j => by
    rw [List.foldl_cons, lastF_cnt m l, List.count_cons]
    show setN s.1 i (s.1 i + 1) j + _ = _
    by_cases e : j = i
    · subst e; rw [setN_at]; simp; omega
    · rw [setN_ne _ _ e]; simp [beq_eq_false_iff_ne.2 (fun h => e h.symm)]
theorem lastL_nil (m : Nat → Nat → Nat) (M : Nat) : lastL m [] M = none := rfl
theorem lastL_snoc (m : Nat → Nat → Nat) (l : List Nat) (j : Nat) : lastL m (l ++ [j]) = setN (lastL m l) (m j (l.count j)) (some (j, l.count j)) := by
  have e : (l.foldl (lastF m) (fun _ => 0, fun _ => none)).1 j = l.count j := by rw [lastF_cnt]; exact Nat.zero_add _
  unfold lastL
  rw [List.foldl_append]
  show setN (l.foldl (lastF m) (fun _ => 0, fun _ => none)).2 (m j ((l.foldl (lastF m) (fun _ => 0, fun _ => none)).1 j)) (some (j, (l.foldl (lastF m) (fun _ => 0, fun _ => none)).1 j)) = _
  rw [e]
def endV (p : Nat → Nat → Int) (b : Nat → Nat → Int) : Option (Nat × Nat) → Int
  | none => 0
  | some x => b x.1 x.2 + p x.1 x.2
def prevO (j k : Nat) : Option (Nat × Nat) := if k = 0 then none else some (j, k - 1)
theorem run_nx (m : Nat → Nat → Nat) (p : Nat → Nat → Int) (l : List Nat) (j : Nat) : (runS m p shop0 l).nx j = l.count j := by
  rw [runS_nx]; show 0 + _ = _; omega
theorem snoc_ind {α : Type} {P : List α → Prop} (h0 : P []) (h1 : ∀ l x, P l → P (l ++ [x])) (l : List α) : P l := by
  have key : ∀ r : List α, P r.reverse := by
    intro r
    induction r with
    | nil => exact h0
    | cons x r ih => rw [List.reverse_cons]; exact h1 _ _ ih
  have := key l.reverse
  rwa [List.reverse_reverse] at this
theorem count_snoc (l : List Nat) (i j : Nat) : (l ++ [i]).count j = if j = i then l.count j + 1 else l.count j := by
  rw [List.count_append]
  split
  · rename_i e; subst e; simp
  · rename_i e; rw [List.count_cons_of_ne (fun h => e h.symm)]; simp
theorem last_in (m : Nat → Nat → Nat) (l : List Nat) : ∀ M x, lastL m l M = some x → x.2 < l.count x.1 ∧ m x.1 x.2 = M := by
  refine snoc_ind (P := fun l => ∀ M x, lastL m l M = some x → x.2 < l.count x.1 ∧ m x.1 x.2 = M) (fun M x h => by rw [lastL_nil] at h; cases h) (fun l i ih M x h => ?_) l
  rw [lastL_snoc] at h
  by_cases e : M = m i (l.count i)
  · subst e
    rw [setN_at] at h
    cases h
    rw [count_snoc, if_pos rfl]
    exact ⟨Nat.lt_succ_self _, rfl⟩
  · rw [setN_ne _ _ e] at h
    obtain ⟨h1, h2⟩ := ih M x h
    refine ⟨?_, h2⟩
    rw [count_snoc]; split <;> omega
theorem turn_b (m : Nat → Nat → Nat) (p : Nat → Nat → Int) (s : ShopS) (i j k : Nat) (h : ¬ (j = i ∧ k = s.nx i)) : (turnS m p s i).b j k = s.b j k := by
  show setN s.b i (setN (s.b i) (s.nx i) (beginS m s i)) j k = _
  by_cases hi : j = i
  · subst hi
    rw [setN_at, setN_ne _ _ (fun e => h ⟨rfl, e⟩)]
  · rw [setN_ne _ _ hi]
theorem turn_b_at (m : Nat → Nat → Nat) (p : Nat → Nat → Int) (s : ShopS) (i : Nat) : (turnS m p s i).b i (s.nx i) = beginS m s i := by
  show setN s.b i (setN (s.b i) (s.nx i) (beginS m s i)) i (s.nx i) = _
  rw [setN_at, setN_at]
theorem last_fr (m : Nat → Nat → Nat) (p : Nat → Nat → Int) (l : List Nat) : ∀ M, (runS m p shop0 l).fr M = endV p (runS m p shop0 l).b (lastL m l M) := by
  refine snoc_ind (P := fun l => ∀ M, (runS m p shop0 l).fr M = endV p (runS m p shop0 l).b (lastL m l M)) (fun M => rfl) (fun l i ih M => ?_) l
  rw [runS_snoc, lastL_snoc]
  have hn := run_nx m p l i
  show setN (runS m p shop0 l).fr (m i ((runS m p shop0 l).nx i)) _ M = _
  rw [hn]
  by_cases e : M = m i (l.count i)
  · subst e
    rw [setN_at, setN_at]
    show _ = (turnS m p (runS m p shop0 l) i).b i (l.count i) + p i (l.count i)
    rw [← hn, turn_b_at]
  · rw [setN_ne _ _ e, setN_ne _ _ e, ih]
    cases hx : lastL m l M with
    | none => rfl
    | some x =>
      have := (last_in m l M x hx).1
      show _ = (turnS m p (runS m p shop0 l) i).b x.1 x.2 + p x.1 x.2
      rw [turn_b m p _ i x.1 x.2 (fun h => by rw [hn] at h; obtain ⟨h1, h2⟩ := h; rw [h1] at this; omega)]
      rfl
theorem last_rd (m : Nat → Nat → Nat) (p : Nat → Nat → Int) (l : List Nat) : ∀ j, (runS m p shop0 l).rd j = endV p (runS m p shop0 l).b (prevO j (l.count j)) := by
  refine snoc_ind (P := fun l => ∀ j, (runS m p shop0 l).rd j = endV p (runS m p shop0 l).b (prevO j (l.count j))) (fun j => rfl) (fun l i ih j => ?_) l
  rw [runS_snoc, count_snoc]
  have hn := run_nx m p l i
  show setN (runS m p shop0 l).rd i _ j = _
  by_cases e : j = i
  · subst e
    rw [setN_at, if_pos rfl]
    show _ = endV p (turnS m p (runS m p shop0 l) j).b (prevO j (l.count j + 1))
    unfold prevO
    rw [if_neg (by omega)]
    show _ = (turnS m p (runS m p shop0 l) j).b j (l.count j + 1 - 1) + p j (l.count j + 1 - 1)
    rw [Nat.add_sub_cancel, hn]
    conv => rhs; rw [← hn, turn_b_at]
    rw [hn]
  · rw [setN_ne _ _ e, if_neg e, ih]
    unfold prevO
    split
    · rfl
    · show (runS m p shop0 l).b j (l.count j - 1) + _ = (turnS m p (runS m p shop0 l) i).b j (l.count j - 1) + _
      rw [turn_b m p _ i j _ (fun h => e h.1)]
/-- all is done when each machine is -/
theorem last_all {m : Nat → Nat → Nat} {p : Nat → Nat → Int} (hp : ∀ j k, 0 ≤ p j k) (hm : ∀ j k, m j k < 3) (l : List Nat) :
    (runS m p shop0 l).all = max (max (max 0 (endV p (runS m p shop0 l).b (lastL m l 0))) (endV p (runS m p shop0 l).b (lastL m l 1))) (endV p (runS m p shop0 l).b (lastL m l 2)) := by
  rw [← last_fr, ← last_fr, ← last_fr]
  have h := runS_inv hp l shop0 (shop0_inv m p)
  have h0 := h.upF 0
  have h1 := h.upF 1
  have h2 := h.upF 2
  have hn := h.nn.1
  rcases h.is with e | ⟨j, k, hk, e⟩
  · omega
  · have hf := h.free j k hk
    have hmm := hm j k
    have : m j k = 0 ∨ m j k = 1 ∨ m j k = 2 := by omega
    rcases this with q | q | q <;> rw [q] at hf <;> omega
/-- a plan's memory: which steps were put, and when; what lay on a step's machine ahead of it -/
def OnOk (m : Nat → Nat → Nat) (l : List Nat) (on : Nat → Nat → Option (Nat × Nat)) : Prop := ∀ l1 j l2, l = l1 ++ j :: l2 → on j (l1.count j) = lastL m l1 (m j (l1.count j))
def BgOk (m : Nat → Nat → Nat) (p : Nat → Nat → Int) (l : List Nat) (bg : Nat → Nat → Int) : Prop := ∀ j k, k < l.count j → bg j k = (runS m p shop0 l).b j k
def set2 {α : Type} (f : Nat → Nat → α) (j k : Nat) (v : α) : Nat → Nat → α := setN f j (setN (f j) k v)
theorem set2_at {α : Type} (f : Nat → Nat → α) (j k : Nat) (v : α) : set2 f j k v j k = v := by unfold set2; rw [setN_at, setN_at]
theorem set2_ne {α : Type} (f : Nat → Nat → α) {j k j' k' : Nat} (v : α) (h : ¬ (j' = j ∧ k' = k)) : set2 f j k v j' k' = f j' k' := by
  unfold set2
  by_cases e : j' = j
  · subst e; rw [setN_at, setN_ne _ _ (fun e => h ⟨rfl, e⟩)]
  · rw [setN_ne _ _ e]
theorem onOk_nil (m : Nat → Nat → Nat) (on : Nat → Nat → Option (Nat × Nat)) : OnOk m [] on := fun l1 j l2 h => by simp at h
theorem bgOk_nil (m : Nat → Nat → Nat) (p : Nat → Nat → Int) (bg : Nat → Nat → Int) : BgOk m p [] bg := fun j k h => by simp at h
theorem onOk_snoc {m : Nat → Nat → Nat} {l : List Nat} {on : Nat → Nat → Option (Nat × Nat)} (h : OnOk m l on) (i : Nat) : OnOk m (l ++ [i]) (set2 on i (l.count i) (lastL m l (m i (l.count i)))) := by
  intro l1 j l2 e
  rcases List.eq_nil_or_concat l2 with rfl | ⟨l3, x, rfl⟩
  · obtain ⟨rfl, e2⟩ := List.append_inj' e rfl
    cases e2
    rw [set2_at]
  · rw [List.concat_eq_append, ← List.cons_append, ← List.append_assoc] at e
    obtain ⟨e1, e2⟩ := List.append_inj' e rfl
    rw [set2_ne]
    · exact h l1 j l3 e1
    · rintro ⟨rfl, hc⟩
      have := congrArg (List.count j) e1
      rw [List.count_append, List.count_cons_self] at this
      omega
theorem onOk_back {m : Nat → Nat → Nat} {l : List Nat} {on : Nat → Nat → Option (Nat × Nat)} {i : Nat} (h : OnOk m (l ++ [i]) on) : OnOk m l on ∧ on i (l.count i) = lastL m l (m i (l.count i)) :=
  ⟨fun l1 j l2 e => h l1 j (l2 ++ [i]) (by rw [e]; simp), h l i [] rfl⟩
theorem bgOk_snoc {m : Nat → Nat → Nat} {p : Nat → Nat → Int} {l : List Nat} {bg : Nat → Nat → Int} (h : BgOk m p l bg) (i : Nat) : BgOk m p (l ++ [i]) (set2 bg i (l.count i) (beginS m (runS m p shop0 l) i)) := by
  intro j k hk
  have hn := run_nx m p l i
  rw [runS_snoc]
  by_cases e : j = i ∧ k = l.count i
  · obtain ⟨rfl, rfl⟩ := e
    rw [set2_at]
    conv => rhs; rw [← hn, turn_b_at]
  · rw [set2_ne _ _ e, turn_b m p _ i j k (by rw [hn]; exact e)]
    refine h j k ?_
    rw [count_snoc] at hk
    split at hk
    · rename_i e2; subst e2
      have : k ≠ l.count j := fun h => e ⟨rfl, h⟩
      omega
    · exact hk
theorem bgOk_back {m : Nat → Nat → Nat} {p : Nat → Nat → Int} {l : List Nat} {bg : Nat → Nat → Int} {i : Nat} (h : BgOk m p (l ++ [i]) bg) : BgOk m p l bg := by
  intro j k hk
  rw [h j k (by rw [count_snoc]; split <;> omega), runS_snoc, turn_b]
  rw [run_nx]
  rintro ⟨rfl, rfl⟩
  omega
theorem last_back (m : Nat → Nat → Nat) (l : List Nat) (i : Nat) : setN (lastL m (l ++ [i])) (m i (l.count i)) (lastL m l (m i (l.count i))) = lastL m l := by
  funext M
  by_cases e : M = m i (l.count i)
  · rw [e, setN_at]
  · rw [setN_ne _ _ e, lastL_snoc, setN_ne _ _ e]
theorem endV_cong {m : Nat → Nat → Nat} {p : Nat → Nat → Int} {l : List Nat} {bg : Nat → Nat → Int} (h : BgOk m p l bg) (M : Nat) : endV p bg (lastL m l M) = endV p (runS m p shop0 l).b (lastL m l M) := by
  cases hx : lastL m l M with
  | none => rfl
  | some x => show bg x.1 x.2 + _ = _; rw [h x.1 x.2 (last_in m l M x hx).1]; rfl
theorem endV_prev {m : Nat → Nat → Nat} {p : Nat → Nat → Int} {l : List Nat} {bg : Nat → Nat → Int} (h : BgOk m p l bg) (j : Nat) : endV p bg (prevO j (l.count j)) = endV p (runS m p shop0 l).b (prevO j (l.count j)) := by
  unfold prevO
  split
  · rfl
  · show bg j (l.count j - 1) + _ = _; rw [h j _ (by omega)]; rfl
/-- when the next step of job j begins, by what is put -/
theorem begin_ends {m : Nat → Nat → Nat} {p : Nat → Nat → Int} {l : List Nat} {bg : Nat → Nat → Int} (h : BgOk m p l bg) (j : Nat) :
    max (endV p bg (prevO j (l.count j))) (endV p bg (lastL m l (m j (l.count j)))) = beginS m (runS m p shop0 l) j := by
  rw [endV_cong h, endV_prev h, ← last_fr, ← last_rd]
  unfold beginS
  rw [run_nx]
theorem ends_bd {m : Nat → Nat → Nat} {p : Nat → Nat → Int} (hp : ∀ j k, 0 ≤ p j k ∧ p j k ≤ 9) {l : List Nat} (hl : l.length ≤ 9) {bg : Nat → Nat → Int} (h : BgOk m p l bg) (j k : Nat) (hk : k < l.count j) : 0 ≤ bg j k ∧ bg j k ≤ 81 := by
  have hi := runS_inv (fun j k => (hp j k).1) l shop0 (shop0_inv m p)
  have hb := runS_bd (m := m) hp l
  rw [h j k hk]
  have h1 := hi.pos j k (by rw [run_nx]; exact hk)
  have h2 := hi.last j k (by rw [run_nx]; exact hk)
  have h3 := hi.upR j
  have h4 := hp j k
  omega
end Go.Proofs.Ythmlgicjedhgfab
