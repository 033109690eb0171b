import Derived.Test.YtjcbpnffmebihaaGreatDoorA39
import Derived.Test.YtjcbpnffmebihaaGreatDoorA40
import Derived.Deep.QuietTactic
import Derived.BigQuiet
import Derived.Test.YtjcbpnffmebihaaGreatDoorRows
import Derived.WalkKit
import Derived.LoopTactic
import Derived.Outline
import Derived.WalkSpells
import Derived.WalkLawsBesides
import Derived.ProofKit
import Derived.Lib.Hide
import Derived.IntWalk
set_option linter.unusedVariables false
set_option linter.unusedSimpArgs false
namespace Go.Proofs.YtjcbpnffmebihaaGreatDoor
open Go.RowKit Go.WideShapes

set_option maxHeartbeats 2000000 in
theorem placeOf_any (B n g m cp : Nat) (t v d : Nat → Int) (K : List Nat) (w : World) (hJ : JobsB w B n t v d) (hI : IntsAt w (· < w.heap.size) (some ⟨g, 0, none⟩) m (nI K)) (hK : ∀ y ∈ K, y < n) (hm : 1 ≤ m) (hm8 : m ≤ 9) (hn : n ≤ 8) :
    Calls Tryz.prog 116 #[.slice (some ⟨B, 0, none⟩) n n, .slice (some ⟨g, 0, none⟩) m cp] w fun e w' => e = .returned (.int .i64 ((bigAt t K m : Nat) : Int)) ∧ Drew w w' := by
  have HKL := Lib.hid (show K.length = m by have := hI.lenEq; rwa [nI_len] at this)
  have HI := Lib.hid hI
  have HJ := Lib.hid hJ
  have HK := Lib.hid hK
  clear hI hJ hK
  go_enter Tryz.func116, Tryz.ntmps116
  go_wp2_with fail
  go_loopw [5, 10] (fun s i wr => ∃ k : Nat, i = .int .i64 k ∧ k ≤ m ∧ s = .int .i64 ((bigAt t K k : Nat) : Int) ∧ Drew w wr) (fun _ i _ => m - (intOf i).toNat)
  case atStart => exact ⟨0, rfl, Nat.zero_le _, rfl, Drew.refl _⟩
  case round =>
    obtain ⟨k, rfl, hk, rfl, hdw⟩ := hrel
    obtain ⟨z, rfl⟩ := hdw
    by_cases hlt : k < m
    · have hbl : bigAt t K k < m := by
        rcases Nat.eq_zero_or_pos k with e | e
        · rw [e, bigAt]; omega
        · have := bigAt_lt t K k e; omega
      obtain ⟨bm, offm, e1, _, hcb⟩ := ints_at HI.out hbl
      cases e1
      rw [Nat.zero_add] at hcb
      obtain ⟨bk, offk, e2, _, hck⟩ := ints_at HI.out hlt
      cases e2
      rw [Nat.zero_add] at hck
      have hyb : K.getD (bigAt t K k) 0 < n := HK.out _ (getD_mem (by rw [HKL.out]; exact hbl))
      have hyk : K.getD k 0 < n := HK.out _ (getD_mem (by rw [HKL.out]; exact hlt))
      obtain ⟨g0, _, _⟩ := HJ.out.at hyb
      obtain ⟨k0, _, _⟩ := HJ.out.at hyk
      have HN := Lib.hid (show bigAt t K (k + 1) = if t (K.getD (bigAt t K k) 0) ≤ t (K.getD k 0) then k else bigAt t K k from rfl)
      have hkI : (k : Int) < (m : Int) := by omega
      have hbI : ((bigAt t K k : Nat) : Int) < (m : Int) := by omega
      have hybI : ((K.getD (bigAt t K k) 0 : Nat) : Int) < (n : Int) := by omega
      have hykI : ((K.getD k 0 : Nat) : Int) < (n : Int) := by omega
      generalize K.getD (bigAt t K k) 0 = yb at *
      generalize K.getD k 0 = yk at *
      generalize bigAt t K k = bk at *
      generalize t yb = tb' at *
      generalize t yk = tk' at *
      by_cases hle : tb' ≤ tk'
      · have HM := Lib.hid (HN.out.trans (if_pos hle))
        go_wp2_with fail
        go_quiet (fail)
        go_wp2_with fail
        go_roundw
        case rel => exact ⟨k + 1, by go_num, by omega, by rw [HM.out], ⟨_, rfl⟩⟩
        case measure => simp [intOf] <;> omega
      · have HM := Lib.hid (HN.out.trans (if_neg hle))
        go_wp2_with fail
        go_quiet (fail)
        go_wp2_with fail
        go_roundw
        case rel => exact ⟨k + 1, by go_num, by omega, by rw [HM.out], ⟨_, rfl⟩⟩
        case measure => simp [intOf] <;> omega
    · obtain rfl : k = m := by omega
      go_wp2_with fail
      go_ret
      exact ⟨rfl, ⟨_, rfl⟩⟩
theorem resC_own {w wr : World} {B k cp : Nat} {ax : Option Addr} {xs : List Int} (hB : w.heap.size ≤ B) (h : wr.ownsRow B 3 1 (.slice ax k cp) k (xs.map (.int .i64))) (hb : Below w.heap.size w wr) (hk : k ≤ 1048576) :
    ResPostC w xs (.returned (.slice ax k cp)) wr := by
  obtain ⟨ay, cy, hve, hcc, hints⟩ := own_ints h (by omega)
  simp only [Value.slice.injEq] at hve
  obtain ⟨rfl, _, rfl⟩ := hve
  refine ⟨_, _, _, rfl, hints.to (fun b hb => ⟨⟨Nat.le_trans hB hb.1, hb.2⟩, rfl⟩), ⟨by omega, fun h0 => ?_⟩, hcc, hb⟩
  obtain ⟨g, v, rfl, hg, hc, _⟩ := own_place h (j := 0) (by omega)
  refine ⟨g, 0, rfl, ⟨Nat.le_trans hB hg, World.block_lt_of_cell? wr _ hc⟩, fun i hi => ?_⟩
  obtain ⟨g', v', e, _, hc', hf'⟩ := own_place h (j := i) hi
  cases e
  rw [Nat.zero_add]
  exact ⟨⟨_, hc'⟩, hf'⟩
set_option maxRecDepth 100000 in
set_option maxHeartbeats 8000000 in
theorem keptOnTime_impl (a : Option Addr) (len cap : Nat) (rows : List (List Int)) (w : World) (h : RowsAt w (· < w.heap.size) a len rows) (hc : len ≤ cap) :
    Calls Tryz.prog 89 #[.slice a len cap] w (ResPostC w (keptRes rows)) := by
  have HL := Lib.hid h.lenEq
  have HD := Lib.hid (dueJobsOf_any a len cap rows w h hc)
  clear h
  cases hp : jobsM rows
  · have HR := Lib.hid (show keptRes rows = [] by unfold keptRes; rw [hp]; rfl)
    rw [HR.out]
    go_enter Tryz.func89, Tryz.ntmps89
    go_wp2_with fail
    refine HD.out.mono ?_
    rintro e w1 ⟨hb, ⟨_, rfl⟩ | ⟨hf, _⟩⟩
    · go_wp2_with fail
      go_ret
      exact resC_low hb (resPostC_nil _)
    · rw [hp] at hf; cases hf
  · have hl8 : len ≤ 8 := by have := (jobs_get hp).1; have := HL.out; omega
    have HBD := Lib.hid (fun q => j_bd hp q)
    have HJ := Lib.hid hp
    have HR := Lib.hid (show keptRes rows = nI (keptM rows len len) by unfold keptRes; rw [if_pos hp, HL.out])
    rw [HR.out]
    go_enter Tryz.func89, Tryz.ntmps89
    go_wp2_with fail
    refine HD.out.mono ?_
    rintro e w1 ⟨hb, ⟨hf, _⟩ | ⟨_, B, rfl, hB1, hB2, hJB⟩⟩
    · rw [hp] at hf; cases hf
    have HB := Lib.hid hb
    have HS := Lib.hid (orderByRule_any 115 _ (enters_of Tryz.func115 (by kernel_rfl) rfl) byDue_any B len _ _ _ w1 HBD.out hB2 hJB hl8)
    have HJB := Lib.hid hJB
    clear hJB hb hp
    go_wp2_with fail
    refine HS.out.mono ?_
    rintro e w2 ⟨b, rfl, hb1, hb2, hrow, hbb⟩
    have HROW := Lib.hid (show RowB w2 b (sortE (ahD (td rows)) len) from hrow)
    have HBB := Lib.hid (HB.out.trans (hbb.mono HB.out.size))
    have HJ2 := Lib.hid (HJB.out.block (hbb.block B hB2))
    have hB3 : B < w2.heap.size := Nat.lt_of_lt_of_le hB2 hbb.size
    have HSL := Lib.hid (sortE_len (ahD (td rows)) len)
    clear hrow hbb HS HB HD
    go_wp2_with fail
    go_loopw [5, 6, 20] (fun v t i wr => ∃ (j m cp : Nat) (ax : Option Addr), i = .int .i64 j ∧ j ≤ len ∧ v = .slice ax m cp ∧ (keptM rows len j).length = m ∧ wr.ownsRow w2.heap.size 3 1 v m ((nI (keptM rows len j)).map (.int .i64)) ∧ m ≤ cp ∧ t = .int .i64 (sumL (ta rows) (keptM rows len j)) ∧ Below w2.heap.size w2 wr) (fun _ _ i _ => len - (intOf i).toNat)
    case atStart => exact ⟨0, 0, 0, none, rfl, Nat.zero_le _, rfl, by simp [keptM, keepL], ⟨by simp [keptM, keepL, nI], .inl ⟨rfl, rfl⟩⟩, Nat.le_refl _, by simp [keptM, keepL, sumL], Below.refl _ _⟩
    case round =>
      obtain ⟨j, m, cp, ax, rfl, hj, rfl, hm, hown, hmc, rfl, hBw⟩ := hrel
      obtain ⟨wo, rfl⟩ : ∃ wo : World, wo = wr := ⟨_, rfl⟩
      have HOWN := Lib.hid hown
      have HBW := Lib.hid hBw
      have HM := Lib.hid hm
      have hmj : m ≤ j := by have := kept_len HJ.out (n := len) (j := j); omega
      have hm8 : m ≤ 8 := by omega
      clear hown hBw hm
      by_cases hlt : j < len
      · obtain ⟨x, hx⟩ : ∃ x, (sortE (ahD (td rows)) len).getD j 0 = x := ⟨_, rfl⟩
        have hcx := ((HROW.out.block (w' := wo) (HBW.out.block b hb2)).at (q := j) (by rw [HSL.out]; exact hlt)).1
        rw [hx] at hcx
        have hxs : (sortE (ahD (td rows)) len)[j]? = some x := by
          rw [← hx, List.getD_eq_getElem?_getD, List.getElem?_eq_getElem (by rw [HSL.out]; exact hlt)]; rfl
        have hxl : x < len := sortE_mem.1 (List.mem_of_getElem? hxs)
        have HKS := Lib.hid (keptM_succ hxs)
        have hjI : (j : Int) < (len : Int) := by omega
        have hxI : (x : Int) < (len : Int) := by omega
        clear hx hxs
        obtain ⟨K, hK⟩ : ∃ K, keptM rows len j = K := ⟨_, rfl⟩
        rw [hK] at HM HKS HOWN
        have HMem := Lib.hid (show ∀ y ∈ K, y < len from fun y hy => kept_mem HJ.out (by rw [hK]; exact hy))
        have hbk := sum_bd (fun x => (HBD.out x).1) K K.length
        rw [List.take_length, HM.out] at hbk
        rw [hK]
        clear hK
        go_wp2_with (at_builtin; refine wpApp1 rfl _ _ rfl w2.heap.size m cp ax (nI K) (x : Int) rfl HOWN.out rfl HBW.out.size (by omega) ?_)
        intro a7 c7 w7 hown7 hc7 hgr7
        have hb7 := HBW.out.grown hgr7 HBW.out.size (own_block HOWN.out)
        obtain ⟨M, hM⟩ : ∃ M, K ++ [x] = M := ⟨_, rfl⟩
        have hO7 := own_snoc hown7
        rw [show nI K ++ [(x : Int)] = nI M by rw [← hM, nI_append]; rfl] at hO7
        obtain ⟨g, vv, rfl, hg, hcg, _⟩ := own_place hO7 (j := 0) (by omega)
        have HO7 := Lib.hid hO7
        have HB7 := Lib.hid hb7
        have HML := Lib.hid (show M.length = m + 1 by rw [← hM, List.length_append, HM.out]; rfl)
        have HMS := Lib.hid (show sumL (ta rows) M = sumL (ta rows) K + ta rows x by rw [← hM, sumL_append, sumL, sumL, Int.add_zero])
        have HKM := Lib.hid (show keptM rows len (j + 1) = if sumL (ta rows) M ≤ td rows x then M else M.eraseIdx (bigAt (ta rows) M M.length) by rw [HKS.out, ← hM]; rfl)
        have HMM := Lib.hid (show ∀ y ∈ M, y < len from fun y hy => by
          rw [← hM] at hy
          rcases List.mem_append.1 hy with hy | hy
          · exact HMem.out y hy
          · simp only [List.mem_singleton] at hy; omega)
        have hgw : g < w7.heap.size := World.block_lt_of_cell? w7 _ hcg
        have hJ7 := HJ2.out.block (w' := w7) (hb7.block B hB3)
        have HJ7 := Lib.hid hJ7
        obtain ⟨g0, _, g2⟩ := hJ7.at hxl
        have htx := (HBD.out x).1
        have hdx := (HBD.out x).2.2
        clear hM hO7 hb7 hown7 hgr7 hcx hcg hJ7
        obtain ⟨sk, hsk⟩ : ∃ sk, sumL (ta rows) K = sk := ⟨_, rfl⟩
        rw [hsk] at hbk HMS ⊢
        obtain ⟨tx, htx'⟩ : ∃ tx, ta rows x = tx := ⟨_, rfl⟩
        rw [htx'] at g0 htx HMS
        obtain ⟨dx, hdx'⟩ : ∃ dx, td rows x = dx := ⟨_, rfl⟩
        rw [hdx'] at g2 hdx HKM
        rw [HMS.out] at HKM
        clear hsk htx' hdx'
        by_cases hle : sk + tx ≤ dx
        · have HK1 := Lib.hid (HKM.out.trans (if_pos hle))
          go_wp2_with fail
          go_roundw
          case rel => exact ⟨j + 1, m + 1, c7, _, by go_num, by omega, rfl, by rw [HK1.out]; exact HML.out, by rw [HK1.out]; exact HO7.out, hc7, by rw [HK1.out, HMS.out], HB7.out⟩
          case measure => simp [intOf] <;> omega
        · have HK2 := Lib.hid (HKM.out.trans (if_neg hle))
          rw [HML.out] at HK2
          have hbl := bigAt_lt (ta rows) M (m + 1) (by omega)
          have HPO := Lib.hid (placeOf_any B len g (m + 1) c7 (ta rows) (tb rows) (td rows) M w7 HJ7.out (own_at HO7.out (by omega)) HMM.out (by omega) (by omega) hl8)
          have hyb : M.getD (bigAt (ta rows) M (m + 1)) 0 < len := HMM.out _ (getD_mem (by rw [HML.out]; exact hbl))
          have HSE := Lib.hid (sumL_eraseIdx (f := ta rows) M (bigAt (ta rows) M (m + 1)) (by rw [HML.out]; exact hbl))
          obtain ⟨bm, offm, e1, _, hcb⟩ := ints_at (own_at HO7.out (by omega)) hbl
          cases e1
          rw [Nat.zero_add] at hcb
          have HEL := Lib.hid (show (M.eraseIdx (bigAt (ta rows) M (m + 1))).length = m by rw [List.length_eraseIdx, if_pos (by rw [HML.out]; exact hbl), HML.out]; rfl)
          have hty := (HBD.out (M.getD (bigAt (ta rows) M (m + 1)) 0)).1
          obtain ⟨y0, _, _⟩ := HJ7.out.at hyb
          have hybI : ((M.getD (bigAt (ta rows) M (m + 1)) 0 : Nat) : Int) < (len : Int) := by omega
          have HDE := Lib.hid (fun z => delete6_any w2.heap.size g (m + 1) c7 (bigAt (ta rows) M (m + 1)) (bigAt (ta rows) M (m + 1) + 1) rfl (nI M) (w7.drewN z) (own_drewN HO7.out z) hbl (by omega) hc7 hg)
          have HEI := Lib.hid (show (nI M).eraseIdx (bigAt (ta rows) M (m + 1)) = nI (M.eraseIdx (bigAt (ta rows) M (m + 1))) from map_erase _ M _)
          generalize M.getD (bigAt (ta rows) M (m + 1)) 0 = yb at *
          generalize bigAt (ta rows) M (m + 1) = bk at *
          generalize ta rows yb = ty at *
          have hbI : ((bk : Nat) : Int) < (m : Int) + 1 := by omega
          have hbI2 : ((bk : Nat) : Int) < ((m + 1 : Nat) : Int) := by omega
          rw [show ((bk + 1 : Nat) : Int) = (bk : Int) + 1 by omega] at HDE
          go_wp2_with fail
          refine HPO.out.mono ?_
          rintro e w' ⟨rfl, hdw⟩
          obtain ⟨z, rfl⟩ := hdw
          go_wp2_with fail
          refine (HDE.out z).mono ?_
          rintro e w8 ⟨rfl, ho8, hb8, _⟩
          rw [HEI.out] at ho8
          have HO8 := Lib.hid ho8
          have HB8 := Lib.hid ((below_drewN HB7.out z).trans hb8)
          clear ho8 hb8
          go_wp2_with fail
          go_roundw
          case rel => exact ⟨j + 1, m, c7, _, by go_num, by omega, rfl, by rw [HK2.out]; exact HEL.out, by rw [HK2.out]; exact HO8.out, by omega, by rw [HK2.out, HSE.out, HMS.out], HB8.out⟩
          case measure => simp [intOf] <;> omega
      · obtain rfl : j = len := by omega
        go_wp2_with fail
        go_ret
        exact resC_own (by have := HBB.out.size; omega) HOWN.out (HBB.out.trans (HBW.out.mono HBB.out.size)) (by omega)
end Go.Proofs.YtjcbpnffmebihaaGreatDoor
namespace Go.Proofs.YtjcbpnffmebihaaGreatDoor
open Go.RowKit Go.WideShapes

-- chapter 11's code: firstFor of listed cuts
theorem room_hasR {R y : Int} {L lf : List Int} {k : Nat} (hl : lf.length = L.length) (he : ∀ j, j < L.length → lf.getD j 0 = R - L.getD j 0) (hk : k = room lf y) : k ≤ L.length ∧ (∀ j, j < k → hasR R L j y = false) ∧ hasR R L k y = true := by
  subst hk
  have hle := room_le lf y
  refine ⟨by omega, fun j hj => ?_, ?_⟩
  · have h1 := room_lt hj
    rw [he j (by omega)] at h1
    unfold hasR
    rw [decide_eq_false (by omega), decide_eq_false (by omega)]; rfl
  · unfold hasR
    rcases Nat.lt_or_ge (room lf y) lf.length with g | g
    · have h1 := room_ge g
      rw [he _ (by omega)] at h1
      rw [decide_eq_true (p := y ≤ R - L.getD (room lf y) 0) (by omega), Bool.or_true]
    · rw [decide_eq_true (by omega)]; rfl
set_option maxRecDepth 100000 in
set_option maxHeartbeats 2000000 in
theorem firstForL_any {w : World} {B r : Nat} {R : Int} {v : Value} {vs : List Value} {rows : List (List (Int × Int))} {n : Nat} (h : RollsL w B r R v vs rows) (hok : RowsOk Prod.fst rows n) (hn : n ≤ 20) (hR : 0 ≤ R ∧ R ≤ 20) (y p : Int) {k : Nat} (hk : k ≤ rows.length) (h1 : ∀ j, j < k → hasR R (loadsOf Prod.fst rows) j y = false) (h2 : hasR R (loadsOf Prod.fst rows) k y = true) :
    Calls Tryz.prog 129 #[.pointer (some ⟨r, 0, none⟩), .agg #[.int .i64 y, .int .i64 p]] w fun e w' => e = .returned (.int .i64 k) ∧ Below w.heap.size w w' := by
  have HB0 := Lib.hid ((Below.refl w.heap.size w).alloc (Nat.le_refl _) (.cells #[.int .i64 y, .int .i64 p] 164))
  have HBX := Lib.hid (heap_alloc_new w (.cells #[.int .i64 y, .int .i64 p] 164))
  have hlen := hok.len
  have HRM := Lib.hid (fun (W : World) (hb : Below w.heap.size w W) (j : Nat) (hj : j ≤ rows.length) => hasRoomL_any (RollsW.keep (w' := W) h (fun b _ hb2 => hb.block b hb2)) hok hn hR hj y p)
  have H1 := Lib.hid h1
  have H2 := Lib.hid h2
  clear h hok h1 h2
  go_enter Tryz.func129, Tryz.ntmps129
  go_wp2_with fail
  go_loopw [5] (fun s wr => ∃ j : Nat, j ≤ k ∧ s = .int .i64 j ∧ Below (w.heap.size + 1) (w.alloc (.cells #[.int .i64 y, .int .i64 p] 164)) wr) (fun s _ => k + 1 - (intOf s).toNat)
  case atStart => exact ⟨0, Nat.zero_le _, rfl, Below.refl _ _⟩
  case round =>
    obtain ⟨j, hj, rfl, hbr⟩ := hrel
    have HBR := Lib.hid hbr
    have e0 : wr.cell? ⟨w.heap.size, 0, none⟩ = some (.int .i64 y) := (hbr.cell (p := ⟨w.heap.size, 0, none⟩) (by show w.heap.size < _; omega)).trans (by rw [cell_of_row _ _ _ _ _ _ HBX.out]; rfl)
    have e1 : wr.cell? ⟨w.heap.size, 1, none⟩ = some (.int .i64 p) := (hbr.cell (p := ⟨w.heap.size, 1, none⟩) (by show w.heap.size < _; omega)).trans (by rw [cell_of_row _ _ _ _ _ _ HBX.out]; rfl)
    have HC := Lib.hid (HRM.out wr (HB0.out.trans (hbr.mono (by omega))) j (by omega))
    have hsz := hbr.size
    have hsz2 : (w.alloc (.cells #[.int .i64 y, .int .i64 p] 164)).heap.size = w.heap.size + 1 := by simp
    have HSZ := Lib.hid (show w.heap.size + 1 ≤ wr.heap.size by omega)
    clear hbr hsz hsz2
    by_cases hlt : j < k
    · rw [H1.out j hlt] at HC
      go_wp2_with (first | (go_at_call 158; refine HC.out.mono ?_; rintro e w2 ⟨rfl, hb2⟩) | fail)
      have HB2 := Lib.hid (HBR.out.trans (hb2.mono HSZ.out))
      clear hb2 e0 e1
      go_roundw
      case rel => exact ⟨j + 1, by omega, by go_num, HB2.out⟩
      case measure => simp [intOf]; omega
    · obtain rfl : j = k := by omega
      rw [H2.out] at HC
      go_wp2_with (first | (go_at_call 158; refine HC.out.mono ?_; rintro e w2 ⟨rfl, hb2⟩) | fail)
      go_ret
      exact ⟨rfl, HB0.out.trans ((HBR.out.trans (hb2.mono HSZ.out)).mono (by omega))⟩
end Go.Proofs.YtjcbpnffmebihaaGreatDoor
namespace Go.Proofs.YtjcbpnffmebihaaGreatDoor
open Go.RowKit Go.WideShapes

-- chapter 11's code: RollsBy
theorem putL_putR {R x : Int} {lf L : List Int} (hl : lf.length = L.length) (he : ∀ j, j < L.length → lf.getD j 0 = R - L.getD j 0) : (putL R lf x).length = (putR L (room lf x) x).length ∧ ∀ j, j < (putR L (room lf x) x).length → (putL R lf x).getD j 0 = R - (putR L (room lf x) x).getD j 0 := by
  have hle := room_le lf x
  have h1 : (putL R lf x).length = (putR L (room lf x) x).length := by rw [putL_len, putR_len, hl]
  refine ⟨h1, fun j hj => ?_⟩
  rw [putL_getD R lf x (by omega)]
  rw [putR_len] at hj
  unfold putR
  by_cases e : room lf x = L.length
  · rw [if_pos e] at hj ⊢
    rw [getD_snocI]
    by_cases g : j < L.length
    · rw [if_pos (by omega), if_neg (by omega), if_pos g, he j g]; omega
    · rw [if_neg (by omega), if_pos (by omega), if_neg g, if_pos (by omega)]
  · rw [if_neg e] at hj ⊢
    rw [getD_setI (by omega), if_pos (by omega), he j hj]
    by_cases g : j = room lf x
    · rw [if_pos g, if_pos g, g]; omega
    · rw [if_neg g, if_neg g]; omega
/-- what holds behind t cuts: H: the world's size at the call's begin (the box lies at H, the answer behind it), b: where the cuts lie in their order, B: where the rolls' lists begin -/
structure RBy (w : World) (b B len : Nat) (R : Int) (T : Nat → Int) (l : List Nat) (t : Nat) (rows : List (List (Int × Int))) (wr : World) : Prop where
  below : Below w.heap.size w wr
  size : B ≤ wr.heap.size
  rolls : ∃ v vs, RollsL wr B w.heap.size R v vs rows
  ok : RowsOk Prod.fst rows t
  lens : (fitS T R (ordO l) t).1.length = rows.length
  left : ∀ j, j < rows.length → (fitS T R (ordO l) t).1.getD j 0 = R - (loadsOf Prod.fst rows).getD j 0
  pairs : PairB wr b T l
  row : wr.heap[w.heap.size + 1]? = some (.cells (tabV (fun i => .int .i64 ((fitS T R (ordO l) t).2 i : Nat)) len) 3 (0, 0))
set_option maxRecDepth 100000 in
set_option maxHeartbeats 4000000 in
theorem rollsBy_implC (a : Option Addr) (len cap : Nat) (xs : List Int) (R : Int) (kind : ByteArray) (w : World) (h : IntsAt w (· < w.heap.size) a len xs) :
    Calls Tryz.prog 96 #[.slice a len cap, .int .i64 R, .string kind] w (ResPostC w (rollRes xs R kind)) := by
  have HL := Lib.hid h.lenEq
  have HKD := Lib.hid (kindOf_any kind)
  cases hv : cutsM xs R
  · have HR := Lib.hid (show rollRes xs R kind = [] by unfold rollRes; rw [hv]; rfl)
    rw [HR.out]
    generalize kindO kind = o at HKD
    have HVJ := Lib.hid (vcutsI (cap := cap) hv w h)
    go_enter Tryz.func96, Tryz.ntmps96
    go_wp2_with (first | (go_at_call 127; refine (HKD.out _).mono ?_; rintro e w' ⟨rfl, rfl⟩) | fail)
    refine HVJ.out.mono ?_
    rintro e w' ⟨rfl, rfl⟩
    go_wp2_with fail
    go_ret
    exact resPostC_nil _
  · by_cases hk0 : kindO kind = 0
    · have HR := Lib.hid (show rollRes xs R kind = [] by
        unfold rollRes
        unfold kindO at hk0
        cases h1 : isFirst kind
        · cases h2 : isLong kind
          · simp
          · rw [h1, h2] at hk0; exact absurd hk0 (by decide)
        · rw [h1] at hk0; simp at hk0)
      rw [HR.out]
      rw [hk0] at HKD
      have HVJ := Lib.hid (vcutsI (cap := cap) hv w h)
      clear hk0
      go_enter Tryz.func96, Tryz.ntmps96
      go_wp2_with (first | (go_at_call 127; refine (HKD.out _).mono ?_; rintro e w' ⟨rfl, rfl⟩) | fail)
      refine HVJ.out.mono ?_
      rintro e w' ⟨rfl, rfl⟩
      go_wp2_with fail
      go_ret
      exact resPostC_nil _
    · have hkk : (isLong kind || isFirst kind) = true ∧ cutOrdO xs (kindO kind) = cutOrd xs kind ∧ (kindO kind = 1 ∨ kindO kind = 2) := by
        unfold kindO at hk0
        unfold kindO cutOrdO cutOrd
        cases h2 : isLong kind
        · cases h1 : isFirst kind
          · rw [h1, h2] at hk0; exact absurd rfl hk0
          · refine ⟨rfl, ?_, .inl rfl⟩
            simp
        · rw [long_not_first h2]
          exact ⟨rfl, rfl, .inr rfl⟩
      obtain ⟨hk1, hk2, hk3⟩ := hkk
      obtain ⟨hR1, hR2, hl7, hT⟩ := cuts_get hv
      have HR := Lib.hid (show rollRes xs R kind = tab (fun i => (rollP (lenT xs) R (cutOrd xs kind) len i : Int)) len by unfold rollRes; rw [hv, hk1, HL.out]; rfl)
      rw [HL.out] at hl7 hT
      have hperm := cutOrd_perm xs kind
      rw [HL.out] at hperm
      obtain ⟨o, ho⟩ : ∃ o, kindO kind = o := ⟨_, rfl⟩
      rw [ho] at HKD hk2 hk3 hk0
      have HCI := Lib.hid (fun (W : World) (hW : IntsAt W (· < W.heap.size) a len xs) => cutsIn_any a len cap xs o W hW hl7 (by omega))
      rw [hk2] at HCI
      obtain ⟨l, hl⟩ : ∃ l, cutOrd xs kind = l := ⟨_, rfl⟩
      rw [hl] at HCI hperm HR
      obtain ⟨T, hTT⟩ : ∃ T, lenT xs = T := ⟨_, rfl⟩
      rw [hTT] at HCI hT HR
      have HT := Lib.hid hT
      have HFH := Lib.hid (fun t (ht : t ≤ len) => fit_hi (T := T) (R := R) hT hperm ht)
      have HPL := Lib.hid (fun j (hj : j < len) => perm_lt hperm hj)
      have HPN := Lib.hid (show l.length = len by have := hperm.length_eq; simpa using this)
      have HVJ := Lib.hid (vcutsI (cap := cap) hv w h)
      have hmk := fun w => run_make_row' (P := Tryz.prog) 35 3 (.int .i64 0) 8 Tryz.underlying35 Tryz.infoIntO rfl .i64 .i64 len (by omega) (by omega) w
      obtain ⟨wb, hwb⟩ : ∃ wb, (w.alloc (.cells #[.int .i64 R, .slice none 0 0] 160)).alloc (.cells (madeCells #[.int .i64 0] len) 3) = wb := ⟨_, rfl⟩
      have hsb : wb.heap.size = w.heap.size + 2 := by rw [← hwb]; simp
      have hbb : Below w.heap.size w wb := by rw [← hwb]; exact ((Below.refl _ w).alloc (Nat.le_refl _) _).alloc (by simp) _
      have hbox : wb.heap[w.heap.size]? = some (.cells #[.int .i64 R, .slice none 0 0] 160 (0, 0)) := by
        rw [← hwb, Below.heap_alloc _ _ _ (by simp)]; exact heap_alloc_new w _
      have hrow : wb.heap[w.heap.size + 1]? = some (.cells (tabV (fun _ => .int .i64 0) len) 3 (0, 0)) := by
        rw [← made_tabP, ← hwb]
        have := heap_alloc_new (w.alloc (.cells #[.int .i64 R, .slice none 0 0] 160)) (.cells (madeCells #[.int .i64 0] len) 3)
        rwa [World.size_alloc] at this
      have HC1 := Lib.hid (HCI.out wb ((h.below hbb).to (fun k hk => ⟨by omega, rfl⟩)))
      have HWB := Lib.hid hwb
      have HSB := Lib.hid hsb
      have HBB := Lib.hid hbb
      have HBOX := Lib.hid hbox
      have HROW := Lib.hid hrow
      clear hv hT hperm hk1 hk2 hl hTT ho HCI h hwb hsb hbb hbox hrow
      go_enter Tryz.func96, Tryz.ntmps96
      go_wp2_with (first | (go_at_call 127; refine (HKD.out _).mono ?_; rintro e w' ⟨rfl, rfl⟩) | fail)
      refine HVJ.out.mono ?_
      rintro e w' ⟨rfl, rfl⟩
      go_wp2_with fail
      rw [HWB.out]
      refine HC1.out.mono ?_
      rintro e w2 ⟨b, rfl, hb1, hb2, hpairs, hbl2⟩
      have hs2 := hbl2.size
      have hsb := HSB.out
      have HST := Lib.hid (show RBy w' b w2.heap.size len R T l 0 [] w2 from
        ⟨HBB.out.trans (hbl2.mono (by omega)), Nat.le_refl _, ⟨.slice none 0 0, [], (hbl2.block _ (by omega)).trans HBOX.out, World.ownsRow_nil _ _ _ _, fun i u hu => by simp at hu, fun i j u u' hu => by simp at hu⟩,
          RowsOk.nil, rfl, fun j hj => by simp at hj, hpairs, by rw [hbl2.block _ (by omega)]; exact HROW.out⟩)
      have hbB : b < w2.heap.size := hb2
      have hB2 : w'.heap.size + 2 ≤ w2.heap.size := by omega
      have hbw : w'.heap.size + 2 ≤ b := by omega
      clear hb1 hb2 hpairs hbl2 hs2 hsb HWB HSB HBB HBOX HROW HC1 HVJ HKD hmk
      go_wp2_with fail
      go_loopw [32] (fun i wr => ∃ t : Nat, t ≤ len ∧ i = .int .i64 t ∧ ∃ rows, RBy w' b w2.heap.size len R T l t rows wr) (fun i _ => len - (intOf i).toNat)
      case atStart => exact ⟨0, Nat.zero_le _, rfl, [], HST.out⟩
      case round =>
        clear HST
        obtain ⟨t, ht, rfl, rows, hrb⟩ := hrel
        obtain ⟨wo, rfl⟩ : ∃ wo : World, wo = wr := ⟨_, rfl⟩
        have HRB := Lib.hid hrb
        by_cases hlt : t < len
        · have htI : (t : Int) < (len : Int) := by omega
          obtain ⟨v, vs, hrolls⟩ := hrb.rolls
          obtain ⟨⟨c0, c1⟩, _⟩ := hrb.pairs.at (q := t) (by rw [HPN.out]; exact hlt)
          have hzl : l.getD t 0 < len := HPL.out t hlt
          have hfh := (HFH.out t (by omega)).1
          obtain ⟨z, hz⟩ : ∃ z, l.getD t 0 = z := ⟨_, rfl⟩
          rw [hz] at c0 c1 hzl
          have hxb := HT.out z hzl
          obtain ⟨x, hx⟩ : ∃ x, T z = x := ⟨_, rfl⟩
          rw [hx] at c0 hxb
          have HXZ := Lib.hid (show T (ordO l t) = x by rw [← hx, ← hz]; rfl)
          have HOZ := Lib.hid (show ordO l t = z from hz)
          have hla : ∀ q, q < wo.heap.size → (wo.alloc (.cells #[.int .i64 x, .int .i64 (z : Int)] 164)).heap[q]? = wo.heap[q]? := fun q hq => Below.heap_alloc _ _ _ hq
          have hra : RollsL (wo.alloc (.cells #[.int .i64 x, .int .i64 (z : Int)] 164)) w2.heap.size w'.heap.size R v vs rows := RollsW.keep hrolls (fun q _ hq => hla q hq)
          obtain ⟨k, hk⟩ : ∃ k, room (fitS T R (ordO l) t).1 x = k := ⟨_, rfl⟩
          obtain ⟨r1, r2, r3⟩ := room_hasR (R := R) (y := x) (L := loadsOf Prod.fst rows) (lf := (fitS T R (ordO l) t).1) (by rw [loads_len]; exact hrb.lens) (fun j hj => hrb.left j (by rw [loads_len] at hj; exact hj)) hk.symm
          rw [loads_len] at r1
          have HFF := Lib.hid (firstForL_any hra hrb.ok (by omega) ⟨by omega, hR2⟩ x (z : Int) r1 r2 r3)
          have hnb := heap_alloc_new wo (.cells #[.int .i64 x, .int .i64 (z : Int)] 164)
          have HK := Lib.hid hk
          have HNB := Lib.hid hnb
          have HRA := Lib.hid hra
          have HVB := Lib.hid (show ∀ q, v.ownBlock = some q → w2.heap.size ≤ q ∧ q < wo.heap.size from fun q e => hrolls.outer.lt q e)
          have HUB := Lib.hid (show ∀ (i q : Nat) (u : Value), vs[i]? = some u → u.ownBlock = some q → w2.heap.size ≤ q ∧ q < wo.heap.size from fun i q u hu e => (hrolls.row i u hu).lt q e)
          have hsza : (wo.alloc (.cells #[.int .i64 x, .int .i64 (z : Int)] 164)).heap.size = wo.heap.size + 1 := by simp
          have HSA := Lib.hid hsza
          have HCUT := Lib.hid (fun (w3 : World) (hb3 : Below (wo.alloc (.cells #[.int .i64 x, .int .i64 (z : Int)] 164)).heap.size (wo.alloc (.cells #[.int .i64 x, .int .i64 (z : Int)] 164)) w3) =>
            cutL_any (fun q => q = w'.heap.size ∨ v.ownBlock = some q ∨ ∃ (i : Nat) (u : Value), vs[i]? = some u ∧ u.ownBlock = some q) (.inl rfl) (fun q e => .inr (.inl e)) (fun i q u hu e => .inr (.inr ⟨i, u, hu, e⟩))
              (RollsW.keep HRA.out (fun q _ hq => hb3.block q hq)) (by have := hb3.size; have := HRB.out.size; have := HSA.out; omega) HRB.out.ok (by omega) r1 x (z : Int))
          have hzI : (z : Int) < (len : Int) := by omega
          clear hrb hrolls hz hx hla hra hk r2 r3 hnb hsza
          go_wp2_with fail
          refine HFF.out.mono ?_
          rintro e w3 ⟨rfl, hb3⟩
          have hn3 : w3.heap[wo.heap.size]? = some (.cells #[.int .i64 x, .int .i64 (z : Int)] 164 (0, 0)) := (hb3.block _ (by have := HSA.out; omega)).trans HNB.out
          have d0 : w3.cell? ⟨wo.heap.size, 0, none⟩ = some (.int .i64 x) := by rw [cell_of_row _ _ _ _ _ _ hn3]; rfl
          have d1 : w3.cell? ⟨wo.heap.size, 1, none⟩ = some (.int .i64 (z : Int)) := by rw [cell_of_row _ _ _ _ _ _ hn3]; rfl
          have HC3 := Lib.hid (HCUT.out w3 hb3)
          have HB3 := Lib.hid hb3
          have HN3 := Lib.hid hn3
          clear hb3 hn3
          go_wp2_with fail
          refine HC3.out.mono ?_
          rintro e w4 ⟨rfl, v4, vs4, hr4, hq4⟩
          have hs3 := HB3.out.size
          have hsa := HSA.out
          have hsz0 := HRB.out.size
          have old : ∀ q, q < wo.heap.size → q ≠ w'.heap.size → q < w2.heap.size → w4.heap[q]? = wo.heap[q]? := fun q hq hr hqb => by
            rw [hq4.block q (by omega) (fun e => ?_), HB3.out.block q (by omega), Below.heap_alloc _ _ _ hq]
            rcases e with e | e | ⟨i, u, hu, e⟩
            · exact hr e
            · have := (HVB.out q e).1; omega
            · have := (HUB.out i q u hu e).1; omega
          have hn4 : w4.heap[wo.heap.size]? = some (.cells #[.int .i64 x, .int .i64 (z : Int)] 164 (0, 0)) := by
            rw [hq4.block _ (by omega) (fun e => ?_)]
            · exact HN3.out
            · rcases e with e | e | ⟨i, u, hu, e⟩
              · omega
              · have := (HVB.out _ e).2; omega
              · have := (HUB.out i _ u hu e).2; omega
          have e1 : w4.cell? ⟨wo.heap.size, 1, none⟩ = some (.int .i64 (z : Int)) := by rw [cell_of_row _ _ _ _ _ _ hn4]; rfl
          have hrow4 := (old (w'.heap.size + 1) (by omega) (by omega) (by omega)).trans HRB.out.row
          have g1 : w4.cell? ⟨w'.heap.size + 1, z, none⟩ = some (.int .i64 ((fitS T R (ordO l) t).2 z : Nat)) := by rw [cell_of_row _ _ _ _ _ _ hrow4, tabV_get _ hzl]
          have f1 := frozen_row hrow4 z
          have hpl := putL_putR (R := R) (x := x) (L := loadsOf Prod.fst rows) (lf := (fitS T R (ordO l) t).1) (by rw [loads_len]; exact HRB.out.lens) (fun j hj => HRB.out.left j (by rw [loads_len] at hj; exact hj))
          rw [HK.out] at hpl
          have hnext : RBy w' b w2.heap.size len R T l (t + 1) (putRow rows k (x, (z : Int))) (w4.setCell ⟨w'.heap.size + 1, z, none⟩ (.int .i64 (k : Int))) := by
            have hf1 : (fitS T R (ordO l) (t + 1)).1 = putL R (fitS T R (ordO l) t).1 x := by show putL R _ (T (ordO l t)) = _; rw [HXZ.out]
            have hf2 : ∀ i, (fitS T R (ordO l) (t + 1)).2 i = if i = z then k else (fitS T R (ordO l) t).2 i := fun i => by
              show (if i = ordO l t then room (fitS T R (ordO l) t).1 (T (ordO l t)) else (fitS T R (ordO l) t).2 i) = _
              rw [HXZ.out, HOZ.out, HK.out]
            have hlp : loadsOf Prod.fst (putRow rows k (x, (z : Int))) = putR (loadsOf Prod.fst rows) k x := loads_put _
            refine ⟨?_, ?_, ⟨v4, vs4, RollsW.keep hr4 (fun q hq hq2 => heap_set_ne (by rcases hq with g | g <;> omega) _)⟩, HRB.out.ok.put r1 ⟨by dsimp only; omega, by dsimp only; omega⟩, ?_, fun j hj => ?_, ?_, ?_⟩
            · refine Below.setCell ⟨hq4.os.trans (HB3.out.os.trans HRB.out.below.os), hq4.tape.trans (HB3.out.tape.trans HRB.out.below.tape), hq4.output.trans (HB3.out.output.trans HRB.out.below.output), ?_, fun q hq => ?_⟩ (p := ⟨w'.heap.size + 1, z, none⟩) (by show w'.heap.size ≤ w'.heap.size + 1; omega) _
              · have := hq4.size; have := HRB.out.below.size; omega
              · have := HRB.out.below.size
                rw [old q (by omega) (by omega) (by omega)]; exact HRB.out.below.block q hq
            · have := hq4.size
              show w2.heap.size ≤ (w4.setCell _ _).heap.size
              rw [World.size_setCell]; omega
            · rw [hf1, hpl.1, ← hlp, loads_len]
            · rw [hf1, hlp]
              refine hpl.2 j ?_
              rw [← loads_len (f := Prod.fst) (rows := putRow rows k (x, (z : Int))), hlp] at hj
              exact hj
            · exact HRB.out.pairs.block ((heap_set_ne (by omega) _).trans (old b (by omega) (by omega) hbB))
            · rw [heap_set hrow4, tabV_set]
              congr 2
              refine tabV_congr fun i hi => ?_
              rw [hf2]
              unfold setN
              split <;> rfl
          have HNX := Lib.hid hnext
          clear hr4 hq4 old hn4 hrow4 hpl hnext d0 d1 hs3 hsa hsz0 HFF HC3 HCUT HRA HB3 HN3
          go_wp2_with fail
          go_roundw
          case rel => exact ⟨t + 1, by omega, by go_num, _, HNX.out⟩
          case measure => simp [intOf]; omega
        · obtain rfl : t = len := by omega
          have htI : ¬ (t : Int) < (t : Int) := by omega
          clear hrb
          go_wp2_with fail
          go_ret
          refine ⟨_, t, t, rfl, ?_, ?_, Nat.le_refl _, HRB.out.below⟩
          · rw [HR.out]
            refine ⟨by simp [tab], by omega, fun _ => ⟨w'.heap.size + 1, 0, rfl, ⟨by omega, lt_heap HRB.out.row⟩, fun i x hx => ?_⟩⟩
            obtain ⟨rfl, hi⟩ := tab_get hx
            rw [Nat.zero_add, cell_of_row _ _ _ _ _ _ HRB.out.row, tabV_get _ hi]
            rfl
          · exact ⟨by omega, fun _ => ⟨w'.heap.size + 1, 0, rfl, ⟨by omega, lt_heap HRB.out.row⟩, fun i hi => ⟨⟨_, by rw [Nat.zero_add, cell_of_row _ _ _ _ _ _ HRB.out.row, tabV_get _ hi]⟩, frozen_row HRB.out.row _⟩⟩⟩
theorem rollsBy_impl (a : Option Addr) (len cap : Nat) (xs : List Int) (R : Int) (kind : ByteArray) (w : World) (h : IntsAt w (· < w.heap.size) a len xs) :
    Calls Tryz.prog 96 #[.slice a len cap, .int .i64 R, .string kind] w (NewInts w (rollRes xs R kind)) :=
  (rollsBy_implC a len cap xs R kind w h).mono fun _ _ ⟨a, l, c, h1, h2, _, h4, h5⟩ => ⟨a, l, c, h1, h2, h4, h5⟩
end Go.Proofs.YtjcbpnffmebihaaGreatDoor
