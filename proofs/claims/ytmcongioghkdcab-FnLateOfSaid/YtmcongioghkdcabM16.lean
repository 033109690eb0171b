import Derived.Test.YtmcongioghkdcabM15
import Derived.Test.YtmcongioghkdcabM10
import Derived.Deep.QuietTactic
import Derived.BigQuiet
import Derived.Test.YtmcongioghkdcabRows
import Derived.WalkKit
import Derived.ProofKit
import Derived.Test.YtmcongioghkdcabM0
import Derived.Test.YtmcongioghkdcabM2
import Derived.Test.YtmcongioghkdcabM1
import Derived.Test.YtmcongioghkdcabM8
import Derived.Test.YtmcongioghkdcabM9
import Derived.Test.YtmcongioghkdcabM11
import Derived.Test.YtmcongioghkdcabM13
import Derived.WalkSpells
import Derived.WalkLawsBesides
import Derived.LoopTactic
import Derived.Outline
import Derived.Test.YtmcongioghkdcabM3
namespace Go.Proofs.Ytmcongioghkdcab
open Go.RowKit Go.WideShapes

set_option maxHeartbeats 2000000 in
theorem placeOf_any (B n g m cp : Nat) (t v d : Nat → Int) (K : List Nat) (w : World) (hJ : JobsB w B n t v d) (hI : IntsAt w (· < w.heap.size) (some ⟨g, 0, none⟩) m (nI K)) (hK : ∀ y ∈ K, y < n) (hm : 1 ≤ m) (hm8 : m ≤ 9) (hn : n ≤ 8) :
    Calls Try.prog 35 #[.slice (some ⟨B, 0, none⟩) n n, .slice (some ⟨g, 0, none⟩) m cp] w fun e w' => e = .returned (.int .i64 ((bigAt t K m : Nat) : Int)) ∧ Drew w w' := by
  have HKL := Lib.hid (show K.length = m by have := hI.lenEq; rwa [nI_len] at this)
  have HI := Lib.hid hI
  have HJ := Lib.hid hJ
  have HK := Lib.hid hK
  clear hI hJ hK
  go_enter Try.func35, Try.ntmps35
  go_wp2_with fail
  go_loopw [5, 10] (fun s i wr => ∃ k : Nat, i = .int .i64 k ∧ k ≤ m ∧ s = .int .i64 ((bigAt t K k : Nat) : Int) ∧ Drew w wr) (fun _ i _ => m - (intOf i).toNat)
  case atStart => exact ⟨0, rfl, Nat.zero_le _, rfl, Drew.refl _⟩
  case round =>
    obtain ⟨k, rfl, hk, rfl, hdw⟩ := hrel
    obtain ⟨z, rfl⟩ := hdw
    by_cases hlt : k < m
    · have hbl : bigAt t K k < m := by
        rcases Nat.eq_zero_or_pos k with e | e
        · rw [e, bigAt]; omega
        · have := bigAt_lt t K k e; omega
      obtain ⟨bm, offm, e1, _, hcb⟩ := ints_at HI.out hbl
      cases e1
      rw [Nat.zero_add] at hcb
      obtain ⟨bk, offk, e2, _, hck⟩ := ints_at HI.out hlt
      cases e2
      rw [Nat.zero_add] at hck
      have hyb : K.getD (bigAt t K k) 0 < n := HK.out _ (getD_mem (by rw [HKL.out]; exact hbl))
      have hyk : K.getD k 0 < n := HK.out _ (getD_mem (by rw [HKL.out]; exact hlt))
      obtain ⟨g0, _, _⟩ := HJ.out.at hyb
      obtain ⟨k0, _, _⟩ := HJ.out.at hyk
      have HN := Lib.hid (show bigAt t K (k + 1) = if t (K.getD (bigAt t K k) 0) ≤ t (K.getD k 0) then k else bigAt t K k from rfl)
      have hkI : (k : Int) < (m : Int) := by omega
      have hbI : ((bigAt t K k : Nat) : Int) < (m : Int) := by omega
      have hybI : ((K.getD (bigAt t K k) 0 : Nat) : Int) < (n : Int) := by omega
      have hykI : ((K.getD k 0 : Nat) : Int) < (n : Int) := by omega
      generalize K.getD (bigAt t K k) 0 = yb at *
      generalize K.getD k 0 = yk at *
      generalize bigAt t K k = bk at *
      generalize t yb = tb' at *
      generalize t yk = tk' at *
      by_cases hle : tb' ≤ tk'
      · have HM := Lib.hid (HN.out.trans (if_pos hle))
        go_wp2_with fail
        go_quiet (fail)
        go_wp2_with fail
        go_roundw
        case rel => exact ⟨k + 1, by go_num, by omega, by rw [HM.out], ⟨_, rfl⟩⟩
        case measure => simp [intOf] <;> omega
      · have HM := Lib.hid (HN.out.trans (if_neg hle))
        go_wp2_with fail
        go_quiet (fail)
        go_wp2_with fail
        go_roundw
        case rel => exact ⟨k + 1, by go_num, by omega, by rw [HM.out], ⟨_, rfl⟩⟩
        case measure => simp [intOf] <;> omega
    · obtain rfl : k = m := by omega
      go_wp2_with fail
      go_ret
      exact ⟨rfl, ⟨_, rfl⟩⟩
theorem resC_own {w wr : World} {B k cp : Nat} {ax : Option Addr} {xs : List Int} (hB : w.heap.size ≤ B) (h : wr.ownsRow B 3 1 (.slice ax k cp) k (xs.map (.int .i64))) (hb : Below w.heap.size w wr) (hk : k ≤ 1048576) :
    ResPostC w xs (.returned (.slice ax k cp)) wr := by
  obtain ⟨ay, cy, hve, hcc, hints⟩ := own_ints h (by omega)
  simp only [Value.slice.injEq] at hve
  obtain ⟨rfl, _, rfl⟩ := hve
  refine ⟨_, _, _, rfl, hints.to (fun b hb => ⟨⟨Nat.le_trans hB hb.1, hb.2⟩, rfl⟩), ⟨by omega, fun h0 => ?_⟩, hcc, hb⟩
  obtain ⟨g, v, rfl, hg, hc, _⟩ := own_place h (j := 0) (by omega)
  refine ⟨g, 0, rfl, ⟨Nat.le_trans hB hg, World.block_lt_of_cell? wr _ hc⟩, fun i hi => ?_⟩
  obtain ⟨g', v', e, _, hc', hf'⟩ := own_place h (j := i) hi
  cases e
  rw [Nat.zero_add]
  exact ⟨⟨_, hc'⟩, hf'⟩
set_option maxRecDepth 100000 in
set_option maxHeartbeats 8000000 in
theorem keptOnTime_impl (a : Option Addr) (len cap : Nat) (rows : List (List Int)) (w : World) (h : RowsAt w (· < w.heap.size) a len rows) (hc : len ≤ cap) :
    Calls Try.prog 19 #[.slice a len cap] w (ResPostC w (keptRes rows)) := by
  have HL := Lib.hid h.lenEq
  have HD := Lib.hid (dueJobsOf_any a len cap rows w h hc)
  clear h
  cases hp : jobsM rows
  · have HR := Lib.hid (show keptRes rows = [] by unfold keptRes; rw [hp]; rfl)
    rw [HR.out]
    go_enter Try.func19, Try.ntmps19
    go_wp2_with fail
    refine HD.out.mono ?_
    rintro e w1 ⟨hb, ⟨_, rfl⟩ | ⟨hf, _⟩⟩
    · go_wp2_with fail
      go_ret
      exact resC_low hb (resPostC_nil _)
    · rw [hp] at hf; cases hf
  · have hl8 : len ≤ 8 := by have := (jobs_get hp).1; have := HL.out; omega
    have HBD := Lib.hid (fun q => j_bd hp q)
    have HJ := Lib.hid hp
    have HR := Lib.hid (show keptRes rows = nI (keptM rows len len) by unfold keptRes; rw [if_pos hp, HL.out])
    rw [HR.out]
    go_enter Try.func19, Try.ntmps19
    go_wp2_with fail
    refine HD.out.mono ?_
    rintro e w1 ⟨hb, ⟨hf, _⟩ | ⟨_, B, rfl, hB1, hB2, hJB⟩⟩
    · rw [hp] at hf; cases hf
    have HB := Lib.hid hb
    have HS := Lib.hid (orderByRule_any 34 _ (enters_of Try.func34 (by kernel_rfl) rfl) byDue_any B len _ _ _ w1 HBD.out hB2 hJB hl8)
    have HJB := Lib.hid hJB
    clear hJB hb hp
    go_wp2_with fail
    refine HS.out.mono ?_
    rintro e w2 ⟨b, rfl, hb1, hb2, hrow, hbb⟩
    have HROW := Lib.hid (show RowB w2 b (sortE (ahD (td rows)) len) from hrow)
    have HBB := Lib.hid (HB.out.trans (hbb.mono HB.out.size))
    have HJ2 := Lib.hid (HJB.out.block (hbb.block B hB2))
    have hB3 : B < w2.heap.size := Nat.lt_of_lt_of_le hB2 hbb.size
    have HSL := Lib.hid (sortE_len (ahD (td rows)) len)
    clear hrow hbb HS HB HD
    go_wp2_with fail
    go_loopw [5, 6, 20] (fun v t i wr => ∃ (j m cp : Nat) (ax : Option Addr), i = .int .i64 j ∧ j ≤ len ∧ v = .slice ax m cp ∧ (keptM rows len j).length = m ∧ wr.ownsRow w2.heap.size 3 1 v m ((nI (keptM rows len j)).map (.int .i64)) ∧ m ≤ cp ∧ t = .int .i64 (sumL (ta rows) (keptM rows len j)) ∧ Below w2.heap.size w2 wr) (fun _ _ i _ => len - (intOf i).toNat)
    case atStart => exact ⟨0, 0, 0, none, rfl, Nat.zero_le _, rfl, by simp [keptM, keepL], ⟨by simp [keptM, keepL, nI], .inl ⟨rfl, rfl⟩⟩, Nat.le_refl _, by simp [keptM, keepL, sumL], Below.refl _ _⟩
    case round =>
      obtain ⟨j, m, cp, ax, rfl, hj, rfl, hm, hown, hmc, rfl, hBw⟩ := hrel
      obtain ⟨wo, rfl⟩ : ∃ wo : World, wo = wr := ⟨_, rfl⟩
      have HOWN := Lib.hid hown
      have HBW := Lib.hid hBw
      have HM := Lib.hid hm
      have hmj : m ≤ j := by have := kept_len HJ.out (n := len) (j := j); omega
      have hm8 : m ≤ 8 := by omega
      clear hown hBw hm
      by_cases hlt : j < len
      · obtain ⟨x, hx⟩ : ∃ x, (sortE (ahD (td rows)) len).getD j 0 = x := ⟨_, rfl⟩
        have hcx := ((HROW.out.block (w' := wo) (HBW.out.block b hb2)).at (q := j) (by rw [HSL.out]; exact hlt)).1
        rw [hx] at hcx
        have hxs : (sortE (ahD (td rows)) len)[j]? = some x := by
          rw [← hx, List.getD_eq_getElem?_getD, List.getElem?_eq_getElem (by rw [HSL.out]; exact hlt)]; rfl
        have hxl : x < len := sortE_mem.1 (List.mem_of_getElem? hxs)
        have HKS := Lib.hid (keptM_succ hxs)
        have hjI : (j : Int) < (len : Int) := by omega
        have hxI : (x : Int) < (len : Int) := by omega
        clear hx hxs
        obtain ⟨K, hK⟩ : ∃ K, keptM rows len j = K := ⟨_, rfl⟩
        rw [hK] at HM HKS HOWN
        have HMem := Lib.hid (show ∀ y ∈ K, y < len from fun y hy => kept_mem HJ.out (by rw [hK]; exact hy))
        have hbk := sum_bd (fun x => (HBD.out x).1) K K.length
        rw [List.take_length, HM.out] at hbk
        rw [hK]
        clear hK
        go_wp2_with (at_builtin; refine wpApp1 rfl _ _ rfl w2.heap.size m cp ax (nI K) (x : Int) rfl HOWN.out rfl HBW.out.size (by omega) ?_)
        intro a7 c7 w7 hown7 hc7 hgr7
        have hb7 := HBW.out.grown hgr7 HBW.out.size (own_block HOWN.out)
        obtain ⟨M, hM⟩ : ∃ M, K ++ [x] = M := ⟨_, rfl⟩
        have hO7 := own_snoc hown7
        rw [show nI K ++ [(x : Int)] = nI M by rw [← hM, nI_append]; rfl] at hO7
        obtain ⟨g, vv, rfl, hg, hcg, _⟩ := own_place hO7 (j := 0) (by omega)
        have HO7 := Lib.hid hO7
        have HB7 := Lib.hid hb7
        have HML := Lib.hid (show M.length = m + 1 by rw [← hM, List.length_append, HM.out]; rfl)
        have HMS := Lib.hid (show sumL (ta rows) M = sumL (ta rows) K + ta rows x by rw [← hM, sumL_append, sumL, sumL, Int.add_zero])
        have HKM := Lib.hid (show keptM rows len (j + 1) = if sumL (ta rows) M ≤ td rows x then M else M.eraseIdx (bigAt (ta rows) M M.length) by rw [HKS.out, ← hM]; rfl)
        have HMM := Lib.hid (show ∀ y ∈ M, y < len from fun y hy => by
          rw [← hM] at hy
          rcases List.mem_append.1 hy with hy | hy
          · exact HMem.out y hy
          · simp only [List.mem_singleton] at hy; omega)
        have hgw : g < w7.heap.size := World.block_lt_of_cell? w7 _ hcg
        have hJ7 := HJ2.out.block (w' := w7) (hb7.block B hB3)
        have HJ7 := Lib.hid hJ7
        obtain ⟨g0, _, g2⟩ := hJ7.at hxl
        have htx := (HBD.out x).1
        have hdx := (HBD.out x).2.2
        clear hM hO7 hb7 hown7 hgr7 hcx hcg hJ7
        obtain ⟨sk, hsk⟩ : ∃ sk, sumL (ta rows) K = sk := ⟨_, rfl⟩
        rw [hsk] at hbk HMS ⊢
        obtain ⟨tx, htx'⟩ : ∃ tx, ta rows x = tx := ⟨_, rfl⟩
        rw [htx'] at g0 htx HMS
        obtain ⟨dx, hdx'⟩ : ∃ dx, td rows x = dx := ⟨_, rfl⟩
        rw [hdx'] at g2 hdx HKM
        rw [HMS.out] at HKM
        clear hsk htx' hdx'
        by_cases hle : sk + tx ≤ dx
        · have HK1 := Lib.hid (HKM.out.trans (if_pos hle))
          go_wp2_with fail
          go_roundw
          case rel => exact ⟨j + 1, m + 1, c7, _, by go_num, by omega, rfl, by rw [HK1.out]; exact HML.out, by rw [HK1.out]; exact HO7.out, hc7, by rw [HK1.out, HMS.out], HB7.out⟩
          case measure => simp [intOf] <;> omega
        · have HK2 := Lib.hid (HKM.out.trans (if_neg hle))
          rw [HML.out] at HK2
          have hbl := bigAt_lt (ta rows) M (m + 1) (by omega)
          have HPO := Lib.hid (placeOf_any B len g (m + 1) c7 (ta rows) (tb rows) (td rows) M w7 HJ7.out (own_at HO7.out (by omega)) HMM.out (by omega) (by omega) hl8)
          have hyb : M.getD (bigAt (ta rows) M (m + 1)) 0 < len := HMM.out _ (getD_mem (by rw [HML.out]; exact hbl))
          have HSE := Lib.hid (sumL_eraseIdx (f := ta rows) M (bigAt (ta rows) M (m + 1)) (by rw [HML.out]; exact hbl))
          obtain ⟨bm, offm, e1, _, hcb⟩ := ints_at (own_at HO7.out (by omega)) hbl
          cases e1
          rw [Nat.zero_add] at hcb
          have HEL := Lib.hid (show (M.eraseIdx (bigAt (ta rows) M (m + 1))).length = m by rw [List.length_eraseIdx, if_pos (by rw [HML.out]; exact hbl), HML.out]; rfl)
          have hty := (HBD.out (M.getD (bigAt (ta rows) M (m + 1)) 0)).1
          obtain ⟨y0, _, _⟩ := HJ7.out.at hyb
          have hybI : ((M.getD (bigAt (ta rows) M (m + 1)) 0 : Nat) : Int) < (len : Int) := by omega
          have HDE := Lib.hid (fun z => delete6_any w2.heap.size g (m + 1) c7 (bigAt (ta rows) M (m + 1)) (bigAt (ta rows) M (m + 1) + 1) rfl (nI M) (w7.drewN z) (own_drewN HO7.out z) hbl (by omega) hc7 hg)
          have HEI := Lib.hid (show (nI M).eraseIdx (bigAt (ta rows) M (m + 1)) = nI (M.eraseIdx (bigAt (ta rows) M (m + 1))) from map_erase _ M _)
          generalize M.getD (bigAt (ta rows) M (m + 1)) 0 = yb at *
          generalize bigAt (ta rows) M (m + 1) = bk at *
          generalize ta rows yb = ty at *
          have hbI : ((bk : Nat) : Int) < (m : Int) + 1 := by omega
          have hbI2 : ((bk : Nat) : Int) < ((m + 1 : Nat) : Int) := by omega
          rw [show ((bk + 1 : Nat) : Int) = (bk : Int) + 1 by omega] at HDE
          go_wp2_with fail
          refine HPO.out.mono ?_
          rintro e w' ⟨rfl, hdw⟩
          obtain ⟨z, rfl⟩ := hdw
          go_wp2_with fail
          refine (HDE.out z).mono ?_
          rintro e w8 ⟨rfl, ho8, hb8, _⟩
          rw [HEI.out] at ho8
          have HO8 := Lib.hid ho8
          have HB8 := Lib.hid ((below_drewN HB7.out z).trans hb8)
          clear ho8 hb8
          go_wp2_with fail
          go_roundw
          case rel => exact ⟨j + 1, m, c7, _, by go_num, by omega, rfl, by rw [HK2.out]; exact HEL.out, by rw [HK2.out]; exact HO8.out, by omega, by rw [HK2.out, HSE.out, HMS.out], HB8.out⟩
          case measure => simp [intOf] <;> omega
      · obtain rfl : j = len := by omega
        go_wp2_with fail
        go_ret
        exact resC_own (by have := HBB.out.size; omega) HOWN.out (HBB.out.trans (HBW.out.mono HBB.out.size)) (by omega)
end Go.Proofs.Ytmcongioghkdcab
namespace Go.Proofs.Ytmcongioghkdcab
end Go.Proofs.Ytmcongioghkdcab
namespace Go.Proofs.Ytmcongioghkdcab
open Go.RowKit
theorem orderBy_implR (a : Option Addr) (len cap : Nat) (rows : List (List Int)) (kind : ByteArray) (w : World) (h : RowsAt w (· < w.heap.size) a len rows) (hc : len ≤ cap) :
    Calls Try.prog 10 #[.slice a len cap, .string kind] w (ResPost w (ordRes rows kind)) := (orderBy_impl a len cap rows kind w h hc).mono (fun _ _ h => h.res)
theorem keptOnTime_implR (a : Option Addr) (len cap : Nat) (rows : List (List Int)) (w : World) (h : RowsAt w (· < w.heap.size) a len rows) (hc : len ≤ cap) :
    Calls Try.prog 19 #[.slice a len cap] w (ResPost w (keptRes rows)) := (keptOnTime_impl a len cap rows w h hc).mono (fun _ _ h => h.res)
theorem ordRes_at (rows : List (List Int)) (kind : ByteArray) : ordRes rows kind = [] ∨ (jobsM rows = true ∧ ∃ ah, ordRes rows kind = srtI ah rows.length) := by
  unfold ordRes
  split
  · rename_i h
    split
    · exact .inr ⟨h, _, rfl⟩
    · split
      · exact .inr ⟨h, _, rfl⟩
      · exact .inl rfl
  · exact .inl rfl
theorem ordRes_len (rows : List (List Int)) (kind : ByteArray) : (ordRes rows kind).length ≤ 8 := by
  rcases ordRes_at rows kind with h | ⟨hp, ah, h⟩
  · rw [h]; exact Nat.zero_le _
  · rw [h, srtI_len]; exact (jobs_get hp).1
theorem keptRes_len (rows : List (List Int)) : (keptRes rows).length ≤ 1048576 := by
  unfold keptRes
  split
  · rename_i hp; rw [nI_len]; have := kept_len hp (n := rows.length) (j := rows.length); have := (jobs_get hp).1; omega
  · simp
end Go.Proofs.Ytmcongioghkdcab
namespace Go.Proofs.Ytmcongioghkdcab

-- what the laws of one machine ask (plain)
theorem nO_nI (l : List Nat) : nO (nI l) = l := by
  unfold nO nI
  rw [List.map_map]
  exact List.map_id'' (fun x => by simp) l
theorem srtI_nI (ah : Nat → Nat → Bool) (n : Nat) : srtI ah n = nI (sortE ah n) := rfl
theorem order_nI {l : List Nat} {n : Nat} (h : l.Perm (List.range n)) : orderM (nI l) n = true := by
  refine decide_eq_true ⟨⟨fun x hx => ?_, ?_⟩, ?_⟩
  · obtain ⟨y, hy, rfl⟩ := List.mem_map.1 hx
    have := List.mem_range.1 (h.mem_iff.1 hy); omega
  · refine List.pairwise_map.2 ((h.symm.nodup List.nodup_range).imp (fun {x y} hne e => hne ?_))
    omega
  · rw [nI_len]; have := h.length_eq; simpa using this
theorem srt_fine {rows : List (List Int)} (hp : jobsM rows = true) (ah : Nat → Nat → Bool) : rowFine rows (srtI ah rows.length) = true := by
  unfold rowFine; rw [hp, srtI_nI, order_nI (sortE_perm ah rows.length)]; rfl
theorem jb_t {rows : List (List Int)} (hp : jobsM rows = true) : ∀ x, 0 ≤ ta rows x := fun x => (j_bd hp x).1.1
theorem fine_perm {rows : List (List Int)} {o : List Int} (h : rowFine rows o = true) (ah : Nat → Nat → Bool) : (sortE ah rows.length).Perm (nO o) :=
  (sortE_perm ah _).trans (nO_perm (rowFine_get h).2).symm
theorem ord_wait {rows : List (List Int)} {kind : ByteArray} (hp : jobsM rows = true) (hk : isW kind = true) : ordRes rows kind = srtI (ahW (ta rows) (tb rows)) rows.length := by
  unfold ordRes; rw [if_pos hp, if_pos hk]
theorem ord_due {rows : List (List Int)} {kind : ByteArray} (hp : jobsM rows = true) (hk : isW kind = false) (hd : isD kind = true) : ordRes rows kind = srtI (ahD (td rows)) rows.length := by
  unfold ordRes; rw [if_pos hp, hk, if_pos hd]; rfl
theorem waitRes_yes {rows : List (List Int)} {o : List Int} (h : rowFine rows o = true) : waitRes rows o = costG (ta rows) (waitG (tb rows)) 0 (nO o) := by unfold waitRes; rw [h]; rfl
theorem waitRes_no {rows : List (List Int)} {o : List Int} (h : rowFine rows o = false) : waitRes rows o = -1 := by unfold waitRes; rw [h]; rfl
theorem tardRes_yes {rows : List (List Int)} {o : List Int} (h : rowFine rows o = true) : tardRes rows o = costG (ta rows) (tardG (tb rows) (td rows)) 0 (nO o) := by unfold tardRes; rw [h]; rfl
theorem tardRes_no {rows : List (List Int)} {o : List Int} (h : rowFine rows o = false) : tardRes rows o = -1 := by unfold tardRes; rw [h]; rfl
theorem lateRes_yes {rows : List (List Int)} {o : List Int} (h : rowFine rows o = true) : lateRes rows o = costG (ta rows) (lateG (td rows)) 0 (nO o) := by unfold lateRes; rw [h]; rfl
theorem lateRes_no {rows : List (List Int)} {o : List Int} (h : rowFine rows o = false) : lateRes rows o = -1 := by unfold lateRes; rw [h]; rfl
theorem fine_len {rows : List (List Int)} {o : List Int} (h : rowFine rows o = true) : (nO o).length ≤ 8 ∧ (nO o).length = rows.length := by
  obtain ⟨hp, hO⟩ := rowFine_get h
  have : (nO o).length = rows.length := by unfold nO; rw [List.length_map]; exact hO.2
  exact ⟨by rw [this]; exact (jobs_get hp).1, this⟩
theorem waitRes_bd {rows : List (List Int)} {o : List Int} (h : rowFine rows o = true) : 0 ≤ waitRes rows o ∧ waitRes rows o ≤ 5600 := by
  obtain ⟨hp, _⟩ := rowFine_get h
  rw [waitRes_yes h]
  have := cost_bd (fun x => (j_bd hp x).1) (wait_bd hp) (fine_len h).1 (nO o).length
  rwa [List.take_length] at this
theorem tardRes_bd {rows : List (List Int)} {o : List Int} (h : rowFine rows o = true) : 0 ≤ tardRes rows o ∧ tardRes rows o ≤ 5600 := by
  obtain ⟨hp, _⟩ := rowFine_get h
  rw [tardRes_yes h]
  have := cost_bd (fun x => (j_bd hp x).1) (tard_bd hp) (fine_len h).1 (nO o).length
  rwa [List.take_length] at this
theorem lateRes_bd {rows : List (List Int)} {o : List Int} (h : rowFine rows o = true) : 0 ≤ lateRes rows o ∧ lateRes rows o ≤ 5600 := by
  obtain ⟨hp, _⟩ := rowFine_get h
  rw [lateRes_yes h]
  have := cost_bd (fun x => (j_bd hp x).1) (late_bd (td rows)) (fine_len h).1 (nO o).length
  rwa [List.take_length] at this
/-- P28 -/
theorem wait_rule {rows : List (List Int)} {o : List Int} {kind : ByteArray} (h : rowFine rows o = true) (hk : isW kind = true) : 0 ≤ waitRes rows (ordRes rows kind) ∧ waitRes rows (ordRes rows kind) ≤ waitRes rows o := by
  obtain ⟨hp, hO⟩ := rowFine_get h
  have hf := srt_fine hp (ahW (ta rows) (tb rows))
  rw [ord_wait hp hk]
  refine ⟨(waitRes_bd hf).1, ?_⟩
  rw [waitRes_yes hf, waitRes_yes h, srtI_nI, nO_nI]
  exact wait_best _ _ 0 (sortW (fun x hx => j_pos hp hx)) (fine_perm h _)
/-- P30 -/
theorem latest_pos {rows : List (List Int)} {o : List Int} (h : latestB rows o = true) : rowFine rows o = true ∧ 0 < rows.length := by
  simpa [latestB] using h
theorem due_rule {rows : List (List Int)} {o : List Int} {kind : ByteArray} (h : latestB rows o = true) (hk : isW kind = false) (hd : isD kind = true) :
    latestB rows (ordRes rows kind) = true ∧ latestRes rows (ordRes rows kind) ≤ latestRes rows o := by
  obtain ⟨hf, h0⟩ := latest_pos h
  obtain ⟨hp, hO⟩ := rowFine_get hf
  have hs := srt_fine hp (ahD (td rows))
  have hb : latestB rows (srtI (ahD (td rows)) rows.length) = true := by unfold latestB; rw [hs, decide_eq_true h0]; rfl
  rw [ord_due hp hk hd]
  refine ⟨hb, ?_⟩
  have e1 : latestRes rows (srtI (ahD (td rows)) rows.length) = latM (ta rows) (td rows) (sortE (ahD (td rows)) rows.length) (rows.length - 1) := by unfold latestRes; rw [hb, srtI_nI, nO_nI]; rfl
  have e2 : latestRes rows o = latM (ta rows) (td rows) (nO o) (rows.length - 1) := by unfold latestRes; rw [h]; rfl
  rw [e1, e2]
  have hl := (fine_len hf).2
  have h2 := allLe_lat (t := ta rows) (d := td rows) (l := nO o) (L := latM (ta rows) (td rows) (nO o) (rows.length - 1)) (by rw [hl]; exact h0)
  rw [hl] at h2
  have h3 := due_best (jb_t hp) _ _ 0 (sortD (td rows) rows.length) (fine_perm hf _) (h2.2 (Int.le_refl _))
  have h4 := allLe_lat (t := ta rows) (d := td rows) (l := sortE (ahD (td rows)) rows.length) (L := latM (ta rows) (td rows) (nO o) (rows.length - 1)) (by rw [sortE_len]; exact h0)
  rw [sortE_len] at h4
  exact h4.1 h3
/-- P31 -/
theorem keptRes_yes {rows : List (List Int)} (hp : jobsM rows = true) : keptRes rows = nI (keepL (ta rows) (td rows) (sortE (ahD (td rows)) rows.length)) := by
  unfold keptRes keptM
  rw [if_pos hp, List.take_of_length_le (by rw [sortE_len]; exact Nat.le_refl _)]
theorem late_rule {rows : List (List Int)} {o : List Int} (h : rowFine rows o = true) : (rows.length : Int) - ((keptRes rows).length : Int) ≤ lateRes rows o ∧ (latestB rows o = true → (lateRes rows o = 0 ↔ latestRes rows o ≤ 0)) := by
  obtain ⟨hp, hO⟩ := rowFine_get h
  have hl := (fine_len h).2
  refine ⟨?_, fun hb => ?_⟩
  · have := kept_most (jb_t hp) (d := td rows) (sortE_nodup (ahD (td rows)) rows.length) (sortD (td rows) rows.length) (fine_perm h (ahD (td rows)))
    rw [keptRes_yes hp, nI_len, lateRes_yes h]
    rw [hl] at this
    exact this
  · obtain ⟨_, h0⟩ := latest_pos hb
    rw [lateRes_yes h, (late_zero (nO o) 0).2, allLe_lat (by rw [hl]; exact h0), hl]
    have : latestRes rows o = latM (ta rows) (td rows) (nO o) (rows.length - 1) := by unfold latestRes; rw [hb]; rfl
    rw [this]
theorem late_none {rows : List (List Int)} {o : List Int} (h : rowFine rows o = true) (hb : latestB rows o = false) : rows.length = 0 := by
  unfold latestB at hb
  rw [h, Bool.true_and] at hb
  have := of_decide_eq_false hb
  omega
/-- P33, P34 -/
theorem ltRes_yes {rows : List (List Int)} (hp : jobsM rows = true) : ltRes rows = ltX (ta rows) (tb rows) (td rows) rows.length (2 ^ rows.length - 1) := by unfold ltRes; rw [if_pos hp]
theorem ltRes_no {rows : List (List Int)} (hp : jobsM rows = false) : ltRes rows = -1 := by unfold ltRes; rw [hp]; rfl
theorem lt_leastL {rows : List (List Int)} (hp : jobsM rows = true) : LeastL (ta rows) (tb rows) (td rows) rows.length (ltRes rows) := by
  rw [ltRes_yes hp]; exact ltX_least (fun x => (j_bd hp x).2.1.1) _
theorem lt_tard {rows : List (List Int)} {o : List Int} (h : rowFine rows o = true) : ltRes rows ≤ tardRes rows o := by
  obtain ⟨hp, hO⟩ := rowFine_get h
  rw [tardRes_yes h]
  exact (lt_leastL hp).2 _ (nO_perm hO)
theorem ltRes_bd {rows : List (List Int)} (hp : jobsM rows = true) : 0 ≤ ltRes rows ∧ ltRes rows ≤ 5600 := by
  rw [ltRes_yes hp]; exact ltX_bd hp (jobs_get hp).1 (by have := Nat.two_pow_pos rows.length; omega)
theorem jobs_take {rows : List (List Int)} (hp : jobsM rows = true) (n : Nat) : jobsM (rows.take n) = true := by
  simp only [jobsM, Bool.and_eq_true, decide_eq_true_eq, List.all_eq_true] at hp ⊢
  exact ⟨fun r hr => hp.1 r (List.mem_of_mem_take hr), by rw [List.length_take]; omega⟩
theorem lt_fewer {rows : List (List Int)} (hp : jobsM rows = true) {n : Nat} (hn : rows.length = n + 1) : ltRes (rows.take n) ≤ ltRes rows := by
  have h1 := lt_leastL hp
  have h2 := lt_leastL (jobs_take hp n)
  have hl : (rows.take n).length = n := by rw [List.length_take]; omega
  rw [hl] at h2
  rw [hn] at h1
  refine least_less (t := ta rows) (w := tb rows) (d := td rows) (jb_t hp) (fun x => (j_bd hp x).2.1.1) h1 ?_
  have e : ∀ l : List Nat, l.Perm (List.range n) → costG (ta (rows.take n)) (tardG (tb (rows.take n)) (td (rows.take n))) 0 l = costG (ta rows) (tardG (tb rows) (td rows)) 0 l := by
    intro l hl
    have key : ∀ x, x < n → (rows.take n).getD x [] = rows.getD x [] := fun x hx => by
      simp only [List.getD_eq_getElem?_getD, List.getElem?_take]; rw [if_pos hx]
    have gen : ∀ (m : List Nat) (s : Int), (∀ x ∈ m, x < n) → costG (ta (rows.take n)) (tardG (tb (rows.take n)) (td (rows.take n))) s m = costG (ta rows) (tardG (tb rows) (td rows)) s m := by
      intro m
      induction m with
      | nil => intro s _; rfl
      | cons x m ih =>
        intro s hm
        have hx := key x (hm x (by simp))
        have e1 : ta (rows.take n) x = ta rows x := by unfold ta; rw [hx]
        have e2 : tb (rows.take n) x = tb rows x := by unfold tb; rw [hx]
        have e3 : td (rows.take n) x = td rows x := by unfold td; rw [hx]
        rw [costG, costG, e1, ih _ (fun y hy => hm y (by simp [hy]))]
        unfold tardG; rw [e2, e3]
    exact gen l 0 (fun x hx => by have := hl.mem_iff.1 hx; simpa using this)
  obtain ⟨⟨l, hl1, hl2⟩, h3⟩ := h2
  exact ⟨⟨l, hl1, by rw [← e l hl1]; exact hl2⟩, fun m hm => by rw [← e m hm]; exact h3 m hm⟩
theorem lt_empty : ltRes [] = 0 := by
  have hp : jobsM [] = true := rfl
  rw [ltRes_yes hp]; rfl
/-- not late, nothing to pay -/
theorem late_tard {rows : List (List Int)} {o : List Int} (h : rowFine rows o = true) (h0 : ¬ 0 < lateRes rows o) : tardRes rows o = 0 := by
  obtain ⟨hp, _⟩ := rowFine_get h
  have hb := lateRes_bd h
  have hz : lateRes rows o = 0 := by omega
  rw [lateRes_yes h] at hz
  rw [tardRes_yes h]
  have h1 := (late_zero (nO o) 0).2.1 hz
  have gen : ∀ (m : List Nat) (s : Int), allLe (ta rows) (td rows) 0 s m → costG (ta rows) (tardG (tb rows) (td rows)) s m = 0 := by
    intro m
    induction m with
    | nil => intro s _; rfl
    | cons x m ih =>
      intro s hm
      rw [costG, ih _ hm.2]
      unfold tardG
      rw [show max (s + ta rows x - td rows x) 0 = 0 by have := hm.1; omega]; simp
  exact gen _ 0 h1
theorem lt_ord {rows : List (List Int)} {kind : ByteArray} (hp : jobsM rows = true) (h : isW kind = true ∨ isD kind = true) (hw : isW kind = false) : ltRes rows ≤ tardRes rows (ordRes rows kind) := by
  rcases h with h | h
  · rw [h] at hw; cases hw
  · rw [ord_due hp hw h]; exact lt_tard (srt_fine hp _)
theorem lt_ordW {rows : List (List Int)} {kind : ByteArray} (hp : jobsM rows = true) (h : isW kind = true) : ltRes rows ≤ tardRes rows (ordRes rows kind) := by
  rw [ord_wait hp h]; exact lt_tard (srt_fine hp _)
end Go.Proofs.Ytmcongioghkdcab
namespace Go.Proofs.Ytmcongioghkdcab
open Go.RowKit Go.WideShapes

/-- a list that is drawn: numbers in lo..hi -/
def ListPost (w : World) (R p n : Nat) (lo hi : Int) (e : Ending) (w' : World) : Prop := ∃ (a : Option Addr) (cap : Nat) (xs : List Int), e = .returned (.slice a n cap) ∧
  w'.ownsRow w.heap.size 3 1 (.slice a n cap) n (xs.map (.int .i64)) ∧ n ≤ cap ∧ xs.length = n ∧ (∀ x ∈ xs, lo ≤ x ∧ x ≤ hi) ∧ Rd w' R (p + n) ∧ w.grownBy w' (some R)

end Go.Proofs.Ytmcongioghkdcab
namespace Go.Proofs.Ytmcongioghkdcab
open Go.RowKit Go.WideShapes

theorem Try.infoInt : (Try.prog.info? 3).map (fun i => (i.zero, i.size, i.bytes)) = some (some (.int .i64 0), 1, 8) := by kernel_rfl
theorem Try.infoInts : (Try.prog.info? 24).map (fun i => (i.zero, i.size, i.bytes)) = some (some (.slice none 0 0), 1, 24) := by kernel_rfl

theorem bill_n {n : Int} (h : n ∈ [4, 5, 3, 6, 2, 1, 0]) : ∃ m : Nat, n = (m : Int) ∧ m ≤ 6 := by
  simp at h
  exact ⟨n.toNat, by omega, by omega⟩

def BillPost (w : World) (R p : Nat) (e : Ending) (w' : World) : Prop := ∃ (a : Option Addr) (len cap : Nat) (rows : List (List Int)) (p' : Nat), e = .returned (.slice a len cap) ∧
      RowsAt w' (fun b => w.heap.size ≤ b ∧ b < w'.heap.size) a len rows ∧ len ≤ cap ∧ len ≤ 6 ∧ Rd w' R p' ∧ p' ≤ p + 1000 ∧ w.grownBy w' (some R)
theorem billPost_mk {w w' : World} {R p p' len cap M : Nat} {a : Option Addr} (h : OwnRows w' w.heap.size M (.slice a len cap) len) (hl : len ≤ cap) (h6 : len ≤ 6) (hr : Rd w' R p') (hp : p' ≤ p + 1000)
    (hg : w.grownBy w' (some R)) : BillPost w R p (.returned (.slice a len cap)) w' := by
  obtain ⟨a', cap', rows, hv, _, hrows⟩ := h.rows (by omega)
  simp only [Value.slice.injEq] at hv
  obtain ⟨rfl, _, rfl⟩ := hv
  exact ⟨_, _, _, rows, p', rfl, hrows, hl, h6, hr, hp, hg⟩

end Go.Proofs.Ytmcongioghkdcab
namespace Go.Proofs.Ytmcongioghkdcab
open Go.RowKit Go.WideShapes

def PairsPost (w : World) (R p : Nat) (e : Ending) (w' : World) : Prop := ∃ (a : Option Addr) (len cap : Nat) (rows : List (List Int)) (p' : Nat), e = .returned (.slice a len cap) ∧
      RowsAt w' (fun b => w.heap.size ≤ b ∧ b < w'.heap.size) a len rows ∧ len ≤ cap ∧ len ≤ 8 ∧ Rd w' R p' ∧ p' ≤ p + 1000 ∧ w.grownBy w' (some R)
theorem pairsPost_mk {w w' : World} {R p p' len cap M : Nat} {a : Option Addr} (h : OwnRows w' w.heap.size M (.slice a len cap) len) (hl : len ≤ cap) (h6 : len ≤ 8) (hr : Rd w' R p') (hp : p' ≤ p + 1000)
    (hg : w.grownBy w' (some R)) : PairsPost w R p (.returned (.slice a len cap)) w' := by
  obtain ⟨a', cap', rows, hv, _, hrows⟩ := h.rows (by omega)
  simp only [Value.slice.injEq] at hv
  obtain ⟨rfl, _, rfl⟩ := hv
  exact ⟨_, _, _, rows, p', rfl, hrows, hl, h6, hr, hp, hg⟩
theorem pair_hi {n : Int} (h : n ∈ [9, 4]) : 4 ≤ n ∧ n ≤ 9 := by simp at h; omega
theorem pair_x {n : Int} (h : n ∈ [10, -1]) : -1 ≤ n ∧ n ≤ 10 := by simp at h; omega
end Go.Proofs.Ytmcongioghkdcab
