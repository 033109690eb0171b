import Derived.Test.YtjcbpnffmebihaaGreatDoorA27
set_option linter.unusedVariables false
set_option linter.unusedSimpArgs false
namespace Go.Proofs.YtjcbpnffmebihaaGreatDoor
open Go.RowKit Go.WideShapes

theorem sumL_eraseIdx {f : Nat → Int} : ∀ (l : List Nat) (k : Nat), k < l.length → sumL f (l.eraseIdx k) = sumL f l - f (l.getD k 0) := by
  intro l
  induction l with
  | nil => intro k hk; simp at hk
  | cons x l ih =>
    intro k hk
    cases k with
    | zero => rw [List.eraseIdx_cons_zero, sumL]; simp; omega
    | succ k => rw [List.eraseIdx_cons_succ, sumL, sumL, ih k (by simpa using hk), List.getD_cons_succ]; omega
def nI (l : List Nat) : List Int := l.map (fun x : Nat => (x : Int))
theorem nI_len (l : List Nat) : (nI l).length = l.length := by simp [nI]
theorem nI_get {l : List Nat} {k : Nat} {x : Int} (h : (nI l)[k]? = some x) : x = ((l.getD k 0 : Nat) : Int) ∧ k < l.length := by
  unfold nI at h
  rw [List.getElem?_map] at h
  cases hq : l[k]? with
  | none => rw [hq] at h; cases h
  | some y =>
    rw [hq] at h
    simp only [Option.map_some, Option.some.injEq] at h
    exact ⟨by rw [List.getD_eq_getElem?_getD, hq]; exact h.symm, (List.getElem?_eq_some_iff.1 hq).1⟩
theorem nI_append (l m : List Nat) : nI (l ++ m) = nI l ++ nI m := by simp [nI]
theorem ints_at {w : World} {S : Nat → Prop} {a : Option Addr} {n : Nat} {l : List Nat} (h : IntsAt w S a n (nI l)) {k : Nat} (hk : k < n) : ∃ b off, a = some ⟨b, off, none⟩ ∧ S b ∧ w.cell? ⟨b, off + k, none⟩ = some (.int .i64 ((l.getD k 0 : Nat) : Int)) := by
  obtain ⟨b, off, e, hS, hc⟩ := h.cells (by omega)
  obtain ⟨b', off', x, e', hx, _⟩ := h.get hk
  have := hc k x hx
  rw [(nI_get hx).1] at this
  exact ⟨b, off, e, hS, this⟩
theorem own_at {w : World} {B g k cp : Nat} {l : List Nat} (h : w.ownsRow B 3 1 (.slice (some ⟨g, 0, none⟩) k cp) k ((nI l).map (.int .i64))) (hk : k ≤ 1048576) : IntsAt w (· < w.heap.size) (some ⟨g, 0, none⟩) k (nI l) := by
  obtain ⟨a', c', e', _, h'⟩ := own_ints h (by omega)
  injection e' with e1 _ _
  subst e1
  exact h'.to fun b hb => ⟨hb.2, rfl⟩
/-- those that are kept of the first j by due times -/
def keptM (rows : List (List Int)) (n j : Nat) : List Nat := keepL (ta rows) (td rows) ((sortE (ahD (td rows)) n).take j)
theorem keptM_sub {rows : List (List Int)} (hp : jobsM rows = true) (n j : Nat) : (keptM rows n j).Sublist ((sortE (ahD (td rows)) n).take j) := by
  refine (kept_all (fun x => (j_bd hp x).1.1) _ ((sortE_nodup _ n).sublist (List.take_sublist _ _)) ?_).sub
  exact (sortD (td rows) n).sublist (List.take_sublist _ _)
theorem keptM_succ {rows : List (List Int)} {n j x : Nat} (h : (sortE (ahD (td rows)) n)[j]? = some x) : keptM rows n (j + 1) = keepS (ta rows) (td rows) (keptM rows n j) x := by
  unfold keptM; rw [take_get h, keepL_snoc]
theorem kept_len {rows : List (List Int)} (hp : jobsM rows = true) {n j : Nat} : (keptM rows n j).length ≤ j := by
  have := (keptM_sub hp n j).length_le; rw [List.length_take] at this; omega
theorem kept_mem {rows : List (List Int)} (hp : jobsM rows = true) {n j x : Nat} (h : x ∈ keptM rows n j) : x < n :=
  sortE_mem.1 (List.mem_of_mem_take ((keptM_sub hp n j).subset h))
/-- what KeptOnTime answers -/
def keptRes (rows : List (List Int)) : List Int := if jobsM rows = true then nI (keptM rows rows.length rows.length) else []
set_option maxRecDepth 100000 in
set_option maxHeartbeats 8000000 in
theorem onTime_any (a : Option Addr) (len cap : Nat) (rows : List (List Int)) (w : World) (h : RowsAt w (· < w.heap.size) a len rows) (hp : jobsM rows = true) (hl8 : len ≤ 8) :
    Calls Tryz.prog 37 #[.slice a len cap] w (NewOwn w (nI (keptM rows len len))) := by
  have HSD := Lib.hid (sorted_any ⟨#[100, 117, 101]⟩ _ a len cap rows w h hl8 (ahead_due hp d_isW))
  have HP := Lib.hid (jobs_get hp).2
  have HB := Lib.hid (fun x => j_bd hp x)
  have HG := Lib.hid h
  have HJ := Lib.hid hp
  clear h hp
  go_enter Tryz.func37, Tryz.ntmps37
  go_wp2_with fail
  refine (HSD.out.mono (fun _ _ h => h.ints)).mono ?_
  rintro e w1 ⟨a3, l3, c3, rfl, h3, hc3, hb1⟩
  have hl3 : l3 = len := by have := h3.lenEq; rw [srtI_len] at this; exact this.symm
  subst hl3
  have HB1 := Lib.hid hb1
  have HE3 : Hid (IntsAt w1 (· < w1.heap.size) a3 l3 (nI (sortE (ahD (td rows)) l3))) := Lib.hid (h3.to fun b hb => ⟨hb.2, rfl⟩)
  have HG1 := Lib.hid (HG.out.below hb1)
  have ho0 := World.ownsRow_made (base := w1.heap.size) (size := 1) (e := 3) w1 #[] 0 (Nat.le_refl _) (Nat.zero_le _) rfl
  have HSL := Lib.hid (sortE_len (ahD (td rows)) l3)
  clear hb1 h3
  go_wp2_with fail
  go_loopw [4, 5, 6] (fun v t i wr => ∃ (j m cp g : Nat), i = .int .i64 j ∧ j ≤ l3 ∧ v = .slice (some ⟨g, 0, none⟩) m cp ∧ (keptM rows l3 j).length = m ∧ wr.ownsRow w1.heap.size 3 1 v m ((nI (keptM rows l3 j)).map (.int .i64)) ∧ m ≤ cp ∧ t = .int .i64 (sumL (ta rows) (keptM rows l3 j)) ∧ Below w1.heap.size w1 wr) (fun _ _ i _ => l3 - (intOf i).toNat)
  case atStart => exact ⟨0, 0, 0, w1.heap.size, rfl, Nat.zero_le _, rfl, by simp [keptM, keepL], (by simpa [keptM, keepL, nI] using ho0), Nat.zero_le _, by simp [keptM, keepL, sumL], (Below.refl _ _).alloc (Nat.le_refl _) _⟩
  case round =>
    clear ho0
    obtain ⟨j, m, cp, g, rfl, hj, rfl, hm, hown, hmc, rfl, hBw⟩ := hrel
    obtain ⟨wo, rfl⟩ : ∃ wo : World, wo = wr := ⟨_, rfl⟩
    have HOWN := Lib.hid hown
    have HBB := Lib.hid hBw
    have HM := Lib.hid hm
    have hm8 : m ≤ 8 := by have := kept_len HJ.out (n := l3) (j := j); omega
    clear hown hBw hm
    by_cases hlt : j < l3
    · obtain ⟨bl, offl, rfl, hbl, hcl⟩ := ints_at (HE3.out) hlt
      have hclo : wo.cell? ⟨bl, offl + j, none⟩ = _ := (HBB.out.cell (p := ⟨bl, offl + j, none⟩) hbl).trans hcl
      obtain ⟨x, hx⟩ : ∃ x, (sortE (ahD (td rows)) l3).getD j 0 = x := ⟨_, rfl⟩
      rw [hx] at hclo
      have hxs : (sortE (ahD (td rows)) l3)[j]? = some x := by
        rw [← hx, List.getD_eq_getElem?_getD, List.getElem?_eq_getElem (by rw [HSL.out]; exact hlt)]; rfl
      have hxl : x < l3 := sortE_mem.1 (List.mem_of_getElem? hxs)
      have HKS := Lib.hid (keptM_succ hxs)
      have hblo : bl < wo.heap.size := Nat.lt_of_lt_of_le hbl HBB.out.size
      have HI := Lib.hid (own_at HOWN.out (by omega))
      have hjI : (j : Int) < (l3 : Int) := by omega
      have hxI : (x : Int) < (l3 : Int) := by omega
      clear hcl hx hxs
      have QA := Lib.hid (World.ownsRow_made (base := wo.heap.size) (size := 1) (e := 3) wo #[] 0 (Nat.le_refl _) (Nat.zero_le _) rfl)
      have QB : Hid (((wo.alloc (.cells #[.int .i64 (x : Int)] 3)).alloc (.cells #[] 3)).ownsRow wo.heap.size 3 1 (.slice (some ⟨wo.heap.size + 1, 0, none⟩) 0 0) 0 (([] : List Int).map (.int .i64))) := Lib.hid (by
        have := World.ownsRow_made (base := wo.heap.size) (size := 1) (e := 3) (wo.alloc (.cells #[.int .i64 (x : Int)] 3)) #[] 0 (by simp) (Nat.zero_le _) rfl
        simpa using this)
      have YA : Hid (IntsAt ((wo.alloc (.cells #[] 3)).alloc (.cells #[.int .i64 (x : Int)] 3)) (fun k => k = wo.heap.size + 1) (some ⟨wo.heap.size + 1, 0, none⟩) 1 [(x : Int)]) := Lib.hid (IntsAt.lit rfl rfl (by simp) (by omega))
      have YB : Hid (IntsAt ((wo.alloc (.cells #[.int .i64 (x : Int)] 3)).alloc (.cells #[] 3)) (fun k => k = wo.heap.size) (some ⟨wo.heap.size, 0, none⟩) 1 [(x : Int)]) := Lib.hid (IntsAt.to (IntsAt.lit (W := wo) (cs := #[.int .i64 (x : Int)]) (t := 3) (xs := [(x : Int)]) (len := 1) rfl rfl rfl (by omega)) (fun b hb => ⟨hb, by subst hb; exact Below.heap_alloc _ _ _ (by simp)⟩))
      have B1 : Hid (Below wo.heap.size wo (wo.alloc (.cells #[] 3)).drew) := Lib.hid ((Below.refl _ _).alloc (Nat.le_refl _) _).drew
      have B2 : Hid (Below wo.heap.size wo ((wo.alloc (.cells #[] 3)).alloc (.cells #[.int .i64 (x : Int)] 3)).drew) := Lib.hid (((Below.refl _ _).alloc (Nat.le_refl _) _).alloc (by simp) _).drew
      have B3 : Hid (Below wo.heap.size wo ((wo.alloc (.cells #[.int .i64 (x : Int)] 3)).alloc (.cells #[] 3)).drew) := Lib.hid (((Below.refl _ _).alloc (Nat.le_refl _) _).alloc (by simp) _).drew
      obtain ⟨K, hK⟩ : ∃ K, keptM rows l3 j = K := ⟨_, rfl⟩
      rw [hK] at HM HKS HI HOWN
      have HMem := Lib.hid (show ∀ y ∈ K, y < l3 from fun y hy => kept_mem HJ.out (by rw [hK]; exact hy))
      have HBK := Lib.hid (sum_bd (fun x => (HB.out x).1) K K.length)
      rw [hK]
      clear hK
      go_wp2_with fail
      go_region_law (first
        | (refine stepApp (by rfl) _ _ (by rfl) wo.heap.size 0 0 wo.heap.size [] (· < wo.heap.size) g 0 m cp (nI K) (by rfl) QA.out.drew (by rfl) (HI.out.below B1.out) B1.out.size m (by omega) (nI K) (by simp) (by omega) ?_
           intro g4 c4 w4 own4 hc4 gr4 hb4 hl4
           have BC := Lib.hid (B1.out.grown gr4 B1.out.size (by intro k e; injection e with e; omega))
           have r4 := (BC.out.cell (p := ⟨bl, offl + j, none⟩) hblo).trans hclo)
        | (refine stepApp (by rfl) _ _ (by rfl) wo.heap.size 0 0 wo.heap.size [] (· < wo.heap.size) g 0 m cp (nI K) (by rfl) (QA.out.alloc _).drew (by rfl) (HI.out.below B2.out) B2.out.size m (by omega) (nI K) (by simp) (by omega) ?_
           intro g4 c4 w4 own4 hc4 gr4 hb4 hl4
           have BA := Lib.hid (B2.out.grown gr4 B2.out.size (by intro k e; injection e with e; omega))
           have Y4 := Lib.hid (YA.out.grownEq gr4 rfl (by simp <;> omega) (by omega)))
        | (refine stepApp (by rfl) _ _ (by rfl) wo.heap.size 0 0 (wo.heap.size + 1) [] (· < wo.heap.size) g 0 m cp (nI K) (by rfl) QB.out.drew (by rfl) (HI.out.below B3.out) B3.out.size m (by omega) (nI K) (by simp) (by omega) ?_
           intro g4 c4 w4 own4 hc4 gr4 hb4 hl4
           have BA := Lib.hid (B3.out.grown gr4 B3.out.size (by intro k e; injection e with e; omega))
           have Y4 := Lib.hid (YB.out.grownEq gr4 rfl (by simp <;> omega) (by omega)))
        | (refine stepApp (by rfl) _ _ (by rfl) wo.heap.size m c4 g4 (nI K) (fun b => b = w4.heap.size) w4.heap.size 0 1 1 [(x : Int)] (by rfl) (own4.alloc _) (by rfl) (IntsAt.lit (W := w4) (cs := #[.int .i64 (x : Int)]) (t := 3) (xs := [(x : Int)]) (len := 1) rfl rfl rfl (by omega)) (by have := BC.out.size; simp; omega) (m + 1) rfl (nI K ++ [(x : Int)]) rfl (by omega) ?_
           intro g5 c5 w5 own5 hc5 gr5 hb5 hl5
           have B5 := Lib.hid ((BC.out.alloc BC.out.size _).grown gr5 (by have := BC.out.size; simp; omega) (by intro k e; injection e with e; omega)))
        | (refine stepApp (by rfl) _ _ (by rfl) wo.heap.size m c4 g4 (nI K) _ _ 0 1 1 [(x : Int)] (by rfl) own4 (by rfl) Y4.out BA.out.size (m + 1) rfl (nI K ++ [(x : Int)]) rfl (by omega) ?_
           intro g5 c5 w5 own5 hc5 gr5 hb5 hl5
           have B5 := Lib.hid (BA.out.grown gr5 BA.out.size (by intro k e; injection e with e; omega))))
      all_goals (have H5 := Lib.hid own5; clear own5 own4 gr4 gr5)
      all_goals (try clear r4)
      all_goals clear QA QB YA YB B1 B2 B3
      all_goals (
        obtain ⟨M, hM⟩ : ∃ M, K ++ [x] = M := ⟨_, rfl⟩
        have HM5 : Hid (nI K ++ [(x : Int)] = nI M) := Lib.hid (by rw [← hM, nI_append]; rfl)
        have HML := Lib.hid (show M.length = m + 1 by rw [← hM, List.length_append, HM.out]; rfl)
        have HMS := Lib.hid (show sumL (ta rows) M = sumL (ta rows) K + ta rows x by rw [← hM, sumL_append, sumL, sumL, Int.add_zero])
        have HKM := Lib.hid (show keptM rows l3 (j + 1) = if sumL (ta rows) M ≤ td rows x then M else M.eraseIdx (bigAt (ta rows) M M.length) by rw [HKS.out, ← hM]; rfl)
        have HMM := Lib.hid (show ∀ y ∈ M, y < l3 from fun y hy => by
          rw [← hM] at hy
          rcases List.mem_append.1 hy with hy | hy
          · exact HMem.out y hy
          · simp only [List.mem_singleton] at hy; omega)
        clear hM
        rw [HM5.out] at H5
        have HB5 := Lib.hid (HBB.out.trans (B5.out.mono HBB.out.size))
        have c0 := (B5.out.cell (p := ⟨bl, offl + j, none⟩) hblo).trans hclo
        have HI5 := Lib.hid (own_at H5.out (by omega))
        have HR5 := Lib.hid (HG1.out.below (HB5.out.mono HB1.out.size))
        clear hclo
        obtain ⟨b2, off2, b3, off3, c8, rfl, hcr, hct, hcw, hcd, _⟩ := row3_at HR5.out HP.out hxl
        have hbk := HBK.out
        rw [List.take_length] at hbk
        have htx := (HB.out x).1
        have hdx := (HB.out x).2.2
        have HKL := Lib.hid (show K.length ≤ 8 by rw [HM.out]; exact hm8)
        have hkb : sumL (ta rows) K ≤ 72 := by have := HKL.out; omega
        have hkb0 := hbk.1
        clear hbk hcw
        obtain ⟨sk, hsk⟩ : ∃ sk, sumL (ta rows) K = sk := ⟨_, rfl⟩
        obtain ⟨tx, htx'⟩ : ∃ tx, ta rows x = tx := ⟨_, rfl⟩
        obtain ⟨dx, hdx'⟩ : ∃ dx, td rows x = dx := ⟨_, rfl⟩
        rw [hsk] at hkb hkb0 HMS ⊢
        rw [htx'] at htx hct HMS
        rw [hdx'] at hdx hcd HKM
        rw [HMS.out] at HKM
        clear hsk htx' hdx'
        by_cases hle : sk + tx ≤ dx
        · have HK1 := Lib.hid (HKM.out.trans (if_pos hle))
          go_wp2_with fail
          go_roundw
          case rel => exact ⟨j + 1, m + 1, c5, g5, by go_num, by omega, rfl, by rw [HK1.out]; exact HML.out, by rw [HK1.out]; exact own_base H5.out HBB.out.size, hc5, by rw [HK1.out, HMS.out], HB5.out⟩
          case measure => simp [intOf] <;> omega
        · have HK2 := Lib.hid (HKM.out.trans (if_neg hle))
          have hcg := HB5.out
          have hM1 : M.length = m + 1 := HML.out
          go_wp2_with fail
          clear hcr hct hcd c0
          go_loopw [7, 8] (fun at' kk wr => ∃ k : Nat, kk = .int .i64 k ∧ 1 ≤ k ∧ k ≤ m + 1 ∧ at' = .int .i64 ((bigAt (ta rows) M k : Nat) : Int) ∧ Drew w5 wr) (fun _ kk _ => m + 1 - (intOf kk).toNat)
          case atStart => exact ⟨1, rfl, Nat.le_refl _, by omega, by simp [bigAt], Drew.refl _⟩
          case round =>
            obtain ⟨k, rfl, hk1, hk2, rfl, hdw⟩ := hrel
            obtain ⟨z, rfl⟩ := hdw
            have hbl := bigAt_lt (ta rows) M k (by omega)
            obtain ⟨bm, offm, e1, _, hcb⟩ := ints_at HI5.out (k := bigAt (ta rows) M k) (by omega)
            cases e1
            rw [Nat.zero_add] at hcb
            have hyb : M.getD (bigAt (ta rows) M k) 0 < l3 := HMM.out _ (getD_mem (by omega))
            obtain ⟨b2', off2', b3', off3', c8', e2, hcr1, hct1, _, _, _⟩ := row3_at HR5.out HP.out hyb
            cases e2
            by_cases hlk : k < m + 1
            · obtain ⟨bm2, offm2, e3, _, hck⟩ := ints_at HI5.out hlk
              cases e3
              rw [Nat.zero_add] at hck
              have hyk : M.getD k 0 < l3 := HMM.out _ (getD_mem (by omega))
              obtain ⟨b4', off4', b5', off5', c9', e4, hcr2, hct2, _, _, _⟩ := row3_at HR5.out HP.out hyk
              cases e4
              have HBG := Lib.hid (show bigAt (ta rows) M (k + 1) = if ta rows (M.getD (bigAt (ta rows) M k) 0) ≤ ta rows (M.getD k 0) then k else bigAt (ta rows) M k from rfl)
              generalize bigAt (ta rows) M k = bg at *
              generalize M.getD bg 0 = yb at *
              generalize M.getD k 0 = yk at *
              generalize ta rows yb = t1 at *
              generalize ta rows yk = t2 at *
              have q1 : (k : Int) < ((m + 1 : Nat) : Int) := by omega
              have q2 : (bg : Int) < ((m + 1 : Nat) : Int) := by omega
              have q3 : (yb : Int) < (l3 : Int) := by omega
              have q4 : (yk : Int) < (l3 : Int) := by omega
              have q5 : bg < m + 1 := by omega
              by_cases hge : t1 ≤ t2
              · have HB2 := Lib.hid (HBG.out.trans (if_pos hge))
                go_wp2_with fail
                go_quiet (fail)
                go_wp2_with fail
                go_roundw
                case rel => exact ⟨k + 1, by go_num, by omega, by omega, by rw [HB2.out], ⟨_, rfl⟩⟩
                case measure => simp [intOf] <;> omega
              · have HB2 := Lib.hid (HBG.out.trans (if_neg hge))
                go_wp2_with fail
                go_quiet (fail)
                go_wp2_with fail
                go_roundw
                case rel => exact ⟨k + 1, by go_num, by omega, by omega, by rw [HB2.out], ⟨_, rfl⟩⟩
                case measure => simp [intOf] <;> omega
            · obtain rfl : k = m + 1 := by omega
              have HSE := Lib.hid (sumL_eraseIdx (f := ta rows) M (bigAt (ta rows) M (m + 1)) (by omega))
              have HEI := Lib.hid (show M.eraseIdx (bigAt (ta rows) M (m + 1)) = M.take (bigAt (ta rows) M (m + 1)) ++ M.drop (bigAt (ta rows) M (m + 1) + 1) from List.eraseIdx_eq_take_drop_succ _ _)
              rw [hM1] at HK2
              rw [HMS.out] at HSE
              have htb := (HB.out (M.getD (bigAt (ta rows) M (m + 1)) 0)).1
              generalize bigAt (ta rows) M (m + 1) = bg at *
              generalize M.getD bg 0 = yb at *
              generalize ta rows yb = t1 at *
              have q1 : ¬ ((m + 1 : Nat) : Int) < ((m + 1 : Nat) : Int) := by omega
              have q2 : (bg : Int) < ((m + 1 : Nat) : Int) := by omega
              have q3 : (yb : Int) < (l3 : Int) := by omega
              have q5 : bg < m + 1 := by omega
              have q6 : (bg : Int) + 1 ≤ ((m + 1 : Nat) : Int) := by omega
              have q7 : bg + 1 ≤ c5 := by omega
              have HTK := Lib.hid (HI5.out.takeI bg (by omega))
              obtain ⟨b1, hb1⟩ : ∃ b1, bg + 1 = b1 := ⟨_, rfl⟩
              have hw1 : IntKind.i64.wrap ((bg : Int) + 1) = (b1 : Int) := by rw [← hb1]; exact IntWalk.i64_in _ (by omega)
              have hb1m : (b1 : Int) ≤ (m : Int) + 1 := by omega
              have hb1n : b1 ≤ m + 1 := by omega
              rw [hb1] at q7 HEI
              have HBG1 := Lib.hid hb1
              have QD : Hid (∃ od : Nat, (if c5 = b1 then (some ⟨g5, 0, none⟩ : Option Addr) else some ⟨g5, b1, none⟩) = some ⟨g5, od, none⟩ ∧ IntsAt w5 (· < w5.heap.size) (some ⟨g5, od, none⟩) (m + 1 - (b1)) ((nI M).drop (b1))) := Lib.hid (by
                by_cases hck : c5 = b1
                · exact ⟨0, by rw [if_pos hck], by have := HI5.out.lenEq; simp at this ⊢; omega, by omega, fun h0 => by omega⟩
                · exact ⟨b1, by rw [if_neg hck], HI5.out.dropI (b1) (by omega)⟩)
              have HZS := Lib.hid (show (nI M).take bg ++ (nI M).drop (b1) = nI (M.eraseIdx bg) by rw [HEI.out, nI_append]; unfold nI; rw [List.map_take, List.map_drop])
              have HEL := Lib.hid (show (M.eraseIdx bg).length = m by rw [List.length_eraseIdx_of_lt (by omega)]; omega)
              have H5Z := Lib.hid (own_drewN H5.out z)
              have HTKZ : Hid (IntsAt (w5.drewN z) (· < (w5.drewN z).heap.size) (some ⟨g5, 0, none⟩) bg ((nI M).take bg)) := Lib.hid (HTK.out.to fun b hb => ⟨hb, rfl⟩)
              obtain ⟨AD, hAD, hD⟩ := QD.out
              have HDZ : Hid (IntsAt (w5.drewN z) (· < (w5.drewN z).heap.size) (some ⟨g5, AD, none⟩) (m + 1 - (b1)) ((nI M).drop (b1))) := Lib.hid (hD.to fun b hb => ⟨hb, rfl⟩)
              have HBZ := Lib.hid (below_drewN HB5.out z)
              have hc1z : (w5.drewN z).cell? ⟨g5, bg, none⟩ = some (.int .i64 (yb : Int)) := hcb
              have hc2z : (w5.drewN z).cell? ⟨b2, off2 + yb, none⟩ = some (.slice (some ⟨b3', off3', none⟩) 3 c8') := hcr1
              have hc3z : (w5.drewN z).cell? ⟨b3', off3', none⟩ = some (.int .i64 t1) := hct1
              obtain ⟨wz, hwz⟩ : ∃ wz, w5.drewN z = wz := ⟨_, rfl⟩
              rw [hwz] at H5Z HTKZ HDZ HBZ hc1z hc2z hc3z ⊢
              clear hwz hD hcb hcr1 hct1
              have QAZ := Lib.hid (World.ownsRow_made (base := wz.heap.size) (size := 1) (e := 3) wz #[] 0 (Nat.le_refl _) (Nat.zero_le _) rfl)
              have B1Z : Hid (Below wz.heap.size wz (wz.alloc (.cells #[] 3)).drew) := Lib.hid ((Below.refl _ _).alloc (Nat.le_refl _) _).drew
              have hbc : bg ≤ c5 := by omega
              clear hb1 q6
              go_wp2_with fail
              go_region_law (first
                | (refine stepApp (by rfl) _ _ (by rfl) wz.heap.size 0 0 wz.heap.size [] (· < wz.heap.size) g5 0 bg c5 ((nI M).take bg) (by rfl) QAZ.out.drew (by rfl) (HTKZ.out.below B1Z.out) B1Z.out.size bg (by omega) ((nI M).take bg) (by simp) (by omega) ?_
                   intro g6 c6 w6 own6 hc6 gr6 hb6 hl6
                   have B6 := Lib.hid (B1Z.out.grown gr6 B1Z.out.size (by intro k e; injection e with e; omega)))
                | (refine stepApp (by rfl) _ _ (by rfl) wz.heap.size bg c6 g6 ((nI M).take bg) (· < wz.heap.size) g5 AD (m + 1 - (b1)) (c5 - (b1)) ((nI M).drop (b1)) (by rfl) own6 (by rfl) (HDZ.out.below B6.out) B6.out.size m (by have := HBG1.out; omega) (nI (M.eraseIdx bg)) HZS.out (by omega) ?_
                   intro g7 c7 w7 own7 hc7 gr7 hb7 hl7
                   have B7 := Lib.hid (B6.out.grown gr7 B6.out.size (by intro k e; injection e with e; omega))))
              go_wp2_with fail
              go_roundw
              case rel => exact ⟨j + 1, m, c7, g7, by go_num, by omega, rfl, by rw [HK2.out]; exact HEL.out, by rw [HK2.out]; exact own_base own7 HBZ.out.size, hc7, by rw [HK2.out, HSE.out], HBZ.out.trans (B7.out.mono HBZ.out.size)⟩
              case measure => simp [intOf] <;> omega)
    · obtain rfl : j = l3 := by omega
      go_wp2_with fail
      go_ret
      exact ⟨_, _, _, rfl, by omega, own_base HOWN.out HB1.out.size, HB1.out.trans (HBB.out.mono HB1.out.size)⟩
end Go.Proofs.YtjcbpnffmebihaaGreatDoor
