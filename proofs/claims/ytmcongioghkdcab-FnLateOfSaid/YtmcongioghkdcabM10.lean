import Derived.Test.YtmcongioghkdcabM8
import Derived.Test.YtmcongioghkdcabM9
import Derived.Test.YtmcongioghkdcabM5
import Derived.Test.YtmcongioghkdcabM6
import Derived.Test.YtmcongioghkdcabM2
namespace Go.Proofs.Ytmcongioghkdcab
open Go.RowKit Go.WideShapes

/-- the latest of the first k + 1 jobs -/
def latM (t d : Nat → Int) (l : List Nat) : Nat → Int
  | 0 => sumL t (l.take 1) - d (l.getD 0 0)
  | k + 1 => max (latM t d l k) (sumL t (l.take (k + 2)) - d (l.getD (k + 1) 0))
theorem latM_iff {t d : Nat → Int} {l : List Nat} {L : Int} : ∀ k, latM t d l k ≤ L ↔ ∀ j, j ≤ k → sumL t (l.take (j + 1)) - d (l.getD j 0) ≤ L := by
  intro k
  induction k with
  | zero => exact ⟨fun h j hj => by obtain rfl : j = 0 := by omega
                                    exact h, fun h => h 0 (Nat.le_refl _)⟩
  | succ k ih =>
    rw [latM]
    constructor
    · intro h j hj
      rcases Nat.lt_or_eq_of_le hj with h1 | rfl
      · exact (ih.1 (by omega)) j (by omega)
      · show sumL t (l.take (k + 2)) - _ ≤ L
        omega
    · intro h
      have h1 := ih.2 (fun j hj => h j (by omega))
      have h2 := h (k + 1) (Nat.le_refl _)
      rw [show k + 1 + 1 = k + 2 by omega] at h2
      omega
theorem latM_bd {t d : Nat → Int} (ht : ∀ x, 0 ≤ t x ∧ t x ≤ 9) (hd : ∀ x, 0 ≤ d x ∧ d x ≤ 60) {l : List Nat} (hl : l.length ≤ 8) : ∀ k, -60 ≤ latM t d l k ∧ latM t d l k ≤ 72 := by
  intro k
  induction k with
  | zero => have := end_bd ht hl 1; have := hd (l.getD 0 0); rw [latM]; omega
  | succ k ih => have := end_bd ht hl (k + 2); have := hd (l.getD (k + 1) 0); rw [latM]; omega
theorem allLe_lat {t d : Nat → Int} {l : List Nat} {L : Int} (hl : 0 < l.length) : allLe t d L 0 l ↔ latM t d l (l.length - 1) ≤ L := by
  rw [allLe_iff, latM_iff]
  exact ⟨fun h j hj => by have := h j (by omega); omega, fun h k hk => by have := h k (by omega); omega⟩
def latestB (rows : List (List Int)) (o : List Int) : Bool := rowFine rows o && decide (0 < rows.length)
def latestRes (rows : List (List Int)) (o : List Int) : Int := if latestB rows o then latM (ta rows) (td rows) (nO o) (rows.length - 1) else 0
set_option maxRecDepth 100000 in
set_option maxHeartbeats 4000000 in
theorem latestOf_spec (a : Option Addr) (len cap : Nat) (rows : List (List Int)) (a2 : Option Addr) (len2 cap2 : Nat) (o : List Int) (w : World) (h : RowsAt w (· < w.heap.size) a len rows) (g : IntsAt w (· < w.heap.size) a2 len2 o) :
    Calls Try.prog 9 #[.slice a len cap, .slice a2 len2 cap2] w (IntBool w (latestRes rows o) (latestB rows o)) := by
  have HL := Lib.hid h.lenEq
  cases hf : rowFine rows o
  · have HB := Lib.hid (show latestB rows o = false by unfold latestB; rw [hf]; rfl)
    have HR := Lib.hid (show latestRes rows o = 0 by unfold latestRes; rw [HB.out]; rfl)
    rw [HR.out, HB.out]
    go_enter Try.func9, Try.ntmps9
    go_wp2_with fail
    refine (validRow_any _ _ a len cap rows a2 len2 cap2 o w h g).mono ?_
    rintro e w' ⟨rfl, rfl⟩
    rw [hf]
    go_wp2_with fail
    go_ret2
    exact ⟨rfl, Below.refl _ _⟩
  · obtain ⟨hp, hO⟩ := rowFine_get hf
    have hl8 : len ≤ 8 := by have := (jobs_get hp).1; have := HL.out; omega
    have hl2 : len2 = len := by have := hO.2; have := HL.out; have := g.lenEq; omega
    subst hl2
    by_cases h0 : 0 < len2
    · have HB := Lib.hid (show latestB rows o = true by unfold latestB; rw [hf, HL.out, decide_eq_true h0]; rfl)
      have HR := Lib.hid (show latestRes rows o = latM (ta rows) (td rows) (nO o) (len2 - 1) by unfold latestRes; rw [HB.out, HL.out]; rfl)
      have HNL := Lib.hid (show (nO o).length = len2 by unfold nO; rw [List.length_map]; exact g.lenEq)
      have HO := Lib.hid (show ∀ x ∈ o, 0 ≤ x ∧ x < (len2 : Int) by have := hO.1.1; rwa [HL.out] at this)
      have HP := Lib.hid (jobs_get hp).2
      have HBD := Lib.hid (fun x => j_bd hp x)
      have HEB := Lib.hid (fun k => end_bd (fun x => (HBD.out x).1) (l := nO o) (by rw [HNL.out]; exact hl8) k)
      have HMB := Lib.hid (latM_bd (fun x => (HBD.out x).1) (fun x => (HBD.out x).2.2) (l := nO o) (by rw [HNL.out]; exact hl8))
      have HG := Lib.hid h
      have HH := Lib.hid g
      have HVR := Lib.hid (validRow_any _ _ a len2 cap rows a2 len2 cap2 o w h g)
      have HEN := Lib.hid (ends_any _ _ a len2 cap rows a2 len2 cap2 o w h g (fun _ hb => hb) (fun _ hb => hb) hp HO.out hl8)
      rw [hf] at HVR
      rw [HR.out, HB.out]
      have h0e : ((len2 : Int) == 0) = false := by simp; omega
      clear hf hp hO h g
      go_enter Try.func9, Try.ntmps9
      go_wp2_with fail
      refine HVR.out.mono ?_
      rintro e w' ⟨rfl, rfl⟩
      go_wp2_with fail
      refine (HEN.out.mono (fun _ _ h => h.ints)).mono ?_
      rintro e w1 ⟨a3, l3, c3, rfl, h3, hc3, hb1⟩
      have hl3 : l3 = len2 := by have := h3.lenEq; rw [endsL_len] at this; exact this.symm
      subst hl3
      have HB1 := Lib.hid hb1
      have HE3 := Lib.hid h3
      have HG1 := Lib.hid (HG.out.below hb1)
      have HH1 := Lib.hid (HH.out.below hb1)
      clear hb1 h3
      obtain ⟨b, off, q, e1, hq, hql, hc⟩ := ord_at HH1.out HO.out h0
      obtain ⟨b2, off2, b3, off3, c4, e2, hcr, hct, hcw, hcd, _⟩ := row3_at HG1.out HP.out hql
      obtain ⟨b5, off5, e3, hce⟩ := ends_cell HE3.out h0
      rw [Nat.add_zero] at hc hce
      subst e1 e2 e3
      have hqd : (nO o).getD 0 0 = q := by rw [List.getD_eq_getElem?_getD, hq]; rfl
      have HM0 := Lib.hid (show latM (ta rows) (td rows) (nO o) 0 = sumL (ta rows) ((nO o).take (0 + 1)) - td rows q by rw [latM, hqd])
      have hm0 := HEB.out (0 + 1)
      have hd0 := (HBD.out q).2.2
      have hqI : (q : Int) < (l3 : Int) := by omega
      have h0I : (0 : Int) < (l3 : Int) := by omega
      clear hq hqd
      generalize sumL (ta rows) ((nO o).take (0 + 1)) = en at *
      generalize td rows q = y at *
      go_wp2_with fail
      go_quiet (fail)
      go_wp2_with fail
      clear hc hcr hct hcw hcd hce
      go_loopw [7, 8] (fun s i wr => ∃ k : Nat, k < l3 ∧ i = .int .i64 ((k + 1 : Nat) : Int) ∧ s = .int .i64 (latM (ta rows) (td rows) (nO o) k) ∧ Drew w1 wr) (fun _ i _ => l3 - (intOf i).toNat)
      case atStart => exact ⟨0, h0, rfl, by rw [HM0.out], ⟨_, rfl⟩⟩
      case round =>
        obtain ⟨k, hk, rfl, rfl, hdw⟩ := hrel
        obtain ⟨z, rfl⟩ := hdw
        by_cases hlt : k + 1 < l3
        · obtain ⟨b', off', q', e1, hq, hql', hc⟩ := ord_at HH1.out HO.out hlt
          cases e1
          obtain ⟨b2', off2', b3', off3', c4', e2, hcr, hct, hcw, hcd, _⟩ := row3_at HG1.out HP.out hql'
          cases e2
          obtain ⟨b5', off5', e3, hce⟩ := ends_cell HE3.out hlt
          cases e3
          have hqd : (nO o).getD (k + 1) 0 = q' := by rw [List.getD_eq_getElem?_getD, hq]; rfl
          have HN := Lib.hid (show latM (ta rows) (td rows) (nO o) (k + 1) = max (latM (ta rows) (td rows) (nO o) k) (sumL (ta rows) ((nO o).take (k + 1 + 1)) - td rows q') by rw [latM, hqd])
          have hmb := HMB.out k
          have heb := HEB.out (k + 1 + 1)
          have hbd := (HBD.out q').2.2
          have hkl : ((k + 1 : Nat) : Int) < (l3 : Int) := by omega
          have hqI' : (q' : Int) < (l3 : Int) := by omega
          clear hq hqd
          obtain ⟨k1, hk1⟩ : ∃ k1, k + 1 = k1 := ⟨_, rfl⟩
          rw [hk1] at HN hlt hc hce hkl heb ⊢
          generalize sumL (ta rows) ((nO o).take (k1 + 1)) = en' at *
          generalize latM (ta rows) (td rows) (nO o) k = s at *
          generalize td rows q' = y' at *
          by_cases hmx : s < en' - y'
          · have HN2 := Lib.hid (HN.out.trans (show _ = en' - y' by omega))
            go_wp2_with fail
            go_quiet (fail)
            go_wp2_with fail
            go_roundw
            case rel => exact ⟨k1, by omega, by go_num, by rw [HN2.out], ⟨_, rfl⟩⟩
            case measure => simp [intOf] <;> omega
          · have HN2 := Lib.hid (HN.out.trans (show _ = s by omega))
            go_wp2_with fail
            go_quiet (fail)
            go_wp2_with fail
            go_roundw
            case rel => exact ⟨k1, by omega, by go_num, by rw [HN2.out], ⟨_, rfl⟩⟩
            case measure => simp [intOf] <;> omega
        · have hke : l3 - 1 = k := by omega
          have hkI : ¬ ((k + 1 : Nat) : Int) < (l3 : Int) := by omega
          have HKE := Lib.hid hke
          clear hke
          go_wp2_with fail
          go_ret2
          rw [HKE.out]
          exact ⟨rfl, HB1.out.trans (Drew.below ⟨_, rfl⟩ _)⟩
    · obtain rfl : len2 = 0 := by omega
      have HB := Lib.hid (show latestB rows o = false by unfold latestB; rw [HL.out]; simp)
      have HR := Lib.hid (show latestRes rows o = 0 by unfold latestRes; rw [HB.out]; rfl)
      have HVR := Lib.hid (validRow_any _ _ a 0 cap rows a2 0 cap2 o w h g)
      rw [hf] at HVR
      rw [HR.out, HB.out]
      go_enter Try.func9, Try.ntmps9
      go_wp2_with fail
      refine HVR.out.mono ?_
      rintro e w' ⟨rfl, rfl⟩
      go_wp2_with fail
      go_ret2
      exact ⟨rfl, Below.refl _ _⟩
set_option maxRecDepth 100000 in
set_option maxHeartbeats 2000000 in
theorem late_any (a : Option Addr) (len cap : Nat) (rows : List (List Int)) (a2 : Option Addr) (cap2 : Nat) (o : List Int) (w : World) (h : RowsAt w (· < w.heap.size) a len rows) (g : IntsAt w (· < w.heap.size) a2 len o) (hp : jobsM rows = true) (hl8 : len ≤ 8) (ho : ∀ x ∈ o, 0 ≤ x ∧ x < (len : Int)) :
    Calls Try.prog 33 #[.slice a len cap, .slice a2 len cap2] w (ValPost w (.int .i64 (costG (ta rows) (lateG (td rows)) 0 (nO o)))) := by
  have HNL := Lib.hid (show (nO o).length = len by unfold nO; rw [List.length_map]; exact g.lenEq)
  have HO := Lib.hid ho
  have HP := Lib.hid (jobs_get hp).2
  have HB := Lib.hid (fun x => j_bd hp x)
  have HCB := Lib.hid (fun k => cost_bd (fun x => (HB.out x).1) (late_bd (td rows)) (l := nO o) (by rw [HNL.out]; exact hl8) k)
  have HEB := Lib.hid (fun k => end_bd (fun x => (HB.out x).1) (l := nO o) (by rw [HNL.out]; exact hl8) k)
  have HG := Lib.hid h
  have HH := Lib.hid g
  have HEN := Lib.hid (ends_any _ _ a len cap rows a2 len cap2 o w h g (fun _ hb => hb) (fun _ hb => hb) hp HO.out hl8)
  clear hp ho h g
  go_enter Try.func33, Try.ntmps33
  go_wp2_with fail
  refine (HEN.out.mono (fun _ _ h => h.ints)).mono ?_
  rintro e w1 ⟨a3, l3, c3, rfl, h3, hc3, hb1⟩
  have hl3 : l3 = len := by have := h3.lenEq; rw [endsL_len] at this; exact this.symm
  subst hl3
  have HB1 := Lib.hid hb1
  have HE3 := Lib.hid h3
  have HG1 := Lib.hid (HG.out.below hb1)
  have HH1 := Lib.hid (HH.out.below hb1)
  clear hb1 h3
  go_wp2_with fail
  go_loopw [6, 7] (fun s i wr => ∃ k : Nat, k ≤ l3 ∧ i = .int .i64 k ∧ s = .int .i64 (costG (ta rows) (lateG (td rows)) 0 ((nO o).take k)) ∧ Drew w1 wr) (fun _ i _ => l3 - (intOf i).toNat)
  case atStart => exact ⟨0, Nat.zero_le _, rfl, rfl, Drew.refl _⟩
  case round =>
    obtain ⟨k, hk, rfl, rfl, hdw⟩ := hrel
    obtain ⟨z, rfl⟩ := hdw
    by_cases hlt : k < l3
    · obtain ⟨b, off, q, e1, hq, hql, hc⟩ := ord_at HH1.out HO.out hlt
      obtain ⟨b2, off2, b3, off3, c4, e2, hcr, hct, hcw, hcd, _⟩ := row3_at HG1.out HP.out hql
      obtain ⟨b5, off5, e3, hce⟩ := ends_cell HE3.out hlt
      subst e1 e2 e3
      have HN := Lib.hid (cost_step (t := ta rows) (g := lateG (td rows)) hq)
      have hcb := HCB.out k
      have hkl : (k : Int) < (l3 : Int) := by omega
      have hqI : (q : Int) < (l3 : Int) := by omega
      have HW := Lib.hid (show lateG (td rows) q (sumL (ta rows) ((nO o).take (k + 1))) = if td rows q < sumL (ta rows) ((nO o).take (k + 1)) then 1 else 0 from rfl)
      rw [HW.out] at HN
      clear hq hct
      generalize sumL (ta rows) ((nO o).take (k + 1)) = en at *
      generalize costG (ta rows) (lateG (td rows)) 0 ((nO o).take k) = s at *
      generalize td rows q = y at *
      by_cases hmx : y < en
      · have HN2 := Lib.hid (HN.out.trans (by rw [if_pos hmx] : _ = s + 1))
        go_wp2_with fail
        go_quiet (fail)
        go_wp2_with fail
        go_roundw
        case rel => exact ⟨k + 1, by omega, by go_num, by rw [HN2.out], ⟨_, rfl⟩⟩
        case measure => simp [intOf] <;> omega
      · have HN2 := Lib.hid (HN.out.trans (by rw [if_neg hmx, Int.add_zero] : _ = s))
        go_wp2_with fail
        go_quiet (fail)
        go_wp2_with fail
        go_roundw
        case rel => exact ⟨k + 1, by omega, by go_num, by rw [HN2.out], ⟨_, rfl⟩⟩
        case measure => simp [intOf] <;> omega
    · obtain rfl : k = l3 := by omega
      have HE := Lib.hid (show (nO o).take k = nO o from List.take_of_length_le (by rw [HNL.out]; exact Nat.le_refl _))
      rw [HE.out]
      go_wp2_with fail
      go_ret
      exact ⟨rfl, HB1.out.trans (Drew.below ⟨_, rfl⟩ _)⟩
theorem lateOf_spec (a : Option Addr) (len cap : Nat) (rows : List (List Int)) (a2 : Option Addr) (len2 cap2 : Nat) (o : List Int) (w : World) (h : RowsAt w (· < w.heap.size) a len rows) (g : IntsAt w (· < w.heap.size) a2 len2 o) :
    Calls Try.prog 18 #[.slice a len cap, .slice a2 len2 cap2] w (ValPost w (.int .i64 (lateRes rows o))) := by
  have HL := Lib.hid h.lenEq
  cases hf : rowFine rows o
  · have HR := Lib.hid (show lateRes rows o = -1 by unfold lateRes; rw [hf]; rfl)
    rw [HR.out]
    go_enter Try.func18, Try.ntmps18
    go_wp2_with fail
    refine (validRow_any _ _ a len cap rows a2 len2 cap2 o w h g).mono ?_
    rintro e w' ⟨rfl, rfl⟩
    rw [hf]
    go_wp2_with fail
    go_ret
    exact ⟨rfl, Below.refl _ _⟩
  · have HR := Lib.hid (show lateRes rows o = costG (ta rows) (lateG (td rows)) 0 (nO o) by unfold lateRes; rw [hf]; rfl)
    obtain ⟨hp, hO⟩ := rowFine_get hf
    have hl8 : len ≤ 8 := by have := (jobs_get hp).1; have := HL.out; omega
    have hl2 : len2 = len := by have := hO.2; have := HL.out; have := g.lenEq; omega
    subst hl2
    have HLA := Lib.hid (late_any a len2 cap rows a2 cap2 o w h g hp hl8 (by have := hO.1.1; rwa [HL.out] at this))
    have HVR := Lib.hid (validRow_any _ _ a len2 cap rows a2 len2 cap2 o w h g)
    rw [hf] at HVR
    rw [HR.out]
    clear hf hp hO h g
    go_enter Try.func18, Try.ntmps18
    go_wp2_with fail
    refine HVR.out.mono ?_
    rintro e w' ⟨rfl, rfl⟩
    go_wp2_with fail
    refine HLA.out.mono ?_
    rintro e w1 ⟨rfl, hb⟩
    go_wp2_with fail
    go_ret
    exact ⟨rfl, hb⟩
end Go.Proofs.Ytmcongioghkdcab
namespace Go.Proofs.Ytmcongioghkdcab
open Go.RowKit Go.WideShapes

theorem sumL_eraseIdx {f : Nat → Int} : ∀ (l : List Nat) (k : Nat), k < l.length → sumL f (l.eraseIdx k) = sumL f l - f (l.getD k 0) := by
  intro l
  induction l with
  | nil => intro k hk; simp at hk
  | cons x l ih =>
    intro k hk
    cases k with
    | zero => rw [List.eraseIdx_cons_zero, sumL]; simp; omega
    | succ k => rw [List.eraseIdx_cons_succ, sumL, sumL, ih k (by simpa using hk), List.getD_cons_succ]; omega
def nI (l : List Nat) : List Int := l.map (fun x : Nat => (x : Int))
theorem nI_len (l : List Nat) : (nI l).length = l.length := by simp [nI]
theorem nI_get {l : List Nat} {k : Nat} {x : Int} (h : (nI l)[k]? = some x) : x = ((l.getD k 0 : Nat) : Int) ∧ k < l.length := by
  unfold nI at h
  rw [List.getElem?_map] at h
  cases hq : l[k]? with
  | none => rw [hq] at h; cases h
  | some y =>
    rw [hq] at h
    simp only [Option.map_some, Option.some.injEq] at h
    exact ⟨by rw [List.getD_eq_getElem?_getD, hq]; exact h.symm, (List.getElem?_eq_some_iff.1 hq).1⟩
theorem nI_append (l m : List Nat) : nI (l ++ m) = nI l ++ nI m := by simp [nI]
theorem ints_at {w : World} {S : Nat → Prop} {a : Option Addr} {n : Nat} {l : List Nat} (h : IntsAt w S a n (nI l)) {k : Nat} (hk : k < n) : ∃ b off, a = some ⟨b, off, none⟩ ∧ S b ∧ w.cell? ⟨b, off + k, none⟩ = some (.int .i64 ((l.getD k 0 : Nat) : Int)) := by
  obtain ⟨b, off, e, hS, hc⟩ := h.cells (by omega)
  obtain ⟨b', off', x, e', hx, _⟩ := h.get hk
  have := hc k x hx
  rw [(nI_get hx).1] at this
  exact ⟨b, off, e, hS, this⟩
theorem own_at {w : World} {B g k cp : Nat} {l : List Nat} (h : w.ownsRow B 3 1 (.slice (some ⟨g, 0, none⟩) k cp) k ((nI l).map (.int .i64))) (hk : k ≤ 1048576) : IntsAt w (· < w.heap.size) (some ⟨g, 0, none⟩) k (nI l) := by
  obtain ⟨a', c', e', _, h'⟩ := own_ints h (by omega)
  injection e' with e1 _ _
  subst e1
  exact h'.to fun b hb => ⟨hb.2, rfl⟩
/-- those that are kept of the first j by due times -/
def keptM (rows : List (List Int)) (n j : Nat) : List Nat := keepL (ta rows) (td rows) ((sortE (ahD (td rows)) n).take j)
theorem keptM_sub {rows : List (List Int)} (hp : jobsM rows = true) (n j : Nat) : (keptM rows n j).Sublist ((sortE (ahD (td rows)) n).take j) := by
  refine (kept_all (fun x => (j_bd hp x).1.1) _ ((sortE_nodup _ n).sublist (List.take_sublist _ _)) ?_).sub
  exact (sortD (td rows) n).sublist (List.take_sublist _ _)
theorem keptM_succ {rows : List (List Int)} {n j x : Nat} (h : (sortE (ahD (td rows)) n)[j]? = some x) : keptM rows n (j + 1) = keepS (ta rows) (td rows) (keptM rows n j) x := by
  unfold keptM; rw [take_get h, keepL_snoc]
theorem kept_len {rows : List (List Int)} (hp : jobsM rows = true) {n j : Nat} : (keptM rows n j).length ≤ j := by
  have := (keptM_sub hp n j).length_le; rw [List.length_take] at this; omega
theorem kept_mem {rows : List (List Int)} (hp : jobsM rows = true) {n j x : Nat} (h : x ∈ keptM rows n j) : x < n :=
  sortE_mem.1 (List.mem_of_mem_take ((keptM_sub hp n j).subset h))
/-- what KeptOnTime answers -/
def keptRes (rows : List (List Int)) : List Int := if jobsM rows = true then nI (keptM rows rows.length rows.length) else []
end Go.Proofs.Ytmcongioghkdcab
namespace Go.Proofs.Ytmcongioghkdcab
open Go.RowKit Go.WideShapes

theorem ltX_bd {rows : List (List Int)} (hp : jobsM rows = true) {n s : Nat} (hn : n ≤ 8) (hs : s < 2 ^ n) : 0 ≤ ltX (ta rows) (tb rows) (td rows) n s ∧ ltX (ta rows) (tb rows) (td rows) n s ≤ 5600 := by
  refine ⟨ltX_nn (fun x => (j_bd hp x).2.1.1) s s (Nat.le_refl _) hs, ?_⟩
  obtain ⟨l, h1, h2, _, h4⟩ := lt_is (t := ta rows) (w := tb rows) (d := td rows) (fun x => (j_bd hp x).2.1.1) (n := n) s s (Nat.le_refl _) hs
  rw [← h4]
  have hl : l.length ≤ 8 := by
    have := List.Nodup.length_le_of_subset h1 (fun x hx => List.mem_range.2 (h2 x hx))
    rw [List.length_range] at this; omega
  have := (cost_bd (fun x => (j_bd hp x).1) (tard_bd hp) hl l.length).2
  rwa [List.take_length] at this
theorem bsum_bd {f : Nat → Int} (h : ∀ x, 0 ≤ f x ∧ f x ≤ 9) (s : Nat) : ∀ n, 0 ≤ bsum f s n ∧ bsum f s n ≤ 9 * (n : Int)
  | 0 => by simp [bsum]
  | n + 1 => by have := bsum_bd h s n; have := h n; rw [bsum]; split <;> omega
theorem scanL_bd {w d : Nat → Int} {tb : List Int} {tm : Int} {s : Nat} (hw : ∀ x, 0 ≤ w x ∧ w x ≤ 9) (hd : ∀ x, 0 ≤ d x ∧ d x ≤ 60) (htm : 0 ≤ tm ∧ tm ≤ 72) (htb : ∀ q, 0 ≤ tb.getD q 0 ∧ tb.getD q 0 ≤ 5600) : ∀ n, -1 ≤ scanL w d tb tm s n ∧ scanL w d tb tm s n ≤ 6300
  | 0 => by simp [scanL]
  | n + 1 => by
    have h1 := scanL_bd (s := s) hw hd htm htb n
    have h2 := htb (s - 2 ^ n)
    have h3 := hd n
    have h4 := mul_boxJ (hw n).1 (hw n).2 (show 0 ≤ max (tm - d n) 0 by omega) (show max (tm - d n) 0 ≤ 72 by omega)
    have h5 : tardG w d n tm = w n * max (tm - d n) 0 := rfl
    rw [scanL]
    split <;> omega
/-- what LeastTardy answers -/
def ltRes (rows : List (List Int)) : Int := if jobsM rows = true then ltX (ta rows) (tb rows) (td rows) rows.length (2 ^ rows.length - 1) else -1
end Go.Proofs.Ytmcongioghkdcab
namespace Go.Proofs.Ytmcongioghkdcab
open Go.RowKit Go.WideShapes

theorem cloM_false {A : List Nat} {s k : Nat} (h : cloM A s (k + 1) = false) : ∀ n, k < n → cloM A s n = false
  | n + 1, hn => by
    rcases Nat.lt_or_eq_of_le (Nat.le_of_lt_succ hn) with h1 | rfl
    · rw [cloM, cloM_false h n h1]; rfl
    · exact h
end Go.Proofs.Ytmcongioghkdcab
namespace Go.Proofs.Ytmcongioghkdcab

theorem scanP_bd {T : List Int} {c : Int} {t : List Int} {s : Nat} {B : Int} (h0 : -1 ≤ B) (hB : ∀ r, r < s → t.getD r 0 + 1 ≤ B) : ∀ R, R ≤ s → -1 ≤ scanP T c t s R ∧ scanP T c t s R ≤ B
  | 0, _ => ⟨Int.le_refl _, h0⟩
  | R + 1, h => by
    have := scanP_bd (T := T) (c := c) h0 hB R (by omega)
    have h1 := hB R (by omega)
    rw [scanP]; split
    · rename_i h2; have := h2.1.2.1; omega
    · exact this
theorem stP_bd {T : List Int} {A : List Nat} {c : Int} : ∀ N s, s ≤ N → -1 ≤ stP T A c s ∧ stP T A c s ≤ s
  | N, 0, _ => by show (-1 : Int) ≤ 0 ∧ (0 : Int) ≤ 0; omega
  | N + 1, s + 1, h => by
    rw [stP_succ]; unfold nxtP; split
    · exact scanP_bd (B := ((s + 1 : Nat) : Int)) (by omega) (fun r hr => by rw [tabP_at (show r ≤ s by omega)]; have := stP_bd (T := T) (A := A) (c := c) N r (by omega); omega) (s + 1) (Nat.le_refl _)
    · omega
theorem tabP_step (T : List Int) (A : List Nat) (c : Int) {k : Nat} (h : 1 ≤ k) : tabP T A c k = tabP T A c (k - 1) ++ [nxtP T A c (tabP T A c (k - 1)) k] := by
  obtain ⟨d, rfl⟩ : ∃ d, k = d + 1 := ⟨k - 1, by omega⟩
  rfl
theorem tab_bd {T : List Int} {A : List Nat} {c : Int} {k r : Nat} (h : r < k) : -1 ≤ (tabP T A c (k - 1)).getD r 0 ∧ (tabP T A c (k - 1)).getD r 0 ≤ r := by
  rw [tabP_at (show r ≤ k - 1 by omega)]; exact stP_bd r r (Nat.le_refl _)
theorem scan_bd {T : List Int} {A : List Nat} {c : Int} {k R : Nat} (h : R ≤ k) : -1 ≤ scanP T c (tabP T A c (k - 1)) k R ∧ scanP T c (tabP T A c (k - 1)) k R ≤ k :=
  scanP_bd (by omega) (fun r hr => by have := tab_bd (T := T) (A := A) (c := c) hr; omega) R h
end Go.Proofs.Ytmcongioghkdcab
namespace Go.Proofs.Ytmcongioghkdcab
open Go.RowKit Go.WideShapes

theorem own_lit (w : World) (xs : List Int) (len : Nat) (hl : xs.length = len) (hs : len ≤ 1048576) : (w.alloc (.cells (cellsOf xs) 3)).ownsRow w.heap.size 3 1 (.slice (some ⟨w.heap.size, 0, none⟩) len len) len (xs.map (.int .i64)) :=
  ⟨by simp [hl], .inr ⟨w.heap.size, len, cellsOf xs, rfl, Nat.le_refl _, heap_alloc_new w _, Nat.le_refl _, by unfold maxLen; omega, by simp [cellsOf, hl], by simp [cellsOf]; exact List.take_of_length_le (by simp [hl])⟩⟩
theorem drew_two {a b c : World} (h1 : Drew a b) (h2 : Drew b c) : Drew a c := by obtain ⟨q, rfl⟩ := h2; exact h1.drew q
end Go.Proofs.Ytmcongioghkdcab
namespace Go.Proofs.Ytmcongioghkdcab
open Go.RowKit Go.WideShapes

def lineP (T ys : List Int) (c : Int) : Prop := (∀ k, k < T.length → T.getD k 0 ≤ c) ∧ tasksP T ys ∧ inB 1 60 c = true
instance (T ys : List Int) (c : Int) : Decidable (lineP T ys c) := by unfold lineP; infer_instance
def lineM (T ys : List Int) (c : Int) : Bool := decide (lineP T ys c)
theorem lineM_yes {T ys : List Int} {c : Int} (h : lineP T ys c) : lineM T ys c = true := decide_eq_true h
theorem lineM_no {T ys : List Int} {c : Int} (h : ¬ lineP T ys c) : lineM T ys c = false := decide_eq_false h
theorem lineM_get {T ys : List Int} {c : Int} (h : lineM T ys c = true) : lineP T ys c := of_decide_eq_true h
theorem lineP_c {T ys : List Int} {c : Int} (h : lineP T ys c) : 1 ≤ c ∧ c ≤ 60 := by simpa [inB] using h.2.2
def fewRes (T ys : List Int) (c : Int) : Int := if lineP T ys c then fewM T (natsOf ys) c else -1
end Go.Proofs.Ytmcongioghkdcab
namespace Go.Proofs.Ytmcongioghkdcab

/-- how many tasks a set has -/
def popM (s : Nat) : Int := 6 - (undone s 6 : Int)
theorem popM_bd (s : Nat) : 0 ≤ popM s ∧ popM s ≤ 6 := by unfold popM; have := undone_le s 6; omega
theorem top_of {s n : Nat} (h0 : s ≠ 0) (h : s < 2 ^ n) : ∃ q r, q < n ∧ s = r + 2 ^ q ∧ r < 2 ^ q := by
  have h1 := Nat.log2_self_le h0
  have h2 := Nat.lt_log2_self (n := s)
  rw [Nat.pow_succ] at h2
  exact ⟨s.log2, s - 2 ^ s.log2, (Nat.pow_lt_pow_iff_right (by omega)).1 (Nat.lt_of_le_of_lt h1 h), by omega, by omega⟩
theorem clo_zero (A : List Nat) (n : Nat) : cloM A 0 n = true := (cloM_iff n).mpr fun i _ h => by simp at h
theorem st_not {T : List Int} {A : List Nat} {c : Int} {s : Nat} (h : cloM A s A.length = false) : stP T A c s = -1 := by
  cases s with
  | zero => rw [clo_zero] at h; cases h
  | succ s => rw [stP_succ]; unfold nxtP; rw [h]; rfl
/-- a set that can stand needs no more places than it has tasks -/
theorem st_pop {T : List Int} {A : List Nat} {c : Int} (hA : ∀ i k, (A.getD i 0).testBit k = true → k < i) (hc : 0 ≤ c) (hT : ∀ k, k < T.length → T.getD k 0 ≤ c) :
    ∀ N s, s ≤ N → s < 2 ^ 6 → cloM A s A.length = true → 0 ≤ stP T A c s ∧ stP T A c s ≤ popM s
  | _, 0, _, _, _ => ⟨Int.le_refl _, (popM_bd 0).1⟩
  | N + 1, s + 1, hs, h6, hcl => by
    obtain ⟨q, r, hq, he, hr⟩ := top_of (show s + 1 ≠ 0 by omega) h6
    have hrq : r.testBit q = false := Nat.testBit_lt_two_pow hr
    have hb := add_bit hrq
    rw [← he] at hb
    have hrs : r < s + 1 := by have := Nat.two_pow_pos q; omega
    have hcr : cloM A r A.length = true := (cloM_iff _).mpr fun i hi hri k hk => by
      have h1 := (cloM_iff _).mp hcl i hi (by rw [hb, hri]; rfl) k hk
      have h2 := hA i k hk
      have h3 : i < q := by
        rcases Nat.lt_or_ge i q with h | h
        · exact h
        · rw [Nat.testBit_lt_two_pow (Nat.lt_of_lt_of_le hr (Nat.pow_le_pow_right (by omega) h))] at hri; cases hri
      rw [hb] at h1
      simp only [Bool.or_eq_true, decide_eq_true_eq] at h1
      rcases h1 with h1 | h1
      · exact h1
      · omega
    have ih := st_pop hA hc hT N r (by omega) (by omega) hcr
    have hsub : r &&& (s + 1) = r := sub_iff.mpr fun i hi => by rw [hb, hi]; rfl
    have hld : csum T (fun i => (dif (s + 1) r).testBit i) T.length ≤ c := by
      rw [csum_congr (Q := fun i => i == q) _ fun i _ => by
        rw [dif_bit, hb]
        by_cases h : i = q
        · subst h; simp [hrq]
        · cases r.testBit i <;> simp [h]]
      rw [csum_one]
      split
      · rename_i h; exact hT q h
      · exact hc
    have hsc := scanP_le (T := T) (c := c) (t := tabP T A c s) (s := s + 1) (s + 1) r hrs ((okR_tab (by omega)).mpr ⟨hsub, ih.1, hld⟩)
    rw [tabP_at (show r ≤ s by omega)] at hsc
    rw [stP_succ]
    unfold nxtP
    rw [if_pos hcl]
    have hp := undone_add hrq 6 hq
    rw [← he] at hp
    unfold popM at ih ⊢
    omega
/-- the fewest places of a set, as the program counts them -/
def fewC (T : List Int) (A : List Nat) (c : Int) (s : Nat) : Int := if cloM A s A.length = true then stP T A c s else 7
def okC (T : List Int) (c : Int) (s r : Nat) : Prop := dif r s = 0 ∧ csum T (fun i => (dif s r).testBit i) T.length ≤ c
instance (T : List Int) (c : Int) (s r : Nat) : Decidable (okC T c s r) := by unfold okC; infer_instance
def runC (T : List Int) (A : List Nat) (c : Int) (s : Nat) : Nat → Int
  | 0 => popM s
  | r + 1 => if okC T c s r then min (runC T A c s r) (fewC T A c r + 1) else runC T A c s r
theorem fewC_bd {T : List Int} {A : List Nat} {c : Int} (hA : ∀ i k, (A.getD i 0).testBit k = true → k < i) (hc : 0 ≤ c) (hT : ∀ k, k < T.length → T.getD k 0 ≤ c) {s : Nat} (h6 : s < 2 ^ 6) : 0 ≤ fewC T A c s ∧ fewC T A c s ≤ 7 := by
  unfold fewC
  split
  · rename_i h; have := st_pop hA hc hT s s (Nat.le_refl _) h6 h; have := popM_bd s; omega
  · omega
theorem runC_scan {T : List Int} {A : List Nat} {c : Int} (hA : ∀ i k, (A.getD i 0).testBit k = true → k < i) (hc : 0 ≤ c) (hT : ∀ k, k < T.length → T.getD k 0 ≤ c) {s : Nat} (h6 : s < 2 ^ 6) :
    ∀ R, R ≤ s + 1 → runC T A c (s + 1) R = if scanP T c (tabP T A c s) (s + 1) R < 0 then popM (s + 1) else min (popM (s + 1)) (scanP T c (tabP T A c s) (s + 1) R)
  | 0, _ => by simp [runC, scanP]
  | R + 1, hR => by
    have ih := runC_scan hA hc hT h6 R (by omega)
    have hp := popM_bd (s + 1)
    have hs : scanP T c (tabP T A c s) (s + 1) (R + 1) = if okR T c (tabP T A c s) (s + 1) R ∧ (scanP T c (tabP T A c s) (s + 1) R < 0 ∨ stP T A c R + 1 < scanP T c (tabP T A c s) (s + 1) R) then stP T A c R + 1 else scanP T c (tabP T A c s) (s + 1) R := by
      rw [scanP, tabP_at (show R ≤ s by omega)]
    rw [runC, ih]
    have ho := okR_tab (T := T) (A := A) (c := c) (m := s) (s := s + 1) (r := R) (by omega)
    have hsub : (R &&& (s + 1) = R) ↔ dif R (s + 1) = 0 := by rw [sub_iff, dif_zero]
    clear ih
    generalize scanP T c (tabP T A c s) (s + 1) R = sc at hs ⊢
    by_cases h1 : okC T c (s + 1) R
    · rw [if_pos h1]
      unfold fewC
      by_cases h2 : cloM A R A.length = true
      · have h3 := st_pop hA hc hT R R (Nat.le_refl _) (by omega) h2
        have h4 := ho.mpr ⟨hsub.mpr h1.1, h3.1, h1.2⟩
        rw [if_pos h2]
        by_cases h5 : sc < 0
        · rw [hs.trans (if_pos ⟨h4, .inl h5⟩), if_pos h5, if_neg (by omega)]
        · rw [if_neg h5]
          by_cases h6 : stP T A c R + 1 < sc
          · rw [hs.trans (if_pos ⟨h4, .inr h6⟩), if_neg (by omega)]; omega
          · rw [hs.trans (if_neg (fun h => h.2.elim h5 h6)), if_neg h5]; omega
      · rw [if_neg h2]
        have h3 := st_not (T := T) (c := c) (Bool.not_eq_true _ |>.mp h2)
        rw [hs.trans (if_neg (fun h => by have := (ho.mp h.1).2.1; omega))]
        split <;> omega
    · rw [if_neg h1, hs.trans (if_neg (fun h => h1 (by have := ho.mp h.1; exact ⟨hsub.mp this.1, this.2.2⟩)))]
theorem runC_all {T : List Int} {A : List Nat} {c : Int} (hA : ∀ i k, (A.getD i 0).testBit k = true → k < i) (hc : 0 ≤ c) (hT : ∀ k, k < T.length → T.getD k 0 ≤ c) {s : Nat} (h6 : s < 2 ^ 6) (hcl : cloM A s A.length = true) : runC T A c s s = fewC T A c s := by
  have hp := st_pop hA hc hT s s (Nat.le_refl _) h6 hcl
  unfold fewC
  rw [if_pos hcl]
  cases s with
  | zero => rw [runC]; show popM 0 = 0; simp [popM, undone]
  | succ s =>
    rw [runC_scan hA hc hT (by omega) _ (Nat.le_refl _)]
    rw [stP_succ] at hp ⊢
    unfold nxtP at hp ⊢
    rw [if_pos hcl] at hp ⊢
    rw [if_neg (by omega)]; omega
theorem runC_bd {T : List Int} {A : List Nat} {c : Int} (hA : ∀ i k, (A.getD i 0).testBit k = true → k < i) (hc : 0 ≤ c) (hT : ∀ k, k < T.length → T.getD k 0 ≤ c) {s : Nat} : ∀ R, R ≤ 2 ^ 6 → 0 ≤ runC T A c s R ∧ runC T A c s R ≤ 6
  | 0, _ => popM_bd s
  | R + 1, h => by
    have := runC_bd hA hc hT (s := s) R (by omega)
    have := fewC_bd hA hc hT (s := R) (by omega)
    rw [runC]; split <;> omega
theorem fewC_full {T : List Int} {A : List Nat} {c : Int} (hl : A.length = T.length) (hA : ∀ i k, (A.getD i 0).testBit k = true → k < i) : fewC T A c (2 ^ T.length - 1) = fewM T A c := by
  unfold fewC fewM
  rw [if_pos ((cloM_iff _).mpr fun i hi _ k hk => by rw [full_bit]; have := hA i k hk; simp; omega)]

/-- all that must be done ahead of a task, over others, too -/
def aU (A : List Nat) (t : List Nat) (k : Nat) : Nat → Nat
  | 0 => A.getD k 0
  | m + 1 => if (A.getD k 0).testBit m = true then aU A t k m ||| t.getD m 0 else aU A t k m
def allT (A : List Nat) : Nat → List Nat
  | 0 => []
  | k + 1 => allT A k ++ [aU A (allT A k) k k]
def allX (A : List Nat) (x : Nat) : Nat := (allT A (x + 1)).getD x 0
theorem allT_len (A : List Nat) : ∀ k, (allT A k).length = k
  | 0 => rfl
  | k + 1 => by rw [allT, List.length_append, allT_len A k]; rfl
theorem allT_get (A : List Nat) (s : Nat) : ∀ d, (allT A (s + 1 + d)).getD s 0 = allX A s
  | 0 => rfl
  | d + 1 => by
    have h := allT_len A (s + 1 + d)
    rw [show s + 1 + (d + 1) = (s + 1 + d) + 1 by omega, allT, ← allT_get A s d]
    simp only [List.getD_eq_getElem?_getD]
    rw [List.getElem?_append_left (by omega)]
theorem allT_at {A : List Nat} {s m : Nat} (h : s < m) : (allT A m).getD s 0 = allX A s := by
  have := allT_get A s (m - s - 1); rwa [show s + 1 + (m - s - 1) = m by omega] at this
theorem allX_eq (A : List Nat) (k : Nat) : allX A k = aU A (allT A k) k k := by
  have h := allT_len A k
  unfold allX
  rw [allT]
  simp only [List.getD_eq_getElem?_getD]
  rw [List.getElem?_append_right (by omega), h, Nat.sub_self]; rfl
theorem aU_bit {A : List Nat} {k : Nat} (x : Nat) : ∀ m, m ≤ k → ((aU A (allT A k) k m).testBit x = true ↔ (A.getD k 0).testBit x = true ∨ ∃ y, y < m ∧ (A.getD k 0).testBit y = true ∧ (allX A y).testBit x = true)
  | 0, _ => by simp [aU]
  | m + 1, h => by
    have ih := aU_bit (A := A) (k := k) x m (by omega)
    rw [aU, allT_at (show m < k by omega)]
    by_cases h1 : (A.getD k 0).testBit m = true
    · rw [if_pos h1, Nat.testBit_or, Bool.or_eq_true, ih]
      constructor
      · rintro ((h2 | ⟨y, h2, h3⟩) | h2)
        · exact .inl h2
        · exact .inr ⟨y, by omega, h3⟩
        · exact .inr ⟨m, by omega, h1, h2⟩
      · rintro (h2 | ⟨y, h2, h3, h4⟩)
        · exact .inl (.inl h2)
        · rcases Nat.lt_or_eq_of_le (Nat.le_of_lt_succ h2) with h5 | rfl
          · exact .inl (.inr ⟨y, h5, h3, h4⟩)
          · exact .inr h4
    · rw [if_neg h1, ih]
      constructor
      · rintro (h2 | ⟨y, h2, h3⟩)
        · exact .inl h2
        · exact .inr ⟨y, by omega, h3⟩
      · rintro (h2 | ⟨y, h2, h3, h4⟩)
        · exact .inl h2
        · rcases Nat.lt_or_eq_of_le (Nat.le_of_lt_succ h2) with h5 | rfl
          · exact .inr ⟨y, h5, h3, h4⟩
          · exact absurd h3 h1
theorem allX_bit {A : List Nat} {k : Nat} (hA : ∀ i k, (A.getD i 0).testBit k = true → k < i) (x : Nat) : (allX A k).testBit x = true ↔ ∃ y, (A.getD k 0).testBit y = true ∧ (x = y ∨ (allX A y).testBit x = true) := by
  rw [allX_eq, aU_bit x k (Nat.le_refl _)]
  constructor
  · rintro (h | ⟨y, _, h2, h3⟩)
    · exact ⟨x, h, .inl rfl⟩
    · exact ⟨y, h2, .inr h3⟩
  · rintro ⟨y, h2, rfl | h3⟩
    · exact .inl h2
    · exact .inr ⟨y, hA k y h2, h2, h3⟩
theorem allX_low {A : List Nat} (hA : ∀ i k, (A.getD i 0).testBit k = true → k < i) : ∀ N k, k ≤ N → ∀ x, (allX A k).testBit x = true → x < k
  | 0, k, hk, x, h => by
    obtain rfl : k = 0 := by omega
    obtain ⟨y, h1, _⟩ := (allX_bit hA x).mp h
    have := hA 0 y h1; omega
  | N + 1, k, hk, x, h => by
    obtain ⟨y, h1, h2⟩ := (allX_bit hA x).mp h
    have h3 := hA k y h1
    rcases h2 with rfl | h2
    · exact h3
    · have := allX_low hA N y (by omega) x h2; omega
theorem allX_lt {A : List Nat} (hA : ∀ i k, (A.getD i 0).testBit k = true → k < i) (k : Nat) : allX A k < 2 ^ k :=
  Nat.lt_pow_two_of_testBit _ fun i hi => by
    cases h : (allX A k).testBit i
    · rfl
    · have := allX_low hA k k (Nat.le_refl _) i h; omega
theorem aU_lt {A : List Nat} (hA : ∀ i k, (A.getD i 0).testBit k = true → k < i) (k m : Nat) (hm : m ≤ k) : aU A (allT A k) k m < 2 ^ k :=
  Nat.lt_pow_two_of_testBit _ fun i hi => by
    cases h : (aU A (allT A k) k m).testBit i
    · rfl
    · rcases (aU_bit i m hm).mp h with h1 | ⟨y, h1, h2, h3⟩
      · have := hA k i h1; omega
      · have := hA k y h2; have := allX_low hA y y (Nat.le_refl _) i h3; omega
/-- those behind are those that all ahead of them hold -/
theorem bsM_keep {A : List Nat} {i x : Nat} : ∀ d, (bsM A i (x + 1 + d)).testBit x = (bsM A i (x + 1)).testBit x
  | 0 => rfl
  | d + 1 => by
    rw [← bsM_keep d]
    by_cases h : i < x + 1 + d
    · rw [show x + 1 + (d + 1) = (x + 1 + d) + 1 by omega, bsM_step h, show decide (x = x + 1 + d) = false by simp; omega, Bool.false_and, Bool.or_false]
    · by_cases h2 : x + 1 + d = i
      · subst h2
        rw [bsM_low (A := A) (i := x + 1 + d) (x + 1 + d) (Nat.le_refl _), show x + 1 + (d + 1) = (x + 1 + d) + 1 by omega, bsM, if_neg (by omega), if_pos rfl, Nat.testBit_two_pow]
        simp; omega
      · rw [bsM_low _ (by omega), bsM_low _ (by omega)]
theorem bsM_all {A : List Nat} (hA : ∀ i k, (A.getD i 0).testBit k = true → k < i) {i : Nat} : ∀ N x n, x ≤ N → x < n → ((bsM A i n).testBit x = true ↔ x = i ∨ (allX A x).testBit i = true)
  | N, x, n, hN, hx => by
    have hk := bsM_keep (A := A) (i := i) (x := x) (n - x - 1)
    rw [show x + 1 + (n - x - 1) = n by omega] at hk
    rw [hk]
    rcases Nat.lt_trichotomy x i with h | h | h
    · rw [bsM_low _ (by omega)]
      constructor
      · intro h2; simp at h2
      · rintro (h2 | h2)
        · omega
        · have := allX_low hA x x (Nat.le_refl _) i h2; omega
    · subst h
      rw [bsM, if_neg (by omega), if_pos rfl, Nat.testBit_two_pow]; simp
    · rw [bsM_step h, bsM_out (Nat.le_refl _), Bool.false_or]
      simp only [decide_true, Bool.true_and, decide_eq_true_eq]
      rw [allX_bit hA]
      constructor
      · intro h2
        obtain ⟨y, h3, h4⟩ := and_ne_get h2
        have hy := hA x y h3
        refine .inr ⟨y, h3, ?_⟩
        rcases (bsM_all hA (N - 1) y x (by omega) hy).mp h4 with h5 | h5
        · exact .inl h5.symm
        · exact .inr h5
      · rintro (h2 | ⟨y, h3, h4⟩)
        · omega
        · have hy := hA x y h3
          refine and_ne h3 ((bsM_all hA (N - 1) y x (by omega) hy).mpr ?_)
          rcases h4 with h5 | h5
          · exact .inl h5.symm
          · exact .inr h5
termination_by N x _ _ _ => x
decreasing_by all_goals exact hA _ _ h3
/-- the weights, as the program adds them up: k tasks are added, of the next one m others -/
def wC (T : List Int) (A : List Nat) (i k : Nat) : Int := csum T (fun x => x == i || (allX A x).testBit i) k
theorem wC_all {T : List Int} {A : List Nat} (hA : ∀ i k, (A.getD i 0).testBit k = true → k < i) (i : Nat) : wC T A i T.length = wM T A i := by
  unfold wC wM
  refine csum_congr _ fun x hx => ?_
  have := bsM_all hA (i := i) x x T.length (Nat.le_refl _) hx
  rw [Bool.eq_iff_iff, Bool.or_eq_true, beq_iff_eq]
  exact this.symm
theorem wC_succ (T : List Int) (A : List Nat) (i k : Nat) : wC T A i (k + 1) = wC T A i k + (if k = i ∨ (allX A k).testBit i = true then T.getD k 0 else 0) := by
  unfold wC
  rw [csum]
  congr 1
  simp only [Bool.or_eq_true, beq_iff_eq]
theorem or_add {D q : Nat} (h : D.testBit q = false) : D ||| 2 ^ q = D + 2 ^ q := by
  apply Nat.eq_of_testBit_eq; intro i
  rw [add_bit h, Nat.testBit_or, Nat.testBit_two_pow]
  by_cases hq : q = i
  · subst hq; simp
  · simp [hq, Ne.symm hq]
end Go.Proofs.Ytmcongioghkdcab
