import Derived.Test.YtkjmpkincaainadRows
import Derived.WalkKit
import Derived.LoopTactic
import Derived.Outline
import Derived.WalkSpells
import Derived.WalkLawsBesides
import Derived.ProofKit
import Derived.Lib.Hide
import Derived.IntWalk
import Derived.Deep.QuietTactic
import Derived.BigQuiet
import Derived.Deep.RegionHeld3
import Derived.Deep.RegionWith
import Derived.Shelf.RegionOpenPlain
import Derived.Test.YtkjmpkincaainadM0
import Derived.Test.YtkjmpkincaainadM6
import Derived.Test.YtkjmpkincaainadM7
import Derived.Test.YtkjmpkincaainadM10
import Derived.Test.YtkjmpkincaainadM1
namespace Go.Proofs.Ytkjmpkincaainad
open Go.RowKit Go.WideShapes

def deadRes (ts : List Int) (rows : List (List Int)) : Bool := tokM ts rows && (grOf ts rows).deadB
def aliveB (ts : List Int) (rows : List (List Int)) : Bool := tokM ts rows && !(grOf ts rows).deadB
theorem alive_get {ts : List Int} {rows : List (List Int)} (h : aliveB ts rows = true) : tokM ts rows = true ∧ ¬ (grOf ts rows).Dead := by
  simp only [aliveB, Bool.and_eq_true, Bool.not_eq_true'] at h
  exact ⟨h.1, fun hd => by rw [(dead_iff (gr_ok h.1)).2 hd] at h; cases h.2⟩
set_option maxRecDepth 100000 in
set_option maxHeartbeats 4000000 in
theorem isDead_impl (d : NV) (ts : List Int) (rows : List (List Int)) (w : World) (h : NetAt w (· < w.heap.size) d ts rows) :
    Calls Try.prog 48 #[.agg #[.slice d.aT d.lT d.cT, .slice d.aW d.lW d.cW]] w (valN w (.bool (deadRes ts rows))) := by
  have HV := Lib.hid (fun w' (hb : Below w.heap.size w w') => validNet_impl d ts rows w' (net_lift h hb))
  cases hv : tokM ts rows
  · rw [hv] at HV
    obtain ⟨aT, lT, cT, aW, lW, cW⟩ := d
    clear h
    have HF : Hid (deadRes ts rows = false) := Lib.hid (by unfold deadRes; rw [hv]; rfl)
    clear hv
    go_enter Try.func48, Try.ntmps48
    go_wp2_with fail
    have hb0 := (Below.refl w.heap.size w).alloc (Nat.le_refl _) (.cells #[.slice aT lT cT, .slice aW lW cW] 26)
    have hn0 := netB_new w aT lT cT aW lW cW 26
    have hz0 : w.heap.size < (w.alloc (.cells #[.slice aT lT cT, .slice aW lW cW] 26)).heap.size := by simp
    generalize (w.alloc (.cells #[.slice aT lT cT, .slice aW lW cW] 26)) = w1 at *
    have HB0 := Lib.hid hb0
    obtain ⟨n0, n1⟩ := id hn0
    dsimp only at n0 n1
    have hzd : w.heap.size < w1.drew.heap.size := hz0
    have HNB := Lib.hid (show NetB w1.drew w.heap.size ⟨aT, lT, cT, aW, lW, cW⟩ from hn0.block rfl)
    have HBD := Lib.hid (show Below w.heap.size w w1.drew from hb0.drew)
    clear hb0 hn0
    refine wp_region_held_drew (S := (fun w' => w'.cell? ⟨w.heap.size, 0, none⟩ = some (.slice aT lT cT) ∧ w'.cell? ⟨w.heap.size, 1, none⟩ = some (.slice aW lW cW))) (by kernel_rfl) ⟨n0, n1⟩ (fun hHeld => ?_)
    refine wpAnyH_take (i := 0) (v := .agg #[.slice aT lT cT, .slice aW lW cW]) rfl (by kernel_rfl) (by kernel_rfl) (by kernel_rfl) (fun _ _ _ h => h) (Or.inl ⟨by rfl, ?_⟩) hHeld ?_
    · rintro w' ⟨k0, k1⟩; go_simp
    try simp only [Act.put, List.setIfInBounds_toArray, List.set_cons_zero, List.set_cons_succ]
    refine wpAnyH_ready (rs := [1]) (by kernel_rfl) (by simp) ?_
    refine AllReadyH.cons (o := _) rfl (fun K hK => ?_) AllReadyH.nil
    go_simp
    go_at_call 47
    refine (HV.out _ HBD.out).mono ?_
    rintro e w3 ⟨rfl, hb3⟩
    refine hK.out _ _ (HNB.out.below hb3 hzd) (fun hHeld => ?_)
    clear hK K
    try simp only [Act.put, List.setIfInBounds_toArray, List.set_cons_zero, List.set_cons_succ, List.getElem_toArray, List.getElem_cons_succ, List.getElem_cons_zero]
    refine wpAnyH_take (i := 2) (v := .bool false) rfl (by kernel_rfl) (by kernel_rfl) (by kernel_rfl) (fun _ _ _ h => h) (Or.inl ⟨by rfl, ?_⟩) hHeld ?_
    · rintro w' ⟨k0, k1⟩; go_simp
    try simp only [Act.put, List.setIfInBounds_toArray, List.set_cons_zero, List.set_cons_succ, List.getElem_toArray, List.getElem_cons_succ, List.getElem_cons_zero]
    refine wpAnyH_take (i := 3) (v := undef) rfl (by kernel_rfl) (by kernel_rfl) (by kernel_rfl) (fun _ _ _ h => h) (Or.inr ⟨by rfl, rfl⟩) hHeld ?_
    try simp only [Act.put, List.setIfInBounds_toArray, List.set_cons_zero, List.set_cons_succ, List.getElem_toArray, List.getElem_cons_succ, List.getElem_cons_zero]
    refine wpAnyH_take (i := 4) (v := undef) rfl (by kernel_rfl) (by kernel_rfl) (by kernel_rfl) (fun _ _ _ h => h) (Or.inr ⟨by rfl, rfl⟩) hHeld ?_
    try simp only [Act.put, List.setIfInBounds_toArray, List.set_cons_zero, List.set_cons_succ, List.getElem_toArray, List.getElem_cons_succ, List.getElem_cons_zero]
    refine wpAnyH_take (i := 5) (v := undef) rfl (by kernel_rfl) (by kernel_rfl) (by kernel_rfl) (fun _ _ _ h => h) (Or.inr ⟨by rfl, rfl⟩) hHeld ?_
    try simp only [Act.put, List.setIfInBounds_toArray, List.set_cons_zero, List.set_cons_succ, List.getElem_toArray, List.getElem_cons_succ, List.getElem_cons_zero]
    refine wpAnyH_take (i := 6) (v := undef) rfl (by kernel_rfl) (by kernel_rfl) (by kernel_rfl) (fun _ _ _ h => h) (Or.inr ⟨by rfl, rfl⟩) hHeld ?_
    try simp only [Act.put, List.setIfInBounds_toArray, List.set_cons_zero, List.set_cons_succ, List.getElem_toArray, List.getElem_cons_succ, List.getElem_cons_zero]
    refine wpAnyH_take (i := 7) (v := undef) rfl (by kernel_rfl) (by kernel_rfl) (by kernel_rfl) (fun _ _ _ h => h) (Or.inr ⟨by rfl, rfl⟩) hHeld ?_
    try simp only [Act.put, List.setIfInBounds_toArray, List.set_cons_zero, List.set_cons_succ, List.getElem_toArray, List.getElem_cons_succ, List.getElem_cons_zero]
    refine wpAnyH_take (i := 8) (v := undef) rfl (by kernel_rfl) (by kernel_rfl) (by kernel_rfl) (fun _ _ _ h => h) (Or.inr ⟨by rfl, rfl⟩) hHeld ?_
    try simp only [Act.put, List.setIfInBounds_toArray, List.set_cons_zero, List.set_cons_succ, List.getElem_toArray, List.getElem_cons_succ, List.getElem_cons_zero]
    refine wpAnyH_take (i := 9) (v := undef) rfl (by kernel_rfl) (by kernel_rfl) (by kernel_rfl) (fun _ _ _ h => h) (Or.inr ⟨by rfl, rfl⟩) hHeld ?_
    try simp only [Act.put, List.setIfInBounds_toArray, List.set_cons_zero, List.set_cons_succ, List.getElem_toArray, List.getElem_cons_succ, List.getElem_cons_zero]
    refine wpAnyH_take (i := 10) (v := .bool false) rfl (by kernel_rfl) (by kernel_rfl) (by kernel_rfl) (fun _ _ _ h => h) (Or.inl ⟨by rfl, ?_⟩) hHeld ?_
    · rintro w' ⟨k0, k1⟩; go_simp
    try simp only [Act.put, List.setIfInBounds_toArray, List.set_cons_zero, List.set_cons_succ, List.getElem_toArray, List.getElem_cons_succ, List.getElem_cons_zero]
    refine wpAnyH_take (i := 11) (v := .bool false) rfl (by kernel_rfl) (by kernel_rfl) (by kernel_rfl) (fun _ _ _ h => h) (Or.inl ⟨by rfl, ?_⟩) hHeld ?_
    · rintro w' ⟨k0, k1⟩; go_simp
    try simp only [Act.put, List.setIfInBounds_toArray, List.set_cons_zero, List.set_cons_succ, List.getElem_toArray, List.getElem_cons_succ, List.getElem_cons_zero]
    refine wpAnyH_done (by kernel_rfl) ?_ _
    go_wp2_with fail
    go_ret
    exact ⟨ret_bool HF.out.symm, HBD.out.trans (hb3.mono HBD.out.size)⟩
  · rw [hv] at HV
    have hok := gr_ok hv
    have HO := Lib.hid (fun w' (hb : Below w.heap.size w w') => beginOrder_any d ts rows w' (net_lift h hb) hv)
    have HN : Hid ((grOf ts rows).n = d.lT) := Lib.hid h.t.lenEq
    obtain ⟨aT, lT, cT, aW, lW, cW⟩ := d
    clear h
    have HF : Hid (deadRes ts rows = (grOf ts rows).deadB) := Lib.hid (by unfold deadRes; rw [hv]; rfl)
    have HDI := Lib.hid (dead_iff hok)
    have h4 : lT ≤ 4 := by have h8 := hok.n4; have h9 := HN.out; dsimp only at h9; omega
    clear hv hok
    go_enter Try.func48, Try.ntmps48
    go_wp2_with fail
    have hb0 := (Below.refl w.heap.size w).alloc (Nat.le_refl _) (.cells #[.slice aT lT cT, .slice aW lW cW] 26)
    have hn0 := netB_new w aT lT cT aW lW cW 26
    have hz0 : w.heap.size < (w.alloc (.cells #[.slice aT lT cT, .slice aW lW cW] 26)).heap.size := by simp
    generalize (w.alloc (.cells #[.slice aT lT cT, .slice aW lW cW] 26)) = w1 at *
    have HB0 := Lib.hid hb0
    obtain ⟨n0, n1⟩ := id hn0
    dsimp only at n0 n1
    have hzd : w.heap.size < w1.drew.heap.size := hz0
    have HNB := Lib.hid (show NetB w1.drew w.heap.size ⟨aT, lT, cT, aW, lW, cW⟩ from hn0.block rfl)
    have HBD := Lib.hid (show Below w.heap.size w w1.drew from hb0.drew)
    clear hb0 hn0
    go_region_held3 (fun w' => w'.cell? ⟨w.heap.size, 0, none⟩ = some (.slice aT lT cT) ∧ w'.cell? ⟨w.heap.size, 1, none⟩ = some (.slice aW lW cW)) (first | go_keep | exact k1 | exact k0)
      (first | (go_at_call 25; refine (HO.out _ HB3.out).mono ?_; rintro e w4 ⟨a4, c4, L, rfl, hq4, hall4, _, _, hb4⟩; have k1 := HN3.out.below hb4 hz3; have hlen4 := ordQ_len hq4; rw [HN.out] at hlen4) | (go_at_call 47; refine (HV.out _ HBD.out).mono ?_; rintro e w3 ⟨rfl, hb3⟩; have k0 := HNB.out.below hb3 hzd; have HB3 := Lib.hid (HBD.out.trans (hb3.mono HBD.out.size)); have HN3 := Lib.hid k0; have hz3 := Nat.lt_of_lt_of_le hzd hb3.size))
    have HQ4 := Lib.hid hq4
    have HA4 := Lib.hid hall4
    have HB4 := Lib.hid (HB3.out.trans (hb4.mono HB3.out.size))
    clear hq4 hall4 k0 k1 hb4 hb3
    go_wp2_with fail
    go_ret
    refine ⟨ret_bool ?_, HB4.out⟩
    rw [HF.out, Bool.eq_iff_iff, HDI.out, decide_eq_true_eq]
    constructor
    · intro hlt
      refine Classical.byContradiction fun hd => ?_
      have h8 := HA4.out hd
      have h9 := HN.out
      omega
    · intro hd
      have h8 := ordQ_dead HQ4.out hd
      have h9 := HN.out
      omega
set_option maxRecDepth 100000 in
set_option maxHeartbeats 4000000 in
theorem isAlive_any (d : NV) (ts : List Int) (rows : List (List Int)) (w : World) (h : NetAt w (· < w.heap.size) d ts rows) :
    Calls Try.prog 23 #[.agg #[.slice d.aT d.lT d.cT, .slice d.aW d.lW d.cW]] w (valN w (.bool (aliveB ts rows))) := by
  have HV := Lib.hid (fun w' (hb : Below w.heap.size w w') => validNet_impl d ts rows w' (net_lift h hb))
  have HD := Lib.hid (fun w' (hb : Below w.heap.size w w') => isDead_impl d ts rows w' (net_lift h hb))
  obtain ⟨aT, lT, cT, aW, lW, cW⟩ := d
  have HAL : Hid (aliveB ts rows = (tokM ts rows && !deadRes ts rows)) := Lib.hid (by unfold aliveB deadRes; cases tokM ts rows <;> rfl)
  clear h
  have hb0 := (Below.refl w.heap.size w).alloc (Nat.le_refl _) (.cells #[.slice aT lT cT, .slice aW lW cW] 26)
  have hn0 := netB_new w aT lT cT aW lW cW 26
  have hz0 : w.heap.size < (w.alloc (.cells #[.slice aT lT cT, .slice aW lW cW] 26)).heap.size := by simp
  obtain ⟨w1, hw1⟩ : ∃ w1, (w.alloc (.cells #[.slice aT lT cT, .slice aW lW cW] 26)) = w1 := ⟨_, rfl⟩
  rw [hw1] at hb0 hn0 hz0
  have HW1 := Lib.hid hw1
  have HB0 := Lib.hid hb0
  have HN0 := Lib.hid hn0
  clear hb0 hn0 hw1
  cases hv : tokM ts rows
  · rw [hv] at HV HAL
    clear hv
    go_enter Try.func23, Try.ntmps23
    go_wp2_with fail
    rw [HW1.out]
    obtain ⟨n0, n1⟩ := HN0.out
    refine (HV.out _ HB0.out).mono ?_
    rintro e w2 ⟨rfl, hb2⟩
    go_wp2_with fail
    go_ret
    exact ⟨ret_bool HAL.out.symm, HB0.out.trans (hb2.mono HB0.out.size)⟩
  · rw [hv] at HV HAL
    clear hv
    obtain ⟨dr, hdr⟩ : ∃ dr, deadRes ts rows = dr := ⟨_, rfl⟩
    rw [hdr] at HD HAL
    clear hdr
    go_enter Try.func23, Try.ntmps23
    go_wp2_with fail
    rw [HW1.out]
    refine (HV.out _ HB0.out).mono ?_
    rintro e w2 ⟨rfl, hb2⟩
    obtain ⟨n0, n1⟩ := HN0.out.below hb2 hz0
    have HB2 := Lib.hid (HB0.out.trans (hb2.mono HB0.out.size))
    clear hb2
    go_wp2_with fail
    refine (HD.out _ HB2.out).mono ?_
    rintro e w3 ⟨rfl, hb3⟩
    go_wp2_with fail
    go_ret
    exact ⟨ret_bool (by rw [HAL.out]; rfl), HB2.out.trans (hb3.mono HB2.out.size)⟩
end Go.Proofs.Ytkjmpkincaainad
namespace Go.Proofs.Ytkjmpkincaainad

-- the pace (plain)
/-- U by D is the greatest of the pairs, 0 by 1 if all are 0 -/
structure IsGr (U D : Nat) (Q : Int → Nat → Prop) : Prop where
  d1 : 1 ≤ D
  u36 : U ≤ 36
  d12 : D ≤ 12
  cop : Nat.gcd U D = 1
  all : ∀ T C, Q T C → T * (D : Int) ≤ (U : Int) * (C : Int)
  one : (U = 0 ∧ D = 1) ∨ ∃ T C, Q T C ∧ 1 ≤ C ∧ T * (D : Int) = (U : Int) * (C : Int)
theorem frac_trans {T U1 D1 C U2 D2 : Int} (h1 : T * D1 ≤ U1 * C) (h2 : U1 * D2 ≤ U2 * D1) (hC : 0 ≤ C) (hD1 : 0 < D1) (hD2 : 0 ≤ D2) : T * D2 ≤ U2 * C := by
  have a1 : T * D1 * D2 ≤ U1 * C * D2 := Int.mul_le_mul_of_nonneg_right h1 hD2
  have a2 : U1 * D2 * C ≤ U2 * D1 * C := Int.mul_le_mul_of_nonneg_right h2 hC
  refine Int.le_of_mul_le_mul_right ?_ hD1
  calc T * D2 * D1 = T * D1 * D2 := by rw [Int.mul_assoc, Int.mul_comm D2, ← Int.mul_assoc]
    _ ≤ U1 * C * D2 := a1
    _ = U1 * D2 * C := by rw [Int.mul_assoc, Int.mul_comm C, ← Int.mul_assoc]
    _ ≤ U2 * D1 * C := a2
    _ = U2 * C * D1 := by rw [Int.mul_assoc, Int.mul_comm D1, ← Int.mul_assoc]
theorem gr_zero {Q : Int → Nat → Prop} (h : ∀ T C, ¬ Q T C) : IsGr 0 1 Q := ⟨by omega, by omega, by omega, by decide, fun T C hq => absurd hq (h T C), .inl ⟨rfl, rfl⟩⟩
theorem gr_left {U D U' D' : Nat} {Q Q' R : Int → Nat → Prop} (h : IsGr U D Q) (h' : IsGr U' D' Q') (hl : ¬ (U : Int) * D' < (U' : Int) * D) (hR : ∀ T C, R T C ↔ Q T C ∨ Q' T C) : IsGr U D R := by
  refine ⟨h.d1, h.u36, h.d12, h.cop, fun T C hq => ?_, ?_⟩
  · rcases (hR T C).1 hq with hq | hq
    · exact h.all T C hq
    · exact frac_trans (h'.all T C hq) (by omega) (by omega) (by have := h'.d1; omega) (by omega)
  · rcases h.one with e | ⟨T, C, hq, e⟩
    · exact .inl e
    · exact .inr ⟨T, C, (hR T C).2 (.inl hq), e⟩
theorem gr_right {U D U' D' : Nat} {Q Q' R : Int → Nat → Prop} (h : IsGr U D Q) (h' : IsGr U' D' Q') (hl : (U : Int) * D' < (U' : Int) * D) (hR : ∀ T C, R T C ↔ Q T C ∨ Q' T C) : IsGr U' D' R := by
  refine ⟨h'.d1, h'.u36, h'.d12, h'.cop, fun T C hq => ?_, ?_⟩
  · rcases (hR T C).1 hq with hq | hq
    · exact frac_trans (h.all T C hq) (by omega) (by omega) (by have := h.d1; omega) (by omega)
    · exact h'.all T C hq
  · rcases h'.one with e | ⟨T, C, hq, e⟩
    · exact .inl e
    · exact .inr ⟨T, C, (hR T C).2 (.inr hq), e⟩
theorem gr_congr {U D : Nat} {Q R : Int → Nat → Prop} (h : IsGr U D Q) (hR : ∀ T C, R T C ↔ Q T C) : IsGr U D R := by
  refine ⟨h.d1, h.u36, h.d12, h.cop, fun T C hq => h.all T C ((hR T C).1 hq), ?_⟩
  rcases h.one with e | ⟨T, C, hq, e⟩
  · exact .inl e
  · exact .inr ⟨T, C, (hR T C).2 hq, e⟩
theorem gcd_div {T C : Nat} (hC : 1 ≤ C) : 1 ≤ C / Nat.gcd T C ∧ Nat.gcd (T / Nat.gcd T C) (C / Nat.gcd T C) = 1 ∧ T * (C / Nat.gcd T C) = T / Nat.gcd T C * C := by
  have hg : 0 < Nat.gcd T C := Nat.gcd_pos_of_pos_right _ hC
  obtain ⟨a, ha⟩ := Nat.gcd_dvd_left T C
  obtain ⟨b, hb⟩ := Nat.gcd_dvd_right T C
  refine ⟨?_, ?_, ?_⟩
  · exact Nat.div_pos (Nat.le_of_dvd hC (Nat.gcd_dvd_right T C)) hg
  · exact Nat.coprime_div_gcd_div_gcd hg
  · have e1 : T / Nat.gcd T C = a := Nat.div_eq_of_eq_mul_right hg ha
    have e2 : C / Nat.gcd T C = b := Nat.div_eq_of_eq_mul_right hg hb
    rw [e1, e2]
    calc T * b = Nat.gcd T C * a * b := by rw [← ha]
      _ = a * (Nat.gcd T C * b) := by rw [Nat.mul_comm (Nat.gcd T C) a, Nat.mul_assoc]
      _ = a * C := by rw [← hb]
theorem gr_one {T C : Nat} (hT : T ≤ 36) (hC : 1 ≤ C) (hC2 : C ≤ 12) : IsGr (T / Nat.gcd T C) (C / Nat.gcd T C) (fun t c => t = (T : Int) ∧ c = C) := by
  obtain ⟨h1, h2, h3⟩ := gcd_div (T := T) hC
  have h4 : (T : Int) * ((C / Nat.gcd T C : Nat) : Int) = ((T / Nat.gcd T C : Nat) : Int) * (C : Int) := by exact_mod_cast h3
  refine ⟨h1, Nat.le_trans (Nat.div_le_self _ _) hT, Nat.le_trans (Nat.div_le_self _ _) hC2, h2, ?_, .inr ⟨T, C, ⟨rfl, rfl⟩, hC, h4⟩⟩
  rintro t c ⟨rfl, rfl⟩
  exact Int.le_of_eq h4
/-- the pace of a net: in lowest terms, kept, and nothing less is kept -/
structure IsPace (g : Gr) (U D : Nat) : Prop where
  d1 : 1 ≤ D
  u36 : U ≤ 36
  d12 : D ≤ 12
  cop : Nat.gcd U D = 1
  kept : g.keeps U D
  least : ∀ up down : Int, 0 ≤ up → 1 ≤ down → g.keeps up down → (U : Int) * down ≤ up * (D : Int)
theorem pace_of {g : Gr} (hg : g.Ok) {rk : Nat → Nat} (hr : g.Rank rk) {U D : Nat} {Q : Int → Nat → Prop} (h : IsGr U D Q) (h1 : ∀ T C, g.Rounds T C → Q T C) (h2 : ∀ T C, Q T C → g.RoundsA T C) : IsPace g U D := by
  refine ⟨h.d1, h.u36, h.d12, h.cop, ?_, fun up down hu hd hk => ?_⟩
  · refine Classical.byContradiction fun hn => ?_
    obtain ⟨T, C, hq, hp⟩ := rounds_of_not hg hn
    have := h.all T C (h1 T C hq)
    rw [Int.mul_comm T] at this
    omega
  · rcases h.one with ⟨rfl, rfl⟩ | ⟨T, C, hq, hC, e⟩
    · simp; exact hu
    · obtain ⟨s, _, hb⟩ := h2 T C hq
      obtain ⟨p, hp⟩ := hk
      have h3 := back_pot hp hb
      have h4 : T * down ≤ up * (C : Int) := by rw [Int.mul_comm T]; omega
      have hC0 : (0 : Int) < (C : Int) := by omega
      refine Int.le_of_mul_le_mul_right ?_ hC0
      calc (U : Int) * down * C = (U : Int) * C * down := by rw [Int.mul_assoc, Int.mul_comm down, ← Int.mul_assoc]
        _ = T * (D : Int) * down := by rw [e]
        _ = T * down * (D : Int) := by rw [Int.mul_assoc, Int.mul_comm (D : Int), ← Int.mul_assoc]
        _ ≤ up * (C : Int) * (D : Int) := Int.mul_le_mul_of_nonneg_right h4 (by omega)
        _ = up * (D : Int) * (C : Int) := by rw [Int.mul_assoc, Int.mul_comm (C : Int), ← Int.mul_assoc]
theorem rounds_pos {g : Gr} {rk : Nat → Nat} (hr : g.Rank rk) {T : Int} {C : Nat} (h : g.RoundsA T C) : 1 ≤ C := by
  obtain ⟨s, _, hb⟩ := h
  rcases Nat.eq_zero_or_pos C with e | e
  · have := back_rank hr hb e; omega
  · exact e
theorem cop_unique {U D U' D' : Nat} (h1 : Nat.gcd U D = 1) (h2 : Nat.gcd U' D' = 1) (hD : 1 ≤ D) (he : U * D' = U' * D) : U = U' ∧ D = D' := by
  have a1 : D ∣ D' := Nat.Coprime.dvd_of_dvd_mul_left (k := D) (m := U) (by rw [Nat.Coprime, Nat.gcd_comm]; exact h1) ⟨U', by rw [he, Nat.mul_comm]⟩
  have a2 : D' ∣ D := Nat.Coprime.dvd_of_dvd_mul_left (k := D') (m := U') (by rw [Nat.Coprime, Nat.gcd_comm]; exact h2) ⟨U, by rw [← he, Nat.mul_comm]⟩
  have e : D = D' := Nat.dvd_antisymm a1 a2
  subst e
  exact ⟨Nat.eq_of_mul_eq_mul_right (by omega) he, rfl⟩
theorem pace_unique {g : Gr} {U D U' D' : Nat} (h : IsPace g U D) (h' : IsPace g U' D') : U = U' ∧ D = D' := by
  have a1 := h.least _ _ (by omega) (by have := h'.d1; omega) h'.kept
  have a2 := h'.least _ _ (by omega) (by have := h.d1; omega) h.kept
  refine cop_unique h.cop h'.cop h.d1 ?_
  have : (U : Int) * (D' : Int) = (U' : Int) * (D : Int) := by omega
  exact_mod_cast this
/-- a pace is kept at any scale -/
theorem keeps_scale {g : Gr} {up down k : Int} (hk : 0 < k) : g.keeps (k * up) (k * down) ↔ g.keeps up down := by
  constructor
  · rintro ⟨p, hp⟩
    refine ⟨fun v => p v / k, fun q hq => ?_⟩
    have h := hp q hq
    have e : g.w (k * up) (k * down) q = g.w up down q * k := by
      unfold Gr.w
      rw [Int.sub_mul, Int.mul_assoc, Int.mul_assoc, Int.mul_comm k, Int.mul_comm k]
    rw [e] at h
    have h2 := Int.ediv_le_ediv hk h
    rw [Int.add_mul_ediv_right _ _ (by omega)] at h2
    exact h2
  · rintro ⟨p, hp⟩
    refine ⟨fun v => k * p v, fun q hq => ?_⟩
    have h := Int.mul_le_mul_of_nonneg_left (hp q hq) (Int.le_of_lt hk)
    have e : g.w (k * up) (k * down) q = k * g.w up down q := by
      unfold Gr.w
      rw [Int.mul_sub, Int.mul_assoc, Int.mul_assoc]
    rw [e, ← Int.mul_add]
    exact h
theorem keeps_slower {g : Gr} {up up' down : Int} (h : g.keeps up down) (hu : up ≤ up') : g.keeps up' down := by
  obtain ⟨p, hp⟩ := h
  refine ⟨p, fun k hk => ?_⟩
  have := hp k hk
  have h2 : up * (g.c k : Int) ≤ up' * (g.c k : Int) := Int.mul_le_mul_of_nonneg_right hu (by omega)
  unfold Gr.w at this ⊢
  omega
/-- kept exactly if the pace is at most it -/
theorem pace_keeps {g : Gr} {U D : Nat} (h : IsPace g U D) {up down : Int} (hu : 0 ≤ up) (hd : 1 ≤ down) : g.keeps up down ↔ (U : Int) * down ≤ up * (D : Int) := by
  refine ⟨h.least up down hu hd, fun hle => ?_⟩
  have hD : (0 : Int) < (D : Int) := by have := h.d1; omega
  refine (keeps_scale hD).1 ?_
  have h1 := (keeps_scale (g := g) (up := (U : Int)) (down := (D : Int)) (k := down) (by omega)).2 h.kept
  rw [Int.mul_comm (D : Int) down]
  refine keeps_slower h1 ?_
  rw [Int.mul_comm down, Int.mul_comm (D : Int)]
  exact hle
/-- nothing less is kept -/
theorem pace_less {g : Gr} (hg : g.Ok) {U D : Nat} (h : IsPace g U D) (hU : 1 ≤ U) : g.keepB ((U : Int) - 1) D = false := by
  refine Bool.eq_false_iff.2 fun hk => ?_
  have h1 := h.least _ _ (by omega) (by have := h.d1; omega) ((keepB_iff hg).1 hk)
  have h2 := h.d1
  rw [Int.sub_mul] at h1
  omega
theorem pace_kept {g : Gr} (hg : g.Ok) {U D : Nat} (h : IsPace g U D) : g.keepB U D = true := (keepB_iff hg).2 h.kept
/-- with more tokens the pace is no more -/
theorem pace_more {g h : Gr} (em : h.m = g.m) (ef : ∀ k, k < g.m → h.f k = g.f k ∧ h.t k = g.t k ∧ g.c k ≤ h.c k) (et : ∀ v, h.tm v = g.tm v) {U D U' D' : Nat} (hp : IsPace g U D) (hp' : IsPace h U' D') : (U' : Int) * D ≤ (U : Int) * D' := by
  refine hp'.least U D (by omega) (by have := hp.d1; omega) ?_
  obtain ⟨p, hq⟩ := hp.kept
  refine ⟨p, fun k hk => ?_⟩
  rw [em] at hk
  obtain ⟨e1, e2, e3⟩ := ef k hk
  have h1 := hq k hk
  have h2 : (U : Int) * (g.c k : Int) ≤ (U : Int) * (h.c k : Int) := Int.mul_le_mul_of_nonneg_left (by omega) (by omega)
  unfold Gr.w at h1 ⊢
  rw [e1, e2, et]
  omega
/-- by the pace none begins too late -/
theorem b_pace {g : Gr} (hg : g.Ok) {rk : Nat → Nat} (hr : g.Rank rk) {U D : Nat} (h : IsPace g U D) : ∀ r v, r ≤ 40 → v < g.n → g.b r v * (D : Int) ≤ (U : Int) * (r : Int) + (D : Int) * sm g.tm g.n := by
  intro r v h40 hv
  have hk := h.kept
  have hD : (1 : Int) ≤ (D : Int) := by have := h.d1; omega
  have key : g.b r v ≤ ((U : Int) * (r : Int) + g.D U D g.n v) / (D : Int) := by
    refine b_le hg hr (fun r v => ((U : Int) * (r : Int) + g.D U D g.n v) / (D : Int)) (R := 41) (by omega) (fun r v _ _ => ?_) (fun r k hrR hkm hc hi => ?_) r v (by omega) hv
    · refine Int.ediv_nonneg ?_ (by omega)
      have := D_nn (g := g) (up := U) (down := D) g.n v
      have : 0 ≤ (U : Int) * (r : Int) := Int.mul_nonneg (by omega) (by omega)
      omega
    · have h1 := pot_D hg hk k hkm
      have h2 := (Int.le_ediv_iff_mul_le (by omega : (0 : Int) < (D : Int))).1 hi
      refine (Int.le_ediv_iff_mul_le (by omega : (0 : Int) < (D : Int))).2 ?_
      unfold Gr.w at h1
      have e : (((r - g.c k : Nat) : Int)) = (r : Int) - (g.c k : Int) := by omega
      rw [e, Int.mul_sub] at h2
      rw [Int.add_mul, Int.mul_comm (g.tm (g.f k))]
      omega
  have h1 := (Int.le_ediv_iff_mul_le (by omega : (0 : Int) < (D : Int))).1 key
  have h2 := D_total hg hk (by omega) (by omega) hv g.n
  omega
/-- a ring: its pace -/
theorem pace_ring {g : Gr} {n c : Nat} (hn : 0 < n) (hc : 1 ≤ c) (en : g.n = n) (em : g.m = n) (ef : ∀ k, k < n → g.f k = k ∧ g.t k = (k + 1) % n ∧ g.c k = if k = n - 1 then c else 0) {U D : Nat} (hd : 1 ≤ D) (hu : U ≤ 36) (hd2 : D ≤ 12) (hcop : Nat.gcd U D = 1) (he : sm g.tm n * (D : Int) = (U : Int) * (c : Int)) : IsPace g U D := by
  have eq1 : ∀ k, k < n → k ≠ n - 1 → (k + 1) % n = k + 1 := fun k hk hne => Nat.mod_eq_of_lt (by omega)
  have eq2 : (n - 1 + 1) % n = 0 := by rw [Nat.sub_add_cancel hn, Nat.mod_self]
  refine ⟨hd, hu, hd2, hcop, ⟨fun v => (D : Int) * sm g.tm v, fun k hk => ?_⟩, fun up down h0 h1 hk => ?_⟩
  · rw [em] at hk
    obtain ⟨e1, e2, e3⟩ := ef k hk
    unfold Gr.w
    rw [e1, e2, e3]
    by_cases hkn : k = n - 1
    · subst hkn
      rw [eq2, if_pos rfl]
      have : sm g.tm n = sm g.tm (n - 1) + g.tm (n - 1) := by
        obtain ⟨q, rfl⟩ : ∃ q, n = q + 1 := ⟨n - 1, by omega⟩
        rfl
      rw [this, Int.add_mul, Int.mul_comm (sm g.tm (n - 1)), Int.mul_comm (g.tm (n - 1))] at he
      simp only [sm]
      omega
    · rw [eq1 k hk hkn, if_neg hkn]
      simp only [sm, Int.mul_add]
      omega
  · obtain ⟨p, hp⟩ := hk
    have key : ∀ q, q < n → down * sm g.tm q ≤ p q - p 0 := by
      intro q
      induction q with
      | zero => intro _; simp only [sm]; omega
      | succ q ih =>
        intro hq
        have h2 := hp q (by omega)
        obtain ⟨e1, e2, e3⟩ := ef q (by omega)
        unfold Gr.w at h2
        rw [e1, e2, e3, eq1 q (by omega) (by omega), if_neg (by omega)] at h2
        have := ih (by omega)
        simp only [sm, Int.mul_add]
        omega
    have h2 := hp (n - 1) (by omega)
    obtain ⟨e1, e2, e3⟩ := ef (n - 1) (by omega)
    unfold Gr.w at h2
    rw [e1, e2, e3, eq2, if_pos rfl] at h2
    have h3 := key (n - 1) (by omega)
    have h4 : down * sm g.tm n ≤ up * (c : Int) := by
      obtain ⟨q, rfl⟩ : ∃ q, n = q + 1 := ⟨n - 1, by omega⟩
      simp only [Nat.add_sub_cancel] at h2 h3
      simp only [sm, Int.mul_add]
      omega
    have hC0 : (0 : Int) < (c : Int) := by omega
    refine Int.le_of_mul_le_mul_right ?_ hC0
    calc (U : Int) * down * c = (U : Int) * c * down := by rw [Int.mul_assoc, Int.mul_comm down, ← Int.mul_assoc]
      _ = sm g.tm n * (D : Int) * down := by rw [he]
      _ = down * sm g.tm n * (D : Int) := by rw [Int.mul_assoc, Int.mul_comm (D : Int), ← Int.mul_assoc, Int.mul_comm (sm g.tm n)]
      _ ≤ up * (c : Int) * (D : Int) := Int.mul_le_mul_of_nonneg_right h4 (by omega)
      _ = up * (D : Int) * (c : Int) := by rw [Int.mul_assoc, Int.mul_comm (c : Int), ← Int.mul_assoc]
theorem rank_ring {g : Gr} {n c : Nat} (hn : 0 < n) (hc : 1 ≤ c) (en : g.n = n) (em : g.m = n) (ef : ∀ k, k < n → g.f k = k ∧ g.t k = (k + 1) % n ∧ g.c k = if k = n - 1 then c else 0) : g.Rank (fun v => v) := by
  refine ⟨fun v hv => hv, fun k hk h0 => ?_⟩
  show g.f k < g.t k
  rw [em] at hk
  obtain ⟨e1, e2, e3⟩ := ef k hk
  by_cases hkn : k = n - 1
  · rw [e3, if_pos hkn] at h0; omega
  · rw [e1, e2, Nat.mod_eq_of_lt (by omega)]; omega
theorem sm_total (ts : List Int) : sm (fun v => ts.getD v 0) ts.length = ts.foldl (· + ·) 0 := by
  have key : ∀ (n : Nat), n ≤ ts.length → sm (fun v => ts.getD v 0) n = (ts.take n).foldl (· + ·) 0 := by
    intro n
    induction n with
    | zero => intro _; simp [sm]
    | succ n ih =>
      intro h
      have hx : ts[n]? = some (ts.getD n 0) := get_getD (by omega)
      rw [List.take_add_one, hx, List.foldl_append, ← ih (by omega)]
      rfl
  have := key ts.length (Nat.le_refl _)
  rwa [List.take_length] at this
end Go.Proofs.Ytkjmpkincaainad
namespace Go.Proofs.Ytkjmpkincaainad
open Go.RowKit Go.WideShapes

theorem inR {lo hi n : Int} {b : Bool} (h : inB lo hi n = b) (w : World) : Calls Try.prog 31 #[.int .i64 n, .int .i64 lo, .int .i64 hi] w fun e w' => e = .returned (.bool b) ∧ w' = w := by
  subst h; exact (inRange_any n lo hi w).mono fun _ _ h => ⟨h.1, h.2.symm⟩
set_option maxRecDepth 100000 in
set_option maxHeartbeats 4000000 in
theorem validNet_any (d : NV) (ts : List Int) (rows : List (List Int)) (w : World) (h : NetAt w (· < w.heap.size) d ts rows) :
    Calls Try.prog 29 #[.agg #[.slice d.aT d.lT d.cT, .slice d.aW d.lW d.cW]] w (valN w (.bool (tokM ts rows))) := by
  obtain ⟨aT, lT, cT, aW, lW, cW⟩ := d
  obtain ⟨ht, hr, hct, hcw⟩ := h
  dsimp only at ht hr hct hcw ⊢
  have hst := ht.small
  have hsw := hr.small
  have HTL := Lib.hid ht.lenEq
  have HWL := Lib.hid hr.lenEq
  have HH := Lib.hid (show ∀ w', Below w.heap.size w w' → IntsAt w' (· < w.heap.size) aT lT ts ∧ RowsAt w' (· < w.heap.size) aW lW rows from fun w' hb => ⟨ht.below hb, hr.below hb⟩)
  clear ht hr
  go_enter Try.func29, Try.ntmps29
  go_wp2_with fail
  have hb0 := (Below.refl w.heap.size w).alloc (Nat.le_refl _) (.cells #[.slice aT lT cT, .slice aW lW cW] 26)
  have hn0 := netB_new w aT lT cT aW lW cW 26
  go_loopw [3] (fun i wr => ∃ k : Nat, k ≤ lT ∧ i = .int .i64 k ∧ allIn 0 9 (ts.take k) = true ∧ Below w.heap.size w wr ∧ NetB wr w.heap.size ⟨aT, lT, cT, aW, lW, cW⟩) (fun i _ => lT - (intOf i).toNat)
  case atStart => exact ⟨0, Nat.zero_le _, rfl, rfl, hb0, hn0⟩
  case round =>
    clear hb0 hn0
    obtain ⟨k, hk, rfl, ha, hb, hn⟩ := hrel
    obtain ⟨n0, n1⟩ := id hn
    have HB := Lib.hid hb
    have HN := Lib.hid hn
    have HA := Lib.hid ha
    clear hb hn ha
    dsimp only at n0 n1
    by_cases hlt : k < lT
    · obtain ⟨b, off, x, rfl, hx, hc⟩ := (HH.out wr HB.out).1.get hlt
      have HX := Lib.hid hx
      have hkI : (k : Int) < (lT : Int) := by omega
      clear hx
      cases hq : inB 0 9 x
      · go_wp2_with (go_at_call 31; refine (inRange_any _ _ _ _).mono ?_; rintro e w' ⟨rfl, rfl⟩)
        go_ret
        exact ⟨ret_bool (tok_time_false (allIn_false HX.out hq)).symm, HB.out⟩
      · go_wp2_with (go_at_call 31; refine (inRange_any _ _ _ _).mono ?_; rintro e w' ⟨rfl, rfl⟩)
        go_roundw
        case rel => exact ⟨k + 1, by omega, by go_num, allIn_step HX.out HA.out hq, HB.out, HN.out⟩
        case measure => simp [intOf]; omega
    · obtain rfl : k = lT := by omega
      have hkI : ¬ (k : Int) < (k : Int) := by omega
      have HA9 : Hid (allIn 0 9 ts = true) := Lib.hid (by have := HA.out; rwa [List.take_of_length_le (by rw [HTL.out]; omega)] at this)
      go_wp2_with fail
      go_loopw [4] (fun i wr => ∃ q : Nat, q ≤ lW ∧ i = .int .i64 q ∧ (rows.take q).all (wayB k) = true ∧ Below w.heap.size w wr ∧ NetB wr w.heap.size ⟨aT, k, cT, aW, lW, cW⟩) (fun i _ => lW - (intOf i).toNat)
      case atStart => exact ⟨0, Nat.zero_le _, rfl, rfl, HB.out, HN.out⟩
      case round =>
        clear n0 n1
        obtain ⟨q, hq, rfl, ha, hb, hn⟩ := hrel
        obtain ⟨wo, rfl⟩ : ∃ wo : World, wo = wr := ⟨_, rfl⟩
        obtain ⟨n0, n1⟩ := id hn
        have HB := Lib.hid hb
        have HN := Lib.hid hn
        have HA := Lib.hid ha
        clear hb hn ha
        dsimp only at n0 n1
        by_cases hlq : q < lW
        · obtain ⟨b, off, r, a', l, c, rfl, hx, hc, _, hri⟩ := (HH.out wo HB.out).2.get hlq
          have HX := Lib.hid hx
          have HRL := Lib.hid hri.lenEq
          have hrs := hri.small
          have hqI : (q : Int) < (lW : Int) := by omega
          clear hx
          have HF := Lib.hid (fun h : wayB k r = false => tok_way_false (ts := ts) HX.out (by rw [HTL.out]; exact h))
          by_cases hl3 : l = 3
          · subst hl3
            obtain ⟨b', off', x, rfl, hy, hd⟩ := hri.get (k := 0) (by omega)
            obtain ⟨b2, off2, y, e2, hy2, hd2⟩ := hri.get (k := 1) (by omega)
            cases e2
            obtain ⟨b3, off3, z, e3, hy3, hd3⟩ := hri.get (k := 2) (by omega)
            cases e3
            rw [Nat.add_zero] at hd
            have HWB : Hid (wayB k r = (inB 0 ((k : Int) - 1) x && (inB 0 ((k : Int) - 1) y && inB 0 3 z))) := Lib.hid (by unfold wayB; rw [HRL.out, getD_of hy, getD_of hy2, getD_of hy3]; rfl)
            clear hy hy2 hy3
            have hwr : IntKind.i64.wrap ((k : Int) - 1) = (k : Int) - 1 := IntWalk.i64_in _ (by omega)
            cases h0 : inB 0 ((k : Int) - 1) x
            · have C0 := Lib.hid (fun w => inR h0 w)
              rw [h0] at HWB
              go_wp2_with fail
              go_quiet ((go_at_call 31; exact Calls.quiet_of_same (C0.out _)))
              go_wp2_with fail
              go_ret
              exact ⟨ret_bool (HF.out (by rw [HWB.out]; rfl)).symm, below_drewN HB.out _⟩
            · cases h1 : inB 0 ((k : Int) - 1) y
              · have C0 := Lib.hid (fun w => inR h0 w)
                have C1 := Lib.hid (fun w => inR h1 w)
                rw [h0, h1] at HWB
                go_wp2_with fail
                go_quiet ((go_at_call 31; first | (with_reducible exact Calls.quiet_of_same (C0.out _)) | (with_reducible exact Calls.quiet_of_same (C1.out _))))
                go_wp2_with fail
                go_ret
                exact ⟨ret_bool (HF.out (by rw [HWB.out]; rfl)).symm, below_drewN HB.out _⟩
              · cases h2 : inB 0 3 z
                all_goals
                  have C0 := Lib.hid (fun w => inR h0 w)
                  have C1 := Lib.hid (fun w => inR h1 w)
                  have C2 := Lib.hid (fun w => inR h2 w)
                  rw [h0, h1, h2] at HWB
                  go_wp2_with fail
                  go_quiet ((go_at_call 31; first | (with_reducible exact Calls.quiet_of_same (C0.out _)) | (with_reducible exact Calls.quiet_of_same (C1.out _)) | (with_reducible exact Calls.quiet_of_same (C2.out _))))
                  go_wp2_with fail
                · go_ret
                  exact ⟨ret_bool (HF.out (by rw [HWB.out]; rfl)).symm, below_drewN HB.out _⟩
                · go_roundw
                  case rel => exact ⟨q + 1, by omega, by go_num, by rw [take_get HX.out, List.all_append, HA.out]; simp only [List.all_cons, List.all_nil, Bool.and_true, Bool.true_and]; exact HWB.out, below_drewN HB.out _, HN.out.drewN _⟩
                  case measure => simp [intOf]; omega
          · have hle : ((l : Int) != 3) = true := by simp; omega
            go_wp2_with fail
            go_quiet (fail)
            go_wp2_with fail
            go_ret
            exact ⟨ret_bool (HF.out (by unfold wayB; rw [HRL.out, beq_eq_false_iff_ne.2 hl3]; rfl)).symm, below_drewN HB.out _⟩
        · obtain rfl : q = lW := by omega
          have HA8 : Hid (rows.all (wayB k) = true) := Lib.hid (by have := HA.out; rwa [List.take_of_length_le (by rw [HWL.out]; omega)] at this)
          have HM : Hid (tokM ts rows = (decide (k ≤ 4) && decide (q ≤ 7))) := Lib.hid (by unfold tokM; rw [HTL.out, HWL.out, HA9.out, HA8.out, Bool.true_and, Bool.and_true])
          have hqI : ¬ (q : Int) < (q : Int) := by omega
          by_cases h4 : k ≤ 4
          · by_cases h7 : q ≤ 7
            · have h4I : (k : Int) ≤ 4 := by omega
              have h7I : (q : Int) ≤ 7 := by omega
              go_wp2_with fail
              go_ret
              exact ⟨ret_bool (by rw [HM.out, decide_eq_true h4, decide_eq_true h7]; rfl), HB.out⟩
            · have h4I : (k : Int) ≤ 4 := by omega
              have h7I : ¬ (q : Int) ≤ 7 := by omega
              go_wp2_with fail
              go_ret
              exact ⟨ret_bool (by rw [HM.out, decide_eq_true h4, decide_eq_false h7]; rfl), HB.out⟩
          · have h4I : ¬ (k : Int) ≤ 4 := by omega
            go_wp2_with fail
            go_ret
            exact ⟨ret_bool (by rw [HM.out, decide_eq_false h4]; rfl), HB.out⟩
end Go.Proofs.Ytkjmpkincaainad
namespace Go.Proofs.Ytkjmpkincaainad
open Go.RowKit Go.WideShapes

def keepRes (ts : List Int) (rows : List (List Int)) (up down : Int) : Bool := tokM ts rows && (inB 0 40 up && (inB 1 40 down && (grOf ts rows).keepB up down))
/-- block b holds these numbers, one to a worker, and may be written -/
def NumsB (w : World) (b n : Nat) (f : Nat → Int) : Prop := ∀ j, j < n → w.cell? ⟨b, j, none⟩ = some (.int .i64 (f j)) ∧ w.frozen? ⟨b, j, none⟩ = false
theorem NumsB.block {w w' : World} {b n : Nat} {f : Nat → Int} (h : NumsB w b n f) (e : w'.heap[b]? = w.heap[b]?) : NumsB w' b n f := fun j hj =>
  ⟨by rw [World.cell?_of_block (w := w) e]; exact (h j hj).1, by rw [World.frozen?_of_block (w := w) e]; exact (h j hj).2⟩
theorem NumsB.put {w : World} {b n : Nat} {f : Nat → Int} (h : NumsB w b n f) {k : Nat} (hk : k < n) (x : Int) : NumsB (w.setCell ⟨b, k, none⟩ (.int .i64 x)) b n (fun j => if j = k then x else f j) := fun j hj => by
  refine ⟨?_, by rw [World.frozen?_setCell]; exact (h j hj).2⟩
  dsimp only
  by_cases e : j = k
  · subst e
    rw [if_pos rfl]
    exact World.cell?_setCell_same _ _ _ (h j hj).1
  · rw [if_neg e, World.cell?_setCell_other _ _ _ _ (by intro e'; injection e' with _ e2; exact e e2.symm)]
    exact (h j hj).1
theorem numsB_new (w : World) (n : Nat) : NumsB (w.alloc (.cells (madeCells #[.int .i64 0] n) 3)) w.heap.size n (fun _ => 0) := fun j hj => by
  refine ⟨?_, World.frozen?_alloc_new w _ _ _⟩
  rw [World.cell?_alloc_new]
  simp [madeCells, hj, Nat.mod_one]
theorem Try.infoInt8 : (Try.prog.info? 3).map (fun i => (i.zero, i.size, i.bytes)) = some (some (.int .i64 0), 1, 8) := by kernel_rfl
theorem pas_step1 {g : Gr} {up down : Int} (a : Nat → Int) (j : Nat) (h : (g.pas up down a j).1 (g.t j) < (g.pas up down a j).1 (g.f j) + g.w up down j) : g.pas up down a (j + 1) = (fun q => if q = g.t j then (g.pas up down a j).1 (g.f j) + g.w up down j else (g.pas up down a j).1 q, true) := by rw [Gr.pas, if_pos h]
theorem pas_step0 {g : Gr} {up down : Int} (a : Nat → Int) (j : Nat) (h : ¬ (g.pas up down a j).1 (g.t j) < (g.pas up down a j).1 (g.f j) + g.w up down j) : g.pas up down a (j + 1) = g.pas up down a j := by rw [Gr.pas, if_neg h]
/-- the three numbers of a way, where they lie -/
theorem way_at {w : World} {S : Nat → Prop} {aW : Option Addr} {lW : Nat} {rows : List (List Int)} {ts : List Int} (h : RowsAt w S aW lW rows) (hv : tokM ts rows = true) {q : Nat} (hq : q < lW) :
    ∃ b off b' off' c, aW = some ⟨b, off, none⟩ ∧ w.cell? ⟨b, off + q, none⟩ = some (.slice (some ⟨b', off', none⟩) 3 c) ∧ w.cell? ⟨b', off', none⟩ = some (.int .i64 ((grOf ts rows).f q : Nat)) ∧ w.cell? ⟨b', off' + 1, none⟩ = some (.int .i64 ((grOf ts rows).t q : Nat)) ∧ w.cell? ⟨b', off' + 2, none⟩ = some (.int .i64 ((grOf ts rows).c q : Nat)) := by
  obtain ⟨b, off, r, a', lr, cr, rfl, hr, dr, _, hri⟩ := h.get hq
  obtain ⟨l3, e0, _, e1, _, e2, _⟩ := (tok_get hv).2.2.2 q r hr
  have hl3 : lr = 3 := by have := hri.lenEq; omega
  subst hl3
  obtain ⟨b', off', r0, rfl, hy, hd⟩ := hri.get (k := 0) (by omega)
  obtain ⟨b2, off2, r1, e', hy2, hd2⟩ := hri.get (k := 1) (by omega)
  cases e'
  obtain ⟨b3, off3, r2, e', hy3, hd3⟩ := hri.get (k := 2) (by omega)
  cases e'
  rw [Nat.add_zero] at hd
  rw [getD_of hy] at e0
  rw [getD_of hy2] at e1
  rw [getD_of hy3] at e2
  subst e0
  subst e1
  subst e2
  exact ⟨b, off, b', off', cr, rfl, dr, hd, hd2, hd3⟩
end Go.Proofs.Ytkjmpkincaainad
