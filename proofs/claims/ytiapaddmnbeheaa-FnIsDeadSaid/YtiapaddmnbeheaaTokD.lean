import Derived.Test.YtiapaddmnbeheaaRows
import Derived.WalkKit
import Derived.LoopTactic
import Derived.Outline
import Derived.WalkSpells
import Derived.WalkLawsBesides
import Derived.ProofKit
import Derived.Lib.Hide
import Derived.IntWalk
import Derived.Deep.QuietTactic
import Derived.BigQuiet
import Derived.Deep.RegionHeld3
import Derived.Deep.RegionWith
import Derived.Shelf.RegionOpenPlain
import Derived.Test.YtiapaddmnbeheaaLib
import Derived.Test.YtiapaddmnbeheaaNetAt
import Derived.Test.YtiapaddmnbeheaaTokO
import Derived.Test.YtiapaddmnbeheaaTokC
namespace Go.Proofs.Ytiapaddmnbeheaa
open Go.RowKit Go.WideShapes

def deadRes (ts : List Int) (rows : List (List Int)) : Bool := tokM ts rows && (grOf ts rows).deadB
def aliveB (ts : List Int) (rows : List (List Int)) : Bool := tokM ts rows && !(grOf ts rows).deadB
theorem alive_get {ts : List Int} {rows : List (List Int)} (h : aliveB ts rows = true) : tokM ts rows = true ∧ ¬ (grOf ts rows).Dead := by
  simp only [aliveB, Bool.and_eq_true, Bool.not_eq_true'] at h
  exact ⟨h.1, fun hd => by rw [(dead_iff (gr_ok h.1)).2 hd] at h; cases h.2⟩
set_option maxRecDepth 100000 in
set_option maxHeartbeats 4000000 in
theorem isDead_impl (d : NV) (ts : List Int) (rows : List (List Int)) (w : World) (h : NetAt w (· < w.heap.size) d ts rows) :
    Calls Try.prog 14 #[.agg #[.slice d.aT d.lT d.cT, .slice d.aW d.lW d.cW]] w (valN w (.bool (deadRes ts rows))) := by
  have HV := Lib.hid (fun w' (hb : Below w.heap.size w w') => validNet_impl d ts rows w' (net_lift h hb))
  cases hv : tokM ts rows
  · rw [hv] at HV
    obtain ⟨aT, lT, cT, aW, lW, cW⟩ := d
    clear h
    have HF : Hid (deadRes ts rows = false) := Lib.hid (by unfold deadRes; rw [hv]; rfl)
    clear hv
    go_enter Try.func14, Try.ntmps14
    go_wp2_with fail
    have hb0 := (Below.refl w.heap.size w).alloc (Nat.le_refl _) (.cells #[.slice aT lT cT, .slice aW lW cW] 26)
    have hn0 := netB_new w aT lT cT aW lW cW 26
    have hz0 : w.heap.size < (w.alloc (.cells #[.slice aT lT cT, .slice aW lW cW] 26)).heap.size := by simp
    generalize (w.alloc (.cells #[.slice aT lT cT, .slice aW lW cW] 26)) = w1 at *
    have HB0 := Lib.hid hb0
    obtain ⟨n0, n1⟩ := id hn0
    dsimp only at n0 n1
    have hzd : w.heap.size < w1.drew.heap.size := hz0
    have HNB := Lib.hid (show NetB w1.drew w.heap.size ⟨aT, lT, cT, aW, lW, cW⟩ from hn0.block rfl)
    have HBD := Lib.hid (show Below w.heap.size w w1.drew from hb0.drew)
    clear hb0 hn0
    refine wp_region_held_drew (S := (fun w' => w'.cell? ⟨w.heap.size, 0, none⟩ = some (.slice aT lT cT) ∧ w'.cell? ⟨w.heap.size, 1, none⟩ = some (.slice aW lW cW))) (by kernel_rfl) ⟨n0, n1⟩ (fun hHeld => ?_)
    refine wpAnyH_take (i := 0) (v := .agg #[.slice aT lT cT, .slice aW lW cW]) rfl (by kernel_rfl) (by kernel_rfl) (by kernel_rfl) (fun _ _ _ h => h) (Or.inl ⟨by rfl, ?_⟩) hHeld ?_
    · rintro w' ⟨k0, k1⟩; go_simp
    try simp only [Act.put, List.setIfInBounds_toArray, List.set_cons_zero, List.set_cons_succ]
    refine wpAnyH_ready (rs := [1]) (by kernel_rfl) (by simp) ?_
    refine AllReadyH.cons (o := _) rfl (fun K hK => ?_) AllReadyH.nil
    go_simp
    go_at_call 8
    refine (HV.out _ HBD.out).mono ?_
    rintro e w3 ⟨rfl, hb3⟩
    refine hK.out _ _ (HNB.out.below hb3 hzd) (fun hHeld => ?_)
    clear hK K
    try simp only [Act.put, List.setIfInBounds_toArray, List.set_cons_zero, List.set_cons_succ, List.getElem_toArray, List.getElem_cons_succ, List.getElem_cons_zero]
    refine wpAnyH_take (i := 2) (v := .bool false) rfl (by kernel_rfl) (by kernel_rfl) (by kernel_rfl) (fun _ _ _ h => h) (Or.inl ⟨by rfl, ?_⟩) hHeld ?_
    · rintro w' ⟨k0, k1⟩; go_simp
    try simp only [Act.put, List.setIfInBounds_toArray, List.set_cons_zero, List.set_cons_succ, List.getElem_toArray, List.getElem_cons_succ, List.getElem_cons_zero]
    refine wpAnyH_take (i := 3) (v := undef) rfl (by kernel_rfl) (by kernel_rfl) (by kernel_rfl) (fun _ _ _ h => h) (Or.inr ⟨by rfl, rfl⟩) hHeld ?_
    try simp only [Act.put, List.setIfInBounds_toArray, List.set_cons_zero, List.set_cons_succ, List.getElem_toArray, List.getElem_cons_succ, List.getElem_cons_zero]
    refine wpAnyH_take (i := 4) (v := undef) rfl (by kernel_rfl) (by kernel_rfl) (by kernel_rfl) (fun _ _ _ h => h) (Or.inr ⟨by rfl, rfl⟩) hHeld ?_
    try simp only [Act.put, List.setIfInBounds_toArray, List.set_cons_zero, List.set_cons_succ, List.getElem_toArray, List.getElem_cons_succ, List.getElem_cons_zero]
    refine wpAnyH_take (i := 5) (v := undef) rfl (by kernel_rfl) (by kernel_rfl) (by kernel_rfl) (fun _ _ _ h => h) (Or.inr ⟨by rfl, rfl⟩) hHeld ?_
    try simp only [Act.put, List.setIfInBounds_toArray, List.set_cons_zero, List.set_cons_succ, List.getElem_toArray, List.getElem_cons_succ, List.getElem_cons_zero]
    refine wpAnyH_take (i := 6) (v := undef) rfl (by kernel_rfl) (by kernel_rfl) (by kernel_rfl) (fun _ _ _ h => h) (Or.inr ⟨by rfl, rfl⟩) hHeld ?_
    try simp only [Act.put, List.setIfInBounds_toArray, List.set_cons_zero, List.set_cons_succ, List.getElem_toArray, List.getElem_cons_succ, List.getElem_cons_zero]
    refine wpAnyH_take (i := 7) (v := undef) rfl (by kernel_rfl) (by kernel_rfl) (by kernel_rfl) (fun _ _ _ h => h) (Or.inr ⟨by rfl, rfl⟩) hHeld ?_
    try simp only [Act.put, List.setIfInBounds_toArray, List.set_cons_zero, List.set_cons_succ, List.getElem_toArray, List.getElem_cons_succ, List.getElem_cons_zero]
    refine wpAnyH_take (i := 8) (v := undef) rfl (by kernel_rfl) (by kernel_rfl) (by kernel_rfl) (fun _ _ _ h => h) (Or.inr ⟨by rfl, rfl⟩) hHeld ?_
    try simp only [Act.put, List.setIfInBounds_toArray, List.set_cons_zero, List.set_cons_succ, List.getElem_toArray, List.getElem_cons_succ, List.getElem_cons_zero]
    refine wpAnyH_take (i := 9) (v := undef) rfl (by kernel_rfl) (by kernel_rfl) (by kernel_rfl) (fun _ _ _ h => h) (Or.inr ⟨by rfl, rfl⟩) hHeld ?_
    try simp only [Act.put, List.setIfInBounds_toArray, List.set_cons_zero, List.set_cons_succ, List.getElem_toArray, List.getElem_cons_succ, List.getElem_cons_zero]
    refine wpAnyH_take (i := 10) (v := .bool false) rfl (by kernel_rfl) (by kernel_rfl) (by kernel_rfl) (fun _ _ _ h => h) (Or.inl ⟨by rfl, ?_⟩) hHeld ?_
    · rintro w' ⟨k0, k1⟩; go_simp
    try simp only [Act.put, List.setIfInBounds_toArray, List.set_cons_zero, List.set_cons_succ, List.getElem_toArray, List.getElem_cons_succ, List.getElem_cons_zero]
    refine wpAnyH_take (i := 11) (v := .bool false) rfl (by kernel_rfl) (by kernel_rfl) (by kernel_rfl) (fun _ _ _ h => h) (Or.inl ⟨by rfl, ?_⟩) hHeld ?_
    · rintro w' ⟨k0, k1⟩; go_simp
    try simp only [Act.put, List.setIfInBounds_toArray, List.set_cons_zero, List.set_cons_succ, List.getElem_toArray, List.getElem_cons_succ, List.getElem_cons_zero]
    refine wpAnyH_done (by kernel_rfl) ?_ _
    go_wp2_with fail
    go_ret
    exact ⟨ret_bool HF.out.symm, HBD.out.trans (hb3.mono HBD.out.size)⟩
  · rw [hv] at HV
    have hok := gr_ok hv
    have HO := Lib.hid (fun w' (hb : Below w.heap.size w w') => beginOrder_any d ts rows w' (net_lift h hb) hv)
    have HN : Hid ((grOf ts rows).n = d.lT) := Lib.hid h.t.lenEq
    obtain ⟨aT, lT, cT, aW, lW, cW⟩ := d
    clear h
    have HF : Hid (deadRes ts rows = (grOf ts rows).deadB) := Lib.hid (by unfold deadRes; rw [hv]; rfl)
    have HDI := Lib.hid (dead_iff hok)
    have h4 : lT ≤ 4 := by have h8 := hok.n4; have h9 := HN.out; dsimp only at h9; omega
    clear hv hok
    go_enter Try.func14, Try.ntmps14
    go_wp2_with fail
    have hb0 := (Below.refl w.heap.size w).alloc (Nat.le_refl _) (.cells #[.slice aT lT cT, .slice aW lW cW] 26)
    have hn0 := netB_new w aT lT cT aW lW cW 26
    have hz0 : w.heap.size < (w.alloc (.cells #[.slice aT lT cT, .slice aW lW cW] 26)).heap.size := by simp
    generalize (w.alloc (.cells #[.slice aT lT cT, .slice aW lW cW] 26)) = w1 at *
    have HB0 := Lib.hid hb0
    obtain ⟨n0, n1⟩ := id hn0
    dsimp only at n0 n1
    have hzd : w.heap.size < w1.drew.heap.size := hz0
    have HNB := Lib.hid (show NetB w1.drew w.heap.size ⟨aT, lT, cT, aW, lW, cW⟩ from hn0.block rfl)
    have HBD := Lib.hid (show Below w.heap.size w w1.drew from hb0.drew)
    clear hb0 hn0
    go_region_held3 (fun w' => w'.cell? ⟨w.heap.size, 0, none⟩ = some (.slice aT lT cT) ∧ w'.cell? ⟨w.heap.size, 1, none⟩ = some (.slice aW lW cW)) (first | go_keep | exact k1 | exact k0)
      (first | (go_at_call 27; refine (HO.out _ HB3.out).mono ?_; rintro e w4 ⟨a4, c4, L, rfl, hq4, hall4, _, _, hb4⟩; have k1 := HN3.out.below hb4 hz3; have hlen4 := ordQ_len hq4; rw [HN.out] at hlen4) | (go_at_call 8; refine (HV.out _ HBD.out).mono ?_; rintro e w3 ⟨rfl, hb3⟩; have k0 := HNB.out.below hb3 hzd; have HB3 := Lib.hid (HBD.out.trans (hb3.mono HBD.out.size)); have HN3 := Lib.hid k0; have hz3 := Nat.lt_of_lt_of_le hzd hb3.size))
    have HQ4 := Lib.hid hq4
    have HA4 := Lib.hid hall4
    have HB4 := Lib.hid (HB3.out.trans (hb4.mono HB3.out.size))
    clear hq4 hall4 k0 k1 hb4 hb3
    go_wp2_with fail
    go_ret
    refine ⟨ret_bool ?_, HB4.out⟩
    rw [HF.out, Bool.eq_iff_iff, HDI.out, decide_eq_true_eq]
    constructor
    · intro hlt
      refine Classical.byContradiction fun hd => ?_
      have h8 := HA4.out hd
      have h9 := HN.out
      omega
    · intro hd
      have h8 := ordQ_dead HQ4.out hd
      have h9 := HN.out
      omega
end Go.Proofs.Ytiapaddmnbeheaa
