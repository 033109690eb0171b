import Derived.Test.YtkebdelfklmigadRows
import Derived.WalkKit
import Derived.LoopTactic
import Derived.Outline
import Derived.WalkSpells
import Derived.WalkLawsBesides
import Derived.ProofKit
import Derived.Lib.Hide
import Derived.IntWalk
import Derived.Deep.QuietTactic
import Derived.BigQuiet
import Derived.Deep.RegionHeld3
import Derived.Deep.RegionWith
import Derived.Shelf.RegionOpenPlain
import Derived.Test.YtkebdelfklmigadM0
import Derived.Test.YtkebdelfklmigadM2
import Derived.Test.YtkebdelfklmigadM8
import Derived.Test.YtkebdelfklmigadM11
import Derived.Conc.LoneCalls
import Derived.Orders
namespace Go.Proofs.Ytkebdelfklmigad
open Go.RowKit Go.WideShapes

def deadRes (ts : List Int) (rows : List (List Int)) : Bool := tokM ts rows && (grOf ts rows).deadB
def aliveB (ts : List Int) (rows : List (List Int)) : Bool := tokM ts rows && !(grOf ts rows).deadB
theorem alive_get {ts : List Int} {rows : List (List Int)} (h : aliveB ts rows = true) : tokM ts rows = true ∧ ¬ (grOf ts rows).Dead := by
  simp only [aliveB, Bool.and_eq_true, Bool.not_eq_true'] at h
  exact ⟨h.1, fun hd => by rw [(dead_iff (gr_ok h.1)).2 hd] at h; cases h.2⟩
set_option maxRecDepth 100000 in
set_option maxHeartbeats 4000000 in
theorem isDead_impl (d : NV) (ts : List Int) (rows : List (List Int)) (w : World) (h : NetAt w (· < w.heap.size) d ts rows) :
    Calls Try.prog 55 #[.agg #[.slice d.aT d.lT d.cT, .slice d.aW d.lW d.cW]] w (valN w (.bool (deadRes ts rows))) := by
  have HV := Lib.hid (fun w' (hb : Below w.heap.size w w') => validNet_impl d ts rows w' (net_lift h hb))
  cases hv : tokM ts rows
  · rw [hv] at HV
    obtain ⟨aT, lT, cT, aW, lW, cW⟩ := d
    clear h
    have HF : Hid (deadRes ts rows = false) := Lib.hid (by unfold deadRes; rw [hv]; rfl)
    clear hv
    go_enter Try.func55, Try.ntmps55
    go_wp2_with fail
    have hb0 := (Below.refl w.heap.size w).alloc (Nat.le_refl _) (.cells #[.slice aT lT cT, .slice aW lW cW] 26)
    have hn0 := netB_new w aT lT cT aW lW cW 26
    have hz0 : w.heap.size < (w.alloc (.cells #[.slice aT lT cT, .slice aW lW cW] 26)).heap.size := by simp
    generalize (w.alloc (.cells #[.slice aT lT cT, .slice aW lW cW] 26)) = w1 at *
    have HB0 := Lib.hid hb0
    obtain ⟨n0, n1⟩ := id hn0
    dsimp only at n0 n1
    have hzd : w.heap.size < w1.drew.heap.size := hz0
    have HNB := Lib.hid (show NetB w1.drew w.heap.size ⟨aT, lT, cT, aW, lW, cW⟩ from hn0.block rfl)
    have HBD := Lib.hid (show Below w.heap.size w w1.drew from hb0.drew)
    clear hb0 hn0
    refine wp_region_held_drew (S := (fun w' => w'.cell? ⟨w.heap.size, 0, none⟩ = some (.slice aT lT cT) ∧ w'.cell? ⟨w.heap.size, 1, none⟩ = some (.slice aW lW cW))) (by kernel_rfl) ⟨n0, n1⟩ (fun hHeld => ?_)
    refine wpAnyH_take (i := 0) (v := .agg #[.slice aT lT cT, .slice aW lW cW]) rfl (by kernel_rfl) (by kernel_rfl) (by kernel_rfl) (fun _ _ _ h => h) (Or.inl ⟨by rfl, ?_⟩) hHeld ?_
    · rintro w' ⟨k0, k1⟩; go_simp
    try simp only [Act.put, List.setIfInBounds_toArray, List.set_cons_zero, List.set_cons_succ]
    refine wpAnyH_ready (rs := [1]) (by kernel_rfl) (by simp) ?_
    refine AllReadyH.cons (o := _) rfl (fun K hK => ?_) AllReadyH.nil
    go_simp
    go_at_call 24
    refine (HV.out _ HBD.out).mono ?_
    rintro e w3 ⟨rfl, hb3⟩
    refine hK.out _ _ (HNB.out.below hb3 hzd) (fun hHeld => ?_)
    clear hK K
    try simp only [Act.put, List.setIfInBounds_toArray, List.set_cons_zero, List.set_cons_succ, List.getElem_toArray, List.getElem_cons_succ, List.getElem_cons_zero]
    refine wpAnyH_take (i := 2) (v := .bool false) rfl (by kernel_rfl) (by kernel_rfl) (by kernel_rfl) (fun _ _ _ h => h) (Or.inl ⟨by rfl, ?_⟩) hHeld ?_
    · rintro w' ⟨k0, k1⟩; go_simp
    try simp only [Act.put, List.setIfInBounds_toArray, List.set_cons_zero, List.set_cons_succ, List.getElem_toArray, List.getElem_cons_succ, List.getElem_cons_zero]
    refine wpAnyH_take (i := 3) (v := undef) rfl (by kernel_rfl) (by kernel_rfl) (by kernel_rfl) (fun _ _ _ h => h) (Or.inr ⟨by rfl, rfl⟩) hHeld ?_
    try simp only [Act.put, List.setIfInBounds_toArray, List.set_cons_zero, List.set_cons_succ, List.getElem_toArray, List.getElem_cons_succ, List.getElem_cons_zero]
    refine wpAnyH_take (i := 4) (v := undef) rfl (by kernel_rfl) (by kernel_rfl) (by kernel_rfl) (fun _ _ _ h => h) (Or.inr ⟨by rfl, rfl⟩) hHeld ?_
    try simp only [Act.put, List.setIfInBounds_toArray, List.set_cons_zero, List.set_cons_succ, List.getElem_toArray, List.getElem_cons_succ, List.getElem_cons_zero]
    refine wpAnyH_take (i := 5) (v := undef) rfl (by kernel_rfl) (by kernel_rfl) (by kernel_rfl) (fun _ _ _ h => h) (Or.inr ⟨by rfl, rfl⟩) hHeld ?_
    try simp only [Act.put, List.setIfInBounds_toArray, List.set_cons_zero, List.set_cons_succ, List.getElem_toArray, List.getElem_cons_succ, List.getElem_cons_zero]
    refine wpAnyH_take (i := 6) (v := undef) rfl (by kernel_rfl) (by kernel_rfl) (by kernel_rfl) (fun _ _ _ h => h) (Or.inr ⟨by rfl, rfl⟩) hHeld ?_
    try simp only [Act.put, List.setIfInBounds_toArray, List.set_cons_zero, List.set_cons_succ, List.getElem_toArray, List.getElem_cons_succ, List.getElem_cons_zero]
    refine wpAnyH_take (i := 7) (v := undef) rfl (by kernel_rfl) (by kernel_rfl) (by kernel_rfl) (fun _ _ _ h => h) (Or.inr ⟨by rfl, rfl⟩) hHeld ?_
    try simp only [Act.put, List.setIfInBounds_toArray, List.set_cons_zero, List.set_cons_succ, List.getElem_toArray, List.getElem_cons_succ, List.getElem_cons_zero]
    refine wpAnyH_take (i := 8) (v := undef) rfl (by kernel_rfl) (by kernel_rfl) (by kernel_rfl) (fun _ _ _ h => h) (Or.inr ⟨by rfl, rfl⟩) hHeld ?_
    try simp only [Act.put, List.setIfInBounds_toArray, List.set_cons_zero, List.set_cons_succ, List.getElem_toArray, List.getElem_cons_succ, List.getElem_cons_zero]
    refine wpAnyH_take (i := 9) (v := undef) rfl (by kernel_rfl) (by kernel_rfl) (by kernel_rfl) (fun _ _ _ h => h) (Or.inr ⟨by rfl, rfl⟩) hHeld ?_
    try simp only [Act.put, List.setIfInBounds_toArray, List.set_cons_zero, List.set_cons_succ, List.getElem_toArray, List.getElem_cons_succ, List.getElem_cons_zero]
    refine wpAnyH_take (i := 10) (v := .bool false) rfl (by kernel_rfl) (by kernel_rfl) (by kernel_rfl) (fun _ _ _ h => h) (Or.inl ⟨by rfl, ?_⟩) hHeld ?_
    · rintro w' ⟨k0, k1⟩; go_simp
    try simp only [Act.put, List.setIfInBounds_toArray, List.set_cons_zero, List.set_cons_succ, List.getElem_toArray, List.getElem_cons_succ, List.getElem_cons_zero]
    refine wpAnyH_take (i := 11) (v := .bool false) rfl (by kernel_rfl) (by kernel_rfl) (by kernel_rfl) (fun _ _ _ h => h) (Or.inl ⟨by rfl, ?_⟩) hHeld ?_
    · rintro w' ⟨k0, k1⟩; go_simp
    try simp only [Act.put, List.setIfInBounds_toArray, List.set_cons_zero, List.set_cons_succ, List.getElem_toArray, List.getElem_cons_succ, List.getElem_cons_zero]
    refine wpAnyH_done (by kernel_rfl) ?_ _
    go_wp2_with fail
    go_ret
    exact ⟨ret_bool HF.out.symm, HBD.out.trans (hb3.mono HBD.out.size)⟩
  · rw [hv] at HV
    have hok := gr_ok hv
    have HO := Lib.hid (fun w' (hb : Below w.heap.size w w') => beginOrder_any d ts rows w' (net_lift h hb) hv)
    have HN : Hid ((grOf ts rows).n = d.lT) := Lib.hid h.t.lenEq
    obtain ⟨aT, lT, cT, aW, lW, cW⟩ := d
    clear h
    have HF : Hid (deadRes ts rows = (grOf ts rows).deadB) := Lib.hid (by unfold deadRes; rw [hv]; rfl)
    have HDI := Lib.hid (dead_iff hok)
    have h4 : lT ≤ 4 := by have h8 := hok.n4; have h9 := HN.out; dsimp only at h9; omega
    clear hv hok
    go_enter Try.func55, Try.ntmps55
    go_wp2_with fail
    have hb0 := (Below.refl w.heap.size w).alloc (Nat.le_refl _) (.cells #[.slice aT lT cT, .slice aW lW cW] 26)
    have hn0 := netB_new w aT lT cT aW lW cW 26
    have hz0 : w.heap.size < (w.alloc (.cells #[.slice aT lT cT, .slice aW lW cW] 26)).heap.size := by simp
    generalize (w.alloc (.cells #[.slice aT lT cT, .slice aW lW cW] 26)) = w1 at *
    have HB0 := Lib.hid hb0
    obtain ⟨n0, n1⟩ := id hn0
    dsimp only at n0 n1
    have hzd : w.heap.size < w1.drew.heap.size := hz0
    have HNB := Lib.hid (show NetB w1.drew w.heap.size ⟨aT, lT, cT, aW, lW, cW⟩ from hn0.block rfl)
    have HBD := Lib.hid (show Below w.heap.size w w1.drew from hb0.drew)
    clear hb0 hn0
    go_region_held3 (fun w' => w'.cell? ⟨w.heap.size, 0, none⟩ = some (.slice aT lT cT) ∧ w'.cell? ⟨w.heap.size, 1, none⟩ = some (.slice aW lW cW)) (first | go_keep | exact k1 | exact k0)
      (first | (go_at_call 31; refine (HO.out _ HB3.out).mono ?_; rintro e w4 ⟨a4, c4, L, rfl, hq4, hall4, _, _, hb4⟩; have k1 := HN3.out.below hb4 hz3; have hlen4 := ordQ_len hq4; rw [HN.out] at hlen4) | (go_at_call 24; refine (HV.out _ HBD.out).mono ?_; rintro e w3 ⟨rfl, hb3⟩; have k0 := HNB.out.below hb3 hzd; have HB3 := Lib.hid (HBD.out.trans (hb3.mono HBD.out.size)); have HN3 := Lib.hid k0; have hz3 := Nat.lt_of_lt_of_le hzd hb3.size))
    have HQ4 := Lib.hid hq4
    have HA4 := Lib.hid hall4
    have HB4 := Lib.hid (HB3.out.trans (hb4.mono HB3.out.size))
    clear hq4 hall4 k0 k1 hb4 hb3
    go_wp2_with fail
    go_ret
    refine ⟨ret_bool ?_, HB4.out⟩
    rw [HF.out, Bool.eq_iff_iff, HDI.out, decide_eq_true_eq]
    constructor
    · intro hlt
      refine Classical.byContradiction fun hd => ?_
      have h8 := HA4.out hd
      have h9 := HN.out
      omega
    · intro hd
      have h8 := ordQ_dead HQ4.out hd
      have h9 := HN.out
      omega
set_option maxRecDepth 100000 in
set_option maxHeartbeats 4000000 in
theorem isAlive_any (d : NV) (ts : List Int) (rows : List (List Int)) (w : World) (h : NetAt w (· < w.heap.size) d ts rows) :
    Calls Try.prog 29 #[.agg #[.slice d.aT d.lT d.cT, .slice d.aW d.lW d.cW]] w (valN w (.bool (aliveB ts rows))) := by
  have HV := Lib.hid (fun w' (hb : Below w.heap.size w w') => validNet_impl d ts rows w' (net_lift h hb))
  have HD := Lib.hid (fun w' (hb : Below w.heap.size w w') => isDead_impl d ts rows w' (net_lift h hb))
  obtain ⟨aT, lT, cT, aW, lW, cW⟩ := d
  have HAL : Hid (aliveB ts rows = (tokM ts rows && !deadRes ts rows)) := Lib.hid (by unfold aliveB deadRes; cases tokM ts rows <;> rfl)
  clear h
  have hb0 := (Below.refl w.heap.size w).alloc (Nat.le_refl _) (.cells #[.slice aT lT cT, .slice aW lW cW] 26)
  have hn0 := netB_new w aT lT cT aW lW cW 26
  have hz0 : w.heap.size < (w.alloc (.cells #[.slice aT lT cT, .slice aW lW cW] 26)).heap.size := by simp
  obtain ⟨w1, hw1⟩ : ∃ w1, (w.alloc (.cells #[.slice aT lT cT, .slice aW lW cW] 26)) = w1 := ⟨_, rfl⟩
  rw [hw1] at hb0 hn0 hz0
  have HW1 := Lib.hid hw1
  have HB0 := Lib.hid hb0
  have HN0 := Lib.hid hn0
  clear hb0 hn0 hw1
  cases hv : tokM ts rows
  · rw [hv] at HV HAL
    clear hv
    go_enter Try.func29, Try.ntmps29
    go_wp2_with fail
    rw [HW1.out]
    obtain ⟨n0, n1⟩ := HN0.out
    refine (HV.out _ HB0.out).mono ?_
    rintro e w2 ⟨rfl, hb2⟩
    go_wp2_with fail
    go_ret
    exact ⟨ret_bool HAL.out.symm, HB0.out.trans (hb2.mono HB0.out.size)⟩
  · rw [hv] at HV HAL
    clear hv
    obtain ⟨dr, hdr⟩ : ∃ dr, deadRes ts rows = dr := ⟨_, rfl⟩
    rw [hdr] at HD HAL
    clear hdr
    go_enter Try.func29, Try.ntmps29
    go_wp2_with fail
    rw [HW1.out]
    refine (HV.out _ HB0.out).mono ?_
    rintro e w2 ⟨rfl, hb2⟩
    obtain ⟨n0, n1⟩ := HN0.out.below hb2 hz0
    have HB2 := Lib.hid (HB0.out.trans (hb2.mono HB0.out.size))
    clear hb2
    go_wp2_with fail
    refine (HD.out _ HB2.out).mono ?_
    rintro e w3 ⟨rfl, hb3⟩
    go_wp2_with fail
    go_ret
    exact ⟨ret_bool (by rw [HAL.out]; rfl), HB2.out.trans (hb3.mono HB2.out.size)⟩
end Go.Proofs.Ytkebdelfklmigad
namespace Go.Proofs.Ytkebdelfklmigad

-- when workers begin: a row that is raised until nothing rises (plain)
def mu (f : Nat → Int) : Nat → Nat
  | 0 => 0
  | n + 1 => mu f n + (f n).toNat
theorem mu_congr {f h : Nat → Int} {n : Nat} (e : ∀ v, v < n → f v = h v) : mu f n = mu h n := by
  induction n with
  | zero => rfl
  | succ n ih => rw [mu, mu, ih (fun v hv => e v (by omega)), e n (by omega)]
theorem mu_less {f h : Nat → Int} {n u : Nat} (hu : u < n) (e : ∀ v, v < n → v ≠ u → h v = f v) (h0 : 0 ≤ h u) (hl : h u < f u) : mu h n < mu f n := by
  induction n with
  | zero => omega
  | succ n ih =>
    rw [mu, mu]
    by_cases hun : u = n
    · subst hun
      rw [mu_congr (n := u) (f := h) (h := f) (fun v hv => e v (by omega) (by omega))]
      omega
    · have := ih (by omega) (fun v hv hne => e v (by omega) hne)
      rw [e n (by omega) (fun h => hun h.symm)]
      omega
/-- what way k asks for in round r, over the row X of this round -/
def Gr.val (g : Gr) (r : Nat) (X : Nat → Int) (k : Nat) : Int := (if g.c k = 0 then X (g.f k) else g.b (r - g.c k) (g.f k)) + g.tm (g.f k)
/-- no more than when workers begin -/
def Gr.low (g : Gr) (r : Nat) (X : Nat → Int) : Prop := ∀ v, v < g.n → 0 ≤ X v ∧ X v ≤ g.b r v
theorem val_bd {g : Gr} (hg : g.Ok) {rk : Nat → Nat} (hr : g.Rank rk) {r k : Nat} (h40 : r ≤ 40) (hk : k < g.m) (hc : g.c k ≤ r) {X : Nat → Int} (hX : g.low r X) : 0 ≤ g.val r X k ∧ g.val r X k ≤ g.b r (g.t k) := by
  obtain ⟨h1, h2, _⟩ := hg.ways k hk
  have ht := hg.times (g.f k)
  have hb := b_ge hg hr h40 hk hc
  unfold Gr.val
  by_cases h0 : g.c k = 0
  · rw [if_pos h0]
    have := hX _ h1
    rw [h0, Nat.sub_zero] at hb
    omega
  · rw [if_neg h0]
    have := b_nn g (r - g.c k) (g.f k)
    omega
theorem low_put {g : Gr} (hg : g.Ok) {rk : Nat → Nat} (hr : g.Rank rk) {r k : Nat} (h40 : r ≤ 40) (hk : k < g.m) (hc : g.c k ≤ r) {X : Nat → Int} (hX : g.low r X) : g.low r (fun v => if v = g.t k then g.val r X k else X v) := by
  intro v hv
  show 0 ≤ (if v = g.t k then g.val r X k else X v) ∧ (if v = g.t k then g.val r X k else X v) ≤ g.b r v
  split
  · rename_i e; subst e; exact val_bd hg hr h40 hk hc hX
  · exact hX v hv
theorem mu_put {g : Gr} (hg : g.Ok) {rk : Nat → Nat} (hr : g.Rank rk) {r k : Nat} (h40 : r ≤ 40) (hk : k < g.m) (hc : g.c k ≤ r) {X : Nat → Int} (hX : g.low r X) (hl : X (g.t k) < g.val r X k) :
    mu (fun v => g.b r v - (if v = g.t k then g.val r X k else X v)) g.n < mu (fun v => g.b r v - X v) g.n := by
  have hb := (val_bd hg hr h40 hk hc hX).2
  refine mu_less (hg.ways k hk).2.1 (fun v _ hne => ?_) ?_ ?_
  · rw [if_neg hne]
  · rw [if_pos rfl]; omega
  · rw [if_pos rfl]; omega
/-- a row that is raised no more -/
theorem row_done {g : Gr} (hg : g.Ok) {rk : Nat → Nat} (hr : g.Rank rk) {r : Nat} (h40 : r ≤ 40) {X : Nat → Int} (hX : g.low r X) (hd : ∀ k, k < g.m → g.c k ≤ r → g.val r X k ≤ X (g.t k)) : ∀ v, v < g.n → X v = g.b r v := by
  have h := b_le hg hr (fun r' v => if r' = r then X v else g.b r' v) (R := r + 1) (by omega) (fun r' v hr' hv => by
    split
    · exact (hX v hv).1
    · exact b_nn g r' v) (fun r' k hr' hk hc hi => by
    skip
    by_cases e : r' = r
    · subst e
      rw [if_pos rfl]
      have h1 := hd k hk hc
      unfold Gr.val at h1
      by_cases h0 : g.c k = 0
      · rw [if_pos h0] at h1
        rw [h0, Nat.sub_zero] at hi ⊢
        rw [if_pos rfl] at hi
        omega
      · rw [if_neg h0] at h1
        exact h1
    · rw [if_neg e]
      exact b_ge hg hr (by omega) hk hc)
  intro v hv
  have h1 := h r v (by omega) hv
  skip
  rw [if_pos rfl] at h1
  have := (hX v hv).2
  omega
/-- the rows of the first rounds -/
def bRows (ts : List Int) (rows : List (List Int)) (r : Nat) : List (List Int) := (List.range r).map (fun q => tab (fun v => (grOf ts rows).b q v) ts.length)
theorem bRows_snoc (ts : List Int) (rows : List (List Int)) (r : Nat) : bRows ts rows (r + 1) = bRows ts rows r ++ [tab (fun v => (grOf ts rows).b r v) ts.length] := by simp [bRows, List.range_succ]
theorem bRows_len (ts : List Int) (rows : List (List Int)) (r : Nat) : (bRows ts rows r).length = r := by simp [bRows]
theorem bRows_get {ts : List Int} {rows : List (List Int)} {r q : Nat} (h : q < r) : (bRows ts rows r)[q]? = some (tab (fun v => (grOf ts rows).b q v) ts.length) := by simp [bRows, h]
/-- what BeginsAt answers -/
def begRes (ts : List Int) (rows : List (List Int)) (r : Int) : List (List Int) := if aliveB ts rows && inB 0 40 r then bRows ts rows r.toNat else []
theorem begRes_no {ts : List Int} {rows : List (List Int)} {r : Int} (h : aliveB ts rows = false ∨ inB 0 40 r = false) : begRes ts rows r = [] := by
  unfold begRes
  rcases h with h | h <;> simp [h]
theorem begRes_yes {ts : List Int} {rows : List (List Int)} {r : Nat} (h : aliveB ts rows = true) (hr : r ≤ 40) : begRes ts rows r = bRows ts rows r := by
  unfold begRes
  rw [h, inB_true (by omega) (by omega)]; rfl
end Go.Proofs.Ytkebdelfklmigad
namespace Go.Proofs.Ytkebdelfklmigad
open Go.RowKit Go.WideShapes

theorem cell_same {w w' : World} {a : Addr} {v : Value} (e : w'.heap[a.block]? = w.heap[a.block]?) (h : w.cell? a = some v) : w'.cell? a = some v := by rw [World.cell?_of_block (w := w) e]; exact h
/-- rows of numbers that begin a row of rows: their row lies in block G, row q in block Br q -/
def BegW (w : World) (G : Nat) (Br : Nat → Nat) (n R : Nat) (X : Nat → Nat → Int) : Prop :=
  ∀ q, q < R → w.cell? ⟨G, q, none⟩ = some (.slice (some ⟨Br q, 0, none⟩) n n) ∧ ∀ v, v < n → w.cell? ⟨Br q, v, none⟩ = some (.int .i64 (X q v))
theorem BegW.to {w w' : World} {G : Nat} {Br : Nat → Nat} {n R : Nat} {X : Nat → Nat → Int} (h : BegW w G Br n R X) (hG : 0 < R → w'.heap[G]? = w.heap[G]?) (hB : ∀ q, q < R → w'.heap[Br q]? = w.heap[Br q]?) : BegW w' G Br n R X := fun q hq =>
  ⟨cell_same (hG (by omega)) (h q hq).1, fun v hv => cell_same (hB q hq) ((h q hq).2 v hv)⟩
/-- when a token of way (f, c) is there for the last one of L rounds -/
def readyV (X : Nat → Nat → Int) (L f c : Nat) (tm : Int) : Int := if L ≤ c then 0 else X (L - 1 - c) f + tm
set_option maxRecDepth 100000 in
set_option maxHeartbeats 4000000 in
theorem readyAt_any (G n L C f c : Nat) (t tm : Int) (Br : Nat → Nat) (X : Nat → Nat → Int) (w : World) (h : BegW w G Br n L X) (hG : G < w.heap.size) (hB : ∀ q, q < L → Br q < w.heap.size) (hf : f < n) (hn : n ≤ 1000) (hL : 1 ≤ L ∧ L ≤ 1000) (hc : c ≤ 1000)
    (hX : ∀ q, q < L → 0 ≤ X q f ∧ X q f ≤ 1000000) (ht : 0 ≤ tm ∧ tm ≤ 1000000) :
    Calls Try.prog 59 #[.agg #[.int .i64 f, .int .i64 t, .int .i64 c], .int .i64 tm, .slice (some ⟨G, 0, none⟩) L C] w (valN w (.int .i64 (readyV X L f c tm))) := by
  have hb1 := (Below.refl w.heap.size w).alloc (Nat.le_refl _) (.cells #[.int .i64 f, .int .i64 t, .int .i64 c] 77)
  by_cases hlc : L ≤ c
  · have hR : readyV X L f c tm = 0 := if_pos hlc
    rw [hR]
    have hI : (L : Int) - 1 - c < 0 := by omega
    clear hR h hX
    go_enter Try.func59, Try.ntmps59
    go_wp2_with fail
    go_ret
    exact ⟨rfl, hb1⟩
  · have hR : readyV X L f c tm = X (L - 1 - c) f + tm := if_neg hlc
    rw [hR]
    obtain ⟨q, hq⟩ : ∃ q, L - 1 - c = q := ⟨_, rfl⟩
    rw [hq]
    have hqL : q < L := by omega
    have hI : ¬ (L : Int) - 1 - c < 0 := by omega
    have he : (L : Int) - 1 - c = (q : Int) := by omega
    obtain ⟨c1, c2⟩ := h q hqL
    have c2 := c2 f hf
    have hx := hX q hqL
    have c1' : (w.alloc (.cells #[.int .i64 f, .int .i64 t, .int .i64 c] 77)).cell? ⟨G, q, none⟩ = some (.slice (some ⟨Br q, 0, none⟩) n n) := cell_same (Below.heap_alloc _ _ _ hG) c1
    have c2' : (w.alloc (.cells #[.int .i64 f, .int .i64 t, .int .i64 c] 77)).cell? ⟨Br q, f, none⟩ = some (.int .i64 (X q f)) := cell_same (Below.heap_alloc _ _ _ (hB q hqL)) c2
    clear c1 c2 hR h hX hq hB
    obtain ⟨x, hxe⟩ : ∃ x, X q f = x := ⟨_, rfl⟩
    rw [hxe] at hx c2' ⊢
    clear hxe
    go_enter Try.func59, Try.ntmps59
    go_wp2_with fail
    have hqI : (q : Int) < (L : Int) := by omega
    have hfI : (f : Int) < (n : Int) := by omega
    clear he hI
    go_quiet (fail)
    go_wp2_with fail
    go_ret
    exact ⟨rfl, below_drewN hb1 _⟩
end Go.Proofs.Ytkebdelfklmigad
namespace Go.Proofs.Ytkebdelfklmigad
open Go.Conc Go.RowKit

-- a walk in which a channel is used, nobody else being there: told for frames of calls
/-- from this code the run comes to an exit of which Q holds, in any frame that is not an early one -/
def runsC (P : Program) (c : Code) (Q : Exit → Act → World → Prop) (a : Act) (w : World) : Prop :=
  ∀ (b : Frame) (k : List Item) (cs : List Frame), b.kind ≠ .early → ∃ e a' w', Q e a' w' ∧ Arrives P (lone (b.at a (.code c :: k)) cs w) b k cs e a' w'
section
variable {P : Program} {Q : Exit → Act → World → Prop} {a : Act} {w : World}
theorem runs_wp {c : Code} (h : c.wp P Q a w) : runsC P c Q a w := fun b k cs _ => h b k cs
theorem runs_seq {x y : Code} {M : Act → World → Prop} (h : runsC P x (Exit.then M Q) a w) (hy : ∀ a w, M a w → runsC P y Q a w) : runsC P (.seq x y) Q a w := fun b k cs hk => by
  obtain ⟨e, a1, w1, hq, har⟩ := h b (.code y :: k) cs hk
  by_cases he : e = .normal
  · subst he
    obtain ⟨e2, a2, w2, hq2, har2⟩ := hy a1 w1 hq b k cs hk
    exact ⟨e2, a2, w2, hq2, .of_steps (.head step_seq har) har2⟩
  · refine ⟨e, a1, w1, ?_, .of_steps (.one step_seq) (.pass (x := .code y) rfl (fun _ _ => .inl he) har)⟩
    cases e with
    | normal => exact absurd rfl he
    | _ => exact hq
theorem runs_loop {c : Code} (I : Nat → Act → World → Prop) (n : Nat) (h0 : I n a w) (hI : ∀ n a w, I n a w → runsC P c (Exit.then (fun a w => ∃ m, m < n ∧ I m a w) Q) a w) : runsC P (.loop c) Q a w := fun b k cs hk => by
  have key : ∀ n a w, I n a w → ∃ e a' w', Q e a' w' ∧ Arrives P (lone (b.at a (.code c :: .inLoop c :: k)) cs w) b k cs e a' w' := by
    intro n
    induction n using Nat.strongRecOn with
    | _ n ih =>
      intro a w h
      obtain ⟨e, a1, w1, hq, har⟩ := hI n a w h b (.inLoop c :: k) cs hk
      by_cases he : e = .normal
      · subst he
        obtain ⟨m, hm, h1⟩ := hq
        obtain ⟨e2, a2, w2, hq2, har2⟩ := ih m hm a1 w1 h1
        exact ⟨e2, a2, w2, hq2, .of_steps (Steps.trans har (.one step_inLoop)) har2⟩
      · refine ⟨e, a1, w1, ?_, .pass (x := .inLoop c) rfl (fun _ _ => .inl he) har⟩
        cases e with
        | normal => exact absurd rfl he
        | _ => exact hq
  obtain ⟨e, a', w', hq, har⟩ := key n a w h0
  exact ⟨e, a', w', hq, .of_steps (.one step_loop) har⟩
theorem runs_cond {c : Operand} {x y : Code} {t : Bool} (hc : a.eval c = .bool t) (h : runsC P (if t then x else y) Q a w) : runsC P (.cond c x y) Q a w := fun b k cs hk => by
  obtain ⟨e, a', w', hq, har⟩ := h b k cs hk
  exact ⟨e, a', w', hq, .of_steps (.one (step_cond hc)) har⟩
theorem runs_mono {c : Code} {Q' : Exit → Act → World → Prop} (h : runsC P c Q a w) (hq : ∀ e a w, Q e a w → Q' e a w) : runsC P c Q' a w := fun b k cs hk => by
  obtain ⟨e, a', w', q, har⟩ := h b k cs hk
  exact ⟨e, a', w', hq _ _ _ q, har⟩
theorem runs_block {id : Nat} {c : Code} (h : runsC P c (Exit.inBlock id Q) a w) : runsC P (.block id c) Q a w := fun b k cs hk => by
  obtain ⟨e, a1, w1, hq, har⟩ := h b (.inBlock id :: k) cs hk
  cases e with
  | normal => exact ⟨.normal, a1, w1, hq, .head step_block (Steps.trans har (.one step_inBlock))⟩
  | exit i =>
    by_cases hi : i = id
    · subst hi
      simp only [Exit.inBlock, if_true] at hq
      exact ⟨.normal, a1, w1, hq, .head step_block (har k (by simp [exitTo]))⟩
    · simp only [Exit.inBlock, hi, if_false] at hq
      refine ⟨.exit i, a1, w1, hq, fun k' hk' => .head step_block (har k' ?_)⟩
      have hb : (id == i) = false := by simpa using fun h => hi h.symm
      simp [exitTo, hb, hk']
  | goto l => exact ⟨_, a1, w1, hq, fun k' hk' => .head step_block (har k' (by simp [gotoIn, hk']))⟩
  | ret => exact ⟨_, a1, w1, hq, .of_steps (.one step_block) har⟩
  | panic ch => exact ⟨_, a1, w1, hq, .of_steps (.one step_block) har⟩
  | outgrown => exact ⟨_, a1, w1, hq, .of_steps (b := b) (k := k) (cs := cs) (e := .outgrown) (.one step_block) har⟩
/-- the call, out of its body's run -/
theorem calls_runs {f : FuncId} {fn : Func} {c : Code} {args : Array Value} {R : Ending → World → Prop} (hf : P.funcs[f]? = some fn) (hb : fn.body = some c)
    (h : runsC P c (bodyPost P fn R) { tmps := args ++ Array.replicate (fn.ntmps - args.size) undef, defers := [] } w) : Calls P f args w R := by
  let b : Frame := { (default : Frame) with fn := f, kind := .normal }
  have hkn : b.kind ≠ .early := by simp [b]
  -- the same frame, walked by the library's own law: its post with the exit at hand
  intro cs
  obtain ⟨e, a', w', hq, har⟩ := h b [] cs hkn
  have hent : Frame.enter P f args .normal = b.at { tmps := args ++ Array.replicate (fn.ntmps - args.size) undef, defers := [] } [.code c] := by simp [Frame.enter, Frame.at, hf, hb, b]
  rw [← hent] at har
  match e, hq, har with
  | .normal, ⟨hd, v, hr, hR⟩, har => exact ⟨.returned v, w', _, hR, Steps.trans har (.one step_end), rfl, rfl, hd, rfl, fn, hf, hr⟩
  | .ret, ⟨hd, v, hr, hR⟩, ⟨todo, hs⟩ => exact ⟨.returned v, w', _, hR, hs, rfl, rfl, hd, rfl, fn, hf, hr⟩
  | .panic ch, ⟨hd, hR⟩, ⟨todo, hs⟩ => exact ⟨.panicked ch, w', _, hR, hs, rfl, rfl, hd, fn, hf⟩
  | .outgrown, hR, har => exact ⟨.outgrown, w', b, hR, har.resolve_left hkn, rfl, trivial⟩
end
end Go.Proofs.Ytkebdelfklmigad
namespace Go.Proofs.Ytkebdelfklmigad
open Go.Conc Go.RowKit

/-- the same within a region, these operations being left -/
def runsO (P : Program) (ops : Array Oper) (Q : Exit → Act → World → Prop) (l : List Nat) (a : Act) (w : World) : Prop :=
  ∀ (b : Frame) (k : List Item) (cs : List Frame), b.kind ≠ .early → ∃ e a' w', Q e a' w' ∧ Arrives P (lone (b.at a (.inRegion ops l :: k)) cs w) b k cs e a' w'
section
variable {P : Program} {ops : Array Oper} {Q : Exit → Act → World → Prop} {a : Act} {w : World}
theorem runsO_wp {l : List Nat} (h : wpOps P ops Q l a w) : runsO P ops Q l a w := fun b k cs _ => wp_ops l a w h b k cs
theorem runsO_nil (h : Q .normal a w) : runsO P ops Q [] a w := fun _ _ _ _ => ⟨.normal, a, w, h, .one step_region_end⟩
theorem runs_region {id : Nat} (h : runsO P ops Q (List.range ops.size) a w) : runsC P (.region id ops false) Q a w := fun b k cs hk => by
  obtain ⟨e, a', w', hq, har⟩ := h b k cs hk
  exact ⟨e, a', w', hq, .of_steps (.one step_region) har⟩
theorem runs_region_draw {id : Nat} (h : ∀ t, runsO P ops Q (Region.schedule (P.follows .mixedOrders) ops t) a w.drew) : runsC P (.region id ops true) Q a w := fun b k cs hk => by
  obtain ⟨e, a', w', hq, har⟩ := h _ b k cs hk
  exact ⟨e, a', w', hq, .of_steps (.one step_region_draw) har⟩
/-- one step of the machine, behind which the rest runs -/
theorem runsO_step {i : Nat} {rest : List Nat} {v : Value} {w' : World} (hs : ∀ (b : Frame) (k : List Item) (cs : List Frame), b.kind ≠ .early → step P (lone (b.at a (.inRegion ops (i :: rest) :: k)) cs w) = .next (lone ((b.at a (.inRegion ops (i :: rest) :: k)).finish v) cs w'))
    (h : runsO P ops Q rest (a.put ((ops[i]?).bind (·.dst)) v) w') : runsO P ops Q (i :: rest) a w := fun b k cs hk => by
  obtain ⟨e, a', w2, hq, har⟩ := h b k cs hk
  rw [← Frame.finish_at] at har
  exact ⟨e, a', w2, hq, .of_steps (.one (hs b k cs hk)) har⟩
theorem runsO_send {i : Nat} {rest : List Nat} {o : Oper} {c cap s r : Nat} {buf : Array Value} {v z : Value} {tm : Bool} (ho : ops[i]? = some o) (hw : Region.wanted o (yielded ops a.tmps) = true)
    (hr : (execOp a.eval o).run P w = .ok (.comm #[scase c v z] true .send) w) (hc : w.heap[c]? = some (.chan cap buf false s r tm)) (hroom : buf.size < cap)
    (h : runsO P ops Q rest (a.put o.dst undef) (w.setChan c cap (buf.push v) false (s + 1) r tm)) : runsO P ops Q (i :: rest) a w :=
  runsO_step (fun b k cs hk => step_lone_send_room (stepG_comm (k := k) (cs := cs) (rest := rest) ho hw hk hr) hc hroom) (by rw [ho]; exact h)
theorem runsO_recv {i : Nat} {rest : List Nat} {o : Oper} {c cap s r : Nat} {buf : Array Value} {z : Value} {closed tm ok : Bool} (ho : ops[i]? = some o) (hw : Region.wanted o (yielded ops a.tmps) = true)
    (hr : (execOp a.eval o).run P w = .ok (.comm #[rcase c z] true (.recv ok)) w) (hc : w.heap[c]? = some (.chan cap buf closed s r tm)) (hsome : 0 < buf.size)
    (h : runsO P ops Q rest (a.put o.dst (got ok (buf.getD 0 undef) true)) (w.setChan c cap (buf.extract 1 buf.size) closed s (r + 1) tm)) : runsO P ops Q (i :: rest) a w :=
  runsO_step (fun b k cs hk => step_lone_recv_buf ok (stepG_comm (k := k) (cs := cs) (rest := rest) ho hw hk hr) hc hsome) (by rw [ho]; exact h)
theorem runsO_shut {i : Nat} {rest : List Nat} {o : Oper} {c cap s r : Nat} {z : Value} {tm ok : Bool} (ho : ops[i]? = some o) (hw : Region.wanted o (yielded ops a.tmps) = true)
    (hr : (execOp a.eval o).run P w = .ok (.comm #[rcase c z] true (.recv ok)) w) (hc : w.heap[c]? = some (.chan cap #[] true s r tm))
    (h : runsO P ops Q rest (a.put o.dst (got ok z false)) w) : runsO P ops Q (i :: rest) a w :=
  runsO_step (fun b k cs hk => step_lone_recv_shut ok (stepG_comm (k := k) (cs := cs) (rest := rest) ho hw hk hr) hc) (by rw [ho]; exact h)
/-- an operation that hands on a value or calls, behind which the rest runs; nothing panics, nothing is put off -/
theorem runsO_op {i : Nat} {rest : List Nat} {o : Oper} {K : Act → World → Prop} (ho : ops[i]? = some o) (hw : Region.wanted o (yielded ops a.tmps) = true)
    (hr : (∃ v w', (execOp a.eval o).run P w = .ok (.value v) w' ∧ K (a.put o.dst v) w') ∨ (∃ f args w', (execOp a.eval o).run P w = .ok (.enter f args) w' ∧ Calls P f args w' (fun e w2 => ∃ v, e = .returned v ∧ K (a.put o.dst v) w2)))
    (h : ∀ a w, K a w → runsO P ops Q rest a w) : runsO P ops Q (i :: rest) a w := by
  rcases hr with ⟨v, w', hr, hK⟩ | ⟨f, args, w', hr, hC⟩
  · refine runsO_step (v := v) (w' := w') (fun b k cs _ => step_lone_go ?_) (by rw [ho]; exact h _ _ hK)
    rw [stepG_op (P := P) (b := b) (k := k) (cs := cs) (w := w) (rest := rest) ho hw]
    simp [stepG.apply, hr]
  · intro b k cs hk
    obtain ⟨e, w2, fr, ⟨v, rfl, hK⟩, hsteps, _, hleave⟩ := hC (b.at a (.inRegion ops (i :: rest) :: k) :: cs)
    have hin : step P (lone (b.at a (.inRegion ops (i :: rest) :: k)) cs w) = .next (lone (Frame.enter P f args .normal) (b.at a (.inRegion ops (i :: rest) :: k) :: cs) w') :=
      step_lone_go (by rw [stepG_op (P := P) (b := b) (k := k) (cs := cs) (w := w) (rest := rest) ho hw]; simp [stepG.apply, hr, Frame.at])
    obtain ⟨e, a', w3, hq, har⟩ := h _ _ hK b k cs hk
    refine ⟨e, a', w3, hq, .of_steps (.head hin (Steps.trans hsteps (.one ?_))) har⟩
    have hfin : (b.at a (.inRegion ops (i :: rest) :: k)).finish v = b.at (a.put o.dst v) (.inRegion ops rest :: k) := by rw [Frame.finish_at, ho]; rfl
    rw [← hfin]; exact step_leave_returned hleave
end
end Go.Proofs.Ytkebdelfklmigad
