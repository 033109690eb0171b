/- The law FnTwoIsAShop returns true at every code, and the code reads behind the call as it read before. No condition. -/
import Derived.Test.YtkebdelfklmigaeRows
import Derived.WalkKit
import Derived.LoopTactic
import Derived.Outline
import Derived.WalkSpells
import Derived.WalkLawsBesides
import Derived.ProofKit
import Derived.Deep.QuietTactic
import Derived.BigQuiet
import Derived.IntWalk
import Derived.Test.YtkebdelfklmigaeM0
import Derived.Test.YtkebdelfklmigaeM1
import Derived.Test.YtkebdelfklmigaeM2
import Derived.Test.YtkebdelfklmigaeM4
import Derived.Test.YtkebdelfklmigaeM8
import Derived.Test.YtkebdelfklmigaeM11
import Derived.Test.YtkebdelfklmigaeM12
import Derived.Test.YtkebdelfklmigaeM18
import Derived.Test.YtkebdelfklmigaeM19
import Derived.Test.YtkebdelfklmigaeM13
namespace Go.Proofs.Ytkebdelfklmigae
open Go.RowKit Go.WideShapes

theorem Try.infoSS : (Try.prog.info? 24).map (fun i => (i.zero, i.size, i.bytes)) = some (some (.slice none 0 0), 1, 24) := by kernel_rfl
/-- a shop of the call's own, its jobs in blocks besides -/
def OwnTwo (w : World) (B : Nat) (v : Value) (k : Nat) (shop : List (List (List Int))) : Prop := ∃ us : List Value, w.ownsRow B 24 1 v k us ∧ shop.length = k ∧
  ∀ (q : Nat) (u : Value), us[q]? = some u → ∃ (a' : Option Addr) (c' : Nat) (job : List (List Int)), shop[q]? = some job ∧ u = .slice a' 2 c' ∧ 2 ≤ c' ∧ RowsAt w (fun b => B ≤ b ∧ b < w.heap.size ∧ v.ownBlock ≠ some b) a' 2 job
theorem OwnTwo.shop {w : World} {B k : Nat} {a : Option Addr} {cap : Nat} {shop : List (List (List Int))} (h : OwnTwo w B (.slice a k cap) k shop) (hk : k ≤ 1048576) : ShopAt w (· < w.heap.size) a k shop := by
  obtain ⟨us, h1, h2, h3⟩ := h
  have hul : us.length = k := by have := h1.1; simpa using this
  refine ⟨h2, by omega, fun h0 => ?_⟩
  have hc := fun g hg => h1.cells (g := g) hg
  have hlt := h1.lt
  rcases h1.2 with ⟨e1, e2⟩ | ⟨g, cp, cur, e1, e2, _⟩
  · omega
  · injection e1 with e3 _ _
    subst e3
    refine ⟨g, 0, rfl, (hlt g rfl).2, fun i job hj => ?_⟩
    have hi : i < us.length := by have := (List.getElem?_eq_some_iff.1 hj).1; omega
    obtain ⟨a', c', job', hj', hu, hc', hr⟩ := h3 i us[i] (List.getElem?_eq_getElem hi)
    rw [hj] at hj'
    injection hj' with hj'
    subst hj'
    refine ⟨a', 2, c', ?_, hc', hr.to (fun b hb => ⟨hb.2.1, rfl⟩)⟩
    have := hc g rfl i us[i] (List.getElem?_eq_getElem hi)
    rw [hu, add_plain] at this
    exact this
theorem OwnTwo.push {w w' : World} {B k g c p cc : Nat} {v : Value} {shop : List (List (List Int))} {job : List (List Int)} {us : List Value} (hul : us.length = k) (hl : shop.length = k)
    (hus : ∀ (q : Nat) (u : Value), us[q]? = some u → ∃ (a' : Option Addr) (c' : Nat) (job : List (List Int)), shop[q]? = some job ∧ u = .slice a' 2 c' ∧ 2 ≤ c' ∧ RowsAt w (fun b => B ≤ b ∧ b < w.heap.size ∧ v.ownBlock ≠ some b) a' 2 job)
    (hj : RowsAt w (fun b => B ≤ b ∧ b < w.heap.size ∧ v.ownBlock ≠ some b) (some ⟨p, 0, none⟩) 2 job) (hcc : 2 ≤ cc)
    (hv' : w'.ownsRow B 24 1 (.slice (some ⟨g, 0, none⟩) (k + 1) c) (k + 1) (us ++ [.slice (some ⟨p, 0, none⟩) 2 cc])) (hg : w.grownBy w' v.ownBlock) (hat : v.ownBlock = some g ∨ g = w.heap.size) : OwnTwo w' B (.slice (some ⟨g, 0, none⟩) (k + 1) c) (k + 1) (shop ++ [job]) := by
  have lift : ∀ {a' : Option Addr} {jb : List (List Int)}, RowsAt w (fun b => B ≤ b ∧ b < w.heap.size ∧ v.ownBlock ≠ some b) a' 2 jb → RowsAt w' (fun b => B ≤ b ∧ b < w'.heap.size ∧ (Value.slice (some ⟨g, 0, none⟩) (k + 1) c).ownBlock ≠ some b) a' 2 jb := fun h => h.to fun b hb => by
    refine ⟨⟨hb.1, Nat.lt_of_lt_of_le hb.2.1 hg.size, fun e => ?_⟩, hg.block b hb.2.1 (fun e => hb.2.2 e.symm)⟩
    have e2 : g = b := by simpa [Value.ownBlock] using e
    rcases hat with h1 | h1
    · exact hb.2.2 (by rw [h1, e2])
    · have := hb.2.1; omega
  refine ⟨_, hv', by simp [hl], fun q u hq => ?_⟩
  rcases Nat.lt_or_ge q us.length with h | h
  · rw [List.getElem?_append_left h] at hq
    obtain ⟨a', c', jb, e1, e2, e3, e4⟩ := hus q u hq
    exact ⟨a', c', jb, by rw [List.getElem?_append_left (by have := (List.getElem?_eq_some_iff.1 e1).1; omega)]; exact e1, e2, e3, lift e4⟩
  · have hq2 : q = us.length := by
      rcases Nat.lt_or_ge us.length q with h' | h'
      · rw [List.getElem?_eq_none (by simp; omega)] at hq; cases hq
      · omega
    subst hq2
    rw [List.getElem?_append_right (Nat.le_refl _), Nat.sub_self] at hq
    simp at hq
    exact ⟨_, cc, job, by rw [List.getElem?_append_right (by omega), hul, hl]; simp, hq.symm, hcc, lift hj⟩
theorem rows2_mk {w : World} {S : Nat → Prop} {p : Nat} {a0 a1 : Option Addr} {r0 r1 : List Int} (hS : S p) (h0 : w.cell? ⟨p, 0, none⟩ = some (.slice a0 2 2)) (h1 : w.cell? ⟨p, 1, none⟩ = some (.slice a1 2 2)) (i0 : IntsAt w S a0 2 r0) (i1 : IntsAt w S a1 2 r1) : RowsAt w S (some ⟨p, 0, none⟩) 2 [r0, r1] := by
  refine ⟨rfl, by omega, fun _ => ⟨p, 0, rfl, hS, fun i r hr => ?_⟩⟩
  match i with
  | 0 => simp at hr; subst hr; exact ⟨a0, 2, 2, h0, Nat.le_refl _, i0⟩
  | 1 => simp at hr; subst hr; exact ⟨a1, 2, 2, h1, Nat.le_refl _, i1⟩
  | i + 2 => simp at hr
/-- a job in three new blocks: the ints first -/
theorem job_new (wo : World) (x0 x1 y0 y1 : Int) (s : Bool) (t t' : TypeId) (S : Nat → Prop) (hS : ∀ b, wo.heap.size ≤ b → b < wo.heap.size + 3 → S b) :
    RowsAt (((wo.alloc (.cells #[.int .i64 x0, .int .i64 x1] t)).alloc (.cells #[.int .i64 y0, .int .i64 y1] t)).alloc (.cells #[.slice (some ⟨if s then wo.heap.size + 1 else wo.heap.size, 0, none⟩) 2 2, .slice (some ⟨if s then wo.heap.size else wo.heap.size + 1, 0, none⟩) 2 2] t')) S (some ⟨wo.heap.size + 2, 0, none⟩) 2 (if s then [[y0, y1], [x0, x1]] else [[x0, x1], [y0, y1]]) := by
  have z1 : (wo.alloc (.cells #[.int .i64 x0, .int .i64 x1] t)).heap.size = wo.heap.size + 1 := by simp
  have z2 : ((wo.alloc (.cells #[.int .i64 x0, .int .i64 x1] t)).alloc (.cells #[.int .i64 y0, .int .i64 y1] t)).heap.size = wo.heap.size + 2 := by simp
  have iX : IntsAt (((wo.alloc (.cells #[.int .i64 x0, .int .i64 x1] t)).alloc (.cells #[.int .i64 y0, .int .i64 y1] t)).alloc (.cells #[.slice (some ⟨if s then wo.heap.size + 1 else wo.heap.size, 0, none⟩) 2 2, .slice (some ⟨if s then wo.heap.size else wo.heap.size + 1, 0, none⟩) 2 2] t')) S (some ⟨wo.heap.size, 0, none⟩) 2 [x0, x1] :=
    (IntsAt.lit (W := wo) (cs := #[.int .i64 x0, .int .i64 x1]) (t := t) (xs := [x0, x1]) (len := 2) rfl rfl rfl (by omega)).to fun b hb => by
      subst hb
      exact ⟨hS _ (Nat.le_refl _) (by omega), (Below.heap_alloc _ _ _ (by rw [z2]; omega)).trans (Below.heap_alloc _ _ _ (by rw [z1]; omega))⟩
  have iY : IntsAt (((wo.alloc (.cells #[.int .i64 x0, .int .i64 x1] t)).alloc (.cells #[.int .i64 y0, .int .i64 y1] t)).alloc (.cells #[.slice (some ⟨if s then wo.heap.size + 1 else wo.heap.size, 0, none⟩) 2 2, .slice (some ⟨if s then wo.heap.size else wo.heap.size + 1, 0, none⟩) 2 2] t')) S (some ⟨wo.heap.size + 1, 0, none⟩) 2 [y0, y1] :=
    (IntsAt.lit (W := wo.alloc (.cells #[.int .i64 x0, .int .i64 x1] t)) (cs := #[.int .i64 y0, .int .i64 y1]) (t := t) (xs := [y0, y1]) (len := 2) rfl rfl z1.symm (by omega)).to fun b hb => by
      subst hb
      exact ⟨hS _ (by omega) (by omega), Below.heap_alloc _ _ _ (by rw [z2]; omega)⟩
  have hnew : ∀ j (u : Value), [Value.slice (some ⟨if s then wo.heap.size + 1 else wo.heap.size, 0, none⟩) 2 2, .slice (some ⟨if s then wo.heap.size else wo.heap.size + 1, 0, none⟩) 2 2][j]? = some u → (((wo.alloc (.cells #[.int .i64 x0, .int .i64 x1] t)).alloc (.cells #[.int .i64 y0, .int .i64 y1] t)).alloc (.cells #[.slice (some ⟨if s then wo.heap.size + 1 else wo.heap.size, 0, none⟩) 2 2, .slice (some ⟨if s then wo.heap.size else wo.heap.size + 1, 0, none⟩) 2 2] t')).cell? ⟨wo.heap.size + 2, j, none⟩ = some u := fun j u hu => by
    rw [← z2, World.cell?_alloc_new, ← Array.getElem?_toList]; exact hu
  cases s
  · exact rows2_mk (hS _ (by omega) (by omega)) (hnew 0 _ rfl) (hnew 1 _ rfl) iX iY
  · exact rows2_mk (hS _ (by omega) (by omega)) (hnew 0 _ rfl) (hnew 1 _ rfl) iY iX

set_option maxRecDepth 100000 in
set_option maxHeartbeats 8000000 in
theorem fnTwoIsAShop_any (a : Option Addr) (len cap : Nat) (w : World) (hb : BytesAt w w.heap.size a len) (hl : len ≤ cap) (hs : len ≤ 9223372036854775807) :
    Calls Try.prog 6 #[.slice a len cap] w (LawPost w) := by
  by_cases h20 : len ≤ 1048576
  · go_enter Try.func6, Try.ntmps6
    have hB0 := Below.refl w.heap.size w
    go_wp2_with fail
    refine (drawSpanTried_any a len cap w hb hl hs).mono ?_
    rintro e w1 ⟨a1, l1, c1, rows, rfl, n_r, hc1, hl1, hb1⟩
    have hB1 : Below w.heap.size w w1 := hB0.trans (hb1.mono hB0.size)
    clear hB0
    have xr_1 := n_r
    clear n_r
    clear hb hb1
    go_wp2_with fail
    refine (spanTried_impl a1 l1 c1 rows w1 xr_1 hc1).mono ?_
    rintro e w2 ⟨rfl, hb2⟩
    have xr_2 := rows_lift xr_1 hb2
    have hB2 : Below w.heap.size w w2 := hB1.trans (hb2.mono hB1.size)
    clear hB1 xr_1
    clear hb2
    obtain ⟨u, hu⟩ : ∃ u, triedRes rows = u := ⟨_, rfl⟩
    rw [hu]
    have HU := Lib.hid hu
    clear hu
    have hne : (u != u) = false := by simp
    go_wp2_with fail
    refine (spanTried_spec a1 l1 c1 rows w2 xr_2).mono ?_
    rintro e w3 ⟨rfl, hb3⟩
    have xr_3 := rows_lift xr_2 hb3
    have hB3 : Below w.heap.size w w3 := hB2.trans (hb3.mono hB2.size)
    clear hB2 xr_2
    clear hb3
    rw [HU.out]
    go_wp2_with fail
    refine (spanTried_impl a1 l1 c1 rows w3 xr_3 hc1).mono ?_
    rintro e w4 ⟨rfl, hb4⟩
    have xr_4 := rows_lift xr_3 hb4
    have hB4 : Below w.heap.size w w4 := hB3.trans (hb4.mono hB3.size)
    clear hB3 xr_3
    clear hb4 hne
    rw [HU.out]
    cases hf : triedFine rows
    · have hu1 : u = -1 := by rw [← HU.out]; exact triedRes_no hf
      subst hu1
      clear hf
      go_wp2_with fail
      go_ret
      exact ⟨rfl, hB4⟩
    · have hu0 := tried_nn hf
      rw [HU.out] at hu0
      have hun : ¬ u < 0 := by omega
      have HLST := Lib.hid (tried_lst hf)
      have HP := Lib.hid (triedFine_get hf).1
      have HLN := Lib.hid xr_4.lenEq
      rw [HU.out] at HLST
      clear hf
      by_cases h3 : l1 ≤ 3
      · have h3I : ¬ ((3 : Int) < (l1 : Int)) := by omega
        have HXR := Lib.hid xr_4
        have HBW := Lib.hid hB4
        obtain ⟨i1, hj, hy0, hy1, hy2⟩ := info_parts Try.infoSS
        have HO0 : Hid (OwnTwo (w4.alloc (.cells #[] 24)) w4.heap.size (.slice (some ⟨w4.heap.size, 0, none⟩) 0 0) 0 (shopOf rows 0)) := Lib.hid ⟨[], World.ownsRow_made (base := w4.heap.size) (size := 1) (e := 24) w4 #[] 0 (Nat.le_refl _) (Nat.zero_le _) rfl, rfl, fun q u hq => by cases hq⟩
        have HB0 := Lib.hid ((Below.refl w4.heap.size w4).alloc (Nat.le_refl _) (.cells #[] 24))
        clear xr_4 hB4
        go_wp2_with fail
        go_loopw [5, 6] (fun s5 s6 wr => ∃ (k cp : Nat) (ax : Option Addr), s6 = .int .i64 k ∧ k ≤ l1 ∧ s5 = .slice ax k cp ∧ k ≤ cp ∧ OwnTwo wr w4.heap.size (.slice ax k cp) k (shopOf rows k) ∧ (∀ q, q < k → 1 ≤ ta rows q ∧ 1 ≤ tb rows q) ∧ Below w4.heap.size w4 wr) (fun _ s6 _ => l1 - (intOf s6).toNat)
        case atStart => exact ⟨0, 0, _, rfl, Nat.zero_le _, rfl, Nat.le_refl _, HO0.out, fun q hq => by omega, HB0.out⟩
        case round =>
          clear HO0 HB0
          obtain ⟨k, cp, ax, rfl, hk, rfl, hkc, hown, hpos, hb⟩ := hrel
          obtain ⟨wo, rfl⟩ : ∃ wo : World, wo = wr := ⟨_, rfl⟩
          have HO := Lib.hid hown
          have HPO := Lib.hid hpos
          have HB := Lib.hid hb
          clear hown hpos hb
          by_cases hkl : k < l1
          · have hkI : (k : Int) < (l1 : Int) := by omega
            obtain ⟨b, off, r, a3, l3, c3, rfl, hr, hcr, hlc3, hri⟩ := HXR.out.get hkl
            obtain ⟨hr2, hra, hrb⟩ := (pairs_get HP.out).2 r (List.mem_of_getElem? hr)
            have hl3 : l3 = 2 := by rw [← hri.lenEq, hr2]
            subst hl3
            obtain ⟨b3, off3, x, rfl, hx, hcx⟩ := hri.get (k := 0) (by omega)
            obtain ⟨b4, off4, y, e4, hy, hcy⟩ := hri.get (k := 1) (by omega)
            injection e4 with e4
            injection e4 with e5 e6
            subst e5 e6
            rw [Nat.add_zero] at hcx
            have hm1 : b < w4.heap.size := HXR.out.mem (by omega)
            have hm2 : b3 < w4.heap.size := hri.mem (by omega)
            have hta : ta rows k = x := by have h := (t_at hr).1; rw [getD_of hx] at h; exact h
            have htb : tb rows k = y := by have h := (t_at hr).2; rw [getD_of hy] at h; exact h
            rw [getD_of hx] at hra
            rw [getD_of hy] at hrb
            have HC := Lib.hid (fun w' (hS : Below w4.heap.size w4 w') => And.intro ((hS.cell (p := ⟨b, off + k, none⟩) hm1).trans hcr) (And.intro ((hS.cell (p := ⟨b3, off3, none⟩) hm2).trans hcx) ((hS.cell (p := ⟨b3, off3 + 1, none⟩) hm2).trans hcy)))
            have HTA := Lib.hid hta
            have HTB := Lib.hid htb
            clear hr hx hy hcx hcy hcr hri hr2 hta htb
            obtain ⟨q0, q1, q2⟩ := HC.out wo HB.out
            by_cases hx1 : x < 1
            · have hxp : ¬ (1 : Int) ≤ x := by omega
              go_wp2
              go_ret
              exact ⟨rfl, HBW.out.trans (HB.out.mono HBW.out.size)⟩
            · by_cases hy1' : y < 1
              · go_wp2
                go_ret
                exact ⟨rfl, HBW.out.trans (HB.out.mono HBW.out.size)⟩
              · have HPN : Hid (∀ q, q < k + 1 → 1 ≤ ta rows q ∧ 1 ≤ tb rows q) := Lib.hid (fun q hq => by
                  rcases Nat.lt_or_ge q k with h' | h'
                  · exact HPO.out q h'
                  · have : q = k := by omega
                    subst this; rw [HTA.out, HTB.out]; omega)
                obtain ⟨us, huv, hul, hus⟩ := HO.out
                have HUV := Lib.hid huv
                have HUL := Lib.hid hul
                have HUS := Lib.hid hus
                have hsz := HB.out.size
                clear huv hul hus
                go_wp2_with fail
                refine wp_region_held_drew (S := (fun w' => Below w4.heap.size w4 w')) (by kernel_rfl) HB.out.drew (fun hHeld => ?_)
                refine wpAnyH_take (i := 0) (v := .slice ax k cp) rfl (by kernel_rfl) (by kernel_rfl) (by kernel_rfl) (fun _ _ _ h => h) (Or.inl ⟨by rfl, ?_⟩) hHeld ?_
                · rintro w' hS; go_simp
                try simp only [Act.put, List.setIfInBounds_toArray, List.set_cons_zero, List.set_cons_succ, List.getElem_toArray, List.getElem_cons_succ, List.getElem_cons_zero]
                refine wpAnyH_take (i := 1) (v := .slice (some ⟨b, off, none⟩) l1 c1) rfl (by kernel_rfl) (by kernel_rfl) (by kernel_rfl) (fun _ _ _ h => h) (Or.inl ⟨by rfl, ?_⟩) hHeld ?_
                · rintro w' hS; go_simp
                try simp only [Act.put, List.setIfInBounds_toArray, List.set_cons_zero, List.set_cons_succ, List.getElem_toArray, List.getElem_cons_succ, List.getElem_cons_zero]
                refine wpAnyH_take (i := 2) (v := .int .i64 k) rfl (by kernel_rfl) (by kernel_rfl) (by kernel_rfl) (fun _ _ _ h => h) (Or.inl ⟨by rfl, ?_⟩) hHeld ?_
                · rintro w' hS; go_simp
                try simp only [Act.put, List.setIfInBounds_toArray, List.set_cons_zero, List.set_cons_succ, List.getElem_toArray, List.getElem_cons_succ, List.getElem_cons_zero]
                refine wpAnyH_take (i := 3) (v := .pointer (some ⟨b, off + k, none⟩)) rfl (by kernel_rfl) (by kernel_rfl) (by kernel_rfl) (fun _ _ _ h => h) (Or.inl ⟨by rfl, ?_⟩) hHeld ?_
                · rintro w' hS; go_simp
                try simp only [Act.put, List.setIfInBounds_toArray, List.set_cons_zero, List.set_cons_succ, List.getElem_toArray, List.getElem_cons_succ, List.getElem_cons_zero]
                refine wpAnyH_take (i := 4) (v := .slice (some ⟨b3, off3, none⟩) 2 c3) rfl (by kernel_rfl) (by kernel_rfl) (by kernel_rfl) (fun _ _ _ h => h) (Or.inl ⟨by rfl, ?_⟩) hHeld ?_
                · rintro w' hS; obtain ⟨q0, q1, q2⟩ := HC.out w' hS; go_simp
                try simp only [Act.put, List.setIfInBounds_toArray, List.set_cons_zero, List.set_cons_succ, List.getElem_toArray, List.getElem_cons_succ, List.getElem_cons_zero]
                refine wpAnyH_take (i := 5) (v := .pointer (some ⟨b3, off3, none⟩)) rfl (by kernel_rfl) (by kernel_rfl) (by kernel_rfl) (fun _ _ _ h => h) (Or.inl ⟨by rfl, ?_⟩) hHeld ?_
                · rintro w' hS; go_simp
                try simp only [Act.put, List.setIfInBounds_toArray, List.set_cons_zero, List.set_cons_succ, List.getElem_toArray, List.getElem_cons_succ, List.getElem_cons_zero]
                refine wpAnyH_take (i := 6) (v := .int .i64 x) rfl (by kernel_rfl) (by kernel_rfl) (by kernel_rfl) (fun _ _ _ h => h) (Or.inl ⟨by rfl, ?_⟩) hHeld ?_
                · rintro w' hS; obtain ⟨q0, q1, q2⟩ := HC.out w' hS; go_simp
                try simp only [Act.put, List.setIfInBounds_toArray, List.set_cons_zero, List.set_cons_succ, List.getElem_toArray, List.getElem_cons_succ, List.getElem_cons_zero]
                refine wpAnyH_take (i := 8) (v := .slice (some ⟨b, off, none⟩) l1 c1) rfl (by kernel_rfl) (by kernel_rfl) (by kernel_rfl) (fun _ _ _ h => h) (Or.inl ⟨by rfl, ?_⟩) hHeld ?_
                · rintro w' hS; go_simp
                try simp only [Act.put, List.setIfInBounds_toArray, List.set_cons_zero, List.set_cons_succ, List.getElem_toArray, List.getElem_cons_succ, List.getElem_cons_zero]
                refine wpAnyH_take (i := 9) (v := .int .i64 k) rfl (by kernel_rfl) (by kernel_rfl) (by kernel_rfl) (fun _ _ _ h => h) (Or.inl ⟨by rfl, ?_⟩) hHeld ?_
                · rintro w' hS; go_simp
                try simp only [Act.put, List.setIfInBounds_toArray, List.set_cons_zero, List.set_cons_succ, List.getElem_toArray, List.getElem_cons_succ, List.getElem_cons_zero]
                refine wpAnyH_take (i := 10) (v := .pointer (some ⟨b, off + k, none⟩)) rfl (by kernel_rfl) (by kernel_rfl) (by kernel_rfl) (fun _ _ _ h => h) (Or.inl ⟨by rfl, ?_⟩) hHeld ?_
                · rintro w' hS; go_simp
                try simp only [Act.put, List.setIfInBounds_toArray, List.set_cons_zero, List.set_cons_succ, List.getElem_toArray, List.getElem_cons_succ, List.getElem_cons_zero]
                refine wpAnyH_take (i := 11) (v := .slice (some ⟨b3, off3, none⟩) 2 c3) rfl (by kernel_rfl) (by kernel_rfl) (by kernel_rfl) (fun _ _ _ h => h) (Or.inl ⟨by rfl, ?_⟩) hHeld ?_
                · rintro w' hS; obtain ⟨q0, q1, q2⟩ := HC.out w' hS; go_simp
                try simp only [Act.put, List.setIfInBounds_toArray, List.set_cons_zero, List.set_cons_succ, List.getElem_toArray, List.getElem_cons_succ, List.getElem_cons_zero]
                refine wpAnyH_take (i := 12) (v := .pointer (some ⟨b3, off3 + 1, none⟩)) rfl (by kernel_rfl) (by kernel_rfl) (by kernel_rfl) (fun _ _ _ h => h) (Or.inl ⟨by rfl, ?_⟩) hHeld ?_
                · rintro w' hS; go_simp
                try simp only [Act.put, List.setIfInBounds_toArray, List.set_cons_zero, List.set_cons_succ, List.getElem_toArray, List.getElem_cons_succ, List.getElem_cons_zero]
                refine wpAnyH_take (i := 13) (v := .int .i64 y) rfl (by kernel_rfl) (by kernel_rfl) (by kernel_rfl) (fun _ _ _ h => h) (Or.inl ⟨by rfl, ?_⟩) hHeld ?_
                · rintro w' hS; obtain ⟨q0, q1, q2⟩ := HC.out w' hS; go_simp
                try simp only [Act.put, List.setIfInBounds_toArray, List.set_cons_zero, List.set_cons_succ, List.getElem_toArray, List.getElem_cons_succ, List.getElem_cons_zero]
                refine wpAnyH_ready (rs := [7, 14]) (by kernel_rfl) (by simp) ?_
                refine (AllReadyH.cons (o := _) rfl (fun K hK => ?_) (AllReadyH.cons (o := _) rfl (fun K hK => ?_) AllReadyH.nil))
                · go_simp
                  refine hK.out _ _ ((HB.out.alloc hsz (.cells #[.int .i64 0, .int .i64 x] 3)).drew) (fun hHeld => ?_)
                  clear hK K
                  try simp only [Act.put, List.setIfInBounds_toArray, List.set_cons_zero, List.set_cons_succ, List.getElem_toArray, List.getElem_cons_succ, List.getElem_cons_zero]
                  refine wpAnyH_ready (rs := [14]) (by kernel_rfl) (by simp) ?_
                  refine AllReadyH.cons (o := _) rfl (fun K hK => ?_) AllReadyH.nil
                  go_simp
                  refine hK.out _ _ (((HB.out.alloc hsz (.cells #[.int .i64 0, .int .i64 x] 3)).alloc (by simp; omega) (.cells #[.int .i64 1, .int .i64 y] 3)).drew) (fun hHeld => ?_)
                  clear hK K
                  try simp only [Act.put, List.setIfInBounds_toArray, List.set_cons_zero, List.set_cons_succ, List.getElem_toArray, List.getElem_cons_succ, List.getElem_cons_zero]
                  refine wpAnyH_ready (rs := [15]) (by kernel_rfl) (by simp) ?_
                  refine AllReadyH.cons (o := _) rfl (fun K hK => ?_) AllReadyH.nil
                  go_simp
                  refine hK.out _ _ ((((HB.out.alloc hsz (.cells #[.int .i64 0, .int .i64 x] 3)).alloc (by simp; omega) (.cells #[.int .i64 1, .int .i64 y] 3)).alloc (by simp; omega) (.cells #[.slice (some ⟨wo.heap.size, 0, none⟩) 2 2, .slice (some ⟨wo.heap.size + 1, 0, none⟩) 2 2] 23)).drew) (fun hHeld => ?_)
                  clear hK K
                  try simp only [Act.put, List.setIfInBounds_toArray, List.set_cons_zero, List.set_cons_succ, List.getElem_toArray, List.getElem_cons_succ, List.getElem_cons_zero]
                  refine wpAnyH_ready (rs := [16]) (by kernel_rfl) (by simp) ?_
                  refine AllReadyH.cons (o := _) rfl (fun K hK => ?_) AllReadyH.nil
                  go_simp
                  refine hK.out _ _ (((((HB.out.alloc hsz (.cells #[.int .i64 0, .int .i64 x] 3)).alloc (by simp; omega) (.cells #[.int .i64 1, .int .i64 y] 3)).alloc (by simp; omega) (.cells #[.slice (some ⟨wo.heap.size, 0, none⟩) 2 2, .slice (some ⟨wo.heap.size + 1, 0, none⟩) 2 2] 23)).alloc (by simp; omega) (.cells #[.slice (some ⟨wo.heap.size + 2, 0, none⟩) 2 2] 24)).drew) (fun hHeld => ?_)
                  clear hK K
                  try simp only [Act.put, List.setIfInBounds_toArray, List.set_cons_zero, List.set_cons_succ, List.getElem_toArray, List.getElem_cons_succ, List.getElem_cons_zero]
                  have HZ4 : Hid (((((wo.alloc (.cells #[.int .i64 0, .int .i64 x] 3)).alloc (.cells #[.int .i64 1, .int .i64 y] 3)).alloc (.cells #[.slice (some ⟨wo.heap.size, 0, none⟩) 2 2, .slice (some ⟨wo.heap.size + 1, 0, none⟩) 2 2] 23)).alloc (.cells #[.slice (some ⟨wo.heap.size + 2, 0, none⟩) 2 2] 24)).heap.size = wo.heap.size + 4 ∧ (((wo.alloc (.cells #[.int .i64 0, .int .i64 x] 3)).alloc (.cells #[.int .i64 1, .int .i64 y] 3)).alloc (.cells #[.slice (some ⟨wo.heap.size, 0, none⟩) 2 2, .slice (some ⟨wo.heap.size + 1, 0, none⟩) 2 2] 23)).heap.size = wo.heap.size + 3) := Lib.hid (by simp)
                  have HNB : Hid (((((wo.alloc (.cells #[.int .i64 0, .int .i64 x] 3)).alloc (.cells #[.int .i64 1, .int .i64 y] 3)).alloc (.cells #[.slice (some ⟨wo.heap.size, 0, none⟩) 2 2, .slice (some ⟨wo.heap.size + 1, 0, none⟩) 2 2] 23)).alloc (.cells #[.slice (some ⟨wo.heap.size + 2, 0, none⟩) 2 2] 24)).heap[wo.heap.size + 3]? = some (.cells #[.slice (some ⟨wo.heap.size + 2, 0, none⟩) 2 2] 24 (0, 0))) := Lib.hid (by
                    have h1 := heap_alloc_new (((wo.alloc (.cells #[.int .i64 0, .int .i64 x] 3)).alloc (.cells #[.int .i64 1, .int .i64 y] 3)).alloc (.cells #[.slice (some ⟨wo.heap.size, 0, none⟩) 2 2, .slice (some ⟨wo.heap.size + 1, 0, none⟩) 2 2] 23)) (.cells #[.slice (some ⟨wo.heap.size + 2, 0, none⟩) 2 2] 24)
                    rw [HZ4.out.2] at h1
                    exact h1)
                  have HJ : Hid (RowsAt ((((wo.alloc (.cells #[.int .i64 0, .int .i64 x] 3)).alloc (.cells #[.int .i64 1, .int .i64 y] 3)).alloc (.cells #[.slice (some ⟨wo.heap.size, 0, none⟩) 2 2, .slice (some ⟨wo.heap.size + 1, 0, none⟩) 2 2] 23)).alloc (.cells #[.slice (some ⟨wo.heap.size + 2, 0, none⟩) 2 2] 24)) (fun b => w4.heap.size ≤ b ∧ b < ((((wo.alloc (.cells #[.int .i64 0, .int .i64 x] 3)).alloc (.cells #[.int .i64 1, .int .i64 y] 3)).alloc (.cells #[.slice (some ⟨wo.heap.size, 0, none⟩) 2 2, .slice (some ⟨wo.heap.size + 1, 0, none⟩) 2 2] 23)).alloc (.cells #[.slice (some ⟨wo.heap.size + 2, 0, none⟩) 2 2] 24)).heap.size ∧ (Value.slice ax k cp).ownBlock ≠ some b) (some ⟨wo.heap.size + 2, 0, none⟩) 2 [[0, x], [1, y]]) := Lib.hid (
                    (job_new wo 0 x 1 y false 3 23 (fun b => wo.heap.size ≤ b ∧ b < wo.heap.size + 3) (fun b h1 h2 => ⟨h1, h2⟩)).to fun b hb => ⟨⟨by omega, by rw [HZ4.out.1]; omega, fun e => by have := (HUV.out.lt b e).2; omega⟩, Below.heap_alloc _ _ _ (by rw [HZ4.out.2]; exact hb.2)⟩)
                  have HUS4 : Hid (∀ (q : Nat) (u : Value), us[q]? = some u → ∃ (a' : Option Addr) (c' : Nat) (job : List (List Int)), (shopOf rows k)[q]? = some job ∧ u = .slice a' 2 c' ∧ 2 ≤ c' ∧ RowsAt ((((wo.alloc (.cells #[.int .i64 0, .int .i64 x] 3)).alloc (.cells #[.int .i64 1, .int .i64 y] 3)).alloc (.cells #[.slice (some ⟨wo.heap.size, 0, none⟩) 2 2, .slice (some ⟨wo.heap.size + 1, 0, none⟩) 2 2] 23)).alloc (.cells #[.slice (some ⟨wo.heap.size + 2, 0, none⟩) 2 2] 24)) (fun b => w4.heap.size ≤ b ∧ b < ((((wo.alloc (.cells #[.int .i64 0, .int .i64 x] 3)).alloc (.cells #[.int .i64 1, .int .i64 y] 3)).alloc (.cells #[.slice (some ⟨wo.heap.size, 0, none⟩) 2 2, .slice (some ⟨wo.heap.size + 1, 0, none⟩) 2 2] 23)).alloc (.cells #[.slice (some ⟨wo.heap.size + 2, 0, none⟩) 2 2] 24)).heap.size ∧ (Value.slice ax k cp).ownBlock ≠ some b) a' 2 job) := Lib.hid (fun q u hq => by
                    obtain ⟨a', c', jb, e1, e2, e3, e4⟩ := HUS.out q u hq
                    exact ⟨a', c', jb, e1, e2, e3, e4.to fun b hb => ⟨⟨hb.1, by rw [HZ4.out.1]; have := hb.2.1; omega, hb.2.2⟩, (Below.heap_alloc _ _ _ (by rw [HZ4.out.2]; have := hb.2.1; omega)).trans ((Below.heap_alloc _ _ _ (by have := hb.2.1; simp; omega)).trans ((Below.heap_alloc _ _ _ (by have := hb.2.1; simp; omega)).trans (Below.heap_alloc _ _ _ hb.2.1)))⟩⟩)
                  refine wpAnyH_ready (rs := [17]) (by kernel_rfl) (by simp) ?_
                  refine AllReadyH.cons (o := _) rfl (fun K hK => ?_) AllReadyH.nil
                  refine step_append_lies _ (by rfl) _ _ _ (by rfl) w4.heap.size 24 i1 _ 1 24 Try.underlying47 hj hy0 hy1 hy2 rfl (by omega) (.slice ax k cp) k _ (by rfl) (((((HUV.out.alloc _).alloc _).alloc _).alloc _).drew) ⟨wo.heap.size + 3, 0, none⟩ 1 1 [.slice (some ⟨wo.heap.size + 2, 0, none⟩) 2 2] (by rfl) (by rfl) (World.news_of_block (cs := #[.slice (some ⟨wo.heap.size + 2, 0, none⟩) 2 2]) (t := 24) (fr := (0, 0)) HNB.out) (by simp [Value.oneCell']) (by omega) (by unfold maxLen; omega) (by omega) (by simp; omega) (wo.heap.size + 4) (by simp) ?_
                  intro gg c6 w6 hown6 hgrow hat hlt
                  have HGX := Lib.hid (show ((((wo.alloc (.cells #[.int .i64 0, .int .i64 x] 3)).alloc (.cells #[.int .i64 1, .int .i64 y] 3)).alloc (.cells #[.slice (some ⟨wo.heap.size, 0, none⟩) 2 2, .slice (some ⟨wo.heap.size + 1, 0, none⟩) 2 2] 23)).alloc (.cells #[.slice (some ⟨wo.heap.size + 2, 0, none⟩) 2 2] 24)).grownBy w6 (Value.slice ax k cp).ownBlock from grown_comp (grownBy_drewN _ 1 _) hgrow)
                  have HNEW := Lib.hid (OwnTwo.push (by have := HUV.out.1; simpa using this) HUL.out HUS4.out HJ.out (Nat.le_refl _) hown6 HGX.out (by rw [HZ4.out.1]; exact hat))
                  rw [show shopOf rows k ++ [[[0, x], [1, y]]] = shopOf rows (k + 1) by rw [shopOf_snoc]; unfold jobOf; rw [HTA.out, HTB.out]] at HNEW
                  have HB6 := Lib.hid (((((HB.out.alloc hsz (.cells #[.int .i64 0, .int .i64 x] 3)).alloc (by simp; omega) (.cells #[.int .i64 1, .int .i64 y] 3)).alloc (by simp; omega) (.cells #[.slice (some ⟨wo.heap.size, 0, none⟩) 2 2, .slice (some ⟨wo.heap.size + 1, 0, none⟩) 2 2] 23)).alloc (by simp; omega) (.cells #[.slice (some ⟨wo.heap.size + 2, 0, none⟩) 2 2] 24)).grown HGX.out (by rw [HZ4.out.1]; omega) (fun g hg => own_block HUV.out g hg))
                  have HK6 : Hid (k + 1 ≤ c6) := Lib.hid (by obtain ⟨_, _, e, h'⟩ := own_slice hown6; injection e with _ _ e; omega)
                  clear hown6 hgrow hat hlt
                  refine hK.out _ _ HB6.out (fun hHeld => ?_)
                  clear hK K
                  try simp only [Act.put, List.setIfInBounds_toArray, List.set_cons_zero, List.set_cons_succ, List.getElem_toArray, List.getElem_cons_succ, List.getElem_cons_zero]
                  refine wpAnyH_take (i := 18) (v := .slice (some ⟨gg, 0, none⟩) (k + 1) c6) rfl (by kernel_rfl) (by kernel_rfl) (by kernel_rfl) (fun _ _ _ h => h) (Or.inl ⟨by rfl, ?_⟩) hHeld ?_
                  · rintro w' hS; go_simp
                  try simp only [Act.put, List.setIfInBounds_toArray, List.set_cons_zero, List.set_cons_succ, List.getElem_toArray, List.getElem_cons_succ, List.getElem_cons_zero]
                  refine wpAnyH_done (by kernel_rfl) ?_ _
                  clear hHeld q0 q1 q2
                  go_wp2_with fail
                  go_roundw
                  case rel => exact ⟨k + 1, c6, _, by go_num, by omega, rfl, HK6.out, HNEW.out, HPN.out, HB6.out⟩
                  case measure => simp [intOf]; omega
                · go_simp
                  refine hK.out _ _ ((HB.out.alloc hsz (.cells #[.int .i64 1, .int .i64 y] 3)).drew) (fun hHeld => ?_)
                  clear hK K
                  try simp only [Act.put, List.setIfInBounds_toArray, List.set_cons_zero, List.set_cons_succ, List.getElem_toArray, List.getElem_cons_succ, List.getElem_cons_zero]
                  refine wpAnyH_ready (rs := [7]) (by kernel_rfl) (by simp) ?_
                  refine AllReadyH.cons (o := _) rfl (fun K hK => ?_) AllReadyH.nil
                  go_simp
                  refine hK.out _ _ (((HB.out.alloc hsz (.cells #[.int .i64 1, .int .i64 y] 3)).alloc (by simp; omega) (.cells #[.int .i64 0, .int .i64 x] 3)).drew) (fun hHeld => ?_)
                  clear hK K
                  try simp only [Act.put, List.setIfInBounds_toArray, List.set_cons_zero, List.set_cons_succ, List.getElem_toArray, List.getElem_cons_succ, List.getElem_cons_zero]
                  refine wpAnyH_ready (rs := [15]) (by kernel_rfl) (by simp) ?_
                  refine AllReadyH.cons (o := _) rfl (fun K hK => ?_) AllReadyH.nil
                  go_simp
                  refine hK.out _ _ ((((HB.out.alloc hsz (.cells #[.int .i64 1, .int .i64 y] 3)).alloc (by simp; omega) (.cells #[.int .i64 0, .int .i64 x] 3)).alloc (by simp; omega) (.cells #[.slice (some ⟨wo.heap.size + 1, 0, none⟩) 2 2, .slice (some ⟨wo.heap.size, 0, none⟩) 2 2] 23)).drew) (fun hHeld => ?_)
                  clear hK K
                  try simp only [Act.put, List.setIfInBounds_toArray, List.set_cons_zero, List.set_cons_succ, List.getElem_toArray, List.getElem_cons_succ, List.getElem_cons_zero]
                  refine wpAnyH_ready (rs := [16]) (by kernel_rfl) (by simp) ?_
                  refine AllReadyH.cons (o := _) rfl (fun K hK => ?_) AllReadyH.nil
                  go_simp
                  refine hK.out _ _ (((((HB.out.alloc hsz (.cells #[.int .i64 1, .int .i64 y] 3)).alloc (by simp; omega) (.cells #[.int .i64 0, .int .i64 x] 3)).alloc (by simp; omega) (.cells #[.slice (some ⟨wo.heap.size + 1, 0, none⟩) 2 2, .slice (some ⟨wo.heap.size, 0, none⟩) 2 2] 23)).alloc (by simp; omega) (.cells #[.slice (some ⟨wo.heap.size + 2, 0, none⟩) 2 2] 24)).drew) (fun hHeld => ?_)
                  clear hK K
                  try simp only [Act.put, List.setIfInBounds_toArray, List.set_cons_zero, List.set_cons_succ, List.getElem_toArray, List.getElem_cons_succ, List.getElem_cons_zero]
                  have HZ4 : Hid (((((wo.alloc (.cells #[.int .i64 1, .int .i64 y] 3)).alloc (.cells #[.int .i64 0, .int .i64 x] 3)).alloc (.cells #[.slice (some ⟨wo.heap.size + 1, 0, none⟩) 2 2, .slice (some ⟨wo.heap.size, 0, none⟩) 2 2] 23)).alloc (.cells #[.slice (some ⟨wo.heap.size + 2, 0, none⟩) 2 2] 24)).heap.size = wo.heap.size + 4 ∧ (((wo.alloc (.cells #[.int .i64 1, .int .i64 y] 3)).alloc (.cells #[.int .i64 0, .int .i64 x] 3)).alloc (.cells #[.slice (some ⟨wo.heap.size + 1, 0, none⟩) 2 2, .slice (some ⟨wo.heap.size, 0, none⟩) 2 2] 23)).heap.size = wo.heap.size + 3) := Lib.hid (by simp)
                  have HNB : Hid (((((wo.alloc (.cells #[.int .i64 1, .int .i64 y] 3)).alloc (.cells #[.int .i64 0, .int .i64 x] 3)).alloc (.cells #[.slice (some ⟨wo.heap.size + 1, 0, none⟩) 2 2, .slice (some ⟨wo.heap.size, 0, none⟩) 2 2] 23)).alloc (.cells #[.slice (some ⟨wo.heap.size + 2, 0, none⟩) 2 2] 24)).heap[wo.heap.size + 3]? = some (.cells #[.slice (some ⟨wo.heap.size + 2, 0, none⟩) 2 2] 24 (0, 0))) := Lib.hid (by
                    have h1 := heap_alloc_new (((wo.alloc (.cells #[.int .i64 1, .int .i64 y] 3)).alloc (.cells #[.int .i64 0, .int .i64 x] 3)).alloc (.cells #[.slice (some ⟨wo.heap.size + 1, 0, none⟩) 2 2, .slice (some ⟨wo.heap.size, 0, none⟩) 2 2] 23)) (.cells #[.slice (some ⟨wo.heap.size + 2, 0, none⟩) 2 2] 24)
                    rw [HZ4.out.2] at h1
                    exact h1)
                  have HJ : Hid (RowsAt ((((wo.alloc (.cells #[.int .i64 1, .int .i64 y] 3)).alloc (.cells #[.int .i64 0, .int .i64 x] 3)).alloc (.cells #[.slice (some ⟨wo.heap.size + 1, 0, none⟩) 2 2, .slice (some ⟨wo.heap.size, 0, none⟩) 2 2] 23)).alloc (.cells #[.slice (some ⟨wo.heap.size + 2, 0, none⟩) 2 2] 24)) (fun b => w4.heap.size ≤ b ∧ b < ((((wo.alloc (.cells #[.int .i64 1, .int .i64 y] 3)).alloc (.cells #[.int .i64 0, .int .i64 x] 3)).alloc (.cells #[.slice (some ⟨wo.heap.size + 1, 0, none⟩) 2 2, .slice (some ⟨wo.heap.size, 0, none⟩) 2 2] 23)).alloc (.cells #[.slice (some ⟨wo.heap.size + 2, 0, none⟩) 2 2] 24)).heap.size ∧ (Value.slice ax k cp).ownBlock ≠ some b) (some ⟨wo.heap.size + 2, 0, none⟩) 2 [[0, x], [1, y]]) := Lib.hid (
                    (job_new wo 1 y 0 x true 3 23 (fun b => wo.heap.size ≤ b ∧ b < wo.heap.size + 3) (fun b h1 h2 => ⟨h1, h2⟩)).to fun b hb => ⟨⟨by omega, by rw [HZ4.out.1]; omega, fun e => by have := (HUV.out.lt b e).2; omega⟩, Below.heap_alloc _ _ _ (by rw [HZ4.out.2]; exact hb.2)⟩)
                  have HUS4 : Hid (∀ (q : Nat) (u : Value), us[q]? = some u → ∃ (a' : Option Addr) (c' : Nat) (job : List (List Int)), (shopOf rows k)[q]? = some job ∧ u = .slice a' 2 c' ∧ 2 ≤ c' ∧ RowsAt ((((wo.alloc (.cells #[.int .i64 1, .int .i64 y] 3)).alloc (.cells #[.int .i64 0, .int .i64 x] 3)).alloc (.cells #[.slice (some ⟨wo.heap.size + 1, 0, none⟩) 2 2, .slice (some ⟨wo.heap.size, 0, none⟩) 2 2] 23)).alloc (.cells #[.slice (some ⟨wo.heap.size + 2, 0, none⟩) 2 2] 24)) (fun b => w4.heap.size ≤ b ∧ b < ((((wo.alloc (.cells #[.int .i64 1, .int .i64 y] 3)).alloc (.cells #[.int .i64 0, .int .i64 x] 3)).alloc (.cells #[.slice (some ⟨wo.heap.size + 1, 0, none⟩) 2 2, .slice (some ⟨wo.heap.size, 0, none⟩) 2 2] 23)).alloc (.cells #[.slice (some ⟨wo.heap.size + 2, 0, none⟩) 2 2] 24)).heap.size ∧ (Value.slice ax k cp).ownBlock ≠ some b) a' 2 job) := Lib.hid (fun q u hq => by
                    obtain ⟨a', c', jb, e1, e2, e3, e4⟩ := HUS.out q u hq
                    exact ⟨a', c', jb, e1, e2, e3, e4.to fun b hb => ⟨⟨hb.1, by rw [HZ4.out.1]; have := hb.2.1; omega, hb.2.2⟩, (Below.heap_alloc _ _ _ (by rw [HZ4.out.2]; have := hb.2.1; omega)).trans ((Below.heap_alloc _ _ _ (by have := hb.2.1; simp; omega)).trans ((Below.heap_alloc _ _ _ (by have := hb.2.1; simp; omega)).trans (Below.heap_alloc _ _ _ hb.2.1)))⟩⟩)
                  refine wpAnyH_ready (rs := [17]) (by kernel_rfl) (by simp) ?_
                  refine AllReadyH.cons (o := _) rfl (fun K hK => ?_) AllReadyH.nil
                  refine step_append_lies _ (by rfl) _ _ _ (by rfl) w4.heap.size 24 i1 _ 1 24 Try.underlying47 hj hy0 hy1 hy2 rfl (by omega) (.slice ax k cp) k _ (by rfl) (((((HUV.out.alloc _).alloc _).alloc _).alloc _).drew) ⟨wo.heap.size + 3, 0, none⟩ 1 1 [.slice (some ⟨wo.heap.size + 2, 0, none⟩) 2 2] (by rfl) (by rfl) (World.news_of_block (cs := #[.slice (some ⟨wo.heap.size + 2, 0, none⟩) 2 2]) (t := 24) (fr := (0, 0)) HNB.out) (by simp [Value.oneCell']) (by omega) (by unfold maxLen; omega) (by omega) (by simp; omega) (wo.heap.size + 4) (by simp) ?_
                  intro gg c6 w6 hown6 hgrow hat hlt
                  have HGX := Lib.hid (show ((((wo.alloc (.cells #[.int .i64 1, .int .i64 y] 3)).alloc (.cells #[.int .i64 0, .int .i64 x] 3)).alloc (.cells #[.slice (some ⟨wo.heap.size + 1, 0, none⟩) 2 2, .slice (some ⟨wo.heap.size, 0, none⟩) 2 2] 23)).alloc (.cells #[.slice (some ⟨wo.heap.size + 2, 0, none⟩) 2 2] 24)).grownBy w6 (Value.slice ax k cp).ownBlock from grown_comp (grownBy_drewN _ 1 _) hgrow)
                  have HNEW := Lib.hid (OwnTwo.push (by have := HUV.out.1; simpa using this) HUL.out HUS4.out HJ.out (Nat.le_refl _) hown6 HGX.out (by rw [HZ4.out.1]; exact hat))
                  rw [show shopOf rows k ++ [[[0, x], [1, y]]] = shopOf rows (k + 1) by rw [shopOf_snoc]; unfold jobOf; rw [HTA.out, HTB.out]] at HNEW
                  have HB6 := Lib.hid (((((HB.out.alloc hsz (.cells #[.int .i64 1, .int .i64 y] 3)).alloc (by simp; omega) (.cells #[.int .i64 0, .int .i64 x] 3)).alloc (by simp; omega) (.cells #[.slice (some ⟨wo.heap.size + 1, 0, none⟩) 2 2, .slice (some ⟨wo.heap.size, 0, none⟩) 2 2] 23)).alloc (by simp; omega) (.cells #[.slice (some ⟨wo.heap.size + 2, 0, none⟩) 2 2] 24)).grown HGX.out (by rw [HZ4.out.1]; omega) (fun g hg => own_block HUV.out g hg))
                  have HK6 : Hid (k + 1 ≤ c6) := Lib.hid (by obtain ⟨_, _, e, h'⟩ := own_slice hown6; injection e with _ _ e; omega)
                  clear hown6 hgrow hat hlt
                  refine hK.out _ _ HB6.out (fun hHeld => ?_)
                  clear hK K
                  try simp only [Act.put, List.setIfInBounds_toArray, List.set_cons_zero, List.set_cons_succ, List.getElem_toArray, List.getElem_cons_succ, List.getElem_cons_zero]
                  refine wpAnyH_take (i := 18) (v := .slice (some ⟨gg, 0, none⟩) (k + 1) c6) rfl (by kernel_rfl) (by kernel_rfl) (by kernel_rfl) (fun _ _ _ h => h) (Or.inl ⟨by rfl, ?_⟩) hHeld ?_
                  · rintro w' hS; go_simp
                  try simp only [Act.put, List.setIfInBounds_toArray, List.set_cons_zero, List.set_cons_succ, List.getElem_toArray, List.getElem_cons_succ, List.getElem_cons_zero]
                  refine wpAnyH_done (by kernel_rfl) ?_ _
                  clear hHeld q0 q1 q2
                  go_wp2_with fail
                  go_roundw
                  case rel => exact ⟨k + 1, c6, _, by go_num, by omega, rfl, HK6.out, HNEW.out, HPN.out, HB6.out⟩
                  case measure => simp [intOf]; omega
          · have hke : k = l1 := by omega
            subst hke
            have hkI : ¬ (k : Int) < (k : Int) := by omega
            have hsh := HO.out.shop (by omega)
            have HSH := Lib.hid hsh
            have hall : ∀ q, q < k → 1 ≤ ta rows q ∧ ta rows q ≤ 9 ∧ 1 ≤ tb rows q ∧ tb rows q ≤ 9 := fun q hq => by
              have h1 := HPO.out q hq
              have h2 := t_bd HP.out q
              omega
            have hbt := two_best h3 hall (by rw [← HLN.out]; rw [HLN.out]; exact (HLN.out ▸ HLST.out))
            have HBT := Lib.hid hbt
            clear hsh hall hbt
            have HBO := Lib.hid (HBW.out.trans (HB.out.mono HBW.out.size))
            go_wp2_with fail
            refine (bestTurns_impl ax k cp (shopOf rows k) wo HSH.out hkc).mono ?_
            rintro e w70 ⟨a7, l7, c7, rfl, _, _, hb70⟩
            rw [HBT.out.1]
            have HB70 := Lib.hid (HBO.out.trans (hb70.mono HBO.out.size))
            have HS70 := Lib.hid (ShopAt.to HSH.out (w' := w70) (S' := (· < w70.heap.size)) (fun b hb => ⟨Nat.lt_of_lt_of_le hb hb70.size, hb70.block b hb⟩))
            clear hb70
            have heq : (u == u) = true := by simp
            go_wp2_with fail
            refine (leastShop_impl ax k cp (shopOf rows k) w70 HS70.out hkc).mono ?_
            rintro e w71 ⟨rfl, hb71⟩
            have HB71 := Lib.hid (HB70.out.trans (hb71.mono HB70.out.size))
            clear hb71
            have hle := HBT.out.2
            generalize leastRes7 (shopOf rows k) = lv at hle ⊢
            go_wp2
            go_ret
            exact ⟨rfl, HB71.out⟩
      · have h3I : ((3 : Int) < (l1 : Int)) := by omega
        go_wp2_with fail
        go_ret
        exact ⟨rfl, hB4⟩
  · go_enter Try.func6, Try.ntmps6
    go_wp2
    go_ret
    exact ⟨rfl, Below.refl _ _⟩
end Go.Proofs.Ytkebdelfklmigae
