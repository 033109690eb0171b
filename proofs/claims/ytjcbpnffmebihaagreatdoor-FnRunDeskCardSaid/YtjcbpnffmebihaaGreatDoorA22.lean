import Derived.Test.YtjcbpnffmebihaaGreatDoorA20
import Derived.Test.YtjcbpnffmebihaaGreatDoorRows
import Derived.WalkKit
import Derived.LoopTactic
import Derived.Outline
import Derived.WalkSpells
import Derived.WalkLawsBesides
import Derived.ProofKit
set_option linter.unusedVariables false
set_option linter.unusedSimpArgs false
namespace Go.Proofs.YtjcbpnffmebihaaGreatDoor
open Go.RowKit Go.WideShapes

-- the rule
theorem insR_at {a b : Nat → Int} {x : Nat} : ∀ (l : List Nat) (k : Nat), (∀ (m : Nat) (y : Nat), m < k → l[m]? = some y → btr a b y x) → (∀ y, l[k]? = some y → ¬ btr a b y x) → k ≤ l.length → insR a b x l = l.take k ++ [x] ++ l.drop k := by
  intro l
  induction l with
  | nil => intro k _ _ hk; simp at hk; subst hk; rfl
  | cons y l ih =>
    intro k h1 h2 hk
    cases k with
    | zero => rw [insR, if_neg (h2 y rfl)]; rfl
    | succ k =>
      rw [insR, if_pos (h1 0 y (by omega) rfl)]
      rw [ih k (fun m z hm hz => h1 (m + 1) z (by omega) (by simpa using hz)) (fun z hz => h2 z (by simpa using hz)) (by simpa using hk)]
      rfl
def ruleI (rows : List (List Int)) (n : Nat) : List Int := (ruleT (ta rows) (tb rows) n).map (fun x : Nat => (x : Int))
theorem ruleT_len (a b : Nat → Int) (n : Nat) : (ruleT a b n).length = n := by have := (ruleT_perm a b n).length_eq; simpa using this
theorem ruleI_len (rows : List (List Int)) (n : Nat) : (ruleI rows n).length = n := by unfold ruleI; rw [List.length_map, ruleT_len]
theorem ruleI_get {rows : List (List Int)} {n k : Nat} {x : Int} (h : (ruleI rows n)[k]? = some x) : ∃ y : Nat, x = (y : Int) ∧ y < n ∧ (ruleT (ta rows) (tb rows) n)[k]? = some y := by
  unfold ruleI at h
  rw [List.getElem?_map] at h
  cases hq : (ruleT (ta rows) (tb rows) n)[k]? with
  | none => rw [hq] at h; cases h
  | some y =>
    rw [hq] at h
    simp only [Option.map_some, Option.some.injEq] at h
    refine ⟨y, h.symm, ?_, rfl⟩
    have := (ruleT_perm (ta rows) (tb rows) n).mem_iff.1 (List.mem_of_getElem? hq)
    simpa using this
theorem ruleI_succ {rows : List (List Int)} {n k : Nat} (h1 : ∀ (m y : Nat), m < k → (ruleT (ta rows) (tb rows) n)[m]? = some y → btr (ta rows) (tb rows) y n) (h2 : ∀ y, (ruleT (ta rows) (tb rows) n)[k]? = some y → ¬ btr (ta rows) (tb rows) y n) (hk : k ≤ n) :
    ruleI rows (n + 1) = (ruleI rows n).take k ++ [(n : Int)] ++ (ruleI rows n).drop k := by
  unfold ruleI
  show List.map _ (insR (ta rows) (tb rows) n (ruleT (ta rows) (tb rows) n)) = _
  rw [insR_at _ k h1 h2 (by rw [ruleT_len]; exact hk)]
  simp
set_option maxRecDepth 100000 in
set_option maxHeartbeats 4000000 in
theorem byRule_any (a : Option Addr) (len cap : Nat) (rows : List (List Int)) (w : World) (h : RowsAt w (· < w.heap.size) a len rows) (hp : pairsM rows = true) :
    Calls Tryz.prog 34 #[.slice a len cap] w (NewOwn w (ruleI rows len)) := by
  have hl8 : len ≤ 8 := by have := (pairs_get hp).1; have := h.lenEq; omega
  have ho0 := World.ownsRow_made (base := w.heap.size) (size := 1) (e := 3) w #[] 0 (Nat.le_refl _) (Nat.zero_le _) rfl
  go_enter Tryz.func34, Tryz.ntmps34
  go_wp2_with fail
  go_loopw [3, 4] (fun v i wr => ∃ (j cp g : Nat), i = .int .i64 j ∧ v = .slice (some ⟨g, 0, none⟩) j cp ∧ wr.ownsRow w.heap.size 3 1 v j ((ruleI rows j).map (.int .i64)) ∧ j ≤ cp ∧ j ≤ len ∧ Below w.heap.size w wr) (fun _ i _ => len - (intOf i).toNat)
  case atStart => exact ⟨0, 0, w.heap.size, rfl, rfl, (by simpa [ruleI, ruleT] using ho0), Nat.zero_le _, Nat.zero_le _, (Below.refl _ _).alloc (Nat.le_refl _) _⟩
  case round =>
    clear ho0
    obtain ⟨j, cp, g, rfl, rfl, hown, hjc, hjl, hB⟩ := hrel
    obtain ⟨wo, rfl⟩ : ∃ wo : World, wo = wr := ⟨_, rfl⟩
    have HOWN := Lib.hid hown
    have HBB := Lib.hid hB
    have HLI := Lib.hid (ruleI_len rows j)
    have HRW := Lib.hid (h.below hB)
    clear hown hB
    by_cases hlt : j < len
    · go_wp2_with fail
      go_loopw [5] (fun kk ws => ∃ k : Nat, kk = .int .i64 k ∧ k ≤ j ∧ Drew wo ws ∧ ∀ (m y : Nat), m < k → (ruleT (ta rows) (tb rows) j)[m]? = some y → btr (ta rows) (tb rows) y j) (fun kk _ => j - (intOf kk).toNat)
      case atStart => exact ⟨0, rfl, Nat.zero_le _, Drew.refl _, fun m y hm => by omega⟩
      case round =>
        obtain ⟨k, rfl, hkj, hdw, hall⟩ := hrel
        have HALL := Lib.hid hall
        clear hall
        obtain ⟨wi, rfl⟩ : ∃ wi : World, wi = wr := ⟨_, rfl⟩
        have HDW := Lib.hid hdw
        clear hdw
        have hown1 : wi.ownsRow w.heap.size 3 1 (.slice (some ⟨g, 0, none⟩) j cp) j ((ruleI rows j).map (.int .i64)) := by
          obtain ⟨q0, hq0⟩ := HDW.out
          rw [hq0]; exact own_drewN HOWN.out _
        have HB0 : Hid (Below w.heap.size w wi) := Lib.hid (by
          obtain ⟨q0, hq0⟩ := HDW.out
          rw [hq0]; exact ⟨HBB.out.os, HBB.out.tape, HBB.out.output, HBB.out.size, HBB.out.block⟩)
        have HR1 := Lib.hid (HDW.out.rows HRW.out)
        by_cases hkl : k < j
        · have hx0 : IntsAt wi (· < wi.heap.size) (some ⟨g, 0, none⟩) j (ruleI rows j) := by
            obtain ⟨a', c', e', _, h'⟩ := own_ints hown1 (by omega)
            injection e' with e1 _ _
            subst e1
            exact h'.to fun b hb => ⟨hb.2, rfl⟩
          obtain ⟨b9, off9, x9, e9, hx9, hc9⟩ := hx0.get hkl
          cases e9
          rw [Nat.zero_add] at hc9
          obtain ⟨y, rfl, hyj, hy⟩ := ruleI_get hx9
          have HY := Lib.hid hy
          have HOWI := Lib.hid hown1
          clear hx0 hx9 hy hown1
          have hkl' : (k : Int) < (j : Int) := by omega
          go_wp2_with fail
          refine (better_any _ a len cap rows y j wi HR1.out hp (by omega) hlt).mono ?_
          rintro e w1 ⟨rfl, hd1⟩
          have HD1 := Lib.hid hd1
          clear hd1
          by_cases hbt : btr (ta rows) (tb rows) y j
          · rw [decide_eq_true hbt]
            go_wp2_with fail
            go_roundw
            case rel => exact ⟨k + 1, by go_num, by omega, by
              obtain ⟨p1, e1⟩ := HDW.out
              obtain ⟨p2, e2⟩ := HD1.out
              exact ⟨p1 + p2, by rw [e2, e1, World.drewN_drewN]⟩, fun m z hm hz => by
              rcases Nat.lt_or_ge m k with h' | h'
              · exact HALL.out m z h' hz
              · have : m = k := by omega
                subst this
                rw [HY.out] at hz
                injection hz with hz
                subst hz
                exact hbt⟩
            case measure => simp [intOf]; omega
          · rw [decide_eq_false hbt]
            have HSU := Lib.hid (ruleI_succ (rows := rows) (n := j) (k := k) HALL.out (fun z hz => by rw [HY.out] at hz; injection hz with hz; subst hz; exact hbt) hkj)
            have HOW1 : Hid (w1.ownsRow w.heap.size 3 1 (.slice (some ⟨g, 0, none⟩) j cp) j ((ruleI rows j).map (.int .i64))) := Lib.hid (by
              obtain ⟨q0, hq0⟩ := HD1.out
              rw [hq0]; exact own_drewN HOWI.out _)
            have HB1 : Hid (Below w.heap.size w w1) := Lib.hid (by
              obtain ⟨q0, hq0⟩ := HD1.out
              rw [hq0]; exact ⟨HB0.out.os, HB0.out.tape, HB0.out.output, HB0.out.size, HB0.out.block⟩)
            clear hbt hc9
            have hx1 : IntsAt w1 (· < w1.heap.size) (some ⟨g, 0, none⟩) j (ruleI rows j) := by
              obtain ⟨a', c', e', _, h'⟩ := own_ints HOW1.out (by omega)
              injection e' with e1 _ _
              subst e1
              exact h'.to fun b hb => ⟨hb.2, rfl⟩
            have HT := Lib.hid (hx1.takeI k hkj)
            obtain ⟨AD, hAD, hD⟩ : ∃ od : Nat, (if cp = k then (some ⟨g, 0, none⟩ : Option Addr) else some ⟨g, k, none⟩) = some ⟨g, od, none⟩ ∧ IntsAt w1 (· < w1.heap.size) (some ⟨g, od, none⟩) (j - k) ((ruleI rows j).drop k) := by
              by_cases hck : cp = k
              · exact ⟨0, by rw [if_pos hck], by have := hx1.lenEq; simp; omega, by omega, fun h0 => by omega⟩
              · exact ⟨k, by rw [if_neg hck], hx1.dropI k hkj⟩
            have HD := Lib.hid hD
            clear hD hx1
            have hkc : k ≤ cp := by omega
            have QA := Lib.hid (World.ownsRow_made (base := w1.heap.size) (size := 1) (e := 3) w1 #[] 0 (Nat.le_refl _) (Nat.zero_le _) rfl)
            have QB : Hid (((w1.alloc (.cells #[.int .i64 (j : Int)] 3)).alloc (.cells #[] 3)).ownsRow w1.heap.size 3 1 (.slice (some ⟨w1.heap.size + 1, 0, none⟩) 0 0) 0 (([] : List Int).map (.int .i64))) := Lib.hid (by
              have := World.ownsRow_made (base := w1.heap.size) (size := 1) (e := 3) (w1.alloc (.cells #[.int .i64 (j : Int)] 3)) #[] 0 (by simp) (Nat.zero_le _) rfl
              simpa using this)
            have YA : Hid (IntsAt ((w1.alloc (.cells #[] 3)).alloc (.cells #[.int .i64 (j : Int)] 3)) (fun k => k = w1.heap.size + 1) (some ⟨w1.heap.size + 1, 0, none⟩) 1 [(j : Int)]) := Lib.hid (IntsAt.lit rfl rfl (by simp) (by omega))
            have YB : Hid (IntsAt ((w1.alloc (.cells #[.int .i64 (j : Int)] 3)).alloc (.cells #[] 3)) (fun k => k = w1.heap.size) (some ⟨w1.heap.size, 0, none⟩) 1 [(j : Int)]) := Lib.hid (IntsAt.to (IntsAt.lit (W := w1) (cs := #[.int .i64 (j : Int)]) (t := 3) (xs := [(j : Int)]) (len := 1) rfl rfl rfl (by omega)) (fun b hb => ⟨hb, by subst hb; exact Below.heap_alloc _ _ _ (by simp)⟩))
            have B1 : Hid (Below w1.heap.size w1 (w1.alloc (.cells #[] 3)).drew) := Lib.hid ((Below.refl _ _).alloc (Nat.le_refl _) _).drew
            have B2 : Hid (Below w1.heap.size w1 ((w1.alloc (.cells #[] 3)).alloc (.cells #[.int .i64 (j : Int)] 3)).drew) := Lib.hid (((Below.refl _ _).alloc (Nat.le_refl _) _).alloc (by simp) _).drew
            have B3 : Hid (Below w1.heap.size w1 ((w1.alloc (.cells #[.int .i64 (j : Int)] 3)).alloc (.cells #[] 3)).drew) := Lib.hid (((Below.refl _ _).alloc (Nat.le_refl _) _).alloc (by simp) _).drew
            go_wp2_with fail
            go_region_law (first
              | (refine stepApp (by rfl) _ _ (by rfl) w1.heap.size 0 0 w1.heap.size [] (· < w1.heap.size) g 0 k cp ((ruleI rows j).take k) (by rfl) QA.out.drew (by rfl) (HT.out.below B1.out) B1.out.size k (by omega) ((ruleI rows j).take k) (by simp) (by omega) ?_
                 intro g4 c4 w4 own4 hc4 gr4 hb4 hl4
                 have BC := Lib.hid (B1.out.grown gr4 B1.out.size (by intro k e; injection e with e; omega)))
              | (refine stepApp (by rfl) _ _ (by rfl) w1.heap.size 0 0 w1.heap.size [] (· < w1.heap.size) g 0 k cp ((ruleI rows j).take k) (by rfl) (QA.out.alloc _).drew (by rfl) (HT.out.below B2.out) B2.out.size k (by omega) ((ruleI rows j).take k) (by simp) (by omega) ?_
                 intro g4 c4 w4 own4 hc4 gr4 hb4 hl4
                 have BA := Lib.hid (B2.out.grown gr4 B2.out.size (by intro k e; injection e with e; omega))
                 have Y4 := Lib.hid (YA.out.grownEq gr4 rfl (by simp <;> omega) (by omega)))
              | (refine stepApp (by rfl) _ _ (by rfl) w1.heap.size 0 0 (w1.heap.size + 1) [] (· < w1.heap.size) g 0 k cp ((ruleI rows j).take k) (by rfl) QB.out.drew (by rfl) (HT.out.below B3.out) B3.out.size k (by omega) ((ruleI rows j).take k) (by simp) (by omega) ?_
                 intro g4 c4 w4 own4 hc4 gr4 hb4 hl4
                 have BA := Lib.hid (B3.out.grown gr4 B3.out.size (by intro k e; injection e with e; omega))
                 have Y4 := Lib.hid (YB.out.grownEq gr4 rfl (by simp <;> omega) (by omega)))
              | (refine stepApp (by rfl) _ _ (by rfl) w1.heap.size k c4 g4 ((ruleI rows j).take k) (fun b => b = w4.heap.size) w4.heap.size 0 1 1 [(j : Int)] (by rfl) (own4.alloc _) (by rfl) (IntsAt.lit (W := w4) (cs := #[.int .i64 (j : Int)]) (t := 3) (xs := [(j : Int)]) (len := 1) rfl rfl rfl (by omega)) (by have := BC.out.size; simp; omega) (k + 1) rfl ((ruleI rows j).take k ++ [(j : Int)]) rfl (by omega) ?_
                 intro g5 c5 w5 own5 hc5 gr5 hb5 hl5
                 have B5 := Lib.hid ((BC.out.alloc BC.out.size _).grown gr5 (by have := BC.out.size; simp; omega) (by intro k e; injection e with e; omega)))
              | (refine stepApp (by rfl) _ _ (by rfl) w1.heap.size k c4 g4 ((ruleI rows j).take k) _ _ 0 1 1 [(j : Int)] (by rfl) own4 (by rfl) Y4.out BA.out.size (k + 1) rfl ((ruleI rows j).take k ++ [(j : Int)]) rfl (by omega) ?_
                 intro g5 c5 w5 own5 hc5 gr5 hb5 hl5
                 have B5 := Lib.hid (BA.out.grown gr5 BA.out.size (by intro k e; injection e with e; omega)))
              | (refine stepApp (by rfl) _ _ (by rfl) w1.heap.size (k + 1) c5 g5 ((ruleI rows j).take k ++ [(j : Int)]) (· < w1.heap.size) g AD (j - k) (cp - k) ((ruleI rows j).drop k) (by rfl) own5 (by rfl) (HD.out.below B5.out) B5.out.size (j + 1) (by omega) ((ruleI rows j).take k ++ [(j : Int)] ++ (ruleI rows j).drop k) rfl (by omega) ?_
                 intro g6 c6 w6 own6 hc6 gr6 hb6 hl6
                 have B6 := Lib.hid (B5.out.grown gr6 B5.out.size (by intro k e; injection e with e; omega))))
            all_goals (have H6 := Lib.hid own6; clear own6 own5 own4 gr4 gr5 gr6)
            all_goals go_wp2_with fail
            all_goals go_roundw
            case rel => exact ⟨j + 1, c6, g6, by go_num, rfl, by rw [HSU.out]; exact own_base H6.out HB1.out.size, hc6, by omega, HB1.out.trans (B6.out.mono HB1.out.size)⟩
            case measure => simp [intOf]; omega
            case rel => exact ⟨j + 1, c6, g6, by go_num, rfl, by rw [HSU.out]; exact own_base H6.out HB1.out.size, hc6, by omega, HB1.out.trans (B6.out.mono HB1.out.size)⟩
            case measure => simp [intOf]; omega
            case rel => exact ⟨j + 1, c6, g6, by go_num, rfl, by rw [HSU.out]; exact own_base H6.out HB1.out.size, hc6, by omega, HB1.out.trans (B6.out.mono HB1.out.size)⟩
            case measure => simp [intOf]; omega
        · have HSU := Lib.hid (ruleI_succ (rows := rows) (n := j) (k := k) HALL.out (fun z hz => by
            rw [List.getElem?_eq_none (by rw [ruleT_len]; omega)] at hz; cases hz) hkj)
          have hkj3 : ¬ (k : Int) < (j : Int) := by omega
          obtain ⟨w1, rfl⟩ : ∃ w1 : World, w1 = wi := ⟨_, rfl⟩
          have HOW1 := Lib.hid hown1
          have HB1 := Lib.hid HB0.out
          clear hown1
          have hx1 : IntsAt w1 (· < w1.heap.size) (some ⟨g, 0, none⟩) j (ruleI rows j) := by
            obtain ⟨a', c', e', _, h'⟩ := own_ints HOW1.out (by omega)
            injection e' with e1 _ _
            subst e1
            exact h'.to fun b hb => ⟨hb.2, rfl⟩
          have HT := Lib.hid (hx1.takeI k hkj)
          obtain ⟨AD, hAD, hD⟩ : ∃ od : Nat, (if cp = k then (some ⟨g, 0, none⟩ : Option Addr) else some ⟨g, k, none⟩) = some ⟨g, od, none⟩ ∧ IntsAt w1 (· < w1.heap.size) (some ⟨g, od, none⟩) (j - k) ((ruleI rows j).drop k) := by
            by_cases hck : cp = k
            · exact ⟨0, by rw [if_pos hck], by have := hx1.lenEq; simp; omega, by omega, fun h0 => by omega⟩
            · exact ⟨k, by rw [if_neg hck], hx1.dropI k hkj⟩
          have HD := Lib.hid hD
          clear hD hx1
          have hkc : k ≤ cp := by omega
          have QA := Lib.hid (World.ownsRow_made (base := w1.heap.size) (size := 1) (e := 3) w1 #[] 0 (Nat.le_refl _) (Nat.zero_le _) rfl)
          have QB : Hid (((w1.alloc (.cells #[.int .i64 (j : Int)] 3)).alloc (.cells #[] 3)).ownsRow w1.heap.size 3 1 (.slice (some ⟨w1.heap.size + 1, 0, none⟩) 0 0) 0 (([] : List Int).map (.int .i64))) := Lib.hid (by
            have := World.ownsRow_made (base := w1.heap.size) (size := 1) (e := 3) (w1.alloc (.cells #[.int .i64 (j : Int)] 3)) #[] 0 (by simp) (Nat.zero_le _) rfl
            simpa using this)
          have YA : Hid (IntsAt ((w1.alloc (.cells #[] 3)).alloc (.cells #[.int .i64 (j : Int)] 3)) (fun k => k = w1.heap.size + 1) (some ⟨w1.heap.size + 1, 0, none⟩) 1 [(j : Int)]) := Lib.hid (IntsAt.lit rfl rfl (by simp) (by omega))
          have YB : Hid (IntsAt ((w1.alloc (.cells #[.int .i64 (j : Int)] 3)).alloc (.cells #[] 3)) (fun k => k = w1.heap.size) (some ⟨w1.heap.size, 0, none⟩) 1 [(j : Int)]) := Lib.hid (IntsAt.to (IntsAt.lit (W := w1) (cs := #[.int .i64 (j : Int)]) (t := 3) (xs := [(j : Int)]) (len := 1) rfl rfl rfl (by omega)) (fun b hb => ⟨hb, by subst hb; exact Below.heap_alloc _ _ _ (by simp)⟩))
          have B1 : Hid (Below w1.heap.size w1 (w1.alloc (.cells #[] 3)).drew) := Lib.hid ((Below.refl _ _).alloc (Nat.le_refl _) _).drew
          have B2 : Hid (Below w1.heap.size w1 ((w1.alloc (.cells #[] 3)).alloc (.cells #[.int .i64 (j : Int)] 3)).drew) := Lib.hid (((Below.refl _ _).alloc (Nat.le_refl _) _).alloc (by simp) _).drew
          have B3 : Hid (Below w1.heap.size w1 ((w1.alloc (.cells #[.int .i64 (j : Int)] 3)).alloc (.cells #[] 3)).drew) := Lib.hid (((Below.refl _ _).alloc (Nat.le_refl _) _).alloc (by simp) _).drew
          go_wp2_with fail
          go_region_law (first
            | (refine stepApp (by rfl) _ _ (by rfl) w1.heap.size 0 0 w1.heap.size [] (· < w1.heap.size) g 0 k cp ((ruleI rows j).take k) (by rfl) QA.out.drew (by rfl) (HT.out.below B1.out) B1.out.size k (by omega) ((ruleI rows j).take k) (by simp) (by omega) ?_
               intro g4 c4 w4 own4 hc4 gr4 hb4 hl4
               have BC := Lib.hid (B1.out.grown gr4 B1.out.size (by intro k e; injection e with e; omega)))
            | (refine stepApp (by rfl) _ _ (by rfl) w1.heap.size 0 0 w1.heap.size [] (· < w1.heap.size) g 0 k cp ((ruleI rows j).take k) (by rfl) (QA.out.alloc _).drew (by rfl) (HT.out.below B2.out) B2.out.size k (by omega) ((ruleI rows j).take k) (by simp) (by omega) ?_
               intro g4 c4 w4 own4 hc4 gr4 hb4 hl4
               have BA := Lib.hid (B2.out.grown gr4 B2.out.size (by intro k e; injection e with e; omega))
               have Y4 := Lib.hid (YA.out.grownEq gr4 rfl (by simp <;> omega) (by omega)))
            | (refine stepApp (by rfl) _ _ (by rfl) w1.heap.size 0 0 (w1.heap.size + 1) [] (· < w1.heap.size) g 0 k cp ((ruleI rows j).take k) (by rfl) QB.out.drew (by rfl) (HT.out.below B3.out) B3.out.size k (by omega) ((ruleI rows j).take k) (by simp) (by omega) ?_
               intro g4 c4 w4 own4 hc4 gr4 hb4 hl4
               have BA := Lib.hid (B3.out.grown gr4 B3.out.size (by intro k e; injection e with e; omega))
               have Y4 := Lib.hid (YB.out.grownEq gr4 rfl (by simp <;> omega) (by omega)))
            | (refine stepApp (by rfl) _ _ (by rfl) w1.heap.size k c4 g4 ((ruleI rows j).take k) (fun b => b = w4.heap.size) w4.heap.size 0 1 1 [(j : Int)] (by rfl) (own4.alloc _) (by rfl) (IntsAt.lit (W := w4) (cs := #[.int .i64 (j : Int)]) (t := 3) (xs := [(j : Int)]) (len := 1) rfl rfl rfl (by omega)) (by have := BC.out.size; simp; omega) (k + 1) rfl ((ruleI rows j).take k ++ [(j : Int)]) rfl (by omega) ?_
               intro g5 c5 w5 own5 hc5 gr5 hb5 hl5
               have B5 := Lib.hid ((BC.out.alloc BC.out.size _).grown gr5 (by have := BC.out.size; simp; omega) (by intro k e; injection e with e; omega)))
            | (refine stepApp (by rfl) _ _ (by rfl) w1.heap.size k c4 g4 ((ruleI rows j).take k) _ _ 0 1 1 [(j : Int)] (by rfl) own4 (by rfl) Y4.out BA.out.size (k + 1) rfl ((ruleI rows j).take k ++ [(j : Int)]) rfl (by omega) ?_
               intro g5 c5 w5 own5 hc5 gr5 hb5 hl5
               have B5 := Lib.hid (BA.out.grown gr5 BA.out.size (by intro k e; injection e with e; omega)))
            | (refine stepApp (by rfl) _ _ (by rfl) w1.heap.size (k + 1) c5 g5 ((ruleI rows j).take k ++ [(j : Int)]) (· < w1.heap.size) g AD (j - k) (cp - k) ((ruleI rows j).drop k) (by rfl) own5 (by rfl) (HD.out.below B5.out) B5.out.size (j + 1) (by omega) ((ruleI rows j).take k ++ [(j : Int)] ++ (ruleI rows j).drop k) rfl (by omega) ?_
               intro g6 c6 w6 own6 hc6 gr6 hb6 hl6
               have B6 := Lib.hid (B5.out.grown gr6 B5.out.size (by intro k e; injection e with e; omega))))
          all_goals (have H6 := Lib.hid own6; clear own6 own5 own4 gr4 gr5 gr6)
          all_goals go_wp2_with fail
          all_goals go_roundw
          case rel => exact ⟨j + 1, c6, g6, by go_num, rfl, by rw [HSU.out]; exact own_base H6.out HB1.out.size, hc6, by omega, HB1.out.trans (B6.out.mono HB1.out.size)⟩
          case measure => simp [intOf]; omega
          case rel => exact ⟨j + 1, c6, g6, by go_num, rfl, by rw [HSU.out]; exact own_base H6.out HB1.out.size, hc6, by omega, HB1.out.trans (B6.out.mono HB1.out.size)⟩
          case measure => simp [intOf]; omega
          case rel => exact ⟨j + 1, c6, g6, by go_num, rfl, by rw [HSU.out]; exact own_base H6.out HB1.out.size, hc6, by omega, HB1.out.trans (B6.out.mono HB1.out.size)⟩
          case measure => simp [intOf]; omega
    · obtain rfl : j = len := by omega
      go_wp2_with fail
      go_ret
      exact ⟨_, _, _, rfl, by omega, HOWN.out, HBB.out⟩
end Go.Proofs.YtjcbpnffmebihaaGreatDoor
