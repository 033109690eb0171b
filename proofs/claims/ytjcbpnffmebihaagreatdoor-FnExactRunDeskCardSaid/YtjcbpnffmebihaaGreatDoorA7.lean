import Derived.Test.YtjcbpnffmebihaaGreatDoorA6
import Derived.Test.YtjcbpnffmebihaaGreatDoorRows
import Derived.WalkKit
import Derived.LoopTactic
import Derived.Outline
import Derived.WalkSpells
import Derived.WalkLawsBesides
import Derived.ProofKit
namespace Go.Proofs.YtjcbpnffmebihaaGreatDoor
open Go.RowKit Go.WideShapes

-- the rule
theorem insR_at {a b : Nat → Int} {x : Nat} : ∀ (l : List Nat) (k : Nat), (∀ (m : Nat) (y : Nat), m < k → l[m]? = some y → btr a b y x) → (∀ y, l[k]? = some y → ¬ btr a b y x) → k ≤ l.length → insR a b x l = l.take k ++ [x] ++ l.drop k := by
  intro l
  induction l with
  | nil => intro k _ _ hk; simp at hk; subst hk; rfl
  | cons y l ih =>
    intro k h1 h2 hk
    cases k with
    | zero => rw [insR, if_neg (h2 y rfl)]; rfl
    | succ k =>
      rw [insR, if_pos (h1 0 y (by omega) rfl)]
      rw [ih k (fun m z hm hz => h1 (m + 1) z (by omega) (by simpa using hz)) (fun z hz => h2 z (by simpa using hz)) (by simpa using hk)]
      rfl
def ruleI (rows : List (List Int)) (n : Nat) : List Int := (ruleT (ta rows) (tb rows) n).map (fun x : Nat => (x : Int))
theorem ruleT_len (a b : Nat → Int) (n : Nat) : (ruleT a b n).length = n := by have := (ruleT_perm a b n).length_eq; simpa using this
theorem ruleI_len (rows : List (List Int)) (n : Nat) : (ruleI rows n).length = n := by unfold ruleI; rw [List.length_map, ruleT_len]
theorem ruleI_get {rows : List (List Int)} {n k : Nat} {x : Int} (h : (ruleI rows n)[k]? = some x) : ∃ y : Nat, x = (y : Int) ∧ y < n ∧ (ruleT (ta rows) (tb rows) n)[k]? = some y := by
  unfold ruleI at h
  rw [List.getElem?_map] at h
  cases hq : (ruleT (ta rows) (tb rows) n)[k]? with
  | none => rw [hq] at h; cases h
  | some y =>
    rw [hq] at h
    simp only [Option.map_some, Option.some.injEq] at h
    refine ⟨y, h.symm, ?_, rfl⟩
    have := (ruleT_perm (ta rows) (tb rows) n).mem_iff.1 (List.mem_of_getElem? hq)
    simpa using this
theorem ruleI_succ {rows : List (List Int)} {n k : Nat} (h1 : ∀ (m y : Nat), m < k → (ruleT (ta rows) (tb rows) n)[m]? = some y → btr (ta rows) (tb rows) y n) (h2 : ∀ y, (ruleT (ta rows) (tb rows) n)[k]? = some y → ¬ btr (ta rows) (tb rows) y n) (hk : k ≤ n) :
    ruleI rows (n + 1) = (ruleI rows n).take k ++ [(n : Int)] ++ (ruleI rows n).drop k := by
  unfold ruleI
  show List.map _ (insR (ta rows) (tb rows) n (ruleT (ta rows) (tb rows) n)) = _
  rw [insR_at _ k h1 h2 (by rw [ruleT_len]; exact hk)]
  simp
set_option maxRecDepth 100000 in
set_option maxHeartbeats 4000000 in
theorem byRule_any (a : Option Addr) (len cap : Nat) (rows : List (List Int)) (w : World) (h : RowsAt w (· < w.heap.size) a len rows) (hp : pairsM rows = true) :
    Calls Tryz.prog 34 #[.slice a len cap] w (NewOwn w (ruleI rows len)) := by
  have hl8 : len ≤ 8 := by have := (pairs_get hp).1; have := h.lenEq; omega
  have ho0 := World.ownsRow_made (base := w.heap.size) (size := 1) (e := 3) w #[] 0 (Nat.le_refl _) (Nat.zero_le _) rfl
  go_enter Tryz.func34, Tryz.ntmps34
  go_wp2_with fail
  go_loopw [3, 4] (fun v i wr => ∃ (j cp g : Nat), i = .int .i64 j ∧ v = .slice (some ⟨g, 0, none⟩) j cp ∧ wr.ownsRow w.heap.size 3 1 v j ((ruleI rows j).map (.int .i64)) ∧ j ≤ cp ∧ j ≤ len ∧ Below w.heap.size w wr) (fun _ i _ => len - (intOf i).toNat)
  case atStart => exact ⟨0, 0, w.heap.size, rfl, rfl, (by simpa [ruleI, ruleT] using ho0), Nat.zero_le _, Nat.zero_le _, (Below.refl _ _).alloc (Nat.le_refl _) _⟩
  case round =>
    clear ho0
    obtain ⟨j, cp, g, rfl, rfl, hown, hjc, hjl, hB⟩ := hrel
    obtain ⟨wo, rfl⟩ : ∃ wo : World, wo = wr := ⟨_, rfl⟩
    have HOWN := Lib.hid hown
    have HBB := Lib.hid hB
    have HLI := Lib.hid (ruleI_len rows j)
    have HRW := Lib.hid (h.below hB)
    clear hown hB
    by_cases hlt : j < len
    · go_wp2_with fail
      go_loopw [5] (fun kk ws => ∃ k : Nat, kk = .int .i64 k ∧ k ≤ j ∧ Drew wo ws ∧ ∀ (m y : Nat), m < k → (ruleT (ta rows) (tb rows) j)[m]? = some y → btr (ta rows) (tb rows) y j) (fun kk _ => j - (intOf kk).toNat)
      case atStart => exact ⟨0, rfl, Nat.zero_le _, Drew.refl _, fun m y hm => by omega⟩
      case round =>
        obtain ⟨k, rfl, hkj, hdw, hall⟩ := hrel
        have HALL := Lib.hid hall
        clear hall
        obtain ⟨wi, rfl⟩ : ∃ wi : World, wi = wr := ⟨_, rfl⟩
        have HDW := Lib.hid hdw
        clear hdw
        have hown1 : wi.ownsRow w.heap.size 3 1 (.slice (some ⟨g, 0, none⟩) j cp) j ((ruleI rows j).map (.int .i64)) := by
          obtain ⟨q0, hq0⟩ := HDW.out
          rw [hq0]; exact own_drewN HOWN.out _
        have HB0 : Hid (Below w.heap.size w wi) := Lib.hid (by
          obtain ⟨q0, hq0⟩ := HDW.out
          rw [hq0]; exact ⟨HBB.out.os, HBB.out.tape, HBB.out.output, HBB.out.size, HBB.out.block⟩)
        have HR1 := Lib.hid (HDW.out.rows HRW.out)
        by_cases hkl : k < j
        · have hx0 : IntsAt wi (· < wi.heap.size) (some ⟨g, 0, none⟩) j (ruleI rows j) := by
            obtain ⟨a', c', e', _, h'⟩ := own_ints hown1 (by omega)
            injection e' with e1 _ _
            subst e1
            exact h'.to fun b hb => ⟨hb.2, rfl⟩
          obtain ⟨b9, off9, x9, e9, hx9, hc9⟩ := hx0.get hkl
          cases e9
          rw [Nat.zero_add] at hc9
          obtain ⟨y, rfl, hyj, hy⟩ := ruleI_get hx9
          have HY := Lib.hid hy
          have HOWI := Lib.hid hown1
          clear hx0 hx9 hy hown1
          have hkl' : (k : Int) < (j : Int) := by omega
          go_wp2_with fail
          refine (better_any _ a len cap rows y j wi HR1.out hp (by omega) hlt).mono ?_
          rintro e w1 ⟨rfl, hd1⟩
          have HD1 := Lib.hid hd1
          clear hd1
          by_cases hbt : btr (ta rows) (tb rows) y j
          · rw [decide_eq_true hbt]
            go_wp2_with fail
            go_roundw
            case rel => exact ⟨k + 1, by go_num, by omega, by
              obtain ⟨p1, e1⟩ := HDW.out
              obtain ⟨p2, e2⟩ := HD1.out
              exact ⟨p1 + p2, by rw [e2, e1, World.drewN_drewN]⟩, fun m z hm hz => by
              rcases Nat.lt_or_ge m k with h' | h'
              · exact HALL.out m z h' hz
              · have : m = k := by omega
                subst this
                rw [HY.out] at hz
                injection hz with hz
                subst hz
                exact hbt⟩
            case measure => simp [intOf]; omega
          · rw [decide_eq_false hbt]
            have HSU := Lib.hid (ruleI_succ (rows := rows) (n := j) (k := k) HALL.out (fun z hz => by rw [HY.out] at hz; injection hz with hz; subst hz; exact hbt) hkj)
            have HOW1 : Hid (w1.ownsRow w.heap.size 3 1 (.slice (some ⟨g, 0, none⟩) j cp) j ((ruleI rows j).map (.int .i64))) := Lib.hid (by
              obtain ⟨q0, hq0⟩ := HD1.out
              rw [hq0]; exact own_drewN HOWI.out _)
            have HB1 : Hid (Below w.heap.size w w1) := Lib.hid (by
              obtain ⟨q0, hq0⟩ := HD1.out
              rw [hq0]; exact ⟨HB0.out.os, HB0.out.tape, HB0.out.output, HB0.out.size, HB0.out.block⟩)
            clear hbt hc9
            have hx1 : IntsAt w1 (· < w1.heap.size) (some ⟨g, 0, none⟩) j (ruleI rows j) := by
              obtain ⟨a', c', e', _, h'⟩ := own_ints HOW1.out (by omega)
              injection e' with e1 _ _
              subst e1
              exact h'.to fun b hb => ⟨hb.2, rfl⟩
            have HT := Lib.hid (hx1.takeI k hkj)
            obtain ⟨AD, hAD, hD⟩ : ∃ od : Nat, (if cp = k then (some ⟨g, 0, none⟩ : Option Addr) else some ⟨g, k, none⟩) = some ⟨g, od, none⟩ ∧ IntsAt w1 (· < w1.heap.size) (some ⟨g, od, none⟩) (j - k) ((ruleI rows j).drop k) := by
              by_cases hck : cp = k
              · exact ⟨0, by rw [if_pos hck], by have := hx1.lenEq; simp; omega, by omega, fun h0 => by omega⟩
              · exact ⟨k, by rw [if_neg hck], hx1.dropI k hkj⟩
            have HD := Lib.hid hD
            clear hD hx1
            have hkc : k ≤ cp := by omega
            have QA := Lib.hid (World.ownsRow_made (base := w1.heap.size) (size := 1) (e := 3) w1 #[] 0 (Nat.le_refl _) (Nat.zero_le _) rfl)
            have QB : Hid (((w1.alloc (.cells #[.int .i64 (j : Int)] 3)).alloc (.cells #[] 3)).ownsRow w1.heap.size 3 1 (.slice (some ⟨w1.heap.size + 1, 0, none⟩) 0 0) 0 (([] : List Int).map (.int .i64))) := Lib.hid (by
              have := World.ownsRow_made (base := w1.heap.size) (size := 1) (e := 3) (w1.alloc (.cells #[.int .i64 (j : Int)] 3)) #[] 0 (by simp) (Nat.zero_le _) rfl
              simpa using this)
            have YA : Hid (IntsAt ((w1.alloc (.cells #[] 3)).alloc (.cells #[.int .i64 (j : Int)] 3)) (fun k => k = w1.heap.size + 1) (some ⟨w1.heap.size + 1, 0, none⟩) 1 [(j : Int)]) := Lib.hid (IntsAt.lit rfl rfl (by simp) (by omega))
            have YB : Hid (IntsAt ((w1.alloc (.cells #[.int .i64 (j : Int)] 3)).alloc (.cells #[] 3)) (fun k => k = w1.heap.size) (some ⟨w1.heap.size, 0, none⟩) 1 [(j : Int)]) := Lib.hid (IntsAt.to (IntsAt.lit (W := w1) (cs := #[.int .i64 (j : Int)]) (t := 3) (xs := [(j : Int)]) (len := 1) rfl rfl rfl (by omega)) (fun b hb => ⟨hb, by subst hb; exact Below.heap_alloc _ _ _ (by simp)⟩))
            have B1 : Hid (Below w1.heap.size w1 (w1.alloc (.cells #[] 3)).drew) := Lib.hid ((Below.refl _ _).alloc (Nat.le_refl _) _).drew
            have B2 : Hid (Below w1.heap.size w1 ((w1.alloc (.cells #[] 3)).alloc (.cells #[.int .i64 (j : Int)] 3)).drew) := Lib.hid (((Below.refl _ _).alloc (Nat.le_refl _) _).alloc (by simp) _).drew
            have B3 : Hid (Below w1.heap.size w1 ((w1.alloc (.cells #[.int .i64 (j : Int)] 3)).alloc (.cells #[] 3)).drew) := Lib.hid (((Below.refl _ _).alloc (Nat.le_refl _) _).alloc (by simp) _).drew
            go_wp2_with fail
            go_region_law (first
              | (refine stepApp (by rfl) _ _ (by rfl) w1.heap.size 0 0 w1.heap.size [] (· < w1.heap.size) g 0 k cp ((ruleI rows j).take k) (by rfl) QA.out.drew (by rfl) (HT.out.below B1.out) B1.out.size k (by omega) ((ruleI rows j).take k) (by simp) (by omega) ?_
                 intro g4 c4 w4 own4 hc4 gr4 hb4 hl4
                 have BC := Lib.hid (B1.out.grown gr4 B1.out.size (by intro k e; injection e with e; omega)))
              | (refine stepApp (by rfl) _ _ (by rfl) w1.heap.size 0 0 w1.heap.size [] (· < w1.heap.size) g 0 k cp ((ruleI rows j).take k) (by rfl) (QA.out.alloc _).drew (by rfl) (HT.out.below B2.out) B2.out.size k (by omega) ((ruleI rows j).take k) (by simp) (by omega) ?_
                 intro g4 c4 w4 own4 hc4 gr4 hb4 hl4
                 have BA := Lib.hid (B2.out.grown gr4 B2.out.size (by intro k e; injection e with e; omega))
                 have Y4 := Lib.hid (YA.out.grownEq gr4 rfl (by simp <;> omega) (by omega)))
              | (refine stepApp (by rfl) _ _ (by rfl) w1.heap.size 0 0 (w1.heap.size + 1) [] (· < w1.heap.size) g 0 k cp ((ruleI rows j).take k) (by rfl) QB.out.drew (by rfl) (HT.out.below B3.out) B3.out.size k (by omega) ((ruleI rows j).take k) (by simp) (by omega) ?_
                 intro g4 c4 w4 own4 hc4 gr4 hb4 hl4
                 have BA := Lib.hid (B3.out.grown gr4 B3.out.size (by intro k e; injection e with e; omega))
                 have Y4 := Lib.hid (YB.out.grownEq gr4 rfl (by simp <;> omega) (by omega)))
              | (refine stepApp (by rfl) _ _ (by rfl) w1.heap.size k c4 g4 ((ruleI rows j).take k) (fun b => b = w4.heap.size) w4.heap.size 0 1 1 [(j : Int)] (by rfl) (own4.alloc _) (by rfl) (IntsAt.lit (W := w4) (cs := #[.int .i64 (j : Int)]) (t := 3) (xs := [(j : Int)]) (len := 1) rfl rfl rfl (by omega)) (by have := BC.out.size; simp; omega) (k + 1) rfl ((ruleI rows j).take k ++ [(j : Int)]) rfl (by omega) ?_
                 intro g5 c5 w5 own5 hc5 gr5 hb5 hl5
                 have B5 := Lib.hid ((BC.out.alloc BC.out.size _).grown gr5 (by have := BC.out.size; simp; omega) (by intro k e; injection e with e; omega)))
              | (refine stepApp (by rfl) _ _ (by rfl) w1.heap.size k c4 g4 ((ruleI rows j).take k) _ _ 0 1 1 [(j : Int)] (by rfl) own4 (by rfl) Y4.out BA.out.size (k + 1) rfl ((ruleI rows j).take k ++ [(j : Int)]) rfl (by omega) ?_
                 intro g5 c5 w5 own5 hc5 gr5 hb5 hl5
                 have B5 := Lib.hid (BA.out.grown gr5 BA.out.size (by intro k e; injection e with e; omega)))
              | (refine stepApp (by rfl) _ _ (by rfl) w1.heap.size (k + 1) c5 g5 ((ruleI rows j).take k ++ [(j : Int)]) (· < w1.heap.size) g AD (j - k) (cp - k) ((ruleI rows j).drop k) (by rfl) own5 (by rfl) (HD.out.below B5.out) B5.out.size (j + 1) (by omega) ((ruleI rows j).take k ++ [(j : Int)] ++ (ruleI rows j).drop k) rfl (by omega) ?_
                 intro g6 c6 w6 own6 hc6 gr6 hb6 hl6
                 have B6 := Lib.hid (B5.out.grown gr6 B5.out.size (by intro k e; injection e with e; omega))))
            all_goals (have H6 := Lib.hid own6; clear own6 own5 own4 gr4 gr5 gr6)
            all_goals go_wp2_with fail
            all_goals go_roundw
            case rel => exact ⟨j + 1, c6, g6, by go_num, rfl, by rw [HSU.out]; exact own_base H6.out HB1.out.size, hc6, by omega, HB1.out.trans (B6.out.mono HB1.out.size)⟩
            case measure => simp [intOf]; omega
            case rel => exact ⟨j + 1, c6, g6, by go_num, rfl, by rw [HSU.out]; exact own_base H6.out HB1.out.size, hc6, by omega, HB1.out.trans (B6.out.mono HB1.out.size)⟩
            case measure => simp [intOf]; omega
            case rel => exact ⟨j + 1, c6, g6, by go_num, rfl, by rw [HSU.out]; exact own_base H6.out HB1.out.size, hc6, by omega, HB1.out.trans (B6.out.mono HB1.out.size)⟩
            case measure => simp [intOf]; omega
        · have HSU := Lib.hid (ruleI_succ (rows := rows) (n := j) (k := k) HALL.out (fun z hz => by
            rw [List.getElem?_eq_none (by rw [ruleT_len]; omega)] at hz; cases hz) hkj)
          have hkj3 : ¬ (k : Int) < (j : Int) := by omega
          obtain ⟨w1, rfl⟩ : ∃ w1 : World, w1 = wi := ⟨_, rfl⟩
          have HOW1 := Lib.hid hown1
          have HB1 := Lib.hid HB0.out
          clear hown1
          have hx1 : IntsAt w1 (· < w1.heap.size) (some ⟨g, 0, none⟩) j (ruleI rows j) := by
            obtain ⟨a', c', e', _, h'⟩ := own_ints HOW1.out (by omega)
            injection e' with e1 _ _
            subst e1
            exact h'.to fun b hb => ⟨hb.2, rfl⟩
          have HT := Lib.hid (hx1.takeI k hkj)
          obtain ⟨AD, hAD, hD⟩ : ∃ od : Nat, (if cp = k then (some ⟨g, 0, none⟩ : Option Addr) else some ⟨g, k, none⟩) = some ⟨g, od, none⟩ ∧ IntsAt w1 (· < w1.heap.size) (some ⟨g, od, none⟩) (j - k) ((ruleI rows j).drop k) := by
            by_cases hck : cp = k
            · exact ⟨0, by rw [if_pos hck], by have := hx1.lenEq; simp; omega, by omega, fun h0 => by omega⟩
            · exact ⟨k, by rw [if_neg hck], hx1.dropI k hkj⟩
          have HD := Lib.hid hD
          clear hD hx1
          have hkc : k ≤ cp := by omega
          have QA := Lib.hid (World.ownsRow_made (base := w1.heap.size) (size := 1) (e := 3) w1 #[] 0 (Nat.le_refl _) (Nat.zero_le _) rfl)
          have QB : Hid (((w1.alloc (.cells #[.int .i64 (j : Int)] 3)).alloc (.cells #[] 3)).ownsRow w1.heap.size 3 1 (.slice (some ⟨w1.heap.size + 1, 0, none⟩) 0 0) 0 (([] : List Int).map (.int .i64))) := Lib.hid (by
            have := World.ownsRow_made (base := w1.heap.size) (size := 1) (e := 3) (w1.alloc (.cells #[.int .i64 (j : Int)] 3)) #[] 0 (by simp) (Nat.zero_le _) rfl
            simpa using this)
          have YA : Hid (IntsAt ((w1.alloc (.cells #[] 3)).alloc (.cells #[.int .i64 (j : Int)] 3)) (fun k => k = w1.heap.size + 1) (some ⟨w1.heap.size + 1, 0, none⟩) 1 [(j : Int)]) := Lib.hid (IntsAt.lit rfl rfl (by simp) (by omega))
          have YB : Hid (IntsAt ((w1.alloc (.cells #[.int .i64 (j : Int)] 3)).alloc (.cells #[] 3)) (fun k => k = w1.heap.size) (some ⟨w1.heap.size, 0, none⟩) 1 [(j : Int)]) := Lib.hid (IntsAt.to (IntsAt.lit (W := w1) (cs := #[.int .i64 (j : Int)]) (t := 3) (xs := [(j : Int)]) (len := 1) rfl rfl rfl (by omega)) (fun b hb => ⟨hb, by subst hb; exact Below.heap_alloc _ _ _ (by simp)⟩))
          have B1 : Hid (Below w1.heap.size w1 (w1.alloc (.cells #[] 3)).drew) := Lib.hid ((Below.refl _ _).alloc (Nat.le_refl _) _).drew
          have B2 : Hid (Below w1.heap.size w1 ((w1.alloc (.cells #[] 3)).alloc (.cells #[.int .i64 (j : Int)] 3)).drew) := Lib.hid (((Below.refl _ _).alloc (Nat.le_refl _) _).alloc (by simp) _).drew
          have B3 : Hid (Below w1.heap.size w1 ((w1.alloc (.cells #[.int .i64 (j : Int)] 3)).alloc (.cells #[] 3)).drew) := Lib.hid (((Below.refl _ _).alloc (Nat.le_refl _) _).alloc (by simp) _).drew
          go_wp2_with fail
          go_region_law (first
            | (refine stepApp (by rfl) _ _ (by rfl) w1.heap.size 0 0 w1.heap.size [] (· < w1.heap.size) g 0 k cp ((ruleI rows j).take k) (by rfl) QA.out.drew (by rfl) (HT.out.below B1.out) B1.out.size k (by omega) ((ruleI rows j).take k) (by simp) (by omega) ?_
               intro g4 c4 w4 own4 hc4 gr4 hb4 hl4
               have BC := Lib.hid (B1.out.grown gr4 B1.out.size (by intro k e; injection e with e; omega)))
            | (refine stepApp (by rfl) _ _ (by rfl) w1.heap.size 0 0 w1.heap.size [] (· < w1.heap.size) g 0 k cp ((ruleI rows j).take k) (by rfl) (QA.out.alloc _).drew (by rfl) (HT.out.below B2.out) B2.out.size k (by omega) ((ruleI rows j).take k) (by simp) (by omega) ?_
               intro g4 c4 w4 own4 hc4 gr4 hb4 hl4
               have BA := Lib.hid (B2.out.grown gr4 B2.out.size (by intro k e; injection e with e; omega))
               have Y4 := Lib.hid (YA.out.grownEq gr4 rfl (by simp <;> omega) (by omega)))
            | (refine stepApp (by rfl) _ _ (by rfl) w1.heap.size 0 0 (w1.heap.size + 1) [] (· < w1.heap.size) g 0 k cp ((ruleI rows j).take k) (by rfl) QB.out.drew (by rfl) (HT.out.below B3.out) B3.out.size k (by omega) ((ruleI rows j).take k) (by simp) (by omega) ?_
               intro g4 c4 w4 own4 hc4 gr4 hb4 hl4
               have BA := Lib.hid (B3.out.grown gr4 B3.out.size (by intro k e; injection e with e; omega))
               have Y4 := Lib.hid (YB.out.grownEq gr4 rfl (by simp <;> omega) (by omega)))
            | (refine stepApp (by rfl) _ _ (by rfl) w1.heap.size k c4 g4 ((ruleI rows j).take k) (fun b => b = w4.heap.size) w4.heap.size 0 1 1 [(j : Int)] (by rfl) (own4.alloc _) (by rfl) (IntsAt.lit (W := w4) (cs := #[.int .i64 (j : Int)]) (t := 3) (xs := [(j : Int)]) (len := 1) rfl rfl rfl (by omega)) (by have := BC.out.size; simp; omega) (k + 1) rfl ((ruleI rows j).take k ++ [(j : Int)]) rfl (by omega) ?_
               intro g5 c5 w5 own5 hc5 gr5 hb5 hl5
               have B5 := Lib.hid ((BC.out.alloc BC.out.size _).grown gr5 (by have := BC.out.size; simp; omega) (by intro k e; injection e with e; omega)))
            | (refine stepApp (by rfl) _ _ (by rfl) w1.heap.size k c4 g4 ((ruleI rows j).take k) _ _ 0 1 1 [(j : Int)] (by rfl) own4 (by rfl) Y4.out BA.out.size (k + 1) rfl ((ruleI rows j).take k ++ [(j : Int)]) rfl (by omega) ?_
               intro g5 c5 w5 own5 hc5 gr5 hb5 hl5
               have B5 := Lib.hid (BA.out.grown gr5 BA.out.size (by intro k e; injection e with e; omega)))
            | (refine stepApp (by rfl) _ _ (by rfl) w1.heap.size (k + 1) c5 g5 ((ruleI rows j).take k ++ [(j : Int)]) (· < w1.heap.size) g AD (j - k) (cp - k) ((ruleI rows j).drop k) (by rfl) own5 (by rfl) (HD.out.below B5.out) B5.out.size (j + 1) (by omega) ((ruleI rows j).take k ++ [(j : Int)] ++ (ruleI rows j).drop k) rfl (by omega) ?_
               intro g6 c6 w6 own6 hc6 gr6 hb6 hl6
               have B6 := Lib.hid (B5.out.grown gr6 B5.out.size (by intro k e; injection e with e; omega))))
          all_goals (have H6 := Lib.hid own6; clear own6 own5 own4 gr4 gr5 gr6)
          all_goals go_wp2_with fail
          all_goals go_roundw
          case rel => exact ⟨j + 1, c6, g6, by go_num, rfl, by rw [HSU.out]; exact own_base H6.out HB1.out.size, hc6, by omega, HB1.out.trans (B6.out.mono HB1.out.size)⟩
          case measure => simp [intOf]; omega
          case rel => exact ⟨j + 1, c6, g6, by go_num, rfl, by rw [HSU.out]; exact own_base H6.out HB1.out.size, hc6, by omega, HB1.out.trans (B6.out.mono HB1.out.size)⟩
          case measure => simp [intOf]; omega
          case rel => exact ⟨j + 1, c6, g6, by go_num, rfl, by rw [HSU.out]; exact own_base H6.out HB1.out.size, hc6, by omega, HB1.out.trans (B6.out.mono HB1.out.size)⟩
          case measure => simp [intOf]; omega
    · obtain rfl : j = len := by omega
      go_wp2_with fail
      go_ret
      exact ⟨_, _, _, rfl, by omega, HOWN.out, HBB.out⟩
end Go.Proofs.YtjcbpnffmebihaaGreatDoor
namespace Go.Proofs.YtjcbpnffmebihaaGreatDoor

-- one machine: t, w, d the times, weights and due times of the jobs
/-- each job is done at most L behind its due time -/
def allLe (t d : Nat → Int) (L s : Int) : List Nat → Prop
  | [] => True
  | x :: l => s + t x - d x ≤ L ∧ allLe t d L (s + t x) l
theorem allLe_snoc {t d : Nat → Int} {L : Int} {x : Nat} : ∀ (l : List Nat) (s : Int), allLe t d L s (l ++ [x]) ↔ allLe t d L s l ∧ s + sumL t l + t x - d x ≤ L
  | [], s => by simp [allLe, sumL]
  | y :: l, s => by
    rw [List.cons_append, allLe, allLe, allLe_snoc l, sumL, and_assoc, show s + t y + sumL t l + t x = s + (t y + sumL t l) + t x by omega]
theorem allLe_append {t d : Nat → Int} {L : Int} : ∀ (l m : List Nat) (s : Int), allLe t d L s (l ++ m) ↔ allLe t d L s l ∧ allLe t d L (s + sumL t l) m
  | [], m, s => by simp [allLe, sumL]
  | y :: l, m, s => by
    rw [List.cons_append, allLe, allLe, allLe_append l, sumL, and_assoc, show s + t y + sumL t l = s + (t y + sumL t l) by omega]

-- how many are late
/-- the index of the last one of the greatest -/
def bigAt (t : Nat → Int) (K : List Nat) : Nat → Nat
  | 0 => 0
  | k + 1 => if t (K.getD (bigAt t K k) 0) ≤ t (K.getD k 0) then k else bigAt t K k
theorem bigAt_lt (t : Nat → Int) (K : List Nat) : ∀ k, 0 < k → bigAt t K k < k
  | k + 1, _ => by
    rw [bigAt]
    split
    · omega
    · cases k with
      | zero => simp [bigAt]
      | succ k => have := bigAt_lt t K (k + 1) (by omega); omega
theorem bigAt_ge (t : Nat → Int) (K : List Nat) : ∀ k j, j < k → t (K.getD j 0) ≤ t (K.getD (bigAt t K k) 0)
  | k + 1, j, h => by
    rw [bigAt]
    rcases Nat.lt_or_eq_of_le (Nat.le_of_lt_succ h) with h1 | rfl
    · have := bigAt_ge t K k j h1
      split
      · rename_i h2; omega
      · exact this
    · split
      · exact Int.le_refl _
      · rename_i h2; omega
/-- one job more is put to those that are kept -/
def keepS (t d : Nat → Int) (K : List Nat) (j : Nat) : List Nat :=
  if sumL t (K ++ [j]) ≤ d j then K ++ [j] else (K ++ [j]).eraseIdx (bigAt t (K ++ [j]) (K ++ [j]).length)
def keepL (t d : Nat → Int) (l : List Nat) : List Nat := l.foldl (keepS t d) []
theorem keepL_snoc (t d : Nat → Int) (l : List Nat) (j : Nat) : keepL t d (l ++ [j]) = keepS t d (keepL t d l) j := by simp [keepL]
/-- the step, over the job that falls out -/
theorem keepS_is {t d : Nat → Int} {K : List Nat} {j : Nat} (hn : (K ++ [j]).Nodup) : (sumL t (K ++ [j]) ≤ d j ∧ keepS t d K j = K ++ [j]) ∨
    (d j < sumL t (K ++ [j]) ∧ ∃ x, x ∈ K ++ [j] ∧ (∀ y ∈ K ++ [j], t y ≤ t x) ∧ keepS t d K j = (K ++ [j]).erase x) := by
  unfold keepS
  by_cases h : sumL t (K ++ [j]) ≤ d j
  · exact .inl ⟨h, if_pos h⟩
  · right
    rw [if_neg h]
    have hM : 0 < (K ++ [j]).length := by simp
    generalize K ++ [j] = M at hn h hM
    have hb := bigAt_lt t M M.length hM
    have hg := bigAt_ge t M M.length
    generalize bigAt t M M.length = b at hb hg
    refine ⟨by omega, M[b], List.getElem_mem hb, fun y hy => ?_, (List.erase_eq_eraseIdx_of_idxOf (hn.idxOf_getElem b hb)).symm⟩
    obtain ⟨i, hi, rfl⟩ := List.getElem_of_mem hy
    have := hg i hi
    simpa [List.getD_eq_getElem?_getD, hi, hb] using this
theorem sub_one {l : List Nat} {a : Nat} (h : l.Sublist [a]) : l = [] ∨ l = [a] := by
  cases h with
  | cons _ h => exact .inl (List.sublist_nil.1 h)
  | cons_cons _ h => exact .inr (by rw [List.sublist_nil.1 h])
theorem snoc_ind {P : List Nat → Prop} (h0 : P []) (h1 : ∀ l x, P l → P (l ++ [x])) (l : List Nat) : P l := by
  have key : ∀ m : List Nat, P m.reverse := fun m => by
    induction m with
    | nil => exact h0
    | cons x m ih => rw [List.reverse_cons]; exact h1 _ _ ih
  have := key l.reverse
  rwa [List.reverse_reverse] at this
theorem sumL_erase {f : Nat → Int} {x : Nat} {l : List Nat} (h : x ∈ l) : sumL f (l.erase x) = sumL f l - f x := by
  have := sumL_perm (f := f) (List.perm_cons_erase h)
  rw [sumL] at this; omega
theorem allLe_sub {t d : Nat → Int} {L : Int} (ht : ∀ x, 0 ≤ t x) {l' l : List Nat} (h : l'.Sublist l) : ∀ s s', s' ≤ s → allLe t d L s l → allLe t d L s' l' := by
  induction h with
  | slnil => intro _ _ _ _; trivial
  | cons a _ ih => intro s s' h hl; have := ht a; exact ih (s + t a) s' (by omega) hl.2
  | cons_cons a _ ih => intro s s' h hl; exact ⟨by have := hl.1; omega, ih (s + t a) (s' + t a) (by omega) hl.2⟩
theorem allLe_last {t d : Nat → Int} {L : Int} {K : List Nat} (hK : K ≠ []) (h : allLe t d L 0 K) : ∃ z ∈ K, sumL t K - d z ≤ L := by
  rcases List.eq_nil_or_concat K with rfl | ⟨M, z, rfl⟩
  · exact absurd rfl hK
  · rw [List.concat_eq_append] at h ⊢
    have := ((allLe_snoc M 0).mp h).2
    exact ⟨z, by simp, by rw [sumL_append, sumL, sumL]; omega⟩
/-- what holds of those that are kept -/
structure Kept (t d : Nat → Int) (p K : List Nat) : Prop where
  sub : K.Sublist p
  time : allLe t d 0 0 K
  best : ∀ F, F.Sublist p → allLe t d 0 0 F → ∃ G : List Nat, G.Nodup ∧ (∀ z ∈ G, z ∈ K) ∧ G.length = F.length ∧ sumL t G ≤ sumL t F
  out : ∀ x ∈ p, x ∉ K → d x < t x + sumL t (K.filter (fun y => decide (t y ≤ t x)))
theorem filter_all {p : Nat → Bool} {l : List Nat} (h : ∀ x ∈ l, p x = true) : l.filter p = l := List.filter_eq_self.2 h
theorem Kept.step {t d : Nat → Int} (ht : ∀ x, 0 ≤ t x) {p K : List Nat} {j : Nat} (h : Kept t d p K) (hn : (p ++ [j]).Nodup) (hd : ∀ x ∈ p, d x ≤ d j) : Kept t d (p ++ [j]) (keepS t d K j) := by
  have hnd := List.nodup_append.1 hn
  have hjp : j ∉ p := fun hj => hnd.2.2 j hj j (by simp) rfl
  have hKn : K.Nodup := hnd.1.sublist h.sub
  have hjK : j ∉ K := fun hj => hjp (h.sub.subset hj)
  have hs1 : (K ++ [j]).Sublist (p ++ [j]) := h.sub.append (List.Sublist.refl _)
  have hn1 : (K ++ [j]).Nodup := hn.sublist hs1
  have hsum : sumL t (K ++ [j]) = sumL t K + t j := by rw [sumL_append, sumL, sumL]; omega
  rcases keepS_is (t := t) (d := d) hn1 with ⟨hle, e⟩ | ⟨hgt, x, hx, hmax, e⟩
  · rw [e]
    refine ⟨hs1, (allLe_snoc K 0).mpr ⟨h.time, by omega⟩, fun F hF hFt => ?_, fun x hx hxK => ?_⟩
    · obtain ⟨F1, F2, rfl, h1, h2⟩ := List.sublist_append_iff.1 hF
      obtain ⟨G, g1, g2, g3, g4⟩ := h.best F1 h1 ((allLe_append F1 F2 0).mp hFt).1
      rcases sub_one h2 with rfl | rfl
      · exact ⟨G, g1, fun z hz => List.mem_append_left _ (g2 z hz), by simpa using g3, by simpa using g4⟩
      · refine ⟨j :: G, List.nodup_cons.2 ⟨fun hj => hjK (g2 j hj), g1⟩, fun z hz => ?_, by simp [g3], by rw [sumL, sumL_append, sumL, sumL]; omega⟩
        rcases List.mem_cons.1 hz with rfl | hz
        · simp
        · exact List.mem_append_left _ (g2 z hz)
    · have hxp : x ∈ p := by
        rcases List.mem_append.1 hx with h1 | h1
        · exact h1
        · rw [List.mem_singleton.1 h1] at hxK; exact absurd (by simp) hxK
      have := h.out x hxp (fun h1 => hxK (List.mem_append_left _ h1))
      rw [List.filter_append, sumL_append]
      have := sumL_nn ht ([j].filter (fun y => decide (t y ≤ t x)))
      omega
  · rw [e]
    have hxs := sumL_erase (f := t) hx
    have hn2 : ((K ++ [j]).erase x).Nodup := hn1.erase x
    have hsub2 : ((K ++ [j]).erase x).Sublist (p ++ [j]) := List.erase_sublist.trans hs1
    refine ⟨hsub2, ?_, fun F hF hFt => ?_, fun y hy hyK => ?_⟩
    · by_cases hxK : x ∈ K
      · rw [List.erase_append_left _ hxK]
        have h1 := sumL_erase (f := t) hxK
        have h2 := hmax j (by simp)
        obtain ⟨z, hz, h3⟩ := allLe_last (List.ne_nil_of_mem hxK) h.time
        have h4 := hd z (h.sub.subset hz)
        exact (allLe_snoc _ 0).mpr ⟨allLe_sub ht List.erase_sublist 0 0 (Int.le_refl _) h.time, by omega⟩
      · have hxj : x = j := by
          rcases List.mem_append.1 hx with h1 | h1
          · exact absurd h1 hxK
          · exact List.mem_singleton.1 h1
        subst hxj
        rw [List.erase_append_right _ hxK, List.erase_cons_head, List.append_nil]
        exact h.time
    · -- a set of K ++ [j], not more in sum
      obtain ⟨G, g1, g2, g3, g4, g5⟩ : ∃ G : List Nat, G.Nodup ∧ (∀ z ∈ G, z ∈ K ++ [j]) ∧ G.length = F.length ∧ sumL t G ≤ sumL t F ∧ (x ∈ G → ∃ y, y ∈ K ++ [j] ∧ y ∉ G) := by
        obtain ⟨F1, F2, rfl, h1, h2⟩ := List.sublist_append_iff.1 hF
        obtain ⟨G, g1, g2, g3, g4⟩ := h.best F1 h1 ((allLe_append F1 F2 0).mp hFt).1
        rcases sub_one h2 with rfl | rfl
        · exact ⟨G, g1, fun z hz => List.mem_append_left _ (g2 z hz), by simpa using g3, by simpa using g4, fun _ => ⟨j, by simp, fun hj => hjK (g2 j hj)⟩⟩
        · have hjG : j ∉ G := fun hj => hjK (g2 j hj)
          have hF2 := ((allLe_snoc F1 0).mp hFt).2
          refine ⟨j :: G, List.nodup_cons.2 ⟨hjG, g1⟩, fun z hz => ?_, by simp [g3], by rw [sumL, sumL_append, sumL, sumL]; omega, fun _ => ?_⟩
          · rcases List.mem_cons.1 hz with rfl | hz
            · simp
            · exact List.mem_append_left _ (g2 z hz)
          · by_cases hall : ∀ y ∈ K ++ [j], y ∈ j :: G
            · exfalso
              have hp : (K ++ [j]).Perm (j :: G) := (List.perm_ext_iff_of_nodup hn1 (List.nodup_cons.2 ⟨hjG, g1⟩)).2 fun y => ⟨hall y, fun hy => by
                rcases List.mem_cons.1 hy with rfl | hz
                · simp
                · exact List.mem_append_left _ (g2 y hz)⟩
              have := sumL_perm (f := t) hp
              rw [sumL] at this
              omega
            · obtain ⟨y, hy⟩ := Classical.not_forall.1 hall
              exact ⟨y, (Classical.not_imp.1 hy).1, (Classical.not_imp.1 hy).2⟩
      by_cases hxG : x ∈ G
      · obtain ⟨y, hy, hyG⟩ := g5 hxG
        have hyx : y ≠ x := fun e => hyG (e ▸ hxG)
        have h1 := sumL_erase (f := t) hxG
        have h2 := hmax y hy
        refine ⟨y :: G.erase x, List.nodup_cons.2 ⟨fun hm => hyG (List.mem_of_mem_erase hm), g1.erase x⟩, fun z hz => ?_, ?_, by rw [sumL]; omega⟩
        · rcases List.mem_cons.1 hz with rfl | hz
          · exact (hn1.mem_erase_iff).2 ⟨hyx, hy⟩
          · have := (g1.mem_erase_iff).1 hz
            exact (hn1.mem_erase_iff).2 ⟨this.1, g2 z this.2⟩
        · rw [List.length_cons, List.length_erase_of_mem hxG, g3]
          have := List.length_pos_of_mem hxG
          omega
      · exact ⟨G, g1, fun z hz => (hn1.mem_erase_iff).2 ⟨fun e => hxG (e ▸ hz), g2 z hz⟩, g3, g4⟩
    · -- those that are out stay late
      have hall : ∀ v : Int, t x ≤ v → ((K ++ [j]).erase x).filter (fun z => decide (t z ≤ v)) = (K ++ [j]).erase x := fun v hv =>
        filter_all fun z hz => by have := hmax z (List.mem_of_mem_erase hz); simp; omega
      by_cases hyx : y = x
      · subst hyx
        rw [hall _ (Int.le_refl _)]
        have hdy : d y ≤ d j := by
          rcases List.mem_append.1 hx with h1 | h1
          · exact hd y (h.sub.subset h1)
          · rw [List.mem_singleton.1 h1]; exact Int.le_refl _
        omega
      · have hyK1 : y ∉ K ++ [j] := fun hm => hyK ((hn1.mem_erase_iff).2 ⟨hyx, hm⟩)
        have hyp : y ∈ p := by
          rcases List.mem_append.1 hy with h1 | h1
          · exact h1
          · rw [List.mem_singleton.1 h1] at hyK1; exact absurd (by simp) hyK1
        by_cases hxy : t x ≤ t y
        · rw [hall _ hxy]
          have := hd y hyp
          omega
        · have h1 := h.out y hyp (fun hm => hyK1 (List.mem_append_left _ hm))
          have h2 : sumL t (K.filter (fun z => decide (t z ≤ t y))) ≤ sumL t (((K ++ [j]).erase x).filter (fun z => decide (t z ≤ t y))) := by
            have h3 : ((K ++ [j]).erase x).filter (fun z => decide (t z ≤ t y)) = ((K ++ [j]).filter (fun z => decide (t z ≤ t y))).erase x := by
              rw [List.erase_filter]
            rw [h3, List.erase_of_not_mem (fun hm => by have := (List.mem_filter.1 hm).2; simp at this; omega), List.filter_append, sumL_append]
            have := sumL_nn ht ([j].filter (fun z => decide (t z ≤ t y)))
            omega
          omega
theorem kept_all {t d : Nat → Int} (ht : ∀ x, 0 ≤ t x) (l : List Nat) : l.Nodup → l.Pairwise (fun x y => d x ≤ d y) → Kept t d l (keepL t d l) := by
  refine snoc_ind (P := fun l => l.Nodup → l.Pairwise (fun x y => d x ≤ d y) → Kept t d l (keepL t d l)) ?_ ?_ l
  · intro _ _
    exact ⟨List.Sublist.refl _, trivial, fun F hF _ => by rw [List.sublist_nil.1 hF]; exact ⟨[], List.nodup_nil, fun z hz => (by cases hz), rfl, Int.le_refl _⟩, fun x hx => (by cases hx)⟩
  · intro l j ih hn hp
    have h1 := List.nodup_append.1 hn
    have h2 := List.pairwise_append.1 hp
    rw [keepL_snoc]
    exact (ih h1.1 h2.1).step ht hn (fun x hx => h2.2.2 x hx j (by simp))
end Go.Proofs.YtjcbpnffmebihaaGreatDoor
namespace Go.Proofs.YtjcbpnffmebihaaGreatDoor

-- put in its place from the end
def backK (p : Nat → Bool) (l : List Nat) : Nat → Nat
  | 0 => 0
  | k + 1 => if p (l.getD k 0) = true then backK p l k else k + 1
theorem backK_le (p : Nat → Bool) (l : List Nat) : ∀ k, backK p l k ≤ k
  | 0 => Nat.le_refl _
  | k + 1 => by rw [backK]; have := backK_le p l k; split <;> omega
theorem backK_in (p : Nat → Bool) (l : List Nat) : ∀ k m, backK p l k ≤ m → m < k → p (l.getD m 0) = true
  | k + 1, m, h1, h2 => by
    rw [backK] at h1
    split at h1
    · rename_i hp
      rcases Nat.lt_or_eq_of_le (Nat.le_of_lt_succ h2) with h | rfl
      · exact backK_in p l k m h1 h
      · exact hp
    · omega
theorem backK_out (p : Nat → Bool) (l : List Nat) : ∀ k, 0 < backK p l k → p (l.getD (backK p l k - 1) 0) = false
  | 0, h => by simp [backK] at h
  | k + 1, h => by
    rw [backK] at h ⊢
    split at h
    · rename_i hp; rw [if_pos hp]; exact backK_out p l k h
    · rename_i hp; rw [if_neg hp]; simpa using hp
/-- the place is told by what holds at it -/
theorem backK_is {p : Nat → Bool} {l : List Nat} : ∀ {n k : Nat}, k ≤ n → (∀ m, k ≤ m → m < n → p (l.getD m 0) = true) → (0 < k → p (l.getD (k - 1) 0) = false) → backK p l n = k
  | 0, k, hk, _, _ => by rw [backK]; omega
  | n + 1, k, hk, h1, h2 => by
    rw [backK]
    rcases Nat.lt_or_eq_of_le hk with h | rfl
    · rw [if_pos (h1 n (by omega) (by omega))]
      exact backK_is (by omega) (fun m hm hm2 => h1 m hm (by omega)) h2
    · rw [if_neg (by have := h2 (by omega); simp at this ⊢; exact this)]
def insE (ah : Nat → Nat → Bool) (x : Nat) (l : List Nat) : List Nat := l.take (backK (ah x) l l.length) ++ [x] ++ l.drop (backK (ah x) l l.length)
theorem insE_perm (ah : Nat → Nat → Bool) (x : Nat) (l : List Nat) : (insE ah x l).Perm (x :: l) := by
  unfold insE
  generalize backK (ah x) l l.length = k
  have h : (l.take k ++ [x] ++ l.drop k).Perm ([x] ++ l.take k ++ l.drop k) := (List.perm_append_comm (l₁ := l.take k) (l₂ := [x])).append_right _
  refine h.trans ?_
  rw [List.append_assoc, List.take_append_drop]
  exact .refl _
def sortE (ah : Nat → Nat → Bool) : Nat → List Nat
  | 0 => []
  | n + 1 => insE ah n (sortE ah n)
theorem sortE_perm (ah : Nat → Nat → Bool) : ∀ n, (sortE ah n).Perm (List.range n)
  | 0 => .refl _
  | n + 1 => by
    rw [List.range_succ]
    exact (insE_perm ah n _).trans (((sortE_perm ah n).cons n).trans (List.perm_append_singleton n _).symm)
theorem sortE_len (ah : Nat → Nat → Bool) (n : Nat) : (sortE ah n).length = n := by have := (sortE_perm ah n).length_eq; simpa using this
theorem sortE_mem {ah : Nat → Nat → Bool} {n x : Nat} : x ∈ sortE ah n ↔ x < n := by rw [(sortE_perm ah n).mem_iff, List.mem_range]
theorem sortE_nodup (ah : Nat → Nat → Bool) (n : Nat) : (sortE ah n).Nodup := (sortE_perm ah n).symm.nodup List.nodup_range
theorem getD_mem {l : List Nat} {k : Nat} (h : k < l.length) : l.getD k 0 ∈ l := by
  rw [List.getD_eq_getElem?_getD, List.getElem?_eq_getElem h]; exact List.getElem_mem h
theorem insE_sorted {ah : Nat → Nat → Bool} {N x : Nat} (hx : x < N) (ht : ∀ i j k, i < N → j < N → k < N → ah j i = false → ah k j = false → ah k i = false) (hs : ∀ i k, ah i k = true → ah k i = false) {l : List Nat} (hl : ∀ y ∈ l, y < N) (hp : l.Pairwise (fun i k => ah k i = false)) : (insE ah x l).Pairwise (fun i k => ah k i = false) := by
  unfold insE
  have h1 := backK_le (ah x) l l.length
  have h2 := backK_in (ah x) l l.length
  have h3 := backK_out (ah x) l l.length
  generalize backK (ah x) l l.length = k at h1 h2 h3
  have hd : ∀ y ∈ l.drop k, ah y x = false := fun y hy => by
    obtain ⟨i, hi, rfl⟩ := List.getElem_of_mem hy
    rw [List.length_drop] at hi
    have := h2 (k + i) (by omega) (by omega)
    rw [List.getD_eq_getElem?_getD, List.getElem?_eq_getElem (by omega)] at this
    rw [List.getElem_drop]
    exact hs _ _ (by simpa using this)
  have htk : ∀ y ∈ l.take k, ah x y = false := fun y hy => by
    obtain ⟨i, hi, rfl⟩ := List.getElem_of_mem hy
    rw [List.length_take] at hi
    rw [List.getElem_take]
    have h4 := h3 (by omega)
    rw [List.getD_eq_getElem?_getD, List.getElem?_eq_getElem (by omega)] at h4
    simp only [Option.getD_some] at h4
    rcases Nat.lt_or_eq_of_le (show i ≤ k - 1 by omega) with h | h
    · have := List.pairwise_iff_getElem.1 hp i (k - 1) (by omega) (by omega) h
      exact ht _ _ _ (hl _ (List.getElem_mem _)) (hl _ (List.getElem_mem _)) hx this h4
    · subst h; exact h4
  rw [List.append_assoc]
  refine List.pairwise_append.2 ⟨hp.sublist (List.take_sublist _ _), ?_, fun y hy z hz => ?_⟩
  · exact List.pairwise_cons.2 ⟨hd, hp.sublist (List.drop_sublist _ _)⟩
  · rcases List.mem_cons.1 hz with rfl | hz
    · exact htk y hy
    · have := List.pairwise_append.1 (show (l.take k ++ l.drop k).Pairwise _ by rw [List.take_append_drop]; exact hp)
      exact this.2.2 y hy z hz
theorem sortE_sorted {ah : Nat → Nat → Bool} {N : Nat} (ht : ∀ i j k, i < N → j < N → k < N → ah j i = false → ah k j = false → ah k i = false) (hs : ∀ i k, ah i k = true → ah k i = false) : ∀ n, n ≤ N → (sortE ah n).Pairwise (fun i k => ah k i = false)
  | 0, _ => List.Pairwise.nil
  | n + 1, h => insE_sorted (by omega) ht hs (fun y hy => by have := sortE_mem.1 hy; omega) (sortE_sorted ht hs n (by omega))
-- both rules
def ahD (d : Nat → Int) (i k : Nat) : Bool := decide (d i < d k)
theorem ahD_trans {d : Nat → Int} {i j k : Nat} (h : ahD d j i = false) (g : ahD d k j = false) : ahD d k i = false := by
  simp only [ahD, decide_eq_false_iff_not] at h g ⊢; omega
theorem ahD_asymm {d : Nat → Int} {i k : Nat} (h : ahD d i k = true) : ahD d k i = false := by
  simp only [ahD, decide_eq_true_eq, decide_eq_false_iff_not] at h ⊢; omega
theorem sortD (d : Nat → Int) (n : Nat) : (sortE (ahD d) n).Pairwise (fun x y => d x ≤ d y) := by
  refine (sortE_sorted (ah := ahD d) (N := n) (fun i j k _ _ _ => ahD_trans) (fun i k => ahD_asymm) n (Nat.le_refl _)).imp (fun {x y} h => ?_)
  simp only [ahD, decide_eq_false_iff_not, Int.not_lt] at h; exact h
end Go.Proofs.YtjcbpnffmebihaaGreatDoor
