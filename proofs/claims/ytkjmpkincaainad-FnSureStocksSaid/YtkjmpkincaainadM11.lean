import Derived.Test.YtkjmpkincaainadRows
import Derived.WalkKit
import Derived.LoopTactic
import Derived.Outline
import Derived.WalkSpells
import Derived.WalkLawsBesides
import Derived.ProofKit
import Derived.Lib.Hide
import Derived.IntWalk
import Derived.Deep.QuietTactic
import Derived.BigQuiet
import Derived.Shelf.RegionOpenPlain
import Derived.Test.YtkjmpkincaainadM0
import Derived.Test.YtkjmpkincaainadM1
import Derived.Test.YtkjmpkincaainadM8
import Derived.Test.YtkjmpkincaainadM10
import Derived.Test.YtkjmpkincaainadM3
import Derived.Test.YtkjmpkincaainadM2
import Derived.Test.YtkjmpkincaainadM9
import Derived.Maps.RangeWalk
import Derived.Carry
namespace Go.Proofs.Ytkjmpkincaainad
open Go.RowKit Go.WideShapes

theorem upTo8 (S : Nat → Prop) (a : Option Addr) (len cap : Nat) (xs : List Int) (lim : Int) (w : World) (h : IntsAt w S a len xs) {b : Bool} (hb : allIn 0 lim xs = b) :
    Calls Try.prog 43 #[.slice a len cap, .int .i64 lim] w fun e w' => e = .returned (.bool b) ∧ w' = w := by
  subst hb; exact (allUpTo_any S a len cap xs lim w h).mono fun _ _ h => ⟨h.1, h.2.symm⟩
theorem isUp8 (n hi : Int) (w : World) {b : Bool} (hb : inB 0 hi n = b) : Calls Try.prog 24 #[.int .i64 n, .int .i64 hi] w fun e w' => e = .returned (.bool b) ∧ w' = w := by
  subst hb; exact (isUpTo_any n hi w).mono fun _ _ h => ⟨h.1, h.2.symm⟩
theorem allIn_two {lo hi : Int} {r : List Int} {x y : Int} (h0 : r[0]? = some x) (h1 : r[1]? = some y) : allIn lo hi (r.take 2) = (inB lo hi x && inB lo hi y) := by
  rw [take_get (k := 1) h1, take_get (k := 0) h0]
  simp [allIn]
theorem ints_take8 {w : World} {S : Nat → Prop} {a : Option Addr} {len : Nat} {xs : List Int} (h : IntsAt w S a len xs) {k : Nat} (hk : k ≤ len) : IntsAt w S a k (xs.take k) := by
  have hl := h.lenEq
  have hs := h.small
  refine ⟨by simp; omega, by omega, fun h0 => ?_⟩
  obtain ⟨b, off, ha, hs, hc⟩ := h.cells (by omega)
  refine ⟨b, off, ha, hs, fun i x hx => hc i x ?_⟩
  rw [List.getElem?_take] at hx
  split at hx
  · exact hx
  · cases hx
set_option maxRecDepth 100000 in
set_option maxHeartbeats 2000000 in
theorem isWay_any (S : Nat → Prop) (a : Option Addr) (l c : Nat) (r : List Int) (n : Nat) (w : World) (h : IntsAt w S a l r) (hlc : l ≤ c) (hn : n ≤ 1000) :
    Calls Try.prog 56 #[.slice a l c, .int .i64 n] w fun e w' => e = .returned (.bool (wayB n r)) ∧ w' = w := by
  have hs := h.small
  have HL := Lib.hid h.lenEq
  by_cases hl3 : l = 3
  · subst hl3
    have HT2 := Lib.hid (ints_take8 h (k := 2) (by omega))
    obtain ⟨b, off, x, rfl, hx, hd⟩ := h.get (k := 0) (by omega)
    obtain ⟨b2, off2, y, e2, hy, hd2⟩ := h.get (k := 1) (by omega)
    cases e2
    obtain ⟨b3, off3, z, e3, hz, hd3⟩ := h.get (k := 2) (by omega)
    cases e3
    have HWB : Hid (wayB n r = (inB 0 ((n : Int) - 1) x && (inB 0 ((n : Int) - 1) y && inB 0 3 z))) := Lib.hid (by unfold wayB; rw [HL.out, getD_of hx, getD_of hy, getD_of hz]; rfl)
    have HA := Lib.hid (allIn_two (lo := 0) (hi := (n : Int) - 1) hx hy)
    clear hx hy hz
    have hc2 : 2 ≤ c := by omega
    cases h1 : allIn 0 ((n : Int) - 1) (r.take 2)
    · have C1 := Lib.hid (fun w' (hw : IntsAt w' S (some ⟨b, off, none⟩) 2 (r.take 2)) => upTo8 S _ 2 c _ _ w' hw h1)
      have HF : Hid (wayB n r = false) := Lib.hid (by rw [HWB.out, ← Bool.and_assoc, ← HA.out, h1]; rfl)
      clear h
      go_enter Try.func56, Try.ntmps56
      go_wp2_with fail
      refine (C1.out w HT2.out).mono ?_
      rintro e w' ⟨rfl, rfl⟩
      go_wp2_with fail
      go_ret
      exact ⟨ret_bool HF.out.symm, rfl⟩
    · have C1 := Lib.hid (fun w' (hw : IntsAt w' S (some ⟨b, off, none⟩) 2 (r.take 2)) => upTo8 S _ 2 c _ _ w' hw h1)
      have HF : Hid (wayB n r = inB 0 3 z) := Lib.hid (by rw [HWB.out, ← Bool.and_assoc, ← HA.out, h1]; rfl)
      clear h
      go_enter Try.func56, Try.ntmps56
      go_wp2_with fail
      refine (C1.out w HT2.out).mono ?_
      rintro e w' ⟨rfl, rfl⟩
      go_wp2_with fail
      refine (isUp8 z 3 w' rfl).mono ?_
      rintro e w' ⟨rfl, rfl⟩
      go_wp2_with fail
      go_ret
      exact ⟨ret_bool HF.out.symm, rfl⟩
  · have hle : ((l : Int) == 3) = false := by simp; omega
    have HF : Hid (wayB n r = false) := Lib.hid (by unfold wayB; rw [HL.out, beq_eq_false_iff_ne.2 hl3]; rfl)
    clear h
    go_enter Try.func56, Try.ntmps56
    go_wp2_with fail
    go_ret
    exact ⟨ret_bool HF.out.symm, rfl⟩
set_option maxRecDepth 100000 in
set_option maxHeartbeats 4000000 in
theorem validNet_impl (d : NV) (ts : List Int) (rows : List (List Int)) (w : World) (h : NetAt w (· < w.heap.size) d ts rows) :
    Calls Try.prog 47 #[.agg #[.slice d.aT d.lT d.cT, .slice d.aW d.lW d.cW]] w (valN w (.bool (tokM ts rows))) := by
  obtain ⟨aT, lT, cT, aW, lW, cW⟩ := d
  obtain ⟨ht, hr, hct, hcw⟩ := h
  dsimp only at ht hr hct hcw ⊢
  have hst := ht.small
  have hsw := hr.small
  have HTL := Lib.hid ht.lenEq
  have HWL := Lib.hid hr.lenEq
  have HH := Lib.hid (show ∀ w', Below w.heap.size w w' → IntsAt w' (· < w.heap.size) aT lT ts ∧ RowsAt w' (· < w.heap.size) aW lW rows from fun w' hb => ⟨ht.below hb, hr.below hb⟩)
  clear ht hr
  have hb0 := (Below.refl w.heap.size w).alloc (Nat.le_refl _) (.cells #[.slice aT lT cT, .slice aW lW cW] 26)
  have hn0 := netB_new w aT lT cT aW lW cW 26
  by_cases h4 : lT ≤ 4
  · have h4I : ¬ 4 < (lT : Int) := by omega
    cases hq : allIn 0 9 ts
    · have HF := Lib.hid (tok_time_false (rows := rows) hq)
      go_enter Try.func47, Try.ntmps47
      go_wp2_with fail
      refine (upTo8 (· < w.heap.size) aT lT cT ts 9 _ (HH.out _ hb0).1 hq).mono ?_
      rintro e w' ⟨rfl, rfl⟩
      go_wp2_with fail
      go_ret
      exact ⟨ret_bool HF.out.symm, hb0⟩
    · have HQ9 := Lib.hid hq
      by_cases h7 : lW ≤ 7
      · have h7I : ¬ 7 < (lW : Int) := by omega
        go_enter Try.func47, Try.ntmps47
        go_wp2_with fail
        refine (upTo8 (· < w.heap.size) aT lT cT ts 9 _ (HH.out _ hb0).1 hq).mono ?_
        rintro e w' ⟨rfl, rfl⟩
        go_wp2_with fail
        go_loopw [24] (fun i wr => ∃ q : Nat, q ≤ lW ∧ i = .int .i64 q ∧ (rows.take q).all (wayB lT) = true ∧ Below w.heap.size w wr ∧ NetB wr w.heap.size ⟨aT, lT, cT, aW, lW, cW⟩) (fun i _ => lW - (intOf i).toNat)
        case atStart => exact ⟨0, Nat.zero_le _, rfl, rfl, hb0, hn0⟩
        case round =>
          clear hb0 hn0
          obtain ⟨q, hq, rfl, ha, hb, hn⟩ := hrel
          obtain ⟨wo, rfl⟩ : ∃ wo : World, wo = wr := ⟨_, rfl⟩
          obtain ⟨n0, n1⟩ := id hn
          have HB := Lib.hid hb
          have HN := Lib.hid hn
          have HA := Lib.hid ha
          clear hb hn ha
          dsimp only at n0 n1
          by_cases hlq : q < lW
          · obtain ⟨b, off, r, a', l, c, rfl, hx, hc, hlc, hri⟩ := (HH.out wo HB.out).2.get hlq
            have HX := Lib.hid hx
            have HC := Lib.hid (isWay_any _ a' l c r lT wo hri hlc (by omega))
            have hqI : (q : Int) < (lW : Int) := by omega
            clear hx hri
            cases hwb : wayB lT r
            · rw [hwb] at HC
              go_wp2_with fail
              refine HC.out.mono ?_
              rintro e w' ⟨rfl, rfl⟩
              go_wp2_with fail
              go_ret
              exact ⟨ret_bool (tok_way_false (ts := ts) HX.out (by rw [HTL.out]; exact hwb)).symm, HB.out⟩
            · rw [hwb] at HC
              go_wp2_with fail
              refine HC.out.mono ?_
              rintro e w' ⟨rfl, rfl⟩
              go_wp2_with fail
              go_roundw
              case rel => exact ⟨q + 1, by omega, by go_num, by rw [take_get HX.out, List.all_append, HA.out]; simp only [List.all_cons, List.all_nil, Bool.and_true, Bool.true_and]; exact hwb, HB.out, HN.out⟩
              case measure => simp [intOf]; omega
          · obtain rfl : q = lW := by omega
            have HA8 : Hid (rows.all (wayB lT) = true) := Lib.hid (by have := HA.out; rwa [List.take_of_length_le (by rw [HWL.out]; omega)] at this)
            have HM : Hid (tokM ts rows = true) := Lib.hid (by unfold tokM; rw [HTL.out, HWL.out, HA8.out, HQ9.out]; simp [h4, h7])
            have hqI : ¬ (q : Int) < (q : Int) := by omega
            go_wp2_with fail
            go_ret
            exact ⟨ret_bool HM.out.symm, HB.out⟩
      · have h7I : 7 < (lW : Int) := by omega
        have HF : Hid (tokM ts rows = false) := Lib.hid (by unfold tokM; rw [HWL.out]; simp [h7])
        go_enter Try.func47, Try.ntmps47
        go_wp2_with fail
        refine (upTo8 (· < w.heap.size) aT lT cT ts 9 _ (HH.out _ hb0).1 hq).mono ?_
        rintro e w' ⟨rfl, rfl⟩
        go_wp2_with fail
        go_ret
        exact ⟨ret_bool HF.out.symm, hb0⟩
  · have h4I : 4 < (lT : Int) := by omega
    have HF : Hid (tokM ts rows = false) := Lib.hid (by unfold tokM; rw [HTL.out]; simp [h4])
    go_enter Try.func47, Try.ntmps47
    go_wp2_with fail
    go_ret
    exact ⟨ret_bool HF.out.symm, hb0⟩
end Go.Proofs.Ytkjmpkincaainad
namespace Go.Proofs.Ytkjmpkincaainad
open Go.RowKit Go.WideShapes

/-- what it costs to set for so many -/
def setM (n s : Int) : Int := if n = 0 then 0 else s
theorem areCosts_any (s h : Int) (w : World) :
    Calls Try.prog 37 #[.int .i64 s, .int .i64 h] w fun e w' => e = .returned (.bool (inB 0 30 s && inB 0 30 h)) ∧ w = w' := by
  cases hs : inB 0 30 s
  · go_enter Try.func37, Try.ntmps37
    go_wp2_with (go_at_call 24; refine (isUpTo_any _ _ _).mono ?_; rintro e w' ⟨rfl, rfl⟩)
    go_ret
    exact ⟨rfl, rfl⟩
  · go_enter Try.func37, Try.ntmps37
    go_wp2_with (go_at_call 24; refine (isUpTo_any _ _ _).mono ?_; rintro e w' ⟨rfl, rfl⟩)
    go_ret
    exact ⟨rfl, rfl⟩
theorem setM_pos {n s : Int} (h : 0 ≤ n) : setM n s = if 0 < n then s else 0 := by
  unfold setM
  by_cases e : n = 0
  · subst e; rfl
  · rw [if_neg e, if_pos (by omega)]
theorem runD_part {xs : List Int} {s h : Int} {i d : Nat} (hd : i + d ≤ xs.length) : runD ((xs.drop i).take d) s h 0 d = runD xs s h i d := by
  have e1 : ∀ q, q ≤ d → hsum ((xs.drop i).take d) 0 q = hsum xs i q := by
    intro q
    induction q with
    | zero => intro _; rfl
    | succ q ih =>
      intro hq
      rw [hsum, hsum, ih (by omega)]
      congr 2
      rw [List.getD_eq_getElem?_getD, List.getD_eq_getElem?_getD, List.getElem?_take, if_pos (by omega), List.getElem?_drop]
      congr 2; omega
  have e2 := totalM_part xs i d hd
  rw [totalM_eq] at e2
  have e3 : ((xs.drop i).take d).length = d := by simp; omega
  rw [e3] at e2
  unfold runD
  rw [e1 d (Nat.le_refl _), Nat.zero_add, e2]
  simp [sumN]
theorem plan_parts (ms xs : List Int) (s h : Int) : ∀ n, planTo ms xs s h n = h * sumN (tab (fun q => stockTo ms xs 0 (q + 1)) n) n + sumN (tab (fun q => if 0 < ms.getD q 0 then s else 0) n) n := by
  intro n
  induction n with
  | zero => simp [planTo, sumN]
  | succ n ih =>
    rw [planTo, ih, sumN, sumN, tab_getD _ (by omega), tab_getD _ (by omega), sumN_tab _ (n + 1) n (by omega), sumN_tab _ (n + 1) n (by omega), Int.mul_add, dayC, stockTo_closed, show (0 : Int) + sumN ms (n + 1) - sumN xs (n + 1) = sumN ms (n + 1) - sumN xs (n + 1) by omega]
    omega
def setTo (ms : List Int) (s : Int) (k : Nat) : Int := sumN (tab (fun q => if 0 < ms.getD q 0 then s else 0) k) k
theorem setTo_succ (ms : List Int) (s : Int) (k : Nat) : setTo ms s (k + 1) = setTo ms s k + (if 0 < ms.getD k 0 then s else 0) := by
  unfold setTo; rw [sumN, tab_getD _ (by omega), sumN_tab _ (k + 1) k (by omega)]
theorem setTo_bd {ms : List Int} {s : Int} (hs : 0 ≤ s ∧ s ≤ 30) : ∀ k, 0 ≤ setTo ms s k ∧ setTo ms s k ≤ 30 * (k : Int) := by
  intro k
  induction k with
  | zero => exact ⟨Int.le_refl _, Int.le_refl _⟩
  | succ k ih => rw [setTo_succ]; split <;> push_cast <;> omega
end Go.Proofs.Ytkjmpkincaainad
namespace Go.Proofs.Ytkjmpkincaainad
open Go.RowKit Go.Maps

/-- block's map: for each v below K the number g v, where that is above 0; nothing else -/
def MapIs (D : DataW Unit) (g : Nat → Int) (K : Nat) : Prop :=
  IsMap D ∧ (∀ v : Nat, v < K → has D (.int .i64 v) = decide (0 < g v)) ∧ (∀ v : Nat, v < K → 0 < g v → ∀ zd, D.atKey (.int .i64 v) zd = .lit (.int .i64 (g v))) ∧ ∀ kl, has D kl = true → ∃ v : Nat, v < K ∧ kl = .int .i64 v
theorem key_ne {a b : Nat} (h : a ≠ b) : (Lit.int .i64 (a : Int)) ≠ .int .i64 (b : Int) := fun e => by injection e with _ e; omega
theorem keyI (v : Int) : WideAt.IsKeyLit (.int .i64 v) := trivial
theorem key_same (a b : Nat) : (Lit.int .i64 (a : Int)).sameKey (.int .i64 (b : Int)) = decide (a = b) := by
  by_cases h : a = b
  · subst h; rw [WideAt.sameKey_self (keyI _)]; simp
  · rw [sameKey_ne (key_ne h)]; simp [h]
theorem mapIs_none (K : Nat) : MapIs (.map []) (fun _ => 0) K :=
  ⟨isMap_empty, fun v _ => rfl, fun v _ h => absurd h (by simp), fun kl h => by cases h⟩
theorem MapIs.skip {D : DataW Unit} {g : Nat → Int} {k K : Nat} (h : MapIs D g k) (hg : ∀ v, k ≤ v → g v ≤ 0) (hK : k ≤ K) : MapIs D g K := by
  obtain ⟨h1, h2, h3, h4⟩ := h
  refine ⟨h1, fun v hv => ?_, fun v hv hp => ?_, fun kl hk => ?_⟩
  · rcases Nat.lt_or_ge v k with g1 | g1
    · exact h2 v g1
    · have e : decide (0 < g v) = false := decide_eq_false (by have := hg v g1; omega)
      rw [e]
      cases hh : has D (.int .i64 v)
      · rfl
      · obtain ⟨u, hu, e⟩ := h4 _ hh
        injection e with _ e
        omega
  · rcases Nat.lt_or_ge v k with g1 | g1
    · exact h3 v g1 hp
    · have := hg v g1; omega
  · obtain ⟨v, hv, e⟩ := h4 kl hk
    exact ⟨v, by omega, e⟩
theorem MapIs.put {D : DataW Unit} {g : Nat → Int} {K k : Nat} (h : MapIs D g K) (hk : k < K) {x : Int} (hx : 0 < x) : MapIs (D.put (.int .i64 (k : Int)) (.lit (.int .i64 x))) (fun v => if v = k then x else g v) K := by
  obtain ⟨h1, h2, h3, h4⟩ := h
  refine ⟨h1.put _ _, fun v hv => ?_, fun v hv hp => ?_, fun kl hkl => ?_⟩ <;> try dsimp only at *
  · by_cases e : v = k
    · subst e; rw [has_put_same h1 (keyI _)]; simp [hx]
    · rw [has_put_other (key_ne e), h2 v hv]; simp [e]
  · by_cases e : v = k
    · subst e; rw [if_pos rfl]; exact fun zd => atKey_put_same h1 (keyI _) _ _
    · rw [if_neg e] at hp ⊢; intro zd; rw [atKey_put_other (key_ne e)]; exact h3 v hv hp zd
  · by_cases e : kl = .int .i64 (k : Int)
    · exact ⟨k, hk, e⟩
    · rw [has_put_other e] at hkl; exact h4 kl hkl
theorem MapIs.del {D : DataW Unit} {g : Nat → Int} {K : Nat} (h : MapIs D g K) (k : Nat) : MapIs (D.del (.int .i64 (k : Int))) (fun v => if v = k then 0 else g v) K := by
  obtain ⟨h1, h2, h3, h4⟩ := h
  refine ⟨h1.del _, fun v hv => ?_, fun v hv hp => ?_, fun kl hkl => ?_⟩ <;> try dsimp only at *
  · by_cases e : v = k
    · subst e; rw [has_del_same]; simp
    · rw [has_del_other (key_ne e), h2 v hv]; simp [e]
  · by_cases e : v = k
    · subst e; rw [if_pos rfl] at hp; omega
    · rw [if_neg e] at hp ⊢; intro zd; rw [atKey_del_other (key_ne e)]; exact h3 v hv hp zd
  · by_cases e : kl = .int .i64 (k : Int)
    · subst e; rw [has_del_same] at hkl; cases hkl
    · rw [has_del_other e] at hkl; exact h4 kl hkl
theorem MapIs.congr {D : DataW Unit} {g g' : Nat → Int} {K : Nat} (h : MapIs D g K) (e : ∀ v, g v = g' v) : MapIs D g' K := by
  have : g = g' := funext e
  rwa [← this]

def sumF (f : Nat → Int) : Nat → Int
  | 0 => 0
  | k + 1 => sumF f k + f k
/-- of those that have come -/
def cameF (f : Nat → Int) (left : Lit → Bool) : Nat → Int
  | 0 => 0
  | k + 1 => cameF f left k + if left (.int .i64 (k : Int)) then 0 else f k
theorem sumN_F (xs : List Int) : ∀ k, sumN xs k = sumF (fun v => xs.getD v 0) k
  | 0 => rfl
  | k + 1 => by rw [sumN, sumF, sumN_F xs k]
theorem costK_F (xs : List Int) (s : Nat) (o u : Int) : ∀ k, costK xs s o u k = sumF (fun v => xs.getD v 0 * unitC s v o u) k
  | 0 => rfl
  | k + 1 => by rw [costK, sumF, costK_F xs s o u k]
theorem sumF_congr {f f' : Nat → Int} : ∀ {k : Nat}, (∀ v, v < k → f v = f' v) → sumF f k = sumF f' k
  | 0, _ => rfl
  | k + 1, h => by rw [sumF, sumF, sumF_congr (fun v hv => h v (by omega)), h k (by omega)]
theorem came_start {f : Nat → Int} {left : Lit → Bool} : ∀ {K : Nat}, (∀ v : Nat, v < K → left (.int .i64 (v : Int)) = false → f v = 0) → cameF f left K = 0
  | 0, _ => rfl
  | k + 1, h => by
    rw [cameF, came_start (fun v hv => h v (by omega))]
    cases e : left (.int .i64 (k : Int))
    · simp [h k (by omega) e]
    · simp
theorem came_end {f : Nat → Int} {left : Lit → Bool} (h : ∀ kl, left kl = false) : ∀ K, cameF f left K = sumF f K
  | 0 => rfl
  | k + 1 => by rw [cameF, sumF, came_end h k, h]; simp
theorem came_miss {f : Nat → Int} {left : Lit → Bool} {j : Nat} : ∀ {K : Nat}, K ≤ j → cameF f (fun z => left z && !z.sameKey (.int .i64 (j : Int))) K = cameF f left K
  | 0, _ => rfl
  | k + 1, h => by
    rw [cameF, cameF, came_miss (by omega)]
    simp only [key_same, show ¬ k = j by omega, decide_false, Bool.not_false, Bool.and_true]
theorem came_step {f : Nat → Int} {left : Lit → Bool} {j : Nat} (hj : left (.int .i64 (j : Int)) = true) : ∀ {K : Nat}, j < K → cameF f (fun z => left z && !z.sameKey (.int .i64 (j : Int))) K = cameF f left K + f j
  | 0, h => by omega
  | k + 1, h => by
    rw [cameF, cameF]
    by_cases e : k = j
    · subst e
      rw [came_miss (Nat.le_refl _)]
      simp [key_same, hj]
    · rw [came_step hj (by omega)]
      simp only [key_same, e, decide_false, Bool.not_false, Bool.and_true]
      omega
theorem came_bd {f : Nat → Int} {left : Lit → Bool} {B : Int} (hB : 0 ≤ B) : ∀ {K : Nat}, (∀ v : Nat, v < K → 0 ≤ f v ∧ f v ≤ B) → 0 ≤ cameF f left K ∧ cameF f left K ≤ B * (K : Int)
  | 0, _ => by simp [cameF]
  | k + 1, h => by
    have ih := came_bd (left := left) hB (fun v (hv : v < k) => h v (by omega))
    have := h k (by omega)
    rw [cameF, show B * ((k + 1 : Nat) : Int) = B * (k : Int) + B by push_cast; rw [Int.mul_add, Int.mul_one]]
    split <;> omega
theorem strike_le {left : Lit → Bool} {D : DataW Unit} (h : ∀ kl, left kl = true → has D kl = true) (kl' : Lit) : ∀ kl, (fun z : Lit => left z && !z.sameKey kl') kl = true → has D kl = true := fun kl e => by
  simp only [Bool.and_eq_true] at e
  exact h kl e.1
/-- the entry that has come: its key and its number -/
theorem MapIs.came {D : DataW Unit} {g : Nat → Int} {K : Nat} (h : MapIs D g K) {left : Lit → Bool} (hl : ∀ kl, left kl = true → has D kl = true) {x c : Int} (hx : left (.int .i64 x) = true) (hat : ∀ zd, D.atKey (.int .i64 x) zd = .lit (.int .i64 c)) :
    ∃ v : Nat, v < K ∧ x = (v : Int) ∧ c = g v ∧ 0 < g v := by
  obtain ⟨v, hv, e⟩ := h.2.2.2 _ (hl _ hx)
  injection e with _ e
  subst e
  have h0 := h.2.1 v hv
  rw [hl _ hx] at h0
  have hp := of_decide_eq_true h0.symm
  have := h.2.2.1 v hv hp .nil
  rw [hat .nil] at this
  injection this with this
  injection this with _ this
  exact ⟨v, hv, rfl, this, hp⟩
/-- the weights from k on -/
def dropG (xs : List Int) (k : Nat) (v : Nat) : Int := if v < k then 0 else xs.getD v 0
theorem dropF_sum (xs : List Int) (k : Nat) : ∀ K, sumF (dropG xs k) K = sumN xs K - sumN xs (min k K)
  | 0 => by simp [sumF, sumN]
  | K + 1 => by
    rw [sumF, dropF_sum xs k K, sumN]
    unfold dropG
    rcases Nat.lt_or_ge K k with h | h
    · rw [if_pos h, Nat.min_eq_right (show K ≤ k by omega), Nat.min_eq_right (show K + 1 ≤ k by omega), sumN]; omega
    · rw [if_neg (by omega), Nat.min_eq_left (show k ≤ K by omega), Nat.min_eq_left (show k ≤ K + 1 by omega)]; omega
theorem drop_sum (xs : List Int) (k : Nat) : sumF (dropG xs k) xs.length = sumN xs xs.length - sumN xs k := by
  rw [dropF_sum]
  rcases Nat.lt_or_ge k xs.length with h | h
  · rw [Nat.min_eq_left (by omega)]
  · rw [Nat.min_eq_right h, sumN_past xs h]
theorem drop_0 (xs : List Int) (v : Nat) : dropG xs 0 v = xs.getD v 0 := by unfold dropG; rw [if_neg (by omega)]
theorem drop_next (xs : List Int) (k v : Nat) : (if v = k then 0 else dropG xs k v) = dropG xs (k + 1) v := by
  unfold dropG
  by_cases e : v = k
  · subst e; rw [if_pos rfl, if_pos (by omega)]
  · rw [if_neg e]
    by_cases h : v < k
    · rw [if_pos h, if_pos (by omega)]
    · rw [if_neg h, if_neg (by omega)]
theorem drop_9 {xs : List Int} (h : ∀ k, 0 ≤ xs.getD k 0 ∧ xs.getD k 0 ≤ 9) (k v : Nat) : 0 ≤ dropG xs k v ∧ dropG xs k v ≤ 9 := by
  have := h v
  unfold dropG
  split <;> omega
end Go.Proofs.Ytkjmpkincaainad
namespace Go.Proofs.Ytkjmpkincaainad
open Go.RowKit Go.WideShapes Go.Maps

theorem grown_of_belowS {w w' : World} (h : Below w.heap.size w w') : w.grownBy w' none := ⟨h.os, h.tape, h.output, h.size, fun b hb _ => h.block b hb⟩
theorem upTo_mem {xs : List Int} (h : allIn 0 9 xs = true) : ∀ x ∈ xs, -1099511627776 ≤ x ∧ x ≤ 1099511627776 := fun x hx => by
  have := List.all_eq_true.1 h x hx
  simp [inB] at this
  omega
theorem fromOne10 (n hi : Int) (w : World) {b : Bool} (hb : inB 1 hi n = b) :
    Calls Try.prog 42 #[.int .i64 n, .int .i64 hi] w fun e w' => e = .returned (.bool b) ∧ w' = w := by
  subst hb
  by_cases h1 : 1 ≤ n
  · by_cases h2 : n ≤ hi
    · go_enter Try.func42, Try.ntmps42
      go_wp2
      go_ret
      exact ⟨ret_bool (inB_true h1 h2).symm, rfl⟩
    · go_enter Try.func42, Try.ntmps42
      go_wp2
      go_ret
      exact ⟨ret_bool (inB_hi (by omega)).symm, rfl⟩
  · go_enter Try.func42, Try.ntmps42
    go_wp2
    go_ret
    exact ⟨ret_bool (inB_lo (by omega)).symm, rfl⟩
set_option maxRecDepth 100000 in
set_option maxHeartbeats 2000000 in
theorem validChances_impl (S : Nat → Prop) (a : Option Addr) (len cap : Nat) (xs : List Int) (w : World) (h : IntsAt w S a len xs) :
    Calls Try.prog 17 #[.slice a len cap] w fun e w' => e = .returned (.bool (chM xs)) ∧ w = w' := by
  have hs := h.small
  have HL := Lib.hid h.lenEq
  cases h1 : inB 1 7 (len : Int)
  · have e : chM xs = false := by unfold chM; simp [inB] at h1; rw [HL.out]; simp; omega
    rw [e]
    go_enter Try.func17, Try.ntmps17
    go_wp2_with (go_at_call 42; refine (fromOne10 _ _ _ h1).mono ?_; rintro e w' ⟨rfl, rfl⟩)
    go_ret
    exact ⟨rfl, rfl⟩
  · cases h2 : allIn 0 9 xs
    · have e : chM xs = false := by unfold chM; rw [h2]; simp
      rw [e]
      go_enter Try.func17, Try.ntmps17
      go_wp2_with (first | (go_at_call 42; refine (fromOne10 _ _ _ h1).mono ?_; rintro e w' ⟨rfl, rfl⟩) | (go_at_call 43; refine (upTo8 S a len cap xs 9 _ h h2).mono ?_; rintro e w' ⟨rfl, rfl⟩))
      go_ret
      exact ⟨rfl, rfl⟩
    · have e : chM xs = decide (totalM xs > 0) := by unfold chM; rw [h2]; simp [inB] at h1; rw [HL.out, decide_eq_true (by omega)]; rfl
      rw [e]
      have hl8 : len ≤ 1048576 := by simp [inB] at h1; omega
      have HM := Lib.hid (upTo_mem h2)
      obtain ⟨T, hT⟩ : ∃ T, totalM xs = T := ⟨_, rfl⟩
      have HT := Lib.hid hT
      rw [hT]
      clear hT e
      go_enter Try.func17, Try.ntmps17
      go_wp2_with (first | (go_at_call 42; refine (fromOne10 _ _ _ h1).mono ?_; rintro e w' ⟨rfl, rfl⟩) | (go_at_call 43; refine (upTo8 S a len cap xs 9 _ h h2).mono ?_; rintro e w' ⟨rfl, rfl⟩) | (go_at_call 44; refine (sumOf_any S a len cap xs _ h HM.out hl8).mono ?_; rintro e w' ⟨rfl, rfl⟩; rw [HT.out]))
      go_ret
      exact ⟨rfl, rfl⟩
theorem Try.underCh : Try.prog.underlying 61 = some (.map 3 3) := by kernel_rfl
theorem Try.underI : Try.prog.underlying 3 = some (.int .i64) := by kernel_rfl
theorem Try.lawI : Keyed Try.prog 3 := int_keyed Try.underI
/-- a map of the call's own -/
def ChanP (w : World) (g : Nat → Int) (K : Nat) (e : Ending) (w' : World) : Prop := ∃ (B n : Nat) (D : DataW Unit), e = .returned (.map (some B)) ∧ w.heap.size ≤ B ∧ n ≤ K ∧ w'.ownsMap Try.prog 3 (plainElem Try.prog 3) B n D ∧ MapIs D g K ∧ Below w.heap.size w w'
def upto (xs : List Int) (k : Nat) (v : Nat) : Int := if v < k then xs.getD v 0 else 0
set_option maxRecDepth 100000 in
set_option maxHeartbeats 2000000 in
theorem chancesOf_impl (a : Option Addr) (len cap : Nat) (xs : List Int) (w : World) (h : IntsAt w (· < w.heap.size) a len xs) (h7 : len ≤ 7) (hx : ∀ k, 0 ≤ xs.getD k 0 ∧ xs.getD k 0 ≤ 9) :
    Calls Try.prog 38 #[.slice a len cap] w (ChanP w (fun v => xs.getD v 0) len) := by
  have hmm := @run_makeMap Try.prog
  have HXS := Lib.hid hx
  have HL := Lib.hid h.lenEq
  have HH := Lib.hid (fun w' (hb : Below w.heap.size w w') => h.below hb)
  clear hx h
  go_enter Try.func38, Try.ntmps38
  go_wp2_with fail
  go_loopw [9] (fun i wr => ∃ (k : Nat) (D : DataW Unit), k ≤ len ∧ i = .int .i64 k ∧ wr.ownsMap Try.prog 3 (plainElem Try.prog 3) w.heap.size k D ∧ MapIs D (upto xs k) len ∧ Below w.heap.size w wr) (fun i _ => len - (intOf i).toNat)
  case atStart => exact ⟨0, _, Nat.zero_le _, rfl, World.ownsMap_made _ _ _ _, mapIs_none len, (Below.refl _ _).alloc (Nat.le_refl _) _⟩
  case round =>
    obtain ⟨k, D, hk, rfl, hown, hm, hnx⟩ := hrel
    have HM := Lib.hid hm
    have HNX := Lib.hid hnx
    clear hm hnx
    by_cases hlt : k < len
    · have hkI : (k : Int) < (len : Int) := by omega
      obtain ⟨b, off, x, rfl, hx, hc⟩ := (HH.out wr HNX.out).get hlt
      have hxe : xs.getD k 0 = x := getD_of hx
      have hx9 := HXS.out k
      rw [hxe] at hx9
      have HXE := Lib.hid hxe
      clear hx hxe
      by_cases hp : 0 < x
      · have EM : ∀ v, (if v = k then x else upto xs k v) = upto xs (k + 1) v := fun v => by
          unfold upto
          by_cases e : v = k
          · subst e; rw [if_pos rfl, if_pos (by omega), HXE.out]
          · rw [if_neg e]
            by_cases h1 : v < k
            · rw [if_pos h1, if_pos (by omega)]
            · rw [if_neg h1, if_neg (by omega)]
        have HEM := Lib.hid EM
        clear EM
        go_wp2_with (first
          | (at_mapUpdate; refine wpList_mapUpdate_own _ rfl _ _ _ 61 rfl 3 3 Try.lawI Try.underCh _ w.heap.size k _ rfl hown (by unfold maxLen; omega) _ _ _ rfl rfl (keyOf_int_mk Try.underI (WalkArith.wf_i64 (by omega))) _ [] (plainElem_int Try.underI (WalkArith.wf_i64 (by omega))) ?_; intro w1 hown1 hgrow1)
          | fail)
        have hnx1 := HNX.out.grown hgrow1 HNX.out.size (fun j hj => by cases hj; exact Nat.le_refl _)
        go_roundw
        case rel => exact ⟨k + 1, _, by omega, by go_num, hown1, (HM.out.put (by omega) hp).congr HEM.out, hnx1⟩
        case measure => simp [intOf]; omega
      · have EM : ∀ v, upto xs k v = upto xs (k + 1) v := fun v => by
          unfold upto
          by_cases e : v = k
          · subst e; rw [if_neg (by omega), if_pos (by omega), HXE.out]; omega
          · by_cases h1 : v < k
            · rw [if_pos h1, if_pos (by omega)]
            · rw [if_neg h1, if_neg (by omega)]
        have HEM := Lib.hid EM
        clear EM
        go_wp2_with fail
        go_roundw
        case rel => exact ⟨k + 1, _, by omega, by go_num, hown.mono (by omega), HM.out.congr HEM.out, HNX.out⟩
        case measure => simp [intOf]; omega
    · obtain rfl : k = len := by omega
      have hkI : ¬ (k : Int) < (k : Int) := by omega
      go_wp2_with fail
      go_ret
      refine ⟨_, _, _, rfl, Nat.le_refl _, Nat.le_refl _, hown, HM.out.congr (fun v => ?_), HNX.out⟩
      unfold upto
      split
      · rfl
      · exact (getD_past (by rw [HL.out]; omega)).symm
set_option maxRecDepth 100000 in
set_option maxHeartbeats 2000000 in
theorem weight_impl (B n : Nat) (D : DataW Unit) (g : Nat → Int) (K : Nat) (w : World) (hown : w.ownsMap Try.prog 3 (plainElem Try.prog 3) B n D) (hm : MapIs D g K) (hK : K ≤ 8) (hg : ∀ v, 0 ≤ g v ∧ g v ≤ 9) :
    Calls Try.prog 39 #[.map (some B)] w fun e w' => e = .returned (.int .i64 (sumF g K)) ∧ Below w.heap.size w w' := by
  have HM := Lib.hid hm
  have HG := Lib.hid hg
  clear hm hg
  go_enter Try.func39, Try.ntmps39
  go_wp2_with (first
    | (at_range; refine wpList_range_own _ rfl _ 61 rfl 3 3 Try.lawI Try.underCh _ B n _ rfl hown ?_; intro w0 hrg0 hg0 hs0)
    | fail)
  go_frame
  go_loopw [3] (fun i wr => ∃ (left : Lit → Bool) (cnt : Nat), i = .int .i64 (cameF g left K) ∧ (∀ kl, left kl = true → has D kl = true) ∧ wr.ranges Try.prog 3 (plainElem Try.prog 3) B w.heap.size n D left cnt ∧ Below w.heap.size w wr) (fun _ wr => wr.rangeLeft B w.heap.size)
  case atStart =>
    refine ⟨_, _, ?_, fun _ h => h, hrg0, ⟨hg0.os, hg0.tape, hg0.output, hg0.size, fun k hk => hg0.block k hk (by simp)⟩⟩
    rw [came_start (fun v hv hh => ?_)]
    rw [HM.out.2.1 v hv] at hh
    have := of_decide_eq_false hh
    have := HG.out v
    omega
  case round =>
    clear hrg0 hg0 hs0 hown
    obtain ⟨left, cnt, rfl, hle, hrg, hnx⟩ := hrel
    have HNX := Lib.hid hnx
    have HLE := Lib.hid hle
    have hcb := came_bd (f := g) (left := left) (B := 9) (K := K) (by omega) (fun v _ => HG.out v)
    clear hnx hle
    obtain ⟨c, hc⟩ : ∃ c, cameF g left K = c := ⟨_, rfl⟩
    rw [hc] at hcb ⊢
    have HC := Lib.hid hc
    clear hc
    have hc0 : 0 ≤ c := hcb.1
    have hc1 : c ≤ 72 := by omega
    clear hcb
    go_wp2_with (first
      | (at_next; refine wpList_next_ranges_ii _ rfl _ rfl 3 3 .i64 .i64 Try.lawI Try.underI Try.underI B w.heap.size n _ _ _ rfl hrg ?_ ?_)
      | fail)
    · intro _ hl0
      go_wp2_with fail
      go_ret
      exact ⟨ret_int (by rw [← HC.out, came_end hl0]), HNX.out⟩
    · intro x y w1 cnt1 hwx hwc hlx hat hrg1 hlt hg1 hs1 hen
      obtain ⟨v, hv, rfl, rfl, hp⟩ := HM.out.came HLE.out hlx hat
      have hgv := HG.out v
      have hnx1 := HNX.out.grown hg1 HNX.out.size (fun j hj => by cases hj; exact Nat.le_refl _)
      have HST := Lib.hid (came_step (f := g) hlx hv)
      have HN1 := Lib.hid hnx1
      clear hnx1 hat
      go_wp2_with fail
      go_roundw
      case rel => exact ⟨_, _, by rw [HST.out, HC.out], strike_le HLE.out _, hrg1, HN1.out⟩
      case measure => rw [hrg1.left_eq, hrg.left_eq]; exact hlt
end Go.Proofs.Ytkjmpkincaainad
