import Derived.Test.YtkebdelfklmigaeRows
import Derived.WalkKit
import Derived.LoopTactic
import Derived.Outline
import Derived.WalkSpells
import Derived.WalkLawsBesides
import Derived.ProofKit
import Derived.Lib.Hide
import Derived.IntWalk
import Derived.StillTailTactics
import Derived.BigQuiet
import Derived.RegionTactic
import Derived.BigRegion
import Derived.Test.YtkebdelfklmigaeM0
import Derived.Test.YtkebdelfklmigaeM1
import Derived.Test.YtkebdelfklmigaeM2
import Derived.Test.YtkebdelfklmigaeM12
import Derived.Test.YtkebdelfklmigaeM16
import Derived.Test.YtkebdelfklmigaeM18
import Derived.Test.YtkebdelfklmigaeM14
import Derived.Test.YtkebdelfklmigaeM13
import Derived.Test.YtkebdelfklmigaeM4
import Derived.Test.YtkebdelfklmigaeM8
namespace Go.Proofs.Ytkebdelfklmigae
open Go.RowKit Go.WideShapes

/-- the call's own array of three ints -/
structure Own3 (w wr : World) (f : Nat → Int) : Prop where
  own : wr.heap[w.heap.size]? = some (.cells (tabV (fun j => .int .i64 (f j)) 3) 80 (0, 0))
  below : Below w.heap.size w wr
theorem Own3.start (w : World) (f : Nat → Int) (h : ∀ j, j < 3 → f j = 0) : Own3 w (w.alloc (.cells #[.int .i64 0, .int .i64 0, .int .i64 0] 80)) f := by
  refine ⟨?_, (Below.refl _ _).alloc (Nat.le_refl _) _⟩
  rw [heap_alloc_new]
  show _ = some (Obj.cells #[.int .i64 (f 0), .int .i64 (f 1), .int .i64 (f 2)] _ _)
  rw [h 0 (by omega), h 1 (by omega), h 2 (by omega)]
theorem Own3.cell {w wr : World} {f : Nat → Int} (h : Own3 w wr f) {q : Nat} (hq : q < 3) : wr.cell? ⟨w.heap.size, q, none⟩ = some (.int .i64 (f q)) ∧ wr.frozen? ⟨w.heap.size, q, none⟩ = false :=
  ⟨by rw [cell_of_row _ _ _ _ _ _ h.own, tabV_get _ hq], frozen_row h.own q⟩
theorem Own3.put {w wr : World} {f g : Nat → Int} (h : Own3 w wr f) (k : Nat) (v : Int) (e : ∀ q, q < 3 → g q = if q = k then v else f q) : Own3 w (wr.setCell ⟨w.heap.size, k, none⟩ (.int .i64 v)) g := by
  refine ⟨?_, h.below.setCell (Nat.le_refl _) _⟩
  rw [heap_set h.own, tabV_set]
  rw [tabV_congr (g := fun j => .int .i64 (g j)) fun q hq => ?_]
  rw [e q hq]
  unfold setN
  split <;> rfl
theorem Own3.drew {w wr : World} {f : Nat → Int} (h : Own3 w wr f) (n : Nat) : Own3 w (wr.drewN n) f := ⟨h.own, h.below.trans (Drew.below (w := wr) (wr := wr.drewN n) ⟨n, rfl⟩ _)⟩
theorem Own3.congr {w wr : World} {f g : Nat → Int} (h : Own3 w wr f) (e : ∀ q, f q = g q) : Own3 w wr g := by
  have : f = g := funext e
  subst this; exact h
def mx3 (x y z : Int) (k : Nat) : Int := if k = 1 then x else if k = 2 then (if x < y then y else x) else (if (if x < y then y else x) < z then z else (if x < y then y else x))
set_option maxRecDepth 100000 in
set_option maxHeartbeats 4000000 in
theorem max3_any (b cap : Nat) (x y z : Int) (w : World) (h0 : w.cell? ⟨b, 0, none⟩ = some (.int .i64 x)) (h1 : w.cell? ⟨b, 1, none⟩ = some (.int .i64 y)) (h2 : w.cell? ⟨b, 2, none⟩ = some (.int .i64 z)) :
    Calls Try.prog 56 #[.slice (some ⟨b, 0, none⟩) 3 cap] w fun e w' => e = .returned (.int .i64 (mx3 x y z 3)) ∧ w = w' := by
  go_enter Try.func56, Try.ntmps56
  go_wp2
  go_loop [3, 4] (fun o i => ∃ k : Nat, 1 ≤ k ∧ k ≤ 3 ∧ i = .int .i64 k ∧ o = .int .i64 (mx3 x y z k)) (fun _ i => 3 - (intOf i).toNat)
  case atStart => exact ⟨1, Nat.le_refl _, by omega, rfl, rfl⟩
  case round =>
    obtain ⟨k, hk1, hk3, rfl, rfl⟩ := hrel
    have : k = 1 ∨ k = 2 ∨ k = 3 := by omega
    rcases this with rfl | rfl | rfl
    · have e1 : mx3 x y z 1 = x := rfl
      rw [e1]
      go_wp2
      go_round
      case rel => exact ⟨2, by omega, by omega, by go_num, rfl⟩
      case measure => simp [intOf]
    · have e2 : (if mx3 x y z 2 < z then z else mx3 x y z 2) = mx3 x y z 3 := rfl
      have E2 := Lib.hid e2
      clear e2
      generalize mx3 x y z 2 = u at E2 ⊢
      go_wp2
      go_round
      case rel => exact ⟨3, by omega, by omega, by go_num, by rw [← E2.out]⟩
      case measure => simp [intOf]
    · generalize hu : mx3 x y z 3 = u
      go_wp2
      go_ret
      exact ⟨rfl, rfl⟩
theorem max3_is (x y z s : Int) : max s (mx3 x y z 3) = max (max (max s x) y) z := by
  show max s (if (if x < y then y else x) < z then z else (if x < y then y else x)) = _
  split <;> split <;> omega
theorem on_bd7 {shop : List (List (List Int))} (hv : shopM shop = true) {n : Nat} (hn : n ≤ 3) (M : Nat) : 0 ≤ onS shop n M ∧ onS shop n M ≤ 108 := by
  have := on_bd hv hn (Nat.zero_le 3) M
  rwa [show stepsJ n 0 = [] from rfl, List.append_nil] at this
theorem mx3_bd {x y z : Int} (hx : 0 ≤ x ∧ x ≤ 108) (hy : 0 ≤ y ∧ y ≤ 108) (hz : 0 ≤ z ∧ z ≤ 108) : 0 ≤ mx3 x y z 3 ∧ mx3 x y z 3 ≤ 108 := by
  show 0 ≤ (if (if x < y then y else x) < z then z else (if x < y then y else x)) ∧ (if (if x < y then y else x) < z then z else (if x < y then y else x)) ≤ 108
  split <;> split <;> omega
set_option maxRecDepth 100000 in
set_option maxHeartbeats 4000000 in
theorem leastShop_impl (a : Option Addr) (len cap : Nat) (shop : List (List (List Int))) (w : World) (h : ShopAt w (· < w.heap.size) a len shop) (hc : len ≤ cap) :
    Calls Try.prog 25 #[.slice a len cap] w fun e w' => e = .returned (.int .i64 (leastRes7 shop)) ∧ Below w.heap.size w w' := by
  go_enter Try.func25, Try.ntmps25
  go_wp2_with fail
  refine (validShop_impl _ a len cap shop w h hc).mono ?_
  rintro e w0 ⟨rfl, hd0⟩
  cases hv : shopM shop
  · go_wp2_with fail
    go_ret
    exact ⟨ret_int (by unfold leastRes7; rw [hv]; rfl), hd0.below _⟩
  · have HV := Lib.hid hv
    have HL := Lib.hid h.lenEq
    have hl3 : len ≤ 3 := by have := (shop_get hv).1; have := HL.out; omega
    have h0 : ShopAt w0 (· < w0.heap.size) a len shop := by have e := hd0.size; rw [e]; exact Drew.shop h hd0
    have HW := Lib.hid (show w.heap.size = w0.heap.size ∧ ∀ w', Below w0.heap.size w0 w' → Below w.heap.size w w' from ⟨hd0.size.symm, fun w' hb => by have e := hd0.size; rw [e] at hb; exact (hd0.below _).trans hb⟩)
    have HO0 := Lib.hid (Own3.start w0 (fun M => onS shop 0 M) (fun q hq => rfl))
    clear hv h hd0
    go_wp2_with fail
    go_loopw [3, 15] (fun o i wr => ∃ k : Nat, k ≤ len ∧ i = .int .i64 k ∧ o = .int .i64 (leastJ shop k) ∧ Own3 w0 wr (fun M => onS shop k M)) (fun _ i _ => len - (intOf i).toNat)
    case atStart => exact ⟨0, Nat.zero_le _, rfl, rfl, HO0.out⟩
    case round =>
      clear HO0
      obtain ⟨k, hk, rfl, rfl, hC⟩ := hrel
      obtain ⟨wo, rfl⟩ : ∃ wo : World, wo = wr := ⟨_, rfl⟩
      by_cases hlt : k < len
      · have HC0 := Lib.hid (hC.congr (g := fun M => onM (smach shop) (stime shop) M (stepsL shop k ++ stepsJ k 0)) (fun M => by show _ = onM _ _ _ (stepsL shop k ++ []); rw [List.append_nil]; rfl))
        obtain ⟨b, off, job, a', l, c, rfl, hx, hcc, hlc, hr⟩ := (h0.below hC.below).get hlt
        have hsl : l = slen shop k := by unfold slen; rw [List.getD_eq_getElem?_getD, hx]; exact hr.lenEq.symm
        subst hsl
        have HBO := Lib.hid hC.below
        have HBS := Lib.hid (show b < w0.heap.size from h0.mem (by omega))
        have HCC := Lib.hid hcc
        clear hC hx
        have HSL := Lib.hid (slen_le HV.out k)
        go_wp2_with fail
        go_loopw [7, 21] (fun o i wr => ∃ m : Nat, m ≤ slen shop k ∧ i = .int .i64 m ∧ o = .int .i64 (stepsTo (stime shop) k m) ∧ Own3 w0 wr (fun M => onM (smach shop) (stime shop) M (stepsL shop k ++ stepsJ k m))) (fun _ i _ => slen shop k - (intOf i).toNat)
        case atStart => exact ⟨0, Nat.zero_le _, rfl, rfl, HC0.out⟩
        case round =>
          clear HC0
          obtain ⟨m, hm, rfl, rfl, hC⟩ := hrel
          obtain ⟨wi, rfl⟩ : ∃ wi : World, wi = wr := ⟨_, rfl⟩
          by_cases hml : m < slen shop k
          · obtain ⟨b', off', b1, off1, c1, b2, off2, c2, e3, q1, q2, q3, q4, q5, q6⟩ := step_at (h0.below hC.below) HV.out hlt hml
            cases e3
            have ea : Value.slice a' (slen shop k) c = .slice (some ⟨b1, off1, none⟩) (slen shop k) c1 := by
              have x1 := hC.below.cell (p := ⟨b, off + k, none⟩) HBS.out
              have x2 := HBO.out.cell (p := ⟨b, off + k, none⟩) HBS.out
              rw [q1] at x1
              rw [HCC.out, ← x1] at x2
              exact Option.some.inj x2
            simp only [Value.slice.injEq, true_and] at ea
            obtain ⟨rfl, rfl⟩ := ea
            have hM := smach_lt HV.out k m
            obtain ⟨e1, f1⟩ := hC.cell (q := smach shop k m) hM
            have ht := stime_bd HV.out k m
            have hon := on_bd HV.out (show k ≤ 3 by omega) (show m ≤ 3 by have := HSL.out; omega) (smach shop k m)
            have hst := stepsTo_le (fun j k => stime_bd HV.out j k) k m
            have hst0 := stepsTo_nn (fun j k => (stime_bd HV.out j k).1) k m
            have hs3 := HSL.out
            have HST := Lib.hid (show stepsTo (stime shop) k (m + 1) = stepsTo (stime shop) k m + stime shop k m from rfl)
            have HON := Lib.hid (show ∀ M, onM (smach shop) (stime shop) M (stepsL shop k ++ stepsJ k (m + 1)) = onM (smach shop) (stime shop) M (stepsL shop k ++ stepsJ k m) + (if smach shop k m = M then stime shop k m else 0) from fun M => by
              rw [stepsJ_succ, ← List.append_assoc, onM_snoc])
            have HC := Lib.hid hC
            clear hC
            obtain ⟨sl, hsl⟩ : ∃ sl, slen shop k = sl := ⟨_, rfl⟩
            rw [hsl] at hml q1 q2 hs3 ⊢
            have HSE := Lib.hid hsl
            clear hsl
            obtain ⟨MM, hMM⟩ : ∃ MM, smach shop k m = MM := ⟨_, rfl⟩
            obtain ⟨tt, htt⟩ : ∃ tt, stime shop k m = tt := ⟨_, rfl⟩
            obtain ⟨uu, huu⟩ : ∃ uu, stepsTo (stime shop) k m = uu := ⟨_, rfl⟩
            rw [hMM] at hM e1 f1 hon q5 HON
            obtain ⟨oo, hoo⟩ : ∃ oo, onM (smach shop) (stime shop) MM (stepsL shop k ++ stepsJ k m) = oo := ⟨_, rfl⟩
            rw [hoo] at e1 hon
            rw [htt] at ht q6 HST HON
            rw [huu] at hst hst0 HST ⊢
            have HOO := Lib.hid hoo
            clear hMM htt huu hoo
            have hM2 : (MM : Int) < 3 := by omega
            go_wp2_with fail
            go_still_tail 10, (by kernel_rfl)
            go_wp2
            go_roundw
            case rel => exact ⟨m + 1, by omega, by go_num, by rw [HST.out], ((HC.out.drew 1).put MM (oo + tt) (fun z _ => by
              rw [HON.out]
              by_cases e : z = MM
              · subst e; rw [if_pos rfl, if_pos rfl, HOO.out]
              · rw [if_neg e, if_neg (fun e' => e e'.symm), Int.add_zero]))⟩
            case measure => simp [intOf]; omega
          · obtain rfl : m = slen shop k := by omega
            have hj := leastJ_bd HV.out k
            have hst := stepsTo_le (fun j k => stime_bd HV.out j k) k (slen shop k)
            have hs3 := HSL.out
            have HC := Lib.hid (show Own3 w0 wi (fun M => onS shop (k + 1) M) from hC)
            clear hC hr
            have HJ := Lib.hid (show leastJ shop (k + 1) = max (leastJ shop k) (stepsTo (stime shop) k (slen shop k)) from rfl)
            generalize stepsTo (stime shop) k (slen shop k) = uu at hst HJ ⊢
            generalize hjj : leastJ shop k = jj at hj HJ ⊢
            have HMX := Lib.hid (show max jj uu = if jj < uu then uu else jj by split <;> omega)
            generalize slen shop k = sl at *
            go_wp2_with fail
            go_roundw
            case rel => exact ⟨k + 1, by omega, by go_num, by rw [HJ.out, HMX.out], HC.out⟩
            case measure => simp [intOf]; omega
      · obtain rfl : k = len := by omega
        have HB := Lib.hid hC.below
        have c0 := (hC.cell (q := 0) (by omega)).1
        have c1 := (hC.cell (q := 1) (by omega)).1
        have c2 := (hC.cell (q := 2) (by omega)).1
        have b0 := on_bd7 HV.out hl3 0
        have b1 := on_bd7 HV.out hl3 1
        have b2 := on_bd7 HV.out hl3 2
        clear hC
        have hj := leastJ_bd HV.out k
        have HF := Lib.hid (show leastRes7 shop = max (max (max (leastJ shop k) (onS shop k 0)) (onS shop k 1)) (onS shop k 2) by unfold leastRes7 leastM; rw [HV.out, HL.out]; rfl)
        have HMB := Lib.hid (mx3_bd b0 b1 b2)
        have HMI := Lib.hid (max3_is (onS shop k 0) (onS shop k 1) (onS shop k 2) (leastJ shop k))
        have HMC := Lib.hid (fun cap => max3_any _ cap _ _ _ _ c0 c1 c2)
        generalize mx3 (onS shop k 0) (onS shop k 1) (onS shop k 2) 3 = mm at HMB HMI HMC
        generalize leastJ shop k = jj at hj HF HMI ⊢
        have HMX := Lib.hid (show max jj mm = if jj < mm then mm else jj by split <;> omega)
        clear c0 c1 c2
        by_cases hjm : jj < mm
        · go_wp2_with (go_at_call 56; refine (HMC.out _).mono ?_; rintro e w' ⟨rfl, rfl⟩)
          go_ret
          exact ⟨ret_int (by rw [HF.out, ← HMI.out, HMX.out, if_pos hjm]), HW.out.2 _ HB.out⟩
        · go_wp2_with (go_at_call 56; refine (HMC.out _).mono ?_; rintro e w' ⟨rfl, rfl⟩)
          go_ret
          exact ⟨ret_int (by rw [HF.out, ← HMI.out, HMX.out, if_neg (by omega)]), HW.out.2 _ HB.out⟩
end Go.Proofs.Ytkebdelfklmigae
namespace Go.Proofs.Ytkebdelfklmigae

-- two machines are a shop (plain)
/-- apart from each other, all in 0..T: no more than T -/
theorem disj_sum {bg ln : Nat → Int} : ∀ (c : Nat) (L : List Nat) (T : Int), L.length = c → L.Nodup → 0 ≤ T → (∀ x ∈ L, 0 ≤ bg x ∧ bg x + ln x ≤ T ∧ 1 ≤ ln x) →
    (∀ x ∈ L, ∀ y ∈ L, x ≠ y → bg x + ln x ≤ bg y ∨ bg y + ln y ≤ bg x) → sumL ln L ≤ T := by
  intro c
  induction c with
  | zero => intro L T hl _ hT _ _; rw [List.eq_nil_of_length_eq_zero hl, sumL]; exact hT
  | succ c ih =>
    intro L T hl hn hT h1 h2
    have hmax : ∀ K : List Nat, K ≠ [] → ∃ x ∈ K, ∀ y ∈ K, bg y + ln y ≤ bg x + ln x := by
      intro K
      induction K with
      | nil => intro h; exact absurd rfl h
      | cons z K ihK =>
        intro _
        by_cases hK : K = []
        · subst hK; exact ⟨z, by simp, fun y hy => by simp only [List.mem_singleton] at hy; subst hy; exact Int.le_refl _⟩
        · obtain ⟨x, hx, hm⟩ := ihK hK
          by_cases hz : bg z + ln z ≤ bg x + ln x
          · exact ⟨x, by simp [hx], fun y hy => by
              rcases List.mem_cons.1 hy with rfl | hy
              · exact hz
              · exact hm y hy⟩
          · exact ⟨z, by simp, fun y hy => by
              rcases List.mem_cons.1 hy with rfl | hy
              · exact Int.le_refl _
              · have := hm y hy; omega⟩
    obtain ⟨x, hx, hm⟩ := hmax L (by intro h; rw [h] at hl; simp at hl)
    have hp := List.perm_cons_erase hx
    have hs : sumL ln L = ln x + sumL ln (L.erase x) := by rw [sumL_perm hp, sumL]
    have hxb := h1 x hx
    have hmem : ∀ y ∈ L.erase x, y ∈ L ∧ y ≠ x := fun y hy => by
      have := (List.Nodup.mem_erase_iff hn).1 hy; exact ⟨this.2, this.1⟩
    have := ih (L.erase x) (bg x) (by rw [List.length_erase_of_mem hx]; omega) (hn.erase x) hxb.1 (fun y hy => by
      obtain ⟨hyL, hyx⟩ := hmem y hy
      have hyb := h1 y hyL
      have := hm y hyL
      refine ⟨hyb.1, ?_, hyb.2.2⟩
      rcases h2 y hyL x hx hyx with h | h
      · exact h
      · omega) (fun y hy z hz hne => h2 y (hmem y hy).1 z (hmem z hz).1 hne)
    omega
def m2 (_ k : Nat) : Nat := k
def p2T (a b : Nat → Int) (j k : Nat) : Int := if k = 0 then a j else if k = 1 then b j else 0
theorem p2_nn {a b : Nat → Int} (ha : ∀ x, 0 ≤ a x) (hb : ∀ x, 0 ≤ b x) : ∀ j k, 0 ≤ p2T a b j k := by
  intro j k; unfold p2T; split
  · exact ha j
  · split
    · exact hb j
    · exact Int.le_refl _
/-- the jobs in the order of their second steps -/
def secondS (s : ShopS) : List Nat := (s.done.filter (fun x => x.2 == 1)).map (·.1)
theorem second_mem {m : Nat → Nat → Nat} {p : Nat → Nat → Int} {s : ShopS} (h : ShopI m p s) (j : Nat) : j ∈ secondS s ↔ 1 < s.nx j := by
  unfold secondS
  rw [List.mem_map]
  constructor
  · rintro ⟨⟨i, k⟩, hi, rfl⟩
    rw [List.mem_filter] at hi
    obtain ⟨h1, h2⟩ := hi
    have : k = 1 := by simpa using h2
    subst this
    exact (h.mem i 1).1 h1
  · intro hj
    exact ⟨(j, 1), List.mem_filter.2 ⟨(h.mem j 1).2 hj, rfl⟩, rfl⟩
theorem second_nod {m : Nat → Nat → Nat} {p : Nat → Nat → Int} {s : ShopS} (h : ShopI m p s) : (secondS s).Nodup := by
  unfold secondS
  refine List.pairwise_map.2 ((h.nod.sublist List.filter_sublist).imp_of_mem (fun {x y} hx hy hne e => hne ?_))
  have h1 : x.2 = 1 := by simpa using (List.mem_filter.1 hx).2
  have h2 : y.2 = 1 := by simpa using (List.mem_filter.1 hy).2
  exact Prod.ext e (h1.trans h2.symm)
theorem two_lower {a b : Nat → Int} (ha : ∀ x, 1 ≤ a x) (hb : ∀ x, 0 ≤ b x) (l : List Nat) : (∀ j, l.count j ≤ 2) → (runT a b (0, 0) (secondS (runS m2 (p2T a b) shop0 l))).2 ≤ (runS m2 (p2T a b) shop0 l).fr 1 := by
  have hnn := p2_nn (a := a) (b := b) (fun x => by have := ha x; omega) hb
  have key : ∀ l : List Nat, (∀ j, l.reverse.count j ≤ 2) → (runT a b (0, 0) (secondS (runS m2 (p2T a b) shop0 l.reverse))).2 ≤ (runS m2 (p2T a b) shop0 l.reverse).fr 1 := by
    intro l
    induction l with
    | nil => intro _; exact Int.le_refl _
    | cons j l ih =>
      intro hc
      rw [List.reverse_cons, runS_snoc]
      have hc' : ∀ i, l.reverse.count i ≤ 2 := fun i => by have := hc i; rw [List.reverse_cons, List.count_append] at this; omega
      have hI := ih hc'
      have hinv : ShopI m2 (p2T a b) (runS m2 (p2T a b) shop0 l.reverse) := runS_inv hnn l.reverse shop0 (shop0_inv m2 _)
      have hnx : (runS m2 (p2T a b) shop0 l.reverse).nx j + 1 ≤ 2 := by
        have h1 := runS_nx m2 (p2T a b) l.reverse shop0 j
        have h2 := hc j
        rw [List.reverse_cons, List.count_append] at h2
        have h3 : [j].count j = 1 := by simp
        have h4 : shop0.nx j = 0 := rfl
        omega
      generalize runS m2 (p2T a b) shop0 l.reverse = s at *
      by_cases h0 : s.nx j = 0
      · have e1 : secondS (turnS m2 (p2T a b) s j) = secondS s := by
          unfold secondS turnS
          rw [h0]; simp
        have e2 : (turnS m2 (p2T a b) s j).fr 1 = s.fr 1 := by
          show setN s.fr (m2 j (s.nx j)) _ 1 = _
          rw [h0, show m2 j 0 = 0 from rfl]; exact setN_ne _ _ (by decide)
        rw [e1, e2]; exact hI
      · have hn1 : s.nx j = 1 := by omega
        have e1 : secondS (turnS m2 (p2T a b) s j) = secondS s ++ [j] := by
          unfold secondS turnS
          rw [hn1]; simp
        have e2 : (turnS m2 (p2T a b) s j).fr 1 = max (s.rd j) (s.fr 1) + b j := by
          show setN s.fr (m2 j (s.nx j)) (beginS m2 s j + p2T a b j (s.nx j)) 1 = _
          rw [hn1]; rw [show m2 j 1 = 1 from rfl, setN_at]
          unfold beginS; rw [hn1]; rfl
        rw [e1, e2, runT_snoc]
        have hsum : sumL a (secondS s ++ [j]) ≤ max (s.rd j) (s.fr 1) := by
          have hj1 : j ∉ secondS s := fun hm => by have := (second_mem hinv j).1 hm; omega
          refine disj_sum (bg := fun x => s.b x 0) _ _ _ rfl ?_ ?_ ?_ ?_
          · exact (List.perm_append_singleton _ _).symm.nodup (List.nodup_cons.2 ⟨hj1, second_nod hinv⟩)
          · have := hinv.nn.2.1 j; omega
          · intro x hx
            have hx0 : 0 < s.nx x := by
              rcases List.mem_append.1 hx with hx | hx
              · have := (second_mem hinv x).1 hx; omega
              · simp only [List.mem_singleton] at hx; subst hx; omega
            refine ⟨hinv.pos x 0 hx0, ?_, ha x⟩
            rcases List.mem_append.1 hx with hx | hx
            · have h1 := (second_mem hinv x).1 hx
              have h2 : s.b x 0 + a x ≤ s.b x 1 := hinv.chain x 0 h1
              have h3 : s.b x 1 + b x ≤ s.fr 1 := hinv.free x 1 h1
              have := hb x
              show s.b x 0 + a x ≤ _
              omega
            · simp only [List.mem_singleton] at hx
              subst hx
              have h2 : s.b x 0 + a x ≤ s.rd x := hinv.last x 0 hx0
              show s.b x 0 + a x ≤ _
              omega
          · intro x hx y hy hne
            have hpos : ∀ z ∈ secondS s ++ [j], 0 < s.nx z := fun z hz => by
              rcases List.mem_append.1 hz with hz | hz
              · have := (second_mem hinv z).1 hz; omega
              · simp only [List.mem_singleton] at hz; subst hz; omega
            exact hinv.apart x 0 y 0 (hpos x hx) (hpos y hy) (fun e => hne (by injection e)) rfl
        have hfst := runT_fst a b (secondS s) (0, 0)
        rw [sumL_append, sumL, sumL] at hsum
        simp only [stT]
        simp only at hfst
        omega
  intro hc
  have := key l.reverse (by rw [List.reverse_reverse]; exact hc)
  rwa [List.reverse_reverse] at this
/-- each job over both machines at once -/
def twice (l : List Nat) : List Nat := l.flatMap (fun j => [j, j])
theorem two_run {a b : Nat → Int} (ha : ∀ x, 0 ≤ a x) (hb : ∀ x, 0 ≤ b x) : ∀ (l : List Nat) (s : ShopS), l.Nodup → (∀ j ∈ l, s.nx j = 0 ∧ s.rd j = 0) → 0 ≤ s.fr 0 → s.all = s.fr 1 →
    (runS m2 (p2T a b) s (twice l)).all = (runT a b (s.fr 0, s.fr 1) l).2 := by
  intro l
  induction l with
  | nil => intro s _ _ _ h; exact h
  | cons j l ih =>
    intro s hn hz h0 hall
    obtain ⟨hj, hn'⟩ := List.nodup_cons.1 hn
    obtain ⟨hnj, hrj⟩ := hz j (by simp)
    have e : twice (j :: l) = j :: j :: twice l := rfl
    rw [e, runS_cons, runS_cons, runT_cons]
    have t1 : turnS m2 (p2T a b) s j = ⟨setN s.nx j 1, setN s.b j (setN (s.b j) 0 (s.fr 0)), setN s.rd j (s.fr 0 + a j), setN s.fr 0 (s.fr 0 + a j), max s.all (s.fr 0 + a j), s.done ++ [(j, 0)]⟩ := by
      unfold turnS beginS
      rw [hnj, hrj]
      show ShopS.mk _ _ _ _ _ _ = _
      rw [show m2 j 0 = 0 from rfl, show max (0 : Int) (s.fr 0) = s.fr 0 by omega]
      rfl
    rw [t1]
    have t2 : turnS m2 (p2T a b) ⟨setN s.nx j 1, setN s.b j (setN (s.b j) 0 (s.fr 0)), setN s.rd j (s.fr 0 + a j), setN s.fr 0 (s.fr 0 + a j), max s.all (s.fr 0 + a j), s.done ++ [(j, 0)]⟩ j =
        ⟨setN (setN s.nx j 1) j 2, setN (setN s.b j (setN (s.b j) 0 (s.fr 0))) j (setN (setN (s.b j) 0 (s.fr 0)) 1 (max (s.fr 0 + a j) (s.fr 1))), setN (setN s.rd j (s.fr 0 + a j)) j (max (s.fr 0 + a j) (s.fr 1) + b j),
          setN (setN s.fr 0 (s.fr 0 + a j)) 1 (max (s.fr 0 + a j) (s.fr 1) + b j), max (max s.all (s.fr 0 + a j)) (max (s.fr 0 + a j) (s.fr 1) + b j), (s.done ++ [(j, 0)]) ++ [(j, 1)]⟩ := by
      unfold turnS beginS
      simp only [setN_at]
      rw [show m2 j 1 = 1 from rfl, setN_ne _ _ (show (1 : Nat) ≠ 0 by decide)]
      rfl
    rw [t2]
    have haj := ha j
    have hbj := hb j
    rw [ih]
    · show (runT a b (setN (setN s.fr 0 (s.fr 0 + a j)) 1 (max (s.fr 0 + a j) (s.fr 1) + b j) 0, setN (setN s.fr 0 (s.fr 0 + a j)) 1 (max (s.fr 0 + a j) (s.fr 1) + b j) 1) l).2 = _
      rw [setN_at, setN_ne _ _ (show (0 : Nat) ≠ 1 by decide), setN_at]
      rfl
    · exact hn'
    · intro i hi
      have hij : i ≠ j := fun e => hj (e ▸ hi)
      show setN (setN s.nx j 1) j 2 i = 0 ∧ setN (setN s.rd j (s.fr 0 + a j)) j (max (s.fr 0 + a j) (s.fr 1) + b j) i = 0
      rw [setN_ne _ _ hij, setN_ne _ _ hij, setN_ne _ _ hij, setN_ne _ _ hij]
      exact hz i (by simp [hi])
    · show 0 ≤ setN (setN s.fr 0 (s.fr 0 + a j)) 1 (max (s.fr 0 + a j) (s.fr 1) + b j) 0
      rw [setN_ne _ _ (show (0 : Nat) ≠ 1 by decide), setN_at]; omega
    · show max (max s.all (s.fr 0 + a j)) (max (s.fr 0 + a j) (s.fr 1) + b j) = setN (setN s.fr 0 (s.fr 0 + a j)) 1 (max (s.fr 0 + a j) (s.fr 1) + b j) 1
      rw [setN_at, hall]; omega
theorem twice_count (l : List Nat) (j : Nat) : (twice l).count j = 2 * l.count j := by
  induction l with
  | nil => rfl
  | cons i l ih =>
    have e : twice (i :: l) = i :: i :: twice l := rfl
    rw [e, List.count_cons, List.count_cons, List.count_cons, ih]
    split <;> omega
/-- P70: the best turns of two machines are done at the least span -/
theorem two_shop {a b : Nat → Int} (ha : ∀ x, 1 ≤ a x) (hb : ∀ x, 0 ≤ b x) {n : Nat} {l : List Nat} {u v : Int} (h : BestB (fun l => (runS m2 (p2T a b) shop0 l).all) n (fun _ => 2) l v) (g : LeastO a b n u) : v = u := by
  have ha0 : ∀ x, 0 ≤ a x := fun x => by have := ha x; omega
  have h1 : v ≤ u := by
    obtain ⟨⟨t, ht, rfl⟩, _⟩ := g
    have hn : t.Nodup := ht.symm.nodup List.nodup_range
    have hv := two_run ha0 hb t shop0 hn (fun j _ => ⟨rfl, rfl⟩) (Int.le_refl _) rfl
    have := h.least (twice t) ⟨fun x hx => by
      obtain ⟨y, hy, hxy⟩ := List.mem_flatMap.1 hx
      have : x = y := by simpa using hxy
      have := List.mem_range.1 (ht.mem_iff.1 hy); omega, fun j hj => by
      rw [twice_count, hn.count, if_pos (ht.mem_iff.2 (List.mem_range.2 hj))]⟩
    have e2 : (runS m2 (p2T a b) shop0 (twice t)).all = spanT a b t := hv
    simp only [e2] at this
    exact this
  have h2 : u ≤ v := by
    have hc : ∀ j, l.count j ≤ 2 := fun j => by
      by_cases hj : j < n
      · rw [h.turns.2 j hj]; exact Nat.le_refl _
      · rw [List.count_eq_zero.2 (fun hm => hj (h.turns.1 j hm))]; omega
    have hlow := two_lower ha hb l hc
    have hinv := runS_inv (p2_nn ha0 hb) l shop0 (shop0_inv m2 _)
    have hperm : (secondS (runS m2 (p2T a b) shop0 l)).Perm (List.range n) := by
      refine (List.perm_ext_iff_of_nodup (second_nod hinv) List.nodup_range).2 (fun j => ?_)
      rw [second_mem hinv, List.mem_range, runS_nx]
      show 1 < 0 + l.count j ↔ _
      constructor
      · intro hj
        apply Classical.byContradiction
        intro hjn
        rw [List.count_eq_zero.2 (fun hm => hjn (h.turns.1 j hm))] at hj; omega
      · intro hj; have h7 : l.count j = 2 := h.turns.2 j hj
        omega
    have h3 := g.2 _ hperm
    have h4 := hinv.upF 1
    have h5 : (runS m2 (p2T a b) shop0 l).all = v := h.value
    unfold spanT at h3
    omega
  omega
end Go.Proofs.Ytkebdelfklmigae
namespace Go.Proofs.Ytkebdelfklmigae
open Go.RowKit

-- two machines are a shop: what the law asks (plain)
def jobOf (rows : List (List Int)) (q : Nat) : List (List Int) := [[0, ta rows q], [1, tb rows q]]
def shopOf (rows : List (List Int)) (k : Nat) : List (List (List Int)) := (List.range k).map (jobOf rows)
theorem shopOf_snoc (rows : List (List Int)) (k : Nat) : shopOf rows (k + 1) = shopOf rows k ++ [jobOf rows k] := by simp [shopOf, List.range_succ]
theorem shopOf_len (rows : List (List Int)) (k : Nat) : (shopOf rows k).length = k := by simp [shopOf]
theorem shopOf_get {rows : List (List Int)} {k j : Nat} (h : j < k) : (shopOf rows k)[j]? = some (jobOf rows j) := by simp [shopOf, h]
theorem shopOf_getD {rows : List (List Int)} {k j : Nat} (h : j < k) : (shopOf rows k).getD j [] = jobOf rows j := by rw [List.getD_eq_getElem?_getD, shopOf_get h]; rfl
theorem shopOf_ok {rows : List (List Int)} {n : Nat} (hn : n ≤ 3) (h : ∀ q, q < n → 1 ≤ ta rows q ∧ ta rows q ≤ 9 ∧ 1 ≤ tb rows q ∧ tb rows q ≤ 9) : shopM (shopOf rows n) = true := by
  unfold shopM
  rw [shopOf_len, decide_eq_true hn, Bool.and_true, List.all_eq_true]
  intro job hj
  obtain ⟨q, hq, rfl⟩ := List.mem_map.1 hj
  obtain ⟨h1, h2, h3, h4⟩ := h q (List.mem_range.1 hq)
  have e1 : stepB [0, ta rows q] = true := by
    show (true && (inB 0 2 0 && inB 1 9 (ta rows q))) = true
    rw [inB_true (by omega) (by omega), inB_true h1 h2]; rfl
  have e2 : stepB [1, tb rows q] = true := by
    show (true && (inB 0 2 1 && inB 1 9 (tb rows q))) = true
    rw [inB_true (by omega) (by omega), inB_true h3 h4]; rfl
  unfold sjobB jobOf
  rw [List.all_cons, List.all_cons, e1, e2]
  have hd : decide (machsOf [[0, ta rows q], [1, tb rows q]]).Nodup = true := decide_eq_true (by simp [machsOf])
  rw [hd]; rfl
theorem runS_congr2 {m m' : Nat → Nat → Nat} {p p' : Nat → Nat → Int} : ∀ (l : List Nat) (s : ShopS), (∀ j ∈ l, ∀ k, k < s.nx j + l.count j → m j k = m' j k ∧ p j k = p' j k) → runS m p s l = runS m' p' s l := by
  intro l
  induction l with
  | nil => intro s _; rfl
  | cons i l ih =>
    intro s h
    obtain ⟨e1, e2⟩ := h i (by simp) (s.nx i) (by rw [List.count_cons_self]; omega)
    have e : turnS m p s i = turnS m' p' s i := by unfold turnS beginS; rw [e1, e2]
    rw [runS_cons, runS_cons, e]
    refine ih _ fun j hj k hk => h j (by simp [hj]) k ?_
    have hnx : (turnS m' p' s i).nx j = if j = i then s.nx i + 1 else s.nx j := rfl
    rw [hnx] at hk
    rw [List.count_cons]
    by_cases hji : j = i
    · subst hji; simp at hk ⊢; omega
    · rw [if_neg hji] at hk
      have : (i == j) = false := by simp; exact fun h => hji h.symm
      rw [this]; simpa using hk
theorem two_best {rows : List (List Int)} {n : Nat} {u : Int} (hn : n ≤ 3) (h : ∀ q, q < n → 1 ≤ ta rows q ∧ ta rows q ≤ 9 ∧ 1 ≤ tb rows q ∧ tb rows q ≤ 9) (hu : LeastO (ta rows) (tb rows) n u) : bestN (shopOf rows n) = u ∧ leastRes7 (shopOf rows n) ≤ u := by
  have hok := shopOf_ok hn h
  have hb := best_is hok
  have hsl : ∀ j, j < n → slen (shopOf rows n) j = 2 := fun j hj => by unfold slen; rw [shopOf_getD hj]; rfl
  rw [shopOf_len] at hb
  have hval : ∀ l, TurnsOf n (slen (shopOf rows n)) l → valB (shopOf rows n) l = (runS m2 (p2T (fun x => if x < n then ta rows x else 1) (fun x => if x < n then tb rows x else 1)) shop0 l).all := by
    intro l hl
    unfold valB
    rw [runS_congr2 l shop0 fun j hj k hk => ?_]
    have hjn := hl.1 j hj
    have hk2 : k < 2 := by
      have e : shop0.nx j = 0 := rfl
      rw [e, hl.2 j hjn, hsl j hjn] at hk; omega
    have hg : (shopOf rows n).getD j [] = jobOf rows j := shopOf_getD hjn
    unfold smach stime m2 p2T
    rw [hg]
    match k, hk2 with
    | 0, _ => simp [jobOf, hjn]
    | 1, _ => simp [jobOf, hjn]
  have ht : ∀ l, TurnsOf n (slen (shopOf rows n)) l ↔ TurnsOf n (fun _ => 2) l := fun l =>
    ⟨fun hl => ⟨hl.1, fun j hj => by rw [hl.2 j hj, hsl j hj]⟩, fun hl => ⟨hl.1, fun j hj => by rw [hl.2 j hj, hsl j hj]⟩⟩
  have hb2 : BestB (fun l => (runS m2 (p2T (fun x => if x < n then ta rows x else 1) (fun x => if x < n then tb rows x else 1)) shop0 l).all) n (fun _ => 2) (bestT (shopOf rows n)) (bestN (shopOf rows n)) :=
    ⟨(ht _).1 hb.turns, by rw [← hb.value]; exact (hval _ hb.turns).symm, fun m hm => by rw [← hval m ((ht m).2 hm)]; exact hb.least m ((ht m).2 hm), fun m hm he => hb.first m ((ht m).2 hm) (by rw [hval m ((ht m).2 hm)]; exact he)⟩
  have hl2 := LeastO.congr hu (a' := fun x => if x < n then ta rows x else 1) (b' := fun x => if x < n then tb rows x else 1) (fun x hx => by simp [hx])
  have e := two_shop (fun x => by show 1 ≤ (if x < n then ta rows x else 1); split; exact (h x (by assumption)).1; omega) (fun x => by show 0 ≤ (if x < n then tb rows x else 1); split; have := (h x (by assumption)).2.2.1; omega; omega) hb2 hl2
  refine ⟨e, ?_⟩
  rw [leastRes7_yes hok]
  have hinv := runS_inv (fun j k => (stime_bd hok j k).1) (bestT (shopOf rows n)) shop0 (shop0_inv (smach (shopOf rows n)) (stime (shopOf rows n)))
  have hl := least_all hinv (fun j => runS_full (by rw [shopOf_len]; exact hb.turns) j)
  have hv : (runS (smach (shopOf rows n)) (stime (shopOf rows n)) shop0 (bestT (shopOf rows n))).all = bestN (shopOf rows n) := hb.value
  omega
end Go.Proofs.Ytkebdelfklmigae
