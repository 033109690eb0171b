import Derived.Test.YthmlgicjedhgfabM8
import Derived.Test.YthmlgicjedhgfabRows
import Derived.WalkKit
import Derived.LoopTactic
import Derived.Outline
import Derived.WalkSpells
import Derived.WalkLawsBesides
import Derived.ProofKit
import Derived.Lib.Hide
import Derived.IntWalk
import Derived.StillTailTactics
import Derived.BigQuiet
import Derived.RegionTactic
import Derived.BigRegion
import Derived.Test.YthmlgicjedhgfabM0
import Derived.Test.YthmlgicjedhgfabM1
import Derived.Test.YthmlgicjedhgfabM2
import Derived.Test.YthmlgicjedhgfabM6
import Derived.Test.YthmlgicjedhgfabM5
import Derived.Test.YthmlgicjedhgfabM7
import Derived.Deep.Upon
namespace Go.Proofs.Ythmlgicjedhgfab

-- what chapter 7's laws ask (plain)
theorem shop_take {shop : List (List (List Int))} (hv : shopM shop = true) (n : Nat) : shopM (shop.take n) = true := by
  unfold shopM at *
  rw [Bool.and_eq_true, List.all_eq_true, decide_eq_true_eq] at *
  exact ⟨fun x hx => hv.1 x (List.mem_of_mem_take hx), by rw [List.length_take]; have := hv.2; omega⟩
theorem slen_job7 {shop : List (List (List Int))} {k : Nat} {job : List (List Int)} (h : shop[k]? = some job) : slen shop k = job.length := by
  unfold slen; rw [List.getD_eq_getElem?_getD, h]; rfl
def leastRes7 (shop : List (List (List Int))) : Int := if shopM shop then leastM shop else -1
theorem leastRes7_no {shop : List (List (List Int))} (h : shopM shop = false) : leastRes7 shop = -1 := by unfold leastRes7; rw [h]; rfl
theorem leastRes7_yes {shop : List (List (List Int))} (h : shopM shop = true) : leastRes7 shop = leastM shop := by unfold leastRes7; rw [h]; rfl
theorem mostRes_yes {shop : List (List (List Int))} (h : shopM shop = true) : mostRes shop = (mostM shop).map (fun q : Nat => (q : Int)) := by unfold mostRes; rw [h]; rfl
theorem most_TurnsOf7 (shop : List (List (List Int))) : TurnsOf shop.length (slen shop) (mostM shop) := ⟨(most_turns shop).1, (most_turns shop).2⟩
theorem timesN_most {shop : List (List (List Int))} (hv : shopM shop = true) : 0 ≤ timesN shop (mostRes shop) := by
  unfold timesN
  rw [mostRes_yes hv, list_turns (most_TurnsOf7 shop), hv]
  exact (runS_inv (fun j k => (stime_bd hv j k).1) _ shop0 (shop0_inv (smach shop) (stime shop))).nn.1
/-- the work of the first one, once it has come -/
def firstJ (shop : List (List (List Int))) (i : Nat) : Int := match mostM shop with
  | [] => 0
  | q :: _ => if q < i then stepsTo (stime shop) q (slen shop q) else 0
theorem firstJ_nil {shop : List (List (List Int))} (h : mostM shop = []) (i : Nat) : firstJ shop i = 0 := by unfold firstJ; rw [h]
theorem firstJ_cons {shop : List (List (List Int))} {q : Nat} {l : List Nat} (h : mostM shop = q :: l) (i : Nat) : firstJ shop i = if q < i then stepsTo (stime shop) q (slen shop q) else 0 := by unfold firstJ; rw [h]
theorem firstJ_zero (shop : List (List (List Int))) : firstJ shop 0 = 0 := by unfold firstJ; split <;> simp
theorem first_most {shop : List (List (List Int))} (hv : shopM shop = true) : firstJ shop shop.length = leastJ shop shop.length := by
  have hg := leastJ_ge shop shop.length
  cases hm : mostM shop with
  | nil =>
    rw [firstJ_nil hm]
    have h := leastJ_le (shop := shop) (v := 0) (Int.le_refl _) shop.length (fun j hj => by
      have := (most_turns shop).2 j hj
      rw [hm] at this
      rw [← this]; exact Int.le_refl _)
    omega
  | cons q l =>
    have hq : q < shop.length := (most_turns shop).1 q (by rw [hm]; simp)
    rw [firstJ_cons hm, if_pos hq]
    have hn := stepsTo_nn (fun j k => (stime_bd hv j k).1) q (slen shop q)
    have h := leastJ_le (shop := shop) hn shop.length (fun j hj => by
      by_cases h0 : 0 < slen shop j
      · exact most_first hm j hj h0
      · rw [show slen shop j = 0 by omega]; exact hn)
    have := hg.2 q hq
    omega
theorem runS_full {shop : List (List (List Int))} {l : List Nat} (h : TurnsOf shop.length (slen shop) l) (j : Nat) : (runS (smach shop) (stime shop) shop0 l).nx j = slen shop j := by
  rw [runS_nx]
  show 0 + l.count j = slen shop j
  rw [Nat.zero_add]
  by_cases hj : j < shop.length
  · exact h.2 j hj
  · rw [List.count_eq_zero.2 (fun hm => hj (h.1 j hm))]
    unfold slen
    rw [List.getD_eq_getElem?_getD, List.getElem?_eq_none (by omega)]; rfl
theorem slen_none {shop : List (List (List Int))} {j : Nat} (h : shop.length ≤ j) : slen shop j = 0 := by
  unfold slen
  rw [List.getD_eq_getElem?_getD, List.getElem?_eq_none h]; rfl
theorem timesN_no {shop : List (List (List Int))} {ts : List Int} (h : (shopM shop && turnsM shop ts) = false) : timesN shop ts = -1 := by unfold timesN; rw [h]; rfl
theorem times_rule {shop : List (List (List Int))} {ts : List Int} (h : (shopM shop && turnsM shop ts) = true) : ∃ s : ShopS, timesRows shop ts = rowsS s shop.length ∧ timesN shop ts = s.all ∧ ShopI (smach shop) (stime shop) s ∧ (∀ j, s.nx j = slen shop j) ∧ leastRes7 shop ≤ s.all := by
  obtain ⟨hv, ht⟩ := Bool.and_eq_true_iff.1 h
  obtain ⟨l, rfl, hl⟩ := turns_list ht
  have hinv := runS_inv (fun j k => (stime_bd hv j k).1) l shop0 (shop0_inv (smach shop) (stime shop))
  have hnx := fun j => runS_full hl j
  refine ⟨runS (smach shop) (stime shop) shop0 l, ?_, ?_, hinv, hnx, ?_⟩
  · unfold timesRows runOf; rw [if_pos h, toNat_cast]
  · unfold timesN runOf; rw [if_pos h, toNat_cast]
  · rw [leastRes7_yes hv]; exact least_all hinv hnx
theorem times_ge {shop : List (List (List Int))} {ts : List Int} (h : (shopM shop && turnsM shop ts) = true) : timesN shop ts ≤ 81 := by
  obtain ⟨hv, ht⟩ := Bool.and_eq_true_iff.1 h
  obtain ⟨l, rfl, hl⟩ := turns_list ht
  unfold timesN runOf; rw [if_pos h, toNat_cast]
  have h1 := runS_bd (m := smach shop) (p := stime shop) (fun j k => stime_bd hv j k) l
  have h2 := turnsOf_len hv hl.1 (turnsOf_cnt hl)
  omega
end Go.Proofs.Ythmlgicjedhgfab
namespace Go.Proofs.Ythmlgicjedhgfab
open Go.RowKit Go.WideShapes

theorem Try.infoIntSl : (Try.prog.info? 3).map (fun i => (i.zero, i.size, i.bytes)) = some (some (.int .i64 0), 1, 8) := by kernel_rfl
end Go.Proofs.Ythmlgicjedhgfab
namespace Go.Proofs.Ythmlgicjedhgfab
open Go.RowKit Go.WideShapes

theorem shop_lift {w w1 : World} {a : Option Addr} {len : Nat} {shop : List (List (List Int))} (h : ShopAt w (· < w.heap.size) a len shop) (hb : Below w.heap.size w w1) : ShopAt w1 (· < w1.heap.size) a len shop :=
  (h.below hb).to (fun _ hb' => ⟨Nat.lt_of_lt_of_le hb' hb.size, rfl⟩)
end Go.Proofs.Ythmlgicjedhgfab
namespace Go.Proofs.Ythmlgicjedhgfab
open Go.RowKit
/-- a slice of new ints that may be written, and a number -/
def ResPostI (w : World) (xs : List Int) (v : Int) (e : Ending) (w' : World) : Prop := ∃ (a : Option Addr) (len cap : Nat), e = .returned (.tuple #[.slice a len cap, .int .i64 v]) ∧ IntsAt w' (fun b => w.heap.size ≤ b ∧ b < w'.heap.size) a len xs ∧
  (Free w' (fun b => w.heap.size ≤ b ∧ b < w'.heap.size) a len ∧ len ≤ cap) ∧ Below w.heap.size w w'
def NewIntsI (w : World) (xs : List Int) (v : Int) (e : Ending) (w' : World) : Prop := ∃ (a : Option Addr) (len cap : Nat), e = .returned (.tuple #[.slice a len cap, .int .i64 v]) ∧ IntsAt w' (fun b => w.heap.size ≤ b ∧ b < w'.heap.size) a len xs ∧ len ≤ cap ∧ Below w.heap.size w w'
end Go.Proofs.Ythmlgicjedhgfab
namespace Go.Proofs.Ythmlgicjedhgfab
open Go.RowKit Go.WideShapes

theorem from1_any (n hi : Int) (w : World) :
    Calls Try.prog 56 #[.int .i64 n, .int .i64 hi] w fun e w' => e = .returned (.bool (inB 1 hi n)) ∧ w = w' := by
  by_cases h1 : 1 ≤ n
  · by_cases h2 : n ≤ hi
    · go_enter Try.func56, Try.ntmps56
      go_wp2
      go_ret
      exact ⟨ret_bool (inB_true h1 h2).symm, rfl⟩
    · go_enter Try.func56, Try.ntmps56
      go_wp2
      go_ret
      exact ⟨ret_bool (inB_hi (by omega)).symm, rfl⟩
  · go_enter Try.func56, Try.ntmps56
    go_wp2
    go_ret
    exact ⟨ret_bool (inB_lo (by omega)).symm, rfl⟩
/-- the bit, hidden from the walk -/
def sb7 (s j : Nat) : Bool := s.testBit j
theorem isIn7_any (s j : Nat) (hs : s < 1048576) (hj : j ≤ 20) (w : World) :
    Calls Try.prog 57 #[.int .i64 s, .int .i64 j] w fun e w' => e = .returned (.bool (sb7 s j)) ∧ w = w' := by
  go_enter Try.func57, Try.ntmps57
  go_wp2
  go_ret
  refine ⟨ret_bool ?_, rfl⟩
  unfold sb7
  have h2 : s / 2 ^ j ≤ s := Nat.div_le_self _ _
  have e : (s : Int) / 2 ^ j = ((s / 2 ^ j : Nat) : Int) := by push_cast; rfl
  rw [e, Nat.testBit_eq_decide_div_mod_eq]
  generalize s / 2 ^ j = x at h2 ⊢
  have hx : x < 1048576 := by omega
  rw [show (1 : Int) = ((1 : Nat) : Int) from rfl, i_and x 1 hx (by omega), Nat.and_one_is_mod, Bool.eq_iff_iff, beq_iff_eq, decide_eq_true_eq]
  omega
theorem shl_or {D q : Nat} (hD : D < 8) (hq : q ≤ 2) : bits .or .i64 (D : Int) (wrap64 (2 ^ q)) = ((D ||| 2 ^ q : Nat) : Int) := by
  have : q = 0 ∨ q = 1 ∨ q = 2 := by omega
  rcases this with rfl | rfl | rfl
  · rw [show wrap64 ((2 : Int) ^ 0) = ((1 : Nat) : Int) by unfold wrap64; decide]; exact i_or D 1 (by omega) (by omega)
  · rw [show wrap64 ((2 : Int) ^ 1) = ((2 : Nat) : Int) by unfold wrap64; decide]; exact i_or D 2 (by omega) (by omega)
  · rw [show wrap64 ((2 : Int) ^ 2) = ((4 : Nat) : Int) by unfold wrap64; decide]; exact i_or D 4 (by omega) (by omega)
set_option maxRecDepth 100000 in
set_option maxHeartbeats 4000000 in
theorem areSteps_any (S : Nat → Prop) (a : Option Addr) (len cap : Nat) (job : List (List Int)) (w : World) (h : RowsAt w S a len job) (hc : len ≤ cap) :
    Calls Try.prog 46 #[.slice a len cap] w fun e w' => e = .returned (.bool (sjobB job)) ∧ w = w' := by
  have hs := h.small
  have HL := Lib.hid h.lenEq
  go_enter Try.func46, Try.ntmps46
  go_wp2
  go_loop [3, 8] (fun s i => ∃ m D : Nat, m ≤ len ∧ i = .int .i64 m ∧ s = .int .i64 (D : Int) ∧ (job.take m).all stepB = true ∧ (machsOf (job.take m)).Nodup ∧ ∀ i, D.testBit i = decide ((i : Int) ∈ machsOf (job.take m))) (fun _ i => len - (intOf i).toNat)
  case atStart => exact ⟨0, 0, Nat.zero_le _, rfl, rfl, rfl, by simp [machsOf], fun i => by simp [machsOf]⟩
  case round =>
    obtain ⟨m, D, hm, rfl, rfl, h1, h2, h3⟩ := hrel
    have hD : D < 8 := Nat.lt_pow_two_of_testBit (n := 3) _ (fun i hi => by
      rw [h3]; exact decide_eq_false (fun hm => by
        obtain ⟨r, hr, e⟩ := List.mem_map.1 hm
        have := List.all_eq_true.1 h1 r hr
        simp only [stepB, Bool.and_eq_true, beq_iff_eq] at this
        have h4 : 0 ≤ r.getD 0 0 ∧ r.getD 0 0 ≤ 2 := by simpa [inB] using this.2.1
        omega))
    have H1 := Lib.hid h1
    have H2 := Lib.hid h2
    have H3 := Lib.hid h3
    clear h1 h2 h3
    by_cases hlm : m < len
    · obtain ⟨b', off', r, a2, l2, c2, rfl, hy, hd, hlc2, hi⟩ := h.get hlm
      have HY := Lib.hid hy
      have HIL := Lib.hid hi.lenEq
      have his := hi.small
      clear hy
      by_cases hl2 : l2 = 2
      · subst hl2
        obtain ⟨b2, off2, x, rfl, hx0, hc0⟩ := hi.get (k := 0) (by omega)
        obtain ⟨b3, off3, y, e3, hy1, hc1⟩ := hi.get (k := 1) (by omega)
        cases e3
        rw [Nat.add_zero] at hc0
        have HX0 := Lib.hid (show r.getD 0 0 = x by rw [List.getD_eq_getElem?_getD, hx0]; rfl)
        have HY1 := Lib.hid (show r.getD 1 0 = y by rw [List.getD_eq_getElem?_getD, hy1]; rfl)
        clear hx0 hy1
        cases hq : inB 0 2 x
        · go_wp2_with first | (go_at_call 49; refine (isUpTo_any _ _ _).mono ?_; rintro e w' ⟨rfl, rfl⟩)
          go_ret
          exact ⟨ret_bool (by rw [sjob_step HY.out (by unfold stepB; rw [HX0.out, hq]; simp)]), rfl⟩
        · cases hq2 : inB 1 9 y
          · go_wp2_with first | (go_at_call 49; refine (isUpTo_any _ _ _).mono ?_; rintro e w' ⟨rfl, rfl⟩) | (go_at_call 56; refine (from1_any _ _ _).mono ?_; rintro e w' ⟨rfl, rfl⟩)
            go_ret
            exact ⟨ret_bool (by rw [sjob_step HY.out (by unfold stepB; rw [HY1.out, hq2]; simp)]), rfl⟩
          · have hxb : 0 ≤ x ∧ x ≤ 2 := by simpa [inB] using hq
            obtain ⟨q, rfl⟩ : ∃ q : Nat, x = (q : Int) := ⟨x.toNat, by omega⟩
            have HIN := Lib.hid (fun w => isIn7_any D q (by omega) (by omega) w)
            have HSB := Lib.hid (show stepB r = true by unfold stepB; rw [HX0.out, HY1.out, hq, hq2, HIL.out]; rfl)
            by_cases hmm : (q : Int) ∈ machsOf (job.take m)
            · have HB := Lib.hid (show sb7 D q = true by unfold sb7; rw [H3.out, decide_eq_true hmm])
              have HM := Lib.hid hmm
              clear hmm
              go_wp2_with first | (go_at_call 49; refine (isUpTo_any _ _ _).mono ?_; rintro e w' ⟨rfl, rfl⟩) | (go_at_call 56; refine (from1_any _ _ _).mono ?_; rintro e w' ⟨rfl, rfl⟩) | (go_at_call 57; refine (HIN.out _).mono ?_; rintro e w' ⟨rfl, rfl⟩; rw [HB.out])
              go_ret
              exact ⟨ret_bool (by rw [sjob_twice HY.out (by rw [HX0.out]; exact HM.out)]), rfl⟩
            · have HB := Lib.hid (show sb7 D q = false by unfold sb7; rw [H3.out, decide_eq_false hmm])
              have HM := Lib.hid hmm
              have HDQ := Lib.hid (shl_or hD (show q ≤ 2 by omega))
              clear hmm
              go_wp2_with first | (go_at_call 49; refine (isUpTo_any _ _ _).mono ?_; rintro e w' ⟨rfl, rfl⟩) | (go_at_call 56; refine (from1_any _ _ _).mono ?_; rintro e w' ⟨rfl, rfl⟩) | (go_at_call 57; refine (HIN.out _).mono ?_; rintro e w' ⟨rfl, rfl⟩; rw [HB.out])
              go_round
              case rel => exact ⟨m + 1, D ||| 2 ^ q, by omega, by go_num, by rw [← HDQ.out], by
                rw [take_get HY.out, List.all_append, H1.out]; simp only [List.all_cons, HSB.out, List.all_nil, Bool.and_true], by
                rw [take_get HY.out]
                simp only [machsOf, List.map_append, List.map_cons, List.map_nil]
                rw [HX0.out]
                exact (List.perm_append_singleton _ _).symm.nodup (List.nodup_cons.2 ⟨HM.out, H2.out⟩), fun i => by
                rw [Nat.testBit_or, Nat.testBit_two_pow, H3.out, take_get HY.out, Bool.eq_iff_iff]
                simp only [machsOf, List.map_append, List.map_cons, List.map_nil, Bool.or_eq_true, decide_eq_true_eq, List.mem_append, List.mem_singleton]
                rw [HX0.out]
                constructor
                · rintro (h | h)
                  · exact .inl (of_decide_eq_true h)
                  · right; omega
                · rintro (h | h)
                  · exact .inl (decide_eq_true h)
                  · right; omega⟩
              case measure => simp [intOf]; omega
      · have hle : ((l2 : Int) != 2) = true := by simp; omega
        go_wp2
        go_ret
        exact ⟨ret_bool (by rw [sjob_step HY.out (by unfold stepB; rw [HIL.out, beq_eq_false_iff_ne.2 hl2]; rfl)]), rfl⟩
    · go_wp2
      go_ret
      have hb := H1.out
      have hb2 := H2.out
      rw [List.take_of_length_le (by rw [HL.out]; omega)] at hb hb2
      exact ⟨ret_bool (by unfold sjobB; rw [hb, decide_eq_true hb2]; rfl), rfl⟩
set_option maxRecDepth 100000 in
set_option maxHeartbeats 4000000 in
theorem validShop_impl (S : Nat → Prop) (a : Option Addr) (len cap : Nat) (shop : List (List (List Int))) (w : World) (h : ShopAt w S a len shop) (hc : len ≤ cap) :
    Calls Try.prog 26 #[.slice a len cap] w fun e w' => e = .returned (.bool (shopM shop)) ∧ Drew w w' := by
  have hs := h.small
  have HL := Lib.hid h.lenEq
  go_enter Try.func26, Try.ntmps26
  by_cases hl3 : len ≤ 3
  · have hg : ¬ (3 : Int) < (len : Int) := by omega
    go_wp2
    go_loop [10] (fun i => ∃ k : Nat, k ≤ len ∧ i = .int .i64 k ∧ (shop.take k).all sjobB = true) (fun i => len - (intOf i).toNat)
    case atStart => exact ⟨0, Nat.zero_le _, rfl, rfl⟩
    case round =>
      obtain ⟨k, hk, rfl, ha⟩ := hrel
      have HA := Lib.hid ha
      clear ha
      by_cases hlt : k < len
      · obtain ⟨b, off, job, a', l, c, rfl, hx, hcc, hlc, hr⟩ := h.get hlt
        have HX := Lib.hid hx
        clear hx
        have HC := Lib.hid (fun w h => areSteps_any S a' l c job w h hlc)
        cases hq : sjobB job
        · go_wp2_with first | (go_at_call 46; refine (HC.out _ hr).mono ?_; rintro e w' ⟨rfl, rfl⟩; rw [hq])
          go_ret
          exact ⟨ret_bool (by rw [shop_false HX.out hq]), Drew.refl _⟩
        · go_wp2_with first | (go_at_call 46; refine (HC.out _ hr).mono ?_; rintro e w' ⟨rfl, rfl⟩; rw [hq])
          go_round
          case rel => exact ⟨k + 1, by omega, by go_num, by rw [take_get HX.out, List.all_append, HA.out]; simp only [List.all_cons, hq, List.all_nil, Bool.and_true]⟩
          case measure => simp [intOf]; omega
      · go_wp2
        go_ret
        have ha := HA.out
        have hl := HL.out
        rw [List.take_of_length_le (by omega)] at ha
        exact ⟨ret_bool (by rw [shopM, ha, hl, Bool.true_and]; exact (decide_eq_true (by omega)).symm), Drew.refl _⟩
  · have hg : (3 : Int) < (len : Int) := by omega
    go_wp2
    go_ret
    exact ⟨ret_bool (by rw [shopM, HL.out, decide_eq_false hl3, Bool.and_false]), Drew.refl _⟩
end Go.Proofs.Ythmlgicjedhgfab
namespace Go.Proofs.Ythmlgicjedhgfab
open Go.RowKit Go.WideShapes

-- blocks, whole
theorem heap_set {w : World} {b i : Nat} {cs : Array Value} {t : TypeId} {fr : Nat × Nat} (h : w.heap[b]? = some (.cells cs t fr)) (v : Value) :
    (w.setCell ⟨b, i, none⟩ v).heap[b]? = some (.cells (cs.setIfInBounds i v) t fr) := by
  simp [World.setCell, Array.getElem?_modify, h]
theorem heap_set_ne {w : World} {b c i : Nat} (h : c ≠ b) (v : Value) : (w.setCell ⟨b, i, none⟩ v).heap[c]? = w.heap[c]? := Below.heap_setCell _ _ _ _ h
theorem frozen_row {w : World} {b : Nat} {cs : Array Value} {t : TypeId} (h : w.heap[b]? = some (.cells cs t (0, 0))) (i : Nat) : w.frozen? ⟨b, i, none⟩ = false := by
  simp [World.frozen?, h]
theorem ne_type {w : World} {b c : Nat} {cs ds : Array Value} {t u : TypeId} {fr gr : Nat × Nat} (h : w.heap[b]? = some (.cells cs t fr)) (g : w.heap[c]? = some (.cells ds u gr)) (hn : t ≠ u) : b ≠ c := by
  rintro rfl
  rw [h] at g
  simp only [Option.some.injEq, Obj.cells.injEq] at g
  exact hn g.2.1
theorem lt_heap {w : World} {b : Nat} {o : Obj} (h : w.heap[b]? = some o) : b < w.heap.size := (Array.getElem?_eq_some_iff.1 h).1

def tabV (f : Nat → Value) (n : Nat) : Array Value := ((List.range n).map f).toArray
theorem tabV_get (f : Nat → Value) {n j : Nat} (h : j < n) : (tabV f n)[j]? = some (f j) := by simp [tabV, h]
theorem tabV_congr {f g : Nat → Value} {n : Nat} (h : ∀ j, j < n → f j = g j) : tabV f n = tabV g n := by
  unfold tabV
  rw [List.map_congr_left fun j hj => h j (List.mem_range.1 hj)]
theorem tabV_set (f : Nat → Value) (n j : Nat) (v : Value) : (tabV f n).setIfInBounds j v = tabV (setN f j v) n := by
  apply Array.ext_getElem?
  intro i
  rw [Array.getElem?_setIfInBounds]
  by_cases hi : i < n
  · rw [tabV_get _ hi, tabV_get _ hi]
    by_cases e : j = i
    · subst e; rw [if_pos rfl, setN_at, if_pos (by simp [tabV, hi])]
    · rw [if_neg e, setN_ne _ _ (fun h => e h.symm)]
  · have h1 : (tabV f n)[i]? = none := by simp [tabV]; omega
    have h2 : (tabV (setN f j v) n)[i]? = none := by simp [tabV]; omega
    rw [h1, h2]
    split
    · rw [if_neg (by simp [tabV]; omega)]
    · rfl
end Go.Proofs.Ythmlgicjedhgfab
namespace Go.Proofs.Ythmlgicjedhgfab
open Go.RowKit Go.WideShapes

/-- the call's own array of three ints -/
structure Own3 (w wr : World) (f : Nat → Int) : Prop where
  own : wr.heap[w.heap.size]? = some (.cells (tabV (fun j => .int .i64 (f j)) 3) 53 (0, 0))
  below : Below w.heap.size w wr
theorem Own3.start (w : World) (f : Nat → Int) (h : ∀ j, j < 3 → f j = 0) : Own3 w (w.alloc (.cells #[.int .i64 0, .int .i64 0, .int .i64 0] 53)) f := by
  refine ⟨?_, (Below.refl _ _).alloc (Nat.le_refl _) _⟩
  rw [heap_alloc_new]
  show _ = some (Obj.cells #[.int .i64 (f 0), .int .i64 (f 1), .int .i64 (f 2)] _ _)
  rw [h 0 (by omega), h 1 (by omega), h 2 (by omega)]
theorem Own3.cell {w wr : World} {f : Nat → Int} (h : Own3 w wr f) {q : Nat} (hq : q < 3) : wr.cell? ⟨w.heap.size, q, none⟩ = some (.int .i64 (f q)) ∧ wr.frozen? ⟨w.heap.size, q, none⟩ = false :=
  ⟨by rw [cell_of_row _ _ _ _ _ _ h.own, tabV_get _ hq], frozen_row h.own q⟩
theorem Own3.put {w wr : World} {f g : Nat → Int} (h : Own3 w wr f) (k : Nat) (v : Int) (e : ∀ q, q < 3 → g q = if q = k then v else f q) : Own3 w (wr.setCell ⟨w.heap.size, k, none⟩ (.int .i64 v)) g := by
  refine ⟨?_, h.below.setCell (Nat.le_refl _) _⟩
  rw [heap_set h.own, tabV_set]
  rw [tabV_congr (g := fun j => .int .i64 (g j)) fun q hq => ?_]
  rw [e q hq]
  unfold setN
  split <;> rfl
theorem Own3.drew {w wr : World} {f : Nat → Int} (h : Own3 w wr f) (n : Nat) : Own3 w (wr.drewN n) f := ⟨h.own, h.below.trans (Drew.below (w := wr) (wr := wr.drewN n) ⟨n, rfl⟩ _)⟩
theorem Own3.congr {w wr : World} {f g : Nat → Int} (h : Own3 w wr f) (e : ∀ q, f q = g q) : Own3 w wr g := by
  have : f = g := funext e
  subst this; exact h
def mx3 (x y z : Int) (k : Nat) : Int := if k = 1 then x else if k = 2 then (if x < y then y else x) else (if (if x < y then y else x) < z then z else (if x < y then y else x))
set_option maxRecDepth 100000 in
set_option maxHeartbeats 4000000 in
theorem max3_any (b cap : Nat) (x y z : Int) (w : World) (h0 : w.cell? ⟨b, 0, none⟩ = some (.int .i64 x)) (h1 : w.cell? ⟨b, 1, none⟩ = some (.int .i64 y)) (h2 : w.cell? ⟨b, 2, none⟩ = some (.int .i64 z)) :
    Calls Try.prog 38 #[.slice (some ⟨b, 0, none⟩) 3 cap] w fun e w' => e = .returned (.int .i64 (mx3 x y z 3)) ∧ w = w' := by
  go_enter Try.func38, Try.ntmps38
  go_wp2
  go_loop [3, 4] (fun o i => ∃ k : Nat, 1 ≤ k ∧ k ≤ 3 ∧ i = .int .i64 k ∧ o = .int .i64 (mx3 x y z k)) (fun _ i => 3 - (intOf i).toNat)
  case atStart => exact ⟨1, Nat.le_refl _, by omega, rfl, rfl⟩
  case round =>
    obtain ⟨k, hk1, hk3, rfl, rfl⟩ := hrel
    have : k = 1 ∨ k = 2 ∨ k = 3 := by omega
    rcases this with rfl | rfl | rfl
    · have e1 : mx3 x y z 1 = x := rfl
      rw [e1]
      go_wp2
      go_round
      case rel => exact ⟨2, by omega, by omega, by go_num, rfl⟩
      case measure => simp [intOf]
    · have e2 : (if mx3 x y z 2 < z then z else mx3 x y z 2) = mx3 x y z 3 := rfl
      have E2 := Lib.hid e2
      clear e2
      generalize mx3 x y z 2 = u at E2 ⊢
      go_wp2
      go_round
      case rel => exact ⟨3, by omega, by omega, by go_num, by rw [← E2.out]⟩
      case measure => simp [intOf]
    · generalize hu : mx3 x y z 3 = u
      go_wp2
      go_ret
      exact ⟨rfl, rfl⟩
theorem max3_is (x y z s : Int) : max s (mx3 x y z 3) = max (max (max s x) y) z := by
  show max s (if (if x < y then y else x) < z then z else (if x < y then y else x)) = _
  split <;> split <;> omega
theorem on_bd7 {shop : List (List (List Int))} (hv : shopM shop = true) {n : Nat} (hn : n ≤ 3) (M : Nat) : 0 ≤ onS shop n M ∧ onS shop n M ≤ 108 := by
  have := on_bd hv hn (Nat.zero_le 3) M
  rwa [show stepsJ n 0 = [] from rfl, List.append_nil] at this
theorem mx3_bd {x y z : Int} (hx : 0 ≤ x ∧ x ≤ 108) (hy : 0 ≤ y ∧ y ≤ 108) (hz : 0 ≤ z ∧ z ≤ 108) : 0 ≤ mx3 x y z 3 ∧ mx3 x y z 3 ≤ 108 := by
  show 0 ≤ (if (if x < y then y else x) < z then z else (if x < y then y else x)) ∧ (if (if x < y then y else x) < z then z else (if x < y then y else x)) ≤ 108
  split <;> split <;> omega
set_option maxRecDepth 100000 in
set_option maxHeartbeats 4000000 in
theorem leastShop_impl (a : Option Addr) (len cap : Nat) (shop : List (List (List Int))) (w : World) (h : ShopAt w (· < w.heap.size) a len shop) (hc : len ≤ cap) :
    Calls Try.prog 11 #[.slice a len cap] w fun e w' => e = .returned (.int .i64 (leastRes7 shop)) ∧ Below w.heap.size w w' := by
  go_enter Try.func11, Try.ntmps11
  go_wp2_with fail
  refine (validShop_impl _ a len cap shop w h hc).mono ?_
  rintro e w0 ⟨rfl, hd0⟩
  cases hv : shopM shop
  · go_wp2_with fail
    go_ret
    exact ⟨ret_int (by unfold leastRes7; rw [hv]; rfl), hd0.below _⟩
  · have HV := Lib.hid hv
    have HL := Lib.hid h.lenEq
    have hl3 : len ≤ 3 := by have := (shop_get hv).1; have := HL.out; omega
    have h0 : ShopAt w0 (· < w0.heap.size) a len shop := by have e := hd0.size; rw [e]; exact Drew.shop h hd0
    have HW := Lib.hid (show w.heap.size = w0.heap.size ∧ ∀ w', Below w0.heap.size w0 w' → Below w.heap.size w w' from ⟨hd0.size.symm, fun w' hb => by have e := hd0.size; rw [e] at hb; exact (hd0.below _).trans hb⟩)
    have HO0 := Lib.hid (Own3.start w0 (fun M => onS shop 0 M) (fun q hq => rfl))
    clear hv h hd0
    go_wp2_with fail
    go_loopw [3, 15] (fun o i wr => ∃ k : Nat, k ≤ len ∧ i = .int .i64 k ∧ o = .int .i64 (leastJ shop k) ∧ Own3 w0 wr (fun M => onS shop k M)) (fun _ i _ => len - (intOf i).toNat)
    case atStart => exact ⟨0, Nat.zero_le _, rfl, rfl, HO0.out⟩
    case round =>
      clear HO0
      obtain ⟨k, hk, rfl, rfl, hC⟩ := hrel
      obtain ⟨wo, rfl⟩ : ∃ wo : World, wo = wr := ⟨_, rfl⟩
      by_cases hlt : k < len
      · have HC0 := Lib.hid (hC.congr (g := fun M => onM (smach shop) (stime shop) M (stepsL shop k ++ stepsJ k 0)) (fun M => by show _ = onM _ _ _ (stepsL shop k ++ []); rw [List.append_nil]; rfl))
        obtain ⟨b, off, job, a', l, c, rfl, hx, hcc, hlc, hr⟩ := (h0.below hC.below).get hlt
        have hsl : l = slen shop k := by unfold slen; rw [List.getD_eq_getElem?_getD, hx]; exact hr.lenEq.symm
        subst hsl
        have HBO := Lib.hid hC.below
        have HBS := Lib.hid (show b < w0.heap.size from h0.mem (by omega))
        have HCC := Lib.hid hcc
        clear hC hx
        have HSL := Lib.hid (slen_le HV.out k)
        go_wp2_with fail
        go_loopw [7, 21] (fun o i wr => ∃ m : Nat, m ≤ slen shop k ∧ i = .int .i64 m ∧ o = .int .i64 (stepsTo (stime shop) k m) ∧ Own3 w0 wr (fun M => onM (smach shop) (stime shop) M (stepsL shop k ++ stepsJ k m))) (fun _ i _ => slen shop k - (intOf i).toNat)
        case atStart => exact ⟨0, Nat.zero_le _, rfl, rfl, HC0.out⟩
        case round =>
          clear HC0
          obtain ⟨m, hm, rfl, rfl, hC⟩ := hrel
          obtain ⟨wi, rfl⟩ : ∃ wi : World, wi = wr := ⟨_, rfl⟩
          by_cases hml : m < slen shop k
          · obtain ⟨b', off', b1, off1, c1, b2, off2, c2, e3, q1, q2, q3, q4, q5, q6⟩ := step_at (h0.below hC.below) HV.out hlt hml
            cases e3
            have ea : Value.slice a' (slen shop k) c = .slice (some ⟨b1, off1, none⟩) (slen shop k) c1 := by
              have x1 := hC.below.cell (p := ⟨b, off + k, none⟩) HBS.out
              have x2 := HBO.out.cell (p := ⟨b, off + k, none⟩) HBS.out
              rw [q1] at x1
              rw [HCC.out, ← x1] at x2
              exact Option.some.inj x2
            simp only [Value.slice.injEq, true_and] at ea
            obtain ⟨rfl, rfl⟩ := ea
            have hM := smach_lt HV.out k m
            obtain ⟨e1, f1⟩ := hC.cell (q := smach shop k m) hM
            have ht := stime_bd HV.out k m
            have hon := on_bd HV.out (show k ≤ 3 by omega) (show m ≤ 3 by have := HSL.out; omega) (smach shop k m)
            have hst := stepsTo_le (fun j k => stime_bd HV.out j k) k m
            have hst0 := stepsTo_nn (fun j k => (stime_bd HV.out j k).1) k m
            have hs3 := HSL.out
            have HST := Lib.hid (show stepsTo (stime shop) k (m + 1) = stepsTo (stime shop) k m + stime shop k m from rfl)
            have HON := Lib.hid (show ∀ M, onM (smach shop) (stime shop) M (stepsL shop k ++ stepsJ k (m + 1)) = onM (smach shop) (stime shop) M (stepsL shop k ++ stepsJ k m) + (if smach shop k m = M then stime shop k m else 0) from fun M => by
              rw [stepsJ_succ, ← List.append_assoc, onM_snoc])
            have HC := Lib.hid hC
            clear hC
            obtain ⟨sl, hsl⟩ : ∃ sl, slen shop k = sl := ⟨_, rfl⟩
            rw [hsl] at hml q1 q2 hs3 ⊢
            have HSE := Lib.hid hsl
            clear hsl
            obtain ⟨MM, hMM⟩ : ∃ MM, smach shop k m = MM := ⟨_, rfl⟩
            obtain ⟨tt, htt⟩ : ∃ tt, stime shop k m = tt := ⟨_, rfl⟩
            obtain ⟨uu, huu⟩ : ∃ uu, stepsTo (stime shop) k m = uu := ⟨_, rfl⟩
            rw [hMM] at hM e1 f1 hon q5 HON
            obtain ⟨oo, hoo⟩ : ∃ oo, onM (smach shop) (stime shop) MM (stepsL shop k ++ stepsJ k m) = oo := ⟨_, rfl⟩
            rw [hoo] at e1 hon
            rw [htt] at ht q6 HST HON
            rw [huu] at hst hst0 HST ⊢
            have HOO := Lib.hid hoo
            clear hMM htt huu hoo
            have hM2 : (MM : Int) < 3 := by omega
            go_wp2_with fail
            go_still_tail 10, (by kernel_rfl)
            go_wp2
            go_roundw
            case rel => exact ⟨m + 1, by omega, by go_num, by rw [HST.out], ((HC.out.drew 1).put MM (oo + tt) (fun z _ => by
              rw [HON.out]
              by_cases e : z = MM
              · subst e; rw [if_pos rfl, if_pos rfl, HOO.out]
              · rw [if_neg e, if_neg (fun e' => e e'.symm), Int.add_zero]))⟩
            case measure => simp [intOf]; omega
          · obtain rfl : m = slen shop k := by omega
            have hj := leastJ_bd HV.out k
            have hst := stepsTo_le (fun j k => stime_bd HV.out j k) k (slen shop k)
            have hs3 := HSL.out
            have HC := Lib.hid (show Own3 w0 wi (fun M => onS shop (k + 1) M) from hC)
            clear hC hr
            have HJ := Lib.hid (show leastJ shop (k + 1) = max (leastJ shop k) (stepsTo (stime shop) k (slen shop k)) from rfl)
            generalize stepsTo (stime shop) k (slen shop k) = uu at hst HJ ⊢
            generalize hjj : leastJ shop k = jj at hj HJ ⊢
            have HMX := Lib.hid (show max jj uu = if jj < uu then uu else jj by split <;> omega)
            generalize slen shop k = sl at *
            go_wp2_with fail
            go_roundw
            case rel => exact ⟨k + 1, by omega, by go_num, by rw [HJ.out, HMX.out], HC.out⟩
            case measure => simp [intOf]; omega
      · obtain rfl : k = len := by omega
        have HB := Lib.hid hC.below
        have c0 := (hC.cell (q := 0) (by omega)).1
        have c1 := (hC.cell (q := 1) (by omega)).1
        have c2 := (hC.cell (q := 2) (by omega)).1
        have b0 := on_bd7 HV.out hl3 0
        have b1 := on_bd7 HV.out hl3 1
        have b2 := on_bd7 HV.out hl3 2
        clear hC
        have hj := leastJ_bd HV.out k
        have HF := Lib.hid (show leastRes7 shop = max (max (max (leastJ shop k) (onS shop k 0)) (onS shop k 1)) (onS shop k 2) by unfold leastRes7 leastM; rw [HV.out, HL.out]; rfl)
        have HMB := Lib.hid (mx3_bd b0 b1 b2)
        have HMI := Lib.hid (max3_is (onS shop k 0) (onS shop k 1) (onS shop k 2) (leastJ shop k))
        have HMC := Lib.hid (fun cap => max3_any _ cap _ _ _ _ c0 c1 c2)
        generalize mx3 (onS shop k 0) (onS shop k 1) (onS shop k 2) 3 = mm at HMB HMI HMC
        generalize leastJ shop k = jj at hj HF HMI ⊢
        have HMX := Lib.hid (show max jj mm = if jj < mm then mm else jj by split <;> omega)
        clear c0 c1 c2
        by_cases hjm : jj < mm
        · go_wp2_with (go_at_call 38; refine (HMC.out _).mono ?_; rintro e w' ⟨rfl, rfl⟩)
          go_ret
          exact ⟨ret_int (by rw [HF.out, ← HMI.out, HMX.out, if_pos hjm]), HW.out.2 _ HB.out⟩
        · go_wp2_with (go_at_call 38; refine (HMC.out _).mono ?_; rintro e w' ⟨rfl, rfl⟩)
          go_ret
          exact ⟨ret_int (by rw [HF.out, ← HMI.out, HMX.out, if_neg (by omega)]), HW.out.2 _ HB.out⟩
end Go.Proofs.Ythmlgicjedhgfab
namespace Go.Proofs.Ythmlgicjedhgfab
open Go.RowKit Go.WideShapes

/-- append of a list that may be empty, at whatever address, to a list of the call's own -/
theorem wpAppAny {ops : Array Oper} {rest : List Oper} {o : Oper} {a : Act} {Q : Exit → Act → World → Prop} {wo : World} (hgd : o.guard = none) (s x : Operand)
    (ho : o.op = .call { callee := .builtin .append, args := #[s, x], argTypes := #[24, 24] })
    (base k cp : Nat) (ax : Option Addr) (xs : List Int) (S : Nat → Prop) (ay : Option Addr) (m c : Nat) (ys : List Int) (hs : a.eval s = .slice ax k cp)
    (hown : wo.ownsRow base 3 1 (.slice ax k cp) k (xs.map (.int .i64))) (hx : a.eval x = .slice ay m c) (hy : IntsAt wo S ay m ys)
    (hbase : base ≤ wo.heap.size) (hk : k + m ≤ 1048576)
    (h : ∀ (a6 : Option Addr) (c6 : Nat) (w' : World), w'.ownsRow base 3 1 (.slice a6 (k + m) c6) (k + m) ((xs ++ ys).map (.int .i64)) → k + m ≤ c6 → wo.grownBy w' (Value.slice ax k cp).ownBlock →
      wpList Try.prog ops Q rest (a.put o.dst (.slice a6 (k + m) c6)) w') :
    wpList Try.prog ops Q (o :: rest) a wo := by
  by_cases hm : 0 < m
  · obtain ⟨b, off, rfl, _, _⟩ := hy.cells hm
    exact wpAppN hgd s x ho base k cp ax xs S b off m c ys hs hown hx hy hbase hk (fun a6 c6 w' h1 h2 h3 => h a6 c6 w' (by rw [List.map_append]; exact h1) h2 h3)
  · obtain rfl : m = 0 := by omega
    have hy0 : ys = [] := List.eq_nil_of_length_eq_zero hy.lenEq
    subst hy0
    obtain ⟨a', cp', e, hle⟩ := own_slice hown
    injection e with _ _ e2
    subst e2
    obtain ⟨i0, hi, hz0, hz1, hz2⟩ := info_parts Try.infoIntO
    have hsrc : Src Try.prog i0.size 24 (.slice ay 0 c) 0 [] wo := by
      cases ay with
      | none => exact Src.ofNil wo Try.underlying24 c
      | some ad => exact Src.ofSlice wo Try.underlying24 ad 0 c [] (by simp) (fun j u hj => by simp at hj) (fun u hu => by cases hu)
    have hrun := run_append_nothing (P := Try.prog) wo 24 24 o.type 3 i0 Try.underlying24 hi ax k cp hle (.slice ay 0 c) hsrc
    refine wpList_plain hgd fun K hK => ?_
    unfold Oper.wp
    simp [execOp, ho, resolve, invoke, builtin, hs, hx, hrun, Result.andThen]
    exact hK _ _ (h ax cp wo (by rw [List.append_nil]; exact hown) hle (grown_refl _ _))
end Go.Proofs.Ythmlgicjedhgfab
