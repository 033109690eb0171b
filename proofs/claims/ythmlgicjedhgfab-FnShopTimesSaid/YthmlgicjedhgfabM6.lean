import Derived.Test.YthmlgicjedhgfabRows
import Derived.WalkKit
import Derived.ProofKit
import Derived.WalkSpells
import Derived.WalkLawsBesides
import Derived.Lib.Hide
import Derived.Test.YthmlgicjedhgfabM0
import Derived.Test.YthmlgicjedhgfabM1
import Derived.Test.YthmlgicjedhgfabM2
import Derived.Test.YthmlgicjedhgfabM5
import Derived.LoopTactic
import Derived.Outline
import Derived.IntWalk
import Derived.StillTailTactics
import Derived.BigQuiet
import Derived.RegionTactic
import Derived.BigRegion
namespace Go.Proofs.Ythmlgicjedhgfab
open Go.RowKit Go.WideShapes

/-- append of one int to a list of the call's own -/
theorem wpApp1 {ops : Array Oper} {rest : List Oper} {o : Oper} {a : Act} {Q : Exit → Act → World → Prop} {wo : World} (hgd : o.guard = none) (s x : Operand)
    (ho : o.op = .call { callee := .builtin .append, args := #[s, x], argTypes := #[24, 24] })
    (base k cp : Nat) (ax : Option Addr) (xs : List Int) (v : Int) (hs : a.eval s = .slice ax k cp)
    (hown : wo.ownsRow base 3 1 (.slice ax k cp) k (xs.map (.int .i64))) (hx : a.eval x = .slice (some ⟨wo.heap.size, 0, none⟩) 1 1)
    (hbase : base ≤ wo.heap.size) (hk : k ≤ 1048576)
    (h : ∀ (a6 : Option Addr) (c6 : Nat) (w' : World), w'.ownsRow base 3 1 (.slice a6 (k + 1) c6) (k + 1) (xs.map (.int .i64) ++ [.int .i64 v]) → k + 1 ≤ c6 → wo.grownBy w' (Value.slice ax k cp).ownBlock →
      wpList Try.prog ops Q rest (a.put o.dst (.slice a6 (k + 1) c6)) w') :
    wpList Try.prog ops Q (o :: rest) a (wo.alloc (.cells #[.int .i64 v] 3)) := by
  obtain ⟨i0, hi, hz0, hz1, hz2⟩ := info_parts Try.infoIntO
  refine wpList_append_own _ hgd s x 24 ho base 3 i0 (.int .i64 0) 1 8 Try.underlying24 hi hz0 hz1 hz2 rfl (by decide) _ k _ hs (hown.alloc _) ⟨wo.heap.size, 0, none⟩ 1 1 [.int .i64 v] hx rfl (one_new _ _ _) (one_cell_int _ _) (by unfold maxLen; omega) (by omega) (by simp; omega) ?_
  intro v' w6 hown6 hgrow _
  obtain ⟨a6, c6, rfl, hc⟩ := own_slice hown6
  exact h a6 c6 w6 hown6 hc (grown_comp (World.grownBy_alloc wo _ _) hgrow)
/-- append of a list to a list of the call's own -/
theorem wpAppN {ops : Array Oper} {rest : List Oper} {o : Oper} {a : Act} {Q : Exit → Act → World → Prop} {wo : World} (hgd : o.guard = none) (s x : Operand)
    (ho : o.op = .call { callee := .builtin .append, args := #[s, x], argTypes := #[24, 24] })
    (base k cp : Nat) (ax : Option Addr) (xs : List Int) (S : Nat → Prop) (b off m c : Nat) (ys : List Int) (hs : a.eval s = .slice ax k cp)
    (hown : wo.ownsRow base 3 1 (.slice ax k cp) k (xs.map (.int .i64))) (hx : a.eval x = .slice (some ⟨b, off, none⟩) m c) (hy : IntsAt wo S (some ⟨b, off, none⟩) m ys)
    (hbase : base ≤ wo.heap.size) (hk : k + m ≤ 1048576)
    (h : ∀ (a6 : Option Addr) (c6 : Nat) (w' : World), w'.ownsRow base 3 1 (.slice a6 (k + m) c6) (k + m) (xs.map (.int .i64) ++ ys.map (.int .i64)) → k + m ≤ c6 → wo.grownBy w' (Value.slice ax k cp).ownBlock →
      wpList Try.prog ops Q rest (a.put o.dst (.slice a6 (k + m) c6)) w') :
    wpList Try.prog ops Q (o :: rest) a wo := by
  obtain ⟨i0, hi, hz0, hz1, hz2⟩ := info_parts Try.infoIntO
  refine wpList_append_own _ hgd s x 24 ho base 3 i0 (.int .i64 0) 1 8 Try.underlying24 hi hz0 hz1 hz2 rfl (by decide) _ k _ hs hown ⟨b, off, none⟩ m c (ys.map (.int .i64)) hx (by simp [hy.lenEq]) ?_ ?_ (by unfold maxLen; omega) (by omega) hbase ?_
  · intro j u hj
    rw [List.getElem?_map] at hj
    cases hq : ys[j]? with
    | none => rw [hq] at hj; cases hj
    | some z =>
      rw [hq] at hj
      simp only [Option.map_some, Option.some.injEq] at hj
      have hlt : j < ys.length := (List.getElem?_eq_some_iff.1 hq).1
      obtain ⟨b', off', e, _, hc⟩ := hy.cells (by have := hy.lenEq; omega)
      cases e
      rw [add_plain, hc _ _ hq, ← hj]
  · intro u hu
    obtain ⟨x, _, rfl⟩ := List.mem_map.1 hu
    rfl
  intro v' w6 hown6 hgrow _
  obtain ⟨a6, c6, rfl, hc⟩ := own_slice hown6
  exact h a6 c6 w6 hown6 hc hgrow
theorem own_block {w : World} {B e s n : Nat} {v : Value} {xs : List Value} (h : w.ownsRow B e s v n xs) : ∀ k, v.ownBlock = some k → B ≤ k := fun k e => (h.lt k e).1
theorem own_snoc {w : World} {B n : Nat} {u : Value} {xs : List Int} {x : Int} (h : w.ownsRow B 3 1 u n (xs.map (.int .i64) ++ [.int .i64 x])) : w.ownsRow B 3 1 u n ((xs ++ [x]).map (.int .i64)) := by
  rw [List.map_append]; exact h
end Go.Proofs.Ythmlgicjedhgfab
namespace Go.Proofs.Ythmlgicjedhgfab
open Go.RowKit Go.WideShapes

def bI (x j : Nat) : Int := if x.testBit j then 1 else 0
theorem bI_bd (x j : Nat) : 0 ≤ bI x j ∧ bI x j ≤ 1 := by unfold bI; split <;> omega
theorem bit_at (x j : Nat) (hx : x ≤ 1048576) (hj : j ≤ 20) (w : World) :
    Calls Try.prog 52 #[.int .i64 x, .int .i64 j] w fun e w' => e = .returned (.int .i64 (bI x j)) ∧ w = w' := by
  have hb := p2_bd hj
  have HB := Lib.hid (show bI x j = (x : Int) / ((2 ^ j : Nat) : Int) % 2 by
    have := bitN_test x j; unfold bitN at this; unfold bI; rw [show (x : Int) / ((2 ^ j : Nat) : Int) % 2 = ((x / 2 ^ j % 2 : Nat) : Int) by push_cast; rfl, this]; split <;> rfl)
  have HP := Lib.hid (powV_eq j hj)
  go_enter Try.func52, Try.ntmps52
  go_wp2_with fail
  refine (power_all j (by omega) w).mono ?_
  rintro e w' ⟨rfl, rfl⟩
  rw [HP.out]
  generalize 2 ^ j = p at hb HB ⊢
  have h1 : 0 ≤ (x : Int) / (p : Int) := Int.ediv_nonneg (by omega) (by omega)
  have h2 : (x : Int) / (p : Int) ≤ x := Int.ediv_le_self _ (by omega)
  go_wp2
  go_ret
  exact ⟨ret_int HB.out.symm, rfl⟩
theorem csum_range {T : List Int} (hT : ∀ k, 0 ≤ T.getD k 0 ∧ T.getD k 0 ≤ 9) (P : Nat → Bool) : ∀ n : Nat, 0 ≤ csum T P n ∧ csum T P n ≤ 9 * (n : Int)
  | 0 => by simp [csum]
  | n + 1 => by have := csum_range hT P n; have := hT n; rw [csum]; push_cast; split <;> omega
def natsOf (ys : List Int) : List Nat := ys.map Int.toNat
theorem natsOf_len (ys : List Int) : (natsOf ys).length = ys.length := by simp [natsOf]
theorem natsOf_get {ys : List Int} {n : Nat} (h : powIn ys n) {i : Nat} (hi : i < n) : (((natsOf ys).getD i 0 : Nat) : Int) = ys.getD i 0 := by
  have := h i hi
  simp only [natsOf, List.getD_eq_getElem?_getD, List.getElem?_map] at this ⊢
  cases hq : ys[i]? with
  | none => simp
  | some z => rw [hq] at this; simp at this ⊢; omega
theorem natsOf_lt {ys : List Int} (h : powIn ys ys.length) (i : Nat) : (natsOf ys).getD i 0 < 2 ^ i := by
  have := Nat.two_pow_pos i
  by_cases hi : i < ys.length
  · have h1 := natsOf_get h hi; have h2 := h i hi; omega
  · simp only [List.getD_eq_getElem?_getD]; rw [List.getElem?_eq_none (by rw [natsOf_len]; omega)]; simpa using this
theorem natsOf_small {ys : List Int} (h : powIn ys ys.length) {i : Nat} (hi : i ≤ 6) : (natsOf ys).getD i 0 ≤ 64 := by
  have := natsOf_lt h i; have := Nat.pow_le_pow_right (n := 2) (by omega) hi; omega
theorem natsOf_hA {ys : List Int} (h : powIn ys ys.length) : ∀ i k, ((natsOf ys).getD i 0).testBit k = true → k < i := by
  intro i k hk
  rcases Nat.lt_or_ge k i with h1 | h1
  · exact h1
  · rw [Nat.testBit_lt_two_pow (Nat.lt_of_lt_of_le (natsOf_lt h i) (Nat.pow_le_pow_right (by omega) h1))] at hk; cases hk
theorem tasks_at {T : List Int} (h : allIn 1 9 T = true) : (∀ k, 0 ≤ T.getD k 0 ∧ T.getD k 0 ≤ 9) ∧ ∀ k, k < T.length → 1 ≤ T.getD k 0 := by
  have key : ∀ k, k < T.length → 1 ≤ T.getD k 0 ∧ T.getD k 0 ≤ 9 := by
    intro k hk
    unfold allIn at h
    rw [List.all_eq_true] at h
    have := h (T.getD k 0) (by rw [List.getD_eq_getElem?_getD, List.getElem?_eq_getElem hk]; simp)
    simpa [inB] using this
  refine ⟨fun k => ?_, fun k hk => (key k hk).1⟩
  by_cases hk : k < T.length
  · have := key k hk; omega
  · rw [List.getD_eq_getElem?_getD, List.getElem?_eq_none (by omega)]; simp
end Go.Proofs.Ythmlgicjedhgfab
namespace Go.Proofs.Ythmlgicjedhgfab
open Go.RowKit Go.WideShapes

set_option maxRecDepth 100000 in
set_option maxHeartbeats 4000000 in
theorem validShop_any (S : Nat → Prop) (a : Option Addr) (len cap : Nat) (shop : List (List (List Int))) (w : World) (h : ShopAt w S a len shop) :
    Calls Try.prog 35 #[.slice a len cap] w fun e w' => e = .returned (.bool (shopM shop)) ∧ w = w' := by
  have hs := h.small
  have HL := Lib.hid h.lenEq
  go_enter Try.func35, Try.ntmps35
  go_wp2
  go_loop [3] (fun i => ∃ k : Nat, k ≤ len ∧ i = .int .i64 k ∧ (shop.take k).all sjobB = true) (fun i => len - (intOf i).toNat)
  case atStart => exact ⟨0, Nat.zero_le _, rfl, rfl⟩
  case round =>
    obtain ⟨k, hk, rfl, ha⟩ := hrel
    have HA := Lib.hid ha
    clear ha
    by_cases hlt : k < len
    · obtain ⟨b, off, job, a', l, c, rfl, hx, hc, _, hr⟩ := h.get hlt
      have HX := Lib.hid hx
      have HRL := Lib.hid hr.lenEq
      have hrs := hr.small
      clear hx
      go_wp2
      go_loop [4, 5] (fun s i => ∃ m D : Nat, m ≤ l ∧ i = .int .i64 m ∧ s = .int .i64 (D : Int) ∧ (job.take m).all stepB = true ∧ (machsOf (job.take m)).Nodup ∧ ∀ i, D.testBit i = decide ((i : Int) ∈ machsOf (job.take m))) (fun _ i => l - (intOf i).toNat)
      case atStart => exact ⟨0, 0, Nat.zero_le _, rfl, rfl, rfl, by simp [machsOf], fun i => by simp [machsOf]⟩
      case round =>
        obtain ⟨m, D, hm, rfl, rfl, h1, h2, h3⟩ := hrel
        have hD : D < 2 ^ 3 := Nat.lt_pow_two_of_testBit _ (fun i hi => by
          rw [h3]; exact decide_eq_false (fun hm => by
            obtain ⟨r, hr, e⟩ := List.mem_map.1 hm
            have := List.all_eq_true.1 h1 r hr
            simp only [stepB, Bool.and_eq_true, beq_iff_eq] at this
            have h4 : 0 ≤ r.getD 0 0 ∧ r.getD 0 0 ≤ 2 := by simpa [inB] using this.2.1
            omega))
        have H1 := Lib.hid h1
        have H2 := Lib.hid h2
        have H3 := Lib.hid h3
        clear h1 h2 h3
        by_cases hlm : m < l
        · obtain ⟨b', off', r, a2, l2, c2, rfl, hy, hd, _, hi⟩ := hr.get hlm
          have HY := Lib.hid hy
          have HIL := Lib.hid hi.lenEq
          have his := hi.small
          clear hy
          by_cases hl2 : l2 = 2
          · subst hl2
            obtain ⟨b2, off2, x, rfl, hx0, hc0⟩ := hi.get (k := 0) (by omega)
            obtain ⟨b3, off3, y, e3, hy1, hc1⟩ := hi.get (k := 1) (by omega)
            cases e3
            rw [Nat.add_zero] at hc0
            have HX0 := Lib.hid (show r.getD 0 0 = x by rw [List.getD_eq_getElem?_getD, hx0]; rfl)
            have HY1 := Lib.hid (show r.getD 1 0 = y by rw [List.getD_eq_getElem?_getD, hy1]; rfl)
            clear hx0 hy1
            cases hq : inB 0 2 x
            · go_wp2_with (go_at_call 51; refine (inRange_any _ _ _ _).mono ?_; rintro e w' ⟨rfl, rfl⟩)
              go_ret
              exact ⟨ret_bool (by rw [shop_false HX.out (sjob_step HY.out (by unfold stepB; rw [HX0.out, hq]; simp))]), rfl⟩
            · cases hq2 : inB 1 9 y
              · go_wp2_with (go_at_call 51; refine (inRange_any _ _ _ _).mono ?_; rintro e w' ⟨rfl, rfl⟩)
                go_ret
                exact ⟨ret_bool (by rw [shop_false HX.out (sjob_step HY.out (by unfold stepB; rw [HY1.out, hq2]; simp))]), rfl⟩
              · have hxb : 0 ≤ x ∧ x ≤ 2 := by simpa [inB] using hq
                obtain ⟨q, rfl⟩ : ∃ q : Nat, x = (q : Int) := ⟨x.toNat, by omega⟩
                have HBIT := Lib.hid (bit_at D q (by omega) (by omega))
                have HPOW := Lib.hid (power_all q (by omega))
                have HPW := Lib.hid (powV_eq q (by omega))
                have HSB := Lib.hid (show stepB r = true by unfold stepB; rw [HX0.out, HY1.out, hq, hq2, HIL.out]; rfl)
                by_cases hmm : (q : Int) ∈ machsOf (job.take m)
                · have HB := Lib.hid (show bI D q = 1 by unfold bI; rw [H3.out, decide_eq_true hmm]; rfl)
                  have HM := Lib.hid hmm
                  clear hmm
                  go_wp2_with first | (go_at_call 51; refine (inRange_any _ _ _ _).mono ?_; rintro e w' ⟨rfl, rfl⟩) | (go_at_call 52; refine (HBIT.out _).mono ?_; rintro e w' ⟨rfl, rfl⟩; rw [HB.out])
                  go_ret
                  exact ⟨ret_bool (by rw [shop_false HX.out (sjob_twice HY.out (by rw [HX0.out]; exact HM.out))]), rfl⟩
                · have HB := Lib.hid (show bI D q = 0 by unfold bI; rw [H3.out, decide_eq_false hmm]; rfl)
                  have HM := Lib.hid hmm
                  have HDQ := Lib.hid (show D.testBit q = false by rw [H3.out]; exact decide_eq_false hmm)
                  have hpq : 2 ^ q ≤ 4 := Nat.pow_le_pow_right (n := 2) (j := 2) (by omega) (by omega)
                  obtain ⟨pq, hpqe⟩ : ∃ pq, 2 ^ q = pq := ⟨_, rfl⟩
                  have HPQ := Lib.hid hpqe
                  rw [hpqe] at hpq HPW
                  clear hmm hpqe
                  go_wp2_with first | (go_at_call 51; refine (inRange_any _ _ _ _).mono ?_; rintro e w' ⟨rfl, rfl⟩) | (go_at_call 52; refine (HBIT.out _).mono ?_; rintro e w' ⟨rfl, rfl⟩; rw [HB.out]) | (go_at_call 53; refine (HPOW.out _).mono ?_; rintro e w' ⟨rfl, rfl⟩; rw [HPW.out])
                  go_round
                  case rel => exact ⟨m + 1, D + pq, by omega, by go_num, by go_num, by
                    rw [take_get HY.out, List.all_append, H1.out]; simp only [List.all_cons, HSB.out, List.all_nil, Bool.and_true], by
                    rw [take_get HY.out]
                    simp only [machsOf, List.map_append, List.map_cons, List.map_nil]
                    rw [HX0.out]
                    exact (List.perm_append_singleton _ _).symm.nodup (List.nodup_cons.2 ⟨HM.out, H2.out⟩), fun i => by
                    rw [← HPQ.out, add_bit HDQ.out, H3.out, take_get HY.out, Bool.eq_iff_iff]
                    simp only [machsOf, List.map_append, List.map_cons, List.map_nil, Bool.or_eq_true, decide_eq_true_eq, List.mem_append, List.mem_singleton]
                    rw [HX0.out]
                    constructor
                    · rintro (h | h)
                      · exact .inl (of_decide_eq_true h)
                      · right; omega
                    · rintro (h | h)
                      · exact .inl (decide_eq_true h)
                      · right; omega⟩
                  case measure => simp [intOf]; omega
          · have hle : ((l2 : Int) != 2) = true := by simp; omega
            go_wp2
            go_ret
            exact ⟨ret_bool (by rw [shop_false HX.out (sjob_step HY.out (by unfold stepB; rw [HIL.out, beq_eq_false_iff_ne.2 hl2]; rfl))]), rfl⟩
        · go_wp2
          go_round
          case rel =>
            have hb := H1.out
            have hb2 := H2.out
            rw [List.take_of_length_le (by rw [HRL.out]; omega)] at hb hb2
            exact ⟨k + 1, by omega, by go_num, by
              rw [take_get HX.out, List.all_append, HA.out]
              simp only [List.all_cons, List.all_nil, Bool.and_true, Bool.true_and]
              unfold sjobB; rw [hb, decide_eq_true hb2]; rfl⟩
          case measure => simp [intOf]; omega
    · go_wp2
      go_ret
      have ha := HA.out
      have hl := HL.out
      rw [List.take_of_length_le (by omega)] at ha
      exact ⟨ret_bool (by rw [shopM, ha, hl, Bool.true_and]; exact decide_eq_decide.2 (by omega)), rfl⟩
end Go.Proofs.Ythmlgicjedhgfab
namespace Go.Proofs.Ythmlgicjedhgfab
open Go.RowKit Go.WideShapes

theorem Try.infoIntSh : (Try.prog.info? 3).map (fun i => (i.zero, i.size, i.bytes)) = some (some (.int .i64 0), 1, 8) := by kernel_rfl
def turnsM (shop : List (List (List Int))) (ts : List Int) : Bool := ts.all (inB 0 ((shop.length : Int) - 1)) && (List.range shop.length).all (fun j => decide (ts.count (j : Int) = slen shop j))
theorem turns_out {shop : List (List (List Int))} {ts : List Int} {k : Nat} {x : Int} (h : ts[k]? = some x) (hx : inB 0 ((shop.length : Int) - 1) x = false) : turnsM shop ts = false := by
  unfold turnsM
  rw [List.all_eq_false.2 ⟨x, List.mem_of_getElem? h, by rw [hx]; simp⟩]; rfl
theorem turns_not {shop : List (List (List Int))} {ts : List Int} {j : Nat} (hj : j < shop.length) (hc : ts.count (j : Int) ≠ slen shop j) : turnsM shop ts = false := by
  unfold turnsM
  rw [List.all_eq_false.2 ⟨j, List.mem_range.2 hj, by rw [decide_eq_false hc]; simp⟩, Bool.and_false]
theorem turns_mk {shop : List (List (List Int))} {ts : List Int} (h : ts.all (inB 0 ((shop.length : Int) - 1)) = true) (hc : ∀ j, j < shop.length → ts.count (j : Int) = slen shop j) : turnsM shop ts = true := by
  unfold turnsM
  rw [h, List.all_eq_true.2 (fun j hj => decide_eq_true (hc j (List.mem_range.1 hj)))]; rfl
set_option maxRecDepth 100000 in
set_option maxHeartbeats 4000000 in
theorem validTurns_any (a : Option Addr) (len cap : Nat) (shop : List (List (List Int))) (a2 : Option Addr) (len2 cap2 : Nat) (ts : List Int) (w : World) (h : ShopAt w (· < w.heap.size) a len shop) (g : IntsAt w (· < w.heap.size) a2 len2 ts) (hl3 : len ≤ 3) :
    Calls Try.prog 36 #[.slice a len cap, .slice a2 len2 cap2] w fun e w' => e = .returned (.bool (turnsM shop ts)) ∧ Below w.heap.size w w' := by
  have hs2 := g.small
  have HL := Lib.hid h.lenEq
  have HL2 := Lib.hid g.lenEq
  have hmk := fun w => run_make_row' (P := Try.prog) 24 3 (.int .i64 0) 8 Try.underlying24 Try.infoIntSh rfl .i64 .i64 len (by omega) (by omega) w
  have HO0 := Lib.hid ((OwnF.start w len (by omega)).congr (g := fun q => ((ts.take 0).count (q : Int) : Nat)) (fun q hq => by simp))
  go_enter Try.func36, Try.ntmps36
  go_wp2
  clear hmk
  go_loopw [6] (fun i wr => ∃ k : Nat, k ≤ len2 ∧ i = .int .i64 k ∧ (ts.take k).all (inB 0 ((shop.length : Int) - 1)) = true ∧ OwnF w wr len (fun q => ((ts.take k).count (q : Int) : Nat))) (fun i _ => len2 - (intOf i).toNat)
  case atStart => exact ⟨0, Nat.zero_le _, rfl, rfl, HO0.out⟩
  case round =>
    clear HO0
    obtain ⟨k, hk, rfl, ha, hC⟩ := hrel
    obtain ⟨wo, rfl⟩ : ∃ wo : World, wo = wr := ⟨_, rfl⟩
    have HA := Lib.hid ha
    clear ha
    by_cases hlt : k < len2
    · obtain ⟨b, off, x, rfl, hx, hc⟩ := (g.below hC.below).get hlt
      have HX := Lib.hid hx
      clear hx
      cases hq : inB 0 ((len : Int) - 1) x
      · have HB := Lib.hid hC.below
        clear hC
        go_wp2_with (go_at_call 51; refine (inRange_any _ _ _ _).mono ?_; rintro e w' ⟨rfl, rfl⟩)
        go_ret
        exact ⟨ret_bool (by rw [turns_out HX.out (by rw [HL.out]; exact hq)]), HB.out⟩
      · have hxb : 0 ≤ x ∧ x ≤ (len : Int) - 1 := by simpa [inB] using hq
        obtain ⟨q, rfl⟩ : ∃ q : Nat, x = (q : Int) := ⟨x.toNat, by omega⟩
        have hql : q < len := by omega
        have hql2 : (q : Int) < (len : Int) := by omega
        obtain ⟨e1, f1⟩ := hC.cell (q := q) hql
        have hcb : (ts.take k).count (q : Int) ≤ k := Nat.le_trans List.count_le_length (by rw [List.length_take]; omega)
        obtain ⟨cq, hcq⟩ : ∃ cq, (ts.take k).count (q : Int) = cq := ⟨_, rfl⟩
        have HCQ := Lib.hid hcq
        have HC := Lib.hid hC
        rw [hcq] at e1 hcb
        clear hC hcq
        go_wp2_with (go_at_call 51; refine (inRange_any _ _ _ _).mono ?_; rintro e w' ⟨rfl, rfl⟩)
        go_still_tail 14, (by kernel_rfl)
        go_wp2
        go_roundw
        case rel => exact ⟨k + 1, by omega, by go_num, by rw [take_get HX.out, List.all_append, HA.out]; simp only [List.all_cons, List.all_nil, Bool.and_true, Bool.true_and]; rw [HL.out]; exact hq, (HC.out.drew1.put q _).congr (fun z _ => by
            rw [take_get HX.out, List.count_append]
            by_cases e : z = q
            · subst e; rw [if_pos rfl, HCQ.out]; simp
            · rw [if_neg e]; have : ([(q : Int)]).count (z : Int) = 0 := List.count_eq_zero.2 (by simp; omega)
              rw [this]; rfl)⟩
        case measure => simp [intOf]; omega
    · have hkl : k = len2 := by omega
      subst hkl
      have ha := HA.out
      rw [List.take_of_length_le (by rw [HL2.out]; omega)] at ha hC
      have HA2 := Lib.hid ha
      have HB := Lib.hid hC.below
      have HC := Lib.hid (fun q hq => (hC.cell (q := q) hq).1)
      have HS := Lib.hid (h.below hC.below)
      clear ha hC HA
      go_wp2
      go_loopw [7] (fun i wr => ∃ m : Nat, m ≤ len ∧ i = .int .i64 m ∧ (∀ j, j < m → ts.count (j : Int) = slen shop j) ∧ Drew wo wr) (fun i _ => len - (intOf i).toNat)
      case atStart => exact ⟨0, Nat.zero_le _, rfl, fun j hj => absurd hj (by omega), Drew.refl _⟩
      case round =>
        obtain ⟨m, hm, rfl, hall, hdw⟩ := hrel
        have HALL := Lib.hid hall
        clear hall
        by_cases hml : m < len
        · obtain ⟨b, off, job, a', l, c, rfl, hx, hc, _, hr⟩ := (Drew.shop HS.out hdw).get hml
          have hsl : slen shop m = l := by unfold slen; rw [List.getD_eq_getElem?_getD, hx]; exact hr.lenEq
          have hls := hr.small
          have e1 : wr.cell? ⟨w.heap.size, m, none⟩ = some (.int .i64 ((ts.count (m : Int) : Nat) : Int)) := by
            obtain ⟨q, rfl⟩ := hdw
            exact HC.out m hml
          have HDW := Lib.hid hdw
          clear hdw
          have HCL := Lib.hid (show ts.count (m : Int) ≤ k by have := List.count_le_length (a := (m : Int)) (l := ts); rw [HL2.out] at this; exact this)
          obtain ⟨cq, hcq⟩ : ∃ cq, ts.count (m : Int) = cq := ⟨_, rfl⟩
          have HCQ := Lib.hid hcq
          have HSL := Lib.hid hsl
          rw [hcq] at e1
          have hml2 : (m : Int) < (len : Int) := by omega
          clear hcq hsl hx hr
          by_cases hne : cq = l
          · subst hne
            go_wp2_with fail
            go_quiet (fail)
            go_wp2
            go_roundw
            case rel => exact ⟨m + 1, by omega, by go_num, fun j hj => by
              rcases Nat.lt_or_ge j m with h1 | h1
              · exact HALL.out j h1
              · obtain rfl : j = m := by omega
                rw [HCQ.out, HSL.out], HDW.out.drew _⟩
            case measure => simp [intOf]; omega
          · have hne2 : ((cq : Int) != (l : Int)) = true := by simp; omega
            go_wp2_with fail
            go_quiet (fail)
            go_wp2
            go_ret
            exact ⟨ret_bool (turns_not (by rw [HL.out]; exact hml) (by rw [HCQ.out, HSL.out]; exact hne)).symm, HB.out.trans ((HDW.out.drew _).below _)⟩
        · have hml2 : m = len := by omega
          go_wp2
          go_ret
          exact ⟨ret_bool (turns_mk HA2.out (fun j hj => HALL.out j (by rw [HL.out] at hj; omega))).symm, HB.out.trans (hdw.below _)⟩
end Go.Proofs.Ythmlgicjedhgfab
