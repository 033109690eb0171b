import Derived.Test.YtldncfkkeeinjacLib
import Derived.Test.YtldncfkkeeinjacArr
import Derived.Test.YtldncfkkeeinjacNetM
import Derived.Test.YtldncfkkeeinjacVal2
import Derived.Test.YtldncfkkeeinjacStocks
import Derived.Test.YtldncfkkeeinjacPlanM
import Derived.Test.YtldncfkkeeinjacBlockM
import Derived.Test.YtldncfkkeeinjacTriedM
import Derived.Test.YtldncfkkeeinjacPrefM
import Derived.Test.YtldncfkkeeinjacLotSpec
import Derived.Test.YtldncfkkeeinjacBestSpec
import Derived.Test.YtldncfkkeeinjacMeanSpec
namespace Go.Proofs.Ytldncfkkeeinjac

theorem plan_lin (ms xs : List Int) (s h : Int) (q : Nat) : planTo ms xs s 0 q + planTo ms xs 0 h q = planTo ms xs s h q := by
  induction q with
  | zero => rfl
  | succ q ih =>
    rw [planTo, planTo, planTo, ← ih]
    unfold dayC
    rw [Int.zero_mul]
    split <;> omega
theorem validLots_mk {xs : List Int} {s h : Int} (hv : validDaysM xs = true) (h1 : 0 ≤ s) (h2 : s ≤ 30) (h3 : 0 ≤ h) (h4 : h ≤ 30) : validLotsM xs s h = true := by
  unfold validLotsM; rw [hv, inB_true h1 h2, inB_true h3 h4]; rfl
theorem fine_get {ms xs : List Int} {s h : Int} (hf : lotFine ms xs s h = true) : validLotsM xs s h = true ∧ stocksFine 0 ms xs = true := by
  simpa [lotFine] using hf
theorem fine_mk {ms xs : List Int} {s h : Int} (h1 : validLotsM xs s h = true) (h2 : stocksFine 0 ms xs = true) : lotFine ms xs s h = true := by
  unfold lotFine; rw [h1, h2]; rfl
theorem stocks_mk {ms xs : List Int} (hm : validMadeM ms = true) (hx : validDaysM xs = true) (hl : ms.length = xs.length) (h : ∀ k, k ≤ xs.length → sumN xs k ≤ sumN ms k) : stocksFine 0 ms xs = true := by
  rw [stocksFine, stocksIn, inB_true (by omega) (by omega), hm, hx, decide_eq_true hl, (stocksOk_iff _ _ _ _).2 (fun q hq => by rw [stockTo_closed]; have := h (q + 1) (by omega); omega)]; rfl
theorem stocks_get {ms xs : List Int} (h : stocksFine 0 ms xs = true) : validMadeM ms = true ∧ validDaysM xs = true ∧ ms.length = xs.length ∧ ∀ k, k ≤ xs.length → sumN xs k ≤ sumN ms k := by
  simp only [stocksFine, stocksIn, Bool.and_eq_true, decide_eq_true_eq] at h
  obtain ⟨⟨⟨⟨_, h2⟩, h3⟩, h4⟩, h5⟩ := h
  refine ⟨h2, h3, h4, fun k hk => ?_⟩
  cases k with
  | zero => exact Int.le_refl _
  | succ q =>
    have := (stocksOk_iff _ _ _ _).1 h5 q (by omega)
    rw [stockTo_closed] at this
    omega
theorem fine_least {ms xs : List Int} {s h : Int} (hf : lotFine ms xs s h = true) : leastRes xs s h ≤ lotCostM ms xs s h := by
  obtain ⟨h1, h2⟩ := fine_get hf
  obtain ⟨hv, hs, hh⟩ := validLots_get h1
  obtain ⟨m1, m2, _, m4⟩ := stocks_get h2
  rw [lotCost_yes hf, leastRes_yes h1]
  exact plan_least (fun k => (validDays_at m2 k).1) (fun k => (validMade_at m1 k).1) hs.1 hh.1 m4
theorem fine_made {xs : List Int} {s h : Int} (hv : validLotsM xs s h = true) {nx : Nat → Nat} (hn : Nexts nx xs.length) : lotFine (madeM nx xs) xs s h = true := by
  obtain ⟨h1, _, _⟩ := validLots_get hv
  have hl := validDays_len h1
  refine fine_mk hv (stocks_mk (validMade_mk (by rw [madeM_length]; exact hl) (fun k hk => ?_)) h1 (madeM_length _ _) (fun k hk => made_before (fun q => (validDays_at h1 q).1) hn hk))
  rw [madeM_length] at hk
  rw [madeM_getD _ _ hk]
  have := madeAt_bd (validDays_at h1) hn hk
  omega
theorem fine_each {xs : List Int} {s h : Int} (hv : validLotsM xs s h = true) : lotFine xs xs s h = true := by
  obtain ⟨h1, _, _⟩ := validLots_get hv
  exact fine_mk hv (stocks_mk (validMade_mk (validDays_len h1) (fun k _ => by have := validDays_at h1 k; omega)) h1 rfl (fun k _ => Int.le_refl _))
theorem fine_lots {xs : List Int} {s h d : Int} (hv : validLotsM xs s h = true) : lotFine (lotsM xs d) xs s h = true := by
  obtain ⟨h1, _, _⟩ := validLots_get hv
  have hl8 := validDays_len h1
  refine fine_mk hv (stocks_mk (validMade_mk (by rw [lotsM_length]; exact hl8) (fun k hk => ?_)) h1 (lotsM_length _ _) (fun k hk => lots_before (fun q => (validDays_at h1 q).1) k hk))
  rw [lotsM_length] at hk
  have h2 := outTo_bd (days := d) (validDays_at h1) xs.length k
  have h3 := sumN_bd (validDays_at h1) xs.length
  rw [lotsM, tab_getD _ hk]; omega
theorem fine_zero {ms xs : List Int} {s h : Int} (hf : lotFine ms xs s h = true) : lotFine ms xs s 0 = true ∧ lotFine ms xs 0 h = true ∧ lotCostM ms xs s 0 + lotCostM ms xs 0 h = lotCostM ms xs s h := by
  obtain ⟨h1, h2⟩ := fine_get hf
  obtain ⟨hv, hs, hh⟩ := validLots_get h1
  have f1 := fine_mk (validLots_mk hv hs.1 hs.2 (Int.le_refl 0) (by omega)) h2
  have f2 := fine_mk (validLots_mk hv (Int.le_refl 0) (by omega) hh.1 hh.2) h2
  exact ⟨f1, f2, by rw [lotCost_yes f1, lotCost_yes f2, lotCost_yes hf]; exact plan_lin _ _ _ _ _⟩
theorem lotCost_bd {ms xs : List Int} {s h : Int} (hf : lotFine ms xs s h = true) : 0 ≤ lotCostM ms xs s h ∧ lotCostM ms xs s h ≤ 400000 := by
  obtain ⟨h1, h2⟩ := fine_get hf
  obtain ⟨hv, hs, hh⟩ := validLots_get h1
  have hl := validDays_len hv
  have h2' := h2
  simp only [stocksFine, stocksIn, Bool.and_eq_true, decide_eq_true_eq] at h2'
  obtain ⟨⟨⟨⟨_, m2⟩, _⟩, _⟩, m5⟩ := h2'
  have := planTo_bd m2 hv ((stocksOk_iff _ _ _ _).1 m5) (s := s) (h := h) (by omega) (by omega) xs.length (Nat.le_refl _)
  rw [lotCost_yes hf]; omega
theorem leastRes_bd {xs : List Int} {s h : Int} (hv : validLotsM xs s h = true) : 0 ≤ leastRes xs s h ∧ leastRes xs s h ≤ 40000 := by
  obtain ⟨h1, hs, hh⟩ := validLots_get hv
  rw [leastRes_yes hv]
  exact bst_bd (validDays_len h1) (validDays_at h1) (by omega) (by omega) (Nat.zero_le _)
theorem leastRes_lo (xs : List Int) (s h : Int) : -1 ≤ leastRes xs s h ∧ leastRes xs s h ≤ 40000 := by
  cases e : validLotsM xs s h
  · rw [leastRes_no e]; omega
  · have := leastRes_bd e; omega
/-- more to hold, and more set, cost no less -/
theorem least_up {xs : List Int} {s h : Int} (hv : validLotsM xs s h = true) : (leastRes xs (s + 1) h < 0 ∨ leastRes xs s h ≤ leastRes xs (s + 1) h) ∧ (leastRes xs s (h + 1) < 0 ∨ leastRes xs s h ≤ leastRes xs s (h + 1)) := by
  obtain ⟨h1, hs, hh⟩ := validLots_get hv
  have hx := fun k => (validDays_at h1 k).1
  constructor
  · cases e : validLotsM xs (s + 1) h
    · left; rw [leastRes_no e]; omega
    · right; rw [leastRes_yes e, leastRes_yes hv]; exact bst_up hx (by omega) (Int.le_refl _)
  · cases e : validLotsM xs s (h + 1)
    · left; rw [leastRes_no e]; omega
    · right; rw [leastRes_yes e, leastRes_yes hv]; exact bst_up hx (Int.le_refl _) (by omega)
/-- the best lots cost least -/
theorem best_cost {xs : List Int} {s h : Int} (hv : validLotsM xs s h = true) : lotCostM (bestLotsM xs s h) xs s h = leastRes xs s h := by
  obtain ⟨h1, hs, hh⟩ := validLots_get hv
  have hf := fine_made hv (nxB_nexts xs s h)
  rw [show bestLotsM xs s h = madeM (nxB xs s h) xs from rfl, lotCost_yes hf, leastRes_yes hv]
  exact made_least (fun k => (validDays_at h1 k).1) (nxB_nexts xs s h) (fun i hi => (nxB_spec hi).2.1)
/-- a lot is made when nothing is there -/
theorem made_empty {xs : List Int} {nx : Nat → Nat} (hn : Nexts nx xs.length) {q : Nat} (hq : q + 1 < xs.length) (h : 0 < madeAt nx xs (q + 1)) : stockTo (madeM nx xs) xs 0 (q + 1) = 0 := by
  have ho : owner nx (q + 1) = q + 1 := by
    unfold madeAt at h
    split at h
    · assumption
    · omega
  have hn1 : nx (owner nx q) = q + 1 := by
    rw [owner] at ho
    split at ho
    · assumption
    · have := (owner_in hn q (by omega)).1; omega
  rw [stockTo_closed, made_sum hn q (by omega), hn1]; omega
theorem once_first {xs : List Int} {s : Int} (hv : validLotsM xs s 0 = true) (h0 : 0 < xs.length) : nxB xs s 0 0 = xs.length := by
  obtain ⟨h1, hs, _⟩ := validLots_get hv
  obtain ⟨⟨a1, a2⟩, _, a4⟩ := nxB_spec (xs := xs) (s := s) (h := 0) h0
  rcases Nat.lt_or_ge (nxB xs s 0 0) xs.length with h | h
  · refine absurd ?_ (a4 xs.length h (Nat.le_refl _))
    rw [Nat.sub_zero, bst_end, Int.add_zero]
    exact (bst_once (fun k => (validDays_at h1 k).1) hs.1 h0).symm
  · omega
theorem once_owner {nx : Nat → Nat} {n : Nat} (h : nx 0 = n) : ∀ q, q < n → owner nx q = 0 := by
  intro q
  induction q with
  | zero => intro _; rfl
  | succ q ih => intro hq; rw [owner, ih (by omega), if_neg (by omega)]
/-- made at once: nothing behind the first day -/
theorem once_zero {xs : List Int} {s : Int} (hv : validLotsM xs s 0 = true) {q : Nat} (hq : q + 1 < xs.length) : (bestLotsM xs s 0).getD (q + 1) 0 = 0 := by
  unfold bestLotsM
  rw [madeM_getD _ _ hq, madeAt, once_owner (once_first hv (by omega)) (q + 1) hq, if_neg (by omega)]
theorem free_zero {xs : List Int} {h : Int} (hv : validLotsM xs 0 h = true) : leastRes xs 0 h = 0 := by
  obtain ⟨h1, _, hh⟩ := validLots_get hv
  rw [leastRes_yes hv]; exact bst_free (fun k => (validDays_at h1 k).1) hh.1
theorem made_tot {xs : List Int} {nx : Nat → Nat} (hn : Nexts nx xs.length) : totalM (madeM nx xs) = totalM xs := by
  rw [totalM_eq, totalM_eq, madeM_length, made_total hn]
theorem made_mem {xs : List Int} (hv : validDaysM xs = true) {nx : Nat → Nat} (hn : Nexts nx xs.length) : ∀ x ∈ madeM nx xs, -1099511627776 ≤ x ∧ x ≤ 1099511627776 := by
  intro x hx
  obtain ⟨k, hk, rfl⟩ := List.mem_iff_getElem.1 hx
  have hl := validDays_len hv
  have hk' : k < xs.length := by rw [← madeM_length nx xs]; exact hk
  have h1 := madeAt_bd (validDays_at hv) hn hk'
  have h2 := madeM_getD nx xs hk'
  rw [List.getD_eq_getElem?_getD, List.getElem?_eq_getElem hk] at h2
  simp at h2
  omega
theorem cut_valid {xs : List Int} (hv : validDaysM xs = true) : validDaysM (xs.take (xs.length - 1)) = true ∧ validDaysM (xs.drop 1) = true := by
  have hl := validDays_len hv
  constructor
  · refine validDays_mk (by simp; omega) (fun k hk => ?_)
    rw [take_getD (by simp at hk; omega)]; exact validDays_at hv k
  · refine validDays_mk (by simp; omega) (fun k hk => ?_)
    rw [drop_getD]; exact validDays_at hv _
theorem least_cut {xs : List Int} {s h : Int} (hv : validLotsM xs s h = true) (h0 : 0 < xs.length) : leastRes (xs.take (xs.length - 1)) s h ≤ leastRes xs s h ∧ leastRes (xs.drop 1) s h ≤ leastRes xs s h := by
  obtain ⟨h1, hs, hh⟩ := validLots_get hv
  obtain ⟨c1, c2⟩ := cut_valid h1
  have hx := fun k => (validDays_at h1 k).1
  rw [leastRes_yes hv, leastRes_yes (validLots_mk c1 hs.1 hs.2 hh.1 hh.2), leastRes_yes (validLots_mk c2 hs.1 hs.2 hh.1 hh.2)]
  exact ⟨bst_take hx hs.1 hh.1 h0, bst_drop hx hs.1 hh.1 h0⟩
end Go.Proofs.Ytldncfkkeeinjac
