import Derived.Test.YtkjmpkincaainacM0
import Derived.Test.YtkjmpkincaainacM2
import Derived.Test.YtkjmpkincaainacRows
import Derived.WalkKit
import Derived.LoopTactic
import Derived.Outline
import Derived.WalkSpells
import Derived.WalkLawsBesides
import Derived.ProofKit
import Derived.Lib.Hide
import Derived.Deep.QuietTactic
import Derived.BigQuiet
import Derived.RegionTactic
import Derived.BigRegion
import Derived.IntWalk
import Derived.Test.YtkjmpkincaainacM1
namespace Go.Proofs.Ytkjmpkincaainac

/-- the days of a lot behind its first one, each times what is wanted on it -/
def hsum (xs : List Int) (i : Nat) : Nat → Int
  | 0 => 0
  | d + 1 => hsum xs i d + (d : Int) * xs.getD (i + d) 0
/-- what it costs to make d days at the day i -/
def runD (xs : List Int) (s h : Int) (i d : Nat) : Int := h * hsum xs i d + (if 0 < sumN xs (i + d) - sumN xs i then s else 0)
theorem sumN_mono {xs : List Int} (hx : ∀ k, 0 ≤ xs.getD k 0) (i d : Nat) : sumN xs i ≤ sumN xs (i + d) := by
  induction d with
  | zero => exact Int.le_refl _
  | succ d ih => have := hx (i + d); rw [← Nat.add_assoc, sumN]; omega
theorem sumN_le {xs : List Int} (hx : ∀ k, 0 ≤ xs.getD k 0) {i k : Nat} (h : i ≤ k) : sumN xs i ≤ sumN xs k := by
  have := sumN_mono hx i (k - i); rwa [show i + (k - i) = k by omega] at this
theorem hsum_nonneg {xs : List Int} (hx : ∀ k, 0 ≤ xs.getD k 0) (i d : Nat) : 0 ≤ hsum xs i d := by
  induction d with
  | zero => exact Int.le_refl _
  | succ d ih => have := Int.mul_nonneg (show (0 : Int) ≤ d by omega) (hx (i + d)); rw [hsum]; omega
theorem hsum_bd {xs : List Int} {B : Int} (hx : ∀ k, 0 ≤ xs.getD k 0 ∧ xs.getD k 0 ≤ B) (i d : Nat) (hd : d ≤ 8) : hsum xs i d ≤ 8 * B * d := by
  induction d with
  | zero => simp [hsum]
  | succ d ih =>
    have h1 := hx (i + d)
    have h2 : (d : Int) * xs.getD (i + d) 0 ≤ 8 * B := Int.mul_le_mul (by omega) h1.2 h1.1 (by omega)
    have := ih (by omega)
    rw [hsum]; push_cast; rw [Int.mul_add, Int.mul_one]; omega
theorem runD_nonneg {xs : List Int} {s h : Int} (hx : ∀ k, 0 ≤ xs.getD k 0) (hs : 0 ≤ s) (hh : 0 ≤ h) (i d : Nat) : 0 ≤ runD xs s h i d := by
  have := Int.mul_nonneg hh (hsum_nonneg hx i d)
  unfold runD; split <;> omega
theorem runD_bd {xs : List Int} {s h : Int} (hx : ∀ k, 0 ≤ xs.getD k 0 ∧ xs.getD k 0 ≤ 20) (hs : 0 ≤ s ∧ s ≤ 31) (hh : 0 ≤ h ∧ h ≤ 31) (i d : Nat) (hd : d ≤ 8) : 0 ≤ runD xs s h i d ∧ runD xs s h i d ≤ 40000 := by
  refine ⟨runD_nonneg (fun k => (hx k).1) hs.1 hh.1 i d, ?_⟩
  have h1 := hsum_bd hx i d hd
  have h0 := hsum_nonneg (fun k => (hx k).1) i d
  have h2 : h * hsum xs i d ≤ 31 * 1280 := Int.mul_le_mul hh.2 (by omega) h0 (by omega)
  unfold runD; split <;> omega
/-- the days from i on can be made in lots for c -/
inductive PC (xs : List Int) (s h : Int) : Nat → Int → Prop where
  | done : PC xs s h xs.length 0
  | lot (i d : Nat) (c : Int) (hd : i + (d + 1) ≤ xs.length) (hc : PC xs s h (i + (d + 1)) c) : PC xs s h i (runD xs s h i (d + 1) + c)
theorem PC.nonneg {xs : List Int} {s h : Int} (hx : ∀ k, 0 ≤ xs.getD k 0) (hs : 0 ≤ s) (hh : 0 ≤ h) {i : Nat} {c : Int} (p : PC xs s h i c) : 0 ≤ c := by
  induction p with
  | done => exact Int.le_refl _
  | lot i d c hd _ ih => have := runD_nonneg hx hs hh i (d + 1); omega
theorem PC.le {xs : List Int} {s h : Int} {i : Nat} {c : Int} (p : PC xs s h i c) : i ≤ xs.length := by
  cases p with
  | done => exact Nat.le_refl _
  | lot _ d c hd _ => omega
/-- the least of f 0 .. f m -/
def minTo (f : Nat → Int) : Nat → Int
  | 0 => f 0
  | m + 1 => min (minTo f m) (f (m + 1))
theorem minTo_le {f : Nat → Int} {m d : Nat} (h : d ≤ m) : minTo f m ≤ f d := by
  induction m with
  | zero => obtain rfl : d = 0 := by omega
            exact Int.le_refl _
  | succ m ih =>
    rw [minTo]
    by_cases e : d = m + 1
    · subst e; omega
    · have := ih (by omega); omega
theorem minTo_at (f : Nat → Int) (m : Nat) : ∃ d, d ≤ m ∧ minTo f m = f d := by
  induction m with
  | zero => exact ⟨0, Nat.le_refl _, rfl⟩
  | succ m ih =>
    obtain ⟨d, hd, e⟩ := ih
    rw [minTo]
    by_cases h : minTo f m ≤ f (m + 1)
    · exact ⟨d, by omega, by omega⟩
    · exact ⟨m + 1, Nat.le_refl _, by omega⟩
theorem minTo_congr {f g : Nat → Int} {m : Nat} (h : ∀ d, d ≤ m → f d = g d) : minTo f m = minTo g m := by
  induction m with
  | zero => exact h 0 (Nat.le_refl _)
  | succ m ih => rw [minTo, minTo, ih (fun d hd => h d (by omega)), h (m + 1) (Nat.le_refl _)]
def bestF (xs : List Int) (s h : Int) : Nat → Nat → Int
  | 0, _ => 0
  | m + 1, q => if q = m + 1 then minTo (fun d => runD xs s h (xs.length - (m + 1)) (d + 1) + bestF xs s h m (m - d)) m else bestF xs s h m q
/-- the least cost of the days from i on -/
def bst (xs : List Int) (s h : Int) (i : Nat) : Int := bestF xs s h (xs.length - i) (xs.length - i)
theorem bestF_low (xs : List Int) (s h : Int) (m : Nat) : ∀ q, q ≤ m → bestF xs s h m q = bestF xs s h q q := by
  induction m with
  | zero => intro q hq; obtain rfl : q = 0 := by omega
            rfl
  | succ m ih =>
    intro q hq
    by_cases e : q = m + 1
    · subst e; rfl
    · rw [bestF, if_neg e]; exact ih q (by omega)
theorem bst_end (xs : List Int) (s h : Int) : bst xs s h xs.length = 0 := by unfold bst; rw [Nat.sub_self]; rfl
theorem bst_rec {xs : List Int} {s h : Int} {i : Nat} (hi : i < xs.length) : bst xs s h i = minTo (fun d => runD xs s h i (d + 1) + bst xs s h (i + (d + 1))) (xs.length - 1 - i) := by
  obtain ⟨m, hm⟩ : ∃ m, xs.length - i = m + 1 := ⟨xs.length - i - 1, by omega⟩
  unfold bst
  rw [hm, bestF, if_pos rfl, show xs.length - 1 - i = m by omega]
  refine minTo_congr (fun d hd => ?_)
  rw [show xs.length - (m + 1) = i by omega, bestF_low xs s h m (m - d) (by omega), show xs.length - (i + (d + 1)) = m - d by omega]
def LeastC (xs : List Int) (s h : Int) (i : Nat) (b : Int) : Prop := PC xs s h i b ∧ ∀ c, PC xs s h i c → b ≤ c
theorem LeastC.uniq {xs : List Int} {s h : Int} {i : Nat} {a b : Int} (ha : LeastC xs s h i a) (hb : LeastC xs s h i b) : a = b := by
  have := ha.2 b hb.1; have := hb.2 a ha.1; omega
theorem bst_least (xs : List Int) (s h : Int) : ∀ (m i : Nat), i + m = xs.length → LeastC xs s h i (bst xs s h i) := by
  intro m
  induction m using Nat.strongRecOn with
  | ind m ih =>
    intro i hi
    by_cases h0 : i = xs.length
    · subst h0
      rw [bst_end]
      refine ⟨PC.done, fun c hc => ?_⟩
      generalize hn : xs.length = n at hc
      cases hc with
      | done => exact Int.le_refl _
      | lot _ d c hd _ => omega
    · have hlt : i < xs.length := by omega
      have hsub : ∀ d, i + (d + 1) ≤ xs.length → LeastC xs s h (i + (d + 1)) (bst xs s h (i + (d + 1))) := fun d hd => ih (xs.length - (i + (d + 1))) (by omega) _ (by omega)
      rw [bst_rec hlt]
      refine ⟨?_, fun c hc => ?_⟩
      · obtain ⟨d, hd, e⟩ := minTo_at (fun d => runD xs s h i (d + 1) + bst xs s h (i + (d + 1))) (xs.length - 1 - i)
        rw [e]
        exact PC.lot i d _ (by omega) (hsub d (by omega)).1
      · cases hc with
        | done => omega
        | lot _ d c hd hc' =>
          have h1 := (hsub d hd).2 c hc'
          have h2 := minTo_le (f := fun d => runD xs s h i (d + 1) + bst xs s h (i + (d + 1))) (m := xs.length - 1 - i) (d := d) (by omega)
          omega
theorem bst_is {xs : List Int} {s h : Int} {i : Nat} (hi : i ≤ xs.length) : LeastC xs s h i (bst xs s h i) := bst_least xs s h (xs.length - i) i (by omega)
theorem bst_nonneg {xs : List Int} {s h : Int} (hx : ∀ k, 0 ≤ xs.getD k 0) (hs : 0 ≤ s) (hh : 0 ≤ h) {i : Nat} (hi : i ≤ xs.length) : 0 ≤ bst xs s h i := (bst_is hi).1.nonneg hx hs hh
theorem bst_bd {xs : List Int} {s h : Int} (hl : xs.length ≤ 8) (hx : ∀ k, 0 ≤ xs.getD k 0 ∧ xs.getD k 0 ≤ 20) (hs : 0 ≤ s ∧ s ≤ 31) (hh : 0 ≤ h ∧ h ≤ 31) {i : Nat} (hi : i ≤ xs.length) : 0 ≤ bst xs s h i ∧ bst xs s h i ≤ 40000 := by
  refine ⟨bst_nonneg (fun k => (hx k).1) hs.1 hh.1 hi, ?_⟩
  by_cases h0 : i = xs.length
  · subst h0; rw [bst_end]; omega
  · have h1 := (bst_is (s := s) (h := h) hi).2 _ (PC.lot i (xs.length - i - 1) 0 (by omega) (by rw [show i + (xs.length - i - 1 + 1) = xs.length by omega]; exact PC.done))
    have h2 := runD_bd hx hs hh i (xs.length - i - 1 + 1) (by omega)
    omega

-- plans
/-- what it costs on day q: it is there at its end, it is made on it -/
def dayC (ms xs : List Int) (s h : Int) (q : Nat) : Int := h * (sumN ms (q + 1) - sumN xs (q + 1)) + (if 0 < ms.getD q 0 then s else 0)
def planTo (ms xs : List Int) (s h : Int) : Nat → Int
  | 0 => 0
  | q + 1 => planTo ms xs s h q + dayC ms xs s h q
theorem sumN_flat {ms : List Int} {i k : Nat} (h : ∀ q, i < q → q < k → ms.getD q 0 = 0) {q : Nat} (hq : i ≤ q) (hk : q < k) : sumN ms k = sumN ms (q + 1) := by
  obtain ⟨d, rfl⟩ : ∃ d, k = q + 1 + d := ⟨k - (q + 1), by omega⟩
  clear hk
  induction d with
  | zero => rfl
  | succ d ih =>
    rw [← Nat.add_assoc, sumN, ih (fun r h1 h2 => h r h1 (by omega)), h (q + 1 + d) (by omega) (by omega)]; omega
/-- a lot is not dearer than what a plan pays on its days -/
theorem block_le {ms xs : List Int} {s h : Int} (hx : ∀ k, 0 ≤ xs.getD k 0) (hm : ∀ k, 0 ≤ ms.getD k 0) (hs : 0 ≤ s) (hh : 0 ≤ h) {i k : Nat} (hik : i < k) (hst : sumN xs k ≤ sumN ms k) (hno : ∀ q, i < q → q < k → ms.getD q 0 = 0) (hi : 0 < ms.getD i 0 ∨ i = 0) :
    runD xs s h i (k - i) ≤ planTo ms xs s h k - planTo ms xs s h i := by
  have key : ∀ d, i + d ≤ k → h * (hsum xs i d + (d : Int) * (sumN xs k - sumN xs (i + d))) + (if 0 < d ∧ 0 < ms.getD i 0 then s else 0) ≤ planTo ms xs s h (i + d) - planTo ms xs s h i := by
    intro d
    induction d with
    | zero => intro _; simp [hsum]
    | succ d ih =>
      intro hd
      have ih' := ih (by omega)
      rw [← Nat.add_assoc, planTo]
      have e1 := sumN_flat hno (q := i + d) (by omega) (by omega)
      have hday : h * (sumN xs k - sumN xs (i + d + 1)) + (if d = 0 ∧ 0 < ms.getD i 0 then s else 0) ≤ dayC ms xs s h (i + d) := by
        have h1 : h * (sumN xs k - sumN xs (i + d + 1)) ≤ h * (sumN ms (i + d + 1) - sumN xs (i + d + 1)) := Int.mul_le_mul_of_nonneg_left (by omega) hh
        unfold dayC
        by_cases h0 : d = 0 ∧ 0 < ms.getD i 0
        · obtain ⟨rfl, h3⟩ := h0
          rw [if_pos ⟨rfl, h3⟩]
          simp only [Nat.add_zero] at h1 ⊢
          rw [if_pos h3]; omega
        · rw [if_neg h0]; split <;> omega
      have e2 : h * (hsum xs i (d + 1) + ((d + 1 : Nat) : Int) * (sumN xs k - sumN xs (i + d + 1))) = h * (hsum xs i d + (d : Int) * (sumN xs k - sumN xs (i + d))) + h * (sumN xs k - sumN xs (i + d + 1)) := by
        rw [← Int.mul_add]
        congr 1
        rw [hsum, show sumN xs (i + d + 1) = sumN xs (i + d) + xs.getD (i + d) 0 from rfl]
        push_cast
        rw [Int.add_mul, Int.one_mul, Int.sub_eq_add_neg (b := sumN xs (i + d) + _), Int.mul_add, Int.mul_sub, Int.mul_neg, Int.mul_add]
        omega
      rw [e2]
      by_cases h0 : d = 0
      · subst h0
        simp only [Nat.lt_irrefl, false_and, if_false, true_and, Nat.zero_add, Nat.lt_one_iff, Nat.zero_lt_one] at ih' hday ⊢
        omega
      · rw [if_neg (by omega)] at hday
        by_cases h3 : 0 < ms.getD i 0
        · rw [if_pos ⟨by omega, h3⟩] at ih' ⊢; omega
        · rw [if_neg (fun e => h3 e.2)] at ih' ⊢; omega
  have h9 := key (k - i) (by omega)
  rw [show i + (k - i) = k by omega, Int.sub_self, Int.mul_zero, Int.add_zero] at h9
  unfold runD
  rw [show i + (k - i) = k by omega]
  by_cases h3 : 0 < ms.getD i 0
  · rw [if_pos ⟨by omega, h3⟩] at h9
    split <;> omega
  · rw [if_neg (fun e => h3 e.2)] at h9
    have hi0 : i = 0 := by omega
    subst hi0
    have h4 : ms.getD 0 0 = 0 := by have := hm 0; omega
    have e1 := sumN_flat hno (q := 0) (by omega) hik
    have e2 : sumN ms (0 + 1) = 0 := by rw [sumN, sumN, h4]; rfl
    have e3 : sumN xs 0 = 0 := rfl
    rw [if_neg (by omega)]; omega
theorem plan_least {ms xs : List Int} {s h : Int} (hx : ∀ k, 0 ≤ xs.getD k 0) (hm : ∀ k, 0 ≤ ms.getD k 0) (hs : 0 ≤ s) (hh : 0 ≤ h) (hst : ∀ k, k ≤ xs.length → sumN xs k ≤ sumN ms k) :
    bst xs s h 0 ≤ planTo ms xs s h xs.length := by
  have key : ∀ (m k : Nat), k + m = xs.length → ∀ i, i < k → (∀ q, i < q → q < k → ms.getD q 0 = 0) → (0 < ms.getD i 0 ∨ i = 0) → ∃ c, PC xs s h i c ∧ c ≤ planTo ms xs s h xs.length - planTo ms xs s h i := by
    intro m
    induction m with
    | zero =>
      intro k hk i hik hno hi
      obtain rfl : k = xs.length := by omega
      have hb := block_le hx hm hs hh hik (hst _ (Nat.le_refl _)) hno hi
      refine ⟨_, PC.lot i (xs.length - i - 1) 0 (by omega) (by rw [show i + (xs.length - i - 1 + 1) = xs.length by omega]; exact PC.done), ?_⟩
      rw [show xs.length - i - 1 + 1 = xs.length - i by omega]; omega
    | succ m ih =>
      intro k hk i hik hno hi
      by_cases h0 : 0 < ms.getD k 0
      · obtain ⟨c, hc, hle⟩ := ih (k + 1) (by omega) k (by omega) (fun q h1 h2 => by omega) (Or.inl h0)
        have hb := block_le hx hm hs hh hik (hst k (by omega)) hno hi
        refine ⟨_, PC.lot i (k - i - 1) c (by omega) (by rw [show i + (k - i - 1 + 1) = k by omega]; exact hc), ?_⟩
        rw [show k - i - 1 + 1 = k - i by omega]; omega
      · exact ih (k + 1) (by omega) i (by omega) (fun q h1 h2 => by
          by_cases e : q = k
          · subst e; have := hm q; omega
          · exact hno q h1 (by omega)) hi
  by_cases h0 : xs.length = 0
  · have : bst xs s h 0 = 0 := by have := bst_end xs s h; rw [h0] at this; exact this
    rw [this, h0]; exact Int.le_refl _
  · obtain ⟨c, hc, hle⟩ := key (xs.length - 1) 1 (by omega) 0 (by omega) (fun q h1 h2 => by omega) (Or.inr rfl)
    have := (bst_is (s := s) (h := h) (Nat.zero_le xs.length)).2 c hc
    have e : planTo ms xs s h 0 = 0 := rfl
    omega
end Go.Proofs.Ytkjmpkincaainac
namespace Go.Proofs.Ytkjmpkincaainac
open Go.RowKit Go.WideShapes

theorem Try.infoIntP : (Try.prog.info? 3).map (fun i => (i.zero, i.size, i.bytes)) = some (some (.int .i64 0), 1, 8) := by kernel_rfl
def validLotsM (xs : List Int) (s h : Int) : Bool := validDaysM xs && inB 0 30 s && inB 0 30 h
theorem validLots_get {xs : List Int} {s h : Int} (hv : validLotsM xs s h = true) : validDaysM xs = true ∧ (0 ≤ s ∧ s ≤ 30) ∧ (0 ≤ h ∧ h ≤ 30) := by
  simp only [validLotsM, Bool.and_eq_true] at hv
  have h1 : 0 ≤ s ∧ s ≤ 30 := by simpa [inB] using hv.1.2
  have h2 : 0 ≤ h ∧ h ≤ 30 := by simpa [inB] using hv.2
  exact ⟨hv.1.1, h1, h2⟩
theorem specSum_any (S : Nat → Prop) (a : Option Addr) (len cap : Nat) (xs : List Int) (w : World) (h : IntsAt w S a len xs) (hb : ∀ x ∈ xs, -1099511627776 ≤ x ∧ x ≤ 1099511627776) (hl : len ≤ 1048576) :
    Calls Try.prog 40 #[.slice a len cap] w fun e w' => e = .returned (.int .i64 (totalM xs)) ∧ w = w' := by
  go_enter Try.func40, Try.ntmps40
  go_wp2
  go_loop [3, 4] (fun n i => ∃ k : Nat, k ≤ len ∧ i = .int .i64 k ∧ n = .int .i64 (totalM (xs.take k))) (fun _ i => len - (intOf i).toNat)
  case atStart => exact ⟨0, Nat.zero_le _, rfl, rfl⟩
  case round =>
    obtain ⟨k, hk, rfl, rfl⟩ := hrel
    by_cases hlt : k < len
    · obtain ⟨b, off, x, rfl, hx, hc⟩ := h.get hlt
      have hx1 := hb x (List.mem_of_getElem? hx)
      have hx2 := totalM_bd (B := 1099511627776) (by omega) (fun y hy => hb y (take_mem (k := k) hy))
      have hll : ((xs.take k).length : Int) ≤ 1048576 := by rw [List.length_take]; omega
      have HX := Lib.hid hx
      clear hx
      generalize hT : totalM (xs.take k) = t at hx2 ⊢
      have HT := Lib.hid hT
      clear hT
      have ht1 : -1152921504606846976 ≤ t := by omega
      have ht2 : t ≤ 1152921504606846976 := by omega
      clear hx2 hll
      go_wp2
      go_round
      case rel => exact ⟨k + 1, by omega, by go_num, by rw [take_get HX.out, totalM_snoc, HT.out]⟩
      case measure => simp [intOf]; omega
    · have hle := h.lenEq
      have HL := Lib.hid hle
      clear hle
      go_wp2
      go_ret
      exact ⟨ret_int (by rw [List.take_of_length_le (by rw [HL.out]; omega)]), rfl⟩
theorem mul_box3 {a b A B : Int} (ha : 0 ≤ a) (ha' : a ≤ A) (hb : 0 ≤ b) (hb' : b ≤ B) : 0 ≤ a * b ∧ a * b ≤ A * B :=
  ⟨Int.mul_nonneg ha hb, Int.mul_le_mul ha' hb' hb (by omega)⟩
theorem ints_part {w : World} {S : Nat → Prop} {b off len : Nat} {xs : List Int} (h : IntsAt w S (some ⟨b, off, none⟩) len xs) (i k : Nat) (hi : i < k) (hk : k ≤ len) : IntsAt w S (some ⟨b, off + i, none⟩) (k - i) ((xs.drop i).take (k - i)) := by
  have hl := h.lenEq
  have hs := h.small
  obtain ⟨b', off', e, hS, hc⟩ := h.cells (by omega)
  cases e
  refine ⟨by simp; omega, by omega, fun _ => ⟨b, off + i, rfl, hS, fun j x hx => ?_⟩⟩
  rw [List.getElem?_take] at hx
  split at hx
  · rw [List.getElem?_drop] at hx
    rw [Nat.add_assoc]
    exact hc _ _ hx
  · cases hx
theorem days_mem {xs : List Int} (hx : ∀ k, 0 ≤ xs.getD k 0 ∧ xs.getD k 0 ≤ 20) : ∀ x ∈ xs, -1099511627776 ≤ x ∧ x ≤ 1099511627776 := by
  intro x hx'
  obtain ⟨k, hk, rfl⟩ := List.mem_iff_getElem.1 hx'
  have := hx k
  rw [List.getD_eq_getElem?_getD, List.getElem?_eq_getElem hk] at this
  simp at this
  omega
def lotFine (ms xs : List Int) (s h : Int) : Bool := validLotsM xs s h && stocksFine 0 ms xs
/-- what LotCost answers -/
def lotCostM (ms xs : List Int) (s h : Int) : Int := if lotFine ms xs s h then planTo ms xs s h xs.length else -1
def IntBool (w : World) (n : Int) (b : Bool) (e : Ending) (w' : World) : Prop := e = .returned (.tuple #[.int .i64 n, .bool b]) ∧ Below w.heap.size w w'
theorem lotCost_no {ms xs : List Int} {s h : Int} (e : lotFine ms xs s h = false) : lotCostM ms xs s h = -1 := by unfold lotCostM; rw [e]; rfl
theorem lotCost_yes {ms xs : List Int} {s h : Int} (e : lotFine ms xs s h = true) : lotCostM ms xs s h = planTo ms xs s h xs.length := by unfold lotCostM; rw [e]; rfl
theorem dayC_bd {ms xs : List Int} {s h : Int} (hm : validMadeM ms = true) (hx : validDaysM xs = true) (hok : ∀ q, q < xs.length → 0 ≤ stockTo ms xs 0 (q + 1)) (hs : 0 ≤ s ∧ s ≤ 31) (hh : 0 ≤ h ∧ h ≤ 31) {q : Nat} (hq : q < xs.length) : 0 ≤ dayC ms xs s h q ∧ dayC ms xs s h q ≤ 50000 := by
  have h1 := hok q hq
  have h2 := stockTo_bd (s := 0) (by omega) (by omega) hm hx (q + 1)
  have hl := validDays_len hx
  have e : stockTo ms xs 0 (q + 1) = sumN ms (q + 1) - sumN xs (q + 1) := by rw [stockTo_closed]; omega
  rw [e] at h1 h2
  have h3 := mul_box3 hh.1 hh.2 h1 (show _ ≤ (1400 : Int) by omega)
  unfold dayC; split <;> omega
theorem planTo_bd {ms xs : List Int} {s h : Int} (hm : validMadeM ms = true) (hx : validDaysM xs = true) (hok : ∀ q, q < xs.length → 0 ≤ stockTo ms xs 0 (q + 1)) (hs : 0 ≤ s ∧ s ≤ 31) (hh : 0 ≤ h ∧ h ≤ 31) : ∀ q, q ≤ xs.length → 0 ≤ planTo ms xs s h q ∧ planTo ms xs s h q ≤ 50000 * (q : Int) := by
  intro q
  induction q with
  | zero => intro _; simp [planTo]
  | succ q ih => intro hq; have := ih (by omega); have := dayC_bd hm hx hok hs hh (q := q) (by omega); rw [planTo]; omega
/-- of the days behind i, so many lots are tried: the least cost, -1 ahead of the first -/
def curM (xs : List Int) (s h : Int) (i : Nat) : Nat → Int
  | 0 => -1
  | m + 1 => minTo (fun d => runD xs s h i (d + 1) + bst xs s h (i + (d + 1))) m
def doneB (xs : List Int) (s h : Int) (m q : Nat) : Int := if m ≤ q then bst xs s h q else 0
def bestNow (xs : List Int) (s h : Int) (i : Nat) (c : Int) (q : Nat) : Int := if q = i then c else if i < q then bst xs s h q else 0
def leastRes (xs : List Int) (s h : Int) : Int := if validLotsM xs s h then bst xs s h 0 else -1
theorem leastRes_no {xs : List Int} {s h : Int} (e : validLotsM xs s h = false) : leastRes xs s h = -1 := by unfold leastRes; rw [e]; rfl
theorem leastRes_yes {xs : List Int} {s h : Int} (e : validLotsM xs s h = true) : leastRes xs s h = bst xs s h 0 := by unfold leastRes; rw [e]; rfl
def IntVal (w : World) (n : Int) (e : Ending) (w' : World) : Prop := e = .returned (.int .i64 n) ∧ Below w.heap.size w w'
end Go.Proofs.Ytkjmpkincaainac
namespace Go.Proofs.Ytkjmpkincaainac
open Go.RowKit

set_option maxRecDepth 100000 in
set_option maxHeartbeats 1000000 in
theorem pick_any (R p : Nat) (n : Int) (w : World) (h : Rd w R p) (hp : p ≤ 1099511627776) :
    Calls Try.prog 41 #[.pointer (some ⟨R, 0, none⟩), .int .i64 n] w fun e w' => ∃ k : Nat, e = .returned (.int .i64 k) ∧ (k : Int) < max n 1 ∧ Rd w' R (p + 1) ∧ w.grownBy w' (some R) := by
  have HR := Lib.hid h
  obtain ⟨h1, hf, a, m, cap, h0, hm, hb⟩ := h
  by_cases hn : n < 1
  · go_enter Try.func41, Try.ntmps41
    go_wp2
    go_ret
    exact ⟨0, rfl, by omega, HR.out.stored0⟩
  · by_cases hm0 : m = 0
    · subst hm0
      go_enter Try.func41, Try.ntmps41
      go_wp2
      go_ret
      exact ⟨0, rfl, by omega, HR.out.stored0⟩
    · obtain ⟨b, off, rfl, hbR, hby⟩ := hb (by omega)
      by_cases hlt : p < m
      · obtain ⟨x, hx, hc⟩ := hby p hlt
        have hc' : (w.setCell ⟨R, 1, none⟩ (.int .i64 ((p : Int) + 1))).cell? ⟨b, off + p, none⟩ = some (.int .u8 x) := by
          rw [World.cell?_setCell_other _ _ _ _ (by intro e; injection e; omega)]; exact hc
        clear hby hb
        go_enter Try.func41, Try.ntmps41
        go_wp2
        go_ret
        have e1 : 0 ≤ (x : Int) % n := Int.emod_nonneg _ (by omega)
        have e2 : (x : Int) % n < n := Int.emod_lt_of_pos _ (by omega)
        exact ⟨((x : Int) % n).toNat, ret_int (by omega), by omega, HR.out.stored0⟩
      · have hm1 : 1 ≤ m := by omega
        obtain ⟨x1, hx1, hc1⟩ := hby (p % m) (Nat.mod_lt _ (by omega))
        obtain ⟨x2, hx2, hc2⟩ := hby ((p * 7 + 3) % m) (Nat.mod_lt _ (by omega))
        have hd1 : (w.setCell ⟨R, 1, none⟩ (.int .i64 ((p : Int) + 1))).cell? ⟨b, off + p % m, none⟩ = some (.int .u8 x1) := by
          rw [World.cell?_setCell_other _ _ _ _ (by intro e; injection e; omega)]; exact hc1
        have hd2 : (w.setCell ⟨R, 1, none⟩ (.int .i64 ((p : Int) + 1))).cell? ⟨b, off + (p * 7 + 3) % m, none⟩ = some (.int .u8 x2) := by
          rw [World.cell?_setCell_other _ _ _ _ (by intro e; injection e; omega)]; exact hc2
        clear hc1 hc2 hby hb
        have b1 : p % m < m := Nat.mod_lt _ (by omega)
        have b2 : (p * 7 + 3) % m < m := Nat.mod_lt _ (by omega)
        have g1 : 0 ≤ ((p : Int) * 7 + 3) % (m : Int) := Int.emod_nonneg _ (by omega)
        have g2 : ((p : Int) * 7 + 3) % (m : Int) < (m : Int) := Int.emod_lt_of_pos _ (by omega)
        have g3 : 0 ≤ (p : Int) / (m : Int) := Int.ediv_nonneg (by omega) (by omega)
        have g4 : (p : Int) / (m : Int) ≤ p := Int.ediv_le_self _ (by omega)
        go_enter Try.func41, Try.ntmps41
        go_wp2
        go_quiet (fail)
        go_wp2
        go_ret
        obtain ⟨k, hk, hk'⟩ := mixed ((x1 : Int) * 131 + x2 * 1117 + p * 29 + (p : Int) / (m : Int) * 53) n (by omega) (by omega) hn
        exact ⟨k, ret_int hk, by omega, HR.out.stored _⟩

theorem one_any (S : Nat → Prop) (R p : Nat) (a : Option Addr) (len cap : Nat) (xs : List Int) (w : World) (h : Rd w R p) (hx : IntsAt w S a len xs) (hne : ∀ b, S b → b ≠ R ∧ b < w.heap.size) (hl : 1 ≤ len) (hp : p ≤ 1099511627776) :
    Calls Try.prog 30 #[.pointer (some ⟨R, 0, none⟩), .slice a len cap] w fun e w' => ∃ x, x ∈ xs ∧ e = .returned (.int .i64 x) ∧ Rd w' R (p + 1) ∧ w.grownBy w' (some R) := by
  have hs := hx.small
  go_enter Try.func30, Try.ntmps30
  go_wp2_with fail
  refine (pick_any R p (len : Int) w h hp).mono ?_
  rintro e w' ⟨k, rfl, hk, hr, hg⟩
  obtain ⟨b, off, x, rfl, hx1, hx2⟩ := (hx.to (S' := S) (w' := w') fun b hb => ⟨hb, hg.block b (hne b hb).2 (by have := (hne b hb).1; simpa using this)⟩).get (k := k) (by omega)
  have HX := Lib.hid hx1
  clear hx1
  have hk' : k < len := by omega
  go_wp2
  go_ret
  exact ⟨x, List.mem_of_getElem? HX.out, rfl, hr, hg⟩
end Go.Proofs.Ytkjmpkincaainac
namespace Go.Proofs.Ytkjmpkincaainac
open Go.RowKit Go.WideShapes

theorem rd_new (w : World) (a : Option Addr) (n cap : Nat) (t : TypeId) (hn : n ≤ 2000) (hb : BytesAt w w.heap.size a n) : Rd (w.alloc (.cells #[.slice a n cap, .int .i64 0] t)) w.heap.size 0 := by
  refine ⟨by rw [World.cell?_alloc_new]; rfl, World.frozen?_alloc_new w _ _ _, a, n, cap, by rw [World.cell?_alloc_new]; rfl, hn, fun h0 => ?_⟩
  obtain ⟨b, off, ha, hb', hc⟩ := hb h0
  refine ⟨b, off, ha, hb', fun i hi => ?_⟩
  obtain ⟨x, hx, hx'⟩ := hc i hi
  exact ⟨x, hx, by rw [World.cell?_alloc_lt _ _ _ hb']; exact hx'⟩

def ReaderPost (w : World) (e : Ending) (w' : World) : Prop := e = .returned (.pointer (some ⟨w.heap.size, 0, none⟩)) ∧ Rd w' w.heap.size 0 ∧ Below w.heap.size w w'

theorem newReader_any (a : Option Addr) (len cap : Nat) (w : World) (hb : BytesAt w w.heap.size a len) (hl : len ≤ cap) (hs : len ≤ 9223372036854775807) :
    Calls Try.prog 28 #[.slice a len cap] w (ReaderPost w) := by
  by_cases h : len ≤ 2000
  · go_enter Try.func28, Try.ntmps28
    go_wp2
    go_ret
    exact ⟨rfl, rd_new w a len cap _ h hb, (Below.refl _ _).alloc (Nat.le_refl _) _⟩
  · obtain ⟨b, off, rfl, hb1, hc⟩ := hb (by omega)
    have h2 : BytesAt w w.heap.size (some ⟨b, off, none⟩) 2000 := fun _ => ⟨b, off, rfl, hb1, fun i hi => hc i (by omega)⟩
    clear hc
    go_enter Try.func28, Try.ntmps28
    go_wp2
    go_ret
    exact ⟨rfl, rd_new w _ 2000 cap _ (by omega) h2, (Below.refl _ _).alloc (Nat.le_refl _) _⟩
end Go.Proofs.Ytkjmpkincaainac
namespace Go.Proofs.Ytkjmpkincaainac
open Go.RowKit Go.WideShapes

/-- append of one int to a list of the call's own -/
theorem wpApp1 {ops : Array Oper} {rest : List Oper} {o : Oper} {a : Act} {Q : Exit → Act → World → Prop} {wo : World} (hgd : o.guard = none) (s x : Operand)
    (ho : o.op = .call { callee := .builtin .append, args := #[s, x], argTypes := #[22, 22] })
    (base k cp : Nat) (ax : Option Addr) (xs : List Int) (v : Int) (hs : a.eval s = .slice ax k cp)
    (hown : wo.ownsRow base 3 1 (.slice ax k cp) k (xs.map (.int .i64))) (hx : a.eval x = .slice (some ⟨wo.heap.size, 0, none⟩) 1 1)
    (hbase : base ≤ wo.heap.size) (hk : k ≤ 1048576)
    (h : ∀ (a6 : Option Addr) (c6 : Nat) (w' : World), w'.ownsRow base 3 1 (.slice a6 (k + 1) c6) (k + 1) (xs.map (.int .i64) ++ [.int .i64 v]) → k + 1 ≤ c6 → wo.grownBy w' (Value.slice ax k cp).ownBlock →
      wpList Try.prog ops Q rest (a.put o.dst (.slice a6 (k + 1) c6)) w') :
    wpList Try.prog ops Q (o :: rest) a (wo.alloc (.cells #[.int .i64 v] 3)) := by
  obtain ⟨i0, hi, hz0, hz1, hz2⟩ := info_parts Try.infoIntO
  refine wpList_append_own _ hgd s x 22 ho base 3 i0 (.int .i64 0) 1 8 Try.underlying22 hi hz0 hz1 hz2 rfl (by decide) _ k _ hs (hown.alloc _) ⟨wo.heap.size, 0, none⟩ 1 1 [.int .i64 v] hx rfl (one_new _ _ _) (one_cell_int _ _) (by unfold maxLen; omega) (by omega) (by simp; omega) ?_
  intro v' w6 hown6 hgrow _
  obtain ⟨a6, c6, rfl, hc⟩ := own_slice hown6
  exact h a6 c6 w6 hown6 hc (grown_comp (World.grownBy_alloc wo _ _) hgrow)
/-- append of a list to a list of the call's own -/
theorem wpAppN {ops : Array Oper} {rest : List Oper} {o : Oper} {a : Act} {Q : Exit → Act → World → Prop} {wo : World} (hgd : o.guard = none) (s x : Operand)
    (ho : o.op = .call { callee := .builtin .append, args := #[s, x], argTypes := #[22, 22] })
    (base k cp : Nat) (ax : Option Addr) (xs : List Int) (S : Nat → Prop) (b off m c : Nat) (ys : List Int) (hs : a.eval s = .slice ax k cp)
    (hown : wo.ownsRow base 3 1 (.slice ax k cp) k (xs.map (.int .i64))) (hx : a.eval x = .slice (some ⟨b, off, none⟩) m c) (hy : IntsAt wo S (some ⟨b, off, none⟩) m ys)
    (hbase : base ≤ wo.heap.size) (hk : k + m ≤ 1048576)
    (h : ∀ (a6 : Option Addr) (c6 : Nat) (w' : World), w'.ownsRow base 3 1 (.slice a6 (k + m) c6) (k + m) (xs.map (.int .i64) ++ ys.map (.int .i64)) → k + m ≤ c6 → wo.grownBy w' (Value.slice ax k cp).ownBlock →
      wpList Try.prog ops Q rest (a.put o.dst (.slice a6 (k + m) c6)) w') :
    wpList Try.prog ops Q (o :: rest) a wo := by
  obtain ⟨i0, hi, hz0, hz1, hz2⟩ := info_parts Try.infoIntO
  refine wpList_append_own _ hgd s x 22 ho base 3 i0 (.int .i64 0) 1 8 Try.underlying22 hi hz0 hz1 hz2 rfl (by decide) _ k _ hs hown ⟨b, off, none⟩ m c (ys.map (.int .i64)) hx (by simp [hy.lenEq]) ?_ ?_ (by unfold maxLen; omega) (by omega) hbase ?_
  · intro j u hj
    rw [List.getElem?_map] at hj
    cases hq : ys[j]? with
    | none => rw [hq] at hj; cases hj
    | some z =>
      rw [hq] at hj
      simp only [Option.map_some, Option.some.injEq] at hj
      have hlt : j < ys.length := (List.getElem?_eq_some_iff.1 hq).1
      obtain ⟨b', off', e, _, hc⟩ := hy.cells (by have := hy.lenEq; omega)
      cases e
      rw [add_plain, hc _ _ hq, ← hj]
  · intro u hu
    obtain ⟨x, _, rfl⟩ := List.mem_map.1 hu
    rfl
  intro v' w6 hown6 hgrow _
  obtain ⟨a6, c6, rfl, hc⟩ := own_slice hown6
  exact h a6 c6 w6 hown6 hc hgrow
theorem own_block {w : World} {B e s n : Nat} {v : Value} {xs : List Value} (h : w.ownsRow B e s v n xs) : ∀ k, v.ownBlock = some k → B ≤ k := fun k e => (h.lt k e).1
theorem own_snoc {w : World} {B n : Nat} {u : Value} {xs : List Int} {x : Int} (h : w.ownsRow B 3 1 u n (xs.map (.int .i64) ++ [.int .i64 x])) : w.ownsRow B 3 1 u n ((xs ++ [x]).map (.int .i64)) := by
  rw [List.map_append]; exact h
end Go.Proofs.Ytkjmpkincaainac
namespace Go.Proofs.Ytkjmpkincaainac
open Go.RowKit Go.WideShapes

/-- a list made behind the reader R, ahead of block B -/
def LAt (w : World) (R B : Nat) (a : Option Addr) (l : Nat) (xs : List Int) : Prop := IntsAt w (fun b => R < b ∧ b < B) a l xs ∧ B ≤ w.heap.size
theorem LAt.step {w w' : World} {R B l : Nat} {a : Option Addr} {xs : List Int} (h : LAt w R B a l xs) (hg : w.grownBy w' (some R)) : LAt w' R B a l xs :=
  ⟨h.1.to (fun b hb => ⟨hb, hg.block b (Nat.lt_of_lt_of_le hb.2 h.2) (by intro e; injection e; omega)⟩), Nat.le_trans h.2 hg.size⟩
theorem LAt.stepR {w w' : World} {R B l : Nat} {a : Option Addr} {xs : List Int} {r : Option Nat} (h : LAt w R B a l xs) (hg : w.grownBy w' r) (hr : ∀ k, r = some k → B ≤ k) : LAt w' R B a l xs :=
  ⟨h.1.to (fun b hb => ⟨hb, hg.block b (Nat.lt_of_lt_of_le hb.2 h.2) (by intro e; have := hr b e.symm; omega)⟩), Nat.le_trans h.2 hg.size⟩
theorem LAt.alloc {w : World} {R B l : Nat} {a : Option Addr} {xs : List Int} (h : LAt w R B a l xs) (o : Obj) : LAt (w.alloc o) R B a l xs := h.step (World.grownBy_alloc _ _ _)
theorem LAt.low {w : World} {R B l : Nat} {a : Option Addr} {xs : List Int} (h : LAt w R B a l xs) : IntsAt w (· < w.heap.size) a l xs := h.1.to (fun _ hb => ⟨Nat.lt_of_lt_of_le hb.2 h.2, rfl⟩)
theorem lat_new {w w' : World} {R l : Nat} {a : Option Addr} {xs : List Int} (h : IntsAt w' (fun b => w.heap.size ≤ b ∧ b < w'.heap.size) a l xs) (hR : R < w.heap.size) : LAt w' R w'.heap.size a l xs :=
  ⟨h.to (fun _ hb => ⟨⟨by omega, hb.2⟩, rfl⟩), Nat.le_refl _⟩
theorem lat_own {w w' : World} {R l cp : Nat} {a : Option Addr} {xs : List Int} (h : w'.ownsRow w.heap.size 3 1 (.slice a l cp) l (xs.map (.int .i64))) (hR : R < w.heap.size) (hl : l ≤ 9223372036854775807) : LAt w' R w'.heap.size a l xs := by
  obtain ⟨ay, cy, hve, _, hints⟩ := own_ints h hl
  simp only [Value.slice.injEq] at hve
  obtain ⟨rfl, _, rfl⟩ := hve
  exact lat_new hints hR
theorem own_low {w : World} {B l cp : Nat} {a : Option Addr} {xs : List Int} (h : w.ownsRow B 3 1 (.slice a l cp) l (xs.map (.int .i64))) (hl : l ≤ 9223372036854775807) : IntsAt w (· < w.heap.size) a l xs := by
  obtain ⟨ay, cy, hve, _, hints⟩ := own_ints h hl
  simp only [Value.slice.injEq] at hve
  obtain ⟨rfl, _, rfl⟩ := hve
  exact hints.to (fun _ hb => ⟨hb.2, rfl⟩)
theorem grown_of_below {w w' : World} (h : Below w.heap.size w w') (r : Option Nat) : w.grownBy w' r := ⟨h.os, h.tape, h.output, h.size, fun b hb _ => h.block b hb⟩
theorem Rd.step {w w' : World} {R p : Nat} (h : Rd w R p) (hb : Below w.heap.size w w') : Rd w' R p :=
  h.grown (r := none) (grown_of_below hb none) (fun k e => by cases e)
theorem own_step {w w' : World} {B R l : Nat} {v : Value} {xs : List Value} (h : w.ownsRow B 3 1 v l xs) (hg : w.grownBy w' (some R)) (hR : R < B) : w'.ownsRow B 3 1 v l xs := h.kept hg (ne_low h hR)
end Go.Proofs.Ytkjmpkincaainac
namespace Go.Proofs.Ytkjmpkincaainac
open Go.RowKit Go.WideShapes

theorem Try.infoIntD : (Try.prog.info? 3).map (fun i => (i.zero, i.size, i.bytes)) = some (some (.int .i64 0), 1, 8) := by kernel_rfl

/-- the days that are drawn -/
def DaysOk (xs : List Int) : Prop := xs.length ≤ 9 ∧ (∀ k, -1 ≤ xs.getD k 0) ∧ (∀ k, xs.getD k 0 ≤ if k = 0 then 21 else 12)
theorem daysOk_of {xs : List Int} (hl : xs.length ≤ 9) (h : ∀ x ∈ xs, 0 ≤ x ∧ x ≤ 12) : DaysOk xs := by
  have key : ∀ k, 0 ≤ xs.getD k 0 ∧ xs.getD k 0 ≤ 12 := by
    intro k
    rcases Nat.lt_or_ge k xs.length with h' | h'
    · exact h _ (List.mem_of_getElem? (get_getD h'))
    · rw [getD_past h']; omega
  exact ⟨hl, fun k => by have := key k; omega, fun k => by have := key k; split <;> omega⟩
theorem daysOk_set {xs : List Int} {x : Int} (hl : xs.length ≤ 9) (h : ∀ x ∈ xs, 0 ≤ x ∧ x ≤ 12) (hx : x = -1 ∨ x = 21) : DaysOk (xs.set 0 x) := by
  have key : ∀ k, 0 ≤ xs.getD k 0 ∧ xs.getD k 0 ≤ 12 := by
    intro k
    rcases Nat.lt_or_ge k xs.length with h' | h'
    · exact h _ (List.mem_of_getElem? (get_getD h'))
    · rw [getD_past h']; omega
  have e : ∀ k, (xs.set 0 x).getD k 0 = if k = 0 ∧ 0 < xs.length then x else xs.getD k 0 := by
    intro k
    rw [List.getD_eq_getElem?_getD, List.getD_eq_getElem?_getD, List.getElem?_set]
    by_cases hk : 0 = k
    · subst hk
      by_cases hp : 0 < xs.length
      · rw [if_pos rfl, if_pos hp, if_pos ⟨rfl, hp⟩]; rfl
      · rw [if_pos rfl, if_neg hp, if_neg (by omega), List.getElem?_eq_none (by omega)]
    · rw [if_neg hk, if_neg (by omega)]
  refine ⟨by rw [List.length_set]; exact hl, fun k => ?_, fun k => ?_⟩
  · rw [e]; have := key k; split <;> omega
  · rw [e]; have := key k; split <;> split <;> omega

def DaysPost (w : World) (R p : Nat) (e : Ending) (w' : World) : Prop := ∃ (a : Option Addr) (len cap : Nat) (xs : List Int) (p' : Nat), e = .returned (.slice a len cap) ∧
  w'.ownsRow w.heap.size 3 1 (.slice a len cap) len (xs.map (.int .i64)) ∧ len ≤ cap ∧ len ≤ 9 ∧ DaysOk xs ∧ Rd w' R p' ∧ p' ≤ p + 100 ∧ w.grownBy w' (some R)
theorem DaysPost.mk {w w' : World} {R p p' : Nat} {a : Option Addr} {len cap : Nat} {xs : List Int} (h : w'.ownsRow w.heap.size 3 1 (.slice a len cap) len (xs.map (.int .i64))) (hl : len ≤ 9) (hd : DaysOk xs) (hr : Rd w' R p') (hp : p' ≤ p + 100) (hg : w.grownBy w' (some R)) :
    DaysPost w R p (.returned (.slice a len cap)) w' := by
  obtain ⟨a', cap', e, hc⟩ := own_slice h
  simp only [Value.slice.injEq] at e
  obtain ⟨rfl, _, rfl⟩ := e
  exact ⟨_, _, _, xs, p', rfl, h, hc, hl, hd, hr, hp, hg⟩
theorem ro {R : Nat} : ∀ k, some R = some k → k = R ∨ False := by intro k e; cases e; exact Or.inl rfl

theorem most_n {n : Int} (h : n ∈ [6, 12, 3]) : 3 ≤ n ∧ n ≤ 12 := by simp at h; omega
theorem days_n {n : Int} (h : n ∈ [5, 6, 4, 8, 3, 2, 1, 0, 9]) : ∃ m : Nat, n = (m : Int) ∧ m ≤ 9 := by simp at h; exact ⟨n.toNat, by omega, by omega⟩
theorem grown_r {a b c : World} {R : Nat} (h : a.grownBy b (some R)) (g : b.grownBy c (some R)) : a.grownBy c (some R) := grown_trans h g (fun k e => by cases e; exact Or.inl rfl)

end Go.Proofs.Ytkjmpkincaainac
