import Derived.Test.YtkjmpkincaainadRows
import Derived.WalkKit
import Derived.LoopTactic
import Derived.Outline
import Derived.WalkSpells
import Derived.WalkLawsBesides
import Derived.ProofKit
import Derived.Lib.Hide
import Derived.RegionTactic
import Derived.BigRegion
import Derived.Test.YtkjmpkincaainadM0
import Derived.Test.YtkjmpkincaainadM1
import Derived.Test.YtkjmpkincaainadM8
import Derived.Test.YtkjmpkincaainadM2
import Derived.Deep.QuietTactic
import Derived.BigQuiet
import Derived.IntWalk
import Derived.Test.YtkjmpkincaainadM3
namespace Go.Proofs.Ytkjmpkincaainad
open Go.RowKit Go.WideShapes

theorem Try.infoIntLo : (Try.prog.info? 3).map (fun i => (i.zero, i.size, i.bytes)) = some (some (.int .i64 0), 1, 8) := by kernel_rfl

theorem ints_alloc {w : World} {a : Option Addr} {len : Nat} {xs : List Int} (h : IntsAt w (· < w.heap.size) a len xs) (o : Obj) : IntsAt (w.alloc o) (· < w.heap.size) a len xs :=
  h.to (fun b hb => ⟨hb, Below.heap_alloc _ _ _ (by omega)⟩)

theorem ret_slice {a : Option Addr} {l c l' c' : Nat} (h : l = l') (h2 : c = c') : Ending.returned (.slice a l c) = Ending.returned (.slice a l' c') := by rw [h, h2]
def SlicePost (w : World) (S : Nat → Prop) (l : Nat) (xs : List Int) (e : Ending) (w' : World) : Prop := (∃ a', e = .returned (.slice a' l l) ∧ IntsAt w S a' l xs) ∧ w = w'
theorem sumOf_any (S : Nat → Prop) (a : Option Addr) (len cap : Nat) (xs : List Int) (w : World) (h : IntsAt w S a len xs) (hb : ∀ x ∈ xs, -1099511627776 ≤ x ∧ x ≤ 1099511627776) (hl : len ≤ 1048576) :
    Calls Try.prog 44 #[.slice a len cap] w fun e w' => e = .returned (.int .i64 (totalM xs)) ∧ w = w' := by
  go_enter Try.func44, Try.ntmps44
  go_wp2
  go_loop [3, 8] (fun n i => ∃ k : Nat, k ≤ len ∧ i = .int .i64 k ∧ n = .int .i64 (totalM (xs.take k))) (fun _ i => len - (intOf i).toNat)
  case atStart => exact ⟨0, Nat.zero_le _, rfl, rfl⟩
  case round =>
    obtain ⟨k, hk, rfl, rfl⟩ := hrel
    by_cases hlt : k < len
    · obtain ⟨b, off, x, rfl, hx, hc⟩ := h.get hlt
      have hx1 := hb x (List.mem_of_getElem? hx)
      have hx2 := totalM_bd (B := 1099511627776) (by omega) (fun y hy => hb y (take_mem (k := k) hy))
      have hll : ((xs.take k).length : Int) ≤ 1048576 := by rw [List.length_take]; omega
      have HX := Lib.hid hx
      clear hx
      generalize hT : totalM (xs.take k) = t at hx2 ⊢
      have HT := Lib.hid hT
      clear hT
      have ht1 : -1152921504606846976 ≤ t := by omega
      have ht2 : t ≤ 1152921504606846976 := by omega
      clear hx2 hll
      go_wp2
      go_round
      case rel => exact ⟨k + 1, by omega, by go_num, by rw [take_get HX.out, totalM_snoc, HT.out]⟩
      case measure => simp [intOf]; omega
    · have hle := h.lenEq
      have HL := Lib.hid hle
      clear hle
      go_wp2
      go_ret
      exact ⟨ret_int (by rw [List.take_of_length_le (by rw [HL.out]; omega)]), rfl⟩
/-- what LotsFor answers -/
def lotsRes (xs : List Int) (d : Int) : List Int := if (validDaysM xs && inB 1 8 d) = true then lotsM xs d else []
theorem lotsRes_len (xs : List Int) (d : Int) : (lotsRes xs d).length ≤ 1048576 := by
  unfold lotsRes
  split
  · rename_i h; simp only [Bool.and_eq_true] at h; have := validDays_len h.1; rw [lotsM_length]; omega
  · simp
theorem lotsRes_no {xs : List Int} {d : Int} (h : (validDaysM xs && inB 1 8 d) = false) : lotsRes xs d = [] := by unfold lotsRes; rw [h]; rfl
theorem lotsRes_yes {xs : List Int} {d : Int} (h : (validDaysM xs && inB 1 8 d) = true) : lotsRes xs d = lotsM xs d := by unfold lotsRes; rw [h]; rfl

end Go.Proofs.Ytkjmpkincaainad
namespace Go.Proofs.Ytkjmpkincaainad
open Go.RowKit Go.WideShapes

theorem Try.infoIntT : (Try.prog.info? 3).map (fun i => (i.zero, i.size, i.bytes)) = some (some (.int .i64 0), 1, 8) := by kernel_rfl

theorem stocks_no {s : Int} {ms ws : List Int} (h : stocksFine s ms ws = false) : stocksM s ms ws = [] := by unfold stocksM; rw [h]; rfl
theorem stocks_yes {s : Int} {ms ws : List Int} (h : stocksFine s ms ws = true) : stocksM s ms ws = tab (fun q => stockTo ms ws s (q + 1)) ws.length := by unfold stocksM; rw [h]; rfl
theorem stocksM_len (s : Int) (ms ws : List Int) : (stocksM s ms ws).length ≤ 1048576 := by
  unfold stocksM
  split
  · rename_i h
    simp only [stocksFine, stocksIn, Bool.and_eq_true] at h
    have := validDays_len h.1.1.2
    rw [tab_length]; omega
  · simp
theorem resPostB_none {w w' : World} (h : Below w.heap.size w w') : ResPostB w [] false (.returned (.tuple #[.slice none 0 0, .bool false])) w' :=
  ⟨none, 0, 0, rfl, ⟨rfl, Nat.zero_le _, fun h => absurd h (by omega)⟩, ⟨Nat.zero_le _, fun h => absurd h (by omega)⟩, h⟩
theorem newIntsB_none {w w' : World} (h : Below w.heap.size w w') : NewIntsB w [] false (.returned (.tuple #[.slice none 0 0, .bool false])) w' :=
  ⟨none, 0, 0, rfl, ⟨rfl, Nat.zero_le _, fun h => absurd h (by omega)⟩, Nat.le_refl _, h⟩
theorem newIntsB_of {w w' : World} {xs : List Int} {b : Bool} {a : Option Addr} {len cap : Nat} (h : NewInts w xs (.returned (.slice a len cap)) w') : NewIntsB w xs b (.returned (.tuple #[.slice a len cap, .bool b])) w' := by
  obtain ⟨a', l', c', e, h1, h2, h3⟩ := h
  simp only [Ending.returned.injEq, Value.slice.injEq] at e
  obtain ⟨rfl, rfl, rfl⟩ := e
  exact ⟨_, _, _, rfl, h1, h2, h3⟩

def stocksMB (s : Int) (ms ws : List Int) : Bool := stocksFine s ms ws

end Go.Proofs.Ytkjmpkincaainad
namespace Go.Proofs.Ytkjmpkincaainad

/-- the days of a lot behind its first one, each times what is wanted on it -/
def hsum (xs : List Int) (i : Nat) : Nat → Int
  | 0 => 0
  | d + 1 => hsum xs i d + (d : Int) * xs.getD (i + d) 0
/-- what it costs to make d days at the day i -/
def runD (xs : List Int) (s h : Int) (i d : Nat) : Int := h * hsum xs i d + (if 0 < sumN xs (i + d) - sumN xs i then s else 0)
theorem sumN_mono {xs : List Int} (hx : ∀ k, 0 ≤ xs.getD k 0) (i d : Nat) : sumN xs i ≤ sumN xs (i + d) := by
  induction d with
  | zero => exact Int.le_refl _
  | succ d ih => have := hx (i + d); rw [← Nat.add_assoc, sumN]; omega
theorem sumN_le {xs : List Int} (hx : ∀ k, 0 ≤ xs.getD k 0) {i k : Nat} (h : i ≤ k) : sumN xs i ≤ sumN xs k := by
  have := sumN_mono hx i (k - i); rwa [show i + (k - i) = k by omega] at this
theorem hsum_nonneg {xs : List Int} (hx : ∀ k, 0 ≤ xs.getD k 0) (i d : Nat) : 0 ≤ hsum xs i d := by
  induction d with
  | zero => exact Int.le_refl _
  | succ d ih => have := Int.mul_nonneg (show (0 : Int) ≤ d by omega) (hx (i + d)); rw [hsum]; omega
theorem hsum_bd {xs : List Int} {B : Int} (hx : ∀ k, 0 ≤ xs.getD k 0 ∧ xs.getD k 0 ≤ B) (i d : Nat) (hd : d ≤ 8) : hsum xs i d ≤ 8 * B * d := by
  induction d with
  | zero => simp [hsum]
  | succ d ih =>
    have h1 := hx (i + d)
    have h2 : (d : Int) * xs.getD (i + d) 0 ≤ 8 * B := Int.mul_le_mul (by omega) h1.2 h1.1 (by omega)
    have := ih (by omega)
    rw [hsum]; push_cast; rw [Int.mul_add, Int.mul_one]; omega
theorem runD_nonneg {xs : List Int} {s h : Int} (hx : ∀ k, 0 ≤ xs.getD k 0) (hs : 0 ≤ s) (hh : 0 ≤ h) (i d : Nat) : 0 ≤ runD xs s h i d := by
  have := Int.mul_nonneg hh (hsum_nonneg hx i d)
  unfold runD; split <;> omega
theorem runD_bd {xs : List Int} {s h : Int} (hx : ∀ k, 0 ≤ xs.getD k 0 ∧ xs.getD k 0 ≤ 20) (hs : 0 ≤ s ∧ s ≤ 31) (hh : 0 ≤ h ∧ h ≤ 31) (i d : Nat) (hd : d ≤ 8) : 0 ≤ runD xs s h i d ∧ runD xs s h i d ≤ 40000 := by
  refine ⟨runD_nonneg (fun k => (hx k).1) hs.1 hh.1 i d, ?_⟩
  have h1 := hsum_bd hx i d hd
  have h0 := hsum_nonneg (fun k => (hx k).1) i d
  have h2 : h * hsum xs i d ≤ 31 * 1280 := Int.mul_le_mul hh.2 (by omega) h0 (by omega)
  unfold runD; split <;> omega
/-- the days from i on can be made in lots for c -/
inductive PC (xs : List Int) (s h : Int) : Nat → Int → Prop where
  | done : PC xs s h xs.length 0
  | lot (i d : Nat) (c : Int) (hd : i + (d + 1) ≤ xs.length) (hc : PC xs s h (i + (d + 1)) c) : PC xs s h i (runD xs s h i (d + 1) + c)
theorem PC.nonneg {xs : List Int} {s h : Int} (hx : ∀ k, 0 ≤ xs.getD k 0) (hs : 0 ≤ s) (hh : 0 ≤ h) {i : Nat} {c : Int} (p : PC xs s h i c) : 0 ≤ c := by
  induction p with
  | done => exact Int.le_refl _
  | lot i d c hd _ ih => have := runD_nonneg hx hs hh i (d + 1); omega
theorem PC.le {xs : List Int} {s h : Int} {i : Nat} {c : Int} (p : PC xs s h i c) : i ≤ xs.length := by
  cases p with
  | done => exact Nat.le_refl _
  | lot _ d c hd _ => omega
/-- the least of f 0 .. f m -/
def minTo (f : Nat → Int) : Nat → Int
  | 0 => f 0
  | m + 1 => min (minTo f m) (f (m + 1))
theorem minTo_le {f : Nat → Int} {m d : Nat} (h : d ≤ m) : minTo f m ≤ f d := by
  induction m with
  | zero => obtain rfl : d = 0 := by omega
            exact Int.le_refl _
  | succ m ih =>
    rw [minTo]
    by_cases e : d = m + 1
    · subst e; omega
    · have := ih (by omega); omega
theorem minTo_at (f : Nat → Int) (m : Nat) : ∃ d, d ≤ m ∧ minTo f m = f d := by
  induction m with
  | zero => exact ⟨0, Nat.le_refl _, rfl⟩
  | succ m ih =>
    obtain ⟨d, hd, e⟩ := ih
    rw [minTo]
    by_cases h : minTo f m ≤ f (m + 1)
    · exact ⟨d, by omega, by omega⟩
    · exact ⟨m + 1, Nat.le_refl _, by omega⟩
theorem minTo_congr {f g : Nat → Int} {m : Nat} (h : ∀ d, d ≤ m → f d = g d) : minTo f m = minTo g m := by
  induction m with
  | zero => exact h 0 (Nat.le_refl _)
  | succ m ih => rw [minTo, minTo, ih (fun d hd => h d (by omega)), h (m + 1) (Nat.le_refl _)]
def bestF (xs : List Int) (s h : Int) : Nat → Nat → Int
  | 0, _ => 0
  | m + 1, q => if q = m + 1 then minTo (fun d => runD xs s h (xs.length - (m + 1)) (d + 1) + bestF xs s h m (m - d)) m else bestF xs s h m q
/-- the least cost of the days from i on -/
def bst (xs : List Int) (s h : Int) (i : Nat) : Int := bestF xs s h (xs.length - i) (xs.length - i)
theorem bestF_low (xs : List Int) (s h : Int) (m : Nat) : ∀ q, q ≤ m → bestF xs s h m q = bestF xs s h q q := by
  induction m with
  | zero => intro q hq; obtain rfl : q = 0 := by omega
            rfl
  | succ m ih =>
    intro q hq
    by_cases e : q = m + 1
    · subst e; rfl
    · rw [bestF, if_neg e]; exact ih q (by omega)
theorem bst_end (xs : List Int) (s h : Int) : bst xs s h xs.length = 0 := by unfold bst; rw [Nat.sub_self]; rfl
theorem bst_rec {xs : List Int} {s h : Int} {i : Nat} (hi : i < xs.length) : bst xs s h i = minTo (fun d => runD xs s h i (d + 1) + bst xs s h (i + (d + 1))) (xs.length - 1 - i) := by
  obtain ⟨m, hm⟩ : ∃ m, xs.length - i = m + 1 := ⟨xs.length - i - 1, by omega⟩
  unfold bst
  rw [hm, bestF, if_pos rfl, show xs.length - 1 - i = m by omega]
  refine minTo_congr (fun d hd => ?_)
  rw [show xs.length - (m + 1) = i by omega, bestF_low xs s h m (m - d) (by omega), show xs.length - (i + (d + 1)) = m - d by omega]
def LeastC (xs : List Int) (s h : Int) (i : Nat) (b : Int) : Prop := PC xs s h i b ∧ ∀ c, PC xs s h i c → b ≤ c
theorem LeastC.uniq {xs : List Int} {s h : Int} {i : Nat} {a b : Int} (ha : LeastC xs s h i a) (hb : LeastC xs s h i b) : a = b := by
  have := ha.2 b hb.1; have := hb.2 a ha.1; omega
theorem bst_least (xs : List Int) (s h : Int) : ∀ (m i : Nat), i + m = xs.length → LeastC xs s h i (bst xs s h i) := by
  intro m
  induction m using Nat.strongRecOn with
  | ind m ih =>
    intro i hi
    by_cases h0 : i = xs.length
    · subst h0
      rw [bst_end]
      refine ⟨PC.done, fun c hc => ?_⟩
      generalize hn : xs.length = n at hc
      cases hc with
      | done => exact Int.le_refl _
      | lot _ d c hd _ => omega
    · have hlt : i < xs.length := by omega
      have hsub : ∀ d, i + (d + 1) ≤ xs.length → LeastC xs s h (i + (d + 1)) (bst xs s h (i + (d + 1))) := fun d hd => ih (xs.length - (i + (d + 1))) (by omega) _ (by omega)
      rw [bst_rec hlt]
      refine ⟨?_, fun c hc => ?_⟩
      · obtain ⟨d, hd, e⟩ := minTo_at (fun d => runD xs s h i (d + 1) + bst xs s h (i + (d + 1))) (xs.length - 1 - i)
        rw [e]
        exact PC.lot i d _ (by omega) (hsub d (by omega)).1
      · cases hc with
        | done => omega
        | lot _ d c hd hc' =>
          have h1 := (hsub d hd).2 c hc'
          have h2 := minTo_le (f := fun d => runD xs s h i (d + 1) + bst xs s h (i + (d + 1))) (m := xs.length - 1 - i) (d := d) (by omega)
          omega
theorem bst_is {xs : List Int} {s h : Int} {i : Nat} (hi : i ≤ xs.length) : LeastC xs s h i (bst xs s h i) := bst_least xs s h (xs.length - i) i (by omega)
theorem bst_nonneg {xs : List Int} {s h : Int} (hx : ∀ k, 0 ≤ xs.getD k 0) (hs : 0 ≤ s) (hh : 0 ≤ h) {i : Nat} (hi : i ≤ xs.length) : 0 ≤ bst xs s h i := (bst_is hi).1.nonneg hx hs hh
theorem bst_bd {xs : List Int} {s h : Int} (hl : xs.length ≤ 8) (hx : ∀ k, 0 ≤ xs.getD k 0 ∧ xs.getD k 0 ≤ 20) (hs : 0 ≤ s ∧ s ≤ 31) (hh : 0 ≤ h ∧ h ≤ 31) {i : Nat} (hi : i ≤ xs.length) : 0 ≤ bst xs s h i ∧ bst xs s h i ≤ 40000 := by
  refine ⟨bst_nonneg (fun k => (hx k).1) hs.1 hh.1 hi, ?_⟩
  by_cases h0 : i = xs.length
  · subst h0; rw [bst_end]; omega
  · have h1 := (bst_is (s := s) (h := h) hi).2 _ (PC.lot i (xs.length - i - 1) 0 (by omega) (by rw [show i + (xs.length - i - 1 + 1) = xs.length by omega]; exact PC.done))
    have h2 := runD_bd hx hs hh i (xs.length - i - 1 + 1) (by omega)
    omega

-- plans
/-- what it costs on day q: it is there at its end, it is made on it -/
def dayC (ms xs : List Int) (s h : Int) (q : Nat) : Int := h * (sumN ms (q + 1) - sumN xs (q + 1)) + (if 0 < ms.getD q 0 then s else 0)
def planTo (ms xs : List Int) (s h : Int) : Nat → Int
  | 0 => 0
  | q + 1 => planTo ms xs s h q + dayC ms xs s h q
theorem sumN_flat {ms : List Int} {i k : Nat} (h : ∀ q, i < q → q < k → ms.getD q 0 = 0) {q : Nat} (hq : i ≤ q) (hk : q < k) : sumN ms k = sumN ms (q + 1) := by
  obtain ⟨d, rfl⟩ : ∃ d, k = q + 1 + d := ⟨k - (q + 1), by omega⟩
  clear hk
  induction d with
  | zero => rfl
  | succ d ih =>
    rw [← Nat.add_assoc, sumN, ih (fun r h1 h2 => h r h1 (by omega)), h (q + 1 + d) (by omega) (by omega)]; omega
/-- a lot is not dearer than what a plan pays on its days -/
theorem block_le {ms xs : List Int} {s h : Int} (hx : ∀ k, 0 ≤ xs.getD k 0) (hm : ∀ k, 0 ≤ ms.getD k 0) (hs : 0 ≤ s) (hh : 0 ≤ h) {i k : Nat} (hik : i < k) (hst : sumN xs k ≤ sumN ms k) (hno : ∀ q, i < q → q < k → ms.getD q 0 = 0) (hi : 0 < ms.getD i 0 ∨ i = 0) :
    runD xs s h i (k - i) ≤ planTo ms xs s h k - planTo ms xs s h i := by
  have key : ∀ d, i + d ≤ k → h * (hsum xs i d + (d : Int) * (sumN xs k - sumN xs (i + d))) + (if 0 < d ∧ 0 < ms.getD i 0 then s else 0) ≤ planTo ms xs s h (i + d) - planTo ms xs s h i := by
    intro d
    induction d with
    | zero => intro _; simp [hsum]
    | succ d ih =>
      intro hd
      have ih' := ih (by omega)
      rw [← Nat.add_assoc, planTo]
      have e1 := sumN_flat hno (q := i + d) (by omega) (by omega)
      have hday : h * (sumN xs k - sumN xs (i + d + 1)) + (if d = 0 ∧ 0 < ms.getD i 0 then s else 0) ≤ dayC ms xs s h (i + d) := by
        have h1 : h * (sumN xs k - sumN xs (i + d + 1)) ≤ h * (sumN ms (i + d + 1) - sumN xs (i + d + 1)) := Int.mul_le_mul_of_nonneg_left (by omega) hh
        unfold dayC
        by_cases h0 : d = 0 ∧ 0 < ms.getD i 0
        · obtain ⟨rfl, h3⟩ := h0
          rw [if_pos ⟨rfl, h3⟩]
          simp only [Nat.add_zero] at h1 ⊢
          rw [if_pos h3]; omega
        · rw [if_neg h0]; split <;> omega
      have e2 : h * (hsum xs i (d + 1) + ((d + 1 : Nat) : Int) * (sumN xs k - sumN xs (i + d + 1))) = h * (hsum xs i d + (d : Int) * (sumN xs k - sumN xs (i + d))) + h * (sumN xs k - sumN xs (i + d + 1)) := by
        rw [← Int.mul_add]
        congr 1
        rw [hsum, show sumN xs (i + d + 1) = sumN xs (i + d) + xs.getD (i + d) 0 from rfl]
        push_cast
        rw [Int.add_mul, Int.one_mul, Int.sub_eq_add_neg (b := sumN xs (i + d) + _), Int.mul_add, Int.mul_sub, Int.mul_neg, Int.mul_add]
        omega
      rw [e2]
      by_cases h0 : d = 0
      · subst h0
        simp only [Nat.lt_irrefl, false_and, if_false, true_and, Nat.zero_add, Nat.lt_one_iff, Nat.zero_lt_one] at ih' hday ⊢
        omega
      · rw [if_neg (by omega)] at hday
        by_cases h3 : 0 < ms.getD i 0
        · rw [if_pos ⟨by omega, h3⟩] at ih' ⊢; omega
        · rw [if_neg (fun e => h3 e.2)] at ih' ⊢; omega
  have h9 := key (k - i) (by omega)
  rw [show i + (k - i) = k by omega, Int.sub_self, Int.mul_zero, Int.add_zero] at h9
  unfold runD
  rw [show i + (k - i) = k by omega]
  by_cases h3 : 0 < ms.getD i 0
  · rw [if_pos ⟨by omega, h3⟩] at h9
    split <;> omega
  · rw [if_neg (fun e => h3 e.2)] at h9
    have hi0 : i = 0 := by omega
    subst hi0
    have h4 : ms.getD 0 0 = 0 := by have := hm 0; omega
    have e1 := sumN_flat hno (q := 0) (by omega) hik
    have e2 : sumN ms (0 + 1) = 0 := by rw [sumN, sumN, h4]; rfl
    have e3 : sumN xs 0 = 0 := rfl
    rw [if_neg (by omega)]; omega
theorem plan_least {ms xs : List Int} {s h : Int} (hx : ∀ k, 0 ≤ xs.getD k 0) (hm : ∀ k, 0 ≤ ms.getD k 0) (hs : 0 ≤ s) (hh : 0 ≤ h) (hst : ∀ k, k ≤ xs.length → sumN xs k ≤ sumN ms k) :
    bst xs s h 0 ≤ planTo ms xs s h xs.length := by
  have key : ∀ (m k : Nat), k + m = xs.length → ∀ i, i < k → (∀ q, i < q → q < k → ms.getD q 0 = 0) → (0 < ms.getD i 0 ∨ i = 0) → ∃ c, PC xs s h i c ∧ c ≤ planTo ms xs s h xs.length - planTo ms xs s h i := by
    intro m
    induction m with
    | zero =>
      intro k hk i hik hno hi
      obtain rfl : k = xs.length := by omega
      have hb := block_le hx hm hs hh hik (hst _ (Nat.le_refl _)) hno hi
      refine ⟨_, PC.lot i (xs.length - i - 1) 0 (by omega) (by rw [show i + (xs.length - i - 1 + 1) = xs.length by omega]; exact PC.done), ?_⟩
      rw [show xs.length - i - 1 + 1 = xs.length - i by omega]; omega
    | succ m ih =>
      intro k hk i hik hno hi
      by_cases h0 : 0 < ms.getD k 0
      · obtain ⟨c, hc, hle⟩ := ih (k + 1) (by omega) k (by omega) (fun q h1 h2 => by omega) (Or.inl h0)
        have hb := block_le hx hm hs hh hik (hst k (by omega)) hno hi
        refine ⟨_, PC.lot i (k - i - 1) c (by omega) (by rw [show i + (k - i - 1 + 1) = k by omega]; exact hc), ?_⟩
        rw [show k - i - 1 + 1 = k - i by omega]; omega
      · exact ih (k + 1) (by omega) i (by omega) (fun q h1 h2 => by
          by_cases e : q = k
          · subst e; have := hm q; omega
          · exact hno q h1 (by omega)) hi
  by_cases h0 : xs.length = 0
  · have : bst xs s h 0 = 0 := by have := bst_end xs s h; rw [h0] at this; exact this
    rw [this, h0]; exact Int.le_refl _
  · obtain ⟨c, hc, hle⟩ := key (xs.length - 1) 1 (by omega) 0 (by omega) (fun q h1 h2 => by omega) (Or.inr rfl)
    have := (bst_is (s := s) (h := h) (Nat.zero_le xs.length)).2 c hc
    have e : planTo ms xs s h 0 = 0 := rfl
    omega
end Go.Proofs.Ytkjmpkincaainad
namespace Go.Proofs.Ytkjmpkincaainad
open Go.RowKit Go.WideShapes

theorem Try.infoIntP : (Try.prog.info? 3).map (fun i => (i.zero, i.size, i.bytes)) = some (some (.int .i64 0), 1, 8) := by kernel_rfl
def validLotsM (xs : List Int) (s h : Int) : Bool := validDaysM xs && inB 0 30 s && inB 0 30 h
theorem validLots_get {xs : List Int} {s h : Int} (hv : validLotsM xs s h = true) : validDaysM xs = true ∧ (0 ≤ s ∧ s ≤ 30) ∧ (0 ≤ h ∧ h ≤ 30) := by
  simp only [validLotsM, Bool.and_eq_true] at hv
  have h1 : 0 ≤ s ∧ s ≤ 30 := by simpa [inB] using hv.1.2
  have h2 : 0 ≤ h ∧ h ≤ 30 := by simpa [inB] using hv.2
  exact ⟨hv.1.1, h1, h2⟩
theorem specSum_any (S : Nat → Prop) (a : Option Addr) (len cap : Nat) (xs : List Int) (w : World) (h : IntsAt w S a len xs) (hb : ∀ x ∈ xs, -1099511627776 ≤ x ∧ x ≤ 1099511627776) (hl : len ≤ 1048576) :
    Calls Try.prog 41 #[.slice a len cap] w fun e w' => e = .returned (.int .i64 (totalM xs)) ∧ w = w' := by
  go_enter Try.func41, Try.ntmps41
  go_wp2
  go_loop [3, 4] (fun n i => ∃ k : Nat, k ≤ len ∧ i = .int .i64 k ∧ n = .int .i64 (totalM (xs.take k))) (fun _ i => len - (intOf i).toNat)
  case atStart => exact ⟨0, Nat.zero_le _, rfl, rfl⟩
  case round =>
    obtain ⟨k, hk, rfl, rfl⟩ := hrel
    by_cases hlt : k < len
    · obtain ⟨b, off, x, rfl, hx, hc⟩ := h.get hlt
      have hx1 := hb x (List.mem_of_getElem? hx)
      have hx2 := totalM_bd (B := 1099511627776) (by omega) (fun y hy => hb y (take_mem (k := k) hy))
      have hll : ((xs.take k).length : Int) ≤ 1048576 := by rw [List.length_take]; omega
      have HX := Lib.hid hx
      clear hx
      generalize hT : totalM (xs.take k) = t at hx2 ⊢
      have HT := Lib.hid hT
      clear hT
      have ht1 : -1152921504606846976 ≤ t := by omega
      have ht2 : t ≤ 1152921504606846976 := by omega
      clear hx2 hll
      go_wp2
      go_round
      case rel => exact ⟨k + 1, by omega, by go_num, by rw [take_get HX.out, totalM_snoc, HT.out]⟩
      case measure => simp [intOf]; omega
    · have hle := h.lenEq
      have HL := Lib.hid hle
      clear hle
      go_wp2
      go_ret
      exact ⟨ret_int (by rw [List.take_of_length_le (by rw [HL.out]; omega)]), rfl⟩
theorem mul_box3 {a b A B : Int} (ha : 0 ≤ a) (ha' : a ≤ A) (hb : 0 ≤ b) (hb' : b ≤ B) : 0 ≤ a * b ∧ a * b ≤ A * B :=
  ⟨Int.mul_nonneg ha hb, Int.mul_le_mul ha' hb' hb (by omega)⟩
theorem ints_part {w : World} {S : Nat → Prop} {b off len : Nat} {xs : List Int} (h : IntsAt w S (some ⟨b, off, none⟩) len xs) (i k : Nat) (hi : i < k) (hk : k ≤ len) : IntsAt w S (some ⟨b, off + i, none⟩) (k - i) ((xs.drop i).take (k - i)) := by
  have hl := h.lenEq
  have hs := h.small
  obtain ⟨b', off', e, hS, hc⟩ := h.cells (by omega)
  cases e
  refine ⟨by simp; omega, by omega, fun _ => ⟨b, off + i, rfl, hS, fun j x hx => ?_⟩⟩
  rw [List.getElem?_take] at hx
  split at hx
  · rw [List.getElem?_drop] at hx
    rw [Nat.add_assoc]
    exact hc _ _ hx
  · cases hx
theorem days_mem {xs : List Int} (hx : ∀ k, 0 ≤ xs.getD k 0 ∧ xs.getD k 0 ≤ 20) : ∀ x ∈ xs, -1099511627776 ≤ x ∧ x ≤ 1099511627776 := by
  intro x hx'
  obtain ⟨k, hk, rfl⟩ := List.mem_iff_getElem.1 hx'
  have := hx k
  rw [List.getD_eq_getElem?_getD, List.getElem?_eq_getElem hk] at this
  simp at this
  omega
def lotFine (ms xs : List Int) (s h : Int) : Bool := validLotsM xs s h && stocksFine 0 ms xs
/-- what LotCost answers -/
def lotCostM (ms xs : List Int) (s h : Int) : Int := if lotFine ms xs s h then planTo ms xs s h xs.length else -1
def IntBool (w : World) (n : Int) (b : Bool) (e : Ending) (w' : World) : Prop := e = .returned (.tuple #[.int .i64 n, .bool b]) ∧ Below w.heap.size w w'
theorem lotCost_no {ms xs : List Int} {s h : Int} (e : lotFine ms xs s h = false) : lotCostM ms xs s h = -1 := by unfold lotCostM; rw [e]; rfl
theorem lotCost_yes {ms xs : List Int} {s h : Int} (e : lotFine ms xs s h = true) : lotCostM ms xs s h = planTo ms xs s h xs.length := by unfold lotCostM; rw [e]; rfl
theorem dayC_bd {ms xs : List Int} {s h : Int} (hm : validMadeM ms = true) (hx : validDaysM xs = true) (hok : ∀ q, q < xs.length → 0 ≤ stockTo ms xs 0 (q + 1)) (hs : 0 ≤ s ∧ s ≤ 31) (hh : 0 ≤ h ∧ h ≤ 31) {q : Nat} (hq : q < xs.length) : 0 ≤ dayC ms xs s h q ∧ dayC ms xs s h q ≤ 50000 := by
  have h1 := hok q hq
  have h2 := stockTo_bd (s := 0) (by omega) (by omega) hm hx (q + 1)
  have hl := validDays_len hx
  have e : stockTo ms xs 0 (q + 1) = sumN ms (q + 1) - sumN xs (q + 1) := by rw [stockTo_closed]; omega
  rw [e] at h1 h2
  have h3 := mul_box3 hh.1 hh.2 h1 (show _ ≤ (1400 : Int) by omega)
  unfold dayC; split <;> omega
theorem planTo_bd {ms xs : List Int} {s h : Int} (hm : validMadeM ms = true) (hx : validDaysM xs = true) (hok : ∀ q, q < xs.length → 0 ≤ stockTo ms xs 0 (q + 1)) (hs : 0 ≤ s ∧ s ≤ 31) (hh : 0 ≤ h ∧ h ≤ 31) : ∀ q, q ≤ xs.length → 0 ≤ planTo ms xs s h q ∧ planTo ms xs s h q ≤ 50000 * (q : Int) := by
  intro q
  induction q with
  | zero => intro _; simp [planTo]
  | succ q ih => intro hq; have := ih (by omega); have := dayC_bd hm hx hok hs hh (q := q) (by omega); rw [planTo]; omega
/-- of the days behind i, so many lots are tried: the least cost, -1 ahead of the first -/
def curM (xs : List Int) (s h : Int) (i : Nat) : Nat → Int
  | 0 => -1
  | m + 1 => minTo (fun d => runD xs s h i (d + 1) + bst xs s h (i + (d + 1))) m
def doneB (xs : List Int) (s h : Int) (m q : Nat) : Int := if m ≤ q then bst xs s h q else 0
def bestNow (xs : List Int) (s h : Int) (i : Nat) (c : Int) (q : Nat) : Int := if q = i then c else if i < q then bst xs s h q else 0
def leastRes (xs : List Int) (s h : Int) : Int := if validLotsM xs s h then bst xs s h 0 else -1
theorem leastRes_no {xs : List Int} {s h : Int} (e : validLotsM xs s h = false) : leastRes xs s h = -1 := by unfold leastRes; rw [e]; rfl
theorem leastRes_yes {xs : List Int} {s h : Int} (e : validLotsM xs s h = true) : leastRes xs s h = bst xs s h 0 := by unfold leastRes; rw [e]; rfl
def IntVal (w : World) (n : Int) (e : Ending) (w' : World) : Prop := e = .returned (.int .i64 n) ∧ Below w.heap.size w w'
end Go.Proofs.Ytkjmpkincaainad
namespace Go.Proofs.Ytkjmpkincaainad
open Go.RowKit Go.WideShapes

theorem inR {lo hi n : Int} {b : Bool} (h : inB lo hi n = b) (w : World) : Calls Try.prog 31 #[.int .i64 n, .int .i64 lo, .int .i64 hi] w fun e w' => e = .returned (.bool b) ∧ w' = w := by
  subst h; exact (inRange_any n lo hi w).mono fun _ _ h => ⟨h.1, h.2.symm⟩
set_option maxRecDepth 100000 in
set_option maxHeartbeats 4000000 in
theorem validNet_any (d : NV) (ts : List Int) (rows : List (List Int)) (w : World) (h : NetAt w (· < w.heap.size) d ts rows) :
    Calls Try.prog 29 #[.agg #[.slice d.aT d.lT d.cT, .slice d.aW d.lW d.cW]] w (valN w (.bool (tokM ts rows))) := by
  obtain ⟨aT, lT, cT, aW, lW, cW⟩ := d
  obtain ⟨ht, hr, hct, hcw⟩ := h
  dsimp only at ht hr hct hcw ⊢
  have hst := ht.small
  have hsw := hr.small
  have HTL := Lib.hid ht.lenEq
  have HWL := Lib.hid hr.lenEq
  have HH := Lib.hid (show ∀ w', Below w.heap.size w w' → IntsAt w' (· < w.heap.size) aT lT ts ∧ RowsAt w' (· < w.heap.size) aW lW rows from fun w' hb => ⟨ht.below hb, hr.below hb⟩)
  clear ht hr
  go_enter Try.func29, Try.ntmps29
  go_wp2_with fail
  have hb0 := (Below.refl w.heap.size w).alloc (Nat.le_refl _) (.cells #[.slice aT lT cT, .slice aW lW cW] 26)
  have hn0 := netB_new w aT lT cT aW lW cW 26
  go_loopw [3] (fun i wr => ∃ k : Nat, k ≤ lT ∧ i = .int .i64 k ∧ allIn 0 9 (ts.take k) = true ∧ Below w.heap.size w wr ∧ NetB wr w.heap.size ⟨aT, lT, cT, aW, lW, cW⟩) (fun i _ => lT - (intOf i).toNat)
  case atStart => exact ⟨0, Nat.zero_le _, rfl, rfl, hb0, hn0⟩
  case round =>
    clear hb0 hn0
    obtain ⟨k, hk, rfl, ha, hb, hn⟩ := hrel
    obtain ⟨n0, n1⟩ := id hn
    have HB := Lib.hid hb
    have HN := Lib.hid hn
    have HA := Lib.hid ha
    clear hb hn ha
    dsimp only at n0 n1
    by_cases hlt : k < lT
    · obtain ⟨b, off, x, rfl, hx, hc⟩ := (HH.out wr HB.out).1.get hlt
      have HX := Lib.hid hx
      have hkI : (k : Int) < (lT : Int) := by omega
      clear hx
      cases hq : inB 0 9 x
      · go_wp2_with (go_at_call 31; refine (inRange_any _ _ _ _).mono ?_; rintro e w' ⟨rfl, rfl⟩)
        go_ret
        exact ⟨ret_bool (tok_time_false (allIn_false HX.out hq)).symm, HB.out⟩
      · go_wp2_with (go_at_call 31; refine (inRange_any _ _ _ _).mono ?_; rintro e w' ⟨rfl, rfl⟩)
        go_roundw
        case rel => exact ⟨k + 1, by omega, by go_num, allIn_step HX.out HA.out hq, HB.out, HN.out⟩
        case measure => simp [intOf]; omega
    · obtain rfl : k = lT := by omega
      have hkI : ¬ (k : Int) < (k : Int) := by omega
      have HA9 : Hid (allIn 0 9 ts = true) := Lib.hid (by have := HA.out; rwa [List.take_of_length_le (by rw [HTL.out]; omega)] at this)
      go_wp2_with fail
      go_loopw [4] (fun i wr => ∃ q : Nat, q ≤ lW ∧ i = .int .i64 q ∧ (rows.take q).all (wayB k) = true ∧ Below w.heap.size w wr ∧ NetB wr w.heap.size ⟨aT, k, cT, aW, lW, cW⟩) (fun i _ => lW - (intOf i).toNat)
      case atStart => exact ⟨0, Nat.zero_le _, rfl, rfl, HB.out, HN.out⟩
      case round =>
        clear n0 n1
        obtain ⟨q, hq, rfl, ha, hb, hn⟩ := hrel
        obtain ⟨wo, rfl⟩ : ∃ wo : World, wo = wr := ⟨_, rfl⟩
        obtain ⟨n0, n1⟩ := id hn
        have HB := Lib.hid hb
        have HN := Lib.hid hn
        have HA := Lib.hid ha
        clear hb hn ha
        dsimp only at n0 n1
        by_cases hlq : q < lW
        · obtain ⟨b, off, r, a', l, c, rfl, hx, hc, _, hri⟩ := (HH.out wo HB.out).2.get hlq
          have HX := Lib.hid hx
          have HRL := Lib.hid hri.lenEq
          have hrs := hri.small
          have hqI : (q : Int) < (lW : Int) := by omega
          clear hx
          have HF := Lib.hid (fun h : wayB k r = false => tok_way_false (ts := ts) HX.out (by rw [HTL.out]; exact h))
          by_cases hl3 : l = 3
          · subst hl3
            obtain ⟨b', off', x, rfl, hy, hd⟩ := hri.get (k := 0) (by omega)
            obtain ⟨b2, off2, y, e2, hy2, hd2⟩ := hri.get (k := 1) (by omega)
            cases e2
            obtain ⟨b3, off3, z, e3, hy3, hd3⟩ := hri.get (k := 2) (by omega)
            cases e3
            rw [Nat.add_zero] at hd
            have HWB : Hid (wayB k r = (inB 0 ((k : Int) - 1) x && (inB 0 ((k : Int) - 1) y && inB 0 3 z))) := Lib.hid (by unfold wayB; rw [HRL.out, getD_of hy, getD_of hy2, getD_of hy3]; rfl)
            clear hy hy2 hy3
            have hwr : IntKind.i64.wrap ((k : Int) - 1) = (k : Int) - 1 := IntWalk.i64_in _ (by omega)
            cases h0 : inB 0 ((k : Int) - 1) x
            · have C0 := Lib.hid (fun w => inR h0 w)
              rw [h0] at HWB
              go_wp2_with fail
              go_quiet ((go_at_call 31; exact Calls.quiet_of_same (C0.out _)))
              go_wp2_with fail
              go_ret
              exact ⟨ret_bool (HF.out (by rw [HWB.out]; rfl)).symm, below_drewN HB.out _⟩
            · cases h1 : inB 0 ((k : Int) - 1) y
              · have C0 := Lib.hid (fun w => inR h0 w)
                have C1 := Lib.hid (fun w => inR h1 w)
                rw [h0, h1] at HWB
                go_wp2_with fail
                go_quiet ((go_at_call 31; first | (with_reducible exact Calls.quiet_of_same (C0.out _)) | (with_reducible exact Calls.quiet_of_same (C1.out _))))
                go_wp2_with fail
                go_ret
                exact ⟨ret_bool (HF.out (by rw [HWB.out]; rfl)).symm, below_drewN HB.out _⟩
              · cases h2 : inB 0 3 z
                all_goals
                  have C0 := Lib.hid (fun w => inR h0 w)
                  have C1 := Lib.hid (fun w => inR h1 w)
                  have C2 := Lib.hid (fun w => inR h2 w)
                  rw [h0, h1, h2] at HWB
                  go_wp2_with fail
                  go_quiet ((go_at_call 31; first | (with_reducible exact Calls.quiet_of_same (C0.out _)) | (with_reducible exact Calls.quiet_of_same (C1.out _)) | (with_reducible exact Calls.quiet_of_same (C2.out _))))
                  go_wp2_with fail
                · go_ret
                  exact ⟨ret_bool (HF.out (by rw [HWB.out]; rfl)).symm, below_drewN HB.out _⟩
                · go_roundw
                  case rel => exact ⟨q + 1, by omega, by go_num, by rw [take_get HX.out, List.all_append, HA.out]; simp only [List.all_cons, List.all_nil, Bool.and_true, Bool.true_and]; exact HWB.out, below_drewN HB.out _, HN.out.drewN _⟩
                  case measure => simp [intOf]; omega
          · have hle : ((l : Int) != 3) = true := by simp; omega
            go_wp2_with fail
            go_quiet (fail)
            go_wp2_with fail
            go_ret
            exact ⟨ret_bool (HF.out (by unfold wayB; rw [HRL.out, beq_eq_false_iff_ne.2 hl3]; rfl)).symm, below_drewN HB.out _⟩
        · obtain rfl : q = lW := by omega
          have HA8 : Hid (rows.all (wayB k) = true) := Lib.hid (by have := HA.out; rwa [List.take_of_length_le (by rw [HWL.out]; omega)] at this)
          have HM : Hid (tokM ts rows = (decide (k ≤ 4) && decide (q ≤ 7))) := Lib.hid (by unfold tokM; rw [HTL.out, HWL.out, HA9.out, HA8.out, Bool.true_and, Bool.and_true])
          have hqI : ¬ (q : Int) < (q : Int) := by omega
          by_cases h4 : k ≤ 4
          · by_cases h7 : q ≤ 7
            · have h4I : (k : Int) ≤ 4 := by omega
              have h7I : (q : Int) ≤ 7 := by omega
              go_wp2_with fail
              go_ret
              exact ⟨ret_bool (by rw [HM.out, decide_eq_true h4, decide_eq_true h7]; rfl), HB.out⟩
            · have h4I : (k : Int) ≤ 4 := by omega
              have h7I : ¬ (q : Int) ≤ 7 := by omega
              go_wp2_with fail
              go_ret
              exact ⟨ret_bool (by rw [HM.out, decide_eq_true h4, decide_eq_false h7]; rfl), HB.out⟩
          · have h4I : ¬ (k : Int) ≤ 4 := by omega
            go_wp2_with fail
            go_ret
            exact ⟨ret_bool (by rw [HM.out, decide_eq_false h4]; rfl), HB.out⟩
end Go.Proofs.Ytkjmpkincaainad
