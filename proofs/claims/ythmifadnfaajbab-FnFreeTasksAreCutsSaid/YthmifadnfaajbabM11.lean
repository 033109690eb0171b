import Derived.Test.YthmifadnfaajbabRows
import Derived.Test.YthmifadnfaajbabM0
import Derived.Test.YthmifadnfaajbabM1
import Derived.Test.YthmifadnfaajbabM9
import Derived.Test.YthmifadnfaajbabM3
import Derived.Test.YthmifadnfaajbabM6
import Derived.Test.YthmifadnfaajbabM10
import Derived.Test.YthmifadnfaajbabM7
import Derived.Test.YthmifadnfaajbabM5
import Derived.WalkKit
import Derived.LoopTactic
import Derived.Outline
import Derived.WalkSpells
import Derived.WalkLawsBesides
import Derived.ProofKit
import Derived.Deep.QuietTactic
import Derived.BigQuiet
import Derived.Lib.Hide
import Derived.IntWalk
namespace Go.Proofs.Ythmifadnfaajbab

-- chapter 11, plain: what RollsBy takes, against any plan
def wsumL (f : Nat → Int) (P : Nat → Bool) : List Nat → Int
  | [] => 0
  | x :: l => (if P x then f x else 0) + wsumL f P l
theorem wsumL_perm {f : Nat → Int} {P : Nat → Bool} {l l' : List Nat} (h : l.Perm l') : wsumL f P l = wsumL f P l' := by
  induction h with
  | nil => rfl
  | cons x _ ih => rw [wsumL, wsumL, ih]
  | swap x y l => simp only [wsumL]; omega
  | trans _ _ ih1 ih2 => rw [ih1, ih2]
theorem wsumL_snoc (f : Nat → Int) (P : Nat → Bool) (x : Nat) : ∀ l : List Nat, wsumL f P (l ++ [x]) = wsumL f P l + if P x then f x else 0
  | [] => by simp [wsumL]
  | y :: l => by rw [List.cons_append, wsumL, wsumL, wsumL_snoc f P x l]; omega
theorem wsumL_range (f : Nat → Int) (P : Nat → Bool) : ∀ n, wsumL f P (List.range n) = wsum f P n
  | 0 => rfl
  | n + 1 => by rw [List.range_succ, wsumL_snoc, wsumL_range f P n, wsum]
theorem wsumL_at (f : Nat → Int) (P : Nat → Bool) (l : List Nat) : ∀ k, k ≤ l.length → wsumL f P (l.take k) = wsum (fun j => f (l.getD j 0)) (fun j => P (l.getD j 0)) k
  | 0, _ => rfl
  | k + 1, h => by
    have e : l.take (k + 1) = l.take k ++ [l.getD k 0] := by
      rw [List.take_add_one, List.getD_eq_getElem?_getD, List.getElem?_eq_getElem (show k < l.length by omega)]; rfl
    rw [e, wsumL_snoc, wsumL_at f P l k (by omega), wsum]
theorem wsum_perm {f : Nat → Int} {P : Nat → Bool} {l : List Nat} {n : Nat} (h : l.Perm (List.range n)) : wsum (fun j => f (l.getD j 0)) (fun j => P (l.getD j 0)) n = wsum f P n := by
  have hl : l.length = n := by simpa using h.length_eq
  have := wsumL_at f P l n (by omega)
  rw [← this, List.take_of_length_le (by omega), wsumL_perm h, wsumL_range]
theorem perm_lt {l : List Nat} {n : Nat} (h : l.Perm (List.range n)) {j : Nat} (hj : j < n) : l.getD j 0 < n := by
  have hl : l.length = n := by simpa using h.length_eq
  have := h.mem_iff.1 (getD_mem (l := l) (k := j) (by omega))
  simpa using this
theorem perm_inj {l : List Nat} {n : Nat} (h : l.Perm (List.range n)) {i j : Nat} (hi : i < n) (hj : j < n) (e : l.getD i 0 = l.getD j 0) : i = j := by
  have hl : l.length = n := by simpa using h.length_eq
  have hn : l.Nodup := h.symm.nodup List.nodup_range
  have key : ∀ a b, a < b → b < n → l.getD a 0 ≠ l.getD b 0 := fun a b hab hb => by
    have := List.pairwise_iff_getElem.1 hn a b (by omega) (by omega) hab
    rw [List.getD_eq_getElem?_getD, List.getD_eq_getElem?_getD, List.getElem?_eq_getElem (by omega), List.getElem?_eq_getElem (by omega)]
    exact this
  rcases Nat.lt_trichotomy i j with g | g | g
  · exact absurd e (key i j g hj)
  · exact g
  · exact absurd e.symm (key j i g hi)
theorem perm_on {l : List Nat} {n : Nat} (h : l.Perm (List.range n)) {i : Nat} (hi : i < n) : ∃ j, j < n ∧ l.getD j 0 = i := by
  have hl : l.length = n := by simpa using h.length_eq
  have hm : i ∈ l := h.mem_iff.2 (by simpa using hi)
  obtain ⟨j, hj, e⟩ := List.mem_iff_getElem.1 hm
  exact ⟨j, by omega, by rw [List.getD_eq_getElem?_getD, List.getElem?_eq_getElem hj]; exact e⟩
section
variable {T : Nat → Int} {R : Int} {n : Nat} {l : List Nat}
def ordO (l : List Nat) (j : Nat) : Nat := l.getD j 0
/-- each one's roll, and how many -/
def rollP (T : Nat → Int) (R : Int) (l : List Nat) (n : Nat) : Nat → Nat := (fitS T R (ordO l) n).2
def rollU (T : Nat → Int) (R : Int) (l : List Nat) (n : Nat) : Nat := usedM T R (ordO l) n
theorem roll_inv (hT : ∀ i, i < n → 1 ≤ T i ∧ T i ≤ R) (h : l.Perm (List.range n)) {t : Nat} (ht : t ≤ n) : FitI T R n (ordO l) t (fitS T R (ordO l) t).1 (fitS T R (ordO l) t).2 :=
  fit_inv hT (fun _ hj => perm_lt h hj) (fun _ _ hi hj e => perm_inj h hi hj e) t ht
/-- the rolls hold what is cut from them; each one is begun -/
theorem roll_plan (hT : ∀ i, i < n → 1 ≤ T i ∧ T i ≤ R) (h : l.Perm (List.range n)) : (∀ i, i < n → rollP T R l n i < rollU T R l n) ∧ (∀ b, b < rollU T R l n → ∃ i, i < n ∧ rollP T R l n i = b) ∧
    (∀ b, b < rollU T R l n → wsum T (fun i => rollP T R l n i == b) n ≤ R) ∧ (∀ i, i < n → ∀ b, b < rollP T R l n i → R < wsum T (fun i => rollP T R l n i == b) n + T i) := by
  obtain ⟨i1, i2, i3, i4, i5⟩ := roll_inv hT h (Nat.le_refl n)
  have hw : ∀ b, wsum (fun j => T (ordO l j)) (fun j => rollP T R l n (ordO l j) == b) n = wsum T (fun i => rollP T R l n i == b) n := fun b => wsum_perm (f := T) (P := fun i => rollP T R l n i == b) h
  refine ⟨fun i hi => ?_, fun b hb => ?_, fun b hb => ?_, fun i hi b hb => ?_⟩
  · obtain ⟨j, hj, rfl⟩ := perm_on h hi
    exact i1 j hj
  · obtain ⟨j, hj, e⟩ := i2 b hb
    exact ⟨_, perm_lt h hj, e⟩
  · have e1 := i3 b hb
    have e2 := i4 b hb
    have e3 := hw b
    unfold rollP at e3 ⊢
    omega
  · obtain ⟨j, hj, rfl⟩ := perm_on h hi
    have hj1 := i1 j hj
    have hb' : b < (fitS T R (ordO l) n).2 (ordO l j) := hb
    have e1 := i3 b (by omega)
    have e2 := i5 j hj b hb
    have e3 := hw b
    have e4 : ordO l j = l.getD j 0 := rfl
    unfold rollP at e3 ⊢
    rw [e4] at e2
    omega
/-- what FnRollsBy asks of the kind first -/
theorem first_bound {q : Nat → Nat} {m : Nat} (hR : 1 ≤ R) (hT : ∀ i, i < n → 1 ≤ T i ∧ T i ≤ R) (h : l.Perm (List.range n)) (h0 : 0 < n) (h7 : n ≤ 7) (hq : ∀ i, i < n → q i < m) (hql : ∀ j, j < m → wsum T (fun i => q i == j) n ≤ R) : 10 * rollU T R l n ≤ 17 * m := by
  obtain ⟨p1, p2, p3, p4⟩ := roll_plan hT h
  have hm : 1 ≤ m := by have := hq 0 h0; omega
  have hu : rollU T R l n ≤ n := by
    have e := card_bins (P := fun _ => true) (p := rollP T R l n) (n := n) (v := rollU T R l n) (fun i hi _ => p1 i hi)
    have e2 := bsumN_le (f := fun _ => 1) (g := fun b => card (fun i => true && rollP T R l n i == b) n) (rollU T R l n) (fun b hb => by
      obtain ⟨i, hi, e⟩ := p2 b hb
      exact card_mem hi (by simp [e]))
    rw [bsumN_one (fun _ _ => rfl), ← e, card_all] at e2
    exact e2
  rcases Nat.lt_or_ge (rollU T R l n) 2 with g | g
  · omega
  · have h1 := fit_bound hR hT p2 p4 hq hql g
    rcases Nat.lt_or_ge (rollU T R l n) 7 with g2 | g2
    · omega
    · have hn : n = 7 := by omega
      have h2 := fit_each (n := n) (p := rollP T R l n) hT (fun i j hi hj e => by
        refine Classical.byContradiction fun hij => ?_
        have hU : rollU T R l n = n := by omega
        have e3 := card_bins (P := fun _ => true) (p := rollP T R l n) (n := n) (v := rollU T R l n) (fun i hi _ => p1 i hi)
        rw [card_all, hU] at e3
        -- one roll has two: then all have one at least, and one of them two
        have e4 : ∀ v, rollP T R l n i < v → v ≤ n → v + 1 ≤ bsumN (fun b => card (fun i => true && rollP T R l n i == b) n) v := by
          intro v
          induction v with
          | zero => intro h; omega
          | succ v ih =>
            intro h1 h2
            rw [bsumN]
            have c1 : 1 ≤ card (fun i => true && rollP T R l n i == v) n := by
              obtain ⟨k, hk, e⟩ := p2 v (by omega)
              exact card_mem hk (by simp [e])
            rcases Nat.eq_or_lt_of_le (Nat.le_of_lt_succ h1) with g3 | g3
            · have c2 := wsum_two (f := fun _ => 1) (P := fun i => true && rollP T R l n i == v) (n := n) (fun _ _ => by omega) hi hj hij (by simp [g3]) (by simp [← e, g3])
              rw [← card_w] at c2
              have c3 := bsumN_le (f := fun _ => 1) (g := fun b => card (fun i => true && rollP T R l n i == b) n) v (fun b hb => by
                obtain ⟨k, hk, e⟩ := p2 b (by omega)
                exact card_mem hk (by simp [e]))
              rw [bsumN_one (fun _ _ => rfl)] at c3
              omega
            · have := ih g3 (by omega); omega
        have := e4 n (by have := p1 i hi; omega) (Nat.le_refl _)
        omega) p4 hq hql
      omega
/-- what FnRollsBy asks of the kind long -/
theorem long_bound {q : Nat → Nat} {m : Nat} (hR : 1 ≤ R) (hT : ∀ i, i < n → 1 ≤ T i ∧ T i ≤ R) (h : l.Perm (List.range n)) (hs : ∀ i j, i < j → j < n → T (l.getD j 0) ≤ T (l.getD i 0)) (h0 : 0 < n) (h7 : n ≤ 7) (hq : ∀ i, i < n → q i < m) (hql : ∀ j, j < m → wsum T (fun i => q i == j) n ≤ R) : 9 * rollU T R l n ≤ 11 * m + 6 := by
  obtain ⟨p1, p2, p3, p4⟩ := roll_plan hT h
  have hm : 1 ≤ m := by have := hq 0 h0; omega
  rcases Nat.lt_or_ge (rollU T R l n) 2 with g | g
  · omega
  · have h1 := fit_bound hR hT p2 p4 hq hql g
    obtain ⟨s, s1, s2, s3, s4⟩ := last_new T R (ordO l) n (by unfold rollU at g; omega)
    obtain ⟨i1, i2, i3, i4, i5⟩ := roll_inv hT h (t := s) (by omega)
    have hv : ∃ v, usedM T R (ordO l) s = v := ⟨_, rfl⟩
    obtain ⟨v, hv⟩ := hv
    have hvl : (fitS T R (ordO l) s).1.length = v := hv
    -- over the places in the order
    have hfb := fall_bound (n := n) (v := v) (m := m) (z := s) (R := R) (T := fun j => T (ordO l j)) (p := fun j => (fitS T R (ordO l) s).2 (ordO l j)) (q := fun j => q (ordO l j)) (B := fun j => decide (j < s))
      (fun j hj => hT _ (perm_lt h hj)) s1 (by simp) (fun j hj hb => by
        have hjs : j < s := by simpa using hb
        exact ⟨hs j s hjs s1, by have := i1 j hjs; omega⟩) (fun b hb => by
        have e1 := i3 b (by omega)
        have e2 := room_lt (lf := (fitS T R (ordO l) s).1) (x := T (ordO l s)) (j := b) (by rw [s4, hv]; exact hb)
        have e3 : wsum (fun j => T (ordO l j)) (fun j => decide (j < s) && (fitS T R (ordO l) s).2 (ordO l j) == b) n = wsum (fun j => T (ordO l j)) (fun j => (fitS T R (ordO l) s).2 (ordO l j) == b) s := by
          have key : ∀ d, s + d ≤ n → wsum (fun j => T (ordO l j)) (fun j => decide (j < s) && (fitS T R (ordO l) s).2 (ordO l j) == b) (s + d) = wsum (fun j => T (ordO l j)) (fun j => (fitS T R (ordO l) s).2 (ordO l j) == b) s := by
            intro d
            induction d with
            | zero => intro _; exact wsum_congr s (fun j hj => by simp [hj]) (fun _ _ _ => rfl)
            | succ d ih => intro hd; rw [← Nat.add_assoc, wsum, ih (by omega)]; simp [show ¬ s + d < s by omega]
          have := key (n - s) (by omega)
          rwa [show s + (n - s) = n by omega] at this
        omega) (fun j hj => hq _ (perm_lt h hj)) (fun j hj => by
        have := wsum_perm (f := T) (P := fun i => q i == j) h
        have h2 := hql j hj
        unfold ordO
        omega)
    obtain ⟨c, c1, c2, c3, c4⟩ := hfb
    have hU : rollU T R l n = v + 1 := by unfold rollU; omega
    have hvn : v ≤ 6 := by
      rcases Nat.lt_or_ge c v with g3 | g3
      · omega
      · omega
    rcases Nat.lt_or_ge c v with g3 | g3
    · have := c3 g3; omega
    · have := c4 (by omega); omega
end
end Go.Proofs.Ythmifadnfaajbab
namespace Go.Proofs.Ythmifadnfaajbab
open Go.RowKit Go.WideShapes

theorem OwnF.keepC {w wr w' : World} {len : Nat} {f : Nat → Int} {row : Option Nat} (h : OwnF w wr len f) (hg : wr.grownBy w' row) (hr : ∀ k, row = some k → w.heap.size + 1 ≤ k) : OwnF w w' len f :=
  ⟨h.own.kept hg (.inr (fun e => by have := hr w.heap.size e.symm; omega)), h.below.grown hg h.below.size (fun k hk => by have := hr k hk; omega)⟩
theorem fitS_zero {T : Nat → Int} {R : Int} {o : Nat → Nat} : (fitS T R o 0).1 = [] ∧ (fitS T R o 0).2 = fun _ => 0 := ⟨rfl, rfl⟩
theorem fit_hi {T : Nat → Int} {R : Int} {n : Nat} {l : List Nat} (hT : ∀ i, i < n → 1 ≤ T i ∧ T i ≤ R) (h : l.Perm (List.range n)) {t : Nat} (ht : t ≤ n) : (fitS T R (ordO l) t).1.length ≤ t ∧ ∀ b, b < (fitS T R (ordO l) t).1.length → 0 ≤ (fitS T R (ordO l) t).1.getD b 0 ∧ (fitS T R (ordO l) t).1.getD b 0 ≤ R := by
  obtain ⟨i1, i2, i3, i4, i5⟩ := roll_inv hT h ht
  refine ⟨?_, fun b hb => ⟨i4 b hb, ?_⟩⟩
  · clear i1 i2 i3 i4 i5
    have key : ∀ t, usedM T R (ordO l) t ≤ t := fun t => by
      induction t with
      | zero => simp [usedM, fitS]
      | succ t ih => rcases used_step T R (ordO l) t with e | ⟨e, _⟩ <;> omega
    exact key t
  · have := i3 b hb
    have h2 := wsum_nn (f := fun j => T (ordO l j)) (P := fun j => (fitS T R (ordO l) t).2 (ordO l j) == b) t (fun j hj => by have := (hT _ (perm_lt h (show j < n by omega))).1; show 0 ≤ T (l.getD j 0); omega)
    omega
end Go.Proofs.Ythmifadnfaajbab
namespace Go.Proofs.Ythmifadnfaajbab
open Go.RowKit Go.WideShapes

/-- length x stands ahead of y: y is shorter -/
def ahL (xs : List Int) (x y : Nat) : Bool := decide (xs.getD y 0 < xs.getD x 0)
end Go.Proofs.Ythmifadnfaajbab
namespace Go.Proofs.Ythmifadnfaajbab
open Go.RowKit Go.WideShapes

def isLong (kind : ByteArray) : Bool := kind.toList == [108, 111, 110, 103]
def isFirst (kind : ByteArray) : Bool := kind.toList == [102, 105, 114, 115, 116]
theorem long_not_first {kind : ByteArray} (h : isLong kind = true) : isFirst kind = false := by
  unfold isLong at h
  unfold isFirst
  rw [beq_iff_eq] at h
  rw [h]; rfl
theorem l_isLong : isLong ⟨#[108, 111, 110, 103]⟩ = true := by kernel_rfl
theorem f_isFirst : isFirst ⟨#[102, 105, 114, 115, 116]⟩ = true := by kernel_rfl
def upI (n : Nat) : List Int := (List.range n).map (fun x : Nat => (x : Int))
theorem upI_get (n j : Nat) (h : j < n) : (upI n).getD j 0 = (((List.range n).getD j 0 : Nat) : Int) := by
  unfold upI
  simp [List.getD_eq_getElem?_getD, h]
theorem srtI_getD (ah : Nat → Nat → Bool) (n j : Nat) (h : j < n) : (srtI ah n).getD j 0 = (((sortE ah n).getD j 0 : Nat) : Int) := by
  have := sortE_len ah n
  unfold srtI
  simp [List.getD_eq_getElem?_getD, this, h]
theorem upI_succ (n : Nat) : upI (n + 1) = upI n ++ [(n : Int)] := by unfold upI; rw [List.range_succ, List.map_append]; rfl
/-- the order in which the kind cuts -/
def cutOrd (xs : List Int) (kind : ByteArray) : List Nat := if isLong kind then sortE (ahL xs) xs.length else List.range xs.length
theorem cutOrd_perm (xs : List Int) (kind : ByteArray) : (cutOrd xs kind).Perm (List.range xs.length) := by
  unfold cutOrd; split
  · exact sortE_perm _ _
  · exact List.Perm.refl _
/-- what RollsBy answers -/
def rollRes (xs : List Int) (R : Int) (kind : ByteArray) : List Int := if cutsM xs R && (isLong kind || isFirst kind) then tab (fun i => (rollP (lenT xs) R (cutOrd xs kind) xs.length i : Int)) xs.length else []
end Go.Proofs.Ythmifadnfaajbab
namespace Go.Proofs.Ythmifadnfaajbab
open Go.RowKit Go.WideShapes

-- chapter 11's code: ValidCuts, LeastRolls
theorem fromOne11 (n hi : Int) (w : World) {b : Bool} (hb : inB 1 hi n = b) :
    Calls Try.prog 21 #[.int .i64 n, .int .i64 hi] w fun e w' => e = .returned (.bool b) ∧ w' = w := by
  subst hb
  by_cases h1 : 1 ≤ n
  · by_cases h2 : n ≤ hi
    · go_enter Try.func21, Try.ntmps21
      go_wp2
      go_ret
      exact ⟨ret_bool (inB_true h1 h2).symm, rfl⟩
    · go_enter Try.func21, Try.ntmps21
      go_wp2
      go_ret
      exact ⟨ret_bool (inB_hi (by omega)).symm, rfl⟩
  · go_enter Try.func21, Try.ntmps21
    go_wp2
    go_ret
    exact ⟨ret_bool (inB_lo (by omega)).symm, rfl⟩
set_option maxRecDepth 100000 in
set_option maxHeartbeats 2000000 in
theorem vCuts_impl (S : Nat → Prop) (a : Option Addr) (len cap : Nat) (xs : List Int) (R : Int) (w : World) (h : IntsAt w S a len xs) :
    Calls Try.prog 9 #[.slice a len cap, .int .i64 R] w fun e w' => e = .returned (.bool (cutsM xs R)) ∧ w' = w := by
  have hs := h.small
  have HL := Lib.hid h.lenEq
  by_cases h7 : (len : Int) > 7
  · have HF := Lib.hid (show cutsM xs R = false by unfold cutsM; rw [HL.out, decide_eq_false (by omega)]; simp)
    go_enter Try.func9, Try.ntmps9
    go_wp2_with fail
    go_ret
    exact ⟨ret_bool HF.out.symm, rfl⟩
  · cases hR : inB 1 20 R
    · have HF := Lib.hid (show cutsM xs R = false by unfold cutsM; rw [hR]; simp)
      go_enter Try.func9, Try.ntmps9
      go_wp2_with (go_at_call 21; refine (fromOne11 _ _ _ hR).mono ?_; rintro e w' ⟨rfl, rfl⟩)
      go_ret
      exact ⟨ret_bool HF.out.symm, rfl⟩
    · have HC := Lib.hid (show cutsM xs R = allIn 1 R xs by unfold cutsM; rw [hR, HL.out, decide_eq_true (by omega)]; simp)
      go_enter Try.func9, Try.ntmps9
      go_wp2_with (go_at_call 21; refine (fromOne11 _ _ _ hR).mono ?_; rintro e w' ⟨rfl, rfl⟩)
      clear hR
      go_loop [17] (fun i => ∃ k : Nat, k ≤ len ∧ i = .int .i64 k ∧ allIn 1 R (xs.take k) = true) (fun i => len - (intOf i).toNat)
      case atStart => exact ⟨0, Nat.zero_le _, rfl, rfl⟩
      case round =>
        obtain ⟨k, hk, rfl, ha⟩ := hrel
        have HA := Lib.hid ha
        clear ha
        by_cases hlt : k < len
        · have hkI : (k : Int) < (len : Int) := by omega
          obtain ⟨b, off, x, rfl, hx, hc⟩ := h.get hlt
          have HX := Lib.hid hx
          clear hx
          cases hq : inB 1 R x
          · have HF := Lib.hid (show cutsM xs R = false by rw [HC.out, allIn_false HX.out hq])
            go_wp2_with (go_at_call 21; refine (fromOne11 _ _ _ hq).mono ?_; rintro e w' ⟨rfl, rfl⟩)
            go_ret
            exact ⟨ret_bool HF.out.symm, rfl⟩
          · go_wp2_with (go_at_call 21; refine (fromOne11 _ _ _ hq).mono ?_; rintro e w' ⟨rfl, rfl⟩)
            go_round
            case rel => exact ⟨k + 1, by omega, by go_num, allIn_step HX.out HA.out hq⟩
            case measure => simp [intOf]; omega
        · obtain rfl : k = len := by omega
          have hkI : ¬ (k : Int) < (k : Int) := by omega
          have ha := HA.out
          rw [List.take_of_length_le (by rw [HL.out]; omega)] at ha
          have HT := Lib.hid (show cutsM xs R = true by rw [HC.out, ha])
          clear ha
          go_wp2_with fail
          go_ret
          exact ⟨ret_bool HT.out.symm, rfl⟩
theorem vcutsI {S : Nat → Prop} {a : Option Addr} {len cap : Nat} {xs : List Int} {R : Int} {b : Bool} (hb : cutsM xs R = b) (w : World) (h : IntsAt w S a len xs) : Calls Try.prog 9 #[.slice a len cap, .int .i64 R] w fun e w' => e = .returned (.bool b) ∧ w' = w := by
  subst hb; exact vCuts_impl S a len cap xs R w h
/-- the cuts longer than half of a roll, and what the others need beside the room that these leave -/
def ownN (T : Nat → Int) (R : Int) (n : Nat) : Nat := card (fun i => decide (R < 2 * T i)) n
theorem own_add {T : Nat → Int} {R x : Int} (hx : 2 * x ≤ R) : ∀ n, longN T R x n + midN T R x n = ownN T R n
  | 0 => rfl
  | n + 1 => by
    have ih := own_add (T := T) hx n
    unfold longN midN ownN at ih ⊢
    rw [card, card, card]
    by_cases g1 : R - x < T n
    · rw [decide_eq_true g1, decide_eq_true (show R < 2 * T n by omega)]; simp; omega
    · rw [decide_eq_false g1]
      by_cases g2 : R < 2 * T n
      · rw [decide_eq_true g2]; simp; omega
      · rw [decide_eq_false g2]; simp; omega
def overN (T : Nat → Int) (R x : Int) (n : Nat) : Int := smallN T R x n - roomN T R x n
theorem ownN_step (T : Nat → Int) (R : Int) (n : Nat) : ownN T R (n + 1) = ownN T R n + if decide (R < 2 * T n) then 1 else 0 := rfl
theorem over_step (T : Nat → Int) (R x : Int) (n : Nat) : overN T R x (n + 1) = overN T R x n + (if R - x < T n then 0 else if R < 2 * T n then T n - R else if x ≤ T n then T n else 0) := by
  unfold overN smallN roomN
  rw [wsum, wsum]
  by_cases g1 : R - x < T n
  · rw [decide_eq_true g1, if_pos g1]; simp
  · rw [decide_eq_false g1, if_neg g1]
    by_cases g2 : R < 2 * T n
    · rw [decide_eq_true g2, if_pos g2]; simp; omega
    · rw [decide_eq_false g2, if_neg g2]
      by_cases g3 : x ≤ T n
      · rw [decide_eq_true g3, if_pos g3]; simp; omega
      · rw [decide_eq_false g3, if_neg g3]; simp
theorem own_le (T : Nat → Int) (R : Int) : ∀ n, ownN T R n ≤ n
  | 0 => Nat.le_refl _
  | n + 1 => by have := own_le T R n; rw [ownN_step]; split <;> omega
theorem leastX_own {T : Nat → Int} {R x : Int} (hR : 1 ≤ R) (hx : 2 * x ≤ R) (n : Nat) : leastX T R x n = ownN T R n + ((if 0 < overN T R x n then overN T R x n else 0) + R - 1) / R := by
  have h1 : leastX T R x n = longN T R x n + midN T R x n + (max (overN T R x n + R - 1) 0) / R := rfl
  rw [h1, ← own_add hx n]
  obtain ⟨D, hD⟩ : ∃ D, overN T R x n = D := ⟨_, rfl⟩
  rw [hD]
  by_cases g : 0 < D
  · rw [if_pos g, Int.max_eq_left (by omega)]; push_cast; omega
  · rw [if_neg g]
    have a : (0 + R - 1) / R = 0 := Int.ediv_eq_zero_of_lt (by omega) (by omega)
    have b : max (D + R - 1) 0 / R = 0 := Int.ediv_eq_zero_of_lt (by omega) (by omega)
    rw [a, b]; push_cast; omega
set_option maxRecDepth 100000 in
set_option maxHeartbeats 4000000 in
theorem leastFrom_impl (S : Nat → Prop) (a : Option Addr) (len cap : Nat) (xs : List Int) (R : Int) (k : Nat) (w : World) (h : IntsAt w S a len xs) (hR1 : 1 ≤ R) (hR2 : R ≤ 20) (hl7 : len ≤ 7) (hT : ∀ i, i < len → 1 ≤ lenT xs i ∧ lenT xs i ≤ R) (hk : 2 * (k : Int) ≤ R) {z : Int} (hz : leastX (lenT xs) R k len = z) :
    Calls Try.prog 24 #[.slice a len cap, .int .i64 R, .int .i64 k] w fun e w' => e = .returned (.int .i64 z) ∧ w' = w := by
  have HZ := Lib.hid hz
  have HT := Lib.hid hT
  have HBD := Lib.hid (fun n (hn : n ≤ len) => room_bd (T := lenT xs) (R := R) (x := (k : Int)) hT hR2 n hn)
  clear hT hz
  go_enter Try.func24, Try.ntmps24
  go_wp2_with fail
  go_loop [7, 8, 14] (fun o v i => ∃ n : Nat, n ≤ len ∧ i = .int .i64 n ∧ o = .int .i64 (ownN (lenT xs) R n : Nat) ∧ v = .int .i64 (overN (lenT xs) R k n)) (fun _ _ i => len - (intOf i).toNat)
  case atStart => exact ⟨0, Nat.zero_le _, rfl, rfl, rfl⟩
  case round =>
    obtain ⟨n, hn, rfl, rfl, rfl⟩ := hrel
    have hob := own_le (lenT xs) R n
    have hvb : -140 ≤ overN (lenT xs) R k n ∧ overN (lenT xs) R k n ≤ 140 := by have := HBD.out n hn; unfold overN; omega
    by_cases hnl : n < len
    · have hnI : (n : Int) < (len : Int) := by omega
      obtain ⟨b, off, x, rfl, hx, hc⟩ := h.get hnl
      have hxe : lenT xs n = x := getD_of hx
      have hxb := HT.out n hnl
      have H1 := ownN_step (lenT xs) R n
      have H2 := over_step (lenT xs) R k n
      rw [hxe] at hxb H1 H2
      clear hx hxe
      obtain ⟨o, ho⟩ : ∃ o, ownN (lenT xs) R n = o := ⟨_, rfl⟩
      obtain ⟨v, hv⟩ : ∃ v, overN (lenT xs) R k n = v := ⟨_, rfl⟩
      rw [ho] at H1 hob ⊢
      rw [hv] at H2 hvb ⊢
      clear ho hv
      have H1 := Lib.hid H1
      have H2 := Lib.hid H2
      by_cases g2 : x > R - x
      · rw [decide_eq_true (show R < 2 * x by omega)] at H1
        by_cases g1 : R - x ≥ (k : Int)
        · have H2 := Lib.hid (H2.out.trans (by rw [if_neg (by omega), if_pos (by omega)]))
          go_wp2_with fail
          go_round
          case rel => exact ⟨n + 1, by omega, by go_num, by rw [H1.out]; simp, by rw [H2.out]; simp; omega⟩
          case measure => simp [intOf]; omega
        · have H2 := Lib.hid (H2.out.trans (by rw [if_pos (by omega)]))
          go_wp2_with fail
          go_round
          case rel => exact ⟨n + 1, by omega, by go_num, by rw [H1.out]; simp, by rw [H2.out]; simp⟩
          case measure => simp [intOf]; omega
      · rw [decide_eq_false (show ¬ R < 2 * x by omega)] at H1
        by_cases g3 : x ≥ (k : Int)
        · have H2 := Lib.hid (H2.out.trans (by rw [if_neg (by omega), if_neg (by omega), if_pos (by omega)]))
          go_wp2_with fail
          go_round
          case rel => exact ⟨n + 1, by omega, by go_num, by rw [H1.out]; simp, by rw [H2.out]⟩
          case measure => simp [intOf]; omega
        · have H2 := Lib.hid (H2.out.trans (by rw [if_neg (by omega), if_neg (by omega), if_neg (by omega)]))
          go_wp2_with fail
          go_round
          case rel => exact ⟨n + 1, by omega, by go_num, by rw [H1.out]; simp, by rw [H2.out]; simp⟩
          case measure => simp [intOf]; omega
    · obtain rfl : n = len := by omega
      have hnI : ¬ (n : Int) < (n : Int) := by omega
      have hX := leastX_own (T := lenT xs) hR1 hk n
      rw [HZ.out] at hX
      obtain ⟨o, ho⟩ : ∃ o, ownN (lenT xs) R n = o := ⟨_, rfl⟩
      obtain ⟨v, hv⟩ : ∃ v, overN (lenT xs) R k n = v := ⟨_, rfl⟩
      rw [ho] at hX hob ⊢
      rw [hv] at hX hvb ⊢
      clear ho hv
      obtain ⟨d, hd⟩ : ∃ d, (if 0 < v then v else 0) = d := ⟨_, rfl⟩
      rw [hd] at hX
      have hd0 : 0 ≤ d ∧ d ≤ 140 := by rw [← hd]; split <;> omega
      obtain ⟨c, hc⟩ : ∃ c, (d + R - 1) / R = c := ⟨_, rfl⟩
      rw [hc] at hX
      have hcb : 0 ≤ c ∧ c ≤ 1000 := by
        rw [← hc]
        exact ⟨Int.ediv_nonneg (by omega) (by omega), Int.le_trans (Int.ediv_le_self _ (by omega)) (by omega)⟩
      have hct : (d + R - 1).tdiv R = c := by rw [Int.tdiv_eq_ediv_of_nonneg (by omega)]; exact hc
      have HXX := Lib.hid hX
      have hR0 : ¬ R = 0 := by omega
      clear hX hc
      go_wp2_with fail
      go_ret
      exact ⟨ret_int (by rw [HXX.out]), rfl⟩
set_option maxRecDepth 100000 in
set_option maxHeartbeats 4000000 in
theorem leastRolls_impl0 (S : Nat → Prop) (a : Option Addr) (len cap : Nat) (xs : List Int) (R : Int) (w : World) (h : IntsAt w S a len xs) :
    Calls Try.prog 14 #[.slice a len cap, .int .i64 R] w fun e w' => e = .returned (.int .i64 (leastRes11 xs R)) ∧ w' = w := by
  have HL := Lib.hid h.lenEq
  cases hv : cutsM xs R
  · have HR := Lib.hid (show leastRes11 xs R = -1 by unfold leastRes11; rw [hv]; rfl)
    go_enter Try.func14, Try.ntmps14
    go_wp2_with (go_at_call 9; refine (vcutsI hv _ h).mono ?_; rintro e w' ⟨rfl, rfl⟩)
    go_ret
    exact ⟨ret_int HR.out.symm, rfl⟩
  · obtain ⟨hR1, hR2, hl7, hT⟩ := cuts_get hv
    have HR := Lib.hid (show leastRes11 xs R = leastTo (lenT xs) R len (R.toNat / 2 + 1) by unfold leastRes11; rw [hv, HL.out]; rfl)
    rw [HL.out] at hl7 hT
    obtain ⟨m, hm⟩ : ∃ m : Nat, R.toNat / 2 = m := ⟨_, rfl⟩
    rw [hm] at HR
    have hmt : R.tdiv 2 = (m : Int) := by rw [Int.tdiv_eq_ediv_of_nonneg (by omega)]; omega
    have hm10 : m ≤ 10 := by omega
    have hm2 : 2 * (m : Int) ≤ R := by omega
    have HT := Lib.hid hT
    have HXB := Lib.hid (fun (k : Nat) (hk : 2 * (k : Int) ≤ R) => show leastX (lenT xs) R k len ≤ 7 ∧ 0 ≤ leastX (lenT xs) R k len from
      have hle := leastX_le (T := lenT xs) (q := fun i => i) (m := len) hR1 (by omega) hk hT (fun i hi => hi) (fun j hj => (by rw [wsum_only len hj (by simp) (fun i hi hp => by simpa using hp)]; exact (hT j hj).2))
      ⟨by omega, by
        unfold leastX
        have := Int.ediv_nonneg (a := max (smallN (lenT xs) R k len - roomN (lenT xs) R k len + R - 1) 0) (b := R) (by omega) (by omega)
        omega⟩)
    clear hT
    go_enter Try.func14, Try.ntmps14
    go_wp2_with (first | (go_at_call 9; refine (vcutsI hv _ h).mono ?_; rintro e w' ⟨rfl, rfl⟩) | fail)
    clear hv hm
    go_loop [5, 14] (fun o x => ∃ k : Nat, k ≤ m + 1 ∧ x = .int .i64 k ∧ o = .int .i64 (leastTo (lenT xs) R len k) ∧ 0 ≤ leastTo (lenT xs) R len k ∧ leastTo (lenT xs) R len k ≤ 7) (fun _ x => 20 - (intOf x).toNat)
    case atStart => exact ⟨0, Nat.zero_le _, rfl, rfl, Int.le_refl _, by simp [leastTo]⟩
    case round =>
      obtain ⟨k, hk, rfl, rfl, ho0, ho1⟩ := hrel
      obtain ⟨o, ho⟩ : ∃ o, leastTo (lenT xs) R len k = o := ⟨_, rfl⟩
      rw [ho] at ho0 ho1 ⊢
      have HO := Lib.hid ho
      clear ho
      by_cases hlt : k < m + 1
      · have hkI : (k : Int) < (m : Int) + 1 := by omega
        have hk2 : 2 * (k : Int) ≤ R := by omega
        have hxb := HXB.out k hk2
        obtain ⟨z, hz⟩ : ∃ z, leastX (lenT xs) R k len = z := ⟨_, rfl⟩
        rw [hz] at hxb
        have HST := Lib.hid (show leastTo (lenT xs) R len (k + 1) = max o z by rw [leastTo, HO.out, hz])
        have HC := Lib.hid (fun w (hw : IntsAt w S a len xs) => leastFrom_impl S a len cap xs R k w hw hR1 hR2 hl7 HT.out hk2 hz)
        clear hz
        by_cases hov : o < z
        · have hmx : max o z = z := by omega
          rw [hmx] at HST
          clear hmx
          go_wp2_with (first | (go_at_call 24; refine (HC.out _ h).mono ?_; rintro e w' ⟨rfl, rfl⟩) | fail)
          go_round
          case rel => exact ⟨k + 1, by omega, by go_num, by rw [HST.out], by rw [HST.out]; omega, by rw [HST.out]; omega⟩
          case measure => simp [intOf]; omega
        · have hmx : max o z = o := by omega
          rw [hmx] at HST
          clear hmx
          go_wp2_with (first | (go_at_call 24; refine (HC.out _ h).mono ?_; rintro e w' ⟨rfl, rfl⟩) | fail)
          go_round
          case rel => exact ⟨k + 1, by omega, by go_num, by rw [HST.out], by rw [HST.out]; omega, by rw [HST.out]; omega⟩
          case measure => simp [intOf]; omega
      · obtain rfl : k = m + 1 := by omega
        have hkI : ¬ ((m + 1 : Nat) : Int) < (m : Int) + 1 := by omega
        go_wp2_with fail
        go_ret
        exact ⟨ret_int (by rw [HR.out, HO.out]), rfl⟩
end Go.Proofs.Ythmifadnfaajbab
