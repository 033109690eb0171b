import Derived.Test.YthmifadnfaajbacRows
import Derived.Test.YthmifadnfaajbacM0
import Derived.Test.YthmifadnfaajbacM1
import Derived.Test.YthmifadnfaajbacM9
import Derived.Test.YthmifadnfaajbacM4
import Derived.Test.YthmifadnfaajbacM6
import Derived.Test.YthmifadnfaajbacM7
import Derived.Test.YthmifadnfaajbacM10
namespace Go.Proofs.Ythmifadnfaajbac

-- chapter 11, plain: what RollsBy takes, against any plan
def wsumL (f : Nat → Int) (P : Nat → Bool) : List Nat → Int
  | [] => 0
  | x :: l => (if P x then f x else 0) + wsumL f P l
theorem wsumL_perm {f : Nat → Int} {P : Nat → Bool} {l l' : List Nat} (h : l.Perm l') : wsumL f P l = wsumL f P l' := by
  induction h with
  | nil => rfl
  | cons x _ ih => rw [wsumL, wsumL, ih]
  | swap x y l => simp only [wsumL]; omega
  | trans _ _ ih1 ih2 => rw [ih1, ih2]
theorem wsumL_snoc (f : Nat → Int) (P : Nat → Bool) (x : Nat) : ∀ l : List Nat, wsumL f P (l ++ [x]) = wsumL f P l + if P x then f x else 0
  | [] => by simp [wsumL]
  | y :: l => by rw [List.cons_append, wsumL, wsumL, wsumL_snoc f P x l]; omega
theorem wsumL_range (f : Nat → Int) (P : Nat → Bool) : ∀ n, wsumL f P (List.range n) = wsum f P n
  | 0 => rfl
  | n + 1 => by rw [List.range_succ, wsumL_snoc, wsumL_range f P n, wsum]
theorem wsumL_at (f : Nat → Int) (P : Nat → Bool) (l : List Nat) : ∀ k, k ≤ l.length → wsumL f P (l.take k) = wsum (fun j => f (l.getD j 0)) (fun j => P (l.getD j 0)) k
  | 0, _ => rfl
  | k + 1, h => by
    have e : l.take (k + 1) = l.take k ++ [l.getD k 0] := by
      rw [List.take_add_one, List.getD_eq_getElem?_getD, List.getElem?_eq_getElem (show k < l.length by omega)]; rfl
    rw [e, wsumL_snoc, wsumL_at f P l k (by omega), wsum]
theorem wsum_perm {f : Nat → Int} {P : Nat → Bool} {l : List Nat} {n : Nat} (h : l.Perm (List.range n)) : wsum (fun j => f (l.getD j 0)) (fun j => P (l.getD j 0)) n = wsum f P n := by
  have hl : l.length = n := by simpa using h.length_eq
  have := wsumL_at f P l n (by omega)
  rw [← this, List.take_of_length_le (by omega), wsumL_perm h, wsumL_range]
theorem perm_lt {l : List Nat} {n : Nat} (h : l.Perm (List.range n)) {j : Nat} (hj : j < n) : l.getD j 0 < n := by
  have hl : l.length = n := by simpa using h.length_eq
  have := h.mem_iff.1 (getD_mem (l := l) (k := j) (by omega))
  simpa using this
theorem perm_inj {l : List Nat} {n : Nat} (h : l.Perm (List.range n)) {i j : Nat} (hi : i < n) (hj : j < n) (e : l.getD i 0 = l.getD j 0) : i = j := by
  have hl : l.length = n := by simpa using h.length_eq
  have hn : l.Nodup := h.symm.nodup List.nodup_range
  have key : ∀ a b, a < b → b < n → l.getD a 0 ≠ l.getD b 0 := fun a b hab hb => by
    have := List.pairwise_iff_getElem.1 hn a b (by omega) (by omega) hab
    rw [List.getD_eq_getElem?_getD, List.getD_eq_getElem?_getD, List.getElem?_eq_getElem (by omega), List.getElem?_eq_getElem (by omega)]
    exact this
  rcases Nat.lt_trichotomy i j with g | g | g
  · exact absurd e (key i j g hj)
  · exact g
  · exact absurd e.symm (key j i g hi)
theorem perm_on {l : List Nat} {n : Nat} (h : l.Perm (List.range n)) {i : Nat} (hi : i < n) : ∃ j, j < n ∧ l.getD j 0 = i := by
  have hl : l.length = n := by simpa using h.length_eq
  have hm : i ∈ l := h.mem_iff.2 (by simpa using hi)
  obtain ⟨j, hj, e⟩ := List.mem_iff_getElem.1 hm
  exact ⟨j, by omega, by rw [List.getD_eq_getElem?_getD, List.getElem?_eq_getElem hj]; exact e⟩
section
variable {T : Nat → Int} {R : Int} {n : Nat} {l : List Nat}
def ordO (l : List Nat) (j : Nat) : Nat := l.getD j 0
/-- each one's roll, and how many -/
def rollP (T : Nat → Int) (R : Int) (l : List Nat) (n : Nat) : Nat → Nat := (fitS T R (ordO l) n).2
def rollU (T : Nat → Int) (R : Int) (l : List Nat) (n : Nat) : Nat := usedM T R (ordO l) n
theorem roll_inv (hT : ∀ i, i < n → 1 ≤ T i ∧ T i ≤ R) (h : l.Perm (List.range n)) {t : Nat} (ht : t ≤ n) : FitI T R n (ordO l) t (fitS T R (ordO l) t).1 (fitS T R (ordO l) t).2 :=
  fit_inv hT (fun _ hj => perm_lt h hj) (fun _ _ hi hj e => perm_inj h hi hj e) t ht
/-- the rolls hold what is cut from them; each one is begun -/
theorem roll_plan (hT : ∀ i, i < n → 1 ≤ T i ∧ T i ≤ R) (h : l.Perm (List.range n)) : (∀ i, i < n → rollP T R l n i < rollU T R l n) ∧ (∀ b, b < rollU T R l n → ∃ i, i < n ∧ rollP T R l n i = b) ∧
    (∀ b, b < rollU T R l n → wsum T (fun i => rollP T R l n i == b) n ≤ R) ∧ (∀ i, i < n → ∀ b, b < rollP T R l n i → R < wsum T (fun i => rollP T R l n i == b) n + T i) := by
  obtain ⟨i1, i2, i3, i4, i5⟩ := roll_inv hT h (Nat.le_refl n)
  have hw : ∀ b, wsum (fun j => T (ordO l j)) (fun j => rollP T R l n (ordO l j) == b) n = wsum T (fun i => rollP T R l n i == b) n := fun b => wsum_perm (f := T) (P := fun i => rollP T R l n i == b) h
  refine ⟨fun i hi => ?_, fun b hb => ?_, fun b hb => ?_, fun i hi b hb => ?_⟩
  · obtain ⟨j, hj, rfl⟩ := perm_on h hi
    exact i1 j hj
  · obtain ⟨j, hj, e⟩ := i2 b hb
    exact ⟨_, perm_lt h hj, e⟩
  · have e1 := i3 b hb
    have e2 := i4 b hb
    have e3 := hw b
    unfold rollP at e3 ⊢
    omega
  · obtain ⟨j, hj, rfl⟩ := perm_on h hi
    have hj1 := i1 j hj
    have hb' : b < (fitS T R (ordO l) n).2 (ordO l j) := hb
    have e1 := i3 b (by omega)
    have e2 := i5 j hj b hb
    have e3 := hw b
    have e4 : ordO l j = l.getD j 0 := rfl
    unfold rollP at e3 ⊢
    rw [e4] at e2
    omega
/-- what FnRollsBy asks of the kind first -/
theorem first_bound {q : Nat → Nat} {m : Nat} (hR : 1 ≤ R) (hT : ∀ i, i < n → 1 ≤ T i ∧ T i ≤ R) (h : l.Perm (List.range n)) (h0 : 0 < n) (h7 : n ≤ 7) (hq : ∀ i, i < n → q i < m) (hql : ∀ j, j < m → wsum T (fun i => q i == j) n ≤ R) : 10 * rollU T R l n ≤ 17 * m := by
  obtain ⟨p1, p2, p3, p4⟩ := roll_plan hT h
  have hm : 1 ≤ m := by have := hq 0 h0; omega
  have hu : rollU T R l n ≤ n := by
    have e := card_bins (P := fun _ => true) (p := rollP T R l n) (n := n) (v := rollU T R l n) (fun i hi _ => p1 i hi)
    have e2 := bsumN_le (f := fun _ => 1) (g := fun b => card (fun i => true && rollP T R l n i == b) n) (rollU T R l n) (fun b hb => by
      obtain ⟨i, hi, e⟩ := p2 b hb
      exact card_mem hi (by simp [e]))
    rw [bsumN_one (fun _ _ => rfl), ← e, card_all] at e2
    exact e2
  rcases Nat.lt_or_ge (rollU T R l n) 2 with g | g
  · omega
  · have h1 := fit_bound hR hT p2 p4 hq hql g
    rcases Nat.lt_or_ge (rollU T R l n) 7 with g2 | g2
    · omega
    · have hn : n = 7 := by omega
      have h2 := fit_each (n := n) (p := rollP T R l n) hT (fun i j hi hj e => by
        refine Classical.byContradiction fun hij => ?_
        have hU : rollU T R l n = n := by omega
        have e3 := card_bins (P := fun _ => true) (p := rollP T R l n) (n := n) (v := rollU T R l n) (fun i hi _ => p1 i hi)
        rw [card_all, hU] at e3
        -- one roll has two: then all have one at least, and one of them two
        have e4 : ∀ v, rollP T R l n i < v → v ≤ n → v + 1 ≤ bsumN (fun b => card (fun i => true && rollP T R l n i == b) n) v := by
          intro v
          induction v with
          | zero => intro h; omega
          | succ v ih =>
            intro h1 h2
            rw [bsumN]
            have c1 : 1 ≤ card (fun i => true && rollP T R l n i == v) n := by
              obtain ⟨k, hk, e⟩ := p2 v (by omega)
              exact card_mem hk (by simp [e])
            rcases Nat.eq_or_lt_of_le (Nat.le_of_lt_succ h1) with g3 | g3
            · have c2 := wsum_two (f := fun _ => 1) (P := fun i => true && rollP T R l n i == v) (n := n) (fun _ _ => by omega) hi hj hij (by simp [g3]) (by simp [← e, g3])
              rw [← card_w] at c2
              have c3 := bsumN_le (f := fun _ => 1) (g := fun b => card (fun i => true && rollP T R l n i == b) n) v (fun b hb => by
                obtain ⟨k, hk, e⟩ := p2 b (by omega)
                exact card_mem hk (by simp [e]))
              rw [bsumN_one (fun _ _ => rfl)] at c3
              omega
            · have := ih g3 (by omega); omega
        have := e4 n (by have := p1 i hi; omega) (Nat.le_refl _)
        omega) p4 hq hql
      omega
/-- what FnRollsBy asks of the kind long -/
theorem long_bound {q : Nat → Nat} {m : Nat} (hR : 1 ≤ R) (hT : ∀ i, i < n → 1 ≤ T i ∧ T i ≤ R) (h : l.Perm (List.range n)) (hs : ∀ i j, i < j → j < n → T (l.getD j 0) ≤ T (l.getD i 0)) (h0 : 0 < n) (h7 : n ≤ 7) (hq : ∀ i, i < n → q i < m) (hql : ∀ j, j < m → wsum T (fun i => q i == j) n ≤ R) : 9 * rollU T R l n ≤ 11 * m + 6 := by
  obtain ⟨p1, p2, p3, p4⟩ := roll_plan hT h
  have hm : 1 ≤ m := by have := hq 0 h0; omega
  rcases Nat.lt_or_ge (rollU T R l n) 2 with g | g
  · omega
  · have h1 := fit_bound hR hT p2 p4 hq hql g
    obtain ⟨s, s1, s2, s3, s4⟩ := last_new T R (ordO l) n (by unfold rollU at g; omega)
    obtain ⟨i1, i2, i3, i4, i5⟩ := roll_inv hT h (t := s) (by omega)
    have hv : ∃ v, usedM T R (ordO l) s = v := ⟨_, rfl⟩
    obtain ⟨v, hv⟩ := hv
    have hvl : (fitS T R (ordO l) s).1.length = v := hv
    -- over the places in the order
    have hfb := fall_bound (n := n) (v := v) (m := m) (z := s) (R := R) (T := fun j => T (ordO l j)) (p := fun j => (fitS T R (ordO l) s).2 (ordO l j)) (q := fun j => q (ordO l j)) (B := fun j => decide (j < s))
      (fun j hj => hT _ (perm_lt h hj)) s1 (by simp) (fun j hj hb => by
        have hjs : j < s := by simpa using hb
        exact ⟨hs j s hjs s1, by have := i1 j hjs; omega⟩) (fun b hb => by
        have e1 := i3 b (by omega)
        have e2 := room_lt (lf := (fitS T R (ordO l) s).1) (x := T (ordO l s)) (j := b) (by rw [s4, hv]; exact hb)
        have e3 : wsum (fun j => T (ordO l j)) (fun j => decide (j < s) && (fitS T R (ordO l) s).2 (ordO l j) == b) n = wsum (fun j => T (ordO l j)) (fun j => (fitS T R (ordO l) s).2 (ordO l j) == b) s := by
          have key : ∀ d, s + d ≤ n → wsum (fun j => T (ordO l j)) (fun j => decide (j < s) && (fitS T R (ordO l) s).2 (ordO l j) == b) (s + d) = wsum (fun j => T (ordO l j)) (fun j => (fitS T R (ordO l) s).2 (ordO l j) == b) s := by
            intro d
            induction d with
            | zero => intro _; exact wsum_congr s (fun j hj => by simp [hj]) (fun _ _ _ => rfl)
            | succ d ih => intro hd; rw [← Nat.add_assoc, wsum, ih (by omega)]; simp [show ¬ s + d < s by omega]
          have := key (n - s) (by omega)
          rwa [show s + (n - s) = n by omega] at this
        omega) (fun j hj => hq _ (perm_lt h hj)) (fun j hj => by
        have := wsum_perm (f := T) (P := fun i => q i == j) h
        have h2 := hql j hj
        unfold ordO
        omega)
    obtain ⟨c, c1, c2, c3, c4⟩ := hfb
    have hU : rollU T R l n = v + 1 := by unfold rollU; omega
    have hvn : v ≤ 6 := by
      rcases Nat.lt_or_ge c v with g3 | g3
      · omega
      · omega
    rcases Nat.lt_or_ge c v with g3 | g3
    · have := c3 g3; omega
    · have := c4 (by omega); omega
end
end Go.Proofs.Ythmifadnfaajbac
namespace Go.Proofs.Ythmifadnfaajbac
open Go.RowKit Go.WideShapes

theorem OwnF.keepC {w wr w' : World} {len : Nat} {f : Nat → Int} {row : Option Nat} (h : OwnF w wr len f) (hg : wr.grownBy w' row) (hr : ∀ k, row = some k → w.heap.size + 1 ≤ k) : OwnF w w' len f :=
  ⟨h.own.kept hg (.inr (fun e => by have := hr w.heap.size e.symm; omega)), h.below.grown hg h.below.size (fun k hk => by have := hr k hk; omega)⟩
theorem fitS_zero {T : Nat → Int} {R : Int} {o : Nat → Nat} : (fitS T R o 0).1 = [] ∧ (fitS T R o 0).2 = fun _ => 0 := ⟨rfl, rfl⟩
theorem fit_hi {T : Nat → Int} {R : Int} {n : Nat} {l : List Nat} (hT : ∀ i, i < n → 1 ≤ T i ∧ T i ≤ R) (h : l.Perm (List.range n)) {t : Nat} (ht : t ≤ n) : (fitS T R (ordO l) t).1.length ≤ t ∧ ∀ b, b < (fitS T R (ordO l) t).1.length → 0 ≤ (fitS T R (ordO l) t).1.getD b 0 ∧ (fitS T R (ordO l) t).1.getD b 0 ≤ R := by
  obtain ⟨i1, i2, i3, i4, i5⟩ := roll_inv hT h ht
  refine ⟨?_, fun b hb => ⟨i4 b hb, ?_⟩⟩
  · clear i1 i2 i3 i4 i5
    have key : ∀ t, usedM T R (ordO l) t ≤ t := fun t => by
      induction t with
      | zero => simp [usedM, fitS]
      | succ t ih => rcases used_step T R (ordO l) t with e | ⟨e, _⟩ <;> omega
    exact key t
  · have := i3 b hb
    have h2 := wsum_nn (f := fun j => T (ordO l j)) (P := fun j => (fitS T R (ordO l) t).2 (ordO l j) == b) t (fun j hj => by have := (hT _ (perm_lt h (show j < n by omega))).1; show 0 ≤ T (l.getD j 0); omega)
    omega
set_option maxRecDepth 100000 in
set_option maxHeartbeats 8000000 in
theorem fit_any (a a2 : Option Addr) (len cap cap2 : Nat) (xs ys : List Int) (R : Int) (l : List Nat) (w : World) (h : IntsAt w (· < w.heap.size) a len xs) (h2 : IntsAt w (· < w.heap.size) a2 len ys) (hv : cutsM xs R = true) (hl : l.Perm (List.range len)) (hy : ∀ j, j < len → ys.getD j 0 = ((l.getD j 0 : Nat) : Int)) :
    Calls Try.prog 34 #[.slice a len cap, .int .i64 R, .slice a2 len cap2] w (NewOwn w (tab (fun i => (rollP (lenT xs) R l len i : Int)) len)) := by
  have HL := Lib.hid h.lenEq
  obtain ⟨hR1, hR2, hl7, hT⟩ := cuts_get hv
  rw [HL.out] at hl7 hT
  have HT := Lib.hid hT
  have HFH := Lib.hid (fun t (ht : t ≤ len) => fit_hi (T := lenT xs) (R := R) hT hl ht)
  have HPL := Lib.hid (fun j (hj : j < len) => perm_lt hl hj)
  have HY := Lib.hid hy
  have HH := Lib.hid (fun w' (hb : Below w.heap.size w w') => h.below hb)
  have HH2 := Lib.hid (fun w' (hb : Below w.heap.size w w') => h2.below hb)
  have hmk := fun w => run_make_row' (P := Try.prog) 23 3 (.int .i64 0) 8 Try.underlying23 Try.infoIntO rfl .i64 .i64 len (by omega) (by omega) w
  have hst := OwnF.start w len (by omega)
  have hal : (w.alloc (.cells (madeCells #[.int .i64 0] len) 3)).heap.size = w.heap.size + 1 := by simp
  obtain ⟨w1, hw1⟩ : ∃ w1, w.alloc (.cells (madeCells #[.int .i64 0] len) 3) = w1 := ⟨_, rfl⟩
  rw [hw1] at hst hal
  have hs2 := hst.keepC (World.grownBy_alloc w1 (.cells #[] 3) none) (fun k hk => by cases hk)
  have ho2 := World.ownsRow_made (base := w.heap.size + 1) (size := 1) (e := 3) w1 #[] 0 (by omega) (Nat.zero_le _) rfl
  have HW1 := Lib.hid hw1
  have HS2 := Lib.hid hs2
  have HO2 := Lib.hid ho2
  clear h h2 hv hT hy hw1 hst hs2 ho2
  go_enter Try.func34, Try.ntmps34
  go_wp2_with fail
  rw [HW1.out]
  go_loopw [8, 9] (fun v i wr => ∃ (t cp : Nat) (ax : Option Addr), t ≤ len ∧ i = .int .i64 t ∧ v = .slice ax (fitS (lenT xs) R (ordO l) t).1.length cp ∧ wr.ownsRow (w.heap.size + 1) 3 1 v (fitS (lenT xs) R (ordO l) t).1.length ((fitS (lenT xs) R (ordO l) t).1.map (.int .i64)) ∧ OwnF w wr len (fun i => ((fitS (lenT xs) R (ordO l) t).2 i : Int))) (fun _ i _ => len - (intOf i).toNat)
  case atStart => exact ⟨0, 0, some ⟨w.heap.size + 1, 0, none⟩, Nat.zero_le _, rfl, by simp [fitS], by have := HO2.out; rw [hal] at this; simpa [fitS] using this, HS2.out⟩
  case round =>
    clear HW1 HS2 HO2
    obtain ⟨t, cp, ax, ht, rfl, rfl, hown, hof⟩ := hrel
    obtain ⟨wo, rfl⟩ : ∃ wo : World, wo = wr := ⟨_, rfl⟩
    have HOF := Lib.hid hof
    clear hof
    by_cases hlt : t < len
    · have htI : (t : Int) < (len : Int) := by omega
      obtain ⟨hu, hlfb⟩ := HFH.out t ht
      have HN1 := Lib.hid (show (fitS (lenT xs) R (ordO l) (t + 1)).1 = putL R (fitS (lenT xs) R (ordO l) t).1 (lenT xs (ordO l t)) from rfl)
      have HN2 := Lib.hid (fun i => show (fitS (lenT xs) R (ordO l) (t + 1)).2 i = if i = ordO l t then room (fitS (lenT xs) R (ordO l) t).1 (lenT xs (ordO l t)) else (fitS (lenT xs) R (ordO l) t).2 i from rfl)
      obtain ⟨p, hp⟩ : ∃ p, (fitS (lenT xs) R (ordO l) t).2 = p := ⟨_, rfl⟩
      obtain ⟨lf, hlf⟩ : ∃ lf, (fitS (lenT xs) R (ordO l) t).1 = lf := ⟨_, rfl⟩
      rw [hlf] at hown hu hlfb HN1 HN2 ⊢
      rw [hp] at HN2 HOF
      clear hlf hp
      obtain ⟨z, hz⟩ : ∃ z, ordO l t = z := ⟨_, rfl⟩
      have hzl : z < len := by rw [← hz]; exact HPL.out t hlt
      have hyz : ys.getD t 0 = (z : Int) := by rw [← hz]; exact HY.out t hlt
      rw [hz] at HN1 HN2
      have hxb := HT.out z hzl
      obtain ⟨b2, f2, y, rfl, hyy, hc2⟩ := (HH2.out _ HOF.out.below).get hlt
      obtain ⟨b1, f1, x, rfl, hxx, hc1⟩ := (HH.out _ HOF.out.below).get hzl
      have hy1 : y = (z : Int) := by rw [← getD_of hyy]; exact hyz
      have hx1 : lenT xs z = x := getD_of hxx
      subst hy1
      rw [hx1] at HN1 HN2 hxb
      have hzI : (z : Int) < (len : Int) := by omega
      have HOWN := Lib.hid hown
      have HLO := Lib.hid (own_low hown (by omega))
      obtain ⟨u, hul⟩ : ∃ u, lf.length = u := ⟨_, rfl⟩
      rw [hul] at HOWN HLO hu hlfb ⊢
      have HUL := Lib.hid hul
      have HLB := Lib.hid hlfb
      obtain ⟨K, hK⟩ : ∃ K, room lf x = K := ⟨_, rfl⟩
      have HKL := Lib.hid (show K ≤ u ∧ (∀ j, j < K → lf.getD j 0 < x) ∧ (K < u → x ≤ lf.getD K 0) by rw [← hK, ← hul]; exact ⟨room_le _ _, fun j hj => room_lt hj, fun g => room_ge g⟩)
      rw [hK] at HN2
      have HPU := Lib.hid (show putL R lf x = (if K = u then lf ++ [R] else lf).set K ((if K = u then lf ++ [R] else lf).getD K 0 - x) by unfold putL; rw [hK, hul])
      clear hyz hyy hxx hx1 hz hul hK hown hlfb
      go_wp2_with fail
      go_loop [11] (fun i => ∃ k : Nat, k ≤ K ∧ i = .int .i64 k) (fun i => 100 - (intOf i).toNat)
      case atStart => exact ⟨0, Nat.zero_le _, rfl⟩
      case round =>
        obtain ⟨k, hkK, rfl⟩ := hrel
        obtain ⟨hKu, hKlt, hKge⟩ := HKL.out
        by_cases hku : k < u
        · have hkI : (k : Int) < (u : Int) := by omega
          obtain ⟨bl, fl, v, e0, hvv, hcv⟩ := HLO.out.get hku
          have hv1 := getD_of hvv
          have hvb := HLB.out k hku
          rw [hv1] at hvb
          by_cases hvx : v < x
          · have hk2 : k + 1 ≤ K := by
              rcases Nat.lt_or_eq_of_le hkK with g | g
              · omega
              · have := hKge (by omega); rw [← g, hv1] at this; omega
            subst e0
            clear hKlt hKge hvv hv1
            go_wp2_with fail
            go_round
            case rel => exact ⟨k + 1, hk2, by go_num⟩
            case measure => simp [intOf]; omega
          · have hke : K = k := by
              rcases Nat.lt_or_eq_of_le hkK with g | g
              · have := hKlt k g; rw [hv1] at this; omega
              · exact g.symm
            subst e0
            have hn1 : ¬ K = u := by omega
            rw [if_neg hn1, hke, hv1] at HPU
            rw [hke] at HN2
            have hne : ((k : Int) == (u : Int)) = false := by simp; omega
            obtain ⟨gl, v0, e1, hgB, hc0, hf0⟩ := own_place HOWN.out hku
            simp only [Option.some.injEq, Addr.mk.injEq, and_true] at e1
            obtain ⟨e1, e2⟩ := e1
            subst e1
            subst e2
            rw [Nat.zero_add] at hcv
            obtain ⟨hst7, hg7⟩ : World.ownsRow (wo.setCell ⟨bl, k, none⟩ (.int .i64 (v - x))) (w.heap.size + 1) 3 1 (.slice (some ⟨bl, 0, none⟩) u cp) u ((lf.set k (v - x)).map (.int .i64)) ∧ wo.grownBy (wo.setCell ⟨bl, k, none⟩ (.int .i64 (v - x))) (some bl) := by
              have := HOWN.out.stored k (.int .i64 (v - x))
              rw [List.map_set]; simpa using this
            have hof7 := HOF.out.keepC hg7 (fun q hq => by cases hq; exact hgB)
            obtain ⟨hoc, hofz⟩ := hof7.cell hzl
            have hfin := hof7.put z (k : Int)
            have hrow := hst7.kept (grownBy_setCell (wo.setCell ⟨bl, k, none⟩ (.int .i64 (v - x))) ⟨w.heap.size, z, none⟩ (.int .i64 (k : Int))) (ne_low hst7 (Nat.lt_succ_self _))
            have hb2 : b2 < w.heap.size := (HH2.out _ HOF.out.below).mem (by omega)
            have hc2' : (wo.setCell ⟨bl, k, none⟩ (.int .i64 (v - x))).cell? ⟨b2, f2 + t, none⟩ = some (.int .i64 (z : Int)) := (World.cell?_setCell_other _ _ _ _ (by intro e; injection e; omega)).trans hc2
            have HROW := Lib.hid hrow
            have HFIN := Lib.hid hfin
            have HLEN := Lib.hid (show (putL R lf x).length = u by rw [HPU.out, List.length_set]; exact HUL.out)
            clear hrow hfin hst7 hg7 hof7 hvv hv1 hKlt hKge hc0
            go_wp2_with fail
            go_roundw
            case rel =>
              refine ⟨t + 1, cp, some ⟨bl, 0, none⟩, by omega, by go_num, by rw [HN1.out, HLEN.out], by rw [HN1.out, HLEN.out, HPU.out]; exact HROW.out, HFIN.out.congr (fun q hq => ?_)⟩
              rw [HN2.out]; split <;> rfl
            case measure => simp [intOf]; omega
        · have hke : K = k := by omega
          have hkeu : u = k := by omega
          subst hkeu
          have hkI : ¬ (u : Int) < (u : Int) := by omega
          have hne : ((u : Int) == (u : Int)) = true := by simp
          rw [if_pos hke] at HPU
          rw [hke] at HN2 HPU
          have hlast : (lf ++ [R]).getD u 0 = R := by
            rw [List.getD_eq_getElem?_getD, List.getElem?_append_right (by rw [HUL.out]; omega), HUL.out]; simp
          rw [hlast] at HPU
          have hb2 : b2 < w.heap.size := (HH2.out _ HOF.out.below).mem (by omega)
          have hwo1 : w.heap.size + 1 ≤ wo.heap.size := (World.block_lt_of_cell? wo _ (HOF.out.cell hzl).1)
          have HLAST := Lib.hid hlast
          have HLEN := Lib.hid (show (putL R lf x).length = u + 1 by rw [HPU.out, List.length_set, List.length_append, HUL.out]; rfl)
          clear hKlt hKge hlast hke hkK hku hKu
          go_wp2_with (first
            | (at_builtin; refine wpApp1 rfl _ _ rfl (w.heap.size + 1) _ _ _ _ R rfl HOWN.out rfl hwo1 (by omega) ?_; intro a6 c6 w6 hown6 hc6 hgr6; have hos := own_snoc hown6; obtain ⟨g6, v6, e6, hg6B, hc60, hf6⟩ := own_place hos (j := u) (by omega); subst e6; obtain ⟨bb, ff, vv, ee, hvv, hcc⟩ := (own_low hos (by omega)).get (k := u) (by omega); cases ee; rw [Nat.zero_add] at hcc; rw [show vv = R by rw [← getD_of hvv]; exact HLAST.out] at hcc; clear hvv hc60; have hof6 := HOF.out.keepC hgr6 (fun q hq => (HOWN.out.lt q hq).1); have hst8 := hos.stored u (.int .i64 (R - x)); rw [← List.map_set] at hst8; obtain ⟨hs8, hg8⟩ := hst8; have hof8 := hof6.keepC hg8 (fun q hq => by cases hq; exact hg6B); obtain ⟨hoc, hofz⟩ := hof8.cell hzl; have hc22 := (hof8.below.cell (p := ⟨b2, f2 + t, none⟩) hb2).trans ((HOF.out.below.cell (p := ⟨b2, f2 + t, none⟩) hb2).symm.trans hc2); have HFIN := Lib.hid (hof8.put z (u : Int)); have HROW := Lib.hid (hs8.kept (grownBy_setCell _ ⟨w.heap.size, z, none⟩ (.int .i64 (u : Int))) (ne_low hs8 (Nat.lt_succ_self _))); clear hof6 hof8 hs8 hg8 hos hown6 hgr6)
            | fail)
          go_roundw
          case rel =>
            refine ⟨t + 1, c6, some ⟨g6, 0, none⟩, by omega, by go_num, by rw [HN1.out, HLEN.out], by rw [HN1.out, HLEN.out, HPU.out]; exact HROW.out, HFIN.out.congr (fun q hq => ?_)⟩
            rw [HN2.out]; split <;> rfl
          case measure => simp [intOf]; omega
    · obtain rfl : t = len := by omega
      have htI : ¬ (t : Int) < (t : Int) := by omega
      go_wp2_with fail
      go_ret
      exact HOF.out.done (by omega)
end Go.Proofs.Ythmifadnfaajbac
