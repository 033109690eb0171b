/- The law FnHigherPartsAreMadeOfLower returns true at every code, and the code reads behind the call as it read before. No condition. -/
import Derived.Test.YtcfahmffboipiabRows
import Derived.WalkKit
import Derived.LoopTactic
import Derived.Outline
import Derived.WalkSpells
import Derived.WalkLawsBesides
import Derived.ProofKit
import Derived.Deep.QuietTactic
import Derived.BigQuiet
import Derived.IntWalk
import Derived.Test.YtcfahmffboipiabLib
import Derived.Test.YtcfahmffboipiabRd
import Derived.Test.YtcfahmffboipiabEx
import Derived.Test.YtcfahmffboipiabCountM
import Derived.Test.YtcfahmffboipiabTakesM
import Derived.Test.YtcfahmffboipiabLevM
import Derived.Test.YtcfahmffboipiabLevels
import Derived.Test.YtcfahmffboipiabLevOf
import Derived.Test.YtcfahmffboipiabTakes
import Derived.Test.YtcfahmffboipiabBill
import Derived.Test.YtcfahmffboipiabDrawTakes
namespace Go.Proofs.Ytcfahmffboipiab
open Go.RowKit Go.WideShapes

theorem sumTo_ne {f : Nat → Int} : ∀ {n : Nat}, sumTo f n ≠ 0 → ∃ k, k < n ∧ f k ≠ 0 := by
  intro n h
  apply Classical.byContradiction
  intro hn
  exact h (sumTo_zero (fun k hk => Classical.byContradiction (fun h' => hn ⟨k, hk, h'⟩)))
theorem useM_some {rows : List (List Int)} {i k : Nat} (h : useM rows i k ≠ 0) : ∃ r x, rows[i]? = some r ∧ r[k]? = some x ∧ x = useM rows i k := by
  cases hr : rows[i]? with
  | none =>
    refine absurd ?_ h
    unfold useM
    rw [show rows.getD i [] = [] by rw [List.getD_eq_getElem?_getD, hr]; rfl]; rfl
  | some r =>
    cases hx : r[k]? with
    | none =>
      refine absurd ?_ h
      unfold useM
      rw [show rows.getD i [] = r by rw [List.getD_eq_getElem?_getD, hr]; rfl, List.getD_eq_getElem?_getD, hx]; rfl
    | some x => exact ⟨r, x, rfl, hx, (useM_get hr hx).symm⟩
theorem lev_takes {rows : List (List Int)} (hv : validBillM rows = true) {j : Nat} : ∀ (n i : Nat), i < n → i < rows.length → i ≠ j → takeM rows i j ≠ 0 → lev rows j < lev rows i := by
  intro n
  induction n with
  | zero => intro i h; omega
  | succ n ih =>
    intro i hi hl hij ht
    rw [takeM_first hv hl hij] at ht
    obtain ⟨k, hk, hne⟩ := sumTo_ne ht
    have hu : useM rows i k ≠ 0 := fun e => hne (by rw [e, Int.zero_mul])
    have hk' : takeM rows k j ≠ 0 := fun e => hne (by rw [e, Int.mul_zero])
    obtain ⟨r, x, hr, hx, e⟩ := useM_some hu
    have hb := useM_bd hv i k
    have h1 := lev_up hv hr hx (by omega)
    by_cases hkj : k = j
    · rw [← hkj]; exact h1
    · have := ih k (by omega) (by omega) hkj hk'; omega

set_option maxRecDepth 100000 in
set_option maxHeartbeats 2000000 in
theorem fnHigherPartsAreMadeOfLower_any (a : Option Addr) (len cap : Nat) (w : World) (hb : BytesAt w w.heap.size a len) (hl : len ≤ cap) (hs : len ≤ 9223372036854775807) :
    Calls Try.prog 6 #[.slice a len cap] w (LawPost w) := by
  by_cases h20 : len ≤ 1048576
  · go_enter Try.func6, Try.ntmps6
    have hB0 := Below.refl w.heap.size w
    go_wp2_with fail
    refine (drawTakesOf_any a len cap w hb hl hs).mono ?_
    rintro e w1 ⟨a1, l1, c1, rows, i, j, rfl, n_b, hlc, hb1⟩
    have hB1 : Below w.heap.size w w1 := hB0.trans (hb1.mono hB0.size)
    clear hB0
    have xb_1 := n_b
    clear n_b
    clear hb
    go_wp2_with fail
    refine (takes_impl a1 l1 c1 rows i j w1 xb_1).mono ?_
    rintro e w2 ⟨rfl, hb2⟩
    have xb_2 := rows_lift xb_1 hb2
    have hB2 : Below w.heap.size w w2 := hB1.trans (hb2.mono hB1.size)
    clear hB1 xb_1
    go_wp2_with fail
    refine (takes_spec _ a1 l1 c1 rows i j w2 xb_2).mono ?_
    rintro e w3 ⟨rfl, d3⟩
    have xb_3 := rows_lift xb_2 (d3.below _)
    have hB3 : Below w.heap.size w w3 := hB2.trans (d3.below w.heap.size)
    clear hB2 xb_2
    clear d3
    have heq : (takesM rows i j != takesM rows i j) = false := by simp
    go_wp2_with fail
    refine (takes_impl a1 l1 c1 rows i j w3 xb_3).mono ?_
    rintro e w4 ⟨rfl, hb3⟩
    have xb_4 := rows_lift xb_3 hb3
    have hB4 : Below w.heap.size w w4 := hB3.trans (hb3.mono hB3.size)
    clear hB3 xb_3
    clear hb2 hb3
    cases hgood : (validBillM rows && isPartM rows.length i && isPartM rows.length j)
    · rw [takesM_bad hgood] at heq ⊢
      go_wp2_with fail
      go_ret
      exact ⟨rfl, hB4⟩
    · simp only [Bool.and_eq_true] at hgood
      obtain ⟨⟨hv, hi⟩, hj⟩ := hgood
      obtain ⟨i, rfl, hil⟩ := isPart_nat hi
      obtain ⟨j, rfl, hjl⟩ := isPart_nat hj
      rw [takesM_good hv hil hjl] at heq ⊢
      have hlt := lev_takes hv (j := j) (i + 1) i (by omega) hil
      have hnn := takeM_nonneg hv i j
      have hlen := xb_4.lenEq
      have hl6 := validBill_len6 hv
      change i ≠ j → countM rows j 6 i ≠ 0 → lev rows j < lev rows i at hlt
      have HLT := Lib.hid hlt
      have hnn' : 0 ≤ countM rows j 6 i := hnn
      clear hlt hnn hi hj
      generalize countM rows j 6 i = n at heq HLT hnn' ⊢
      have HV := Lib.hid hv
      clear hv
      go_wp2_with fail
      refine (levelsOf_impl a1 l1 c1 rows w4 xb_4).mono ?_
      rintro e w5 ⟨a3, l3, c3, rfl, n_g, _, hb4⟩
      have xb_5 := rows_lift xb_4 hb4
      have hB5 : Below w.heap.size w w5 := hB4.trans (hb4.mono hB4.size)
      clear hB4 xb_4
      have xg_5 := ints_in n_g (Nat.le_refl _)
      clear n_g
      have hres : levResM rows = levelsM rows := by unfold levResM; rw [HV.out]; rfl
      rw [hres] at xg_5
      obtain ⟨b1, o1, x1, e1, hx1, hc1⟩ := xg_5.get (k := i) (by have := xg_5.lenEq; simp [levelsM] at this; omega)
      obtain ⟨b2, o2, x2, e2, hx2, hc2⟩ := xg_5.get (k := j) (by have := xg_5.lenEq; simp [levelsM] at this; omega)
      have hl3 : l3 = rows.length := by have := xg_5.lenEq; simp [levelsM] at this; omega
      obtain ⟨rfl, _⟩ := levelsM_get hx1
      obtain ⟨rfl, _⟩ := levelsM_get hx2
      subst e1
      simp only [Option.some.injEq, Addr.mk.injEq] at e2
      obtain ⟨rfl, rfl, _⟩ := e2
      have HL := Lib.hid (lev_bd rows i)
      have hil3 : i < l3 := by omega
      have hjl3 : j < l3 := by omega
      have hil3' : (i : Int) < (l3 : Int) := by omega
      have hjl3' : (j : Int) < (l3 : Int) := by omega
      clear hx1 hx2 hres hl3 hb4 hlen
      by_cases hn0 : n = 0
      · subst hn0
        go_wp2_with fail
        go_quiet (fail)
        go_wp2
        go_ret
        exact ⟨rfl, hB5.trans (Drew.below (⟨_, rfl⟩ : Drew w5 (w5.drewN _)) _)⟩
      · have hn0e : (n == 0) = false := by simpa using hn0
        by_cases hij : i = j
        · subst hij
          have hije : ((i : Int) == (i : Int)) = true := by simp
          go_wp2_with fail
          go_quiet (fail)
          go_wp2
          go_ret
          exact ⟨rfl, hB5.trans (Drew.below (⟨_, rfl⟩ : Drew w5 (w5.drewN _)) _)⟩
        · have hije : ((i : Int) == (j : Int)) = false := by simp; omega
          have hlv := HLT.out hij hn0
          generalize lev rows i = L1 at hlv hc1
          generalize lev rows j = L2 at hlv hc2
          go_wp2_with fail
          go_quiet (fail)
          go_wp2
          go_ret
          exact ⟨rfl, hB5.trans (Drew.below (⟨_, rfl⟩ : Drew w5 (w5.drewN _)) _)⟩
  · go_enter Try.func6, Try.ntmps6
    go_wp2
    go_ret
    exact ⟨rfl, Below.refl _ _⟩
end Go.Proofs.Ytcfahmffboipiab
