/- The law FnChooseOf returns true at every code, and the code reads behind the call as it read before. No condition. -/
import Derived.Test.YtkebdelfklmigaaRows
import Derived.WalkKit
import Derived.LoopTactic
import Derived.Outline
import Derived.WalkSpells
import Derived.WalkLawsBesides
import Derived.ProofKit
import Derived.Deep.QuietTactic
import Derived.BigQuiet
import Derived.IntWalk
import Derived.Test.YtkebdelfklmigaaM0
import Derived.Test.YtkebdelfklmigaaM1
import Derived.Test.YtkebdelfklmigaaM2
import Derived.Test.YtkebdelfklmigaaM3
import Derived.Test.YtkebdelfklmigaaM5
import Derived.Test.YtkebdelfklmigaaM6
import Derived.Test.YtkebdelfklmigaaM7
import Derived.Test.YtkebdelfklmigaaM10
import Derived.Test.YtkebdelfklmigaaM11
namespace Go.Proofs.Ytkebdelfklmigaa
open Go.RowKit Go.WideShapes

set_option maxRecDepth 100000 in
set_option maxHeartbeats 2000000 in
theorem fnChooseOf_any (a : Option Addr) (len cap : Nat) (w : World) (hb : BytesAt w w.heap.size a len) (hl : len ≤ cap) (hs : len ≤ 9223372036854775807) :
    Calls Try.prog 3 #[.slice a len cap] w (LawPost w) := by
  by_cases h20 : len ≤ 1048576
  · go_enter Try.func3, Try.ntmps3
    have hB0 := Below.refl w.heap.size w
    go_wp2_with fail
    refine (drawChooseOf_any a len cap w hb hl hs).mono ?_
    rintro e w1 ⟨x0, x1, rfl, r0a, r0b, r1a, r1b, hb1⟩
    have hB1 : Below w.heap.size w w1 := hB0.trans (hb1.mono hB0.size)
    clear hB0
    clear hb hb1
    go_wp2_with fail
    refine (chooseOf_impl x0 x1 w1).mono ?_
    rintro e w2 ⟨rfl, hb2⟩
    have hB2 : Below w.heap.size w w2 := hB1.trans (hb2.mono hB1.size)
    clear hB1
    clear hb2
    obtain ⟨c, hc⟩ : ∃ c, chooseM x0 x1 = c := ⟨_, rfl⟩
    rw [hc]
    have HC := Lib.hid hc
    have hne : (c != c) = false := by simp
    have heq : (c == c) = true := by simp
    clear hc
    go_wp2_with fail
    refine (chooseOf_spec x0 x1 w2).mono ?_
    rintro e w' ⟨rfl, he⟩
    obtain rfl := he.symm
    rw [HC.out]
    by_cases hc0 : c < 0
    · go_wp2_with fail
      refine (chooseOf_spec x0 x1 w2).mono ?_
      rintro e w' ⟨rfl, he⟩
      obtain rfl := he.symm
      rw [HC.out]
      go_wp2_with fail
      go_ret
      exact ⟨rfl, hB2⟩
    · have hin : inB 0 12 x0 = true := by
        cases h : inB 0 12 x0
        · have := HC.out; unfold chooseM at this; rw [h] at this; simp at this; omega
        · rfl
      obtain ⟨g1, g2⟩ := inB_of hin
      obtain ⟨n, rfl⟩ : ∃ n : Nat, x0 = (n : Int) := ⟨x0.toNat, by omega⟩
      have HN : Hid (∀ q : Nat, q ≤ 12 → ∀ k, chooseM (q : Int) k = ((chI q k : Nat) : Int)) := Lib.hid (fun q hq k => by unfold chooseM; rw [inB_true (by omega) (by omega), if_pos rfl, Int.toNat_natCast])
      have HCC : Hid (((chI n x1 : Nat) : Int) = c) := Lib.hid (by rw [← HC.out]; exact (HN.out n (by omega) x1).symm)
      clear hin g1
      by_cases hn0 : n = 0
      · subst hn0
        have hc1 := HCC.out
        rw [chI_none] at hc1
        by_cases hk : x1 = 0
        · subst hk
          have hc2 : c = 1 := by rw [← hc1]; rfl
          subst hc2
          clear hc1
          go_wp2_with fail
          go_ret
          exact ⟨rfl, hB2⟩
        · have hc2 : c = 0 := by rw [← hc1, if_neg hk]; rfl
          subst hc2
          have hk0 : (x1 == 0) = false := by simpa using hk
          clear hc1
          go_wp2_with fail
          go_ret
          exact ⟨rfl, hB2⟩
      · obtain ⟨q, rfl⟩ : ∃ q, n = q + 1 := ⟨n - 1, by omega⟩
        have hn1 : (((q + 1 : Nat) : Int) == 0) = false := by simp; omega
        have hn2 : (0 : Int) < ((q + 1 : Nat) : Int) := by omega
        have hq1 : ((q + 1 : Nat) : Int) - 1 = (q : Int) := by omega
        have HPA := Lib.hid (chI_pas (m := q) (k := x1) (by omega))
        have HSY := Lib.hid (chI_sym (n := q + 1) (k := x1) (by omega))
        have b1 := chI_bd (n := q) (k := x1 - 1) (by omega)
        have b2 := chI_bd (n := q) (k := x1) (by omega)
        go_wp2_with fail
        refine (chooseOf_impl (q : Int) (x1 - 1) w2).mono ?_
        rintro e w3 ⟨rfl, hb4⟩
        have hB3 : Below w.heap.size w w3 := hB2.trans (hb4.mono hB2.size)
        clear hB2
        clear hb4
        rw [HN.out q (by omega)]
        go_wp2_with fail
        refine (chooseOf_impl (q : Int) x1 w3).mono ?_
        rintro e w4 ⟨rfl, hb4⟩
        have hB4 : Below w.heap.size w w4 := hB3.trans (hb4.mono hB3.size)
        clear hB3
        clear hb4
        rw [HN.out q (by omega)]
        have hs1 : ((chI q (x1 - 1) : Nat) : Int) + ((chI q x1 : Nat) : Int) = c := by rw [← HCC.out, HPA.out]; push_cast; rfl
        obtain ⟨p1, hp1⟩ : ∃ p1, chI q (x1 - 1) = p1 := ⟨_, rfl⟩
        obtain ⟨p2, hp2⟩ : ∃ p2, chI q x1 = p2 := ⟨_, rfl⟩
        rw [hp1] at b1 hs1
        rw [hp2] at b2 hs1
        rw [hp1, hp2]
        clear hp1 hp2
        go_wp2_with fail
        refine (chooseOf_impl ((q : Int) + 1) ((q : Int) + 1 - x1) w4).mono ?_
        rintro e w5 ⟨rfl, hb4⟩
        have hB5 : Below w.heap.size w w5 := hB4.trans (hb4.mono hB4.size)
        clear hB4
        clear hb4
        rw [show chooseM ((q : Int) + 1) ((q : Int) + 1 - x1) = c by rw [show (q : Int) + 1 = ((q + 1 : Nat) : Int) by omega, HN.out (q + 1) (by omega), HSY.out]; exact HCC.out]
        go_wp2_with fail
        go_ret
        exact ⟨rfl, hB5⟩
  · go_enter Try.func3, Try.ntmps3
    go_wp2
    go_ret
    exact ⟨rfl, Below.refl _ _⟩
end Go.Proofs.Ytkebdelfklmigaa
