/- The law FnValidShop returns true at every code, and the code reads behind the call as it read before. No condition. -/
import Derived.Test.YthmlgicjedhgfaaRows
import Derived.WalkKit
import Derived.LoopTactic
import Derived.Outline
import Derived.WalkSpells
import Derived.WalkLawsBesides
import Derived.ProofKit
import Derived.Deep.QuietTactic
import Derived.BigQuiet
import Derived.IntWalk
import Derived.Test.YthmlgicjedhgfaaM0
import Derived.Test.YthmlgicjedhgfaaM1
import Derived.Test.YthmlgicjedhgfaaM2
import Derived.Test.YthmlgicjedhgfaaM10
import Derived.Test.YthmlgicjedhgfaaM9
import Derived.Test.YthmlgicjedhgfaaM11
namespace Go.Proofs.Ythmlgicjedhgfaa
open Go.RowKit Go.WideShapes

set_option maxRecDepth 100000 in
set_option maxHeartbeats 2000000 in
theorem fnValidShop_any (a : Option Addr) (len cap : Nat) (w : World) (hb : BytesAt w w.heap.size a len) (hl : len ≤ cap) (hs : len ≤ 9223372036854775807) :
    Calls Try.prog 3 #[.slice a len cap] w (LawPost w) := by
  by_cases h20 : len ≤ 1048576
  · go_enter Try.func3, Try.ntmps3
    have hB0 := Below.refl w.heap.size w
    go_wp2_with fail
    refine (drawValidShop_any a len cap w hb hl hs).mono ?_
    rintro e w1 ⟨a1, l1, c1, shop, rfl, n_s, hj3, hc1, hl1, hb1⟩
    have hB1 : Below w.heap.size w w1 := hB0.trans (hb1.mono hB0.size)
    clear hB0
    have xs_1 := n_s
    clear n_s
    clear hb hb1
    go_wp2_with fail
    refine (validShop_implB a1 l1 c1 shop w1 xs_1 hc1).mono ?_
    rintro e w2 ⟨rfl, hb2⟩
    have xs_2 := shop_lift xs_1 hb2
    have hB2 : Below w.heap.size w w2 := hB1.trans (hb2.mono hB1.size)
    clear hB1 xs_1
    clear hb2
    go_wp2_with fail
    refine (validShop_specB a1 l1 c1 shop w2 xs_2).mono ?_
    rintro e w3 ⟨rfl, hb3⟩
    have xs_3 := shop_lift xs_2 hb3
    have hB3 : Below w.heap.size w w3 := hB2.trans (hb3.mono hB2.size)
    clear hB2 xs_2
    clear hb3
    cases hv : shopM shop
    · go_wp2_with fail
      refine (validShop_specB a1 l1 c1 shop w3 xs_3).mono ?_
      rintro e w4 ⟨rfl, hb4⟩
      have xs_4 := shop_lift xs_3 hb4
      have hB4 : Below w.heap.size w w4 := hB3.trans (hb4.mono hB3.size)
      clear hB3 xs_3
      clear hb4
      rw [hv]
      go_wp2_with fail
      go_ret
      exact ⟨rfl, hB4⟩
    · have HT := Lib.hid (shop_take hv)
      have HLN := Lib.hid (xs_3.lenEq)
      by_cases h0 : l1 = 0
      · subst h0
        go_wp2_with fail
        go_ret
        exact ⟨rfl, hB3⟩
      · obtain ⟨n, rfl⟩ : ∃ n, l1 = n + 1 := ⟨l1 - 1, by omega⟩
        have h0e : (((n + 1 : Nat) : Int) == 0) = false := by simp; omega
        obtain ⟨b, off, rfl, _, _⟩ := xs_3.cells (by omega)
        have hwl : IntKind.i64.wrap (((n + 1 : Nat) : Int) - 1) = (n : Int) := by rw [show (((n + 1 : Nat) : Int) - 1) = (n : Int) by omega]; exact IntWalk.i64_in _ (by omega)
        have hn1 : ¬ c1 = 0 := by omega
        have hle1 : n ≤ c1 := by omega
        have hlt1 : n ≤ n + 1 := by omega
        go_wp2_with fail
        refine (validShop_implB (some ⟨b, off, none⟩) n c1 (shop.take n) w3 (ShopAt.take xs_3 n (by omega)) hle1).mono ?_
        rintro e w4 ⟨rfl, hb5⟩
        have xs_4 := shop_lift xs_3 hb5
        have hB4 : Below w.heap.size w w4 := hB3.trans (hb5.mono hB3.size)
        clear hB3 xs_3
        clear hb5
        rw [HT.out n]
        go_wp2_with fail
        go_ret
        exact ⟨rfl, hB4⟩
  · go_enter Try.func3, Try.ntmps3
    go_wp2
    go_ret
    exact ⟨rfl, Below.refl _ _⟩
end Go.Proofs.Ythmlgicjedhgfaa
