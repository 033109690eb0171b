/- The law FnLeastShop returns true at every code, and the code reads behind the call as it read before. No condition. -/
import Derived.Test.YthmlgicjedhgfaaRows
import Derived.WalkKit
import Derived.LoopTactic
import Derived.Outline
import Derived.WalkSpells
import Derived.WalkLawsBesides
import Derived.ProofKit
import Derived.Deep.QuietTactic
import Derived.BigQuiet
import Derived.IntWalk
import Derived.Test.YthmlgicjedhgfaaM0
import Derived.Test.YthmlgicjedhgfaaM1
import Derived.Test.YthmlgicjedhgfaaM2
import Derived.Test.YthmlgicjedhgfaaM10
import Derived.Test.YthmlgicjedhgfaaM9
import Derived.Test.YthmlgicjedhgfaaM11
namespace Go.Proofs.Ythmlgicjedhgfaa
open Go.RowKit Go.WideShapes

set_option maxRecDepth 100000 in
set_option maxHeartbeats 2000000 in
theorem fnLeastShop_any (a : Option Addr) (len cap : Nat) (w : World) (hb : BytesAt w w.heap.size a len) (hl : len ≤ cap) (hs : len ≤ 9223372036854775807) :
    Calls Try.prog 5 #[.slice a len cap] w (LawPost w) := by
  by_cases h20 : len ≤ 1048576
  · go_enter Try.func5, Try.ntmps5
    have hB0 := Below.refl w.heap.size w
    go_wp2_with fail
    refine (drawLeastShop_any a len cap w hb hl hs).mono ?_
    rintro e w1 ⟨a1, l1, c1, shop, rfl, n_s, hj3, hc1, hl1, hb1⟩
    have hB1 : Below w.heap.size w w1 := hB0.trans (hb1.mono hB0.size)
    clear hB0
    have xs_1 := n_s
    clear n_s
    clear hb hb1
    go_wp2_with fail
    refine (leastShop_impl a1 l1 c1 shop w1 xs_1 hc1).mono ?_
    rintro e w2 ⟨rfl, hb2⟩
    have xs_2 := shop_lift xs_1 hb2
    have hB2 : Below w.heap.size w w2 := hB1.trans (hb2.mono hB1.size)
    clear hB1 xs_1
    clear hb2
    go_wp2_with fail
    refine (leastShop_spec a1 l1 c1 shop w2 xs_2).mono ?_
    rintro e w3 ⟨rfl, hb3⟩
    have xs_3 := shop_lift xs_2 hb3
    have hB3 : Below w.heap.size w w3 := hB2.trans (hb3.mono hB2.size)
    clear hB2 xs_2
    clear hb3
    cases hv : shopM shop
    · rw [leastRes7_no hv]
      go_wp2_with fail
      refine (leastShop_spec a1 l1 c1 shop w3 xs_3).mono ?_
      rintro e w4 ⟨rfl, hb4⟩
      have xs_4 := shop_lift xs_3 hb4
      have hB4 : Below w.heap.size w w4 := hB3.trans (hb4.mono hB3.size)
      clear hB3 xs_3
      clear hb4
      rw [leastRes7_no hv]
      go_wp2_with fail
      go_ret
      exact ⟨rfl, hB4⟩
    · have HV := Lib.hid hv
      have HT := Lib.hid (fun n => leastRes7_yes (shop_take hv n))
      have HLN := Lib.hid (xs_3.lenEq)
      have hnn := leastM_nn shop
      have HO := Lib.hid (fun h0 => least_one (fun j k => (stime_bd hv j k).1) (shop := shop) h0)
      have HTK := Lib.hid (fun (n : Nat) hn => least_take (fun j k => (stime_bd hv j k).1) (shop := shop) (n := n) hn)
      rw [leastRes7_yes hv]
      obtain ⟨sv, hsv⟩ : ∃ sv, leastM shop = sv := ⟨_, rfl⟩
      rw [hsv] at hnn HTK ⊢
      have hn0 : ¬ sv < 0 := by omega
      by_cases h0 : l1 = 0
      · subst h0
        have hsh : shop = [] := List.length_eq_zero_iff.1 HLN.out
        subst hsh
        have hs0 : sv = 0 := hsv.symm
        subst hs0
        clear hsv hv
        go_wp2_with fail
        go_ret
        exact ⟨rfl, hB3⟩
      · clear hsv hv
        obtain ⟨n, rfl⟩ : ∃ n, l1 = n + 1 := ⟨l1 - 1, by omega⟩
        have h0e : (((n + 1 : Nat) : Int) == 0) = false := by simp; omega
        obtain ⟨b, off, job, aj, lj, cj, rfl, hjob, dj, hlj, hrj⟩ := xs_3.get (k := 0) (by omega)
        rw [Nat.add_zero] at dj
        have hlj2 : lj = slen shop 0 := by rw [slen_job7 hjob]; exact hrj.lenEq.symm
        subst hlj2
        clear hrj hjob
        have hwl : IntKind.i64.wrap (((n + 1 : Nat) : Int) - 1) = (n : Int) := by rw [show (((n + 1 : Nat) : Int) - 1) = (n : Int) by omega]; exact IntWalk.i64_in _ (by omega)
        have hn1 : ¬ c1 = 0 := by omega
        have hle1 : n ≤ c1 := by omega
        have hle11 : 1 ≤ c1 := by omega
        have hlt1 : n ≤ n + 1 := by omega
        have hsl3 := slen_le HV.out 0
        have hbm := xs_3.mem (by omega)
        go_wp2_with fail
        refine (leastShop_impl (some ⟨b, off, none⟩) 1 c1 (shop.take 1) w3 (ShopAt.take xs_3 1 (by omega)) hle11).mono ?_
        rintro e w4 ⟨rfl, hb5⟩
        have xs_4 := shop_lift xs_3 hb5
        have hB4 : Below w.heap.size w w4 := hB3.trans (hb5.mono hB3.size)
        clear hB3 xs_3
        rw [HT.out 1, HO.out (by have := HLN.out; omega)]
        have dj2 := (hb5.cell (p := ⟨b, off, none⟩) hbm).trans dj
        clear hb5 dj
        have HX := Lib.hid xs_4
        have hdj := HX.out.mem (by omega)
        clear xs_4
        go_wp2_with fail
        go_loop [6, 7] (fun nv kv => ∃ k : Nat, k ≤ slen shop 0 ∧ kv = .int .i64 k ∧ nv = .int .i64 (stepsTo (stime shop) 0 k)) (fun _ kv => slen shop 0 - (intOf kv).toNat)
        case atStart => exact ⟨0, Nat.zero_le _, rfl, rfl⟩
        case round =>
          obtain ⟨k, hk, rfl, rfl⟩ := hrel
          have hst0 := stepsTo_nn (fun j k => (stime_bd HV.out j k).1) 0 k
          have hst1 := stepsTo_le (fun j k => stime_bd HV.out j k) 0 k
          by_cases hlt : k < slen shop 0
          · obtain ⟨b', off', b1, off1, d1, b2, off2, d2, e, q1, _, q2, _, q3, q4⟩ := step_at HX.out HV.out (j := 0) (by omega) hlt
            cases e
            rw [Nat.add_zero] at q1
            have htb := stime_bd HV.out 0 k
            have hbd : 0 ≤ stepsTo (stime shop) 0 k + stime shop 0 k ∧ stepsTo (stime shop) 0 k + stime shop 0 k ≤ 100 := by omega
            have HSU := Lib.hid (show stepsTo (stime shop) 0 (k + 1) = stepsTo (stime shop) 0 k + stime shop 0 k from rfl)
            clear dj2 q3
            generalize stepsTo (stime shop) 0 k = st at *
            generalize stime shop 0 k = tm at *
            go_wp2_with fail
            go_round
            case rel => exact ⟨k + 1, by omega, by go_num, by rw [HSU.out]⟩
            case measure => simp [intOf]; omega
          · obtain rfl : k = slen shop 0 := by omega
            generalize stepsTo (stime shop) 0 (slen shop 0) = st at *
            have hse : (st == st) = true := by simp
            go_wp2_with fail
            refine (leastShop_impl (some ⟨b, off, none⟩) n c1 (shop.take n) w4 (ShopAt.take HX.out n (by omega)) hle1).mono ?_
            rintro e w9 ⟨rfl, hb9⟩
            rw [HT.out n]
            have hle9 := HTK.out n (by have := HLN.out; omega)
            have hB9 : Below w.heap.size w w9 := hB4.trans (hb9.mono hB4.size)
            clear hb9
            generalize leastM (shop.take n) = lv at *
            go_wp2_with fail
            go_ret
            exact ⟨rfl, hB9⟩
  · go_enter Try.func5, Try.ntmps5
    go_wp2
    go_ret
    exact ⟨rfl, Below.refl _ _⟩
end Go.Proofs.Ythmlgicjedhgfaa
