/- The law FnNetOf returns true at every code, and the code reads behind the call as it read before. No condition. -/
import Derived.Test.YtieknoijkmkdpaaRows
import Derived.WalkKit
import Derived.LoopTactic
import Derived.Outline
import Derived.WalkSpells
import Derived.WalkLawsBesides
import Derived.ProofKit
import Derived.Deep.QuietTactic
import Derived.BigQuiet
import Derived.IntWalk
import Derived.Test.YtieknoijkmkdpaaLib
import Derived.Test.YtieknoijkmkdpaaRd
import Derived.Test.YtieknoijkmkdpaaGen
import Derived.Test.YtieknoijkmkdpaaPick
import Derived.Test.YtieknoijkmkdpaaNewReader
import Derived.Test.YtieknoijkmkdpaaLaws
import Derived.Test.YtieknoijkmkdpaaNetM
import Derived.Test.YtieknoijkmkdpaaVal2
import Derived.Test.YtieknoijkmkdpaaDays
import Derived.Test.YtieknoijkmkdpaaDrawDN
import Derived.Test.YtieknoijkmkdpaaNet
import Derived.Test.YtieknoijkmkdpaaStocks
import Derived.Test.YtieknoijkmkdpaaEx
namespace Go.Proofs.Ytieknoijkmkdpaa
open Go.RowKit Go.WideShapes

set_option maxHeartbeats 1000000 in
/-- no number is greater -/
theorem atMost_yes (S T : Nat → Prop) (a a2 : Option Addr) (len cap cap2 : Nat) (xs ys : List Int) (w : World) (h : IntsAt w S a len xs) (g : IntsAt w T a2 len ys) (hle : ∀ k, k < len → xs.getD k 0 ≤ ys.getD k 0) :
    Calls Try.prog 17 #[.slice a len cap, .slice a2 len cap2] w (EqPost w true) := by
  have hs := h.small
  have HLE := Lib.hid hle
  clear hle
  go_enter Try.func17, Try.ntmps17
  go_wp2
  go_loopw [5] (fun i wr => ∃ k : Nat, k ≤ len ∧ i = .int .i64 k ∧ Drew w wr) (fun i _ => len - (intOf i).toNat)
  case atStart => exact ⟨0, Nat.zero_le _, rfl, Drew.refl w⟩
  case round =>
    obtain ⟨k, hk, rfl, hd⟩ := hrel
    by_cases hlt : k < len
    · obtain ⟨b, off, x, rfl, hx, hc⟩ := (Drew.ints h hd).get hlt
      obtain ⟨b2, off2, y, rfl, hy, hc2⟩ := (Drew.ints g hd).get hlt
      have hxy := HLE.out k hlt
      rw [getD_of hx, getD_of hy] at hxy
      have hdec : decide (y < x) = false := by simp; omega
      clear hx hy
      go_wp2
      go_quiet (fail)
      go_wp2
      go_roundw
      case rel => exact ⟨k + 1, by omega, by go_num, hd.drew _⟩
      case measure => simp [intOf]; omega
    · go_wp2
      go_ret
      exact ⟨rfl, hd⟩

theorem stock_net {xs : List Int} {s : Int} (hv : validDaysM xs = true) (h0 : 0 ≤ s) (h1 : s ≤ 20) : stocksFine s (netM xs s) xs = true ∧ ∀ k, k ≤ xs.length → stockTo (netM xs s) xs s k = max (s - sumN xs k) 0 := by
  have hnn := fun k => (validDays_at hv k).1
  have key : ∀ k, k ≤ xs.length → stockTo (netM xs s) xs s k = max (s - sumN xs k) 0 := by
    intro k hk
    rw [stockTo_closed, sumN_net k hk, ← leftTo_closed h0 hnn]; omega
  refine ⟨?_, key⟩
  have hnv := netM_valid hv h0
  have hmv : validMadeM (netM xs s) = true := validMade_mk (by rw [netM_length]; exact validDays_len hv) (fun k _ => by have := validDays_at hnv k; omega)
  have hin : stocksIn s (netM xs s) xs = true := by rw [stocksIn, inB_true h0 h1, hmv, hv, netM_length]; simp
  have hok : stocksOk (netM xs s) xs s xs.length = true := (stocksOk_iff _ _ _ _).2 (fun q hq => by rw [key (q + 1) (by omega)]; omega)
  rw [stocksFine, hin, hok]; rfl

set_option maxRecDepth 100000 in
set_option maxHeartbeats 20000000 in
theorem fnNetOf_any (a : Option Addr) (len cap : Nat) (w : World) (hb : BytesAt w w.heap.size a len) (hl : len ≤ cap) (hs : len ≤ 9223372036854775807) :
    Calls Try.prog 5 #[.slice a len cap] w (LawPost w) := by
  by_cases h20 : len ≤ 1048576
  · go_enter Try.func5, Try.ntmps5
    go_wp2_with fail
    refine (drawNetOf_any a len cap w hb hl hs).mono ?_
    rintro e w1 ⟨a1, l1, c1, xs, s, rfl, hx1, hlc, hl9, hdays, hsl, hsu, hB1⟩
    clear hb
    go_wp2_with fail
    refine (netOf_impl a1 l1 c1 xs s w1 hx1).mono ?_
    rintro e w2 ⟨a2, l2, c2, rfl, g2, _, hb2⟩
    have hx2 := ints_lift hx1 hb2
    have hB2 : Below w.heap.size w w2 := hB1.trans (hb2.mono hB1.size)
    go_wp2_with fail
    refine (netOf_spec a1 l1 c1 xs s w2 hx2).mono ?_
    rintro e w3 ⟨a3, l3, c3, rfl, m3, _, hb3⟩
    have hx3 := ints_lift hx2 hb3
    have g3 := ints_lift (g2.to (S' := (· < w2.heap.size)) (w' := w2) (fun b hb => ⟨hb.2, rfl⟩)) hb3
    have hB3 : Below w.heap.size w w3 := hB2.trans (hb3.mono hB2.size)
    have heq : eqB (netRes xs s) (netRes xs s) = true := decide_eq_true rfl
    go_wp2_with fail
    refine (equalInts_any _ _ _ _ _ _ _ _ _ _ _ g3 m3).mono ?_
    rintro e w4 ⟨rfl, d4⟩
    have hx4 := ints_lift hx3 (d4.below _)
    have g4 := ints_lift g3 (d4.below _)
    have hB4 := hB3.trans (d4.below w.heap.size)
    by_cases hgo : (validDaysM xs && inB 0 20 s) = true ∧ 0 < l1
    · obtain ⟨hgo, hl1⟩ := hgo
      have hres := netRes_yes hgo
      simp only [Bool.and_eq_true] at hgo
      obtain ⟨hv, hsb⟩ := hgo
      obtain ⟨hs0, hs1⟩ := inB_of hsb
      obtain ⟨hfine, hst⟩ := stock_net hv hs0 hs1
      have hlen := hx4.lenEq
      rw [hres] at g4
      obtain rfl : l2 = l1 := by rw [← g4.lenEq, netM_length, hlen]
      have hl0 : ((l2 : Int) == 0) = false := by simp; omega
      have hnn := fun k => (validDays_at hv k).1
      have ht := totalM_eq xs
      have hto := totalM_eq (netM xs s)
      rw [netM_length, sumN_net xs.length (Nat.le_refl _), leftTo_closed hs0 hnn, ← ht] at hto
      have htb := sumN_bd (validDays_at hv) xs.length
      rw [← ht, hlen] at htb
      have hnv := netM_valid hv hs0
      have hle : ∀ k, k < l2 → (netM xs s).getD k 0 ≤ xs.getD k 0 := fun k hk => by
        rw [netM, tab_getD _ (by omega)]; exact (netAt_bd hs0 hnn k).2
      have hlast : stockTo (netM xs s) xs s l2 = max (s - totalM xs) 0 := by rw [hst l2 (by omega), ht, hlen]
      have hsM := stocks_yes hfine
      have HLE := Lib.hid hle
      have HLEN := Lib.hid hlen
      have HV := Lib.hid hv
      have HNV := Lib.hid hnv
      have HLAST := Lib.hid hlast
      have HSM := Lib.hid hsM
      have HFINE := Lib.hid (show stocksMB s (netM xs s) xs = true from hfine)
      clear hres hst hfine hnn hle hlen hlast hsM ht hv hsb hnv
      generalize hTT : totalM xs = T at hto htb HLAST
      generalize hTO : totalM (netM xs s) = To at hto
      have HTT := Lib.hid hTT
      have HTO := Lib.hid hTO
      clear hTT hTO
      go_wp2_with fail
      refine (stocks_impl s a2 l2 c2 (netM xs s) a1 l2 c1 xs w4 g4 hx4).mono ?_
      rintro e w5 ⟨a5, l5, c5, rfl, g5, _, hb5⟩
      rw [HFINE.out]
      rw [HSM.out] at g5
      obtain rfl : l5 = l2 := by rw [← g5.lenEq, tab_length]; exact HLEN.out
      have hx5 := ints_lift hx4 hb5
      have n5 := ints_lift g4 hb5
      have hB5 : Below w.heap.size w w5 := hB4.trans (hb5.mono hB4.size)
      have hbn : ∀ x ∈ netM xs s, -1099511627776 ≤ x ∧ x ≤ 1099511627776 := fun x hx => by
        obtain ⟨k, hk, rfl⟩ := List.mem_iff_getElem.1 hx
        have := allIn_get (validDays_all HNV.out) (List.getElem?_eq_getElem hk); omega
      have hbx : ∀ x ∈ xs, -1099511627776 ≤ x ∧ x ≤ 1099511627776 := fun x hx => by
        obtain ⟨k, hk, rfl⟩ := List.mem_iff_getElem.1 hx
        have := allIn_get (validDays_all HV.out) (List.getElem?_eq_getElem hk); omega
      have HC1 := Lib.hid (show ∀ n, Calls Try.prog 17 #[.slice a2 l5 c2, .slice a1 l5 c1] (w5.drewN n) (fun e w' => e = .returned (.bool true) ∧ ∃ q, w' = (w5.drewN n).drewN q) from fun n =>
        atMost_yes _ _ a2 a1 l5 c2 c1 (netM xs s) xs _ (Drew.ints n5 ⟨n, rfl⟩) (Drew.ints hx5 ⟨n, rfl⟩) HLE.out)
      have HC2 := Lib.hid (show ∀ n, Calls Try.prog 18 #[.slice a2 l5 c2] (w5.drewN n) (fun e w' => e = .returned (.int .i64 To) ∧ ∃ q, w' = (w5.drewN n).drewN q) from fun n => by
        rw [← HTO.out]
        exact (total_any _ a2 l5 c2 (netM xs s) _ (Drew.ints n5 ⟨n, rfl⟩) hbn (by omega)).mono (fun e w' he => ⟨he.1, 0, by rw [← he.2]; rfl⟩))
      have HC3 := Lib.hid (show ∀ n, Calls Try.prog 18 #[.slice a1 l5 c1] (w5.drewN n) (fun e w' => e = .returned (.int .i64 T) ∧ ∃ q, w' = (w5.drewN n).drewN q) from fun n => by
        rw [← HTT.out]
        exact (total_any _ a1 l5 c1 xs _ (Drew.ints hx5 ⟨n, rfl⟩) hbx (by omega)).mono (fun e w' he => ⟨he.1, 0, by rw [← he.2]; rfl⟩))
      clear hbn hbx
      obtain ⟨b6, off6, x6, rfl, hx6, hc6⟩ := g5.get (k := l5 - 1) (by omega)
      obtain ⟨rfl, _⟩ := tab_get hx6
      clear hx6
      rw [show l5 - 1 + 1 = l5 by omega, HLAST.out] at hc6
      have hi1 : ((l5 : Int) - 1) = ((l5 - 1 : Nat) : Int) := by omega
      have hw1 : IntKind.i64.wrap ((l5 : Int) - 1) = ((l5 - 1 : Nat) : Int) := by rw [hi1]; exact IntWalk.i64_in _ (by omega)
      have hw2 : IntKind.i64.wrap (T - s) = T - s := IntWalk.i64_in _ (by omega)
      have hw3 : IntKind.i64.wrap (s - T) = s - T := IntWalk.i64_in _ (by omega)
      have hlt5 : l5 - 1 < l5 := by omega
      have HB5 := Lib.hid hB5
      clear hx1 hx2 hx3 hx4 g2 g3 g4 m3 n5 hx5 g5 hB1 hB2 hB3 hB4 hB5 hb2 hb3 hb5 d4 HLE HV HNV HLAST HSM HFINE HTT HTO HLEN hdays heq hs0 hs1
      by_cases hTs : T ≤ s
      · have hTo : To = 0 := by omega
        have hmx : max (s - T) 0 = s - T := by omega
        rw [hmx] at hc6
        subst hTo
        clear hto hmx
        have hmA : (if T - s < 0 then (0 : Int) else T - s) = 0 := by split <;> omega
        have hmB : (if s - T < 0 then (0 : Int) else s - T) = s - T := by split <;> omega
        go_wp2_with fail
        go_quiet ((first | (go_at_call 17; exact Calls.quiet_of (HC1.out _)) | (go_at_call 18; first | (with_reducible exact Calls.quiet_of (HC2.out _)) | (with_reducible exact Calls.quiet_of (HC3.out _)))))
        go_wp2
        go_ret
        exact ⟨rfl, HB5.out.trans (Drew.below (⟨_, rfl⟩ : Drew w5 (w5.drewN _)) _)⟩
      · have hTo : To = T - s := by omega
        have hmx : max (s - T) 0 = 0 := by omega
        rw [hmx] at hc6
        subst hTo
        clear hto hmx
        have hmA : (if T - s < 0 then (0 : Int) else T - s) = T - s := by split <;> omega
        have hmB : (if s - T < 0 then (0 : Int) else s - T) = 0 := by split <;> omega
        go_wp2_with fail
        go_quiet ((first | (go_at_call 17; exact Calls.quiet_of (HC1.out _)) | (go_at_call 18; first | (with_reducible exact Calls.quiet_of (HC2.out _)) | (with_reducible exact Calls.quiet_of (HC3.out _)))))
        go_wp2
        go_ret
        exact ⟨rfl, HB5.out.trans (Drew.below (⟨_, rfl⟩ : Drew w5 (w5.drewN _)) _)⟩
    · have hnil : l2 = 0 := by
        have hlx := hx4.lenEq
        rw [← g4.lenEq]
        cases hb : (validDaysM xs && inB 0 20 s)
        · rw [netRes_no hb]; rfl
        · have h0 : l1 = 0 := by
            rcases Nat.eq_zero_or_pos l1 with h | h
            · exact h
            · exact absurd ⟨hb, h⟩ hgo
          rw [netRes_yes hb, netM_length, hlx, h0]
      subst hnil
      clear hgo
      go_wp2_with fail
      refine (netOf_spec a1 l1 c1 xs s w4 hx4).mono ?_
      rintro e w5 ⟨a5, l5, c5, rfl, m5, _, hb5⟩
      have g5 := ints_lift g4 hb5
      have hB5 : Below w.heap.size w w5 := hB4.trans (hb5.mono hB4.size)
      go_wp2_with fail
      refine (equalInts_any _ _ _ _ _ _ _ _ _ _ _ g5 m5).mono ?_
      rintro e w6 ⟨rfl, d6⟩
      go_wp2_with fail
      go_ret
      exact ⟨rfl, hB5.trans (d6.below _)⟩
  · go_enter Try.func5, Try.ntmps5
    go_wp2
    go_ret
    exact ⟨rfl, Below.refl _ _⟩
end Go.Proofs.Ytieknoijkmkdpaa
