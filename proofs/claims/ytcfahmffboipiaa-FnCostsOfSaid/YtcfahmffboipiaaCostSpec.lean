import Derived.Test.YtcfahmffboipiaaRows
import Derived.WalkKit
import Derived.LoopTactic
import Derived.Outline
import Derived.WalkSpells
import Derived.WalkLawsBesides
import Derived.ProofKit
import Derived.Lib.Hide
import Derived.RegionTactic
import Derived.BigRegion
import Derived.Deep.QuietTactic
import Derived.BigQuiet
import Derived.IntWalk
import Derived.Test.YtcfahmffboipiaaLib
import Derived.Test.YtcfahmffboipiaaGen
import Derived.Test.YtcfahmffboipiaaCountM
import Derived.Test.YtcfahmffboipiaaTakesM
import Derived.Test.YtcfahmffboipiaaBillM
import Derived.Test.YtcfahmffboipiaaVb
import Derived.Test.YtcfahmffboipiaaVal2
import Derived.Test.YtcfahmffboipiaaApp
import Derived.Test.YtcfahmffboipiaaOwn1
import Derived.Test.YtcfahmffboipiaaEx
namespace Go.Proofs.Ytcfahmffboipiaa
open Go.RowKit Go.WideShapes

def costsM (rows : List (List Int)) (own : List Int) : List Int := tab (costN rows own) rows.length
def costPart (rows : List (List Int)) (own : List Int) (i m : Nat) : Int := own.getD i 0 + sumTo (fun q => useM rows i q * costN rows own q) m
theorem costPart_bd {rows : List (List Int)} (hv : validBillM rows = true) {own : List Int} (ho : ∀ k, 0 ≤ own.getD k 0 ∧ own.getD k 0 ≤ 20) {i m : Nat} (hm : m ≤ 6) : 0 ≤ costPart rows own i m ∧ costPart rows own i m ≤ 100000000000 := by
  have h1 : ∀ q, q < m → 0 ≤ useM rows i q * costN rows own q ∧ useM rows i q * costN rows own q ≤ 3 * 5000000000 := fun q hq => mul_box (useM_bd hv _ _).1 (useM_bd hv _ _).2 (costN_bd hv ho (show q ≤ 6 by omega)).1 (costN_bd hv ho (show q ≤ 6 by omega)).2
  have h2 := sumTo_nonneg (f := fun q => useM rows i q * costN rows own q) (n := m) (fun k hk => (h1 k hk).1)
  have h3 := sumTo_le (f := fun q => useM rows i q * costN rows own q) (B := 3 * 5000000000) (n := m) (fun k hk => (h1 k hk).2)
  have := ho i
  unfold costPart; omega
theorem wants_at {n : Int} {xs : List Int} (h : wantsM n xs = true) (k : Nat) : 0 ≤ xs.getD k 0 ∧ xs.getD k 0 ≤ 20 := by
  simp only [wantsM, Bool.and_eq_true] at h
  exact allIn_getD h.1 (by omega) (by omega) k
theorem wants_len {n : Int} {xs : List Int} (h : wantsM n xs = true) : (xs.length : Int) = n := by
  simp only [wantsM, Bool.and_eq_true, decide_eq_true_eq] at h
  exact h.2
set_option maxRecDepth 100000 in
set_option maxHeartbeats 2000000 in
theorem costs_spec0 (a : Option Addr) (len cap : Nat) (rows : List (List Int)) (a2 : Option Addr) (len2 cap2 : Nat) (own : List Int) (w : World) (hv : validBillM rows = true) (hw : wantsM rows.length own = true) (h : RowsAt w (· < w.heap.size) a len rows) (g : IntsAt w (· < w.heap.size) a2 len2 own) :
    Calls Try.prog 38 #[.slice a len cap, .slice a2 len2 cap2] w (NewOwn w (costsM rows own)) := by
  have hl := h.lenEq
  have hl2 : len2 = len := by have := wants_len hw; have := g.lenEq; omega
  subst hl2
  have hl6 : len2 ≤ 6 := by have := validBill_len6 hv; omega
  have HO := Lib.hid (wants_at hw)
  have HL := Lib.hid hl
  clear hl hw
  go_enter Try.func38, Try.ntmps38
  go_wp2
  go_loopw [5, 6] (fun v i wr => ∃ (k cp : Nat) (ax : Option Addr), k ≤ len2 ∧ i = .int .i64 k ∧ v = .slice ax k cp ∧ wr.ownsRow w.heap.size 3 1 v k ((tab (costN rows own) k).map (.int .i64)) ∧ Below w.heap.size w wr) (fun _ i _ => len2 - (intOf i).toNat)
  case atStart => exact ⟨0, 0, _, Nat.zero_le _, rfl, rfl, World.ownsRow_made _ _ _ (Nat.le_refl _) (Nat.zero_le _) rfl, (Below.refl _ _).alloc (Nat.le_refl _) _⟩
  case round =>
    obtain ⟨k, cp, ax, hk, rfl, rfl, hown, hB⟩ := hrel
    obtain ⟨wo, rfl⟩ : ∃ wo : World, wo = wr := ⟨_, rfl⟩
    by_cases hlt : k < len2
    · obtain ⟨b, off, r, a', l, c, rfl, hx, hc, _, hri⟩ := (h.below hB).get hlt
      obtain ⟨b9, off9, y, rfl, hy, hcy⟩ := (g.below hB).get hlt
      obtain ⟨hr1, _, _⟩ := okRows_get hv hx
      have hlr : l = k := by rw [← hri.lenEq]; exact hr1
      subst hlr
      have HX := Lib.hid hx
      have HY := Lib.hid (getD_of hy)
      have HOWN := Lib.hid hown
      have HB := Lib.hid hB
      obtain ⟨ay, cy, hve, _, hints⟩ := own_ints hown (by omega)
      simp only [Value.slice.injEq] at hve
      obtain ⟨rfl, _, rfl⟩ := hve
      have hbk : ((some (⟨b, off, none⟩ : Addr)).isSome) = true := rfl
      clear hx hr1 hown hB hy hbk
      go_wp2
      go_loopw [7, 8] (fun n j wr => ∃ m : Nat, m ≤ l ∧ j = .int .i64 m ∧ n = .int .i64 (costPart rows own l m) ∧ Drew wo wr) (fun _ j _ => l - (intOf j).toNat)
      case atStart => exact ⟨0, Nat.zero_le _, rfl, by rw [show costPart rows own l 0 = y by unfold costPart; rw [HY.out]; simp [sumTo]], Drew.refl _⟩
      case round =>
        obtain ⟨m, hm, rfl, rfl, hdw⟩ := hrel
        by_cases hml : m < l
        · obtain ⟨b2, off2, x, rfl, hy, hd⟩ := (Drew.ints hri hdw).get hml
          obtain ⟨b3, off3, z, rfl, hy3, hd3⟩ := (Drew.ints hints hdw).get (k := m) hml
          have hc' : wr.cell? ⟨b, off + l, none⟩ = some (.slice (some ⟨b2, off2, none⟩) l c) := by obtain ⟨q, rfl⟩ := hdw; exact hc
          obtain ⟨rfl, _⟩ := tab_get hy3
          have hu := useM_get HX.out hy
          have hub := useM_bd hv l m
          rw [hu] at hub
          have hcb := costN_bd hv HO.out (show m ≤ 6 by omega)
          have hpb := costPart_bd hv HO.out (i := l) (show m ≤ 6 by omega)
          have HS := Lib.hid (show costPart rows own l (m + 1) = costPart rows own l m + x * costN rows own m by simp only [costPart, sumTo, hu]; omega)
          clear hy hy3 hu
          generalize costPart rows own l m = P at hpb HS ⊢
          generalize costN rows own m = C at hcb HS hd3
          have hmb := mul_box hub.1 hub.2 hcb.1 hcb.2
          have hlk : (l : Int) < (len2 : Int) := by omega
          have hmk : (m : Int) < (l : Int) := by omega
          have hw1 : IntKind.i64.wrap (x * C) = x * C := IntWalk.i64_in _ (by omega)
          have hw2 : IntKind.i64.wrap (P + x * C) = P + x * C := IntWalk.i64_in _ (by omega)
          go_wp2_with fail
          go_quiet (fail)
          go_wp2_with fail
          go_roundw
          case rel => exact ⟨m + 1, by omega, by go_num, by rw [HS.out], hdw.drew _⟩
          case measure => simp [intOf]; omega
        · obtain rfl : m = l := by omega
          have hl3 : m < rows.length := by rw [HL.out]; exact hlt
          have hfin : costPart rows own m m = costN rows own m := (cost_rec hv own hl3).symm
          rw [hfin]
          clear hfin
          obtain ⟨q, rfl⟩ := hdw
          have HO9 := Lib.hid (own_drewN HOWN.out q)
          have hB9 := HB.out.trans (Drew.below (⟨q, rfl⟩ : Drew wo (wo.drewN q)) w.heap.size)
          have HB9 := Lib.hid hB9
          clear hB9
          generalize wo.drewN q = w5 at *
          go_wp2_with (at_builtin; refine wpApp1 rfl _ _ rfl w.heap.size _ _ _ _ _ rfl HO9.out rfl HB9.out.size (by omega) ?_)
          intro a6 c6 w6 hown hc6 hgr
          have HO6 := Lib.hid hown
          have HG6 := Lib.hid hgr
          clear hown hgr
          go_wp2
          go_roundw
          case rel => exact ⟨m + 1, c6, a6, by omega, by go_num, rfl, by rw [tab_succ]; exact own_snoc HO6.out, HB9.out.grown HG6.out HB9.out.size (own_block HO9.out)⟩
          case measure => simp [intOf]; omega
    · obtain rfl : k = len2 := by omega
      have HOWN := Lib.hid hown
      have HB := Lib.hid hB
      clear hown hB
      go_wp2
      go_ret
      have e : costsM rows own = tab (costN rows own) k := by unfold costsM; rw [HL.out]
      rw [e]
      exact ⟨_, _, _, rfl, by omega, HOWN.out, HB.out⟩
end Go.Proofs.Ytcfahmffboipiaa
