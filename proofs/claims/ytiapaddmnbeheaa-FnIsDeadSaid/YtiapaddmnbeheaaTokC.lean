import Derived.Test.YtiapaddmnbeheaaRows
import Derived.WalkKit
import Derived.LoopTactic
import Derived.Outline
import Derived.WalkSpells
import Derived.WalkLawsBesides
import Derived.ProofKit
import Derived.Lib.Hide
import Derived.IntWalk
import Derived.Deep.QuietTactic
import Derived.BigQuiet
import Derived.Deep.RegionHeld3
import Derived.Shelf.RegionOpenPlain
import Derived.Test.YtiapaddmnbeheaaLib
import Derived.Test.YtiapaddmnbeheaaArr
import Derived.Test.YtiapaddmnbeheaaUp
import Derived.Test.YtiapaddmnbeheaaBitOp
import Derived.Test.YtiapaddmnbeheaaGen
import Derived.Test.YtiapaddmnbeheaaOwn1
import Derived.Test.YtiapaddmnbeheaaApp
import Derived.Test.YtiapaddmnbeheaaNetAt
import Derived.Test.YtiapaddmnbeheaaTokO
import Derived.Test.YtiapaddmnbeheaaTokB
namespace Go.Proofs.Ytiapaddmnbeheaa
open Go.RowKit Go.WideShapes

theorem shl8_or {D q : Nat} (hD : D < 16) (hq : q ≤ 3) : bits .or .i64 (D : Int) (wrap64 (2 ^ q)) = ((D ||| 2 ^ q : Nat) : Int) := by
  have : q = 0 ∨ q = 1 ∨ q = 2 ∨ q = 3 := by omega
  rcases this with rfl | rfl | rfl | rfl
  · rw [show wrap64 ((2 : Int) ^ 0) = ((1 : Nat) : Int) by unfold wrap64; decide]; exact i_or D 1 (by omega) (by omega)
  · rw [show wrap64 ((2 : Int) ^ 1) = ((2 : Nat) : Int) by unfold wrap64; decide]; exact i_or D 2 (by omega) (by omega)
  · rw [show wrap64 ((2 : Int) ^ 2) = ((4 : Nat) : Int) by unfold wrap64; decide]; exact i_or D 4 (by omega) (by omega)
  · rw [show wrap64 ((2 : Int) ^ 3) = ((8 : Nat) : Int) by unfold wrap64; decide]; exact i_or D 8 (by omega) (by omega)
def nat8 (h : List Nat) : List Int := h.map (fun x : Nat => (x : Int))
theorem nat8_len (h : List Nat) : (nat8 h).length = h.length := by simp [nat8]
/-- the set of a list, as bits -/
def MaskOf (M : Nat) (L : List Nat) : Prop := ∀ v, M.testBit v = true ↔ v ∈ L
theorem mask_lt {g : Gr} (hg : g.Ok) {M : Nat} {L : List Nat} (h : MaskOf M L) (hL : ∀ v ∈ L, v < g.n) : M < 16 := Nat.lt_pow_two_of_testBit (n := 4) _ (fun i hi => by
  cases hb : M.testBit i
  · rfl
  · have := hL i ((h i).1 hb); have := hg.n4; omega)
theorem mask_snoc {M : Nat} {L : List Nat} (h : MaskOf M L) (v : Nat) : MaskOf (M ||| 2 ^ v) (L ++ [v]) := fun u => by
  rw [Nat.testBit_or, Nat.testBit_two_pow, Bool.or_eq_true, h u, List.mem_append, List.mem_singleton, decide_eq_true_eq]
  exact or_congr Iff.rfl eq_comm
/-- an order in which workers begin; all of them, if the net is not dead -/
def OrderPost8 (g : Gr) (w : World) (e : Ending) (w' : World) : Prop := ∃ (a : Option Addr) (cap : Nat) (L : List Nat), e = .returned (.slice a L.length cap) ∧ OrdQ g L ∧ (¬ g.Dead → L.length = g.n) ∧
  IntsAt w' (fun b => w.heap.size ≤ b ∧ b < w'.heap.size) a L.length (nat8 L) ∧ L.length ≤ cap ∧ Below w.heap.size w w'
set_option maxRecDepth 100000 in
set_option maxHeartbeats 4000000 in
theorem beginOrder_any (d : NV) (ts : List Int) (rows : List (List Int)) (w : World) (h : NetAt w (· < w.heap.size) d ts rows) (hv : tokM ts rows = true) :
    Calls Try.prog 27 #[.agg #[.slice d.aT d.lT d.cT, .slice d.aW d.lW d.cW]] w (OrderPost8 (grOf ts rows) w) := by
  have HCF := Lib.hid (fun w' (hb : Below w.heap.size w w') v M (hM : M < 1048576) (hvn : v ≤ 100) => canFollow_any d ts rows v M w' (net_lift h hb) hv hM hvn)
  obtain ⟨aT, lT, cT, aW, lW, cW⟩ := d
  have hok := gr_ok hv
  have hnl : (grOf ts rows).n = lT := h.t.lenEq
  obtain ⟨g, hg⟩ : ∃ g, grOf ts rows = g := ⟨_, rfl⟩
  rw [hg] at HCF hok hnl ⊢
  have h4 := hok.n4
  have HOK := Lib.hid hok
  have HN := Lib.hid hnl
  clear h hv hg hok
  rw [hnl] at h4
  clear hnl
  go_enter Try.func27, Try.ntmps27
  go_wp2_with fail
  have hb0 := (Below.refl w.heap.size w).alloc (Nat.le_refl _) (.cells #[.slice aT lT cT, .slice aW lW cW] 26)
  have hn0 := netB_new w aT lT cT aW lW cW 26
  have hz0 : w.heap.size < (w.alloc (.cells #[.slice aT lT cT, .slice aW lW cW] 26)).heap.size := by simp
  go_loopw [3, 4, 9] (fun sv mv i wr => ∃ (k M : Nat) (a : Option Addr) (cap : Nat) (L : List Nat), k ≤ lT ∧ i = .int .i64 k ∧ mv = .int .i64 M ∧ sv = .slice a L.length cap ∧ MaskOf M L ∧ OrdQ g L ∧ (¬ g.Dead → k ≤ L.length) ∧
    wr.ownsRow (w.heap.size + 1) 3 1 sv L.length ((nat8 L).map (.int .i64)) ∧ L.length ≤ cap ∧ Below w.heap.size w wr ∧ w.heap.size < wr.heap.size ∧ NetB wr w.heap.size ⟨aT, lT, cT, aW, lW, cW⟩) (fun _ _ i _ => lT - (intOf i).toNat)
  case atStart => exact ⟨0, 0, none, 0, [], Nat.zero_le _, rfl, rfl, rfl, (fun v => by simp), ordQ_nil g, (fun _ => Nat.zero_le _), World.ownsRow_nil _ _ _ _, Nat.le_refl _, hb0, hz0, hn0⟩
  case round =>
    clear hb0 hn0 hz0
    obtain ⟨k, M, a, cap, L, hk, rfl, rfl, rfl, hM, hO, hkl, hown, hcap, hb, hz, hn⟩ := hrel
    obtain ⟨wo, rfl⟩ : ∃ wo : World, wo = wr := ⟨_, rfl⟩
    obtain ⟨n0, n1⟩ := id hn
    dsimp only at n0 n1
    by_cases hlt : k < lT
    · have hkI : (k : Int) < (lT : Int) := by omega
      have HMM := Lib.hid hM
      have HO := Lib.hid hO
      have HOWN := Lib.hid hown
      have HKL := Lib.hid hkl
      have HB := Lib.hid hb
      have HNB := Lib.hid hn
      clear hM hO hown hkl hb hn
      go_wp2_with fail
      go_loopw [3, 4, 14] (fun sv mv i wr => ∃ (j M2 : Nat) (a : Option Addr) (cap : Nat) (X : List Nat), (∃ E, X = L ++ E) ∧ j ≤ lT ∧ i = .int .i64 j ∧ mv = .int .i64 M2 ∧ sv = .slice a X.length cap ∧ MaskOf M2 X ∧ OrdQ g X ∧ (∀ u, u < j → g.canB u M = true → u ∈ X) ∧
        wr.ownsRow (w.heap.size + 1) 3 1 sv X.length ((nat8 X).map (.int .i64)) ∧ X.length ≤ cap ∧ Below w.heap.size w wr ∧ w.heap.size < wr.heap.size ∧ NetB wr w.heap.size ⟨aT, lT, cT, aW, lW, cW⟩) (fun _ _ i _ => lT - (intOf i).toNat)
      case atStart => exact ⟨0, M, a, cap, L, ⟨[], (List.append_nil _).symm⟩, Nat.zero_le _, rfl, rfl, rfl, HMM.out, HO.out, (fun u hu => by omega), HOWN.out, hcap, HB.out, hz, HNB.out⟩
      case round =>
        clear n0 n1 HOWN HB HNB hcap hz
        obtain ⟨j, M2, a2, cap2, X, hpre, hj, rfl, rfl, rfl, hM2, hO2, hE, hown2, hcap2, hb2, hz2, hn2⟩ := hrel
        obtain ⟨wi, rfl⟩ : ∃ wi : World, wi = wr := ⟨_, rfl⟩
        obtain ⟨n0, n1⟩ := id hn2
        dsimp only at n0 n1
        have hM16 := mask_lt HOK.out hM2 hO2.lt
        have hlen := ordQ_len hO2
        rw [HN.out] at hlen
        have HPRE := Lib.hid hpre
        have HSUB := Lib.hid (show ∀ q, q ∈ L → q ∈ X by obtain ⟨E, rfl⟩ := hpre; exact fun q hq => List.mem_append_left _ hq)
        clear hpre
        have HM2 := Lib.hid hM2
        have HO2 := Lib.hid hO2
        have HE := Lib.hid hE
        have HOWN2 := Lib.hid hown2
        have HB2 := Lib.hid hb2
        have HN2 := Lib.hid hn2
        clear hM2 hO2 hE hown2 hb2 hn2
        by_cases hlj : j < lT
        · have hjI : (j : Int) < (lT : Int) := by omega
          cases hbit : M2.testBit j
          · have HIN := Lib.hid (fun w => isIn8 M2 j (by omega) (by omega) w hbit)
            have HNM : Hid (¬ j ∈ X) := Lib.hid (fun hm => by rw [(HM2.out j).2 hm] at hbit; cases hbit)
            have HCAN := Lib.hid (HCF.out wi HB2.out j M2 (by omega) (by omega))
            clear hbit
            cases hcan : g.canB j M2
            · rw [hcan] at HCAN
              have HMONO : Hid (g.canB j M = true → False) := Lib.hid (fun h => by
                have h1 := of_decide_eq_true h
                have h2 : g.canB j M2 = true := decide_eq_true (fun q hq e1 e2 => (HM2.out _).2 (HSUB.out _ ((HMM.out _).1 (h1 q hq e1 e2))))
                rw [hcan] at h2; cases h2)
              clear hcan
              go_wp2_with fail
              refine (HIN.out _).mono ?_
              rintro e w' ⟨rfl, rfl⟩
              go_wp2_with fail
              refine HCAN.out.mono ?_
              rintro e w4 ⟨rfl, hb4⟩
              have HB4 := Lib.hid hb4
              clear hb4
              go_wp2_with fail
              go_roundw
              case rel => exact ⟨j + 1, M2, a2, cap2, X, HPRE.out, by omega, by go_num, rfl, rfl, HM2.out, HO2.out, (fun u hu hc => by
                rcases Nat.lt_or_eq_of_le (Nat.le_of_lt_succ hu) with h | rfl
                · exact HE.out u h hc
                · exact (HMONO.out hc).elim), HOWN2.out.kept (row := none) ⟨HB4.out.os, HB4.out.tape, HB4.out.output, HB4.out.size, fun b hb _ => HB4.out.block b hb⟩ (by
                    cases hq : (Value.slice a2 X.length cap2).ownBlock with
                    | none => exact .inl rfl
                    | some b => exact .inr (by simp)), hcap2, HB2.out.trans (HB4.out.mono HB2.out.size), Nat.lt_of_lt_of_le hz2 HB4.out.size, HN2.out.below HB4.out hz2⟩
              case measure => simp [intOf]; omega
            · rw [hcan] at HCAN
              have HOK2 : Hid (∀ q, q < g.m → g.t q = j → g.c q = 0 → g.f q ∈ X) := Lib.hid (fun q hq e1 e2 => (HM2.out _).1 (of_decide_eq_true hcan q hq e1 e2))
              have HSH := Lib.hid (shl8_or hM16 (show j ≤ 3 by omega))
              clear hcan
              go_wp2_with fail
              refine (HIN.out _).mono ?_
              rintro e w' ⟨rfl, rfl⟩
              go_wp2_with fail
              refine HCAN.out.mono ?_
              rintro e w4 ⟨rfl, hb4⟩
              have hz4 := Nat.lt_of_lt_of_le hz2 hb4.size
              have HB4 := Lib.hid (HB2.out.trans (hb4.mono HB2.out.size))
              have HN4 := Lib.hid (HN2.out.below hb4 hz2)
              have HO4 := Lib.hid (HOWN2.out.kept (w' := w4) (row := none) ⟨hb4.os, hb4.tape, hb4.output, hb4.size, fun b hb _ => hb4.block b hb⟩ (by
                    cases hq : (Value.slice a2 X.length cap2).ownBlock with
                    | none => exact .inl rfl
                    | some b => exact .inr (by simp)))
              clear hb4
              go_wp2_with (at_builtin; refine wpApp1 rfl _ _ rfl (w.heap.size + 1) X.length cap2 a2 (nat8 X) j rfl HO4.out rfl (by omega) (by omega) ?_)
              intro a5 c5 w5 own5 hc5 gr5
              have HO5 := Lib.hid own5
              have hlow5 : ∀ b, (Value.slice a2 X.length cap2).ownBlock = some b → w.heap.size + 1 ≤ b := fun b e => (HO4.out.lt b e).1
              have HB5 := Lib.hid (HB4.out.grown gr5 HB4.out.size (fun b e => by have := hlow5 b e; omega))
              have HN5 := Lib.hid (HN4.out.block (gr5.block _ hz4 (fun e => by have := hlow5 _ e.symm; omega)))
              have hz5 := Nat.lt_of_lt_of_le hz4 gr5.size
              clear own5 gr5
              go_wp2_with fail
              rw [HSH.out]
              go_roundw
              case rel => exact ⟨j + 1, M2 ||| 2 ^ j, a5, c5, X ++ [j], (by obtain ⟨E, e⟩ := HPRE.out; exact ⟨E ++ [j], by rw [e, List.append_assoc]⟩), by omega, by go_num, rfl, by rw [List.length_append]; rfl, mask_snoc HM2.out j, ordQ_snoc HO2.out (by rw [HN.out]; exact hlj) HNM.out HOK2.out, (fun u hu hc => by
                rcases Nat.lt_or_eq_of_le (Nat.le_of_lt_succ hu) with h | rfl
                · exact List.mem_append_left _ (HE.out u h hc)
                · simp), by have := HO5.out; simpa [nat8] using this, by rw [List.length_append]; exact hc5, HB5.out, hz5, HN5.out⟩
              case measure => simp [intOf]; omega
          · have HIN := Lib.hid (fun w => isIn8 M2 j (by omega) (by omega) w hbit)
            have HMJ := Lib.hid ((HM2.out j).1 hbit)
            clear hbit
            go_wp2_with fail
            refine (HIN.out _).mono ?_
            rintro e w' ⟨rfl, rfl⟩
            go_wp2_with fail
            go_roundw
            case rel => exact ⟨j + 1, M2, a2, cap2, X, HPRE.out, by omega, by go_num, rfl, rfl, HM2.out, HO2.out, (fun u hu hc => by
              rcases Nat.lt_or_eq_of_le (Nat.le_of_lt_succ hu) with h | rfl
              · exact HE.out u h hc
              · exact HMJ.out), HOWN2.out, hcap2, HB2.out, hz2, HN2.out⟩
            case measure => simp [intOf]; omega
        · obtain rfl : j = lT := by omega
          have hjI : ¬ (j : Int) < (j : Int) := by omega
          have HGROW : Hid (¬ g.Dead → k + 1 ≤ X.length) := Lib.hid (fun hd => by
            have h1 := HKL.out hd
            obtain ⟨E, hXE⟩ := HPRE.out
            have hXL : X.length = L.length + E.length := by rw [hXE, List.length_append]
            rw [hXL]
            by_cases hlk : L.length < g.n
            · obtain ⟨u, hu, hnu, hc⟩ := ord_next hd HO.out hlk
              have h2 := HE.out u (by rw [← HN.out]; exact hu) (decide_eq_true (fun q hq e1 e2 => (HMM.out _).2 (by
                rcases hc q hq e1 e2 with h | h
                · exact h
                · exact absurd (HOK.out.ways q hq).1 h)))
              rw [hXE] at h2
              rcases List.mem_append.1 h2 with h3 | h3
              · exact absurd h3 hnu
              · have := List.length_pos_of_mem h3; omega
            · have := HN.out; omega)
          go_wp2_with fail
          go_roundw
          case rel => exact ⟨k + 1, M2, a2, cap2, X, by omega, by go_num, rfl, rfl, HM2.out, HO2.out, HGROW.out, HOWN2.out, hcap2, HB2.out, hz2, HN2.out⟩
          case measure => simp [intOf]; omega
    · obtain rfl : k = lT := by omega
      have hkI : ¬ (k : Int) < (k : Int) := by omega
      have hle := ordQ_len hO
      have HALL : Hid (¬ g.Dead → L.length = g.n) := Lib.hid (fun hd => by have := hkl hd; rw [HN.out] at hle ⊢; omega)
      have HO := Lib.hid hO
      have HOWN := Lib.hid hown
      have HB := Lib.hid hb
      rw [HN.out] at hle
      clear hO hown hkl hb hn
      go_wp2_with fail
      go_ret
      obtain ⟨a', c', e', _, h'⟩ := own_ints HOWN.out (by omega)
      simp only [Value.slice.injEq, true_and] at e'
      obtain ⟨rfl, rfl⟩ := e'
      exact ⟨a, cap, L, rfl, HO.out, HALL.out, h'.to (fun b hb => ⟨⟨by omega, hb.2⟩, rfl⟩), hcap, HB.out⟩
end Go.Proofs.Ytiapaddmnbeheaa
