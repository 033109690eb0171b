import Derived.Test.YtldncfkkeeinjabRows
import Derived.WalkKit
import Derived.LoopTactic
import Derived.Outline
import Derived.WalkSpells
import Derived.WalkLawsBesides
import Derived.ProofKit
import Derived.Lib.Hide
import Derived.IntWalk
import Derived.Test.YtldncfkkeeinjabLib
import Derived.Test.YtldncfkkeeinjabGen
import Derived.Test.YtldncfkkeeinjabMark
import Derived.Test.YtldncfkkeeinjabArr
import Derived.Test.YtldncfkkeeinjabOwn1
import Derived.Test.YtldncfkkeeinjabUp
import Derived.Test.YtldncfkkeeinjabLaws
import Derived.Test.YtldncfkkeeinjabNetM
import Derived.Test.YtldncfkkeeinjabVal2
import Derived.Test.YtldncfkkeeinjabEx
import Derived.Test.YtldncfkkeeinjabPlanM
import Derived.Test.YtldncfkkeeinjabTriedM
import Derived.Test.YtldncfkkeeinjabLotSpec
namespace Go.Proofs.Ytldncfkkeeinjab
open Go.RowKit Go.WideShapes

theorem pow_bd {n : Nat} (h : n ≤ 20) : 1 ≤ 2 ^ n ∧ 2 ^ n ≤ 1048576 := ⟨Nat.pow_pos (by omega), Nat.pow_le_pow_right (n := 2) (by omega) h⟩
theorem power_any (n : Nat) (hn : n ≤ 20) (w : World) :
    Calls Try.prog 30 #[.int .i64 n] w fun e w' => e = .returned (.int .i64 ((2 ^ n : Nat) : Int)) ∧ w = w' := by
  go_enter Try.func30, Try.ntmps30
  go_wp2
  go_loop [0, 3] (fun i o => ∃ k : Nat, k ≤ n ∧ i = .int .i64 k ∧ o = .int .i64 ((2 ^ (n - k) : Nat) : Int)) (fun i _ => (intOf i).toNat)
  case atStart => exact ⟨n, Nat.le_refl _, rfl, by rw [Nat.sub_self]; rfl⟩
  case round =>
    obtain ⟨k, hk, rfl, rfl⟩ := hrel
    by_cases h0 : 0 < k
    · have HN := Lib.hid (show ((2 ^ (n - (k - 1)) : Nat) : Int) = 2 * ((2 ^ (n - k) : Nat) : Int) by rw [show n - (k - 1) = (n - k) + 1 by omega, Nat.pow_succ]; push_cast; omega)
      have hb := pow_bd (n := n - k) (by omega)
      generalize 2 ^ (n - k) = p at hb HN ⊢
      go_wp2
      go_round
      case rel => exact ⟨k - 1, by omega, by congr 1; omega, by rw [HN.out]⟩
      case measure => simp [intOf] <;> omega
    · obtain rfl : k = 0 := by omega
      go_wp2
      go_ret
      exact ⟨rfl, rfl⟩
theorem bit_any (x j : Nat) (hx : x ≤ 1073741824) (hj : j ≤ 20) (w : World) :
    Calls Try.prog 31 #[.int .i64 x, .int .i64 j] w fun e w' => e = .returned (.int .i64 ((bitN x j : Nat) : Int)) ∧ w = w' := by
  have hb := pow_bd hj
  have HB := Lib.hid (show ((bitN x j : Nat) : Int) = (x : Int) / ((2 ^ j : Nat) : Int) % 2 by unfold bitN; push_cast; rfl)
  go_enter Try.func31, Try.ntmps31
  go_wp2_with fail
  refine (power_any j hj w).mono ?_
  rintro e w' ⟨rfl, rfl⟩
  generalize 2 ^ j = p at hb HB ⊢
  have h1 : 0 ≤ (x : Int) / (p : Int) := Int.ediv_nonneg (by omega) (by omega)
  have h2 : (x : Int) / (p : Int) ≤ x := Int.ediv_le_self _ (by omega)
  go_wp2
  go_ret
  exact ⟨ret_int HB.out.symm, rfl⟩

theorem PF.bd {xs : List Int} {s h : Int} (hx : ∀ k, 0 ≤ xs.getD k 0 ∧ xs.getD k 0 ≤ 20) (hs : 0 ≤ s ∧ s ≤ 30) (hh : 0 ≤ h ∧ h ≤ 30) (hl : xs.length ≤ 8) {i : Nat} {c : Int} (p : PF xs s h i c) : 0 ≤ c ∧ c ≤ 40000 * (i : Int) := by
  induction p with
  | none => simp
  | lot i d c hd _ ih => have := runD_bd hx (s := s) (h := h) (by omega) (by omega) i (d + 1) (by omega); push_cast at *; omega
def triedRes (xs : List Int) (s h : Int) : Int := leastRes xs s h
/-- so many sets are tried -/
def curT (xs : List Int) (s h : Int) : Nat → Int
  | 0 => -1
  | t + 1 => minTo (fun t => triedM xs s h (2 * t + 1)) t
set_option maxRecDepth 100000 in
set_option maxHeartbeats 4000000 in
theorem lotsTried_spec (a : Option Addr) (len cap : Nat) (xs : List Int) (s h : Int) (w : World) (hx : IntsAt w (· < w.heap.size) a len xs) (hcap : len ≤ cap) :
    Calls Try.prog 9 #[.slice a len cap, .int .i64 s, .int .i64 h] w fun e w' => e = .returned (.int .i64 (leastRes xs s h)) ∧ w = w' := by
  have HL := Lib.hid hx.lenEq
  cases hv : validLotsM xs s h
  · rw [leastRes_no hv]
    go_enter Try.func9, Try.ntmps9
    go_wp2_with (go_at_call 29; refine (validLots_any _ _ _ _ xs s h _ hx).mono ?_; rintro e w' ⟨rfl, rfl⟩)
    go_ret
    exact ⟨rfl, rfl⟩
  · have HR := Lib.hid (leastRes_yes hv)
    obtain ⟨hvd, hs', hh'⟩ := validLots_get hv
    have hl8 : len ≤ 8 := by have := validDays_len hvd; have := HL.out; omega
    have HAT := Lib.hid (validDays_at hvd)
    by_cases hn0 : len = 0
    · subst hn0
      have HE := Lib.hid (show bst xs s h 0 = 0 by have := bst_end xs s h; rw [HL.out] at this; exact this)
      rw [HR.out, HE.out]
      go_enter Try.func9, Try.ntmps9
      go_wp2_with (go_at_call 29; refine (validLots_any _ _ _ _ xs s h _ hx).mono ?_; rintro e w' ⟨rfl, rfl⟩)
      go_ret
      exact ⟨rfl, rfl⟩
    · have hne : ((len : Int) == 0) = false := by simp; omega
      have HT := Lib.hid (tried_least (xs := xs) s h (by rw [HL.out]; omega))
      rw [HL.out] at HT
      have HTB := Lib.hid (show ∀ mask, 0 ≤ triedM xs s h mask from fun mask => (tried_pc s h (by rw [HL.out]; omega) mask).nonneg (fun k => (HAT.out k).1) hs'.1 hh'.1)
      obtain ⟨P, hP⟩ : ∃ P, P = 2 ^ len := ⟨_, rfl⟩
      have hPb : 2 ≤ P ∧ P ≤ 256 := by
        rw [hP]
        exact ⟨Nat.pow_le_pow_right (n := 2) (i := 1) (by omega) (by omega), Nat.pow_le_pow_right (n := 2) (j := 8) (by omega) hl8⟩
      have hPe : ∃ Q, P = 2 * Q ∧ Q = 2 ^ (len - 1) := ⟨2 ^ (len - 1), by rw [hP]; obtain ⟨m, rfl⟩ : ∃ m, len = m + 1 := ⟨len - 1, by omega⟩; rw [Nat.pow_succ, Nat.add_sub_cancel, Nat.mul_comm], rfl⟩
      obtain ⟨Q, hPQ, hQ⟩ := hPe
      have HP := Lib.hid hP
      have HQ := Lib.hid hQ
      have HPQ := Lib.hid hPQ
      rw [HR.out]
      clear hP hQ hPQ hvd
      go_enter Try.func9, Try.ntmps9
      go_wp2_with (go_at_call 29; refine (validLots_any _ _ _ _ xs s h _ hx).mono ?_; rintro e w' ⟨rfl, rfl⟩)
      clear hv
      go_loop [8, 9] (fun b v => ∃ t : Nat, 2 * t + 1 ≤ P + 1 ∧ v = .int .i64 ((2 * t + 1 : Nat) : Int) ∧ b = .int .i64 (curT xs s h t)) (fun _ v => P + 1 - (intOf v).toNat)
      case atStart => exact ⟨0, by omega, rfl, rfl⟩
      case round =>
        obtain ⟨t, ht, rfl, rfl⟩ := hrel
        obtain ⟨mk, hmk⟩ : ∃ mk, mk = 2 * t + 1 := ⟨_, rfl⟩
        rw [← hmk]
        have HMK := Lib.hid hmk
        have hmk1 : mk ≤ P + 1 := by omega
        clear hmk ht
        by_cases hlt : mk < P
        · go_wp2_with fail
          refine (power_any len (by omega) w).mono ?_
          rintro e w' ⟨rfl, rfl⟩
          rw [← HP.out]
          go_wp2_with fail
          go_loop [10, 11, 12] (fun c f i => ∃ (q : Nat) (cq : Int) (fq : Nat), 1 ≤ q ∧ q ≤ len + 1 ∧ i = .int .i64 q ∧ c = .int .i64 cq ∧ f = .int .i64 fq ∧ ((q ≤ len ∧ (cq, fq) = scanM xs s h mk (q - 1)) ∨ (q = len + 1 ∧ cq = triedM xs s h mk))) (fun _ _ i => len + 1 - (intOf i).toNat)
          case atStart => exact ⟨1, 0, 0, Nat.le_refl _, by omega, rfl, rfl, rfl, Or.inl ⟨by omega, rfl⟩⟩
          case round =>
            obtain ⟨q, cq, fq, hq1, hq2, rfl, rfl, rfl, hor⟩ := hrel
            by_cases hql : q ≤ len
            · have hsc : (cq, fq) = scanM xs s h mk (q - 1) := by rcases hor with ⟨_, e⟩ | ⟨e, _⟩; exact e; omega
              obtain ⟨hpf, hfq⟩ := scan_pf xs s h mk (q - 1) (by rw [HL.out]; omega)
              rw [← hsc] at hpf hfq
              have hfq' : fq ≤ q - 1 := hfq
              have hcb : 0 ≤ cq ∧ cq ≤ 1000000 := by
                have h1 := PF.bd (fun k => HAT.out k) hs' hh' (by rw [HL.out]; exact hl8) hpf
                have h2 : (fq : Int) ≤ 8 := by omega
                simp only at h1; omega
              have hrb := runD_bd HAT.out (s := s) (h := h) (by omega) (by omega) fq (q - fq) (by omega)
              have HSC := Lib.hid hsc
              have hrun := run_any _ a len cap xs fq q s h w hx hcap hl8 HAT.out (by omega) hql (by omega) (by omega)
              have HRUN := Lib.hid hrun
              have HF := Lib.hid hfq'
              clear hor hpf hfq hsc hrun
              by_cases hqe : q = len
              · subst hqe
                have HTR := Lib.hid (show cq + runD xs s h fq (q - fq) = triedM xs s h mk by unfold triedM; rw [HL.out, ← HSC.out])
                clear hfq'
                generalize runD xs s h fq (q - fq) = r at hrb HRUN HTR
                go_wp2_with fail
                refine HRUN.out.mono ?_
                rintro e w' ⟨rfl, rfl⟩
                go_wp2_with fail
                go_round
                case rel => exact ⟨q + 1, cq + r, q, by omega, by omega, by go_num, rfl, rfl, Or.inr ⟨rfl, HTR.out⟩⟩
                case measure => simp [intOf] <;> omega
              · have hqne : ((q : Int) == (len : Int)) = false := by simp; omega
                have HBQ := Lib.hid (bit_any mk q (by omega) (by omega) w)
                have hb2 : bitN mk q = 0 ∨ bitN mk q = 1 := by unfold bitN; omega
                rcases hb2 with hb2 | hb2
                · have HSN := Lib.hid (show (cq, fq) = scanM xs s h mk (q + 1 - 1) by
                    rw [show q + 1 - 1 = (q - 1) + 1 by omega, scanM, if_neg (by rw [show q - 1 + 1 = q by omega, hb2]; omega)]; exact HSC.out)
                  rw [hb2] at HBQ
                  clear hb2 hfq'
                  go_wp2_with fail
                  refine HBQ.out.mono ?_
                  rintro e w' ⟨rfl, rfl⟩
                  go_wp2_with fail
                  go_round
                  case rel => exact ⟨q + 1, cq, fq, by omega, by omega, by go_num, rfl, rfl, Or.inl ⟨by omega, HSN.out⟩⟩
                  case measure => simp [intOf] <;> omega
                · have HSN := Lib.hid (show (cq + runD xs s h fq (q - fq), q) = scanM xs s h mk (q + 1 - 1) by
                    rw [show q + 1 - 1 = (q - 1) + 1 by omega, scanM, if_pos (by rw [show q - 1 + 1 = q by omega, hb2]), ← HSC.out]
                    show _ = (cq + runD xs s h fq (q - 1 + 1 - fq), q - 1 + 1)
                    rw [show q - 1 + 1 = q by omega])
                  rw [hb2] at HBQ
                  clear hb2 hfq'
                  generalize runD xs s h fq (q - fq) = r at hrb HRUN HSN
                  go_wp2_with fail
                  refine HBQ.out.mono ?_
                  rintro e w' ⟨rfl, rfl⟩
                  go_wp2_with fail
                  refine HRUN.out.mono ?_
                  rintro e w' ⟨rfl, rfl⟩
                  go_wp2_with fail
                  go_round
                  case rel => exact ⟨q + 1, cq + r, q, by omega, by omega, by go_num, rfl, rfl, Or.inl ⟨by omega, HSN.out⟩⟩
                  case measure => simp [intOf] <;> omega
            · have hce : cq = triedM xs s h mk := by rcases hor with ⟨e, _⟩ | ⟨_, e⟩; omega; exact e
              have hq' : (len : Int) < (q : Int) := by omega
              have htb := HTB.out mk
              rw [← hce] at htb
              have HG := Lib.hid (show curT xs s h (t + 1) = if t = 0 then cq else min (curT xs s h t) cq by
                rw [hce, HMK.out]
                cases t with
                | zero => rfl
                | succ t => rw [if_neg (by omega), curT, minTo, curT])
              have hcb : t = 0 ∧ curT xs s h t = -1 ∨ 0 < t ∧ 0 ≤ curT xs s h t := by
                cases t with
                | zero => exact Or.inl ⟨rfl, rfl⟩
                | succ t =>
                  right
                  obtain ⟨d, _, e⟩ := minTo_at (fun t => triedM xs s h (2 * t + 1)) t
                  rw [curT, e]
                  exact ⟨by omega, HTB.out _⟩
              have hmk2 : (mk : Int) + 2 ≤ 1000 := by omega
              clear hor hce
              generalize curT xs s h t = cu at HG hcb ⊢
              rcases hcb with ⟨ht0, hcu⟩ | ⟨ht0, hcu⟩
              · have HG0 := Lib.hid (HG.out.trans (if_pos ht0))
                subst hcu
                clear ht0
                go_wp2_with fail
                go_round
                case rel => exact ⟨t + 1, by have := HMK.out; have := HPQ.out; omega, by have := HMK.out; subst this; go_num, by rw [HG0.out]⟩
                case measure => simp [intOf] <;> omega
              · have HG0 := Lib.hid (HG.out.trans (if_neg (by omega)))
                clear HG
                by_cases hlt2 : cq < cu
                · have HG1 := Lib.hid (HG0.out.trans (by omega : min cu cq = cq))
                  go_wp2_with fail
                  go_round
                  case rel => exact ⟨t + 1, by have := HMK.out; have := HPQ.out; omega, by have := HMK.out; subst this; go_num, by rw [HG1.out]⟩
                  case measure => simp [intOf] <;> omega
                · have HG1 := Lib.hid (HG0.out.trans (by omega : min cu cq = cu))
                  go_wp2_with fail
                  go_round
                  case rel => exact ⟨t + 1, by have := HMK.out; have := HPQ.out; omega, by have := HMK.out; subst this; go_num, by rw [HG1.out]⟩
                  case measure => simp [intOf] <;> omega
        · have hmP : mk = P + 1 := by have := HMK.out; have := HPQ.out; omega
          have HFIN := Lib.hid (show curT xs s h t = bst xs s h 0 by
            rw [← HT.out, ← HQ.out]
            obtain ⟨u, hu⟩ : ∃ u, t = u + 1 := ⟨t - 1, by have := HMK.out; omega⟩
            rw [hu, curT, show Q - 1 = u by have := HMK.out; have := HPQ.out; omega])
          rw [HFIN.out]
          go_wp2_with fail
          refine (power_any len (by omega) w).mono ?_
          rintro e w' ⟨rfl, rfl⟩
          rw [← HP.out]
          subst hmP
          go_wp2_with fail
          go_ret
          exact ⟨rfl, rfl⟩
theorem lotsTried_specV (a : Option Addr) (len cap : Nat) (xs : List Int) (s h : Int) (w : World) (hx : IntsAt w (· < w.heap.size) a len xs) (hcap : len ≤ cap) :
    Calls Try.prog 9 #[.slice a len cap, .int .i64 s, .int .i64 h] w (IntVal w (leastRes xs s h)) := (lotsTried_spec a len cap xs s h w hx hcap).mono (fun _ _ h => ⟨h.1, h.2 ▸ Below.refl _ _⟩)
end Go.Proofs.Ytldncfkkeeinjab
