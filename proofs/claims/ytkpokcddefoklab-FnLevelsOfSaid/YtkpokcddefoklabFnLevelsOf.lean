/- The law FnLevelsOf returns true at every code, and the code reads behind the call as it read before. No condition. -/
import Derived.Test.YtkpokcddefoklabRows
import Derived.WalkKit
import Derived.LoopTactic
import Derived.Outline
import Derived.WalkSpells
import Derived.WalkLawsBesides
import Derived.ProofKit
import Derived.Deep.QuietTactic
import Derived.BigQuiet
import Derived.Test.YtkpokcddefoklabLib
import Derived.Test.YtkpokcddefoklabRd
import Derived.Test.YtkpokcddefoklabGen
import Derived.Test.YtkpokcddefoklabPick
import Derived.Test.YtkpokcddefoklabBill
import Derived.Test.YtkpokcddefoklabNewReader
import Derived.Test.YtkpokcddefoklabLevM
import Derived.Test.YtkpokcddefoklabLaws
import Derived.Test.YtkpokcddefoklabLevOf
namespace Go.Proofs.Ytkpokcddefoklab
open Go.RowKit Go.WideShapes

def DrawnRows (w : World) (e : Ending) (w' : World) : Prop := ∃ (a : Option Addr) (len cap : Nat) (rows : List (List Int)), e = .returned (.slice a len cap) ∧
  RowsAt w' (· < w'.heap.size) a len rows ∧ len ≤ cap ∧ len ≤ 6 ∧ Below w.heap.size w w'
theorem drawLevelsOf_any (a : Option Addr) (len cap : Nat) (w : World) (hb : BytesAt w w.heap.size a len) (hl : len ≤ cap) (hs : len ≤ 9223372036854775807) :
    Calls Try.prog 5 #[.slice a len cap] w (DrawnRows w) := by
  go_enter Try.func5, Try.ntmps5
  go_wp2_with fail
  refine (newReader_any a len cap w hb hl hs).mono ?_
  rintro e w1 ⟨rfl, hr, hb1⟩
  go_wp2_with fail
  refine (someBill_any w.heap.size 0 w1 hr (by omega)).mono ?_
  rintro e w2 ⟨a2, l2, c2, rows, p2, rfl, h1, h2, h3, _, _, hg⟩
  have hbb : Below w.heap.size w w2 := grown_below hg hb1 hb1.size
  have h1' := h1.to (S' := (· < w2.heap.size)) (w' := w2) (fun b hb => ⟨hb.2, rfl⟩)
  go_wp2
  go_ret
  exact ⟨a2, l2, c2, rows, rfl, h1', h2, h3, hbb⟩

theorem rows_up2 {w w1 : World} {a : Option Addr} {len : Nat} {rows : List (List Int)} (h : RowsAt w (· < w.heap.size) a len rows) (hb : Below w.heap.size w w1) : RowsAt w1 (· < w1.heap.size) a len rows :=
  (h.below hb).to (fun _ hb' => ⟨Nat.lt_of_lt_of_le hb' hb.size, rfl⟩)

set_option maxRecDepth 100000 in
set_option maxHeartbeats 2000000 in
theorem fnLevelsOf_any (a : Option Addr) (len cap : Nat) (w : World) (hb : BytesAt w w.heap.size a len) (hl : len ≤ cap) (hs : len ≤ 9223372036854775807) :
    Calls Try.prog 3 #[.slice a len cap] w (LawPost w) := by
  by_cases h20 : len ≤ 1048576
  · go_enter Try.func3, Try.ntmps3
    go_wp2_with fail
    refine (drawLevelsOf_any a len cap w hb hl hs).mono ?_
    rintro e w1 ⟨a1, l1, c1, rows, rfl, hrows, hlc, hl6, hbw⟩
    clear hb
    go_wp2_with fail
    refine (levelsOf_impl a1 l1 c1 rows w1 hrows).mono ?_
    rintro e w2 ⟨a2, l2, c2, rfl, g2, _, hb2⟩
    have h2 := rows_up2 hrows hb2
    have hB2 : Below w.heap.size w w2 := hbw.trans (hb2.mono hbw.size)
    go_wp2_with fail
    refine (levelsOf_spec _ a1 l1 c1 rows w2 h2 (fun b hb => hb)).mono ?_
    rintro e w3 ⟨a3, l3, c3, rfl, m3, _, hb3⟩
    have h3 := rows_up2 h2 hb3
    have g3 : IntsAt w3 (· < w3.heap.size) a2 l2 (levResM rows) := g2.to (fun b hb => ⟨Nat.lt_of_lt_of_le hb.2 hb3.size, hb3.block b hb.2⟩)
    have hB3 : Below w.heap.size w w3 := hB2.trans (hb3.mono hB2.size)
    have heq : eqB (levResM rows) (levResM rows) = true := decide_eq_true rfl
    go_wp2_with fail
    refine (equalInts_any _ _ _ _ _ _ _ _ _ _ _ g3 m3).mono ?_
    rintro e w4 ⟨rfl, d4⟩
    have h4 := rows_up2 h3 (d4.below _)
    have g4 : IntsAt w4 (· < w4.heap.size) a2 l2 (levResM rows) := g3.to (fun b hb => ⟨Nat.lt_of_lt_of_le hb (d4.below (B := w3.heap.size)).size, (d4.below w3.heap.size).block b hb⟩)
    have hB4 := hB3.trans (d4.below w.heap.size)
    cases hv : validBillM rows
    · have hr : levResM rows = [] := by unfold levResM; rw [hv]; rfl
      have hl0 : l2 = 0 := by rw [← g4.lenEq, hr]; rfl
      subst hl0
      go_wp2_with fail
      refine (levelsOf_spec _ a1 l1 c1 rows w4 h4 (fun b hb => hb)).mono ?_
      rintro e w5 ⟨a5, l5, c5, rfl, m5, _, hb5⟩
      have g5 : IntsAt w5 (· < w5.heap.size) a2 0 (levResM rows) := g4.to (fun b hb => ⟨Nat.lt_of_lt_of_le hb hb5.size, hb5.block b hb⟩)
      have hB5 := hB4.trans (hb5.mono hB4.size)
      go_wp2_with fail
      refine (equalInts_any _ _ _ _ _ _ _ _ _ _ _ g5 m5).mono ?_
      rintro e w6 ⟨rfl, d6⟩
      go_wp2_with fail
      go_ret
      exact ⟨rfl, hB5.trans (d6.below _)⟩
    · have hr : levResM rows = levelsM rows := by unfold levResM; rw [hv]; rfl
      rw [hr] at g4
      clear hr
      have hll : l2 = l1 := by rw [← g4.lenEq, ← h4.lenEq]; simp [levelsM]
      have h1l : 1 ≤ l1 := by
        have := hv
        simp only [validBillM, Bool.and_eq_true, inB, decide_eq_true_eq] at this
        have := h4.lenEq
        omega
      subst hll
      have hl0 : ((l2 : Int) == 0) = false := by simp; omega
      have HL4 := Lib.hid h4.lenEq
      have hs1 := h4.small
      go_wp2_with fail
      go_loopw [5] (fun i wr => ∃ k : Nat, k ≤ l2 ∧ i = .int .i64 k ∧ Drew w4 wr) (fun i _ => l2 - (intOf i).toNat)
      case atStart => exact ⟨0, Nat.zero_le _, rfl, Drew.refl _⟩
      case round =>
        obtain ⟨k, hk, rfl, hdw⟩ := hrel
        by_cases hlt : k < l2
        · obtain ⟨r, hx⟩ : ∃ r, rows[k]? = some r := ⟨_, List.getElem?_eq_getElem (by rw [HL4.out]; exact hlt)⟩
          obtain ⟨hr1, hr2, _⟩ := okRows_get hv hx
          have HX := Lib.hid hx
          have HR1 := Lib.hid hr1
          have HR2 := Lib.hid hr2
          clear hx hr1 hr2
          have hkl : (k : Int) < (l2 : Int) := by omega
          go_wp2_with fail
          obtain ⟨wo, rfl⟩ : ∃ wo : World, wo = wr := ⟨_, rfl⟩
          go_loopw [6] (fun j wi => ∃ m : Nat, m ≤ k ∧ j = .int .i64 m ∧ Drew w4 wi) (fun j _ => k - (intOf j).toNat)
          case atStart => exact ⟨0, Nat.zero_le _, rfl, hdw⟩
          case round =>
            obtain ⟨m, hm, rfl, hdi⟩ := hrel
            obtain ⟨b, off, r', a', l, c, rfl, hx, hc, _, hri⟩ := (Drew.rows h4 hdi).get hlt
            obtain rfl : r' = r := by have := hx.symm.trans HX.out; simpa using this
            obtain ⟨b3, off3, y3, rfl, hy3, hd3⟩ := (Drew.ints g4 hdi).get hlt
            obtain ⟨rfl, _⟩ := levelsM_get hy3
            have hlr : l = k := by rw [← hri.lenEq]; exact HR1.out
            subst hlr
            clear hx hy3
            by_cases hml : m < l
            · obtain ⟨b2, off2, x, rfl, hy, hd⟩ := hri.get hml
              obtain ⟨b4, off4, y4, e4, hy4, hd4⟩ := (Drew.ints g4 hdi).get (k := m) (by omega)
              cases e4
              obtain ⟨rfl, _⟩ := levelsM_get hy4
              have HY := Lib.hid hy
              clear hy hy4
              have hml2 : (m : Int) < (l : Int) := by omega
              have hml3 : (m : Int) < (l2 : Int) := by omega
              have hml4 : m < l2 := by omega
              by_cases hx0 : 0 < x
              · have hup := lev_up hv HX.out HY.out hx0
                generalize lev rows l = lk at hup hd3
                generalize lev rows m = lm at hup hd4
                go_wp2_with fail
                go_quiet (fail)
                go_wp2_with fail
                go_roundw
                case rel => exact ⟨m + 1, by omega, by go_num, hdi.drew _⟩
                case measure => simp [intOf]; omega
              · have hdec : decide (0 < x) = false := by simpa using hx0
                generalize lev rows l = lk at hd3
                generalize lev rows m = lm at hd4
                go_wp2_with fail
                go_quiet (fail)
                go_wp2_with fail
                go_roundw
                case rel => exact ⟨m + 1, by omega, by go_num, hdi.drew _⟩
                case measure => simp [intOf]; omega
            · have hz := lev_zero hv HX.out
              have ht := totalM_zero (fun x hx => (HR2.out x hx).1)
              have hle := lev_le hv (l + 1) l (by omega) (by rw [HL4.out]; exact hlt)
              have hcall : ∀ n, Calls Try.prog 9 #[.slice a' l c] (wr.drewN n) (fun e w' => e = .returned (.int .i64 (totalM r')) ∧ ∃ q, w' = (wr.drewN n).drewN q) := fun n =>
                (total_any _ a' l c r' _ (Drew.ints hri ⟨n, rfl⟩) (fun x hx => by have := HR2.out x hx; omega) (by omega)).mono (fun e w' he => ⟨he.1, 0, by rw [← he.2]; rfl⟩)
              have HCALL := Lib.hid hcall
              clear hcall
              have hiff : lev rows l = 0 ↔ totalM r' = 0 := hz.trans ht.symm
              clear hz ht
              generalize lev rows l = lk at hle hd3 hiff
              generalize totalM r' = tt at HCALL hiff
              have hdl : decide ((l : Int) < lk) = false := by simp; omega
              by_cases hk0 : lk = 0
              · have ht0 := hiff.1 hk0
                subst hk0
                subst ht0
                clear hiff
                go_wp2_with fail
                go_quiet ((go_at_call 9; exact Calls.quiet_of (HCALL.out _)))
                go_wp2_with fail
                go_roundw
                case rel => exact ⟨l + 1, by omega, by go_num, hdi.drew _⟩
                case measure => simp [intOf]; omega
              · have ht0 : ¬ tt = 0 := fun e => hk0 (hiff.2 e)
                have e1 : (lk == 0) = false := by simpa using hk0
                have e2 : (tt == 0) = false := by simpa using ht0
                clear hiff
                go_wp2_with fail
                go_quiet ((go_at_call 9; exact Calls.quiet_of (HCALL.out _)))
                go_wp2_with fail
                go_roundw
                case rel => exact ⟨l + 1, by omega, by go_num, hdi.drew _⟩
                case measure => simp [intOf]; omega
        · go_wp2_with fail
          go_ret
          exact ⟨rfl, hB4.trans (hdw.below _)⟩
  · go_enter Try.func3, Try.ntmps3
    go_wp2
    go_ret
    exact ⟨rfl, Below.refl _ _⟩
end Go.Proofs.Ytkpokcddefoklab
