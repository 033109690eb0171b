import Derived.Test.YtcfahmffboipiabRows
import Derived.WalkKit
import Derived.LoopTactic
import Derived.Outline
import Derived.WalkSpells
import Derived.WalkLawsBesides
import Derived.ProofKit
import Derived.Lib.Hide
import Derived.Deep.QuietTactic
import Derived.BigQuiet
import Derived.IntWalk
import Derived.Test.YtcfahmffboipiabLib
import Derived.Test.YtcfahmffboipiabGen
import Derived.Test.YtcfahmffboipiabCountM
import Derived.Test.YtcfahmffboipiabTakesM
import Derived.Test.YtcfahmffboipiabVb
import Derived.Test.YtcfahmffboipiabUp
import Derived.Test.YtcfahmffboipiabWays
import Derived.Test.YtcfahmffboipiabTakes
import Derived.Test.YtcfahmffboipiabApp
import Derived.Test.YtcfahmffboipiabOwn1
import Derived.Test.YtcfahmffboipiabEx
import Derived.Test.YtcfahmffboipiabUsed
import Derived.Test.YtcfahmffboipiabDrawTakes
namespace Go.Proofs.Ytcfahmffboipiab
open Go.RowKit Go.WideShapes

def natInts (ys : List Nat) : List Int := ys.map (fun (x : Nat) => (x : Int))
theorem usedTo_low {rows : List (List Int)} (hv : validBillM rows = true) (j : Nat) : ∀ k, k ≤ j + 1 → usedTo rows j k = [] := by
  intro k
  induction k with
  | zero => intro _; rfl
  | succ k ih =>
    intro h
    rw [usedTo_no, ih (by omega)]
    by_cases e : k = j
    · simp [usedP, e]
    · simp [usedP, takeM_low hv (show k < j by omega)]
set_option maxRecDepth 100000 in
set_option maxHeartbeats 2000000 in
theorem usedIn_spec (a : Option Addr) (len cap : Nat) (rows : List (List Int)) (j : Int) (w : World) (h : RowsAt w (· < w.heap.size) a len rows) :
    Calls Try.prog 10 #[.slice a len cap, .int .i64 j] w (NewInts w (usedRes rows j)) := by
  have hs := h.small
  have HL := Lib.hid h.lenEq
  cases hv : validBillM rows
  · rw [usedRes_no (by rw [hv]; rfl)]
    go_enter Try.func10, Try.ntmps10
    go_wp2_with (go_at_call 38; refine (validBill_spec0 _ _ _ _ rows _ h).mono ?_; rintro e w2 ⟨rfl, rfl⟩)
    go_ret
    exact newInts_nil w
  · have hl6 : len ≤ 6 := by have := validBill_len6 hv; have := HL.out; omega
    cases hp : inB 0 ((len : Int) - 1) j
    · rw [usedRes_no (by rw [hv, isPartM, HL.out, hp]; rfl)]
      go_enter Try.func10, Try.ntmps10
      go_wp2_with (first | (go_at_call 38; refine (validBill_spec0 _ _ _ _ rows _ h).mono ?_; rintro e w2 ⟨rfl, rfl⟩) | (go_at_call 39; refine (inRange_any _ _ _ _).mono ?_; rintro e w' ⟨rfl, rfl⟩))
      go_ret
      exact newInts_nil w
    · obtain ⟨j, rfl, hj⟩ := isPart_nat (n := len) hp
      have HRES := Lib.hid (usedRes_yes hv (show j < rows.length by rw [HL.out]; exact hj))
      have HZ := Lib.hid (usedTo_low hv j (j + 1) (Nat.le_refl _))
      rw [HRES.out]
      go_enter Try.func10, Try.ntmps10
      go_wp2_with (first | (go_at_call 38; refine (validBill_spec0 _ _ _ _ rows _ h).mono ?_; rintro e w2 ⟨rfl, rfl⟩) | (go_at_call 39; refine (inRange_any _ _ _ _).mono ?_; rintro e w' ⟨rfl, rfl⟩))
      go_loopw [5, 6] (fun v i wr => ∃ (k m cp : Nat) (ax : Option Addr), j + 1 ≤ k ∧ k ≤ len ∧ i = .int .i64 k ∧ v = .slice ax m cp ∧ m ≤ k ∧ wr.ownsRow w.heap.size 3 1 v m ((natInts (usedTo rows j k)).map (.int .i64)) ∧ Below w.heap.size w wr) (fun _ i _ => len - (intOf i).toNat)
      case atStart => exact ⟨j + 1, 0, 0, _, by omega, by omega, by go_num, rfl, by omega, by rw [HZ.out]; exact World.ownsRow_made _ _ _ (Nat.le_refl _) (Nat.zero_le _) rfl, (Below.refl _ _).alloc (Nat.le_refl _) _⟩
      case round =>
        obtain ⟨k, m, cp, ax, hk1, hk, rfl, rfl, hmk, hown, hB⟩ := hrel
        obtain ⟨wo, rfl⟩ : ∃ wo : World, wo = wr := ⟨_, rfl⟩
        have HOWN := Lib.hid hown
        have HB := Lib.hid hB
        clear hown
        by_cases hlt : k < len
        · have HR := Lib.hid ((h.below hB).to (S' := (· < w.heap.size)) (fun b hb => ⟨hb, rfl⟩))
          have HE := Lib.hid (show countM rows j 6 k = takeM rows k j from rfl)
          have h0 := takeM_nonneg hv k j
          clear hB
          go_wp2_with fail
          refine (ways_calls rows hv _ a len cap j 6 k wo (Nat.le_refl _) (by omega) hlt HR.out).mono ?_
          rintro e w5 ⟨rfl, hd⟩
          rw [HE.out]
          have HO5 := Lib.hid (by obtain ⟨q, rfl⟩ := hd; exact own_drewN HOWN.out q : w5.ownsRow w.heap.size 3 1 (.slice ax m cp) m ((natInts (usedTo rows j k)).map (.int .i64)))
          have HB5 := Lib.hid (HB.out.trans (Drew.below hd w.heap.size))
          clear hd HE
          have HP := Lib.hid (show usedP rows j k = decide (0 < takeM rows k j) by simp [usedP]; omega)
          generalize takeM rows k j = t at HP h0 ⊢
          by_cases ht : 0 < t
          · have HS := Lib.hid (usedTo_yes (HP.out.trans (decide_eq_true ht)))
            go_wp2_with (at_builtin; refine wpApp1 rfl _ _ rfl w.heap.size _ _ _ _ _ rfl HO5.out rfl HB5.out.size (by omega) ?_)
            intro a6 c6 w6 hown hc6 hgr
            have HO6 := Lib.hid hown
            have HG6 := Lib.hid hgr
            clear hown hgr
            go_wp2
            go_roundw
            case rel => exact ⟨k + 1, m + 1, c6, a6, by omega, by omega, by go_num, rfl, by omega, by rw [HS.out, natInts, List.map_append]; exact own_snoc HO6.out, HB5.out.grown HG6.out HB5.out.size (own_block HO5.out)⟩
            case measure => simp [intOf]; omega
          · have HS := Lib.hid (usedTo_no (HP.out.trans (decide_eq_false ht)))
            go_wp2
            go_roundw
            case rel => exact ⟨k + 1, m, cp, ax, by omega, by omega, by go_num, rfl, by omega, by rw [HS.out]; exact HO5.out, HB5.out⟩
            case measure => simp [intOf]; omega
        · obtain rfl : k = len := by omega
          clear hB
          go_wp2
          go_ret
          rw [HL.out]
          exact newInts_own HOWN.out HB.out (by omega)

def isInB (xs : List Int) (n : Int) : Bool := decide (n ∈ xs)
theorem isIn_any (S : Nat → Prop) (a : Option Addr) (len cap : Nat) (xs : List Int) (n : Int) (w : World) (h : IntsAt w S a len xs) :
    Calls Try.prog 12 #[.slice a len cap, .int .i64 n] w fun e w' => e = .returned (.bool (isInB xs n)) ∧ w = w' := by
  have hs := h.small
  have HL := Lib.hid h.lenEq
  go_enter Try.func12, Try.ntmps12
  go_wp2
  go_loop [5] (fun i => ∃ k : Nat, k ≤ len ∧ i = .int .i64 k ∧ ¬ n ∈ xs.take k) (fun i => len - (intOf i).toNat)
  case atStart => exact ⟨0, Nat.zero_le _, rfl, by simp⟩
  case round =>
    obtain ⟨k, hk, rfl, hno⟩ := hrel
    have HNO := Lib.hid hno
    clear hno
    by_cases hlt : k < len
    · obtain ⟨b, off, x, rfl, hx, hc⟩ := h.get hlt
      have HX := Lib.hid hx
      clear hx
      by_cases hxn : x = n
      · subst hxn
        go_wp2
        go_ret
        exact ⟨ret_bool (decide_eq_true (List.mem_of_getElem? HX.out)).symm, rfl⟩
      · have hne : (x == n) = false := by simpa using hxn
        go_wp2
        go_round
        case rel => exact ⟨k + 1, by omega, by go_num, by rw [take_get HX.out]; simp only [List.mem_append, List.mem_singleton]; rintro (h' | h'); exact HNO.out h'; exact hxn h'.symm⟩
        case measure => simp [intOf]; omega
    · obtain rfl : k = len := by omega
      go_wp2
      go_ret
      have := HNO.out
      rw [List.take_of_length_le (by rw [HL.out]; omega)] at this
      exact ⟨ret_bool (decide_eq_false this).symm, rfl⟩
set_option maxHeartbeats 1000000 in
theorem ascends_yes (S : Nat → Prop) (a : Option Addr) (len cap : Nat) (xs : List Int) (w : World) (h : IntsAt w S a len xs) (hl : len ≤ 1048576) (hup : ∀ k, k + 1 < len → xs.getD k 0 < xs.getD (k + 1) 0) :
    Calls Try.prog 14 #[.slice a len cap] w (EqPost w true) := by
  have HU := Lib.hid hup
  clear hup
  go_enter Try.func14, Try.ntmps14
  go_wp2
  go_loopw [3] (fun i wr => ∃ k : Nat, 1 ≤ k ∧ k ≤ max len 1 ∧ i = .int .i64 k ∧ Drew w wr) (fun i _ => len - (intOf i).toNat)
  case atStart => exact ⟨1, Nat.le_refl _, by omega, rfl, Drew.refl _⟩
  case round =>
    obtain ⟨k, hk1, hk, rfl, hd⟩ := hrel
    by_cases hlt : k < len
    · obtain ⟨m, rfl⟩ : ∃ m, k = m + 1 := ⟨k - 1, by omega⟩
      obtain ⟨b, off, x, rfl, hx, hc⟩ := (Drew.ints h hd).get hlt
      obtain ⟨b2, off2, y, e2, hy, hc2⟩ := (Drew.ints h hd).get (k := m) (by omega)
      simp only [Option.some.injEq, Addr.mk.injEq] at e2
      obtain ⟨rfl, rfl, _⟩ := e2
      have hlt2 := HU.out m hlt
      rw [getD_of hx, getD_of hy] at hlt2
      clear hx hy
      have hm1 : (m : Int) < (len : Int) := by omega
      have hm2 : m < len := by omega
      have hm3 : (m : Int) + 1 < (len : Int) := by omega
      have hw1 : IntKind.i64.wrap ((m : Int) + 1 - 1) = (m : Int) := by rw [show (m : Int) + 1 - 1 = (m : Int) by omega]; exact IntWalk.i64_in _ (by omega)
      have hdec : decide (x ≤ y) = false := by simp; omega
      go_wp2_with fail
      go_quiet (fail)
      go_wp2_with fail
      go_roundw
      case rel => exact ⟨m + 1 + 1, by omega, by omega, by go_num, hd.drew _⟩
      case measure => simp [intOf]; omega
    · go_wp2
      go_ret
      exact ⟨rfl, hd⟩
set_option maxHeartbeats 1000000 in
theorem drawUsedIn_any (a : Option Addr) (len cap : Nat) (w : World) (hb : BytesAt w w.heap.size a len) (hl : len ≤ cap) (hs : len ≤ 9223372036854775807) :
    Calls Try.prog 7 #[.slice a len cap] w fun e w' => ∃ (a : Option Addr) (len cap : Nat) (rows : List (List Int)) (i : Int), e = .returned (.tuple #[.slice a len cap, .int .i64 i]) ∧ RowsAt w' (· < w'.heap.size) a len rows ∧ len ≤ cap ∧ Below w.heap.size w w' := by
  go_enter Try.func7, Try.ntmps7
  go_wp2_with fail
  refine (newReader_any a len cap w hb hl hs).mono ?_
  rintro e w1 ⟨rfl, hr, hb1⟩
  go_wp2_with fail
  refine (someBill_any w.heap.size 0 w1 hr (by omega)).mono ?_
  rintro e w2 ⟨a2, l2, c2, rows, p2, rfl, h1, h2, h6, hr2, hp2, hg2⟩
  have hs1 := hr.lt
  go_wp2_with fail
  refine (pick_any w.heap.size p2 (l2 : Int) w2 hr2 (by omega)).mono ?_
  rintro e w3 ⟨q, rfl, _, hr3, hg3⟩
  go_wp2_with fail
  refine (one_any (fun b => b = w3.heap.size) w.heap.size (p2 + 1) _ 5 5 [(q : Int), 0, 1, (l2 : Int), -1] _ (hr3.alloc _) (IntsAt.lit rfl rfl rfl (by omega)) (by intro b hb; have := hr3.lt; simp; omega) (by omega) (by omega)).mono ?_
  rintro e w4 ⟨x, _, rfl, hr4, hg4⟩
  have g4 : w2.grownBy w4 (some w.heap.size) := grown_ro hg3 (grown_ro (World.grownBy_alloc _ _ _) hg4)
  have h1' := h1.to (S' := (· < w4.heap.size)) (w' := w4) (fun b hb => ⟨Nat.lt_of_lt_of_le hb.2 g4.size, g4.block b hb.2 (by simp; omega)⟩)
  have hbb : Below w.heap.size w w4 := grown_below (grown_ro hg2 g4) hb1 hb1.size
  go_wp2
  go_ret2
  exact ⟨a2, l2, c2, rows, x, rfl, h1', h2, hbb⟩
end Go.Proofs.Ytcfahmffboipiab
