/- The law FnSpanTried returns true at every code, and the code reads behind the call as it read before. No condition. -/
import Derived.Test.YtcikgbkehfepdabRows
import Derived.WalkKit
import Derived.LoopTactic
import Derived.Outline
import Derived.WalkSpells
import Derived.WalkLawsBesides
import Derived.ProofKit
import Derived.Deep.QuietTactic
import Derived.BigQuiet
import Derived.IntWalk
import Derived.Test.YtcikgbkehfepdabM0
import Derived.Test.YtcikgbkehfepdabM1
import Derived.Test.YtcikgbkehfepdabM2
import Derived.Test.YtcikgbkehfepdabM6
import Derived.Test.YtcikgbkehfepdabM7
import Derived.Test.YtcikgbkehfepdabM8
import Derived.Test.YtcikgbkehfepdabM12
namespace Go.Proofs.Ytcikgbkehfepdab
open Go.RowKit Go.WideShapes

set_option maxRecDepth 100000 in
set_option maxHeartbeats 2000000 in
theorem fnSpanTried_any (a : Option Addr) (len cap : Nat) (w : World) (hb : BytesAt w w.heap.size a len) (hl : len ≤ cap) (hs : len ≤ 9223372036854775807) :
    Calls Try.prog 5 #[.slice a len cap] w (LawPost w) := by
  by_cases h20 : len ≤ 1048576
  · go_enter Try.func5, Try.ntmps5
    have hB0 := Below.refl w.heap.size w
    go_wp2_with fail
    refine (drawSpanTried_any a len cap w hb hl hs).mono ?_
    rintro e w1 ⟨a1, l1, c1, rows, rfl, n_r, hc1, hl1, hb1⟩
    have hB1 : Below w.heap.size w w1 := hB0.trans (hb1.mono hB0.size)
    clear hB0
    have xr_1 := n_r
    clear n_r
    clear hb hb1
    go_wp2_with fail
    refine (spanTried_impl a1 l1 c1 rows w1 xr_1 hc1).mono ?_
    rintro e w2 ⟨rfl, hb2⟩
    have xr_2 := rows_lift xr_1 hb2
    have hB2 : Below w.heap.size w w2 := hB1.trans (hb2.mono hB1.size)
    clear hB1 xr_1
    clear hb2
    go_wp2_with fail
    refine (spanTried_specV a1 l1 c1 rows w2 xr_2).mono ?_
    rintro e w3 ⟨rfl, hb3⟩
    have xr_3 := rows_lift xr_2 hb3
    have hB3 : Below w.heap.size w w3 := hB2.trans (hb3.mono hB2.size)
    clear hB2 xr_2
    clear hb3
    cases hv : triedFine rows
    · rw [triedRes_no hv]
      go_wp2_with fail
      refine (spanTried_specV a1 l1 c1 rows w3 xr_3).mono ?_
      rintro e w4 ⟨rfl, hb4⟩
      have xr_4 := rows_lift xr_3 hb4
      have hB4 : Below w.heap.size w w4 := hB3.trans (hb4.mono hB3.size)
      clear hB3 xr_3
      clear hb4
      rw [triedRes_no hv]
      go_wp2_with fail
      go_ret
      exact ⟨rfl, hB4⟩
    · have hnn := tried_nn hv
      have hp := (triedFine_get hv).1
      have HT := Lib.hid (tried_turned hv)
      have HF := Lib.hid (fun (n : Nat) (h : rows.length = n + 1) => tried_fewer hv h)
      have HLN := Lib.hid (xr_3.lenEq)
      clear hv
      obtain ⟨sv, hsv⟩ : ∃ sv, triedRes rows = sv := ⟨_, rfl⟩
      have HS := Lib.hid hsv
      rw [hsv] at HT hnn ⊢
      clear hsv
      have hn0 : ¬ sv < 0 := by omega
      by_cases h0 : l1 = 0
      · subst h0
        have hr0 : rows = [] := List.eq_nil_of_length_eq_zero HLN.out
        obtain rfl : sv = 0 := by rw [← HS.out, hr0]; exact tried_nil
        clear hr0
        go_wp2_with fail
        go_ret
        exact ⟨rfl, hB3⟩
      · obtain ⟨n, rfl⟩ : ∃ n, l1 = n + 1 := ⟨l1 - 1, by omega⟩
        have h0e : (((n + 1 : Nat) : Int) == 0) = false := by simp; omega
        obtain ⟨b, off, rfl, _, _⟩ := xr_3.cells (by omega)
        have hwl : IntKind.i64.wrap (((n + 1 : Nat) : Int) - 1) = (n : Int) := by rw [show (((n + 1 : Nat) : Int) - 1) = (n : Int) by omega]; exact IntWalk.i64_in _ (by omega)
        have hn1 : ¬ c1 = 0 := by omega
        have hle1 : n ≤ c1 := by omega
        have hlt1 : n ≤ n + 1 := by omega
        have hfw := HF.out n HLN.out
        rw [HS.out] at hfw
        have HFW := Lib.hid hfw
        clear hfw
        go_wp2_with fail
        refine (spanTried_impl (some ⟨b, off, none⟩) n c1 (rows.take n) w3 (RowsAt.take xr_3 n (by omega)) hle1).mono ?_
        rintro e w4 ⟨rfl, hb5⟩
        have xr_4 := rows_lift xr_3 hb5
        have hB4 : Below w.heap.size w w4 := hB3.trans (hb5.mono hB3.size)
        clear hB3 xr_3
        clear hb5
        have hfw := HFW.out
        generalize triedRes (rows.take n) = fv at *
        go_wp2_with fail
        refine (turnedPairs_any (some ⟨b, off, none⟩) (n + 1) c1 rows w4 xr_4 hp).mono ?_
        rintro e w5 ⟨a3, c3, rfl, hc3, n_t, hb6⟩
        have xr_5 := rows_lift xr_4 hb6
        have hB5 : Below w.heap.size w w5 := hB4.trans (hb6.mono hB4.size)
        clear hB4 xr_4
        have xt_5 := rows_in n_t (Nat.le_refl _)
        clear n_t
        clear hb6
        go_wp2_with fail
        refine (spanTried_impl a3 (n + 1) c3 (turnP rows) w5 xt_5 hc3).mono ?_
        rintro e w6 ⟨rfl, hb7⟩
        have xr_6 := rows_lift xr_5 hb7
        have xt_6 := rows_lift xt_5 hb7
        have hB6 : Below w.heap.size w w6 := hB5.trans (hb7.mono hB5.size)
        clear hB5 xr_5 xt_5
        clear hb7
        rw [HT.out]
        go_wp2_with fail
        go_ret
        exact ⟨rfl, hB6⟩
  · go_enter Try.func5, Try.ntmps5
    go_wp2
    go_ret
    exact ⟨rfl, Below.refl _ _⟩
end Go.Proofs.Ytcikgbkehfepdab
