/- The law FnLeastTardy returns true at every code, and the code reads behind the call as it read before. No condition. -/
import Derived.Test.YtmcongioghkdcacRows
import Derived.WalkKit
import Derived.LoopTactic
import Derived.Outline
import Derived.WalkSpells
import Derived.WalkLawsBesides
import Derived.ProofKit
import Derived.Deep.QuietTactic
import Derived.BigQuiet
import Derived.IntWalk
import Derived.Test.YtmcongioghkdcacM0
import Derived.Test.YtmcongioghkdcacM1
import Derived.Test.YtmcongioghkdcacM2
import Derived.Test.YtmcongioghkdcacM16
import Derived.Test.YtmcongioghkdcacM17
namespace Go.Proofs.Ytmcongioghkdcac
open Go.RowKit Go.WideShapes

set_option maxRecDepth 100000 in
set_option maxHeartbeats 2000000 in
theorem fnLeastTardy_any (a : Option Addr) (len cap : Nat) (w : World) (hb : BytesAt w w.heap.size a len) (hl : len ≤ cap) (hs : len ≤ 9223372036854775807) :
    Calls Try.prog 5 #[.slice a len cap] w (LawPost w) := by
  by_cases h20 : len ≤ 1048576
  · go_enter Try.func5, Try.ntmps5
    have hB0 := Below.refl w.heap.size w
    go_wp2_with fail
    refine (drawLeastTardy_any a len cap w hb hl hs).mono ?_
    rintro e w1 ⟨a1, l1, c1, rows, rfl, n_r, hc1, hl1, hb1⟩
    have hB1 : Below w.heap.size w w1 := hB0.trans (hb1.mono hB0.size)
    clear hB0
    have xr_1 := n_r
    clear n_r
    clear hb hb1
    go_wp2_with fail
    refine (leastTardy_impl a1 l1 c1 rows w1 xr_1 hc1).mono ?_
    rintro e w2 ⟨rfl, hb2⟩
    have xr_2 := rows_lift xr_1 hb2
    have hB2 : Below w.heap.size w w2 := hB1.trans (hb2.mono hB1.size)
    clear hB1 xr_1
    clear hb2
    go_wp2_with fail
    refine (leastTardy_spec a1 l1 c1 rows w2 xr_2).mono ?_
    rintro e w3 ⟨rfl, hb3⟩
    have xr_3 := rows_lift xr_2 hb3
    have hB3 : Below w.heap.size w w3 := hB2.trans (hb3.mono hB2.size)
    clear hB2 xr_2
    clear hb3
    cases hv : jobsM rows
    · rw [ltRes_no hv]
      go_wp2_with fail
      refine (leastTardy_spec a1 l1 c1 rows w3 xr_3).mono ?_
      rintro e w4 ⟨rfl, hb4⟩
      have xr_4 := rows_lift xr_3 hb4
      have hB4 : Below w.heap.size w w4 := hB3.trans (hb4.mono hB3.size)
      clear hB3 xr_3
      clear hb4
      rw [ltRes_no hv]
      go_wp2_with fail
      go_ret
      exact ⟨rfl, hB4⟩
    · have HD := Lib.hid (lt_ord (kind := ⟨#[100, 117, 101]⟩) hv (.inr d_isD) d_isW)
      have HW := Lib.hid (lt_ordW (kind := ⟨#[119, 97, 105, 116]⟩) hv w_isW)
      have hnn := (ltRes_bd hv).1
      have HF := Lib.hid (fun (n : Nat) (h : rows.length = n + 1) => lt_fewer hv h)
      have HLN := Lib.hid (xr_3.lenEq)
      clear hv
      obtain ⟨sv, hsv⟩ : ∃ sv, ltRes rows = sv := ⟨_, rfl⟩
      have HS := Lib.hid hsv
      rw [hsv] at HD HW hnn ⊢
      clear hsv
      have hn0 : ¬ sv < 0 := by omega
      go_wp2_with fail
      refine (orderBy_impl a1 l1 c1 rows ⟨#[100, 117, 101]⟩ w3 xr_3 hc1).mono ?_
      rintro e w4 ⟨a3, l3, c3, rfl, n_g, _, hc3, hb5⟩
      have xr_4 := rows_lift xr_3 hb5
      have hB4 : Below w.heap.size w w4 := hB3.trans (hb5.mono hB3.size)
      clear hB3 xr_3
      have xg_4 := ints_in n_g (Nat.le_refl _)
      clear n_g
      clear hb5
      go_wp2_with fail
      refine (tardyOf_impl a1 l1 c1 rows a3 l3 c3 (ordRes rows ⟨#[100, 117, 101]⟩) w4 xr_4 xg_4 hc1 hc3).mono ?_
      rintro e w5 ⟨rfl, hb6⟩
      have xr_5 := rows_lift xr_4 hb6
      have xg_5 := ints_lift xg_4 hb6
      have hB5 : Below w.heap.size w w5 := hB4.trans (hb6.mono hB4.size)
      clear hB4 xr_4 xg_4
      clear xg_5
      clear hb6
      have g1 := HD.out
      generalize tardRes rows (ordRes rows ⟨#[100, 117, 101]⟩) = dv at *
      go_wp2_with fail
      refine (orderBy_impl a1 l1 c1 rows ⟨#[119, 97, 105, 116]⟩ w5 xr_5 hc1).mono ?_
      rintro e w6 ⟨a4, l4, c4, rfl, n_k, _, hc4, hb7⟩
      have xr_6 := rows_lift xr_5 hb7
      have hB6 : Below w.heap.size w w6 := hB5.trans (hb7.mono hB5.size)
      clear hB5 xr_5
      have xk_6 := ints_in n_k (Nat.le_refl _)
      clear n_k
      clear hb7
      go_wp2_with fail
      refine (tardyOf_impl a1 l1 c1 rows a4 l4 c4 (ordRes rows ⟨#[119, 97, 105, 116]⟩) w6 xr_6 xk_6 hc1 hc4).mono ?_
      rintro e w7 ⟨rfl, hb8⟩
      have xr_7 := rows_lift xr_6 hb8
      have xk_7 := ints_lift xk_6 hb8
      have hB7 : Below w.heap.size w w7 := hB6.trans (hb8.mono hB6.size)
      clear hB6 xr_6 xk_6
      clear xk_7
      clear hb8
      have g2 := HW.out
      generalize tardRes rows (ordRes rows ⟨#[119, 97, 105, 116]⟩) = wv at *
      by_cases h0 : l1 = 0
      · subst h0
        have hr0 : rows = [] := List.eq_nil_of_length_eq_zero HLN.out
        obtain rfl : sv = 0 := by rw [← HS.out, hr0]; exact lt_empty
        clear hr0
        go_wp2_with fail
        go_ret
        exact ⟨rfl, hB7⟩
      · obtain ⟨n, rfl⟩ : ∃ n, l1 = n + 1 := ⟨l1 - 1, by omega⟩
        have h0e : (((n + 1 : Nat) : Int) == 0) = false := by simp; omega
        have h0p : (0 : Int) < ((n + 1 : Nat) : Int) := by omega
        obtain ⟨b, off, rfl, _, _⟩ := xr_7.cells (by omega)
        have hwl : IntKind.i64.wrap (((n + 1 : Nat) : Int) - 1) = (n : Int) := by rw [show (((n + 1 : Nat) : Int) - 1) = (n : Int) by omega]; exact IntWalk.i64_in _ (by omega)
        have hn1 : ¬ c1 = 0 := by omega
        have hle1 : n ≤ c1 := by omega
        have hlt1 : n ≤ n + 1 := by omega
        have hfw := HF.out n HLN.out
        rw [HS.out] at hfw
        have HFW := Lib.hid hfw
        clear hfw
        go_wp2_with fail
        refine (leastTardy_impl (some ⟨b, off, none⟩) n c1 (rows.take n) w7 (RowsAt.take xr_7 n (by omega)) hle1).mono ?_
        rintro e w8 ⟨rfl, hb9⟩
        have xr_8 := rows_lift xr_7 hb9
        have hB8 : Below w.heap.size w w8 := hB7.trans (hb9.mono hB7.size)
        clear hB7 xr_7
        clear hb9
        have hfw := HFW.out
        generalize ltRes (rows.take n) = fv at *
        go_wp2_with fail
        go_ret
        exact ⟨rfl, hB8⟩
  · go_enter Try.func5, Try.ntmps5
    go_wp2
    go_ret
    exact ⟨rfl, Below.refl _ _⟩
end Go.Proofs.Ytmcongioghkdcac
