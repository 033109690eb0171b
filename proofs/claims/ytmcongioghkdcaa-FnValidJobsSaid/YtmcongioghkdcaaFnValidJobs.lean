/- The law FnValidJobs returns true at every code, and the code reads behind the call as it read before. No condition. -/
import Derived.Test.YtmcongioghkdcaaRows
import Derived.WalkKit
import Derived.LoopTactic
import Derived.Outline
import Derived.WalkSpells
import Derived.WalkLawsBesides
import Derived.ProofKit
import Derived.Deep.QuietTactic
import Derived.BigQuiet
import Derived.IntWalk
import Derived.Test.YtmcongioghkdcaaM0
import Derived.Test.YtmcongioghkdcaaM1
import Derived.Test.YtmcongioghkdcaaM2
import Derived.Test.YtmcongioghkdcaaM15
import Derived.Test.YtmcongioghkdcaaM16
namespace Go.Proofs.Ytmcongioghkdcaa
open Go.RowKit Go.WideShapes

set_option maxRecDepth 100000 in
set_option maxHeartbeats 2000000 in
theorem fnValidJobs_any (a : Option Addr) (len cap : Nat) (w : World) (hb : BytesAt w w.heap.size a len) (hl : len ≤ cap) (hs : len ≤ 9223372036854775807) :
    Calls Try.prog 3 #[.slice a len cap] w (LawPost w) := by
  by_cases h20 : len ≤ 1048576
  · go_enter Try.func3, Try.ntmps3
    have hB0 := Below.refl w.heap.size w
    go_wp2_with fail
    refine (drawValidJobs_any a len cap w hb hl hs).mono ?_
    rintro e w1 ⟨a1, l1, c1, rows, rfl, n_r, hc1, hl1, hb1⟩
    have hB1 : Below w.heap.size w w1 := hB0.trans (hb1.mono hB0.size)
    clear hB0
    have xr_1 := n_r
    clear n_r
    clear hb hb1
    go_wp2_with fail
    refine (validJobs_implV a1 l1 c1 rows w1 xr_1 hc1).mono ?_
    rintro e w2 ⟨rfl, hb2⟩
    have xr_2 := rows_lift xr_1 hb2
    have hB2 : Below w.heap.size w w2 := hB1.trans (hb2.mono hB1.size)
    clear hB1 xr_1
    clear hb2
    go_wp2_with fail
    refine (validJobs_specV a1 l1 c1 rows w2 xr_2).mono ?_
    rintro e w3 ⟨rfl, hb3⟩
    have xr_3 := rows_lift xr_2 hb3
    have hB3 : Below w.heap.size w w3 := hB2.trans (hb3.mono hB2.size)
    clear hB2 xr_2
    clear hb3
    cases hv : jobsM rows
    · go_wp2_with fail
      refine (validJobs_specV a1 l1 c1 rows w3 xr_3).mono ?_
      rintro e w4 ⟨rfl, hb4⟩
      have xr_4 := rows_lift xr_3 hb4
      have hB4 : Below w.heap.size w w4 := hB3.trans (hb4.mono hB3.size)
      clear hB3 xr_3
      clear hb4
      rw [hv]
      go_wp2_with fail
      go_ret
      exact ⟨rfl, hB4⟩
    · have HT := Lib.hid (jobs_take hv)
      have HLN := Lib.hid (xr_3.lenEq)
      by_cases h0 : l1 = 0
      · subst h0
        go_wp2_with fail
        go_ret
        exact ⟨rfl, hB3⟩
      · obtain ⟨n, rfl⟩ : ∃ n, l1 = n + 1 := ⟨l1 - 1, by omega⟩
        have h0e : (((n + 1 : Nat) : Int) == 0) = false := by simp; omega
        obtain ⟨b, off, rfl, _, _⟩ := xr_3.cells (by omega)
        have hwl : IntKind.i64.wrap (((n + 1 : Nat) : Int) - 1) = (n : Int) := by rw [show (((n + 1 : Nat) : Int) - 1) = (n : Int) by omega]; exact IntWalk.i64_in _ (by omega)
        have hn1 : ¬ c1 = 0 := by omega
        have hle1 : n ≤ c1 := by omega
        have hlt1 : n ≤ n + 1 := by omega
        go_wp2_with fail
        refine (validJobs_implV (some ⟨b, off, none⟩) n c1 (rows.take n) w3 (RowsAt.take xr_3 n (by omega)) hle1).mono ?_
        rintro e w4 ⟨rfl, hb5⟩
        have xr_4 := rows_lift xr_3 hb5
        have hB4 : Below w.heap.size w w4 := hB3.trans (hb5.mono hB3.size)
        clear hB3 xr_3
        clear hb5
        rw [HT.out n]
        go_wp2_with fail
        go_ret
        exact ⟨rfl, hB4⟩
  · go_enter Try.func3, Try.ntmps3
    go_wp2
    go_ret
    exact ⟨rfl, Below.refl _ _⟩
end Go.Proofs.Ytmcongioghkdcaa
