/- The law FnValidNet returns true at every code, and the code reads behind the call as it read before. No condition. -/
import Derived.Test.YtiapaddmnbeheaaRows
import Derived.WalkKit
import Derived.LoopTactic
import Derived.Outline
import Derived.WalkSpells
import Derived.WalkLawsBesides
import Derived.ProofKit
import Derived.Deep.QuietTactic
import Derived.BigQuiet
import Derived.IntWalk
import Derived.Test.YtiapaddmnbeheaaLib
import Derived.Test.YtiapaddmnbeheaaRd
import Derived.Test.YtiapaddmnbeheaaEx
import Derived.Test.YtiapaddmnbeheaaGen
import Derived.Test.YtiapaddmnbeheaaArr
import Derived.Test.YtiapaddmnbeheaaOwn1
import Derived.Test.YtiapaddmnbeheaaLaws
import Derived.Test.YtiapaddmnbeheaaResC
import Derived.Test.YtiapaddmnbeheaaDrawNets
import Derived.Test.YtiapaddmnbeheaaNetAt
import Derived.Test.YtiapaddmnbeheaaSpec8
import Derived.Test.YtiapaddmnbeheaaTokD
import Derived.Test.YtiapaddmnbeheaaTokA
namespace Go.Proofs.Ytiapaddmnbeheaa
open Go.RowKit Go.WideShapes

set_option maxRecDepth 100000 in
set_option maxHeartbeats 2000000 in
theorem fnValidNet_any (a : Option Addr) (len cap : Nat) (w : World) (hb : BytesAt w w.heap.size a len) (hl : len ≤ cap) (hs : len ≤ 9223372036854775807) :
    Calls Try.prog 3 #[.slice a len cap] w (LawPost w) := by
  by_cases h20 : len ≤ 1048576
  · go_enter Try.func3, Try.ntmps3
    have hB0 := Below.refl w.heap.size w
    go_wp2_with fail
    refine (drawValidNet_any a len cap w hb hl hs).mono ?_
    rintro e w1 ⟨d, ts, rows, rfl, n_n, hT4, hW8, hb1⟩
    have hB1 : Below w.heap.size w w1 := hB0.trans (hb1.mono hB0.size)
    clear hB0
    obtain ⟨aT, lT, cT, aW, lW, cW⟩ := d
    clear hb hb1
    have ona_n := netOn_new n_n 26
    have hbx := (Below.refl w1.heap.size w1).alloc (Nat.le_refl _) (.cells #[.slice aT lT cT, .slice aW lW cW] 26)
    obtain ⟨w2, hw2⟩ : ∃ wx, w1.alloc (.cells #[.slice aT lT cT, .slice aW lW cW] 26) = wx := ⟨_, rfl⟩
    rw [hw2] at ona_n hbx
    have HW2 := Lib.hid hw2
    clear hw2
    have hB2 : Below w.heap.size w w2 := hB1.trans (hbx.mono hB1.size)
    clear hB1
    clear hbx
    have ona_2 := ona_n
    clear ona_n
    clear n_n
    dsimp only at hT4 hW8
    obtain ⟨ca0, ca1⟩ := ona_2.box
    dsimp only at ca0 ca1
    go_wp2_with fail
    rw [HW2.out]
    refine (validNet_impl ⟨aT, lT, cT, aW, lW, cW⟩ ts rows w2 ona_2.at').mono ?_
    rintro e w3 ⟨rfl, hb3⟩
    clear ca0 ca1
    have ona_3 := ona_2.lift hb3
    have hB3 : Below w.heap.size w w3 := hB2.trans (hb3.mono hB2.size)
    clear hB2
    clear ona_2
    clear hb3
    obtain ⟨ca0, ca1⟩ := ona_3.box
    dsimp only at ca0 ca1
    go_wp2_with fail
    refine (validNet_spec ⟨aT, lT, cT, aW, lW, cW⟩ ts rows w3 ona_3.at').mono ?_
    rintro e w4 ⟨rfl, hb4⟩
    clear ca0 ca1
    have ona_4 := ona_3.lift hb4
    have hB4 : Below w.heap.size w w4 := hB3.trans (hb4.mono hB3.size)
    clear hB3
    clear ona_3
    clear hb4
    cases hv : tokM ts rows
    · obtain ⟨ca0, ca1⟩ := ona_4.box
      dsimp only at ca0 ca1
      go_wp2_with fail
      refine (validNet_spec ⟨aT, lT, cT, aW, lW, cW⟩ ts rows w4 ona_4.at').mono ?_
      rintro e w5 ⟨rfl, hb5⟩
      clear ca0 ca1
      have ona_5 := ona_4.lift hb5
      have hB5 : Below w.heap.size w w5 := hB4.trans (hb5.mono hB4.size)
      clear hB4
      clear ona_4
      clear hb5
      rw [hv]
      obtain ⟨ca0, ca1⟩ := ona_5.box
      dsimp only at ca0 ca1
      go_wp2_with fail
      go_ret
      exact ⟨rfl, hB5⟩
    · have HT := Lib.hid (tok_take hv)
      have hcw := ona_4.at'.cw
      dsimp only at hcw
      by_cases h0 : lW = 0
      · subst h0
        obtain ⟨ca0, ca1⟩ := ona_4.box
        dsimp only at ca0 ca1
        go_wp2_with fail
        go_quiet (fail)
        go_wp2_with fail
        go_ret
        exact ⟨rfl, below_drewN hB4 _⟩
      · obtain ⟨n, rfl⟩ : ∃ n, lW = n + 1 := ⟨lW - 1, by omega⟩
        have h0e : (((n + 1 : Nat) : Int) == 0) = false := by simp; omega
        have hwl : IntKind.i64.wrap (((n + 1 : Nat) : Int) - 1) = (n : Int) := by rw [show (((n + 1 : Nat) : Int) - 1) = (n : Int) by omega]; exact IntWalk.i64_in _ (by omega)
        have hn1 : ¬ cW = 0 := by omega
        have hle1 : n ≤ cW := by omega
        have hlt1 : n ≤ n + 1 := by omega
        have hwn : IntKind.i64.wrap (n : Int) = (n : Int) := IntWalk.i64_in _ (by omega)
        have hn0I : (0 : Int) ≤ (n : Int) := by omega
        have hnI : (n : Int) ≤ (cW : Int) := by omega
        obtain ⟨bW, oW, rfl, _, _⟩ := ona_4.at'.r.cells (by show 0 < n + 1; omega)
        obtain ⟨ca0, ca1⟩ := ona_4.box
        dsimp only at ca0 ca1
        go_wp2_with fail
        have HON := Lib.hid ona_4
        have HIV := Lib.hid (fun w' (hb : Below w4.heap.size w4 w') => validNet_impl ⟨aT, lT, cT, some ⟨bW, oW, none⟩, n, cW⟩ ts (rows.take n) w' ⟨(HON.out.lift hb).at'.t, (HON.out.lift hb).at'.r.take n (by show n ≤ n + 1; omega), (HON.out.lift hb).at'.ct, hle1⟩)
        rw [HT.out n] at HIV
        dsimp only at HIV
        have hltB := HON.out.box.lt
        have HBX := Lib.hid (show NetB w4.drew w1.heap.size ⟨aT, lT, cT, some ⟨bW, oW, none⟩, n + 1, cW⟩ from HON.out.box.block rfl)
        have HBD := Lib.hid (show Below w4.heap.size w4 w4.drew from (Below.refl _ _).drew)
        have hltD : w1.heap.size < w4.drew.heap.size := hltB
        clear ona_4
        go_region_held3 (fun w' => w'.cell? ⟨w1.heap.size, 0, none⟩ = some (.slice aT lT cT) ∧ w'.cell? ⟨w1.heap.size, 1, none⟩ = some (.slice (some ⟨bW, oW, none⟩) (n + 1) cW)) (first | go_keep | exact k0) (first | (go_at_call 8; refine (HIV.out _ HBD.out).mono ?_; rintro e w9 ⟨rfl, hb9⟩; have k0 := HBX.out.below hb9 hltD))
        have HB9 := Lib.hid (hB4.trans ((HBD.out.trans (hb9.mono HBD.out.size)).mono hB4.size))
        clear k0 hb9
        go_wp2_with fail
        go_ret
        exact ⟨rfl, HB9.out⟩
  · go_enter Try.func3, Try.ntmps3
    go_wp2
    go_ret
    exact ⟨rfl, Below.refl _ _⟩
end Go.Proofs.Ytiapaddmnbeheaa
