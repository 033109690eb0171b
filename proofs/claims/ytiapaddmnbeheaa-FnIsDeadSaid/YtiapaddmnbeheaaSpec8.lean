import Derived.Test.YtiapaddmnbeheaaRows
import Derived.WalkKit
import Derived.LoopTactic
import Derived.Outline
import Derived.WalkSpells
import Derived.WalkLawsBesides
import Derived.ProofKit
import Derived.Lib.Hide
import Derived.Test.YtiapaddmnbeheaaLib
import Derived.Test.YtiapaddmnbeheaaNetAt
import Derived.Test.YtiapaddmnbeheaaNetVal
import Derived.Test.YtiapaddmnbeheaaDead8
import Derived.Test.YtiapaddmnbeheaaTokD
namespace Go.Proofs.Ytiapaddmnbeheaa
open Go.RowKit Go.WideShapes

theorem isDead_spec (d : NV) (ts : List Int) (rows : List (List Int)) (w : World) (h : NetAt w (· < w.heap.size) d ts rows) :
    Calls Try.prog 15 #[.agg #[.slice d.aT d.lT d.cT, .slice d.aW d.lW d.cW]] w (valN w (.bool (deadRes ts rows))) := by
  have HV := Lib.hid (fun w' (hb : Below w.heap.size w w') => validNet_any d ts rows w' (net_lift h hb))
  have HD := Lib.hid (fun w' (hb : Below w.heap.size w w') hv => dead_any d ts rows w' (net_lift h hb) hv)
  obtain ⟨aT, lT, cT, aW, lW, cW⟩ := d
  clear h
  have hb0 := (Below.refl w.heap.size w).alloc (Nat.le_refl _) (.cells #[.slice aT lT cT, .slice aW lW cW] 26)
  have hn0 := netB_new w aT lT cT aW lW cW 26
  have hz0 : w.heap.size < (w.alloc (.cells #[.slice aT lT cT, .slice aW lW cW] 26)).heap.size := by simp
  obtain ⟨w1, hw1⟩ : ∃ w1, (w.alloc (.cells #[.slice aT lT cT, .slice aW lW cW] 26)) = w1 := ⟨_, rfl⟩
  rw [hw1] at hb0 hn0 hz0
  have HW1 := Lib.hid hw1
  have HB0 := Lib.hid hb0
  have HN0 := Lib.hid hn0
  clear hb0 hn0 hw1
  cases hv : tokM ts rows
  · rw [hv] at HV
    have HF : Hid (deadRes ts rows = false) := Lib.hid (by unfold deadRes; rw [hv]; rfl)
    clear hv
    go_enter Try.func15, Try.ntmps15
    go_wp2_with fail
    rw [HW1.out]
    refine (HV.out _ HB0.out).mono ?_
    rintro e w2 ⟨rfl, hb2⟩
    go_wp2_with fail
    go_ret
    exact ⟨ret_bool HF.out.symm, HB0.out.trans (hb2.mono HB0.out.size)⟩
  · rw [hv] at HV
    have HF : Hid (deadRes ts rows = (grOf ts rows).deadB) := Lib.hid (by unfold deadRes; rw [hv]; rfl)
    have HD2 := Lib.hid (fun w' hb => HD.out w' hb hv)
    obtain ⟨dr, hdr⟩ : ∃ dr, (grOf ts rows).deadB = dr := ⟨_, rfl⟩
    rw [hdr] at HD2 HF
    clear hv hdr HD
    go_enter Try.func15, Try.ntmps15
    go_wp2_with fail
    rw [HW1.out]
    refine (HV.out _ HB0.out).mono ?_
    rintro e w2 ⟨rfl, hb2⟩
    obtain ⟨n0, n1⟩ := HN0.out.below hb2 hz0
    have HB2 := Lib.hid (HB0.out.trans (hb2.mono HB0.out.size))
    clear hb2
    go_wp2_with fail
    refine (HD2.out _ HB2.out).mono ?_
    rintro e w3 ⟨rfl, hb3⟩
    go_wp2_with fail
    go_ret
    exact ⟨ret_bool HF.out.symm, HB2.out.trans (hb3.mono HB2.out.size)⟩
end Go.Proofs.Ytiapaddmnbeheaa
