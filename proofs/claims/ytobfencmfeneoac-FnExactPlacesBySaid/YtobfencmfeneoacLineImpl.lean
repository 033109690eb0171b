import Derived.Test.YtobfencmfeneoacLineD
import Derived.Test.YtobfencmfeneoacLineI
import Derived.Test.YtobfencmfeneoacResC
import Derived.Test.YtobfencmfeneoacTactSpec
namespace Go.Proofs.Ytobfencmfeneoac
open Go.RowKit Go.WideShapes

theorem fewest_impl (a : Option Addr) (len cap : Nat) (T : List Int) (a2 : Option Addr) (len2 cap2 : Nat) (ys : List Int) (c : Int) (w : World) (ht : IntsAt w (· < w.heap.size) a len T) (hy : IntsAt w (· < w.heap.size) a2 len2 ys) (hc : len ≤ cap) (hc2 : len2 ≤ cap2) (hl : len ≤ 1048576) (hl2 : len2 ≤ 1048576) :
    Calls Try.prog 18 #[.slice a len cap, .slice a2 len2 cap2, .int .i64 c] w (ValPost w (.int .i64 (fewRes T ys c))) := by
  cases hv : lineM T ys c
  · have HR := Lib.hid (show fewRes T ys c = -1 from if_neg fun h => by rw [lineM_yes h] at hv; cases hv)
    go_enter Try.func18, Try.ntmps18
    go_wp2_with fail
    refine (fitTact_any _ a len cap T a2 len2 cap2 ys c w ht hy hc hc2 hl hl2).mono ?_
    rintro e w' ⟨rfl, hdw⟩
    rw [hv]
    go_wp2_with fail
    go_ret
    exact ⟨ret_int HR.out.symm, hdw.below _⟩
  · have hP := lineM_get hv
    have HR := Lib.hid (show fewRes T ys c = fewM T (natsOf ys) c from if_pos hP)
    have HP := Lib.hid hP
    clear hP
    go_enter Try.func18, Try.ntmps18
    go_wp2_with fail
    refine (fitTact_any _ a len cap T a2 len2 cap2 ys c w ht hy hc hc2 hl hl2).mono ?_
    rintro e w1 ⟨rfl, hdw⟩
    rw [hv]
    have hz := hdw.size
    have hx1 : IntsAt w1 (· < w1.heap.size) a len T := (Drew.ints ht hdw).to (fun b hb => ⟨by rw [hz]; exact hb, rfl⟩)
    have hy1 : IntsAt w1 (· < w1.heap.size) a2 len2 ys := (Drew.ints hy hdw).to (fun b hb => ⟨by rw [hz]; exact hb, rfl⟩)
    have HB := Lib.hid (hdw.below w.heap.size)
    clear hdw hv
    go_wp2_with fail
    refine (fewestBySets_any a a2 len cap len2 cap2 T ys c w1 hx1 hy1 HP.out).mono ?_
    rintro e w2 ⟨rfl, hb3⟩
    go_wp2_with fail
    go_ret
    exact ⟨ret_int HR.out.symm, HB.out.trans (hb3.mono (by rw [hz]; exact Nat.le_refl _))⟩
end Go.Proofs.Ytobfencmfeneoac
