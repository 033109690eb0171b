/- The law FnValidChances returns true at every code, and the code reads behind the call as it read before. No condition. -/
import Derived.Test.YtkjmpkincaainaaRows
import Derived.WalkKit
import Derived.LoopTactic
import Derived.Outline
import Derived.WalkSpells
import Derived.WalkLawsBesides
import Derived.ProofKit
import Derived.Deep.QuietTactic
import Derived.BigQuiet
import Derived.IntWalk
import Derived.Test.YtkjmpkincaainaaLib
import Derived.Test.YtkjmpkincaainaaRd
import Derived.Test.YtkjmpkincaainaaEx
import Derived.Test.YtkjmpkincaainaaGen
import Derived.Test.YtkjmpkincaainaaArr
import Derived.Test.YtkjmpkincaainaaOwn1
import Derived.Test.YtkjmpkincaainaaLaws
import Derived.Test.YtkjmpkincaainaaResC
import Derived.Test.YtkjmpkincaainaaNetM
import Derived.Test.YtkjmpkincaainaaStockM
import Derived.Test.YtkjmpkincaainaaStockT
import Derived.Test.YtkjmpkincaainaaStockS
import Derived.Test.YtkjmpkincaainaaStockXs
import Derived.Test.YtkjmpkincaainaaDrawStock
import Derived.Test.YtkjmpkincaainaaApp
namespace Go.Proofs.Ytkjmpkincaainaa
open Go.RowKit Go.WideShapes

theorem wpList_met {P : Program} {ops : Array Oper} {Q : Exit → Act → World → Prop} {a : Act} {w : World} {rest : List Oper} {o : Oper} (hw : Region.wanted o (yielded ops a.tmps) = true)
    (h : wpList P ops Q ({ o with guard := none } :: rest) a w) : wpList P ops Q (o :: rest) a w := by
  unfold wpList at h ⊢
  rw [if_pos (by simp [Region.wanted])] at h
  rw [if_pos hw]
  exact h
set_option maxRecDepth 100000 in
set_option maxHeartbeats 2000000 in
theorem fnValidChances_any (a : Option Addr) (len cap : Nat) (w : World) (hb : BytesAt w w.heap.size a len) (hl : len ≤ cap) (hs : len ≤ 9223372036854775807) :
    Calls Try.prog 6 #[.slice a len cap] w (LawPost w) := by
  by_cases h20 : len ≤ 1048576
  · go_enter Try.func6, Try.ntmps6
    have hB0 := Below.refl w.heap.size w
    go_wp2_with fail
    refine (dDrawValidChances_any a len cap w hb hl hs).mono ?_
    rintro e w1 ⟨a1, l1, c1, xs, rfl, n_v, hc1, hl1, hb1⟩
    have hB1 : Below w.heap.size w w1 := hB0.trans (hb1.mono hB0.size)
    clear hB0
    have xv_1 := n_v
    clear n_v
    clear hb hb1
    go_wp2_with fail
    refine (validChances_impl (· < w1.heap.size) a1 l1 c1 xs w1 xv_1).mono ?_
    rintro e w' ⟨rfl, rfl⟩
    cases hv : chM xs
    · go_wp2_with fail
      refine (validChances_spec (· < w1.heap.size) a1 l1 c1 xs w1 xv_1).mono ?_
      rintro e w' ⟨rfl, rfl⟩
      rw [hv]
      go_wp2_with fail
      refine (validChances_spec (· < w1.heap.size) a1 l1 c1 xs w1 xv_1).mono ?_
      rintro e w' ⟨rfl, rfl⟩
      rw [hv]
      go_wp2_with fail
      go_ret
      exact ⟨rfl, hB1⟩
    · go_wp2_with fail
      refine (validChances_spec (· < w1.heap.size) a1 l1 c1 xs w1 xv_1).mono ?_
      rintro e w' ⟨rfl, rfl⟩
      rw [hv]
      by_cases h7 : l1 = 7
      · have h7e : ((l1 : Int) == 7) = true := by simp; omega
        go_wp2_with fail
        go_ret
        exact ⟨rfl, hB1⟩
      · have h7e : ((l1 : Int) == 7) = false := by simp; omega
        have HLQ := Lib.hid (xv_1.lenEq)
        have hcm := ch_more hv (by rw [HLQ.out]; exact h7)
        have HCM := Lib.hid hcm
        have hlp := (chM_at hv).1
        rw [HLQ.out] at hlp
        clear hcm hv
        obtain ⟨b1, o1, rfl, hsm, hcc⟩ := xv_1.cells (by omega)
        have HX := Lib.hid xv_1
        clear hcc
        have hx2 := ints_lift xv_1 (show Below w1.heap.size w1 (w1.alloc (.cells #[] 3)) from (Below.refl _ _).alloc (Nat.le_refl _) _)
        have HX2 := Lib.hid hx2
        clear hx2 xv_1
        go_wp2_with (first
          | (at_builtin; refine wpList_met (by rfl) ?_; refine wpAppN rfl _ _ rfl w1.heap.size 0 _ _ [] (· < (w1.alloc (.cells #[] 3)).heap.size) b1 o1 l1 c1 xs rfl (World.ownsRow_made w1 #[] 0 (Nat.le_refl _) (Nat.zero_le _) rfl) rfl HX2.out (by simp) (by omega) ?_; intro a8 c8 w8 hown8 hc8 hg8; have ho8 : w8.ownsRow w1.heap.size 3 1 (.slice a8 l1 c8) l1 (xs.map (.int .i64)) := by simpa using hown8)
          | (at_builtin; refine wpList_met (by rfl) ?_; refine wpApp1 rfl _ _ rfl w1.heap.size l1 c8 a8 xs 1 (by first | rfl | simp [go_sem]) ho8 rfl (Nat.le_trans (by simp) hg8.size) (by omega) ?_; intro a9 c9 w9 hown9 hc9 hg9)
          | fail)
        have hbb := (((Below.refl w1.heap.size w1).alloc (Nat.le_refl _) (.cells #[] 3)).grown hg8 (by simp) (fun j hj => by
          have := ((World.ownsRow_made (base := w1.heap.size) (size := 1) (e := 3) w1 #[] 0 (Nat.le_refl _) (Nat.zero_le _) rfl).lt j hj).1; omega)).grown hg9 (Nat.le_trans (by simp) hg8.size) (fun j hj => by have := (ho8.lt j hj).1; omega)
        have HO9 := Lib.hid (own_low (xs := xs ++ [1]) (by rw [List.map_append]; exact hown9) (by omega))
        have HB9 := Lib.hid (hB1.trans (hbb.mono hB1.size))
        clear hbb hown8 ho8 hown9 hg8 hg9
        refine (validChances_impl _ _ _ _ (xs ++ [1]) _ HO9.out).mono ?_
        rintro e w10 ⟨rfl, rfl⟩
        rw [HCM.out]
        go_wp2_with fail
        go_ret
        exact ⟨rfl, HB9.out⟩
  · go_enter Try.func6, Try.ntmps6
    go_wp2
    go_ret
    exact ⟨rfl, Below.refl _ _⟩
end Go.Proofs.Ytkjmpkincaainaa
