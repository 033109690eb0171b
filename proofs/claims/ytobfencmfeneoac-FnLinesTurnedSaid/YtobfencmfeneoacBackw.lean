import Derived.Test.YtobfencmfeneoacRows
import Derived.WalkKit
import Derived.LoopTactic
import Derived.Outline
import Derived.WalkSpells
import Derived.WalkLawsBesides
import Derived.ProofKit
import Derived.Lib.Hide
import Derived.Test.YtobfencmfeneoacLib
import Derived.Test.YtobfencmfeneoacGen
import Derived.Test.YtobfencmfeneoacArr
import Derived.Test.YtobfencmfeneoacOwn1
import Derived.Test.YtobfencmfeneoacApp
namespace Go.Proofs.Ytobfencmfeneoac
open Go.RowKit Go.WideShapes

def revM (xs : List Int) : List Int := tab (fun q => xs.getD (xs.length - 1 - q) 0) xs.length
theorem revM_length (xs : List Int) : (revM xs).length = xs.length := tab_length _ _
theorem revM_getD (xs : List Int) {q : Nat} (h : q < xs.length) : (revM xs).getD q 0 = xs.getD (xs.length - 1 - q) 0 := tab_getD _ h
set_option maxRecDepth 100000 in
set_option maxHeartbeats 2000000 in
theorem backwards_any (a : Option Addr) (len cap : Nat) (xs : List Int) (w : World) (h : IntsAt w (· < w.heap.size) a len xs) (hl : len ≤ 1000) :
    Calls Try.prog 21 #[.slice a len cap] w (NewOwn w (revM xs)) := by
  have HL := Lib.hid h.lenEq
  go_enter Try.func21, Try.ntmps21
  go_wp2
  go_loopw [3, 4] (fun v i wr => ∃ (k cp : Nat) (ax : Option Addr), k ≤ len ∧ i = .int .i64 ((len : Int) - 1 - k) ∧ v = .slice ax k cp ∧ wr.ownsRow w.heap.size 3 1 v k ((tab (fun q => xs.getD (len - 1 - q) 0) k).map (.int .i64)) ∧ Below w.heap.size w wr) (fun _ i _ => (intOf i + 1).toNat)
  case atStart => exact ⟨0, 0, _, Nat.zero_le _, by simp, rfl, World.ownsRow_made _ _ _ (Nat.le_refl _) (Nat.zero_le _) rfl, (Below.refl _ _).alloc (Nat.le_refl _) _⟩
  case round =>
    obtain ⟨k, cp, ax, hk, rfl, rfl, hown, hB⟩ := hrel
    obtain ⟨wo, rfl⟩ : ∃ wo : World, wo = wr := ⟨_, rfl⟩
    have HOWN := Lib.hid hown
    have HB := Lib.hid hB
    clear hown
    by_cases hlt : k < len
    · obtain ⟨m, hm⟩ : ∃ m : Nat, m = len - 1 - k := ⟨_, rfl⟩
      have hmi : (len : Int) - 1 - (k : Int) = (m : Int) := by omega
      rw [hmi]
      obtain ⟨b, off, x, rfl, hx, hc⟩ := (h.below hB).get (k := m) (by omega)
      have HX := Lib.hid (getD_of hx)
      have HM := Lib.hid hm
      have hml : m < len := by omega
      have hml2 : (m : Int) < (len : Int) := by omega
      have HMI := Lib.hid hmi
      clear hx hm hmi hB
      go_wp2_with (at_builtin; refine wpApp1 rfl _ _ rfl w.heap.size _ _ _ _ _ rfl HOWN.out rfl HB.out.size (by omega) ?_)
      intro a6 c6 w6 hown hc6 hgr
      have HO6 := Lib.hid hown
      have HG6 := Lib.hid hgr
      clear hown hgr
      go_wp2
      go_roundw
      case rel => exact ⟨k + 1, c6, a6, by omega, by have := HMI.out; congr 1; omega, rfl, by rw [tab_succ, ← HM.out, HX.out]; exact own_snoc HO6.out, HB.out.grown HG6.out HB.out.size (own_block HOWN.out)⟩
      case measure => simp [intOf] <;> omega
    · obtain rfl : k = len := by omega
      have e : (k : Int) - 1 - (k : Int) = -1 := by omega
      rw [e]
      clear hB e
      go_wp2
      go_ret
      have e : revM xs = tab (fun q => xs.getD (k - 1 - q) 0) k := by unfold revM; rw [HL.out]
      rw [e]
      exact ⟨_, _, _, rfl, by omega, HOWN.out, HB.out⟩
end Go.Proofs.Ytobfencmfeneoac
