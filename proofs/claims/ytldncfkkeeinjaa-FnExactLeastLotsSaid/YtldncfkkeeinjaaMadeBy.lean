import Derived.Test.YtldncfkkeeinjaaRows
import Derived.WalkKit
import Derived.LoopTactic
import Derived.Outline
import Derived.WalkSpells
import Derived.WalkLawsBesides
import Derived.ProofKit
import Derived.Lib.Hide
import Derived.Deep.QuietTactic
import Derived.BigQuiet
import Derived.IntWalk
import Derived.Test.YtldncfkkeeinjaaLib
import Derived.Test.YtldncfkkeeinjaaGen
import Derived.Test.YtldncfkkeeinjaaMark
import Derived.Test.YtldncfkkeeinjaaArr
import Derived.Test.YtldncfkkeeinjaaOwn1
import Derived.Test.YtldncfkkeeinjaaUp
import Derived.Test.YtldncfkkeeinjaaLaws
import Derived.Test.YtldncfkkeeinjaaNetM
import Derived.Test.YtldncfkkeeinjaaVal2
import Derived.Test.YtldncfkkeeinjaaEx
import Derived.Test.YtldncfkkeeinjaaLots
import Derived.Test.YtldncfkkeeinjaaPlanM
import Derived.Test.YtldncfkkeeinjaaBlockM
import Derived.Test.YtldncfkkeeinjaaLotSpec
import Derived.Test.YtldncfkkeeinjaaBestSpec
import Derived.Test.YtldncfkkeeinjaaMeanSpec
import Derived.Test.YtldncfkkeeinjaaLotA
import Derived.Test.YtldncfkkeeinjaaLeastBy
import Derived.Test.YtldncfkkeeinjaaResC
namespace Go.Proofs.Ytldncfkkeeinjaa
open Go.RowKit Go.WideShapes

theorem Try.infoIntMB : (Try.prog.info? 3).map (fun i => (i.zero, i.size, i.bytes)) = some (some (.int .i64 0), 1, 8) := by kernel_rfl
theorem bst_le_run {xs : List Int} {s h : Int} {i d : Nat} (hd : 0 < d) (hi : i + d ≤ xs.length) : bst xs s h i ≤ runD xs s h i d + bst xs s h (i + d) := by
  have h1 := (bst_is (s := s) (h := h) (show i + d ≤ xs.length from hi)).1
  obtain ⟨e, rfl⟩ : ∃ e, d = e + 1 := ⟨d - 1, by omega⟩
  exact (bst_is (show i ≤ xs.length by omega)).2 _ (PC.lot i e _ hi h1)
set_option maxHeartbeats 1000000 in
theorem daysFrom_at (S : Nat → Prop) (b off len cap : Nat) (xs : List Int) (n m : Int) (first days l : Nat) (w : World) (h : IntsAt w S (some ⟨b, off, none⟩) len xs) (hc : len ≤ cap) (hl8 : len ≤ 8) (hn : n = (first : Int)) (hm : m = (days : Int)) (hf : first < len) (hd : 1 ≤ days) (hd9 : days ≤ 9) (hl : l = min days (len - first)) :
    Calls Try.prog 33 #[.slice (some ⟨b, off, none⟩) len cap, .int .i64 n, .int .i64 m] w (fun e w' => e = .returned (.slice (some ⟨b, off + first, none⟩) l l) ∧ w' = w) := by
  subst hn hm
  by_cases hmin : first + days ≤ len
  · obtain rfl : l = days := by omega
    have e1 : (first : Int) + (l : Int) ≤ (len : Int) := by omega
    clear hl
    go_enter Try.func33, Try.ntmps33
    go_wp2
    go_ret
    exact ⟨ret_slice (by omega) (by omega), rfl⟩
  · have e1 : ¬ (first : Int) + (days : Int) ≤ (len : Int) := by omega
    obtain rfl : l = len - first := by omega
    clear hl
    go_enter Try.func33, Try.ntmps33
    go_wp2
    go_ret
    exact ⟨ret_slice (by omega) (by omega), rfl⟩
/-- the boxes of a closure over the list and the costs -/
structure LotBox (wr : World) (n : Nat) (a : Option Addr) (len cap : Nat) (s h : Int) : Prop where
  list : wr.cell? ⟨n, 0, none⟩ = some (.slice a len cap)
  set : wr.cell? ⟨n + 1, 0, none⟩ = some (.int .i64 s)
  hold : wr.cell? ⟨n + 2, 0, none⟩ = some (.int .i64 h)
theorem LotBox.below {wr w' : World} {n m : Nat} {a : Option Addr} {len cap : Nat} {s h : Int} (d : LotBox wr n a len cap s h) (hb : Below m wr w') (hm : n + 2 < m) : LotBox w' n a len cap s h :=
  ⟨(hb.cell (p := ⟨n, 0, none⟩) (by show n < m; omega)).trans d.list, (hb.cell (p := ⟨n + 1, 0, none⟩) (by show n + 1 < m; omega)).trans d.set, (hb.cell (p := ⟨n + 2, 0, none⟩) (by show n + 2 < m; omega)).trans d.hold⟩
end Go.Proofs.Ytldncfkkeeinjaa
