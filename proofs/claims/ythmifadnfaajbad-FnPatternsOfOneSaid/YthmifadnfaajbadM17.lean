import Derived.Test.YthmifadnfaajbadRows
import Derived.WalkKit
import Derived.LoopTactic
import Derived.Outline
import Derived.WalkSpells
import Derived.WalkLawsBesides
import Derived.ProofKit
import Derived.Test.YthmifadnfaajbadM0
import Derived.Test.YthmifadnfaajbadM1
import Derived.Test.YthmifadnfaajbadM10
import Derived.Test.YthmifadnfaajbadM8
import Derived.Test.YthmifadnfaajbadM16
import Derived.Test.YthmifadnfaajbadM11
import Derived.Test.YthmifadnfaajbadM4
import Derived.Test.YthmifadnfaajbadM14
import Derived.Test.YthmifadnfaajbadM9
import Derived.Lib.Hide
import Derived.Deep.QuietTactic
import Derived.BigQuiet
import Derived.IntWalk
import Derived.Test.YthmifadnfaajbadM2
import Derived.Test.YthmifadnfaajbadM15
namespace Go.Proofs.Ythmifadnfaajbad
open Go.RowKit Go.WideShapes

def PairsPost (w : World) (R p : Nat) (e : Ending) (w' : World) : Prop := ∃ (a : Option Addr) (len cap : Nat) (rows : List (List Int)) (p' : Nat), e = .returned (.slice a len cap) ∧
      RowsAt w' (fun b => w.heap.size ≤ b ∧ b < w'.heap.size) a len rows ∧ len ≤ cap ∧ len ≤ 8 ∧ Rd w' R p' ∧ p' ≤ p + 1000 ∧ w.grownBy w' (some R)
theorem pairsPost_mk {w w' : World} {R p p' len cap M : Nat} {a : Option Addr} (h : OwnRows w' w.heap.size M (.slice a len cap) len) (hl : len ≤ cap) (h6 : len ≤ 8) (hr : Rd w' R p') (hp : p' ≤ p + 1000)
    (hg : w.grownBy w' (some R)) : PairsPost w R p (.returned (.slice a len cap)) w' := by
  obtain ⟨a', cap', rows, hv, _, hrows⟩ := h.rows (by omega)
  simp only [Value.slice.injEq] at hv
  obtain ⟨rfl, _, rfl⟩ := hv
  exact ⟨_, _, _, rows, p', rfl, hrows, hl, h6, hr, hp, hg⟩
theorem pair_hi {n : Int} (h : n ∈ [9, 4]) : 4 ≤ n ∧ n ≤ 9 := by simp at h; omega
theorem pair_x {n : Int} (h : n ∈ [10, -1]) : -1 ≤ n ∧ n ≤ 10 := by simp at h; omega
end Go.Proofs.Ythmifadnfaajbad
namespace Go.Proofs.Ythmifadnfaajbad
open Go.RowKit Go.WideShapes

theorem own_lit3 (w : World) {B : Nat} (hB : B ≤ w.heap.size) (x y z : Int) : (w.alloc (.cells #[.int .i64 x, .int .i64 y, .int .i64 z] 3)).ownsRow B 3 1 (.slice (some ⟨w.heap.size, 0, none⟩) 3 3) 3 ([x, y, z].map (.int .i64)) :=
  ⟨rfl, .inr ⟨w.heap.size, 3, _, rfl, hB, heap_alloc_new w _, Nat.le_refl _, by unfold maxLen; omega, rfl, rfl⟩⟩
theorem job_t {n : Int} (h : n ∈ [5, 9]) : 5 ≤ n ∧ n ≤ 9 := by simp at h; omega
theorem job_d {n : Int} (h : n ∈ [12, 25, 6]) : 6 ≤ n ∧ n ≤ 25 := by simp at h; omega
end Go.Proofs.Ythmifadnfaajbad
namespace Go.Proofs.Ythmifadnfaajbad
open Go.RowKit Go.WideShapes

/-- drawn jobs -/
def DrawnJ (w : World) (e : Ending) (w' : World) : Prop := ∃ (a : Option Addr) (l c : Nat) (rows : List (List Int)), e = .returned (.slice a l c) ∧ RowsAt w' (· < w'.heap.size) a l rows ∧ l ≤ c ∧ l ≤ 8 ∧ Below w.heap.size w w'
/-- and an order, most often -/
def DrawnJO (w : World) (e : Ending) (w' : World) : Prop := ∃ (a : Option Addr) (l c : Nat) (rows : List (List Int)) (a2 : Option Addr) (l2 c2 : Nat) (xs : List Int), e = .returned (.tuple #[.slice a l c, .slice a2 l2 c2]) ∧
  RowsAt w' (· < w'.heap.size) a l rows ∧ l ≤ c ∧ l ≤ 8 ∧ IntsAt w' (· < w'.heap.size) a2 l2 xs ∧ l2 ≤ c2 ∧ l2 = l ∧ (∀ x ∈ xs, -1 ≤ x ∧ x ≤ 8) ∧ Below w.heap.size w w'
end Go.Proofs.Ythmifadnfaajbad
namespace Go.Proofs.Ythmifadnfaajbad
open Go.RowKit Go.WideShapes

end Go.Proofs.Ythmifadnfaajbad
namespace Go.Proofs.Ythmifadnfaajbad
open Go.RowKit Go.WideShapes

def CutPost (w : World) (R p : Nat) (e : Ending) (w' : World) : Prop := ∃ (a : Option Addr) (len cap : Nat) (xs : List Int) (c : Int) (p' : Nat), e = .returned (.tuple #[.slice a len cap, .int .i64 c]) ∧
  w'.ownsRow w.heap.size 3 1 (.slice a len cap) len (xs.map (.int .i64)) ∧ len ≤ cap ∧ len ≤ 7 ∧ 1 ≤ c ∧ c ≤ 20 ∧ Rd w' R p' ∧ p' ≤ p + 100 ∧ w.grownBy w' (some R)
theorem CutPost.mk {w w' : World} {R p p' : Nat} {a : Option Addr} {len cap : Nat} {xs : List Int} {c : Int} (h : w'.ownsRow w.heap.size 3 1 (.slice a len cap) len (xs.map (.int .i64))) (hl : len ≤ 7) (hc1 : 1 ≤ c) (hc2 : c ≤ 20) (hr : Rd w' R p') (hp : p' ≤ p + 100) (hg : w.grownBy w' (some R)) :
    CutPost w R p (.returned (.tuple #[.slice a len cap, .int .i64 c])) w' := by
  obtain ⟨a', cap', e, hc⟩ := own_slice h
  simp only [Value.slice.injEq] at e
  obtain ⟨rfl, _, rfl⟩ := e
  exact ⟨_, _, _, xs, c, p', rfl, h, hc, hl, hc1, hc2, hr, hp, hg⟩
theorem cut_n {n : Int} (h : n ∈ [5, 4, 6, 3, 7, 2, 1, 0]) : ∃ m : Nat, n = (m : Int) ∧ m ≤ 7 := by simp at h; exact ⟨n.toNat, by omega, by omega⟩
theorem cut_c {n : Int} (h : n ∈ [10, 12, 7, 20, 5, 1]) : 1 ≤ n ∧ n ≤ 20 := by simp at h; omega
/-- drawn: a list, and the length of the rolls -/
def DrawnC (w : World) (e : Ending) (w' : World) : Prop := ∃ (a : Option Addr) (len cap : Nat) (xs : List Int) (c : Int), e = .returned (.tuple #[.slice a len cap, .int .i64 c]) ∧ IntsAt w' (· < w'.heap.size) a len xs ∧ len ≤ cap ∧ len ≤ 7 ∧ 1 ≤ c ∧ c ≤ 20 ∧ Below w.heap.size w w'
def DrawnCK (w : World) (e : Ending) (w' : World) : Prop := ∃ (a : Option Addr) (len cap : Nat) (xs : List Int) (c : Int) (s : ByteArray), e = .returned (.tuple #[.slice a len cap, .int .i64 c, .string s]) ∧ IntsAt w' (· < w'.heap.size) a len xs ∧ len ≤ cap ∧ len ≤ 7 ∧ 1 ≤ c ∧ c ≤ 20 ∧ Below w.heap.size w w'
end Go.Proofs.Ythmifadnfaajbad
namespace Go.Proofs.Ythmifadnfaajbad
open Go.RowKit Go.WideShapes

theorem pat_n {n : Int} (h : n ∈ [2, 3, 1, 2, 0, 4]) : ∃ m : Nat, n = (m : Int) ∧ m ≤ 4 := by simp at h; exact ⟨n.toNat, by omega, by omega⟩
theorem pat_c {n : Int} (h : n ∈ [10, 7, 12, 20, 5]) : ∃ m : Nat, n = (m : Int) ∧ 1 ≤ m ∧ m ≤ 20 := by simp at h; exact ⟨n.toNat, by omega, by omega, by omega⟩
set_option maxRecDepth 100000 in
set_option maxHeartbeats 4000000 in
theorem dDrawPatternsOf_any (a : Option Addr) (len cap : Nat) (w : World) (hb : BytesAt w w.heap.size a len) (hl : len ≤ cap) (hs : len ≤ 9223372036854775807) :
    Calls Try.prog 4 #[.slice a len cap] w (DrawnC w) := by
  go_enter Try.func4, Try.ntmps4
  go_wp2_with fail
  refine (newReader_any a len cap w hb hl hs).mono ?_
  rintro e w1 ⟨rfl, hr, hb1⟩
  have hR := hr.lt
  go_wp2_with fail
  refine (one_any (fun k => k = w1.heap.size) w.heap.size 0 _ 5 5 [10, 7, 12, 20, 5] _ (hr.alloc _) (IntsAt.lit rfl rfl rfl (by omega)) (by intro b hb; simp; omega) (by omega) (by omega)).mono ?_
  rintro e w2 ⟨c, hc, rfl, hr2, hg2⟩
  obtain ⟨c, rfl, hc1, hc2⟩ := pat_c hc
  clear hc
  have gw2 : w1.grownBy w2 (some w.heap.size) := grown_r (World.grownBy_alloc _ _ _) hg2
  have hsz2 := gw2.size
  have ho0 := World.ownsRow_made (base := w1.heap.size) (size := 1) (e := 3) w2 #[] 0 hsz2 (Nat.zero_le _) rfl
  have hsa : (w2.alloc (.cells #[] 3)).heap.size = w2.heap.size + 1 := by simp
  have hr2a := hr2.alloc (.cells #[] 3)
  have gw2a : w1.grownBy (w2.alloc (.cells #[] 3)) (some w.heap.size) := grown_r gw2 (World.grownBy_alloc _ _ _)
  obtain ⟨w2a, hw2a⟩ : ∃ w2a, w2.alloc (.cells #[] 3) = w2a := ⟨_, rfl⟩
  rw [hw2a] at ho0 hsa hr2a gw2a
  have HWA := Lib.hid hw2a
  clear hw2a
  go_wp2_with fail
  rw [HWA.out, ← hsa]
  refine (one_any (fun k => k = w2a.heap.size) w.heap.size 1 _ 6 6 [2, 3, 1, 2, 0, 4] _ (hr2a.alloc _) (IntsAt.lit rfl rfl rfl (by omega)) (by intro b hb; have := hr2a.lt; simp; omega) (by omega) (by omega)).mono ?_
  rintro e w3 ⟨n, hn, rfl, hr3, hg3⟩
  obtain ⟨n, rfl, hn4⟩ := pat_n hn
  clear hn
  have gw3 := grown_r gw2a (grown_r (World.grownBy_alloc _ _ _) hg3)
  have hgo : w2a.grownBy w3 (some w.heap.size) := grown_r (World.grownBy_alloc _ _ _) hg3
  have HO := Lib.hid (ho0.kept hgo (ne_low ho0 hR))
  have HR3 := Lib.hid hr3
  have HG3 := Lib.hid gw3
  clear ho0 hr2 hr2a hr3 hg2 hg3 hgo gw2 gw2a gw3 hr HWA hsa hsz2
  go_wp2_with fail
  go_loopw [6] (fun s6 wr => ∃ (k cp p' : Nat) (ys : List Int) (ax : Option Addr), s6 = .slice ax k cp ∧ k ≤ n ∧ wr.ownsRow w1.heap.size 3 1 (.slice ax k cp) k (ys.map (.int .i64)) ∧ Rd wr w.heap.size p' ∧ p' ≤ 2 + 2 * k ∧ w1.grownBy wr (some w.heap.size)) (fun s6 _ => n - (match s6 with | .slice _ k _ => k | _ => 0))
  case atStart => exact ⟨0, 0, 2, [], _, rfl, Nat.zero_le _, HO.out, HR3.out, by omega, HG3.out⟩
  case round =>
    clear HO HR3 HG3
    obtain ⟨k, cp, p', ys, ax, rfl, hk, hown, hrd, hpp, hgr⟩ := hrel
    obtain ⟨wo, rfl⟩ : ∃ wo : World, wo = wr := ⟨_, rfl⟩
    have HO := Lib.hid hown
    have HG := Lib.hid hgr
    have HR := Lib.hid hrd
    clear hown hgr hrd
    by_cases hlt : k < n
    · have hkI : (k : Int) < (n : Int) := by omega
      go_wp2_with fail
      refine (pick_any w.heap.size p' c wo HR.out (by omega)).mono ?_
      rintro e w8 ⟨q8, rfl, hq8, hr8, hg8⟩
      have HO8 := Lib.hid (HO.out.kept hg8 (ne_low HO.out hR))
      have HG8 := Lib.hid (grown_r HG.out hg8)
      have HR8 := Lib.hid hr8
      have hw1 : IntKind.i64.wrap (1 + (q8 : Int)) = 1 + (q8 : Int) := IntWalk.i64_in _ (by omega)
      clear hr8 hg8
      go_wp2_with fail
      refine (one_any (fun b => b = w8.heap.size) w.heap.size (p' + 1) _ 6 6 [2, 3, 4, 5, 1 + (q8 : Int), 7] _ (HR8.out.alloc _) (IntsAt.lit rfl rfl rfl (by omega)) (by intro b hb; have := HR8.out.lt; simp; omega) (by omega) (by omega)).mono ?_
      rintro e w9 ⟨x, _, rfl, hr9, hg9⟩
      have hg89 : w8.grownBy w9 (some w.heap.size) := grown_r (World.grownBy_alloc _ _ _) hg9
      have HO9 := Lib.hid (HO8.out.kept hg89 (ne_low HO8.out hR))
      have hgg := grown_r HG8.out hg89
      have HG9 := Lib.hid hgg
      have HR9 := Lib.hid hr9
      have hsz := hgg.size
      clear hr9 hg9 hg89 hgg
      go_wp2_with (at_builtin; refine wpApp1 rfl _ _ rfl w1.heap.size k cp ax ys x rfl HO9.out rfl hsz (by omega) ?_)
      intro a6 c6 w6 hown6 hc6 hg6
      have HX := Lib.hid (own_snoc hown6)
      have hlow : ∀ q, (Value.slice ax k cp).ownBlock = some q → w1.heap.size ≤ q := fun q hq => (HO9.out.lt q hq).1
      have HR6 := Lib.hid (HR9.out.grown hg6 (fun b hb => by have := hlow b hb; omega))
      have HG6 := Lib.hid (grown_trans HG9.out hg6 (fun b hb => by have := hlow b hb; omega))
      clear hown6 hg6 hlow
      go_wp2_with fail
      go_roundw
      case rel => exact ⟨k + 1, c6, p' + 2, ys ++ [x], a6, (by first | rfl | exact ⟨rfl, rfl, rfl⟩), by omega, HX.out, HR6.out, by omega, HG6.out⟩
      case measure => simp <;> omega
    · obtain rfl : k = n := by omega
      have hkI : ¬ (k : Int) < (k : Int) := by omega
      have hbb : Below w.heap.size w wo := grown_below HG.out hb1 hb1.size
      have hi := own_low HO.out (by omega)
      obtain ⟨a', c', e, hle⟩ := own_slice HO.out
      injection e with e1 _ e3
      subst e1 e3
      go_wp2_with fail
      go_ret2
      exact ⟨_, _, _, ys, (c : Int), rfl, hi, hle, by omega, by omega, by omega, hbb⟩
end Go.Proofs.Ythmifadnfaajbad
namespace Go.Proofs.Ythmifadnfaajbad

-- the least lateness, set by set: t, w, d of the jobs
/-- a sum over the jobs of a set -/
def bsum (f : Nat → Int) (s : Nat) : Nat → Int
  | 0 => 0
  | n + 1 => bsum f s n + (if s.testBit n = true then f n else 0)
def tardG (w d : Nat → Int) (x : Nat) (c : Int) : Int := w x * max (c - d x) 0
def scanL (w d : Nat → Int) (tb : List Int) (tm : Int) (s : Nat) : Nat → Int
  | 0 => -1
  | i + 1 => if s.testBit i = true ∧ (scanL w d tb tm s i < 0 ∨ tb.getD (s - 2 ^ i) 0 + tardG w d i tm < scanL w d tb tm s i) then tb.getD (s - 2 ^ i) 0 + tardG w d i tm else scanL w d tb tm s i
def ltT (t w d : Nat → Int) (n : Nat) : Nat → List Int
  | 0 => [0]
  | s + 1 => ltT t w d n s ++ [scanL w d (ltT t w d n s) (bsum t (s + 1) n) (s + 1) n]
def ltX (t w d : Nat → Int) (n : Nat) (s : Nat) : Int := (ltT t w d n s).getD s 0
theorem ltT_len (t w d : Nat → Int) (n : Nat) : ∀ s, (ltT t w d n s).length = s + 1
  | 0 => rfl
  | s + 1 => by rw [ltT, List.length_append, ltT_len t w d n s]; rfl
theorem ltT_get (t w d : Nat → Int) (n : Nat) (s : Nat) : ∀ q, (ltT t w d n (s + q)).getD s 0 = ltX t w d n s
  | 0 => rfl
  | q + 1 => by
    have h := ltT_len t w d n (s + q)
    rw [show s + (q + 1) = (s + q) + 1 by omega, ltT, ← ltT_get t w d n s q]
    simp only [List.getD_eq_getElem?_getD]
    rw [List.getElem?_append_left (by omega)]
theorem ltT_at {t w d : Nat → Int} {n s m : Nat} (h : s ≤ m) : (ltT t w d n m).getD s 0 = ltX t w d n s := by
  have := ltT_get t w d n s (m - s); rwa [show s + (m - s) = m by omega] at this
theorem ltX_succ (t w d : Nat → Int) (n s : Nat) : ltX t w d n (s + 1) = scanL w d (ltT t w d n s) (bsum t (s + 1) n) (s + 1) n := by
  have h := ltT_len t w d n s
  unfold ltX
  rw [ltT]
  simp only [List.getD_eq_getElem?_getD]
  rw [List.getElem?_append_right (by omega), show s + 1 - (ltT t w d n s).length = 0 by omega]
  rfl
theorem tardG_nn {w d : Nat → Int} (hw : ∀ x, 0 ≤ w x) (x : Nat) (c : Int) : 0 ≤ tardG w d x c := Int.mul_nonneg (hw x) (by omega)
theorem tardG_mono {w d : Nat → Int} (hw : ∀ x, 0 ≤ w x) (x : Nat) {c c' : Int} (h : c ≤ c') : tardG w d x c ≤ tardG w d x c' := Int.mul_le_mul_of_nonneg_left (by omega) (hw x)
theorem scanL_le {w d : Nat → Int} {tb : List Int} {tm : Int} {s : Nat} (hw : ∀ x, 0 ≤ w x) (htb : ∀ q, 0 ≤ tb.getD q 0) : ∀ n i, i < n → s.testBit i = true → 0 ≤ scanL w d tb tm s n ∧ scanL w d tb tm s n ≤ tb.getD (s - 2 ^ i) 0 + tardG w d i tm
  | n + 1, i, hi, hb => by
    have h0 := htb (s - 2 ^ n)
    have h1 := tardG_nn (d := d) hw n tm
    rw [scanL]
    rcases Nat.lt_or_eq_of_le (Nat.le_of_lt_succ hi) with h | rfl
    · have := scanL_le (d := d) (tm := tm) hw htb n i h hb
      split
      · rename_i h2; omega
      · exact this
    · split
      · omega
      · rename_i h2; have h3 := not_and.mp h2 hb; omega
theorem scanL_get {w d : Nat → Int} {tb : List Int} {tm : Int} {s : Nat} : ∀ n, 0 ≤ scanL w d tb tm s n → ∃ i, i < n ∧ s.testBit i = true ∧ scanL w d tb tm s n = tb.getD (s - 2 ^ i) 0 + tardG w d i tm
  | 0, h => by simp [scanL] at h
  | n + 1, h => by
    rw [scanL] at h ⊢
    split at h
    · rename_i h2; rw [if_pos h2]; exact ⟨n, by omega, h2.1, rfl⟩
    · rename_i h2; rw [if_neg h2]; obtain ⟨i, hi, h3, h4⟩ := scanL_get n h; exact ⟨i, by omega, h3, h4⟩
theorem low_bit {s n : Nat} (h0 : s ≠ 0) (h : s < 2 ^ n) : ∃ i, i < n ∧ s.testBit i = true := by
  obtain ⟨i, hi⟩ := Nat.exists_testBit_of_ne_zero h0
  refine ⟨i, ?_, hi⟩
  rcases Nat.lt_or_ge i n with h1 | h1
  · exact h1
  · rw [Nat.testBit_lt_two_pow (Nat.lt_of_lt_of_le h (Nat.pow_le_pow_right (by omega) h1))] at hi; cases hi
theorem ge_bit {s i : Nat} (h : s.testBit i = true) : 2 ^ i ≤ s := Nat.ge_two_pow_of_testBit h
/-- a set without one of its jobs -/
theorem sub_bit {s i : Nat} (h : s.testBit i = true) (q : Nat) : (s - 2 ^ i).testBit q = (s.testBit q && !decide (q = i)) := by
  have h1 : (s ^^^ 2 ^ i).testBit i = false := by rw [Nat.testBit_xor, h, Nat.testBit_two_pow_self]; rfl
  have h2 : (s ^^^ 2 ^ i) + 2 ^ i = s := by
    apply Nat.eq_of_testBit_eq; intro j
    rw [add_bit h1, Nat.testBit_xor, Nat.testBit_two_pow]
    by_cases hj : i = j
    · subst hj; simp [h]
    · simp [hj, Ne.symm hj]
  have e : s - 2 ^ i = s ^^^ 2 ^ i := by omega
  rw [e, Nat.testBit_xor, Nat.testBit_two_pow]
  by_cases hq : i = q
  · subst hq; simp [h]
  · simp [hq, Ne.symm hq]
theorem bsum_nn {f : Nat → Int} (hf : ∀ x, 0 ≤ f x) (s : Nat) : ∀ n, 0 ≤ bsum f s n
  | 0 => Int.le_refl _
  | n + 1 => by have := bsum_nn hf s n; have := hf n; rw [bsum]; split <;> omega
theorem bsum_congr {f : Nat → Int} {s r : Nat} : ∀ n, (∀ i, i < n → s.testBit i = r.testBit i) → bsum f s n = bsum f r n
  | 0, _ => rfl
  | n + 1, h => by rw [bsum, bsum, bsum_congr n (fun i hi => h i (by omega)), h n (by omega)]
theorem bsum_sub {f : Nat → Int} {s i : Nat} (h : s.testBit i = true) : ∀ n, bsum f (s - 2 ^ i) n = bsum f s n - (if i < n then f i else 0)
  | 0 => by simp [bsum]
  | n + 1 => by
    rw [bsum, bsum, bsum_sub h n, sub_bit h]
    by_cases e : n = i
    · subst e; simp [h]
    · by_cases h2 : i < n
      · rw [if_pos h2, if_pos (show i < n + 1 by omega)]; simp [e]; omega
      · rw [if_neg h2, if_neg (show ¬ i < n + 1 by omega)]; simp [e]
theorem ltX_nn {t w d : Nat → Int} (hw : ∀ x, 0 ≤ w x) {n : Nat} : ∀ N s, s ≤ N → s < 2 ^ n → 0 ≤ ltX t w d n s
  | _, 0, _, _ => Int.le_refl _
  | N + 1, s + 1, hN, hs => by
    have htb : ∀ q, 0 ≤ (ltT t w d n s).getD q 0 := fun q => by
      rcases Nat.lt_or_ge s q with h | h
      · rw [List.getD_eq_getElem?_getD, List.getElem?_eq_none (by rw [ltT_len]; omega)]; simp
      · rw [ltT_at h]; exact ltX_nn hw N q (by omega) (by omega)
    obtain ⟨i, hi, hb⟩ := low_bit (show s + 1 ≠ 0 by omega) hs
    rw [ltX_succ]
    exact (scanL_le hw htb n i hi hb).1
theorem ltX_le {t w d : Nat → Int} (hw : ∀ x, 0 ≤ w x) {n s i : Nat} (hs : s < 2 ^ n) (hi : i < n) (hb : s.testBit i = true) : ltX t w d n s ≤ ltX t w d n (s - 2 ^ i) + tardG w d i (bsum t s n) := by
  have hg := ge_bit hb
  have hp := Nat.two_pow_pos i
  obtain ⟨s, rfl⟩ : ∃ r, s = r + 1 := ⟨s - 1, by omega⟩
  have htb : ∀ q, 0 ≤ (ltT t w d n s).getD q 0 := fun q => by
    rcases Nat.lt_or_ge s q with h | h
    · rw [List.getD_eq_getElem?_getD, List.getElem?_eq_none (by rw [ltT_len]; omega)]; simp
    · rw [ltT_at h]; exact ltX_nn hw s q (by omega) (by omega)
  have := (scanL_le (d := d) (tm := bsum t (s + 1) n) hw htb n i hi hb).2
  rw [ltT_at (show s + 1 - 2 ^ i ≤ s by omega)] at this
  rw [ltX_succ]; exact this
theorem ltX_get {t w d : Nat → Int} (hw : ∀ x, 0 ≤ w x) {n s : Nat} (h0 : s ≠ 0) (hs : s < 2 ^ n) : ∃ i, i < n ∧ s.testBit i = true ∧ ltX t w d n s = ltX t w d n (s - 2 ^ i) + tardG w d i (bsum t s n) := by
  have h1 := ltX_nn (t := t) (d := d) hw s s (Nat.le_refl _) hs
  obtain ⟨s, rfl⟩ : ∃ r, s = r + 1 := ⟨s - 1, by omega⟩
  rw [ltX_succ] at h1
  obtain ⟨i, hi, hb, e⟩ := scanL_get n h1
  have := Nat.two_pow_pos i
  exact ⟨i, hi, hb, by rw [ltX_succ, e, ltT_at (show s + 1 - 2 ^ i ≤ s by omega)]⟩
/-- the set of some jobs -/
def setOf : List Nat → Nat
  | [] => 0
  | x :: l => setOf l + 2 ^ x
theorem setOf_bit : ∀ {l : List Nat}, l.Nodup → ∀ q, (setOf l).testBit q = decide (q ∈ l)
  | [], _, q => by simp [setOf]
  | x :: l, h, q => by
    obtain ⟨h1, h2⟩ := List.nodup_cons.1 h
    have hx : (setOf l).testBit x = false := by rw [setOf_bit h2]; simpa using h1
    rw [setOf, add_bit hx, setOf_bit h2]
    by_cases e : q = x
    · subst e; simp
    · simp [e]
theorem setOf_lt {l : List Nat} (h : l.Nodup) {n : Nat} (hl : ∀ x ∈ l, x < n) : setOf l < 2 ^ n :=
  Nat.lt_pow_two_of_testBit _ fun i hi => by
    rw [setOf_bit h]
    simp only [decide_eq_false_iff_not]
    intro hm; have := hl i hm; omega
theorem setOf_snoc {l : List Nat} {x : Nat} (h : (l ++ [x]).Nodup) : (setOf (l ++ [x])).testBit x = true ∧ setOf (l ++ [x]) - 2 ^ x = setOf l := by
  have h1 := List.nodup_append.1 h
  have hx : x ∉ l := fun hm => h1.2.2 x hm x (by simp) rfl
  have hb : (setOf (l ++ [x])).testBit x = true := by rw [setOf_bit h]; simp
  refine ⟨hb, ?_⟩
  apply Nat.eq_of_testBit_eq; intro q
  rw [sub_bit hb, setOf_bit h, setOf_bit h1.1]
  by_cases e : q = x
  · subst e; simp [hx]
  · simp [e]
theorem bsum_none (f : Nat → Int) : ∀ n, bsum f 0 n = 0
  | 0 => rfl
  | n + 1 => by rw [bsum, bsum_none f n]; simp
theorem bsum_set {f : Nat → Int} {n : Nat} (l : List Nat) : l.Nodup → (∀ x ∈ l, x < n) → bsum f (setOf l) n = sumL f l := by
  refine snoc_ind (P := fun l => l.Nodup → (∀ x ∈ l, x < n) → bsum f (setOf l) n = sumL f l) ?_ ?_ l
  · intro _ _
    exact bsum_none f n
  · intro l x ih h hl
    obtain ⟨hb, he⟩ := setOf_snoc h
    have h1 := List.nodup_append.1 h
    have h2 := bsum_sub (f := f) hb n
    rw [he, ih h1.1 (fun y hy => hl y (List.mem_append_left _ hy)), if_pos (hl x (by simp))] at h2
    rw [sumL_append, sumL, sumL]; omega
theorem lt_le {t w d : Nat → Int} (hw : ∀ x, 0 ≤ w x) {n : Nat} (l : List Nat) : l.Nodup → (∀ x ∈ l, x < n) → ltX t w d n (setOf l) ≤ costG t (tardG w d) 0 l := by
  refine snoc_ind (P := fun l => l.Nodup → (∀ x ∈ l, x < n) → ltX t w d n (setOf l) ≤ costG t (tardG w d) 0 l) ?_ ?_ l
  · intro _ _; exact Int.le_refl _
  · intro l x ih h hl
    obtain ⟨hb, he⟩ := setOf_snoc h
    have h1 := List.nodup_append.1 h
    have h2 := ltX_le (t := t) (d := d) hw (setOf_lt h hl) (hl x (by simp)) hb
    have h3 := ih h1.1 (fun y hy => hl y (List.mem_append_left _ hy))
    rw [he, bsum_set _ h hl, sumL_append, sumL, sumL] at h2
    rw [costG_snoc]
    have e : 0 + sumL t l + t x = sumL t l + (t x + 0) := by omega
    rw [e]; omega
theorem lt_is {t w d : Nat → Int} (hw : ∀ x, 0 ≤ w x) {n : Nat} : ∀ N s, s ≤ N → s < 2 ^ n → ∃ l : List Nat, l.Nodup ∧ (∀ x ∈ l, x < n) ∧ setOf l = s ∧ costG t (tardG w d) 0 l = ltX t w d n s
  | _, 0, _, _ => ⟨[], List.nodup_nil, fun x hx => (by cases hx), rfl, rfl⟩
  | N + 1, s + 1, hN, hs => by
    obtain ⟨i, hi, hb, he⟩ := ltX_get (t := t) (d := d) hw (show s + 1 ≠ 0 by omega) hs
    have hp := Nat.two_pow_pos i
    have hg := ge_bit hb
    obtain ⟨l, hn, hl, hset, hc⟩ := lt_is (t := t) (d := d) (n := n) hw N (s + 1 - 2 ^ i) (by omega) (by omega)
    have hil : i ∉ l := fun hm => by
      have h1 := setOf_bit hn i
      rw [hset, sub_bit hb] at h1
      simp [hm] at h1
    have hn2 : (l ++ [i]).Nodup := List.nodup_append.2 ⟨hn, by simp, fun a ha b hb2 e => hil (by rw [← List.mem_singleton.1 hb2, ← e]; exact ha)⟩
    have hl2 : ∀ x ∈ l ++ [i], x < n := fun x hx => by
      rcases List.mem_append.1 hx with h1 | h1
      · exact hl x h1
      · rw [List.mem_singleton.1 h1]; exact hi
    obtain ⟨hb2, he2⟩ := setOf_snoc hn2
    have hg2 := ge_bit hb2
    have hs2 : setOf (l ++ [i]) = s + 1 := by omega
    refine ⟨l ++ [i], hn2, hl2, hs2, ?_⟩
    have h2 := bsum_set (f := t) _ hn2 hl2
    rw [hs2] at h2
    rw [costG_snoc, hc, he, h2, sumL_append, sumL, sumL]
    have e : 0 + sumL t l + t i = sumL t l + (t i + 0) := by omega
    rw [e]
/-- the least lateness over all orders -/
def LeastL (t w d : Nat → Int) (n : Nat) (v : Int) : Prop := (∃ l : List Nat, l.Perm (List.range n) ∧ costG t (tardG w d) 0 l = v) ∧ ∀ l : List Nat, l.Perm (List.range n) → v ≤ costG t (tardG w d) 0 l
theorem setOf_range {l : List Nat} {n : Nat} (hn : l.Nodup) (hl : ∀ x ∈ l, x < n) : setOf l = 2 ^ n - 1 ↔ l.Perm (List.range n) := by
  constructor
  · intro h
    refine (List.perm_ext_iff_of_nodup hn List.nodup_range).2 fun x => ?_
    rw [List.mem_range]
    refine ⟨hl x, fun hx => ?_⟩
    have h1 := setOf_bit hn x
    rw [h, Nat.testBit_two_pow_sub_one] at h1
    simpa [hx] using h1.symm
  · intro h
    apply Nat.eq_of_testBit_eq; intro x
    rw [setOf_bit hn, Nat.testBit_two_pow_sub_one]
    apply decide_eq_decide.mpr
    rw [h.mem_iff, List.mem_range]
theorem ltX_least {t w d : Nat → Int} (hw : ∀ x, 0 ≤ w x) (n : Nat) : LeastL t w d n (ltX t w d n (2 ^ n - 1)) := by
  have hp := Nat.two_pow_pos n
  constructor
  · obtain ⟨l, hn, hl, hs, hc⟩ := lt_is (t := t) (d := d) (n := n) hw (2 ^ n - 1) (2 ^ n - 1) (Nat.le_refl _) (by omega)
    exact ⟨l, (setOf_range hn hl).1 hs, hc⟩
  · intro l h
    have hn : l.Nodup := h.symm.nodup List.nodup_range
    have hl : ∀ x ∈ l, x < n := fun x hx => by have := h.mem_iff.1 hx; simpa using this
    have := lt_le (t := t) (d := d) hw l hn hl
    rwa [(setOf_range hn hl).2 h] at this
theorem least_less {t w d : Nat → Int} (ht : ∀ x, 0 ≤ t x) (hw : ∀ x, 0 ≤ w x) {n : Nat} {u v : Int} (h : LeastL t w d (n + 1) v) (g : LeastL t w d n u) : u ≤ v := by
  obtain ⟨⟨l, hl, rfl⟩, _⟩ := h
  have hn : l.Nodup := hl.symm.nodup List.nodup_range
  have hp : (l.filter (fun x => decide (x < n))).Perm (List.range n) := by
    refine (List.perm_ext_iff_of_nodup (hn.sublist List.filter_sublist) List.nodup_range).2 fun x => ?_
    rw [List.mem_filter, hl.mem_iff, List.mem_range, List.mem_range, decide_eq_true_eq]; omega
  exact Int.le_trans (g.2 _ hp) (costG_filter ht (fun x c c' h => tardG_mono hw x h) (tardG_nn hw) _ l 0 0 (Int.le_refl _))
end Go.Proofs.Ythmifadnfaajbad
namespace Go.Proofs.Ythmifadnfaajbad
open Go.RowKit Go.WideShapes

-- jobs of one machine
def jobB (r : List Int) : Bool := r.length == 3 && (inB 1 9 (r.getD 0 0) && (inB 0 9 (r.getD 1 0) && inB 0 60 (r.getD 2 0)))
def jobsM (rows : List (List Int)) : Bool := rows.all jobB && decide (rows.length ≤ 8)
theorem jobs_false {rows : List (List Int)} {k : Nat} {r : List Int} (h : rows[k]? = some r) (hr : jobB r = false) : jobsM rows = false := by
  unfold jobsM
  rw [List.all_eq_false.2 ⟨r, List.mem_of_getElem? h, by rw [hr]; simp⟩]; rfl
theorem jobs_get {rows : List (List Int)} (h : jobsM rows = true) : rows.length ≤ 8 ∧ ∀ r ∈ rows, r.length = 3 ∧ (1 ≤ r.getD 0 0 ∧ r.getD 0 0 ≤ 9) ∧ (0 ≤ r.getD 1 0 ∧ r.getD 1 0 ≤ 9) ∧ (0 ≤ r.getD 2 0 ∧ r.getD 2 0 ≤ 60) := by
  simp only [jobsM, Bool.and_eq_true, decide_eq_true_eq, List.all_eq_true] at h
  refine ⟨h.2, fun r hr => ?_⟩
  have := h.1 r hr
  simp only [jobB, Bool.and_eq_true, beq_iff_eq] at this
  exact ⟨this.1, by simpa [inB] using this.2.1, by simpa [inB] using this.2.2.1, by simpa [inB] using this.2.2.2⟩
/-- the due time of a job -/
def td (rows : List (List Int)) (x : Nat) : Int := (rows.getD x []).getD 2 0
theorem j_bd {rows : List (List Int)} (h : jobsM rows = true) (x : Nat) : (0 ≤ ta rows x ∧ ta rows x ≤ 9) ∧ (0 ≤ tb rows x ∧ tb rows x ≤ 9) ∧ (0 ≤ td rows x ∧ td rows x ≤ 60) := by
  obtain ⟨_, h2⟩ := jobs_get h
  unfold ta tb td
  rcases Nat.lt_or_ge x rows.length with hx | hx
  · rw [List.getD_eq_getElem?_getD (l := rows), List.getElem?_eq_getElem hx]
    have := h2 rows[x] (List.getElem_mem hx)
    exact ⟨⟨Int.le_trans (by omega) this.2.1.1, this.2.1.2⟩, this.2.2.1, this.2.2.2⟩
  · rw [List.getD_eq_getElem?_getD (l := rows), List.getElem?_eq_none hx]; simp
theorem j_pos {rows : List (List Int)} (h : jobsM rows = true) {x : Nat} (hx : x < rows.length) : 1 ≤ ta rows x := by
  unfold ta
  rw [List.getD_eq_getElem?_getD (l := rows), List.getElem?_eq_getElem hx]
  exact ((jobs_get h).2 rows[x] (List.getElem_mem hx)).2.1.1
theorem j_at {rows : List (List Int)} {x : Nat} {r : List Int} (h : rows[x]? = some r) : ta rows x = r.getD 0 0 ∧ tb rows x = r.getD 1 0 ∧ td rows x = r.getD 2 0 := by
  unfold ta tb td; rw [List.getD_eq_getElem?_getD (l := rows), h]; exact ⟨rfl, rfl, rfl⟩
/-- where a job's row stands -/
theorem row3_at {w : World} {S : Nat → Prop} {a : Option Addr} {len : Nat} {rows : List (List Int)} (h : RowsAt w S a len rows) (hP : ∀ r ∈ rows, r.length = 3 ∧ (1 ≤ r.getD 0 0 ∧ r.getD 0 0 ≤ 9) ∧ (0 ≤ r.getD 1 0 ∧ r.getD 1 0 ≤ 9) ∧ (0 ≤ r.getD 2 0 ∧ r.getD 2 0 ≤ 60)) {q : Nat} (hq : q < len) :
    ∃ (b2 off2 b3 off3 c : Nat), a = some ⟨b2, off2, none⟩ ∧
      w.cell? ⟨b2, off2 + q, none⟩ = some (.slice (some ⟨b3, off3, none⟩) 3 c) ∧ w.cell? ⟨b3, off3, none⟩ = some (.int .i64 (ta rows q)) ∧ w.cell? ⟨b3, off3 + 1, none⟩ = some (.int .i64 (tb rows q)) ∧ w.cell? ⟨b3, off3 + 2, none⟩ = some (.int .i64 (td rows q)) ∧ 3 ≤ c := by
  obtain ⟨b2, off2, r, a', l, c, rfl, hr, hcr, hlc, hri⟩ := h.get hq
  obtain ⟨hr3, _⟩ := hP r (List.mem_of_getElem? hr)
  have hl3 : l = 3 := by rw [← hri.lenEq, hr3]
  subst hl3
  obtain ⟨b3, off3, x3, rfl, h3, hc3⟩ := hri.get (k := 0) (by omega)
  obtain ⟨b4, off4, x4, e4, h4, hc4⟩ := hri.get (k := 1) (by omega)
  cases e4
  obtain ⟨b5, off5, x5, e5, h5, hc5⟩ := hri.get (k := 2) (by omega)
  cases e5
  have ht := j_at hr
  rw [getD_of h3, getD_of h4, getD_of h5] at ht
  rw [Nat.add_zero] at hc3
  exact ⟨b2, off2, b3, off3, c, rfl, hcr, by rw [ht.1]; exact hc3, by rw [ht.2.1]; exact hc4, by rw [ht.2.2]; exact hc5, hlc⟩
theorem row3_mem {w : World} {a : Option Addr} {n len : Nat} {rows : List (List Int)} (h : RowsAt w (· < n) a len rows) (hP : ∀ r ∈ rows, r.length = 3 ∧ (1 ≤ r.getD 0 0 ∧ r.getD 0 0 ≤ 9) ∧ (0 ≤ r.getD 1 0 ∧ r.getD 1 0 ≤ 9) ∧ (0 ≤ r.getD 2 0 ∧ r.getD 2 0 ≤ 60)) {q b off b3 off3 c : Nat} (hq : q < len)
    (hc : w.cell? ⟨b, off + q, none⟩ = some (.slice (some ⟨b3, off3, none⟩) 3 c)) (ha : a = some ⟨b, off, none⟩ := by rfl) : b3 < n := by
  obtain ⟨b2, off2, r, a', l, c', e, hr, hcr, hlc, hri⟩ := h.get hq
  rw [ha] at e
  cases e
  rw [hcr] at hc
  cases hc
  exact hri.mem (by omega)
theorem ord_at {w : World} {T : Nat → Prop} {a2 : Option Addr} {len2 n : Nat} {o : List Int} (g : IntsAt w T a2 len2 o) (ho : ∀ x ∈ o, 0 ≤ x ∧ x < (n : Int)) {k : Nat} (hk : k < len2) :
    ∃ (b off q : Nat), a2 = some ⟨b, off, none⟩ ∧ (nO o)[k]? = some q ∧ q < n ∧ w.cell? ⟨b, off + k, none⟩ = some (.int .i64 (q : Int)) := by
  obtain ⟨b, off, x, rfl, hx, hc⟩ := g.get hk
  have hxb := ho x (List.mem_of_getElem? hx)
  obtain ⟨q, rfl⟩ : ∃ q : Nat, x = (q : Int) := ⟨x.toNat, by omega⟩
  exact ⟨b, off, q, rfl, by unfold nO; rw [List.getElem?_map, hx]; simp, by omega, hc⟩
/-- jobs in an order -/
def rowFine (rows : List (List Int)) (o : List Int) : Bool := jobsM rows && orderM o rows.length
theorem rowFine_get {rows : List (List Int)} {o : List Int} (h : rowFine rows o = true) : jobsM rows = true ∧ orderP o rows.length := by
  simp only [rowFine, Bool.and_eq_true] at h; exact ⟨h.1, orderM_get h.2⟩
/-- when the jobs are done -/
def endsL (t : Nat → Int) (l : List Nat) (k : Nat) : List Int := tab (fun j => sumL t (l.take (j + 1))) k
theorem sum_snoc {f : Nat → Int} {l : List Nat} {k q : Nat} (h : l[k]? = some q) : sumL f (l.take (k + 1)) = sumL f (l.take k) + f q := by
  rw [take_get h, sumL_append, sumL, sumL, Int.add_zero]
theorem sum_bd {f : Nat → Int} {B : Int} (h : ∀ x, 0 ≤ f x ∧ f x ≤ B) (l : List Nat) (k : Nat) : 0 ≤ sumL f (l.take k) ∧ sumL f (l.take k) ≤ B * ((l.take k).length : Int) :=
  ⟨sumL_nn (fun x => (h x).1) _, sumL_bd (fun x => (h x).2) _⟩
end Go.Proofs.Ythmifadnfaajbad
namespace Go.Proofs.Ythmifadnfaajbad
open Go.RowKit Go.WideShapes

def srtI (ah : Nat → Nat → Bool) (n : Nat) : List Int := (sortE ah n).map (fun x : Nat => (x : Int))
theorem srtI_len (ah : Nat → Nat → Bool) (n : Nat) : (srtI ah n).length = n := by unfold srtI; rw [List.length_map, sortE_len]
theorem srtI_get {ah : Nat → Nat → Bool} {n k : Nat} {x : Int} (h : (srtI ah n)[k]? = some x) : ∃ y : Nat, x = (y : Int) ∧ y < n ∧ (sortE ah n).getD k 0 = y := by
  unfold srtI at h
  rw [List.getElem?_map] at h
  cases hq : (sortE ah n)[k]? with
  | none => rw [hq] at h; cases h
  | some y =>
    rw [hq] at h
    simp only [Option.map_some, Option.some.injEq] at h
    exact ⟨y, h.symm, sortE_mem.1 (List.mem_of_getElem? hq), by rw [List.getD_eq_getElem?_getD, hq]; rfl⟩
theorem srtI_succ {ah : Nat → Nat → Bool} {n k : Nat} (h1 : ∀ m, k ≤ m → m < n → ah n ((sortE ah n).getD m 0) = true) (h2 : 0 < k → ah n ((sortE ah n).getD (k - 1) 0) = false) (hk : k ≤ n) :
    srtI ah (n + 1) = (srtI ah n).take k ++ [(n : Int)] ++ (srtI ah n).drop k := by
  have hb : backK (ah n) (sortE ah n) (sortE ah n).length = k := backK_is (by rw [sortE_len]; exact hk) (fun m hm hm2 => h1 m hm (by rw [sortE_len] at hm2; exact hm2)) h2
  unfold srtI
  show List.map _ (insE ah n (sortE ah n)) = _
  unfold insE
  rw [hb]
  simp
end Go.Proofs.Ythmifadnfaajbad
namespace Go.Proofs.Ythmifadnfaajbad
open Go.RowKit Go.WideShapes

theorem OwnF.keepC {w wr w' : World} {len : Nat} {f : Nat → Int} {row : Option Nat} (h : OwnF w wr len f) (hg : wr.grownBy w' row) (hr : ∀ k, row = some k → w.heap.size + 1 ≤ k) : OwnF w w' len f :=
  ⟨h.own.kept hg (.inr (fun e => by have := hr w.heap.size e.symm; omega)), h.below.grown hg h.below.size (fun k hk => by have := hr k hk; omega)⟩
theorem fitS_zero {T : Nat → Int} {R : Int} {o : Nat → Nat} : (fitS T R o 0).1 = [] ∧ (fitS T R o 0).2 = fun _ => 0 := ⟨rfl, rfl⟩
theorem fit_hi {T : Nat → Int} {R : Int} {n : Nat} {l : List Nat} (hT : ∀ i, i < n → 1 ≤ T i ∧ T i ≤ R) (h : l.Perm (List.range n)) {t : Nat} (ht : t ≤ n) : (fitS T R (ordO l) t).1.length ≤ t ∧ ∀ b, b < (fitS T R (ordO l) t).1.length → 0 ≤ (fitS T R (ordO l) t).1.getD b 0 ∧ (fitS T R (ordO l) t).1.getD b 0 ≤ R := by
  obtain ⟨i1, i2, i3, i4, i5⟩ := roll_inv hT h ht
  refine ⟨?_, fun b hb => ⟨i4 b hb, ?_⟩⟩
  · clear i1 i2 i3 i4 i5
    have key : ∀ t, usedM T R (ordO l) t ≤ t := fun t => by
      induction t with
      | zero => simp [usedM, fitS]
      | succ t ih => rcases used_step T R (ordO l) t with e | ⟨e, _⟩ <;> omega
    exact key t
  · have := i3 b hb
    have h2 := wsum_nn (f := fun j => T (ordO l j)) (P := fun j => (fitS T R (ordO l) t).2 (ordO l j) == b) t (fun j hj => by have := (hT _ (perm_lt h (show j < n by omega))).1; show 0 ≤ T (l.getD j 0); omega)
    omega
end Go.Proofs.Ythmifadnfaajbad
namespace Go.Proofs.Ythmifadnfaajbad
open Go.RowKit Go.WideShapes

/-- length x stands ahead of y: y is shorter -/
def ahL (xs : List Int) (x y : Nat) : Bool := decide (xs.getD y 0 < xs.getD x 0)
end Go.Proofs.Ythmifadnfaajbad
namespace Go.Proofs.Ythmifadnfaajbad
open Go.RowKit Go.WideShapes

def isLong (kind : ByteArray) : Bool := kind.toList == [108, 111, 110, 103]
def isFirst (kind : ByteArray) : Bool := kind.toList == [102, 105, 114, 115, 116]
theorem long_not_first {kind : ByteArray} (h : isLong kind = true) : isFirst kind = false := by
  unfold isLong at h
  unfold isFirst
  rw [beq_iff_eq] at h
  rw [h]; rfl
theorem l_isLong : isLong ⟨#[108, 111, 110, 103]⟩ = true := by kernel_rfl
theorem f_isFirst : isFirst ⟨#[102, 105, 114, 115, 116]⟩ = true := by kernel_rfl
def upI (n : Nat) : List Int := (List.range n).map (fun x : Nat => (x : Int))
theorem upI_get (n j : Nat) (h : j < n) : (upI n).getD j 0 = (((List.range n).getD j 0 : Nat) : Int) := by
  unfold upI
  simp [List.getD_eq_getElem?_getD, h]
theorem srtI_getD (ah : Nat → Nat → Bool) (n j : Nat) (h : j < n) : (srtI ah n).getD j 0 = (((sortE ah n).getD j 0 : Nat) : Int) := by
  have := sortE_len ah n
  unfold srtI
  simp [List.getD_eq_getElem?_getD, this, h]
theorem upI_succ (n : Nat) : upI (n + 1) = upI n ++ [(n : Int)] := by unfold upI; rw [List.range_succ, List.map_append]; rfl
/-- the order in which the kind cuts -/
def cutOrd (xs : List Int) (kind : ByteArray) : List Nat := if isLong kind then sortE (ahL xs) xs.length else List.range xs.length
theorem cutOrd_perm (xs : List Int) (kind : ByteArray) : (cutOrd xs kind).Perm (List.range xs.length) := by
  unfold cutOrd; split
  · exact sortE_perm _ _
  · exact List.Perm.refl _
/-- what RollsBy answers -/
def rollRes (xs : List Int) (R : Int) (kind : ByteArray) : List Int := if cutsM xs R && (isLong kind || isFirst kind) then tab (fun i => (rollP (lenT xs) R (cutOrd xs kind) xs.length i : Int)) xs.length else []
end Go.Proofs.Ythmifadnfaajbad
