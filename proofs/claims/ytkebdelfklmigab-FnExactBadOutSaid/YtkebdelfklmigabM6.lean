import Derived.Test.YtkebdelfklmigabRows
import Derived.WalkKit
import Derived.Outline
import Derived.ProofKit
import Derived.Lib.Hide
import Derived.Test.YtkebdelfklmigabM0
import Derived.Test.YtkebdelfklmigabM1
import Derived.Test.YtkebdelfklmigabM2
import Derived.Test.YtkebdelfklmigabM5
import Derived.LoopTactic
import Derived.WalkSpells
import Derived.WalkLawsBesides
import Derived.IntWalk
import Derived.Deep.QuietTactic
import Derived.BigQuiet
namespace Go.Proofs.Ytkebdelfklmigab
open Go.RowKit Go.WideShapes

theorem grown_r9 {w w1 w2 : World} {R : Nat} (h : w.grownBy w1 none) (g : w1.grownBy w2 (some R)) : w.grownBy w2 (some R) :=
  ⟨g.os.trans h.os, g.tape.trans h.tape, g.output.trans h.output, Nat.le_trans h.size g.size, fun k hk hr => (g.block k (Nat.lt_of_lt_of_le hk h.size) hr).trans (h.block k hk (by simp))⟩
def Drawn4 (w : World) (e : Ending) (w' : World) : Prop := ∃ x0 x1 x2 x3 : Int, e = .returned (.tuple #[.int .i64 x0, .int .i64 x1, .int .i64 x2, .int .i64 x3]) ∧ -1 ≤ x0 ∧ x0 ≤ 13 ∧ -1 ≤ x1 ∧ x1 ≤ 14 ∧ -1 ≤ x2 ∧ x2 ≤ 14 ∧ -1 ≤ x3 ∧ x3 ≤ 14 ∧ Below w.heap.size w w'
def Drawn2 (w : World) (e : Ending) (w' : World) : Prop := ∃ x0 x1 : Int, e = .returned (.tuple #[.int .i64 x0, .int .i64 x1]) ∧ -1 ≤ x0 ∧ x0 ≤ 13 ∧ -1 ≤ x1 ∧ x1 ≤ 14 ∧ Below w.heap.size w w'
def Drawn5 (w : World) (e : Ending) (w' : World) : Prop := ∃ x0 x1 x2 x3 x4 : Int, e = .returned (.tuple #[.int .i64 x0, .int .i64 x1, .int .i64 x2, .int .i64 x3, .int .i64 x4]) ∧ -1 ≤ x0 ∧ x0 ≤ 13 ∧ -1 ≤ x1 ∧ x1 ≤ 14 ∧ -1 ≤ x2 ∧ x2 ≤ 14 ∧ 0 ≤ x3 ∧ x3 ≤ 41 ∧ 0 ≤ x4 ∧ x4 ≤ 40 ∧ Below w.heap.size w w'
theorem below_of_g {w w1 w2 : World} (h : Below w.heap.size w w1) (g : w1.grownBy w2 (some w.heap.size)) : Below w.heap.size w w2 :=
  h.trans ⟨g.os, g.tape, g.output, g.size, fun k hk => g.block k (Nat.lt_of_lt_of_le hk h.size) (by simp; omega)⟩
set_option maxRecDepth 100000 in
set_option maxHeartbeats 2000000 in
theorem drawPassChance_any (a : Option Addr) (len cap : Nat) (w : World) (hb : BytesAt w w.heap.size a len) (hl : len ≤ cap) (hs : len ≤ 9223372036854775807) :
    Calls Try.prog 7 #[.slice a len cap] w (Drawn4 w) := by
  go_enter Try.func7, Try.ntmps7
  go_wp2_with fail
  refine (newReader_any a len cap w hb hl hs).mono ?_
  rintro e w1 ⟨rfl, hr1, hb1⟩
  have HB1 := Lib.hid hb1
  clear hb1 hb
  go_wp2_with fail
  refine (one_any (fun b => b = w1.heap.size) w.heap.size (0) _ 8 8 [8, 6, 10, 12, 3, 1, 0, 13] _ (hr1.alloc _) (IntsAt.lit rfl rfl rfl (by omega)) (by intro b hb; have := hr1.lt; simp; omega) (by omega) (by omega)).mono ?_
  rintro e w2 ⟨x0, hx, rfl, hr2, hg2⟩
  have B0 : 0 ≤ x0 ∧ x0 ≤ 13 := by simp only [List.mem_cons, List.not_mem_nil, or_false] at hx; omega
  have hh2 := grown_r9 (World.grownBy_alloc w1 _ _) hg2
  clear hx hg2
  obtain ⟨mx, rfl⟩ : ∃ mx : Nat, x0 = (mx : Int) := ⟨x0.toNat, by omega⟩
  have hm13 : mx ≤ 13 := by omega
  clear B0
  have hG2 := hh2
  clear hh2
  clear hr1
  go_wp2_with fail
  refine (pick_any w.heap.size (0 + 1) ((mx : Int) + 1) w2 hr2 (by omega)).mono ?_
  rintro e w3 ⟨k2, rfl, hk2, hr3, hh3⟩
  have hk2m : (k2 : Int) ≤ (mx : Int) := by omega
  clear hk2
  have hG3 := grown_trans hG2 hh3 (by intro k e; injection e with e; exact .inl e.symm)
  clear hG2
  clear hh3
  clear hr2
  go_wp2_with fail
  refine (one_any (fun b => b = w3.heap.size) w.heap.size (0 + 1 + 1) _ 5 5 [2, (k2 : Int), 0, (mx : Int), -1] _ (hr3.alloc _) (IntsAt.lit rfl rfl rfl (by omega)) (by intro b hb; have := hr3.lt; simp; omega) (by omega) (by omega)).mono ?_
  rintro e w4 ⟨x1, hx, rfl, hr4, hg4⟩
  have B1 : -1 ≤ x1 ∧ x1 ≤ 14 := by simp only [List.mem_cons, List.not_mem_nil, or_false] at hx; omega
  have hh4 := grown_r9 (World.grownBy_alloc w3 _ _) hg4
  clear hx hg4
  have hG4 := grown_trans hG3 hh4 (by intro k e; injection e with e; exact .inl e.symm)
  clear hG3
  clear hh4
  clear hr3
  go_wp2_with fail
  refine (pick_any w.heap.size (0 + 1 + 1 + 1) ((mx : Int) + 1) w4 hr4 (by omega)).mono ?_
  rintro e w5 ⟨k4, rfl, hk4, hr5, hh5⟩
  have hk4m : (k4 : Int) ≤ (mx : Int) := by omega
  clear hk4
  have hG5 := grown_trans hG4 hh5 (by intro k e; injection e with e; exact .inl e.symm)
  clear hG4
  clear hh5
  clear hr4
  go_wp2_with fail
  refine (one_any (fun b => b = w5.heap.size) w.heap.size (0 + 1 + 1 + 1 + 1) _ 5 5 [3, (k4 : Int), 0, (mx : Int), (mx : Int) + 1] _ (hr5.alloc _) (IntsAt.lit rfl rfl rfl (by omega)) (by intro b hb; have := hr5.lt; simp; omega) (by omega) (by omega)).mono ?_
  rintro e w6 ⟨x2, hx, rfl, hr6, hg6⟩
  have B2 : -1 ≤ x2 ∧ x2 ≤ 14 := by simp only [List.mem_cons, List.not_mem_nil, or_false] at hx; omega
  have hh6 := grown_r9 (World.grownBy_alloc w5 _ _) hg6
  clear hx hg6
  have hG6 := grown_trans hG5 hh6 (by intro k e; injection e with e; exact .inl e.symm)
  clear hG5
  clear hh6
  clear hr5
  go_wp2_with fail
  refine (one_any (fun b => b = w6.heap.size) w.heap.size (0 + 1 + 1 + 1 + 1 + 1) _ 5 5 [1, 0, 2, 12, 13] _ (hr6.alloc _) (IntsAt.lit rfl rfl rfl (by omega)) (by intro b hb; have := hr6.lt; simp; omega) (by omega) (by omega)).mono ?_
  rintro e w7 ⟨x3, hx, rfl, hr7, hg7⟩
  have B3 : -1 ≤ x3 ∧ x3 ≤ 14 := by simp only [List.mem_cons, List.not_mem_nil, or_false] at hx; omega
  have hh7 := grown_r9 (World.grownBy_alloc w6 _ _) hg7
  clear hx hg7
  have hG7 := grown_trans hG6 hh7 (by intro k e; injection e with e; exact .inl e.symm)
  clear hG6
  clear hh7
  clear hr6
  have HBB := Lib.hid (below_of_g HB1.out hG7)
  clear hG7 hr7
  go_wp2
  exact bodyPost_ret (v := .tuple #[.int .i64 (mx : Int), .int .i64 x1, .int .i64 x2, .int .i64 x3]) (by simp [results, Try.results7, go_sem]) rfl ⟨(mx : Int), x1, x2, x3, rfl, by omega, by omega, by omega, by omega, by omega, by omega, by omega, by omega, HBB.out⟩
set_option maxRecDepth 100000 in
set_option maxHeartbeats 2000000 in
theorem drawBadOut_any (a : Option Addr) (len cap : Nat) (w : World) (hb : BytesAt w w.heap.size a len) (hl : len ≤ cap) (hs : len ≤ 9223372036854775807) :
    Calls Try.prog 14 #[.slice a len cap] w (Drawn4 w) := by
  go_enter Try.func14, Try.ntmps14
  go_wp2_with fail
  refine (newReader_any a len cap w hb hl hs).mono ?_
  rintro e w1 ⟨rfl, hr1, hb1⟩
  have HB1 := Lib.hid hb1
  clear hb1 hb
  go_wp2_with fail
  refine (one_any (fun b => b = w1.heap.size) w.heap.size (0) _ 8 8 [8, 6, 10, 12, 3, 1, 0, 13] _ (hr1.alloc _) (IntsAt.lit rfl rfl rfl (by omega)) (by intro b hb; have := hr1.lt; simp; omega) (by omega) (by omega)).mono ?_
  rintro e w2 ⟨x0, hx, rfl, hr2, hg2⟩
  have B0 : 0 ≤ x0 ∧ x0 ≤ 13 := by simp only [List.mem_cons, List.not_mem_nil, or_false] at hx; omega
  have hh2 := grown_r9 (World.grownBy_alloc w1 _ _) hg2
  clear hx hg2
  obtain ⟨mx, rfl⟩ : ∃ mx : Nat, x0 = (mx : Int) := ⟨x0.toNat, by omega⟩
  have hm13 : mx ≤ 13 := by omega
  clear B0
  have hG2 := hh2
  clear hh2
  clear hr1
  go_wp2_with fail
  refine (pick_any w.heap.size (0 + 1) ((mx : Int) + 1) w2 hr2 (by omega)).mono ?_
  rintro e w3 ⟨k2, rfl, hk2, hr3, hh3⟩
  have hk2m : (k2 : Int) ≤ (mx : Int) := by omega
  clear hk2
  have hG3 := grown_trans hG2 hh3 (by intro k e; injection e with e; exact .inl e.symm)
  clear hG2
  clear hh3
  clear hr2
  go_wp2_with fail
  refine (one_any (fun b => b = w3.heap.size) w.heap.size (0 + 1 + 1) _ 5 5 [2, (k2 : Int), 0, (mx : Int), -1] _ (hr3.alloc _) (IntsAt.lit rfl rfl rfl (by omega)) (by intro b hb; have := hr3.lt; simp; omega) (by omega) (by omega)).mono ?_
  rintro e w4 ⟨x1, hx, rfl, hr4, hg4⟩
  have B1 : -1 ≤ x1 ∧ x1 ≤ 14 := by simp only [List.mem_cons, List.not_mem_nil, or_false] at hx; omega
  have hh4 := grown_r9 (World.grownBy_alloc w3 _ _) hg4
  clear hx hg4
  have hG4 := grown_trans hG3 hh4 (by intro k e; injection e with e; exact .inl e.symm)
  clear hG3
  clear hh4
  clear hr3
  go_wp2_with fail
  refine (pick_any w.heap.size (0 + 1 + 1 + 1) ((mx : Int) + 1) w4 hr4 (by omega)).mono ?_
  rintro e w5 ⟨k4, rfl, hk4, hr5, hh5⟩
  have hk4m : (k4 : Int) ≤ (mx : Int) := by omega
  clear hk4
  have hG5 := grown_trans hG4 hh5 (by intro k e; injection e with e; exact .inl e.symm)
  clear hG4
  clear hh5
  clear hr4
  go_wp2_with fail
  refine (one_any (fun b => b = w5.heap.size) w.heap.size (0 + 1 + 1 + 1 + 1) _ 5 5 [3, (k4 : Int), 0, (mx : Int), (mx : Int) + 1] _ (hr5.alloc _) (IntsAt.lit rfl rfl rfl (by omega)) (by intro b hb; have := hr5.lt; simp; omega) (by omega) (by omega)).mono ?_
  rintro e w6 ⟨x2, hx, rfl, hr6, hg6⟩
  have B2 : -1 ≤ x2 ∧ x2 ≤ 14 := by simp only [List.mem_cons, List.not_mem_nil, or_false] at hx; omega
  have hh6 := grown_r9 (World.grownBy_alloc w5 _ _) hg6
  clear hx hg6
  have hG6 := grown_trans hG5 hh6 (by intro k e; injection e with e; exact .inl e.symm)
  clear hG5
  clear hh6
  clear hr5
  go_wp2_with fail
  refine (one_any (fun b => b = w6.heap.size) w.heap.size (0 + 1 + 1 + 1 + 1 + 1) _ 5 5 [1, 0, 2, 12, 13] _ (hr6.alloc _) (IntsAt.lit rfl rfl rfl (by omega)) (by intro b hb; have := hr6.lt; simp; omega) (by omega) (by omega)).mono ?_
  rintro e w7 ⟨x3, hx, rfl, hr7, hg7⟩
  have B3 : -1 ≤ x3 ∧ x3 ≤ 14 := by simp only [List.mem_cons, List.not_mem_nil, or_false] at hx; omega
  have hh7 := grown_r9 (World.grownBy_alloc w6 _ _) hg7
  clear hx hg7
  have hG7 := grown_trans hG6 hh7 (by intro k e; injection e with e; exact .inl e.symm)
  clear hG6
  clear hh7
  clear hr6
  have HBB := Lib.hid (below_of_g HB1.out hG7)
  clear hG7 hr7
  go_wp2
  exact bodyPost_ret (v := .tuple #[.int .i64 (mx : Int), .int .i64 x1, .int .i64 x2, .int .i64 x3]) (by simp [results, Try.results14, go_sem]) rfl ⟨(mx : Int), x1, x2, x3, rfl, by omega, by omega, by omega, by omega, by omega, by omega, by omega, by omega, HBB.out⟩
end Go.Proofs.Ytkebdelfklmigab
namespace Go.Proofs.Ytkebdelfklmigab

/-- Pascal's triangle up to 12, ten bits a number -/
def pasT : Nat := 54385061065684800540011163633074225266529689054062350113096803723279458193811827842204926003977343309459177112652888669744470748115619296461917853970249117576653513846418436790461392887768700952485466176952685347854922204958842601551461357000522739273210641263130788881835566643715928825264181515877615878201727098649938612295921831467937628080429425022212340976598681061771703336248555950105563781297952392327987407334892147973078235041655175546388897522636949859416138614742195963638451675281028127129601
/-- in how many ways k of n are chosen, for n and k up to 12 -/
def ch (n k : Nat) : Nat := (pasT / 1024 ^ (13 * n + k)) % 1024
/-- factorials up to 12 -/
def fa : Nat → Nat
  | 0 => 1
  | n + 1 => (n + 1) * fa n
/-- samples of just k bad ones -/
def trm (lot bad size k : Nat) : Nat := if k ≤ size then ch bad k * ch (lot - bad) (size - k) else 0
/-- samples of less than m bad ones -/
def psum (lot bad size : Nat) : Nat → Nat
  | 0 => 0
  | m + 1 => psum lot bad size m + trm lot bad size m
/-- what is left in these -/
def bsum (lot bad size : Nat) : Nat → Nat
  | 0 => 0
  | m + 1 => bsum lot bad size m + trm lot bad size m * (bad - m)
/-- the mean of the first ones -/
def msum (lot bad size : Nat) : Nat → Nat
  | 0 => 0
  | m + 1 => msum lot bad size m + m * trm lot bad size m
/-- n, n - 1, .. , k of them, multiplied -/
def fall (n : Nat) : Nat → Nat
  | 0 => 1
  | k + 1 => fall n k * (n - k)

set_option maxRecDepth 100000
theorem ch_rec : ∀ m, m < 12 → ∀ i, i < m + 1 → ch m i * (m + 1) / (i + 1) = ch (m + 1) (i + 1) ∧ ch m i * (m + 1) ≤ 100000 := by decide +kernel
theorem ch_pas : ∀ n, n < 12 → ∀ k, k < 12 → ch (n + 1) (k + 1) = ch n k + ch n (k + 1) := by decide +kernel
theorem ch_zero : ∀ n, n < 13 → ch n 0 = 1 := by decide +kernel
theorem ch_over : ∀ n, n < 13 → ∀ k, k < 13 → n < k → ch n k = 0 := by decide +kernel
theorem ch_bd : ∀ n, n < 13 → ∀ k, k < 13 → ch n k ≤ 924 := by decide +kernel
theorem ch_pos : ∀ n, n < 13 → ∀ k, k < n + 1 → 1 ≤ ch n k := by decide +kernel
theorem ch_sym : ∀ n, n < 13 → ∀ k, k < n + 1 → ch n (n - k) = ch n k := by decide +kernel
theorem ch_abs : ∀ n, n < 12 → ∀ k, k < 12 → (k + 1) * ch (n + 1) (k + 1) = (n + 1) * ch n k := by decide +kernel
theorem fall_bd : ∀ n, n < 13 → ∀ k, k < 13 → fall n k ≤ 479001600 := by decide +kernel
theorem fall_ch : ∀ n, n < 13 → ∀ k, k < n + 1 → fall n k / fall k k = ch n k ∧ fall n k = ch n k * fa k ∧ 1 ≤ fall n k := by decide +kernel
theorem fa_bd : ∀ n, n < 13 → 1 ≤ fa n ∧ fa n ≤ 479001600 := by decide +kernel

theorem psum_all : ∀ lot, lot < 13 → ∀ bad, bad < lot + 1 → ∀ size, size < lot + 1 → psum lot bad size (bad + 1) = ch lot size ∧ psum lot bad size (size + 1) = ch lot size ∧ msum lot bad size (size + 1) * lot = size * bad * ch lot size := by decide +kernel
theorem trm_turn : ∀ lot, lot < 13 → ∀ bad, bad < lot + 1 → ∀ size, size < lot + 1 → ∀ k, k < 13 → trm lot bad size k * ch lot bad = trm lot size bad k * ch lot size := by decide +kernel
theorem psum_worse : ∀ lot, lot < 13 → ∀ bad, bad < lot → ∀ size, size < lot + 1 → ∀ m, m < 14 → psum lot (bad + 1) size m ≤ psum lot bad size m := by decide +kernel
theorem trm_draw : ∀ b, b < 13 → ∀ g, g < 13 - b → ∀ s, s < g + b → ∀ k, k < 13 → trm (g + b) b (s + 1) k * (s + 1) = g * trm (g + b - 1) b s k + (if k = 0 then 0 else b * trm (g + b - 1) (b - 1) s (k - 1)) := by decide +kernel
end Go.Proofs.Ytkebdelfklmigab
namespace Go.Proofs.Ytkebdelfklmigab

theorem psum_draw {b g s : Nat} (hb : b + g ≤ 12) (hs : s < g + b) : ∀ m, m ≤ 13 → psum (g + b) b (s + 1) m * (s + 1) = g * psum (g + b - 1) b s m + b * psum (g + b - 1) (b - 1) s (m - 1) := by
  intro m
  induction m with
  | zero => intro _; simp [psum]
  | succ m ih =>
    intro hm
    have h1 := ih (by omega)
    have h2 := trm_draw b (by omega) g (by omega) s hs m (by omega)
    show (psum (g + b) b (s + 1) m + trm (g + b) b (s + 1) m) * (s + 1) = g * (psum (g + b - 1) b s m + trm (g + b - 1) b s m) + b * psum (g + b - 1) (b - 1) s m
    rw [Nat.add_mul, h1, h2, Nat.mul_add]
    cases m with
    | zero => simp [psum]
    | succ j =>
      rw [if_neg (Nat.succ_ne_zero j), Nat.add_sub_cancel, show psum (g + b - 1) (b - 1) s (j + 1) = psum (g + b - 1) (b - 1) s j + trm (g + b - 1) (b - 1) s j from rfl, Nat.mul_add]
      omega
/-- orders of draws with less than m bad ones -/
def drw (lot bad size m : Nat) : Nat := psum lot bad size m * fa size
theorem drw_step {b g s m : Nat} (hb : b + g ≤ 12) (hs : s < g + b) (hm : m ≤ 13) : drw (g + b) b (s + 1) m = g * drw (g + b - 1) b s m + b * drw (g + b - 1) (b - 1) s (m - 1) := by
  unfold drw
  rw [show fa (s + 1) = (s + 1) * fa s from rfl, ← Nat.mul_assoc, psum_draw hb hs m hm, Nat.add_mul, Nat.mul_assoc, Nat.mul_assoc]
theorem trm_over {lot bad size k : Nat} (hl : lot ≤ 12) (hb : bad ≤ lot) (hk : bad < k) (hk2 : k ≤ 12) : trm lot bad size k = 0 := by
  unfold trm
  split
  · rw [ch_over bad (by omega) k (by omega) hk, Nat.zero_mul]
  · rfl
theorem psum_mono {lot bad size : Nat} : ∀ {d m : Nat}, psum lot bad size m ≤ psum lot bad size (m + d) := by
  intro d
  induction d with
  | zero => intro m; exact Nat.le_refl _
  | succ d ih => intro m; exact Nat.le_trans ih (by rw [← Nat.add_assoc]; exact Nat.le_add_right _ _)
theorem psum_past {lot bad size : Nat} (hl : lot ≤ 12) (hb : bad ≤ lot) : ∀ d, bad + 1 + d ≤ 13 → psum lot bad size (bad + 1 + d) = psum lot bad size (bad + 1) ∧ bsum lot bad size (bad + 1 + d) = bsum lot bad size (bad + 1) := by
  intro d
  induction d with
  | zero => intro _; exact ⟨rfl, rfl⟩
  | succ d ih =>
    intro h
    obtain ⟨h1, h2⟩ := ih (by omega)
    have e : trm lot bad size (bad + 1 + d) = 0 := trm_over hl hb (by omega) (by omega)
    rw [← Nat.add_assoc]
    simp only [psum, bsum, e, h1, h2, Nat.zero_mul, Nat.add_zero, and_self]
theorem psum_min {lot bad size most : Nat} (hl : lot ≤ 12) (hb : bad ≤ lot) (hm : most ≤ 12) : psum lot bad size (min most bad + 1) = psum lot bad size (most + 1) ∧ bsum lot bad size (min most bad + 1) = bsum lot bad size (most + 1) := by
  rcases Nat.le_total most bad with h | h
  · rw [Nat.min_eq_left h]; exact ⟨rfl, rfl⟩
  · rw [Nat.min_eq_right h]
    obtain ⟨h1, h2⟩ := psum_past (size := size) hl hb (most - bad) (by omega)
    rw [show most + 1 = bad + 1 + (most - bad) by omega, h1, h2]; exact ⟨rfl, rfl⟩
theorem psum_le {lot bad size m : Nat} (hl : lot ≤ 12) (hb : bad ≤ lot) (hs : size ≤ lot) (hm : m ≤ 13) : psum lot bad size m ≤ ch lot size := by
  have h1 := (psum_past (size := size) hl hb (12 - bad) (by omega)).1
  rw [show bad + 1 + (12 - bad) = 13 by omega] at h1
  have h2 := (psum_all lot (by omega) bad (by omega) size (by omega)).1
  have h3 := @psum_mono lot bad size (13 - m) m
  rw [show m + (13 - m) = 13 by omega] at h3
  omega
theorem psum_over {lot bad size most : Nat} (hl : lot ≤ 12) (hb : bad ≤ lot) (hs : size ≤ lot) (hm : most ≤ 12) (hbm : bad ≤ most) : psum lot bad size (most + 1) = ch lot size := by
  have h1 := (psum_past (size := size) hl hb (most - bad) (by omega)).1
  rw [show bad + 1 + (most - bad) = most + 1 by omega] at h1
  rw [h1]; exact (psum_all lot (by omega) bad (by omega) size (by omega)).1
theorem bsum_le {lot bad size : Nat} : ∀ m, bsum lot bad size m ≤ bad * psum lot bad size m := by
  intro m
  induction m with
  | zero => simp [bsum, psum]
  | succ m ih =>
    simp only [bsum, psum, Nat.mul_add]
    have : trm lot bad size m * (bad - m) ≤ bad * trm lot bad size m := by rw [Nat.mul_comm]; exact Nat.mul_le_mul_right _ (Nat.sub_le _ _)
    omega
theorem psum_turn {lot bad size : Nat} (hl : lot ≤ 12) (hb : bad ≤ lot) (hs : size ≤ lot) : ∀ m, m ≤ 13 → psum lot bad size m * ch lot bad = psum lot size bad m * ch lot size := by
  intro m
  induction m with
  | zero => intro _; simp [psum]
  | succ m ih => intro h; simp only [psum, Nat.add_mul, ih (by omega), trm_turn lot (by omega) bad (by omega) size (by omega) m (by omega)]
theorem trm_none {lot bad k : Nat} (hl : lot ≤ 12) (hb : bad ≤ lot) : trm lot bad 0 k = if k = 0 then 1 else 0 := by
  unfold trm
  by_cases h : k = 0
  · subst h
    rw [if_pos (Nat.le_refl _), if_pos rfl, ch_zero bad (by omega), Nat.sub_zero, ch_zero _ (by omega)]
  · rw [if_neg (by omega), if_neg h]
theorem psum_none {lot bad : Nat} (hl : lot ≤ 12) (hb : bad ≤ lot) : ∀ m, psum lot bad 0 (m + 1) = 1 ∧ bsum lot bad 0 (m + 1) = bad := by
  intro m
  induction m with
  | zero => simp [psum, bsum, trm_none hl hb]
  | succ m ih =>
    have e : trm lot bad 0 (m + 1) = 0 := by rw [trm_none hl hb]; simp
    exact ⟨by rw [psum, ih.1, e], by rw [bsum, ih.2, e, Nat.zero_mul, Nat.add_zero]⟩

-- fractions
theorem f_scale {g T C : Nat} (hg : 1 ≤ g) : fU (g * T) (g * C) = fU T C ∧ fD (g * T) (g * C) = fD T C := by
  unfold fU fD
  rw [Nat.gcd_mul_left, Nat.mul_div_mul_left _ _ hg, Nat.mul_div_mul_left _ _ hg]
  exact ⟨rfl, rfl⟩
theorem f_mul {T C : Nat} (hC : 1 ≤ C) : ∃ g, 1 ≤ g ∧ g * fU T C = T ∧ g * fD T C = C := by
  refine ⟨Nat.gcd T C, (gcd_le8 hC).1, ?_, ?_⟩
  · exact Nat.mul_div_cancel' (Nat.gcd_dvd_left T C)
  · exact Nat.mul_div_cancel' (Nat.gcd_dvd_right T C)
theorem f_bd {T C : Nat} (hC : 1 ≤ C) : fU T C ≤ T ∧ fD T C ≤ C ∧ 1 ≤ fD T C := ⟨Nat.div_le_self _ _, Nat.div_le_self _ _, (gcd_div hC).1⟩
theorem f_eq {T C T' C' : Nat} (hC : 1 ≤ C) (hC' : 1 ≤ C') (h : T * C' = T' * C) : fU T C = fU T' C' ∧ fD T C = fD T' C' := by
  have a := @f_scale C' T C hC'
  have b := @f_scale C T' C' hC
  rw [show C' * T = C * T' by rw [Nat.mul_comm C', h, Nat.mul_comm], Nat.mul_comm C' C] at a
  exact ⟨a.1.symm.trans b.1, a.2.symm.trans b.2⟩
theorem f_plus {T T' C : Nat} (hC : 1 ≤ C) : fU (fU T C * fD T' C + fU T' C * fD T C) (fD T C * fD T' C) = fU (T + T') C ∧ fD (fU T C * fD T' C + fU T' C * fD T C) (fD T C * fD T' C) = fD (T + T') C := by
  obtain ⟨g, hg, e1, e2⟩ := @f_mul T C hC
  obtain ⟨g', hg', e3, e4⟩ := @f_mul T' C hC
  have h0 := @f_scale (g * g') (fU T C * fD T' C + fU T' C * fD T C) (fD T C * fD T' C) (Nat.mul_pos hg hg')
  have x1 : g * g' * (fU T C * fD T' C + fU T' C * fD T C) = C * (T + T') := by
    calc g * g' * (fU T C * fD T' C + fU T' C * fD T C) = (g * fU T C) * (g' * fD T' C) + (g' * fU T' C) * (g * fD T C) := by
          rw [Nat.mul_add]
          congr 1
          · ac_rfl
          · ac_rfl
      _ = C * (T + T') := by rw [e1, e2, e3, e4, Nat.mul_add, Nat.mul_comm T, Nat.mul_comm T']
  have x2 : g * g' * (fD T C * fD T' C) = C * C := by
    calc g * g' * (fD T C * fD T' C) = (g * fD T C) * (g' * fD T' C) := by ac_rfl
      _ = C * C := by rw [e2, e4]
  rw [x1, x2] at h0
  have h1 := @f_scale C (T + T') C hC
  exact ⟨h0.1.symm.trans h1.1, h0.2.symm.trans h1.2⟩
theorem f_times {T C n : Nat} (hC : 1 ≤ C) : fU (fU T C * n) (fD T C) = fU (T * n) C ∧ fD (fU T C * n) (fD T C) = fD (T * n) C := by
  obtain ⟨g, hg, e1, e2⟩ := @f_mul T C hC
  have h0 := @f_scale g (fU T C * n) (fD T C) hg
  rw [← Nat.mul_assoc, e1, e2] at h0
  exact ⟨h0.1.symm, h0.2.symm⟩
theorem f_le {T C T' C' : Nat} (hC : 1 ≤ C) (hC' : 1 ≤ C') : fU T C * fD T' C' ≤ fU T' C' * fD T C ↔ T * C' ≤ T' * C := by
  obtain ⟨g, hg, e1, e2⟩ := @f_mul T C hC
  obtain ⟨g', hg', e3, e4⟩ := @f_mul T' C' hC'
  have x1 : (g * g') * (fU T C * fD T' C') = T * C' := by
    calc (g * g') * (fU T C * fD T' C') = (g * fU T C) * (g' * fD T' C') := by ac_rfl
      _ = _ := by rw [e1, e4]
  have x2 : (g * g') * (fU T' C' * fD T C) = T' * C := by
    calc (g * g') * (fU T' C' * fD T C) = (g' * fU T' C') * (g * fD T C) := by ac_rfl
      _ = _ := by rw [e2, e3]
  rw [← x1, ← x2]
  exact ⟨fun h => Nat.mul_le_mul_left _ h, fun h => Nat.le_of_mul_le_mul_left h (Nat.mul_pos hg hg')⟩
theorem f_one {C : Nat} (hC : 1 ≤ C) : fU C C = 1 ∧ fD C C = 1 := by
  unfold fU fD
  rw [Nat.gcd_self, Nat.div_self hC]; exact ⟨rfl, rfl⟩
theorem f_zero {C : Nat} (hC : 1 ≤ C) : fU 0 C = 0 ∧ fD 0 C = 1 := by
  unfold fU fD
  rw [Nat.gcd_zero_left, Nat.div_self hC, Nat.zero_div]; exact ⟨rfl, rfl⟩
theorem f_int {n : Nat} : fU n 1 = n ∧ fD n 1 = 1 := by
  unfold fU fD
  rw [Nat.gcd_one_right, Nat.div_one]; exact ⟨rfl, rfl⟩
end Go.Proofs.Ytkebdelfklmigab
namespace Go.Proofs.Ytkebdelfklmigab
open Go.RowKit Go.WideShapes

/-- in how many ways k of n are chosen, k any integer -/
def chI (n : Nat) (k : Int) : Nat := if 0 ≤ k ∧ k ≤ n then ch n k.toNat else 0
theorem chI_nat {n k : Nat} (hn : n ≤ 12) (hk : k ≤ 12) : chI n (k : Int) = ch n k := by
  unfold chI
  by_cases h : k ≤ n
  · rw [if_pos (by omega), Int.toNat_natCast]
  · rw [if_neg (by omega), ch_over n (by omega) k (by omega) (by omega)]
theorem chI_neg {n : Nat} {k : Int} (hk : k < 0) : chI n k = 0 := if_neg (by omega)
theorem chI_bd {n : Nat} {k : Int} (hn : n ≤ 12) : chI n k ≤ 924 := by
  unfold chI
  split
  · exact ch_bd n (by omega) _ (by omega)
  · omega
theorem trm_chI {lot bad size k : Nat} (hl : lot ≤ 12) (hb : bad ≤ lot) (hs : size ≤ lot) (hk : k ≤ 12) : trm lot bad size k = chI bad k * chI (lot - bad) ((size : Int) - (k : Int)) := by
  unfold trm
  by_cases h : k ≤ size
  · rw [if_pos h, chI_nat (by omega) hk, show (size : Int) - (k : Int) = ((size - k : Nat) : Int) by omega, chI_nat (by omega) (by omega)]
  · rw [if_neg h, chI_neg (k := (size : Int) - (k : Int)) (by omega), Nat.mul_zero]
theorem quo_nat (c d q j r : Nat) (h1 : c * (d + j + 1) / (j + 1) = r) (h2 : c * (d + j + 1) ≤ 100000) :
    wrap64 ((wrap64 ((c : Int) * ((q : Int) + (d : Int) - (q : Int) + ((j : Int) + 1)))).tdiv ((j : Int) + 1)) = (r : Int) := by
  have e1 : (c : Int) * ((q : Int) + (d : Int) - (q : Int) + ((j : Int) + 1)) = ((c * (d + j + 1) : Nat) : Int) := by
    rw [show (q : Int) + (d : Int) - (q : Int) + ((j : Int) + 1) = ((d + j + 1 : Nat) : Int) by omega]; push_cast; rfl
  have e2 : (((c * (d + j + 1) : Nat) : Int)).tdiv ((j : Int) + 1) = (r : Int) := by rw [← h1, show ((j : Int) + 1) = ((j + 1 : Nat) : Int) by omega]; exact (Int.ofNat_tdiv _ _).symm
  have e3 : r ≤ 100000 := by rw [← h1]; exact Nat.le_trans (Nat.div_le_self _ _) h2
  rw [e1, IntWalk.wrap64_in ((c * (d + j + 1) : Nat) : Int) (by omega), e2, IntWalk.wrap64_in _ (by omega)]
set_option maxRecDepth 100000 in
set_option maxHeartbeats 1000000 in
theorem choose_any (n : Nat) (k : Int) (hn : n ≤ 12) (w : World) :
    Calls Try.prog 25 #[.int .i64 n, .int .i64 k] w fun e w' => e = .returned (.int .i64 (chI n k : Nat)) ∧ w' = w := by
  by_cases h0 : k < 0
  · rw [chI_neg h0]
    have hd : decide (k < 0) = true := decide_eq_true h0
    go_enter Try.func25, Try.ntmps25
    go_wp2
    go_ret
    exact ⟨rfl, rfl⟩
  · have hd : decide (k < 0) = false := decide_eq_false h0
    by_cases h1 : (n : Int) < k
    · have hr : chI n k = 0 := if_neg (by omega)
      rw [hr]
      have hd1 : decide ((n : Int) < k) = true := decide_eq_true h1
      go_enter Try.func25, Try.ntmps25
      go_wp2
      go_ret
      exact ⟨rfl, rfl⟩
    · obtain ⟨q, rfl⟩ : ∃ q : Nat, k = (q : Int) := ⟨k.toNat, by omega⟩
      obtain ⟨d, rfl⟩ : ∃ d, n = q + d := ⟨n - q, by omega⟩
      have hd1 : decide (((q + d : Nat) : Int) < (q : Int)) = false := decide_eq_false (by omega)
      rw [chI_nat hn (by omega)]
      have HR := Lib.hid (show ∀ j, j < q → ch (d + j) j * (d + j + 1) / (j + 1) = ch (d + j + 1) (j + 1) ∧ ch (d + j) j * (d + j + 1) ≤ 100000 from fun j hj => ch_rec (d + j) (by omega) j (by omega))
      have H0 := Lib.hid (ch_zero d (by omega))
      go_enter Try.func25, Try.ntmps25
      go_wp2
      go_loop [5, 6] (fun x y => ∃ j c : Nat, x = .int .i64 c ∧ y = .int .i64 ((j : Int) + 1) ∧ j ≤ q ∧ c = ch (d + j) j) (fun _ y => q + 1 - (intOf y).toNat)
      case atStart => exact ⟨0, 1, rfl, rfl, by omega, H0.out.symm⟩
      case round =>
        obtain ⟨j, c, rfl, rfl, hj, hc⟩ := hrel
        have HC := Lib.hid hc
        clear hc
        by_cases hjq : j < q
        · obtain ⟨r1, r2⟩ := HR.out j hjq
          rw [← HC.out] at r1 r2
          have hle : (j : Int) + 1 ≤ (q : Int) := by omega
          go_wp2
          go_round
          case rel => exact ⟨j + 1, ch (d + j + 1) (j + 1), congrArg _ (quo_nat c d q j _ r1 r2), by go_num, by omega, rfl⟩
          case measure => simp [intOf]; omega
        · have hjq' : j = q := by omega
          subst hjq'
          have hle : ¬ (j : Int) + 1 ≤ (j : Int) := by omega
          go_wp2
          go_ret
          exact ⟨ret_int (by rw [HC.out, Nat.add_comm d j]), rfl⟩
def chooseM (n k : Int) : Int := if inB 0 12 n then (chI n.toNat k : Nat) else -1
def planB (lot bad size most : Int) : Bool := inB 1 12 lot && (inB 0 lot bad && (inB 0 lot size && inB 0 12 most))
theorem plan_get {lot bad size most : Int} (h : planB lot bad size most = true) : ∃ l b s m : Nat, lot = l ∧ bad = b ∧ size = s ∧ most = m ∧ 1 ≤ l ∧ l ≤ 12 ∧ b ≤ l ∧ s ≤ l ∧ m ≤ 12 := by
  simp only [planB, inB, Bool.and_eq_true, decide_eq_true_eq] at h
  exact ⟨lot.toNat, bad.toNat, size.toNat, most.toNat, by omega, by omega, by omega, by omega, by omega, by omega, by omega, by omega, by omega⟩
set_option maxRecDepth 100000 in
theorem validPlan_any (lot bad size most : Int) (w : World) :
    Calls Try.prog 22 #[.int .i64 lot, .int .i64 bad, .int .i64 size, .int .i64 most] w fun e w' => e = .returned (.bool (planB lot bad size most)) ∧ w' = w := by
  unfold planB
  cases h1 : inB 1 12 lot
  · go_enter Try.func22, Try.ntmps22
    go_wp2_with fail
    refine (inR h1 w).mono ?_
    rintro e w' ⟨rfl, rfl⟩
    clear h1
    go_wp2
    go_ret
    exact ⟨rfl, rfl⟩
  · cases h2 : inB 0 lot bad
    · go_enter Try.func22, Try.ntmps22
      go_wp2_with fail
      refine (inR h1 w).mono ?_
      rintro e w' ⟨rfl, rfl⟩
      clear h1
      go_wp2_with fail
      refine (inR h2 w').mono ?_
      rintro e w' ⟨rfl, rfl⟩
      clear h2
      go_wp2
      go_ret
      exact ⟨rfl, rfl⟩
    · cases h3 : inB 0 lot size
      · go_enter Try.func22, Try.ntmps22
        go_wp2_with fail
        refine (inR h1 w).mono ?_
        rintro e w' ⟨rfl, rfl⟩
        clear h1
        go_wp2_with fail
        refine (inR h2 w').mono ?_
        rintro e w' ⟨rfl, rfl⟩
        clear h2
        go_wp2_with fail
        refine (inR h3 w').mono ?_
        rintro e w' ⟨rfl, rfl⟩
        clear h3
        go_wp2
        go_ret
        exact ⟨rfl, rfl⟩
      · have HR := Lib.hid (inR (lo := 0) (hi := 12) (n := most) rfl)
        generalize inB 0 12 most = b at HR ⊢
        go_enter Try.func22, Try.ntmps22
        go_wp2_with fail
        refine (inR h1 w).mono ?_
        rintro e w' ⟨rfl, rfl⟩
        clear h1
        go_wp2_with fail
        refine (inR h2 w').mono ?_
        rintro e w' ⟨rfl, rfl⟩
        clear h2
        go_wp2_with fail
        refine (inR h3 w').mono ?_
        rintro e w' ⟨rfl, rfl⟩
        clear h3
        go_wp2_with fail
        refine (HR.out w').mono ?_
        rintro e w' ⟨rfl, rfl⟩
        go_wp2
        go_ret
        exact ⟨rfl, rfl⟩
set_option maxRecDepth 100000 in
set_option maxHeartbeats 1000000 in
theorem passes_any (lot bad size most : Nat) (hl : lot ≤ 12) (hb : bad ≤ lot) (hs : size ≤ lot) (hm : most ≤ 12) (w : World) :
    Calls Try.prog 24 #[.int .i64 lot, .int .i64 bad, .int .i64 size, .int .i64 most] w fun e w' => e = .returned (.int .i64 (psum lot bad size (most + 1) : Nat)) ∧ w' = w := by
  have HC := Lib.hid (fun n k hn => choose_any n k hn w)
  have HT := Lib.hid (fun k (hk : k ≤ 12) => trm_chI (k := k) hl hb hs hk)
  have HB := Lib.hid (fun m (h : m ≤ 13) => Nat.le_trans (psum_le (m := m) hl hb hs h) (ch_bd lot (by omega) size (by omega)))
  have hlb : (lot : Int) - (bad : Int) = ((lot - bad : Nat) : Int) := by omega
  have HLB := Lib.hid hlb
  have HCI := Lib.hid (fun n k (hn : n ≤ 12) => @chI_bd n k hn)
  clear hlb
  go_enter Try.func24, Try.ntmps24
  go_wp2
  go_loop [9, 10] (fun x y => ∃ j c : Nat, x = .int .i64 c ∧ y = .int .i64 (j : Int) ∧ j ≤ most + 1 ∧ c = psum lot bad size j) (fun _ y => most + 1 - (intOf y).toNat)
  case atStart => exact ⟨0, 0, rfl, rfl, by omega, rfl⟩
  case round =>
    obtain ⟨j, c, rfl, rfl, hj, hc⟩ := hrel
    have HCC := Lib.hid hc
    have hc9 : c ≤ 924 := by rw [hc]; exact HB.out j (by omega)
    clear hc
    by_cases hjm : j ≤ most
    · have hle : (j : Int) ≤ (most : Int) := by omega
      have HTJ := Lib.hid (HT.out j (by omega))
      go_wp2_with fail
      refine (HC.out bad (j : Int) (by omega)).mono ?_
      rintro e w' ⟨rfl, rfl⟩
      have ha := HCI.out bad (j : Int) (by omega)
      go_wp2_with fail
      rw [HLB.out]
      refine (HC.out (lot - bad) ((size : Int) - (j : Int)) (by omega)).mono ?_
      rintro e w' ⟨rfl, rfl⟩
      have hb2 := HCI.out (lot - bad) ((size : Int) - (j : Int)) (by omega)
      obtain ⟨x, hx⟩ : ∃ x, chI bad (j : Int) = x := ⟨_, rfl⟩
      obtain ⟨y, hy⟩ : ∃ y, chI (lot - bad) ((size : Int) - (j : Int)) = y := ⟨_, rfl⟩
      rw [hx] at ha
      rw [hy] at hb2
      rw [hx, hy] at HTJ
      rw [hx, hy]
      clear hx hy
      have hxy : 0 ≤ (x : Int) * (y : Int) ∧ (x : Int) * (y : Int) ≤ 924 * 924 := ⟨Int.mul_nonneg (by omega) (by omega), Int.mul_le_mul (by omega) (by omega) (by omega) (by omega)⟩
      have HXY : Hid ((x : Int) * (y : Int) = ((x * y : Nat) : Int)) := Lib.hid (by push_cast; rfl)
      go_wp2
      go_round
      case rel => exact ⟨j + 1, c + x * y, by go_num, by go_num, by omega, by rw [psum, ← HCC.out, HTJ.out]⟩
      case measure => simp [intOf]; omega
    · have hjq : j = most + 1 := by omega
      subst hjq
      have hle : ¬ ((most : Int) + 1) ≤ (most : Int) := by omega
      go_wp2
      go_ret
      exact ⟨ret_int (by rw [HCC.out]), rfl⟩
end Go.Proofs.Ytkebdelfklmigab
