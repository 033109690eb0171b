import Derived.Test.YtkjmpkincaainaaRows
namespace Go.Proofs.Ytkjmpkincaainaa

/-- Pascal's triangle up to 12, ten bits a number -/
def pasT : Nat := 54385061065684800540011163633074225266529689054062350113096803723279458193811827842204926003977343309459177112652888669744470748115619296461917853970249117576653513846418436790461392887768700952485466176952685347854922204958842601551461357000522739273210641263130788881835566643715928825264181515877615878201727098649938612295921831467937628080429425022212340976598681061771703336248555950105563781297952392327987407334892147973078235041655175546388897522636949859416138614742195963638451675281028127129601
/-- in how many ways k of n are chosen, for n and k up to 12 -/
def ch (n k : Nat) : Nat := (pasT / 1024 ^ (13 * n + k)) % 1024
/-- factorials up to 12 -/
def fa : Nat → Nat
  | 0 => 1
  | n + 1 => (n + 1) * fa n
/-- samples of just k bad ones -/
def trm (lot bad size k : Nat) : Nat := if k ≤ size then ch bad k * ch (lot - bad) (size - k) else 0
/-- samples of less than m bad ones -/
def psum (lot bad size : Nat) : Nat → Nat
  | 0 => 0
  | m + 1 => psum lot bad size m + trm lot bad size m
/-- what is left in these -/
def bsum (lot bad size : Nat) : Nat → Nat
  | 0 => 0
  | m + 1 => bsum lot bad size m + trm lot bad size m * (bad - m)
/-- the mean of the first ones -/
def msum (lot bad size : Nat) : Nat → Nat
  | 0 => 0
  | m + 1 => msum lot bad size m + m * trm lot bad size m
/-- n, n - 1, .. , k of them, multiplied -/
def fall (n : Nat) : Nat → Nat
  | 0 => 1
  | k + 1 => fall n k * (n - k)

set_option maxRecDepth 100000
theorem ch_rec : ∀ m, m < 12 → ∀ i, i < m + 1 → ch m i * (m + 1) / (i + 1) = ch (m + 1) (i + 1) ∧ ch m i * (m + 1) ≤ 100000 := by decide +kernel
theorem ch_pas : ∀ n, n < 12 → ∀ k, k < 12 → ch (n + 1) (k + 1) = ch n k + ch n (k + 1) := by decide +kernel
theorem ch_zero : ∀ n, n < 13 → ch n 0 = 1 := by decide +kernel
theorem ch_over : ∀ n, n < 13 → ∀ k, k < 13 → n < k → ch n k = 0 := by decide +kernel
theorem ch_bd : ∀ n, n < 13 → ∀ k, k < 13 → ch n k ≤ 924 := by decide +kernel
theorem ch_pos : ∀ n, n < 13 → ∀ k, k < n + 1 → 1 ≤ ch n k := by decide +kernel
theorem ch_sym : ∀ n, n < 13 → ∀ k, k < n + 1 → ch n (n - k) = ch n k := by decide +kernel
theorem ch_abs : ∀ n, n < 12 → ∀ k, k < 12 → (k + 1) * ch (n + 1) (k + 1) = (n + 1) * ch n k := by decide +kernel
theorem fall_bd : ∀ n, n < 13 → ∀ k, k < 13 → fall n k ≤ 479001600 := by decide +kernel
theorem fall_ch : ∀ n, n < 13 → ∀ k, k < n + 1 → fall n k / fall k k = ch n k ∧ fall n k = ch n k * fa k ∧ 1 ≤ fall n k := by decide +kernel
theorem fa_bd : ∀ n, n < 13 → 1 ≤ fa n ∧ fa n ≤ 479001600 := by decide +kernel

theorem psum_all : ∀ lot, lot < 13 → ∀ bad, bad < lot + 1 → ∀ size, size < lot + 1 → psum lot bad size (bad + 1) = ch lot size ∧ psum lot bad size (size + 1) = ch lot size ∧ msum lot bad size (size + 1) * lot = size * bad * ch lot size := by decide +kernel
theorem trm_turn : ∀ lot, lot < 13 → ∀ bad, bad < lot + 1 → ∀ size, size < lot + 1 → ∀ k, k < 13 → trm lot bad size k * ch lot bad = trm lot size bad k * ch lot size := by decide +kernel
theorem psum_worse : ∀ lot, lot < 13 → ∀ bad, bad < lot → ∀ size, size < lot + 1 → ∀ m, m < 14 → psum lot (bad + 1) size m ≤ psum lot bad size m := by decide +kernel
theorem trm_draw : ∀ b, b < 13 → ∀ g, g < 13 - b → ∀ s, s < g + b → ∀ k, k < 13 → trm (g + b) b (s + 1) k * (s + 1) = g * trm (g + b - 1) b s k + (if k = 0 then 0 else b * trm (g + b - 1) (b - 1) s (k - 1)) := by decide +kernel
end Go.Proofs.Ytkjmpkincaainaa
