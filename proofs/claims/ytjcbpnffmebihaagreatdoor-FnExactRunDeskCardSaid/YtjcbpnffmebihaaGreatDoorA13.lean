import Derived.Test.YtjcbpnffmebihaaGreatDoorA12
import Derived.Test.YtjcbpnffmebihaaGreatDoorRows
import Derived.WalkKit
import Derived.ProofKit
import Derived.Lib.Hide
import Derived.LoopTactic
import Derived.Outline
import Derived.WalkSpells
import Derived.WalkLawsBesides
namespace Go.Proofs.YtjcbpnffmebihaaGreatDoor
open Go.RowKit Go.WideShapes

/-- where a net lies -/
structure NV where
  aT : Option Addr
  lT : Nat
  cT : Nat
  aW : Option Addr
  lW : Nat
  cW : Nat
def NV.v (d : NV) : Value := .agg #[.slice d.aT d.lT d.cT, .slice d.aW d.lW d.cW]
structure NetAt (w : World) (S : Nat → Prop) (d : NV) (ts : List Int) (rows : List (List Int)) : Prop where
  t : IntsAt w S d.aT d.lT ts
  r : RowsAt w S d.aW d.lW rows
  ct : d.lT ≤ d.cT
  cw : d.lW ≤ d.cW
theorem NetAt.to {w w' : World} {S S' : Nat → Prop} {d : NV} {ts : List Int} {rows : List (List Int)} (h : NetAt w S d ts rows) (hg : ∀ b, S b → S' b ∧ w'.heap[b]? = w.heap[b]?) : NetAt w' S' d ts rows :=
  ⟨h.t.to hg, h.r.to hg, h.ct, h.cw⟩
theorem NetAt.below {w w' : World} {n : Nat} {d : NV} {ts : List Int} {rows : List (List Int)} (h : NetAt w (· < n) d ts rows) (hb : Below n w w') : NetAt w' (· < n) d ts rows := ⟨h.t.below hb, h.r.below hb, h.ct, h.cw⟩
/-- block b holds the two slices of a net -/
def NetB (w : World) (b : Nat) (d : NV) : Prop := w.cell? ⟨b, 0, none⟩ = some (.slice d.aT d.lT d.cT) ∧ w.cell? ⟨b, 1, none⟩ = some (.slice d.aW d.lW d.cW)
theorem NetB.block {w w' : World} {b : Nat} {d : NV} (h : NetB w b d) (e : w'.heap[b]? = w.heap[b]?) : NetB w' b d :=
  ⟨by rw [World.cell?_of_block (w := w) e]; exact h.1, by rw [World.cell?_of_block (w := w) e]; exact h.2⟩
theorem NetB.lt {w : World} {b : Nat} {d : NV} (h : NetB w b d) : b < w.heap.size := World.block_lt_of_cell? w _ h.1
theorem NetB.below {w w' : World} {b n : Nat} {d : NV} (h : NetB w b d) (hb : Below n w w') (hn : b < n) : NetB w' b d := h.block (hb.block b hn)
/-- the answer, and what lay below lies as it lay -/
def valN (w : World) (v : Value) (e : Ending) (w' : World) : Prop := e = .returned v ∧ Below w.heap.size w w'
theorem below_drewN {w w' : World} {n : Nat} (h : Below n w w') (q : Nat) : Below n w (w'.drewN q) := h.trans (Drew.below ⟨q, rfl⟩ n)
theorem NetB.drewN {w : World} {b : Nat} {d : NV} (h : NetB w b d) (q : Nat) : NetB (w.drewN q) b d := h.block rfl
/-- a net in its box -/
structure NetOn (w : World) (b : Nat) (d : NV) (ts : List Int) (rows : List (List Int)) : Prop where
  box : NetB w b d
  at' : NetAt w (· < w.heap.size) d ts rows
end Go.Proofs.YtjcbpnffmebihaaGreatDoor
namespace Go.Proofs.YtjcbpnffmebihaaGreatDoor

-- paces that are kept (plain)
/-- what a way adds, at the pace up by down, times down -/
def Gr.w (g : Gr) (up down : Int) (k : Nat) : Int := down * g.tm (g.f k) - up * (g.c k : Int)
def Gr.Pot (g : Gr) (up down : Int) (p : Nat → Int) : Prop := ∀ k, k < g.m → p (g.f k) + g.w up down k ≤ p (g.t k)
def Gr.keeps (g : Gr) (up down : Int) : Prop := ∃ p, g.Pot up down p
def Gr.into (g : Gr) (v k : Nat) : Bool := decide (g.t k = v)
/-- the heaviest of all walks of at most so many ways to v -/
def Gr.D (g : Gr) (up down : Int) : Nat → Nat → Int
  | 0, _ => 0
  | i + 1, v => mxP (g.into v) (fun k => g.D up down i (g.f k) + g.w up down k) (g.D up down i v) g.m
section
variable {g : Gr} {up down : Int}
/-- rounds back to s, from v on, past those of P -/
inductive Gr.Back (g : Gr) (s : Nat) (ok : Nat → Prop) : List Nat → Nat → Int → Nat → Prop
  | close {P : List Nat} {k : Nat} : k < g.m → g.t k = s → Gr.Back g s ok P (g.f k) (g.tm (g.f k)) (g.c k)
  | step {P : List Nat} {k : Nat} {T : Int} {C : Nat} : k < g.m → g.t k ≠ s → ¬ g.t k ∈ P → ok (g.t k) → Gr.Back g s ok (g.t k :: P) (g.t k) T C → Gr.Back g s ok P (g.f k) (g.tm (g.f k) + T) (g.c k + C)
end
end Go.Proofs.YtjcbpnffmebihaaGreatDoor
namespace Go.Proofs.YtjcbpnffmebihaaGreatDoor

-- the pace (plain)
/-- U by D is the greatest of the pairs, 0 by 1 if all are 0 -/
structure IsGr (U D : Nat) (Q : Int → Nat → Prop) : Prop where
  d1 : 1 ≤ D
  u36 : U ≤ 36
  d12 : D ≤ 12
  cop : Nat.gcd U D = 1
  all : ∀ T C, Q T C → T * (D : Int) ≤ (U : Int) * (C : Int)
  one : (U = 0 ∧ D = 1) ∨ ∃ T C, Q T C ∧ 1 ≤ C ∧ T * (D : Int) = (U : Int) * (C : Int)
/-- the pace of a net: in lowest terms, kept, and nothing less is kept -/
structure IsPace (g : Gr) (U D : Nat) : Prop where
  d1 : 1 ≤ D
  u36 : U ≤ 36
  d12 : D ≤ 12
  cop : Nat.gcd U D = 1
  kept : g.keeps U D
  least : ∀ up down : Int, 0 ≤ up → 1 ≤ down → g.keeps up down → (U : Int) * down ≤ up * (D : Int)
end Go.Proofs.YtjcbpnffmebihaaGreatDoor
namespace Go.Proofs.YtjcbpnffmebihaaGreatDoor
open Go.RowKit Go.WideShapes

/-- two cells of a block, that may be written -/
def Two (w : World) (b : Nat) (x y : Value) : Prop := (w.cell? ⟨b, 0, none⟩ = some x ∧ w.frozen? ⟨b, 0, none⟩ = false) ∧ w.cell? ⟨b, 1, none⟩ = some y ∧ w.frozen? ⟨b, 1, none⟩ = false
theorem Two.block {w w' : World} {b : Nat} {x y : Value} (h : Two w b x y) (e : w'.heap[b]? = w.heap[b]?) : Two w' b x y :=
  ⟨⟨by rw [World.cell?_of_block (w := w) e]; exact h.1.1, by rw [World.frozen?_of_block (w := w) e]; exact h.1.2⟩, by rw [World.cell?_of_block (w := w) e]; exact h.2.1, by rw [World.frozen?_of_block (w := w) e]; exact h.2.2⟩
theorem Two.lt {w : World} {b : Nat} {x y : Value} (h : Two w b x y) : b < w.heap.size := World.block_lt_of_cell? w _ h.1.1
theorem Two.grown {w w' : World} {b : Nat} {x y : Value} {r : Option Nat} (h : Two w b x y) (hg : w.grownBy w' r) (hr : some b ≠ r) : Two w' b x y := h.block (hg.block b h.lt hr)
end Go.Proofs.YtjcbpnffmebihaaGreatDoor
namespace Go.Proofs.YtjcbpnffmebihaaGreatDoor

/-- Pascal's triangle up to 12, ten bits a number -/
def pasT : Nat := 54385061065684800540011163633074225266529689054062350113096803723279458193811827842204926003977343309459177112652888669744470748115619296461917853970249117576653513846418436790461392887768700952485466176952685347854922204958842601551461357000522739273210641263130788881835566643715928825264181515877615878201727098649938612295921831467937628080429425022212340976598681061771703336248555950105563781297952392327987407334892147973078235041655175546388897522636949859416138614742195963638451675281028127129601
/-- in how many ways k of n are chosen, for n and k up to 12 -/
def ch (n k : Nat) : Nat := (pasT / 1024 ^ (13 * n + k)) % 1024
set_option maxRecDepth 100000
end Go.Proofs.YtjcbpnffmebihaaGreatDoor
namespace Go.Proofs.YtjcbpnffmebihaaGreatDoor
open Go.RowKit

/-- chances -/
def chM (xs : List Int) : Bool := decide (1 ≤ xs.length ∧ xs.length ≤ 7) && allIn 0 9 xs && decide (0 < totalM xs)
def okO (xs : List Int) (o u : Int) : Bool := chM xs && inB 0 30 o && inB 0 30 u
theorem chM_at {xs : List Int} (h : chM xs = true) : 1 ≤ xs.length ∧ xs.length ≤ 7 ∧ (∀ k, 0 ≤ xs.getD k 0 ∧ xs.getD k 0 ≤ 9) ∧ 0 < sumN xs xs.length := by
  unfold chM at h
  simp only [Bool.and_eq_true, decide_eq_true_eq] at h
  exact ⟨h.1.1.1, h.1.1.2, fun k => allIn_getD h.1.2 (by omega) (by omega) k, by rw [← totalM_eq]; exact h.2⟩
theorem okO_at {xs : List Int} {o u : Int} (h : okO xs o u = true) : chM xs = true ∧ 0 ≤ o ∧ o ≤ 30 ∧ 0 ≤ u ∧ u ≤ 30 := by
  unfold okO inB at h
  simp only [Bool.and_eq_true, decide_eq_true_eq] at h
  exact ⟨h.1.1, h.1.2.1, h.1.2.2, h.2.1, h.2.2⟩
theorem sumS_mono {xs : List Int} (h : ∀ k, 0 ≤ xs.getD k 0) {a b : Nat} (hab : a ≤ b) : sumN xs a ≤ sumN xs b := by
  induction b with
  | zero => have : a = 0 := by omega
            subst this; exact Int.le_refl _
  | succ b ih =>
    rcases Nat.lt_or_ge b a with h1 | h1
    · have : a = b + 1 := by omega
      subst this; exact Int.le_refl _
    · have := ih h1; have := h b; rw [sumN]; omega
theorem sumN_past (xs : List Int) {k : Nat} (h : xs.length ≤ k) : sumN xs k = sumN xs xs.length := by
  induction k with
  | zero => have : xs.length = 0 := by omega
            rw [this]
  | succ k ih =>
    rcases Nat.lt_or_ge k xs.length with h1 | h1
    · have : xs.length = k + 1 := by omega
      rw [this]
    · rw [sumN, ih h1, getD_past h1]; omega
theorem sumS_0 {xs : List Int} (h : ∀ k, 0 ≤ xs.getD k 0) (k : Nat) : 0 ≤ sumN xs k := by
  have := sumS_mono h (Nat.zero_le k); simpa [sumN] using this
/-- what one want of v costs at a stock of s -/
def unitC (s v : Nat) (o u : Int) : Int := o * ((s - v : Nat) : Int) + u * ((v - s : Nat) : Int)
def costK (xs : List Int) (s : Nat) (o u : Int) : Nat → Int
  | 0 => 0
  | k + 1 => costK xs s o u k + xs.getD k 0 * unitC s k o u
def costS (xs : List Int) (s : Nat) (o u : Int) : Int := costK xs s o u xs.length
def stockRes (xs : List Int) (s : Int) (o u : Int) : Int := if okO xs o u && inB 0 7 s then costS xs s.toNat o u else -1
theorem unit_bd {s v : Nat} {o u : Int} (ho : 0 ≤ o ∧ o ≤ 30) (hu : 0 ≤ u ∧ u ≤ 30) (hs : s ≤ 8) (hv : v ≤ 8) : 0 ≤ unitC s v o u ∧ unitC s v o u ≤ 480 := by
  unfold unitC
  have b1 : 0 ≤ o * ((s - v : Nat) : Int) ∧ o * ((s - v : Nat) : Int) ≤ 30 * 8 := ⟨Int.mul_nonneg ho.1 (by omega), Int.mul_le_mul ho.2 (by omega) (by omega) (by omega)⟩
  have b2 : 0 ≤ u * ((v - s : Nat) : Int) ∧ u * ((v - s : Nat) : Int) ≤ 30 * 8 := ⟨Int.mul_nonneg hu.1 (by omega), Int.mul_le_mul hu.2 (by omega) (by omega) (by omega)⟩
  omega
theorem termC_bd {x c : Int} (hx : 0 ≤ x ∧ x ≤ 9) (hc : 0 ≤ c ∧ c ≤ 480) : 0 ≤ x * c ∧ x * c ≤ 4320 :=
  ⟨Int.mul_nonneg hx.1 hc.1, by have := Int.mul_le_mul hx.2 hc.2 hc.1 (by omega : (0 : Int) ≤ 9); omega⟩
theorem costK_bd10 {xs : List Int} {s : Nat} {o u : Int} (hx : ∀ k, 0 ≤ xs.getD k 0 ∧ xs.getD k 0 ≤ 9) (ho : 0 ≤ o ∧ o ≤ 30) (hu : 0 ≤ u ∧ u ≤ 30) (hs : s ≤ 8) : ∀ k : Nat, k ≤ 8 → 0 ≤ costK xs s o u k ∧ costK xs s o u k ≤ 4320 * (k : Int)
  | 0, _ => by simp [costK]
  | k + 1, hk => by
    have ih := costK_bd10 hx ho hu hs k (by omega)
    have := termC_bd (hx k) (unit_bd (s := s) (v := k) ho hu hs (by omega))
    rw [costK]; push_cast; omega
theorem costK_step {xs : List Int} {s : Nat} {o u : Int} : ∀ k : Nat, costK xs (s + 1) o u k = costK xs s o u k + (o + u) * sumN xs (min (s + 1) k) - u * sumN xs k
  | 0 => by simp [costK, sumN]
  | k + 1 => by
    rw [costK, costK, costK_step k, sumN]
    rcases Nat.lt_or_ge s k with h | h
    · rw [Nat.min_eq_left (by omega), Nat.min_eq_left (by omega)]
      have e1 : unitC (s + 1) k o u = unitC s k o u - u := by
        unfold unitC
        rw [show s + 1 - k = 0 by omega, show s - k = 0 by omega, show ((k - s : Nat) : Int) = ((k - (s + 1) : Nat) : Int) + 1 by omega, Int.mul_add]
        omega
      rw [e1, Int.mul_sub, Int.mul_add u, Int.mul_comm u (xs.getD k 0)]
      omega
    · rw [Nat.min_eq_right (by omega), Nat.min_eq_right (by omega), sumN]
      have e1 : unitC (s + 1) k o u = unitC s k o u + o := by
        unfold unitC
        rw [show k - (s + 1) = 0 by omega, show k - s = 0 by omega, show ((s + 1 - k : Nat) : Int) = ((s - k : Nat) : Int) + 1 by omega, Int.mul_add]
        omega
      rw [e1, Int.mul_add, Int.mul_add (o + u), Int.mul_add u, Int.add_mul o u (xs.getD k 0), Int.mul_comm u (xs.getD k 0), Int.mul_comm o (xs.getD k 0)]
      omega
theorem costS_step (xs : List Int) (s : Nat) (o u : Int) : costS xs (s + 1) o u = costS xs s o u + (sumN xs (s + 1) * (o + u) - u * sumN xs xs.length) := by
  unfold costS
  rw [costK_step]
  have e : sumN xs (min (s + 1) xs.length) = sumN xs (s + 1) := by
    rcases Nat.lt_or_ge (s + 1) xs.length with h | h
    · rw [Nat.min_eq_left (by omega)]
    · rw [Nat.min_eq_right h, sumN_past xs h]
  rw [e, Int.mul_comm (o + u)]
  omega

/-- the first from s on at which p holds, or the end -/
def firstB (p : Nat → Bool) : Nat → Nat → Nat
  | 0, s => s
  | n + 1, s => if p s then s else firstB p n (s + 1)
theorem firstB_is (p : Nat → Bool) : ∀ n s, s ≤ firstB p n s ∧ firstB p n s ≤ s + n ∧ (∀ j, s ≤ j → j < firstB p n s → p j = false) ∧ (firstB p n s < s + n → p (firstB p n s) = true)
  | 0, s => ⟨Nat.le_refl _, Nat.le_refl _, fun j h1 h2 => by simp only [firstB] at h2; omega, fun h => by simp only [firstB] at h; omega⟩
  | n + 1, s => by
    cases h : p s
    · have e : firstB p (n + 1) s = firstB p n (s + 1) := by simp [firstB, h]
      obtain ⟨i1, i2, i3, i4⟩ := firstB_is p n (s + 1)
      rw [e]
      refine ⟨by omega, by omega, fun j h1 h2 => ?_, fun h2 => i4 (by omega)⟩
      rcases Nat.eq_or_lt_of_le h1 with h3 | h3
      · rw [← h3]; exact h
      · exact i3 j (by omega) h2
    · have e : firstB p (n + 1) s = s := by simp [firstB, h]
      rw [e]
      exact ⟨Nat.le_refl _, by omega, fun j h1 h2 => by omega, fun _ => h⟩
/-- the share is met at s -/
def metB (xs : List Int) (o u : Int) (s : Nat) : Bool := decide (u * sumN xs xs.length ≤ sumN xs (s + 1) * (o + u))
def shareN (xs : List Int) (o u : Int) : Nat := firstB (metB xs o u) 7 0
def shareRes (xs : List Int) (o u : Int) : Int := if okO xs o u then (shareN xs o u : Int) else -1
theorem met_mono {xs : List Int} {o u : Int} (hx : ∀ k, 0 ≤ xs.getD k 0) (ho : 0 ≤ o) (hu : 0 ≤ u) {s t : Nat} (hst : s ≤ t) (h : metB xs o u s = true) : metB xs o u t = true := by
  unfold metB at h ⊢
  have h := of_decide_eq_true h
  have := Int.mul_le_mul_of_nonneg_right (sumS_mono hx (show s + 1 ≤ t + 1 by omega)) (show 0 ≤ o + u by omega)
  exact decide_eq_true (by omega)
theorem met_last {xs : List Int} {o u : Int} (h : chM xs = true) (ho : 0 ≤ o) (hu : 0 ≤ u) {s : Nat} (hs : xs.length ≤ s + 1) : metB xs o u s = true := by
  obtain ⟨_, _, h2, _⟩ := chM_at h
  unfold metB
  rw [sumN_past xs hs]
  have b := Int.mul_nonneg ho (sumS_0 (fun k => (h2 k).1) xs.length)
  have e : sumN xs xs.length * (o + u) = o * sumN xs xs.length + u * sumN xs xs.length := by rw [Int.mul_comm, Int.add_mul]
  rw [e]
  exact decide_eq_true (by omega)
theorem share_is {xs : List Int} {o u : Int} (h : chM xs = true) (ho : 0 ≤ o) (hu : 0 ≤ u) : shareN xs o u < xs.length ∧ metB xs o u (shareN xs o u) = true ∧ ∀ j, j < shareN xs o u → metB xs o u j = false := by
  obtain ⟨h0, h1, h2, h3⟩ := chM_at h
  obtain ⟨_, i2, i3, i4⟩ := firstB_is (metB xs o u) 7 0
  have hl : shareN xs o u < xs.length := by
    rcases Nat.lt_or_ge (shareN xs o u) xs.length with g | g
    · exact g
    · have := i3 (xs.length - 1) (Nat.zero_le _) (by unfold shareN at g; omega)
      rw [met_last h ho hu (by omega)] at this; cases this
  exact ⟨hl, i4 (by unfold shareN at hl; omega), fun j hj => i3 j (Nat.zero_le _) hj⟩
theorem met_cost {xs : List Int} {o u : Int} {s : Nat} : metB xs o u s = decide (costS xs s o u ≤ costS xs (s + 1) o u) := by
  unfold metB
  rw [costS_step]
  apply decide_eq_decide.2
  omega
theorem cost_up {xs : List Int} {o u : Int} (h : chM xs = true) (ho : 0 ≤ o) (hu : 0 ≤ u) : ∀ d, costS xs (shareN xs o u) o u ≤ costS xs (shareN xs o u + d) o u
  | 0 => Int.le_refl _
  | d + 1 => by
    have ih := cost_up h ho hu d
    have hm := met_mono (s := shareN xs o u) (t := shareN xs o u + d) (fun k => ((chM_at h).2.2.1 k).1) ho hu (by omega) (share_is h ho hu).2.1
    rw [met_cost] at hm
    have := of_decide_eq_true hm
    rw [← Nat.add_assoc]; omega
theorem cost_down {xs : List Int} {o u : Int} {s : Nat} (h : chM xs = true) (ho : 0 ≤ o) (hu : 0 ≤ u) (hs : s < shareN xs o u) : costS xs (s + 1) o u < costS xs s o u := by
  have := (share_is h ho hu).2.2 s hs
  rw [met_cost] at this
  have := of_decide_eq_false this
  omega
theorem cost_down2 {xs : List Int} {o u : Int} (h : chM xs = true) (ho : 0 ≤ o) (hu : 0 ≤ u) {s : Nat} : ∀ d, s + d = shareN xs o u → costS xs (shareN xs o u) o u ≤ costS xs s o u := by
  intro d
  induction d generalizing s with
  | zero => intro e; have : s = shareN xs o u := by omega
            rw [this]; exact Int.le_refl _
  | succ d ih => intro e; have := ih (s := s + 1) (by omega); have := cost_down (s := s) h ho hu (by omega); omega
theorem cost_least {xs : List Int} {o u : Int} (h : chM xs = true) (ho : 0 ≤ o) (hu : 0 ≤ u) (s : Nat) : costS xs (shareN xs o u) o u ≤ costS xs s o u := by
  rcases Nat.lt_or_ge s (shareN xs o u) with g | g
  · exact cost_down2 h ho hu (shareN xs o u - s) (by omega)
  · have := cost_up h ho hu (s - shareN xs o u)
    rwa [show shareN xs o u + (s - shareN xs o u) = s by omega] at this
/-- the walk from 0 up that keeps the first best one stands at the share, or before it -/
theorem best_step {xs : List Int} {o u : Int} (h : chM xs = true) (ho : 0 ≤ o) (hu : 0 ≤ u) {k : Nat} :
    (if costS xs k o u < costS xs (min (shareN xs o u) (k - 1)) o u then k else min (shareN xs o u) (k - 1)) = min (shareN xs o u) k := by
  rcases Nat.lt_or_ge (shareN xs o u) k with g | g
  · rw [Nat.min_eq_left (by omega), Nat.min_eq_left (by omega), if_neg]
    have := cost_least h ho hu k
    omega
  · rw [Nat.min_eq_right (by omega), Nat.min_eq_right g]
    cases k with
    | zero => simp
    | succ k =>
      rw [if_pos]
      exact cost_down h ho hu (by omega)

-- ages
end Go.Proofs.YtjcbpnffmebihaaGreatDoor
namespace Go.Proofs.YtjcbpnffmebihaaGreatDoor

/-! The desk, plain: what a line is answered by. -/
def kTwo : ByteArray := ⟨#[116, 119, 111]⟩
def kKept : ByteArray := ⟨#[107, 101, 112, 116]⟩
def kLots : ByteArray := ⟨#[108, 111, 116, 115]⟩
def kRolls : ByteArray := ⟨#[114, 111, 108, 108, 115]⟩
def kStock : ByteArray := ⟨#[115, 116, 111, 99, 107]⟩
def kLong : ByteArray := ⟨#[108, 111, 110, 103]⟩
def sWhat : ByteArray := ⟨#[119, 104, 97, 116]⟩
def sWrong : ByteArray := ⟨#[119, 114, 111, 110, 103]⟩
def twoB (rows : List (List Int)) : ByteArray := listB (ruleI rows rows.length) ++ sgnB 32 ++ numB (spanT (ta rows) (tb rows) (nO (ruleI rows rows.length)))
def keptB (rows : List (List Int)) : ByteArray := listB (nI (keptM rows rows.length rows.length))
def lotsB (xs : List Int) (a b : Int) : ByteArray := listB (bestLotsM xs a b) ++ sgnB 32 ++ numB (bst xs a b 0)
def rollsB (xs : List Int) (R : Int) : ByteArray := numB (rollsRes xs R) ++ sgnB 32 ++ listB (rollRes xs R kLong)
def stockB (xs : List Int) (o u : Int) : ByteArray := numB (shareRes xs o u)
/-- the answer to words, the last of them read as rows -/
def wordsB (ws : List ByteArray) (rows : List (List Int)) : ByteArray :=
  if ws.getD 0 ByteArray.empty = kTwo then (if ws.length = 2 ∧ pairsM rows = true then twoB rows else sWrong)
  else if ws.getD 0 ByteArray.empty = kKept then (if ws.length = 2 ∧ jobsM rows = true then keptB rows else sWrong)
  else if ws.getD 0 ByteArray.empty = kLots then
    (if ws.length = 4 ∧ validLotsM (rows.getD 0 []) (readB (ws.getD 1 ByteArray.empty)) (readB (ws.getD 2 ByteArray.empty)) = true ∧ rows.length = 1 then lotsB (rows.getD 0 []) (readB (ws.getD 1 ByteArray.empty)) (readB (ws.getD 2 ByteArray.empty)) else sWrong)
  else if ws.getD 0 ByteArray.empty = kRolls then
    (if ws.length = 3 ∧ rows.length = 1 ∧ cutsM (rows.getD 0 []) (readB (ws.getD 1 ByteArray.empty)) = true then rollsB (rows.getD 0 []) (readB (ws.getD 1 ByteArray.empty)) else sWrong)
  else if ws.getD 0 ByteArray.empty = kStock then
    (if ws.length = 4 ∧ rows.length = 1 ∧ okO (rows.getD 0 []) (readB (ws.getD 1 ByteArray.empty)) (readB (ws.getD 2 ByteArray.empty)) = true then stockB (rows.getD 0 []) (readB (ws.getD 1 ByteArray.empty)) (readB (ws.getD 2 ByteArray.empty)) else sWrong)
  else sWhat
/-- the answer to a line -/
def ansB (line : ByteArray) : ByteArray := wordsB (splitB line 32) (rowsB ((splitB line 32).getD ((splitB line 32).length - 1) ByteArray.empty))
/-- the answers, each with a newline behind it -/
def deskB : List ByteArray → ByteArray
  | [] => ByteArray.empty
  | l :: ls => ansB l ++ sgnB 10 ++ deskB ls
/-- the desk -/
def deskRes (ls : List ByteArray) : ByteArray := if ls.length ≤ 20 then deskB ls else ByteArray.empty
theorem deskB_app : ∀ a b : List ByteArray, deskB (a ++ b) = deskB a ++ deskB b
  | [], b => by rw [List.nil_append, deskB, ByteArray.empty_append]
  | x :: xs, b => by rw [List.cons_append, deskB, deskB, deskB_app xs b]; simp only [ByteArray.append_assoc]
theorem deskB_snoc (ls : List ByteArray) (l : ByteArray) : deskB (ls ++ [l]) = deskB ls ++ ansB l ++ sgnB 10 := by
  rw [deskB_app, deskB, deskB, ByteArray.append_empty]; simp only [ByteArray.append_assoc]
theorem deskB_size {C : Nat} (h : ∀ l, (ansB l).size ≤ C) : ∀ ls : List ByteArray, (deskB ls).size ≤ ls.length * (C + 1)
  | [] => by rw [deskB]; exact Nat.zero_le _
  | l :: ls => by
    have a := deskB_size h ls
    have b := h l
    rw [deskB, ByteArray.size_append, ByteArray.size_append, sgnB_size, List.length_cons, Nat.succ_mul]
    omega
/-- how many newlines a text has -/
def nlB (s : ByteArray) : Nat := (s.data.toList.filter (fun c => c = 10)).length
theorem nlB_app (a b : ByteArray) : nlB (a ++ b) = nlB a + nlB b := by
  unfold nlB
  rw [ByteArray.data_append, Array.toList_append, List.filter_append, List.length_append]
theorem nlB_desk (h : ∀ l, nlB (ansB l) = 0) : ∀ ls : List ByteArray, nlB (deskB ls) = ls.length
  | [] => rfl
  | l :: ls => by
    rw [deskB, nlB_app, nlB_app, nlB_desk h ls, h l, List.length_cons]
    show 0 + 1 + _ = _
    omega
theorem nlB_dig {n : Nat} (h : n < 10) : nlB (digB n) = 0 := by
  have : ∀ k : Fin 10, nlB (digB k.1) = 0 := by decide
  exact this ⟨n, h⟩
theorem nlB_nat (n : Nat) : nlB (natB n) = 0 := by
  induction n using Nat.strongRecOn with
  | ind n ih =>
    by_cases h : n < 10
    · rw [natB_lt h]; exact nlB_dig h
    · rw [natB_ge h, nlB_app, ih (n / 10) (by omega), ih (n % 10) (by omega)]
theorem nlB_num (n : Int) : nlB (numB n) = 0 := by
  unfold numB
  split
  · rw [nlB_app, nlB_nat]; rfl
  · exact nlB_nat _
theorem nlB_tail : ∀ xs : List Int, nlB (tailB xs) = 0
  | [] => rfl
  | x :: xs => by rw [tailB, nlB_app, nlB_app, nlB_num, nlB_tail xs]; rfl
theorem nlB_list (xs : List Int) : nlB (listB xs) = 0 := by
  cases xs with
  | nil => rfl
  | cons x xs => rw [listB, nlB_app, nlB_num, nlB_tail]
theorem nlB_words (ws : List ByteArray) (rows : List (List Int)) : nlB (wordsB ws rows) = 0 := by
  have s1 : nlB (sgnB 32) = 0 := rfl
  have s2 : nlB sWrong = 0 := rfl
  have s3 : nlB sWhat = 0 := rfl
  unfold wordsB
  repeat' split
  all_goals first | exact s2 | exact s3 | (unfold twoB; rw [nlB_app, nlB_app, nlB_list, nlB_num, s1]) | (unfold keptB; exact nlB_list _) | (unfold lotsB; rw [nlB_app, nlB_app, nlB_list, nlB_num, s1]) | (unfold rollsB; rw [nlB_app, nlB_app, nlB_list, nlB_num, s1]) | (unfold stockB; exact nlB_num _)
theorem nlB_ans (l : ByteArray) : nlB (ansB l) = 0 := nlB_words _ _
end Go.Proofs.YtjcbpnffmebihaaGreatDoor
namespace Go.Proofs.YtjcbpnffmebihaaGreatDoor

-- chapter 11, plain: each cut is tried on each roll that has room, or on a new one
def tryTo (f : Nat → Int) (P : Nat → Bool) (b : Int) : Nat → Int
  | 0 => b
  | k + 1 => if P k then min (tryTo f P b k) (f k) else tryTo f P b k
theorem tryTo_le {f : Nat → Int} {P : Nat → Bool} {b : Int} : ∀ k, tryTo f P b k ≤ b ∧ ∀ j, j < k → P j = true → tryTo f P b k ≤ f j
  | 0 => ⟨Int.le_refl _, fun j hj => by omega⟩
  | k + 1 => by
    have ih := tryTo_le (f := f) (P := P) (b := b) k
    rw [tryTo]
    cases e : P k
    · refine ⟨ih.1, fun j hj hp => ?_⟩
      by_cases e2 : j = k
      · subst e2; rw [e] at hp; cases hp
      · exact ih.2 j (by omega) hp
    · simp only [if_true]
      refine ⟨by omega, fun j hj hp => ?_⟩
      by_cases e2 : j = k
      · subst e2; omega
      · have := ih.2 j (by omega) hp; omega
theorem tryTo_get {f : Nat → Int} {P : Nat → Bool} {b : Int} : ∀ k, tryTo f P b k = b ∨ ∃ j, j < k ∧ P j = true ∧ tryTo f P b k = f j
  | 0 => .inl rfl
  | k + 1 => by
    rw [tryTo]
    rcases tryTo_get (f := f) (P := P) (b := b) k with h | ⟨j, h1, h2, h3⟩
    · cases e : P k
      · exact .inl h
      · simp only [if_true]
        by_cases g : tryTo f P b k ≤ f k
        · exact .inl (by omega)
        · exact .inr ⟨k, by omega, e, by omega⟩
    · cases e : P k
      · exact .inr ⟨j, by omega, h2, h3⟩
      · simp only [if_true]
        by_cases g : tryTo f P b k ≤ f k
        · exact .inr ⟨j, by omega, h2, by omega⟩
        · exact .inr ⟨k, by omega, e, by omega⟩
/-- roll r, which may be a new one, has room -/
def hasR (R : Int) (L : List Int) (r : Nat) (y : Int) : Bool := decide (r = L.length) || decide (y ≤ R - L.getD r 0)
def putR (L : List Int) (r : Nat) (y : Int) : List Int := if r = L.length then L ++ [y] else L.set r (L.getD r 0 + y)
def goL (R : Int) : List Int → List Int → Int
  | [], L => (L.length : Nat)
  | y :: ys, L => tryTo (fun r => goL R ys (putR L r y)) (fun r => hasR R L r y) ((L.length + (ys.length + 1) : Nat) : Int) (L.length + 1)
theorem putR_len (L : List Int) (r : Nat) (y : Int) : (putR L r y).length = if r = L.length then L.length + 1 else L.length := by
  unfold putR; split <;> simp
theorem go_bd (R : Int) : ∀ (ys L : List Int), 0 ≤ goL R ys L ∧ goL R ys L ≤ ((L.length + ys.length : Nat) : Int)
  | [], L => by rw [goL]; simp only [List.length_nil]; omega
  | y :: ys, L => by
    rw [goL]
    refine ⟨?_, (tryTo_le _).1⟩
    rcases tryTo_get (f := fun r => goL R ys (putR L r y)) (P := fun r => hasR R L r y) (b := ((L.length + (ys.length + 1) : Nat) : Int)) (L.length + 1) with h | ⟨j, _, _, h⟩
    · rw [h]; omega
    · rw [h]; exact (go_bd R ys _).1
section
variable {xs : List Int} {R : Int}
/-- k cuts lie on the rolls whose loads are L -/
structure Pl (xs : List Int) (R : Int) (k : Nat) (L : List Int) (p : Nat → Nat) : Prop where
  on : ∀ i, i < k → p i < L.length
  load : ∀ j, j < L.length → L.getD j 0 = wsum (lenT xs) (fun i => p i == j) k
  fits : ∀ j, j < L.length → L.getD j 0 ≤ R
theorem wsum_pre {f : Nat → Int} {P : Nat → Bool} : ∀ (d k : Nat), (∀ i, i < k + d → 0 ≤ f i) → wsum f P k ≤ wsum f P (k + d)
  | 0, k, _ => Int.le_refl _
  | d + 1, k, h => by
    have ih := wsum_pre (P := P) d k (fun i hi => h i (by omega))
    have := h (k + d) (by omega)
    show _ ≤ wsum f P (k + d) + (if P (k + d) then f (k + d) else 0)
    split <;> omega
theorem getD_snocI {L : List Int} {y : Int} {j : Nat} : (L ++ [y]).getD j 0 = if j < L.length then L.getD j 0 else if j = L.length then y else 0 := by
  rw [List.getD_eq_getElem?_getD, List.getD_eq_getElem?_getD]
  by_cases h : j < L.length
  · rw [if_pos h, List.getElem?_append_left h]
  · rw [if_neg h, List.getElem?_append_right (by omega)]
    by_cases h2 : j = L.length
    · rw [if_pos h2, h2, Nat.sub_self]; rfl
    · rw [if_neg h2, List.getElem?_eq_none (by simp; omega)]; rfl
theorem getD_setI {L : List Int} {x : Int} {r j : Nat} (hr : r < L.length) : (L.set r x).getD j 0 = if j = r then x else L.getD j 0 := by
  rw [List.getD_eq_getElem?_getD, List.getD_eq_getElem?_getD, List.getElem?_set]
  by_cases h : r = j
  · subst h; rw [if_pos rfl, if_pos rfl, if_pos hr]; rfl
  · rw [if_neg h, if_neg (fun e => h e.symm)]
theorem Pl.put {k : Nat} {L : List Int} {p : Nat → Nat} (h : Pl xs R k L p) {r : Nat} (hr : r ≤ L.length) (hx : lenT xs k ≤ R) (hroom : hasR R L r (lenT xs k) = true) : Pl xs R (k + 1) (putR L r (lenT xs k)) (fun i => if i = k then r else p i) := by
  have hpre : ∀ j, wsum (lenT xs) (fun i => (if i = k then r else p i) == j) k = wsum (lenT xs) (fun i => p i == j) k := fun j =>
    wsum_congr k (fun i hi => by rw [if_neg (by omega)]) (fun _ _ _ => rfl)
  have hlen := putR_len L r (lenT xs k)
  refine ⟨fun i hi => ?_, fun j hj => ?_, fun j hj => ?_⟩
  · rw [hlen]
    by_cases e : i = k
    · rw [if_pos e]; split <;> omega
    · rw [if_neg e]
      have := h.on i (by omega)
      split <;> omega
  · rw [wsum, hpre]
    simp only [if_true]
    unfold putR
    by_cases e : r = L.length
    · rw [if_pos e, getD_snocI]
      by_cases e2 : j < L.length
      · rw [if_pos e2, h.load j e2, if_neg (by simp; omega)]; omega
      · rw [hlen, if_pos e] at hj
        rw [if_neg e2, if_pos (by omega), if_pos (by simp; omega), wsum_none k (fun i hi => by have := h.on i hi; simp; omega)]; omega
    · rw [if_neg e, getD_setI (by omega)]
      rw [hlen, if_neg e] at hj
      by_cases e2 : j = r
      · subst e2; rw [if_pos rfl, if_pos (by simp), h.load j hj]
      · rw [if_neg e2, if_neg (by simp; omega), h.load j hj]; omega
  · unfold putR
    rw [hlen] at hj
    by_cases e : r = L.length
    · rw [if_pos e, getD_snocI]
      rw [if_pos e] at hj
      by_cases e2 : j < L.length
      · rw [if_pos e2]; exact h.fits j e2
      · rw [if_neg e2, if_pos (by omega)]; exact hx
    · rw [if_neg e, getD_setI (by omega)]
      rw [if_neg e] at hj
      by_cases e2 : j = r
      · rw [if_pos e2]
        unfold hasR at hroom
        rw [decide_eq_false e, Bool.false_or, decide_eq_true_eq] at hroom
        omega
      · rw [if_neg e2]; exact h.fits j hj
theorem drop_cons {k : Nat} {y : Int} {ys : List Int} (e : xs.drop k = y :: ys) : k < xs.length ∧ lenT xs k = y ∧ xs.drop (k + 1) = ys ∧ xs.length = k + (ys.length + 1) := by
  have hl := congrArg List.length e
  rw [List.length_drop, List.length_cons] at hl
  have hk : k < xs.length := by omega
  rw [List.drop_eq_getElem_cons hk] at e
  injection e with e1 e2
  refine ⟨hk, ?_, e2, by omega⟩
  unfold lenT
  rw [List.getD_eq_getElem?_getD, List.getElem?_eq_getElem hk, e1]; rfl
/-- what is found are rolls on which all lies -/
theorem go_lower (hR : 0 ≤ R) (hx : ∀ i, i < xs.length → 1 ≤ lenT xs i ∧ lenT xs i ≤ R) : ∀ (ys : List Int) (k : Nat) (L : List Int) (p : Nat → Nat), xs.drop k = ys → k ≤ xs.length → Pl xs R k L p →
    ∃ (m : Nat) (q : Nat → Nat), goL R ys L = (m : Int) ∧ (∀ i, i < xs.length → q i < m) ∧ ∀ j, wsum (lenT xs) (fun i => q i == j) xs.length ≤ R
  | [], k, L, p, e, hk, h => by
    have hl := congrArg List.length e
    rw [List.length_drop, List.length_nil] at hl
    obtain rfl : k = xs.length := by omega
    refine ⟨L.length, p, rfl, h.on, fun j => ?_⟩
    by_cases hj : j < L.length
    · rw [← h.load j hj]; exact h.fits j hj
    · rw [wsum_none _ (fun i hi => by have := h.on i hi; simp; omega)]; exact hR
  | y :: ys, k, L, p, e, hk, h => by
    obtain ⟨h1, h2, h3, h4⟩ := drop_cons e
    subst h2
    have hnew : hasR R L L.length (lenT xs k) = true := by unfold hasR; rw [decide_eq_true rfl, Bool.true_or]
    have hput := fun r (hr : r ≤ L.length) (hroom : hasR R L r (lenT xs k) = true) => go_lower hR hx ys (k + 1) _ _ h3 (by omega) (h.put hr (hx k h1).2 hroom)
    rw [goL]
    rcases tryTo_get (f := fun r => goL R ys (putR L r (lenT xs k))) (P := fun r => hasR R L r (lenT xs k)) (b := ((L.length + (ys.length + 1) : Nat) : Int)) (L.length + 1) with g | ⟨j, g1, g2, g3⟩
    · have hle := (tryTo_le (f := fun r => goL R ys (putR L r (lenT xs k))) (P := fun r => hasR R L r (lenT xs k)) (b := ((L.length + (ys.length + 1) : Nat) : Int)) (L.length + 1)).2 L.length (by omega) hnew
      have hb := (go_bd R ys (putR L L.length (lenT xs k))).2
      rw [putR_len, if_pos rfl] at hb
      have he : goL R ys (putR L L.length (lenT xs k)) = ((L.length + (ys.length + 1) : Nat) : Int) := by
        have hle' : tryTo (fun r => goL R ys (putR L r (lenT xs k))) (fun r => hasR R L r (lenT xs k)) ((L.length + (ys.length + 1) : Nat) : Int) (L.length + 1) ≤ goL R ys (putR L L.length (lenT xs k)) := hle
        rw [g] at hle'
        omega
      rw [g, ← he]
      exact hput L.length (Nat.le_refl _) hnew
    · rw [g3]
      exact hput j (by omega) g2
theorem inj_le {u m : Nat} {s : Nat → Nat} (h1 : ∀ j, j < u → s j < m) (h2 : ∀ i j, i < u → j < u → s i = s j → i = j) : u ≤ m := by
  have e := card_bins (P := fun _ => true) (p := s) (n := u) (v := m) (fun i hi _ => h1 i hi)
  rw [card_all] at e
  have hb : ∀ v, bsumN (fun b => card (fun i => true && s i == b) u) v ≤ v := by
    intro v
    induction v with
    | zero => exact Nat.le_refl _
    | succ v ih =>
      rw [bsumN]
      have : card (fun i => true && s i == v) u ≤ 1 := by
        rw [← Int.ofNat_le, card_w]
        by_cases hz : ∃ a, a < u ∧ s a = v
        · obtain ⟨a, ha, hsa⟩ := hz
          rw [wsum_only u ha (by simp [hsa]) (fun i hi hp => h2 i a hi ha (by simp at hp; omega))]; decide
        · rw [wsum_none u (fun i hi => by simp; exact fun h => hz ⟨i, hi, h⟩)]; decide
      omega
  have := hb m
  omega
/-- no plan has fewer -/
theorem go_upper {m : Nat} {q : Nat → Nat} (hx : ∀ i, i < xs.length → 1 ≤ lenT xs i ∧ lenT xs i ≤ R) (hq : ∀ i, i < xs.length → q i < m) (hql : ∀ j, wsum (lenT xs) (fun i => q i == j) xs.length ≤ R) :
    ∀ (ys : List Int) (k : Nat) (L : List Int) (p s : Nat → Nat), xs.drop k = ys → k ≤ xs.length → Pl xs R k L p → (∀ i, i < k → s (p i) = q i) → (∀ j, j < L.length → s j < m) → (∀ i j, i < L.length → j < L.length → s i = s j → i = j) →
    goL R ys L ≤ (m : Int)
  | [], k, L, p, s, _, _, _, _, h2, h3 => by rw [goL]; have := inj_le h2 h3; omega
  | y :: ys, k, L, p, s, e, hk, h, h1, h2, h3 => by
    obtain ⟨g1, g2, g3, g4⟩ := drop_cons e
    subst g2
    have hpre : ∀ v, wsum (lenT xs) (fun i => q i == v) (k + 1) ≤ R := fun v => by
      have := wsum_pre (f := lenT xs) (P := fun i => q i == v) (xs.length - (k + 1)) (k + 1) (fun i hi => by have := (hx i (by omega)).1; omega)
      rw [show k + 1 + (xs.length - (k + 1)) = xs.length by omega] at this
      exact Int.le_trans this (hql v)
    have step : ∀ (r : Nat) (s' : Nat → Nat), r ≤ L.length → hasR R L r (lenT xs k) = true → (∀ i, i < k + 1 → s' (if i = k then r else p i) = q i) → (∀ j, j < (putR L r (lenT xs k)).length → s' j < m) → (∀ i j, i < (putR L r (lenT xs k)).length → j < (putR L r (lenT xs k)).length → s' i = s' j → i = j) → goL R (lenT xs k :: ys) L ≤ (m : Int) := fun r s' hr hroom a1 a2 a3 => by
      rw [goL]
      exact Int.le_trans ((tryTo_le _).2 r (by omega) hroom) (go_upper hx hq hql ys (k + 1) _ _ s' g3 (by omega) (h.put hr (hx k g1).2 hroom) a1 a2 a3)
    by_cases hz : ∃ j, j < L.length ∧ s j = q k
    · obtain ⟨j, hj, hsj⟩ := hz
      have hroom : hasR R L j (lenT xs k) = true := by
        unfold hasR
        have hw := hpre (s j)
        rw [wsum, if_pos (by simp [hsj])] at hw
        have hl : L.getD j 0 = wsum (lenT xs) (fun i => q i == s j) k := by
          rw [h.load j hj]
          refine wsum_congr k (fun i hi => ?_) (fun _ _ _ => rfl)
          by_cases e2 : p i = j
          · rw [show (p i == j) = true by simp [e2], ← h1 i hi, e2]; simp
          · rw [show (p i == j) = false by simp [e2]]
            have hne : ¬ q i = s j := fun e3 => e2 (h3 (p i) j (h.on i hi) hj ((h1 i hi).trans e3))
            rw [show (q i == s j) = false by simp [hne]]
        rw [decide_eq_true (p := lenT xs k ≤ R - L.getD j 0) (by omega), Bool.or_true]
      have hlen : (putR L j (lenT xs k)).length = L.length := by rw [putR_len, if_neg (by omega)]
      refine step j s (by omega) hroom (fun i hi => ?_) (fun i hi => h2 i (by omega)) (fun i i' hi hi' => h3 i i' (by omega) (by omega))
      by_cases e2 : i = k
      · rw [if_pos e2, hsj, e2]
      · rw [if_neg e2]; exact h1 i (by omega)
    · have hroom : hasR R L L.length (lenT xs k) = true := by unfold hasR; rw [decide_eq_true rfl, Bool.true_or]
      have hlen : (putR L L.length (lenT xs k)).length = L.length + 1 := by rw [putR_len, if_pos rfl]
      refine step L.length (fun j => if j = L.length then q k else s j) (Nat.le_refl _) hroom (fun i hi => ?_) (fun i hi => ?_) (fun i i' hi hi' => ?_)
      · by_cases e2 : i = k
        · subst e2; rw [if_pos rfl, if_pos rfl]
        · rw [if_neg e2]
          have := h.on i (by omega)
          rw [if_neg (by omega)]; exact h1 i (by omega)
      · by_cases e2 : i = L.length
        · rw [if_pos e2]; exact hq k g1
        · rw [if_neg e2]; exact h2 i (by omega)
      · by_cases e2 : i = L.length <;> by_cases e3 : i' = L.length
        · intro _; omega
        · rw [if_pos e2, if_neg e3]; exact fun e4 => absurd ⟨i', by omega, e4.symm⟩ hz
        · rw [if_neg e2, if_pos e3]; exact fun e4 => absurd ⟨i, by omega, e4⟩ hz
        · rw [if_neg e2, if_neg e3]; exact h3 i i' (by omega) (by omega)
/-- all that is tried is the fewest -/
theorem go_few (hv : cutsM xs R = true) : goL R xs [] = fewRl xs R := by
  obtain ⟨hR, _, _, hx⟩ := cuts_get hv
  have h0 : Pl xs R 0 [] (fun _ => 0) := ⟨fun i hi => by omega, fun j hj => by simp at hj, fun j hj => by simp at hj⟩
  obtain ⟨m, q, e, h1, h2⟩ := go_lower (by omega) hx xs 0 [] (fun _ => 0) rfl (Nat.zero_le _) h0
  obtain ⟨m', q', e', h1', h2'⟩ := few_plan (xs := xs) (R := R) (by omega) (fun i hi => (hx i hi).2)
  have a := (few_min h1 h2).2
  have b := go_upper hx h1' h2' xs 0 [] (fun _ => 0) (fun _ => 0) rfl (Nat.zero_le _) h0 (fun i hi => by omega) (fun j hj => by simp at hj) (fun i j hi => by simp at hi)
  omega
end
end Go.Proofs.YtjcbpnffmebihaaGreatDoor
