import Derived.Test.YtkjmpkincaainadRows
import Derived.WalkKit
import Derived.LoopTactic
import Derived.Outline
import Derived.WalkSpells
import Derived.WalkLawsBesides
import Derived.ProofKit
import Derived.Test.YtkjmpkincaainadM0
import Derived.Test.YtkjmpkincaainadM1
import Derived.Test.YtkjmpkincaainadM4
import Derived.Test.YtkjmpkincaainadM5
import Derived.Test.YtkjmpkincaainadM6
import Derived.Lib.Hide
namespace Go.Proofs.Ytkjmpkincaainad
open Go.RowKit Go.WideShapes

/-- a drawn net -/
def DrawnN (w : World) (e : Ending) (w' : World) : Prop := ∃ (d : NV) (ts : List Int) (rows : List (List Int)), e = .returned (.agg #[.slice d.aT d.lT d.cT, .slice d.aW d.lW d.cW]) ∧ NetAt w' (· < w'.heap.size) d ts rows ∧ d.lT ≤ 4 ∧ d.lW ≤ 8 ∧ Below w.heap.size w w'
/-- and rounds -/
def DrawnNR (w : World) (e : Ending) (w' : World) : Prop := ∃ (d : NV) (ts : List Int) (rows : List (List Int)) (n : Nat), e = .returned (.tuple #[.agg #[.slice d.aT d.lT d.cT, .slice d.aW d.lW d.cW], .int .i64 n]) ∧ NetAt w' (· < w'.heap.size) d ts rows ∧ d.lT ≤ 4 ∧ d.lW ≤ 8 ∧ n ≤ 41 ∧ Below w.heap.size w w'
theorem bytes_up {w w' : World} {a : Option Addr} {n : Nat} (h : BytesAt w w.heap.size a n) (hb : Below w.heap.size w w') : BytesAt w' w'.heap.size a n := by
  intro h0
  obtain ⟨b, off, e, hlt, hc⟩ := h h0
  refine ⟨b, off, e, Nat.lt_of_lt_of_le hlt hb.size, fun i hi => ?_⟩
  obtain ⟨x, hx, hcx⟩ := hc i hi
  exact ⟨x, hx, (hb.cell (p := ⟨b, off + i, none⟩) hlt).trans hcx⟩
theorem below_set2 {w w' : World} (h : Below w.heap.size w w') (x y : Value) : Below w.heap.size w ((w'.setCell ⟨w.heap.size, 0, none⟩ x).setCell ⟨w.heap.size, 1, none⟩ y) := (h.setCell (Nat.le_refl _) _).setCell (Nat.le_refl _) _
theorem rounds_n {n : Int} (h : n ∈ [5, 8, 3, 12, 0, 1, 40, 41]) : ∃ m : Nat, n = (m : Int) ∧ m ≤ 41 := by
  simp at h
  exact ⟨n.toNat, by omega, by omega⟩
set_option maxHeartbeats 1000000 in
theorem drawBeginsAt_any (a : Option Addr) (len cap : Nat) (w : World) (hb : BytesAt w w.heap.size a len) (hl : len ≤ cap) (hs : len ≤ 9223372036854775807) :
    Calls Try.prog 6 #[.slice a len cap] w (DrawnNR w) := by
  have hb0 := (Below.refl w.heap.size w).alloc (Nat.le_refl _) (.cells #[.slice none 0 0, .slice none 0 0] 26)
  have ht0 := two_new w (.slice none 0 0) (.slice none 0 0) 26
  obtain ⟨w0, hw0⟩ : ∃ w0, w.alloc (.cells #[.slice none 0 0, .slice none 0 0] 26) = w0 := ⟨_, rfl⟩
  rw [hw0] at hb0 ht0
  have HW0 := Lib.hid hw0
  clear hw0
  go_enter Try.func6, Try.ntmps6
  go_wp2_with fail
  rw [HW0.out]
  refine (newReader_any a len cap w0 (bytes_up hb hb0) hl hs).mono ?_
  rintro e w1 ⟨rfl, hr, hb1⟩
  go_wp2_with fail
  refine (someNet_any w0.heap.size 0 w1 hr (by omega)).mono ?_
  rintro e w2 ⟨d, ts, rows, p2, rfl, h1, h2, h3, hr2, hp2, hg⟩
  have hlt0 := ht0.lt
  have hw1s := hb1.size
  have hw2s := hg.size
  have hbb : Below w.heap.size w w2 := hb0.trans (hb1.mono hb0.size |>.trans (grown_below hg (Below.refl _ _) (by omega) |>.mono hb0.size))
  have ht2 : Two w2 w.heap.size (.slice none 0 0) (.slice none 0 0) := (ht0.block (hb1.block _ hlt0)).grown hg (by simp; omega)
  go_wp2_with fail
  refine (one_any (fun b => b = w2.heap.size) w0.heap.size p2 _ 8 8 [5, 8, 3, 12, 0, 1, 40, 41] _ (hr2.alloc _) (IntsAt.lit rfl rfl rfl (by omega)) (by intro b hb; have := hr2.lt; simp; omega) (by omega) (by omega)).mono ?_
  rintro e w3 ⟨n, hn, rfl, hr3, hg3⟩
  obtain ⟨m, rfl, hm⟩ := rounds_n hn
  clear hn
  have hgx : w2.grownBy w3 (some w0.heap.size) := grown_r (World.grownBy_alloc w2 _ _) hg3
  have hw3s := hgx.size
  have ht3 := ht2.grown hgx (by simp; omega)
  have hb3 : Below w.heap.size w w3 := hbb.trans (grown_below hgx (Below.refl _ _) (by omega) |>.mono (by omega))
  obtain ⟨⟨r0, z0⟩, r1, z1⟩ := ht3
  have hfin : DrawnNR w (.returned (.tuple #[.agg #[.slice d.aT d.lT d.cT, .slice d.aW d.lW d.cW], .int .i64 m])) ((w3.setCell ⟨w.heap.size, 0, none⟩ (.slice d.aT d.lT d.cT)).setCell ⟨w.heap.size, 1, none⟩ (.slice d.aW d.lW d.cW)) := by
    refine ⟨d, ts, rows, m, rfl, h1.to fun b hb => ?_, h2, h3, hm, below_set2 hb3 _ _⟩
    refine ⟨by simp only [World.size_setCell]; have h5 := hb.2; omega, ?_⟩
    rw [Below.heap_setCell _ _ _ _ (by show b ≠ w.heap.size; omega), Below.heap_setCell _ _ _ _ (by show b ≠ w.heap.size; omega)]
    exact hgx.block b hb.2 (by have h6 := hr.lt; have h7 := hb.1; simp; omega)
  have v0 : ((w3.setCell ⟨w.heap.size, 0, none⟩ (.slice d.aT d.lT d.cT)).setCell ⟨w.heap.size, 1, none⟩ (.slice d.aW d.lW d.cW)).cell? ⟨w.heap.size, 0, none⟩ = some (.slice d.aT d.lT d.cT) := ((Two.set0 ⟨⟨r0, z0⟩, r1, z1⟩ _).set1 _).1.1
  have v1 : ((w3.setCell ⟨w.heap.size, 0, none⟩ (.slice d.aT d.lT d.cT)).setCell ⟨w.heap.size, 1, none⟩ (.slice d.aW d.lW d.cW)).cell? ⟨w.heap.size, 1, none⟩ = some (.slice d.aW d.lW d.cW) := ((Two.set0 ⟨⟨r0, z0⟩, r1, z1⟩ _).set1 _).2.1
  have HFIN := Lib.hid hfin
  clear hfin h1 hbb hg hr2 hr hb1 hb0 hb ht0 ht2 hb3 hg3 hgx hr3
  go_wp2_with fail
  refine bodyPost_ret (v := .tuple #[.agg #[.slice d.aT d.lT d.cT, .slice d.aW d.lW d.cW], .int .i64 m]) ?_ rfl HFIN.out
  simp [results, Try.results6, go_sem, v0, v1]
end Go.Proofs.Ytkjmpkincaainad
namespace Go.Proofs.Ytkjmpkincaainad

-- paces that are kept (plain)
/-- what a way adds, at the pace up by down, times down -/
def Gr.w (g : Gr) (up down : Int) (k : Nat) : Int := down * g.tm (g.f k) - up * (g.c k : Int)
def Gr.Pot (g : Gr) (up down : Int) (p : Nat → Int) : Prop := ∀ k, k < g.m → p (g.f k) + g.w up down k ≤ p (g.t k)
def Gr.keeps (g : Gr) (up down : Int) : Prop := ∃ p, g.Pot up down p
def Gr.into (g : Gr) (v k : Nat) : Bool := decide (g.t k = v)
/-- the heaviest of all walks of at most so many ways to v -/
def Gr.D (g : Gr) (up down : Int) : Nat → Nat → Int
  | 0, _ => 0
  | i + 1, v => mxP (g.into v) (fun k => g.D up down i (g.f k) + g.w up down k) (g.D up down i v) g.m
section
variable {g : Gr} {up down : Int}
theorem D_mono (i v : Nat) : g.D up down i v ≤ g.D up down (i + 1) v := mxP_base _ _ _ _
theorem D_mono_le (v i : Nat) : ∀ d, g.D up down i v ≤ g.D up down (i + d) v := by
  intro d
  induction d with
  | zero => exact Int.le_refl _
  | succ d ih => exact Int.le_trans ih (D_mono (i + d) v)
theorem D_le {i j : Nat} (v : Nat) (h : i ≤ j) : g.D up down i v ≤ g.D up down j v := by
  obtain ⟨d, rfl⟩ : ∃ d, j = i + d := ⟨j - i, by omega⟩
  exact D_mono_le v i d
theorem D_nn (i v : Nat) : 0 ≤ g.D up down i v := D_le (g := g) (up := up) (down := down) v (Nat.zero_le i)
theorem D_step {i k : Nat} (hk : k < g.m) : g.D up down i (g.f k) + g.w up down k ≤ g.D up down (i + 1) (g.t k) :=
  mxP_ge (h := fun k => g.D up down i (g.f k) + g.w up down k) hk (decide_eq_true rfl)
theorem D_up {i v : Nat} (h : g.D up down i v < g.D up down (i + 1) v) : ∃ k, k < g.m ∧ g.t k = v ∧ g.D up down (i + 1) v = g.D up down i (g.f k) + g.w up down k := by
  rcases mxP_at (g.into v) (fun k => g.D up down i (g.f k) + g.w up down k) (g.D up down i v) g.m with e | ⟨k, hk, hp, e⟩
  · have : g.D up down (i + 1) v = g.D up down i v := e
    omega
  · exact ⟨k, hk, of_decide_eq_true hp, e⟩
def Gr.Tight (g : Gr) (up down : Int) : Nat → Nat → List Nat → Prop
  | 0, _, ks => ks = []
  | _ + 1, _, [] => False
  | i + 1, v, k :: ks => k < g.m ∧ g.t k = v ∧ g.D up down (i + 1) v = g.D up down i (g.f k) + g.w up down k ∧ g.D up down i v < g.D up down (i + 1) v ∧ g.Tight up down i (g.f k) ks
theorem tight_ex : ∀ (i v : Nat), g.D up down i v < g.D up down (i + 1) v → ∃ ks, g.Tight up down (i + 1) v ks := by
  intro i
  induction i with
  | zero =>
    intro v h
    obtain ⟨k, hk, ht, he⟩ := D_up h
    exact ⟨[k], hk, ht, he, h, rfl⟩
  | succ i ih =>
    intro v h
    obtain ⟨k, hk, ht, he⟩ := D_up h
    have : g.D up down i (g.f k) < g.D up down (i + 1) (g.f k) := by
      have h1 := D_step (g := g) (up := up) (down := down) (i := i) hk
      rw [ht] at h1
      omega
    obtain ⟨ks, hks⟩ := ih _ this
    exact ⟨k :: ks, hk, ht, he, h, hks⟩
theorem tight_len : ∀ {i v : Nat} {ks : List Nat}, g.Tight up down i v ks → ks.length = i := by
  intro i
  induction i with
  | zero => intro v ks h; rw [show ks = [] from h]; rfl
  | succ i ih =>
    intro v ks h
    cases ks with
    | nil => exact h.elim
    | cons k ks => rw [List.length_cons, ih h.2.2.2.2]
theorem tight_lt : ∀ {i v : Nat} {ks : List Nat}, g.Tight up down i v ks → ∀ k ∈ ks, k < g.m := by
  intro i
  induction i with
  | zero => intro v ks h; rw [show ks = [] from h]; intro k hk; cases hk
  | succ i ih =>
    intro v ks h
    cases ks with
    | nil => exact h.elim
    | cons k ks =>
      intro x hx
      rcases List.mem_cons.1 hx with rfl | hx
      · exact h.1
      · exact ih h.2.2.2.2 x hx
theorem tight_pot {p : Nat → Int} (hp : g.Pot up down p) : ∀ {i v : Nat} {ks : List Nat}, g.Tight up down i v ks → ∀ x ∈ ks.map g.f, ∃ j, j < i ∧ g.D up down i v - p v ≤ g.D up down j x - p x := by
  intro i
  induction i with
  | zero => intro v ks h; rw [show ks = [] from h]; intro k hk; cases hk
  | succ i ih =>
    intro v ks h
    cases ks with
    | nil => exact h.elim
    | cons k ks =>
      obtain ⟨hk, ht, he, _, hr⟩ := h
      have h1 := hp k hk
      rw [ht] at h1
      intro x hx
      rw [List.map_cons] at hx
      rcases List.mem_cons.1 hx with rfl | hx
      · exact ⟨i, by omega, by omega⟩
      · obtain ⟨j, hj, h2⟩ := ih hr x hx
        exact ⟨j, by omega, by omega⟩
theorem tight_nodup {p : Nat → Int} (hp : g.Pot up down p) : ∀ {i v : Nat} {ks : List Nat}, g.Tight up down i v ks → (v :: ks.map g.f).Nodup := by
  intro i
  induction i with
  | zero => intro v ks h; rw [show ks = [] from h]; simp
  | succ i ih =>
    intro v ks h
    have h0 := h
    cases ks with
    | nil => exact h.elim
    | cons k ks =>
      obtain ⟨hk, ht, he, hl, hr⟩ := h
      rw [List.nodup_cons]
      refine ⟨fun hm => ?_, ih hr⟩
      obtain ⟨j, hj, h2⟩ := tight_pot hp h0 v hm
      have := D_le (g := g) (up := up) (down := down) v (Nat.le_of_lt_succ hj)
      omega
theorem nodup_short : ∀ (n : Nat) (L : List Nat), L.Nodup → (∀ x ∈ L, x < n) → L.length ≤ n := by
  intro n
  induction n with
  | zero => intro L _ h; cases L with | nil => simp | cons a l => have := h a (by simp); omega
  | succ n ih =>
    intro L hn h
    by_cases hm : n ∈ L
    · have h1 := ih (L.erase n) (hn.erase n) (fun x hx => by
        have h2 := h x (List.mem_of_mem_erase hx)
        have h3 : x ≠ n := fun e => by subst e; exact (List.Nodup.mem_erase_iff hn).1 hx |>.1 rfl
        omega)
      rw [List.length_erase_of_mem hm] at h1
      omega
    · exact Nat.le_succ_of_le (ih L hn (fun x hx => by
        have h2 := h x hx
        have h3 : x ≠ n := fun e => hm (e ▸ hx)
        omega))
theorem tight_short (hg : g.Ok) {p : Nat → Int} (hp : g.Pot up down p) {i v : Nat} {ks : List Nat} (hv : v < g.n) (h : g.Tight up down i v ks) : i + 1 ≤ g.n := by
  have h1 := nodup_short g.n _ (tight_nodup hp h) (fun x hx => by
    rcases List.mem_cons.1 hx with rfl | hx
    · exact hv
    · obtain ⟨k, hk, rfl⟩ := List.mem_map.1 hx
      exact (hg.ways k (tight_lt h k hk)).1)
  rw [List.length_cons, List.length_map, tight_len h] at h1
  exact h1
theorem stab (hg : g.Ok) (hk : g.keeps up down) {i : Nat} (hi : g.n ≤ i + 1) (v : Nat) : g.D up down (i + 1) v = g.D up down i v := by
  obtain ⟨p, hp⟩ := hk
  refine Classical.byContradiction fun hne => ?_
  have hlt : g.D up down i v < g.D up down (i + 1) v := by have := D_mono (g := g) (up := up) (down := down) i v; omega
  obtain ⟨k, hk, ht, _⟩ := D_up hlt
  have hv : v < g.n := ht ▸ (hg.ways k hk).2.1
  obtain ⟨ks, h⟩ := tight_ex i v hlt
  have := tight_short hg hp hv h
  omega
theorem stab_all (hg : g.Ok) (hk : g.keeps up down) (i v : Nat) : g.D up down i v ≤ g.D up down g.n v := by
  rcases Nat.le_total i g.n with h | h
  · exact D_le v h
  · obtain ⟨d, rfl⟩ : ∃ d, i = g.n + d := ⟨i - g.n, by omega⟩
    induction d with
    | zero => exact Int.le_refl _
    | succ d ih =>
      rw [show g.n + (d + 1) = g.n + d + 1 by omega, stab hg hk (by omega) v]
      exact ih (by omega)
theorem pot_D (hg : g.Ok) (hk : g.keeps up down) : g.Pot up down (g.D up down g.n) := fun k hkm => by
  rw [← stab hg hk (Nat.le_succ _) (g.t k)]
  exact D_step hkm

/-- ways tried one after the other: the numbers, and whether one was raised -/
def Gr.pas (g : Gr) (up down : Int) (a : Nat → Int) : Nat → (Nat → Int) × Bool
  | 0 => (a, false)
  | j + 1 => if (g.pas up down a j).1 (g.t j) < (g.pas up down a j).1 (g.f j) + g.w up down j then (fun q => if q = g.t j then (g.pas up down a j).1 (g.f j) + g.w up down j else (g.pas up down a j).1 q, true) else g.pas up down a j
def Gr.bf (g : Gr) (up down : Int) : Nat → (Nat → Int) → Bool
  | 0, _ => false
  | i + 1, a => if (g.pas up down a g.m).2 = true then g.bf up down i (g.pas up down a g.m).1 else true
def Gr.keepB (g : Gr) (up down : Int) : Bool := g.bf up down (g.n + 1) (fun _ => 0)
theorem pas_still (a : Nat → Int) : ∀ j, (g.pas up down a j).2 = false → (g.pas up down a j).1 = a ∧ ∀ k, k < j → a (g.f k) + g.w up down k ≤ a (g.t k) := by
  intro j
  induction j with
  | zero => exact fun _ => ⟨rfl, fun k hk => by omega⟩
  | succ j ih =>
    rw [Gr.pas]
    split
    · intro h; cases h
    · rename_i hn
      intro h
      obtain ⟨e, h2⟩ := ih h
      rw [e] at hn
      refine ⟨e, fun k hk => ?_⟩
      rcases Nat.lt_or_eq_of_le (Nat.le_of_lt_succ hk) with h1 | rfl
      · exact h2 k h1
      · omega
theorem pas_up (a : Nat → Int) (q : Nat) : ∀ j, a q ≤ (g.pas up down a j).1 q := by
  intro j
  induction j with
  | zero => exact Int.le_refl _
  | succ j ih =>
    rw [Gr.pas]
    split
    · rename_i h
      dsimp only
      split
      · rename_i e; subst e; omega
      · exact ih
    · exact ih
theorem pas_ge (a : Nat → Int) : ∀ j k, k < j → a (g.f k) + g.w up down k ≤ (g.pas up down a j).1 (g.t k) := by
  intro j
  induction j with
  | zero => intro k hk; omega
  | succ j ih =>
    intro k hk
    have h0 := pas_up (g := g) (up := up) (down := down) a (g.f k) j
    rw [Gr.pas]
    split
    · rename_i h
      dsimp only
      split
      · rename_i e
        rcases Nat.lt_or_eq_of_le (Nat.le_of_lt_succ hk) with h1 | rfl
        · have := ih k h1
          rw [e] at this
          omega
        · omega
      · rename_i e
        rcases Nat.lt_or_eq_of_le (Nat.le_of_lt_succ hk) with h1 | rfl
        · exact ih k h1
        · exact absurd rfl e
    · rename_i h
      rcases Nat.lt_or_eq_of_le (Nat.le_of_lt_succ hk) with h1 | rfl
      · exact ih k h1
      · omega
theorem pas_le (a p : Nat → Int) (hp : g.Pot up down p) (ha : ∀ q, a q ≤ p q) : ∀ j, j ≤ g.m → ∀ q, (g.pas up down a j).1 q ≤ p q := by
  intro j
  induction j with
  | zero => exact fun _ => ha
  | succ j ih =>
    intro hj q
    have h1 := ih (by omega)
    rw [Gr.pas]
    split
    · dsimp only
      split
      · rename_i e; subst e
        have := hp j (by omega)
        have := h1 (g.f j)
        omega
      · exact h1 q
    · exact h1 q
theorem bf_no : ∀ (i : Nat) (a : Nat → Int), g.bf up down i a = true → g.keeps up down := by
  intro i
  induction i with
  | zero => intro a h; cases h
  | succ i ih =>
    intro a h
    rw [Gr.bf] at h
    split at h
    · exact ih _ h
    · rename_i hn
      exact ⟨a, (pas_still a g.m (by simpa using hn)).2⟩
theorem bf_yes (hg : g.Ok) (hk : g.keeps up down) : ∀ (j i : Nat) (a : Nat → Int), i + j = g.n + 1 → 1 ≤ j → (∀ q, g.D up down i q ≤ a q) → (∀ q, a q ≤ g.D up down g.n q) → g.bf up down j a = true := by
  intro j
  induction j with
  | zero => intro i a _ h; omega
  | succ j ih =>
    intro i a hij _ h1 h2
    rw [Gr.bf]
    split
    · rename_i hr
      have hi : i < g.n := by
        rcases Nat.lt_or_ge i g.n with h | h
        · exact h
        · exfalso
          have ha : ∀ q, a q = g.D up down g.n q := fun q => by have := h1 q; have := h2 q; have := D_le (g := g) (up := up) (down := down) q h; omega
          have key : ∀ j, j ≤ g.m → (g.pas up down a j).2 = false ∧ (g.pas up down a j).1 = a := by
            intro j
            induction j with
            | zero => exact fun _ => ⟨rfl, rfl⟩
            | succ j ih2 =>
              intro hj
              obtain ⟨e1, e2⟩ := ih2 (by omega)
              have := pot_D hg hk j (by omega)
              rw [Gr.pas, if_neg (by rw [e2, ha, ha]; omega)]
              exact ⟨e1, e2⟩
          have := (key g.m (Nat.le_refl _)).1
          rw [this] at hr
          cases hr
      refine ih (i + 1) _ (by omega) (by omega) (fun q => ?_) (pas_le a _ (pot_D hg hk) h2 g.m (Nat.le_refl _))
      refine mxP_le (Int.le_trans (h1 q) (pas_up a q g.m)) fun k hkm hp => ?_
      have e : g.t k = q := of_decide_eq_true hp
      subst e
      have := pas_ge (g := g) (up := up) (down := down) a g.m k hkm
      have := h1 (g.f k)
      omega
    · rfl
theorem keepB_iff (hg : g.Ok) : g.keepB up down = true ↔ g.keeps up down :=
  ⟨bf_no _ _, fun h => bf_yes hg h (g.n + 1) 0 _ (by omega) (by omega) (fun _ => Int.le_refl _) (fun q => D_nn g.n q)⟩
theorem w_bd (hg : g.Ok) (hu : 0 ≤ up ∧ up ≤ 40) (hd : 1 ≤ down ∧ down ≤ 40) {k : Nat} (hk : k < g.m) : -120 ≤ g.w up down k ∧ g.w up down k ≤ 360 := by
  have h1 := hg.times (g.f k)
  have h2 := (hg.ways k hk).2.2
  have h3 : 0 ≤ down * g.tm (g.f k) := Int.mul_nonneg (by omega) h1.1
  have h4 : down * g.tm (g.f k) ≤ 40 * 9 := Int.mul_le_mul hd.2 h1.2 h1.1 (by omega)
  have h5 : 0 ≤ up * (g.c k : Int) := Int.mul_nonneg hu.1 (by omega)
  have h6 : up * (g.c k : Int) ≤ 40 * 3 := Int.mul_le_mul hu.2 (by omega) (by omega) (by omega)
  unfold Gr.w
  omega
theorem pas_bd (hg : g.Ok) (hu : 0 ≤ up ∧ up ≤ 40) (hd : 1 ≤ down ∧ down ≤ 40) {a : Nat → Int} {B : Int} (ha : ∀ q, 0 ≤ a q ∧ a q ≤ B) : ∀ j, j ≤ g.m → ∀ q, 0 ≤ (g.pas up down a j).1 q ∧ (g.pas up down a j).1 q ≤ B + 360 * j := by
  intro j
  induction j with
  | zero => exact fun _ q => ⟨(ha q).1, by have h2 : (g.pas up down a 0).1 q ≤ B := (ha q).2; omega⟩
  | succ j ih =>
    intro hj q
    have h1 := ih (by omega)
    have h2 := w_bd hg hu hd (k := j) (by omega)
    rw [Gr.pas]
    split
    · rename_i hlt
      dsimp only
      split
      · have := h1 (g.f j); have := h1 (g.t j); omega
      · have := h1 q; omega
    · have := h1 q; omega

-- cycles
def sl (h : Nat → Int) : List Nat → Int
  | [] => 0
  | x :: l => h x + sl h l
theorem sl_append (h : Nat → Int) (l1 l2 : List Nat) : sl h (l1 ++ l2) = sl h l1 + sl h l2 := by
  induction l1 with
  | nil => simp [sl]
  | cons a l ih => simp only [List.cons_append, sl, ih]; omega
theorem sl_reverse (h : Nat → Int) (l : List Nat) : sl h l.reverse = sl h l := by
  induction l with
  | nil => rfl
  | cons a l ih => rw [List.reverse_cons, sl_append, ih]; simp only [sl]; omega
theorem sl_erase (h : Nat → Int) {x : Nat} {l : List Nat} (hx : x ∈ l) : sl h l = h x + sl h (l.erase x) := by
  induction l with
  | nil => cases hx
  | cons a l ih =>
    by_cases e : a = x
    · subst e; rw [List.erase_cons_head]; rfl
    · rw [List.erase_cons_tail (by simpa using e)]
      rcases List.mem_cons.1 hx with rfl | hx
      · exact absurd rfl e
      · simp only [sl, ih hx]; omega
def sm (h : Nat → Int) : Nat → Int
  | 0 => 0
  | n + 1 => sm h n + h n
theorem sm_nn {h : Nat → Int} (h0 : ∀ v, 0 ≤ h v) (n : Nat) : 0 ≤ sm h n := by
  induction n with
  | zero => exact Int.le_refl _
  | succ n ih => have := h0 n; simp only [sm]; omega
theorem sl_le_sm {h : Nat → Int} (h0 : ∀ v, 0 ≤ h v) : ∀ (n : Nat) (L : List Nat), L.Nodup → (∀ x ∈ L, x < n) → sl h L ≤ sm h n := by
  intro n
  induction n with
  | zero => intro L _ hx; cases L with | nil => exact Int.le_refl _ | cons a l => have := hx a (by simp); omega
  | succ n ih =>
    intro L hn hx
    have hn0 := h0 n
    by_cases hm : n ∈ L
    · have h1 := ih (L.erase n) (hn.erase n) (fun x hx' => by
        have h2 := hx x (List.mem_of_mem_erase hx')
        have h3 : x ≠ n := fun e => by subst e; exact (List.Nodup.mem_erase_iff hn).1 hx' |>.1 rfl
        omega)
      rw [sl_erase h hm]
      simp only [sm]; omega
    · have := ih L hn (fun x hx' => by
        have h2 := hx x hx'
        have h3 : x ≠ n := fun e => hm (e ▸ hx')
        omega)
      simp only [sm]; omega
theorem tight_sum : ∀ {i v : Nat} {ks : List Nat}, g.Tight up down i v ks → g.D up down i v = sl (g.w up down) ks := by
  intro i
  induction i with
  | zero => intro v ks h; rw [show ks = [] from h]; rfl
  | succ i ih =>
    intro v ks h
    cases ks with
    | nil => exact h.elim
    | cons k ks =>
      obtain ⟨_, _, he, _, hr⟩ := h
      rw [he, ih hr]; simp only [sl]; omega
theorem sl_w_le (hg : g.Ok) (hu : 0 ≤ up) (ks : List Nat) : sl (g.w up down) ks ≤ down * sl g.tm (ks.map g.f) := by
  induction ks with
  | nil => simp [sl]
  | cons k ks ih =>
    have : 0 ≤ up * (g.c k : Int) := Int.mul_nonneg hu (by omega)
    simp only [List.map_cons, sl, Gr.w, Int.mul_add] at ih ⊢
    omega
/-- the least numbers are no more than all times together -/
theorem D_total (hg : g.Ok) (hk : g.keeps up down) (hu : 0 ≤ up) (hd : 0 ≤ down) {v : Nat} (hv : v < g.n) : ∀ i, g.D up down i v ≤ down * sm g.tm g.n := by
  obtain ⟨p, hp⟩ := hk
  intro i
  induction i with
  | zero => exact Int.mul_nonneg hd (sm_nn (fun v => (hg.times v).1) _)
  | succ i ih =>
    by_cases h : g.D up down i v < g.D up down (i + 1) v
    · obtain ⟨ks, ht⟩ := tight_ex i v h
      rw [tight_sum ht]
      refine Int.le_trans (sl_w_le hg hu ks) (Int.mul_le_mul_of_nonneg_left ?_ hd)
      have hnd := List.nodup_cons.1 (tight_nodup hp ht)
      exact sl_le_sm (fun v => (hg.times v).1) _ _ hnd.2 (fun x hx => by
        obtain ⟨k, hk, rfl⟩ := List.mem_map.1 hx
        exact (hg.ways k (tight_lt ht k hk)).1)
    · omega
/-- the ways of a walk, the first one first -/
def Gr.Fwd (g : Gr) : Nat → List Nat → Nat → Prop
  | u, [], v => u = v
  | u, k :: ks, v => k < g.m ∧ g.f k = u ∧ g.Fwd (g.t k) ks v
theorem fwd_append {l1 l2 : List Nat} : ∀ {u v : Nat}, g.Fwd u (l1 ++ l2) v ↔ ∃ x, g.Fwd u l1 x ∧ g.Fwd x l2 v := by
  induction l1 with
  | nil => intro u v; exact ⟨fun h => ⟨u, rfl, h⟩, fun ⟨x, e, h⟩ => by rw [show u = x from e]; exact h⟩
  | cons k l ih =>
    intro u v
    constructor
    · rintro ⟨h1, h2, h3⟩
      obtain ⟨x, h4, h5⟩ := ih.1 h3
      exact ⟨x, ⟨h1, h2, h4⟩, h5⟩
    · rintro ⟨x, ⟨h1, h2, h4⟩, h5⟩
      exact ⟨h1, h2, ih.2 ⟨x, h4, h5⟩⟩
theorem tight_prefix : ∀ {l1 : List Nat} {i v k' : Nat} {l2 : List Nat}, g.Tight up down i v (l1 ++ k' :: l2) → ∃ j, j < i ∧ g.Fwd (g.f k') (l1 ++ [k']).reverse v ∧ g.D up down i v = g.D up down j (g.f k') + sl (g.w up down) (l1 ++ [k']) := by
  intro l1
  induction l1 with
  | nil =>
    intro i v k' l2 h
    cases i with
    | zero => cases (show _ = [] from h)
    | succ i =>
      obtain ⟨hk, ht, he, _, hr⟩ := h
      exact ⟨i, by omega, ⟨hk, rfl, ht⟩, by rw [he]; simp [sl]⟩
  | cons k l ih =>
    intro i v k' l2 h
    cases i with
    | zero => cases (show _ = [] from h)
    | succ i =>
      obtain ⟨hk, ht, he, _, hr⟩ := h
      obtain ⟨j, hj, hf, hs⟩ := ih hr
      refine ⟨j, by omega, ?_, ?_⟩
      · rw [List.cons_append, List.reverse_cons]
        exact fwd_append.2 ⟨_, hf, hk, rfl, ht⟩
      · rw [he, hs, List.cons_append]; simp only [sl]; omega
/-- a round, no worker twice -/
def Gr.Cyc (g : Gr) (s : Nat) (fs : List Nat) : Prop := fs ≠ [] ∧ g.Fwd s fs s ∧ (fs.map g.f).Nodup
theorem cyc_or_nodup : ∀ {i v : Nat} {ks : List Nat}, g.Tight up down i v ks → (v :: ks.map g.f).Nodup ∨ ∃ s fs, g.Cyc s fs ∧ 0 < sl (g.w up down) fs := by
  intro i
  induction i with
  | zero => intro v ks h; rw [show ks = [] from h]; exact .inl (by simp)
  | succ i ih =>
    intro v ks h
    have h0 := h
    cases ks with
    | nil => exact h.elim
    | cons k ks =>
      obtain ⟨hk, ht, he, hl, hr⟩ := h
      rcases ih hr with hn | hc
      · by_cases hm : v ∈ (k :: ks).map g.f
        · right
          obtain ⟨k', hk', e⟩ := List.mem_map.1 hm
          obtain ⟨l1, l2, hl12⟩ := List.append_of_mem hk'
          rw [hl12] at h0
          obtain ⟨j, hj, hf, hs⟩ := tight_prefix h0
          rw [e] at hf hs
          refine ⟨v, (l1 ++ [k']).reverse, ⟨by simp, hf, ?_⟩, ?_⟩
          · rw [List.map_reverse, (List.reverse_perm _).nodup_iff]
            have : ((k :: ks).map g.f).Nodup := hn
            rw [hl12, List.append_cons, List.map_append] at this
            exact (List.nodup_append.1 this).1
          · rw [sl_reverse]
            have := D_le (g := g) (up := up) (down := down) v (Nat.le_of_lt_succ hj)
            omega
        · left
          exact List.nodup_cons.2 ⟨hm, hn⟩
      · exact .inr hc
theorem cyc_of_not (hg : g.Ok) (h : ¬ g.keeps up down) : ∃ s fs, g.Cyc s fs ∧ 0 < sl (g.w up down) fs := by
  have : ∃ k, k < g.m ∧ ¬ g.D up down g.n (g.f k) + g.w up down k ≤ g.D up down g.n (g.t k) := by
    refine Classical.byContradiction fun h2 => h ⟨g.D up down g.n, fun k hk => ?_⟩
    exact Classical.byContradiction fun h3 => h2 ⟨k, hk, h3⟩
  obtain ⟨k, hk, hlt⟩ := this
  have h1 := D_step (g := g) (up := up) (down := down) (i := g.n) hk
  obtain ⟨ks, ht⟩ := tight_ex g.n (g.t k) (show g.D up down g.n (g.t k) < g.D up down (g.n + 1) (g.t k) by omega)
  rcases cyc_or_nodup ht with hn | hc
  · exfalso
    have h2 := nodup_short g.n _ hn (fun x hx => by
      rcases List.mem_cons.1 hx with rfl | hx
      · exact (hg.ways k hk).2.1
      · obtain ⟨q, hq, rfl⟩ := List.mem_map.1 hx
        exact (hg.ways q (tight_lt ht q hq)).1)
    rw [List.length_cons, List.length_map, tight_len ht] at h2
    omega
  · exact hc
theorem least_mem (h : Nat → Nat) : ∀ (l : List Nat), l ≠ [] → ∃ k, k ∈ l ∧ ∀ q ∈ l, h k ≤ h q := by
  intro l
  induction l with
  | nil => intro e; exact absurd rfl e
  | cons a l ih =>
    intro _
    by_cases hl : l = []
    · subst hl; exact ⟨a, by simp, fun q hq => by simp at hq; subst hq; exact Nat.le_refl _⟩
    · obtain ⟨k, hk, hm⟩ := ih hl
      by_cases hak : h a ≤ h k
      · exact ⟨a, by simp, fun q hq => by
          rcases List.mem_cons.1 hq with rfl | hq
          · exact Nat.le_refl _
          · exact Nat.le_trans hak (hm q hq)⟩
      · exact ⟨k, by simp [hk], fun q hq => by
          rcases List.mem_cons.1 hq with rfl | hq
          · omega
          · exact hm q hq⟩
theorem fwd_head {s v : Nat} {k : Nat} {l : List Nat} (h : g.Fwd s (k :: l) v) : g.f k = s := h.2.1
/-- a round, from its least worker on -/
theorem cyc_rot {s : Nat} {fs : List Nat} (h : g.Cyc s fs) : ∃ s' fs', g.Cyc s' fs' ∧ (∀ k ∈ fs', g.f k ≠ s' → s' < g.f k) ∧ ∀ e : Nat → Int, sl e fs' = sl e fs := by
  obtain ⟨h0, h1, h2⟩ := h
  obtain ⟨k, hk, hm⟩ := least_mem g.f fs h0
  obtain ⟨l1, l2, rfl⟩ := List.append_of_mem hk
  obtain ⟨x, hx1, hx2⟩ := fwd_append.1 h1
  obtain rfl := hx2.2.1
  refine ⟨g.f k, (k :: l2) ++ l1, ⟨by simp, fwd_append.2 ⟨s, hx2, hx1⟩, ?_⟩, ?_, ?_⟩
  · rw [List.map_append] at h2 ⊢
    exact (List.perm_append_comm.nodup_iff).1 h2
  · intro q hq hne
    have := hm q (by rw [List.mem_append] at hq ⊢; exact hq.symm)
    omega
  · intro e; rw [sl_append, sl_append]; omega
/-- rounds back to s, from v on, past those of P -/
inductive Gr.Back (g : Gr) (s : Nat) (ok : Nat → Prop) : List Nat → Nat → Int → Nat → Prop
  | close {P : List Nat} {k : Nat} : k < g.m → g.t k = s → Gr.Back g s ok P (g.f k) (g.tm (g.f k)) (g.c k)
  | step {P : List Nat} {k : Nat} {T : Int} {C : Nat} : k < g.m → g.t k ≠ s → ¬ g.t k ∈ P → ok (g.t k) → Gr.Back g s ok (g.t k :: P) (g.t k) T C → Gr.Back g s ok P (g.f k) (g.tm (g.f k) + T) (g.c k + C)
theorem back_of {s : Nat} {ok : Nat → Prop} : ∀ {fs : List Nat} {v : Nat} {P : List Nat}, g.Fwd v fs s → fs ≠ [] → (fs.map g.f).Nodup → s ∈ P → (∀ k ∈ fs, g.f k ≠ v → ¬ g.f k ∈ P ∧ ok (g.f k)) → ∃ T C, g.Back s ok P v T C ∧ down * T - up * (C : Int) = sl (g.w up down) fs := by
  intro fs
  induction fs with
  | nil => intro v P _ h; exact absurd rfl h
  | cons k r ih =>
    intro v P hf _ hn hs hP
    obtain ⟨hk, rfl, hr⟩ := hf
    cases r with
    | nil => exact ⟨_, _, .close hk hr, by simp only [sl, Gr.w]; omega⟩
    | cons k' r' =>
      have e' : g.f k' = g.t k := hr.2.1
      rw [List.map_cons, List.nodup_cons] at hn
      have hne : g.f k' ≠ g.f k := fun e => hn.1 (by rw [← e]; simp)
      obtain ⟨hnp, hok⟩ := hP k' (by simp) hne
      rw [e'] at hnp hok hne
      obtain ⟨T, C, hb, he⟩ := ih (P := g.t k :: P) hr (by simp) hn.2 (by simp [hs]) (fun q hq hqv => by
        have hq2 : g.f q ≠ g.f k := fun e => hn.1 (by rw [← e]; exact List.mem_map_of_mem hq)
        obtain ⟨h1, h2⟩ := hP q (by simp only [List.mem_cons] at hq ⊢; exact .inr hq) hq2
        exact ⟨fun hm => by rcases List.mem_cons.1 hm with e | hm; exact hqv e; exact h1 hm, h2⟩)
      refine ⟨_, _, .step hk (fun e => hnp (e ▸ hs)) hnp hok hb, ?_⟩
      rw [sl, ← he, Gr.w, Int.mul_add]
      push_cast
      rw [Int.mul_add]
      omega
theorem back_pot {s : Nat} {ok : Nat → Prop} {p : Nat → Int} (hp : g.Pot up down p) {P : List Nat} {v : Nat} {T : Int} {C : Nat} (h : g.Back s ok P v T C) : down * T - up * (C : Int) ≤ p s - p v := by
  induction h with
  | close hk ht => have := hp _ hk; rw [ht] at this; unfold Gr.w at this; omega
  | step hk _ _ _ _ ih =>
    have := hp _ hk
    unfold Gr.w at this
    rw [Int.mul_add]
    push_cast
    rw [Int.mul_add]
    omega
theorem back_rank {s : Nat} {ok : Nat → Prop} {rk : Nat → Nat} (hr : g.Rank rk) {P : List Nat} {v : Nat} {T : Int} {C : Nat} (h : g.Back s ok P v T C) : C = 0 → rk v < rk s := by
  induction h with
  | close hk ht => intro e; have := hr.2 _ hk e; rw [ht] at this; exact this
  | step hk _ _ _ _ ih => intro e; have := hr.2 _ hk (by omega); have := ih (by omega); omega
theorem back_mono {s : Nat} {ok ok' : Nat → Prop} (ho : ∀ v, ok v → ok' v) {P : List Nat} {v : Nat} {T : Int} {C : Nat} (h : g.Back s ok P v T C) : g.Back s ok' P v T C := by
  induction h with
  | close hk ht => exact .close hk ht
  | step hk h1 h2 h3 _ ih => exact .step hk h1 h2 (ho _ h3) ih
end
/-- the pairs of times and tokens of all rounds, each from its least worker on -/
def Gr.Rounds (g : Gr) (T : Int) (C : Nat) : Prop := ∃ s, s < g.n ∧ g.Back s (fun v => s < v) [s] s T C
/-- .. and from each of its workers on -/
def Gr.RoundsA (g : Gr) (T : Int) (C : Nat) : Prop := ∃ s, s < g.n ∧ g.Back s (fun _ => True) [s] s T C
theorem rounds_all {g : Gr} {T : Int} {C : Nat} (h : g.Rounds T C) : g.RoundsA T C := by
  obtain ⟨s, h1, h2⟩ := h
  exact ⟨s, h1, back_mono (fun _ _ => trivial) h2⟩
theorem rounds_of_not {g : Gr} (hg : g.Ok) {up down : Int} (h : ¬ g.keeps up down) : ∃ T C, g.Rounds T C ∧ 0 < down * T - up * (C : Int) := by
  obtain ⟨s, fs, hc, hp⟩ := cyc_of_not hg h
  obtain ⟨s', fs', ⟨h0, h1, h2⟩, h3, h4⟩ := cyc_rot hc
  obtain ⟨T, C, hb, he⟩ := back_of (g := g) (up := up) (down := down) (ok := fun v => s' < v) (P := [s']) h1 h0 h2 (by simp) (fun k hk hne => ⟨by simpa using hne, h3 k hk hne⟩)
  have hs : s' < g.n := by
    cases fs' with
    | nil => exact absurd rfl h0
    | cons k l => rw [← fwd_head h1]; exact (hg.ways k h1.1).1
  exact ⟨T, C, ⟨s', hs, hb⟩, by rw [he, h4]; exact hp⟩
end Go.Proofs.Ytkjmpkincaainad
namespace Go.Proofs.Ytkjmpkincaainad

-- orders in which workers begin (plain)
structure OrdQ (g : Gr) (L : List Nat) : Prop where
  nodup : L.Nodup
  lt : ∀ v ∈ L, v < g.n
  pre : ∀ L1 v L2, L = L1 ++ v :: L2 → ∀ k, k < g.m → g.t k = v → g.c k = 0 → g.f k ∈ L1
theorem ordQ_nil (g : Gr) : OrdQ g [] := ⟨List.nodup_nil, fun v hv => (by cases hv), fun L1 v L2 e => (by cases L1 <;> simp at e)⟩
theorem ordQ_snoc {g : Gr} {L : List Nat} (h : OrdQ g L) {v : Nat} (hv : v < g.n) (hn : ¬ v ∈ L) (hc : ∀ k, k < g.m → g.t k = v → g.c k = 0 → g.f k ∈ L) : OrdQ g (L ++ [v]) := by
  refine ⟨?_, fun u hu => ?_, fun L1 u L2 e k hk h1 h2 => ?_⟩
  · exact (List.perm_append_singleton _ _).symm.nodup (List.nodup_cons.2 ⟨hn, h.nodup⟩)
  · rcases List.mem_append.1 hu with hu | hu
    · exact h.lt u hu
    · simp only [List.mem_singleton] at hu; subst hu; exact hv
  · rcases List.eq_nil_or_concat L2 with rfl | ⟨L3, z, rfl⟩
    · have e2 := List.append_inj' e (by simp)
      obtain ⟨rfl, e3⟩ := e2
      simp only [List.cons.injEq, and_true] at e3
      subst e3
      exact hc k hk h1 h2
    · rw [List.concat_eq_append, ← List.cons_append, ← List.append_assoc] at e
      have e2 := List.append_inj' e (by simp)
      exact h.pre L1 u L3 e2.1 k hk h1 h2
theorem ordQ_free {g : Gr} {L : List Nat} (h : OrdQ g L) {S : Nat → Prop} (hS : g.Stuck S) : ∀ v ∈ L, ¬ S v := by
  have key : ∀ (L1 L2 : List Nat), L = L1 ++ L2 → ∀ v ∈ L1, ¬ S v := by
    intro L1
    induction hq : L1.length using Nat.strongRecOn generalizing L1 with
    | _ q ih =>
      intro L2 e v hv hs
      obtain ⟨A, B, rfl⟩ := List.append_of_mem hv
      obtain ⟨_, k, hk, h1, h2, h3⟩ := hS v hs
      have hm := h.pre A v (B ++ L2) (by rw [e]; simp) k hk h1 h2
      exact ih A.length (by rw [← hq]; simp) A rfl (v :: B ++ L2) (by rw [e]; simp) _ hm h3
  exact key L [] (by simp)
theorem ordQ_dead {g : Gr} {L : List Nat} (h : OrdQ g L) (hd : g.Dead) : L.length < g.n := by
  obtain ⟨S, hS, v, hv⟩ := hd
  have hn : ¬ v ∈ L := fun hm => ordQ_free h hS v hm hv
  have := nodup_short g.n (v :: L) (List.nodup_cons.2 ⟨hn, h.nodup⟩) (fun x hx => by
    rcases List.mem_cons.1 hx with rfl | hx
    · exact (hS x hv).1
    · exact h.lt x hx)
  rw [List.length_cons] at this
  exact this
theorem ordQ_len {g : Gr} {L : List Nat} (h : OrdQ g L) : L.length ≤ g.n := nodup_short g.n L h.nodup h.lt
theorem ord_next {g : Gr} (hd : ¬ g.Dead) {L : List Nat} (h : OrdQ g L) (hl : L.length < g.n) : ∃ u, u < g.n ∧ ¬ u ∈ L ∧ ∀ k, k < g.m → g.t k = u → g.c k = 0 → g.f k ∈ L ∨ ¬ g.f k < g.n := by
  refine Classical.byContradiction fun hno => ?_
  refine hd ⟨fun v => v < g.n ∧ ¬ v ∈ L, fun v hv => ⟨hv.1, ?_⟩, ?_⟩
  · refine Classical.byContradiction fun h2 => hno ⟨v, hv.1, hv.2, fun k hk e1 e2 => ?_⟩
    refine Classical.byContradiction fun h3 => h2 ⟨k, hk, e1, e2, ?_⟩
    simp only [not_or, Classical.not_not] at h3
    exact ⟨h3.2, h3.1⟩
  · refine Classical.byContradiction fun h2 => ?_
    have : ∀ v, v < g.n → v ∈ L := fun v hv => Classical.byContradiction fun h3 => h2 ⟨v, hv, h3⟩
    have hr := (List.nodup_range (n := g.n))
    have key : ∀ (n : Nat) (A B : List Nat), A.Nodup → (∀ x ∈ A, x ∈ B) → A.length = n → n ≤ B.length := by
      intro n
      induction n with
      | zero => intros; omega
      | succ n ih =>
        intro A B hA hAB hl
        cases A with
        | nil => cases hl
        | cons a A =>
          rw [List.nodup_cons] at hA
          have h5 := ih A (B.erase a) hA.2 (fun x hx => (List.mem_erase_of_ne (fun e => hA.1 (by subst e; exact hx))).2 (hAB x (by simp [hx]))) (by simpa using hl)
          rw [List.length_erase_of_mem (hAB a (by simp))] at h5
          have := List.length_pos_of_mem (hAB a (by simp))
          omega
    have := key g.n (List.range g.n) L hr (fun x hx => this x (List.mem_range.1 hx)) (by simp)
    omega
end Go.Proofs.Ytkjmpkincaainad
namespace Go.Proofs.Ytkjmpkincaainad
open Go.RowKit

theorem inRange_any (n lo hi : Int) (w : World) :
    Calls Try.prog 31 #[.int .i64 n, .int .i64 lo, .int .i64 hi] w fun e w' => e = .returned (.bool (inB lo hi n)) ∧ w = w' := by
  by_cases h1 : lo ≤ n
  · by_cases h2 : n ≤ hi
    · go_enter Try.func31, Try.ntmps31
      go_wp2
      go_ret
      exact ⟨ret_bool (inB_true h1 h2).symm, rfl⟩
    · go_enter Try.func31, Try.ntmps31
      go_wp2
      go_ret
      exact ⟨ret_bool (inB_hi (by omega)).symm, rfl⟩
  · go_enter Try.func31, Try.ntmps31
    go_wp2
    go_ret
    exact ⟨ret_bool (inB_lo (by omega)).symm, rfl⟩
theorem isUpTo_any (n hi : Int) (w : World) :
    Calls Try.prog 24 #[.int .i64 n, .int .i64 hi] w fun e w' => e = .returned (.bool (inB 0 hi n)) ∧ w = w' := by
  by_cases h1 : 0 ≤ n
  · by_cases h2 : n ≤ hi
    · go_enter Try.func24, Try.ntmps24
      go_wp2
      go_ret
      exact ⟨ret_bool (inB_true h1 h2).symm, rfl⟩
    · go_enter Try.func24, Try.ntmps24
      go_wp2
      go_ret
      exact ⟨ret_bool (inB_hi (by omega)).symm, rfl⟩
  · go_enter Try.func24, Try.ntmps24
    go_wp2
    go_ret
    exact ⟨ret_bool (inB_lo (by omega)).symm, rfl⟩
theorem allUpTo_any (S : Nat → Prop) (a : Option Addr) (len cap : Nat) (xs : List Int) (lim : Int) (w : World) (h : IntsAt w S a len xs) :
    Calls Try.prog 43 #[.slice a len cap, .int .i64 lim] w fun e w' => e = .returned (.bool (allIn 0 lim xs)) ∧ w = w' := by
  have hs := h.small
  go_enter Try.func43, Try.ntmps43
  go_wp2
  go_loop [9] (fun i => ∃ k : Nat, k ≤ len ∧ i = .int .i64 k ∧ allIn 0 lim (xs.take k) = true) (fun i => len - (intOf i).toNat)
  case atStart => exact ⟨0, Nat.zero_le _, rfl, rfl⟩
  case round =>
    obtain ⟨k, hk, rfl, ha⟩ := hrel
    have HA := Lib.hid ha
    clear ha
    by_cases hlt : k < len
    · obtain ⟨b, off, x, rfl, hx, hc⟩ := h.get hlt
      have HX := Lib.hid hx
      clear hx
      cases hq : inB 0 lim x
      · go_wp2_with (go_at_call 24; refine (isUpTo_any _ _ _).mono ?_; rintro e w' ⟨rfl, rfl⟩)
        go_ret
        exact ⟨ret_bool (allIn_false HX.out hq).symm, rfl⟩
      · go_wp2_with (go_at_call 24; refine (isUpTo_any _ _ _).mono ?_; rintro e w' ⟨rfl, rfl⟩)
        go_round
        case rel => exact ⟨k + 1, by omega, by go_num, allIn_step HX.out HA.out hq⟩
        case measure => simp [intOf]; omega
    · go_wp2
      go_ret
      have ha := HA.out
      have hl := h.lenEq
      rw [List.take_of_length_le (by omega)] at ha
      exact ⟨ret_bool ha.symm, rfl⟩
end Go.Proofs.Ytkjmpkincaainad
