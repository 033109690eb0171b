import Derived.Test.YtldncfkkeeinjabRows
import Derived.WalkKit
import Derived.LoopTactic
import Derived.Outline
import Derived.WalkSpells
import Derived.WalkLawsBesides
import Derived.ProofKit
import Derived.Lib.Hide
import Derived.Test.YtldncfkkeeinjabLib
import Derived.Test.YtldncfkkeeinjabGen
namespace Go.Proofs.Ytldncfkkeeinjab
open Go.RowKit

/-- the block b holds eight bools -/
def ArrB (w : World) (b : Nat) (f : Nat → Bool) : Prop := ∀ q, q < 8 → w.cell? ⟨b, q, none⟩ = some (.bool (f q)) ∧ w.frozen? ⟨b, q, none⟩ = false
def agg8 (f : Nat → Bool) : Value := .agg #[.bool (f 0), .bool (f 1), .bool (f 2), .bool (f 3), .bool (f 4), .bool (f 5), .bool (f 6), .bool (f 7)]
def put8 (f : Nat → Bool) (k : Nat) (v : Bool) (q : Nat) : Bool := if q = k then v else f q
theorem ArrB.put {w : World} {b : Nat} {f : Nat → Bool} (h : ArrB w b f) (k : Nat) (hk : k < 8) (v : Bool) : ArrB (w.setCell ⟨b, k, none⟩ (.bool v)) b (put8 f k v) := by
  intro q hq
  obtain ⟨h1, h2⟩ := h q hq
  obtain ⟨h3, h4⟩ := h k hk
  unfold put8
  by_cases e : q = k
  · subst e
    rw [if_pos rfl]
    exact ⟨World.cell?_setCell_same _ _ _ h3, by rw [World.frozen?_setCell]; exact h2⟩
  · rw [if_neg e]
    exact ⟨by rw [World.cell?_setCell_other _ _ _ _ (by intro e'; injection e'; omega)]; exact h1, by rw [World.frozen?_setCell]; exact h2⟩
theorem ArrB.other {w : World} {b b' : Nat} {f : Nat → Bool} (h : ArrB w b f) (k : Nat) (v : Value) (hb : b' ≠ b) : ArrB (w.setCell ⟨b', k, none⟩ v) b f := by
  intro q hq
  obtain ⟨h1, h2⟩ := h q hq
  exact ⟨by rw [World.cell?_setCell_other _ _ _ _ (by intro e'; injection e'; omega)]; exact h1, by rw [World.frozen?_setCell]; exact h2⟩
theorem ArrB.new (w : World) (f : Nat → Bool) (t : TypeId) : ArrB (w.alloc (.cells #[.bool (f 0), .bool (f 1), .bool (f 2), .bool (f 3), .bool (f 4), .bool (f 5), .bool (f 6), .bool (f 7)] t)) w.heap.size f := by
  intro q hq
  refine ⟨?_, World.frozen?_alloc_new w _ _ _⟩
  rw [World.cell?_alloc_new]
  rcases (by omega : q = 0 ∨ q = 1 ∨ q = 2 ∨ q = 3 ∨ q = 4 ∨ q = 5 ∨ q = 6 ∨ q = 7) with rfl | rfl | rfl | rfl | rfl | rfl | rfl | rfl <;> rfl
theorem ArrB.block {w w' : World} {b : Nat} {f : Nat → Bool} (h : ArrB w b f) (e : w'.heap[b]? = w.heap[b]?) : ArrB w' b f := by
  intro q hq
  obtain ⟨h1, h2⟩ := h q hq
  exact ⟨by rw [World.cell?_of_block (w := w) e]; exact h1, by rw [World.frozen?_of_block (w := w) e]; exact h2⟩
theorem ArrB.lt {w : World} {b : Nat} {f : Nat → Bool} (h : ArrB w b f) : b < w.heap.size := World.block_lt_of_cell? w _ (h 0 (by omega)).1
theorem ArrB.alloc {w : World} {b : Nat} {f : Nat → Bool} (h : ArrB w b f) (o : Obj) : ArrB (w.alloc o) b f := h.block (Below.heap_alloc _ _ _ h.lt)
theorem ArrB.below {w w' : World} {b n : Nat} {f : Nat → Bool} (h : ArrB w b f) (hb : Below n w w') (hlt : b < n) : ArrB w' b f := h.block (hb.block b hlt)
theorem ArrB.congr {w : World} {b : Nat} {f g : Nat → Bool} (h : ArrB w b f) (e : ∀ q, q < 8 → f q = g q) : ArrB w b g := fun q hq => by rw [← e q hq]; exact h q hq
theorem agg8_congr {f g : Nat → Bool} (e : ∀ q, q < 8 → f q = g q) : agg8 f = agg8 g := by
  unfold agg8
  rw [e 0 (by omega), e 1 (by omega), e 2 (by omega), e 3 (by omega), e 4 (by omega), e 5 (by omega), e 6 (by omega), e 7 (by omega)]
/-- the set behind on, of the first so many -/
def NextOf (on : Nat → Bool) (days : Nat) (g : Nat → Bool) : Prop :=
  (∃ k, k < days ∧ (∀ j, j < k → on j = true) ∧ on k = false ∧ ∀ q, q < 8 → g q = if q < k then false else if q = k then true else on q) ∨ ((∀ j, j < days → on j = true) ∧ ∀ q, q < 8 → g q = if q < days then false else on q)
theorem stored8 {w : World} {r : Nat} {h0 f : Nat → Bool} (h : ArrB w r h0) :
    ArrB ((((((((w.setCell ⟨r, 0, none⟩ (.bool (f 0))).setCell ⟨r, 1, none⟩ (.bool (f 1))).setCell ⟨r, 2, none⟩ (.bool (f 2))).setCell ⟨r, 3, none⟩ (.bool (f 3))).setCell ⟨r, 4, none⟩ (.bool (f 4))).setCell ⟨r, 5, none⟩ (.bool (f 5))).setCell ⟨r, 6, none⟩ (.bool (f 6))).setCell ⟨r, 7, none⟩ (.bool (f 7))) r f := by
  have := (((((((h.put 0 (by omega) (f 0)).put 1 (by omega) (f 1)).put 2 (by omega) (f 2)).put 3 (by omega) (f 3)).put 4 (by omega) (f 4)).put 5 (by omega) (f 5)).put 6 (by omega) (f 6)).put 7 (by omega) (f 7)
  refine this.congr (fun q hq => ?_)
  unfold put8
  rcases (by omega : q = 0 ∨ q = 1 ∨ q = 2 ∨ q = 3 ∨ q = 4 ∨ q = 5 ∨ q = 6 ∨ q = 7) with rfl | rfl | rfl | rfl | rfl | rfl | rfl | rfl <;> simp
theorem below8 {n : Nat} {w0 w : World} {r : Nat} {v0 v1 v2 v3 v4 v5 v6 v7 : Value} (h : Below n w0 w) (hr : n ≤ r) :
    Below n w0 ((((((((w.setCell ⟨r, 0, none⟩ v0).setCell ⟨r, 1, none⟩ v1).setCell ⟨r, 2, none⟩ v2).setCell ⟨r, 3, none⟩ v3).setCell ⟨r, 4, none⟩ v4).setCell ⟨r, 5, none⟩ v5).setCell ⟨r, 6, none⟩ v6).setCell ⟨r, 7, none⟩ v7) :=
  (((((((h.setCell hr _).setCell hr _).setCell hr _).setCell hr _).setCell hr _).setCell hr _).setCell hr _).setCell hr _
theorem nextDays_any (on : Nat → Bool) (days : Nat) (hd : days ≤ 8) (w : World) :
    Calls Try.prog 27 #[agg8 on, .int .i64 days] w fun e w' => (∃ g, e = .returned (agg8 g) ∧ NextOf on days g) ∧ Below w.heap.size w w' := by
  have A0 := Lib.hid ((ArrB.new w on 44).alloc (.cells #[.bool false, .bool false, .bool false, .bool false, .bool false, .bool false, .bool false, .bool false] 44))
  have R0 := Lib.hid (ArrB.new (w.alloc (.cells #[.bool (on 0), .bool (on 1), .bool (on 2), .bool (on 3), .bool (on 4), .bool (on 5), .bool (on 6), .bool (on 7)] 44)) (fun _ => false) 44)
  have B0 := Lib.hid (((Below.refl w.heap.size w).alloc (Nat.le_refl _) (.cells #[.bool (on 0), .bool (on 1), .bool (on 2), .bool (on 3), .bool (on 4), .bool (on 5), .bool (on 6), .bool (on 7)] 44)).alloc (by simp) (.cells #[.bool false, .bool false, .bool false, .bool false, .bool false, .bool false, .bool false, .bool false] 44))
  unfold agg8
  go_enter Try.func27, Try.ntmps27
  go_wp2
  go_loopw [7] (fun i wr => ∃ (k : Nat) (f : Nat → Bool), k ≤ days ∧ (∀ j, j < k → on j = true) ∧ i = .int .i64 k ∧ ArrB wr w.heap.size f ∧ (∀ q, q < 8 → f q = if q < k then false else on q) ∧ ArrB wr (w.heap.size + 1) (fun _ => false) ∧ Below w.heap.size w wr) (fun i _ => days - (intOf i).toNat)
  case atStart => exact ⟨0, _, by omega, fun j hj => by omega, rfl, A0.out, fun q _ => by rw [if_neg (by omega)], by have := R0.out; rwa [World.size_alloc] at this, B0.out⟩
  case round =>
    clear A0 R0 B0
    obtain ⟨k, f, hk, hon, rfl, hA, hfe, hR, hB⟩ := hrel
    have HA := Lib.hid hA
    have HR := Lib.hid hR
    have HB := Lib.hid hB
    have HF := Lib.hid hfe
    have HON := Lib.hid hon
    by_cases hlt : k < days
    · obtain ⟨ck, zk⟩ := hA k (by omega)
      have hk8 : k < 8 := by omega
      have hk8' : (k : Int) < 8 := by omega
      clear hA hR hB hfe hon
      have HFK := Lib.hid (show f k = on k by rw [HF.out k hk8, if_neg (by omega)])
      cases hf : f k
      · have HA2 := Lib.hid (HA.out.put k hk8 true)
        have HR2 := Lib.hid (HR.out.other (b' := w.heap.size) k (.bool true) (by omega))
        have HB2 := Lib.hid (HB.out.setCell (p := ⟨w.heap.size, k, none⟩) (Nat.le_refl _) (.bool true))
        have ckk := (HA2.out k hk8).1
        rw [show put8 f k true k = true by unfold put8; rw [if_pos rfl]] at ckk
        rw [hf] at ck
        have HFF := Lib.hid hf
        generalize hg : put8 f k true = g at HA2
        have HG := Lib.hid hg
        obtain ⟨wq, hwq⟩ : ∃ wq, wr.setCell ⟨w.heap.size, k, none⟩ (.bool true) = wq := ⟨_, rfl⟩
        have HWQ := Lib.hid hwq
        rw [hwq] at HA2 HR2 HB2 ckk
        clear hg hf
        have h0 := HA2.out 0 (by omega)
        have h1 := HA2.out 1 (by omega)
        have h2 := HA2.out 2 (by omega)
        have h3 := HA2.out 3 (by omega)
        have h4 := HA2.out 4 (by omega)
        have h5 := HA2.out 5 (by omega)
        have h6 := HA2.out 6 (by omega)
        have h7 := HA2.out 7 (by omega)
        have r0 := HR2.out 0 (by omega)
        have r1 := HR2.out 1 (by omega)
        have r2 := HR2.out 2 (by omega)
        have r3 := HR2.out 3 (by omega)
        have r4 := HR2.out 4 (by omega)
        have r5 := HR2.out 5 (by omega)
        have r6 := HR2.out 6 (by omega)
        have r7 := HR2.out 7 (by omega)
        go_wp2
        clear h0 h1 h2 h3 h4 h5 h6 h7 r0 r1 r2 r3 r4 r5 r6 r7
        have HS := Lib.hid (stored8 (f := g) HR2.out)
        have HBZ := Lib.hid (below8 (r := w.heap.size + 1) (v0 := .bool (g 0)) (v1 := .bool (g 1)) (v2 := .bool (g 2)) (v3 := .bool (g 3)) (v4 := .bool (g 4)) (v5 := .bool (g 5)) (v6 := .bool (g 6)) (v7 := .bool (g 7)) HB2.out (by omega))
        have h0 := (HS.out 0 (by omega)).1
        have h1 := (HS.out 1 (by omega)).1
        have h2 := (HS.out 2 (by omega)).1
        have h3 := (HS.out 3 (by omega)).1
        have h4 := (HS.out 4 (by omega)).1
        have h5 := (HS.out 5 (by omega)).1
        have h6 := (HS.out 6 (by omega)).1
        have h7 := (HS.out 7 (by omega)).1
        refine bodyPost_ret (v := agg8 g) ?_ rfl ⟨⟨g, rfl, Or.inl ⟨k, hlt, HON.out, by rw [← HFK.out, HFF.out], fun q hq => ?_⟩⟩, HBZ.out⟩
        · unfold agg8
          simp only [results, Try.results27, go_sem]
          simp [h0, h1, h2, h3, h4, h5, h6, h7, go_sem]
        · rw [← HG.out]; unfold put8; rw [HF.out q hq]
          by_cases e : q = k
          · subst e; rw [if_pos rfl, if_neg (by omega), if_pos rfl]
          · rw [if_neg e, if_neg e]
      · have HA2 := Lib.hid (HA.out.put k hk8 false)
        have HR2 := Lib.hid (HR.out.other (b' := w.heap.size) k (.bool false) (by omega))
        have HB2 := Lib.hid (HB.out.setCell (p := ⟨w.heap.size, k, none⟩) (Nat.le_refl _) (.bool false))
        have ckk := (HA2.out k hk8).1
        rw [show put8 f k false k = false by unfold put8; rw [if_pos rfl]] at ckk
        rw [hf] at ck
        rw [hf] at HFK
        clear hf
        go_wp2
        go_roundw
        case rel => exact ⟨k + 1, _, by omega, fun j hj => by
            by_cases e : j = k
            · subst e; exact HFK.out.symm
            · exact HON.out j (by omega), by go_num, HA2.out, fun q hq => by
            unfold put8
            by_cases e : q = k
            · subst e; rw [if_pos rfl, if_pos (by omega)]
            · rw [if_neg e, HF.out q hq]
              by_cases h : q < k
              · rw [if_pos h, if_pos (by omega)]
              · rw [if_neg h, if_neg (by omega)], HR2.out, HB2.out⟩
        case measure => simp [intOf] <;> omega
    · have h0 := hA 0 (by omega)
      have h1 := hA 1 (by omega)
      have h2 := hA 2 (by omega)
      have h3 := hA 3 (by omega)
      have h4 := hA 4 (by omega)
      have h5 := hA 5 (by omega)
      have h6 := hA 6 (by omega)
      have h7 := hA 7 (by omega)
      have r0 := hR 0 (by omega)
      have r1 := hR 1 (by omega)
      have r2 := hR 2 (by omega)
      have r3 := hR 3 (by omega)
      have r4 := hR 4 (by omega)
      have r5 := hR 5 (by omega)
      have r6 := hR 6 (by omega)
      have r7 := hR 7 (by omega)
      have hkd : k = days := by omega
      have HKD := Lib.hid hkd
      clear hA hR hB hfe hon hkd
      go_wp2
      clear h0 h1 h2 h3 h4 h5 h6 h7 r0 r1 r2 r3 r4 r5 r6 r7
      have HS := Lib.hid (stored8 (f := f) HR.out)
      have HBZ := Lib.hid (below8 (r := w.heap.size + 1) (v0 := .bool (f 0)) (v1 := .bool (f 1)) (v2 := .bool (f 2)) (v3 := .bool (f 3)) (v4 := .bool (f 4)) (v5 := .bool (f 5)) (v6 := .bool (f 6)) (v7 := .bool (f 7)) HB.out (by omega))
      have h0 := (HS.out 0 (by omega)).1
      have h1 := (HS.out 1 (by omega)).1
      have h2 := (HS.out 2 (by omega)).1
      have h3 := (HS.out 3 (by omega)).1
      have h4 := (HS.out 4 (by omega)).1
      have h5 := (HS.out 5 (by omega)).1
      have h6 := (HS.out 6 (by omega)).1
      have h7 := (HS.out 7 (by omega)).1
      refine bodyPost_ret (v := agg8 f) ?_ rfl ⟨⟨f, rfl, Or.inr ⟨fun j hj => HON.out j (by have := HKD.out; omega), fun q hq => by rw [HF.out q hq, HKD.out]⟩⟩, HBZ.out⟩
      unfold agg8
      simp only [results, Try.results27, go_sem]
      simp [h0, h1, h2, h3, h4, h5, h6, h7, go_sem]
end Go.Proofs.Ytldncfkkeeinjab
