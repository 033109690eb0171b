import Derived.Test.YtjcbpnffmebihaaGreatDoorA34
import Derived.Test.YtjcbpnffmebihaaGreatDoorRows
import Derived.WalkKit
import Derived.LoopTactic
import Derived.Outline
import Derived.WalkSpells
import Derived.WalkLawsBesides
import Derived.ProofKit
import Derived.Lib.Hide
import Derived.WideMake
import Derived.MapKept
set_option linter.unusedVariables false
set_option linter.unusedSimpArgs false
namespace Go.Proofs.YtjcbpnffmebihaaGreatDoor
open Go.RowKit Go.WideShapes

theorem World.alloc_new' (w : World) (o : Obj) {b : Nat} (h : b = w.heap.size) : (w.alloc o).heap[b]? = some o := by
  subst h; simp only [World.alloc, Array.getElem?_push_size]
theorem ba_ne {x y : ByteArray} (h : x ≠ y) : (x == y) = false := by
  rcases x with ⟨a⟩
  rcases y with ⟨b⟩
  have e : a ≠ b := fun e => h (by rw [e])
  exact (beq_eq_false_iff_ne (a := a) (b := b)).2 e
/-- a map with one entry more -/
theorem put_new {W : World} {b clock : Nat} {es : Array MapEntry} (k : ByteArray) (v : Value) (hb : W.heap[b]? = some (.map es clock)) (hf : Instr.findNow .string (.string k) es.toList 0 = some none) :
    ∃ W' : World, (Instr.mapUpdate 104 (.map (some b)) (.string k) v).run Tryz.prog W = .ok () W' ∧ W'.heap[b]? = some (.map (es.push { key := .string k, val := v, born := clock }) (clock + 1)) ∧ (∀ i, i ≠ b → W'.heap[i]? = W.heap[i]?) ∧ W'.heap.size = W.heap.size ∧ (∀ B, B ≤ b → Below B W W') := by
  have hc : (Instr.checkKey false 10000 9 (.string k)).run Tryz.prog W = .ok () W := MapKept.run_checkKey (k := .string k) Tryz.underlying9 (by simp [MapKept.IsKey]) false 9999
  have hlt : b < W.heap.size := by
    rcases Nat.lt_or_ge b W.heap.size with h | h
    · exact h
    · rw [Array.getElem?_eq_none h] at hb; cases hb
  refine ⟨{ W with heap := W.heap.setIfInBounds b (.map (es.push { key := .string k, val := v, born := clock }) (clock + 1)) }, ?_, ?_, ?_, ?_, ?_⟩
  · simp [Instr.mapUpdate, run_underlying Tryz.underlying104, MapKept.run_getObj_map hb, hc, MapKept.run_findKey Tryz.underlying9 hf, MapKept.run_setObj_map _ hb, Result.andThen]
  · simp [hlt]
  · intro i hi; simp [Array.getElem?_setIfInBounds, Ne.symm hi]
  · simp
  · intro B hB; exact ⟨rfl, rfl, rfl, by simp, fun i hi => by simp [Array.getElem?_setIfInBounds, show ¬ b = i by omega]⟩
theorem look_in {W : World} {b clock : Nat} {es : Array MapEntry} (k : ByteArray) {i : Nat} {v : Value} (hb : W.heap[b]? = some (.map es clock)) (hf : Instr.findNow .string (.string k) es.toList 0 = some (some (i, v))) :
    (Instr.lookup 104 (.map (some b)) (.string k) true).run Tryz.prog W = .ok (.tuple #[v, .bool true]) W := by
  have hc : (Instr.checkKey es.isEmpty 10000 9 (.string k)).run Tryz.prog W = .ok () W := MapKept.run_checkKey (k := .string k) Tryz.underlying9 (by simp [MapKept.IsKey]) _ 9999
  simp [Instr.lookup, run_underlying Tryz.underlying104, MapKept.run_getObj_map hb, hc, MapKept.run_findKey Tryz.underlying9 hf, Result.andThen]
theorem look_out {W : World} {b clock : Nat} {es : Array MapEntry} (k : ByteArray) (hb : W.heap[b]? = some (.map es clock)) (hf : Instr.findNow .string (.string k) es.toList 0 = some none) :
    (Instr.lookup 104 (.map (some b)) (.string k) true).run Tryz.prog W = .ok (.tuple #[.agg #[.int .i64 0, .bool false, .nilFunc], .bool false]) W := by
  have hc : (Instr.checkKey es.isEmpty 10000 9 (.string k)).run Tryz.prog W = .ok () W := MapKept.run_checkKey (k := .string k) Tryz.underlying9 (by simp [MapKept.IsKey]) _ 9999
  have hz : (zeroValue 73).run Tryz.prog W = .ok (.agg #[.int .i64 0, .bool false, .nilFunc]) W := by kernel_rfl
  simp [Instr.lookup, run_underlying Tryz.underlying104, MapKept.run_getObj_map hb, hc, MapKept.run_findKey Tryz.underlying9 hf, hz, Result.andThen]
/-- a command as a value -/
def cmdV (n : Int) (l : Bool) (f : Value) : Value := .agg #[.int .i64 n, .bool l, f]
set_option maxRecDepth 100000 in
set_option maxHeartbeats 8000000 in
theorem commandOf_two (w : World) : Calls Tryz.prog 48 #[.string ⟨#[116, 119, 111]⟩] w fun e w' => e = .returned (.tuple #[.agg #[.int .i64 0, .bool false, .func (.func 66) #[] #[]], .bool true]) ∧ Below w.heap.size w w' := by
  have hM : ∀ W : World, (Instr.makeMap 104 none).run Tryz.prog W = .ok (.map (some W.heap.size)) (W.alloc (.map #[] 0)) := fun W => rfl
  obtain ⟨b, hb⟩ : ∃ b : Nat, b = w.heap.size + 1 := ⟨_, rfl⟩
  obtain ⟨W0, hW0⟩ : ∃ W0 : World, W0 = (w.alloc (.cells #[.int .i64 0, .bool false, .nilFunc] 73)).alloc (.map #[] 0) := ⟨_, rfl⟩
  have hs0 : W0.heap.size = w.heap.size + 2 := by rw [hW0]; simp
  have hm0 : W0.heap[b]? = some (.map #[] 0) := by rw [hW0, hb]; exact World.alloc_new' _ _ (by simp)
  have hc0 : W0.heap[w.heap.size]? = some (.cells #[.int .i64 0, .bool false, .nilFunc] 73) := by rw [hW0, Below.heap_alloc _ _ _ (by simp)]; exact World.alloc_new' _ _ rfl
  have hB0 : Below w.heap.size w W0 := by rw [hW0]; exact ((Below.refl _ w).alloc (Nat.le_refl _) _).alloc (by simp) _
  obtain ⟨W1, hu1, hm1, hk1, hs1, hl1⟩ := put_new ⟨#[116, 119, 111]⟩ (.agg #[.int .i64 0, .bool false, .func (.func 66) #[] #[]]) hm0 (by kernel_rfl)
  obtain ⟨W2, hu2, hm2, hk2, hs2, hl2⟩ := put_new ⟨#[107, 101, 112, 116]⟩ (.agg #[.int .i64 0, .bool false, .func (.func 67) #[] #[]]) hm1 (by kernel_rfl)
  obtain ⟨W3, hu3, hm3, hk3, hs3, hl3⟩ := put_new ⟨#[108, 111, 116, 115]⟩ (.agg #[.int .i64 0, .bool false, .func (.func 68) #[] #[]]) hm2 (by kernel_rfl)
  obtain ⟨W4, hu4, hm4, hk4, hs4, hl4⟩ := put_new ⟨#[114, 111, 108, 108, 115]⟩ (.agg #[.int .i64 0, .bool false, .func (.func 69) #[] #[]]) hm3 (by kernel_rfl)
  obtain ⟨W5, hu5, hm5, hk5, hs5, hl5⟩ := put_new ⟨#[115, 116, 111, 99, 107]⟩ (.agg #[.int .i64 0, .bool false, .func (.func 70) #[] #[]]) hm4 (by kernel_rfl)
  have hB5 : Below w.heap.size w W5 := ((((hB0.trans (hl1 _ (by omega))).trans (hl2 _ (by omega))).trans (hl3 _ (by omega))).trans (hl4 _ (by omega))).trans (hl5 _ (by omega))
  have hc5 : W5.heap[w.heap.size]? = some (.cells #[.int .i64 0, .bool false, .nilFunc] 73) := by rw [hk5 _ (by omega), hk4 _ (by omega), hk3 _ (by omega), hk2 _ (by omega), hk1 _ (by omega)]; exact hc0
  have hm5' : W5.heap[b]? = some (.map #[{ key := .string ⟨#[116, 119, 111]⟩, val := .agg #[.int .i64 0, .bool false, .func (.func 66) #[] #[]], born := 0 }, { key := .string ⟨#[107, 101, 112, 116]⟩, val := .agg #[.int .i64 0, .bool false, .func (.func 67) #[] #[]], born := 1 }, { key := .string ⟨#[108, 111, 116, 115]⟩, val := .agg #[.int .i64 0, .bool false, .func (.func 68) #[] #[]], born := 2 }, { key := .string ⟨#[114, 111, 108, 108, 115]⟩, val := .agg #[.int .i64 0, .bool false, .func (.func 69) #[] #[]], born := 3 }, { key := .string ⟨#[115, 116, 111, 99, 107]⟩, val := .agg #[.int .i64 0, .bool false, .func (.func 70) #[] #[]], born := 4 }] 5) := hm5
  have hL := look_in (W := W5) ⟨#[116, 119, 111]⟩ hm5' (i := 0) (v := .agg #[.int .i64 0, .bool false, .func (.func 66) #[] #[]]) (by kernel_rfl)
  have HS5 := Lib.hid (show W5.heap.size = w.heap.size + 2 by omega)
  have hlt5 : w.heap.size < W5.heap.size := by omega
  have q0 : W5.cell? ⟨w.heap.size, 0, none⟩ = some (.int .i64 0) := by simp [World.cell?, hc5]
  have q1 : W5.cell? ⟨w.heap.size, 1, none⟩ = some (.bool false) := by simp [World.cell?, hc5]
  have q2 : W5.cell? ⟨w.heap.size, 2, none⟩ = some .nilFunc := by simp [World.cell?, hc5]
  have z0 : ∀ i : Nat, W5.frozen? ⟨w.heap.size, i, none⟩ = false := fun i => by simp [World.frozen?, hc5]
  rw [hb] at hu1 hu2 hu3 hu4 hu5 hL
  rw [hW0] at hu1
  have hst : ∀ (W : World) (p : Addr), W.cell? p = some .nilFunc → W.frozen? p = false → (store p (.func (.func 66) #[] #[])).run Tryz.prog W = .ok () (W.setCell p (.func (.func 66) #[] #[])) := by
    intro W p h1 h2; rw [run_store Tryz.prog _ _ _ _ (by rfl)]; simp [h1, h2]
  have HB5 := Lib.hid hB5
  clear hm0 hm1 hm2 hm3 hm4 hm5 hm5' hk1 hk2 hk3 hk4 hk5 hl1 hl2 hl3 hl4 hl5 hc0 hc5 hB0 hB5 hs0 hs1 hs2 hs3 hs4 hs5 hW0 hb
  go_enter Tryz.func48, Tryz.ntmps48
  go_wp2
  refine bodyPost_ret (v := .tuple #[.agg #[.int .i64 0, .bool false, .func (.func 66) #[] #[]], .bool true]) ?_ rfl ?_
  · simp only [results, Tryz.results48, go_sem]; simp [q0, q1, q2, go_sem, World.cell?_alloc_lt, hlt5]
  · refine ⟨rfl, ?_⟩
    repeat' first | exact HB5.out | refine Below.setCell ?_ (by first | exact Nat.le_refl _ | exact Nat.le_of_lt hlt5) _ | refine Below.alloc ?_ (by simp; omega) _
set_option maxRecDepth 100000 in
set_option maxHeartbeats 8000000 in
theorem commandOf_kept (w : World) : Calls Tryz.prog 48 #[.string ⟨#[107, 101, 112, 116]⟩] w fun e w' => e = .returned (.tuple #[.agg #[.int .i64 0, .bool false, .func (.func 67) #[] #[]], .bool true]) ∧ Below w.heap.size w w' := by
  have hM : ∀ W : World, (Instr.makeMap 104 none).run Tryz.prog W = .ok (.map (some W.heap.size)) (W.alloc (.map #[] 0)) := fun W => rfl
  obtain ⟨b, hb⟩ : ∃ b : Nat, b = w.heap.size + 1 := ⟨_, rfl⟩
  obtain ⟨W0, hW0⟩ : ∃ W0 : World, W0 = (w.alloc (.cells #[.int .i64 0, .bool false, .nilFunc] 73)).alloc (.map #[] 0) := ⟨_, rfl⟩
  have hs0 : W0.heap.size = w.heap.size + 2 := by rw [hW0]; simp
  have hm0 : W0.heap[b]? = some (.map #[] 0) := by rw [hW0, hb]; exact World.alloc_new' _ _ (by simp)
  have hc0 : W0.heap[w.heap.size]? = some (.cells #[.int .i64 0, .bool false, .nilFunc] 73) := by rw [hW0, Below.heap_alloc _ _ _ (by simp)]; exact World.alloc_new' _ _ rfl
  have hB0 : Below w.heap.size w W0 := by rw [hW0]; exact ((Below.refl _ w).alloc (Nat.le_refl _) _).alloc (by simp) _
  obtain ⟨W1, hu1, hm1, hk1, hs1, hl1⟩ := put_new ⟨#[116, 119, 111]⟩ (.agg #[.int .i64 0, .bool false, .func (.func 66) #[] #[]]) hm0 (by kernel_rfl)
  obtain ⟨W2, hu2, hm2, hk2, hs2, hl2⟩ := put_new ⟨#[107, 101, 112, 116]⟩ (.agg #[.int .i64 0, .bool false, .func (.func 67) #[] #[]]) hm1 (by kernel_rfl)
  obtain ⟨W3, hu3, hm3, hk3, hs3, hl3⟩ := put_new ⟨#[108, 111, 116, 115]⟩ (.agg #[.int .i64 0, .bool false, .func (.func 68) #[] #[]]) hm2 (by kernel_rfl)
  obtain ⟨W4, hu4, hm4, hk4, hs4, hl4⟩ := put_new ⟨#[114, 111, 108, 108, 115]⟩ (.agg #[.int .i64 0, .bool false, .func (.func 69) #[] #[]]) hm3 (by kernel_rfl)
  obtain ⟨W5, hu5, hm5, hk5, hs5, hl5⟩ := put_new ⟨#[115, 116, 111, 99, 107]⟩ (.agg #[.int .i64 0, .bool false, .func (.func 70) #[] #[]]) hm4 (by kernel_rfl)
  have hB5 : Below w.heap.size w W5 := ((((hB0.trans (hl1 _ (by omega))).trans (hl2 _ (by omega))).trans (hl3 _ (by omega))).trans (hl4 _ (by omega))).trans (hl5 _ (by omega))
  have hc5 : W5.heap[w.heap.size]? = some (.cells #[.int .i64 0, .bool false, .nilFunc] 73) := by rw [hk5 _ (by omega), hk4 _ (by omega), hk3 _ (by omega), hk2 _ (by omega), hk1 _ (by omega)]; exact hc0
  have hm5' : W5.heap[b]? = some (.map #[{ key := .string ⟨#[116, 119, 111]⟩, val := .agg #[.int .i64 0, .bool false, .func (.func 66) #[] #[]], born := 0 }, { key := .string ⟨#[107, 101, 112, 116]⟩, val := .agg #[.int .i64 0, .bool false, .func (.func 67) #[] #[]], born := 1 }, { key := .string ⟨#[108, 111, 116, 115]⟩, val := .agg #[.int .i64 0, .bool false, .func (.func 68) #[] #[]], born := 2 }, { key := .string ⟨#[114, 111, 108, 108, 115]⟩, val := .agg #[.int .i64 0, .bool false, .func (.func 69) #[] #[]], born := 3 }, { key := .string ⟨#[115, 116, 111, 99, 107]⟩, val := .agg #[.int .i64 0, .bool false, .func (.func 70) #[] #[]], born := 4 }] 5) := hm5
  have hL := look_in (W := W5) ⟨#[107, 101, 112, 116]⟩ hm5' (i := 1) (v := .agg #[.int .i64 0, .bool false, .func (.func 67) #[] #[]]) (by kernel_rfl)
  have HS5 := Lib.hid (show W5.heap.size = w.heap.size + 2 by omega)
  have hlt5 : w.heap.size < W5.heap.size := by omega
  have q0 : W5.cell? ⟨w.heap.size, 0, none⟩ = some (.int .i64 0) := by simp [World.cell?, hc5]
  have q1 : W5.cell? ⟨w.heap.size, 1, none⟩ = some (.bool false) := by simp [World.cell?, hc5]
  have q2 : W5.cell? ⟨w.heap.size, 2, none⟩ = some .nilFunc := by simp [World.cell?, hc5]
  have z0 : ∀ i : Nat, W5.frozen? ⟨w.heap.size, i, none⟩ = false := fun i => by simp [World.frozen?, hc5]
  rw [hb] at hu1 hu2 hu3 hu4 hu5 hL
  rw [hW0] at hu1
  have hst : ∀ (W : World) (p : Addr), W.cell? p = some .nilFunc → W.frozen? p = false → (store p (.func (.func 67) #[] #[])).run Tryz.prog W = .ok () (W.setCell p (.func (.func 67) #[] #[])) := by
    intro W p h1 h2; rw [run_store Tryz.prog _ _ _ _ (by rfl)]; simp [h1, h2]
  have HB5 := Lib.hid hB5
  clear hm0 hm1 hm2 hm3 hm4 hm5 hm5' hk1 hk2 hk3 hk4 hk5 hl1 hl2 hl3 hl4 hl5 hc0 hc5 hB0 hB5 hs0 hs1 hs2 hs3 hs4 hs5 hW0 hb
  go_enter Tryz.func48, Tryz.ntmps48
  go_wp2
  refine bodyPost_ret (v := .tuple #[.agg #[.int .i64 0, .bool false, .func (.func 67) #[] #[]], .bool true]) ?_ rfl ?_
  · simp only [results, Tryz.results48, go_sem]; simp [q0, q1, q2, go_sem, World.cell?_alloc_lt, hlt5]
  · refine ⟨rfl, ?_⟩
    repeat' first | exact HB5.out | refine Below.setCell ?_ (by first | exact Nat.le_refl _ | exact Nat.le_of_lt hlt5) _ | refine Below.alloc ?_ (by simp; omega) _
set_option maxRecDepth 100000 in
set_option maxHeartbeats 8000000 in
theorem commandOf_lots (w : World) : Calls Tryz.prog 48 #[.string ⟨#[108, 111, 116, 115]⟩] w fun e w' => e = .returned (.tuple #[.agg #[.int .i64 2, .bool true, .func (.func 68) #[] #[]], .bool true]) ∧ Below w.heap.size w w' := by
  have hM : ∀ W : World, (Instr.makeMap 104 none).run Tryz.prog W = .ok (.map (some W.heap.size)) (W.alloc (.map #[] 0)) := fun W => rfl
  obtain ⟨b, hb⟩ : ∃ b : Nat, b = w.heap.size + 1 := ⟨_, rfl⟩
  obtain ⟨W0, hW0⟩ : ∃ W0 : World, W0 = (w.alloc (.cells #[.int .i64 0, .bool false, .nilFunc] 73)).alloc (.map #[] 0) := ⟨_, rfl⟩
  have hs0 : W0.heap.size = w.heap.size + 2 := by rw [hW0]; simp
  have hm0 : W0.heap[b]? = some (.map #[] 0) := by rw [hW0, hb]; exact World.alloc_new' _ _ (by simp)
  have hc0 : W0.heap[w.heap.size]? = some (.cells #[.int .i64 0, .bool false, .nilFunc] 73) := by rw [hW0, Below.heap_alloc _ _ _ (by simp)]; exact World.alloc_new' _ _ rfl
  have hB0 : Below w.heap.size w W0 := by rw [hW0]; exact ((Below.refl _ w).alloc (Nat.le_refl _) _).alloc (by simp) _
  obtain ⟨W1, hu1, hm1, hk1, hs1, hl1⟩ := put_new ⟨#[116, 119, 111]⟩ (.agg #[.int .i64 0, .bool false, .func (.func 66) #[] #[]]) hm0 (by kernel_rfl)
  obtain ⟨W2, hu2, hm2, hk2, hs2, hl2⟩ := put_new ⟨#[107, 101, 112, 116]⟩ (.agg #[.int .i64 0, .bool false, .func (.func 67) #[] #[]]) hm1 (by kernel_rfl)
  obtain ⟨W3, hu3, hm3, hk3, hs3, hl3⟩ := put_new ⟨#[108, 111, 116, 115]⟩ (.agg #[.int .i64 0, .bool false, .func (.func 68) #[] #[]]) hm2 (by kernel_rfl)
  obtain ⟨W4, hu4, hm4, hk4, hs4, hl4⟩ := put_new ⟨#[114, 111, 108, 108, 115]⟩ (.agg #[.int .i64 0, .bool false, .func (.func 69) #[] #[]]) hm3 (by kernel_rfl)
  obtain ⟨W5, hu5, hm5, hk5, hs5, hl5⟩ := put_new ⟨#[115, 116, 111, 99, 107]⟩ (.agg #[.int .i64 0, .bool false, .func (.func 70) #[] #[]]) hm4 (by kernel_rfl)
  have hB5 : Below w.heap.size w W5 := ((((hB0.trans (hl1 _ (by omega))).trans (hl2 _ (by omega))).trans (hl3 _ (by omega))).trans (hl4 _ (by omega))).trans (hl5 _ (by omega))
  have hc5 : W5.heap[w.heap.size]? = some (.cells #[.int .i64 0, .bool false, .nilFunc] 73) := by rw [hk5 _ (by omega), hk4 _ (by omega), hk3 _ (by omega), hk2 _ (by omega), hk1 _ (by omega)]; exact hc0
  have hm5' : W5.heap[b]? = some (.map #[{ key := .string ⟨#[116, 119, 111]⟩, val := .agg #[.int .i64 0, .bool false, .func (.func 66) #[] #[]], born := 0 }, { key := .string ⟨#[107, 101, 112, 116]⟩, val := .agg #[.int .i64 0, .bool false, .func (.func 67) #[] #[]], born := 1 }, { key := .string ⟨#[108, 111, 116, 115]⟩, val := .agg #[.int .i64 0, .bool false, .func (.func 68) #[] #[]], born := 2 }, { key := .string ⟨#[114, 111, 108, 108, 115]⟩, val := .agg #[.int .i64 0, .bool false, .func (.func 69) #[] #[]], born := 3 }, { key := .string ⟨#[115, 116, 111, 99, 107]⟩, val := .agg #[.int .i64 0, .bool false, .func (.func 70) #[] #[]], born := 4 }] 5) := hm5
  have hL := look_in (W := W5) ⟨#[108, 111, 116, 115]⟩ hm5' (i := 2) (v := .agg #[.int .i64 0, .bool false, .func (.func 68) #[] #[]]) (by kernel_rfl)
  have HS5 := Lib.hid (show W5.heap.size = w.heap.size + 2 by omega)
  have hlt5 : w.heap.size < W5.heap.size := by omega
  have q0 : W5.cell? ⟨w.heap.size, 0, none⟩ = some (.int .i64 0) := by simp [World.cell?, hc5]
  have q1 : W5.cell? ⟨w.heap.size, 1, none⟩ = some (.bool false) := by simp [World.cell?, hc5]
  have q2 : W5.cell? ⟨w.heap.size, 2, none⟩ = some .nilFunc := by simp [World.cell?, hc5]
  have z0 : ∀ i : Nat, W5.frozen? ⟨w.heap.size, i, none⟩ = false := fun i => by simp [World.frozen?, hc5]
  rw [hb] at hu1 hu2 hu3 hu4 hu5 hL
  rw [hW0] at hu1
  have hst : ∀ (W : World) (p : Addr), W.cell? p = some .nilFunc → W.frozen? p = false → (store p (.func (.func 68) #[] #[])).run Tryz.prog W = .ok () (W.setCell p (.func (.func 68) #[] #[])) := by
    intro W p h1 h2; rw [run_store Tryz.prog _ _ _ _ (by rfl)]; simp [h1, h2]
  have HB5 := Lib.hid hB5
  clear hm0 hm1 hm2 hm3 hm4 hm5 hm5' hk1 hk2 hk3 hk4 hk5 hl1 hl2 hl3 hl4 hl5 hc0 hc5 hB0 hB5 hs0 hs1 hs2 hs3 hs4 hs5 hW0 hb
  go_enter Tryz.func48, Tryz.ntmps48
  go_wp2
  refine bodyPost_ret (v := .tuple #[.agg #[.int .i64 2, .bool true, .func (.func 68) #[] #[]], .bool true]) ?_ rfl ?_
  · simp only [results, Tryz.results48, go_sem]; simp [q0, q1, q2, go_sem, World.cell?_alloc_lt, hlt5]
  · refine ⟨rfl, ?_⟩
    repeat' first | exact HB5.out | refine Below.setCell ?_ (by first | exact Nat.le_refl _ | exact Nat.le_of_lt hlt5) _ | refine Below.alloc ?_ (by simp; omega) _
set_option maxRecDepth 100000 in
set_option maxHeartbeats 8000000 in
theorem commandOf_rolls (w : World) : Calls Tryz.prog 48 #[.string ⟨#[114, 111, 108, 108, 115]⟩] w fun e w' => e = .returned (.tuple #[.agg #[.int .i64 1, .bool true, .func (.func 69) #[] #[]], .bool true]) ∧ Below w.heap.size w w' := by
  have hM : ∀ W : World, (Instr.makeMap 104 none).run Tryz.prog W = .ok (.map (some W.heap.size)) (W.alloc (.map #[] 0)) := fun W => rfl
  obtain ⟨b, hb⟩ : ∃ b : Nat, b = w.heap.size + 1 := ⟨_, rfl⟩
  obtain ⟨W0, hW0⟩ : ∃ W0 : World, W0 = (w.alloc (.cells #[.int .i64 0, .bool false, .nilFunc] 73)).alloc (.map #[] 0) := ⟨_, rfl⟩
  have hs0 : W0.heap.size = w.heap.size + 2 := by rw [hW0]; simp
  have hm0 : W0.heap[b]? = some (.map #[] 0) := by rw [hW0, hb]; exact World.alloc_new' _ _ (by simp)
  have hc0 : W0.heap[w.heap.size]? = some (.cells #[.int .i64 0, .bool false, .nilFunc] 73) := by rw [hW0, Below.heap_alloc _ _ _ (by simp)]; exact World.alloc_new' _ _ rfl
  have hB0 : Below w.heap.size w W0 := by rw [hW0]; exact ((Below.refl _ w).alloc (Nat.le_refl _) _).alloc (by simp) _
  obtain ⟨W1, hu1, hm1, hk1, hs1, hl1⟩ := put_new ⟨#[116, 119, 111]⟩ (.agg #[.int .i64 0, .bool false, .func (.func 66) #[] #[]]) hm0 (by kernel_rfl)
  obtain ⟨W2, hu2, hm2, hk2, hs2, hl2⟩ := put_new ⟨#[107, 101, 112, 116]⟩ (.agg #[.int .i64 0, .bool false, .func (.func 67) #[] #[]]) hm1 (by kernel_rfl)
  obtain ⟨W3, hu3, hm3, hk3, hs3, hl3⟩ := put_new ⟨#[108, 111, 116, 115]⟩ (.agg #[.int .i64 0, .bool false, .func (.func 68) #[] #[]]) hm2 (by kernel_rfl)
  obtain ⟨W4, hu4, hm4, hk4, hs4, hl4⟩ := put_new ⟨#[114, 111, 108, 108, 115]⟩ (.agg #[.int .i64 0, .bool false, .func (.func 69) #[] #[]]) hm3 (by kernel_rfl)
  obtain ⟨W5, hu5, hm5, hk5, hs5, hl5⟩ := put_new ⟨#[115, 116, 111, 99, 107]⟩ (.agg #[.int .i64 0, .bool false, .func (.func 70) #[] #[]]) hm4 (by kernel_rfl)
  have hB5 : Below w.heap.size w W5 := ((((hB0.trans (hl1 _ (by omega))).trans (hl2 _ (by omega))).trans (hl3 _ (by omega))).trans (hl4 _ (by omega))).trans (hl5 _ (by omega))
  have hc5 : W5.heap[w.heap.size]? = some (.cells #[.int .i64 0, .bool false, .nilFunc] 73) := by rw [hk5 _ (by omega), hk4 _ (by omega), hk3 _ (by omega), hk2 _ (by omega), hk1 _ (by omega)]; exact hc0
  have hm5' : W5.heap[b]? = some (.map #[{ key := .string ⟨#[116, 119, 111]⟩, val := .agg #[.int .i64 0, .bool false, .func (.func 66) #[] #[]], born := 0 }, { key := .string ⟨#[107, 101, 112, 116]⟩, val := .agg #[.int .i64 0, .bool false, .func (.func 67) #[] #[]], born := 1 }, { key := .string ⟨#[108, 111, 116, 115]⟩, val := .agg #[.int .i64 0, .bool false, .func (.func 68) #[] #[]], born := 2 }, { key := .string ⟨#[114, 111, 108, 108, 115]⟩, val := .agg #[.int .i64 0, .bool false, .func (.func 69) #[] #[]], born := 3 }, { key := .string ⟨#[115, 116, 111, 99, 107]⟩, val := .agg #[.int .i64 0, .bool false, .func (.func 70) #[] #[]], born := 4 }] 5) := hm5
  have hL := look_in (W := W5) ⟨#[114, 111, 108, 108, 115]⟩ hm5' (i := 3) (v := .agg #[.int .i64 0, .bool false, .func (.func 69) #[] #[]]) (by kernel_rfl)
  have HS5 := Lib.hid (show W5.heap.size = w.heap.size + 2 by omega)
  have hlt5 : w.heap.size < W5.heap.size := by omega
  have q0 : W5.cell? ⟨w.heap.size, 0, none⟩ = some (.int .i64 0) := by simp [World.cell?, hc5]
  have q1 : W5.cell? ⟨w.heap.size, 1, none⟩ = some (.bool false) := by simp [World.cell?, hc5]
  have q2 : W5.cell? ⟨w.heap.size, 2, none⟩ = some .nilFunc := by simp [World.cell?, hc5]
  have z0 : ∀ i : Nat, W5.frozen? ⟨w.heap.size, i, none⟩ = false := fun i => by simp [World.frozen?, hc5]
  rw [hb] at hu1 hu2 hu3 hu4 hu5 hL
  rw [hW0] at hu1
  have hst : ∀ (W : World) (p : Addr), W.cell? p = some .nilFunc → W.frozen? p = false → (store p (.func (.func 69) #[] #[])).run Tryz.prog W = .ok () (W.setCell p (.func (.func 69) #[] #[])) := by
    intro W p h1 h2; rw [run_store Tryz.prog _ _ _ _ (by rfl)]; simp [h1, h2]
  have HB5 := Lib.hid hB5
  clear hm0 hm1 hm2 hm3 hm4 hm5 hm5' hk1 hk2 hk3 hk4 hk5 hl1 hl2 hl3 hl4 hl5 hc0 hc5 hB0 hB5 hs0 hs1 hs2 hs3 hs4 hs5 hW0 hb
  go_enter Tryz.func48, Tryz.ntmps48
  go_wp2
  refine bodyPost_ret (v := .tuple #[.agg #[.int .i64 1, .bool true, .func (.func 69) #[] #[]], .bool true]) ?_ rfl ?_
  · simp only [results, Tryz.results48, go_sem]; simp [q0, q1, q2, go_sem, World.cell?_alloc_lt, hlt5]
  · refine ⟨rfl, ?_⟩
    repeat' first | exact HB5.out | refine Below.setCell ?_ (by first | exact Nat.le_refl _ | exact Nat.le_of_lt hlt5) _ | refine Below.alloc ?_ (by simp; omega) _
set_option maxRecDepth 100000 in
set_option maxHeartbeats 8000000 in
theorem commandOf_stock (w : World) : Calls Tryz.prog 48 #[.string ⟨#[115, 116, 111, 99, 107]⟩] w fun e w' => e = .returned (.tuple #[.agg #[.int .i64 2, .bool true, .func (.func 70) #[] #[]], .bool true]) ∧ Below w.heap.size w w' := by
  have hM : ∀ W : World, (Instr.makeMap 104 none).run Tryz.prog W = .ok (.map (some W.heap.size)) (W.alloc (.map #[] 0)) := fun W => rfl
  obtain ⟨b, hb⟩ : ∃ b : Nat, b = w.heap.size + 1 := ⟨_, rfl⟩
  obtain ⟨W0, hW0⟩ : ∃ W0 : World, W0 = (w.alloc (.cells #[.int .i64 0, .bool false, .nilFunc] 73)).alloc (.map #[] 0) := ⟨_, rfl⟩
  have hs0 : W0.heap.size = w.heap.size + 2 := by rw [hW0]; simp
  have hm0 : W0.heap[b]? = some (.map #[] 0) := by rw [hW0, hb]; exact World.alloc_new' _ _ (by simp)
  have hc0 : W0.heap[w.heap.size]? = some (.cells #[.int .i64 0, .bool false, .nilFunc] 73) := by rw [hW0, Below.heap_alloc _ _ _ (by simp)]; exact World.alloc_new' _ _ rfl
  have hB0 : Below w.heap.size w W0 := by rw [hW0]; exact ((Below.refl _ w).alloc (Nat.le_refl _) _).alloc (by simp) _
  obtain ⟨W1, hu1, hm1, hk1, hs1, hl1⟩ := put_new ⟨#[116, 119, 111]⟩ (.agg #[.int .i64 0, .bool false, .func (.func 66) #[] #[]]) hm0 (by kernel_rfl)
  obtain ⟨W2, hu2, hm2, hk2, hs2, hl2⟩ := put_new ⟨#[107, 101, 112, 116]⟩ (.agg #[.int .i64 0, .bool false, .func (.func 67) #[] #[]]) hm1 (by kernel_rfl)
  obtain ⟨W3, hu3, hm3, hk3, hs3, hl3⟩ := put_new ⟨#[108, 111, 116, 115]⟩ (.agg #[.int .i64 0, .bool false, .func (.func 68) #[] #[]]) hm2 (by kernel_rfl)
  obtain ⟨W4, hu4, hm4, hk4, hs4, hl4⟩ := put_new ⟨#[114, 111, 108, 108, 115]⟩ (.agg #[.int .i64 0, .bool false, .func (.func 69) #[] #[]]) hm3 (by kernel_rfl)
  obtain ⟨W5, hu5, hm5, hk5, hs5, hl5⟩ := put_new ⟨#[115, 116, 111, 99, 107]⟩ (.agg #[.int .i64 0, .bool false, .func (.func 70) #[] #[]]) hm4 (by kernel_rfl)
  have hB5 : Below w.heap.size w W5 := ((((hB0.trans (hl1 _ (by omega))).trans (hl2 _ (by omega))).trans (hl3 _ (by omega))).trans (hl4 _ (by omega))).trans (hl5 _ (by omega))
  have hc5 : W5.heap[w.heap.size]? = some (.cells #[.int .i64 0, .bool false, .nilFunc] 73) := by rw [hk5 _ (by omega), hk4 _ (by omega), hk3 _ (by omega), hk2 _ (by omega), hk1 _ (by omega)]; exact hc0
  have hm5' : W5.heap[b]? = some (.map #[{ key := .string ⟨#[116, 119, 111]⟩, val := .agg #[.int .i64 0, .bool false, .func (.func 66) #[] #[]], born := 0 }, { key := .string ⟨#[107, 101, 112, 116]⟩, val := .agg #[.int .i64 0, .bool false, .func (.func 67) #[] #[]], born := 1 }, { key := .string ⟨#[108, 111, 116, 115]⟩, val := .agg #[.int .i64 0, .bool false, .func (.func 68) #[] #[]], born := 2 }, { key := .string ⟨#[114, 111, 108, 108, 115]⟩, val := .agg #[.int .i64 0, .bool false, .func (.func 69) #[] #[]], born := 3 }, { key := .string ⟨#[115, 116, 111, 99, 107]⟩, val := .agg #[.int .i64 0, .bool false, .func (.func 70) #[] #[]], born := 4 }] 5) := hm5
  have hL := look_in (W := W5) ⟨#[115, 116, 111, 99, 107]⟩ hm5' (i := 4) (v := .agg #[.int .i64 0, .bool false, .func (.func 70) #[] #[]]) (by kernel_rfl)
  have HS5 := Lib.hid (show W5.heap.size = w.heap.size + 2 by omega)
  have hlt5 : w.heap.size < W5.heap.size := by omega
  have q0 : W5.cell? ⟨w.heap.size, 0, none⟩ = some (.int .i64 0) := by simp [World.cell?, hc5]
  have q1 : W5.cell? ⟨w.heap.size, 1, none⟩ = some (.bool false) := by simp [World.cell?, hc5]
  have q2 : W5.cell? ⟨w.heap.size, 2, none⟩ = some .nilFunc := by simp [World.cell?, hc5]
  have z0 : ∀ i : Nat, W5.frozen? ⟨w.heap.size, i, none⟩ = false := fun i => by simp [World.frozen?, hc5]
  rw [hb] at hu1 hu2 hu3 hu4 hu5 hL
  rw [hW0] at hu1
  have hst : ∀ (W : World) (p : Addr), W.cell? p = some .nilFunc → W.frozen? p = false → (store p (.func (.func 70) #[] #[])).run Tryz.prog W = .ok () (W.setCell p (.func (.func 70) #[] #[])) := by
    intro W p h1 h2; rw [run_store Tryz.prog _ _ _ _ (by rfl)]; simp [h1, h2]
  have HB5 := Lib.hid hB5
  clear hm0 hm1 hm2 hm3 hm4 hm5 hm5' hk1 hk2 hk3 hk4 hk5 hl1 hl2 hl3 hl4 hl5 hc0 hc5 hB0 hB5 hs0 hs1 hs2 hs3 hs4 hs5 hW0 hb
  go_enter Tryz.func48, Tryz.ntmps48
  go_wp2
  refine bodyPost_ret (v := .tuple #[.agg #[.int .i64 2, .bool true, .func (.func 70) #[] #[]], .bool true]) ?_ rfl ?_
  · simp only [results, Tryz.results48, go_sem]; simp [q0, q1, q2, go_sem, World.cell?_alloc_lt, hlt5]
  · refine ⟨rfl, ?_⟩
    repeat' first | exact HB5.out | refine Below.setCell ?_ (by first | exact Nat.le_refl _ | exact Nat.le_of_lt hlt5) _ | refine Below.alloc ?_ (by simp; omega) _
set_option maxRecDepth 100000 in
set_option maxHeartbeats 8000000 in
/-- no command has another word -/
theorem commandOf_none (x : ByteArray) (w : World) (k0 : x ≠ kTwo) (k1 : x ≠ kKept) (k2 : x ≠ kLots) (k3 : x ≠ kRolls) (k4 : x ≠ kStock) : Calls Tryz.prog 48 #[.string x] w fun e w' => e = .returned (.tuple #[.agg #[.int .i64 0, .bool false, .nilFunc], .bool false]) ∧ Below w.heap.size w w' := by
  have hM : ∀ W : World, (Instr.makeMap 104 none).run Tryz.prog W = .ok (.map (some W.heap.size)) (W.alloc (.map #[] 0)) := fun W => rfl
  obtain ⟨b, hb⟩ : ∃ b : Nat, b = w.heap.size + 1 := ⟨_, rfl⟩
  obtain ⟨W0, hW0⟩ : ∃ W0 : World, W0 = (w.alloc (.cells #[.int .i64 0, .bool false, .nilFunc] 73)).alloc (.map #[] 0) := ⟨_, rfl⟩
  have hs0 : W0.heap.size = w.heap.size + 2 := by rw [hW0]; simp
  have hm0 : W0.heap[b]? = some (.map #[] 0) := by rw [hW0, hb]; exact World.alloc_new' _ _ (by simp)
  have hc0 : W0.heap[w.heap.size]? = some (.cells #[.int .i64 0, .bool false, .nilFunc] 73) := by rw [hW0, Below.heap_alloc _ _ _ (by simp)]; exact World.alloc_new' _ _ rfl
  have hB0 : Below w.heap.size w W0 := by rw [hW0]; exact ((Below.refl _ w).alloc (Nat.le_refl _) _).alloc (by simp) _
  obtain ⟨W1, hu1, hm1, hk1, hs1, hl1⟩ := put_new ⟨#[116, 119, 111]⟩ (.agg #[.int .i64 0, .bool false, .func (.func 66) #[] #[]]) hm0 (by kernel_rfl)
  obtain ⟨W2, hu2, hm2, hk2, hs2, hl2⟩ := put_new ⟨#[107, 101, 112, 116]⟩ (.agg #[.int .i64 0, .bool false, .func (.func 67) #[] #[]]) hm1 (by kernel_rfl)
  obtain ⟨W3, hu3, hm3, hk3, hs3, hl3⟩ := put_new ⟨#[108, 111, 116, 115]⟩ (.agg #[.int .i64 0, .bool false, .func (.func 68) #[] #[]]) hm2 (by kernel_rfl)
  obtain ⟨W4, hu4, hm4, hk4, hs4, hl4⟩ := put_new ⟨#[114, 111, 108, 108, 115]⟩ (.agg #[.int .i64 0, .bool false, .func (.func 69) #[] #[]]) hm3 (by kernel_rfl)
  obtain ⟨W5, hu5, hm5, hk5, hs5, hl5⟩ := put_new ⟨#[115, 116, 111, 99, 107]⟩ (.agg #[.int .i64 0, .bool false, .func (.func 70) #[] #[]]) hm4 (by kernel_rfl)
  have hB5 : Below w.heap.size w W5 := ((((hB0.trans (hl1 _ (by omega))).trans (hl2 _ (by omega))).trans (hl3 _ (by omega))).trans (hl4 _ (by omega))).trans (hl5 _ (by omega))
  have hc5 : W5.heap[w.heap.size]? = some (.cells #[.int .i64 0, .bool false, .nilFunc] 73) := by rw [hk5 _ (by omega), hk4 _ (by omega), hk3 _ (by omega), hk2 _ (by omega), hk1 _ (by omega)]; exact hc0
  have hm5' : W5.heap[b]? = some (.map #[{ key := .string ⟨#[116, 119, 111]⟩, val := .agg #[.int .i64 0, .bool false, .func (.func 66) #[] #[]], born := 0 }, { key := .string ⟨#[107, 101, 112, 116]⟩, val := .agg #[.int .i64 0, .bool false, .func (.func 67) #[] #[]], born := 1 }, { key := .string ⟨#[108, 111, 116, 115]⟩, val := .agg #[.int .i64 0, .bool false, .func (.func 68) #[] #[]], born := 2 }, { key := .string ⟨#[114, 111, 108, 108, 115]⟩, val := .agg #[.int .i64 0, .bool false, .func (.func 69) #[] #[]], born := 3 }, { key := .string ⟨#[115, 116, 111, 99, 107]⟩, val := .agg #[.int .i64 0, .bool false, .func (.func 70) #[] #[]], born := 4 }] 5) := hm5
  have hL := look_out (W := W5) x hm5' (by
    simp only [Instr.findNow, Instr.sameNow, show (x == ⟨#[116, 119, 111]⟩) = false from ba_ne k0, show (x == ⟨#[107, 101, 112, 116]⟩) = false from ba_ne k1, show (x == ⟨#[108, 111, 116, 115]⟩) = false from ba_ne k2, show (x == ⟨#[114, 111, 108, 108, 115]⟩) = false from ba_ne k3, show (x == ⟨#[115, 116, 111, 99, 107]⟩) = false from ba_ne k4])
  have f0 : (x.toList == ByteArray.toList ⟨#[116, 119, 111]⟩) = false := toList_ne k0
  have g0 : (x.toList == [116, 119, 111]) = false := toList_lit k0
  have f1 : (x.toList == ByteArray.toList ⟨#[107, 101, 112, 116]⟩) = false := toList_ne k1
  have g1 : (x.toList == [107, 101, 112, 116]) = false := toList_lit k1
  have f2 : (x.toList == ByteArray.toList ⟨#[108, 111, 116, 115]⟩) = false := toList_ne k2
  have g2 : (x.toList == [108, 111, 116, 115]) = false := toList_lit k2
  have f3 : (x.toList == ByteArray.toList ⟨#[114, 111, 108, 108, 115]⟩) = false := toList_ne k3
  have g3 : (x.toList == [114, 111, 108, 108, 115]) = false := toList_lit k3
  have f4 : (x.toList == ByteArray.toList ⟨#[115, 116, 111, 99, 107]⟩) = false := toList_ne k4
  have g4 : (x.toList == [115, 116, 111, 99, 107]) = false := toList_lit k4
  have HS5 := Lib.hid (show W5.heap.size = w.heap.size + 2 by omega)
  have hlt5 : w.heap.size < W5.heap.size := by omega
  have q0 : W5.cell? ⟨w.heap.size, 0, none⟩ = some (.int .i64 0) := by simp [World.cell?, hc5]
  have q1 : W5.cell? ⟨w.heap.size, 1, none⟩ = some (.bool false) := by simp [World.cell?, hc5]
  have q2 : W5.cell? ⟨w.heap.size, 2, none⟩ = some .nilFunc := by simp [World.cell?, hc5]
  have z0 : ∀ i : Nat, W5.frozen? ⟨w.heap.size, i, none⟩ = false := fun i => by simp [World.frozen?, hc5]
  rw [hb] at hu1 hu2 hu3 hu4 hu5 hL
  rw [hW0] at hu1
  have hst : ∀ (W : World) (p : Addr), W.cell? p = some .nilFunc → W.frozen? p = false → (store p (.nilFunc)).run Tryz.prog W = .ok () (W.setCell p (.nilFunc)) := by
    intro W p h1 h2; rw [run_store Tryz.prog _ _ _ _ (by rfl)]; simp [h1, h2]
  have HB5 := Lib.hid hB5
  clear hm0 hm1 hm2 hm3 hm4 hm5 hm5' hk1 hk2 hk3 hk4 hk5 hl1 hl2 hl3 hl4 hl5 hc0 hc5 hB0 hB5 hs0 hs1 hs2 hs3 hs4 hs5 hW0 hb
  go_enter Tryz.func48, Tryz.ntmps48
  go_wp2
  refine bodyPost_ret (v := .tuple #[.agg #[.int .i64 0, .bool false, .nilFunc], .bool false]) ?_ rfl ?_
  · simp only [results, Tryz.results48, go_sem]; simp [q0, q1, q2, go_sem, World.cell?_alloc_lt, hlt5]
  · refine ⟨rfl, ?_⟩
    repeat' first | exact HB5.out | refine Below.setCell ?_ (by first | exact Nat.le_refl _ | exact Nat.le_of_lt hlt5) _ | refine Below.alloc ?_ (by simp; omega) _
end Go.Proofs.YtjcbpnffmebihaaGreatDoor
