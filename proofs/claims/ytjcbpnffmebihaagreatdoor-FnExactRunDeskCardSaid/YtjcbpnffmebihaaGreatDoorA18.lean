import Derived.Test.YtjcbpnffmebihaaGreatDoorA17
import Derived.Test.YtjcbpnffmebihaaGreatDoorRows
import Derived.WalkKit
import Derived.LoopTactic
import Derived.Outline
import Derived.WalkSpells
import Derived.WalkLawsBesides
import Derived.ProofKit
import Derived.Lib.Hide
import Derived.WideMake
import Derived.MapKept
namespace Go.Proofs.YtjcbpnffmebihaaGreatDoor
open Go.RowKit Go.WideShapes

theorem World.alloc_new' (w : World) (o : Obj) {b : Nat} (h : b = w.heap.size) : (w.alloc o).heap[b]? = some o := by
  subst h; simp only [World.alloc, Array.getElem?_push_size]
theorem ba_ne {x y : ByteArray} (h : x ≠ y) : (x == y) = false := by
  rcases x with ⟨a⟩
  rcases y with ⟨b⟩
  have e : a ≠ b := fun e => h (by rw [e])
  exact (beq_eq_false_iff_ne (a := a) (b := b)).2 e
/-- a map with one entry more -/
theorem put_new {W : World} {b clock : Nat} {es : Array MapEntry} (k : ByteArray) (v : Value) (hb : W.heap[b]? = some (.map es clock)) (hf : Instr.findNow .string (.string k) es.toList 0 = some none) :
    ∃ W' : World, (Instr.mapUpdate 104 (.map (some b)) (.string k) v).run Tryz.prog W = .ok () W' ∧ W'.heap[b]? = some (.map (es.push { key := .string k, val := v, born := clock }) (clock + 1)) ∧ (∀ i, i ≠ b → W'.heap[i]? = W.heap[i]?) ∧ W'.heap.size = W.heap.size ∧ (∀ B, B ≤ b → Below B W W') := by
  have hc : (Instr.checkKey false 10000 9 (.string k)).run Tryz.prog W = .ok () W := MapKept.run_checkKey (k := .string k) Tryz.underlying9 (by simp [MapKept.IsKey]) false 9999
  have hlt : b < W.heap.size := by
    rcases Nat.lt_or_ge b W.heap.size with h | h
    · exact h
    · rw [Array.getElem?_eq_none h] at hb; cases hb
  refine ⟨{ W with heap := W.heap.setIfInBounds b (.map (es.push { key := .string k, val := v, born := clock }) (clock + 1)) }, ?_, ?_, ?_, ?_, ?_⟩
  · simp [Instr.mapUpdate, run_underlying Tryz.underlying104, MapKept.run_getObj_map hb, hc, MapKept.run_findKey Tryz.underlying9 hf, MapKept.run_setObj_map _ hb, Result.andThen]
  · simp [hlt]
  · intro i hi; simp [Array.getElem?_setIfInBounds, Ne.symm hi]
  · simp
  · intro B hB; exact ⟨rfl, rfl, rfl, by simp, fun i hi => by simp [Array.getElem?_setIfInBounds, show ¬ b = i by omega]⟩
theorem look_in {W : World} {b clock : Nat} {es : Array MapEntry} (k : ByteArray) {i : Nat} {v : Value} (hb : W.heap[b]? = some (.map es clock)) (hf : Instr.findNow .string (.string k) es.toList 0 = some (some (i, v))) :
    (Instr.lookup 104 (.map (some b)) (.string k) true).run Tryz.prog W = .ok (.tuple #[v, .bool true]) W := by
  have hc : (Instr.checkKey es.isEmpty 10000 9 (.string k)).run Tryz.prog W = .ok () W := MapKept.run_checkKey (k := .string k) Tryz.underlying9 (by simp [MapKept.IsKey]) _ 9999
  simp [Instr.lookup, run_underlying Tryz.underlying104, MapKept.run_getObj_map hb, hc, MapKept.run_findKey Tryz.underlying9 hf, Result.andThen]
theorem look_out {W : World} {b clock : Nat} {es : Array MapEntry} (k : ByteArray) (hb : W.heap[b]? = some (.map es clock)) (hf : Instr.findNow .string (.string k) es.toList 0 = some none) :
    (Instr.lookup 104 (.map (some b)) (.string k) true).run Tryz.prog W = .ok (.tuple #[.agg #[.int .i64 0, .bool false, .nilFunc], .bool false]) W := by
  have hc : (Instr.checkKey es.isEmpty 10000 9 (.string k)).run Tryz.prog W = .ok () W := MapKept.run_checkKey (k := .string k) Tryz.underlying9 (by simp [MapKept.IsKey]) _ 9999
  have hz : (zeroValue 73).run Tryz.prog W = .ok (.agg #[.int .i64 0, .bool false, .nilFunc]) W := by kernel_rfl
  simp [Instr.lookup, run_underlying Tryz.underlying104, MapKept.run_getObj_map hb, hc, MapKept.run_findKey Tryz.underlying9 hf, hz, Result.andThen]
/-- a command as a value -/
def cmdV (n : Int) (l : Bool) (f : Value) : Value := .agg #[.int .i64 n, .bool l, f]
set_option maxRecDepth 100000 in
set_option maxHeartbeats 8000000 in
theorem commandOf_two (w : World) : Calls Tryz.prog 48 #[.string ⟨#[116, 119, 111]⟩] w fun e w' => e = .returned (.tuple #[.agg #[.int .i64 0, .bool false, .func (.func 66) #[] #[]], .bool true]) ∧ Below w.heap.size w w' := by
  have hM : ∀ W : World, (Instr.makeMap 104 none).run Tryz.prog W = .ok (.map (some W.heap.size)) (W.alloc (.map #[] 0)) := fun W => rfl
  obtain ⟨b, hb⟩ : ∃ b : Nat, b = w.heap.size + 1 := ⟨_, rfl⟩
  obtain ⟨W0, hW0⟩ : ∃ W0 : World, W0 = (w.alloc (.cells #[.int .i64 0, .bool false, .nilFunc] 73)).alloc (.map #[] 0) := ⟨_, rfl⟩
  have hs0 : W0.heap.size = w.heap.size + 2 := by rw [hW0]; simp
  have hm0 : W0.heap[b]? = some (.map #[] 0) := by rw [hW0, hb]; exact World.alloc_new' _ _ (by simp)
  have hc0 : W0.heap[w.heap.size]? = some (.cells #[.int .i64 0, .bool false, .nilFunc] 73) := by rw [hW0, Below.heap_alloc _ _ _ (by simp)]; exact World.alloc_new' _ _ rfl
  have hB0 : Below w.heap.size w W0 := by rw [hW0]; exact ((Below.refl _ w).alloc (Nat.le_refl _) _).alloc (by simp) _
  obtain ⟨W1, hu1, hm1, hk1, hs1, hl1⟩ := put_new ⟨#[116, 119, 111]⟩ (.agg #[.int .i64 0, .bool false, .func (.func 66) #[] #[]]) hm0 (by kernel_rfl)
  obtain ⟨W2, hu2, hm2, hk2, hs2, hl2⟩ := put_new ⟨#[107, 101, 112, 116]⟩ (.agg #[.int .i64 0, .bool false, .func (.func 67) #[] #[]]) hm1 (by kernel_rfl)
  obtain ⟨W3, hu3, hm3, hk3, hs3, hl3⟩ := put_new ⟨#[108, 111, 116, 115]⟩ (.agg #[.int .i64 0, .bool false, .func (.func 68) #[] #[]]) hm2 (by kernel_rfl)
  obtain ⟨W4, hu4, hm4, hk4, hs4, hl4⟩ := put_new ⟨#[114, 111, 108, 108, 115]⟩ (.agg #[.int .i64 0, .bool false, .func (.func 69) #[] #[]]) hm3 (by kernel_rfl)
  obtain ⟨W5, hu5, hm5, hk5, hs5, hl5⟩ := put_new ⟨#[115, 116, 111, 99, 107]⟩ (.agg #[.int .i64 0, .bool false, .func (.func 70) #[] #[]]) hm4 (by kernel_rfl)
  have hB5 : Below w.heap.size w W5 := ((((hB0.trans (hl1 _ (by omega))).trans (hl2 _ (by omega))).trans (hl3 _ (by omega))).trans (hl4 _ (by omega))).trans (hl5 _ (by omega))
  have hc5 : W5.heap[w.heap.size]? = some (.cells #[.int .i64 0, .bool false, .nilFunc] 73) := by rw [hk5 _ (by omega), hk4 _ (by omega), hk3 _ (by omega), hk2 _ (by omega), hk1 _ (by omega)]; exact hc0
  have hm5' : W5.heap[b]? = some (.map #[{ key := .string ⟨#[116, 119, 111]⟩, val := .agg #[.int .i64 0, .bool false, .func (.func 66) #[] #[]], born := 0 }, { key := .string ⟨#[107, 101, 112, 116]⟩, val := .agg #[.int .i64 0, .bool false, .func (.func 67) #[] #[]], born := 1 }, { key := .string ⟨#[108, 111, 116, 115]⟩, val := .agg #[.int .i64 0, .bool false, .func (.func 68) #[] #[]], born := 2 }, { key := .string ⟨#[114, 111, 108, 108, 115]⟩, val := .agg #[.int .i64 0, .bool false, .func (.func 69) #[] #[]], born := 3 }, { key := .string ⟨#[115, 116, 111, 99, 107]⟩, val := .agg #[.int .i64 0, .bool false, .func (.func 70) #[] #[]], born := 4 }] 5) := hm5
  have hL := look_in (W := W5) ⟨#[116, 119, 111]⟩ hm5' (i := 0) (v := .agg #[.int .i64 0, .bool false, .func (.func 66) #[] #[]]) (by kernel_rfl)
  have HS5 := Lib.hid (show W5.heap.size = w.heap.size + 2 by omega)
  have hlt5 : w.heap.size < W5.heap.size := by omega
  have q0 : W5.cell? ⟨w.heap.size, 0, none⟩ = some (.int .i64 0) := by simp [World.cell?, hc5]
  have q1 : W5.cell? ⟨w.heap.size, 1, none⟩ = some (.bool false) := by simp [World.cell?, hc5]
  have q2 : W5.cell? ⟨w.heap.size, 2, none⟩ = some .nilFunc := by simp [World.cell?, hc5]
  have z0 : ∀ i : Nat, W5.frozen? ⟨w.heap.size, i, none⟩ = false := fun i => by simp [World.frozen?, hc5]
  rw [hb] at hu1 hu2 hu3 hu4 hu5 hL
  rw [hW0] at hu1
  have hst : ∀ (W : World) (p : Addr), W.cell? p = some .nilFunc → W.frozen? p = false → (store p (.func (.func 66) #[] #[])).run Tryz.prog W = .ok () (W.setCell p (.func (.func 66) #[] #[])) := by
    intro W p h1 h2; rw [run_store Tryz.prog _ _ _ _ (by rfl)]; simp [h1, h2]
  have HB5 := Lib.hid hB5
  clear hm0 hm1 hm2 hm3 hm4 hm5 hm5' hk1 hk2 hk3 hk4 hk5 hl1 hl2 hl3 hl4 hl5 hc0 hc5 hB0 hB5 hs0 hs1 hs2 hs3 hs4 hs5 hW0 hb
  go_enter Tryz.func48, Tryz.ntmps48
  go_wp2
  refine bodyPost_ret (v := .tuple #[.agg #[.int .i64 0, .bool false, .func (.func 66) #[] #[]], .bool true]) ?_ rfl ?_
  · simp only [results, Tryz.results48, go_sem]; simp [q0, q1, q2, go_sem, World.cell?_alloc_lt, hlt5]
  · refine ⟨rfl, ?_⟩
    repeat' first | exact HB5.out | refine Below.setCell ?_ (by first | exact Nat.le_refl _ | exact Nat.le_of_lt hlt5) _ | refine Below.alloc ?_ (by simp; omega) _
set_option maxRecDepth 100000 in
set_option maxHeartbeats 8000000 in
theorem commandOf_kept (w : World) : Calls Tryz.prog 48 #[.string ⟨#[107, 101, 112, 116]⟩] w fun e w' => e = .returned (.tuple #[.agg #[.int .i64 0, .bool false, .func (.func 67) #[] #[]], .bool true]) ∧ Below w.heap.size w w' := by
  have hM : ∀ W : World, (Instr.makeMap 104 none).run Tryz.prog W = .ok (.map (some W.heap.size)) (W.alloc (.map #[] 0)) := fun W => rfl
  obtain ⟨b, hb⟩ : ∃ b : Nat, b = w.heap.size + 1 := ⟨_, rfl⟩
  obtain ⟨W0, hW0⟩ : ∃ W0 : World, W0 = (w.alloc (.cells #[.int .i64 0, .bool false, .nilFunc] 73)).alloc (.map #[] 0) := ⟨_, rfl⟩
  have hs0 : W0.heap.size = w.heap.size + 2 := by rw [hW0]; simp
  have hm0 : W0.heap[b]? = some (.map #[] 0) := by rw [hW0, hb]; exact World.alloc_new' _ _ (by simp)
  have hc0 : W0.heap[w.heap.size]? = some (.cells #[.int .i64 0, .bool false, .nilFunc] 73) := by rw [hW0, Below.heap_alloc _ _ _ (by simp)]; exact World.alloc_new' _ _ rfl
  have hB0 : Below w.heap.size w W0 := by rw [hW0]; exact ((Below.refl _ w).alloc (Nat.le_refl _) _).alloc (by simp) _
  obtain ⟨W1, hu1, hm1, hk1, hs1, hl1⟩ := put_new ⟨#[116, 119, 111]⟩ (.agg #[.int .i64 0, .bool false, .func (.func 66) #[] #[]]) hm0 (by kernel_rfl)
  obtain ⟨W2, hu2, hm2, hk2, hs2, hl2⟩ := put_new ⟨#[107, 101, 112, 116]⟩ (.agg #[.int .i64 0, .bool false, .func (.func 67) #[] #[]]) hm1 (by kernel_rfl)
  obtain ⟨W3, hu3, hm3, hk3, hs3, hl3⟩ := put_new ⟨#[108, 111, 116, 115]⟩ (.agg #[.int .i64 0, .bool false, .func (.func 68) #[] #[]]) hm2 (by kernel_rfl)
  obtain ⟨W4, hu4, hm4, hk4, hs4, hl4⟩ := put_new ⟨#[114, 111, 108, 108, 115]⟩ (.agg #[.int .i64 0, .bool false, .func (.func 69) #[] #[]]) hm3 (by kernel_rfl)
  obtain ⟨W5, hu5, hm5, hk5, hs5, hl5⟩ := put_new ⟨#[115, 116, 111, 99, 107]⟩ (.agg #[.int .i64 0, .bool false, .func (.func 70) #[] #[]]) hm4 (by kernel_rfl)
  have hB5 : Below w.heap.size w W5 := ((((hB0.trans (hl1 _ (by omega))).trans (hl2 _ (by omega))).trans (hl3 _ (by omega))).trans (hl4 _ (by omega))).trans (hl5 _ (by omega))
  have hc5 : W5.heap[w.heap.size]? = some (.cells #[.int .i64 0, .bool false, .nilFunc] 73) := by rw [hk5 _ (by omega), hk4 _ (by omega), hk3 _ (by omega), hk2 _ (by omega), hk1 _ (by omega)]; exact hc0
  have hm5' : W5.heap[b]? = some (.map #[{ key := .string ⟨#[116, 119, 111]⟩, val := .agg #[.int .i64 0, .bool false, .func (.func 66) #[] #[]], born := 0 }, { key := .string ⟨#[107, 101, 112, 116]⟩, val := .agg #[.int .i64 0, .bool false, .func (.func 67) #[] #[]], born := 1 }, { key := .string ⟨#[108, 111, 116, 115]⟩, val := .agg #[.int .i64 0, .bool false, .func (.func 68) #[] #[]], born := 2 }, { key := .string ⟨#[114, 111, 108, 108, 115]⟩, val := .agg #[.int .i64 0, .bool false, .func (.func 69) #[] #[]], born := 3 }, { key := .string ⟨#[115, 116, 111, 99, 107]⟩, val := .agg #[.int .i64 0, .bool false, .func (.func 70) #[] #[]], born := 4 }] 5) := hm5
  have hL := look_in (W := W5) ⟨#[107, 101, 112, 116]⟩ hm5' (i := 1) (v := .agg #[.int .i64 0, .bool false, .func (.func 67) #[] #[]]) (by kernel_rfl)
  have HS5 := Lib.hid (show W5.heap.size = w.heap.size + 2 by omega)
  have hlt5 : w.heap.size < W5.heap.size := by omega
  have q0 : W5.cell? ⟨w.heap.size, 0, none⟩ = some (.int .i64 0) := by simp [World.cell?, hc5]
  have q1 : W5.cell? ⟨w.heap.size, 1, none⟩ = some (.bool false) := by simp [World.cell?, hc5]
  have q2 : W5.cell? ⟨w.heap.size, 2, none⟩ = some .nilFunc := by simp [World.cell?, hc5]
  have z0 : ∀ i : Nat, W5.frozen? ⟨w.heap.size, i, none⟩ = false := fun i => by simp [World.frozen?, hc5]
  rw [hb] at hu1 hu2 hu3 hu4 hu5 hL
  rw [hW0] at hu1
  have hst : ∀ (W : World) (p : Addr), W.cell? p = some .nilFunc → W.frozen? p = false → (store p (.func (.func 67) #[] #[])).run Tryz.prog W = .ok () (W.setCell p (.func (.func 67) #[] #[])) := by
    intro W p h1 h2; rw [run_store Tryz.prog _ _ _ _ (by rfl)]; simp [h1, h2]
  have HB5 := Lib.hid hB5
  clear hm0 hm1 hm2 hm3 hm4 hm5 hm5' hk1 hk2 hk3 hk4 hk5 hl1 hl2 hl3 hl4 hl5 hc0 hc5 hB0 hB5 hs0 hs1 hs2 hs3 hs4 hs5 hW0 hb
  go_enter Tryz.func48, Tryz.ntmps48
  go_wp2
  refine bodyPost_ret (v := .tuple #[.agg #[.int .i64 0, .bool false, .func (.func 67) #[] #[]], .bool true]) ?_ rfl ?_
  · simp only [results, Tryz.results48, go_sem]; simp [q0, q1, q2, go_sem, World.cell?_alloc_lt, hlt5]
  · refine ⟨rfl, ?_⟩
    repeat' first | exact HB5.out | refine Below.setCell ?_ (by first | exact Nat.le_refl _ | exact Nat.le_of_lt hlt5) _ | refine Below.alloc ?_ (by simp; omega) _
set_option maxRecDepth 100000 in
set_option maxHeartbeats 8000000 in
theorem commandOf_lots (w : World) : Calls Tryz.prog 48 #[.string ⟨#[108, 111, 116, 115]⟩] w fun e w' => e = .returned (.tuple #[.agg #[.int .i64 2, .bool true, .func (.func 68) #[] #[]], .bool true]) ∧ Below w.heap.size w w' := by
  have hM : ∀ W : World, (Instr.makeMap 104 none).run Tryz.prog W = .ok (.map (some W.heap.size)) (W.alloc (.map #[] 0)) := fun W => rfl
  obtain ⟨b, hb⟩ : ∃ b : Nat, b = w.heap.size + 1 := ⟨_, rfl⟩
  obtain ⟨W0, hW0⟩ : ∃ W0 : World, W0 = (w.alloc (.cells #[.int .i64 0, .bool false, .nilFunc] 73)).alloc (.map #[] 0) := ⟨_, rfl⟩
  have hs0 : W0.heap.size = w.heap.size + 2 := by rw [hW0]; simp
  have hm0 : W0.heap[b]? = some (.map #[] 0) := by rw [hW0, hb]; exact World.alloc_new' _ _ (by simp)
  have hc0 : W0.heap[w.heap.size]? = some (.cells #[.int .i64 0, .bool false, .nilFunc] 73) := by rw [hW0, Below.heap_alloc _ _ _ (by simp)]; exact World.alloc_new' _ _ rfl
  have hB0 : Below w.heap.size w W0 := by rw [hW0]; exact ((Below.refl _ w).alloc (Nat.le_refl _) _).alloc (by simp) _
  obtain ⟨W1, hu1, hm1, hk1, hs1, hl1⟩ := put_new ⟨#[116, 119, 111]⟩ (.agg #[.int .i64 0, .bool false, .func (.func 66) #[] #[]]) hm0 (by kernel_rfl)
  obtain ⟨W2, hu2, hm2, hk2, hs2, hl2⟩ := put_new ⟨#[107, 101, 112, 116]⟩ (.agg #[.int .i64 0, .bool false, .func (.func 67) #[] #[]]) hm1 (by kernel_rfl)
  obtain ⟨W3, hu3, hm3, hk3, hs3, hl3⟩ := put_new ⟨#[108, 111, 116, 115]⟩ (.agg #[.int .i64 0, .bool false, .func (.func 68) #[] #[]]) hm2 (by kernel_rfl)
  obtain ⟨W4, hu4, hm4, hk4, hs4, hl4⟩ := put_new ⟨#[114, 111, 108, 108, 115]⟩ (.agg #[.int .i64 0, .bool false, .func (.func 69) #[] #[]]) hm3 (by kernel_rfl)
  obtain ⟨W5, hu5, hm5, hk5, hs5, hl5⟩ := put_new ⟨#[115, 116, 111, 99, 107]⟩ (.agg #[.int .i64 0, .bool false, .func (.func 70) #[] #[]]) hm4 (by kernel_rfl)
  have hB5 : Below w.heap.size w W5 := ((((hB0.trans (hl1 _ (by omega))).trans (hl2 _ (by omega))).trans (hl3 _ (by omega))).trans (hl4 _ (by omega))).trans (hl5 _ (by omega))
  have hc5 : W5.heap[w.heap.size]? = some (.cells #[.int .i64 0, .bool false, .nilFunc] 73) := by rw [hk5 _ (by omega), hk4 _ (by omega), hk3 _ (by omega), hk2 _ (by omega), hk1 _ (by omega)]; exact hc0
  have hm5' : W5.heap[b]? = some (.map #[{ key := .string ⟨#[116, 119, 111]⟩, val := .agg #[.int .i64 0, .bool false, .func (.func 66) #[] #[]], born := 0 }, { key := .string ⟨#[107, 101, 112, 116]⟩, val := .agg #[.int .i64 0, .bool false, .func (.func 67) #[] #[]], born := 1 }, { key := .string ⟨#[108, 111, 116, 115]⟩, val := .agg #[.int .i64 0, .bool false, .func (.func 68) #[] #[]], born := 2 }, { key := .string ⟨#[114, 111, 108, 108, 115]⟩, val := .agg #[.int .i64 0, .bool false, .func (.func 69) #[] #[]], born := 3 }, { key := .string ⟨#[115, 116, 111, 99, 107]⟩, val := .agg #[.int .i64 0, .bool false, .func (.func 70) #[] #[]], born := 4 }] 5) := hm5
  have hL := look_in (W := W5) ⟨#[108, 111, 116, 115]⟩ hm5' (i := 2) (v := .agg #[.int .i64 0, .bool false, .func (.func 68) #[] #[]]) (by kernel_rfl)
  have HS5 := Lib.hid (show W5.heap.size = w.heap.size + 2 by omega)
  have hlt5 : w.heap.size < W5.heap.size := by omega
  have q0 : W5.cell? ⟨w.heap.size, 0, none⟩ = some (.int .i64 0) := by simp [World.cell?, hc5]
  have q1 : W5.cell? ⟨w.heap.size, 1, none⟩ = some (.bool false) := by simp [World.cell?, hc5]
  have q2 : W5.cell? ⟨w.heap.size, 2, none⟩ = some .nilFunc := by simp [World.cell?, hc5]
  have z0 : ∀ i : Nat, W5.frozen? ⟨w.heap.size, i, none⟩ = false := fun i => by simp [World.frozen?, hc5]
  rw [hb] at hu1 hu2 hu3 hu4 hu5 hL
  rw [hW0] at hu1
  have hst : ∀ (W : World) (p : Addr), W.cell? p = some .nilFunc → W.frozen? p = false → (store p (.func (.func 68) #[] #[])).run Tryz.prog W = .ok () (W.setCell p (.func (.func 68) #[] #[])) := by
    intro W p h1 h2; rw [run_store Tryz.prog _ _ _ _ (by rfl)]; simp [h1, h2]
  have HB5 := Lib.hid hB5
  clear hm0 hm1 hm2 hm3 hm4 hm5 hm5' hk1 hk2 hk3 hk4 hk5 hl1 hl2 hl3 hl4 hl5 hc0 hc5 hB0 hB5 hs0 hs1 hs2 hs3 hs4 hs5 hW0 hb
  go_enter Tryz.func48, Tryz.ntmps48
  go_wp2
  refine bodyPost_ret (v := .tuple #[.agg #[.int .i64 2, .bool true, .func (.func 68) #[] #[]], .bool true]) ?_ rfl ?_
  · simp only [results, Tryz.results48, go_sem]; simp [q0, q1, q2, go_sem, World.cell?_alloc_lt, hlt5]
  · refine ⟨rfl, ?_⟩
    repeat' first | exact HB5.out | refine Below.setCell ?_ (by first | exact Nat.le_refl _ | exact Nat.le_of_lt hlt5) _ | refine Below.alloc ?_ (by simp; omega) _
set_option maxRecDepth 100000 in
set_option maxHeartbeats 8000000 in
theorem commandOf_rolls (w : World) : Calls Tryz.prog 48 #[.string ⟨#[114, 111, 108, 108, 115]⟩] w fun e w' => e = .returned (.tuple #[.agg #[.int .i64 1, .bool true, .func (.func 69) #[] #[]], .bool true]) ∧ Below w.heap.size w w' := by
  have hM : ∀ W : World, (Instr.makeMap 104 none).run Tryz.prog W = .ok (.map (some W.heap.size)) (W.alloc (.map #[] 0)) := fun W => rfl
  obtain ⟨b, hb⟩ : ∃ b : Nat, b = w.heap.size + 1 := ⟨_, rfl⟩
  obtain ⟨W0, hW0⟩ : ∃ W0 : World, W0 = (w.alloc (.cells #[.int .i64 0, .bool false, .nilFunc] 73)).alloc (.map #[] 0) := ⟨_, rfl⟩
  have hs0 : W0.heap.size = w.heap.size + 2 := by rw [hW0]; simp
  have hm0 : W0.heap[b]? = some (.map #[] 0) := by rw [hW0, hb]; exact World.alloc_new' _ _ (by simp)
  have hc0 : W0.heap[w.heap.size]? = some (.cells #[.int .i64 0, .bool false, .nilFunc] 73) := by rw [hW0, Below.heap_alloc _ _ _ (by simp)]; exact World.alloc_new' _ _ rfl
  have hB0 : Below w.heap.size w W0 := by rw [hW0]; exact ((Below.refl _ w).alloc (Nat.le_refl _) _).alloc (by simp) _
  obtain ⟨W1, hu1, hm1, hk1, hs1, hl1⟩ := put_new ⟨#[116, 119, 111]⟩ (.agg #[.int .i64 0, .bool false, .func (.func 66) #[] #[]]) hm0 (by kernel_rfl)
  obtain ⟨W2, hu2, hm2, hk2, hs2, hl2⟩ := put_new ⟨#[107, 101, 112, 116]⟩ (.agg #[.int .i64 0, .bool false, .func (.func 67) #[] #[]]) hm1 (by kernel_rfl)
  obtain ⟨W3, hu3, hm3, hk3, hs3, hl3⟩ := put_new ⟨#[108, 111, 116, 115]⟩ (.agg #[.int .i64 0, .bool false, .func (.func 68) #[] #[]]) hm2 (by kernel_rfl)
  obtain ⟨W4, hu4, hm4, hk4, hs4, hl4⟩ := put_new ⟨#[114, 111, 108, 108, 115]⟩ (.agg #[.int .i64 0, .bool false, .func (.func 69) #[] #[]]) hm3 (by kernel_rfl)
  obtain ⟨W5, hu5, hm5, hk5, hs5, hl5⟩ := put_new ⟨#[115, 116, 111, 99, 107]⟩ (.agg #[.int .i64 0, .bool false, .func (.func 70) #[] #[]]) hm4 (by kernel_rfl)
  have hB5 : Below w.heap.size w W5 := ((((hB0.trans (hl1 _ (by omega))).trans (hl2 _ (by omega))).trans (hl3 _ (by omega))).trans (hl4 _ (by omega))).trans (hl5 _ (by omega))
  have hc5 : W5.heap[w.heap.size]? = some (.cells #[.int .i64 0, .bool false, .nilFunc] 73) := by rw [hk5 _ (by omega), hk4 _ (by omega), hk3 _ (by omega), hk2 _ (by omega), hk1 _ (by omega)]; exact hc0
  have hm5' : W5.heap[b]? = some (.map #[{ key := .string ⟨#[116, 119, 111]⟩, val := .agg #[.int .i64 0, .bool false, .func (.func 66) #[] #[]], born := 0 }, { key := .string ⟨#[107, 101, 112, 116]⟩, val := .agg #[.int .i64 0, .bool false, .func (.func 67) #[] #[]], born := 1 }, { key := .string ⟨#[108, 111, 116, 115]⟩, val := .agg #[.int .i64 0, .bool false, .func (.func 68) #[] #[]], born := 2 }, { key := .string ⟨#[114, 111, 108, 108, 115]⟩, val := .agg #[.int .i64 0, .bool false, .func (.func 69) #[] #[]], born := 3 }, { key := .string ⟨#[115, 116, 111, 99, 107]⟩, val := .agg #[.int .i64 0, .bool false, .func (.func 70) #[] #[]], born := 4 }] 5) := hm5
  have hL := look_in (W := W5) ⟨#[114, 111, 108, 108, 115]⟩ hm5' (i := 3) (v := .agg #[.int .i64 0, .bool false, .func (.func 69) #[] #[]]) (by kernel_rfl)
  have HS5 := Lib.hid (show W5.heap.size = w.heap.size + 2 by omega)
  have hlt5 : w.heap.size < W5.heap.size := by omega
  have q0 : W5.cell? ⟨w.heap.size, 0, none⟩ = some (.int .i64 0) := by simp [World.cell?, hc5]
  have q1 : W5.cell? ⟨w.heap.size, 1, none⟩ = some (.bool false) := by simp [World.cell?, hc5]
  have q2 : W5.cell? ⟨w.heap.size, 2, none⟩ = some .nilFunc := by simp [World.cell?, hc5]
  have z0 : ∀ i : Nat, W5.frozen? ⟨w.heap.size, i, none⟩ = false := fun i => by simp [World.frozen?, hc5]
  rw [hb] at hu1 hu2 hu3 hu4 hu5 hL
  rw [hW0] at hu1
  have hst : ∀ (W : World) (p : Addr), W.cell? p = some .nilFunc → W.frozen? p = false → (store p (.func (.func 69) #[] #[])).run Tryz.prog W = .ok () (W.setCell p (.func (.func 69) #[] #[])) := by
    intro W p h1 h2; rw [run_store Tryz.prog _ _ _ _ (by rfl)]; simp [h1, h2]
  have HB5 := Lib.hid hB5
  clear hm0 hm1 hm2 hm3 hm4 hm5 hm5' hk1 hk2 hk3 hk4 hk5 hl1 hl2 hl3 hl4 hl5 hc0 hc5 hB0 hB5 hs0 hs1 hs2 hs3 hs4 hs5 hW0 hb
  go_enter Tryz.func48, Tryz.ntmps48
  go_wp2
  refine bodyPost_ret (v := .tuple #[.agg #[.int .i64 1, .bool true, .func (.func 69) #[] #[]], .bool true]) ?_ rfl ?_
  · simp only [results, Tryz.results48, go_sem]; simp [q0, q1, q2, go_sem, World.cell?_alloc_lt, hlt5]
  · refine ⟨rfl, ?_⟩
    repeat' first | exact HB5.out | refine Below.setCell ?_ (by first | exact Nat.le_refl _ | exact Nat.le_of_lt hlt5) _ | refine Below.alloc ?_ (by simp; omega) _
set_option maxRecDepth 100000 in
set_option maxHeartbeats 8000000 in
theorem commandOf_stock (w : World) : Calls Tryz.prog 48 #[.string ⟨#[115, 116, 111, 99, 107]⟩] w fun e w' => e = .returned (.tuple #[.agg #[.int .i64 2, .bool true, .func (.func 70) #[] #[]], .bool true]) ∧ Below w.heap.size w w' := by
  have hM : ∀ W : World, (Instr.makeMap 104 none).run Tryz.prog W = .ok (.map (some W.heap.size)) (W.alloc (.map #[] 0)) := fun W => rfl
  obtain ⟨b, hb⟩ : ∃ b : Nat, b = w.heap.size + 1 := ⟨_, rfl⟩
  obtain ⟨W0, hW0⟩ : ∃ W0 : World, W0 = (w.alloc (.cells #[.int .i64 0, .bool false, .nilFunc] 73)).alloc (.map #[] 0) := ⟨_, rfl⟩
  have hs0 : W0.heap.size = w.heap.size + 2 := by rw [hW0]; simp
  have hm0 : W0.heap[b]? = some (.map #[] 0) := by rw [hW0, hb]; exact World.alloc_new' _ _ (by simp)
  have hc0 : W0.heap[w.heap.size]? = some (.cells #[.int .i64 0, .bool false, .nilFunc] 73) := by rw [hW0, Below.heap_alloc _ _ _ (by simp)]; exact World.alloc_new' _ _ rfl
  have hB0 : Below w.heap.size w W0 := by rw [hW0]; exact ((Below.refl _ w).alloc (Nat.le_refl _) _).alloc (by simp) _
  obtain ⟨W1, hu1, hm1, hk1, hs1, hl1⟩ := put_new ⟨#[116, 119, 111]⟩ (.agg #[.int .i64 0, .bool false, .func (.func 66) #[] #[]]) hm0 (by kernel_rfl)
  obtain ⟨W2, hu2, hm2, hk2, hs2, hl2⟩ := put_new ⟨#[107, 101, 112, 116]⟩ (.agg #[.int .i64 0, .bool false, .func (.func 67) #[] #[]]) hm1 (by kernel_rfl)
  obtain ⟨W3, hu3, hm3, hk3, hs3, hl3⟩ := put_new ⟨#[108, 111, 116, 115]⟩ (.agg #[.int .i64 0, .bool false, .func (.func 68) #[] #[]]) hm2 (by kernel_rfl)
  obtain ⟨W4, hu4, hm4, hk4, hs4, hl4⟩ := put_new ⟨#[114, 111, 108, 108, 115]⟩ (.agg #[.int .i64 0, .bool false, .func (.func 69) #[] #[]]) hm3 (by kernel_rfl)
  obtain ⟨W5, hu5, hm5, hk5, hs5, hl5⟩ := put_new ⟨#[115, 116, 111, 99, 107]⟩ (.agg #[.int .i64 0, .bool false, .func (.func 70) #[] #[]]) hm4 (by kernel_rfl)
  have hB5 : Below w.heap.size w W5 := ((((hB0.trans (hl1 _ (by omega))).trans (hl2 _ (by omega))).trans (hl3 _ (by omega))).trans (hl4 _ (by omega))).trans (hl5 _ (by omega))
  have hc5 : W5.heap[w.heap.size]? = some (.cells #[.int .i64 0, .bool false, .nilFunc] 73) := by rw [hk5 _ (by omega), hk4 _ (by omega), hk3 _ (by omega), hk2 _ (by omega), hk1 _ (by omega)]; exact hc0
  have hm5' : W5.heap[b]? = some (.map #[{ key := .string ⟨#[116, 119, 111]⟩, val := .agg #[.int .i64 0, .bool false, .func (.func 66) #[] #[]], born := 0 }, { key := .string ⟨#[107, 101, 112, 116]⟩, val := .agg #[.int .i64 0, .bool false, .func (.func 67) #[] #[]], born := 1 }, { key := .string ⟨#[108, 111, 116, 115]⟩, val := .agg #[.int .i64 0, .bool false, .func (.func 68) #[] #[]], born := 2 }, { key := .string ⟨#[114, 111, 108, 108, 115]⟩, val := .agg #[.int .i64 0, .bool false, .func (.func 69) #[] #[]], born := 3 }, { key := .string ⟨#[115, 116, 111, 99, 107]⟩, val := .agg #[.int .i64 0, .bool false, .func (.func 70) #[] #[]], born := 4 }] 5) := hm5
  have hL := look_in (W := W5) ⟨#[115, 116, 111, 99, 107]⟩ hm5' (i := 4) (v := .agg #[.int .i64 0, .bool false, .func (.func 70) #[] #[]]) (by kernel_rfl)
  have HS5 := Lib.hid (show W5.heap.size = w.heap.size + 2 by omega)
  have hlt5 : w.heap.size < W5.heap.size := by omega
  have q0 : W5.cell? ⟨w.heap.size, 0, none⟩ = some (.int .i64 0) := by simp [World.cell?, hc5]
  have q1 : W5.cell? ⟨w.heap.size, 1, none⟩ = some (.bool false) := by simp [World.cell?, hc5]
  have q2 : W5.cell? ⟨w.heap.size, 2, none⟩ = some .nilFunc := by simp [World.cell?, hc5]
  have z0 : ∀ i : Nat, W5.frozen? ⟨w.heap.size, i, none⟩ = false := fun i => by simp [World.frozen?, hc5]
  rw [hb] at hu1 hu2 hu3 hu4 hu5 hL
  rw [hW0] at hu1
  have hst : ∀ (W : World) (p : Addr), W.cell? p = some .nilFunc → W.frozen? p = false → (store p (.func (.func 70) #[] #[])).run Tryz.prog W = .ok () (W.setCell p (.func (.func 70) #[] #[])) := by
    intro W p h1 h2; rw [run_store Tryz.prog _ _ _ _ (by rfl)]; simp [h1, h2]
  have HB5 := Lib.hid hB5
  clear hm0 hm1 hm2 hm3 hm4 hm5 hm5' hk1 hk2 hk3 hk4 hk5 hl1 hl2 hl3 hl4 hl5 hc0 hc5 hB0 hB5 hs0 hs1 hs2 hs3 hs4 hs5 hW0 hb
  go_enter Tryz.func48, Tryz.ntmps48
  go_wp2
  refine bodyPost_ret (v := .tuple #[.agg #[.int .i64 2, .bool true, .func (.func 70) #[] #[]], .bool true]) ?_ rfl ?_
  · simp only [results, Tryz.results48, go_sem]; simp [q0, q1, q2, go_sem, World.cell?_alloc_lt, hlt5]
  · refine ⟨rfl, ?_⟩
    repeat' first | exact HB5.out | refine Below.setCell ?_ (by first | exact Nat.le_refl _ | exact Nat.le_of_lt hlt5) _ | refine Below.alloc ?_ (by simp; omega) _
set_option maxRecDepth 100000 in
set_option maxHeartbeats 8000000 in
/-- no command has another word -/
theorem commandOf_none (x : ByteArray) (w : World) (k0 : x ≠ kTwo) (k1 : x ≠ kKept) (k2 : x ≠ kLots) (k3 : x ≠ kRolls) (k4 : x ≠ kStock) : Calls Tryz.prog 48 #[.string x] w fun e w' => e = .returned (.tuple #[.agg #[.int .i64 0, .bool false, .nilFunc], .bool false]) ∧ Below w.heap.size w w' := by
  have hM : ∀ W : World, (Instr.makeMap 104 none).run Tryz.prog W = .ok (.map (some W.heap.size)) (W.alloc (.map #[] 0)) := fun W => rfl
  obtain ⟨b, hb⟩ : ∃ b : Nat, b = w.heap.size + 1 := ⟨_, rfl⟩
  obtain ⟨W0, hW0⟩ : ∃ W0 : World, W0 = (w.alloc (.cells #[.int .i64 0, .bool false, .nilFunc] 73)).alloc (.map #[] 0) := ⟨_, rfl⟩
  have hs0 : W0.heap.size = w.heap.size + 2 := by rw [hW0]; simp
  have hm0 : W0.heap[b]? = some (.map #[] 0) := by rw [hW0, hb]; exact World.alloc_new' _ _ (by simp)
  have hc0 : W0.heap[w.heap.size]? = some (.cells #[.int .i64 0, .bool false, .nilFunc] 73) := by rw [hW0, Below.heap_alloc _ _ _ (by simp)]; exact World.alloc_new' _ _ rfl
  have hB0 : Below w.heap.size w W0 := by rw [hW0]; exact ((Below.refl _ w).alloc (Nat.le_refl _) _).alloc (by simp) _
  obtain ⟨W1, hu1, hm1, hk1, hs1, hl1⟩ := put_new ⟨#[116, 119, 111]⟩ (.agg #[.int .i64 0, .bool false, .func (.func 66) #[] #[]]) hm0 (by kernel_rfl)
  obtain ⟨W2, hu2, hm2, hk2, hs2, hl2⟩ := put_new ⟨#[107, 101, 112, 116]⟩ (.agg #[.int .i64 0, .bool false, .func (.func 67) #[] #[]]) hm1 (by kernel_rfl)
  obtain ⟨W3, hu3, hm3, hk3, hs3, hl3⟩ := put_new ⟨#[108, 111, 116, 115]⟩ (.agg #[.int .i64 0, .bool false, .func (.func 68) #[] #[]]) hm2 (by kernel_rfl)
  obtain ⟨W4, hu4, hm4, hk4, hs4, hl4⟩ := put_new ⟨#[114, 111, 108, 108, 115]⟩ (.agg #[.int .i64 0, .bool false, .func (.func 69) #[] #[]]) hm3 (by kernel_rfl)
  obtain ⟨W5, hu5, hm5, hk5, hs5, hl5⟩ := put_new ⟨#[115, 116, 111, 99, 107]⟩ (.agg #[.int .i64 0, .bool false, .func (.func 70) #[] #[]]) hm4 (by kernel_rfl)
  have hB5 : Below w.heap.size w W5 := ((((hB0.trans (hl1 _ (by omega))).trans (hl2 _ (by omega))).trans (hl3 _ (by omega))).trans (hl4 _ (by omega))).trans (hl5 _ (by omega))
  have hc5 : W5.heap[w.heap.size]? = some (.cells #[.int .i64 0, .bool false, .nilFunc] 73) := by rw [hk5 _ (by omega), hk4 _ (by omega), hk3 _ (by omega), hk2 _ (by omega), hk1 _ (by omega)]; exact hc0
  have hm5' : W5.heap[b]? = some (.map #[{ key := .string ⟨#[116, 119, 111]⟩, val := .agg #[.int .i64 0, .bool false, .func (.func 66) #[] #[]], born := 0 }, { key := .string ⟨#[107, 101, 112, 116]⟩, val := .agg #[.int .i64 0, .bool false, .func (.func 67) #[] #[]], born := 1 }, { key := .string ⟨#[108, 111, 116, 115]⟩, val := .agg #[.int .i64 0, .bool false, .func (.func 68) #[] #[]], born := 2 }, { key := .string ⟨#[114, 111, 108, 108, 115]⟩, val := .agg #[.int .i64 0, .bool false, .func (.func 69) #[] #[]], born := 3 }, { key := .string ⟨#[115, 116, 111, 99, 107]⟩, val := .agg #[.int .i64 0, .bool false, .func (.func 70) #[] #[]], born := 4 }] 5) := hm5
  have hL := look_out (W := W5) x hm5' (by
    simp only [Instr.findNow, Instr.sameNow, show (x == ⟨#[116, 119, 111]⟩) = false from ba_ne k0, show (x == ⟨#[107, 101, 112, 116]⟩) = false from ba_ne k1, show (x == ⟨#[108, 111, 116, 115]⟩) = false from ba_ne k2, show (x == ⟨#[114, 111, 108, 108, 115]⟩) = false from ba_ne k3, show (x == ⟨#[115, 116, 111, 99, 107]⟩) = false from ba_ne k4])
  have f0 : (x.toList == ByteArray.toList ⟨#[116, 119, 111]⟩) = false := toList_ne k0
  have g0 : (x.toList == [116, 119, 111]) = false := toList_lit k0
  have f1 : (x.toList == ByteArray.toList ⟨#[107, 101, 112, 116]⟩) = false := toList_ne k1
  have g1 : (x.toList == [107, 101, 112, 116]) = false := toList_lit k1
  have f2 : (x.toList == ByteArray.toList ⟨#[108, 111, 116, 115]⟩) = false := toList_ne k2
  have g2 : (x.toList == [108, 111, 116, 115]) = false := toList_lit k2
  have f3 : (x.toList == ByteArray.toList ⟨#[114, 111, 108, 108, 115]⟩) = false := toList_ne k3
  have g3 : (x.toList == [114, 111, 108, 108, 115]) = false := toList_lit k3
  have f4 : (x.toList == ByteArray.toList ⟨#[115, 116, 111, 99, 107]⟩) = false := toList_ne k4
  have g4 : (x.toList == [115, 116, 111, 99, 107]) = false := toList_lit k4
  have HS5 := Lib.hid (show W5.heap.size = w.heap.size + 2 by omega)
  have hlt5 : w.heap.size < W5.heap.size := by omega
  have q0 : W5.cell? ⟨w.heap.size, 0, none⟩ = some (.int .i64 0) := by simp [World.cell?, hc5]
  have q1 : W5.cell? ⟨w.heap.size, 1, none⟩ = some (.bool false) := by simp [World.cell?, hc5]
  have q2 : W5.cell? ⟨w.heap.size, 2, none⟩ = some .nilFunc := by simp [World.cell?, hc5]
  have z0 : ∀ i : Nat, W5.frozen? ⟨w.heap.size, i, none⟩ = false := fun i => by simp [World.frozen?, hc5]
  rw [hb] at hu1 hu2 hu3 hu4 hu5 hL
  rw [hW0] at hu1
  have hst : ∀ (W : World) (p : Addr), W.cell? p = some .nilFunc → W.frozen? p = false → (store p (.nilFunc)).run Tryz.prog W = .ok () (W.setCell p (.nilFunc)) := by
    intro W p h1 h2; rw [run_store Tryz.prog _ _ _ _ (by rfl)]; simp [h1, h2]
  have HB5 := Lib.hid hB5
  clear hm0 hm1 hm2 hm3 hm4 hm5 hm5' hk1 hk2 hk3 hk4 hk5 hl1 hl2 hl3 hl4 hl5 hc0 hc5 hB0 hB5 hs0 hs1 hs2 hs3 hs4 hs5 hW0 hb
  go_enter Tryz.func48, Tryz.ntmps48
  go_wp2
  refine bodyPost_ret (v := .tuple #[.agg #[.int .i64 0, .bool false, .nilFunc], .bool false]) ?_ rfl ?_
  · simp only [results, Tryz.results48, go_sem]; simp [q0, q1, q2, go_sem, World.cell?_alloc_lt, hlt5]
  · refine ⟨rfl, ?_⟩
    repeat' first | exact HB5.out | refine Below.setCell ?_ (by first | exact Nat.le_refl _ | exact Nat.le_of_lt hlt5) _ | refine Below.alloc ?_ (by simp; omega) _
end Go.Proofs.YtjcbpnffmebihaaGreatDoor
namespace Go.Proofs.YtjcbpnffmebihaaGreatDoor
open Go.RowKit Go.WideShapes

theorem iface_ne (t : TypeId) (p : Value) (W : World) : (binOp .neq 52 (.iface t p) .nilIface).run Tryz.prog W = .ok (.bool true) W := by kernel_rfl
theorem nil_ne (W : World) : (binOp .neq 52 .nilIface .nilIface).run Tryz.prog W = .ok (.bool false) W := by kernel_rfl
/-- the numbers of texts, or an error of the desk's own -/
def NumsPost (w : World) (len : Nat) (ts : List ByteArray) (e : Ending) (w' : World) : Prop :=
  (ts.all numOk = true ∧ e = .returned (.tuple #[.slice (some ⟨w.heap.size, 0, none⟩) len len, .nilIface]) ∧ w'.ownsRow w.heap.size 3 1 (.slice (some ⟨w.heap.size, 0, none⟩) len len) len ((ts.map numV).map (.int .i64)) ∧ Below w.heap.size w w') ∨
  (ts.all numOk = false ∧ (∃ m, e = .returned (.tuple #[.slice none 0 0, .iface 56 (.agg #[.string m])])) ∧ Below w.heap.size w w')
theorem all_step {ts : List ByteArray} {k : Nat} {x : ByteArray} (hx : ts[k]? = some x) (h : (ts.take k).all numOk = true) : (ts.take (k + 1)).all numOk = numOk x := by
  rw [take_get hx, List.all_append, h]; simp
theorem all_bad {ts : List ByteArray} {k : Nat} {x : ByteArray} (hx : ts[k]? = some x) (h : numOk x = false) : ts.all numOk = false :=
  List.all_eq_false.2 ⟨x, List.mem_of_getElem? hx, by rw [h]; simp⟩
theorem vals_tab (ts : List ByteArray) : tab (fun q => numV (ts.getD q ByteArray.empty)) ts.length = ts.map numV := by
  apply List.ext_getElem?
  intro i
  by_cases hi : i < ts.length
  · rw [tab_at _ hi, List.getElem?_map, List.getD_eq_getElem?_getD, List.getElem?_eq_getElem hi]; rfl
  · rw [List.getElem?_eq_none (by rw [tab_length]; omega), List.getElem?_eq_none (by rw [List.length_map]; omega)]
theorem getD_at {ts : List ByteArray} {k : Nat} {x : ByteArray} (h : ts[k]? = some x) : ts.getD k ByteArray.empty = x := by rw [List.getD_eq_getElem?_getD, h]; rfl
set_option maxRecDepth 100000 in
set_option maxHeartbeats 4000000 in
/-- the numbers that are written in texts -/
theorem readNumbers_any (a : Option Addr) (len cap : Nat) (ts : List ByteArray) (w : World) (hE : EnvD w) (h10 : 10 ≤ w.heap.size) (h : StrsAt w (· < w.heap.size) a len ts) (hz : ∀ t ∈ ts, t.size ≤ 1048576) (hl : len ≤ 1048576) :
    Calls Tryz.prog 71 #[.slice a len cap] w (NumsPost w len ts) := by
  have HL := Lib.hid h.lenEq
  have HX := Lib.hid hz
  have HE := Lib.hid hE
  have H10 := Lib.hid h10
  have hmk := fun w => run_make_row' (P := Tryz.prog) 35 3 (.int .i64 0) 8 Tryz.underlying35 Tryz.infoIntPt rfl .i64 .i64 len (by omega) (by omega) w
  have HO0 := Lib.hid ((OwnF.start w len hl).congr (g := fun q => if q < 0 then numV (ts.getD q ByteArray.empty) else 0) (fun q _ => by simp))
  have n1 := iface_ne
  have n2 := nil_ne
  clear hz hE h10
  go_enter Tryz.func71, Tryz.ntmps71
  go_wp2_with fail
  clear hmk
  go_loopw [14] (fun i wr => ∃ k : Nat, k ≤ len ∧ i = .int .i64 k ∧ (ts.take k).all numOk = true ∧ OwnF w wr len (fun q => if q < k then numV (ts.getD q ByteArray.empty) else 0)) (fun i _ => len - (intOf i).toNat)
  case atStart => exact ⟨0, Nat.zero_le _, rfl, rfl, HO0.out⟩
  case round =>
    obtain ⟨k, hk, rfl, hall, hO⟩ := hrel
    have HO := Lib.hid hO
    have HA := Lib.hid hall
    by_cases hlt : k < len
    · have hki : (k : Int) < (len : Int) := by omega
      obtain ⟨b, off, x, rfl, hxk, hc⟩ := (h.to (w' := wr) (S' := (· < w.heap.size)) fun b hb => ⟨hb, hO.below.block b hb⟩).get hlt
      have hxz := HX.out x (List.mem_of_getElem? hxk)
      have hEr := HE.out.below H10.out hO.below
      have HXK := Lib.hid hxk
      have HC := Lib.hid (atoiD x wr hEr (by omega))
      have HER := Lib.hid hEr
      have HBB := Lib.hid hO.below
      have HSZ := Lib.hid hO.below.size
      clear hO hxk hall hEr
      go_wp2_with fail
      refine HC.out.mono ?_
      rintro e w1 ⟨⟨v, err, rfl, hcase⟩, hb1⟩
      have HO1 := Lib.hid (HO.out.up hb1)
      have HB1 := Lib.hid (HBB.out.trans (hb1.mono HSZ.out))
      have HE1 := Lib.hid (HER.out.below (Nat.le_trans H10.out HSZ.out) hb1)
      clear hb1
      rcases hcase with ⟨rfl, hok⟩ | ⟨⟨t, p, rfl⟩, hno⟩
      · have HV := Lib.hid hok
        have hvb := atoi_bd hok
        clear hok
        by_cases he : numB v = x
        · have HY := Lib.hid (num_yes HV.out he)
          have hee : ((numB v).toList == x.toList) = true := by rw [he]; exact beq_self_eq_true _
          clear he
          go_wp2_with fail
          refine (itoaD v w1 HE1.out hvb.1 hvb.2).mono ?_
          rintro e w2 ⟨rfl, hb2⟩
          have hO2 := HO1.out.up hb2
          obtain ⟨q0, q1⟩ := hO2.cell hlt
          have HO2 := Lib.hid hO2
          rw [if_neg (by omega)] at q0
          clear hO2 hb2
          generalize numB v = X at *
          go_wp2_with fail
          go_roundw
          case rel =>
            refine ⟨k + 1, by omega, by go_num, (all_step HXK.out HA.out).trans HY.out.1, (HO2.out.put k v).congr fun q _ => ?_⟩
            try dsimp only
            by_cases e1 : q = k
            · subst e1; rw [if_pos rfl, if_pos (by omega), getD_at HXK.out, HY.out.2]
            · rw [if_neg e1]
              by_cases e2 : q < k
              · rw [if_pos e2, if_pos (by omega)]
              · rw [if_neg e2, if_neg (by omega)]
          case measure => simp [intOf] <;> omega
        · have HN := Lib.hid (num_no HV.out he)
          have hee : ((numB v).toList == x.toList) = false := toList_ne he
          clear he
          go_wp2_with fail
          refine (itoaD v w1 HE1.out hvb.1 hvb.2).mono ?_
          rintro e w2 ⟨rfl, hb2⟩
          have HB2 := Lib.hid (HB1.out.trans (hb2.mono HB1.out.size))
          clear hb2
          generalize numB v = X at *
          go_wp2_with fail
          go_ret2
          exact .inr ⟨all_bad HXK.out HN.out, ⟨_, rfl⟩, HB2.out⟩
      · have HN := Lib.hid (num_bad hno)
        clear hno
        go_wp2_with fail
        go_ret2
        exact .inr ⟨all_bad HXK.out HN.out, ⟨_, rfl⟩, HB1.out⟩
    · obtain rfl : k = len := by omega
      have HEV := Lib.hid (show tab (fun q => if q < k then numV (ts.getD q ByteArray.empty) else 0) k = ts.map numV by
        rw [← vals_tab, HL.out]; exact tab_congr fun q hq => if_pos hq)
      have HAL := Lib.hid (show ts.all numOk = true by have := HA.out; rwa [List.take_of_length_le (by rw [HL.out]; omega)] at this)
      clear hO hall
      go_wp2_with fail
      go_ret2
      exact .inl ⟨HAL.out, rfl, by rw [← HEV.out]; exact HO.out.own, HO.out.below⟩
end Go.Proofs.YtjcbpnffmebihaaGreatDoor
