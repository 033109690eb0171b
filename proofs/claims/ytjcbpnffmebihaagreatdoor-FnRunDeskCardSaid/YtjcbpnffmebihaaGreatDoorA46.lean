import Derived.Test.YtjcbpnffmebihaaGreatDoorA36
import Derived.Test.YtjcbpnffmebihaaGreatDoorA44
import Derived.Test.YtjcbpnffmebihaaGreatDoorA45
import Derived.Test.YtjcbpnffmebihaaGreatDoorRows
import Derived.WalkKit
import Derived.LoopTactic
import Derived.Outline
import Derived.WalkSpells
import Derived.WalkLawsBesides
import Derived.ProofKit
import Derived.Lib.Hide
import Derived.Deep.RegionHeld3
import Derived.BigQuiet
set_option linter.unusedVariables false
set_option linter.unusedSimpArgs false
namespace Go.Proofs.YtjcbpnffmebihaaGreatDoor
open Go.RowKit Go.WideShapes

set_option maxRecDepth 100000 in
set_option maxHeartbeats 8000000 in
/-- a line of a command -/
theorem answerTo_cmd (A : Nat) (isl : Bool) (F : Nat) (ok : List ByteArray → Bool) (out : List ByteArray → ByteArray) (line x0 : ByteArray) (ts : List ByteArray) (w : World) (hA : A ≤ 2) (hE : EnvD w) (h10 : 10 ≤ w.heap.size) (hs : line.size ≤ 1048575) (hsp : splitB line 32 = x0 :: ts)
    (hent : ∀ (args : Array Value) (w : World), (callFunc F args).run Tryz.prog w = .ok (.enter F args) w)
    (hcmd : ∀ W, Calls Tryz.prog 48 #[.string x0] W fun e W' => e = .returned (.tuple #[.agg #[.int .i64 A, .bool isl, .func (.func F) #[] #[]], .bool true]) ∧ Below W.heap.size W W')
    (hans : ∀ (a1 : Option Addr) (c1 : Nat) (a2 : Option Addr) (l2 c2 : Nat) (W : World), askOk A isl ts = true → EnvD W → 10 ≤ W.heap.size → A ≤ c1 → IntsAt W (· < W.heap.size) a1 A ((ts.take A).map numV) → RowsAt W (· < W.heap.size) a2 l2 (rowsV (ts.getD A ByteArray.empty)) → l2 ≤ c2 →
      Calls Tryz.prog F #[.agg #[.slice a1 A c1, .slice a2 l2 c2]] W (AnsPost W (ok ts) (out ts))) :
    Calls Tryz.prog 29 #[.string line] w (AnsPost w (askOk A isl ts && ok ts) (out ts)) := by
  have HE := Lib.hid hE
  have H10 := Lib.hid h10
  have HSP := Lib.hid hsp
  have HCMD := Lib.hid hcmd
  have HANS := Lib.hid hans
  have HSZ := Lib.hid (splitB_size line 32)
  have n1 := iface_ne
  have n2 := nil_ne
  have hst : ∀ (W : World) (p : Addr), W.cell? p = some .nilFunc → W.frozen? p = false → (store p (.func (.func F) #[] #[])).run Tryz.prog W = .ok () (W.setCell p (.func (.func F) #[] #[])) := by
    intro W p h1 h2; rw [run_store Tryz.prog _ _ _ _ (by rfl)]; simp [h1, h2]
  clear hE h10 hcmd hans
  go_enter Tryz.func29, Tryz.ntmps29
  go_wp2_with fail
  refine (strSplit line 32 w HE.out (by omega)).mono ?_
  rintro e w1 ⟨rfl, hst1, hb1, hz1⟩
  rw [hsp] at hst1
  rw [hsp, List.length_cons]
  rw [List.length_cons] at hst1
  have HST := Lib.hid hst1
  have HB1 := Lib.hid hb1
  have HZ1 := Lib.hid hz1
  have hc0 : w1.cell? ⟨w.heap.size, 0, none⟩ = some (.string x0) := by
    obtain ⟨b, o, x, e0, hx, hc⟩ := hst1.get (k := 0) (by omega)
    injection e0 with e0
    injection e0 with q1 q2
    subst q1 q2
    injection hx with hx
    subst hx
    exact hc
  have hn0 : (0 : Int) < ((ts.length + 1 : Nat) : Int) := by omega
  have hn1 : (1 : Int) ≤ ((ts.length + 1 : Nat) : Int) := by omega
  have hnn : 1 ≤ ts.length + 1 := by omega
  have HTL := Lib.hid (show ts.length ≤ 1048575 by have := splitB_pos line 32; rw [hsp, List.length_cons] at this; omega)
  clear hst1 hb1 hz1 hsp
  go_wp2_with fail
  refine (HCMD.out w1).mono ?_
  rintro e w2 ⟨rfl, hb2⟩
  have HB2 := Lib.hid hb2
  have HZ2 := Lib.hid hb2.size
  clear hb2 hc0
  go_wp2_with fail
  obtain ⟨w3, hw3⟩ : ∃ w3 : World, w3 = w2.alloc (.cells #[.int .i64 A, .bool isl, .func (.func F) #[] #[]] 73) := ⟨_, rfl⟩
  rw [← hw3]
  have hs3 : w3.heap.size = w2.heap.size + 1 := by rw [hw3]; simp
  have HB3 := Lib.hid (show Below w.heap.size w w3 by rw [hw3]; exact (HB1.out.trans (HB2.out.mono HB1.out.size)).alloc (by have := HZ1.out; have := HZ2.out; omega) _)
  have hk0 : w3.cell? ⟨w2.heap.size, 0, none⟩ = some (.int .i64 A) := by rw [hw3]; simp
  have hk1 : w3.cell? ⟨w2.heap.size, 1, none⟩ = some (.bool isl) := by rw [hw3]; simp
  have hk2 : w3.cell? ⟨w2.heap.size, 2, none⟩ = some (.func (.func F) #[] #[]) := by rw [hw3]; simp
  have HST3 := Lib.hid (show StrsAt w3 (· < w3.heap.size) (some ⟨w.heap.size, 1, none⟩) ts.length ts from ⟨rfl, by have := HTL.out; omega, fun h0 => by
    obtain ⟨b, o, e', hS, hc⟩ := (HST.out.to (w' := w3) (S' := fun b => b = w.heap.size) fun b hb => ⟨hb, by rw [hw3, Below.heap_alloc _ _ _ (by have := HZ1.out; have := HZ2.out; omega)]; exact HB2.out.block b (by have := HZ1.out; omega)⟩).cells (by omega)
    injection e' with e'
    injection e' with q1 q2
    subst q1 q2
    exact ⟨w.heap.size, 1, rfl, by have := HZ1.out; have := HZ2.out; omega, fun i x hx => by have := hc (i + 1) x (by rw [List.getElem?_cons_succ]; exact hx); rw [Nat.zero_add] at this; rw [Nat.add_comm 1]; exact this⟩⟩)
  have HE3 := Lib.hid (HE.out.below H10.out HB3.out)
  have H103 := Lib.hid (show 10 ≤ w3.heap.size by have := H10.out; have := HZ1.out; have := HZ2.out; omega)
  have HTZ := Lib.hid (show ∀ t ∈ ts, t.size ≤ 1048575 from fun t ht => Nat.le_trans (HSZ.out t (by rw [HSP.out]; exact List.mem_cons_of_mem _ ht)) hs)
  have HBL := Lib.hid (show w2.heap.size < w3.heap.size by omega)
  have HK0 := Lib.hid hk0
  have HK1 := Lib.hid hk1
  have HK2 := Lib.hid hk2
  have HBW := Lib.hid ((Below.refl w3.heap.size w3).drew)
  have hnn2 : ts.length + 1 - 1 = ts.length := by omega
  have HS3 := Lib.hid hs3
  have hne23 : w2.heap.size ≠ w3.heap.size := by omega
  have hne32 : w3.heap.size ≠ w2.heap.size := by omega
  clear hw3 hs3
  have hI1 : (1 : Int) ≤ (ts.length : Int) + 1 := by omega
  have HBA := Lib.hid (((Below.refl w3.heap.size w3).alloc (Nat.le_refl _) (.cells #[.slice none 0 0, .slice none 0 0] 77)).drew)
  have HZ0 := Lib.hid (show (w3.alloc (.cells #[.slice none 0 0, .slice none 0 0] 77)).drew.cell? ⟨w3.heap.size, 0, none⟩ = some (.slice none 0 0) by simp)
  have HZ1 := Lib.hid (show (w3.alloc (.cells #[.slice none 0 0, .slice none 0 0] 77)).drew.cell? ⟨w3.heap.size, 1, none⟩ = some (.slice none 0 0) by simp)
  have HZF := Lib.hid (show ∀ i : Nat, (w3.alloc (.cells #[.slice none 0 0, .slice none 0 0] 77)).drew.frozen? ⟨w3.heap.size, i, none⟩ = false by intro i; simp)
  have HZL := Lib.hid (show w3.heap.size < (w3.alloc (.cells #[.slice none 0 0, .slice none 0 0] 77)).drew.heap.size by simp)
  by_cases hts : ts.length = 0
  · have HK := Lib.hid (show askOk A isl ts = false by unfold askOk; rw [decide_eq_false (by omega)]; rfl)
    go_region_held3 (fun W => W.cell? ⟨w2.heap.size, 0, none⟩ = some (.int .i64 A) ∧ W.cell? ⟨w2.heap.size, 1, none⟩ = some (.bool isl) ∧ W.cell? ⟨w2.heap.size, 2, none⟩ = some (.func (.func F) #[] #[])) (first | go_keep | exact kS) (first
      | (go_at_call 49; refine (read_no HK.out hA (HE3.out.below H103.out HBW.out) (Nat.le_trans H103.out HBW.out.size) (show StrsAt _ _ _ _ ts from ⟨by first | exact hts | rfl, by omega, fun h0 => absurd h0 (by omega)⟩) HTZ.out (by have := HTL.out; omega) (Nat.le_refl _)).mono ?_; rintro e wp ⟨⟨m, rfl⟩, hb5⟩; have HBW := Lib.hid (HBW.out.trans (hb5.mono HBW.out.size)); have kS := And.intro (cell_up HK0.out HBL.out HBW.out) (And.intro (cell_up HK1.out HBL.out HBW.out) (cell_up HK2.out HBL.out HBW.out)); clear hb5)
      | (go_at_call 49; refine (read_no HK.out hA (HE3.out.below H103.out HBA.out) (Nat.le_trans H103.out HBA.out.size) (show StrsAt _ _ _ _ ts from ⟨by first | exact hts | rfl, by omega, fun h0 => absurd h0 (by omega)⟩) HTZ.out (by have := HTL.out; omega) (Nat.le_refl _)).mono ?_; rintro e wp ⟨⟨m, rfl⟩, hb5⟩; have kz0 := cell_up HZ0.out HZL.out hb5; have kz1 := cell_up HZ1.out HZL.out hb5; have kzf : ∀ i : Nat, wp.frozen? ⟨w3.heap.size, i, none⟩ = false := fun i => (hb5.frozen (p := ⟨w3.heap.size, i, none⟩) HZL.out).trans (HZF.out i); have HBW := Lib.hid (HBA.out.trans (hb5.mono HBA.out.size)); have kS := And.intro (cell_up HK0.out HBL.out HBW.out) (And.intro (cell_up HK1.out HBL.out HBW.out) (cell_up HK2.out HBL.out HBW.out)); clear hb5))
    all_goals
      have HBX := Lib.hid (HB3.out.trans (HBW.out.mono HB3.out.size))
      go_wp2_with fail
      go_ret2
      refine ⟨?_, .inr ⟨by rw [HK.out]; rfl, _, _, rfl⟩⟩
      repeat' first | exact Below.refl _ _ | exact HBX.out | refine Below.setCell ?_ (by first | exact Nat.le_refl _ | (show _ ≤ w3.heap.size; exact HB3.out.size)) _ | refine Below.alloc ?_ (by first | omega | exact HBX.out.size | (simp; done) | (simp; omega)) _
  cases hk : askOk A isl ts
  · have HK := Lib.hid hk
    go_region_held3 (fun W => W.cell? ⟨w2.heap.size, 0, none⟩ = some (.int .i64 A) ∧ W.cell? ⟨w2.heap.size, 1, none⟩ = some (.bool isl) ∧ W.cell? ⟨w2.heap.size, 2, none⟩ = some (.func (.func F) #[] #[])) (first | go_keep | exact kS) (first
      | (go_at_call 49; refine (read_no HK.out hA (HE3.out.below H103.out HBW.out) (Nat.le_trans H103.out HBW.out.size) (HST3.out.to fun b hb => ⟨Nat.lt_of_lt_of_le hb HBW.out.size, HBW.out.block b hb⟩) HTZ.out (by have := HTL.out; omega) (Nat.le_refl _)).mono ?_; rintro e wp ⟨⟨m, rfl⟩, hb5⟩; have HBW := Lib.hid (HBW.out.trans (hb5.mono HBW.out.size)); have kS := And.intro (cell_up HK0.out HBL.out HBW.out) (And.intro (cell_up HK1.out HBL.out HBW.out) (cell_up HK2.out HBL.out HBW.out)); clear hb5)
      | (go_at_call 49; refine (read_no HK.out hA (HE3.out.below H103.out HBA.out) (Nat.le_trans H103.out HBA.out.size) (HST3.out.to fun b hb => ⟨Nat.lt_of_lt_of_le hb HBA.out.size, HBA.out.block b hb⟩) HTZ.out (by have := HTL.out; omega) (Nat.le_refl _)).mono ?_; rintro e wp ⟨⟨m, rfl⟩, hb5⟩; have kz0 := cell_up HZ0.out HZL.out hb5; have kz1 := cell_up HZ1.out HZL.out hb5; have kzf : ∀ i : Nat, wp.frozen? ⟨w3.heap.size, i, none⟩ = false := fun i => (hb5.frozen (p := ⟨w3.heap.size, i, none⟩) HZL.out).trans (HZF.out i); have HBW := Lib.hid (HBA.out.trans (hb5.mono HBA.out.size)); have kS := And.intro (cell_up HK0.out HBL.out HBW.out) (And.intro (cell_up HK1.out HBL.out HBW.out) (cell_up HK2.out HBL.out HBW.out)); clear hb5))
    all_goals
      have HBX := Lib.hid (HB3.out.trans (HBW.out.mono HB3.out.size))
      go_wp2_with fail
      go_ret2
      refine ⟨?_, .inr ⟨by rw [HK.out]; rfl, _, _, rfl⟩⟩
      repeat' first | exact Below.refl _ _ | exact HBX.out | refine Below.setCell ?_ (by first | exact Nat.le_refl _ | (show _ ≤ w3.heap.size; exact HB3.out.size)) _ | refine Below.alloc ?_ (by first | omega | exact HBX.out.size | (simp; done) | (simp; omega)) _
  · have HK := Lib.hid hk
    go_region_held3 (fun W => W.cell? ⟨w2.heap.size, 0, none⟩ = some (.int .i64 A) ∧ W.cell? ⟨w2.heap.size, 1, none⟩ = some (.bool isl) ∧ W.cell? ⟨w2.heap.size, 2, none⟩ = some (.func (.func F) #[] #[])) (first | go_keep | exact kS) (first
      | (go_at_call 49; refine (read_yes HK.out hA (HE3.out.below H103.out HBW.out) (Nat.le_trans H103.out HBW.out.size) (HST3.out.to fun b hb => ⟨Nat.lt_of_lt_of_le hb HBW.out.size, HBW.out.block b hb⟩) HTZ.out (by have := HTL.out; omega) (Nat.le_refl _)).mono ?_; rintro e wp ⟨a1, c1, a2, l2, c2, rfl, hc1, hi1, hr2, hc2, hb5⟩; have HBW := Lib.hid (HBW.out.trans (hb5.mono HBW.out.size)); have kS := And.intro (cell_up HK0.out HBL.out HBW.out) (And.intro (cell_up HK1.out HBL.out HBW.out) (cell_up HK2.out HBL.out HBW.out)); have HI := Lib.hid hi1; have HR := Lib.hid hr2; have HC := Lib.hid (And.intro hc1 hc2); clear hb5)
      | (go_at_call 49; refine (read_yes HK.out hA (HE3.out.below H103.out HBA.out) (Nat.le_trans H103.out HBA.out.size) (HST3.out.to fun b hb => ⟨Nat.lt_of_lt_of_le hb HBA.out.size, HBA.out.block b hb⟩) HTZ.out (by have := HTL.out; omega) (Nat.le_refl _)).mono ?_; rintro e wp ⟨a1, c1, a2, l2, c2, rfl, hc1, hi1, hr2, hc2, hb5⟩; have kz0 := cell_up HZ0.out HZL.out hb5; have kz1 := cell_up HZ1.out HZL.out hb5; have kzf : ∀ i : Nat, wp.frozen? ⟨w3.heap.size, i, none⟩ = false := fun i => (hb5.frozen (p := ⟨w3.heap.size, i, none⟩) HZL.out).trans (HZF.out i); have HBW := Lib.hid (HBA.out.trans (hb5.mono HBA.out.size)); have kS := And.intro (cell_up HK0.out HBL.out HBW.out) (And.intro (cell_up HK1.out HBL.out HBW.out) (cell_up HK2.out HBL.out HBW.out)); have HI := Lib.hid hi1; have HR := Lib.hid hr2; have HC := Lib.hid (And.intro hc1 hc2); clear hb5))
    all_goals
      have HBX := Lib.hid (HB3.out.trans (HBW.out.mono HB3.out.size))
    · have HB6 := Lib.hid (show Below wp.heap.size wp (wp.alloc (.cells #[.slice a1 A c1, .slice a2 l2 c2] 77)) from (Below.refl _ _).alloc (Nat.le_refl _) _)
      have HW6 := Lib.hid (show Below w.heap.size w (wp.alloc (.cells #[.slice a1 A c1, .slice a2 l2 c2] 77)) from HBX.out.trans (HB6.out.mono HBX.out.size))
      have HI6 := Lib.hid (ints_up (HI.out.to (w' := wp) (S' := (· < wp.heap.size)) fun b hb => ⟨hb.2, rfl⟩) HB6.out)
      have HR6 := Lib.hid (rows_up (HR.out.to (w' := wp) (S' := (· < wp.heap.size)) fun b hb => ⟨hb.2, rfl⟩) HB6.out)
      have k2 := cell_up kS.2.2 (Nat.lt_of_lt_of_le HBL.out HBW.out.size) HB6.out
      have k3 : (wp.alloc (.cells #[.slice a1 A c1, .slice a2 l2 c2] 77)).cell? ⟨wp.heap.size, 0, none⟩ = some (.slice a1 A c1) := by simp
      have k4 : (wp.alloc (.cells #[.slice a1 A c1, .slice a2 l2 c2] 77)).cell? ⟨wp.heap.size, 1, none⟩ = some (.slice a2 l2 c2) := by simp
      generalize wp.alloc (.cells #[.slice a1 A c1, .slice a2 l2 c2] 77) = w6 at *
      have HE6 := Lib.hid (HE.out.below H10.out HW6.out)
      have H106 := Lib.hid (Nat.le_trans H10.out HW6.out.size)
      clear kS hk
      go_wp2_with fail
      refine (HANS.out a1 c1 a2 l2 c2 w6 HK.out HE6.out H106.out HC.out.1 HI6.out HR6.out HC.out.2).mono ?_
      rintro e w7 ⟨hb7, ⟨hok, rfl⟩ | ⟨hno, q, m, rfl⟩⟩
      · have HOK := Lib.hid hok
        have HB7 := Lib.hid (HW6.out.trans (hb7.mono HW6.out.size))
        clear hb7 hok
        go_wp2_with fail
        go_ret2
        exact ⟨HB7.out, .inl ⟨by rw [HK.out, HOK.out]; rfl, rfl⟩⟩
      · have HOK := Lib.hid hno
        have HB7 := Lib.hid (HW6.out.trans (hb7.mono HW6.out.size))
        clear hb7 hno
        go_wp2_with fail
        go_ret2
        exact ⟨HB7.out, .inr ⟨by rw [HK.out, HOK.out]; rfl, q, m, rfl⟩⟩
    · have HN6 := Lib.hid (show ∀ b, b ≠ w3.heap.size → ((wp.setCell ⟨w3.heap.size, 0, none⟩ (.slice a1 A c1)).setCell ⟨w3.heap.size, 1, none⟩ (.slice a2 l2 c2)).heap[b]? = wp.heap[b]? from fun b hb => (Below.heap_setCell _ _ _ _ (by show b ≠ w3.heap.size; exact hb)).trans (Below.heap_setCell _ _ _ _ (by show b ≠ w3.heap.size; exact hb)))
      have HZ6 := Lib.hid (show ((wp.setCell ⟨w3.heap.size, 0, none⟩ (.slice a1 A c1)).setCell ⟨w3.heap.size, 1, none⟩ (.slice a2 l2 c2)).heap.size = wp.heap.size by simp only [World.size_setCell])
      have HW6 := Lib.hid (show Below w.heap.size w ((wp.setCell ⟨w3.heap.size, 0, none⟩ (.slice a1 A c1)).setCell ⟨w3.heap.size, 1, none⟩ (.slice a2 l2 c2)) from (HBX.out.setCell (p := ⟨w3.heap.size, 0, none⟩) HB3.out.size _).setCell (p := ⟨w3.heap.size, 1, none⟩) HB3.out.size _)
      have HL6 := Lib.hid (show (w3.alloc (.cells #[.slice none 0 0, .slice none 0 0] 77)).drew.heap.size = w3.heap.size + 1 by simp)
      have HI6 := Lib.hid (HI.out.to (w' := (wp.setCell ⟨w3.heap.size, 0, none⟩ (.slice a1 A c1)).setCell ⟨w3.heap.size, 1, none⟩ (.slice a2 l2 c2)) (S' := (· < ((wp.setCell ⟨w3.heap.size, 0, none⟩ (.slice a1 A c1)).setCell ⟨w3.heap.size, 1, none⟩ (.slice a2 l2 c2)).heap.size)) fun b hb => ⟨by rw [HZ6.out]; exact hb.2, HN6.out b (by have := HL6.out; omega)⟩)
      have HR6 := Lib.hid (HR.out.to (w' := (wp.setCell ⟨w3.heap.size, 0, none⟩ (.slice a1 A c1)).setCell ⟨w3.heap.size, 1, none⟩ (.slice a2 l2 c2)) (S' := (· < ((wp.setCell ⟨w3.heap.size, 0, none⟩ (.slice a1 A c1)).setCell ⟨w3.heap.size, 1, none⟩ (.slice a2 l2 c2)).heap.size)) fun b hb => ⟨by rw [HZ6.out]; exact hb.2, HN6.out b (by have := HL6.out; omega)⟩)
      have k2 : ((wp.setCell ⟨w3.heap.size, 0, none⟩ (.slice a1 A c1)).setCell ⟨w3.heap.size, 1, none⟩ (.slice a2 l2 c2)).cell? ⟨w2.heap.size, 2, none⟩ = some (.func (.func F) #[] #[]) := by rw [World.cell?_of_block (w := wp) (HN6.out _ hne23)]; exact kS.2.2
      have k3 : ((wp.setCell ⟨w3.heap.size, 0, none⟩ (.slice a1 A c1)).setCell ⟨w3.heap.size, 1, none⟩ (.slice a2 l2 c2)).cell? ⟨w3.heap.size, 0, none⟩ = some (.slice a1 A c1) := by rw [World.cell?_setCell_other _ _ _ _ (by simp)]; exact World.cell?_setCell_same _ _ _ kz0
      have k4 : ((wp.setCell ⟨w3.heap.size, 0, none⟩ (.slice a1 A c1)).setCell ⟨w3.heap.size, 1, none⟩ (.slice a2 l2 c2)).cell? ⟨w3.heap.size, 1, none⟩ = some (.slice a2 l2 c2) := World.cell?_setCell_same _ _ _ (u := .slice none 0 0) (by rw [World.cell?_setCell_other _ _ _ _ (by simp)]; exact kz1)
      generalize (wp.setCell ⟨w3.heap.size, 0, none⟩ (.slice a1 A c1)).setCell ⟨w3.heap.size, 1, none⟩ (.slice a2 l2 c2) = w6 at *
      have HE6 := Lib.hid (HE.out.below H10.out HW6.out)
      have H106 := Lib.hid (Nat.le_trans H10.out HW6.out.size)
      clear kS hk
      go_wp2_with fail
      refine (HANS.out a1 c1 a2 l2 c2 w6 HK.out HE6.out H106.out HC.out.1 HI6.out HR6.out HC.out.2).mono ?_
      rintro e w7 ⟨hb7, ⟨hok, rfl⟩ | ⟨hno, q, m, rfl⟩⟩
      · have HOK := Lib.hid hok
        have HB7 := Lib.hid (HW6.out.trans (hb7.mono HW6.out.size))
        clear hb7 hok
        go_wp2_with fail
        go_ret2
        exact ⟨HB7.out, .inl ⟨by rw [HK.out, HOK.out]; rfl, rfl⟩⟩
      · have HOK := Lib.hid hno
        have HB7 := Lib.hid (HW6.out.trans (hb7.mono HW6.out.size))
        clear hb7 hno
        go_wp2_with fail
        go_ret2
        exact ⟨HB7.out, .inr ⟨by rw [HK.out, HOK.out]; rfl, q, m, rfl⟩⟩
end Go.Proofs.YtjcbpnffmebihaaGreatDoor
namespace Go.Proofs.YtjcbpnffmebihaaGreatDoor
open Go.RowKit Go.WideShapes

/-- an answer, or why there is none -/
def ToPost (w : World) (line : ByteArray) (e : Ending) (w' : World) : Prop :=
  Below w.heap.size w w' ∧ ((e = .returned (.tuple #[.string (ansB line), .nilIface])) ∨
    (ansB line = sWrong ∧ ∃ q m, e = .returned (.tuple #[.string q, .iface 56 (.agg #[.string m])])) ∨
    (ansB line = sWhat ∧ ∃ q v, e = .returned (.tuple #[.string q, .iface 238 v])))
theorem to_of {w : World} {line : ByteArray} {b : Bool} {s : ByteArray} {e : Ending} {w' : World} (h : AnsPost w b s e w') (ha : ansB line = if b = true then s else sWrong) : ToPost w line e w' := by
  obtain ⟨h1, ⟨rfl, h2⟩ | ⟨rfl, h2⟩⟩ := h
  · rw [if_pos rfl] at ha
    exact ⟨h1, .inl (by rw [ha]; exact h2)⟩
  · exact ⟨h1, .inr (.inl ⟨by rw [ha, if_neg (by simp)], h2⟩)⟩
theorem take_one {ts : List ByteArray} (h : ts.length = 1 + 1) : (ts.take 1).map numV = [numV (ts.getD 0 ByteArray.empty)] := by
  match ts, h with
  | [a, b], _ => rfl
theorem take_two {ts : List ByteArray} (h : ts.length = 2 + 1) : (ts.take 2).map numV = [numV (ts.getD 0 ByteArray.empty), numV (ts.getD 1 ByteArray.empty)] := by
  match ts, h with
  | [a, b, c], _ => rfl
theorem rows_pos {a : Option Addr} {l : Nat} {s : ByteArray} {W : World} {S : Nat → Prop} (h : RowsAt W S a l (rowsV s)) : 0 < l := by
  have := h.lenEq
  have := (rowsV_bd s).1
  omega
theorem answerTo_two (line : ByteArray) (ts : List ByteArray) (w : World) (hE : EnvD w) (h10 : 10 ≤ w.heap.size) (hs : line.size ≤ 1048575) (hsp : splitB line 32 = kTwo :: ts) :
    Calls Tryz.prog 29 #[.string line] w (ToPost w line) :=
  (answerTo_cmd 0 false 66 (fun ts => pairsM (rowsV (ts.getD 0 ByteArray.empty))) (fun ts => twoB (rowsV (ts.getD 0 ByteArray.empty))) line kTwo ts w (by omega) hE h10 hs hsp
    (enters_of Tryz.func66 (by kernel_rfl) rfl) (fun W => commandOf_two W)
    (fun a1 c1 a2 l2 c2 W hk hE hW hc1 hi hr hc2 => answerTwo_any a1 0 c1 a2 l2 c2 _ W hE hW hr hc2)).mono fun _ _ h => to_of h ((ans_line hsp).trans (two_line ts))
theorem answerTo_kept (line : ByteArray) (ts : List ByteArray) (w : World) (hE : EnvD w) (h10 : 10 ≤ w.heap.size) (hs : line.size ≤ 1048575) (hsp : splitB line 32 = kKept :: ts) :
    Calls Tryz.prog 29 #[.string line] w (ToPost w line) :=
  (answerTo_cmd 0 false 67 (fun ts => jobsM (rowsV (ts.getD 0 ByteArray.empty))) (fun ts => keptB (rowsV (ts.getD 0 ByteArray.empty))) line kKept ts w (by omega) hE h10 hs hsp
    (enters_of Tryz.func67 (by kernel_rfl) rfl) (fun W => commandOf_kept W)
    (fun a1 c1 a2 l2 c2 W hk hE hW hc1 hi hr hc2 => answerKept_any a1 0 c1 a2 l2 c2 _ W hE hW hr hc2)).mono fun _ _ h => to_of h ((ans_line hsp).trans (kept_line ts))
theorem answerTo_lots (line : ByteArray) (ts : List ByteArray) (w : World) (hE : EnvD w) (h10 : 10 ≤ w.heap.size) (hs : line.size ≤ 1048575) (hsp : splitB line 32 = kLots :: ts) :
    Calls Tryz.prog 29 #[.string line] w (ToPost w line) :=
  (answerTo_cmd 2 true 68 (fun ts => validLotsM ((rowsV (ts.getD 2 ByteArray.empty)).getD 0 []) (numV (ts.getD 0 ByteArray.empty)) (numV (ts.getD 1 ByteArray.empty))) (fun ts => lotsB ((rowsV (ts.getD 2 ByteArray.empty)).getD 0 []) (numV (ts.getD 0 ByteArray.empty)) (numV (ts.getD 1 ByteArray.empty))) line kLots ts w (by omega) hE h10 hs hsp
    (enters_of Tryz.func68 (by kernel_rfl) rfl) (fun W => commandOf_lots W)
    (fun a1 c1 a2 l2 c2 W hk hE hW hc1 hi hr hc2 => answerLots_any a1 c1 a2 l2 c2 _ _ _ W hE hW (take_two (ask_get hk).1 ▸ hi) hr (rows_pos hr))).mono fun _ _ h => to_of h ((ans_line hsp).trans (lots_line ts))
theorem answerTo_rolls (line : ByteArray) (ts : List ByteArray) (w : World) (hE : EnvD w) (h10 : 10 ≤ w.heap.size) (hs : line.size ≤ 1048575) (hsp : splitB line 32 = kRolls :: ts) :
    Calls Tryz.prog 29 #[.string line] w (ToPost w line) :=
  (answerTo_cmd 1 true 69 (fun ts => cutsM ((rowsV (ts.getD 1 ByteArray.empty)).getD 0 []) (numV (ts.getD 0 ByteArray.empty))) (fun ts => rollsB ((rowsV (ts.getD 1 ByteArray.empty)).getD 0 []) (numV (ts.getD 0 ByteArray.empty))) line kRolls ts w (by omega) hE h10 hs hsp
    (enters_of Tryz.func69 (by kernel_rfl) rfl) (fun W => commandOf_rolls W)
    (fun a1 c1 a2 l2 c2 W hk hE hW hc1 hi hr hc2 => answerRolls_any a1 c1 a2 l2 c2 _ _ W hE hW (take_one (ask_get hk).1 ▸ hi) hr (rows_pos hr))).mono fun _ _ h => to_of h ((ans_line hsp).trans (rolls_line ts))
theorem answerTo_stock (line : ByteArray) (ts : List ByteArray) (w : World) (hE : EnvD w) (h10 : 10 ≤ w.heap.size) (hs : line.size ≤ 1048575) (hsp : splitB line 32 = kStock :: ts) :
    Calls Tryz.prog 29 #[.string line] w (ToPost w line) :=
  (answerTo_cmd 2 true 70 (fun ts => okO ((rowsV (ts.getD 2 ByteArray.empty)).getD 0 []) (numV (ts.getD 0 ByteArray.empty)) (numV (ts.getD 1 ByteArray.empty))) (fun ts => stockB ((rowsV (ts.getD 2 ByteArray.empty)).getD 0 []) (numV (ts.getD 0 ByteArray.empty)) (numV (ts.getD 1 ByteArray.empty))) line kStock ts w (by omega) hE h10 hs hsp
    (enters_of Tryz.func70 (by kernel_rfl) rfl) (fun W => commandOf_stock W)
    (fun a1 c1 a2 l2 c2 W hk hE hW hc1 hi hr hc2 => answerStock_any a1 c1 a2 l2 c2 _ _ _ W hE hW (take_two (ask_get hk).1 ▸ hi) hr (rows_pos hr))).mono fun _ _ h => to_of h ((ans_line hsp).trans (stock_line ts))
set_option maxRecDepth 100000 in
set_option maxHeartbeats 8000000 in
/-- a line of no command -/
theorem answerTo_none (line x0 : ByteArray) (ts : List ByteArray) (w : World) (hE : EnvD w) (h10 : 10 ≤ w.heap.size) (hs : line.size ≤ 1048575) (hsp : splitB line 32 = x0 :: ts) (k1 : x0 ≠ kTwo) (k2 : x0 ≠ kKept) (k3 : x0 ≠ kLots) (k4 : x0 ≠ kRolls) (k5 : x0 ≠ kStock) :
    Calls Tryz.prog 29 #[.string line] w (ToPost w line) := by
  have HE := Lib.hid hE
  have H10 := Lib.hid h10
  have HW := Lib.hid ((ans_line hsp).trans (what_line x0 ts k1 k2 k3 k4 k5))
  have HCMD := Lib.hid (fun W => commandOf_none x0 W k1 k2 k3 k4 k5)
  have hst : ∀ (W : World) (p : Addr), W.cell? p = some .nilFunc → W.frozen? p = false → (store p .nilFunc).run Tryz.prog W = .ok () (W.setCell p .nilFunc) := by
    intro W p h1 h2; rw [run_store Tryz.prog _ _ _ _ (by rfl)]; simp [h1, h2]
  clear hE h10 k1 k2 k3 k4 k5
  go_enter Tryz.func29, Tryz.ntmps29
  go_wp2_with fail
  refine (strSplit line 32 w HE.out (by omega)).mono ?_
  rintro e w1 ⟨rfl, hst1, hb1, hz1⟩
  rw [hsp] at hst1
  rw [hsp, List.length_cons]
  rw [List.length_cons] at hst1
  have HB1 := Lib.hid hb1
  have HZ1 := Lib.hid hz1
  have hc0 : w1.cell? ⟨w.heap.size, 0, none⟩ = some (.string x0) := by
    obtain ⟨b, o, x, e0, hx, hc⟩ := hst1.get (k := 0) (by omega)
    injection e0 with e0
    injection e0 with q1 q2
    subst q1 q2
    injection hx with hx
    subst hx
    exact hc
  have hn0 : (0 : Int) < ((ts.length + 1 : Nat) : Int) := by omega
  clear hst1 hb1 hz1 hsp
  go_wp2_with fail
  refine (HCMD.out w1).mono ?_
  rintro e w2 ⟨rfl, hb2⟩
  have HB2 := Lib.hid (HB1.out.trans (hb2.mono HB1.out.size))
  have HZ2 := Lib.hid hb2.size
  obtain ⟨v, hv⟩ := (HE.out.below H10.out HB2.out).no
  have HV := Lib.hid hv
  have H102 := Lib.hid (Nat.le_trans H10.out HB2.out.size)
  clear hb2 hc0 hv
  go_wp2_with fail
  have hv3 : (w2.alloc (.cells #[.int .i64 0, .bool false, .nilFunc] 73)).cell? ⟨0, 0, none⟩ = some (.iface 238 v) := by rw [World.cell?_alloc_lt _ _ ⟨0, 0, none⟩ (by have := H102.out; show 0 < _; omega)]; exact HV.out
  go_quiet (fail)
  go_wp2_with fail
  go_ret2
  refine ⟨?_, .inr (.inr ⟨HW.out, _, v, rfl⟩)⟩
  exact below_dn (HB2.out.alloc HB2.out.size _) _
/-- a line's answer, or why there is none -/
theorem answerTo_any (line : ByteArray) (w : World) (hE : EnvD w) (h10 : 10 ≤ w.heap.size) (hs : line.size ≤ 1048575) :
    Calls Tryz.prog 29 #[.string line] w (ToPost w line) := by
  cases hsp : splitB line 32 with
  | nil => have := (splitB_pos line 32).1; rw [hsp] at this; exact absurd this (by decide)
  | cons x0 ts =>
    by_cases k1 : x0 = kTwo
    · subst k1; exact answerTo_two line ts w hE h10 hs hsp
    by_cases k2 : x0 = kKept
    · subst k2; exact answerTo_kept line ts w hE h10 hs hsp
    by_cases k3 : x0 = kLots
    · subst k3; exact answerTo_lots line ts w hE h10 hs hsp
    by_cases k4 : x0 = kRolls
    · subst k4; exact answerTo_rolls line ts w hE h10 hs hsp
    by_cases k5 : x0 = kStock
    · subst k5; exact answerTo_stock line ts w hE h10 hs hsp
    exact answerTo_none line x0 ts w hE h10 hs hsp k1 k2 k3 k4 k5
set_option maxRecDepth 100000 in
set_option maxHeartbeats 8000000 in
/-- the reply to a line -/
theorem replyTo_any (line : ByteArray) (w : World) (hE : EnvD w) (h10 : 10 ≤ w.heap.size) (hs : line.size ≤ 1048575) :
    Calls Tryz.prog 25 #[.string line] w fun e w' => e = .returned (.string (ansB line)) ∧ Below w.heap.size w w' := by
  have HE := Lib.hid hE
  have H10 := Lib.hid h10
  have HC := Lib.hid (answerTo_any line w hE h10 hs)
  have n1 := iface_ne
  have n2 := nil_ne
  clear hE h10
  go_enter Tryz.func25, Tryz.ntmps25
  go_wp2_with fail
  refine HC.out.mono ?_
  rintro e w1 ⟨hb1, rfl | ⟨ha, q, m, rfl⟩ | ⟨ha, q, v, rfl⟩⟩
  · have HB1 := Lib.hid hb1
    obtain ⟨X, hX⟩ : ∃ X, X = ansB line := ⟨_, rfl⟩
    have HX := Lib.hid hX
    rw [← hX]
    clear hb1 hX
    go_wp2_with (go_at_call 30; refine (as_nil _ _).mono ?_; rintro e w' ⟨rfl, hw⟩; subst hw)
    go_ret
    exact ⟨ret_str HX.out, HB1.out.alloc HB1.out.size _⟩
  · have HA := Lib.hid ha
    have HB1 := Lib.hid hb1
    have hty : (w1.alloc (.cells #[.string ByteArray.empty] 56)).cell? ⟨1, 0, none⟩ = some (.iface 110 (.agg #[hdl 52])) := by
      rw [World.cell?_alloc_lt _ _ ⟨1, 0, none⟩ (by have := H10.out; have := HB1.out.size; show 1 < _; omega)]; exact (HE.out.below H10.out hb1).ty
    have HTY := Lib.hid hty
    clear hb1 ha hty
    go_wp2_with fail
    refine (as_hit m ⟨w1.heap.size, 0, none⟩ (.string ByteArray.empty) _ HTY.out (by simp) (by simp)).mono ?_
    rintro e w2 ⟨rfl, hb2⟩
    have HB2 := Lib.hid ((HB1.out.alloc HB1.out.size _).trans (hb2 w.heap.size HB1.out.size))
    clear hb2
    go_wp2_with fail
    go_ret
    exact ⟨by rw [HA.out]; rfl, HB2.out⟩
  · have HA := Lib.hid ha
    have HB1 := Lib.hid hb1
    have hty : (w1.alloc (.cells #[.string ByteArray.empty] 56)).cell? ⟨1, 0, none⟩ = some (.iface 110 (.agg #[hdl 52])) := by
      rw [World.cell?_alloc_lt _ _ ⟨1, 0, none⟩ (by have := H10.out; have := HB1.out.size; show 1 < _; omega)]; exact (HE.out.below H10.out hb1).ty
    have HTY := Lib.hid hty
    clear hb1 ha hty
    go_wp2_with fail
    refine (as_miss v ⟨w1.heap.size, 0, none⟩ _ HTY.out).mono ?_
    rintro e w2 ⟨rfl, hb2⟩
    have HB2 := Lib.hid ((HB1.out.alloc HB1.out.size _).trans (hb2.mono (by have := HB1.out.size; simp; omega)))
    clear hb2
    go_wp2_with fail
    go_ret
    exact ⟨by rw [HA.out]; rfl, HB2.out⟩
set_option maxRecDepth 100000 in
set_option maxHeartbeats 4000000 in
/-- the desk -/
theorem runDesk_impl (S : Nat → Prop) (a : Option Addr) (len cap : Nat) (ls : List ByteArray) (w : World) (hE : EnvD w) (h10 : 10 ≤ w.heap.size) (hS : ∀ b, S b → b < w.heap.size) (h : StrsAt w S a len ls) (hl : ∀ l ∈ ls, l.size ≤ 1048575) :
    Calls Tryz.prog 6 #[.slice a len cap] w (fun e w' => e = .returned (.string (deskRes ls)) ∧ Below w.heap.size w w') := by
  have HL := Lib.hid h.lenEq
  by_cases h20 : 20 < len
  · have HE := Lib.hid (show deskRes ls = ByteArray.empty from if_neg (by rw [HL.out]; omega))
    have h20i : (20 : Int) < (len : Int) := by omega
    clear h20
    go_enter Tryz.func6, Tryz.ntmps6
    go_wp2
    go_ret
    exact ⟨ret_str HE.out.symm, Below.refl _ _⟩
  · have HR := Lib.hid (show deskRes ls = deskB ls from if_pos (by rw [HL.out]; omega))
    have h20i : ¬ (20 : Int) < (len : Int) := by omega
    have HE := Lib.hid hE
    have H10 := Lib.hid h10
    have HZ := Lib.hid (deskB_size ans_size)
    have HS := Lib.hid hS
    have HLL := Lib.hid hl
    clear hE h10 hS hl
    go_enter Tryz.func6, Tryz.ntmps6
    go_wp2
    go_loopw [3, 11] (fun o i wr => ∃ k : Nat, k ≤ len ∧ i = .int .i64 k ∧ o = .string (deskB (ls.take k)) ∧ Below w.heap.size w wr) (fun _ i _ => len - (intOf i).toNat)
    case atStart => exact ⟨0, Nat.zero_le _, rfl, rfl, Below.refl _ _⟩
    case round =>
      obtain ⟨k, hk, rfl, rfl, hB⟩ := hrel
      have HB := Lib.hid hB
      by_cases hlt : k < len
      · have hki : (k : Int) < (len : Int) := by omega
        obtain ⟨b, off, l, rfl, hlk, hc⟩ := (h.to (w' := wr) (S' := S) fun b hb => ⟨hb, hB.block b (HS.out b hb)⟩).get hlt
        have hll := HLL.out l (List.mem_of_getElem? hlk)
        have HK := Lib.hid (show deskB (ls.take (k + 1)) = deskB (ls.take k) ++ (ansB l ++ sgnB 10) by rw [take_get hlk, deskB_snoc, ByteArray.append_assoc])
        have s1 := HZ.out (ls.take k)
        have s2 := ans_size l
        have s3 : (ls.take k).length ≤ 20 := by rw [List.length_take]; omega
        have s4 : (ls.take k).length * (400 + 1) ≤ 20 * (400 + 1) := Nat.mul_le_mul_right _ s3
        generalize deskB (ls.take k) = L at *
        have HAN := Lib.hid (replyTo_any l wr (HE.out.below H10.out hB) (Nat.le_trans H10.out hB.size) hll)
        clear hlk hB
        generalize ansB l = X at *
        have t1 : ¬ 9223372036854775807 < X.size + (⟨#[10]⟩ : ByteArray).size := by show ¬ _ < _ + 1; omega
        have t2 : ¬ 9223372036854775807 < L.size + (X ++ (⟨#[10]⟩ : ByteArray)).size := by rw [ByteArray.size_append]; show ¬ _ < _ + (_ + 1); omega
        clear s1 s2 s3 s4
        go_wp2_with fail
        refine HAN.out.mono ?_
        rintro e w2 ⟨rfl, hb2⟩
        have HB2 := Lib.hid (HB.out.trans (hb2.mono HB.out.size))
        clear hb2
        go_wp2_with fail
        go_roundw
        case rel => exact ⟨k + 1, by omega, by go_num, by rw [HK.out]; rfl, HB2.out⟩
        case measure => simp [intOf] <;> omega
      · obtain rfl : k = len := by omega
        have HT := Lib.hid (show deskRes ls = deskB (ls.take k) by rw [HR.out, List.take_of_length_le (by rw [HL.out]; omega)])
        clear hB
        go_wp2_with fail
        go_ret
        exact ⟨ret_str HT.out.symm, HB.out⟩
end Go.Proofs.YtjcbpnffmebihaaGreatDoor
