import Derived.Test.YtjcbpnffmebihaaGreatDoorA0
import Derived.Test.YtjcbpnffmebihaaGreatDoorA1
import Derived.Test.YtjcbpnffmebihaaGreatDoorA10
import Derived.Test.YtjcbpnffmebihaaGreatDoorA5
import Derived.Test.YtjcbpnffmebihaaGreatDoorA7
import Derived.Test.YtjcbpnffmebihaaGreatDoorA8
import Derived.Test.YtjcbpnffmebihaaGreatDoorA9
import Derived.Below
import Derived.Deep.Draws
import Derived.Laws.Bits64
import Derived.Laws.AppendOwn
import Derived.WideShapes
import Derived.ProofKit
import Derived.Test.YtjcbpnffmebihaaGreatDoorRows
import Derived.WalkKit
import Derived.LoopTactic
import Derived.Outline
import Derived.WalkSpells
import Derived.WalkLawsBesides
import Derived.Deep.QuietTactic
import Derived.BigQuiet
import Derived.IntWalk
import Derived.Lib.Hide
set_option linter.unusedVariables false
set_option linter.unusedSimpArgs false
namespace Go.Proofs.YtjcbpnffmebihaaGreatDoor
open Go.RowKit

theorem Rd.stored0 {w : World} {R p : Nat} (h : Rd w R p) :
    Rd (w.setCell ⟨R, 1, none⟩ (.int .i64 ((p : Int) + 1))) R (p + 1) ∧ w.grownBy (w.setCell ⟨R, 1, none⟩ (.int .i64 ((p : Int) + 1))) (some R) := h.stored 0
end Go.Proofs.YtjcbpnffmebihaaGreatDoor
namespace Go.Proofs.YtjcbpnffmebihaaGreatDoor

-- two machines: a, b the times of the jobs
instance (a b : Nat → Int) (i k : Nat) : Decidable (btr a b i k) := by unfold btr; infer_instance
end Go.Proofs.YtjcbpnffmebihaaGreatDoor
namespace Go.Proofs.YtjcbpnffmebihaaGreatDoor
open Go.RowKit Go.WideShapes

def capOf : Value → Nat | .slice _ l _ => l | _ => 0
theorem grown_trans {w w1 w2 : World} {R : Nat} {r : Option Nat} (h : w.grownBy w1 (some R)) (g : w1.grownBy w2 r) (hr : ∀ k, r = some k → k = R ∨ w.heap.size ≤ k) : w.grownBy w2 (some R) :=
  ⟨g.os.trans h.os, g.tape.trans h.tape, g.output.trans h.output, Nat.le_trans h.size g.size, fun k hk hne => by
    rw [g.block k (Nat.lt_of_lt_of_le hk h.size) (fun e => by rcases hr k e.symm with h' | h'; exact hne (by rw [h']); omega), h.block k hk hne]⟩
theorem grown_alloc {w w1 : World} {R : Nat} (h : w.grownBy w1 (some R)) (o : Obj) : w.grownBy (w1.alloc o) (some R) :=
  grown_trans h (World.grownBy_alloc w1 o none) (fun k e => by cases e)
theorem grown_below {w w1 w2 : World} {R : Nat} (h : w.grownBy w1 (some R)) (hb : Below R w2 w) (hR : R ≤ w.heap.size) : Below R w2 w1 :=
  hb.trans ⟨h.os, h.tape, h.output, h.size, fun k hk => h.block k (by omega) (by simp; omega)⟩

theorem own_one (w : World) {B : Nat} (hB : B ≤ w.heap.size) (x : Int) : (w.alloc (.cells #[.int .i64 x] 3)).ownsRow B 3 1 (.slice (some ⟨w.heap.size, 0, none⟩) 1 1) 1 ([x].map (.int .i64)) :=
  ⟨rfl, .inr ⟨w.heap.size, 1, _, rfl, hB, heap_alloc_new w _, Nat.le_refl _, by unfold maxLen; omega, rfl, rfl⟩⟩
theorem OwnRows.addr {w : World} {B M k cap : Nat} {a : Option Addr} (h : OwnRows w B M (.slice a k cap) k) (hk : 0 < k) : ∃ g, a = some ⟨g, 0, none⟩ ∧ B ≤ g := by
  obtain ⟨us, hv, _⟩ := h
  rcases hv.2 with ⟨h1, h2⟩ | ⟨g, c, cur, h1, h2, _⟩
  · omega
  · simp only [Value.slice.injEq] at h1
    exact ⟨g, h1.1, h2⟩
theorem one_cell_slice (a : Option Addr) (l c : Nat) : ∀ u ∈ [Value.slice a l c], u.oneCell' = true := by simp [Value.oneCell']
end Go.Proofs.YtjcbpnffmebihaaGreatDoor
namespace Go.Proofs.YtjcbpnffmebihaaGreatDoor
open Go.RowKit Go.ChangeShapes Go.WideShapes

theorem byte_wf {x : Int} (h : (Lit.int .u8 x).wf = true) : 0 ≤ x ∧ x < 256 := by
  have h1 : IntKind.u8.min = 0 := rfl
  have h2 : IntKind.u8.max = 255 := rfl
  simp only [Lit.wf, Bool.and_eq_true, decide_eq_true_eq] at h
  omega
theorem open_bytes_arg {H : Type} {enc : TypeId × Value → H} {P : Program} {W : World} {t e : TypeId} {a : Option Addr} {len cap : Nat} {d : DataW H} {p : List MemPlace} (ht : P.underlying t = some (.slice e)) (he : P.underlying e = some (.int .u8))
    (ce : P.cellsOf e = 1) (h : DataW.Trod enc P W 0 (fun _ => true) true t (.slice a len cap) d p) : BytesAt W W.heap.size a len ∧ len ≤ cap ∧ len ≤ 9223372036854775807 := by
  obtain ⟨fuel, hf⟩ := h
  rcases open_ints ht he ce hf with ⟨hcs, _⟩ | ⟨a, len', cap', zs, hcs, _, hl, hmx, hz, _, hcell, hwz⟩
  · simp [Value.cells] at hcs
    obtain ⟨rfl, rfl, rfl⟩ := hcs
    exact ⟨fun h => absurd h (by omega), Nat.le_refl _, Nat.zero_le _⟩
  · simp [Value.cells] at hcs
    obtain ⟨rfl, rfl, rfl⟩ := hcs
    simp only [if_true] at hz
    refine ⟨fun h0 => ?_, hl, by unfold maxLen at hmx; omega⟩
    obtain ⟨b, off, spot⟩ := a
    have hspot : spot = none := by simpa [Addr.add] using World.cell?_spot (hcell 0 (by omega))
    subst hspot
    have hb : ∀ i, i < len → W.cell? ⟨b, off + i, none⟩ = some (.int .u8 (zs.getD i 0)) := fun i hi => by rw [← add_plain]; exact hcell i (by omega)
    refine ⟨b, off, rfl, ?_, fun i hi => ?_⟩
    · rcases Nat.lt_or_ge b W.heap.size with h' | h'
      · exact h'
      · have := hb 0 h0
        simp [World.cell?, Array.getElem?_eq_none h'] at this
    · have hmem : zs.getD i 0 ∈ zs := by
        rw [List.getD_eq_getElem?_getD, List.getElem?_eq_getElem (by omega)]
        exact List.getElem_mem _
      have hx := byte_wf (hwz _ hmem)
      refine ⟨(zs.getD i 0).toNat, by omega, ?_⟩
      rw [hb i hi]
      congr 2
      omega
end Go.Proofs.YtjcbpnffmebihaaGreatDoor
namespace Go.Proofs.YtjcbpnffmebihaaGreatDoor
open Go.RowKit

set_option maxRecDepth 100000 in
set_option maxHeartbeats 1000000 in
theorem pick_any (R p : Nat) (n : Int) (w : World) (h : Rd w R p) (hp : p ≤ 1099511627776) :
    Calls Tryz.prog 16 #[.pointer (some ⟨R, 0, none⟩), .int .i64 n] w fun e w' => ∃ k : Nat, e = .returned (.int .i64 k) ∧ (k : Int) < max n 1 ∧ Rd w' R (p + 1) ∧ w.grownBy w' (some R) := by
  have HR := Lib.hid h
  obtain ⟨h1, hf, a, m, cap, h0, hm, hb⟩ := h
  by_cases hn : n < 1
  · go_enter Tryz.func16, Tryz.ntmps16
    go_wp2
    go_ret
    exact ⟨0, rfl, by omega, HR.out.stored0⟩
  · by_cases hm0 : m = 0
    · subst hm0
      go_enter Tryz.func16, Tryz.ntmps16
      go_wp2
      go_ret
      exact ⟨0, rfl, by omega, HR.out.stored0⟩
    · obtain ⟨b, off, rfl, hbR, hby⟩ := hb (by omega)
      by_cases hlt : p < m
      · obtain ⟨x, hx, hc⟩ := hby p hlt
        have hc' : (w.setCell ⟨R, 1, none⟩ (.int .i64 ((p : Int) + 1))).cell? ⟨b, off + p, none⟩ = some (.int .u8 x) := by
          rw [World.cell?_setCell_other _ _ _ _ (by intro e; injection e; omega)]; exact hc
        clear hby hb
        go_enter Tryz.func16, Tryz.ntmps16
        go_wp2
        go_ret
        have e1 : 0 ≤ (x : Int) % n := Int.emod_nonneg _ (by omega)
        have e2 : (x : Int) % n < n := Int.emod_lt_of_pos _ (by omega)
        exact ⟨((x : Int) % n).toNat, ret_int (by omega), by omega, HR.out.stored0⟩
      · have hm1 : 1 ≤ m := by omega
        obtain ⟨x1, hx1, hc1⟩ := hby (p % m) (Nat.mod_lt _ (by omega))
        obtain ⟨x2, hx2, hc2⟩ := hby ((p * 7 + 3) % m) (Nat.mod_lt _ (by omega))
        have hd1 : (w.setCell ⟨R, 1, none⟩ (.int .i64 ((p : Int) + 1))).cell? ⟨b, off + p % m, none⟩ = some (.int .u8 x1) := by
          rw [World.cell?_setCell_other _ _ _ _ (by intro e; injection e; omega)]; exact hc1
        have hd2 : (w.setCell ⟨R, 1, none⟩ (.int .i64 ((p : Int) + 1))).cell? ⟨b, off + (p * 7 + 3) % m, none⟩ = some (.int .u8 x2) := by
          rw [World.cell?_setCell_other _ _ _ _ (by intro e; injection e; omega)]; exact hc2
        clear hc1 hc2 hby hb
        have b1 : p % m < m := Nat.mod_lt _ (by omega)
        have b2 : (p * 7 + 3) % m < m := Nat.mod_lt _ (by omega)
        have g1 : 0 ≤ ((p : Int) * 7 + 3) % (m : Int) := Int.emod_nonneg _ (by omega)
        have g2 : ((p : Int) * 7 + 3) % (m : Int) < (m : Int) := Int.emod_lt_of_pos _ (by omega)
        have g3 : 0 ≤ (p : Int) / (m : Int) := Int.ediv_nonneg (by omega) (by omega)
        have g4 : (p : Int) / (m : Int) ≤ p := Int.ediv_le_self _ (by omega)
        go_enter Tryz.func16, Tryz.ntmps16
        go_wp2
        go_quiet (fail)
        go_wp2
        go_ret
        obtain ⟨k, hk, hk'⟩ := mixed ((x1 : Int) * 131 + x2 * 1117 + p * 29 + (p : Int) / (m : Int) * 53) n (by omega) (by omega) hn
        exact ⟨k, ret_int hk, by omega, HR.out.stored _⟩

theorem one_any (S : Nat → Prop) (R p : Nat) (a : Option Addr) (len cap : Nat) (xs : List Int) (w : World) (h : Rd w R p) (hx : IntsAt w S a len xs) (hne : ∀ b, S b → b ≠ R ∧ b < w.heap.size) (hl : 1 ≤ len) (hp : p ≤ 1099511627776) :
    Calls Tryz.prog 13 #[.pointer (some ⟨R, 0, none⟩), .slice a len cap] w fun e w' => ∃ x, x ∈ xs ∧ e = .returned (.int .i64 x) ∧ Rd w' R (p + 1) ∧ w.grownBy w' (some R) := by
  have hs := hx.small
  go_enter Tryz.func13, Tryz.ntmps13
  go_wp2_with fail
  refine (pick_any R p (len : Int) w h hp).mono ?_
  rintro e w' ⟨k, rfl, hk, hr, hg⟩
  obtain ⟨b, off, x, rfl, hx1, hx2⟩ := (hx.to (S' := S) (w' := w') fun b hb => ⟨hb, hg.block b (hne b hb).2 (by have := (hne b hb).1; simpa using this)⟩).get (k := k) (by omega)
  have HX := Lib.hid hx1
  clear hx1
  have hk' : k < len := by omega
  go_wp2
  go_ret
  exact ⟨x, List.mem_of_getElem? HX.out, rfl, hr, hg⟩
end Go.Proofs.YtjcbpnffmebihaaGreatDoor
namespace Go.Proofs.YtjcbpnffmebihaaGreatDoor
open Go.RowKit Go.WideShapes

/-- append of a list to a list of the call's own -/
theorem wpAppN {ops : Array Oper} {rest : List Oper} {o : Oper} {a : Act} {Q : Exit → Act → World → Prop} {wo : World} (hgd : o.guard = none) (s x : Operand)
    (ho : o.op = .call { callee := .builtin .append, args := #[s, x], argTypes := #[35, 35] })
    (base k cp : Nat) (ax : Option Addr) (xs : List Int) (S : Nat → Prop) (b off m c : Nat) (ys : List Int) (hs : a.eval s = .slice ax k cp)
    (hown : wo.ownsRow base 3 1 (.slice ax k cp) k (xs.map (.int .i64))) (hx : a.eval x = .slice (some ⟨b, off, none⟩) m c) (hy : IntsAt wo S (some ⟨b, off, none⟩) m ys)
    (hbase : base ≤ wo.heap.size) (hk : k + m ≤ 1048576)
    (h : ∀ (a6 : Option Addr) (c6 : Nat) (w' : World), w'.ownsRow base 3 1 (.slice a6 (k + m) c6) (k + m) (xs.map (.int .i64) ++ ys.map (.int .i64)) → k + m ≤ c6 → wo.grownBy w' (Value.slice ax k cp).ownBlock →
      wpList Tryz.prog ops Q rest (a.put o.dst (.slice a6 (k + m) c6)) w') :
    wpList Tryz.prog ops Q (o :: rest) a wo := by
  obtain ⟨i0, hi, hz0, hz1, hz2⟩ := info_parts Tryz.infoIntO
  refine wpList_append_own _ hgd s x 35 ho base 3 i0 (.int .i64 0) 1 8 Tryz.underlying35 hi hz0 hz1 hz2 rfl (by decide) _ k _ hs hown ⟨b, off, none⟩ m c (ys.map (.int .i64)) hx (by simp [hy.lenEq]) ?_ ?_ (by unfold maxLen; omega) (by omega) hbase ?_
  · intro j u hj
    rw [List.getElem?_map] at hj
    cases hq : ys[j]? with
    | none => rw [hq] at hj; cases hj
    | some z =>
      rw [hq] at hj
      simp only [Option.map_some, Option.some.injEq] at hj
      have hlt : j < ys.length := (List.getElem?_eq_some_iff.1 hq).1
      obtain ⟨b', off', e, _, hc⟩ := hy.cells (by have := hy.lenEq; omega)
      cases e
      rw [add_plain, hc _ _ hq, ← hj]
  · intro u hu
    obtain ⟨x, _, rfl⟩ := List.mem_map.1 hu
    rfl
  intro v' w6 hown6 hgrow _
  obtain ⟨a6, c6, rfl, hc⟩ := own_slice hown6
  exact h a6 c6 w6 hown6 hc hgrow
end Go.Proofs.YtjcbpnffmebihaaGreatDoor
namespace Go.Proofs.YtjcbpnffmebihaaGreatDoor
open Go.RowKit Go.WideShapes

theorem rd_new (w : World) (a : Option Addr) (n cap : Nat) (t : TypeId) (hn : n ≤ 2000) (hb : BytesAt w w.heap.size a n) : Rd (w.alloc (.cells #[.slice a n cap, .int .i64 0] t)) w.heap.size 0 := by
  refine ⟨by rw [World.cell?_alloc_new]; rfl, World.frozen?_alloc_new w _ _ _, a, n, cap, by rw [World.cell?_alloc_new]; rfl, hn, fun h0 => ?_⟩
  obtain ⟨b, off, ha, hb', hc⟩ := hb h0
  refine ⟨b, off, ha, hb', fun i hi => ?_⟩
  obtain ⟨x, hx, hx'⟩ := hc i hi
  exact ⟨x, hx, by rw [World.cell?_alloc_lt _ _ _ hb']; exact hx'⟩

def ReaderPost (w : World) (e : Ending) (w' : World) : Prop := e = .returned (.pointer (some ⟨w.heap.size, 0, none⟩)) ∧ Rd w' w.heap.size 0 ∧ Below w.heap.size w w'

theorem newReader_any (a : Option Addr) (len cap : Nat) (w : World) (hb : BytesAt w w.heap.size a len) (hl : len ≤ cap) (hs : len ≤ 9223372036854775807) :
    Calls Tryz.prog 12 #[.slice a len cap] w (ReaderPost w) := by
  by_cases h : len ≤ 2000
  · go_enter Tryz.func12, Tryz.ntmps12
    go_wp2
    go_ret
    exact ⟨rfl, rd_new w a len cap _ h hb, (Below.refl _ _).alloc (Nat.le_refl _) _⟩
  · obtain ⟨b, off, rfl, hb1, hc⟩ := hb (by omega)
    have h2 : BytesAt w w.heap.size (some ⟨b, off, none⟩) 2000 := fun _ => ⟨b, off, rfl, hb1, fun i hi => hc i (by omega)⟩
    clear hc
    go_enter Tryz.func12, Tryz.ntmps12
    go_wp2
    go_ret
    exact ⟨rfl, rd_new w _ 2000 cap _ (by omega) h2, (Below.refl _ _).alloc (Nat.le_refl _) _⟩
end Go.Proofs.YtjcbpnffmebihaaGreatDoor
namespace Go.Proofs.YtjcbpnffmebihaaGreatDoor
open Go.RowKit Go.WideShapes

theorem Tryz.infoIntD : (Tryz.prog.info? 3).map (fun i => (i.zero, i.size, i.bytes)) = some (some (.int .i64 0), 1, 8) := by kernel_rfl

theorem daysOk_of {xs : List Int} (hl : xs.length ≤ 9) (h : ∀ x ∈ xs, 0 ≤ x ∧ x ≤ 12) : DaysOk xs := by
  have key : ∀ k, 0 ≤ xs.getD k 0 ∧ xs.getD k 0 ≤ 12 := by
    intro k
    rcases Nat.lt_or_ge k xs.length with h' | h'
    · exact h _ (List.mem_of_getElem? (get_getD h'))
    · rw [getD_past h']; omega
  exact ⟨hl, fun k => by have := key k; omega, fun k => by have := key k; split <;> omega⟩
theorem daysOk_set {xs : List Int} {x : Int} (hl : xs.length ≤ 9) (h : ∀ x ∈ xs, 0 ≤ x ∧ x ≤ 12) (hx : x = -1 ∨ x = 21) : DaysOk (xs.set 0 x) := by
  have key : ∀ k, 0 ≤ xs.getD k 0 ∧ xs.getD k 0 ≤ 12 := by
    intro k
    rcases Nat.lt_or_ge k xs.length with h' | h'
    · exact h _ (List.mem_of_getElem? (get_getD h'))
    · rw [getD_past h']; omega
  have e : ∀ k, (xs.set 0 x).getD k 0 = if k = 0 ∧ 0 < xs.length then x else xs.getD k 0 := by
    intro k
    rw [List.getD_eq_getElem?_getD, List.getD_eq_getElem?_getD, List.getElem?_set]
    by_cases hk : 0 = k
    · subst hk
      by_cases hp : 0 < xs.length
      · rw [if_pos rfl, if_pos hp, if_pos ⟨rfl, hp⟩]; rfl
      · rw [if_pos rfl, if_neg hp, if_neg (by omega), List.getElem?_eq_none (by omega)]
    · rw [if_neg hk, if_neg (by omega)]
  refine ⟨by rw [List.length_set]; exact hl, fun k => ?_, fun k => ?_⟩
  · rw [e]; have := key k; split <;> omega
  · rw [e]; have := key k; split <;> split <;> omega

theorem most_n {n : Int} (h : n ∈ [6, 12, 3]) : 3 ≤ n ∧ n ≤ 12 := by simp at h; omega
theorem days_n {n : Int} (h : n ∈ [5, 6, 4, 8, 3, 2, 1, 0, 9]) : ∃ m : Nat, n = (m : Int) ∧ m ≤ 9 := by simp at h; exact ⟨n.toNat, by omega, by omega⟩
theorem grown_r {a b c : World} {R : Nat} (h : a.grownBy b (some R)) (g : b.grownBy c (some R)) : a.grownBy c (some R) := grown_trans h g (fun k e => by cases e; exact Or.inl rfl)

set_option maxRecDepth 100000 in
set_option maxHeartbeats 2000000 in
theorem someDays_any (R p : Nat) (w : World) (h : Rd w R p) (hp : p ≤ 1000000) :
    Calls Tryz.prog 20 #[.pointer (some ⟨R, 0, none⟩)] w (DaysPost w R p) := by
  have hR := h.lt
  obtain ⟨i0, hi, hz0, hz1, hz2⟩ := info_parts Tryz.infoIntD
  go_enter Tryz.func20, Tryz.ntmps20
  go_wp2_with fail
  refine (one_any (fun k => k = w.heap.size + 1) R p _ 3 3 [6, 12, 3] _ ((h.alloc _).alloc _) (IntsAt.lit rfl rfl (by simp) (by omega)) (by intro b hb; simp; omega) (by omega) (by omega)).mono ?_
  rintro e w1 ⟨most, hmost, rfl, hr1, hg1⟩
  have hmo := most_n hmost
  clear hmost
  have ga1 : (w.alloc (.cells #[] 3)).grownBy w1 (some R) := grown_r (World.grownBy_alloc _ _ _) hg1
  have ho0 := World.ownsRow_made (base := w.heap.size) (size := 1) (e := 3) w #[] 0 (Nat.le_refl _) (Nat.zero_le _) rfl
  have ho1 := ho0.kept ga1 (ne_low ho0 hR)
  have gw1 : w.grownBy w1 (some R) := grown_r (World.grownBy_alloc _ _ _) ga1
  clear ho0
  go_wp2_with fail
  refine (one_any (fun k => k = w1.heap.size) R (p + 1) _ 9 9 [5, 6, 4, 8, 3, 2, 1, 0, 9] _ (hr1.alloc _) (IntsAt.lit rfl rfl (by simp) (by omega)) (by intro b hb; have := hr1.lt; simp; omega) (by omega) (by omega)).mono ?_
  rintro e w2 ⟨n, hn, rfl, hr2, hg2⟩
  obtain ⟨m, rfl, hm⟩ := days_n hn
  clear hn
  have ga2 : w1.grownBy w2 (some R) := grown_r (World.grownBy_alloc _ _ _) hg2
  have ho2 := ho1.kept ga2 (ne_low ho1 hR)
  have gw2 := grown_r gw1 ga2
  clear ho1
  go_wp2_with fail
  go_loopw [3] (fun v wr => ∃ (k p' cap : Nat) (a : Option Addr) (xs : List Int), v = .slice a k cap ∧ wr.ownsRow w.heap.size 3 1 v k (xs.map (.int .i64)) ∧ k ≤ m ∧ (∀ x ∈ xs, 0 ≤ x ∧ x ≤ 12) ∧ Rd wr R p' ∧ p' ≤ p + 2 + 3 * k ∧ w.grownBy wr (some R)) (fun v _ => m - capOf v)
  case atStart => exact ⟨0, p + 1 + 1, _, _, [], rfl, ho2, Nat.zero_le _, (fun x hx => by cases hx), hr2, by omega, gw2⟩
  case round =>
    obtain ⟨k, p', cap, a, xs, rfl, hown, hkm, hall, hr, hpp, hg⟩ := hrel
    obtain ⟨wo, rfl⟩ : ∃ wo : World, wo = wr := ⟨_, rfl⟩
    have hsz := hg.size
    have HOWN := Lib.hid hown
    have HALL := Lib.hid hall
    clear hown hall
    by_cases hlt : k < m
    · go_wp2_with fail
      refine (pick_any R p' (most + 1) wo hr (by omega)).mono ?_
      rintro e w3 ⟨q1, rfl, hq1, hr3, hg3⟩
      go_wp2_with fail
      refine (pick_any R (p' + 1) (most + 1) w3 hr3 (by omega)).mono ?_
      rintro e w4 ⟨q2, rfl, hq2, hr4, hg4⟩
      go_wp2_with fail
      refine (one_any (fun b => b = w4.heap.size) R (p' + 1 + 1) _ 3 3 [(q1 : Int), (q2 : Int), 0] _ (hr4.alloc _) (IntsAt.lit rfl rfl rfl (by omega)) (by intro b hb; have := hr4.lt; simp; omega) (by omega) (by omega)).mono ?_
      rintro e w5 ⟨x, hx, rfl, hr5, hg5⟩
      have hxb : 0 ≤ x ∧ x ≤ 12 := by simp at hx; omega
      clear hx
      have hgw : wo.grownBy w5 (some R) := grown_r hg3 (grown_r hg4 (grown_r (World.grownBy_alloc _ _ _) hg5))
      have HO5 := Lib.hid (HOWN.out.kept hgw (ne_low HOWN.out hR))
      have hg6 := grown_r hg hgw
      go_wp2_with (at_builtin; refine wpList_append_own _ rfl _ _ 35 rfl w.heap.size 3 i0 (.int .i64 0) 1 8 Tryz.underlying35 hi hz0 hz1 hz2 rfl (by decide) _ _ _ rfl (HO5.out.alloc _) ⟨w5.heap.size, 0, none⟩ 1 1 [.int .i64 x] rfl rfl ?c1 ?c2 ?c3 ?c4 ?c5 ?_)
      case c1 => exact one_new _ _ _
      case c2 => exact one_cell_int _ _
      case c3 => unfold maxLen; omega
      case c4 => omega
      case c5 => have := hgw.size; simp; omega
      intro v' w6 hown hgrow _
      obtain ⟨a6, c6, rfl, _⟩ := own_slice hown
      have hgr : w5.grownBy w6 (Value.slice a k cap).ownBlock := grown_comp (World.grownBy_alloc w5 _ _) hgrow
      have HO6 := Lib.hid hown
      have HG6 := Lib.hid hgr
      clear hown hgr hgrow
      go_wp2
      go_roundw
      case rel => exact ⟨k + 1, p' + 1 + 1 + 1, c6, a6, xs ++ [x], rfl, by rw [List.map_append]; exact HO6.out, by omega, (fun y hy => by
        rcases List.mem_append.1 hy with h' | h'
        · exact HALL.out y h'
        · simp only [List.mem_singleton] at h'; rw [h']; exact hxb), hr5.grown HG6.out (by intro b hb; have := (HO5.out.lt b hb).1; omega), by omega, grown_trans hg6 HG6.out (by intro b hb; have := (HO5.out.lt b hb).1; omega)⟩
      case measure => simp [capOf]; omega
    · have hxl : xs.length ≤ 9 := by have := HOWN.out.1; simp at this; omega
      by_cases hk0 : 0 < k
      · go_wp2_with fail
        refine (pick_any R p' 30 wo hr (by omega)).mono ?_
        rintro e w3 ⟨q1, rfl, hq1, hr3, hg3⟩
        have HO3 := Lib.hid (HOWN.out.kept hg3 (ne_low HOWN.out hR))
        have hg4 := grown_r hg hg3
        by_cases hq : q1 = 0
        · subst hq
          go_wp2_with fail
          refine (one_any (fun b => b = w3.heap.size) R (p' + 1) _ 2 2 [-1, 21] _ (hr3.alloc _) (IntsAt.lit rfl rfl rfl (by omega)) (by intro b hb; have := hr3.lt; simp; omega) (by omega) (by omega)).mono ?_
          rintro e w5 ⟨x, hx, rfl, hr5, hg5⟩
          have hxb : x = -1 ∨ x = 21 := by simpa using hx
          clear hx
          have hgw : w3.grownBy w5 (some R) := grown_r (World.grownBy_alloc _ _ _) hg5
          have HO5 := Lib.hid (HO3.out.kept hgw (ne_low HO3.out hR))
          have hg6 := grown_r hg4 hgw
          obtain ⟨g, v0, rfl, hgB, hc0, hf0⟩ := own_place HO5.out (j := 0) hk0
          go_wp2
          go_ret
          obtain ⟨h7, g7⟩ := HO5.out.stored 0 (.int .i64 x)
          exact DaysPost.mk (xs := xs.set 0 x) (by rw [List.map_set]; exact h7) (by omega) (daysOk_set hxl HALL.out hxb) (hr5.grown g7 (by intro b hb; injection hb; omega)) (by omega) (grown_trans hg6 g7 (by intro b hb; injection hb; omega))
        · go_wp2
          go_ret
          exact DaysPost.mk HO3.out (by omega) (daysOk_of hxl HALL.out) hr3 (by omega) hg4
      · go_wp2
        go_ret
        exact DaysPost.mk HOWN.out (by omega) (daysOk_of hxl HALL.out) hr (by omega) hg
end Go.Proofs.YtjcbpnffmebihaaGreatDoor
namespace Go.Proofs.YtjcbpnffmebihaaGreatDoor
open Go.RowKit Go.WideShapes

theorem Tryz.infoInts : (Tryz.prog.info? 35).map (fun i => (i.zero, i.size, i.bytes)) = some (some (.slice none 0 0), 1, 24) := by kernel_rfl

end Go.Proofs.YtjcbpnffmebihaaGreatDoor
namespace Go.Proofs.YtjcbpnffmebihaaGreatDoor
open Go.RowKit Go.WideShapes

/-- few numbers, all small -/
def Okn (xs : List Int) : Prop := xs.length ≤ 20 ∧ ∀ x ∈ xs, -1000 ≤ x ∧ x ≤ 1000
theorem Okn.set {xs : List Int} {k : Nat} {v : Int} (h : Okn xs) (h0 : -1000 ≤ v) (h1 : v ≤ 1000) : Okn (xs.set k v) := by
  refine ⟨by rw [List.length_set]; exact h.1, fun x hx => ?_⟩
  rcases List.mem_or_eq_of_mem_set hx with hx | rfl
  · exact h.2 x hx
  · exact ⟨h0, h1⟩
theorem Okn.of {xs : List Int} (hl : xs.length ≤ 20) (h : ∀ x ∈ xs, -1000 ≤ x ∧ x ≤ 1000) : Okn xs := ⟨hl, h⟩
/-- u is an int slice of the call's own, in a block below M -/
def OwnIntsQ (w : World) (B M : Nat) (u : Value) : Prop := ∃ (l : Nat) (xs : List Int), w.ownsRow B 3 1 u l (xs.map (.int .i64)) ∧ (∀ k, u.ownBlock = some k → k < M) ∧ Okn xs
/-- v is a slice of k such -/
def OwnRowsQ (w : World) (B M : Nat) (v : Value) (k : Nat) : Prop := ∃ us : List Value, w.ownsRow B 35 1 v k us ∧ ∀ u ∈ us, OwnIntsQ w B M u

theorem OwnIntsQ.kept {w w' : World} {B M : Nat} {u : Value} {r : Option Nat} (h : OwnIntsQ w B M u) (hg : w.grownBy w' r) (hr : ∀ k, r = some k → k < B ∨ M ≤ k) : OwnIntsQ w' B M u := by
  obtain ⟨l, xs, h, hl, hok⟩ := h
  refine ⟨l, xs, h.kept hg ?_, hl, hok⟩
  cases hv : u.ownBlock with
  | none => exact Or.inl rfl
  | some k => right; intro e; have := h.lt k hv; have := hl k hv; have := hr k e.symm; omega
theorem OwnRowsQ.kept {w w' : World} {B M k : Nat} {v : Value} {r : Option Nat} (h : OwnRowsQ w B M v k) (hg : w.grownBy w' r) (hr : ∀ k, r = some k → k < B ∨ M ≤ k)
    (hv : v.ownBlock = none ∨ v.ownBlock ≠ r) : OwnRowsQ w' B M v k := by
  obtain ⟨us, h, hu⟩ := h
  exact ⟨us, h.kept hg hv, fun u hu' => (hu u hu').kept hg hr⟩
theorem OwnRowsQ.low {w w' : World} {B M k R : Nat} {v : Value} (h : OwnRowsQ w B M v k) (hg : w.grownBy w' (some R)) (hR : R < B) : OwnRowsQ w' B M v k := by
  refine h.kept hg (fun k e => by cases e; exact Or.inl hR) ?_
  obtain ⟨us, h, _⟩ := h
  exact ne_low h hR
theorem OwnRowsQ.alloc {w : World} {B M k : Nat} {v : Value} (h : OwnRowsQ w B M v k) (o : Obj) : OwnRowsQ (w.alloc o) B M v k :=
  h.kept (World.grownBy_alloc w o none) (fun k e => by cases e) (by cases v.ownBlock <;> simp)
/-- an append to a row of ints that is newer than the rows -/
theorem OwnRowsQ.ints {w w' : World} {B M k n : Nat} {v u : Value} {xs : List Value} (h : OwnRowsQ w B M v k) (hu : w.ownsRow M 3 1 u n xs) (hg : w.grownBy w' u.ownBlock) : OwnRowsQ w' B M v k := by
  refine h.kept hg (fun k e => Or.inr (hu.lt k e).1) ?_
  obtain ⟨us, h, _⟩ := h
  exact own_ne h hu (by decide)
/-- the row is done, and put to the rows -/
theorem OwnRowsQ.push {w w' : World} {B M n k : Nat} {v v' u : Value} {xs : List Int} {us : List Value} (hu : w.ownsRow M 3 1 u n (xs.map (.int .i64))) (hM : B ≤ M)
    (hv : w.ownsRow B 35 1 v k us) (hus : ∀ u ∈ us, OwnIntsQ w B M u) (hv' : w'.ownsRow B 35 1 v' (k + 1) (us ++ [u])) (hg : w.grownBy w' v.ownBlock) (hokx : Okn xs) : OwnRowsQ w' B w'.heap.size v' (k + 1) := by
  refine ⟨us ++ [u], hv', fun x hx => ?_⟩
  have key : ∀ (x : Value) (l : Nat) (ys : List Int), w.ownsRow B 3 1 x l (ys.map (.int .i64)) → Okn ys → OwnIntsQ w' B w'.heap.size x := by
    intro x l ys h hoky
    have h' := h.kept hg (own_ne h hv (by decide))
    exact ⟨l, ys, h', fun k hk => (h'.lt k hk).2, hoky⟩
  rcases List.mem_append.1 hx with hx | hx
  · obtain ⟨l, ys, h, _, hoky⟩ := hus x hx
    exact key x l ys h hoky
  · simp only [List.mem_singleton] at hx
    subst hx
    exact key x n xs (own_base hu hM) hokx
theorem OwnRowsQ.slice {w : World} {B M k : Nat} {v : Value} (h : OwnRowsQ w B M v k) : ∃ a cap, v = .slice a k cap ∧ k ≤ cap := by
  obtain ⟨us, h, _⟩ := h
  exact own_slice h
theorem OwnRowsQ.nil {w w1 : World} {B M r : Nat} (hB : B = w.heap.size) (hg : (w.alloc (.cells #[] 35)).grownBy w1 (some r)) (hr : r < B) : OwnRowsQ w1 B M (.slice (some ⟨B, 0, none⟩) 0 0) 0 := by
  subst hB
  have h0 := World.ownsRow_made (base := w.heap.size) (size := 1) (e := 35) w #[] 0 (Nat.le_refl _) (Nat.zero_le _) rfl
  refine ⟨[], (h0.kept hg (ne_low h0 hr)), fun u hu => by cases hu⟩
theorem OwnRowsQ.up {w : World} {B M M' k : Nat} {v : Value} (h : OwnRowsQ w B M v k) (hM : M ≤ M') : OwnRowsQ w B M' v k := by
  obtain ⟨us, h, hu⟩ := h
  refine ⟨us, h, fun u hu' => ?_⟩
  obtain ⟨l, xs, h1, h2, h3⟩ := hu u hu'
  exact ⟨l, xs, h1, fun k hk => Nat.lt_of_lt_of_le (h2 k hk) hM, h3⟩

theorem OwnRowsQ.store {w : World} {B M g k cap j l : Nat} {u : Value} {xs : List Int} (h : OwnRowsQ w B M (.slice (some ⟨g, 0, none⟩) k cap) k) (hu : w.ownsRow B 3 1 u l (xs.map (.int .i64))) (hokx : Okn xs) :
    OwnRowsQ (w.setCell ⟨g, j, none⟩ u) B w.heap.size (.slice (some ⟨g, 0, none⟩) k cap) k ∧ w.grownBy (w.setCell ⟨g, j, none⟩ u) (some g) := by
  obtain ⟨us, hv, hus⟩ := h
  obtain ⟨h1, h2⟩ := hv.stored j u
  have hv0 := hv
  refine ⟨⟨us.set j u, h1, fun y hy => ?_⟩, h2⟩
  have key : ∀ (y : Value) (l : Nat) (ys : List Int), w.ownsRow B 3 1 y l (ys.map (.int .i64)) → Okn ys → OwnIntsQ (w.setCell ⟨g, j, none⟩ u) B w.heap.size y := by
    intro y l ys h hoky
    exact ⟨l, ys, h.kept h2 (own_ne h hv0 (by decide)), fun k hk => (h.lt k hk).2, hoky⟩
  rcases List.mem_or_eq_of_mem_set hy with hy | rfl
  · obtain ⟨l, ys, h, _, hoky⟩ := hus y hy
    exact key y l ys h hoky
  · exact key _ l xs hu hokx
theorem OwnRowsQ.addr {w : World} {B M k cap : Nat} {a : Option Addr} (h : OwnRowsQ w B M (.slice a k cap) k) (hk : 0 < k) : ∃ g, a = some ⟨g, 0, none⟩ ∧ B ≤ g := by
  obtain ⟨us, hv, _⟩ := h
  rcases hv.2 with ⟨h1, h2⟩ | ⟨g, c, cur, h1, h2, _⟩
  · omega
  · simp only [Value.slice.injEq] at h1
    exact ⟨g, h1.1, h2⟩
theorem OwnRowsQ.cell {w : World} {B M g k cap j : Nat} (h : OwnRowsQ w B M (.slice (some ⟨g, 0, none⟩) k cap) k) (hj : j < k) : ∃ v, w.cell? ⟨g, j, none⟩ = some v ∧ w.frozen? ⟨g, j, none⟩ = false := by
  obtain ⟨us, hv, _⟩ := h
  have hl := hv.1
  refine ⟨us[j]'(by omega), ?_, hv.frozenAt j⟩
  rw [hv.cellAt j (by omega)]
  exact List.getElem?_eq_getElem _

theorem OwnRowsQ.rows {w : World} {B M k : Nat} {v : Value} (h : OwnRowsQ w B M v k) (hk : k ≤ 9223372036854775807) :
    ∃ a cap rows, v = .slice a k cap ∧ k ≤ cap ∧ RowsAt w (fun b => B ≤ b ∧ b < w.heap.size) a k rows ∧ ∀ r ∈ rows, Okn r := by
  obtain ⟨us, h, hu⟩ := h
  have hlen : us.length = k := by have := h.1; simpa using this
  have hlt := h.lt
  have hc := fun g hg => h.cells (g := g) hg
  obtain ⟨rows, hr1, hr2⟩ := all_choose (Q := fun (u : Value) (r : List Int) => ∃ a' l c, u = .slice a' l c ∧ l ≤ c ∧ IntsAt w (fun b => B ≤ b ∧ b < w.heap.size) a' l r ∧ Okn r) us (fun u hu' => by
    obtain ⟨l, xs, h1, h2, hok⟩ := hu u hu'
    have hl : l ≤ 9223372036854775807 := by
      rcases h1.2 with ⟨_, rfl⟩ | ⟨_, cap, _, _, _, _, hcap, hm, _⟩
      · omega
      · unfold maxLen at hm; omega
    obtain ⟨a, cap, h3, h4, h5⟩ := own_ints h1 hl
    exact ⟨xs, a, l, cap, h3, h4, h5, hok⟩)
  have hall : ∀ r ∈ rows, Okn r := fun r hr => by
    obtain ⟨i, hi⟩ := List.mem_iff_getElem?.1 hr
    obtain ⟨_, _, _, _, _, _, _, _, ho⟩ := hr2 i r hi
    exact ho
  rcases h.2 with ⟨rfl, rfl⟩ | ⟨g, cap, cur, rfl, _, _, hcap, _⟩
  · exact ⟨none, 0, rows, rfl, Nat.le_refl _, ⟨by omega, hk, fun h0 => absurd h0 (by omega)⟩, hall⟩
  · refine ⟨some ⟨g, 0, none⟩, cap, rows, rfl, hcap, ⟨by omega, hk, fun h0 => ⟨g, 0, rfl, hlt g rfl, fun i r hr => ?_⟩⟩, hall⟩
    obtain ⟨u, hu1, a', l, c, rfl, h4, h5, _⟩ := hr2 i r hr
    have := hc g rfl i _ hu1
    rw [add_plain] at this
    exact ⟨a', l, c, this, h4, h5⟩
end Go.Proofs.YtjcbpnffmebihaaGreatDoor
namespace Go.Proofs.YtjcbpnffmebihaaGreatDoor

instance (T : List Int) (c : Int) (t : List Int) (s r : Nat) : Decidable (okR T c t s r) := by unfold okR; infer_instance
end Go.Proofs.YtjcbpnffmebihaaGreatDoor
