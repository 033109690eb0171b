import Derived.Test.YtjcbpnffmebihaaGreatDoorA35
import Derived.Test.YtjcbpnffmebihaaGreatDoorA43
import Derived.Test.YtjcbpnffmebihaaGreatDoorRows
import Derived.WalkKit
import Derived.LoopTactic
import Derived.Outline
import Derived.WalkSpells
import Derived.WalkLawsBesides
import Derived.ProofKit
import Derived.Lib.Hide
import Derived.Laws.ResultCell
set_option linter.unusedVariables false
set_option linter.unusedSimpArgs false
namespace Go.Proofs.YtjcbpnffmebihaaGreatDoor
open Go.RowKit Go.WideShapes

/-- a line's parts behind its word are as a command asks that has A numbers ahead of the rows -/
def askOk (A : Nat) (isl : Bool) (ts : List ByteArray) : Bool :=
  decide (ts.length = A + 1) && ((ts.take A).all numOk && (rowsOk (ts.getD A ByteArray.empty) && (!isl || decide ((rowsV (ts.getD A ByteArray.empty)).length ≤ 1))))
/-- a question, or an error of the desk's own -/
def AskPost (w : World) (A : Nat) (isl : Bool) (ts : List ByteArray) (e : Ending) (w' : World) : Prop :=
  (askOk A isl ts = true ∧ ∃ (a1 : Option Addr) (c1 : Nat) (a2 : Option Addr) (l2 c2 : Nat), e = .returned (.tuple #[.agg #[.slice a1 A c1, .slice a2 l2 c2], .nilIface]) ∧ A ≤ c1 ∧ IntsAt w' (fun b => w.heap.size ≤ b ∧ b < w'.heap.size) a1 A ((ts.take A).map numV) ∧
    RowsAt w' (fun b => w.heap.size ≤ b ∧ b < w'.heap.size) a2 l2 (rowsV (ts.getD A ByteArray.empty)) ∧ l2 ≤ c2 ∧ Below w.heap.size w w') ∨
  (askOk A isl ts = false ∧ (∃ m, e = .returned (.tuple #[.agg #[.slice none 0 0, .slice none 0 0], .iface 56 (.agg #[.string m])])) ∧ Below w.heap.size w w')
set_option maxRecDepth 100000 in
set_option maxHeartbeats 8000000 in
theorem read_any (A : Nat) (isl : Bool) (f : Value) (hA : A ≤ 2) (b off len cap : Nat) (ts : List ByteArray) (w : World) (hE : EnvD w) (h10 : 10 ≤ w.heap.size) (h : StrsAt w (· < w.heap.size) (some ⟨b, off, none⟩) len ts) (hz : ∀ t ∈ ts, t.size ≤ 1048575) (hl : len ≤ 1048576) (hlc : len ≤ cap) :
    Calls Tryz.prog 49 #[.agg #[.int .i64 A, .bool isl, f], .slice (some ⟨b, off, none⟩) len cap] w (AskPost w A isl ts) := by
  have HL := Lib.hid h.lenEq
  have HX := Lib.hid hz
  have HE := Lib.hid hE
  have H10 := Lib.hid h10
  have hwA : IntKind.i64.wrap ((A : Int) + 1) = (A : Int) + 1 := IntWalk.i64_in _ (by omega)
  have n1 := iface_ne
  have n2 := nil_ne
  clear hz hE h10
  go_enter Tryz.func49, Tryz.ntmps49
  by_cases hn : len = A + 1
  · subst hn
    have hne : (((A : Int) + 1) == ((A : Int) + 1)) = true := beq_self_eq_true _
    go_wp2_with fail
    obtain ⟨w2, hw2⟩ : ∃ w2 : World, w2 = ((w.alloc (.cells #[.int .i64 A, .bool isl, f] 73)).alloc (.cells #[.slice none 0 0, .slice none 0 0] 77)) := ⟨_, rfl⟩
    rw [← hw2]
    have hs2 : w2.heap.size = w.heap.size + 2 := by rw [hw2]; simp
    have HB2 := Lib.hid (show Below w.heap.size w w2 by rw [hw2]; exact ((Below.refl _ w).alloc (Nat.le_refl _) _).alloc (by simp) _)
    have hp0 : w2.cell? ⟨w.heap.size, 0, none⟩ = some (.int .i64 A) := by rw [hw2]; simp [World.cell?_alloc_lt]
    have hp1 : w2.cell? ⟨w.heap.size, 1, none⟩ = some (.bool isl) := by rw [hw2]; simp [World.cell?_alloc_lt]
    have hr0 : w2.cell? ⟨w.heap.size + 1, 0, none⟩ = some (.slice none 0 0) := by rw [hw2]; simp
    have hr1 : w2.cell? ⟨w.heap.size + 1, 1, none⟩ = some (.slice none 0 0) := by rw [hw2]; simp
    have hz0 : ∀ i : Nat, w2.frozen? ⟨w.heap.size + 1, i, none⟩ = false := by rw [hw2]; intro i; simp
    have HE2 := Lib.hid (HE.out.below H10.out HB2.out)
    have H102 := Lib.hid (show 10 ≤ w2.heap.size by have := H10.out; omega)
    have HST := Lib.hid (h.to (w' := w2) (S' := (· < w2.heap.size)) fun b hb => ⟨by omega, HB2.out.block b hb⟩)
    obtain ⟨b', of', t, e0, ht, hct⟩ := HST.out.get (k := A) (by omega)
    injection e0 with e0
    injection e0 with q1 q2
    subst q1 q2
    have hbl : b < w2.heap.size := by
      obtain ⟨b', o', e', hS, _⟩ := HST.out.cells (by omega)
      injection e' with e'; injection e' with e' _; subst e'; exact hS
    have HBL := Lib.hid hbl
    have HT := Lib.hid (getD_at ht)
    have HTZ := Lib.hid (HX.out t (List.mem_of_getElem? ht))
    have HTK := Lib.hid (show StrsAt w2 (· < w2.heap.size) (some ⟨b, off, none⟩) A (ts.take A) from ⟨by rw [List.length_take, HL.out]; omega, by omega, fun _ => by
      obtain ⟨b', o', e', hS, hc⟩ := HST.out.cells (by omega)
      exact ⟨b', o', e', hS, fun i x hx => hc i x (by rw [List.getElem?_take] at hx; split at hx; exact hx; cases hx)⟩⟩)
    clear hw2 ht hbl
    refine (readNumbers_any _ A cap (ts.take A) w2 HE2.out H102.out HTK.out (fun x hx => by have := HX.out x (List.mem_of_mem_take hx); omega) (by omega)).mono ?_
    rintro e w3 (⟨hok, rfl, hrow, hb3⟩ | ⟨hbad, ⟨msg, rfl⟩, hb3⟩)
    · have HOK := Lib.hid hok
      have HROW := Lib.hid hrow
      have HB3 := Lib.hid hb3
      have hs3 : w2.heap.size ≤ w3.heap.size := hb3.size
      have hp0 := cell_up hp0 (by omega) hb3
      have hp1 := cell_up hp1 (by omega) hb3
      have hr0 := cell_up hr0 (by omega) hb3
      have hr1 := cell_up hr1 (by omega) hb3
      have hct := cell_up hct HBL.out hb3
      have hz0 : ∀ i : Nat, w3.frozen? ⟨w.heap.size + 1, i, none⟩ = false := fun i => (hb3.frozen (p := ⟨w.heap.size + 1, i, none⟩) (by show _ + 1 < _; omega)).trans (hz0 i)
      clear hok hrow
      rename_i c1 c2 c3 c4 c5 c6
      clear c1 c2 c3 c4 c5 c6
      go_wp2_with fail
      refine (readRows_impl t w3 (HE2.out.below H102.out HB3.out) (Nat.le_trans H102.out hs3) HTZ.out).mono ?_
      rintro e w4 (⟨hok2, a2, c2, rfl, hc2, hpt, hb4⟩ | ⟨hbad, ⟨msg, rfl⟩, hb4⟩)
      · have HOK2 := Lib.hid hok2
        have hrl := rowsV_bd t
        have htz := HTZ.out
        have HRA := Lib.hid (hpt.rowsAt rfl (by omega))
        have HB4 := Lib.hid (HB3.out.trans (hb4.mono hs3))
        have HIN := Lib.hid (own_keep HROW.out (w' := w4) fun b _ _ hb => hb4.block b hb)
        have hs4 : w3.heap.size ≤ w4.heap.size := hb4.size
        have hp1 := cell_up hp1 (by omega) hb4
        have hr0 := cell_up hr0 (by omega) hb4
        have hr1 := cell_up hr1 (by omega) hb4
        have hz0 : ∀ i : Nat, w4.frozen? ⟨w.heap.size + 1, i, none⟩ = false := fun i => (hb4.frozen (p := ⟨w.heap.size + 1, i, none⟩) (by show _ + 1 < _; omega)).trans (hz0 i)
        clear hok2 hpt hb4 hp0 hct htz
        generalize hnR : (rowsV t).length = nR at *
        have HNR := Lib.hid hnR
        clear hnR
        cases isl
        · have HY := Lib.hid (show askOk A false ts = true from by unfold askOk; rw [decide_eq_true HL.out, HOK.out, HT.out, HOK2.out]; rfl)
          go_wp2_with fail
          have HI5 := Lib.hid (own_keep HIN.out (w' := (w4.setCell ⟨w.heap.size + 1, 0, none⟩ (.slice (some ⟨w2.heap.size, 0, none⟩) A A)).setCell ⟨w.heap.size + 1, 1, none⟩ (.slice a2 nR c2)) fun b _ hB _ => (Below.heap_setCell _ _ _ _ (by show b ≠ w.heap.size + 1; omega)).trans (Below.heap_setCell _ _ _ _ (by show b ≠ w.heap.size + 1; omega)))
          have HR5 := Lib.hid (HRA.out.to (w' := (w4.setCell ⟨w.heap.size + 1, 0, none⟩ (.slice (some ⟨w2.heap.size, 0, none⟩) A A)).setCell ⟨w.heap.size + 1, 1, none⟩ (.slice a2 nR c2)) (S' := fun b => w.heap.size ≤ b ∧ b < ((w4.setCell ⟨w.heap.size + 1, 0, none⟩ (.slice (some ⟨w2.heap.size, 0, none⟩) A A)).setCell ⟨w.heap.size + 1, 1, none⟩ (.slice a2 nR c2)).heap.size) fun b hb => ⟨⟨by omega, by simp only [World.size_setCell]; exact hb.2⟩, (Below.heap_setCell _ _ _ _ (by show b ≠ w.heap.size + 1; omega)).trans (Below.heap_setCell _ _ _ _ (by show b ≠ w.heap.size + 1; omega))⟩)
          rw [hs2] at HI5 HR5
          refine bodyPost_ret (v := .tuple #[.agg #[.slice (some ⟨w.heap.size + 2, 0, none⟩) A A, .slice a2 nR c2], .nilIface]) ?_ rfl ?_
          · simp only [results, Tryz.results49, go_sem]; simp [go_sem, hr0, hr1]
          · obtain ⟨a', c', e', _, hints⟩ := own_ints HI5.out (by omega)
            injection e' with e1 _ _
            subst e1
            refine .inl ⟨HY.out, _, A, a2, nR, c2, rfl, Nat.le_refl _, hints.to fun b hb => ⟨⟨by omega, hb.2⟩, rfl⟩, by rw [HT.out]; exact HR5.out, hc2, ?_⟩
            have HBX := Lib.hid (HB2.out.trans (HB4.out.mono HB2.out.size))
            repeat' first | exact Below.refl _ _ | exact HBX.out | refine Below.setCell ?_ (by first | (show _ ≤ _ + 1; omega) | exact Nat.le_refl _) _ | refine Below.alloc ?_ (by first | omega | (simp; done) | (simp; omega)) _
        · by_cases h1 : 1 < nR
          · have h1I : (1 : Int) < (nR : Int) := by omega
            have HN := Lib.hid (show askOk A true ts = false by unfold askOk; rw [HT.out, HNR.out, decide_eq_false (show ¬ nR ≤ 1 by omega)]; simp)
            have HBX := Lib.hid (show Below w.heap.size w _ from HB2.out.trans (HB4.out.mono HB2.out.size))
            go_wp2_with fail
            refine bodyPost_ret (v := .tuple #[.agg #[.slice none 0 0, .slice none 0 0], .iface 56 (.agg #[.string ⟨#[109, 111, 114, 101, 32, 116, 104, 97, 110, 32, 111, 110, 101, 32, 114, 111, 119]⟩])]) ?_ rfl ?_
            · simp only [results, Tryz.results49, go_sem]; simp [go_sem, hr0, hr1]
            · refine .inr ⟨HN.out, ⟨_, rfl⟩, ?_⟩
              repeat' first | exact Below.refl _ _ | exact HBX.out | refine Below.setCell ?_ (by first | (show _ ≤ _ + 1; omega) | exact Nat.le_refl _) _ | refine Below.alloc ?_ (by first | omega | (simp; done) | (simp; omega)) _
          · have h1I : ¬ (1 : Int) < (nR : Int) := by omega
            have HY := Lib.hid (show askOk A true ts = true from by unfold askOk; rw [decide_eq_true HL.out, HOK.out, HT.out, HOK2.out, HNR.out, decide_eq_true (show nR ≤ 1 by omega)]; rfl)
            go_wp2_with fail
            have HI5 := Lib.hid (own_keep HIN.out (w' := (w4.setCell ⟨w.heap.size + 1, 0, none⟩ (.slice (some ⟨w2.heap.size, 0, none⟩) A A)).setCell ⟨w.heap.size + 1, 1, none⟩ (.slice a2 nR c2)) fun b _ hB _ => (Below.heap_setCell _ _ _ _ (by show b ≠ w.heap.size + 1; omega)).trans (Below.heap_setCell _ _ _ _ (by show b ≠ w.heap.size + 1; omega)))
            have HR5 := Lib.hid (HRA.out.to (w' := (w4.setCell ⟨w.heap.size + 1, 0, none⟩ (.slice (some ⟨w2.heap.size, 0, none⟩) A A)).setCell ⟨w.heap.size + 1, 1, none⟩ (.slice a2 nR c2)) (S' := fun b => w.heap.size ≤ b ∧ b < ((w4.setCell ⟨w.heap.size + 1, 0, none⟩ (.slice (some ⟨w2.heap.size, 0, none⟩) A A)).setCell ⟨w.heap.size + 1, 1, none⟩ (.slice a2 nR c2)).heap.size) fun b hb => ⟨⟨by omega, by simp only [World.size_setCell]; exact hb.2⟩, (Below.heap_setCell _ _ _ _ (by show b ≠ w.heap.size + 1; omega)).trans (Below.heap_setCell _ _ _ _ (by show b ≠ w.heap.size + 1; omega))⟩)
            rw [hs2] at HI5 HR5
            refine bodyPost_ret (v := .tuple #[.agg #[.slice (some ⟨w.heap.size + 2, 0, none⟩) A A, .slice a2 nR c2], .nilIface]) ?_ rfl ?_
            · simp only [results, Tryz.results49, go_sem]; simp [go_sem, hr0, hr1]
            · obtain ⟨a', c', e', _, hints⟩ := own_ints HI5.out (by omega)
              injection e' with e1 _ _
              subst e1
              refine .inl ⟨HY.out, _, A, a2, nR, c2, rfl, Nat.le_refl _, hints.to fun b hb => ⟨⟨by omega, hb.2⟩, rfl⟩, by rw [HT.out]; exact HR5.out, hc2, ?_⟩
              have HBX := Lib.hid (HB2.out.trans (HB4.out.mono HB2.out.size))
              repeat' first | exact Below.refl _ _ | exact HBX.out | refine Below.setCell ?_ (by first | (show _ ≤ _ + 1; omega) | exact Nat.le_refl _) _ | refine Below.alloc ?_ (by first | omega | (simp; done) | (simp; omega)) _
      · have hs4 : w3.heap.size ≤ w4.heap.size := hb4.size
        have hr0 := cell_up hr0 (by omega) hb4
        have hr1 := cell_up hr1 (by omega) hb4
        have hz0 : ∀ i : Nat, w4.frozen? ⟨w.heap.size + 1, i, none⟩ = false := fun i => (hb4.frozen (p := ⟨w.heap.size + 1, i, none⟩) (by show _ + 1 < _; omega)).trans (hz0 i)
        have HN := Lib.hid (show askOk A isl ts = false by unfold askOk; rw [HT.out, hbad]; simp)
        have HBX := Lib.hid (show Below w.heap.size w _ from HB2.out.trans ((HB3.out.trans (hb4.mono hs3)).mono HB2.out.size))
        go_wp2_with fail
        refine bodyPost_ret (v := .tuple #[.agg #[.slice none 0 0, .slice none 0 0], .iface 56 (.agg #[.string msg])]) ?_ rfl ?_
        · simp only [results, Tryz.results49, go_sem]; simp [go_sem, hr0, hr1]
        · refine .inr ⟨HN.out, ⟨_, rfl⟩, ?_⟩
          repeat' first | exact Below.refl _ _ | exact HBX.out | refine Below.setCell ?_ (by first | (show _ ≤ _ + 1; omega) | exact Nat.le_refl _) _ | refine Below.alloc ?_ (by first | omega | (simp; done) | (simp; omega)) _
    · have hr0 := cell_up hr0 (by omega) hb3
      have hr1 := cell_up hr1 (by omega) hb3
      have hz0 : ∀ i : Nat, w3.frozen? ⟨w.heap.size + 1, i, none⟩ = false := fun i => (hb3.frozen (p := ⟨w.heap.size + 1, i, none⟩) (by show _ + 1 < _; omega)).trans (hz0 i)
      have HN := Lib.hid (show askOk A isl ts = false by unfold askOk; rw [hbad]; simp)
      have HBX := Lib.hid (show Below w.heap.size w _ from HB2.out.trans (hb3.mono HB2.out.size))
      go_wp2_with fail
      refine bodyPost_ret (v := .tuple #[.agg #[.slice none 0 0, .slice none 0 0], .iface 56 (.agg #[.string msg])]) ?_ rfl ?_
      · simp only [results, Tryz.results49, go_sem]; simp [go_sem, hr0, hr1]
      · refine .inr ⟨HN.out, ⟨_, rfl⟩, ?_⟩
        repeat' first | exact Below.refl _ _ | exact HBX.out | refine Below.setCell ?_ (by first | (show _ ≤ _ + 1; omega) | exact Nat.le_refl _) _ | refine Below.alloc ?_ (by first | omega | (simp; done) | (simp; omega)) _
  · have hne : ((len : Int) == (A : Int) + 1) = false := by rw [beq_eq_false_iff_ne]; omega
    have HN := Lib.hid (show askOk A isl ts = false by unfold askOk; rw [decide_eq_false (by rw [HL.out]; exact hn)]; rfl)
    go_wp2_with fail
    refine bodyPost_ret (v := .tuple #[.agg #[.slice none 0 0, .slice none 0 0], .iface 56 (.agg #[.string ⟨#[110, 111, 116, 32, 97, 115, 32, 109, 97, 110, 121, 32, 112, 97, 114, 116, 115, 32, 97, 115, 32, 97, 114, 101, 32, 97, 115, 107, 101, 100, 32, 102, 111, 114]⟩])]) ?_ rfl ?_
    · simp only [results, Tryz.results49, go_sem]; simp [go_sem]
    · refine .inr ⟨HN.out, ⟨_, rfl⟩, ?_⟩
      repeat' first | exact Below.refl _ _ | refine Below.setCell ?_ (by first | (show _ ≤ _ + 1; omega) | exact Nat.le_refl _) _ | refine Below.alloc ?_ (by first | omega | (simp; done) | (simp; omega)) _
theorem read_yes {A : Nat} {isl : Bool} {f : Value} {b off len cap : Nat} {ts : List ByteArray} {w : World} (hk : askOk A isl ts = true) (hA : A ≤ 2) (hE : EnvD w) (h10 : 10 ≤ w.heap.size) (h : StrsAt w (· < w.heap.size) (some ⟨b, off, none⟩) len ts) (hz : ∀ t ∈ ts, t.size ≤ 1048575) (hl : len ≤ 1048576) (hlc : len ≤ cap) :
    Calls Tryz.prog 49 #[.agg #[.int .i64 A, .bool isl, f], .slice (some ⟨b, off, none⟩) len cap] w fun e w' => ∃ (a1 : Option Addr) (c1 : Nat) (a2 : Option Addr) (l2 c2 : Nat), e = .returned (.tuple #[.agg #[.slice a1 A c1, .slice a2 l2 c2], .nilIface]) ∧ A ≤ c1 ∧ IntsAt w' (fun b => w.heap.size ≤ b ∧ b < w'.heap.size) a1 A ((ts.take A).map numV) ∧
      RowsAt w' (fun b => w.heap.size ≤ b ∧ b < w'.heap.size) a2 l2 (rowsV (ts.getD A ByteArray.empty)) ∧ l2 ≤ c2 ∧ Below w.heap.size w w' :=
  (read_any A isl f hA b off len cap ts w hE h10 h hz hl hlc).mono fun _ _ hp => by
    rcases hp with ⟨_, hp⟩ | ⟨hn, _⟩
    · exact hp
    · rw [hk] at hn; cases hn
theorem read_no {A : Nat} {isl : Bool} {f : Value} {b off len cap : Nat} {ts : List ByteArray} {w : World} (hk : askOk A isl ts = false) (hA : A ≤ 2) (hE : EnvD w) (h10 : 10 ≤ w.heap.size) (h : StrsAt w (· < w.heap.size) (some ⟨b, off, none⟩) len ts) (hz : ∀ t ∈ ts, t.size ≤ 1048575) (hl : len ≤ 1048576) (hlc : len ≤ cap) :
    Calls Tryz.prog 49 #[.agg #[.int .i64 A, .bool isl, f], .slice (some ⟨b, off, none⟩) len cap] w fun e w' => (∃ m, e = .returned (.tuple #[.agg #[.slice none 0 0, .slice none 0 0], .iface 56 (.agg #[.string m])])) ∧ Below w.heap.size w w' :=
  (read_any A isl f hA b off len cap ts w hE h10 h hz hl hlc).mono fun _ _ hp => by
    rcases hp with ⟨hn, _⟩ | ⟨_, hp⟩
    · rw [hk] at hn; cases hn
    · exact hp
end Go.Proofs.YtjcbpnffmebihaaGreatDoor
namespace Go.Proofs.YtjcbpnffmebihaaGreatDoor

/-! What the code reads and what the model reads of a line are the same wherever it matters. -/
def SmallR (rows : List (List Int)) : Prop := ∀ r ∈ rows, ∀ x ∈ r, 0 ≤ x ∧ x < 100
theorem num_code {t : ByteArray} (h : numOk t = true) : codeN t = some (numV t) := by
  unfold numOk numV at *
  cases hc : codeN t with
  | none => rw [hc] at h; cases h
  | some v => rfl
theorem read_of_num {t : ByteArray} (h : numOk t = true) (h0 : 0 ≤ numV t) (h1 : numV t < 100) : readB t = numV t := (codeN_read h0 h1).1 (num_code h)
theorem num_of_read {t : ByteArray} (h0 : 0 ≤ readB t) (h1 : readB t < 100) : numOk t = true ∧ numV t = readB t := by
  have := (codeN_read (s := t) h0 h1).2 rfl
  unfold numOk numV
  rw [this]
  exact ⟨rfl, rfl⟩
theorem rows_of_code {t : ByteArray} (hok : rowsOk t = true) (hs : SmallR (rowsV t)) : rowsB t = rowsV t := by
  unfold rowsB rowsV rowV
  refine List.map_congr_left fun l hl => List.map_congr_left fun x hx => ?_
  have h1 := List.all_eq_true.1 (List.all_eq_true.1 hok l hl) x hx
  have h2 := hs (rowV l) (List.mem_map.2 ⟨l, hl, rfl⟩) (numV x) (List.mem_map.2 ⟨x, hx, rfl⟩)
  exact read_of_num h1 h2.1 h2.2
theorem rows_of_model {t : ByteArray} (hs : SmallR (rowsB t)) : rowsOk t = true ∧ rowsV t = rowsB t := by
  have key : ∀ l ∈ splitB t 47, ∀ x ∈ splitB l 44, numOk x = true ∧ numV x = readB x := fun l hl x hx => by
    have h2 := hs ((splitB l 44).map readB) (List.mem_map.2 ⟨l, hl, rfl⟩) (readB x) (List.mem_map.2 ⟨x, hx, rfl⟩)
    exact num_of_read h2.1 h2.2
  constructor
  · exact List.all_eq_true.2 fun l hl => List.all_eq_true.2 fun x hx => (key l hl x hx).1
  · unfold rowsV rowsB rowV
    exact List.map_congr_left fun l hl => List.map_congr_left fun x hx => (key l hl x hx).2
theorem mem_two {r : List Int} (h : r.length = 2) {x : Int} (hx : x ∈ r) : x = r.getD 0 0 ∨ x = r.getD 1 0 := by
  match r, h with
  | [a, b], _ => simpa using hx
theorem mem_three {r : List Int} (h : r.length = 3) {x : Int} (hx : x ∈ r) : x = r.getD 0 0 ∨ x = r.getD 1 0 ∨ x = r.getD 2 0 := by
  match r, h with
  | [a, b, c], _ => simpa using hx
theorem small_pairs {rows : List (List Int)} (h : pairsM rows = true) : SmallR rows := fun r hr x hx => by
  obtain ⟨h1, h2, h3⟩ := (pairs_get h).2 r hr
  rcases mem_two h1 hx with rfl | rfl <;> omega
theorem small_jobs {rows : List (List Int)} (h : jobsM rows = true) : SmallR rows := fun r hr x hx => by
  obtain ⟨h1, h2, h3, h4⟩ := (jobs_get h).2 r hr
  rcases mem_three h1 hx with rfl | rfl | rfl <;> omega
theorem small_all {lo hi : Int} {r : List Int} (h : allIn lo hi r = true) (h0 : 0 ≤ lo) (h1 : hi < 100) : ∀ x ∈ r, 0 ≤ x ∧ x < 100 := fun x hx => by
  obtain ⟨k, hk⟩ := List.mem_iff_getElem?.1 hx
  have := allIn_get h hk
  omega
theorem small_one {rows : List (List Int)} {r : List Int} (hl : rows.length = 1) (hr : rows.getD 0 [] = r) (h : ∀ x ∈ r, 0 ≤ x ∧ x < 100) : SmallR rows := by
  match rows, hl with
  | [a], _ =>
    intro q hq x hx
    simp at hq hr
    subst hq hr
    exact h x hx
theorem lots_small {xs : List Int} {a b : Int} (h : validLotsM xs a b = true) : (∀ x ∈ xs, 0 ≤ x ∧ x < 100) ∧ (0 ≤ a ∧ a < 100) ∧ (0 ≤ b ∧ b < 100) := by
  obtain ⟨hv, hs, hh⟩ := validLots_get h
  unfold validDaysM at hv
  simp only [Bool.and_eq_true] at hv
  exact ⟨small_all hv.2 (by omega) (by omega), by omega, by omega⟩
theorem cuts_small {xs : List Int} {R : Int} (h : cutsM xs R = true) : (∀ x ∈ xs, 0 ≤ x ∧ x < 100) ∧ (0 ≤ R ∧ R < 100) := by
  obtain ⟨h1, h2, _, _⟩ := cuts_get h
  unfold cutsM at h
  simp only [Bool.and_eq_true] at h
  exact ⟨small_all h.1 (by omega) (by omega), by omega⟩
theorem stock_small {xs : List Int} {o u : Int} (h : okO xs o u = true) : (∀ x ∈ xs, 0 ≤ x ∧ x < 100) ∧ (0 ≤ o ∧ o < 100) ∧ (0 ≤ u ∧ u < 100) := by
  obtain ⟨hc, ho0, ho1, hu0, hu1⟩ := okO_at h
  unfold chM at hc
  simp only [Bool.and_eq_true] at hc
  exact ⟨small_all hc.1.2 (by omega) (by omega), by omega, by omega⟩
/-- what the code answers -/
def codeTwo (ts : List ByteArray) : Bool := askOk 0 false ts && pairsM (rowsV (ts.getD 0 ByteArray.empty))
def codeKept (ts : List ByteArray) : Bool := askOk 0 false ts && jobsM (rowsV (ts.getD 0 ByteArray.empty))
def codeLots (ts : List ByteArray) : Bool := askOk 2 true ts && validLotsM ((rowsV (ts.getD 2 ByteArray.empty)).getD 0 []) (numV (ts.getD 0 ByteArray.empty)) (numV (ts.getD 1 ByteArray.empty))
def codeRolls (ts : List ByteArray) : Bool := askOk 1 true ts && cutsM ((rowsV (ts.getD 1 ByteArray.empty)).getD 0 []) (numV (ts.getD 0 ByteArray.empty))
def codeStock (ts : List ByteArray) : Bool := askOk 2 true ts && okO ((rowsV (ts.getD 2 ByteArray.empty)).getD 0 []) (numV (ts.getD 0 ByteArray.empty)) (numV (ts.getD 1 ByteArray.empty))
/-- the model's answer to a word and what is behind it -/
def lineB (k : ByteArray) (ts : List ByteArray) : ByteArray := wordsB (k :: ts) (rowsB ((k :: ts).getD ((k :: ts).length - 1) ByteArray.empty))
theorem ask_get {A : Nat} {isl : Bool} {ts : List ByteArray} (h : askOk A isl ts = true) : ts.length = A + 1 ∧ (∀ i, i < A → numOk (ts.getD i ByteArray.empty) = true) ∧ rowsOk (ts.getD A ByteArray.empty) = true ∧ (isl = true → (rowsV (ts.getD A ByteArray.empty)).length = 1) := by
  unfold askOk at h
  simp only [Bool.and_eq_true, decide_eq_true_eq, Bool.or_eq_true, Bool.not_eq_true'] at h
  obtain ⟨h1, h2, h3, h4⟩ := h
  refine ⟨h1, fun i hi => ?_, h3, fun e => ?_⟩
  · refine List.all_eq_true.1 h2 _ (List.mem_take_iff_getElem.2 ⟨i, by omega, ?_⟩)
    rw [List.getD_eq_getElem?_getD, List.getElem?_eq_getElem (by omega)]; rfl
  · have := rowsV_bd (ts.getD A ByteArray.empty)
    rcases h4 with h4 | h4
    · rw [e] at h4; cases h4
    · omega
theorem ask_mk {A : Nat} {isl : Bool} {ts : List ByteArray} (h1 : ts.length = A + 1) (h2 : ∀ i, i < A → numOk (ts.getD i ByteArray.empty) = true) (h3 : rowsOk (ts.getD A ByteArray.empty) = true) (h4 : isl = true → (rowsV (ts.getD A ByteArray.empty)).length = 1) : askOk A isl ts = true := by
  unfold askOk
  rw [decide_eq_true h1, h3]
  have e : (ts.take A).all numOk = true := List.all_eq_true.2 fun x hx => by
    obtain ⟨i, hi, rfl⟩ := List.mem_take_iff_getElem.1 hx
    have := h2 i (by omega)
    rwa [List.getD_eq_getElem?_getD, List.getElem?_eq_getElem (by omega)] at this
  rw [e]
  cases isl
  · rfl
  · rw [decide_eq_true (Nat.le_of_eq (h4 rfl))]; rfl
theorem two_line (ts : List ByteArray) : lineB kTwo ts = if codeTwo ts = true then twoB (rowsV (ts.getD 0 ByteArray.empty)) else sWrong := by
  unfold lineB wordsB
  rw [if_pos (show (kTwo :: ts).getD 0 ByteArray.empty = kTwo from rfl)]
  by_cases hc : codeTwo ts = true
  · rw [if_pos hc]
    unfold codeTwo at hc
    simp only [Bool.and_eq_true] at hc
    obtain ⟨h1, h2, h3, h4⟩ := ask_get hc.1
    have e := rows_of_code h3 (small_pairs hc.2)
    have hl : (kTwo :: ts).length - 1 = 1 := by simp; omega
    rw [hl, show (kTwo :: ts).getD 1 ByteArray.empty = ts.getD 0 ByteArray.empty from rfl, e, if_pos ⟨by simp; omega, hc.2⟩]
  · rw [if_neg hc, if_neg]
    rintro ⟨h1, h2⟩
    have h1 : ts.length = 1 := by simpa using h1
    have hl : (kTwo :: ts).length - 1 = 1 := by simp; omega
    rw [hl, show (kTwo :: ts).getD 1 ByteArray.empty = ts.getD 0 ByteArray.empty from rfl] at h2
    obtain ⟨e1, e2⟩ := rows_of_model (small_pairs h2)
    refine hc ?_
    unfold codeTwo
    rw [ask_mk (by omega) (fun i hi => absurd hi (by omega)) e1 (fun e => by cases e), e2, h2]; rfl
theorem kept_line (ts : List ByteArray) : lineB kKept ts = if codeKept ts = true then keptB (rowsV (ts.getD 0 ByteArray.empty)) else sWrong := by
  unfold lineB wordsB
  rw [if_neg (show (kKept :: ts).getD 0 ByteArray.empty ≠ kTwo by show kKept ≠ kTwo; decide), if_pos (show (kKept :: ts).getD 0 ByteArray.empty = kKept from rfl)]
  by_cases hc : codeKept ts = true
  · rw [if_pos hc]
    unfold codeKept at hc
    simp only [Bool.and_eq_true] at hc
    obtain ⟨h1, h2, h3, h4⟩ := ask_get hc.1
    have e := rows_of_code h3 (small_jobs hc.2)
    have hl : (kKept :: ts).length - 1 = 1 := by simp; omega
    rw [hl, show (kKept :: ts).getD 1 ByteArray.empty = ts.getD 0 ByteArray.empty from rfl, e, if_pos ⟨by simp; omega, hc.2⟩]
  · rw [if_neg hc, if_neg]
    rintro ⟨h1, h2⟩
    have h1 : ts.length = 1 := by simpa using h1
    have hl : (kKept :: ts).length - 1 = 1 := by simp; omega
    rw [hl, show (kKept :: ts).getD 1 ByteArray.empty = ts.getD 0 ByteArray.empty from rfl] at h2
    obtain ⟨e1, e2⟩ := rows_of_model (small_jobs h2)
    refine hc ?_
    unfold codeKept
    rw [ask_mk (by omega) (fun i hi => absurd hi (by omega)) e1 (fun e => by cases e), e2, h2]; rfl
theorem lots_line (ts : List ByteArray) : lineB kLots ts = if codeLots ts = true then lotsB ((rowsV (ts.getD 2 ByteArray.empty)).getD 0 []) (numV (ts.getD 0 ByteArray.empty)) (numV (ts.getD 1 ByteArray.empty)) else sWrong := by
  unfold lineB wordsB
  rw [if_neg (show (kLots :: ts).getD 0 ByteArray.empty ≠ kTwo by show kLots ≠ kTwo; decide), if_neg (show (kLots :: ts).getD 0 ByteArray.empty ≠ kKept by show kLots ≠ kKept; decide), if_pos (show (kLots :: ts).getD 0 ByteArray.empty = kLots from rfl)]
  rw [show (kLots :: ts).getD 1 ByteArray.empty = ts.getD 0 ByteArray.empty from rfl, show (kLots :: ts).getD 2 ByteArray.empty = ts.getD 1 ByteArray.empty from rfl]
  by_cases hc : codeLots ts = true
  · rw [if_pos hc]
    unfold codeLots at hc
    simp only [Bool.and_eq_true] at hc
    obtain ⟨h1, h2, h3, h4⟩ := ask_get hc.1
    obtain ⟨g1, g2, g3⟩ := lots_small hc.2
    have e := rows_of_code h3 (small_one (h4 rfl) rfl g1)
    have n0 := read_of_num (h2 0 (by omega)) g2.1 g2.2
    have n1 := read_of_num (h2 1 (by omega)) g3.1 g3.2
    have hl : (kLots :: ts).length - 1 = 3 := by simp; omega
    rw [hl, show (kLots :: ts).getD 3 ByteArray.empty = ts.getD 2 ByteArray.empty from rfl, e, n0, n1, if_pos ⟨by simp; omega, hc.2, h4 rfl⟩]
  · rw [if_neg hc, if_neg]
    rintro ⟨h1, h2, h3⟩
    have h1 : ts.length = 3 := by simpa using h1
    have hl : (kLots :: ts).length - 1 = 3 := by simp; omega
    rw [hl, show (kLots :: ts).getD 3 ByteArray.empty = ts.getD 2 ByteArray.empty from rfl] at h2 h3
    obtain ⟨g1, g2, g3⟩ := lots_small h2
    obtain ⟨e1, e2⟩ := rows_of_model (small_one h3 rfl g1)
    have n0 := num_of_read g2.1 g2.2
    have n1 := num_of_read g3.1 g3.2
    refine hc ?_
    unfold codeLots
    rw [ask_mk (by omega) (fun i hi => by rcases (show i = 0 ∨ i = 1 by omega) with rfl | rfl; exact n0.1; exact n1.1) e1 (fun _ => by rw [e2]; exact h3), e2, n0.2, n1.2, h2]; rfl
theorem rolls_line (ts : List ByteArray) : lineB kRolls ts = if codeRolls ts = true then rollsB ((rowsV (ts.getD 1 ByteArray.empty)).getD 0 []) (numV (ts.getD 0 ByteArray.empty)) else sWrong := by
  unfold lineB wordsB
  rw [if_neg (show (kRolls :: ts).getD 0 ByteArray.empty ≠ kTwo by show kRolls ≠ kTwo; decide), if_neg (show (kRolls :: ts).getD 0 ByteArray.empty ≠ kKept by show kRolls ≠ kKept; decide), if_neg (show (kRolls :: ts).getD 0 ByteArray.empty ≠ kLots by show kRolls ≠ kLots; decide), if_pos (show (kRolls :: ts).getD 0 ByteArray.empty = kRolls from rfl)]
  rw [show (kRolls :: ts).getD 1 ByteArray.empty = ts.getD 0 ByteArray.empty from rfl]
  by_cases hc : codeRolls ts = true
  · rw [if_pos hc]
    unfold codeRolls at hc
    simp only [Bool.and_eq_true] at hc
    obtain ⟨h1, h2, h3, h4⟩ := ask_get hc.1
    obtain ⟨g1, g2⟩ := cuts_small hc.2
    have e := rows_of_code h3 (small_one (h4 rfl) rfl g1)
    have n0 := read_of_num (h2 0 (by omega)) g2.1 g2.2
    have hl : (kRolls :: ts).length - 1 = 2 := by simp; omega
    rw [hl, show (kRolls :: ts).getD 2 ByteArray.empty = ts.getD 1 ByteArray.empty from rfl, e, n0, if_pos ⟨by simp; omega, h4 rfl, hc.2⟩]
  · rw [if_neg hc, if_neg]
    rintro ⟨h1, h3, h2⟩
    have h1 : ts.length = 2 := by simpa using h1
    have hl : (kRolls :: ts).length - 1 = 2 := by simp; omega
    rw [hl, show (kRolls :: ts).getD 2 ByteArray.empty = ts.getD 1 ByteArray.empty from rfl] at h2 h3
    obtain ⟨g1, g2⟩ := cuts_small h2
    obtain ⟨e1, e2⟩ := rows_of_model (small_one h3 rfl g1)
    have n0 := num_of_read g2.1 g2.2
    refine hc ?_
    unfold codeRolls
    rw [ask_mk (by omega) (fun i hi => by have e : i = 0 := (by omega); subst e; exact n0.1) e1 (fun _ => by rw [e2]; exact h3), e2, n0.2, h2]; rfl
theorem stock_line (ts : List ByteArray) : lineB kStock ts = if codeStock ts = true then stockB ((rowsV (ts.getD 2 ByteArray.empty)).getD 0 []) (numV (ts.getD 0 ByteArray.empty)) (numV (ts.getD 1 ByteArray.empty)) else sWrong := by
  unfold lineB wordsB
  rw [if_neg (show (kStock :: ts).getD 0 ByteArray.empty ≠ kTwo by show kStock ≠ kTwo; decide), if_neg (show (kStock :: ts).getD 0 ByteArray.empty ≠ kKept by show kStock ≠ kKept; decide), if_neg (show (kStock :: ts).getD 0 ByteArray.empty ≠ kLots by show kStock ≠ kLots; decide), if_neg (show (kStock :: ts).getD 0 ByteArray.empty ≠ kRolls by show kStock ≠ kRolls; decide), if_pos (show (kStock :: ts).getD 0 ByteArray.empty = kStock from rfl)]
  rw [show (kStock :: ts).getD 1 ByteArray.empty = ts.getD 0 ByteArray.empty from rfl, show (kStock :: ts).getD 2 ByteArray.empty = ts.getD 1 ByteArray.empty from rfl]
  by_cases hc : codeStock ts = true
  · rw [if_pos hc]
    unfold codeStock at hc
    simp only [Bool.and_eq_true] at hc
    obtain ⟨h1, h2, h3, h4⟩ := ask_get hc.1
    obtain ⟨g1, g2, g3⟩ := stock_small hc.2
    have e := rows_of_code h3 (small_one (h4 rfl) rfl g1)
    have n0 := read_of_num (h2 0 (by omega)) g2.1 g2.2
    have n1 := read_of_num (h2 1 (by omega)) g3.1 g3.2
    have hl : (kStock :: ts).length - 1 = 3 := by simp; omega
    rw [hl, show (kStock :: ts).getD 3 ByteArray.empty = ts.getD 2 ByteArray.empty from rfl, e, n0, n1, if_pos ⟨by simp; omega, h4 rfl, hc.2⟩]
  · rw [if_neg hc, if_neg]
    rintro ⟨h1, h3, h2⟩
    have h1 : ts.length = 3 := by simpa using h1
    have hl : (kStock :: ts).length - 1 = 3 := by simp; omega
    rw [hl, show (kStock :: ts).getD 3 ByteArray.empty = ts.getD 2 ByteArray.empty from rfl] at h2 h3
    obtain ⟨g1, g2, g3⟩ := stock_small h2
    obtain ⟨e1, e2⟩ := rows_of_model (small_one h3 rfl g1)
    have n0 := num_of_read g2.1 g2.2
    have n1 := num_of_read g3.1 g3.2
    refine hc ?_
    unfold codeStock
    rw [ask_mk (by omega) (fun i hi => by rcases (show i = 0 ∨ i = 1 by omega) with rfl | rfl; exact n0.1; exact n1.1) e1 (fun _ => by rw [e2]; exact h3), e2, n0.2, n1.2, h2]; rfl
theorem what_line (k : ByteArray) (ts : List ByteArray) (k1 : k ≠ kTwo) (k2 : k ≠ kKept) (k3 : k ≠ kLots) (k4 : k ≠ kRolls) (k5 : k ≠ kStock) : lineB k ts = sWhat := by
  unfold lineB wordsB
  rw [show (k :: ts).getD 0 ByteArray.empty = k from rfl, if_neg k1, if_neg k2, if_neg k3, if_neg k4, if_neg k5]
theorem ans_line {line k : ByteArray} {ts : List ByteArray} (h : splitB line 32 = k :: ts) : ansB line = lineB k ts := by
  unfold ansB lineB; rw [h]
end Go.Proofs.YtjcbpnffmebihaaGreatDoor
