import Derived.Test.YtjcbpnffmebihaaGreatDoorA18
import Derived.Test.YtjcbpnffmebihaaGreatDoorRows
import Derived.WalkKit
import Derived.LoopTactic
import Derived.Outline
import Derived.WalkSpells
import Derived.WalkLawsBesides
import Derived.ProofKit
import Derived.Lib.Hide
import Derived.Laws.ResultCell
import Derived.IntWalk
namespace Go.Proofs.YtjcbpnffmebihaaGreatDoor
open Go.RowKit Go.WideShapes

def rowsOk (s : ByteArray) : Bool := (splitB s 47).all fun l => (splitB l 44).all numOk
def rowV (l : ByteArray) : List Int := (splitB l 44).map numV
def rowsV (s : ByteArray) : List (List Int) := (splitB s 47).map rowV
/-- the rows of a text, or an error of the desk's own -/
def RowsPost (w : World) (s : ByteArray) (e : Ending) (w' : World) : Prop :=
  (rowsOk s = true ∧ ∃ (a : Option Addr) (cap : Nat), e = .returned (.tuple #[.slice a (rowsV s).length cap, .nilIface]) ∧ (rowsV s).length ≤ cap ∧ Pats w' w.heap.size (.slice a (rowsV s).length cap) (rowsV s) ∧ Below w.heap.size w w') ∨
  (rowsOk s = false ∧ (∃ m, e = .returned (.tuple #[.slice none 0 0, .iface 56 (.agg #[.string m])])) ∧ Below w.heap.size w w')
theorem rowsV_len (s : ByteArray) : (rowsV s).length = (splitB s 47).length := List.length_map _
theorem rowsV_bd (s : ByteArray) : 1 ≤ (rowsV s).length ∧ (rowsV s).length ≤ s.size + 1 := by rw [rowsV_len]; exact splitB_pos s 47
set_option maxRecDepth 100000 in
set_option maxHeartbeats 4000000 in
/-- the rows that are written in a text -/
theorem readRows_impl (s : ByteArray) (w : World) (hE : EnvD w) (h10 : 10 ≤ w.heap.size) (hs : s.size ≤ 1048575) :
    Calls Tryz.prog 72 #[.string s] w (RowsPost w s) := by
  have hlen := splitB_pos s 47
  have HSZ := Lib.hid (splitB_size s 47)
  have n1 := iface_ne
  have n2 := nil_ne
  have HE := Lib.hid hE
  have H10 := Lib.hid h10
  clear hE h10
  go_enter Tryz.func72, Tryz.ntmps72
  go_wp2_with fail
  refine (strSplit s 47 w HE.out (by omega)).mono ?_
  rintro e w1 ⟨rfl, hst, hb1, hz1⟩
  have HB1 := Lib.hid hb1
  have HZ1 := Lib.hid hz1
  have HST := Lib.hid hst
  have HE1 := Lib.hid (HE.out.below H10.out hb1)
  have H101 := Lib.hid (show 10 ≤ w1.heap.size by have := H10.out; omega)
  have HP0 := Lib.hid (Pats.nil w1 w1.heap.size)
  obtain ⟨n, hn⟩ : ∃ n, n = (splitB s 47).length := ⟨_, rfl⟩
  have HN := Lib.hid hn
  rw [← hn]
  rw [← hn] at hlen
  clear hst hb1 hz1 hn
  go_wp2_with fail
  go_loopw [4, 12] (fun v i wr => ∃ (k cp : Nat) (ax : Option Addr), k ≤ n ∧ i = .int .i64 k ∧ v = .slice ax k cp ∧ k ≤ cp ∧ Pats wr w1.heap.size (.slice ax k cp) (((splitB s 47).take k).map rowV) ∧ (((splitB s 47).take k).all fun l => (splitB l 44).all numOk) = true ∧ Below w1.heap.size w1 wr) (fun _ i _ => n - (intOf i).toNat)
  case atStart => exact ⟨0, 0, none, Nat.zero_le _, rfl, rfl, Nat.le_refl _, HP0.out, rfl, Below.refl _ _⟩
  case round =>
    obtain ⟨k, cp, ax, hk, rfl, rfl, hkc, hpats, hall, hB⟩ := hrel
    obtain ⟨wo, rfl⟩ : ∃ wo : World, wo = wr := ⟨_, rfl⟩
    have HP := Lib.hid hpats
    have HA := Lib.hid hall
    have HB := Lib.hid hB
    have HSI := Lib.hid hB.size
    by_cases hlt : k < n
    · have hki : (k : Int) < (n : Int) := by omega
      obtain ⟨bl, ofl, l, e0, hlk, hcl⟩ := (HST.out.to (w' := wo) (S' := fun _ => True) fun b hb => ⟨trivial, hB.block b (by have := HZ1.out; omega)⟩).get (k := k) (by have := HN.out; omega)
      injection e0 with e0
      injection e0 with q1 q2
      subst q1 q2
      rw [Nat.zero_add] at hcl
      have hll : l.size ≤ 1048575 := Nat.le_trans (HSZ.out l (List.mem_of_getElem? hlk)) hs
      have HLK := Lib.hid hlk
      have hll2 := splitB_pos l 44
      have HLZ := Lib.hid (splitB_size l 44)
      have HEO := Lib.hid (HE1.out.below H101.out hB)
      have H10O := Lib.hid (Nat.le_trans H101.out hB.size)
      clear hpats hall hB hlk
      go_wp2_with fail
      refine (strSplit l 44 wo HEO.out (by omega)).mono ?_
      rintro e w2 ⟨rfl, hst2, hb2, hz2⟩
      have HB2 := Lib.hid hb2
      have HZ2 := Lib.hid hz2
      have HE2 := Lib.hid (HEO.out.below H10O.out hb2)
      have HST2 := Lib.hid (hst2.to (w' := w2) (S' := (· < w2.heap.size)) fun b hb => ⟨by rw [hb]; omega, rfl⟩)
      obtain ⟨m, hm⟩ : ∃ m, m = (splitB l 44).length := ⟨_, rfl⟩
      have HM := Lib.hid hm
      rw [← hm] at HST2 hll2 ⊢
      clear hst2 hb2 hz2 hm
      go_wp2_with fail
      refine (readNumbers_any _ m m (splitB l 44) w2 HE2.out (by have := H10O.out; have := HZ2.out; omega) HST2.out (fun t ht => by have := HLZ.out t ht; omega) (by omega)).mono ?_
      rintro e w3 (⟨hok, rfl, hrow, hb3⟩ | ⟨hbad, ⟨msg, rfl⟩, hb3⟩)
      · have HB3 := Lib.hid (HB2.out.trans (hb3.mono (by have := HZ2.out; omega)))
        have hrl : ((splitB l 44).map numV).length = m := by rw [List.length_map]; exact HM.out.symm
        have HRW := Lib.hid (show ((splitB s 47).take (k + 1)).map rowV = ((splitB s 47).take k).map rowV ++ [(splitB l 44).map numV] by rw [take_get HLK.out, List.map_append]; rfl)
        have HRA := Lib.hid (show (((splitB s 47).take (k + 1)).all fun l => (splitB l 44).all numOk) = true by rw [take_get HLK.out, List.all_append, HA.out]; simp [hok])
        have hrk : (((splitB s 47).take k).map rowV).length = k := by rw [List.length_map, List.length_take]; have := HN.out; omega
        have HHB := Lib.hid hb3
        clear hok hb3
        generalize (splitB l 44).map numV = r at *
        generalize hR : ((splitB s 47).take k).map rowV = R at *
        subst hrl
        have HP1 := Lib.hid (Pats.one (B := w2.heap.size) HHB.out.size hrow (by omega))
        have HKP := Lib.hid (show ∀ b, w1.heap.size ≤ b → b < wo.heap.size → (w3.alloc (.cells #[.slice (some ⟨w2.heap.size, 0, none⟩) r.length r.length] 35)).heap[b]? = wo.heap[b]? from fun b _ hb => by
          rw [Below.heap_alloc _ _ _ (by have := HB3.out.size; omega)]; exact HB3.out.block b hb)
        have HS1 := Lib.hid (show wo.heap.size ≤ (w3.alloc (.cells #[.slice (some ⟨w2.heap.size, 0, none⟩) r.length r.length] 35)).heap.size by have := HB3.out.size; simp; omega)
        clear hrow
        go_wp2_with (at_builtin; refine wpPats (w0 := wo) rfl _ _ rfl w1.heap.size w2.heap.size (.slice ax k cp) _ R [r] rfl rfl HP.out HKP.out HS1.out HP1.out (by have := HSI.out; have := HZ2.out; omega) (by have := HZ2.out; omega) (by have := HSI.out; have := HS1.out; omega) (by simp; omega) ?_)
        intro v8 w8 hp8 hgr8 _
        obtain ⟨a8, c8, ev8, hc8⟩ := hp8.slice
        have hl8 : (R ++ [r]).length = k + 1 := by rw [List.length_append, hrk]; rfl
        rw [hl8] at ev8 hc8
        subst ev8
        have HB8 := Lib.hid ((((HB.out.trans (HB3.out.mono HSI.out)).alloc (by have := HSI.out; have := HB3.out.size; omega) _).grown hgr8 (by have := HSI.out; have := HS1.out; omega) (pats_base HP.out)))
        have HP8 := Lib.hid (HRW.out.symm ▸ hp8)
        clear hp8 hgr8
        go_wp2
        go_roundw
        case rel => exact ⟨k + 1, c8, a8, by omega, by go_num, rfl, hc8, HP8.out, HRA.out, HB8.out⟩
        case measure => simp [intOf] <;> omega
      · have HNO := Lib.hid (show rowsOk s = false from List.all_eq_false.2 ⟨l, List.mem_of_getElem? HLK.out, by rw [hbad]; simp⟩)
        have HB3 := Lib.hid ((HB1.out.trans (HB.out.mono HB1.out.size)).trans ((HB2.out.trans (hb3.mono (by have := HZ2.out; omega))).mono (by have := HSI.out; have := HZ1.out; omega)))
        clear hbad hb3
        go_wp2_with fail
        go_ret2
        exact .inr ⟨HNO.out, ⟨msg, rfl⟩, HB3.out⟩
    · obtain rfl : k = n := by omega
      have HT := Lib.hid (show (splitB s 47).take k = splitB s 47 from List.take_of_length_le (by rw [HN.out]; omega))
      have HOK := Lib.hid (show rowsOk s = true by have := HA.out; rwa [HT.out] at this)
      have HPP := Lib.hid (show Pats wo w1.heap.size (.slice ax k cp) (rowsV s) by have := HP.out; rwa [HT.out] at this)
      have HKL := Lib.hid (show (rowsV s).length = k by rw [rowsV_len]; exact HN.out.symm)
      clear hpats hall hB
      go_wp2_with fail
      go_ret2
      refine .inl ⟨HOK.out, ax, cp, ?_, ?_, ?_, HB1.out.trans (HB.out.mono HB1.out.size)⟩
      · rw [HKL.out]; rfl
      · rw [HKL.out]; exact hkc
      · rw [HKL.out]; exact HPP.out.mono (by have := HZ1.out; omega)
end Go.Proofs.YtjcbpnffmebihaaGreatDoor
namespace Go.Proofs.YtjcbpnffmebihaaGreatDoor
open Go.RowKit Go.WideShapes

/-- a line's parts behind its word are as a command asks that has A numbers ahead of the rows -/
def askOk (A : Nat) (isl : Bool) (ts : List ByteArray) : Bool :=
  decide (ts.length = A + 1) && ((ts.take A).all numOk && (rowsOk (ts.getD A ByteArray.empty) && (!isl || decide ((rowsV (ts.getD A ByteArray.empty)).length ≤ 1))))
/-- a question, or an error of the desk's own -/
def AskPost (w : World) (A : Nat) (isl : Bool) (ts : List ByteArray) (e : Ending) (w' : World) : Prop :=
  (askOk A isl ts = true ∧ ∃ (a1 : Option Addr) (c1 : Nat) (a2 : Option Addr) (l2 c2 : Nat), e = .returned (.tuple #[.agg #[.slice a1 A c1, .slice a2 l2 c2], .nilIface]) ∧ A ≤ c1 ∧ IntsAt w' (fun b => w.heap.size ≤ b ∧ b < w'.heap.size) a1 A ((ts.take A).map numV) ∧
    RowsAt w' (fun b => w.heap.size ≤ b ∧ b < w'.heap.size) a2 l2 (rowsV (ts.getD A ByteArray.empty)) ∧ l2 ≤ c2 ∧ Below w.heap.size w w') ∨
  (askOk A isl ts = false ∧ (∃ m, e = .returned (.tuple #[.agg #[.slice none 0 0, .slice none 0 0], .iface 56 (.agg #[.string m])])) ∧ Below w.heap.size w w')
set_option maxRecDepth 100000 in
set_option maxHeartbeats 8000000 in
theorem read_any (A : Nat) (isl : Bool) (f : Value) (hA : A ≤ 2) (b off len cap : Nat) (ts : List ByteArray) (w : World) (hE : EnvD w) (h10 : 10 ≤ w.heap.size) (h : StrsAt w (· < w.heap.size) (some ⟨b, off, none⟩) len ts) (hz : ∀ t ∈ ts, t.size ≤ 1048575) (hl : len ≤ 1048576) (hlc : len ≤ cap) :
    Calls Tryz.prog 49 #[.agg #[.int .i64 A, .bool isl, f], .slice (some ⟨b, off, none⟩) len cap] w (AskPost w A isl ts) := by
  have HL := Lib.hid h.lenEq
  have HX := Lib.hid hz
  have HE := Lib.hid hE
  have H10 := Lib.hid h10
  have hwA : IntKind.i64.wrap ((A : Int) + 1) = (A : Int) + 1 := IntWalk.i64_in _ (by omega)
  have n1 := iface_ne
  have n2 := nil_ne
  clear hz hE h10
  go_enter Tryz.func49, Tryz.ntmps49
  by_cases hn : len = A + 1
  · subst hn
    have hne : (((A : Int) + 1) == ((A : Int) + 1)) = true := beq_self_eq_true _
    go_wp2_with fail
    obtain ⟨w2, hw2⟩ : ∃ w2 : World, w2 = ((w.alloc (.cells #[.int .i64 A, .bool isl, f] 73)).alloc (.cells #[.slice none 0 0, .slice none 0 0] 77)) := ⟨_, rfl⟩
    rw [← hw2]
    have hs2 : w2.heap.size = w.heap.size + 2 := by rw [hw2]; simp
    have HB2 := Lib.hid (show Below w.heap.size w w2 by rw [hw2]; exact ((Below.refl _ w).alloc (Nat.le_refl _) _).alloc (by simp) _)
    have hp0 : w2.cell? ⟨w.heap.size, 0, none⟩ = some (.int .i64 A) := by rw [hw2]; simp [World.cell?_alloc_lt]
    have hp1 : w2.cell? ⟨w.heap.size, 1, none⟩ = some (.bool isl) := by rw [hw2]; simp [World.cell?_alloc_lt]
    have hr0 : w2.cell? ⟨w.heap.size + 1, 0, none⟩ = some (.slice none 0 0) := by rw [hw2]; simp
    have hr1 : w2.cell? ⟨w.heap.size + 1, 1, none⟩ = some (.slice none 0 0) := by rw [hw2]; simp
    have hz0 : ∀ i : Nat, w2.frozen? ⟨w.heap.size + 1, i, none⟩ = false := by rw [hw2]; intro i; simp
    have HE2 := Lib.hid (HE.out.below H10.out HB2.out)
    have H102 := Lib.hid (show 10 ≤ w2.heap.size by have := H10.out; omega)
    have HST := Lib.hid (h.to (w' := w2) (S' := (· < w2.heap.size)) fun b hb => ⟨by omega, HB2.out.block b hb⟩)
    obtain ⟨b', of', t, e0, ht, hct⟩ := HST.out.get (k := A) (by omega)
    injection e0 with e0
    injection e0 with q1 q2
    subst q1 q2
    have hbl : b < w2.heap.size := by
      obtain ⟨b', o', e', hS, _⟩ := HST.out.cells (by omega)
      injection e' with e'; injection e' with e' _; subst e'; exact hS
    have HBL := Lib.hid hbl
    have HT := Lib.hid (getD_at ht)
    have HTZ := Lib.hid (HX.out t (List.mem_of_getElem? ht))
    have HTK := Lib.hid (show StrsAt w2 (· < w2.heap.size) (some ⟨b, off, none⟩) A (ts.take A) from ⟨by rw [List.length_take, HL.out]; omega, by omega, fun _ => by
      obtain ⟨b', o', e', hS, hc⟩ := HST.out.cells (by omega)
      exact ⟨b', o', e', hS, fun i x hx => hc i x (by rw [List.getElem?_take] at hx; split at hx; exact hx; cases hx)⟩⟩)
    clear hw2 ht hbl
    refine (readNumbers_any _ A cap (ts.take A) w2 HE2.out H102.out HTK.out (fun x hx => by have := HX.out x (List.mem_of_mem_take hx); omega) (by omega)).mono ?_
    rintro e w3 (⟨hok, rfl, hrow, hb3⟩ | ⟨hbad, ⟨msg, rfl⟩, hb3⟩)
    · have HOK := Lib.hid hok
      have HROW := Lib.hid hrow
      have HB3 := Lib.hid hb3
      have hs3 : w2.heap.size ≤ w3.heap.size := hb3.size
      have hp0 := cell_up hp0 (by omega) hb3
      have hp1 := cell_up hp1 (by omega) hb3
      have hr0 := cell_up hr0 (by omega) hb3
      have hr1 := cell_up hr1 (by omega) hb3
      have hct := cell_up hct HBL.out hb3
      have hz0 : ∀ i : Nat, w3.frozen? ⟨w.heap.size + 1, i, none⟩ = false := fun i => (hb3.frozen (p := ⟨w.heap.size + 1, i, none⟩) (by show _ + 1 < _; omega)).trans (hz0 i)
      clear hok hrow
      rename_i c1 c2 c3 c4 c5 c6
      clear c1 c2 c3 c4 c5 c6
      go_wp2_with fail
      refine (readRows_impl t w3 (HE2.out.below H102.out HB3.out) (Nat.le_trans H102.out hs3) HTZ.out).mono ?_
      rintro e w4 (⟨hok2, a2, c2, rfl, hc2, hpt, hb4⟩ | ⟨hbad, ⟨msg, rfl⟩, hb4⟩)
      · have HOK2 := Lib.hid hok2
        have hrl := rowsV_bd t
        have htz := HTZ.out
        have HRA := Lib.hid (hpt.rowsAt rfl (by omega))
        have HB4 := Lib.hid (HB3.out.trans (hb4.mono hs3))
        have HIN := Lib.hid (own_keep HROW.out (w' := w4) fun b _ _ hb => hb4.block b hb)
        have hs4 : w3.heap.size ≤ w4.heap.size := hb4.size
        have hp1 := cell_up hp1 (by omega) hb4
        have hr0 := cell_up hr0 (by omega) hb4
        have hr1 := cell_up hr1 (by omega) hb4
        have hz0 : ∀ i : Nat, w4.frozen? ⟨w.heap.size + 1, i, none⟩ = false := fun i => (hb4.frozen (p := ⟨w.heap.size + 1, i, none⟩) (by show _ + 1 < _; omega)).trans (hz0 i)
        clear hok2 hpt hb4 hp0 hct htz
        generalize hnR : (rowsV t).length = nR at *
        have HNR := Lib.hid hnR
        clear hnR
        cases isl
        · have HY := Lib.hid (show askOk A false ts = true from by unfold askOk; rw [decide_eq_true HL.out, HOK.out, HT.out, HOK2.out]; rfl)
          go_wp2_with fail
          have HI5 := Lib.hid (own_keep HIN.out (w' := (w4.setCell ⟨w.heap.size + 1, 0, none⟩ (.slice (some ⟨w2.heap.size, 0, none⟩) A A)).setCell ⟨w.heap.size + 1, 1, none⟩ (.slice a2 nR c2)) fun b _ hB _ => (Below.heap_setCell _ _ _ _ (by show b ≠ w.heap.size + 1; omega)).trans (Below.heap_setCell _ _ _ _ (by show b ≠ w.heap.size + 1; omega)))
          have HR5 := Lib.hid (HRA.out.to (w' := (w4.setCell ⟨w.heap.size + 1, 0, none⟩ (.slice (some ⟨w2.heap.size, 0, none⟩) A A)).setCell ⟨w.heap.size + 1, 1, none⟩ (.slice a2 nR c2)) (S' := fun b => w.heap.size ≤ b ∧ b < ((w4.setCell ⟨w.heap.size + 1, 0, none⟩ (.slice (some ⟨w2.heap.size, 0, none⟩) A A)).setCell ⟨w.heap.size + 1, 1, none⟩ (.slice a2 nR c2)).heap.size) fun b hb => ⟨⟨by omega, by simp only [World.size_setCell]; exact hb.2⟩, (Below.heap_setCell _ _ _ _ (by show b ≠ w.heap.size + 1; omega)).trans (Below.heap_setCell _ _ _ _ (by show b ≠ w.heap.size + 1; omega))⟩)
          rw [hs2] at HI5 HR5
          refine bodyPost_ret (v := .tuple #[.agg #[.slice (some ⟨w.heap.size + 2, 0, none⟩) A A, .slice a2 nR c2], .nilIface]) ?_ rfl ?_
          · simp only [results, Tryz.results49, go_sem]; simp [go_sem, hr0, hr1]
          · obtain ⟨a', c', e', _, hints⟩ := own_ints HI5.out (by omega)
            injection e' with e1 _ _
            subst e1
            refine .inl ⟨HY.out, _, A, a2, nR, c2, rfl, Nat.le_refl _, hints.to fun b hb => ⟨⟨by omega, hb.2⟩, rfl⟩, by rw [HT.out]; exact HR5.out, hc2, ?_⟩
            have HBX := Lib.hid (HB2.out.trans (HB4.out.mono HB2.out.size))
            repeat' first | exact Below.refl _ _ | exact HBX.out | refine Below.setCell ?_ (by first | (show _ ≤ _ + 1; omega) | exact Nat.le_refl _) _ | refine Below.alloc ?_ (by first | omega | (simp; done) | (simp; omega)) _
        · by_cases h1 : 1 < nR
          · have h1I : (1 : Int) < (nR : Int) := by omega
            have HN := Lib.hid (show askOk A true ts = false by unfold askOk; rw [HT.out, HNR.out, decide_eq_false (show ¬ nR ≤ 1 by omega)]; simp)
            have HBX := Lib.hid (show Below w.heap.size w _ from HB2.out.trans (HB4.out.mono HB2.out.size))
            go_wp2_with fail
            refine bodyPost_ret (v := .tuple #[.agg #[.slice none 0 0, .slice none 0 0], .iface 56 (.agg #[.string ⟨#[109, 111, 114, 101, 32, 116, 104, 97, 110, 32, 111, 110, 101, 32, 114, 111, 119]⟩])]) ?_ rfl ?_
            · simp only [results, Tryz.results49, go_sem]; simp [go_sem, hr0, hr1]
            · refine .inr ⟨HN.out, ⟨_, rfl⟩, ?_⟩
              repeat' first | exact Below.refl _ _ | exact HBX.out | refine Below.setCell ?_ (by first | (show _ ≤ _ + 1; omega) | exact Nat.le_refl _) _ | refine Below.alloc ?_ (by first | omega | (simp; done) | (simp; omega)) _
          · have h1I : ¬ (1 : Int) < (nR : Int) := by omega
            have HY := Lib.hid (show askOk A true ts = true from by unfold askOk; rw [decide_eq_true HL.out, HOK.out, HT.out, HOK2.out, HNR.out, decide_eq_true (show nR ≤ 1 by omega)]; rfl)
            go_wp2_with fail
            have HI5 := Lib.hid (own_keep HIN.out (w' := (w4.setCell ⟨w.heap.size + 1, 0, none⟩ (.slice (some ⟨w2.heap.size, 0, none⟩) A A)).setCell ⟨w.heap.size + 1, 1, none⟩ (.slice a2 nR c2)) fun b _ hB _ => (Below.heap_setCell _ _ _ _ (by show b ≠ w.heap.size + 1; omega)).trans (Below.heap_setCell _ _ _ _ (by show b ≠ w.heap.size + 1; omega)))
            have HR5 := Lib.hid (HRA.out.to (w' := (w4.setCell ⟨w.heap.size + 1, 0, none⟩ (.slice (some ⟨w2.heap.size, 0, none⟩) A A)).setCell ⟨w.heap.size + 1, 1, none⟩ (.slice a2 nR c2)) (S' := fun b => w.heap.size ≤ b ∧ b < ((w4.setCell ⟨w.heap.size + 1, 0, none⟩ (.slice (some ⟨w2.heap.size, 0, none⟩) A A)).setCell ⟨w.heap.size + 1, 1, none⟩ (.slice a2 nR c2)).heap.size) fun b hb => ⟨⟨by omega, by simp only [World.size_setCell]; exact hb.2⟩, (Below.heap_setCell _ _ _ _ (by show b ≠ w.heap.size + 1; omega)).trans (Below.heap_setCell _ _ _ _ (by show b ≠ w.heap.size + 1; omega))⟩)
            rw [hs2] at HI5 HR5
            refine bodyPost_ret (v := .tuple #[.agg #[.slice (some ⟨w.heap.size + 2, 0, none⟩) A A, .slice a2 nR c2], .nilIface]) ?_ rfl ?_
            · simp only [results, Tryz.results49, go_sem]; simp [go_sem, hr0, hr1]
            · obtain ⟨a', c', e', _, hints⟩ := own_ints HI5.out (by omega)
              injection e' with e1 _ _
              subst e1
              refine .inl ⟨HY.out, _, A, a2, nR, c2, rfl, Nat.le_refl _, hints.to fun b hb => ⟨⟨by omega, hb.2⟩, rfl⟩, by rw [HT.out]; exact HR5.out, hc2, ?_⟩
              have HBX := Lib.hid (HB2.out.trans (HB4.out.mono HB2.out.size))
              repeat' first | exact Below.refl _ _ | exact HBX.out | refine Below.setCell ?_ (by first | (show _ ≤ _ + 1; omega) | exact Nat.le_refl _) _ | refine Below.alloc ?_ (by first | omega | (simp; done) | (simp; omega)) _
      · have hs4 : w3.heap.size ≤ w4.heap.size := hb4.size
        have hr0 := cell_up hr0 (by omega) hb4
        have hr1 := cell_up hr1 (by omega) hb4
        have hz0 : ∀ i : Nat, w4.frozen? ⟨w.heap.size + 1, i, none⟩ = false := fun i => (hb4.frozen (p := ⟨w.heap.size + 1, i, none⟩) (by show _ + 1 < _; omega)).trans (hz0 i)
        have HN := Lib.hid (show askOk A isl ts = false by unfold askOk; rw [HT.out, hbad]; simp)
        have HBX := Lib.hid (show Below w.heap.size w _ from HB2.out.trans ((HB3.out.trans (hb4.mono hs3)).mono HB2.out.size))
        go_wp2_with fail
        refine bodyPost_ret (v := .tuple #[.agg #[.slice none 0 0, .slice none 0 0], .iface 56 (.agg #[.string msg])]) ?_ rfl ?_
        · simp only [results, Tryz.results49, go_sem]; simp [go_sem, hr0, hr1]
        · refine .inr ⟨HN.out, ⟨_, rfl⟩, ?_⟩
          repeat' first | exact Below.refl _ _ | exact HBX.out | refine Below.setCell ?_ (by first | (show _ ≤ _ + 1; omega) | exact Nat.le_refl _) _ | refine Below.alloc ?_ (by first | omega | (simp; done) | (simp; omega)) _
    · have hr0 := cell_up hr0 (by omega) hb3
      have hr1 := cell_up hr1 (by omega) hb3
      have hz0 : ∀ i : Nat, w3.frozen? ⟨w.heap.size + 1, i, none⟩ = false := fun i => (hb3.frozen (p := ⟨w.heap.size + 1, i, none⟩) (by show _ + 1 < _; omega)).trans (hz0 i)
      have HN := Lib.hid (show askOk A isl ts = false by unfold askOk; rw [hbad]; simp)
      have HBX := Lib.hid (show Below w.heap.size w _ from HB2.out.trans (hb3.mono HB2.out.size))
      go_wp2_with fail
      refine bodyPost_ret (v := .tuple #[.agg #[.slice none 0 0, .slice none 0 0], .iface 56 (.agg #[.string msg])]) ?_ rfl ?_
      · simp only [results, Tryz.results49, go_sem]; simp [go_sem, hr0, hr1]
      · refine .inr ⟨HN.out, ⟨_, rfl⟩, ?_⟩
        repeat' first | exact Below.refl _ _ | exact HBX.out | refine Below.setCell ?_ (by first | (show _ ≤ _ + 1; omega) | exact Nat.le_refl _) _ | refine Below.alloc ?_ (by first | omega | (simp; done) | (simp; omega)) _
  · have hne : ((len : Int) == (A : Int) + 1) = false := by rw [beq_eq_false_iff_ne]; omega
    have HN := Lib.hid (show askOk A isl ts = false by unfold askOk; rw [decide_eq_false (by rw [HL.out]; exact hn)]; rfl)
    go_wp2_with fail
    refine bodyPost_ret (v := .tuple #[.agg #[.slice none 0 0, .slice none 0 0], .iface 56 (.agg #[.string ⟨#[110, 111, 116, 32, 97, 115, 32, 109, 97, 110, 121, 32, 112, 97, 114, 116, 115, 32, 97, 115, 32, 97, 114, 101, 32, 97, 115, 107, 101, 100, 32, 102, 111, 114]⟩])]) ?_ rfl ?_
    · simp only [results, Tryz.results49, go_sem]; simp [go_sem]
    · refine .inr ⟨HN.out, ⟨_, rfl⟩, ?_⟩
      repeat' first | exact Below.refl _ _ | refine Below.setCell ?_ (by first | (show _ ≤ _ + 1; omega) | exact Nat.le_refl _) _ | refine Below.alloc ?_ (by first | omega | (simp; done) | (simp; omega)) _
theorem read_yes {A : Nat} {isl : Bool} {f : Value} {b off len cap : Nat} {ts : List ByteArray} {w : World} (hk : askOk A isl ts = true) (hA : A ≤ 2) (hE : EnvD w) (h10 : 10 ≤ w.heap.size) (h : StrsAt w (· < w.heap.size) (some ⟨b, off, none⟩) len ts) (hz : ∀ t ∈ ts, t.size ≤ 1048575) (hl : len ≤ 1048576) (hlc : len ≤ cap) :
    Calls Tryz.prog 49 #[.agg #[.int .i64 A, .bool isl, f], .slice (some ⟨b, off, none⟩) len cap] w fun e w' => ∃ (a1 : Option Addr) (c1 : Nat) (a2 : Option Addr) (l2 c2 : Nat), e = .returned (.tuple #[.agg #[.slice a1 A c1, .slice a2 l2 c2], .nilIface]) ∧ A ≤ c1 ∧ IntsAt w' (fun b => w.heap.size ≤ b ∧ b < w'.heap.size) a1 A ((ts.take A).map numV) ∧
      RowsAt w' (fun b => w.heap.size ≤ b ∧ b < w'.heap.size) a2 l2 (rowsV (ts.getD A ByteArray.empty)) ∧ l2 ≤ c2 ∧ Below w.heap.size w w' :=
  (read_any A isl f hA b off len cap ts w hE h10 h hz hl hlc).mono fun _ _ hp => by
    rcases hp with ⟨_, hp⟩ | ⟨hn, _⟩
    · exact hp
    · rw [hk] at hn; cases hn
theorem read_no {A : Nat} {isl : Bool} {f : Value} {b off len cap : Nat} {ts : List ByteArray} {w : World} (hk : askOk A isl ts = false) (hA : A ≤ 2) (hE : EnvD w) (h10 : 10 ≤ w.heap.size) (h : StrsAt w (· < w.heap.size) (some ⟨b, off, none⟩) len ts) (hz : ∀ t ∈ ts, t.size ≤ 1048575) (hl : len ≤ 1048576) (hlc : len ≤ cap) :
    Calls Tryz.prog 49 #[.agg #[.int .i64 A, .bool isl, f], .slice (some ⟨b, off, none⟩) len cap] w fun e w' => (∃ m, e = .returned (.tuple #[.agg #[.slice none 0 0, .slice none 0 0], .iface 56 (.agg #[.string m])])) ∧ Below w.heap.size w w' :=
  (read_any A isl f hA b off len cap ts w hE h10 h hz hl hlc).mono fun _ _ hp => by
    rcases hp with ⟨hn, _⟩ | ⟨_, hp⟩
    · rw [hk] at hn; cases hn
    · exact hp
end Go.Proofs.YtjcbpnffmebihaaGreatDoor
namespace Go.Proofs.YtjcbpnffmebihaaGreatDoor

def okC (T : List Int) (c : Int) (s r : Nat) : Prop := dif r s = 0 ∧ csum T (fun i => (dif s r).testBit i) T.length ≤ c
instance (T : List Int) (c : Int) (s r : Nat) : Decidable (okC T c s r) := by unfold okC; infer_instance
end Go.Proofs.YtjcbpnffmebihaaGreatDoor
namespace Go.Proofs.YtjcbpnffmebihaaGreatDoor
open Go.RowKit Go.WideShapes

theorem p2_le {n : Nat} (h : n ≤ 20) : 1 ≤ 2 ^ n ∧ 2 ^ n ≤ 1048576 := ⟨Nat.two_pow_pos n, by have := Nat.pow_le_pow_right (n := 2) (by omega) h; omega⟩
theorem allOf_any (n : Nat) (hn : n ≤ 20) (w : World) :
    Calls Tryz.prog 190 #[.int .i64 n] w fun e w' => e = .returned (.int .i64 (((2 ^ n - 1 : Nat) : Nat) : Int)) ∧ w = w' := by
  have hp := p2_le hn
  go_enter Tryz.func190, Tryz.ntmps190
  go_wp2
  go_ret
  refine ⟨ret_int ?_, rfl⟩
  have e : ((2 : Int) ^ n) = ((2 ^ n : Nat) : Int) := by push_cast; rfl
  rw [e]
  generalize 2 ^ n = p at hp ⊢
  have e1 : wrap64 (p : Int) = p := w64_id (by omega) (by omega)
  rw [e1]
  have e2 : wrap64 ((p : Int) - 1) = (p : Int) - 1 := w64_id (by omega) (by omega)
  rw [e2]
  omega
end Go.Proofs.YtjcbpnffmebihaaGreatDoor
namespace Go.Proofs.YtjcbpnffmebihaaGreatDoor
open Go.RowKit Go.WideShapes

/-- where the job that comes at place k stands, and its times -/
theorem job_at {w : World} {S T : Nat → Prop} {a a2 : Option Addr} {len len2 : Nat} {rows : List (List Int)} {o : List Int} (h : RowsAt w S a len rows) (g : IntsAt w T a2 len2 o) (hP : ∀ r ∈ rows, r.length = 2 ∧ (0 ≤ r.getD 0 0 ∧ r.getD 0 0 ≤ 9) ∧ (0 ≤ r.getD 1 0 ∧ r.getD 1 0 ≤ 9))
    (ho : ∀ x ∈ o, 0 ≤ x ∧ x < (len : Int)) {k : Nat} (hk : k < len2) : ∃ (b off q b2 off2 b3 off3 c : Nat), a2 = some ⟨b, off, none⟩ ∧ a = some ⟨b2, off2, none⟩ ∧ o[k]? = some (q : Int) ∧ q < len ∧ w.cell? ⟨b, off + k, none⟩ = some (.int .i64 (q : Int)) ∧
      w.cell? ⟨b2, off2 + q, none⟩ = some (.slice (some ⟨b3, off3, none⟩) 2 c) ∧ w.cell? ⟨b3, off3, none⟩ = some (.int .i64 (ta rows q)) ∧ w.cell? ⟨b3, off3 + 1, none⟩ = some (.int .i64 (tb rows q)) := by
  obtain ⟨b, off, x, rfl, hx, hc⟩ := g.get hk
  have hxb := ho x (List.mem_of_getElem? hx)
  obtain ⟨q, rfl⟩ : ∃ q : Nat, x = (q : Int) := ⟨x.toNat, by omega⟩
  have hql : q < len := by omega
  obtain ⟨b2, off2, r, a', l, c, rfl, hr, hcr, _, hri⟩ := h.get hql
  obtain ⟨hr2, _, _⟩ := hP r (List.mem_of_getElem? hr)
  have hl2 : l = 2 := by rw [← hri.lenEq, hr2]
  subst hl2
  obtain ⟨b3, off3, x3, rfl, h3, hc3⟩ := hri.get (k := 0) (by omega)
  obtain ⟨b4, off4, x4, e4, h4, hc4⟩ := hri.get (k := 1) (by omega)
  cases e4
  have ht := t_at hr
  rw [getD_of h3, getD_of h4] at ht
  rw [Nat.add_zero] at hc3
  exact ⟨b, off, q, b2, off2, b3, off3, c, rfl, rfl, hx, hql, hc, hcr, by rw [ht.1]; exact hc3, by rw [ht.2]; exact hc4⟩
end Go.Proofs.YtjcbpnffmebihaaGreatDoor
namespace Go.Proofs.YtjcbpnffmebihaaGreatDoor
open Go.RowKit Go.WideShapes

theorem pair_allIn {r : List Int} (h : r.length = 2) : pairB r = allIn 0 9 r := by
  obtain ⟨x, y, rfl⟩ : ∃ x y, r = [x, y] := by
    cases r with
    | nil => simp at h
    | cons x r => cases r with
      | nil => simp at h
      | cons y r => cases r with
        | nil => exact ⟨x, y, rfl⟩
        | cons z r => simp at h
  simp [pairB, allIn]
theorem validPairs_impl (S : Nat → Prop) (a : Option Addr) (len cap : Nat) (rows : List (List Int)) (w : World) (h : RowsAt w S a len rows) (hc : len ≤ cap) :
    Calls Tryz.prog 83 #[.slice a len cap] w fun e w' => e = .returned (.bool (pairsM rows)) ∧ Drew w w' := by
  have hs := h.small
  have HL := Lib.hid h.lenEq
  by_cases h8 : len ≤ 8
  · go_enter Tryz.func83, Tryz.ntmps83
    go_wp2_with fail
    go_loop [10] (fun i => ∃ k : Nat, k ≤ len ∧ i = .int .i64 k ∧ (rows.take k).all pairB = true) (fun i => len - (intOf i).toNat)
    case atStart => exact ⟨0, Nat.zero_le _, rfl, rfl⟩
    case round =>
      obtain ⟨k, hk, rfl, ha⟩ := hrel
      have HA := Lib.hid ha
      clear ha
      by_cases hlt : k < len
      · obtain ⟨b, off, r, a', l, c, rfl, hx, hcx, _, hr⟩ := h.get hlt
        have HX := Lib.hid hx
        have HRL := Lib.hid hr.lenEq
        have hrs := hr.small
        clear hx
        have hkl : (k : Int) < (len : Int) := by omega
        by_cases hl2 : l = 2
        · subst hl2
          have HP := Lib.hid (pair_allIn HRL.out)
          cases hq : allIn 0 9 r
          · go_wp2_with (go_at_call 105; refine (allUpTo_any _ _ _ _ r 9 _ hr).mono ?_; rintro e w' ⟨rfl, rfl⟩)
            go_ret
            exact ⟨ret_bool (by rw [pairs_false HX.out (by rw [HP.out, hq])]), Drew.refl _⟩
          · go_wp2_with (go_at_call 105; refine (allUpTo_any _ _ _ _ r 9 _ hr).mono ?_; rintro e w' ⟨rfl, rfl⟩)
            go_round
            case rel => exact ⟨k + 1, by omega, by go_num, by
              rw [take_get HX.out, List.all_append, HA.out]
              simp only [List.all_cons, List.all_nil, Bool.and_true, Bool.true_and]
              rw [HP.out, hq]⟩
            case measure => simp [intOf]; omega
        · have hle : ((l : Int) != 2) = true := by simp; omega
          go_wp2_with fail
          go_ret
          exact ⟨ret_bool (by rw [pairs_false HX.out (by unfold pairB; rw [HRL.out, beq_eq_false_iff_ne.2 hl2]; rfl)]), Drew.refl _⟩
      · go_wp2_with fail
        go_ret
        have ha := HA.out
        have hl := HL.out
        rw [List.take_of_length_le (by omega)] at ha
        exact ⟨ret_bool (by rw [pairsM, ha, hl, Bool.true_and]; exact (decide_eq_true h8).symm), Drew.refl _⟩
  · have HF := Lib.hid (show pairsM rows = false by unfold pairsM; rw [HL.out, decide_eq_false h8, Bool.and_false])
    go_enter Tryz.func83, Tryz.ntmps83
    go_wp2_with fail
    go_ret
    exact ⟨ret_bool HF.out.symm, Drew.refl _⟩
-- orders
theorem nodup_cover {α : Type} [DecidableEq α] : ∀ (l s : List α), s.Nodup → s ⊆ l → l.length ≤ s.length → l.Nodup := by
  intro l
  induction l with
  | nil => intro s _ _ _; exact List.nodup_nil
  | cons x t ih =>
    intro s hn hs hl
    have hx : x ∉ t := by
      intro hm
      have h1 : s ⊆ t := fun y hy => by
        rcases List.mem_cons.1 (hs hy) with rfl | h
        · exact hm
        · exact h
      have := List.Nodup.length_le_of_subset hn h1
      simp at hl; omega
    refine List.nodup_cons.2 ⟨hx, ih (s.erase x) (hn.erase x) (fun y hy => ?_) ?_⟩
    · have h1 := (List.Nodup.mem_erase_iff hn).1 hy
      rcases List.mem_cons.1 (hs h1.2) with h | h
      · exact absurd h h1.1
      · exact h
    · have : s.length - 1 ≤ (s.erase x).length := by rw [List.length_erase]; split <;> omega
      simp at hl; omega
theorem order_full {o : List Int} {n D : Nat} (hr : ∀ x ∈ o, 0 ≤ x ∧ x < (n : Int)) (hl : o.length = n) (hD : ∀ i, D.testBit i = decide ((i : Int) ∈ o)) : orderM o n = decide (D = 2 ^ n - 1) := by
  rw [Bool.eq_iff_iff, decide_eq_true_eq]
  constructor
  · intro h
    have hp := nO_perm (orderM_get h)
    apply Nat.eq_of_testBit_eq
    intro i
    rw [hD, Nat.testBit_two_pow_sub_one]
    refine decide_eq_decide.2 ⟨fun hm => by have := hr _ hm; omega, fun hi => ?_⟩
    have := hp.mem_iff.2 (List.mem_range.2 hi)
    obtain ⟨y, hy, rfl⟩ := List.mem_map.1 this
    have := hr y hy
    rwa [Int.toNat_of_nonneg this.1]
  · intro h
    subst h
    refine decide_eq_true ⟨⟨hr, ?_⟩, hl⟩
    have hn : (nO o).Nodup := nodup_cover (nO o) (List.range n) List.nodup_range (fun i hi => by
      have hi := List.mem_range.1 hi
      have := hD i
      rw [Nat.testBit_two_pow_sub_one, decide_eq_true hi] at this
      have hm := of_decide_eq_true this.symm
      exact List.mem_map.2 ⟨(i : Int), hm, by simp⟩) (by simp [nO, hl])
    exact (List.pairwise_map.1 hn).imp (fun {x y} h e => h (by rw [e]))
set_option maxHeartbeats 1000000 in
theorem isOrder_any (S : Nat → Prop) (a : Option Addr) (len cap : Nat) (o : List Int) (n : Nat) (w : World) (h : IntsAt w S a len o) (hn : n ≤ 8) :
    Calls Tryz.prog 176 #[.slice a len cap, .int .i64 n] w fun e w' => e = .returned (.bool (orderM o n)) ∧ w = w' := by
  have hs := h.small
  have HL := Lib.hid h.lenEq
  by_cases hln : len = n
  · subst hln
    have hp8 : 1 ≤ 2 ^ len ∧ 2 ^ len ≤ 256 := ⟨Nat.two_pow_pos _, Nat.pow_le_pow_right (n := 2) (j := 8) (by omega) hn⟩
    have HALL := Lib.hid (fun w => allOf_any len (by omega) w)
    have hneq : ((len : Int) != (len : Int)) = false := by simp
    go_enter Tryz.func176, Tryz.ntmps176
    go_wp2_with fail
    go_loop [5, 14] (fun s i => ∃ k D : Nat, k ≤ len ∧ i = .int .i64 k ∧ s = .int .i64 (D : Int) ∧ (∀ x ∈ o.take k, 0 ≤ x ∧ x < (len : Int)) ∧ ∀ i, D.testBit i = decide ((i : Int) ∈ o.take k)) (fun _ i => len - (intOf i).toNat)
    case atStart => exact ⟨0, 0, Nat.zero_le _, rfl, rfl, fun x hx => by simp at hx, fun i => by simp⟩
    case round =>
      obtain ⟨k, D, hk, rfl, rfl, h1, h3⟩ := hrel
      have hD : D < 2 ^ len := Nat.lt_pow_two_of_testBit _ (fun i hi => by
        rw [h3]; exact decide_eq_false (fun hm => by have := h1 _ hm; omega))
      have H1 := Lib.hid h1
      have H3 := Lib.hid h3
      clear h1 h3
      by_cases hlt : k < len
      · obtain ⟨b, off, x, rfl, hx, hc⟩ := h.get hlt
        have HX := Lib.hid hx
        have hkl : (k : Int) < (len : Int) := by omega
        clear hx
        cases hq : inB 0 ((len : Int) - 1) x
        · go_wp2_with (go_at_call 118; refine (isUpTo_any _ _ _).mono ?_; rintro e w' ⟨rfl, rfl⟩)
          go_ret
          exact ⟨ret_bool (order_bad HX.out hq).symm, rfl⟩
        · have hxb : 0 ≤ x ∧ x ≤ (len : Int) - 1 := by simpa [inB] using hq
          obtain ⟨q, rfl⟩ : ∃ q : Nat, x = (q : Int) := ⟨x.toNat, by omega⟩
          have hpq : 1 ≤ 2 ^ q ∧ 2 ^ q ≤ 256 := ⟨Nat.two_pow_pos _, Nat.pow_le_pow_right (n := 2) (j := 8) (by omega) (by omega)⟩
          obtain ⟨pq, hpqe⟩ : ∃ pq, 2 ^ q = pq := ⟨_, rfl⟩
          have HPQ := Lib.hid hpqe
          rw [hpqe] at hpq
          clear hpqe
          go_wp2_with (go_at_call 118; refine (isUpTo_any _ _ _).mono ?_; rintro e w' ⟨rfl, rfl⟩)
          go_round
          case rel => exact ⟨k + 1, D ||| pq, by omega, by go_num, by
              rw [show ((2 : Int) ^ q) = ((pq : Nat) : Int) by rw [← HPQ.out]; push_cast; rfl, w64_id (by omega) (by omega), i_or D pq (by omega) (by omega)], fun x hx => by
              rw [take_get HX.out] at hx
              rcases List.mem_append.1 hx with hx | hx
              · exact H1.out x hx
              · simp at hx; omega, fun i => by
              rw [← HPQ.out, Nat.testBit_or, H3.out, take_get HX.out, Nat.testBit_two_pow, Bool.eq_iff_iff]
              simp only [Bool.or_eq_true, decide_eq_true_eq, List.mem_append, List.mem_singleton]
              exact or_congr Iff.rfl ⟨fun e => by omega, fun e => by omega⟩⟩
          case measure => simp [intOf] <;> omega
      · obtain rfl : k = len := by omega
        have hall : o.take k = o := List.take_of_length_le (by rw [HL.out]; omega)
        have HF := Lib.hid (show orderM o k = ((D : Int) == ((2 ^ k - 1 : Nat) : Int)) by
          have h1 := H1.out
          have h3 := H3.out
          rw [hall] at h1 h3
          rw [order_full h1 HL.out h3, Bool.eq_iff_iff, decide_eq_true_eq, beq_iff_eq]
          omega)
        generalize 2 ^ k - 1 = p at *
        clear hall
        go_wp2_with (go_at_call 190; refine (HALL.out _).mono ?_; rintro e w' ⟨rfl, rfl⟩)
        go_ret
        exact ⟨ret_bool HF.out.symm, rfl⟩
  · have HF := Lib.hid (show orderM o n = false from decide_eq_false fun hp => by have := hp.2; have := HL.out; omega)
    have hne : ((len : Int) != (n : Int)) = true := by simp; omega
    go_enter Tryz.func176, Tryz.ntmps176
    go_wp2_with fail
    go_ret
    exact ⟨ret_bool HF.out.symm, rfl⟩
-- the span
set_option maxHeartbeats 1000000 in
theorem spanIn_any (S T : Nat → Prop) (a : Option Addr) (len cap : Nat) (rows : List (List Int)) (a2 : Option Addr) (len2 cap2 : Nat) (o : List Int) (w : World) (h : RowsAt w S a len rows) (g : IntsAt w T a2 len2 o) (hp : pairsM rows = true) (ho : ∀ x ∈ o, 0 ≤ x ∧ x < (len : Int)) (hl : len2 ≤ 8) :
    Calls Tryz.prog 147 #[.slice a len cap, .slice a2 len2 cap2] w fun e w' => e = .returned (.int .i64 (spanT (ta rows) (tb rows) (nO o))) ∧ w = w' := by
  have HL := Lib.hid g.lenEq
  have HP := Lib.hid (pairs_get hp).2
  have HBD := Lib.hid (run_bd hp)
  have HO := Lib.hid ho
  have HT := Lib.hid (t_bd hp)
  clear hp ho
  go_enter Tryz.func147, Tryz.ntmps147
  go_wp2_with fail
  go_loop [5, 6, 11] (fun av bv i => ∃ k : Nat, k ≤ len2 ∧ i = .int .i64 k ∧ av = .int .i64 (runT (ta rows) (tb rows) (0, 0) (nO (o.take k))).1 ∧ bv = .int .i64 (runT (ta rows) (tb rows) (0, 0) (nO (o.take k))).2) (fun _ _ i => len2 - (intOf i).toNat)
  case atStart => exact ⟨0, Nat.zero_le _, rfl, rfl, rfl⟩
  case round =>
    obtain ⟨k, hk, rfl, rfl, rfl⟩ := hrel
    by_cases hlt : k < len2
    · obtain ⟨b, off, q, b2, off2, b3, off3, c, rfl, rfl, hx, hql, hc, hcr, hc3, hc4⟩ := job_at h g HP.out HO.out hlt
      have hb := HBD.out (nO (o.take k))
      have ht := HT.out q
      have hkl : ((nO (o.take k)).length : Int) ≤ 8 := by unfold nO; rw [List.length_map, List.length_take]; omega
      have HN := Lib.hid (show runT (ta rows) (tb rows) (0, 0) (nO (o.take (k + 1))) = stT (ta rows) (tb rows) (runT (ta rows) (tb rows) (0, 0) (nO (o.take k))) q by
        rw [nO_snoc hx, runT_snoc, Int.toNat_natCast])
      have HN1 := Lib.hid (show (runT (ta rows) (tb rows) (0, 0) (nO (o.take (k + 1)))).1 = (runT (ta rows) (tb rows) (0, 0) (nO (o.take k))).1 + ta rows q by rw [HN.out]; rfl)
      have HN2 := Lib.hid (show (runT (ta rows) (tb rows) (0, 0) (nO (o.take (k + 1)))).2 = max ((runT (ta rows) (tb rows) (0, 0) (nO (o.take k))).1 + ta rows q) (runT (ta rows) (tb rows) (0, 0) (nO (o.take k))).2 + tb rows q by rw [HN.out]; rfl)
      have hqi : (q : Int) < (len : Int) := by omega
      have hkk : (k : Int) < (len2 : Int) := by omega
      clear hx HN
      generalize (runT (ta rows) (tb rows) (0, 0) (nO (o.take k))).1 = va at *
      generalize (runT (ta rows) (tb rows) (0, 0) (nO (o.take k))).2 = vb at *
      generalize ta rows q = x3 at *
      generalize tb rows q = x4 at *
      by_cases hmx : vb < va + x3
      · have HM := Lib.hid (HN2.out.trans (show _ = va + x3 + x4 by rw [show max (va + x3) vb = va + x3 by omega]))
        go_wp2_with fail
        go_round
        case rel => exact ⟨k + 1, by omega, by go_num, by rw [HN1.out], by rw [HM.out]⟩
        case measure => simp [intOf] <;> omega
      · have HM := Lib.hid (HN2.out.trans (show _ = vb + x4 by rw [show max (va + x3) vb = vb by omega]))
        go_wp2_with fail
        go_round
        case rel => exact ⟨k + 1, by omega, by go_num, by rw [HN1.out], by rw [HM.out]⟩
        case measure => simp [intOf] <;> omega
    · obtain rfl : k = len2 := by omega
      have HE := Lib.hid (show (runT (ta rows) (tb rows) (0, 0) (nO (o.take k))).2 = spanT (ta rows) (tb rows) (nO o) by rw [List.take_of_length_le (by rw [HL.out]; omega)]; rfl)
      go_wp2_with fail
      go_ret
      exact ⟨ret_int HE.out, rfl⟩
end Go.Proofs.YtjcbpnffmebihaaGreatDoor
namespace Go.Proofs.YtjcbpnffmebihaaGreatDoor
/-- a part that a row takes, and how many -/
abbrev Part (xs : List Int) := { x : Nat × Int // xs[x.1]? = some x.2 ∧ 0 < x.2 }
end Go.Proofs.YtjcbpnffmebihaaGreatDoor
