import Derived.Test.YthmifadnfaajbacRows
import Derived.WalkKit
import Derived.LoopTactic
import Derived.Outline
import Derived.WalkSpells
import Derived.WalkLawsBesides
import Derived.ProofKit
import Derived.Lib.Hide
import Derived.Test.YthmifadnfaajbacM0
import Derived.Test.YthmifadnfaajbacM1
import Derived.Test.YthmifadnfaajbacM10
import Derived.Test.YthmifadnfaajbacM11
namespace Go.Proofs.Ythmifadnfaajbac
open Go.RowKit Go.WideShapes

-- rows that lie apart, in the exact laws
def pre11 (L : Nat → Nat) : Nat → Nat
  | 0 => 0
  | i + 1 => pre11 L i + L i
theorem pre11_le {L : Nat → Nat} {c : Nat} : ∀ n, (∀ i, i < n → L i ≤ c) → pre11 L n ≤ c * n
  | 0, _ => Nat.zero_le _
  | n + 1, h => by have := pre11_le n (fun i hi => h i (by omega)); have := h n (by omega); rw [pre11, Nat.mul_succ]; omega
/-- row i lies in block bl i, at A i, L i long; the slices lie at (b, off) -/
structure RowsSep11 (w : World) (b off n : Nat) (A : Nat → Option Addr) (L C : Nat → Nat) (bl : Nat → Nat) : Prop where
  small : n ≤ 10000
  cell : ∀ i, i < n → w.cell? ⟨b, off + i, none⟩ = some (.slice (A i) (L i) (C i))
  len : ∀ i, i < n → L i ≤ 1048576
  free : ∀ i, i < n → Free w (fun x => x = bl i) (A i) (L i)
  far : ∀ i, i < n → bl i ≠ b
  sep : ∀ i j, i < n → j < n → 0 < L i → i ≠ j → bl i ≠ bl j
def rowBlocks11 (n : Nat) (bl : Nat → Nat) (k : Nat) : Prop := ∃ i, i < n ∧ k = bl i
theorem RowsSep11.kept {w w' : World} {b off n : Nat} {A : Nat → Option Addr} {L C : Nat → Nat} {bl : Nat → Nat} (h : RowsSep11 w b off n A L C bl) (g : KeptBut (rowBlocks11 n bl) w w') : RowsSep11 w' b off n A L C bl :=
  ⟨h.small, fun i hi => by rw [World.cell?_of_block (w := w) (g.block b (fun ⟨j, hj, e⟩ => h.far j hj e.symm))]; exact h.cell i hi, h.len, fun i hi => (h.free i hi).kept g, h.far, h.sep⟩
theorem RowsSep11.to {w w' : World} {b off n : Nat} {A : Nat → Option Addr} {L C : Nat → Nat} {bl : Nat → Nat} (h : RowsSep11 w b off n A L C bl) (g : 0 < n → w'.heap[b]? = w.heap[b]?) (g2 : ∀ i, i < n → 0 < L i → w'.heap[bl i]? = w.heap[bl i]?) : RowsSep11 w' b off n A L C bl :=
  ⟨h.small, fun i hi => by rw [World.cell?_of_block (w := w) (g (by omega))]; exact h.cell i hi, h.len, fun i hi => by
    by_cases h0 : 0 < L i
    · exact (h.free i hi).to (fun k hk => ⟨hk, by rw [hk]; exact g2 i hi h0⟩)
    · exact ⟨(h.free i hi).small, fun h1 => absurd h1 h0⟩, h.far, h.sep⟩
def MarkedRows11 (w : World) (n : Nat) (A : Nat → Option Addr) (L : Nat → Nat) (bl : Nat → Nat) : Prop := ∀ i, i < n → IntsAt w (fun x => x = bl i) (A i) (L i) (upFrom (1 + (pre11 L i : Int)) (L i))
theorem MarkedRows11.to {w w' : World} {n : Nat} {A : Nat → Option Addr} {L : Nat → Nat} {bl : Nat → Nat} (h : MarkedRows11 w n A L bl) (g2 : ∀ i, i < n → 0 < L i → w'.heap[bl i]? = w.heap[bl i]?) : MarkedRows11 w' n A L bl := fun i hi =>
  ⟨(h i hi).lenEq, (h i hi).small, fun h0 => ((h i hi).to (w' := w') (S' := fun x => x = bl i) (fun k hk => ⟨hk, by rw [hk]; exact g2 i hi h0⟩)).cells h0⟩
def MarkRowsPost11 (w : World) (n : Nat) (A : Nat → Option Addr) (L : Nat → Nat) (bl : Nat → Nat) (e : Ending) (w' : World) : Prop :=
  e = .returned (.int .i64 (1 + (pre11 L n : Int))) ∧ MarkedRows11 w' n A L bl ∧ KeptBut (rowBlocks11 n bl) w w'
set_option maxRecDepth 100000 in
set_option maxHeartbeats 2000000 in
theorem markRows11_any {w : World} {b off n : Nat} {A : Nat → Option Addr} {L C : Nat → Nat} {bl : Nat → Nat} (a : Option Addr) (cap : Nat) (ha : 0 < n → a = some ⟨b, off, none⟩) (h : RowsSep11 w b off n A L C bl) :
    Calls Try.prog 23 #[.slice a n cap, .int .i64 1] w (MarkRowsPost11 w n A L bl) := by
  have hn3 := h.small
  have HH := Lib.hid h
  clear h
  go_enter Try.func23, Try.ntmps23
  go_wp2
  go_loopw [1, 5] (fun q i wr => ∃ m : Nat, m ≤ n ∧ i = .int .i64 m ∧ q = .int .i64 (1 + (pre11 L m : Int)) ∧ KeptBut (rowBlocks11 n bl) w wr ∧ ∀ i, i < m → IntsAt wr (fun x => x = bl i) (A i) (L i) (upFrom (1 + (pre11 L i : Int)) (L i))) (fun _ i _ => n - (intOf i).toNat)
  case atStart => exact ⟨0, Nat.zero_le _, rfl, rfl, KeptBut.refl _ _, fun i hi => absurd hi (by omega)⟩
  case round =>
    obtain ⟨m, hm, rfl, rfl, hk, hi⟩ := hrel
    have HK := Lib.hid hk
    have HI := Lib.hid hi
    clear hi
    by_cases hlt : m < n
    · obtain rfl := ha (by omega)
      have hs := HH.out.kept hk
      have hc := hs.cell m hlt
      have hf := hs.free m hlt
      have hl := hs.len m hlt
      have hp := pre11_le (L := L) (c := 1048576) m (fun i hi => HH.out.len i (by omega))
      have HPS := Lib.hid (show pre11 L (m + 1) = pre11 L m + L m from rfl)
      have HSEP := Lib.hid (fun i (hi : i < m) (h0 : 0 < L i) => HH.out.sep i m (by omega) hlt h0 (by omega))
      clear hs hk
      obtain ⟨Am, hAm⟩ : ∃ x, A m = x := ⟨_, rfl⟩
      obtain ⟨Lm, hLm⟩ : ∃ x, L m = x := ⟨_, rfl⟩
      obtain ⟨pm, hpm⟩ : ∃ x, pre11 L m = x := ⟨_, rfl⟩
      have HAM := Lib.hid hAm
      have HLM := Lib.hid hLm
      have HPM := Lib.hid hpm
      rw [hAm, hLm] at hc hf
      rw [hLm] at hl HPS
      rw [hpm] at hp HPS ⊢
      clear hAm hLm hpm
      go_wp2_with fail
      refine (markIntS_any (fun x => x = bl m) Am Lm _ (1 + (pm : Int)) wr hf (by omega) (by omega) (by omega)).mono ?_
      rintro e w3 ⟨rfl, hi3, hk3⟩
      have HI3 := Lib.hid hi3
      have HK3 := Lib.hid hk3
      clear hi3 hk3 hf
      go_wp2_with fail
      go_roundw
      case rel =>
        refine ⟨m + 1, by omega, by go_num, by rw [HPS.out]; congr 1; push_cast; omega, HK.out.trans (HK3.out.wide (fun k hk => ⟨m, hlt, hk⟩)), fun i hi => ?_⟩
        by_cases e : i = m
        · subst e; rw [HAM.out, HLM.out, HPM.out]; exact HI3.out
        · have h1 := HI.out i (by omega)
          refine ⟨h1.lenEq, h1.small, fun h0 => ?_⟩
          exact (HK3.out.ints h1 (fun k hk e2 => HSEP.out i (by omega) h0 (hk.symm.trans e2))).cells h0
      case measure => simp [intOf]; omega
    · obtain rfl : m = n := by omega
      clear hk
      obtain ⟨pm, hpm⟩ : ∃ x, pre11 L m = x := ⟨_, rfl⟩
      have HPM := Lib.hid hpm
      rw [hpm]
      clear hpm
      go_wp2_with fail
      go_ret
      exact ⟨by rw [HPM.out]; rfl, HI.out, HK.out⟩
set_option maxRecDepth 100000 in
set_option maxHeartbeats 2000000 in
theorem heldRows11_any {w : World} {b off n : Nat} {A : Nat → Option Addr} {L C : Nat → Nat} {bl : Nat → Nat} (a : Option Addr) (cap : Nat) (ha : 0 < n → a = some ⟨b, off, none⟩) (h : RowsSep11 w b off n A L C bl) (hm : MarkedRows11 w n A L bl) :
    Calls Try.prog 24 #[.slice a n cap, .int .i64 1] w fun e w' => e = .returned (.int .i64 (1 + (pre11 L n : Int))) ∧ w = w' := by
  have hn3 := h.small
  have HH := Lib.hid h
  have HM := Lib.hid hm
  clear h hm
  go_enter Try.func24, Try.ntmps24
  go_wp2
  go_loop [1, 5] (fun q i => ∃ m : Nat, m ≤ n ∧ i = .int .i64 m ∧ q = .int .i64 (1 + (pre11 L m : Int))) (fun _ i => n - (intOf i).toNat)
  case atStart => exact ⟨0, Nat.zero_le _, rfl, rfl⟩
  case round =>
    obtain ⟨m, hm, rfl, rfl⟩ := hrel
    by_cases hlt : m < n
    · obtain rfl := ha (by omega)
      have hc := HH.out.cell m hlt
      have hl := HH.out.len m hlt
      have hi := HM.out m hlt
      have hp := pre11_le (L := L) (c := 1048576) m (fun i hi => HH.out.len i (by omega))
      have HPS := Lib.hid (show pre11 L (m + 1) = pre11 L m + L m from rfl)
      generalize A m = Am at *
      generalize L m = Lm at *
      generalize pre11 L m = pm at *
      go_wp2_with fail
      refine (heldIntS_any (fun x => x = bl m) Am Lm _ (1 + (pm : Int)) w hi (by omega) (by omega) (by omega)).mono ?_
      rintro e w3 ⟨rfl, rfl⟩
      have hnn : ¬ (1 + (pm : Int) + (Lm : Int)) < 0 := by omega
      go_wp2_with fail
      go_round
      case rel => exact ⟨m + 1, by omega, by go_num, by rw [HPS.out]; congr 1; push_cast; omega⟩
      case measure => simp [intOf]; omega
    · obtain rfl : m = n := by omega
      obtain ⟨pm, hpm⟩ : ∃ x, pre11 L m = x := ⟨_, rfl⟩
      have HPM := Lib.hid hpm
      rw [hpm]
      clear hpm
      go_wp2_with fail
      go_ret
      exact ⟨by rw [HPM.out]; rfl, rfl⟩
def blkV (u : Value) : Nat := u.ownBlock.getD 0
def capV (u : Value) : Nat := match u with | .slice _ _ c => c | _ => 0
/-- patterns lie apart -/
theorem Pats.sep11 {w : World} {B : Nat} {v : Value} {rows : List (List Int)} (h : Pats w B v rows) (hn : rows.length ≤ 10000) : ∃ (a : Option Addr) (c G : Nat) (A : Nat → Option Addr) (L C bl : Nat → Nat), v = .slice a rows.length c ∧ (0 < rows.length → a = some ⟨G, 0, none⟩) ∧
    RowsSep11 w G 0 rows.length A L C bl ∧ (0 < rows.length → B ≤ G ∧ G < w.heap.size) ∧ ∀ i, i < rows.length → B ≤ bl i ∧ bl i < w.heap.size := by
  obtain ⟨us, h1, h2, h3⟩ := h
  have hul : us.length = rows.length := by simpa using h1.1
  have hat : ∀ i, i < rows.length → ∃ (u : Value) (g c : Nat) (r : List Int), us[i]? = some u ∧ rows[i]? = some r ∧ u = .slice (some ⟨g, 0, none⟩) r.length c ∧ r.length ≤ 1048576 ∧ w.ownsRow B 3 1 u r.length (r.map (.int .i64)) := fun i hi => by
    obtain ⟨u, hu⟩ : ∃ u, us[i]? = some u := ⟨us[i]'(by omega), List.getElem?_eq_getElem _⟩
    obtain ⟨g, c, r, e1, e2, _, e4, e5⟩ := h2 i u hu
    exact ⟨u, g, c, r, hu, e1, e2, e4, e5⟩
  obtain ⟨a, c, hv, _⟩ := own_slice h1
  by_cases h0 : 0 < rows.length
  · obtain ⟨G, C, e, hb, hlt⟩ := h1.form h0
    rw [hv] at e
    injection e with e1 _ e3
    subst e1 e3
    rw [hv] at h1
    refine ⟨_, c, G, fun i => some ⟨blkV (us.getD i (.slice none 0 0)), 0, none⟩, fun i => (rows.getD i []).length, fun i => capV (us.getD i (.slice none 0 0)), fun i => blkV (us.getD i (.slice none 0 0)), hv, fun _ => rfl, ⟨hn, fun i hi => ?_, fun i hi => ?_, fun i hi => ?_, fun i hi => ?_, fun i j hi hj _ hij => ?_⟩, fun _ => ⟨hb, hlt⟩, fun i hi => ?_⟩
    all_goals
      obtain ⟨u, g, c2, r, hu, hr, e2, e4, e5⟩ := hat i hi
      have d1 : us.getD i (.slice none 0 0) = u := by rw [List.getD_eq_getElem?_getD, hu]; rfl
      have d2 : rows.getD i [] = r := by rw [List.getD_eq_getElem?_getD, hr]; rfl
      try dsimp only
      try rw [d1]
      try rw [d2]
      subst e2
    · rw [Nat.zero_add]
      exact (h1.cellAt i (by omega)).trans hu
    · exact e4
    · refine ⟨by omega, fun _ => ⟨g, 0, rfl, rfl, fun q hq => ⟨?_, e5.frozenAt _⟩⟩⟩
      have := e5.cellAt q (by omega)
      rw [Nat.zero_add, this]
      exact ⟨_, List.getElem?_eq_getElem (by rw [List.length_map]; exact hq)⟩
    · obtain ⟨x, hx⟩ := own_kind e5 (g := g) rfl
      obtain ⟨y, hy⟩ := own_kind h1 (g := G) rfl
      exact ne_type hx hy (by decide)
    · obtain ⟨u2, g2, c3, r2, hu2, _, f2, _⟩ := hat j hj
      have d3 : us.getD j (.slice none 0 0) = u2 := by rw [List.getD_eq_getElem?_getD, hu2]; rfl
      rw [d3]
      subst f2
      have := h3 i j _ _ hij hu hu2
      exact fun e => this (congrArg some e)
    · exact e5.lt g rfl
  · refine ⟨a, c, 0, fun _ => none, fun _ => 0, fun _ => 0, fun _ => 0, hv, fun h => absurd h h0, ⟨hn, fun i hi => by omega, fun i hi => by omega, fun i hi => by omega, fun i hi => by omega, fun i j hi => by omega⟩, fun h => absurd h h0, fun i hi => by omega⟩
end Go.Proofs.Ythmifadnfaajbac
