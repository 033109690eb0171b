import Derived.Test.YthmifadnfaajbacRows
import Derived.WalkKit
import Derived.LoopTactic
import Derived.Outline
import Derived.WalkSpells
import Derived.WalkLawsBesides
import Derived.ProofKit
import Derived.Lib.Hide
import Derived.IntWalk
import Derived.Test.YthmifadnfaajbacM0
import Derived.Test.YthmifadnfaajbacM1
import Derived.Test.YthmifadnfaajbacM13
import Derived.Test.YthmifadnfaajbacM19
import Derived.Test.YthmifadnfaajbacM20
import Derived.Test.YthmifadnfaajbacM10
import Derived.Test.YthmifadnfaajbacM2
import Derived.Test.YthmifadnfaajbacM12
import Derived.Test.YthmifadnfaajbacM11
import Derived.Test.YthmifadnfaajbacM16
import Derived.Test.YthmifadnfaajbacM7
import Derived.Deep.QuietTactic
import Derived.BigQuiet
import Derived.RegionTactic
import Derived.BigRegion
import Derived.Test.YthmifadnfaajbacM3
namespace Go.Proofs.Ythmifadnfaajbac
open Go.RowKit Go.WideShapes

-- chapter 11's code: firstFor of listed cuts
theorem room_hasR {R y : Int} {L lf : List Int} {k : Nat} (hl : lf.length = L.length) (he : ∀ j, j < L.length → lf.getD j 0 = R - L.getD j 0) (hk : k = room lf y) : k ≤ L.length ∧ (∀ j, j < k → hasR R L j y = false) ∧ hasR R L k y = true := by
  subst hk
  have hle := room_le lf y
  refine ⟨by omega, fun j hj => ?_, ?_⟩
  · have h1 := room_lt hj
    rw [he j (by omega)] at h1
    unfold hasR
    rw [decide_eq_false (by omega), decide_eq_false (by omega)]; rfl
  · unfold hasR
    rcases Nat.lt_or_ge (room lf y) lf.length with g | g
    · have h1 := room_ge g
      rw [he _ (by omega)] at h1
      rw [decide_eq_true (p := y ≤ R - L.getD (room lf y) 0) (by omega), Bool.or_true]
    · rw [decide_eq_true (by omega)]; rfl
set_option maxRecDepth 100000 in
set_option maxHeartbeats 2000000 in
theorem firstForL_any {w : World} {B r : Nat} {R : Int} {v : Value} {vs : List Value} {rows : List (List (Int × Int))} {n : Nat} (h : RollsL w B r R v vs rows) (hok : RowsOk Prod.fst rows n) (hn : n ≤ 20) (hR : 0 ≤ R ∧ R ≤ 20) (y p : Int) {k : Nat} (hk : k ≤ rows.length) (h1 : ∀ j, j < k → hasR R (loadsOf Prod.fst rows) j y = false) (h2 : hasR R (loadsOf Prod.fst rows) k y = true) :
    Calls Try.prog 31 #[.pointer (some ⟨r, 0, none⟩), .agg #[.int .i64 y, .int .i64 p]] w fun e w' => e = .returned (.int .i64 k) ∧ Below w.heap.size w w' := by
  have HB0 := Lib.hid ((Below.refl w.heap.size w).alloc (Nat.le_refl _) (.cells #[.int .i64 y, .int .i64 p] 54))
  have HBX := Lib.hid (heap_alloc_new w (.cells #[.int .i64 y, .int .i64 p] 54))
  have hlen := hok.len
  have HRM := Lib.hid (fun (W : World) (hb : Below w.heap.size w W) (j : Nat) (hj : j ≤ rows.length) => hasRoomL_any (RollsW.keep (w' := W) h (fun b _ hb2 => hb.block b hb2)) hok hn hR hj y p)
  have H1 := Lib.hid h1
  have H2 := Lib.hid h2
  clear h hok h1 h2
  go_enter Try.func31, Try.ntmps31
  go_wp2_with fail
  go_loopw [5] (fun s wr => ∃ j : Nat, j ≤ k ∧ s = .int .i64 j ∧ Below (w.heap.size + 1) (w.alloc (.cells #[.int .i64 y, .int .i64 p] 54)) wr) (fun s _ => k + 1 - (intOf s).toNat)
  case atStart => exact ⟨0, Nat.zero_le _, rfl, Below.refl _ _⟩
  case round =>
    obtain ⟨j, hj, rfl, hbr⟩ := hrel
    have HBR := Lib.hid hbr
    have e0 : wr.cell? ⟨w.heap.size, 0, none⟩ = some (.int .i64 y) := (hbr.cell (p := ⟨w.heap.size, 0, none⟩) (by show w.heap.size < _; omega)).trans (by rw [cell_of_row _ _ _ _ _ _ HBX.out]; rfl)
    have e1 : wr.cell? ⟨w.heap.size, 1, none⟩ = some (.int .i64 p) := (hbr.cell (p := ⟨w.heap.size, 1, none⟩) (by show w.heap.size < _; omega)).trans (by rw [cell_of_row _ _ _ _ _ _ HBX.out]; rfl)
    have HC := Lib.hid (HRM.out wr (HB0.out.trans (hbr.mono (by omega))) j (by omega))
    have hsz := hbr.size
    have hsz2 : (w.alloc (.cells #[.int .i64 y, .int .i64 p] 54)).heap.size = w.heap.size + 1 := by simp
    have HSZ := Lib.hid (show w.heap.size + 1 ≤ wr.heap.size by omega)
    clear hbr hsz hsz2
    by_cases hlt : j < k
    · rw [H1.out j hlt] at HC
      go_wp2_with (first | (go_at_call 51; refine HC.out.mono ?_; rintro e w2 ⟨rfl, hb2⟩) | fail)
      have HB2 := Lib.hid (HBR.out.trans (hb2.mono HSZ.out))
      clear hb2 e0 e1
      go_roundw
      case rel => exact ⟨j + 1, by omega, by go_num, HB2.out⟩
      case measure => simp [intOf]; omega
    · obtain rfl : j = k := by omega
      rw [H2.out] at HC
      go_wp2_with (first | (go_at_call 51; refine HC.out.mono ?_; rintro e w2 ⟨rfl, hb2⟩) | fail)
      go_ret
      exact ⟨rfl, HB0.out.trans ((HBR.out.trans (hb2.mono HSZ.out)).mono (by omega))⟩
end Go.Proofs.Ythmifadnfaajbac
namespace Go.Proofs.Ythmifadnfaajbac
open Go.RowKit Go.WideShapes

-- chapter 11's code: RollsBy
theorem putL_putR {R x : Int} {lf L : List Int} (hl : lf.length = L.length) (he : ∀ j, j < L.length → lf.getD j 0 = R - L.getD j 0) : (putL R lf x).length = (putR L (room lf x) x).length ∧ ∀ j, j < (putR L (room lf x) x).length → (putL R lf x).getD j 0 = R - (putR L (room lf x) x).getD j 0 := by
  have hle := room_le lf x
  have h1 : (putL R lf x).length = (putR L (room lf x) x).length := by rw [putL_len, putR_len, hl]
  refine ⟨h1, fun j hj => ?_⟩
  rw [putL_getD R lf x (by omega)]
  rw [putR_len] at hj
  unfold putR
  by_cases e : room lf x = L.length
  · rw [if_pos e] at hj ⊢
    rw [getD_snocI]
    by_cases g : j < L.length
    · rw [if_pos (by omega), if_neg (by omega), if_pos g, he j g]; omega
    · rw [if_neg (by omega), if_pos (by omega), if_neg g, if_pos (by omega)]
  · rw [if_neg e] at hj ⊢
    rw [getD_setI (by omega), if_pos (by omega), he j hj]
    by_cases g : j = room lf x
    · rw [if_pos g, if_pos g, g]; omega
    · rw [if_neg g, if_neg g]; omega
/-- what holds behind t cuts: H: the world's size at the call's begin (the box lies at H, the answer behind it), b: where the cuts lie in their order, B: where the rolls' lists begin -/
structure RBy (w : World) (b B len : Nat) (R : Int) (T : Nat → Int) (l : List Nat) (t : Nat) (rows : List (List (Int × Int))) (wr : World) : Prop where
  below : Below w.heap.size w wr
  size : B ≤ wr.heap.size
  rolls : ∃ v vs, RollsL wr B w.heap.size R v vs rows
  ok : RowsOk Prod.fst rows t
  lens : (fitS T R (ordO l) t).1.length = rows.length
  left : ∀ j, j < rows.length → (fitS T R (ordO l) t).1.getD j 0 = R - (loadsOf Prod.fst rows).getD j 0
  pairs : PairB wr b T l
  row : wr.heap[w.heap.size + 1]? = some (.cells (tabV (fun i => .int .i64 ((fitS T R (ordO l) t).2 i : Nat)) len) 3 (0, 0))
set_option maxRecDepth 100000 in
set_option maxHeartbeats 4000000 in
theorem rollsBy_implC (a : Option Addr) (len cap : Nat) (xs : List Int) (R : Int) (kind : ByteArray) (w : World) (h : IntsAt w (· < w.heap.size) a len xs) :
    Calls Try.prog 8 #[.slice a len cap, .int .i64 R, .string kind] w (ResPostC w (rollRes xs R kind)) := by
  have HL := Lib.hid h.lenEq
  have HKD := Lib.hid (kindOf_any kind)
  cases hv : cutsM xs R
  · have HR := Lib.hid (show rollRes xs R kind = [] by unfold rollRes; rw [hv]; rfl)
    rw [HR.out]
    generalize kindO kind = o at HKD
    have HVJ := Lib.hid (vcutsI (cap := cap) hv w h)
    go_enter Try.func8, Try.ntmps8
    go_wp2_with (first | (go_at_call 28; refine (HKD.out _).mono ?_; rintro e w' ⟨rfl, rfl⟩) | fail)
    refine HVJ.out.mono ?_
    rintro e w' ⟨rfl, rfl⟩
    go_wp2_with fail
    go_ret
    exact resPostC_nil _
  · by_cases hk0 : kindO kind = 0
    · have HR := Lib.hid (show rollRes xs R kind = [] by
        unfold rollRes
        unfold kindO at hk0
        cases h1 : isFirst kind
        · cases h2 : isLong kind
          · simp
          · rw [h1, h2] at hk0; exact absurd hk0 (by decide)
        · rw [h1] at hk0; simp at hk0)
      rw [HR.out]
      rw [hk0] at HKD
      have HVJ := Lib.hid (vcutsI (cap := cap) hv w h)
      clear hk0
      go_enter Try.func8, Try.ntmps8
      go_wp2_with (first | (go_at_call 28; refine (HKD.out _).mono ?_; rintro e w' ⟨rfl, rfl⟩) | fail)
      refine HVJ.out.mono ?_
      rintro e w' ⟨rfl, rfl⟩
      go_wp2_with fail
      go_ret
      exact resPostC_nil _
    · have hkk : (isLong kind || isFirst kind) = true ∧ cutOrdO xs (kindO kind) = cutOrd xs kind ∧ (kindO kind = 1 ∨ kindO kind = 2) := by
        unfold kindO at hk0
        unfold kindO cutOrdO cutOrd
        cases h2 : isLong kind
        · cases h1 : isFirst kind
          · rw [h1, h2] at hk0; exact absurd rfl hk0
          · refine ⟨rfl, ?_, .inl rfl⟩
            simp
        · rw [long_not_first h2]
          exact ⟨rfl, rfl, .inr rfl⟩
      obtain ⟨hk1, hk2, hk3⟩ := hkk
      obtain ⟨hR1, hR2, hl7, hT⟩ := cuts_get hv
      have HR := Lib.hid (show rollRes xs R kind = tab (fun i => (rollP (lenT xs) R (cutOrd xs kind) len i : Int)) len by unfold rollRes; rw [hv, hk1, HL.out]; rfl)
      rw [HL.out] at hl7 hT
      have hperm := cutOrd_perm xs kind
      rw [HL.out] at hperm
      obtain ⟨o, ho⟩ : ∃ o, kindO kind = o := ⟨_, rfl⟩
      rw [ho] at HKD hk2 hk3 hk0
      have HCI := Lib.hid (fun (W : World) (hW : IntsAt W (· < W.heap.size) a len xs) => cutsIn_any a len cap xs o W hW hl7 (by omega))
      rw [hk2] at HCI
      obtain ⟨l, hl⟩ : ∃ l, cutOrd xs kind = l := ⟨_, rfl⟩
      rw [hl] at HCI hperm HR
      obtain ⟨T, hTT⟩ : ∃ T, lenT xs = T := ⟨_, rfl⟩
      rw [hTT] at HCI hT HR
      have HT := Lib.hid hT
      have HFH := Lib.hid (fun t (ht : t ≤ len) => fit_hi (T := T) (R := R) hT hperm ht)
      have HPL := Lib.hid (fun j (hj : j < len) => perm_lt hperm hj)
      have HPN := Lib.hid (show l.length = len by have := hperm.length_eq; simpa using this)
      have HVJ := Lib.hid (vcutsI (cap := cap) hv w h)
      have hmk := fun w => run_make_row' (P := Try.prog) 23 3 (.int .i64 0) 8 Try.underlying23 Try.infoIntO rfl .i64 .i64 len (by omega) (by omega) w
      obtain ⟨wb, hwb⟩ : ∃ wb, (w.alloc (.cells #[.int .i64 R, .slice none 0 0] 49)).alloc (.cells (madeCells #[.int .i64 0] len) 3) = wb := ⟨_, rfl⟩
      have hsb : wb.heap.size = w.heap.size + 2 := by rw [← hwb]; simp
      have hbb : Below w.heap.size w wb := by rw [← hwb]; exact ((Below.refl _ w).alloc (Nat.le_refl _) _).alloc (by simp) _
      have hbox : wb.heap[w.heap.size]? = some (.cells #[.int .i64 R, .slice none 0 0] 49 (0, 0)) := by
        rw [← hwb, Below.heap_alloc _ _ _ (by simp)]; exact heap_alloc_new w _
      have hrow : wb.heap[w.heap.size + 1]? = some (.cells (tabV (fun _ => .int .i64 0) len) 3 (0, 0)) := by
        rw [← made_tabP, ← hwb]
        have := heap_alloc_new (w.alloc (.cells #[.int .i64 R, .slice none 0 0] 49)) (.cells (madeCells #[.int .i64 0] len) 3)
        rwa [World.size_alloc] at this
      have HC1 := Lib.hid (HCI.out wb ((h.below hbb).to (fun k hk => ⟨by omega, rfl⟩)))
      have HWB := Lib.hid hwb
      have HSB := Lib.hid hsb
      have HBB := Lib.hid hbb
      have HBOX := Lib.hid hbox
      have HROW := Lib.hid hrow
      clear hv hT hperm hk1 hk2 hl hTT ho HCI h hwb hsb hbb hbox hrow
      go_enter Try.func8, Try.ntmps8
      go_wp2_with (first | (go_at_call 28; refine (HKD.out _).mono ?_; rintro e w' ⟨rfl, rfl⟩) | fail)
      refine HVJ.out.mono ?_
      rintro e w' ⟨rfl, rfl⟩
      go_wp2_with fail
      rw [HWB.out]
      refine HC1.out.mono ?_
      rintro e w2 ⟨b, rfl, hb1, hb2, hpairs, hbl2⟩
      have hs2 := hbl2.size
      have hsb := HSB.out
      have HST := Lib.hid (show RBy w' b w2.heap.size len R T l 0 [] w2 from
        ⟨HBB.out.trans (hbl2.mono (by omega)), Nat.le_refl _, ⟨.slice none 0 0, [], (hbl2.block _ (by omega)).trans HBOX.out, World.ownsRow_nil _ _ _ _, fun i u hu => by simp at hu, fun i j u u' hu => by simp at hu⟩,
          RowsOk.nil, rfl, fun j hj => by simp at hj, hpairs, by rw [hbl2.block _ (by omega)]; exact HROW.out⟩)
      have hbB : b < w2.heap.size := hb2
      have hB2 : w'.heap.size + 2 ≤ w2.heap.size := by omega
      have hbw : w'.heap.size + 2 ≤ b := by omega
      clear hb1 hb2 hpairs hbl2 hs2 hsb HWB HSB HBB HBOX HROW HC1 HVJ HKD hmk
      go_wp2_with fail
      go_loopw [32] (fun i wr => ∃ t : Nat, t ≤ len ∧ i = .int .i64 t ∧ ∃ rows, RBy w' b w2.heap.size len R T l t rows wr) (fun i _ => len - (intOf i).toNat)
      case atStart => exact ⟨0, Nat.zero_le _, rfl, [], HST.out⟩
      case round =>
        clear HST
        obtain ⟨t, ht, rfl, rows, hrb⟩ := hrel
        obtain ⟨wo, rfl⟩ : ∃ wo : World, wo = wr := ⟨_, rfl⟩
        have HRB := Lib.hid hrb
        by_cases hlt : t < len
        · have htI : (t : Int) < (len : Int) := by omega
          obtain ⟨v, vs, hrolls⟩ := hrb.rolls
          obtain ⟨⟨c0, c1⟩, _⟩ := hrb.pairs.at (q := t) (by rw [HPN.out]; exact hlt)
          have hzl : l.getD t 0 < len := HPL.out t hlt
          have hfh := (HFH.out t (by omega)).1
          obtain ⟨z, hz⟩ : ∃ z, l.getD t 0 = z := ⟨_, rfl⟩
          rw [hz] at c0 c1 hzl
          have hxb := HT.out z hzl
          obtain ⟨x, hx⟩ : ∃ x, T z = x := ⟨_, rfl⟩
          rw [hx] at c0 hxb
          have HXZ := Lib.hid (show T (ordO l t) = x by rw [← hx, ← hz]; rfl)
          have HOZ := Lib.hid (show ordO l t = z from hz)
          have hla : ∀ q, q < wo.heap.size → (wo.alloc (.cells #[.int .i64 x, .int .i64 (z : Int)] 54)).heap[q]? = wo.heap[q]? := fun q hq => Below.heap_alloc _ _ _ hq
          have hra : RollsL (wo.alloc (.cells #[.int .i64 x, .int .i64 (z : Int)] 54)) w2.heap.size w'.heap.size R v vs rows := RollsW.keep hrolls (fun q _ hq => hla q hq)
          obtain ⟨k, hk⟩ : ∃ k, room (fitS T R (ordO l) t).1 x = k := ⟨_, rfl⟩
          obtain ⟨r1, r2, r3⟩ := room_hasR (R := R) (y := x) (L := loadsOf Prod.fst rows) (lf := (fitS T R (ordO l) t).1) (by rw [loads_len]; exact hrb.lens) (fun j hj => hrb.left j (by rw [loads_len] at hj; exact hj)) hk.symm
          rw [loads_len] at r1
          have HFF := Lib.hid (firstForL_any hra hrb.ok (by omega) ⟨by omega, hR2⟩ x (z : Int) r1 r2 r3)
          have hnb := heap_alloc_new wo (.cells #[.int .i64 x, .int .i64 (z : Int)] 54)
          have HK := Lib.hid hk
          have HNB := Lib.hid hnb
          have HRA := Lib.hid hra
          have HVB := Lib.hid (show ∀ q, v.ownBlock = some q → w2.heap.size ≤ q ∧ q < wo.heap.size from fun q e => hrolls.outer.lt q e)
          have HUB := Lib.hid (show ∀ (i q : Nat) (u : Value), vs[i]? = some u → u.ownBlock = some q → w2.heap.size ≤ q ∧ q < wo.heap.size from fun i q u hu e => (hrolls.row i u hu).lt q e)
          have hsza : (wo.alloc (.cells #[.int .i64 x, .int .i64 (z : Int)] 54)).heap.size = wo.heap.size + 1 := by simp
          have HSA := Lib.hid hsza
          have HCUT := Lib.hid (fun (w3 : World) (hb3 : Below (wo.alloc (.cells #[.int .i64 x, .int .i64 (z : Int)] 54)).heap.size (wo.alloc (.cells #[.int .i64 x, .int .i64 (z : Int)] 54)) w3) =>
            cutL_any (fun q => q = w'.heap.size ∨ v.ownBlock = some q ∨ ∃ (i : Nat) (u : Value), vs[i]? = some u ∧ u.ownBlock = some q) (.inl rfl) (fun q e => .inr (.inl e)) (fun i q u hu e => .inr (.inr ⟨i, u, hu, e⟩))
              (RollsW.keep HRA.out (fun q _ hq => hb3.block q hq)) (by have := hb3.size; have := HRB.out.size; have := HSA.out; omega) HRB.out.ok (by omega) r1 x (z : Int))
          have hzI : (z : Int) < (len : Int) := by omega
          clear hrb hrolls hz hx hla hra hk r2 r3 hnb hsza
          go_wp2_with fail
          refine HFF.out.mono ?_
          rintro e w3 ⟨rfl, hb3⟩
          have hn3 : w3.heap[wo.heap.size]? = some (.cells #[.int .i64 x, .int .i64 (z : Int)] 54 (0, 0)) := (hb3.block _ (by have := HSA.out; omega)).trans HNB.out
          have d0 : w3.cell? ⟨wo.heap.size, 0, none⟩ = some (.int .i64 x) := by rw [cell_of_row _ _ _ _ _ _ hn3]; rfl
          have d1 : w3.cell? ⟨wo.heap.size, 1, none⟩ = some (.int .i64 (z : Int)) := by rw [cell_of_row _ _ _ _ _ _ hn3]; rfl
          have HC3 := Lib.hid (HCUT.out w3 hb3)
          have HB3 := Lib.hid hb3
          have HN3 := Lib.hid hn3
          clear hb3 hn3
          go_wp2_with fail
          refine HC3.out.mono ?_
          rintro e w4 ⟨rfl, v4, vs4, hr4, hq4⟩
          have hs3 := HB3.out.size
          have hsa := HSA.out
          have hsz0 := HRB.out.size
          have old : ∀ q, q < wo.heap.size → q ≠ w'.heap.size → q < w2.heap.size → w4.heap[q]? = wo.heap[q]? := fun q hq hr hqb => by
            rw [hq4.block q (by omega) (fun e => ?_), HB3.out.block q (by omega), Below.heap_alloc _ _ _ hq]
            rcases e with e | e | ⟨i, u, hu, e⟩
            · exact hr e
            · have := (HVB.out q e).1; omega
            · have := (HUB.out i q u hu e).1; omega
          have hn4 : w4.heap[wo.heap.size]? = some (.cells #[.int .i64 x, .int .i64 (z : Int)] 54 (0, 0)) := by
            rw [hq4.block _ (by omega) (fun e => ?_)]
            · exact HN3.out
            · rcases e with e | e | ⟨i, u, hu, e⟩
              · omega
              · have := (HVB.out _ e).2; omega
              · have := (HUB.out i _ u hu e).2; omega
          have e1 : w4.cell? ⟨wo.heap.size, 1, none⟩ = some (.int .i64 (z : Int)) := by rw [cell_of_row _ _ _ _ _ _ hn4]; rfl
          have hrow4 := (old (w'.heap.size + 1) (by omega) (by omega) (by omega)).trans HRB.out.row
          have g1 : w4.cell? ⟨w'.heap.size + 1, z, none⟩ = some (.int .i64 ((fitS T R (ordO l) t).2 z : Nat)) := by rw [cell_of_row _ _ _ _ _ _ hrow4, tabV_get _ hzl]
          have f1 := frozen_row hrow4 z
          have hpl := putL_putR (R := R) (x := x) (L := loadsOf Prod.fst rows) (lf := (fitS T R (ordO l) t).1) (by rw [loads_len]; exact HRB.out.lens) (fun j hj => HRB.out.left j (by rw [loads_len] at hj; exact hj))
          rw [HK.out] at hpl
          have hnext : RBy w' b w2.heap.size len R T l (t + 1) (putRow rows k (x, (z : Int))) (w4.setCell ⟨w'.heap.size + 1, z, none⟩ (.int .i64 (k : Int))) := by
            have hf1 : (fitS T R (ordO l) (t + 1)).1 = putL R (fitS T R (ordO l) t).1 x := by show putL R _ (T (ordO l t)) = _; rw [HXZ.out]
            have hf2 : ∀ i, (fitS T R (ordO l) (t + 1)).2 i = if i = z then k else (fitS T R (ordO l) t).2 i := fun i => by
              show (if i = ordO l t then room (fitS T R (ordO l) t).1 (T (ordO l t)) else (fitS T R (ordO l) t).2 i) = _
              rw [HXZ.out, HOZ.out, HK.out]
            have hlp : loadsOf Prod.fst (putRow rows k (x, (z : Int))) = putR (loadsOf Prod.fst rows) k x := loads_put _
            refine ⟨?_, ?_, ⟨v4, vs4, RollsW.keep hr4 (fun q hq hq2 => heap_set_ne (by rcases hq with g | g <;> omega) _)⟩, HRB.out.ok.put r1 ⟨by dsimp only; omega, by dsimp only; omega⟩, ?_, fun j hj => ?_, ?_, ?_⟩
            · refine Below.setCell ⟨hq4.os.trans (HB3.out.os.trans HRB.out.below.os), hq4.tape.trans (HB3.out.tape.trans HRB.out.below.tape), hq4.output.trans (HB3.out.output.trans HRB.out.below.output), ?_, fun q hq => ?_⟩ (p := ⟨w'.heap.size + 1, z, none⟩) (by show w'.heap.size ≤ w'.heap.size + 1; omega) _
              · have := hq4.size; have := HRB.out.below.size; omega
              · have := HRB.out.below.size
                rw [old q (by omega) (by omega) (by omega)]; exact HRB.out.below.block q hq
            · have := hq4.size
              show w2.heap.size ≤ (w4.setCell _ _).heap.size
              rw [World.size_setCell]; omega
            · rw [hf1, hpl.1, ← hlp, loads_len]
            · rw [hf1, hlp]
              refine hpl.2 j ?_
              rw [← loads_len (f := Prod.fst) (rows := putRow rows k (x, (z : Int))), hlp] at hj
              exact hj
            · exact HRB.out.pairs.block ((heap_set_ne (by omega) _).trans (old b (by omega) (by omega) hbB))
            · rw [heap_set hrow4, tabV_set]
              congr 2
              refine tabV_congr fun i hi => ?_
              rw [hf2]
              unfold setN
              split <;> rfl
          have HNX := Lib.hid hnext
          clear hr4 hq4 old hn4 hrow4 hpl hnext d0 d1 hs3 hsa hsz0 HFF HC3 HCUT HRA HB3 HN3
          go_wp2_with fail
          go_roundw
          case rel => exact ⟨t + 1, by omega, by go_num, _, HNX.out⟩
          case measure => simp [intOf]; omega
        · obtain rfl : t = len := by omega
          have htI : ¬ (t : Int) < (t : Int) := by omega
          clear hrb
          go_wp2_with fail
          go_ret
          refine ⟨_, t, t, rfl, ?_, ?_, Nat.le_refl _, HRB.out.below⟩
          · rw [HR.out]
            refine ⟨by simp [tab], by omega, fun _ => ⟨w'.heap.size + 1, 0, rfl, ⟨by omega, lt_heap HRB.out.row⟩, fun i x hx => ?_⟩⟩
            obtain ⟨rfl, hi⟩ := tab_get hx
            rw [Nat.zero_add, cell_of_row _ _ _ _ _ _ HRB.out.row, tabV_get _ hi]
            rfl
          · exact ⟨by omega, fun _ => ⟨w'.heap.size + 1, 0, rfl, ⟨by omega, lt_heap HRB.out.row⟩, fun i hi => ⟨⟨_, by rw [Nat.zero_add, cell_of_row _ _ _ _ _ _ HRB.out.row, tabV_get _ hi]⟩, frozen_row HRB.out.row _⟩⟩⟩
theorem rollsBy_impl (a : Option Addr) (len cap : Nat) (xs : List Int) (R : Int) (kind : ByteArray) (w : World) (h : IntsAt w (· < w.heap.size) a len xs) :
    Calls Try.prog 8 #[.slice a len cap, .int .i64 R, .string kind] w (NewInts w (rollRes xs R kind)) :=
  (rollsBy_implC a len cap xs R kind w h).mono fun _ _ ⟨a, l, c, h1, h2, _, h4, h5⟩ => ⟨a, l, c, h1, h2, h4, h5⟩
theorem rollsBy_implR (a : Option Addr) (len cap : Nat) (xs : List Int) (R : Int) (kind : ByteArray) (w : World) (h : IntsAt w (· < w.heap.size) a len xs) :
    Calls Try.prog 8 #[.slice a len cap, .int .i64 R, .string kind] w (ResPost w (rollRes xs R kind)) := (rollsBy_implC a len cap xs R kind w h).mono fun _ _ h => h.res
end Go.Proofs.Ythmifadnfaajbac
namespace Go.Proofs.Ythmifadnfaajbac
open Go.RowKit Go.WideShapes
theorem validCuts_impl (S : Nat → Prop) (a : Option Addr) (len cap : Nat) (xs : List Int) (R : Int) (w : World) (h : IntsAt w S a len xs) :
    Calls Try.prog 29 #[.slice a len cap, .int .i64 R] w (ValPost w (.bool (cutsM xs R))) :=
  (vCuts_impl S a len cap xs R w h).mono fun _ _ h => ⟨h.1, by rw [h.2]; exact Below.refl _ _⟩
theorem validCuts_X (a : Option Addr) (len cap : Nat) (xs : List Int) (R : Int) (w : World) (h : IntsAt w (· < w.heap.size) a len xs) :
    Calls Try.prog 29 #[.slice a len cap, .int .i64 R] w (ValPost w (.bool (cutsM xs R))) := validCuts_impl _ a len cap xs R w h
end Go.Proofs.Ythmifadnfaajbac
namespace Go.Proofs.Ythmifadnfaajbac
open Go.RowKit

theorem small8 {len : Nat} {xs : List Int} (hl : xs.length = len) (h : ¬ len ≤ 8) (b : Bool) : (decide (xs.length ≤ 8) && b) = false := by
  rw [decide_eq_false (by omega)]; rfl
theorem small8' {len : Nat} {xs : List Int} (hl : xs.length = len) (h : len ≤ 8) (b : Bool) : (decide (xs.length ≤ 8) && b) = b := by
  rw [decide_eq_true (by omega)]; rfl
def wantsM (n : Int) (xs : List Int) : Bool := allIn 0 20 xs && decide ((xs.length : Int) = n)
theorem wantsM_false {n : Int} {xs : List Int} {k : Nat} {x : Int} (h : xs[k]? = some x) (hx : inB 0 20 x = false) : wantsM n xs = false := by rw [wantsM, allIn_false h hx]; rfl
theorem wantsM_of {n : Int} {len : Nat} {xs : List Int} (hl : xs.length = len) (ha : allIn 0 20 (xs.take len) = true) : wantsM n xs = ((len : Int) == n) := by
  rw [List.take_of_length_le (by omega)] at ha
  rw [wantsM, ha, hl]; simp; rfl
theorem wantsM_len (xs : List Int) : wantsM xs.length xs = allIn 0 20 xs := by simp [wantsM]
end Go.Proofs.Ythmifadnfaajbac
namespace Go.Proofs.Ythmifadnfaajbac
open Go.RowKit Go.WideShapes

theorem Try.infoIntT : (Try.prog.info? 3).map (fun i => (i.zero, i.size, i.bytes)) = some (some (.int .i64 0), 1, 8) := by kernel_rfl

theorem stocks_no {s : Int} {ms ws : List Int} (h : stocksFine s ms ws = false) : stocksM s ms ws = [] := by unfold stocksM; rw [h]; rfl
theorem stocks_yes {s : Int} {ms ws : List Int} (h : stocksFine s ms ws = true) : stocksM s ms ws = tab (fun q => stockTo ms ws s (q + 1)) ws.length := by unfold stocksM; rw [h]; rfl
theorem stocksM_len (s : Int) (ms ws : List Int) : (stocksM s ms ws).length ≤ 1048576 := by
  unfold stocksM
  split
  · rename_i h
    simp only [stocksFine, stocksIn, Bool.and_eq_true] at h
    have := validDays_len h.1.1.2
    rw [tab_length]; omega
  · simp
theorem resPostB_none {w w' : World} (h : Below w.heap.size w w') : ResPostB w [] false (.returned (.tuple #[.slice none 0 0, .bool false])) w' :=
  ⟨none, 0, 0, rfl, ⟨rfl, Nat.zero_le _, fun h => absurd h (by omega)⟩, ⟨Nat.zero_le _, fun h => absurd h (by omega)⟩, h⟩
theorem newIntsB_none {w w' : World} (h : Below w.heap.size w w') : NewIntsB w [] false (.returned (.tuple #[.slice none 0 0, .bool false])) w' :=
  ⟨none, 0, 0, rfl, ⟨rfl, Nat.zero_le _, fun h => absurd h (by omega)⟩, Nat.le_refl _, h⟩
theorem newIntsB_of {w w' : World} {xs : List Int} {b : Bool} {a : Option Addr} {len cap : Nat} (h : NewInts w xs (.returned (.slice a len cap)) w') : NewIntsB w xs b (.returned (.tuple #[.slice a len cap, .bool b])) w' := by
  obtain ⟨a', l', c', e, h1, h2, h3⟩ := h
  simp only [Ending.returned.injEq, Value.slice.injEq] at e
  obtain ⟨rfl, rfl, rfl⟩ := e
  exact ⟨_, _, _, rfl, h1, h2, h3⟩

def stocksMB (s : Int) (ms ws : List Int) : Bool := stocksFine s ms ws

end Go.Proofs.Ythmifadnfaajbac
namespace Go.Proofs.Ythmifadnfaajbac
open Go.RowKit Go.WideShapes

theorem Try.infoIntP : (Try.prog.info? 3).map (fun i => (i.zero, i.size, i.bytes)) = some (some (.int .i64 0), 1, 8) := by kernel_rfl
def validLotsM (xs : List Int) (s h : Int) : Bool := validDaysM xs && inB 0 30 s && inB 0 30 h
theorem validLots_get {xs : List Int} {s h : Int} (hv : validLotsM xs s h = true) : validDaysM xs = true ∧ (0 ≤ s ∧ s ≤ 30) ∧ (0 ≤ h ∧ h ≤ 30) := by
  simp only [validLotsM, Bool.and_eq_true] at hv
  have h1 : 0 ≤ s ∧ s ≤ 30 := by simpa [inB] using hv.1.2
  have h2 : 0 ≤ h ∧ h ≤ 30 := by simpa [inB] using hv.2
  exact ⟨hv.1.1, h1, h2⟩
theorem mul_box3 {a b A B : Int} (ha : 0 ≤ a) (ha' : a ≤ A) (hb : 0 ≤ b) (hb' : b ≤ B) : 0 ≤ a * b ∧ a * b ≤ A * B :=
  ⟨Int.mul_nonneg ha hb, Int.mul_le_mul ha' hb' hb (by omega)⟩
theorem ints_part {w : World} {S : Nat → Prop} {b off len : Nat} {xs : List Int} (h : IntsAt w S (some ⟨b, off, none⟩) len xs) (i k : Nat) (hi : i < k) (hk : k ≤ len) : IntsAt w S (some ⟨b, off + i, none⟩) (k - i) ((xs.drop i).take (k - i)) := by
  have hl := h.lenEq
  have hs := h.small
  obtain ⟨b', off', e, hS, hc⟩ := h.cells (by omega)
  cases e
  refine ⟨by simp; omega, by omega, fun _ => ⟨b, off + i, rfl, hS, fun j x hx => ?_⟩⟩
  rw [List.getElem?_take] at hx
  split at hx
  · rw [List.getElem?_drop] at hx
    rw [Nat.add_assoc]
    exact hc _ _ hx
  · cases hx
theorem days_mem {xs : List Int} (hx : ∀ k, 0 ≤ xs.getD k 0 ∧ xs.getD k 0 ≤ 20) : ∀ x ∈ xs, -1099511627776 ≤ x ∧ x ≤ 1099511627776 := by
  intro x hx'
  obtain ⟨k, hk, rfl⟩ := List.mem_iff_getElem.1 hx'
  have := hx k
  rw [List.getD_eq_getElem?_getD, List.getElem?_eq_getElem hk] at this
  simp at this
  omega
def lotFine (ms xs : List Int) (s h : Int) : Bool := validLotsM xs s h && stocksFine 0 ms xs
/-- what LotCost answers -/
def lotCostM (ms xs : List Int) (s h : Int) : Int := if lotFine ms xs s h then planTo ms xs s h xs.length else -1
def IntBool (w : World) (n : Int) (b : Bool) (e : Ending) (w' : World) : Prop := e = .returned (.tuple #[.int .i64 n, .bool b]) ∧ Below w.heap.size w w'
theorem lotCost_no {ms xs : List Int} {s h : Int} (e : lotFine ms xs s h = false) : lotCostM ms xs s h = -1 := by unfold lotCostM; rw [e]; rfl
theorem lotCost_yes {ms xs : List Int} {s h : Int} (e : lotFine ms xs s h = true) : lotCostM ms xs s h = planTo ms xs s h xs.length := by unfold lotCostM; rw [e]; rfl
theorem dayC_bd {ms xs : List Int} {s h : Int} (hm : validMadeM ms = true) (hx : validDaysM xs = true) (hok : ∀ q, q < xs.length → 0 ≤ stockTo ms xs 0 (q + 1)) (hs : 0 ≤ s ∧ s ≤ 31) (hh : 0 ≤ h ∧ h ≤ 31) {q : Nat} (hq : q < xs.length) : 0 ≤ dayC ms xs s h q ∧ dayC ms xs s h q ≤ 50000 := by
  have h1 := hok q hq
  have h2 := stockTo_bd (s := 0) (by omega) (by omega) hm hx (q + 1)
  have hl := validDays_len hx
  have e : stockTo ms xs 0 (q + 1) = sumN ms (q + 1) - sumN xs (q + 1) := by rw [stockTo_closed]; omega
  rw [e] at h1 h2
  have h3 := mul_box3 hh.1 hh.2 h1 (show _ ≤ (1400 : Int) by omega)
  unfold dayC; split <;> omega
theorem planTo_bd {ms xs : List Int} {s h : Int} (hm : validMadeM ms = true) (hx : validDaysM xs = true) (hok : ∀ q, q < xs.length → 0 ≤ stockTo ms xs 0 (q + 1)) (hs : 0 ≤ s ∧ s ≤ 31) (hh : 0 ≤ h ∧ h ≤ 31) : ∀ q, q ≤ xs.length → 0 ≤ planTo ms xs s h q ∧ planTo ms xs s h q ≤ 50000 * (q : Int) := by
  intro q
  induction q with
  | zero => intro _; simp [planTo]
  | succ q ih => intro hq; have := ih (by omega); have := dayC_bd hm hx hok hs hh (q := q) (by omega); rw [planTo]; omega
/-- of the days behind i, so many lots are tried: the least cost, -1 ahead of the first -/
def curM (xs : List Int) (s h : Int) (i : Nat) : Nat → Int
  | 0 => -1
  | m + 1 => minTo (fun d => runD xs s h i (d + 1) + bst xs s h (i + (d + 1))) m
def doneB (xs : List Int) (s h : Int) (m q : Nat) : Int := if m ≤ q then bst xs s h q else 0
def bestNow (xs : List Int) (s h : Int) (i : Nat) (c : Int) (q : Nat) : Int := if q = i then c else if i < q then bst xs s h q else 0
def leastRes (xs : List Int) (s h : Int) : Int := if validLotsM xs s h then bst xs s h 0 else -1
theorem leastRes_no {xs : List Int} {s h : Int} (e : validLotsM xs s h = false) : leastRes xs s h = -1 := by unfold leastRes; rw [e]; rfl
theorem leastRes_yes {xs : List Int} {s h : Int} (e : validLotsM xs s h = true) : leastRes xs s h = bst xs s h 0 := by unfold leastRes; rw [e]; rfl
def IntVal (w : World) (n : Int) (e : Ending) (w' : World) : Prop := e = .returned (.int .i64 n) ∧ Below w.heap.size w w'
end Go.Proofs.Ythmifadnfaajbac
