import Derived.Test.YtjcbpnffmebihaaGreatDoorA29
import Derived.Test.YtjcbpnffmebihaaGreatDoorRows
import Derived.WalkKit
import Derived.LoopTactic
import Derived.Outline
import Derived.WalkSpells
import Derived.WalkLawsBesides
import Derived.ProofKit
import Derived.Lib.Hide
import Derived.IntWalk
import Derived.Deep.QuietTactic
import Derived.BigQuiet
import Derived.Shelf.RegionOpenPlain
import Derived.Maps.RangeWalk
import Derived.Carry
namespace Go.Proofs.YtjcbpnffmebihaaGreatDoor
open Go.RowKit Go.WideShapes

-- chapter 11's code: RollsBy
theorem putL_putR {R x : Int} {lf L : List Int} (hl : lf.length = L.length) (he : ∀ j, j < L.length → lf.getD j 0 = R - L.getD j 0) : (putL R lf x).length = (putR L (room lf x) x).length ∧ ∀ j, j < (putR L (room lf x) x).length → (putL R lf x).getD j 0 = R - (putR L (room lf x) x).getD j 0 := by
  have hle := room_le lf x
  have h1 : (putL R lf x).length = (putR L (room lf x) x).length := by rw [putL_len, putR_len, hl]
  refine ⟨h1, fun j hj => ?_⟩
  rw [putL_getD R lf x (by omega)]
  rw [putR_len] at hj
  unfold putR
  by_cases e : room lf x = L.length
  · rw [if_pos e] at hj ⊢
    rw [getD_snocI]
    by_cases g : j < L.length
    · rw [if_pos (by omega), if_neg (by omega), if_pos g, he j g]; omega
    · rw [if_neg (by omega), if_pos (by omega), if_neg g, if_pos (by omega)]
  · rw [if_neg e] at hj ⊢
    rw [getD_setI (by omega), if_pos (by omega), he j hj]
    by_cases g : j = room lf x
    · rw [if_pos g, if_pos g, g]; omega
    · rw [if_neg g, if_neg g]; omega
/-- what holds behind t cuts: H: the world's size at the call's begin (the box lies at H, the answer behind it), b: where the cuts lie in their order, B: where the rolls' lists begin -/
structure RBy (w : World) (b B len : Nat) (R : Int) (T : Nat → Int) (l : List Nat) (t : Nat) (rows : List (List (Int × Int))) (wr : World) : Prop where
  below : Below w.heap.size w wr
  size : B ≤ wr.heap.size
  rolls : ∃ v vs, RollsL wr B w.heap.size R v vs rows
  ok : RowsOk Prod.fst rows t
  lens : (fitS T R (ordO l) t).1.length = rows.length
  left : ∀ j, j < rows.length → (fitS T R (ordO l) t).1.getD j 0 = R - (loadsOf Prod.fst rows).getD j 0
  pairs : PairB wr b T l
  row : wr.heap[w.heap.size + 1]? = some (.cells (tabV (fun i => .int .i64 ((fitS T R (ordO l) t).2 i : Nat)) len) 3 (0, 0))
set_option maxRecDepth 100000 in
set_option maxHeartbeats 4000000 in
theorem rollsBy_implC (a : Option Addr) (len cap : Nat) (xs : List Int) (R : Int) (kind : ByteArray) (w : World) (h : IntsAt w (· < w.heap.size) a len xs) :
    Calls Tryz.prog 96 #[.slice a len cap, .int .i64 R, .string kind] w (ResPostC w (rollRes xs R kind)) := by
  have HL := Lib.hid h.lenEq
  have HKD := Lib.hid (kindOf_any kind)
  cases hv : cutsM xs R
  · have HR := Lib.hid (show rollRes xs R kind = [] by unfold rollRes; rw [hv]; rfl)
    rw [HR.out]
    generalize kindO kind = o at HKD
    have HVJ := Lib.hid (vcutsI (cap := cap) hv w h)
    go_enter Tryz.func96, Tryz.ntmps96
    go_wp2_with (first | (go_at_call 127; refine (HKD.out _).mono ?_; rintro e w' ⟨rfl, rfl⟩) | fail)
    refine HVJ.out.mono ?_
    rintro e w' ⟨rfl, rfl⟩
    go_wp2_with fail
    go_ret
    exact resPostC_nil _
  · by_cases hk0 : kindO kind = 0
    · have HR := Lib.hid (show rollRes xs R kind = [] by
        unfold rollRes
        unfold kindO at hk0
        cases h1 : isFirst kind
        · cases h2 : isLong kind
          · simp
          · rw [h1, h2] at hk0; exact absurd hk0 (by decide)
        · rw [h1] at hk0; simp at hk0)
      rw [HR.out]
      rw [hk0] at HKD
      have HVJ := Lib.hid (vcutsI (cap := cap) hv w h)
      clear hk0
      go_enter Tryz.func96, Tryz.ntmps96
      go_wp2_with (first | (go_at_call 127; refine (HKD.out _).mono ?_; rintro e w' ⟨rfl, rfl⟩) | fail)
      refine HVJ.out.mono ?_
      rintro e w' ⟨rfl, rfl⟩
      go_wp2_with fail
      go_ret
      exact resPostC_nil _
    · have hkk : (isLong kind || isFirst kind) = true ∧ cutOrdO xs (kindO kind) = cutOrd xs kind ∧ (kindO kind = 1 ∨ kindO kind = 2) := by
        unfold kindO at hk0
        unfold kindO cutOrdO cutOrd
        cases h2 : isLong kind
        · cases h1 : isFirst kind
          · rw [h1, h2] at hk0; exact absurd rfl hk0
          · refine ⟨rfl, ?_, .inl rfl⟩
            simp
        · rw [long_not_first h2]
          exact ⟨rfl, rfl, .inr rfl⟩
      obtain ⟨hk1, hk2, hk3⟩ := hkk
      obtain ⟨hR1, hR2, hl7, hT⟩ := cuts_get hv
      have HR := Lib.hid (show rollRes xs R kind = tab (fun i => (rollP (lenT xs) R (cutOrd xs kind) len i : Int)) len by unfold rollRes; rw [hv, hk1, HL.out]; rfl)
      rw [HL.out] at hl7 hT
      have hperm := cutOrd_perm xs kind
      rw [HL.out] at hperm
      obtain ⟨o, ho⟩ : ∃ o, kindO kind = o := ⟨_, rfl⟩
      rw [ho] at HKD hk2 hk3 hk0
      have HCI := Lib.hid (fun (W : World) (hW : IntsAt W (· < W.heap.size) a len xs) => cutsIn_any a len cap xs o W hW hl7 (by omega))
      rw [hk2] at HCI
      obtain ⟨l, hl⟩ : ∃ l, cutOrd xs kind = l := ⟨_, rfl⟩
      rw [hl] at HCI hperm HR
      obtain ⟨T, hTT⟩ : ∃ T, lenT xs = T := ⟨_, rfl⟩
      rw [hTT] at HCI hT HR
      have HT := Lib.hid hT
      have HFH := Lib.hid (fun t (ht : t ≤ len) => fit_hi (T := T) (R := R) hT hperm ht)
      have HPL := Lib.hid (fun j (hj : j < len) => perm_lt hperm hj)
      have HPN := Lib.hid (show l.length = len by have := hperm.length_eq; simpa using this)
      have HVJ := Lib.hid (vcutsI (cap := cap) hv w h)
      have hmk := fun w => run_make_row' (P := Tryz.prog) 35 3 (.int .i64 0) 8 Tryz.underlying35 Tryz.infoIntO rfl .i64 .i64 len (by omega) (by omega) w
      obtain ⟨wb, hwb⟩ : ∃ wb, (w.alloc (.cells #[.int .i64 R, .slice none 0 0] 160)).alloc (.cells (madeCells #[.int .i64 0] len) 3) = wb := ⟨_, rfl⟩
      have hsb : wb.heap.size = w.heap.size + 2 := by rw [← hwb]; simp
      have hbb : Below w.heap.size w wb := by rw [← hwb]; exact ((Below.refl _ w).alloc (Nat.le_refl _) _).alloc (by simp) _
      have hbox : wb.heap[w.heap.size]? = some (.cells #[.int .i64 R, .slice none 0 0] 160 (0, 0)) := by
        rw [← hwb, Below.heap_alloc _ _ _ (by simp)]; exact heap_alloc_new w _
      have hrow : wb.heap[w.heap.size + 1]? = some (.cells (tabV (fun _ => .int .i64 0) len) 3 (0, 0)) := by
        rw [← made_tabP, ← hwb]
        have := heap_alloc_new (w.alloc (.cells #[.int .i64 R, .slice none 0 0] 160)) (.cells (madeCells #[.int .i64 0] len) 3)
        rwa [World.size_alloc] at this
      have HC1 := Lib.hid (HCI.out wb ((h.below hbb).to (fun k hk => ⟨by omega, rfl⟩)))
      have HWB := Lib.hid hwb
      have HSB := Lib.hid hsb
      have HBB := Lib.hid hbb
      have HBOX := Lib.hid hbox
      have HROW := Lib.hid hrow
      clear hv hT hperm hk1 hk2 hl hTT ho HCI h hwb hsb hbb hbox hrow
      go_enter Tryz.func96, Tryz.ntmps96
      go_wp2_with (first | (go_at_call 127; refine (HKD.out _).mono ?_; rintro e w' ⟨rfl, rfl⟩) | fail)
      refine HVJ.out.mono ?_
      rintro e w' ⟨rfl, rfl⟩
      go_wp2_with fail
      rw [HWB.out]
      refine HC1.out.mono ?_
      rintro e w2 ⟨b, rfl, hb1, hb2, hpairs, hbl2⟩
      have hs2 := hbl2.size
      have hsb := HSB.out
      have HST := Lib.hid (show RBy w' b w2.heap.size len R T l 0 [] w2 from
        ⟨HBB.out.trans (hbl2.mono (by omega)), Nat.le_refl _, ⟨.slice none 0 0, [], (hbl2.block _ (by omega)).trans HBOX.out, World.ownsRow_nil _ _ _ _, fun i u hu => by simp at hu, fun i j u u' hu => by simp at hu⟩,
          RowsOk.nil, rfl, fun j hj => by simp at hj, hpairs, by rw [hbl2.block _ (by omega)]; exact HROW.out⟩)
      have hbB : b < w2.heap.size := hb2
      have hB2 : w'.heap.size + 2 ≤ w2.heap.size := by omega
      have hbw : w'.heap.size + 2 ≤ b := by omega
      clear hb1 hb2 hpairs hbl2 hs2 hsb HWB HSB HBB HBOX HROW HC1 HVJ HKD hmk
      go_wp2_with fail
      go_loopw [32] (fun i wr => ∃ t : Nat, t ≤ len ∧ i = .int .i64 t ∧ ∃ rows, RBy w' b w2.heap.size len R T l t rows wr) (fun i _ => len - (intOf i).toNat)
      case atStart => exact ⟨0, Nat.zero_le _, rfl, [], HST.out⟩
      case round =>
        clear HST
        obtain ⟨t, ht, rfl, rows, hrb⟩ := hrel
        obtain ⟨wo, rfl⟩ : ∃ wo : World, wo = wr := ⟨_, rfl⟩
        have HRB := Lib.hid hrb
        by_cases hlt : t < len
        · have htI : (t : Int) < (len : Int) := by omega
          obtain ⟨v, vs, hrolls⟩ := hrb.rolls
          obtain ⟨⟨c0, c1⟩, _⟩ := hrb.pairs.at (q := t) (by rw [HPN.out]; exact hlt)
          have hzl : l.getD t 0 < len := HPL.out t hlt
          have hfh := (HFH.out t (by omega)).1
          obtain ⟨z, hz⟩ : ∃ z, l.getD t 0 = z := ⟨_, rfl⟩
          rw [hz] at c0 c1 hzl
          have hxb := HT.out z hzl
          obtain ⟨x, hx⟩ : ∃ x, T z = x := ⟨_, rfl⟩
          rw [hx] at c0 hxb
          have HXZ := Lib.hid (show T (ordO l t) = x by rw [← hx, ← hz]; rfl)
          have HOZ := Lib.hid (show ordO l t = z from hz)
          have hla : ∀ q, q < wo.heap.size → (wo.alloc (.cells #[.int .i64 x, .int .i64 (z : Int)] 164)).heap[q]? = wo.heap[q]? := fun q hq => Below.heap_alloc _ _ _ hq
          have hra : RollsL (wo.alloc (.cells #[.int .i64 x, .int .i64 (z : Int)] 164)) w2.heap.size w'.heap.size R v vs rows := RollsW.keep hrolls (fun q _ hq => hla q hq)
          obtain ⟨k, hk⟩ : ∃ k, room (fitS T R (ordO l) t).1 x = k := ⟨_, rfl⟩
          obtain ⟨r1, r2, r3⟩ := room_hasR (R := R) (y := x) (L := loadsOf Prod.fst rows) (lf := (fitS T R (ordO l) t).1) (by rw [loads_len]; exact hrb.lens) (fun j hj => hrb.left j (by rw [loads_len] at hj; exact hj)) hk.symm
          rw [loads_len] at r1
          have HFF := Lib.hid (firstForL_any hra hrb.ok (by omega) ⟨by omega, hR2⟩ x (z : Int) r1 r2 r3)
          have hnb := heap_alloc_new wo (.cells #[.int .i64 x, .int .i64 (z : Int)] 164)
          have HK := Lib.hid hk
          have HNB := Lib.hid hnb
          have HRA := Lib.hid hra
          have HVB := Lib.hid (show ∀ q, v.ownBlock = some q → w2.heap.size ≤ q ∧ q < wo.heap.size from fun q e => hrolls.outer.lt q e)
          have HUB := Lib.hid (show ∀ (i q : Nat) (u : Value), vs[i]? = some u → u.ownBlock = some q → w2.heap.size ≤ q ∧ q < wo.heap.size from fun i q u hu e => (hrolls.row i u hu).lt q e)
          have hsza : (wo.alloc (.cells #[.int .i64 x, .int .i64 (z : Int)] 164)).heap.size = wo.heap.size + 1 := by simp
          have HSA := Lib.hid hsza
          have HCUT := Lib.hid (fun (w3 : World) (hb3 : Below (wo.alloc (.cells #[.int .i64 x, .int .i64 (z : Int)] 164)).heap.size (wo.alloc (.cells #[.int .i64 x, .int .i64 (z : Int)] 164)) w3) =>
            cutL_any (fun q => q = w'.heap.size ∨ v.ownBlock = some q ∨ ∃ (i : Nat) (u : Value), vs[i]? = some u ∧ u.ownBlock = some q) (.inl rfl) (fun q e => .inr (.inl e)) (fun i q u hu e => .inr (.inr ⟨i, u, hu, e⟩))
              (RollsW.keep HRA.out (fun q _ hq => hb3.block q hq)) (by have := hb3.size; have := HRB.out.size; have := HSA.out; omega) HRB.out.ok (by omega) r1 x (z : Int))
          have hzI : (z : Int) < (len : Int) := by omega
          clear hrb hrolls hz hx hla hra hk r2 r3 hnb hsza
          go_wp2_with fail
          refine HFF.out.mono ?_
          rintro e w3 ⟨rfl, hb3⟩
          have hn3 : w3.heap[wo.heap.size]? = some (.cells #[.int .i64 x, .int .i64 (z : Int)] 164 (0, 0)) := (hb3.block _ (by have := HSA.out; omega)).trans HNB.out
          have d0 : w3.cell? ⟨wo.heap.size, 0, none⟩ = some (.int .i64 x) := by rw [cell_of_row _ _ _ _ _ _ hn3]; rfl
          have d1 : w3.cell? ⟨wo.heap.size, 1, none⟩ = some (.int .i64 (z : Int)) := by rw [cell_of_row _ _ _ _ _ _ hn3]; rfl
          have HC3 := Lib.hid (HCUT.out w3 hb3)
          have HB3 := Lib.hid hb3
          have HN3 := Lib.hid hn3
          clear hb3 hn3
          go_wp2_with fail
          refine HC3.out.mono ?_
          rintro e w4 ⟨rfl, v4, vs4, hr4, hq4⟩
          have hs3 := HB3.out.size
          have hsa := HSA.out
          have hsz0 := HRB.out.size
          have old : ∀ q, q < wo.heap.size → q ≠ w'.heap.size → q < w2.heap.size → w4.heap[q]? = wo.heap[q]? := fun q hq hr hqb => by
            rw [hq4.block q (by omega) (fun e => ?_), HB3.out.block q (by omega), Below.heap_alloc _ _ _ hq]
            rcases e with e | e | ⟨i, u, hu, e⟩
            · exact hr e
            · have := (HVB.out q e).1; omega
            · have := (HUB.out i q u hu e).1; omega
          have hn4 : w4.heap[wo.heap.size]? = some (.cells #[.int .i64 x, .int .i64 (z : Int)] 164 (0, 0)) := by
            rw [hq4.block _ (by omega) (fun e => ?_)]
            · exact HN3.out
            · rcases e with e | e | ⟨i, u, hu, e⟩
              · omega
              · have := (HVB.out _ e).2; omega
              · have := (HUB.out i _ u hu e).2; omega
          have e1 : w4.cell? ⟨wo.heap.size, 1, none⟩ = some (.int .i64 (z : Int)) := by rw [cell_of_row _ _ _ _ _ _ hn4]; rfl
          have hrow4 := (old (w'.heap.size + 1) (by omega) (by omega) (by omega)).trans HRB.out.row
          have g1 : w4.cell? ⟨w'.heap.size + 1, z, none⟩ = some (.int .i64 ((fitS T R (ordO l) t).2 z : Nat)) := by rw [cell_of_row _ _ _ _ _ _ hrow4, tabV_get _ hzl]
          have f1 := frozen_row hrow4 z
          have hpl := putL_putR (R := R) (x := x) (L := loadsOf Prod.fst rows) (lf := (fitS T R (ordO l) t).1) (by rw [loads_len]; exact HRB.out.lens) (fun j hj => HRB.out.left j (by rw [loads_len] at hj; exact hj))
          rw [HK.out] at hpl
          have hnext : RBy w' b w2.heap.size len R T l (t + 1) (putRow rows k (x, (z : Int))) (w4.setCell ⟨w'.heap.size + 1, z, none⟩ (.int .i64 (k : Int))) := by
            have hf1 : (fitS T R (ordO l) (t + 1)).1 = putL R (fitS T R (ordO l) t).1 x := by show putL R _ (T (ordO l t)) = _; rw [HXZ.out]
            have hf2 : ∀ i, (fitS T R (ordO l) (t + 1)).2 i = if i = z then k else (fitS T R (ordO l) t).2 i := fun i => by
              show (if i = ordO l t then room (fitS T R (ordO l) t).1 (T (ordO l t)) else (fitS T R (ordO l) t).2 i) = _
              rw [HXZ.out, HOZ.out, HK.out]
            have hlp : loadsOf Prod.fst (putRow rows k (x, (z : Int))) = putR (loadsOf Prod.fst rows) k x := loads_put _
            refine ⟨?_, ?_, ⟨v4, vs4, RollsW.keep hr4 (fun q hq hq2 => heap_set_ne (by rcases hq with g | g <;> omega) _)⟩, HRB.out.ok.put r1 ⟨by dsimp only; omega, by dsimp only; omega⟩, ?_, fun j hj => ?_, ?_, ?_⟩
            · refine Below.setCell ⟨hq4.os.trans (HB3.out.os.trans HRB.out.below.os), hq4.tape.trans (HB3.out.tape.trans HRB.out.below.tape), hq4.output.trans (HB3.out.output.trans HRB.out.below.output), ?_, fun q hq => ?_⟩ (p := ⟨w'.heap.size + 1, z, none⟩) (by show w'.heap.size ≤ w'.heap.size + 1; omega) _
              · have := hq4.size; have := HRB.out.below.size; omega
              · have := HRB.out.below.size
                rw [old q (by omega) (by omega) (by omega)]; exact HRB.out.below.block q hq
            · have := hq4.size
              show w2.heap.size ≤ (w4.setCell _ _).heap.size
              rw [World.size_setCell]; omega
            · rw [hf1, hpl.1, ← hlp, loads_len]
            · rw [hf1, hlp]
              refine hpl.2 j ?_
              rw [← loads_len (f := Prod.fst) (rows := putRow rows k (x, (z : Int))), hlp] at hj
              exact hj
            · exact HRB.out.pairs.block ((heap_set_ne (by omega) _).trans (old b (by omega) (by omega) hbB))
            · rw [heap_set hrow4, tabV_set]
              congr 2
              refine tabV_congr fun i hi => ?_
              rw [hf2]
              unfold setN
              split <;> rfl
          have HNX := Lib.hid hnext
          clear hr4 hq4 old hn4 hrow4 hpl hnext d0 d1 hs3 hsa hsz0 HFF HC3 HCUT HRA HB3 HN3
          go_wp2_with fail
          go_roundw
          case rel => exact ⟨t + 1, by omega, by go_num, _, HNX.out⟩
          case measure => simp [intOf]; omega
        · obtain rfl : t = len := by omega
          have htI : ¬ (t : Int) < (t : Int) := by omega
          clear hrb
          go_wp2_with fail
          go_ret
          refine ⟨_, t, t, rfl, ?_, ?_, Nat.le_refl _, HRB.out.below⟩
          · rw [HR.out]
            refine ⟨by simp [tab], by omega, fun _ => ⟨w'.heap.size + 1, 0, rfl, ⟨by omega, lt_heap HRB.out.row⟩, fun i x hx => ?_⟩⟩
            obtain ⟨rfl, hi⟩ := tab_get hx
            rw [Nat.zero_add, cell_of_row _ _ _ _ _ _ HRB.out.row, tabV_get _ hi]
            rfl
          · exact ⟨by omega, fun _ => ⟨w'.heap.size + 1, 0, rfl, ⟨by omega, lt_heap HRB.out.row⟩, fun i hi => ⟨⟨_, by rw [Nat.zero_add, cell_of_row _ _ _ _ _ _ HRB.out.row, tabV_get _ hi]⟩, frozen_row HRB.out.row _⟩⟩⟩
theorem rollsBy_impl (a : Option Addr) (len cap : Nat) (xs : List Int) (R : Int) (kind : ByteArray) (w : World) (h : IntsAt w (· < w.heap.size) a len xs) :
    Calls Tryz.prog 96 #[.slice a len cap, .int .i64 R, .string kind] w (NewInts w (rollRes xs R kind)) :=
  (rollsBy_implC a len cap xs R kind w h).mono fun _ _ ⟨a, l, c, h1, h2, _, h4, h5⟩ => ⟨a, l, c, h1, h2, h4, h5⟩
end Go.Proofs.YtjcbpnffmebihaaGreatDoor
namespace Go.Proofs.YtjcbpnffmebihaaGreatDoor
open Go.RowKit Go.WideShapes

theorem upTo8 (S : Nat → Prop) (a : Option Addr) (len cap : Nat) (xs : List Int) (lim : Int) (w : World) (h : IntsAt w S a len xs) {b : Bool} (hb : allIn 0 lim xs = b) :
    Calls Tryz.prog 105 #[.slice a len cap, .int .i64 lim] w fun e w' => e = .returned (.bool b) ∧ w' = w := by
  subst hb; exact (allUpTo_any S a len cap xs lim w h).mono fun _ _ h => ⟨h.1, h.2.symm⟩
theorem isUp8 (n hi : Int) (w : World) {b : Bool} (hb : inB 0 hi n = b) : Calls Tryz.prog 118 #[.int .i64 n, .int .i64 hi] w fun e w' => e = .returned (.bool b) ∧ w' = w := by
  subst hb; exact (isUpTo_any n hi w).mono fun _ _ h => ⟨h.1, h.2.symm⟩
end Go.Proofs.YtjcbpnffmebihaaGreatDoor
namespace Go.Proofs.YtjcbpnffmebihaaGreatDoor
open Go.RowKit Go.Maps

/-- block's map: for each v below K the number g v, where that is above 0; nothing else -/
def MapIs (D : DataW Unit) (g : Nat → Int) (K : Nat) : Prop :=
  IsMap D ∧ (∀ v : Nat, v < K → has D (.int .i64 v) = decide (0 < g v)) ∧ (∀ v : Nat, v < K → 0 < g v → ∀ zd, D.atKey (.int .i64 v) zd = .lit (.int .i64 (g v))) ∧ ∀ kl, has D kl = true → ∃ v : Nat, v < K ∧ kl = .int .i64 v
theorem key_ne {a b : Nat} (h : a ≠ b) : (Lit.int .i64 (a : Int)) ≠ .int .i64 (b : Int) := fun e => by injection e with _ e; omega
theorem keyI (v : Int) : WideAt.IsKeyLit (.int .i64 v) := trivial
theorem key_same (a b : Nat) : (Lit.int .i64 (a : Int)).sameKey (.int .i64 (b : Int)) = decide (a = b) := by
  by_cases h : a = b
  · subst h; rw [WideAt.sameKey_self (keyI _)]; simp
  · rw [sameKey_ne (key_ne h)]; simp [h]
theorem mapIs_none (K : Nat) : MapIs (.map []) (fun _ => 0) K :=
  ⟨isMap_empty, fun v _ => rfl, fun v _ h => absurd h (by simp), fun kl h => by cases h⟩
theorem MapIs.skip {D : DataW Unit} {g : Nat → Int} {k K : Nat} (h : MapIs D g k) (hg : ∀ v, k ≤ v → g v ≤ 0) (hK : k ≤ K) : MapIs D g K := by
  obtain ⟨h1, h2, h3, h4⟩ := h
  refine ⟨h1, fun v hv => ?_, fun v hv hp => ?_, fun kl hk => ?_⟩
  · rcases Nat.lt_or_ge v k with g1 | g1
    · exact h2 v g1
    · have e : decide (0 < g v) = false := decide_eq_false (by have := hg v g1; omega)
      rw [e]
      cases hh : has D (.int .i64 v)
      · rfl
      · obtain ⟨u, hu, e⟩ := h4 _ hh
        injection e with _ e
        omega
  · rcases Nat.lt_or_ge v k with g1 | g1
    · exact h3 v g1 hp
    · have := hg v g1; omega
  · obtain ⟨v, hv, e⟩ := h4 kl hk
    exact ⟨v, by omega, e⟩
theorem MapIs.put {D : DataW Unit} {g : Nat → Int} {K k : Nat} (h : MapIs D g K) (hk : k < K) {x : Int} (hx : 0 < x) : MapIs (D.put (.int .i64 (k : Int)) (.lit (.int .i64 x))) (fun v => if v = k then x else g v) K := by
  obtain ⟨h1, h2, h3, h4⟩ := h
  refine ⟨h1.put _ _, fun v hv => ?_, fun v hv hp => ?_, fun kl hkl => ?_⟩ <;> try dsimp only at *
  · by_cases e : v = k
    · subst e; rw [has_put_same h1 (keyI _)]; simp [hx]
    · rw [has_put_other (key_ne e), h2 v hv]; simp [e]
  · by_cases e : v = k
    · subst e; rw [if_pos rfl]; exact fun zd => atKey_put_same h1 (keyI _) _ _
    · rw [if_neg e] at hp ⊢; intro zd; rw [atKey_put_other (key_ne e)]; exact h3 v hv hp zd
  · by_cases e : kl = .int .i64 (k : Int)
    · exact ⟨k, hk, e⟩
    · rw [has_put_other e] at hkl; exact h4 kl hkl
theorem MapIs.congr {D : DataW Unit} {g g' : Nat → Int} {K : Nat} (h : MapIs D g K) (e : ∀ v, g v = g' v) : MapIs D g' K := by
  have : g = g' := funext e
  rwa [← this]

def sumF (f : Nat → Int) : Nat → Int
  | 0 => 0
  | k + 1 => sumF f k + f k
/-- of those that have come -/
def cameF (f : Nat → Int) (left : Lit → Bool) : Nat → Int
  | 0 => 0
  | k + 1 => cameF f left k + if left (.int .i64 (k : Int)) then 0 else f k
theorem costK_F (xs : List Int) (s : Nat) (o u : Int) : ∀ k, costK xs s o u k = sumF (fun v => xs.getD v 0 * unitC s v o u) k
  | 0 => rfl
  | k + 1 => by rw [costK, sumF, costK_F xs s o u k]
theorem came_start {f : Nat → Int} {left : Lit → Bool} : ∀ {K : Nat}, (∀ v : Nat, v < K → left (.int .i64 (v : Int)) = false → f v = 0) → cameF f left K = 0
  | 0, _ => rfl
  | k + 1, h => by
    rw [cameF, came_start (fun v hv => h v (by omega))]
    cases e : left (.int .i64 (k : Int))
    · simp [h k (by omega) e]
    · simp
theorem came_end {f : Nat → Int} {left : Lit → Bool} (h : ∀ kl, left kl = false) : ∀ K, cameF f left K = sumF f K
  | 0 => rfl
  | k + 1 => by rw [cameF, sumF, came_end h k, h]; simp
theorem came_miss {f : Nat → Int} {left : Lit → Bool} {j : Nat} : ∀ {K : Nat}, K ≤ j → cameF f (fun z => left z && !z.sameKey (.int .i64 (j : Int))) K = cameF f left K
  | 0, _ => rfl
  | k + 1, h => by
    rw [cameF, cameF, came_miss (by omega)]
    simp only [key_same, show ¬ k = j by omega, decide_false, Bool.not_false, Bool.and_true]
theorem came_step {f : Nat → Int} {left : Lit → Bool} {j : Nat} (hj : left (.int .i64 (j : Int)) = true) : ∀ {K : Nat}, j < K → cameF f (fun z => left z && !z.sameKey (.int .i64 (j : Int))) K = cameF f left K + f j
  | 0, h => by omega
  | k + 1, h => by
    rw [cameF, cameF]
    by_cases e : k = j
    · subst e
      rw [came_miss (Nat.le_refl _)]
      simp [key_same, hj]
    · rw [came_step hj (by omega)]
      simp only [key_same, e, decide_false, Bool.not_false, Bool.and_true]
      omega
theorem came_bd {f : Nat → Int} {left : Lit → Bool} {B : Int} (hB : 0 ≤ B) : ∀ {K : Nat}, (∀ v : Nat, v < K → 0 ≤ f v ∧ f v ≤ B) → 0 ≤ cameF f left K ∧ cameF f left K ≤ B * (K : Int)
  | 0, _ => by simp [cameF]
  | k + 1, h => by
    have ih := came_bd (left := left) hB (fun v (hv : v < k) => h v (by omega))
    have := h k (by omega)
    rw [cameF, show B * ((k + 1 : Nat) : Int) = B * (k : Int) + B by push_cast; rw [Int.mul_add, Int.mul_one]]
    split <;> omega
theorem strike_le {left : Lit → Bool} {D : DataW Unit} (h : ∀ kl, left kl = true → has D kl = true) (kl' : Lit) : ∀ kl, (fun z : Lit => left z && !z.sameKey kl') kl = true → has D kl = true := fun kl e => by
  simp only [Bool.and_eq_true] at e
  exact h kl e.1
/-- the entry that has come: its key and its number -/
theorem MapIs.came {D : DataW Unit} {g : Nat → Int} {K : Nat} (h : MapIs D g K) {left : Lit → Bool} (hl : ∀ kl, left kl = true → has D kl = true) {x c : Int} (hx : left (.int .i64 x) = true) (hat : ∀ zd, D.atKey (.int .i64 x) zd = .lit (.int .i64 c)) :
    ∃ v : Nat, v < K ∧ x = (v : Int) ∧ c = g v ∧ 0 < g v := by
  obtain ⟨v, hv, e⟩ := h.2.2.2 _ (hl _ hx)
  injection e with _ e
  subst e
  have h0 := h.2.1 v hv
  rw [hl _ hx] at h0
  have hp := of_decide_eq_true h0.symm
  have := h.2.2.1 v hv hp .nil
  rw [hat .nil] at this
  injection this with this
  injection this with _ this
  exact ⟨v, hv, rfl, this, hp⟩
end Go.Proofs.YtjcbpnffmebihaaGreatDoor
namespace Go.Proofs.YtjcbpnffmebihaaGreatDoor
open Go.RowKit Go.WideShapes Go.Maps

theorem upTo_mem {xs : List Int} (h : allIn 0 9 xs = true) : ∀ x ∈ xs, -1099511627776 ≤ x ∧ x ≤ 1099511627776 := fun x hx => by
  have := List.all_eq_true.1 h x hx
  simp [inB] at this
  omega
theorem fromOne10 (n hi : Int) (w : World) {b : Bool} (hb : inB 1 hi n = b) :
    Calls Tryz.prog 125 #[.int .i64 n, .int .i64 hi] w fun e w' => e = .returned (.bool b) ∧ w' = w := by
  subst hb
  by_cases h1 : 1 ≤ n
  · by_cases h2 : n ≤ hi
    · go_enter Tryz.func125, Tryz.ntmps125
      go_wp2
      go_ret
      exact ⟨ret_bool (inB_true h1 h2).symm, rfl⟩
    · go_enter Tryz.func125, Tryz.ntmps125
      go_wp2
      go_ret
      exact ⟨ret_bool (inB_hi (by omega)).symm, rfl⟩
  · go_enter Tryz.func125, Tryz.ntmps125
    go_wp2
    go_ret
    exact ⟨ret_bool (inB_lo (by omega)).symm, rfl⟩
set_option maxRecDepth 100000 in
set_option maxHeartbeats 2000000 in
theorem validChances_impl (S : Nat → Prop) (a : Option Addr) (len cap : Nat) (xs : List Int) (w : World) (h : IntsAt w S a len xs) :
    Calls Tryz.prog 97 #[.slice a len cap] w fun e w' => e = .returned (.bool (chM xs)) ∧ w = w' := by
  have hs := h.small
  have HL := Lib.hid h.lenEq
  cases h1 : inB 1 7 (len : Int)
  · have e : chM xs = false := by unfold chM; simp [inB] at h1; rw [HL.out]; simp; omega
    rw [e]
    go_enter Tryz.func97, Tryz.ntmps97
    go_wp2_with (go_at_call 125; refine (fromOne10 _ _ _ h1).mono ?_; rintro e w' ⟨rfl, rfl⟩)
    go_ret
    exact ⟨rfl, rfl⟩
  · cases h2 : allIn 0 9 xs
    · have e : chM xs = false := by unfold chM; rw [h2]; simp
      rw [e]
      go_enter Tryz.func97, Tryz.ntmps97
      go_wp2_with (first | (go_at_call 125; refine (fromOne10 _ _ _ h1).mono ?_; rintro e w' ⟨rfl, rfl⟩) | (go_at_call 105; refine (upTo8 S a len cap xs 9 _ h h2).mono ?_; rintro e w' ⟨rfl, rfl⟩))
      go_ret
      exact ⟨rfl, rfl⟩
    · have e : chM xs = decide (totalM xs > 0) := by unfold chM; rw [h2]; simp [inB] at h1; rw [HL.out, decide_eq_true (by omega)]; rfl
      rw [e]
      have hl8 : len ≤ 1048576 := by simp [inB] at h1; omega
      have HM := Lib.hid (upTo_mem h2)
      obtain ⟨T, hT⟩ : ∃ T, totalM xs = T := ⟨_, rfl⟩
      have HT := Lib.hid hT
      rw [hT]
      clear hT e
      go_enter Tryz.func97, Tryz.ntmps97
      go_wp2_with (first | (go_at_call 125; refine (fromOne10 _ _ _ h1).mono ?_; rintro e w' ⟨rfl, rfl⟩) | (go_at_call 105; refine (upTo8 S a len cap xs 9 _ h h2).mono ?_; rintro e w' ⟨rfl, rfl⟩) | (go_at_call 131; refine (sumOf_any S a len cap xs _ h HM.out hl8).mono ?_; rintro e w' ⟨rfl, rfl⟩; rw [HT.out]))
      go_ret
      exact ⟨rfl, rfl⟩
theorem Tryz.underCh : Tryz.prog.underlying 196 = some (.map 3 3) := by kernel_rfl
theorem Tryz.underI : Tryz.prog.underlying 3 = some (.int .i64) := by kernel_rfl
theorem Tryz.lawI : Keyed Tryz.prog 3 := int_keyed Tryz.underI
/-- a map of the call's own -/
def ChanP (w : World) (g : Nat → Int) (K : Nat) (e : Ending) (w' : World) : Prop := ∃ (B n : Nat) (D : DataW Unit), e = .returned (.map (some B)) ∧ w.heap.size ≤ B ∧ n ≤ K ∧ w'.ownsMap Tryz.prog 3 (plainElem Tryz.prog 3) B n D ∧ MapIs D g K ∧ Below w.heap.size w w'
def upto (xs : List Int) (k : Nat) (v : Nat) : Int := if v < k then xs.getD v 0 else 0
set_option maxRecDepth 100000 in
set_option maxHeartbeats 2000000 in
theorem chancesOf_impl (a : Option Addr) (len cap : Nat) (xs : List Int) (w : World) (h : IntsAt w (· < w.heap.size) a len xs) (h7 : len ≤ 7) (hx : ∀ k, 0 ≤ xs.getD k 0 ∧ xs.getD k 0 ≤ 9) :
    Calls Tryz.prog 159 #[.slice a len cap] w (ChanP w (fun v => xs.getD v 0) len) := by
  have hmm := @run_makeMap Tryz.prog
  have HXS := Lib.hid hx
  have HL := Lib.hid h.lenEq
  have HH := Lib.hid (fun w' (hb : Below w.heap.size w w') => h.below hb)
  clear hx h
  go_enter Tryz.func159, Tryz.ntmps159
  go_wp2_with fail
  go_loopw [9] (fun i wr => ∃ (k : Nat) (D : DataW Unit), k ≤ len ∧ i = .int .i64 k ∧ wr.ownsMap Tryz.prog 3 (plainElem Tryz.prog 3) w.heap.size k D ∧ MapIs D (upto xs k) len ∧ Below w.heap.size w wr) (fun i _ => len - (intOf i).toNat)
  case atStart => exact ⟨0, _, Nat.zero_le _, rfl, World.ownsMap_made _ _ _ _, mapIs_none len, (Below.refl _ _).alloc (Nat.le_refl _) _⟩
  case round =>
    obtain ⟨k, D, hk, rfl, hown, hm, hnx⟩ := hrel
    have HM := Lib.hid hm
    have HNX := Lib.hid hnx
    clear hm hnx
    by_cases hlt : k < len
    · have hkI : (k : Int) < (len : Int) := by omega
      obtain ⟨b, off, x, rfl, hx, hc⟩ := (HH.out wr HNX.out).get hlt
      have hxe : xs.getD k 0 = x := getD_of hx
      have hx9 := HXS.out k
      rw [hxe] at hx9
      have HXE := Lib.hid hxe
      clear hx hxe
      by_cases hp : 0 < x
      · have EM : ∀ v, (if v = k then x else upto xs k v) = upto xs (k + 1) v := fun v => by
          unfold upto
          by_cases e : v = k
          · subst e; rw [if_pos rfl, if_pos (by omega), HXE.out]
          · rw [if_neg e]
            by_cases h1 : v < k
            · rw [if_pos h1, if_pos (by omega)]
            · rw [if_neg h1, if_neg (by omega)]
        have HEM := Lib.hid EM
        clear EM
        go_wp2_with (first
          | (at_mapUpdate; refine wpList_mapUpdate_own _ rfl _ _ _ 196 rfl 3 3 Tryz.lawI Tryz.underCh _ w.heap.size k _ rfl hown (by unfold maxLen; omega) _ _ _ rfl rfl (keyOf_int_mk Tryz.underI (WalkArith.wf_i64 (by omega))) _ [] (plainElem_int Tryz.underI (WalkArith.wf_i64 (by omega))) ?_; intro w1 hown1 hgrow1)
          | fail)
        have hnx1 := HNX.out.grown hgrow1 HNX.out.size (fun j hj => by cases hj; exact Nat.le_refl _)
        go_roundw
        case rel => exact ⟨k + 1, _, by omega, by go_num, hown1, (HM.out.put (by omega) hp).congr HEM.out, hnx1⟩
        case measure => simp [intOf]; omega
      · have EM : ∀ v, upto xs k v = upto xs (k + 1) v := fun v => by
          unfold upto
          by_cases e : v = k
          · subst e; rw [if_neg (by omega), if_pos (by omega), HXE.out]; omega
          · by_cases h1 : v < k
            · rw [if_pos h1, if_pos (by omega)]
            · rw [if_neg h1, if_neg (by omega)]
        have HEM := Lib.hid EM
        clear EM
        go_wp2_with fail
        go_roundw
        case rel => exact ⟨k + 1, _, by omega, by go_num, hown.mono (by omega), HM.out.congr HEM.out, HNX.out⟩
        case measure => simp [intOf]; omega
    · obtain rfl : k = len := by omega
      have hkI : ¬ (k : Int) < (k : Int) := by omega
      go_wp2_with fail
      go_ret
      refine ⟨_, _, _, rfl, Nat.le_refl _, Nat.le_refl _, hown, HM.out.congr (fun v => ?_), HNX.out⟩
      unfold upto
      split
      · rfl
      · exact (getD_past (by rw [HL.out]; omega)).symm
end Go.Proofs.YtjcbpnffmebihaaGreatDoor
namespace Go.Proofs.YtjcbpnffmebihaaGreatDoor
open Go.RowKit Go.WideShapes Go.Maps

theorem areC {o u : Int} {b : Bool} (h : (inB 0 30 o && inB 0 30 u) = b) (w : World) : Calls Tryz.prog 90 #[.int .i64 o, .int .i64 u] w fun e w' => e = .returned (.bool b) ∧ w = w' := by
  subst h; exact areCosts_any o u w
theorem vchI {S : Nat → Prop} {a : Option Addr} {len cap : Nat} {xs : List Int} {b : Bool} (hb : chM xs = b) (w : World) (h : IntsAt w S a len xs) : Calls Tryz.prog 97 #[.slice a len cap] w fun e w' => e = .returned (.bool b) ∧ w = w' := by
  subst hb; exact validChances_impl S a len cap xs w h
theorem okO_eq {xs : List Int} {o u : Int} {b c : Bool} (h : chM xs = b) (h2 : (inB 0 30 o && inB 0 30 u) = c) : okO xs o u = (b && c) := by
  unfold okO; rw [Bool.and_assoc, h2, h]
set_option maxRecDepth 100000 in
set_option maxHeartbeats 4000000 in
theorem stockCost_impl (a : Option Addr) (len cap : Nat) (xs : List Int) (s o u : Int) (w : World) (h : IntsAt w (· < w.heap.size) a len xs) :
    Calls Tryz.prog 132 #[.slice a len cap, .int .i64 s, .int .i64 o, .int .i64 u] w (valN w (.int .i64 (stockRes xs s o u))) := by
  cases hc : chM xs
  · rw [stockRes_no (.inl (by rw [okO_eq hc rfl]; rfl))]
    go_enter Tryz.func132, Tryz.ntmps132
    go_wp2_with (go_at_call 97; refine (vchI hc _ h).mono ?_; rintro e w' ⟨rfl, rfl⟩)
    go_ret
    exact ⟨rfl, Below.refl _ _⟩
  · cases hs : inB 0 7 s
    · rw [stockRes_no (.inr hs)]
      go_enter Tryz.func132, Tryz.ntmps132
      go_wp2_with (first | (go_at_call 97; refine (vchI hc _ h).mono ?_; rintro e w' ⟨rfl, rfl⟩) | (go_at_call 118; refine (isUp8 _ _ _ hs).mono ?_; rintro e w' ⟨rfl, rfl⟩))
      go_ret
      exact ⟨rfl, Below.refl _ _⟩
    · cases ho : (inB 0 30 o && inB 0 30 u)
      · rw [stockRes_no (.inl (by rw [okO_eq hc ho]; rfl))]
        go_enter Tryz.func132, Tryz.ntmps132
        go_wp2_with (first | (go_at_call 97; refine (vchI hc _ h).mono ?_; rintro e w' ⟨rfl, rfl⟩) | (go_at_call 118; refine (isUp8 _ _ _ hs).mono ?_; rintro e w' ⟨rfl, rfl⟩) | (go_at_call 90; refine (areC ho _).mono ?_; rintro e w' ⟨rfl, rfl⟩))
        go_ret
        exact ⟨rfl, Below.refl _ _⟩
      · have hok : okO xs o u = true := by rw [okO_eq hc ho]; rfl
        obtain ⟨s, rfl, hs7⟩ : ∃ n : Nat, s = (n : Int) ∧ n ≤ 7 := by simp [inB] at hs; exact ⟨s.toNat, by omega, by omega⟩
        rw [stockRes_yes hok hs7]
        obtain ⟨_, ho0, ho1, hu0, hu1⟩ := okO_at hok
        obtain ⟨hl1, hl7, hx9, _⟩ := chM_at hc
        have hle : xs.length = len := h.lenEq
        have HX9 := Lib.hid hx9
        clear hx9
        have HCO := Lib.hid (show costS xs s o u = sumF (fun v => xs.getD v 0 * unitC s v o u) len by unfold costS; rw [costK_F, hle])
        rw [hle] at hl1 hl7
        clear hle
        go_enter Tryz.func132, Tryz.ntmps132
        go_wp2_with (first | (go_at_call 97; refine (vchI hc _ h).mono ?_; rintro e w' ⟨rfl, rfl⟩) | (go_at_call 118; refine (isUp8 _ _ _ hs).mono ?_; rintro e w' ⟨rfl, rfl⟩) | (go_at_call 90; refine (areC ho _).mono ?_; rintro e w' ⟨rfl, rfl⟩))
        refine (chancesOf_impl a len cap xs _ h hl7 HX9.out).mono ?_
        rintro e w1 ⟨B, n, D, rfl, hB, hn, hown, hm, hb1⟩
        have HM := Lib.hid hm
        have HB1 := Lib.hid hb1
        clear hm hb1 h hc hs ho hok
        go_wp2_with (first
          | (at_range; refine wpList_range_own _ rfl _ 196 rfl 3 3 Tryz.lawI Tryz.underCh _ B n _ rfl hown ?_; intro w0 hrg0 hg0 hs0)
          | fail)
        go_frame
        go_loopw [9] (fun i wr => ∃ (left : Lit → Bool) (cnt : Nat), i = .int .i64 (cameF (fun v => xs.getD v 0 * unitC s v o u) left len) ∧ (∀ kl, left kl = true → has D kl = true) ∧ wr.ranges Tryz.prog 3 (plainElem Tryz.prog 3) B w1.heap.size n D left cnt ∧ Below w1.heap.size w1 wr) (fun _ wr => wr.rangeLeft B w1.heap.size)
        case atStart =>
          refine ⟨_, _, ?_, fun _ h => h, hrg0, ⟨hg0.os, hg0.tape, hg0.output, hg0.size, fun k hk => hg0.block k hk (by simp)⟩⟩
          rw [came_start (fun v hv hh => ?_)]
          rw [HM.out.2.1 v hv] at hh
          have h1 : ¬ 0 < xs.getD v 0 := of_decide_eq_false hh
          have h2 := HX9.out v
          have h3 : xs.getD v 0 = 0 := by omega
          rw [h3, Int.zero_mul]
        case round =>
          clear hrg0 hg0 hs0 hown
          obtain ⟨left, cnt, rfl, hle, hrg, hnx⟩ := hrel
          have HNX := Lib.hid hnx
          have HLE := Lib.hid hle
          have hcb := came_bd (f := fun v => xs.getD v 0 * unitC s v o u) (left := left) (B := 4320) (K := len) (by omega) (fun v hv => termC_bd (HX9.out v) (unit_bd ⟨ho0, ho1⟩ ⟨hu0, hu1⟩ (by omega) (by omega)))
          clear hnx hle
          obtain ⟨c, hc⟩ : ∃ c, cameF (fun v => xs.getD v 0 * unitC s v o u) left len = c := ⟨_, rfl⟩
          rw [hc] at hcb ⊢
          have HC := Lib.hid hc
          clear hc
          have hc0 : 0 ≤ c := hcb.1
          have hc1 : c ≤ 40000 := by omega
          clear hcb
          go_wp2_with (first
            | (at_next; refine wpList_next_ranges_ii _ rfl _ rfl 3 3 .i64 .i64 Tryz.lawI Tryz.underI Tryz.underI B w1.heap.size n _ _ _ rfl hrg ?_ ?_)
            | fail)
          · intro _ hl0
            go_wp2_with fail
            go_ret
            exact ⟨ret_int (by rw [HCO.out, ← HC.out, came_end hl0]), HB1.out.trans (HNX.out.mono HB1.out.size)⟩
          · intro x y w2 cnt1 hwx hwc hlx hat hrg1 hlt hg1 hs1 hen
            obtain ⟨v, hv, rfl, rfl, hp⟩ := HM.out.came HLE.out hlx hat
            have hnx1 := HNX.out.grown hg1 HNX.out.size (fun j hj => by cases hj; exact Nat.le_refl _)
            have HST := Lib.hid (came_step (f := fun v => xs.getD v 0 * unitC s v o u) hlx hv)
            have HN1 := Lib.hid hnx1
            have hx9 := HX9.out v
            clear hnx1 hat
            obtain ⟨d1, e1⟩ : ∃ d1 : Int, ((s - v : Nat) : Int) = d1 := ⟨_, rfl⟩
            obtain ⟨d2, e2⟩ : ∃ d2 : Int, ((v - s : Nat) : Int) = d2 := ⟨_, rfl⟩
            have hF : xs.getD v 0 * unitC s v o u = xs.getD v 0 * (o * d1 + u * d2) := by unfold unitC; rw [e1, e2]
            have hb := termC_bd hx9 (unit_bd (s := s) (v := v) ⟨ho0, ho1⟩ ⟨hu0, hu1⟩ (by omega) (by omega))
            rw [hF] at hb
            have HFF := Lib.hid hF
            clear hF
            have b1 : 0 ≤ o * d1 ∧ o * d1 ≤ 30 * 8 := ⟨Int.mul_nonneg ho0 (by omega), Int.mul_le_mul ho1 (by omega) (by omega) (by omega)⟩
            have b2 : 0 ≤ u * d2 ∧ u * d2 ≤ 30 * 8 := ⟨Int.mul_nonneg hu0 (by omega), Int.mul_le_mul hu1 (by omega) (by omega) (by omega)⟩
            have m1 : (if v < s then (s : Int) - (v : Int) else 0) = d1 := by split <;> omega
            have n1 : (if s < v then (v : Int) - (s : Int) else 0) = d2 := by split <;> omega
            clear e1 e2
            obtain ⟨g, hg⟩ : ∃ g, xs.getD v 0 = g := ⟨_, rfl⟩
            rw [hg] at hb hx9 hp hwc hen HFF ⊢
            have HG := Lib.hid hg
            clear hg hwx hwc
            go_wp2_with fail
            go_roundw
            case rel => exact ⟨_, _, by rw [HST.out, HC.out]; show _ = Value.int .i64 (c + (xs.getD v 0 * unitC s v o u)); rw [HG.out, HFF.out], strike_le HLE.out _, hrg1, HN1.out⟩
            case measure => rw [hrg1.left_eq, hrg.left_eq]; exact hlt
end Go.Proofs.YtjcbpnffmebihaaGreatDoor
