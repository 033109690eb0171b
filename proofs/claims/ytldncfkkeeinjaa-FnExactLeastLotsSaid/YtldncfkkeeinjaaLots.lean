import Derived.Test.YtldncfkkeeinjaaRows
import Derived.WalkKit
import Derived.LoopTactic
import Derived.Outline
import Derived.WalkSpells
import Derived.WalkLawsBesides
import Derived.ProofKit
import Derived.Lib.Hide
import Derived.RegionTactic
import Derived.BigRegion
import Derived.Test.YtldncfkkeeinjaaLib
import Derived.Test.YtldncfkkeeinjaaGen
import Derived.Test.YtldncfkkeeinjaaExact
import Derived.Test.YtldncfkkeeinjaaMark
import Derived.Test.YtldncfkkeeinjaaArr
import Derived.Test.YtldncfkkeeinjaaOwn1
import Derived.Test.YtldncfkkeeinjaaUp
import Derived.Test.YtldncfkkeeinjaaNetM
import Derived.Test.YtldncfkkeeinjaaVal2
import Derived.Test.YtldncfkkeeinjaaEx
namespace Go.Proofs.Ytldncfkkeeinjaa
open Go.RowKit Go.WideShapes

theorem Try.infoIntLo : (Try.prog.info? 3).map (fun i => (i.zero, i.size, i.bytes)) = some (some (.int .i64 0), 1, 8) := by kernel_rfl

theorem ints_alloc {w : World} {a : Option Addr} {len : Nat} {xs : List Int} (h : IntsAt w (· < w.heap.size) a len xs) (o : Obj) : IntsAt (w.alloc o) (· < w.heap.size) a len xs :=
  h.to (fun b hb => ⟨hb, Below.heap_alloc _ _ _ (by omega)⟩)

theorem ret_slice {a : Option Addr} {l c l' c' : Nat} (h : l = l') (h2 : c = c') : Ending.returned (.slice a l c) = Ending.returned (.slice a l' c') := by rw [h, h2]
def SlicePost (w : World) (S : Nat → Prop) (l : Nat) (xs : List Int) (e : Ending) (w' : World) : Prop := (∃ a', e = .returned (.slice a' l l) ∧ IntsAt w S a' l xs) ∧ w = w'
set_option maxHeartbeats 1000000 in
theorem daysFrom_any (S : Nat → Prop) (a : Option Addr) (len cap : Nat) (xs : List Int) (n m : Int) (first days l : Nat) (w : World) (h : IntsAt w S a len xs) (hc : len ≤ cap) (hl8 : len ≤ 8) (hn : n = (first : Int)) (hm : m = (days : Int)) (hf : first < len) (hd : 1 ≤ days) (hd9 : days ≤ 9) (hl : l = min days (len - first)) :
    Calls Try.prog 33 #[.slice a len cap, .int .i64 n, .int .i64 m] w (SlicePost w S l ((xs.drop first).take l)) := by
  subst hn hm
  have hle := h.lenEq
  obtain ⟨b, off, ha, hS, hcell⟩ := h.cells (by omega)
  have key : IntsAt w S (some ⟨b, off + first, none⟩) l ((xs.drop first).take l) := by
    refine ⟨by simp; omega, by omega, fun _ => ⟨b, off + first, rfl, hS, fun i x hx => ?_⟩⟩
    rw [List.getElem?_take] at hx
    split at hx
    · rw [List.getElem?_drop] at hx
      rw [Nat.add_assoc]
      exact hcell _ _ hx
    · cases hx
  have KEY := Lib.hid key
  clear key hcell hle
  subst ha
  by_cases hmin : first + days ≤ len
  · obtain rfl : l = days := by omega
    have e1 : (first : Int) + (l : Int) ≤ (len : Int) := by omega
    clear hl
    go_enter Try.func33, Try.ntmps33
    go_wp2
    go_ret
    exact ⟨⟨_, ret_slice (by omega) (by omega), KEY.out⟩, rfl⟩
  · have e1 : ¬ (first : Int) + (days : Int) ≤ (len : Int) := by omega
    obtain rfl : l = len - first := by omega
    clear hl
    go_enter Try.func33, Try.ntmps33
    go_wp2
    go_ret
    exact ⟨⟨_, ret_slice (by omega) (by omega), KEY.out⟩, rfl⟩
theorem sumOf_any (S : Nat → Prop) (a : Option Addr) (len cap : Nat) (xs : List Int) (w : World) (h : IntsAt w S a len xs) (hb : ∀ x ∈ xs, -1099511627776 ≤ x ∧ x ≤ 1099511627776) (hl : len ≤ 1048576) :
    Calls Try.prog 26 #[.slice a len cap] w fun e w' => e = .returned (.int .i64 (totalM xs)) ∧ w = w' := by
  go_enter Try.func26, Try.ntmps26
  go_wp2
  go_loop [3, 8] (fun n i => ∃ k : Nat, k ≤ len ∧ i = .int .i64 k ∧ n = .int .i64 (totalM (xs.take k))) (fun _ i => len - (intOf i).toNat)
  case atStart => exact ⟨0, Nat.zero_le _, rfl, rfl⟩
  case round =>
    obtain ⟨k, hk, rfl, rfl⟩ := hrel
    by_cases hlt : k < len
    · obtain ⟨b, off, x, rfl, hx, hc⟩ := h.get hlt
      have hx1 := hb x (List.mem_of_getElem? hx)
      have hx2 := totalM_bd (B := 1099511627776) (by omega) (fun y hy => hb y (take_mem (k := k) hy))
      have hll : ((xs.take k).length : Int) ≤ 1048576 := by rw [List.length_take]; omega
      have HX := Lib.hid hx
      clear hx
      generalize hT : totalM (xs.take k) = t at hx2 ⊢
      have HT := Lib.hid hT
      clear hT
      have ht1 : -1152921504606846976 ≤ t := by omega
      have ht2 : t ≤ 1152921504606846976 := by omega
      clear hx2 hll
      go_wp2
      go_round
      case rel => exact ⟨k + 1, by omega, by go_num, by rw [take_get HX.out, totalM_snoc, HT.out]⟩
      case measure => simp [intOf]; omega
    · have hle := h.lenEq
      have HL := Lib.hid hle
      clear hle
      go_wp2
      go_ret
      exact ⟨ret_int (by rw [List.take_of_length_le (by rw [HL.out]; omega)]), rfl⟩
/-- what LotsFor answers -/
def lotsRes (xs : List Int) (d : Int) : List Int := if (validDaysM xs && inB 1 8 d) = true then lotsM xs d else []
theorem lotsRes_len (xs : List Int) (d : Int) : (lotsRes xs d).length ≤ 1048576 := by
  unfold lotsRes
  split
  · rename_i h; simp only [Bool.and_eq_true] at h; have := validDays_len h.1; rw [lotsM_length]; omega
  · simp
theorem lotsRes_no {xs : List Int} {d : Int} (h : (validDaysM xs && inB 1 8 d) = false) : lotsRes xs d = [] := by unfold lotsRes; rw [h]; rfl
theorem lotsRes_yes {xs : List Int} {d : Int} (h : (validDaysM xs && inB 1 8 d) = true) : lotsRes xs d = lotsM xs d := by unfold lotsRes; rw [h]; rfl

set_option maxRecDepth 100000 in
set_option maxHeartbeats 2000000 in
theorem lotsFor_impl (a : Option Addr) (len cap : Nat) (xs : List Int) (d : Int) (w : World) (h : IntsAt w (· < w.heap.size) a len xs) (hcap : len ≤ cap) :
    Calls Try.prog 15 #[.slice a len cap, .int .i64 d] w (ResPost w (lotsRes xs d)) := by
  cases hv : validDaysM xs
  · rw [lotsRes_no (by rw [hv]; rfl)]
    go_enter Try.func15, Try.ntmps15
    go_wp2_with (go_at_call 30; refine (validDays_impl _ _ _ _ xs _ h).mono ?_; rintro e w' ⟨rfl, rfl⟩)
    go_ret
    exact resPost_nil w
  · by_cases hd1 : d < 1
    · rw [lotsRes_no (by rw [inB_lo hd1]; simp)]
      go_enter Try.func15, Try.ntmps15
      go_wp2_with (go_at_call 30; refine (validDays_impl _ _ _ _ xs _ h).mono ?_; rintro e w' ⟨rfl, rfl⟩)
      go_ret
      exact resPost_nil w
    · by_cases hd8 : 8 < d
      · rw [lotsRes_no (by rw [inB_hi hd8]; simp)]
        go_enter Try.func15, Try.ntmps15
        go_wp2_with (go_at_call 30; refine (validDays_impl _ _ _ _ xs _ h).mono ?_; rintro e w' ⟨rfl, rfl⟩)
        go_ret
        exact resPost_nil w
      · rw [lotsRes_yes (by rw [hv, inB_true (by omega) (by omega)]; rfl)]
        have hle := h.lenEq
        have hl8 : len ≤ 8 := by have := validDays_len hv; omega
        have HAT := Lib.hid (validDays_at hv)
        have HMEM := Lib.hid (show ∀ x ∈ xs, -1099511627776 ≤ x ∧ x ≤ 1099511627776 from fun x hx => by
          obtain ⟨k, hk, rfl⟩ := List.mem_iff_getElem.1 hx
          have := allIn_get (validDays_all hv) (List.getElem?_eq_getElem hk); omega)
        have HL := Lib.hid hle
        clear hle
        have hmk := fun w => run_make_row' (P := Try.prog) 23 3 (.int .i64 0) 8 Try.underlying23 Try.infoIntLo rfl .i64 .i64 len (by omega) (by omega) w
        go_enter Try.func15, Try.ntmps15
        go_wp2_with (go_at_call 30; refine (validDays_impl _ _ _ _ xs _ h).mono ?_; rintro e w' ⟨rfl, rfl⟩)
        clear hmk
        go_loopw [6] (fun i wr => ∃ (k : Nat) (C : Array Value), k ≤ len ∧ i = .int .i64 k ∧ wr = w.alloc (.cells C 3) ∧ ArrIs C len (outTo xs d k) ∧ (freeAt xs d k ∨ k = len)) (fun i _ => len - (intOf i).toNat)
        case atStart => exact ⟨0, _, Nat.zero_le _, rfl, rfl, (ArrIs.made len).congr (fun q _ => rfl), Or.inl (Or.inl (by simp [atTo]))⟩
        case round =>
          obtain ⟨k, C, hk, rfl, rfl, hC, hf⟩ := hrel
          by_cases hlt : k < len
          · have hf' : freeAt xs d k := by rcases hf with hf | hf; exact hf; omega
            obtain ⟨b, off, x, rfl, hx, hc⟩ := h.get hlt
            have hb : b < w.heap.size := h.mem (by omega)
            have hxb := HAT.out k
            rw [getD_of hx] at hxb
            have HC := Lib.hid hC
            have HX := Lib.hid hx
            have HF := Lib.hid hf'
            clear hx hf hf'
            by_cases hx0 : x = 0
            · subst hx0
              clear hC
              go_wp2
              go_roundw
              case rel =>
                obtain ⟨f1, f2⟩ := free_none HF.out (getD_of HX.out)
                exact ⟨k + 1, C, by omega, by go_num, rfl, HC.out.congr (fun q _ => (f2 q).symm), Or.inl f1⟩
              case measure => simp [intOf]; omega
            · have hck := hC.get k hlt
              have hxe : (x == 0) = false := by simpa using hx0
              obtain ⟨dn, hdn⟩ : ∃ dn : Nat, d = (dn : Int) := ⟨d.toNat, by omega⟩
              obtain ⟨l, hl⟩ : ∃ l, l = min dn (len - k) := ⟨_, rfl⟩
              have hlk : k + l ≤ len := by omega
              have hl1 : 1 ≤ l := by omega
              have hl9 : l ≤ 8 := by omega
              have hll : l = dn ∨ k + l = len := by omega
              have hxk : 0 < xs.getD k 0 := by rw [getD_of HX.out]; omega
              obtain ⟨f1, f2⟩ := free_lot HF.out hxk l hl1 (by omega)
              have hpart := totalM_part xs k l (by rw [HL.out]; omega)
              have hlate := outTo_late xs d k k (Nat.le_refl _)
              have hfree : freeAt xs d (k + l) ∨ k + l = len := by
                rcases hll with e | e
                · left; have := free_end HF.out hxk (by omega); rw [show d.toNat = l by omega] at this; exact this
                · exact Or.inr e
              have HV := Lib.hid hpart
              have HF2 := Lib.hid f2
              have HFREE := Lib.hid hfree
              have HLATE := Lib.hid hlate
              have HDL := Lib.hid hl
              have HDN := Lib.hid hdn
              have hxs := ints_alloc h (.cells C 3)
              have hd1 : 1 ≤ dn := by omega
              have hd9 : dn ≤ 9 := by omega
              clear hC f1 f2 hpart hlate hfree hll hl hdn hxk
              generalize outTo xs d k k = c0 at hck HLATE
              go_wp2_with fail
              refine (daysFrom_any _ _ len cap xs _ _ k dn l _ hxs hcap hl8 rfl HDN.out hlt hd1 hd9 HDL.out).mono ?_
              rintro e w' ⟨⟨a6, rfl, h6⟩, rfl⟩
              go_wp2_with fail
              refine (sumOf_any _ _ l l _ _ h6 (fun y hy => HMEM.out y (List.mem_of_mem_drop (List.mem_of_mem_take hy))) (by omega)).mono ?_
              rintro e w' ⟨rfl, rfl⟩
              rw [HV.out]
              go_wp2
              go_roundw
              case rel => exact ⟨k + l, _, by omega, by go_num, rfl, (HC.out.set k _).congr (fun q _ => by
                  have := HF2.out q
                  rw [this]
                  by_cases e : q = k
                  · subst e; rw [if_pos rfl, if_pos rfl, outTo_late xs d q q (Nat.le_refl _)]; omega
                  · rw [if_neg e, if_neg e]; omega), HFREE.out⟩
              case measure => simp [intOf]; omega
          · obtain rfl : k = len := by omega
            go_wp2
            go_ret
            have e := hC.cells (xs := lotsM xs d) (by rw [lotsM_length]; exact HL.out) (fun q x hx => by
              obtain ⟨rfl, hq⟩ := tab_get hx
              rw [HL.out])
            rw [e]
            exact resPost_alloc (by rw [lotsM_length]; exact HL.out) (by omega)
set_option maxRecDepth 100000 in
set_option maxHeartbeats 2000000 in
theorem lots_spec (a : Option Addr) (len cap : Nat) (xs : List Int) (d : Int) (w : World) (h : IntsAt w (· < w.heap.size) a len xs) (hv : validDaysM xs = true) (hd1 : 1 ≤ d) (hd8 : d ≤ 8) :
    Calls Try.prog 22 #[.slice a len cap, .int .i64 d] w (NewOwn w (lotsM xs d)) := by
  have hle := h.lenEq
  have hl8 : len ≤ 8 := by have := validDays_len hv; omega
  have HAT := Lib.hid (validDays_at hv)
  have HBD := Lib.hid (fun k q => outTo_bd (days := d) (validDays_at hv) k q)
  have HSU := Lib.hid (sumN_bd (validDays_at hv))
  have HL := Lib.hid hle
  clear hle
  have hmk := fun w => run_make_row' (P := Try.prog) 23 3 (.int .i64 0) 8 Try.underlying23 Try.infoIntLo rfl .i64 .i64 len (by omega) (by omega) w
  go_enter Try.func22, Try.ntmps22
  go_wp2
  clear hmk
  go_loopw [6, 7] (fun at_ i wr => ∃ (k : Nat), k ≤ len ∧ i = .int .i64 k ∧ at_ = .int .i64 (atTo xs d k) ∧ OwnF w wr len (outTo xs d k)) (fun _ i _ => len - (intOf i).toNat)
  case atStart => exact ⟨0, Nat.zero_le _, rfl, rfl, (OwnF.start w len (by omega)).congr (fun q _ => rfl)⟩
  case round =>
    obtain ⟨k, hk, rfl, rfl, hC⟩ := hrel
    by_cases hlt : k < len
    · obtain ⟨b, off, x, rfl, hx, hc⟩ := (h.below hC.below).get hlt
      have hxb := HAT.out k
      rw [getD_of hx] at hxb
      have hab := atTo_bd xs d k
      have HC := Lib.hid hC
      have HX := Lib.hid (getD_of hx)
      have hobk := HBD.out k
      have hsu := HSU.out k
      have HNX := Lib.hid (show atTo xs d (k + 1) = stepAt xs d k (atTo xs d k) from rfl)
      clear hx
      generalize hA : atTo xs d k = A at hab HNX ⊢
      clear hA
      by_cases hbusy : 0 ≤ A ∧ (k : Int) - A < d
      · obtain ⟨h0, hlt2⟩ := hbusy
        have HB := Lib.hid (stepAt_busy (xs := xs) h0 hlt2)
        obtain ⟨m, rfl⟩ : ∃ m : Nat, A = (m : Int) := ⟨A.toNat, by omega⟩
        have hm : m < len := by omega
        obtain ⟨hcm, hfm⟩ := hC.cell hm
        have hbm := hobk m
        clear hC hobk
        generalize hO : outTo xs d k m = o at hcm hbm
        have HO := Lib.hid hO
        clear hO
        go_wp2
        go_region
        go_wp2
        go_roundw
        case rel => exact ⟨k + 1, by omega, by go_num, by rw [HNX.out, HB.out], (HC.out.put m _).drew1.congr (fun q _ => by
            rw [outTo, HNX.out, HB.out, HX.out]
            by_cases e : q = m
            · subst e; rw [if_pos rfl, if_pos rfl, HO.out]
            · rw [if_neg e, if_neg (by omega)]; omega)⟩
        case measure => simp [intOf]; omega
      · have hfr : A < 0 ∨ d ≤ (k : Int) - A := by omega
        have HB := Lib.hid (stepAt_free (xs := xs) hab.1 hfr)
        rw [HX.out] at HB
        obtain ⟨hcm, hfm⟩ := hC.cell hlt
        have hbm := hobk k
        clear hC hobk
        generalize hO : outTo xs d k k = o at hcm hbm
        have HO := Lib.hid hO
        clear hO
        by_cases hx0 : 0 < x
        · have HB' := Lib.hid (HB.out.trans (if_pos hx0))
          by_cases h0 : 0 ≤ A
          · have hge : d ≤ (k : Int) - A := by omega
            clear hfr hbusy
            go_wp2
            go_region
            go_wp2
            go_roundw
            case rel => exact ⟨k + 1, by omega, by go_num, by rw [HNX.out, HB'.out], (HC.out.put k _).drew1.congr (fun q _ => by
                rw [outTo, HNX.out, HB'.out, HX.out]
                by_cases e : q = k
                · subst e; rw [if_pos rfl, if_pos rfl, HO.out]
                · rw [if_neg e, if_neg (by omega)]; omega)⟩
            case measure => simp [intOf]; omega
          · clear hfr hbusy
            go_wp2
            go_region
            go_wp2
            go_roundw
            case rel => exact ⟨k + 1, by omega, by go_num, by rw [HNX.out, HB'.out], (HC.out.put k _).drew1.congr (fun q _ => by
                rw [outTo, HNX.out, HB'.out, HX.out]
                by_cases e : q = k
                · subst e; rw [if_pos rfl, if_pos rfl, HO.out]
                · rw [if_neg e, if_neg (by omega)]; omega)⟩
            case measure => simp [intOf]; omega
        · have HB' := Lib.hid (HB.out.trans (if_neg hx0))
          by_cases h0 : 0 ≤ A
          · have hge : d ≤ (k : Int) - A := by omega
            clear hfr hbusy
            go_wp2
            go_roundw
            case rel => exact ⟨k + 1, by omega, by go_num, by rw [HNX.out, HB'.out], HC.out.congr (fun q _ => by
                rw [outTo, HNX.out, HB'.out, if_neg (by omega)]; omega)⟩
            case measure => simp [intOf]; omega
          · have hA1 : A = -1 := by omega
            subst hA1
            clear hfr hbusy
            go_wp2
            go_roundw
            case rel => exact ⟨k + 1, by omega, by go_num, by rw [HNX.out, HB'.out], HC.out.congr (fun q _ => by
                rw [outTo, HNX.out, HB'.out, if_neg (by omega)]; omega)⟩
            case measure => simp [intOf]; omega
    · obtain rfl : k = len := by omega
      go_wp2
      go_ret
      have e : lotsM xs d = tab (outTo xs d k) k := by unfold lotsM; rw [HL.out]
      rw [e]
      exact hC.done (by omega)
end Go.Proofs.Ytldncfkkeeinjaa
