import Derived.Test.YtieknoijkmkdpabRows
import Derived.WalkKit
import Derived.LoopTactic
import Derived.Outline
import Derived.WalkSpells
import Derived.WalkLawsBesides
import Derived.ProofKit
import Derived.Lib.Hide
import Derived.RegionTactic
import Derived.BigRegion
import Derived.Laws.CopyOwn
import Derived.Test.YtieknoijkmkdpabLib
import Derived.Test.YtieknoijkmkdpabGen
import Derived.Test.YtieknoijkmkdpabExact
import Derived.Test.YtieknoijkmkdpabMark
import Derived.Test.YtieknoijkmkdpabArr
import Derived.Test.YtieknoijkmkdpabOwn1
import Derived.Test.YtieknoijkmkdpabUp
import Derived.Test.YtieknoijkmkdpabNetM
import Derived.Test.YtieknoijkmkdpabVal2
import Derived.Test.YtieknoijkmkdpabEx
import Derived.Test.YtieknoijkmkdpabLots
namespace Go.Proofs.Ytieknoijkmkdpab
open Go.RowKit Go.WideShapes

theorem one_cells (xs : List Int) : ∀ v ∈ xs.map (Value.int .i64), v.oneCell' = true := by
  intro v hv
  obtain ⟨x, _, rfl⟩ := List.mem_map.1 hv
  rfl
theorem Try.sizeInt : (Try.prog.info? 3).map (·.size) = some 1 := by kernel_rfl
/-- what BeginsOf answers -/
def begRes (ms : List Int) (d : Int) : List Int := if (validMadeM ms && inB 0 8 d) = true then begM ms d.toNat else []
theorem begRes_len (ms : List Int) (d : Int) : (begRes ms d).length ≤ 1048576 := by
  unfold begRes
  split
  · rename_i h; simp only [Bool.and_eq_true] at h; have := validMade_len h.1; rw [begM_length]; omega
  · simp
theorem begRes_no {ms : List Int} {d : Int} (h : (validMadeM ms && inB 0 8 d) = false) : begRes ms d = [] := by unfold begRes; rw [h]; rfl
theorem begRes_yes {ms : List Int} {d : Nat} (h : (validMadeM ms && inB 0 8 (d : Int)) = true) : begRes ms d = begM ms d := by unfold begRes; rw [h]; rfl

theorem ints_drop {w : World} {S : Nat → Prop} {b off len : Nat} {xs : List Int} (h : IntsAt w S (some ⟨b, off, none⟩) len xs) (k : Nat) (hk : k < len) : ∀ (j : Nat) (v : Value), ((xs.drop k).map (Value.int .i64))[j]? = some v → w.cell? ((⟨b, off + k, none⟩ : Addr).add j) = some v := by
  intro j v hv
  rw [List.getElem?_map, List.getElem?_drop] at hv
  cases hx : xs[k + j]? with
  | none => rw [hx] at hv; cases hv
  | some x =>
    rw [hx] at hv
    simp only [Option.map_some, Option.some.injEq] at hv
    obtain ⟨b', off', e, _, hc⟩ := h.cells (by omega)
    cases e
    rw [add_plain, Nat.add_assoc, hc _ _ hx, ← hv]

set_option maxRecDepth 100000 in
set_option maxHeartbeats 2000000 in
theorem begins_spec (a : Option Addr) (len cap : Nat) (ms : List Int) (d : Int) (w : World) (h : IntsAt w (· < w.heap.size) a len ms) :
    Calls Try.prog 19 #[.slice a len cap, .int .i64 d] w (NewInts w (begRes ms d)) := by
  cases hv : validMadeM ms
  · rw [begRes_no (by rw [hv]; rfl)]
    go_enter Try.func19, Try.ntmps19
    go_wp2_with (go_at_call 31; refine (validMade_spec _ _ _ _ ms _ h).mono ?_; rintro e w' ⟨rfl, rfl⟩)
    go_ret
    exact newInts_nil w
  · cases hs : inB 0 8 d
    · rw [begRes_no (by rw [hv, hs]; rfl)]
      go_enter Try.func19, Try.ntmps19
      go_wp2_with (first | (go_at_call 31; refine (validMade_spec _ _ _ _ ms _ h).mono ?_; rintro e w' ⟨rfl, rfl⟩) | (go_at_call 27; refine (inRange_any _ _ _ _).mono ?_; rintro e w' ⟨rfl, rfl⟩))
      go_ret
      exact newInts_nil w
    · have hs' : 0 ≤ d ∧ d ≤ 8 := by simpa [inB] using hs
      obtain ⟨hs0, hs1⟩ := hs'
      obtain ⟨n, rfl⟩ : ∃ n : Nat, d = (n : Int) := ⟨d.toNat, by omega⟩
      rw [begRes_yes (by rw [hv, hs]; rfl)]
      have hle := h.lenEq
      have hl8 : len ≤ 8 := by have := validMade_len hv; omega
      have HAT := Lib.hid (validMade_at hv)
      have HBD := Lib.hid (fun k q => begTo_bd (validMade_at hv) n k q)
      have HSU := Lib.hid (sumN_bd (validMade_at hv))
      have HL := Lib.hid hle
      clear hle
      have hmk := fun w => run_make_row' (P := Try.prog) 23 3 (.int .i64 0) 8 Try.underlying23 Try.infoIntLo rfl .i64 .i64 len (by omega) (by omega) w
      go_enter Try.func19, Try.ntmps19
      go_wp2_with (first | (go_at_call 31; refine (validMade_spec _ _ _ _ ms _ h).mono ?_; rintro e w' ⟨rfl, rfl⟩) | (go_at_call 27; refine (inRange_any _ _ _ _).mono ?_; rintro e w' ⟨rfl, rfl⟩))
      clear hmk
      go_loopw [6] (fun i wr => ∃ k : Nat, k ≤ len ∧ i = .int .i64 k ∧ OwnF w wr len (begTo ms n k)) (fun i _ => len - (intOf i).toNat)
      case atStart => exact ⟨0, Nat.zero_le _, rfl, (OwnF.start w len (by omega)).congr (fun q _ => rfl)⟩
      case round =>
        obtain ⟨k, hk, rfl, hC⟩ := hrel
        by_cases hlt : k < len
        · obtain ⟨b, off, x, rfl, hx, hc⟩ := (h.below hC.below).get hlt
          have hxb := HAT.out k
          rw [getD_of hx] at hxb
          have HC := Lib.hid hC
          have HX := Lib.hid (getD_of hx)
          have hobk := HBD.out k
          have hsu := HSU.out k
          obtain ⟨hcm, hfm⟩ := hC.cell (q := k - n) (by omega)
          have hbm := hobk (k - n)
          clear hx hobk hC
          generalize hO : begTo ms n k (k - n) = o at hcm hbm
          have HO := Lib.hid hO
          clear hO
          have HR := Lib.hid (show ∀ q, begTo ms n (k + 1) q = if q = k - n then o + x else begTo ms n k q from fun q => by
            rw [begTo, HX.out]
            by_cases e : k - n = q
            · subst e; rw [if_pos rfl, if_pos rfl, HO.out]
            · rw [if_neg e, if_neg (fun e' => e e'.symm)]; omega)
          by_cases hmx : n ≤ k
          · have e1 : ((k : Int) - (n : Int)) = ((k - n : Nat) : Int) := by omega
            obtain ⟨m, hm⟩ : ∃ m, m = k - n := ⟨_, rfl⟩
            rw [← hm] at hcm hfm HR e1
            have hmk : (k : Int) - (n : Int) = (m : Int) := by omega
            have hml : m < len := by omega
            have hmx' : (0 : Int) ≤ (k : Int) - (n : Int) := by omega
            have hw1 : IntKind.i64.wrap ((k : Int) - (n : Int)) = (m : Int) := by rw [e1]; exact IntWalk.i64_in _ (by omega)
            clear hm e1
            go_wp2
            go_region
            go_wp2
            go_roundw
            case rel => exact ⟨k + 1, by omega, by go_num, (HC.out.put m _).drew1.congr (fun q _ => (HR.out q).symm)⟩
            case measure => simp [intOf]; omega
          · have e0 : k - n = 0 := by omega
            rw [e0] at hcm hfm HR
            have hml : 0 < len := by omega
            clear e0
            go_wp2
            go_region
            go_wp2
            go_roundw
            case rel => exact ⟨k + 1, by omega, by go_num, (HC.out.put 0 _).drew1.congr (fun q _ => (HR.out q).symm)⟩
            case measure => simp [intOf]; omega
        · obtain rfl : k = len := by omega
          go_wp2
          go_ret
          have e : begM ms n = tab (begTo ms n k) k := by
            unfold begM
            rw [← HL.out]
            exact tab_congr (fun q _ => begTo_all.symm)
          rw [e]
          exact (hC.done (by omega)).ints
/-- a new slice of these ints that may be written, not longer than its array -/
def ResPostC (w : World) (xs : List Int) (e : Ending) (w' : World) : Prop := ∃ (a : Option Addr) (len cap : Nat), e = .returned (.slice a len cap) ∧ IntsAt w' (fun b => w.heap.size ≤ b ∧ b < w'.heap.size) a len xs ∧
  Free w' (fun b => w.heap.size ≤ b ∧ b < w'.heap.size) a len ∧ len ≤ cap ∧ Below w.heap.size w w'
theorem resPostC_nil (w : World) : ResPostC w [] (.returned (.slice none 0 0)) w :=
  ⟨none, 0, 0, rfl, ⟨rfl, Nat.zero_le _, fun h => absurd h (by omega)⟩, ⟨Nat.zero_le _, fun h => absurd h (by omega)⟩, Nat.le_refl _, Below.refl _ _⟩
theorem resPostC_of {w w' : World} {xs : List Int} {a : Option Addr} {len cap : Nat} (h : ResPost w xs (.returned (.slice a len cap)) w') (hc : len ≤ cap) : ResPostC w xs (.returned (.slice a len cap)) w' := by
  obtain ⟨a', l', c', e, h1, h2, h3⟩ := h
  simp only [Ending.returned.injEq, Value.slice.injEq] at e
  obtain ⟨rfl, rfl, rfl⟩ := e
  exact ⟨_, _, _, rfl, h1, h2, hc, h3⟩
theorem beg_splice {ms : List Int} {n l len : Nat} (hL : ms.length = len) (hl : l = min (n + 1) (len - 0)) : ∀ q, q < len →
    (splice ((tab (fun q => if q = 0 then sumN ms l else 0) len).map (Value.int .i64)) 1 ((ms.drop l).map (.int .i64)))[q]? = some (.int .i64 (begAt ms n q)) := by
  intro q hq
  have hlen : ((tab (fun q => if q = 0 then sumN ms l else 0) len).map (Value.int .i64)).length = len := by rw [List.length_map, tab_length]
  have hcs : ((ms.drop l).map (Value.int .i64)).length = len - l := by simp [hL]
  have h1 : (((tab (fun q => if q = 0 then sumN ms l else 0) len).map (Value.int .i64)).take 1).length = 1 := by rw [List.length_take, hlen]; omega
  unfold splice
  by_cases h0 : q = 0
  · subst h0
    rw [List.getElem?_append_left (by rw [h1]; omega), List.getElem?_take, if_pos (by omega), List.getElem?_map, tab_at _ hq, if_pos rfl, begAt, if_pos rfl, hL, hl]
    simp
  · rw [List.getElem?_append_right (by rw [h1]; omega), h1, begAt, if_neg h0]
    by_cases h2 : q - 1 < len - l
    · rw [List.getElem?_append_left (by rw [hcs]; exact h2), List.getElem?_map, List.getElem?_drop, get_getD (by omega), show l + (q - 1) = q + n by omega]; rfl
    · rw [List.getElem?_append_right (by rw [hcs]; omega), hcs, List.getElem?_drop, show 1 + (len - l) + (q - 1 - (len - l)) = q by omega, List.getElem?_map, tab_at _ hq, if_neg h0, getD_past (by omega)]; rfl
theorem beg_done {w w4 : World} {ms : List Int} {vs : List Value} {n l len : Nat} (hL : ms.length = len) (hl : l = min (n + 1) (len - 0)) (h8 : len ≤ 8) (hcs : vs = (ms.drop l).map (.int .i64))
    (hg : w4.heap[w.heap.size]? = some (.cells (splice ((tab (fun q => if q = 0 then sumN ms l else 0) len).map (Value.int .i64)) 1 vs).toArray 3 (0, 0))) (hb : Below w.heap.size w w4) :
    ResPostC w (begM ms n) (.returned (.slice (some ⟨w.heap.size, 0, none⟩) len len)) w4 := by
  subst hcs
  refine resPostC_of ?_ (Nat.le_refl _)
  refine resPost_block (by rw [begM_length]; exact hL) (by omega) (fun q x hx => ?_) hb
  obtain ⟨rfl, hq⟩ := tab_get hx
  refine ⟨?_, by simp [World.frozen?, hg]⟩
  simp only [World.cell?, hg, List.getElem?_toArray]
  exact beg_splice hL hl q (by omega)
set_option maxRecDepth 100000 in
set_option maxHeartbeats 20000000 in
theorem begins_implC (a : Option Addr) (len cap : Nat) (ms : List Int) (d : Int) (w : World) (h : IntsAt w (· < w.heap.size) a len ms) (hcap : len ≤ cap) :
    Calls Try.prog 18 #[.slice a len cap, .int .i64 d] w (ResPostC w (begRes ms d)) := by
  cases hv : validMadeM ms
  · rw [begRes_no (by rw [hv]; rfl)]
    go_enter Try.func18, Try.ntmps18
    go_wp2_with (go_at_call 30; refine (areMade_any _ _ _ _ ms _ h).mono ?_; rintro e w' ⟨rfl, rfl⟩)
    go_ret
    exact resPostC_nil w
  · cases hs : inB 0 8 d
    · rw [begRes_no (by rw [hv, hs]; rfl)]
      go_enter Try.func18, Try.ntmps18
      go_wp2_with (first | (go_at_call 30; refine (areMade_any _ _ _ _ ms _ h).mono ?_; rintro e w' ⟨rfl, rfl⟩) | (go_at_call 29; refine (isUpTo_any _ _ _).mono ?_; rintro e w' ⟨rfl, rfl⟩))
      go_ret
      exact resPostC_nil w
    · have hs' : 0 ≤ d ∧ d ≤ 8 := by simpa [inB] using hs
      obtain ⟨hs0, hs1⟩ := hs'
      obtain ⟨n, rfl⟩ : ∃ n : Nat, d = (n : Int) := ⟨d.toNat, by omega⟩
      rw [begRes_yes (by rw [hv, hs]; rfl)]
      have hle := h.lenEq
      have hl8 : len ≤ 8 := by have := validMade_len hv; omega
      have HMEM := Lib.hid (show ∀ x ∈ ms, -1099511627776 ≤ x ∧ x ≤ 1099511627776 from fun x hx => by
        obtain ⟨k, hk, rfl⟩ := List.mem_iff_getElem.1 hx
        have := allIn_get (validMade_all hv) (List.getElem?_eq_getElem hk); omega)
      have HL := Lib.hid hle
      clear hle
      have hmk := fun w => run_make_row' (P := Try.prog) 23 3 (.int .i64 0) 8 Try.underlying23 Try.infoIntLo rfl .i64 .i64 len (by omega) (by omega) w
      by_cases hl0 : len = 0
      · subst hl0
        push_cast at hmk
        go_enter Try.func18, Try.ntmps18
        go_wp2_with (first | (go_at_call 30; refine (areMade_any _ _ _ _ ms _ h).mono ?_; rintro e w' ⟨rfl, rfl⟩) | (go_at_call 29; refine (isUpTo_any _ _ _).mono ?_; rintro e w' ⟨rfl, rfl⟩))
        go_ret
        have e : begM ms n = [] := by unfold begM; rw [HL.out]; rfl
        rw [e]
        exact ⟨_, 0, _, rfl, ⟨rfl, Nat.zero_le _, fun h => absurd h (by omega)⟩, ⟨Nat.zero_le _, fun h => absurd h (by omega)⟩, Nat.le_refl _, (Below.refl _ _).alloc (Nat.le_refl _) _⟩
      · have hp : 0 < len := by omega
        have hl0e : ((len : Int) == 0) = false := by simp; omega
        obtain ⟨b, off, rfl, hbl, _⟩ := h.cells hp
        obtain ⟨l, hl⟩ : ∃ l, l = min (n + 1) (len - 0) := ⟨_, rfl⟩
        have hl1 : 1 ≤ l := by omega
        have hll : l ≤ len := by omega
        have HLL := Lib.hid hl
        clear hl
        have hwf := (OwnF.start w len (by omega))
        have hxs := ints_alloc h (.cells (madeCells #[.int .i64 0] len) 3)
        have HWF := Lib.hid hwf
        obtain ⟨hc0, hf0⟩ := hwf.cell (q := 0) hp
        clear hwf
        go_enter Try.func18, Try.ntmps18
        go_wp2_with (first | (go_at_call 30; refine (areMade_any _ _ _ _ ms _ h).mono ?_; rintro e w' ⟨rfl, rfl⟩) | (go_at_call 29; refine (isUpTo_any _ _ _).mono ?_; rintro e w' ⟨rfl, rfl⟩))
        clear hmk
        refine (daysFrom_any _ _ len cap ms _ _ 0 (n + 1) l _ hxs hcap hl8 rfl (by omega) hp (by omega) (by omega) HLL.out).mono ?_
        rintro e w' ⟨⟨a6, rfl, h6⟩, rfl⟩
        have hsum := totalM_take ms l (by rw [HL.out]; omega)
        rw [List.drop_zero] at h6
        go_wp2_with fail
        refine (sumOf_any _ _ l l _ _ h6 (fun y hy => HMEM.out y (List.mem_of_mem_take hy)) (by omega)).mono ?_
        rintro e w' ⟨rfl, rfl⟩
        rw [hsum]
        have HPUT := Lib.hid (HWF.out.put 0 (sumN ms l))
        generalize w.alloc (.cells (madeCells #[.int .i64 0] len) 3) = w1 at *
        go_wp2_with fail
        have HW2 := Lib.hid (OwnF.heap HPUT.out.drew1)
        have HB2 := Lib.hid HPUT.out.drew1.below
        have hx2 : IntsAt (w1.setCell ⟨w.heap.size, 0, none⟩ (.int .i64 (sumN ms l))).drew (· < w.heap.size) (some ⟨b, off, none⟩) len ms := h.below HPUT.out.drew1.below
        generalize w1.setCell ⟨w.heap.size, 0, none⟩ (.int .i64 (sumN ms l)) = w2 at *
        clear hc0 hf0 hxs h6
        have HSRC := Lib.hid (fun (h : l < len) => ints_drop hx2 l h)
        obtain ⟨cs, hcs'⟩ : ∃ cs, cs = (ms.drop l).map (Value.int .i64) := ⟨_, rfl⟩
        have hcs : ((ms.drop l).map (Value.int .i64)).length = len - l := by simp [HL.out]
        rw [← hcs'] at hcs HSRC
        have HCS := Lib.hid hcs'
        have HLN := Lib.hid hcs
        have HMIN := Lib.hid (show len - l = Nat.min (len - l) (len - 1) by show _ = min _ _; omega)
        have HFIT := Lib.hid (show 1 + (len - l) ≤ ((tab (fun q => if q = 0 then sumN ms l else 0) len).map (Value.int .i64)).length by rw [List.length_map, tab_length]; omega)
        clear hcs' hcs
        have h1c : 1 ≤ (len : Int) := by omega
        by_cases hlt : l < len
        · have h2c : ¬ len = 1 := by omega
          have h3c : ¬ cap = l := by omega
          go_region_law (refine step_copy_splice rfl (.tmp 31) (.tmp 35) 23 23 rfl 3 Try.underlying23 Try.sizeInt _ _ _ _ _ _ rfl rfl w.heap.size 1 _ 3 HW2.out cs (by rw [HLN.out]; exact HMIN.out) (fun _ => ⟨rfl, _, rfl, HSRC.out hlt⟩) (by rw [HLN.out]; exact HFIT.out) (by rw [HCS.out]; exact one_cells _) w.heap.size w HB2.out (Nat.le_refl _) ?_; intro w4 hg4 hb4)
          go_wp2
          go_ret
          exact beg_done HL.out HLL.out hl8 HCS.out hg4.out hb4
        · have h0 : ¬ 0 < cs.length := by rw [HLN.out]; omega
          obtain rfl : l = len := by omega
          by_cases h2c : l = 1
          · subst h2c
            by_cases h3c : cap = 1
            · subst h3c
              go_region_law (refine step_copy_splice rfl (.tmp 31) (.tmp 35) 23 23 rfl 3 Try.underlying23 Try.sizeInt _ _ _ _ _ _ rfl rfl w.heap.size 1 _ 3 HW2.out cs (by rw [HLN.out]; show _ = min _ _; omega) (fun h => absurd h h0) (by rw [HLN.out]; exact HFIT.out) (by rw [HCS.out]; exact one_cells _) w.heap.size w HB2.out (Nat.le_refl _) ?_; intro w4 hg4 hb4)
              go_wp2
              go_ret
              exact beg_done HL.out HLL.out hl8 HCS.out hg4.out hb4
            · go_region_law (refine step_copy_splice rfl (.tmp 31) (.tmp 35) 23 23 rfl 3 Try.underlying23 Try.sizeInt _ _ _ _ _ _ rfl rfl w.heap.size 1 _ 3 HW2.out cs (by rw [HLN.out]; show _ = min _ _; omega) (fun h => absurd h h0) (by rw [HLN.out]; exact HFIT.out) (by rw [HCS.out]; exact one_cells _) w.heap.size w HB2.out (Nat.le_refl _) ?_; intro w4 hg4 hb4)
              go_wp2
              go_ret
              exact beg_done HL.out HLL.out hl8 HCS.out hg4.out hb4
          · by_cases h3c : cap = l
            · subst h3c
              go_region_law (refine step_copy_splice rfl (.tmp 31) (.tmp 35) 23 23 rfl 3 Try.underlying23 Try.sizeInt _ _ _ _ _ _ rfl rfl w.heap.size 1 _ 3 HW2.out cs (by rw [HLN.out]; show _ = min _ _; omega) (fun h => absurd h h0) (by rw [HLN.out]; exact HFIT.out) (by rw [HCS.out]; exact one_cells _) w.heap.size w HB2.out (Nat.le_refl _) ?_; intro w4 hg4 hb4)
              go_wp2
              go_ret
              exact beg_done HL.out HLL.out hl8 HCS.out hg4.out hb4
            · go_region_law (refine step_copy_splice rfl (.tmp 31) (.tmp 35) 23 23 rfl 3 Try.underlying23 Try.sizeInt _ _ _ _ _ _ rfl rfl w.heap.size 1 _ 3 HW2.out cs (by rw [HLN.out]; show _ = min _ _; omega) (fun h => absurd h h0) (by rw [HLN.out]; exact HFIT.out) (by rw [HCS.out]; exact one_cells _) w.heap.size w HB2.out (Nat.le_refl _) ?_; intro w4 hg4 hb4)
              go_wp2
              go_ret
              exact beg_done HL.out HLL.out hl8 HCS.out hg4.out hb4
theorem begins_impl (a : Option Addr) (len cap : Nat) (ms : List Int) (d : Int) (w : World) (h : IntsAt w (· < w.heap.size) a len ms) (hcap : len ≤ cap) :
    Calls Try.prog 18 #[.slice a len cap, .int .i64 d] w (ResPost w (begRes ms d)) :=
  (begins_implC a len cap ms d w h hcap).mono (fun e w' ⟨a', l', c', e1, h1, h2, _, h3⟩ => ⟨a', l', c', e1, h1, h2, h3⟩)
end Go.Proofs.Ytieknoijkmkdpab
