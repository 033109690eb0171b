import Derived.Test.YthmlgicjedhgfabRows
import Derived.WalkKit
import Derived.LoopTactic
import Derived.Outline
import Derived.WalkSpells
import Derived.WalkLawsBesides
import Derived.ProofKit
import Derived.Lib.Hide
import Derived.IntWalk
import Derived.Deep.QuietTactic
import Derived.BigQuiet
import Derived.Shelf.RegionOpenPlain
import Derived.StillTailTactics
import Derived.Test.YthmlgicjedhgfabM0
import Derived.Test.YthmlgicjedhgfabM1
import Derived.Test.YthmlgicjedhgfabM2
import Derived.Test.YthmlgicjedhgfabM6
import Derived.Test.YthmlgicjedhgfabM9
import Derived.Test.YthmlgicjedhgfabM10
import Derived.Test.YthmlgicjedhgfabM8
import Derived.Deep.AppendLies
namespace Go.Proofs.Ythmlgicjedhgfab
open Go.RowKit Go.WideShapes

/-- block g of the call's own holds these ints -/
def OwnI (w : World) (B g len : Nat) (f : Nat → Int) : Prop := w.ownsRow B 3 1 (.slice (some ⟨g, 0, none⟩) len len) len ((tab f len).map (.int .i64))
theorem OwnI.cell {w : World} {B g len q : Nat} {f : Nat → Int} (h : OwnI w B g len f) (hq : q < len) : w.cell? ⟨g, q, none⟩ = some (.int .i64 (f q)) ∧ w.frozen? ⟨g, q, none⟩ = false := by
  refine ⟨?_, h.frozenAt q⟩
  rw [h.cellAt q (by simpa [tab_length] using hq), List.getElem?_map, tab_at f hq]; rfl
theorem OwnI.put {w : World} {B g len : Nat} {f : Nat → Int} (h : OwnI w B g len f) (k : Nat) (v : Int) : OwnI (w.setCell ⟨g, k, none⟩ (.int .i64 v)) B g len (setN f k v) := by
  have h1 := (World.ownsRow.stored h k (.int .i64 v)).1
  unfold OwnI
  have : setN f k v = (fun q => if q = k then v else f q) := rfl
  rw [this, ← tab_set, List.map_set]; exact h1
theorem OwnI.kept {w w' : World} {B g len : Nat} {f : Nat → Int} {row : Option Nat} (h : OwnI w B g len f) (hg : w.grownBy w' row) (hr : row ≠ some g) : OwnI w' B g len f :=
  World.ownsRow.kept h hg (.inr (by simp [Value.ownBlock]; exact fun e => hr e.symm))
theorem OwnI.later {w w' : World} {B g len : Nat} {f : Nat → Int} (h : OwnI w B g len f) (hb : Below w.heap.size w w') : OwnI w' B g len f := own_later h hb
theorem OwnI.new (w : World) {B len : Nat} (hB : B ≤ w.heap.size) (hs : len ≤ 1048576) : OwnI (w.alloc (.cells (madeCells #[.int .i64 0] len) 3)) B w.heap.size len (fun _ => 0) := by
  have h := (OwnF.start w len hs).own
  exact own_base h hB
theorem OwnI.lt {w : World} {B g len : Nat} {f : Nat → Int} (h : OwnI w B g len f) : g < w.heap.size := (World.ownsRow.lt h g rfl).2
theorem OwnI.congr {w : World} {B g len : Nat} {f f' : Nat → Int} (h : OwnI w B g len f) (e : ∀ q, q < len → f q = f' q) : OwnI w B g len f' := by
  unfold OwnI; rw [← tab_congr e]; exact h
/-- append of a new empty row to rows of the call's own -/
theorem wpAppRow0 {ops : Array Oper} {rest : List Oper} {o : Oper} {a : Act} {Q : Exit → Act → World → Prop} {wo : World} (hgd : o.guard = none) (s x : Operand)
    (ho : o.op = .call { callee := .builtin .append, args := #[s, x], argTypes := #[27, 27] })
    (B0 B1 k cp : Nat) (ax : Option Addr) (rows : List (List Int)) (hs : a.eval s = .slice ax k cp)
    (hown : OwnRowsW wo B0 B1 (.slice ax k cp) k rows) (hx : a.eval x = .slice (some ⟨wo.heap.size + 1, 0, none⟩) 1 1)
    (hbase : B1 ≤ wo.heap.size) (hB : B0 ≤ B1) (hk : k ≤ 1048576)
    (h : ∀ (a6 : Option Addr) (c6 : Nat) (w' : World), OwnRowsW w' B0 B1 (.slice a6 (k + 1) c6) (k + 1) (rows ++ [[]]) → k + 1 ≤ c6 → wo.grownBy w' (Value.slice ax k cp).ownBlock →
      wpList Try.prog ops Q rest (a.put o.dst (.slice a6 (k + 1) c6)) w') :
    wpList Try.prog ops Q (o :: rest) a ((wo.alloc (.cells #[] 3)).alloc (.cells #[.slice (some ⟨wo.heap.size, 0, none⟩) 0 0] 24)) := by
  obtain ⟨i1, hj, hy0, hy1, hy2⟩ := info_parts Try.infoInts
  obtain ⟨us, hv, hlr, hus⟩ := hown
  have hsz : (wo.alloc (.cells #[] 3)).heap.size = wo.heap.size + 1 := by simp
  have hone := one_new (wo.alloc (.cells #[] 3)) (.slice (some ⟨wo.heap.size, 0, none⟩) 0 0) 24
  rw [hsz] at hone
  refine wpList_append_own _ hgd s x 27 ho B0 24 i1 (.slice none 0 0) 1 24 Try.underlying27 hj hy0 hy1 hy2 rfl (by decide) _ k us hs ((hv.alloc _).alloc _) ⟨wo.heap.size + 1, 0, none⟩ 1 1 [.slice (some ⟨wo.heap.size, 0, none⟩) 0 0] hx rfl hone (fun u hu => by rw [List.mem_singleton.1 hu]; rfl) (by unfold maxLen; omega) (by omega) (by simp; omega) ?_
  intro v' w6 hown6 hgrow _
  obtain ⟨a6, c6, rfl, hc⟩ := own_slice hown6
  have hnew : ((wo.alloc (.cells #[] 3)).alloc (.cells #[.slice (some ⟨wo.heap.size, 0, none⟩) 0 0] 24)).ownsRow B1 3 1 (.slice (some ⟨wo.heap.size, 0, none⟩) 0 0) 0 (([] : List Int).map (.int .i64)) :=
    (World.ownsRow_made wo #[] 0 hbase (Nat.zero_le _) rfl).alloc _
  refine h a6 c6 w6 (OwnRowsW.push (a := some ⟨wo.heap.size, 0, none⟩) (c := 0) (l := 0) ((hv.alloc _).alloc _) hlr (fun q u hq => ?_) hnew (Nat.le_refl _) (by omega) hown6 hgrow) hc ?_
  · obtain ⟨a', l', c', r', e1, e2, e3, e4, e5⟩ := hus q u hq
    exact ⟨a', l', c', r', e1, e2, e3, e4, (e5.alloc _).alloc _⟩
  · exact grown_comp (World.grownBy_alloc wo _ _) (grown_comp (World.grownBy_alloc _ _ _) hgrow)
theorem step_mem {w : World} {n b off len j k b1 off1 l1 c1 b2 off2 c2 : Nat} {shop : List (List (List Int))} (h : ShopAt w (· < n) (some ⟨b, off, none⟩) len shop) (hj : j < len) (hk : k < l1) (d1 : w.cell? ⟨b, off + j, none⟩ = some (.slice (some ⟨b1, off1, none⟩) l1 c1)) (d3 : w.cell? ⟨b1, off1 + k, none⟩ = some (.slice (some ⟨b2, off2, none⟩) 2 c2)) : b < n ∧ b1 < n ∧ b2 < n := by
  have hb := h.mem (by omega)
  obtain ⟨b', off', job, a', l, c, e, hjob, hc, _, hr⟩ := h.get hj
  cases e
  rw [d1] at hc
  cases hc
  have hb1 : b1 < n := by
    obtain ⟨b'', off'', e, hs, _⟩ := hr.cells (by omega)
    cases e
    exact hs
  obtain ⟨b3, off3, r, a3, l3, c3, e, hrr, hc3, _, hi⟩ := hr.get hk
  cases e
  rw [d3] at hc3
  cases hc3
  exact ⟨hb, hb1, hi.mem (by omega)⟩
/-- rows, and a number -/
def RowsInt (w : World) (rows : List (List Int)) (n : Int) (e : Ending) (w' : World) : Prop := ∃ (a : Option Addr) (len cap : Nat), e = .returned (.tuple #[.slice a len cap, .int .i64 n]) ∧ RowsAt w' (fun b => w.heap.size ≤ b ∧ b < w'.heap.size) a len rows ∧ len ≤ cap ∧ Below w.heap.size w w'
theorem Try.infoIntBg : (Try.prog.info? 3).map (fun i => (i.zero, i.size, i.bytes)) = some (some (.int .i64 0), 1, 8) := by kernel_rfl
set_option maxRecDepth 100000 in
set_option maxHeartbeats 4000000 in
theorem begun_any (a : Option Addr) (len cap : Nat) (shop : List (List (List Int))) (a2 : Option Addr) (len2 cap2 : Nat) (l : List Nat) (w : World) (h : ShopAt w (· < w.heap.size) a len shop) (g : IntsAt w (· < w.heap.size) a2 len2 (l.map (fun x : Nat => (x : Int)))) (hv : shopM shop = true)
    (hl : ∀ x ∈ l, x < len) (hcnt : ∀ j, l.count j ≤ slen shop j) (hl9 : len2 ≤ 9) :
    Calls Try.prog 37 #[.slice a len cap, .slice a2 len2 cap2] w (RowsInt w (rowsS (runS (smach shop) (stime shop) shop0 l) len) (runS (smach shop) (stime shop) shop0 l).all) := by
  have HL := Lib.hid h.lenEq
  have hl3 : len ≤ 3 := by have := (shop_get hv).1; have := HL.out; omega
  have HV := Lib.hid hv
  have HH := Lib.hid (show ∀ w', Below w.heap.size w w' → ShopAt w' (· < w.heap.size) a len shop ∧ IntsAt w' (· < w.heap.size) a2 len2 (l.map (fun x : Nat => (x : Int))) from fun w' hb => ⟨h.below hb, g.below hb⟩)
  have HLL := Lib.hid (show l.length = len2 by have := g.lenEq; simpa using this)
  have HLX := Lib.hid hl
  have HCN := Lib.hid hcnt
  have hmk := fun w => run_make_row' (P := Try.prog) 24 3 (.int .i64 0) 8 Try.underlying24 Try.infoIntBg rfl .i64 .i64 len (by omega) (by omega) w
  have hmk3 := fun w => run_make_row' (P := Try.prog) 24 3 (.int .i64 0) 8 Try.underlying24 Try.infoIntBg rfl .i64 .i64 3 (by omega) (by omega) w
  rw [show ((3 : Nat) : Int) = (3 : Int) from rfl] at hmk3
  clear h g hv hl hcnt
  go_enter Try.func37, Try.ntmps37
  go_wp2_with fail
  clear hmk hmk3
  obtain ⟨W0, hW0⟩ : ∃ W0, ((w.alloc (.cells #[] 24)).alloc (.cells (madeCells #[.int .i64 0] len) 3)).alloc (.cells (madeCells #[.int .i64 0] 3) 3) = W0 := ⟨_, rfl⟩
  have hb0 : Below w.heap.size w W0 := by rw [← hW0]; exact (((Below.refl _ w).alloc (Nat.le_refl _) _).alloc (by simp) _).alloc (by simp; omega) _
  have hs0 : W0.heap.size = w.heap.size + 3 := by rw [← hW0]; simp
  have hrow0 : OwnRowsW W0 w.heap.size (w.heap.size + 3) (.slice (some ⟨w.heap.size, 0, none⟩) 0 0) 0 [] := by
    rw [← hW0]
    refine ⟨[], ?_, rfl, fun q u hq => by cases hq⟩
    exact ((World.ownsRow_made (e := 24) (size := 1) w #[] 0 (Nat.le_refl _) (Nat.zero_le _) rfl).alloc _).alloc _
  have hR0 : OwnI W0 w.heap.size (w.heap.size + 1) len (fun _ => 0) := by
    rw [← hW0]
    have := OwnI.new (w.alloc (.cells #[] 24)) (B := w.heap.size) (len := len) (by simp) (by omega)
    simp only [World.size_alloc] at this
    exact this.kept (World.grownBy_alloc _ _ none) (by simp)
  have hF0 : OwnI W0 w.heap.size (w.heap.size + 2) 3 (fun _ => 0) := by
    rw [← hW0]
    have := OwnI.new ((w.alloc (.cells #[] 24)).alloc (.cells (madeCells #[.int .i64 0] len) 3)) (B := w.heap.size) (len := 3) (by simp; omega) (by omega)
    simp only [World.size_alloc, Nat.add_assoc, Nat.reduceAdd] at this
    exact this
  simp only [Nat.add_assoc, Nat.reduceAdd]
  rw [hW0]
  clear hW0
  go_loopw [6, 9] (fun v i wr => ∃ (k cp : Nat) (ax : Option Addr), v = .slice ax k cp ∧ i = .int .i64 k ∧ k ≤ len ∧ k ≤ cp ∧ OwnRowsW wr w.heap.size (w.heap.size + 3) v k (List.replicate k []) ∧ OwnI wr w.heap.size (w.heap.size + 1) len (fun _ => 0) ∧ OwnI wr w.heap.size (w.heap.size + 2) 3 (fun _ => 0) ∧ Below w.heap.size w wr ∧ w.heap.size + 3 ≤ wr.heap.size) (fun _ i _ => len - (intOf i).toNat)
  case atStart => exact ⟨0, 0, _, rfl, rfl, Nat.zero_le _, Nat.le_refl _, hrow0, hR0, hF0, hb0, by omega⟩
  case round =>
    clear hrow0 hR0 hF0 hb0 hs0
    obtain ⟨k, cp, ax, rfl, rfl, hk, hkc, hrow, hR, hF, hB, hsz⟩ := hrel
    obtain ⟨wo, rfl⟩ : ∃ wo : World, wo = wr := ⟨_, rfl⟩
    have HROW := Lib.hid hrow
    have HR := Lib.hid hR
    have HF := Lib.hid hF
    have HB := Lib.hid hB
    clear hrow hR hF hB
    by_cases hlt : k < len
    · have hkI : (k : Int) < (len : Int) := by omega
      go_wp2_with (at_builtin; refine wpAppRow0 rfl _ _ rfl w.heap.size (w.heap.size + 3) k cp ax (List.replicate k []) rfl HROW.out rfl hsz (by omega) (by omega) ?_)
      intro a6 c6 w6 hrow6 hc6 hgr
      have hne1 : (Value.slice ax k cp).ownBlock ≠ some (w.heap.size + 1) := fun e => by
        obtain ⟨us, hu, _⟩ := HROW.out
        rcases own_ne hu (show wo.ownsRow _ _ _ _ _ _ from HR.out) (by decide) with h3 | h3
        · rw [e] at h3; cases h3
        · exact h3 e
      have hne2 : (Value.slice ax k cp).ownBlock ≠ some (w.heap.size + 2) := fun e => by
        obtain ⟨us, hu, _⟩ := HROW.out
        rcases own_ne hu (show wo.ownsRow _ _ _ _ _ _ from HF.out) (by decide) with h3 | h3
        · rw [e] at h3; cases h3
        · exact h3 e
      have HROW6 := Lib.hid hrow6
      have HR6 := Lib.hid (HR.out.kept hgr hne1)
      have HF6 := Lib.hid (HF.out.kept hgr hne2)
      have HB6 := Lib.hid (HB.out.grown hgr HB.out.size (fun b e => by obtain ⟨us, hu, _⟩ := HROW.out; exact (hu.lt b e).1))
      have hs6 := hgr.size
      clear hrow6 hgr hne1 hne2
      go_wp2_with fail
      go_roundw
      case rel => exact ⟨k + 1, c6, a6, rfl, by go_num, by omega, hc6, by rw [List.replicate_succ']; exact HROW6.out, HR6.out, HF6.out, HB6.out, by omega⟩
      case measure => simp [intOf] <;> omega
    · obtain rfl : k = len := by omega
      have HRS := Lib.hid (show rowsS shop0 k = List.replicate k [] from by
        apply List.ext_getElem?
        intro i
        by_cases hi : i < k
        · rw [rowsS_get _ hi, List.getElem?_replicate, if_pos hi]; rfl
        · rw [List.getElem?_eq_none (by rw [rowsS_len]; omega), List.getElem?_replicate, if_neg hi])
      go_wp2_with fail
      go_loopw [10, 11] (fun av i wr => ∃ q : Nat, i = .int .i64 q ∧ q ≤ len2 ∧ av = .int .i64 (runS (smach shop) (stime shop) shop0 (l.take q)).all ∧ OwnRowsW wr w.heap.size (w.heap.size + 3) (.slice ax k cp) k (rowsS (runS (smach shop) (stime shop) shop0 (l.take q)) k) ∧
        OwnI wr w.heap.size (w.heap.size + 1) k (runS (smach shop) (stime shop) shop0 (l.take q)).rd ∧ OwnI wr w.heap.size (w.heap.size + 2) 3 (runS (smach shop) (stime shop) shop0 (l.take q)).fr ∧ Below w.heap.size w wr ∧ w.heap.size + 3 ≤ wr.heap.size) (fun _ i _ => len2 - (intOf i).toNat)
      case atStart => exact ⟨0, rfl, Nat.zero_le _, rfl, by rw [List.take_zero]; show OwnRowsW _ _ _ _ _ (rowsS shop0 k); rw [HRS.out]; exact HROW.out, HR.out, HF.out, HB.out, hsz⟩
      case round =>
        clear HROW HR HF HB hsz
        obtain ⟨q, rfl, hq, rfl, hrow, hR, hF, hB, hsz⟩ := hrel
        obtain ⟨wo, rfl⟩ : ∃ wo : World, wo = wr := ⟨_, rfl⟩
        by_cases hlq : q < len2
        · obtain ⟨x, hx⟩ : ∃ x, l[q]? = some x := ⟨_, List.getElem?_eq_getElem (by rw [HLL.out]; exact hlq)⟩
          have hxk : x < k := HLX.out x (List.mem_of_getElem? hx)
          have htk := take_get hx
          have hst : runS (smach shop) (stime shop) shop0 (l.take (q + 1)) = turnS (smach shop) (stime shop) (runS (smach shop) (stime shop) shop0 (l.take q)) x := by rw [htk, runS_snoc]
          have hnx := runS_nx (smach shop) (stime shop) (l.take q) shop0 x
          have hct : (l.take (q + 1)).count x ≤ l.count x := List.Sublist.count_le x (List.take_sublist _ _)
          rw [htk, List.count_append, List.count_singleton_self] at hct
          have hcx := HCN.out x
          have hinv := runS_inv (fun j k => (stime_bd HV.out j k).1) (l.take q) shop0 (shop0_inv (smach shop) (stime shop))
          have hall := runS_bd (m := smach shop) (p := stime shop) (fun j k => stime_bd HV.out j k) (l.take q)
          have htl : (l.take q).length ≤ 9 := by rw [List.length_take]; omega
          obtain ⟨s, hs⟩ : ∃ s, runS (smach shop) (stime shop) shop0 (l.take q) = s := ⟨_, rfl⟩
          rw [hs] at hrow hR hF hst hnx hinv hall ⊢
          have HST := Lib.hid hst
          rw [show shop0.nx x = 0 from rfl, Nat.zero_add] at hnx
          have hnl : s.nx x < slen shop x := by omega
          obtain ⟨b, off, b1, off1, c1, b2, off2, c2, rfl, d1, d2, d3, d4, d5, d6⟩ := step_at (HH.out wo hB).1 HV.out hxk hnl
          have hmem := step_mem (HH.out wo hB).1 hxk hnl d1 d3
          obtain ⟨bt, offt, y, rfl, hy, d7⟩ := (HH.out wo hB).2.get hlq
          have hyx : y = (x : Int) := by rw [List.getElem?_map, hx] at hy; simpa using hy.symm
          subst hyx
          obtain ⟨G, cp', a', l', c', r, e0, hG0, hG1, hr, d8, d9, hlc, hl1, hown⟩ := hrow.at hxk
          cases e0
          rw [rowsS_get _ hxk] at hr
          cases hr
          have hlr : l' = s.nx x := by have := hown.1; simp [rowS_len] at this; omega
          subst hlr
          obtain ⟨f1, f2⟩ := hR.cell hxk
          have hm3 : smach shop x (s.nx x) < 3 := smach_lt HV.out _ _
          obtain ⟨f3, f4⟩ := hF.cell hm3
          have htb := stime_bd HV.out x (s.nx x)
          have u1 := hinv.upR x
          have u2 := hinv.upF (smach shop x (s.nx x))
          have u3 := hinv.nn.2.1 x
          have u4 := hinv.nn.2.2 (smach shop x (s.nx x))
          have u5 := hinv.nn.1
          have HBG := Lib.hid (show beginS (smach shop) s x = max (s.rd x) (s.fr (smach shop x (s.nx x))) from rfl)
          have HRW := Lib.hid (rowS_turn (smach shop) (stime shop) s x)
          have HRO2 := Lib.hid (fun i (hi : i ≠ x) => rowS_other (smach shop) (stime shop) s hi)
          have HTS := Lib.hid (show turnS (smach shop) (stime shop) s x = ⟨setN s.nx x (s.nx x + 1), setN s.b x (setN (s.b x) (s.nx x) (beginS (smach shop) s x)), setN s.rd x (beginS (smach shop) s x + stime shop x (s.nx x)), setN s.fr (smach shop x (s.nx x)) (beginS (smach shop) s x + stime shop x (s.nx x)),
            max s.all (beginS (smach shop) s x + stime shop x (s.nx x)), s.done ++ [(x, s.nx x)]⟩ from rfl)
          have HROW := Lib.hid hrow
          have HR := Lib.hid hR
          have HF := Lib.hid hF
          have HB := Lib.hid hB
          have HOW := Lib.hid hown
          have hsl := slen_le HV.out x
          have hxI : (x : Int) < (k : Int) := by omega
          have hqI : (q : Int) < (len2 : Int) := by omega
          have hnI : ((s.nx x : Nat) : Int) < ((slen shop x : Nat) : Int) := by omega
          have hmI : ((smach shop x (s.nx x) : Nat) : Int) < 3 := by omega
          clear hrow hR hF hB hown hst hs hinv hct hnx hcx htk hy hx
          obtain ⟨mc, hmc⟩ : ∃ mc, smach shop x (s.nx x) = mc := ⟨_, rfl⟩
          obtain ⟨tm, htm⟩ : ∃ tm, stime shop x (s.nx x) = tm := ⟨_, rfl⟩
          obtain ⟨sl, hsle⟩ : ∃ sl, slen shop x = sl := ⟨_, rfl⟩
          obtain ⟨nx, hnxe⟩ : ∃ nx, s.nx x = nx := ⟨_, rfl⟩
          obtain ⟨rd, hrd⟩ : ∃ rd, s.rd x = rd := ⟨_, rfl⟩
          obtain ⟨bg, hbg⟩ : ∃ bg, beginS (smach shop) s x = bg := ⟨_, rfl⟩
          rw [hmc] at d5 f3 f4 hm3 u2 u4 HBG HTS hmI
          rw [htm] at d6 htb HTS
          rw [hsle] at d1 d2 hnl hsl hnI
          rw [hnxe] at d3 d8 hlc hl1 HOW hnl hnI HTS
          rw [hrd] at f1 u1 u3 HBG
          rw [hbg] at HBG HRW HTS
          have HNXE := Lib.hid hnxe
          have D5 := Lib.hid d5
          have D6 := Lib.hid d6
          have HBO := HB
          have HSL2 := Lib.hid hsle
          have HMC := Lib.hid hmc
          have HTM := Lib.hid htm
          obtain ⟨fr, hfr⟩ : ∃ fr, s.fr mc = fr := ⟨_, rfl⟩
          rw [hfr] at f3 u2 u4 HBG
          obtain ⟨al, hal⟩ : ∃ al, s.all = al := ⟨_, rfl⟩
          rw [hal] at u1 u2 u5 hall HTS ⊢
          have hif : (if rd < fr then fr else rd) = bg := by rw [HBG.out]; split <;> omega
          have hbgb : 0 ≤ bg ∧ bg ≤ al := by rw [HBG.out]; omega
          have hal81 : al ≤ 81 := by omega
          clear hmc htm hsle hnxe hrd hbg hfr hal hall htl
          go_wp2_with fail
          go_quiet (fail)
          go_wp2_with fail
          generalize nq = z1
          go_quiet (fail)
          clear hif
          rw [World.drewN_drewN]
          have HROWQ := Lib.hid (HROW.out.drewN (z1 + nq))
          have HRQ := Lib.hid (HR.out.kept (grownBy_drewN wo (z1 + nq) none) (by simp))
          have HFQ := Lib.hid (HF.out.kept (grownBy_drewN wo (z1 + nq) none) (by simp))
          have HBQ := Lib.hid (below_drewN HB.out (z1 + nq))
          have HOWQ := Lib.hid (own_drewN HOW.out (z1 + nq))
          obtain ⟨wq, hwq⟩ : ∃ wq, wo.drewN (z1 + nq) = wq := ⟨_, rfl⟩
          have hG2 : G < wq.heap.size := by rw [← hwq]; exact hG1
          have hszq : w.heap.size + 3 ≤ wq.heap.size := by rw [← hwq]; exact hsz
          have d8w : wq.cell? ⟨G, x, none⟩ = some (.slice a' nx c') := by rw [← hwq]; exact d8
          have d8q : ∀ o : Obj, (wq.alloc o).cell? ⟨G, x, none⟩ = some (.slice a' nx c') := fun o => by rw [World.cell?_alloc_lt _ _ _ hG2, ← hwq]; exact d8
          rw [hwq] at HROWQ HRQ HFQ HBQ HOWQ ⊢
          have QA := Lib.hid (show (wq.alloc (.cells #[] 3)).ownsRow wq.heap.size 3 1 (.slice (some ⟨wq.heap.size, 0, none⟩) 0 0) 0 (([] : List Int).map (.int .i64)) from World.ownsRow_made wq #[] 0 (Nat.le_refl _) (Nat.zero_le _) rfl)
          have HYA := Lib.hid (show IntsAt (wq.alloc (.cells #[] 3)) (fun _ => True) a' nx (rowS s x) from by
            obtain ⟨a3, c3, e3, _, h3⟩ := own_ints (HOWQ.out.alloc (.cells #[] 3)) (by omega)
            injection e3 with e4 _ _
            subst e4
            exact h3.to fun b hb => ⟨trivial, rfl⟩)
          clear hwq HROW HR HF HOW d1 d2 d3 d4 d5 d6 d7 d8 d9 f1 f2 f3 f4
          have d9q : wq.frozen? ⟨G, x, none⟩ = false := by
            obtain ⟨G', _, _, _, _, _, e0, _, _, _, _, h9, _⟩ := HROWQ.out.at hxk
            injection e0 with e1 _ _
            injection e1 with e1
            injection e1 with e1
            subst e1
            exact h9
          have hGR : G ≠ w.heap.size + 1 := fun e => by
            obtain ⟨us, hu, _⟩ := HROWQ.out
            rcases own_ne hu (show wq.ownsRow _ _ _ _ _ _ from HRQ.out) (by decide) with h3 | h3
            · simp [Value.ownBlock] at h3
            · exact h3 (by simp [Value.ownBlock, e])
          have hGF : G ≠ w.heap.size + 2 := fun e => by
            obtain ⟨us, hu, _⟩ := HROWQ.out
            rcases own_ne hu (show wq.ownsRow _ _ _ _ _ _ from HFQ.out) (by decide) with h3 | h3
            · simp [Value.ownBlock] at h3
            · exact h3 (by simp [Value.ownBlock, e])
          go_wp2_with (at_builtin; refine wpAppAny rfl _ _ rfl wq.heap.size 0 0 (some ⟨wq.heap.size, 0, none⟩) [] (fun _ => True) a' nx c' (rowS s x) rfl QA.out rfl HYA.out (by simp) (by omega) ?_)
          intro a6 c6 w6 own6 hc6 gr6
          have hb6 : Below wq.heap.size wq w6 := ((Below.refl wq.heap.size wq).alloc (Nat.le_refl _) (.cells #[] 3)).grown gr6 (by simp) (fun b e => by simp [Value.ownBlock] at e; omega)
          try rw [Nat.zero_add] at own6 hc6
          have HO6 := Lib.hid own6
          have HB6 := Lib.hid hb6
          have hsz6 := hb6.size
          clear own6 gr6 hb6 QA HYA
          try simp only [Nat.zero_add]
          go_wp2_with (at_builtin; refine wpApp1 rfl _ _ rfl wq.heap.size nx c6 a6 (rowS s x) bg rfl HO6.out rfl hsz6 (by omega) ?_)
          intro a7 c7 w7 own7 hc7 gr7
          have hb7 := HB6.out.grown gr7 hsz6 (own_block HO6.out)
          have own7' := own_base (own_snoc own7) hszq
          rw [← HRW.out] at own7'
          have HO7 := Lib.hid own7'
          have HB7 := Lib.hid hb7
          have hd8 : ∃ v, w7.cell? ⟨G, x, none⟩ = some v := ⟨_, (hb7.cell (p := ⟨G, x, none⟩) hG2).trans d8w⟩
          obtain ⟨vv, hvv⟩ := hd8
          have hff : w7.frozen? ⟨G, x, none⟩ = false := by rw [World.frozen?_of_block (w := wq) (hb7.block G hG2)]; exact d9q
          have HROW8 := Lib.hid ((HROWQ.out.later hb7).put hxk HO7.out hc7 (by omega))
          have hgr8 : w7.grownBy (w7.setCell ⟨G, x, none⟩ (.slice a7 (nx + 1) c7)) (some G) := by
            obtain ⟨us, hu, _⟩ := HROWQ.out.later hb7
            exact (hu.stored x (.slice a7 (nx + 1) c7)).2
          have HR8 := Lib.hid ((HRQ.out.later hb7).kept hgr8 (by simpa using hGR))
          have HF8 := Lib.hid ((HFQ.out.later hb7).kept hgr8 (by simpa using hGF))
          have hb8 : Below w.heap.size w (w7.setCell ⟨G, x, none⟩ (.slice a7 (nx + 1) c7)) := (HBQ.out.trans (hb7.mono (by omega))).setCell (by show w.heap.size ≤ G; omega) _
          have hs8 : w.heap.size + 3 ≤ (w7.setCell ⟨G, x, none⟩ (.slice a7 (nx + 1) c7)).heap.size := by have := hb7.size; simp [World.setCell]; omega
          obtain ⟨w8, hw8⟩ : ∃ w8, w7.setCell ⟨G, x, none⟩ (.slice a7 (nx + 1) c7) = w8 := ⟨_, rfl⟩
          rw [hw8] at HROW8 HR8 HF8 hb8 hs8
          have HW8 := Lib.hid hw8
          have HB8 := Lib.hid hb8
          clear own7 own7' gr7 hb7 hw8 hb8
          have g5 : w8.cell? ⟨b2, off2, none⟩ = some (.int .i64 (mc : Int)) := ((HB8.out.cell (p := ⟨b2, off2, none⟩) hmem.2.2).trans (HBO.out.cell (p := ⟨b2, off2, none⟩) hmem.2.2).symm).trans D5.out
          have g6 : w8.cell? ⟨b2, off2 + 1, none⟩ = some (.int .i64 tm) := ((HB8.out.cell (p := ⟨b2, off2 + 1, none⟩) hmem.2.2).trans (HBO.out.cell (p := ⟨b2, off2 + 1, none⟩) hmem.2.2).symm).trans D6.out
          obtain ⟨r1, r2⟩ := HR8.out.cell hxk
          obtain ⟨f5, f6⟩ := HF8.out.cell hm3
          rw [← HW8.out] at g5 g6 r1 r2 f5 f6
          go_wp2_with fail
          rw [HW8.out]
          have hgr9 := (World.ownsRow.stored (show w8.ownsRow _ _ _ _ _ _ from HR8.out) x (.int .i64 (bg + tm))).2
          have HROW9 := Lib.hid (HROW8.out.kept hgr9 (.inr (by simpa [Value.ownBlock] using hGR)) (fun b e => by simp at e; omega))
          have HR9 := Lib.hid (HR8.out.put x (bg + tm))
          have HF9 := Lib.hid (HF8.out.kept hgr9 (by simp))
          have hb9 := HB8.out.setCell (p := ⟨w.heap.size + 1, x, none⟩) (Nat.le_add_right _ 1) (.int .i64 (bg + tm))
          have hs9 : w.heap.size + 3 ≤ (w8.setCell ⟨w.heap.size + 1, x, none⟩ (.int .i64 (bg + tm))).heap.size := by simpa [World.setCell] using hs8
          obtain ⟨w9, hw9⟩ : ∃ w9, w8.setCell ⟨w.heap.size + 1, x, none⟩ (.int .i64 (bg + tm)) = w9 := ⟨_, rfl⟩
          rw [hw9] at HROW9 HR9 HF9 hb9 hs9 ⊢
          have HB9 := Lib.hid hb9
          clear hw9 hb9 hgr9 g5 g6 r1 r2 f5 f6 hvv hff hgr8
          have g5 : w9.cell? ⟨b2, off2, none⟩ = some (.int .i64 (mc : Int)) := ((HB9.out.cell (p := ⟨b2, off2, none⟩) hmem.2.2).trans (HBO.out.cell (p := ⟨b2, off2, none⟩) hmem.2.2).symm).trans D5.out
          have g6 : w9.cell? ⟨b2, off2 + 1, none⟩ = some (.int .i64 tm) := ((HB9.out.cell (p := ⟨b2, off2 + 1, none⟩) hmem.2.2).trans (HBO.out.cell (p := ⟨b2, off2 + 1, none⟩) hmem.2.2).symm).trans D6.out
          obtain ⟨f5, f6⟩ := HF9.out.cell hm3
          go_still_tail 10, (by kernel_rfl)
          go_wp2_with fail
          have hgr10 := (World.ownsRow.stored (show w9.ownsRow _ _ _ _ _ _ from HF9.out) mc (.int .i64 (bg + tm))).2
          have hrowE := (HROW9.out.kept hgr10 (.inr (by simpa [Value.ownBlock] using hGF)) (fun b e => by simp at e; omega)).drewN 1
          have hRE := (HR9.out.kept hgr10 (by simp)).kept (grownBy_drewN _ 1 none) (by simp)
          have hFE := (HF9.out.put mc (bg + tm)).kept (grownBy_drewN _ 1 none) (by simp)
          have hBE := below_drewN (HB9.out.setCell (p := ⟨w.heap.size + 2, mc, none⟩) (Nat.le_add_right _ 2) (.int .i64 (bg + tm))) 1
          have hsE : w.heap.size + 3 ≤ ((w9.setCell ⟨w.heap.size + 2, mc, none⟩ (.int .i64 (bg + tm))).drewN 1).heap.size := by simpa [World.setCell, World.drewN, World.drew] using hs9
          have hset : (rowsS s k).set x (rowS (turnS (smach shop) (stime shop) s x) x) = rowsS (turnS (smach shop) (stime shop) s x) k := by
            apply List.ext_getElem?
            intro i
            by_cases hi : i < k
            · rw [List.getElem?_set, rowsS_len]
              by_cases hix : x = i
              · subst hix; rw [if_pos rfl, if_pos hi, rowsS_get _ hi]
              · rw [if_neg hix, rowsS_get _ hi, rowsS_get _ hi, HRO2.out i (fun e => hix e.symm)]
            · rw [List.getElem?_eq_none (by rw [List.length_set, rowsS_len]; omega), List.getElem?_eq_none (by rw [rowsS_len]; omega)]
          rw [hset] at hrowE
          go_roundw
          case rel =>
            refine ⟨q + 1, by go_num, by omega, ?_, ?_, ?_, ?_, hBE, hsE⟩
            · rw [HST.out, HTS.out]; simp only [go_sem]; split <;> (congr 1; omega)
            · rw [HST.out]; exact hrowE
            · rw [HST.out, HTS.out]; exact hRE
            · rw [HST.out, HTS.out]; exact hFE
          case measure => simp [intOf]; omega
        · obtain rfl : q = len2 := by omega
          have HALL := Lib.hid (show l.take q = l from List.take_of_length_le (by rw [HLL.out]; exact Nat.le_refl _))
          rw [HALL.out] at hrow ⊢
          have HRO := Lib.hid (hrow.rows (by omega) (by omega))
          have HB := Lib.hid hB
          clear hrow hR hF hB
          go_wp2_with fail
          go_ret2
          exact ⟨_, _, _, rfl, HRO.out, hkc, HB.out⟩
end Go.Proofs.Ythmlgicjedhgfab
namespace Go.Proofs.Ythmlgicjedhgfab
open Go.RowKit Go.WideShapes

theorem rowsInt_nil (w : World) {w' : World} (hb : Below w.heap.size w w') : RowsInt w [] (-1) (.returned (.tuple #[.slice none 0 0, .int .i64 (-1)])) w' :=
  ⟨none, 0, 0, rfl, ⟨rfl, Nat.zero_le _, fun h => absurd h (by omega)⟩, Nat.le_refl _, hb⟩
theorem rowsInt_from {w w1 w2 : World} {rows : List (List Int)} {n : Int} {e : Ending} (hb : Below w.heap.size w w1) (h : RowsInt w1 rows n e w2) : RowsInt w rows n e w2 := by
  obtain ⟨a, len, cap, rfl, h1, h2, h3⟩ := h
  have hs := hb.size
  exact ⟨a, len, cap, rfl, h1.to (fun b hb => ⟨⟨by omega, hb.2⟩, rfl⟩), h2, hb.trans (h3.mono hs)⟩
set_option maxRecDepth 100000 in
set_option maxHeartbeats 4000000 in
theorem shopTimes_any (a : Option Addr) (len cap : Nat) (shop : List (List (List Int))) (a2 : Option Addr) (len2 cap2 : Nat) (ts : List Int) (w : World) (h : ShopAt w (· < w.heap.size) a len shop) (g : IntsAt w (· < w.heap.size) a2 len2 ts) :
    Calls Try.prog 9 #[.slice a len cap, .slice a2 len2 cap2] w (RowsInt w (timesRows shop ts) (timesN shop ts)) := by
  have HL := Lib.hid h.lenEq
  go_enter Try.func9, Try.ntmps9
  go_wp2_with fail
  refine (validShop_any _ a len cap shop w h).mono ?_
  rintro e w' ⟨rfl, rfl⟩
  cases hv : shopM shop
  · go_wp2_with fail
    go_ret2
    unfold timesRows timesN; rw [hv]
    exact rowsInt_nil w (Below.refl _ _)
  · have HV := Lib.hid hv
    have hl3 : len ≤ 3 := by have := (shop_get hv).1; have := HL.out; omega
    clear hv
    go_wp2_with fail
    refine (validTurns_any a len cap shop a2 len2 cap2 ts w h g hl3).mono ?_
    rintro e w1 ⟨rfl, hb1⟩
    cases ht : turnsM shop ts
    · go_wp2_with fail
      go_ret2
      unfold timesRows timesN; rw [HV.out, ht]
      exact rowsInt_nil w hb1
    · obtain ⟨l, rfl, hl⟩ := turns_list ht
      have hs := hb1.size
      have HT := Lib.hid ht
      clear ht
      go_wp2_with fail
      refine (begun_any a len cap shop a2 len2 cap2 l w1 ((h.below hb1).to (fun b hb => ⟨by omega, rfl⟩)) ((g.below hb1).to (fun b hb => ⟨by omega, rfl⟩)) HV.out (fun x hx => by have := hl.1 x hx; have := HL.out; omega) (turnsOf_cnt hl) (by have := turnsOf_len HV.out hl.1 (turnsOf_cnt hl); have := g.lenEq; simp at this; omega)).mono ?_
      intro e w2 hr
      have hr2 := rowsInt_from hb1 hr
      obtain ⟨a3, len3, cap3, rfl, h3⟩ := hr2
      go_wp2_with fail
      go_ret2
      unfold timesRows timesN runOf; rw [HV.out, HT.out, toNat_cast, HL.out]
      exact ⟨a3, len3, cap3, rfl, h3⟩
end Go.Proofs.Ythmlgicjedhgfab
namespace Go.Proofs.Ythmlgicjedhgfab
open Go.RowKit Go.WideShapes

set_option maxRecDepth 100000 in
set_option maxHeartbeats 4000000 in
theorem workLeft_any (S : Nat → Prop) (a : Option Addr) (len cap : Nat) (shop : List (List (List Int))) (j k : Nat) (w : World) (h : ShopAt w S a len shop) (hv : shopM shop = true) (hj : j < len) (hk : k ≤ slen shop j) :
    Calls Try.prog 45 #[.slice a len cap, .int .i64 j, .int .i64 k] w fun e w' => e = .returned (.int .i64 (restW shop j k)) ∧ w = w' := by
  have HV := Lib.hid hv
  have hs3 := slen_le hv j
  obtain ⟨b, off, job, a', l, c, rfl, hx, hc, _, hr⟩ := h.get hj
  have hsl : slen shop j = l := by unfold slen; rw [List.getD_eq_getElem?_getD, hx]; exact hr.lenEq
  rw [hsl] at hk hs3
  have hl3 := h.small
  have hjl : (j : Int) < (len : Int) := by omega
  clear hv hx hr
  go_enter Try.func45, Try.ntmps45
  go_wp2_with fail
  go_loop [7, 8] (fun n x => ∃ m : Nat, k + m ≤ l ∧ x = .int .i64 ((k + m : Nat) : Int) ∧ n = .int .i64 (restTo (stime shop) j k m)) (fun _ x => l - (intOf x).toNat)
  case atStart => exact ⟨0, by omega, rfl, rfl⟩
  case round =>
    obtain ⟨m, hm, rfl, rfl⟩ := hrel
    by_cases hlt : k + m < l
    · obtain ⟨bb, oo, b1, off1, c1, b2, off2, c2, e0, q1, q2, q3, q4, q5, q6⟩ := step_at h HV.out hj (k := k + m) (by rw [hsl]; exact hlt)
      cases e0
      rw [hsl, hc] at q1
      simp only [Option.some.injEq, Value.slice.injEq] at q1
      obtain ⟨rfl, _, rfl⟩ := q1
      have ht := stime_bd HV.out j (k + m)
      have hu := restTo_bd (fun j k => stime_bd HV.out j k) j k m
      have HR := Lib.hid (show restTo (stime shop) j k (m + 1) = restTo (stime shop) j k m + stime shop j (k + m) from rfl)
      generalize stime shop j (k + m) = tt at ht q6 HR
      generalize restTo (stime shop) j k m = uu at hu HR ⊢
      have hu27 : 0 ≤ uu ∧ uu ≤ 27 := by omega
      have hwr : IntKind.i64.wrap (uu + tt) = uu + tt := IntWalk.i64_in _ (by omega)
      obtain ⟨km, hkm⟩ : ∃ km, km = k + m := ⟨_, rfl⟩
      rw [← hkm] at hlt hm q3 ⊢
      have HKM := Lib.hid hkm
      clear hkm q5
      go_wp2
      go_round
      case rel => exact ⟨m + 1, by have := HKM.out; omega, by have := HKM.out; subst this; go_num, by rw [HR.out]⟩
      case measure => simp [intOf]; omega
    · have hml : ((k + m : Nat) : Int) = (l : Int) := by omega
      have HML := Lib.hid (show slen shop j - k = m by omega)
      generalize k + m = km at *
      go_wp2
      go_ret
      exact ⟨ret_int (by unfold restW; rw [HML.out]), rfl⟩
end Go.Proofs.Ythmlgicjedhgfab
