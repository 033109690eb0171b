import Derived.Test.YtjcbpnffmebihaaGreatDoorA14
import Derived.Test.YtjcbpnffmebihaaGreatDoorRows
import Derived.WalkKit
import Derived.LoopTactic
import Derived.Outline
import Derived.WalkSpells
import Derived.WalkLawsBesides
import Derived.ProofKit
import Derived.Lib.Hide
namespace Go.Proofs.YtjcbpnffmebihaaGreatDoor
open Go.RowKit Go.WideShapes

/-- the first j numbers of a row -/
def rowK (l : ByteArray) (j : Nat) : List Int := ((splitB l 44).map readB).take j
theorem rowK_succ {l x : ByteArray} {j : Nat} (h : (splitB l 44)[j]? = some x) : rowK l (j + 1) = rowK l j ++ [readB x] := take_get (by rw [List.getElem?_map, h]; rfl)
theorem rowK_all (l : ByteArray) : rowK l (splitB l 44).length = (splitB l 44).map readB := List.take_of_length_le (by rw [List.length_map]; omega)
theorem rowK_len {l : ByteArray} {j : Nat} (h : j ≤ (splitB l 44).length) : (rowK l j).length = j := by unfold rowK; rw [List.length_take, List.length_map]; omega
/-- the first k rows -/
def rowsK (s : ByteArray) (k : Nat) : List (List Int) := (rowsB s).take k
theorem rowsK_succ {s l : ByteArray} {k : Nat} (h : (splitB s 47)[k]? = some l) : rowsK s (k + 1) = rowsK s k ++ [(splitB l 44).map readB] := take_get (by unfold rowsB; rw [List.getElem?_map, h]; rfl)
theorem rowsK_all (s : ByteArray) : rowsK s (splitB s 47).length = rowsB s := List.take_of_length_le (by unfold rowsB; rw [List.length_map]; omega)
theorem rowsK_len {s : ByteArray} {k : Nat} (h : k ≤ (splitB s 47).length) : (rowsK s k).length = k := by unfold rowsK rowsB; rw [List.length_take, List.length_map]; omega
/-- new rows, made one by one -/
def NewPats (w : World) (rows : List (List Int)) (e : Ending) (w' : World) : Prop := ∃ (a : Option Addr) (cap : Nat), e = .returned (.slice a rows.length cap) ∧ rows.length ≤ cap ∧ Pats w' w.heap.size (.slice a rows.length cap) rows ∧ Below w.heap.size w w'
theorem rowsB_len (s : ByteArray) : 1 ≤ (rowsB s).length ∧ (rowsB s).length ≤ s.size + 1 := by
  unfold rowsB; rw [List.length_map]; exact splitB_pos s 47
theorem strs_len {w : World} {B l c : Nat} {a : Option Addr} {ss : List ByteArray} (h : w.ownsRow B 9 1 (.slice a l c) l (ss.map .string)) : ss.length = l := by simpa using h.1
theorem pats_own {w : World} {B : Nat} {v : Value} {rows : List (List Int)} (h : Pats w B v rows) : ∃ us : List Value, w.ownsRow B 35 1 v rows.length us := ⟨h.choose, h.choose_spec.1⟩
theorem pats_base {w : World} {B : Nat} {v : Value} {rows : List (List Int)} (h : Pats w B v rows) : ∀ k, v.ownBlock = some k → B ≤ k := by
  obtain ⟨us, hu⟩ := pats_own h
  exact own_block hu
set_option maxRecDepth 100000 in
set_option maxHeartbeats 4000000 in
/-- the model's reading of rows -/
theorem readRows_any (s : ByteArray) (w : World) (hs : s.size ≤ 1048575) :
    Calls Tryz.prog 32 #[.string s] w (NewPats w (rowsB s)) := by
  have hlen := splitB_pos s 47
  have HSZ := Lib.hid (splitB_size s 47)
  go_enter Tryz.func32, Tryz.ntmps32
  go_wp2_with fail
  refine (splitAt_any s 47 _ hs).mono ?_
  rintro e w2 ⟨al, n, cl, rfl, hn, hlo, hbl⟩
  have hnl : (splitB s 47).length = n := strs_len hlo
  have HLO := Lib.hid hlo
  have HBL := Lib.hid hbl
  have hP0 : Pats w2 w.heap.size (.slice (some ⟨w.heap.size, 0, none⟩) 0 0) [] := (Pats.empty w w.heap.size (Nat.le_refl _)).keep fun b _ hb => hbl.block b hb
  have HB2 := Lib.hid (show Below w.heap.size w w2 from ((Below.refl _ w).alloc (Nat.le_refl _) _).trans (hbl.mono (by simp)))
  have HP0 := Lib.hid hP0
  clear hlo hbl hP0
  go_wp2_with fail
  go_loopw [3, 5] (fun v i wr => ∃ (k cp : Nat) (ax : Option Addr), k ≤ n ∧ i = .int .i64 k ∧ v = .slice ax k cp ∧ Pats wr w.heap.size (.slice ax k cp) (rowsK s k) ∧ wr.ownsRow w.heap.size 9 1 (.slice al n cl) n ((splitB s 47).map .string) ∧ Below w.heap.size w wr) (fun _ i _ => n - (intOf i).toNat)
  case atStart => exact ⟨0, 0, _, Nat.zero_le _, rfl, rfl, HP0.out, own_base HLO.out (by simp), HB2.out⟩
  case round =>
    obtain ⟨k, cp, ax, hk, rfl, rfl, hpats, hlo, hB⟩ := hrel
    obtain ⟨wo, rfl⟩ : ∃ wo : World, wo = wr := ⟨_, rfl⟩
    have HP := Lib.hid hpats
    have HO := Lib.hid hlo
    have HB := Lib.hid hB
    by_cases hlt : k < n
    · obtain ⟨bl, ofl, l, rfl, hlk, hcl⟩ := (own_strsAt (hlo.alloc (.cells #[] 3)) hn).get hlt
      have hll : l.size ≤ 1048575 := Nat.le_trans (HSZ.out l (List.mem_of_getElem? hlk)) hs
      have HLK := Lib.hid hlk
      have hll2 := splitB_pos l 44
      have HLZ := Lib.hid (splitB_size l 44)
      clear hpats hlo hB hlk
      go_wp2_with fail
      refine (splitAt_any l 44 _ hll).mono ?_
      rintro e w4 ⟨aj, nj, cj, rfl, hnj, hjo, hbj⟩
      have hnjl : (splitB l 44).length = nj := strs_len hjo
      have HJ := Lib.hid hjo
      have HBJ := Lib.hid hbj
      have HKR := Lib.hid (World.ownsRow_made (base := wo.heap.size) (size := 1) (e := 3) wo #[] 0 (Nat.le_refl _) (Nat.zero_le _) rfl)
      have hsz4 := hbj.size
      have hr0 : w4.ownsRow wo.heap.size 3 1 (.slice (some ⟨wo.heap.size, 0, none⟩) 0 0) 0 ((rowK l 0).map (.int .i64)) := own_keep HKR.out fun b _ _ hb => hbj.block b hb
      have HR0 := Lib.hid hr0
      have HB4 := Lib.hid (show Below wo.heap.size wo w4 from ((Below.refl _ wo).alloc (Nat.le_refl _) _).trans (hbj.mono (by simp)))
      clear hjo hbj hr0 hsz4
      go_wp2_with fail
      go_loopw [6, 8] (fun v i wr => ∃ (j cr : Nat) (ar : Option Addr), j ≤ nj ∧ i = .int .i64 j ∧ v = .slice ar j cr ∧ wr.ownsRow wo.heap.size 3 1 (.slice ar j cr) j ((rowK l j).map (.int .i64)) ∧ wr.ownsRow wo.heap.size 9 1 (.slice aj nj cj) nj ((splitB l 44).map .string) ∧ Below wo.heap.size wo wr) (fun _ i _ => nj - (intOf i).toNat)
      case atStart => exact ⟨0, 0, _, Nat.zero_le _, rfl, rfl, HR0.out, own_base HJ.out (by simp), HB4.out⟩
      case round =>
        obtain ⟨j, cr, ar, hj, rfl, rfl, hro, hjo, hBj⟩ := hrel
        obtain ⟨wi, rfl⟩ : ∃ wi : World, wi = wr := ⟨_, rfl⟩
        have HR := Lib.hid hro
        have HJ2 := Lib.hid hjo
        have HB5 := Lib.hid hBj
        by_cases hjt : j < nj
        · obtain ⟨bj, ofj, x, rfl, hxj, hcx⟩ := (own_strsAt hjo hnj).get hjt
          have hxl : x.size ≤ 1048576 := by have := HLZ.out x (List.mem_of_getElem? hxj); omega
          have HX := Lib.hid (rowK_succ hxj)
          clear hro hjo hBj hxj
          go_wp2_with fail
          refine (readNumber_any x wi hxl).mono ?_
          rintro e w6 ⟨rfl, hw⟩
          subst hw
          go_wp2_with (at_builtin; refine wpApp1 rfl _ _ rfl wo.heap.size _ _ _ _ _ rfl HR.out rfl HB5.out.size (by omega) ?_)
          intro a6 c6 w6 hown hc6 hgr
          have HO6 := Lib.hid hown
          have HG6 := Lib.hid hgr
          clear hown hgr
          go_wp2
          go_roundw
          case rel => exact ⟨j + 1, c6, a6, by omega, by go_num, rfl, by rw [HX.out]; exact own_snoc HO6.out, HJ2.out.kept HG6.out (own_ne HJ2.out HR.out (by decide)), HB5.out.grown HG6.out HB5.out.size (own_block HR.out)⟩
          case measure => simp [intOf] <;> omega
        · obtain rfl : j = nj := by omega
          have hj1 : 0 < j := by omega
          have hrj : (rowK l j).length = j := rowK_len (by omega)
          obtain ⟨g, cg, ev, _, _⟩ := hro.form hj1
          injection ev with ev _ ev2
          subst ev ev2
          have HRK := Lib.hid (show rowsK s (k + 1) = rowsK s k ++ [rowK l j] by rw [rowsK_succ HLK.out, ← rowK_all, hnjl])
          have hrk : (rowsK s k).length = k := rowsK_len (by omega)
          clear HR HR0 HKR
          generalize rowK l j = r at *
          subst hrj
          have HP1 := Lib.hid (Pats.one hBj.size hro (by omega))
          have HKP := Lib.hid (show ∀ b, w.heap.size ≤ b → b < wo.heap.size → (wi.alloc (.cells #[.slice (some ⟨g, 0, none⟩) r.length cr] 35)).heap[b]? = wo.heap[b]? from fun b _ hb => by
            rw [Below.heap_alloc _ _ _ (by have := hBj.size; omega)]; exact hBj.block b hb)
          have HS1 := Lib.hid (show wo.heap.size ≤ (wi.alloc (.cells #[.slice (some ⟨g, 0, none⟩) r.length cr] 35)).heap.size by have := hBj.size; simp; omega)
          have HO7 := Lib.hid (show (wi.alloc (.cells #[.slice (some ⟨g, 0, none⟩) r.length cr] 35)).ownsRow w.heap.size 9 1 (.slice (some ⟨bl, ofl, none⟩) n cl) n ((splitB s 47).map .string) from own_keep HO.out fun b _ _ hb => HKP.out b (by assumption) hb)
          clear hro hjo hBj
          go_wp2_with (at_builtin; refine wpPats (w0 := wo) rfl _ _ rfl w.heap.size wo.heap.size (.slice ax k cp) _ (rowsK s k) [r] rfl rfl HP.out HKP.out HS1.out HP1.out HB.out.size (Nat.le_refl _) (by have := HB.out.size; have := HS1.out; omega) (by simp; omega) ?_)
          intro v8 w8 hp8 hgr8 _
          obtain ⟨a8, c8, ev8, _⟩ := hp8.slice
          have hl8 : (rowsK s k ++ [r]).length = k + 1 := by rw [List.length_append, hrk]; rfl
          rw [hl8] at ev8
          subst ev8
          obtain ⟨us, hu⟩ := pats_own (HP.out.keep HKP.out)
          have HO8 := Lib.hid (HO7.out.kept hgr8 (own_ne HO7.out hu (by decide)))
          have HB8 := Lib.hid ((((HB.out.trans (HB5.out.mono HB.out.size)).alloc (by have := HB.out.size; have := HB5.out.size; omega) _).grown hgr8 (by have := HB.out.size; have := HS1.out; omega) (pats_base HP.out)))
          have HP8 := Lib.hid (HRK.out.symm ▸ hp8)
          clear hp8 hgr8 hu
          go_wp2
          go_roundw
          case rel => exact ⟨k + 1, c8, a8, by omega, by go_num, rfl, HP8.out, HO8.out, HB8.out⟩
          case measure => simp [intOf] <;> omega
    · obtain rfl : k = n := by omega
      have HE := Lib.hid (show rowsK s k = rowsB s by rw [← hnl]; exact rowsK_all s)
      have hl := (congrArg List.length HE.out).symm.trans (rowsK_len (by omega))
      obtain ⟨us, hu⟩ := pats_own hpats
      obtain ⟨_, _, ec, hcc⟩ := own_slice hu
      injection ec with q1 q2 ec
      have HCC := Lib.hid (And.intro hl (show (rowsK s k).length ≤ cp by rw [ec]; exact hcc))
      clear hpats hlo hB hu ec hcc hl hnl hlen q1 q2
      go_wp2_with fail
      go_ret
      have hl := HCC.out.1
      have hp := HP.out
      rw [HE.out] at hp
      refine ⟨ax, cp, ?_, ?_, ?_, HB.out⟩
      · rw [hl]; rfl
      · have := HCC.out.2; rwa [HE.out] at this
      · rw [hl]; exact hp
end Go.Proofs.YtjcbpnffmebihaaGreatDoor
namespace Go.Proofs.YtjcbpnffmebihaaGreatDoor

/-! What the answers' numbers are at most. -/
def In64 (x : Int) : Prop := -9223372036854775807 ≤ x ∧ x ≤ 9223372036854775807
theorem two_bd {rows : List (List Int)} (hp : pairsM rows = true) : rows.length ≤ 8 ∧ (∀ x ∈ ruleI rows rows.length, 0 ≤ x ∧ x < (rows.length : Int)) ∧ 0 ≤ spanT (ta rows) (tb rows) (nO (ruleI rows rows.length)) ∧ spanT (ta rows) (tb rows) (nO (ruleI rows rows.length)) ≤ 144 := by
  have h8 := (pairs_get hp).1
  have hb := (run_bd hp (nO (ruleI rows rows.length))).2
  have hl : ((nO (ruleI rows rows.length)).length : Int) ≤ 8 := by unfold nO; rw [List.length_map, ruleI_len]; omega
  refine ⟨h8, fun x hx => ?_, hb.1, by have := hb.2; unfold spanT; omega⟩
  obtain ⟨k, hk⟩ := List.mem_iff_getElem?.1 hx
  obtain ⟨y, rfl, hy, _⟩ := ruleI_get hk
  omega
theorem twoB_size {rows : List (List Int)} (hp : pairsM rows = true) : (twoB rows).size ≤ 400 := by
  obtain ⟨h8, h1, h2, h3⟩ := two_bd hp
  have a := listB_size (xs := ruleI rows rows.length) fun x hx => by have := h1 x hx; omega
  have b := numB_size (n := spanT (ta rows) (tb rows) (nO (ruleI rows rows.length))) (by omega) (by omega)
  rw [ruleI_len] at a
  rw [twoB, ByteArray.size_append, ByteArray.size_append, sgnB_size]
  omega
theorem kept_bd {rows : List (List Int)} (hp : jobsM rows = true) (h8 : rows.length ≤ 8) : ∀ x ∈ nI (keptM rows rows.length rows.length), 0 ≤ x ∧ x < 8 := by
  intro x hx
  obtain ⟨y, hy, rfl⟩ := List.mem_map.1 hx
  have := kept_mem hp hy
  omega
theorem keptB_size {rows : List (List Int)} (hp : jobsM rows = true) (h8 : rows.length ≤ 8) : (keptB rows).size ≤ 400 := by
  have a := listB_size (xs := nI (keptM rows rows.length rows.length)) fun x hx => by have := kept_bd hp h8 x hx; omega
  have b : (nI (keptM rows rows.length rows.length)).length ≤ rows.length := by unfold nI; rw [List.length_map]; exact kept_len hp
  unfold keptB
  omega
theorem stockB_size {xs : List Int} {o u : Int} (h : okO xs o u = true) (hs : shareN xs o u < 1000000) : (stockB xs o u).size ≤ 400 := by
  have b := numB_size (n := shareRes xs o u) (by unfold shareRes; rw [h]; simp only [if_true]; omega) (by unfold shareRes; rw [h]; simp only [if_true]; omega)
  unfold stockB
  omega
end Go.Proofs.YtjcbpnffmebihaaGreatDoor
namespace Go.Proofs.YtjcbpnffmebihaaGreatDoor
open Go.RowKit Go.WideShapes

def lineP (T ys : List Int) (c : Int) : Prop := (∀ k, k < T.length → T.getD k 0 ≤ c) ∧ tasksP T ys ∧ inB 1 60 c = true
instance (T ys : List Int) (c : Int) : Decidable (lineP T ys c) := by unfold lineP; infer_instance
end Go.Proofs.YtjcbpnffmebihaaGreatDoor
namespace Go.Proofs.YtjcbpnffmebihaaGreatDoor
open Go.RowKit

/-- a new slice of these ints that may be written, not longer than its array -/
def ResPostC (w : World) (xs : List Int) (e : Ending) (w' : World) : Prop := ∃ (a : Option Addr) (len cap : Nat), e = .returned (.slice a len cap) ∧ IntsAt w' (fun b => w.heap.size ≤ b ∧ b < w'.heap.size) a len xs ∧
  Free w' (fun b => w.heap.size ≤ b ∧ b < w'.heap.size) a len ∧ len ≤ cap ∧ Below w.heap.size w w'
theorem resPostC_nil (w : World) : ResPostC w [] (.returned (.slice none 0 0)) w :=
  ⟨none, 0, 0, rfl, ⟨rfl, Nat.zero_le _, fun h => absurd h (by omega)⟩, ⟨Nat.zero_le _, fun h => absurd h (by omega)⟩, Nat.le_refl _, Below.refl _ _⟩
theorem resPostC_of {w w' : World} {xs : List Int} {a : Option Addr} {len cap : Nat} (h : ResPost w xs (.returned (.slice a len cap)) w') (hc : len ≤ cap) : ResPostC w xs (.returned (.slice a len cap)) w' := by
  obtain ⟨a', l', c', e, h1, h2, h3⟩ := h
  simp only [Ending.returned.injEq, Value.slice.injEq] at e
  obtain ⟨rfl, rfl, rfl⟩ := e
  exact ⟨_, _, _, rfl, h1, h2, hc, h3⟩
theorem ResPostC.res {w w' : World} {xs : List Int} {e : Ending} (h : ResPostC w xs e w') : ResPost w xs e w' := by
  obtain ⟨a', l', c', e1, h1, h2, _, h3⟩ := h
  exact ⟨a', l', c', e1, h1, h2, h3⟩
end Go.Proofs.YtjcbpnffmebihaaGreatDoor
namespace Go.Proofs.YtjcbpnffmebihaaGreatDoor
open Go.RowKit Go.WideShapes

theorem used_le {T : Nat → Int} {R : Int} {n : Nat} {l : List Nat} (hT : ∀ i, i < n → 1 ≤ T i ∧ T i ≤ R) (h : l.Perm (List.range n)) : rollU T R l n ≤ n := (fit_hi hT h (Nat.le_refl n)).1
section
variable {k1 k2 : ByteArray}
variable {xs : List Int} {R : Int} {kind : ByteArray}
theorem roll_yes (hv : cutsM xs R = true) (hk : (isLong kind || isFirst kind) = true) : rollRes xs R kind = tab (fun i => (rollP (lenT xs) R (cutOrd xs kind) xs.length i : Int)) xs.length := by
  unfold rollRes; rw [hv, hk]; rfl
end
end Go.Proofs.YtjcbpnffmebihaaGreatDoor
namespace Go.Proofs.YtjcbpnffmebihaaGreatDoor

/-! What the answers to lots and rolls are at most; no answer is long. -/
theorem lots_bd {xs : List Int} {a b : Int} (h : validLotsM xs a b = true) : (bestLotsM xs a b).length ≤ 8 ∧ (∀ x ∈ bestLotsM xs a b, 0 ≤ x ∧ x ≤ 160) ∧ 0 ≤ bst xs a b 0 ∧ bst xs a b 0 ≤ 40000 := by
  obtain ⟨hv, hs, hh⟩ := validLots_get h
  have h8 := validDays_len hv
  have hat := validDays_at hv
  refine ⟨by unfold bestLotsM; rw [madeM_length]; exact h8, fun x hx => ?_, bst_bd h8 hat (by omega) (by omega) (by omega)⟩
  obtain ⟨q, hq⟩ := List.mem_iff_getElem?.1 hx
  unfold bestLotsM madeM at hq
  obtain ⟨rfl, hql⟩ := tab_get hq
  have := madeAt_bd hat (nxB_nexts xs a b) hql
  omega
theorem lotsB_size {xs : List Int} {a b : Int} (h : validLotsM xs a b = true) : (lotsB xs a b).size ≤ 400 := by
  obtain ⟨h1, h2, h3, h4⟩ := lots_bd h
  have c := listB_size (xs := bestLotsM xs a b) fun x hx => by have := h2 x hx; omega
  have d := numB_size (n := bst xs a b 0) (by omega) (by omega)
  rw [lotsB, ByteArray.size_append, ByteArray.size_append, sgnB_size]
  omega
theorem rollsK_bd {xs : List Int} {R : Int} (h : cutsM xs R = true) : (0 ≤ rollsRes xs R ∧ rollsRes xs R ≤ 7) ∧ (rollRes xs R kLong).length ≤ 7 ∧ ∀ x ∈ rollRes xs R kLong, 0 ≤ x ∧ x ≤ 7 := by
  obtain ⟨hR1, hR2, h7, hT⟩ := cuts_get h
  have hp := cutOrd_perm xs kLong
  have hr := (roll_plan hT hp).1
  have hu := used_le hT hp
  have hf := few_each (xs := xs) (R := R) (by omega) fun i hi => (hT i hi).2
  have e := roll_yes (kind := kLong) h (by rw [show isLong kLong = true from l_isLong]; rfl)
  refine ⟨by unfold rollsRes; rw [h]; simp only [if_true]; omega, by rw [e, tab_length]; exact h7, fun x hx => ?_⟩
  rw [e] at hx
  obtain ⟨q, hq⟩ := List.mem_iff_getElem?.1 hx
  obtain ⟨rfl, hql⟩ := tab_get hq
  have := hr q hql
  omega
theorem rollsB_size {xs : List Int} {R : Int} (h : cutsM xs R = true) : (rollsB xs R).size ≤ 400 := by
  obtain ⟨h1, h2, h3⟩ := rollsK_bd h
  have c := listB_size (xs := rollRes xs R kLong) fun x hx => by have := h3 x hx; omega
  have d := numB_size (n := rollsRes xs R) (by omega) (by omega)
  rw [rollsB, ByteArray.size_append, ByteArray.size_append, sgnB_size]
  omega
theorem stock_bd {xs : List Int} {o u : Int} (h : okO xs o u = true) : 0 ≤ shareRes xs o u ∧ shareRes xs o u ≤ 10 := by
  obtain ⟨hc, ho0, ho1, hu0, hu1⟩ := okO_at h
  have hsl := (share_is hc ho0 hu0).1
  have hl7 := (chM_at hc).2.1
  unfold shareRes; rw [h]; simp only [if_true]; omega
theorem words_size (ws : List ByteArray) (rows : List (List Int)) : (wordsB ws rows).size ≤ 400 := by
  have s1 : sWrong.size ≤ 400 := by decide
  have s2 : sWhat.size ≤ 400 := by decide
  unfold wordsB
  split
  · split
    · rename_i h; exact twoB_size h.2
    · exact s1
  split
  · split
    · rename_i h; exact keptB_size h.2 (jobs_get h.2).1
    · exact s1
  split
  · split
    · rename_i h; exact lotsB_size h.2.1
    · exact s1
  split
  · split
    · rename_i h; exact rollsB_size h.2.2
    · exact s1
  split
  · split
    · rename_i h
      have := stock_bd h.2.2
      unfold stockB
      exact Nat.le_trans (numB_size (by omega) (by omega)) (by decide)
    · exact s1
  exact s2
theorem ans_size (l : ByteArray) : (ansB l).size ≤ 400 := words_size _ _
end Go.Proofs.YtjcbpnffmebihaaGreatDoor
namespace Go.Proofs.YtjcbpnffmebihaaGreatDoor
open Go.RowKit Go.WideShapes

theorem word_is {a : ByteArray} (b : ByteArray) (h : a = b) : (a.toList == b.toList) = true := by rw [h]; exact beq_self_eq_true _
theorem getD_some {ss : List ByteArray} {k : Nat} {x : ByteArray} (h : ss[k]? = some x) : ss.getD k ByteArray.empty = x := by rw [List.getD_eq_getElem?_getD, h]; rfl
theorem toList_lit {a : ByteArray} {l : List UInt8} (h : a ≠ ⟨l.toArray⟩) : (a.toList == l) = false := by
  have := toList_ne h
  rwa [ByteArray.toList_mk l] at this
set_option maxRecDepth 100000 in
set_option maxHeartbeats 4000000 in
/-- the model's answer to another line -/
theorem answer_what (line : ByteArray) (w : World) (hs : line.size ≤ 1048575) (k1 : (splitB line 32).getD 0 ByteArray.empty ≠ kTwo) (k2 : (splitB line 32).getD 0 ByteArray.empty ≠ kKept) (k3 : (splitB line 32).getD 0 ByteArray.empty ≠ kLots) (k4 : (splitB line 32).getD 0 ByteArray.empty ≠ kRolls) (k5 : (splitB line 32).getD 0 ByteArray.empty ≠ kStock) :
    Calls Tryz.prog 26 #[.string line] w (fun e w' => e = .returned (.string (ansB line)) ∧ Below w.heap.size w w') := by
  have hlen := splitB_pos line 32
  have HSZ := Lib.hid (splitB_size line 32)
  have HA := Lib.hid (show ansB line = sWhat by unfold ansB wordsB; rw [if_neg k1, if_neg k2, if_neg k3, if_neg k4, if_neg k5])
  have HKS := Lib.hid (And.intro k1 (And.intro k2 (And.intro k3 (And.intro k4 k5))))
  clear k1 k2 k3 k4 k5
  go_enter Tryz.func26, Tryz.ntmps26
  go_wp2_with fail
  refine (splitAt_any line 32 _ hs).mono ?_
  rintro e w1 ⟨a, n, c, rfl, hn, hlo, hb⟩
  have hnl := strs_len hlo
  have HNL := Lib.hid hnl
  obtain ⟨m, hm⟩ : ∃ m : Nat, n = m + 1 := ⟨n - 1, by omega⟩
  subst hm
  have HLO := Lib.hid hlo
  have HB := Lib.hid hb
  obtain ⟨b0, of0, x0, e0, hx0, hc0⟩ := (own_strsAt hlo hn).get (k := 0) (by omega)
  have hb0 : b0 < w1.heap.size := by
    obtain ⟨b', o', e', hS, _⟩ := (own_strsAt hlo hn).cells (by omega)
    rw [e0] at e'; injection e' with e'; injection e' with e' _; subst e'; exact hS.2
  obtain ⟨b1, of1, x1, e1, hx1, hc1⟩ := (own_strsAt hlo hn).get (k := m) (by omega)
  rw [e0] at e1
  injection e1 with e1
  injection e1 with q1 q2
  subst q1 q2 e0
  have hl1 : x1.size ≤ 1048575 := Nat.le_trans (HSZ.out x1 (List.mem_of_getElem? hx1)) hs
  have hks := HKS.out
  rw [getD_some hx0] at hks
  obtain ⟨k1, k2, k3, k4, k5⟩ := hks
  have f1 : (x0.toList == ByteArray.toList ⟨#[116, 119, 111]⟩) = false := toList_ne k1
  have g1 : (x0.toList == [116, 119, 111]) = false := toList_lit k1
  have f2 : (x0.toList == ByteArray.toList ⟨#[107, 101, 112, 116]⟩) = false := toList_ne k2
  have g2 : (x0.toList == [107, 101, 112, 116]) = false := toList_lit k2
  have f3 : (x0.toList == ByteArray.toList ⟨#[108, 111, 116, 115]⟩) = false := toList_ne k3
  have g3 : (x0.toList == [108, 111, 116, 115]) = false := toList_lit k3
  have f4 : (x0.toList == ByteArray.toList ⟨#[114, 111, 108, 108, 115]⟩) = false := toList_ne k4
  have g4 : (x0.toList == [114, 111, 108, 108, 115]) = false := toList_lit k4
  have f5 : (x0.toList == ByteArray.toList ⟨#[115, 116, 111, 99, 107]⟩) = false := toList_ne k5
  have g5 : (x0.toList == [115, 116, 111, 99, 107]) = false := toList_lit k5
  clear k1 k2 k3 k4 k5
  have HX1 := Lib.hid (getD_some hx1)
  have hwm : IntKind.i64.wrap ((m : Int) + 1 - 1) = (m : Int) := by rw [Int.add_sub_cancel]; exact IntWalk.i64_in _ (by omega)
  have hm1 : (m : Int) < (m : Int) + 1 := by omega
  have hm2 : (0 : Int) < (m : Int) + 1 := by omega
  rw [Nat.add_zero] at hc0
  clear hlo hb hx0 hx1 hnl hlen
  go_wp2_with fail
  refine (readRows_any x1 w1 hl1).mono ?_
  rintro e w2 ⟨a2, c2, rfl, hc2, hpt, hb2⟩
  have hc02 : w2.cell? ⟨b0, of0, none⟩ = some (.string x0) := by rw [World.cell?_of_block (w := w1) (hb2.block b0 hb0)]; exact hc0
  have hrl := rowsB_len x1
  have hra := (hpt.rowsAt rfl (by omega)).to (w' := w2) (S' := (· < w2.heap.size)) fun b hb => ⟨hb.2, rfl⟩
  have HRA := Lib.hid hra
  have HB2 := Lib.hid (HB.out.trans (hb2.mono HB.out.size))
  clear hc0 hc1 hpt hb2 hra hrl
  go_wp2_with fail
  go_ret
  exact ⟨ret_str HA.out.symm, HB2.out⟩
set_option maxRecDepth 100000 in
set_option maxHeartbeats 4000000 in
/-- the model's answer to a line of pairs -/
theorem answer_two (line : ByteArray) (w : World) (hs : line.size ≤ 1048575) (hk : (splitB line 32).getD 0 ByteArray.empty = kTwo) :
    Calls Tryz.prog 26 #[.string line] w (fun e w' => e = .returned (.string (ansB line)) ∧ Below w.heap.size w w') := by
  have hlen := splitB_pos line 32
  have HSZ := Lib.hid (splitB_size line 32)
  have HK := Lib.hid hk
  clear hk
  go_enter Tryz.func26, Tryz.ntmps26
  go_wp2_with fail
  refine (splitAt_any line 32 _ hs).mono ?_
  rintro e w1 ⟨a, n, c, rfl, hn, hlo, hb⟩
  have hnl := strs_len hlo
  have HNL := Lib.hid hnl
  obtain ⟨m, hm⟩ : ∃ m : Nat, n = m + 1 := ⟨n - 1, by omega⟩
  subst hm
  have HLO := Lib.hid hlo
  have HB := Lib.hid hb
  obtain ⟨b0, of0, x0, e0, hx0, hc0⟩ := (own_strsAt hlo hn).get (k := 0) (by omega)
  have hb0 : b0 < w1.heap.size := by
    obtain ⟨b', o', e', hS, _⟩ := (own_strsAt hlo hn).cells (by omega)
    rw [e0] at e'; injection e' with e'; injection e' with e' _; subst e'; exact hS.2
  obtain ⟨b1, of1, x1, e1, hx1, hc1⟩ := (own_strsAt hlo hn).get (k := m) (by omega)
  rw [e0] at e1
  injection e1 with e1
  injection e1 with q1 q2
  subst q1 q2 e0
  have hl1 : x1.size ≤ 1048575 := Nat.le_trans (HSZ.out x1 (List.mem_of_getElem? hx1)) hs
  obtain rfl : x0 = ⟨#[116, 119, 111]⟩ := (getD_some hx0).symm.trans HK.out
  have HX1 := Lib.hid (getD_some hx1)
  have hwm : IntKind.i64.wrap ((m : Int) + 1 - 1) = (m : Int) := by rw [Int.add_sub_cancel]; exact IntWalk.i64_in _ (by omega)
  have hm1 : (m : Int) < (m : Int) + 1 := by omega
  have hm2 : (0 : Int) < (m : Int) + 1 := by omega
  rw [Nat.add_zero] at hc0
  clear hlo hb hx0 hx1 hnl hlen
  go_wp2_with fail
  refine (readRows_any x1 w1 hl1).mono ?_
  rintro e w2 ⟨a2, c2, rfl, hc2, hpt, hb2⟩
  have hc02 : w2.cell? ⟨b0, of0, none⟩ = some (.string ⟨#[116, 119, 111]⟩) := by rw [World.cell?_of_block (w := w1) (hb2.block b0 hb0)]; exact hc0
  have hrl := rowsB_len x1
  have hra := (hpt.rowsAt rfl (by omega)).to (w' := w2) (S' := (· < w2.heap.size)) fun b hb => ⟨hb.2, rfl⟩
  have HRA := Lib.hid hra
  have HB2 := Lib.hid (HB.out.trans (hb2.mono HB.out.size))
  have HANS := Lib.hid (show ansB line = (if m + 1 = 2 ∧ pairsM (rowsB x1) = true then twoB (rowsB x1) else sWrong) by
    unfold ansB wordsB
    rw [if_pos HK.out, HNL.out, Nat.add_sub_cancel, HX1.out])
  clear hc0 hc1 hpt hb2 hra hrl
  generalize rowsB x1 = rows at *
  by_cases hm : m + 1 = 2
  · obtain rfl : m = 1 := by omega
    go_wp2_with fail
    refine (validPairs_any _ a2 _ c2 rows w2 HRA.out).mono ?_
    rintro e w3 ⟨rfl, rfl⟩
    cases hp : pairsM rows
    · go_wp2_with fail
      go_ret
      exact ⟨ret_str (by rw [HANS.out, hp]; rfl), HB2.out⟩
    · have HTB := Lib.hid (two_bd hp)
      have HP := Lib.hid hp
      clear hp
      go_wp2_with fail
      refine (byRule_any a2 _ c2 rows w2 HRA.out HP.out).mono ?_
      rintro e w4 hno
      obtain ⟨a4, l4, c4, rfl, h4, h5, hb4⟩ := hno.ints
      have HI := Lib.hid h4
      have HB4 := Lib.hid (HB2.out.trans (hb4.mono HB2.out.size))
      have HRA4 := Lib.hid (show RowsAt w4 (· < w4.heap.size) a2 rows.length rows from HRA.out.to fun b hb => ⟨Nat.lt_of_lt_of_le hb hb4.size, hb4.block b hb⟩)
      have hl4 : l4 ≤ 8 := by have := h4.lenEq; rw [ruleI_len] at this; have := HTB.out.1; omega
      have HL4 := Lib.hid (show ∀ x ∈ ruleI rows rows.length, 0 ≤ x ∧ x < (rows.length : Int) from HTB.out.2.1)
      have HSP := Lib.hid HTB.out.2.2
      have HZ1 := Lib.hid (listB_size (xs := ruleI rows rows.length) fun x hx => by have := HTB.out.2.1 x hx; have := HTB.out.1; omega)
      have HL8 := Lib.hid HTB.out.1
      clear hno h4 h5 hb4
      go_wp2_with fail
      refine (listText_any _ a4 l4 c4 (ruleI rows rows.length) w4 HI.out (fun x hx => by have := HL4.out x hx; have := HL8.out; omega) (by omega)).mono ?_
      rintro e w5 ⟨rfl, hw⟩
      subst hw
      have hz1 : (listB (ruleI rows rows.length)).size ≤ 168 := by have := HZ1.out; rw [ruleI_len] at this; have := HL8.out; omega
      have t1 : ¬ 9223372036854775807 < (listB (ruleI rows rows.length)).size + (⟨#[32]⟩ : ByteArray).size := by show ¬ _ < _ + 1; omega
      go_wp2_with fail
      refine (span_any _ _ a2 _ c2 rows a4 l4 c4 (ruleI rows rows.length) w5 HRA4.out HI.out HP.out (fun x hx => HL4.out x hx) hl4).mono ?_
      rintro e w6 ⟨rfl, hw⟩
      subst hw
      have hsp := HSP.out
      have HTW := Lib.hid (show twoB rows = listB (ruleI rows rows.length) ++ sgnB 32 ++ numB (spanT (ta rows) (tb rows) (nO (ruleI rows rows.length))) from rfl)
      generalize spanT (ta rows) (tb rows) (nO (ruleI rows rows.length)) = sp at *
      generalize listB (ruleI rows rows.length) = LB at *
      go_wp2_with fail
      refine (number_any sp w5 (by omega) (by omega)).mono ?_
      rintro e w7 ⟨rfl, hw⟩
      subst hw
      have hz2 := numB_size (n := sp) (by omega) (by omega)
      have t2 : ¬ 9223372036854775807 < (LB ++ (⟨#[32]⟩ : ByteArray)).size + (numB sp).size := by rw [ByteArray.size_append]; show ¬ _ < _ + 1 + _; omega
      have t3 : ¬ 9223372036854775807 < LB.size + 1 + (numB sp).size := by omega
      go_wp2_with fail
      go_ret
      exact ⟨ret_str (HTW.out.symm.trans ((if_pos ⟨by first | rfl | trivial, HP.out⟩).symm.trans HANS.out.symm)), HB4.out⟩
  · have hne : ((m : Int) + 1 == 2) = false := by rw [beq_eq_false_iff_ne]; omega
    go_wp2_with fail
    go_ret
    exact ⟨ret_str (by rw [HANS.out, if_neg (by omega)]; rfl), HB2.out⟩
set_option maxRecDepth 100000 in
set_option maxHeartbeats 4000000 in
/-- the model's answer to a line of jobs -/
theorem answer_kept (line : ByteArray) (w : World) (hs : line.size ≤ 1048575) (hk : (splitB line 32).getD 0 ByteArray.empty = kKept) :
    Calls Tryz.prog 26 #[.string line] w (fun e w' => e = .returned (.string (ansB line)) ∧ Below w.heap.size w w') := by
  have hlen := splitB_pos line 32
  have HSZ := Lib.hid (splitB_size line 32)
  have HK := Lib.hid hk
  clear hk
  go_enter Tryz.func26, Tryz.ntmps26
  go_wp2_with fail
  refine (splitAt_any line 32 _ hs).mono ?_
  rintro e w1 ⟨a, n, c, rfl, hn, hlo, hb⟩
  have hnl := strs_len hlo
  have HNL := Lib.hid hnl
  obtain ⟨m, hm⟩ : ∃ m : Nat, n = m + 1 := ⟨n - 1, by omega⟩
  subst hm
  have HLO := Lib.hid hlo
  have HB := Lib.hid hb
  obtain ⟨b0, of0, x0, e0, hx0, hc0⟩ := (own_strsAt hlo hn).get (k := 0) (by omega)
  have hb0 : b0 < w1.heap.size := by
    obtain ⟨b', o', e', hS, _⟩ := (own_strsAt hlo hn).cells (by omega)
    rw [e0] at e'; injection e' with e'; injection e' with e' _; subst e'; exact hS.2
  obtain ⟨b1, of1, x1, e1, hx1, hc1⟩ := (own_strsAt hlo hn).get (k := m) (by omega)
  rw [e0] at e1
  injection e1 with e1
  injection e1 with q1 q2
  subst q1 q2 e0
  have hl1 : x1.size ≤ 1048575 := Nat.le_trans (HSZ.out x1 (List.mem_of_getElem? hx1)) hs
  obtain rfl : x0 = ⟨#[107, 101, 112, 116]⟩ := (getD_some hx0).symm.trans HK.out
  have HX1 := Lib.hid (getD_some hx1)
  have hwm : IntKind.i64.wrap ((m : Int) + 1 - 1) = (m : Int) := by rw [Int.add_sub_cancel]; exact IntWalk.i64_in _ (by omega)
  have hm1 : (m : Int) < (m : Int) + 1 := by omega
  have hm2 : (0 : Int) < (m : Int) + 1 := by omega
  rw [Nat.add_zero] at hc0
  clear hlo hb hx0 hx1 hnl hlen
  go_wp2_with fail
  refine (readRows_any x1 w1 hl1).mono ?_
  rintro e w2 ⟨a2, c2, rfl, hc2, hpt, hb2⟩
  have hc02 : w2.cell? ⟨b0, of0, none⟩ = some (.string ⟨#[107, 101, 112, 116]⟩) := by rw [World.cell?_of_block (w := w1) (hb2.block b0 hb0)]; exact hc0
  have hrl := rowsB_len x1
  have hra := (hpt.rowsAt rfl (by omega)).to (w' := w2) (S' := (· < w2.heap.size)) fun b hb => ⟨hb.2, rfl⟩
  have HRA := Lib.hid hra
  have HB2 := Lib.hid (HB.out.trans (hb2.mono HB.out.size))
  have HANS := Lib.hid (show ansB line = (if m + 1 = 2 ∧ jobsM (rowsB x1) = true then keptB (rowsB x1) else sWrong) by
    unfold ansB wordsB
    rw [if_neg (by rw [HK.out]; decide), if_pos HK.out, HNL.out, Nat.add_sub_cancel, HX1.out])
  clear hc0 hc1 hpt hb2 hra hrl
  generalize rowsB x1 = rows at *
  by_cases hm : m + 1 = 2
  · obtain rfl : m = 1 := by omega
    go_wp2_with fail
    refine (validJobs_any _ a2 _ c2 rows w2 HRA.out).mono ?_
    rintro e w3 ⟨rfl, rfl⟩
    cases hp : jobsM rows
    · go_wp2_with fail
      go_ret
      exact ⟨ret_str (by rw [HANS.out, hp]; rfl), HB2.out⟩
    · have HTB := Lib.hid (And.intro (jobs_get hp).1 (kept_bd hp (jobs_get hp).1))
      have HP := Lib.hid hp
      clear hp
      go_wp2_with fail
      refine (onTime_any a2 _ c2 rows w2 HRA.out HP.out HTB.out.1).mono ?_
      rintro e w4 hno
      obtain ⟨a4, l4, c4, rfl, h4, h5, hb4⟩ := hno.ints
      have HI := Lib.hid h4
      have HB4 := Lib.hid (HB2.out.trans (hb4.mono HB2.out.size))
      have hl4 : l4 ≤ 8 := by have := h4.lenEq; have := kept_len HP.out (n := rows.length) (j := rows.length); have := HTB.out.1; unfold nI at *; rw [List.length_map] at *; omega
      have HL4 := Lib.hid HTB.out.2
      clear hno h4 h5 hb4
      go_wp2_with fail
      refine (listText_any _ a4 l4 c4 (nI (keptM rows rows.length rows.length)) w4 HI.out (fun x hx => by have := HL4.out x hx; omega) (by omega)).mono ?_
      rintro e w5 ⟨rfl, hw⟩
      subst hw
      go_wp2_with fail
      go_ret
      exact ⟨ret_str ((if_pos ⟨by first | rfl | trivial, HP.out⟩).symm.trans HANS.out.symm), HB4.out⟩
  · have hne : ((m : Int) + 1 == 2) = false := by rw [beq_eq_false_iff_ne]; omega
    go_wp2_with fail
    go_ret
    exact ⟨ret_str (by rw [HANS.out, if_neg (by omega)]; rfl), HB2.out⟩
end Go.Proofs.YtjcbpnffmebihaaGreatDoor
namespace Go.Proofs.YtjcbpnffmebihaaGreatDoor
open Go.RowKit Go.WideShapes

set_option maxRecDepth 100000 in
set_option maxHeartbeats 2000000 in
/-- the model's desk, out of its answers -/
theorem runDesk_of (C : Nat) (hC : C ≤ 1000000) (hsz : ∀ l, (ansB l).size ≤ C) (S : Nat → Prop) (a : Option Addr) (len cap : Nat) (ls : List ByteArray) (w : World) (hS : ∀ b, S b → b < w.heap.size) (h : StrsAt w S a len ls) (hl : ∀ l ∈ ls, l.size ≤ 1048575)
    (hans : ∀ (l : ByteArray) (w' : World), l.size ≤ 1048575 → Calls Tryz.prog 26 #[.string l] w' (fun e w2 => e = .returned (.string (ansB l)) ∧ Below w'.heap.size w' w2)) :
    Calls Tryz.prog 7 #[.slice a len cap] w (fun e w' => e = .returned (.string (deskRes ls)) ∧ Below w.heap.size w w') := by
  have HL := Lib.hid h.lenEq
  by_cases h20 : 20 < len
  · have HE := Lib.hid (show deskRes ls = ByteArray.empty from if_neg (by rw [HL.out]; omega))
    have h20i : (20 : Int) < (len : Int) := by omega
    clear h20
    go_enter Tryz.func7, Tryz.ntmps7
    go_wp2
    go_ret
    exact ⟨ret_str HE.out.symm, Below.refl _ _⟩
  · have HE := Lib.hid (show deskRes ls = deskB ls from if_pos (by rw [HL.out]; omega))
    have h20i : ¬ (20 : Int) < (len : Int) := by omega
    have HA := Lib.hid hans
    have HZ := Lib.hid (deskB_size hsz)
    have HS := Lib.hid hS
    have HSZ := Lib.hid hsz
    have HLL := Lib.hid hl
    clear hans hsz hS hl
    go_enter Tryz.func7, Tryz.ntmps7
    go_wp2
    go_loopw [3, 4] (fun o i wr => ∃ k : Nat, k ≤ len ∧ i = .int .i64 k ∧ o = .string (deskB (ls.take k)) ∧ Below w.heap.size w wr) (fun _ i _ => len - (intOf i).toNat)
    case atStart => exact ⟨0, Nat.zero_le _, rfl, rfl, Below.refl _ _⟩
    case round =>
      obtain ⟨k, hk, rfl, rfl, hB⟩ := hrel
      have HB := Lib.hid hB
      by_cases hlt : k < len
      · have hki : (k : Int) < (len : Int) := by omega
        obtain ⟨b, off, l, rfl, hlk, hc⟩ := (h.to (w' := wr) (S' := S) fun b hb => ⟨hb, hB.block b (HS.out b hb)⟩).get hlt
        have hll := HLL.out l (List.mem_of_getElem? hlk)
        have HK := Lib.hid (show deskB (ls.take (k + 1)) = deskB (ls.take k) ++ ansB l ++ sgnB 10 by rw [take_get hlk]; exact deskB_snoc _ _)
        have s1 := HZ.out (ls.take k)
        have s2 := HSZ.out l
        have s3 : (ls.take k).length ≤ 20 := by rw [List.length_take]; omega
        have s4 : (ls.take k).length * (C + 1) ≤ 20 * (C + 1) := Nat.mul_le_mul_right _ s3
        generalize deskB (ls.take k) = L at *
        clear hlk hB
        have HAN := Lib.hid (HA.out l wr hll)
        generalize ansB l = X at *
        have t1 : ¬ 9223372036854775807 < L.size + X.size := by omega
        have t2 : ¬ 9223372036854775807 < (L ++ X).size + (⟨#[10]⟩ : ByteArray).size := by rw [ByteArray.size_append]; show ¬ _ < _ + 1; omega
        clear s1 s2 s3 s4
        go_wp2_with fail
        refine HAN.out.mono ?_
        rintro e w2 ⟨rfl, hb2⟩
        have HB2 := Lib.hid (HB.out.trans (hb2.mono HB.out.size))
        clear hb2
        go_wp2_with fail
        go_roundw
        case rel => exact ⟨k + 1, by omega, by go_num, by rw [HK.out]; rfl, HB2.out⟩
        case measure => simp [intOf] <;> omega
      · obtain rfl : k = len := by omega
        have HT := Lib.hid (show deskRes ls = deskB (ls.take k) by rw [HE.out, List.take_of_length_le (by rw [HL.out]; omega)])
        clear hB
        go_wp2_with fail
        go_ret
        exact ⟨ret_str HT.out.symm, HB.out⟩
end Go.Proofs.YtjcbpnffmebihaaGreatDoor
