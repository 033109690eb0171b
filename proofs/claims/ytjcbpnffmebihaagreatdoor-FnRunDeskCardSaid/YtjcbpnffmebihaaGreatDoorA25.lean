import Derived.Test.YtjcbpnffmebihaaGreatDoorA18
import Derived.Test.YtjcbpnffmebihaaGreatDoorA19
import Derived.Test.YtjcbpnffmebihaaGreatDoorA20
import Derived.Test.YtjcbpnffmebihaaGreatDoorRows
import Derived.WalkKit
import Derived.LoopTactic
import Derived.Outline
import Derived.WalkSpells
import Derived.WalkLawsBesides
import Derived.ProofKit
import Derived.Lib.Hide
import Derived.IntWalk
set_option linter.unusedVariables false
set_option linter.unusedSimpArgs false
namespace Go.Proofs.YtjcbpnffmebihaaGreatDoor
open Go.RowKit Go.WideShapes

/-- the first j numbers of a row -/
def rowK (l : ByteArray) (j : Nat) : List Int := ((splitB l 44).map readB).take j
theorem rowK_succ {l x : ByteArray} {j : Nat} (h : (splitB l 44)[j]? = some x) : rowK l (j + 1) = rowK l j ++ [readB x] := take_get (by rw [List.getElem?_map, h]; rfl)
theorem rowK_all (l : ByteArray) : rowK l (splitB l 44).length = (splitB l 44).map readB := List.take_of_length_le (by rw [List.length_map]; omega)
theorem rowK_len {l : ByteArray} {j : Nat} (h : j ≤ (splitB l 44).length) : (rowK l j).length = j := by unfold rowK; rw [List.length_take, List.length_map]; omega
/-- the first k rows -/
def rowsK (s : ByteArray) (k : Nat) : List (List Int) := (rowsB s).take k
theorem rowsK_succ {s l : ByteArray} {k : Nat} (h : (splitB s 47)[k]? = some l) : rowsK s (k + 1) = rowsK s k ++ [(splitB l 44).map readB] := take_get (by unfold rowsB; rw [List.getElem?_map, h]; rfl)
theorem rowsK_all (s : ByteArray) : rowsK s (splitB s 47).length = rowsB s := List.take_of_length_le (by unfold rowsB; rw [List.length_map]; omega)
theorem rowsK_len {s : ByteArray} {k : Nat} (h : k ≤ (splitB s 47).length) : (rowsK s k).length = k := by unfold rowsK rowsB; rw [List.length_take, List.length_map]; omega
/-- new rows, made one by one -/
def NewPats (w : World) (rows : List (List Int)) (e : Ending) (w' : World) : Prop := ∃ (a : Option Addr) (cap : Nat), e = .returned (.slice a rows.length cap) ∧ rows.length ≤ cap ∧ Pats w' w.heap.size (.slice a rows.length cap) rows ∧ Below w.heap.size w w'
theorem rowsB_len (s : ByteArray) : 1 ≤ (rowsB s).length ∧ (rowsB s).length ≤ s.size + 1 := by
  unfold rowsB; rw [List.length_map]; exact splitB_pos s 47
theorem strs_len {w : World} {B l c : Nat} {a : Option Addr} {ss : List ByteArray} (h : w.ownsRow B 9 1 (.slice a l c) l (ss.map .string)) : ss.length = l := by simpa using h.1
theorem pats_own {w : World} {B : Nat} {v : Value} {rows : List (List Int)} (h : Pats w B v rows) : ∃ us : List Value, w.ownsRow B 35 1 v rows.length us := ⟨h.choose, h.choose_spec.1⟩
theorem pats_base {w : World} {B : Nat} {v : Value} {rows : List (List Int)} (h : Pats w B v rows) : ∀ k, v.ownBlock = some k → B ≤ k := by
  obtain ⟨us, hu⟩ := pats_own h
  exact own_block hu
set_option maxRecDepth 100000 in
set_option maxHeartbeats 4000000 in
/-- the model's reading of rows -/
theorem readRows_any (s : ByteArray) (w : World) (hs : s.size ≤ 1048575) :
    Calls Tryz.prog 32 #[.string s] w (NewPats w (rowsB s)) := by
  have hlen := splitB_pos s 47
  have HSZ := Lib.hid (splitB_size s 47)
  go_enter Tryz.func32, Tryz.ntmps32
  go_wp2_with fail
  refine (splitAt_any s 47 _ hs).mono ?_
  rintro e w2 ⟨al, n, cl, rfl, hn, hlo, hbl⟩
  have hnl : (splitB s 47).length = n := strs_len hlo
  have HLO := Lib.hid hlo
  have HBL := Lib.hid hbl
  have hP0 : Pats w2 w.heap.size (.slice (some ⟨w.heap.size, 0, none⟩) 0 0) [] := (Pats.empty w w.heap.size (Nat.le_refl _)).keep fun b _ hb => hbl.block b hb
  have HB2 := Lib.hid (show Below w.heap.size w w2 from ((Below.refl _ w).alloc (Nat.le_refl _) _).trans (hbl.mono (by simp)))
  have HP0 := Lib.hid hP0
  clear hlo hbl hP0
  go_wp2_with fail
  go_loopw [3, 5] (fun v i wr => ∃ (k cp : Nat) (ax : Option Addr), k ≤ n ∧ i = .int .i64 k ∧ v = .slice ax k cp ∧ Pats wr w.heap.size (.slice ax k cp) (rowsK s k) ∧ wr.ownsRow w.heap.size 9 1 (.slice al n cl) n ((splitB s 47).map .string) ∧ Below w.heap.size w wr) (fun _ i _ => n - (intOf i).toNat)
  case atStart => exact ⟨0, 0, _, Nat.zero_le _, rfl, rfl, HP0.out, own_base HLO.out (by simp), HB2.out⟩
  case round =>
    obtain ⟨k, cp, ax, hk, rfl, rfl, hpats, hlo, hB⟩ := hrel
    obtain ⟨wo, rfl⟩ : ∃ wo : World, wo = wr := ⟨_, rfl⟩
    have HP := Lib.hid hpats
    have HO := Lib.hid hlo
    have HB := Lib.hid hB
    by_cases hlt : k < n
    · obtain ⟨bl, ofl, l, rfl, hlk, hcl⟩ := (own_strsAt (hlo.alloc (.cells #[] 3)) hn).get hlt
      have hll : l.size ≤ 1048575 := Nat.le_trans (HSZ.out l (List.mem_of_getElem? hlk)) hs
      have HLK := Lib.hid hlk
      have hll2 := splitB_pos l 44
      have HLZ := Lib.hid (splitB_size l 44)
      clear hpats hlo hB hlk
      go_wp2_with fail
      refine (splitAt_any l 44 _ hll).mono ?_
      rintro e w4 ⟨aj, nj, cj, rfl, hnj, hjo, hbj⟩
      have hnjl : (splitB l 44).length = nj := strs_len hjo
      have HJ := Lib.hid hjo
      have HBJ := Lib.hid hbj
      have HKR := Lib.hid (World.ownsRow_made (base := wo.heap.size) (size := 1) (e := 3) wo #[] 0 (Nat.le_refl _) (Nat.zero_le _) rfl)
      have hsz4 := hbj.size
      have hr0 : w4.ownsRow wo.heap.size 3 1 (.slice (some ⟨wo.heap.size, 0, none⟩) 0 0) 0 ((rowK l 0).map (.int .i64)) := own_keep HKR.out fun b _ _ hb => hbj.block b hb
      have HR0 := Lib.hid hr0
      have HB4 := Lib.hid (show Below wo.heap.size wo w4 from ((Below.refl _ wo).alloc (Nat.le_refl _) _).trans (hbj.mono (by simp)))
      clear hjo hbj hr0 hsz4
      go_wp2_with fail
      go_loopw [6, 8] (fun v i wr => ∃ (j cr : Nat) (ar : Option Addr), j ≤ nj ∧ i = .int .i64 j ∧ v = .slice ar j cr ∧ wr.ownsRow wo.heap.size 3 1 (.slice ar j cr) j ((rowK l j).map (.int .i64)) ∧ wr.ownsRow wo.heap.size 9 1 (.slice aj nj cj) nj ((splitB l 44).map .string) ∧ Below wo.heap.size wo wr) (fun _ i _ => nj - (intOf i).toNat)
      case atStart => exact ⟨0, 0, _, Nat.zero_le _, rfl, rfl, HR0.out, own_base HJ.out (by simp), HB4.out⟩
      case round =>
        obtain ⟨j, cr, ar, hj, rfl, rfl, hro, hjo, hBj⟩ := hrel
        obtain ⟨wi, rfl⟩ : ∃ wi : World, wi = wr := ⟨_, rfl⟩
        have HR := Lib.hid hro
        have HJ2 := Lib.hid hjo
        have HB5 := Lib.hid hBj
        by_cases hjt : j < nj
        · obtain ⟨bj, ofj, x, rfl, hxj, hcx⟩ := (own_strsAt hjo hnj).get hjt
          have hxl : x.size ≤ 1048576 := by have := HLZ.out x (List.mem_of_getElem? hxj); omega
          have HX := Lib.hid (rowK_succ hxj)
          clear hro hjo hBj hxj
          go_wp2_with fail
          refine (readNumber_any x wi hxl).mono ?_
          rintro e w6 ⟨rfl, hw⟩
          subst hw
          go_wp2_with (at_builtin; refine wpApp1 rfl _ _ rfl wo.heap.size _ _ _ _ _ rfl HR.out rfl HB5.out.size (by omega) ?_)
          intro a6 c6 w6 hown hc6 hgr
          have HO6 := Lib.hid hown
          have HG6 := Lib.hid hgr
          clear hown hgr
          go_wp2
          go_roundw
          case rel => exact ⟨j + 1, c6, a6, by omega, by go_num, rfl, by rw [HX.out]; exact own_snoc HO6.out, HJ2.out.kept HG6.out (own_ne HJ2.out HR.out (by decide)), HB5.out.grown HG6.out HB5.out.size (own_block HR.out)⟩
          case measure => simp [intOf] <;> omega
        · obtain rfl : j = nj := by omega
          have hj1 : 0 < j := by omega
          have hrj : (rowK l j).length = j := rowK_len (by omega)
          obtain ⟨g, cg, ev, _, _⟩ := hro.form hj1
          injection ev with ev _ ev2
          subst ev ev2
          have HRK := Lib.hid (show rowsK s (k + 1) = rowsK s k ++ [rowK l j] by rw [rowsK_succ HLK.out, ← rowK_all, hnjl])
          have hrk : (rowsK s k).length = k := rowsK_len (by omega)
          clear HR HR0 HKR
          generalize rowK l j = r at *
          subst hrj
          have HP1 := Lib.hid (Pats.one hBj.size hro (by omega))
          have HKP := Lib.hid (show ∀ b, w.heap.size ≤ b → b < wo.heap.size → (wi.alloc (.cells #[.slice (some ⟨g, 0, none⟩) r.length cr] 35)).heap[b]? = wo.heap[b]? from fun b _ hb => by
            rw [Below.heap_alloc _ _ _ (by have := hBj.size; omega)]; exact hBj.block b hb)
          have HS1 := Lib.hid (show wo.heap.size ≤ (wi.alloc (.cells #[.slice (some ⟨g, 0, none⟩) r.length cr] 35)).heap.size by have := hBj.size; simp; omega)
          have HO7 := Lib.hid (show (wi.alloc (.cells #[.slice (some ⟨g, 0, none⟩) r.length cr] 35)).ownsRow w.heap.size 9 1 (.slice (some ⟨bl, ofl, none⟩) n cl) n ((splitB s 47).map .string) from own_keep HO.out fun b _ _ hb => HKP.out b (by assumption) hb)
          clear hro hjo hBj
          go_wp2_with (at_builtin; refine wpPats (w0 := wo) rfl _ _ rfl w.heap.size wo.heap.size (.slice ax k cp) _ (rowsK s k) [r] rfl rfl HP.out HKP.out HS1.out HP1.out HB.out.size (Nat.le_refl _) (by have := HB.out.size; have := HS1.out; omega) (by simp; omega) ?_)
          intro v8 w8 hp8 hgr8 _
          obtain ⟨a8, c8, ev8, _⟩ := hp8.slice
          have hl8 : (rowsK s k ++ [r]).length = k + 1 := by rw [List.length_append, hrk]; rfl
          rw [hl8] at ev8
          subst ev8
          obtain ⟨us, hu⟩ := pats_own (HP.out.keep HKP.out)
          have HO8 := Lib.hid (HO7.out.kept hgr8 (own_ne HO7.out hu (by decide)))
          have HB8 := Lib.hid ((((HB.out.trans (HB5.out.mono HB.out.size)).alloc (by have := HB.out.size; have := HB5.out.size; omega) _).grown hgr8 (by have := HB.out.size; have := HS1.out; omega) (pats_base HP.out)))
          have HP8 := Lib.hid (HRK.out.symm ▸ hp8)
          clear hp8 hgr8 hu
          go_wp2
          go_roundw
          case rel => exact ⟨k + 1, c8, a8, by omega, by go_num, rfl, HP8.out, HO8.out, HB8.out⟩
          case measure => simp [intOf] <;> omega
    · obtain rfl : k = n := by omega
      have HE := Lib.hid (show rowsK s k = rowsB s by rw [← hnl]; exact rowsK_all s)
      have hl := (congrArg List.length HE.out).symm.trans (rowsK_len (by omega))
      obtain ⟨us, hu⟩ := pats_own hpats
      obtain ⟨_, _, ec, hcc⟩ := own_slice hu
      injection ec with q1 q2 ec
      have HCC := Lib.hid (And.intro hl (show (rowsK s k).length ≤ cp by rw [ec]; exact hcc))
      clear hpats hlo hB hu ec hcc hl hnl hlen q1 q2
      go_wp2_with fail
      go_ret
      have hl := HCC.out.1
      have hp := HP.out
      rw [HE.out] at hp
      refine ⟨ax, cp, ?_, ?_, ?_, HB.out⟩
      · rw [hl]; rfl
      · have := HCC.out.2; rwa [HE.out] at this
      · rw [hl]; exact hp
end Go.Proofs.YtjcbpnffmebihaaGreatDoor
namespace Go.Proofs.YtjcbpnffmebihaaGreatDoor
open Go.RowKit Go.WideShapes

theorem p2_le {n : Nat} (h : n ≤ 20) : 1 ≤ 2 ^ n ∧ 2 ^ n ≤ 1048576 := ⟨Nat.two_pow_pos n, by have := Nat.pow_le_pow_right (n := 2) (by omega) h; omega⟩
theorem allOf_any (n : Nat) (hn : n ≤ 20) (w : World) :
    Calls Tryz.prog 190 #[.int .i64 n] w fun e w' => e = .returned (.int .i64 (((2 ^ n - 1 : Nat) : Nat) : Int)) ∧ w = w' := by
  have hp := p2_le hn
  go_enter Tryz.func190, Tryz.ntmps190
  go_wp2
  go_ret
  refine ⟨ret_int ?_, rfl⟩
  have e : ((2 : Int) ^ n) = ((2 ^ n : Nat) : Int) := by push_cast; rfl
  rw [e]
  generalize 2 ^ n = p at hp ⊢
  have e1 : wrap64 (p : Int) = p := w64_id (by omega) (by omega)
  rw [e1]
  have e2 : wrap64 ((p : Int) - 1) = (p : Int) - 1 := w64_id (by omega) (by omega)
  rw [e2]
  omega
end Go.Proofs.YtjcbpnffmebihaaGreatDoor
namespace Go.Proofs.YtjcbpnffmebihaaGreatDoor
open Go.RowKit Go.WideShapes

theorem runT_congr {a b a' b' : Nat → Int} : ∀ (l : List Nat) (s : Int × Int), (∀ x ∈ l, a x = a' x ∧ b x = b' x) → runT a b s l = runT a' b' s l := by
  intro l
  induction l with
  | nil => intro s _; rfl
  | cons x l ih =>
    intro s h
    have hx := h x (by simp)
    have e : stT a b s x = stT a' b' s x := by unfold stT; rw [hx.1, hx.2]
    rw [runT_cons, runT_cons, e]
    exact ih _ (fun y hy => h y (by simp [hy]))
theorem LeastO.congr {a b a' b' : Nat → Int} {n : Nat} {v : Int} (h : LeastO a b n v) (e : ∀ x, x < n → a x = a' x ∧ b x = b' x) : LeastO a' b' n v := by
  have key : ∀ l : List Nat, l.Perm (List.range n) → spanT a b l = spanT a' b' l := fun l hl => by
    unfold spanT
    rw [runT_congr l _ (fun x hx => e x (by have := hl.mem_iff.1 hx; simpa using this))]
  obtain ⟨⟨l, hl, hv⟩, h2⟩ := h
  exact ⟨⟨l, hl, by rw [← key l hl]; exact hv⟩, fun m hm => by rw [← key m hm]; exact h2 m hm⟩
end Go.Proofs.YtjcbpnffmebihaaGreatDoor
namespace Go.Proofs.YtjcbpnffmebihaaGreatDoor
open Go.RowKit Go.WideShapes

-- chapter 11's code: hasRoom, firstFor of listed cuts
theorem lenL_meth (y p : Int) : ∀ (k : Nat) (w : World), (method (k + 1) 164 (.agg #[.int .i64 y, .int .i64 p]) "loop.example/shopsthatmake/impl.length").run Tryz.prog w = .ok (157, (.int .i64 y)) w := fun _ _ => by kernel_rfl
theorem map_getD (l : List (Int × Int)) {j : Nat} {x : Int × Int} (h : l[j]? = some x) : (l.map Prod.fst).getD j 0 = x.1 := by
  rw [List.getD_eq_getElem?_getD, List.getElem?_map, h]; rfl
set_option maxRecDepth 100000 in
set_option maxHeartbeats 2000000 in
theorem hasRoomL_any {w : World} {B r : Nat} {R : Int} {v : Value} {vs : List Value} {rows : List (List (Int × Int))} {n : Nat} (h : RollsL w B r R v vs rows) (hok : RowsOk Prod.fst rows n) (hn : n ≤ 20) (hR : 0 ≤ R ∧ R ≤ 20) {k : Nat} (hk : k ≤ rows.length) (y p : Int) :
    Calls Tryz.prog 158 #[.pointer (some ⟨r, 0, none⟩), .int .i64 k, .agg #[.int .i64 y, .int .i64 p]] w fun e w' => e = .returned (.bool (hasR R (loadsOf Prod.fst rows) k y)) ∧ Below w.heap.size w w' := by
  have hrl0 := lt_heap h.box
  obtain ⟨a0, a1, _⟩ := h.cells
  have hlen := hok.len
  obtain ⟨av, cv, hv, hcv⟩ := own_slice h.outer
  rw [hv] at a1
  have HB0 := Lib.hid ((Below.refl w.heap.size w).alloc (Nat.le_refl _) (.cells #[.int .i64 y, .int .i64 p] 164))
  have c0 : (w.alloc (.cells #[.int .i64 y, .int .i64 p] 164)).cell? ⟨r, 0, none⟩ = some (.int .i64 R) := (World.cell?_of_block (w := w) (Below.heap_alloc _ _ _ hrl0)).trans a0
  have c1 : (w.alloc (.cells #[.int .i64 y, .int .i64 p] 164)).cell? ⟨r, 1, none⟩ = some (.slice av rows.length cv) := (World.cell?_of_block (w := w) (Below.heap_alloc _ _ _ hrl0)).trans a1
  by_cases hkn : k = rows.length
  · have HF := Lib.hid (show hasR R (loadsOf Prod.fst rows) k y = true by unfold hasR; rw [loads_len, decide_eq_true hkn]; rfl)
    subst hkn
    clear hv hok h a0 a1 c0
    go_enter Tryz.func158, Tryz.ntmps158
    go_wp2_with fail
    go_ret
    exact ⟨ret_bool HF.out.symm, HB0.out⟩
  · have hkl : k < rows.length := by omega
    have HF := Lib.hid (show hasR R (loadsOf Prod.fst rows) k y = decide (y ≤ R - sumI ((rows.getD k []).map Prod.fst)) by unfold hasR; rw [loads_len, decide_eq_false hkn, loads_get]; simp)
    obtain ⟨g, cap, hv2, _, hgl⟩ := h.outer.form (by omega)
    have ho := h.outer
    rw [hv2] at ho hv
    injection hv with hv1 _ hv3
    subst hv1 hv3
    obtain ⟨u, hu⟩ : ∃ u, vs[k]? = some u := ⟨vs[k]'(by rw [h.lenV]; exact hkl), List.getElem?_eq_getElem _⟩
    have cr0 := (ho.cellAt k (by omega)).trans hu
    have hrow := h.row k u hu
    obtain ⟨au, cu, rfl, hcu, hpairs⟩ := own_listed hrow
    have cr : (w.alloc (.cells #[.int .i64 y, .int .i64 p] 164)).cell? ⟨g, k, none⟩ = _ := (World.cell?_of_block (w := w) (Below.heap_alloc _ _ _ hgl)).trans cr0
    have hrl := hok.row k
    have hrv := hok.val k
    obtain ⟨l, hl⟩ : ∃ l, rows.getD k [] = l := ⟨_, rfl⟩
    rw [hl] at hpairs hrl hrv HF cr
    have hrv2 : ∀ x ∈ l.map Prod.fst, 0 ≤ x ∧ x ≤ 20 := fun x hx => by
      obtain ⟨z, hz, rfl⟩ := List.mem_map.1 hx
      exact hrv z hz
    have hbd := fun j hj => sumI_bd hrv2 j hj
    have HB := Lib.hid hbd
    obtain ⟨m, hm⟩ : ∃ m, l.length = m := ⟨_, rfl⟩
    rw [hm] at hpairs cr hrl
    have HM := Lib.hid hm
    have HM2 := Lib.hid (show (l.map Prod.fst).length = m by rw [List.length_map, hm])
    obtain ⟨L, hL⟩ : ∃ L, l.map Prod.fst = L := ⟨_, rfl⟩
    rw [hL] at HF HB HM2
    have HLL := Lib.hid hL
    have HP := Lib.hid hpairs
    have hknI : ¬ (k : Int) = (rows.length : Int) := by omega
    have hklI : (k : Int) < (rows.length : Int) := by omega
    obtain ⟨N, hN⟩ : ∃ N, rows.length = N := ⟨_, rfl⟩
    rw [hN] at c1 hkl hknI hklI hlen
    have hmeth := lenL_meth
    have HBX := Lib.hid (heap_alloc_new w (.cells #[.int .i64 y, .int .i64 p] 164))
    clear hok h ho hu hrow hpairs hrv hrv2 hbd hv2 hl hm hN hkn hcv hcu hL a0 a1 cr0
    go_enter Tryz.func158, Tryz.ntmps158
    go_wp2_with fail
    go_loopw [7, 29] (fun s i wr => ∃ j : Nat, j ≤ m ∧ i = .int .i64 j ∧ s = .int .i64 (R - wsum (lenT L) (fun _ => true) j) ∧ Below (w.heap.size + 1) (w.alloc (.cells #[.int .i64 y, .int .i64 p] 164)) wr) (fun _ i _ => m - (intOf i).toNat)
    case atStart => exact ⟨0, Nat.zero_le _, rfl, by simp [wsum], Below.refl _ _⟩
    case round =>
      obtain ⟨j, hj, rfl, rfl, hbr⟩ := hrel
      have HBR := Lib.hid hbr
      have hsb := HB.out j (by rw [HM2.out]; exact hj)
      by_cases hlt : j < m
      · have hjI : (j : Int) < (m : Int) := by omega
        obtain ⟨x, hx⟩ : ∃ x, l[j]? = some x := ⟨l[j]'(by rw [HM.out]; exact hlt), List.getElem?_eq_getElem _⟩
        obtain ⟨b, rfl, hbl, d0, d1⟩ := HP.out j x hx hlt
        have k0 := (hbr.cell (p := ⟨b, j * 2, none⟩) (by show b < _; omega)).trans ((World.cell?_of_block (w := w) (Below.heap_alloc _ _ _ hbl)).trans d0)
        have k1 := (hbr.cell (p := ⟨b, j * 2 + 1, none⟩) (by show b < _; omega)).trans ((World.cell?_of_block (w := w) (Below.heap_alloc _ _ _ hbl)).trans d1)
        have HST := Lib.hid (show wsum (lenT L) (fun _ => true) (j + 1) = wsum (lenT L) (fun _ => true) j + x.1 by rw [sumI_pre L j (by rw [HM2.out]; exact hlt), ← HLL.out, map_getD l hx])
        have hxb := HB.out (j + 1) (by rw [HM2.out]; exact hlt)
        rw [HST.out] at hxb
        obtain ⟨x1, x2⟩ := x
        dsimp only at k0 k1 HST hxb
        obtain ⟨s, hs⟩ : ∃ s, wsum (lenT L) (fun _ => true) j = s := ⟨_, rfl⟩
        rw [hs] at hsb hxb HST ⊢
        push_cast at hxb
        have hsz := hbr.size
        have HB3 := Lib.hid (HBR.out.alloc (by have : (w.alloc (.cells #[.int .i64 y, .int .i64 p] 164)).heap.size = w.heap.size + 1 := by simp
                                               omega) (.cells #[.int .i64 x1, .int .i64 x2] 164))
        clear hs hx hbr d0 d1 hsz
        go_wp2_with (first | (go_at_call 157; refine (lenP_any _ _).mono ?_; rintro e w' ⟨rfl, rfl⟩) | fail)
        go_roundw
        case rel => exact ⟨j + 1, by omega, by go_num, by rw [HST.out]; simp; omega, HB3.out⟩
        case measure => simp [intOf]; omega
      · obtain rfl : j = m := by omega
        have hjI : ¬ (j : Int) < (j : Int) := by omega
        have HS := Lib.hid (show sumI L = wsum (lenT L) (fun _ => true) j by unfold sumI; rw [HM2.out])
        obtain ⟨s, hs⟩ : ∃ s, wsum (lenT L) (fun _ => true) j = s := ⟨_, rfl⟩
        rw [hs] at HS ⊢
        have e0 : wr.cell? ⟨w.heap.size, 0, none⟩ = some (.int .i64 y) := (hbr.cell (p := ⟨w.heap.size, 0, none⟩) (by show w.heap.size < _; omega)).trans (by rw [cell_of_row _ _ _ _ _ _ HBX.out]; rfl)
        have e1 : wr.cell? ⟨w.heap.size, 1, none⟩ = some (.int .i64 p) := (hbr.cell (p := ⟨w.heap.size, 1, none⟩) (by show w.heap.size < _; omega)).trans (by rw [cell_of_row _ _ _ _ _ _ HBX.out]; rfl)
        clear hs hbr
        go_wp2_with (first | (go_at_call 157; refine (lenP_any _ _).mono ?_; rintro e w' ⟨rfl, rfl⟩) | fail)
        go_ret
        exact ⟨ret_bool (by rw [HF.out, HS.out]), HB0.out.trans (HBR.out.mono (by omega))⟩
end Go.Proofs.YtjcbpnffmebihaaGreatDoor
