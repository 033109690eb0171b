import Derived.Test.YtcikgbkehfepdabRows
import Derived.WalkKit
import Derived.LoopTactic
import Derived.Outline
import Derived.WalkSpells
import Derived.WalkLawsBesides
import Derived.Deep.QuietTactic
import Derived.BigQuiet
import Derived.IntWalk
import Derived.Test.YtcikgbkehfepdabM0
import Derived.ProofKit
import Derived.Test.YtcikgbkehfepdabM1
import Derived.Lib.Hide
import Derived.Deep.RegionLaw
import Derived.Deep.AppendLies
import Derived.Deep.RegionHeld3
import Derived.Test.YtcikgbkehfepdabM2
import Derived.Test.YtcikgbkehfepdabM6
import Derived.Test.YtcikgbkehfepdabM3
namespace Go.Proofs.Ytcikgbkehfepdab
open Go.RowKit

set_option maxRecDepth 100000 in
set_option maxHeartbeats 1000000 in
theorem pick_any (R p : Nat) (n : Int) (w : World) (h : Rd w R p) (hp : p ≤ 1099511627776) :
    Calls Try.prog 31 #[.pointer (some ⟨R, 0, none⟩), .int .i64 n] w fun e w' => ∃ k : Nat, e = .returned (.int .i64 k) ∧ (k : Int) < max n 1 ∧ Rd w' R (p + 1) ∧ w.grownBy w' (some R) := by
  have HR := Lib.hid h
  obtain ⟨h1, hf, a, m, cap, h0, hm, hb⟩ := h
  by_cases hn : n < 1
  · go_enter Try.func31, Try.ntmps31
    go_wp2
    go_ret
    exact ⟨0, rfl, by omega, HR.out.stored0⟩
  · by_cases hm0 : m = 0
    · subst hm0
      go_enter Try.func31, Try.ntmps31
      go_wp2
      go_ret
      exact ⟨0, rfl, by omega, HR.out.stored0⟩
    · obtain ⟨b, off, rfl, hbR, hby⟩ := hb (by omega)
      by_cases hlt : p < m
      · obtain ⟨x, hx, hc⟩ := hby p hlt
        have hc' : (w.setCell ⟨R, 1, none⟩ (.int .i64 ((p : Int) + 1))).cell? ⟨b, off + p, none⟩ = some (.int .u8 x) := by
          rw [World.cell?_setCell_other _ _ _ _ (by intro e; injection e; omega)]; exact hc
        clear hby hb
        go_enter Try.func31, Try.ntmps31
        go_wp2
        go_ret
        have e1 : 0 ≤ (x : Int) % n := Int.emod_nonneg _ (by omega)
        have e2 : (x : Int) % n < n := Int.emod_lt_of_pos _ (by omega)
        exact ⟨((x : Int) % n).toNat, ret_int (by omega), by omega, HR.out.stored0⟩
      · have hm1 : 1 ≤ m := by omega
        obtain ⟨x1, hx1, hc1⟩ := hby (p % m) (Nat.mod_lt _ (by omega))
        obtain ⟨x2, hx2, hc2⟩ := hby ((p * 7 + 3) % m) (Nat.mod_lt _ (by omega))
        have hd1 : (w.setCell ⟨R, 1, none⟩ (.int .i64 ((p : Int) + 1))).cell? ⟨b, off + p % m, none⟩ = some (.int .u8 x1) := by
          rw [World.cell?_setCell_other _ _ _ _ (by intro e; injection e; omega)]; exact hc1
        have hd2 : (w.setCell ⟨R, 1, none⟩ (.int .i64 ((p : Int) + 1))).cell? ⟨b, off + (p * 7 + 3) % m, none⟩ = some (.int .u8 x2) := by
          rw [World.cell?_setCell_other _ _ _ _ (by intro e; injection e; omega)]; exact hc2
        clear hc1 hc2 hby hb
        have b1 : p % m < m := Nat.mod_lt _ (by omega)
        have b2 : (p * 7 + 3) % m < m := Nat.mod_lt _ (by omega)
        have g1 : 0 ≤ ((p : Int) * 7 + 3) % (m : Int) := Int.emod_nonneg _ (by omega)
        have g2 : ((p : Int) * 7 + 3) % (m : Int) < (m : Int) := Int.emod_lt_of_pos _ (by omega)
        have g3 : 0 ≤ (p : Int) / (m : Int) := Int.ediv_nonneg (by omega) (by omega)
        have g4 : (p : Int) / (m : Int) ≤ p := Int.ediv_le_self _ (by omega)
        go_enter Try.func31, Try.ntmps31
        go_wp2
        go_quiet (fail)
        go_wp2
        go_ret
        obtain ⟨k, hk, hk'⟩ := mixed ((x1 : Int) * 131 + x2 * 1117 + p * 29 + (p : Int) / (m : Int) * 53) n (by omega) (by omega) hn
        exact ⟨k, ret_int hk, by omega, HR.out.stored _⟩

theorem one_any (S : Nat → Prop) (R p : Nat) (a : Option Addr) (len cap : Nat) (xs : List Int) (w : World) (h : Rd w R p) (hx : IntsAt w S a len xs) (hne : ∀ b, S b → b ≠ R ∧ b < w.heap.size) (hl : 1 ≤ len) (hp : p ≤ 1099511627776) :
    Calls Try.prog 29 #[.pointer (some ⟨R, 0, none⟩), .slice a len cap] w fun e w' => ∃ x, x ∈ xs ∧ e = .returned (.int .i64 x) ∧ Rd w' R (p + 1) ∧ w.grownBy w' (some R) := by
  have hs := hx.small
  go_enter Try.func29, Try.ntmps29
  go_wp2_with fail
  refine (pick_any R p (len : Int) w h hp).mono ?_
  rintro e w' ⟨k, rfl, hk, hr, hg⟩
  obtain ⟨b, off, x, rfl, hx1, hx2⟩ := (hx.to (S' := S) (w' := w') fun b hb => ⟨hb, hg.block b (hne b hb).2 (by have := (hne b hb).1; simpa using this)⟩).get (k := k) (by omega)
  have HX := Lib.hid hx1
  clear hx1
  have hk' : k < len := by omega
  go_wp2
  go_ret
  exact ⟨x, List.mem_of_getElem? HX.out, rfl, hr, hg⟩
end Go.Proofs.Ytcikgbkehfepdab
namespace Go.Proofs.Ytcikgbkehfepdab
open Go.RowKit Go.WideShapes

theorem Try.infoInt : (Try.prog.info? 3).map (fun i => (i.zero, i.size, i.bytes)) = some (some (.int .i64 0), 1, 8) := by kernel_rfl
theorem Try.infoInts : (Try.prog.info? 24).map (fun i => (i.zero, i.size, i.bytes)) = some (some (.slice none 0 0), 1, 24) := by kernel_rfl

theorem bill_n {n : Int} (h : n ∈ [4, 5, 3, 6, 2, 1, 0]) : ∃ m : Nat, n = (m : Int) ∧ m ≤ 6 := by
  simp at h
  exact ⟨n.toNat, by omega, by omega⟩

def BillPost (w : World) (R p : Nat) (e : Ending) (w' : World) : Prop := ∃ (a : Option Addr) (len cap : Nat) (rows : List (List Int)) (p' : Nat), e = .returned (.slice a len cap) ∧
      RowsAt w' (fun b => w.heap.size ≤ b ∧ b < w'.heap.size) a len rows ∧ len ≤ cap ∧ len ≤ 6 ∧ Rd w' R p' ∧ p' ≤ p + 1000 ∧ w.grownBy w' (some R)
theorem billPost_mk {w w' : World} {R p p' len cap M : Nat} {a : Option Addr} (h : OwnRows w' w.heap.size M (.slice a len cap) len) (hl : len ≤ cap) (h6 : len ≤ 6) (hr : Rd w' R p') (hp : p' ≤ p + 1000)
    (hg : w.grownBy w' (some R)) : BillPost w R p (.returned (.slice a len cap)) w' := by
  obtain ⟨a', cap', rows, hv, _, hrows⟩ := h.rows (by omega)
  simp only [Value.slice.injEq] at hv
  obtain ⟨rfl, _, rfl⟩ := hv
  exact ⟨_, _, _, rows, p', rfl, hrows, hl, h6, hr, hp, hg⟩

end Go.Proofs.Ytcikgbkehfepdab
namespace Go.Proofs.Ytcikgbkehfepdab
open Go.RowKit Go.WideShapes

/-- v is a slice of the call's own, of rows of its own -/
def OwnRowsV (w : World) (B : Nat) (v : Value) (k : Nat) (rows : List (List Int)) : Prop := ∃ us : List Value, w.ownsRow B 24 1 v k us ∧ rows.length = k ∧
  ∀ (q : Nat) (u : Value), us[q]? = some u → ∃ (a : Option Addr) (l c : Nat) (r : List Int), rows[q]? = some r ∧ u = .slice a l c ∧ l ≤ c ∧ l ≤ 1048576 ∧ w.ownsRow B 3 1 u l (r.map (.int .i64))
theorem own_two (w : World) {B : Nat} (hB : B ≤ w.heap.size) (x y : Int) : (w.alloc (.cells #[.int .i64 x, .int .i64 y] 3)).ownsRow B 3 1 (.slice (some ⟨w.heap.size, 0, none⟩) 2 2) 2 ([x, y].map (.int .i64)) :=
  ⟨rfl, .inr ⟨w.heap.size, 2, _, rfl, hB, heap_alloc_new w _, Nat.le_refl _, by unfold maxLen; omega, rfl, rfl⟩⟩
theorem OwnRowsV.rows {w : World} {B k : Nat} {a : Option Addr} {cap : Nat} {rows : List (List Int)} (h : OwnRowsV w B (.slice a k cap) k rows) (hk : k ≤ 1048576) :
    RowsAt w (fun b => B ≤ b ∧ b < w.heap.size) a k rows := by
  obtain ⟨us, h1, h2, h3⟩ := h
  have hul : us.length = k := by have := h1.1; simpa using this
  refine ⟨h2, by omega, fun h0 => ?_⟩
  have hc := fun g hg => h1.cells (g := g) hg
  have hlt := h1.lt
  rcases h1.2 with ⟨e1, e2⟩ | ⟨g, cp, cur, e1, e2, _⟩
  · omega
  · injection e1 with e3 _ _
    subst e3
    refine ⟨g, 0, rfl, hlt g rfl, fun i r hr => ?_⟩
    have hi : i < us.length := by have := (List.getElem?_eq_some_iff.1 hr).1; omega
    obtain ⟨a', l, c, r', hr', hu, hlc, hl, hown⟩ := h3 i us[i] (List.getElem?_eq_getElem hi)
    rw [hr] at hr'
    injection hr' with hr'
    subst hr'
    rw [hu] at hown
    obtain ⟨a2, c2, e4, _, hints⟩ := own_ints hown (by omega)
    injection e4 with e5 _ _
    subst e5
    refine ⟨a', l, c, ?_, hlc, hints⟩
    have := hc g rfl i us[i] (List.getElem?_eq_getElem hi)
    rw [hu, add_plain] at this
    exact this
theorem OwnRowsV.push {w w' : World} {B k l : Nat} {v v' : Value} {a : Option Addr} {c : Nat} {rows : List (List Int)} {r : List Int} {us : List Value} (hv : w.ownsRow B 24 1 v k us) (hl : rows.length = k)
    (hus : ∀ (q : Nat) (u : Value), us[q]? = some u → ∃ (a : Option Addr) (l c : Nat) (r : List Int), rows[q]? = some r ∧ u = .slice a l c ∧ l ≤ c ∧ l ≤ 1048576 ∧ w.ownsRow B 3 1 u l (r.map (.int .i64)))
    (hu : w.ownsRow B 3 1 (.slice a l c) l (r.map (.int .i64))) (hlc : l ≤ c) (hl2 : l ≤ 1048576) (hv' : w'.ownsRow B 24 1 v' (k + 1) (us ++ [.slice a l c])) (hg : w.grownBy w' v.ownBlock) : OwnRowsV w' B v' (k + 1) (rows ++ [r]) := by
  have hul : us.length = k := by have := hv.1; simpa using this
  refine ⟨_, hv', by simp [hl], fun q u hq => ?_⟩
  rcases Nat.lt_or_ge q us.length with h | h
  · rw [List.getElem?_append_left h] at hq
    obtain ⟨a', l', c', r', h1, h2, h3, h4, h5⟩ := hus q u hq
    exact ⟨a', l', c', r', by rw [List.getElem?_append_left (by omega)]; exact h1, h2, h3, h4, h5.kept hg (own_ne h5 hv (by decide))⟩
  · rw [List.getElem?_append_right h] at hq
    have hq0 : q - us.length = 0 := by
      have := (List.getElem?_eq_some_iff.1 hq).1; simp at this; omega
    rw [hq0] at hq
    simp only [List.getElem?_cons_zero, Option.some.injEq] at hq
    subst hq
    exact ⟨a, l, c, r, by rw [List.getElem?_append_right (by omega), show q - rows.length = 0 by omega]; rfl, rfl, hlc, hl2, hu.kept hg (own_ne hu hv (by decide))⟩
def turnP (rows : List (List Int)) : List (List Int) := rows.map (fun r => [r.getD 1 0, r.getD 0 0])
set_option maxRecDepth 100000 in
set_option maxHeartbeats 2000000 in
theorem turnedPairs_any (a : Option Addr) (len cap : Nat) (rows : List (List Int)) (w : World) (h : RowsAt w (· < w.heap.size) a len rows) (hp : pairsM rows = true) :
    Calls Try.prog 19 #[.slice a len cap] w (fun e w' => ∃ (a2 : Option Addr) (c2 : Nat), e = .returned (.slice a2 len c2) ∧ len ≤ c2 ∧ RowsAt w' (fun b => w.heap.size ≤ b ∧ b < w'.heap.size) a2 len (turnP rows) ∧ Below w.heap.size w w') := by
  have hl8 : len ≤ 8 := by have := (pairs_get hp).1; have := h.lenEq; omega
  have HP := Lib.hid (pairs_get hp).2
  have HLN := Lib.hid h.lenEq
  obtain ⟨i1, hj, hy0, hy1, hy2⟩ := info_parts Try.infoInts
  have ho0 := World.ownsRow_made (base := w.heap.size) (size := 1) (e := 24) w #[] 0 (Nat.le_refl _) (Nat.zero_le _) rfl
  go_enter Try.func19, Try.ntmps19
  go_wp2_with fail
  go_loopw [3, 4] (fun v iv wr => ∃ (k cp : Nat) (ax : Option Addr), k ≤ len ∧ iv = .int .i64 k ∧ v = .slice ax k cp ∧ k ≤ cp ∧ OwnRowsV wr w.heap.size v k (turnP (rows.take k)) ∧ Below w.heap.size w wr) (fun _ iv _ => len - (intOf iv).toNat)
  case atStart => exact ⟨0, 0, _, Nat.zero_le _, rfl, rfl, Nat.le_refl _, ⟨[], ho0, rfl, fun q u hq => by cases hq⟩, (Below.refl _ _).alloc (Nat.le_refl _) _⟩
  case round =>
    clear ho0
    obtain ⟨k, cp, ax, hk, rfl, rfl, hkc, hown, hB⟩ := hrel
    obtain ⟨wo, rfl⟩ : ∃ wo : World, wo = wr := ⟨_, rfl⟩
    have HB := Lib.hid hB
    have hr := h.below hB
    clear hB
    by_cases hkl : k < len
    · obtain ⟨us, hv, hlr, hus⟩ := hown
      have HV := Lib.hid hv
      have HUS := Lib.hid hus
      have HLR := Lib.hid hlr
      obtain ⟨b, off, r, a1, l1, c1, rfl, hrr, hcr, _, hri⟩ := hr.get hkl
      obtain ⟨hr2, _, _⟩ := HP.out r (List.mem_of_getElem? hrr)
      have hl2 : l1 = 2 := by rw [← hri.lenEq, hr2]
      subst hl2
      obtain ⟨b3, off3, x, rfl, h3, hc3⟩ := hri.get (k := 0) (by omega)
      obtain ⟨b4, off4, y, e4, h4, hc4⟩ := hri.get (k := 1) (by omega)
      cases e4
      rw [Nat.add_zero] at hc3
      have HTP := Lib.hid (show turnP (rows.take (k + 1)) = turnP (rows.take k) ++ [[y, x]] by
        rw [take_get hrr]; unfold turnP; rw [List.map_append]; show _ ++ [[r.getD 1 0, r.getD 0 0]] = _; rw [getD_of h3, getD_of h4])
      have hm1 : b < w.heap.size := hr.mem (by omega)
      have hm2 : b3 < w.heap.size := hri.mem (by omega)
      have hsz := HB.out.size
      have ak : (Value.slice ax k cp).ownBlock ≠ some b := fun e => by have h1 := own_block HV.out _ e; omega
      have av : (Value.slice ax k cp).ownBlock ≠ some b3 := fun e => by have h1 := own_block HV.out _ e; omega
      have HNB : Hid (((wo.alloc (.cells #[.int .i64 y, .int .i64 x] 3)).alloc (.cells #[.slice (some ⟨wo.heap.size, 0, none⟩) 2 2] 24)).heap[wo.heap.size + 1]? = some (.cells #[.slice (some ⟨wo.heap.size, 0, none⟩) 2 2] 24 (0, 0))) := Lib.hid (by
        have h1 := heap_alloc_new (wo.alloc (.cells #[.int .i64 y, .int .i64 x] 3)) (.cells #[.slice (some ⟨wo.heap.size, 0, none⟩) 2 2] 24)
        rw [show (wo.alloc (.cells #[.int .i64 y, .int .i64 x] 3)).heap.size = wo.heap.size + 1 by simp] at h1
        exact h1)
      have hkk : (k : Int) < (len : Int) := by omega
      clear hv hus hlr hr hrr hri hr2 h3 h4
      go_wp2_with fail
      go_region_held3 (fun w' => w'.cell? ⟨b, off + k, none⟩ = some (.slice (some ⟨b3, off3, none⟩) 2 c1) ∧ w'.cell? ⟨b3, off3, none⟩ = some (.int .i64 x) ∧ w'.cell? ⟨b3, off3 + 1, none⟩ = some (.int .i64 y))
        (first
          | go_keep
          | (go_split_ands
             refine ⟨?_, ?_, ?_⟩
             · (rw [hgrow.cell_far _ (by simp; omega) (Ne.symm ak)]; assumption)
             · (rw [hgrow.cell_far _ (by simp; omega) (Ne.symm av)]; assumption)
             · (rw [hgrow.cell_far _ (by simp; omega) (Ne.symm av)]; assumption)))
        ((refine step_append_lies _ (by rfl) _ _ _ (by rfl) w.heap.size 24 i1 _ 1 24 Try.underlying23 hj hy0 hy1 hy2 rfl (by omega) (.slice ax k cp) k _ (by rfl) (((HV.out.alloc _).alloc _).drew)
            ⟨wo.heap.size + 1, 0, none⟩ 1 1 [.slice (some ⟨wo.heap.size, 0, none⟩) 2 2] (by rfl) (by rfl) (World.news_of_block (cs := #[.slice (some ⟨wo.heap.size, 0, none⟩) 2 2]) (t := 24) (fr := (0, 0)) HNB.out) (by simp [Value.oneCell'])
            (by omega) (by unfold maxLen; omega) (by omega) (by have := HB.out.size; simp; omega) (wo.heap.size + 2) (by simp) ?_; intro gg c6 w6 hown6 hgrow hat hlt))
      have HGX := Lib.hid (show ((wo.alloc (.cells #[.int .i64 y, .int .i64 x] 3)).alloc (.cells #[.slice (some ⟨wo.heap.size, 0, none⟩) 2 2] 24)).grownBy w6 (Value.slice ax k cp).ownBlock from grown_comp (grownBy_drewN _ 1 _) hgrow)
      have HO6 := Lib.hid hown6
      have hkc6 : Hid (k + 1 ≤ c6) := Lib.hid (by obtain ⟨_, _, e, h'⟩ := own_slice hown6; injection e with _ _ e; omega)
      clear hown6 hgrow
      have HPU := Lib.hid (OwnRowsV.push (a := some ⟨wo.heap.size, 0, none⟩) (c := 2) (r := [y, x]) (rows := turnP (rows.take k)) ((HV.out.alloc (.cells #[.int .i64 y, .int .i64 x] 3)).alloc (.cells #[.slice (some ⟨wo.heap.size, 0, none⟩) 2 2] 24)) HLR.out
        (fun q u hq => by
          obtain ⟨a', l', c', r', e1, e2, e3, e4, e5⟩ := HUS.out q u hq
          exact ⟨a', l', c', r', e1, e2, e3, e4, (e5.alloc _).alloc _⟩) ((own_two wo hsz y x).alloc _) (Nat.le_refl _) (by omega) HO6.out HGX.out)
      have HB6 := Lib.hid (((HB.out.alloc hsz (.cells #[.int .i64 y, .int .i64 x] 3)).alloc (by simp; omega) (.cells #[.slice (some ⟨wo.heap.size, 0, none⟩) 2 2] 24)).grown HGX.out (by simp; omega) (own_block HV.out))
      go_wp2
      go_roundw
      case rel => exact ⟨k + 1, c6, _, by omega, by go_num, rfl, hkc6.out, by rw [HTP.out]; exact HPU.out, HB6.out⟩
      case measure => simp [intOf]; omega
    · obtain rfl : k = len := by omega
      have HR := Lib.hid (hown.rows (by omega))
      go_wp2_with fail
      go_ret
      exact ⟨_, _, rfl, hkc, by have := HR.out; rwa [List.take_of_length_le (by have := HLN.out; omega)] at this, HB.out⟩
end Go.Proofs.Ytcikgbkehfepdab
namespace Go.Proofs.Ytcikgbkehfepdab
open Go.RowKit Go.WideShapes

def revM (xs : List Int) : List Int := tab (fun q => xs.getD (xs.length - 1 - q) 0) xs.length
theorem revM_length (xs : List Int) : (revM xs).length = xs.length := tab_length _ _
theorem revM_getD (xs : List Int) {q : Nat} (h : q < xs.length) : (revM xs).getD q 0 = xs.getD (xs.length - 1 - q) 0 := tab_getD _ h
end Go.Proofs.Ytcikgbkehfepdab
namespace Go.Proofs.Ytcikgbkehfepdab
open Go.RowKit Go.WideShapes

theorem turnP_len (rows : List (List Int)) : (turnP rows).length = rows.length := by simp [turnP]
theorem turnP_get (rows : List (List Int)) (x : Nat) : (turnP rows)[x]? = (rows[x]?).map (fun r => [r.getD 1 0, r.getD 0 0]) := by simp [turnP]
theorem turnP_ta (rows : List (List Int)) : ta (turnP rows) = tb rows := by
  funext x
  unfold ta tb
  rw [List.getD_eq_getElem?_getD (l := turnP rows), List.getD_eq_getElem?_getD (l := rows), turnP_get]
  cases rows[x]? <;> rfl
theorem turnP_tb (rows : List (List Int)) : tb (turnP rows) = ta rows := by
  funext x
  unfold ta tb
  rw [List.getD_eq_getElem?_getD (l := turnP rows), List.getD_eq_getElem?_getD (l := rows), turnP_get]
  cases rows[x]? <;> rfl
theorem turnP_pairs {rows : List (List Int)} (h : pairsM rows = true) : pairsM (turnP rows) = true := by
  simp only [pairsM, Bool.and_eq_true, decide_eq_true_eq, List.all_eq_true] at h ⊢
  refine ⟨fun r hr => ?_, by rw [turnP_len]; exact h.2⟩
  obtain ⟨s, hs, rfl⟩ := List.mem_map.1 hr
  have := h.1 s hs
  simp only [pairB, Bool.and_eq_true] at this ⊢
  exact ⟨rfl, this.2.2, this.2.1⟩
theorem revM_is (xs : List Int) : revM xs = xs.reverse := by
  apply List.ext_getElem?
  intro i
  rcases Nat.lt_or_ge i xs.length with h | h
  · rw [List.getElem?_reverse h, get_getD (by rw [revM_length]; exact h), revM_getD xs h, get_getD (by omega)]
  · rw [List.getElem?_eq_none (by rw [revM_length]; exact h), List.getElem?_eq_none (by simpa using h)]
theorem rev_order {o : List Int} {n : Nat} (h : orderP o n) : orderP (revM o) n := by
  rw [revM_is]
  obtain ⟨⟨h1, h2⟩, h3⟩ := h
  exact ⟨⟨fun x hx => h1 x (List.mem_reverse.1 hx), (List.reverse_perm o).symm.nodup h2⟩, by rw [List.length_reverse, h3]⟩
theorem span_turns {rows : List (List Int)} {o : List Int} (h : spanFine rows o = true) : spanRes (turnP rows) (revM o) = spanRes rows o := by
  obtain ⟨h1, h2⟩ := spanFine_get h
  have h3 : spanFine (turnP rows) (revM o) = true := by
    unfold spanFine
    rw [turnP_pairs h1, turnP_len, Bool.true_and]
    exact decide_eq_true (rev_order h2)
  rw [spanRes_yes h, spanRes_yes h3, turnP_ta, turnP_tb, revM_is]
  have e : nO o.reverse = (nO o).reverse := by unfold nO; rw [List.map_reverse]
  rw [e]
  exact span_turned (fun x => (t_bd h1 x).1.1) (fun x => (t_bd h1 x).2.1) _
theorem spanRes_nn {rows : List (List Int)} {o : List Int} (h : spanFine rows o = true) : 0 ≤ spanRes rows o := by
  rw [spanRes_yes h]
  have h1 := (spanFine_get h).1
  exact span_nn (fun x => (t_bd h1 x).1.1) (fun x => (t_bd h1 x).2.1) _
theorem sum_range (f : Nat → Int) (i : Nat) : sumL f (List.range (i + 1)) = sumL f (List.range i) + f i := by
  rw [List.range_succ, sumL_append]; simp [sumL]
theorem sum_box {rows : List (List Int)} (h : pairsM rows = true) (i : Nat) : (0 ≤ sumL (ta rows) (List.range i) ∧ sumL (ta rows) (List.range i) ≤ 9 * (i : Int)) ∧ (0 ≤ sumL (tb rows) (List.range i) ∧ sumL (tb rows) (List.range i) ≤ 9 * (i : Int)) := by
  have h1 := sumL_nn (fun x => (t_bd h x).1.1) (List.range i)
  have h2 := sumL_nn (fun x => (t_bd h x).2.1) (List.range i)
  have h3 := sumL_bd (fun x => (t_bd h x).1.2) (List.range i)
  have h4 := sumL_bd (fun x => (t_bd h x).2.2) (List.range i)
  rw [List.length_range] at h3 h4
  exact ⟨⟨h1, h3⟩, ⟨h2, h4⟩⟩
theorem span_between {rows : List (List Int)} {o : List Int} (h : spanFine rows o = true) : sumL (ta rows) (List.range rows.length) ≤ spanRes rows o ∧ sumL (tb rows) (List.range rows.length) ≤ spanRes rows o ∧
    spanRes rows o ≤ sumL (ta rows) (List.range rows.length) + sumL (tb rows) (List.range rows.length) := by
  have h1 := (spanFine_get h).1
  have h2 := nO_perm (spanFine_get h).2
  rw [spanRes_yes h, ← sumL_perm h2, ← sumL_perm h2]
  exact span_sums (fun x => (t_bd h1 x).1.1) (fun x => (t_bd h1 x).2.1) _
end Go.Proofs.Ytcikgbkehfepdab
namespace Go.Proofs.Ytcikgbkehfepdab
open Go.RowKit Go.WideShapes

theorem rd_new (w : World) (a : Option Addr) (n cap : Nat) (t : TypeId) (hn : n ≤ 2000) (hb : BytesAt w w.heap.size a n) : Rd (w.alloc (.cells #[.slice a n cap, .int .i64 0] t)) w.heap.size 0 := by
  refine ⟨by rw [World.cell?_alloc_new]; rfl, World.frozen?_alloc_new w _ _ _, a, n, cap, by rw [World.cell?_alloc_new]; rfl, hn, fun h0 => ?_⟩
  obtain ⟨b, off, ha, hb', hc⟩ := hb h0
  refine ⟨b, off, ha, hb', fun i hi => ?_⟩
  obtain ⟨x, hx, hx'⟩ := hc i hi
  exact ⟨x, hx, by rw [World.cell?_alloc_lt _ _ _ hb']; exact hx'⟩

def ReaderPost (w : World) (e : Ending) (w' : World) : Prop := e = .returned (.pointer (some ⟨w.heap.size, 0, none⟩)) ∧ Rd w' w.heap.size 0 ∧ Below w.heap.size w w'

theorem newReader_any (a : Option Addr) (len cap : Nat) (w : World) (hb : BytesAt w w.heap.size a len) (hl : len ≤ cap) (hs : len ≤ 9223372036854775807) :
    Calls Try.prog 20 #[.slice a len cap] w (ReaderPost w) := by
  by_cases h : len ≤ 2000
  · go_enter Try.func20, Try.ntmps20
    go_wp2
    go_ret
    exact ⟨rfl, rd_new w a len cap _ h hb, (Below.refl _ _).alloc (Nat.le_refl _) _⟩
  · obtain ⟨b, off, rfl, hb1, hc⟩ := hb (by omega)
    have h2 : BytesAt w w.heap.size (some ⟨b, off, none⟩) 2000 := fun _ => ⟨b, off, rfl, hb1, fun i hi => hc i (by omega)⟩
    clear hc
    go_enter Try.func20, Try.ntmps20
    go_wp2
    go_ret
    exact ⟨rfl, rd_new w _ 2000 cap _ (by omega) h2, (Below.refl _ _).alloc (Nat.le_refl _) _⟩
end Go.Proofs.Ytcikgbkehfepdab
namespace Go.Proofs.Ytcikgbkehfepdab
open Go.RowKit Go.WideShapes

/-- a list made behind the reader R, ahead of block B -/
def LAt (w : World) (R B : Nat) (a : Option Addr) (l : Nat) (xs : List Int) : Prop := IntsAt w (fun b => R < b ∧ b < B) a l xs ∧ B ≤ w.heap.size
theorem LAt.step {w w' : World} {R B l : Nat} {a : Option Addr} {xs : List Int} (h : LAt w R B a l xs) (hg : w.grownBy w' (some R)) : LAt w' R B a l xs :=
  ⟨h.1.to (fun b hb => ⟨hb, hg.block b (Nat.lt_of_lt_of_le hb.2 h.2) (by intro e; injection e; omega)⟩), Nat.le_trans h.2 hg.size⟩
theorem LAt.stepR {w w' : World} {R B l : Nat} {a : Option Addr} {xs : List Int} {r : Option Nat} (h : LAt w R B a l xs) (hg : w.grownBy w' r) (hr : ∀ k, r = some k → B ≤ k) : LAt w' R B a l xs :=
  ⟨h.1.to (fun b hb => ⟨hb, hg.block b (Nat.lt_of_lt_of_le hb.2 h.2) (by intro e; have := hr b e.symm; omega)⟩), Nat.le_trans h.2 hg.size⟩
theorem LAt.alloc {w : World} {R B l : Nat} {a : Option Addr} {xs : List Int} (h : LAt w R B a l xs) (o : Obj) : LAt (w.alloc o) R B a l xs := h.step (World.grownBy_alloc _ _ _)
theorem LAt.low {w : World} {R B l : Nat} {a : Option Addr} {xs : List Int} (h : LAt w R B a l xs) : IntsAt w (· < w.heap.size) a l xs := h.1.to (fun _ hb => ⟨Nat.lt_of_lt_of_le hb.2 h.2, rfl⟩)
theorem lat_new {w w' : World} {R l : Nat} {a : Option Addr} {xs : List Int} (h : IntsAt w' (fun b => w.heap.size ≤ b ∧ b < w'.heap.size) a l xs) (hR : R < w.heap.size) : LAt w' R w'.heap.size a l xs :=
  ⟨h.to (fun _ hb => ⟨⟨by omega, hb.2⟩, rfl⟩), Nat.le_refl _⟩
theorem lat_own {w w' : World} {R l cp : Nat} {a : Option Addr} {xs : List Int} (h : w'.ownsRow w.heap.size 3 1 (.slice a l cp) l (xs.map (.int .i64))) (hR : R < w.heap.size) (hl : l ≤ 9223372036854775807) : LAt w' R w'.heap.size a l xs := by
  obtain ⟨ay, cy, hve, _, hints⟩ := own_ints h hl
  simp only [Value.slice.injEq] at hve
  obtain ⟨rfl, _, rfl⟩ := hve
  exact lat_new hints hR
theorem own_low {w : World} {B l cp : Nat} {a : Option Addr} {xs : List Int} (h : w.ownsRow B 3 1 (.slice a l cp) l (xs.map (.int .i64))) (hl : l ≤ 9223372036854775807) : IntsAt w (· < w.heap.size) a l xs := by
  obtain ⟨ay, cy, hve, _, hints⟩ := own_ints h hl
  simp only [Value.slice.injEq] at hve
  obtain ⟨rfl, _, rfl⟩ := hve
  exact hints.to (fun _ hb => ⟨hb.2, rfl⟩)
theorem grown_of_below {w w' : World} (h : Below w.heap.size w w') (r : Option Nat) : w.grownBy w' r := ⟨h.os, h.tape, h.output, h.size, fun b hb _ => h.block b hb⟩
theorem Rd.step {w w' : World} {R p : Nat} (h : Rd w R p) (hb : Below w.heap.size w w') : Rd w' R p :=
  h.grown (r := none) (grown_of_below hb none) (fun k e => by cases e)
theorem own_step {w w' : World} {B R l : Nat} {v : Value} {xs : List Value} (h : w.ownsRow B 3 1 v l xs) (hg : w.grownBy w' (some R)) (hR : R < B) : w'.ownsRow B 3 1 v l xs := h.kept hg (ne_low h hR)
end Go.Proofs.Ytcikgbkehfepdab
namespace Go.Proofs.Ytcikgbkehfepdab
open Go.RowKit Go.WideShapes

theorem Try.infoIntD : (Try.prog.info? 3).map (fun i => (i.zero, i.size, i.bytes)) = some (some (.int .i64 0), 1, 8) := by kernel_rfl

/-- the days that are drawn -/
def DaysOk (xs : List Int) : Prop := xs.length ≤ 9 ∧ (∀ k, -1 ≤ xs.getD k 0) ∧ (∀ k, xs.getD k 0 ≤ if k = 0 then 21 else 12)
theorem daysOk_of {xs : List Int} (hl : xs.length ≤ 9) (h : ∀ x ∈ xs, 0 ≤ x ∧ x ≤ 12) : DaysOk xs := by
  have key : ∀ k, 0 ≤ xs.getD k 0 ∧ xs.getD k 0 ≤ 12 := by
    intro k
    rcases Nat.lt_or_ge k xs.length with h' | h'
    · exact h _ (List.mem_of_getElem? (get_getD h'))
    · rw [getD_past h']; omega
  exact ⟨hl, fun k => by have := key k; omega, fun k => by have := key k; split <;> omega⟩
theorem daysOk_set {xs : List Int} {x : Int} (hl : xs.length ≤ 9) (h : ∀ x ∈ xs, 0 ≤ x ∧ x ≤ 12) (hx : x = -1 ∨ x = 21) : DaysOk (xs.set 0 x) := by
  have key : ∀ k, 0 ≤ xs.getD k 0 ∧ xs.getD k 0 ≤ 12 := by
    intro k
    rcases Nat.lt_or_ge k xs.length with h' | h'
    · exact h _ (List.mem_of_getElem? (get_getD h'))
    · rw [getD_past h']; omega
  have e : ∀ k, (xs.set 0 x).getD k 0 = if k = 0 ∧ 0 < xs.length then x else xs.getD k 0 := by
    intro k
    rw [List.getD_eq_getElem?_getD, List.getD_eq_getElem?_getD, List.getElem?_set]
    by_cases hk : 0 = k
    · subst hk
      by_cases hp : 0 < xs.length
      · rw [if_pos rfl, if_pos hp, if_pos ⟨rfl, hp⟩]; rfl
      · rw [if_pos rfl, if_neg hp, if_neg (by omega), List.getElem?_eq_none (by omega)]
    · rw [if_neg hk, if_neg (by omega)]
  refine ⟨by rw [List.length_set]; exact hl, fun k => ?_, fun k => ?_⟩
  · rw [e]; have := key k; split <;> omega
  · rw [e]; have := key k; split <;> split <;> omega

def DaysPost (w : World) (R p : Nat) (e : Ending) (w' : World) : Prop := ∃ (a : Option Addr) (len cap : Nat) (xs : List Int) (p' : Nat), e = .returned (.slice a len cap) ∧
  w'.ownsRow w.heap.size 3 1 (.slice a len cap) len (xs.map (.int .i64)) ∧ len ≤ cap ∧ len ≤ 9 ∧ DaysOk xs ∧ Rd w' R p' ∧ p' ≤ p + 100 ∧ w.grownBy w' (some R)
theorem DaysPost.mk {w w' : World} {R p p' : Nat} {a : Option Addr} {len cap : Nat} {xs : List Int} (h : w'.ownsRow w.heap.size 3 1 (.slice a len cap) len (xs.map (.int .i64))) (hl : len ≤ 9) (hd : DaysOk xs) (hr : Rd w' R p') (hp : p' ≤ p + 100) (hg : w.grownBy w' (some R)) :
    DaysPost w R p (.returned (.slice a len cap)) w' := by
  obtain ⟨a', cap', e, hc⟩ := own_slice h
  simp only [Value.slice.injEq] at e
  obtain ⟨rfl, _, rfl⟩ := e
  exact ⟨_, _, _, xs, p', rfl, h, hc, hl, hd, hr, hp, hg⟩
theorem ro {R : Nat} : ∀ k, some R = some k → k = R ∨ False := by intro k e; cases e; exact Or.inl rfl

theorem most_n {n : Int} (h : n ∈ [6, 12, 3]) : 3 ≤ n ∧ n ≤ 12 := by simp at h; omega
theorem days_n {n : Int} (h : n ∈ [5, 6, 4, 8, 3, 2, 1, 0, 9]) : ∃ m : Nat, n = (m : Int) ∧ m ≤ 9 := by simp at h; exact ⟨n.toNat, by omega, by omega⟩
theorem grown_r {a b c : World} {R : Nat} (h : a.grownBy b (some R)) (g : b.grownBy c (some R)) : a.grownBy c (some R) := grown_trans h g (fun k e => by cases e; exact Or.inl rfl)

end Go.Proofs.Ytcikgbkehfepdab
namespace Go.Proofs.Ytcikgbkehfepdab
open Go.RowKit Go.WideShapes

/-- a list that is drawn: numbers in lo..hi -/
def ListPost (w : World) (R p n : Nat) (lo hi : Int) (e : Ending) (w' : World) : Prop := ∃ (a : Option Addr) (cap : Nat) (xs : List Int), e = .returned (.slice a n cap) ∧
  w'.ownsRow w.heap.size 3 1 (.slice a n cap) n (xs.map (.int .i64)) ∧ n ≤ cap ∧ xs.length = n ∧ (∀ x ∈ xs, lo ≤ x ∧ x ≤ hi) ∧ Rd w' R (p + n) ∧ w.grownBy w' (some R)

set_option maxRecDepth 100000 in
set_option maxHeartbeats 2000000 in
theorem listOf_any (R p n : Nat) (lo hi : Int) (w : World) (h : Rd w R p) (hp : p ≤ 1000000) (hn : n ≤ 1000) (hlo : -1000 ≤ lo) (hlh : lo ≤ hi) (hhi : hi ≤ 1000) :
    Calls Try.prog 30 #[.pointer (some ⟨R, 0, none⟩), .int .i64 n, .int .i64 lo, .int .i64 hi] w (ListPost w R p n lo hi) := by
  have hR := h.lt
  obtain ⟨i0, hi0, hz0, hz1, hz2⟩ := info_parts Try.infoIntD
  have ho0 := World.ownsRow_made (base := w.heap.size) (size := 1) (e := 3) w #[] 0 (Nat.le_refl _) (Nat.zero_le _) rfl
  go_enter Try.func30, Try.ntmps30
  go_wp2_with fail
  go_loopw [9] (fun v wr => ∃ (k cap : Nat) (a : Option Addr) (xs : List Int), v = .slice a k cap ∧ wr.ownsRow w.heap.size 3 1 v k (xs.map (.int .i64)) ∧ k ≤ n ∧ (∀ x ∈ xs, lo ≤ x ∧ x ≤ hi) ∧ Rd wr R (p + k) ∧ w.grownBy wr (some R)) (fun v _ => n - capOf v)
  case atStart => exact ⟨0, _, _, [], rfl, ho0, Nat.zero_le _, (fun x hx => by cases hx), h.alloc _, World.grownBy_alloc _ _ _⟩
  case round =>
    obtain ⟨k, cap, a, xs, rfl, hown, hkm, hall, hr, hg⟩ := hrel
    obtain ⟨wo, rfl⟩ : ∃ wo : World, wo = wr := ⟨_, rfl⟩
    have hsz := hg.size
    have HOWN := Lib.hid hown
    have HALL := Lib.hid hall
    clear hown hall
    by_cases hlt : k < n
    · go_wp2_with fail
      refine (pick_any R (p + k) (hi - lo + 1) wo hr (by omega)).mono ?_
      rintro e w5 ⟨q1, rfl, hq1, hr5, hgw⟩
      have HO5 := Lib.hid (HOWN.out.kept hgw (ne_low HOWN.out hR))
      have hg6 := grown_r hg hgw
      have hxb : lo ≤ lo + (q1 : Int) ∧ lo + (q1 : Int) ≤ hi := by omega
      go_wp2_with (at_builtin; refine wpList_append_own _ rfl _ _ 24 rfl w.heap.size 3 i0 (.int .i64 0) 1 8 Try.underlying24 hi0 hz0 hz1 hz2 rfl (by decide) _ _ _ rfl (HO5.out.alloc _) ⟨w5.heap.size, 0, none⟩ 1 1 [.int .i64 (lo + (q1 : Int))] rfl rfl ?c1 ?c2 ?c3 ?c4 ?c5 ?_)
      case c1 => exact one_new _ _ _
      case c2 => exact one_cell_int _ _
      case c3 => unfold maxLen; omega
      case c4 => omega
      case c5 => have := hgw.size; simp; omega
      intro v' w6 hown hgrow _
      obtain ⟨a6, c6, rfl, _⟩ := own_slice hown
      have hgr : w5.grownBy w6 (Value.slice a k cap).ownBlock := grown_comp (World.grownBy_alloc w5 _ _) hgrow
      have HO6 := Lib.hid hown
      have HG6 := Lib.hid hgr
      clear hown hgr hgrow
      go_wp2
      go_roundw
      case rel => exact ⟨k + 1, c6, a6, xs ++ [lo + (q1 : Int)], rfl, by rw [List.map_append]; exact HO6.out, by omega, (fun y hy => by
        rcases List.mem_append.1 hy with h' | h'
        · exact HALL.out y h'
        · simp only [List.mem_singleton] at h'; rw [h']; exact hxb), hr5.grown HG6.out (by intro b hb; have := (HO5.out.lt b hb).1; omega), grown_trans hg6 HG6.out (by intro b hb; have := (HO5.out.lt b hb).1; omega)⟩
      case measure => simp [capOf]; omega
    · obtain rfl : k = n := by omega
      go_wp2
      go_ret
      obtain ⟨a', c', e, hc⟩ := own_slice HOWN.out
      simp only [Value.slice.injEq] at e
      obtain ⟨rfl, _, rfl⟩ := e
      have hl := HOWN.out.1
      exact ⟨_, _, xs, rfl, HOWN.out, hc, by simpa using hl, HALL.out, hr, hg⟩
end Go.Proofs.Ytcikgbkehfepdab
