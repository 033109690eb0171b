import Derived.Test.YtcikgbkehfepdabRows
import Derived.WalkKit
import Derived.LoopTactic
import Derived.Outline
import Derived.WalkSpells
import Derived.WalkLawsBesides
import Derived.ProofKit
import Derived.Deep.RegionLaw
import Derived.Deep.AppendLies
import Derived.Test.YtcikgbkehfepdabM0
import Derived.Test.YtcikgbkehfepdabM1
import Derived.Test.YtcikgbkehfepdabM2
import Derived.Test.YtcikgbkehfepdabM7
import Derived.Test.YtcikgbkehfepdabM6
import Derived.Test.YtcikgbkehfepdabM3
import Derived.Test.YtcikgbkehfepdabM5
namespace Go.Proofs.Ytcikgbkehfepdab
open Go.RowKit Go.WideShapes

/-- append of a list to a list of the call's own, at a step of a region that draws; the source may be empty -/
theorem stepApp {ops : Array Oper} {o : Oper} {a : Act} {K : Act → World → Prop} {Q : Exit → Act → World → Prop} {E : Prop} {wo : World} (hgd : o.guard = none) (s x : Operand)
    (ho : o.op = .call { callee := .builtin .append, args := #[s, x], argTypes := #[24, 24] })
    (base k cp gx : Nat) (xs : List Int) (S : Nat → Prop) (b off m c : Nat) (ys : List Int) (hs : a.eval s = .slice (some ⟨gx, 0, none⟩) k cp)
    (hown : wo.ownsRow base 3 1 (.slice (some ⟨gx, 0, none⟩) k cp) k (xs.map (.int .i64))) (hx : a.eval x = .slice (some ⟨b, off, none⟩) m c) (hy : IntsAt wo S (some ⟨b, off, none⟩) m ys)
    (hbase : base ≤ wo.heap.size) (km : Nat) (hkm : k + m = km) (zs : List Int) (hzs : xs ++ ys = zs) (hk : km ≤ 1048576)
    (h : ∀ (g6 c6 : Nat) (w' : World), w'.ownsRow base 3 1 (.slice (some ⟨g6, 0, none⟩) km c6) km (zs.map (.int .i64)) → km ≤ c6 → wo.grownBy w' (some gx) → base ≤ g6 → g6 < w'.heap.size →
      K (a.put o.dst (.slice (some ⟨g6, 0, none⟩) km c6)) w') :
    if Region.wanted o (yielded ops a.tmps) = true then Oper.wp Try.prog o a wo K Q else E := by
  subst hkm
  subst hzs
  have hw : Region.wanted o (yielded ops a.tmps) = true := by simp [Region.wanted, hgd]
  rw [if_pos hw]
  obtain ⟨i0, hi, hz0, hz1, hz2⟩ := info_parts Try.infoIntO
  obtain ⟨v', w', hr, h2, h3, h4, _⟩ := run_append_own_at (P := Try.prog) wo base 24 o.type 3 i0 (.int .i64 0) 1 8 Try.underlying24 hi hz0 hz1 hz2 rfl (by decide) _ k _ hown ⟨b, off, none⟩ m c (ys.map (.int .i64)) (by simp [hy.lenEq]) (by
    intro j u hj
    rw [List.getElem?_map] at hj
    cases hq : ys[j]? with
    | none => rw [hq] at hj; cases hj
    | some z =>
      rw [hq] at hj
      simp only [Option.map_some, Option.some.injEq] at hj
      have hlt : j < ys.length := (List.getElem?_eq_some_iff.1 hq).1
      obtain ⟨b', off', e, _, hc⟩ := hy.cells (by have := hy.lenEq; omega)
      cases e
      rw [add_plain, hc _ _ hq, ← hj]) (by
    intro u hu
    obtain ⟨x, _, rfl⟩ := List.mem_map.1 hu
    rfl) (by unfold maxLen; omega) (by omega) hbase
  unfold Oper.wp execOp
  simp only [ho, resolve, invoke, builtin, Sem.run_bind, Sem.run_pure, Result.andThen_ok, List.map_toArray, List.map_cons, List.map_nil, hs, hx, hr]
  obtain ⟨a6, c6, rfl, hc⟩ := own_slice h2
  rcases h2.2 with ⟨e1, e2⟩ | ⟨g, cap, cur, hv, hb, hg, _⟩
  · exact absurd (h4.1 (by injection e1 with e3 _ e4; subst e3; subst e4; rw [e2])).1 (by simp)
  · injection hv with e3 _ e4
    subst e3
    rw [← List.map_append] at h2
    refine h g c6 w' h2 hc h3 hb ?_
    rcases Nat.lt_or_ge g w'.heap.size with hlt | hge
    · exact hlt
    · rw [Array.getElem?_eq_none hge] at hg; cases hg

theorem IntsAt.takeI {w : World} {S : Nat → Prop} {b off len : Nat} {xs : List Int} (h : IntsAt w S (some ⟨b, off, none⟩) len xs) (k : Nat) (hk : k ≤ len) : IntsAt w S (some ⟨b, off, none⟩) k (xs.take k) := by
  have hl := h.lenEq
  have hs := h.small
  refine ⟨by simp; omega, by omega, fun h0 => ?_⟩
  obtain ⟨b', off', e, hS, hc⟩ := h.cells (by omega)
  cases e
  refine ⟨_, _, rfl, hS, fun i x hx => hc i x ?_⟩
  rw [List.getElem?_take] at hx
  split at hx
  · exact hx
  · cases hx
theorem IntsAt.dropI {w : World} {S : Nat → Prop} {b len : Nat} {xs : List Int} (h : IntsAt w S (some ⟨b, 0, none⟩) len xs) (k : Nat) (hk : k ≤ len) : IntsAt w S (some ⟨b, k, none⟩) (len - k) (xs.drop k) := by
  have hl := h.lenEq
  have hs := h.small
  refine ⟨by simp; omega, by omega, fun h0 => ?_⟩
  obtain ⟨b', off', e, hS, hc⟩ := h.cells (by omega)
  cases e
  refine ⟨_, _, rfl, hS, fun i x hx => ?_⟩
  rw [List.getElem?_drop] at hx
  have := hc _ x hx
  rwa [Nat.zero_add] at this
theorem IntsAt.grownEq {W W' w' : World} {b r len : Nat} {xs : List Int} (h : IntsAt W (fun k => k = b) (some ⟨b, 0, none⟩) len xs) (hg : W'.grownBy w' (some r)) (he : W'.heap = W.heap) (hb : b < W'.heap.size) (hr : b ≠ r) :
    IntsAt w' (fun k => k = b) (some ⟨b, 0, none⟩) len xs :=
  h.to fun k hk => ⟨hk, by subst hk; rw [hg.block _ hb (by simp; omega), he]⟩
theorem below_grown {n : Nat} {w w' : World} (h : Below n w w') (hn : n = w.heap.size) (r : Option Nat) : w.grownBy w' r := by
  subst hn
  exact ⟨h.os, h.tape, h.output, h.size, fun k hk _ => h.block k hk⟩
def OrderPost (w : World) (R p n : Nat) (e : Ending) (w' : World) : Prop := ∃ (g cap : Nat) (xs : List Int), e = .returned (.slice (some ⟨g, 0, none⟩) n cap) ∧
  w'.ownsRow w.heap.size 3 1 (.slice (some ⟨g, 0, none⟩) n cap) n (xs.map (.int .i64)) ∧ n ≤ cap ∧ (∀ x ∈ xs, -1 ≤ x ∧ x ≤ n) ∧ w.grownBy w' (some R)
set_option maxRecDepth 100000 in
set_option maxHeartbeats 4000000 in
theorem orderOf_any (R p n : Nat) (w : World) (h : Rd w R p) (hp : p ≤ 900000) (hn : n ≤ 8) :
    Calls Try.prog 22 #[.pointer (some ⟨R, 0, none⟩), .int .i64 n] w (OrderPost w R p n) := by
  have hR := h.lt
  have ho0 := World.ownsRow_made (base := w.heap.size) (size := 1) (e := 3) w #[] 0 (Nat.le_refl _) (Nat.zero_le _) rfl
  go_enter Try.func22, Try.ntmps22
  go_wp2_with fail
  go_loopw [5, 6] (fun v i wr => ∃ (j p' cap g : Nat) (xs : List Int), i = .int .i64 j ∧ v = .slice (some ⟨g, 0, none⟩) j cap ∧ wr.ownsRow w.heap.size 3 1 v j (xs.map (.int .i64)) ∧ j ≤ cap ∧ j ≤ n ∧ (∀ x ∈ xs, -1 ≤ x ∧ x ≤ n) ∧ Rd wr R p' ∧ p' ≤ p + j ∧ w.grownBy wr (some R)) (fun _ i _ => n - (intOf i).toNat)
  case atStart => exact ⟨0, p, 0, w.heap.size, [], rfl, rfl, ho0, Nat.zero_le _, Nat.zero_le _, (fun x hx => by cases hx), h.alloc _, by omega, World.grownBy_alloc _ _ _⟩
  case round =>
    clear ho0
    obtain ⟨j, p', cap, g, xs, rfl, rfl, hown, hjc, hjn, hall, hr, hpp, hg⟩ := hrel
    obtain ⟨wo, rfl⟩ : ∃ wo : World, wo = wr := ⟨_, rfl⟩
    have hsz := hg.size
    by_cases hlt : j < n
    · go_wp2_with fail
      refine (pick_any R p' (j + 1) wo hr (by omega)).mono ?_
      rintro e w1 ⟨k, rfl, hk, hr1, hg1⟩
      have hkj : k ≤ j := by omega
      have HOWN := Lib.hid (hown.kept hg1 (ne_low hown hR))
      clear hown
      have hx1 : IntsAt w1 (· < w1.heap.size) (some ⟨g, 0, none⟩) j xs := by
        obtain ⟨a', c', e', _, h'⟩ := own_ints HOWN.out (by omega)
        injection e' with e1 _ _
        subst e1
        exact h'.to fun b hb => ⟨hb.2, rfl⟩
      have HT := Lib.hid (hx1.takeI k hkj)
      obtain ⟨AD, hAD, hD⟩ : ∃ od : Nat, (if cap = k then (some ⟨g, 0, none⟩ : Option Addr) else some ⟨g, k, none⟩) = some ⟨g, od, none⟩ ∧ IntsAt w1 (· < w1.heap.size) (some ⟨g, od, none⟩) (j - k) (xs.drop k) := by
        by_cases hck : cap = k
        · exact ⟨0, by rw [if_pos hck], by have := hx1.lenEq; simp; omega, by omega, fun h0 => by omega⟩
        · exact ⟨k, by rw [if_neg hck], hx1.dropI k hkj⟩
      have HD := Lib.hid hD
      clear hD hx1
      have hkc : k ≤ cap := by omega
      have QA := Lib.hid (World.ownsRow_made (base := w1.heap.size) (size := 1) (e := 3) w1 #[] 0 (Nat.le_refl _) (Nat.zero_le _) rfl)
      have QB : Hid (((w1.alloc (.cells #[.int .i64 (j : Int)] 3)).alloc (.cells #[] 3)).ownsRow w1.heap.size 3 1 (.slice (some ⟨w1.heap.size + 1, 0, none⟩) 0 0) 0 (([] : List Int).map (.int .i64))) := Lib.hid (by
        have := World.ownsRow_made (base := w1.heap.size) (size := 1) (e := 3) (w1.alloc (.cells #[.int .i64 (j : Int)] 3)) #[] 0 (by simp) (Nat.zero_le _) rfl
        simpa using this)
      have YA : Hid (IntsAt ((w1.alloc (.cells #[] 3)).alloc (.cells #[.int .i64 (j : Int)] 3)) (fun k => k = w1.heap.size + 1) (some ⟨w1.heap.size + 1, 0, none⟩) 1 [(j : Int)]) := Lib.hid (IntsAt.lit rfl rfl (by simp) (by omega))
      have YB : Hid (IntsAt ((w1.alloc (.cells #[.int .i64 (j : Int)] 3)).alloc (.cells #[] 3)) (fun k => k = w1.heap.size) (some ⟨w1.heap.size, 0, none⟩) 1 [(j : Int)]) := Lib.hid (IntsAt.to (IntsAt.lit (W := w1) (cs := #[.int .i64 (j : Int)]) (t := 3) (xs := [(j : Int)]) (len := 1) rfl rfl rfl (by omega)) (fun b hb => ⟨hb, by subst hb; exact Below.heap_alloc _ _ _ (by simp)⟩))
      have B1 : Hid (Below w1.heap.size w1 (w1.alloc (.cells #[] 3)).drew) := Lib.hid ((Below.refl _ _).alloc (Nat.le_refl _) _).drew
      have B2 : Hid (Below w1.heap.size w1 ((w1.alloc (.cells #[] 3)).alloc (.cells #[.int .i64 (j : Int)] 3)).drew) := Lib.hid (((Below.refl _ _).alloc (Nat.le_refl _) _).alloc (by simp) _).drew
      have B3 : Hid (Below w1.heap.size w1 ((w1.alloc (.cells #[.int .i64 (j : Int)] 3)).alloc (.cells #[] 3)).drew) := Lib.hid (((Below.refl _ _).alloc (Nat.le_refl _) _).alloc (by simp) _).drew
      have hg2 : w.grownBy w1 (some R) := grown_r hg hg1
      have HALL2 : Hid (∀ x ∈ xs.take k ++ [(j : Int)] ++ xs.drop k, -1 ≤ x ∧ x ≤ n) := Lib.hid (by
        intro x hx
        rcases List.mem_append.1 hx with hx | hx
        · rcases List.mem_append.1 hx with hx | hx
          · exact hall x (List.mem_of_mem_take hx)
          · simp only [List.mem_singleton] at hx
            omega
        · exact hall x (List.mem_of_mem_drop hx))
      go_wp2_with fail
      go_region_law (first
        | (refine stepApp (by rfl) _ _ (by rfl) w1.heap.size 0 0 w1.heap.size [] (· < w1.heap.size) g 0 k cap (xs.take k) (by rfl) QA.out.drew (by rfl) (HT.out.below B1.out) B1.out.size k (by omega) (xs.take k) (by simp) (by omega) ?_
           intro g4 c4 w4 own4 hc4 gr4 hb4 hl4
           have BC := Lib.hid (B1.out.grown gr4 B1.out.size (by intro k e; injection e with e; omega)))
        | (refine stepApp (by rfl) _ _ (by rfl) w1.heap.size 0 0 w1.heap.size [] (· < w1.heap.size) g 0 k cap (xs.take k) (by rfl) (QA.out.alloc _).drew (by rfl) (HT.out.below B2.out) B2.out.size k (by omega) (xs.take k) (by simp) (by omega) ?_
           intro g4 c4 w4 own4 hc4 gr4 hb4 hl4
           have BA := Lib.hid (B2.out.grown gr4 B2.out.size (by intro k e; injection e with e; omega))
           have Y4 := Lib.hid (YA.out.grownEq gr4 rfl (by simp <;> omega) (by omega)))
        | (refine stepApp (by rfl) _ _ (by rfl) w1.heap.size 0 0 (w1.heap.size + 1) [] (· < w1.heap.size) g 0 k cap (xs.take k) (by rfl) QB.out.drew (by rfl) (HT.out.below B3.out) B3.out.size k (by omega) (xs.take k) (by simp) (by omega) ?_
           intro g4 c4 w4 own4 hc4 gr4 hb4 hl4
           have BA := Lib.hid (B3.out.grown gr4 B3.out.size (by intro k e; injection e with e; omega))
           have Y4 := Lib.hid (YB.out.grownEq gr4 rfl (by simp <;> omega) (by omega)))
        | (refine stepApp (by rfl) _ _ (by rfl) w1.heap.size k c4 g4 (xs.take k) (fun b => b = w4.heap.size) w4.heap.size 0 1 1 [(j : Int)] (by rfl) (own4.alloc _) (by rfl) (IntsAt.lit (W := w4) (cs := #[.int .i64 (j : Int)]) (t := 3) (xs := [(j : Int)]) (len := 1) rfl rfl rfl (by omega)) (by have := BC.out.size; simp; omega) (k + 1) rfl (xs.take k ++ [(j : Int)]) rfl (by omega) ?_
           intro g5 c5 w5 own5 hc5 gr5 hb5 hl5
           have B5 := Lib.hid ((BC.out.alloc BC.out.size _).grown gr5 (by have := BC.out.size; simp; omega) (by intro k e; injection e with e; omega)))
        | (refine stepApp (by rfl) _ _ (by rfl) w1.heap.size k c4 g4 (xs.take k) _ _ 0 1 1 [(j : Int)] (by rfl) own4 (by rfl) Y4.out BA.out.size (k + 1) rfl (xs.take k ++ [(j : Int)]) rfl (by omega) ?_
           intro g5 c5 w5 own5 hc5 gr5 hb5 hl5
           have B5 := Lib.hid (BA.out.grown gr5 BA.out.size (by intro k e; injection e with e; omega)))
        | (refine stepApp (by rfl) _ _ (by rfl) w1.heap.size (k + 1) c5 g5 (xs.take k ++ [(j : Int)]) (· < w1.heap.size) g AD (j - k) (cap - k) (xs.drop k) (by rfl) own5 (by rfl) (HD.out.below B5.out) B5.out.size (j + 1) (by omega) (xs.take k ++ [(j : Int)] ++ xs.drop k) rfl (by omega) ?_
           intro g6 c6 w6 own6 hc6 gr6 hb6 hl6
           have B6 := Lib.hid (B5.out.grown gr6 B5.out.size (by intro k e; injection e with e; omega))))
      all_goals (have H6 := Lib.hid own6; clear own6 own5 own4 gr4 gr5 gr6)
      all_goals go_wp2
      all_goals go_roundw
      case rel => exact ⟨j + 1, p' + 1, c6, g6, xs.take k ++ [(j : Int)] ++ xs.drop k, by go_num, rfl, own_base H6.out hg2.size, hc6, by omega, HALL2.out, hr1.grown (below_grown B6.out rfl none) (by simp), by omega, grown_r hg2 (below_grown B6.out rfl (some R))⟩
      case measure => simp [intOf]; omega
      case rel => exact ⟨j + 1, p' + 1, c6, g6, xs.take k ++ [(j : Int)] ++ xs.drop k, by go_num, rfl, own_base H6.out hg2.size, hc6, by omega, HALL2.out, hr1.grown (below_grown B6.out rfl none) (by simp), by omega, grown_r hg2 (below_grown B6.out rfl (some R))⟩
      case measure => simp [intOf]; omega
      case rel => exact ⟨j + 1, p' + 1, c6, g6, xs.take k ++ [(j : Int)] ++ xs.drop k, by go_num, rfl, own_base H6.out hg2.size, hc6, by omega, HALL2.out, hr1.grown (below_grown B6.out rfl none) (by simp), by omega, grown_r hg2 (below_grown B6.out rfl (some R))⟩
      case measure => simp [intOf]; omega
    · obtain rfl : j = n := by omega
      by_cases h0 : 0 < j
      · go_wp2_with fail
        refine (pick_any R p' 30 wo hr (by omega)).mono ?_
        rintro e w2 ⟨q, rfl, _, hr2, hg3⟩
        have ho2 := hown.kept hg3 (ne_low hown hR)
        have hg4 := grown_r hg hg3
        by_cases hq : q = 0
        · subst hq
          go_wp2_with fail
          refine (one_any (fun b => b = w2.heap.size) R (p' + 1) _ 2 2 [-1, (j : Int)] _ (hr2.alloc _) (IntsAt.lit rfl rfl rfl (by omega)) (by intro b hb; have := hr2.lt; simp; omega) (by omega) (by omega)).mono ?_
          rintro e w5 ⟨x, hx, rfl, hr5, hg5⟩
          have hxb : -1 ≤ x ∧ x ≤ j := by simp at hx; omega
          clear hx
          have hgw : w2.grownBy w5 (some R) := grown_r (World.grownBy_alloc w2 _ _) hg5
          have ho5 := ho2.kept hgw (ne_low ho2 hR)
          have hg6 := grown_r hg4 hgw
          have hg' : g < w5.heap.size := (ho5.lt g rfl).2
          have hgB : w.heap.size ≤ g := (ho5.lt g rfl).1
          obtain ⟨v1, hc1, hf1⟩ : ∃ v, w5.cell? ⟨g, 0, none⟩ = some v ∧ w5.frozen? ⟨g, 0, none⟩ = false := by
            have hl := ho5.1
            refine ⟨(xs.map (Value.int .i64))[0]'(by omega), ?_, ho5.frozenAt 0⟩
            rw [ho5.cellAt 0 (by omega)]
            exact List.getElem?_eq_getElem _
          obtain ⟨hst, hgs⟩ := ho5.stored 0 (.int .i64 x)
          have HST : Hid ((w5.setCell ⟨g, 0, none⟩ (.int .i64 x)).ownsRow w.heap.size 3 1 (.slice (some ⟨g, 0, none⟩) j cap) j ((xs.set 0 x).map (.int .i64))) := Lib.hid (by rw [List.map_set]; exact hst)
          have HGS := Lib.hid hgs
          clear hst hgs
          go_wp2
          go_ret
          refine ⟨g, cap, xs.set 0 x, rfl, HST.out, hjc, fun y hy => ?_, grown_trans hg6 HGS.out (by intro b hb; injection hb; omega)⟩
          rcases List.mem_or_eq_of_mem_set hy with hy | rfl
          · exact hall y hy
          · exact hxb
        · have hqe : ((q : Int) == 0) = false := by simp; omega
          go_wp2
          go_ret
          exact ⟨g, cap, xs, rfl, ho2, hjc, hall, hg4⟩
      · have h0' : ¬ (0 : Int) < (j : Int) := by omega
        go_wp2
        go_ret
        exact ⟨g, cap, xs, rfl, hown, hjc, hall, hg⟩
end Go.Proofs.Ytcikgbkehfepdab
namespace Go.Proofs.Ytcikgbkehfepdab
open Go.RowKit Go.WideShapes

def PairsPost (w : World) (R p : Nat) (e : Ending) (w' : World) : Prop := ∃ (a : Option Addr) (len cap : Nat) (rows : List (List Int)) (p' : Nat), e = .returned (.slice a len cap) ∧
      RowsAt w' (fun b => w.heap.size ≤ b ∧ b < w'.heap.size) a len rows ∧ len ≤ cap ∧ len ≤ 8 ∧ Rd w' R p' ∧ p' ≤ p + 1000 ∧ w.grownBy w' (some R)
theorem pairsPost_mk {w w' : World} {R p p' len cap M : Nat} {a : Option Addr} (h : OwnRows w' w.heap.size M (.slice a len cap) len) (hl : len ≤ cap) (h6 : len ≤ 8) (hr : Rd w' R p') (hp : p' ≤ p + 1000)
    (hg : w.grownBy w' (some R)) : PairsPost w R p (.returned (.slice a len cap)) w' := by
  obtain ⟨a', cap', rows, hv, _, hrows⟩ := h.rows (by omega)
  simp only [Value.slice.injEq] at hv
  obtain ⟨rfl, _, rfl⟩ := hv
  exact ⟨_, _, _, rows, p', rfl, hrows, hl, h6, hr, hp, hg⟩
theorem pair_hi {n : Int} (h : n ∈ [9, 4]) : 4 ≤ n ∧ n ≤ 9 := by simp at h; omega
theorem pair_x {n : Int} (h : n ∈ [10, -1]) : -1 ≤ n ∧ n ≤ 10 := by simp at h; omega
set_option maxRecDepth 100000 in
set_option maxHeartbeats 4000000 in
theorem somePairs_any (R p most : Nat) (w : World) (h : Rd w R p) (hp : p ≤ 900000) (hm8 : most ≤ 8) :
    Calls Try.prog 21 #[.pointer (some ⟨R, 0, none⟩), .int .i64 most] w (PairsPost w R p) := by
  have hR := h.lt
  obtain ⟨i1, hj, hy0, hy1, hy2⟩ := info_parts Try.infoInts
  go_enter Try.func21, Try.ntmps21
  go_wp2_with fail
  refine (one_any (fun k => k = w.heap.size + 1) R p _ 7 7 [4, 3, 5, 2, 1, 0, (most : Int)] _ ((h.alloc _).alloc _) (IntsAt.lit rfl rfl (by simp) (by omega)) (by intro b hb; simp; omega) (by omega) (by omega)).mono ?_
  rintro e w1 ⟨n, hn, rfl, hr1, hg1⟩
  obtain ⟨m, rfl, hm⟩ : ∃ m : Nat, n = (m : Int) ∧ m ≤ 8 := by simp at hn; exact ⟨n.toNat, by omega, by omega⟩
  clear hn
  have hg2 : w.grownBy w1 (some R) := grown_r (World.grownBy_alloc w _ _) (grown_r (World.grownBy_alloc _ _ _) hg1)
  have ho1 : OwnRows w1 w.heap.size w1.heap.size (.slice (some ⟨w.heap.size, 0, none⟩) 0 0) 0 :=
    OwnRows.nil rfl (grown_r (World.grownBy_alloc _ _ _) hg1) hR
  go_wp2_with fail
  go_loopw [5] (fun v wr => ∃ (k p' cap : Nat) (a : Option Addr), v = .slice a k cap ∧ k ≤ cap ∧ OwnRows wr w.heap.size wr.heap.size v k ∧ k ≤ m ∧ Rd wr R p' ∧ p' ≤ p + 1 + 30 * k ∧ w.grownBy wr (some R)) (fun v _ => m - capOf v)
  case atStart => exact ⟨0, p + 1, 0, _, rfl, Nat.le_refl _, ho1, Nat.zero_le _, hr1, Nat.le_refl _, hg2⟩
  case round =>
    clear ho1
    obtain ⟨k, p', cap, a, rfl, hkc, ho, hkm, hr, hpp, hg⟩ := hrel
    obtain ⟨wo, rfl⟩ : ∃ wo : World, wo = wr := ⟨_, rfl⟩
    by_cases hlt : k < m
    · go_wp2_with fail
      refine (one_any (fun b => b = wo.heap.size) R p' _ 2 2 [9, 4] _ (hr.alloc _) (IntsAt.lit rfl rfl rfl (by omega)) (by intro b hb; have := hr.lt; simp; omega) (by omega) (by omega)).mono ?_
      rintro e w3 ⟨hi, hhi, rfl, hr3, hg3⟩
      obtain ⟨hi1, hi2⟩ := pair_hi hhi
      clear hhi
      have ga3 : wo.grownBy w3 (some R) := grown_r (World.grownBy_alloc wo _ _) hg3
      go_wp2_with fail
      refine (listOf_any R (p' + 1) 2 0 hi w3 hr3 (by omega) (by omega) (by omega) (by omega) (by omega)).mono ?_
      rintro e w4 ⟨a5, c5, ts, rfl, ho5, hc5, hl5, _, hr4, hg4⟩
      have ga4 : wo.grownBy w4 (some R) := grown_r ga3 hg4
      have hw0 : w.heap.size ≤ w3.heap.size := Nat.le_trans hg.size ga3.size
      have ho3 := (ho.low ga3 hR).up (M' := w3.heap.size) ga3.size
      obtain ⟨us, hout, hus⟩ := ho3.low hg4 hR
      have hgw4 := grown_r hg ga4
      go_wp2_with (at_builtin; refine wpList_append_own _ rfl _ _ 23 rfl w.heap.size 24 i1 (.slice none 0 0) 1 24 Try.underlying23 hj hy0 hy1 hy2 rfl (by decide) _ _ _ rfl (hout.alloc _) ⟨w4.heap.size, 0, none⟩ 1 1 [.slice a5 2 c5] rfl rfl ?c1 ?c2 ?c3 ?c4 ?c5 ?_)
      case c1 => exact one_new _ _ _
      case c2 => exact one_cell_slice _ _ _
      case c3 => unfold maxLen; omega
      case c4 => omega
      case c5 => have := hgw4.size; simp; omega
      intro v' w6 hown hgrow _
      obtain ⟨a6, c6, rfl, hjc6⟩ := own_slice hown
      have hgr : w4.grownBy w6 (Value.slice a k cap).ownBlock := grown_comp (World.grownBy_alloc w4 _ _) hgrow
      have HPUSH := Lib.hid (OwnRows.push ho5 hw0 hout hus hown hgr)
      have HR6 := Lib.hid (hr4.grown hgr (by intro b hb; have := (hout.lt b hb).1; omega))
      have HG6 := Lib.hid (grown_trans hgw4 hgr (by intro b hb; have := (hout.lt b hb).1; omega))
      clear hown hgrow hgr hout hus ho5
      go_wp2
      go_roundw
      case rel => exact ⟨k + 1, p' + 1 + 2, c6, a6, rfl, hjc6, HPUSH.out, by omega, HR6.out, by omega, HG6.out⟩
      case measure => simp [capOf] <;> omega
    · by_cases hk1 : 0 < k
      · obtain ⟨g, rfl, hgB⟩ := ho.addr (by omega)
        go_wp2_with fail
        refine (pick_any R p' 30 wo hr (by omega)).mono ?_
        rintro e w2 ⟨q, rfl, _, hr2, hg3⟩
        have ho2 := ho.low hg3 hR
        have hg4 := grown_r hg hg3
        by_cases hq : q = 0
        · subst hq
          go_wp2_with fail
          refine (one_any (fun b => b = w2.heap.size) R (p' + 1) _ 2 2 [10, -1] _ (hr2.alloc _) (IntsAt.lit rfl rfl rfl (by omega)) (by intro b hb; have := hr2.lt; simp; omega) (by omega) (by omega)).mono ?_
          rintro e w5 ⟨x, _, rfl, hr5, hg5⟩
          have hgw : w2.grownBy w5 (some R) := grown_r (World.grownBy_alloc w2 _ _) hg5
          have ho5 := ho2.low hgw hR
          have hg6 := grown_r hg4 hgw
          have hw5 : w.heap.size ≤ w5.heap.size := hg6.size
          have hlit := own_one w5 (B := w5.heap.size) (Nat.le_refl _) x
          have hsz : (w5.alloc (.cells #[.int .i64 x] 3)).heap.size = w5.heap.size + 1 := by simp
          obtain ⟨w6, hw6⟩ : ∃ w6, (w5.alloc (.cells #[.int .i64 x] 3)) = w6 := ⟨_, rfl⟩
          have ho6 := ho5.alloc (.cells #[.int .i64 x] 3)
          have hg7 := grown_alloc hg6 (.cells #[.int .i64 x] 3)
          have hr6 := hr5.alloc (.cells #[.int .i64 x] 3)
          rw [hw6] at hlit hsz ho6 hg7 hr6
          have HW6 := Lib.hid hw6
          have HSZ := Lib.hid hsz
          clear hw6 hsz ho5
          have HP := Lib.hid ho6
          have HL := Lib.hid hlit
          have HR6 := Lib.hid hr6
          have HG7 := Lib.hid hg7
          have HUP : wo.heap.size ≤ w5.heap.size := Nat.le_trans hg3.size hgw.size
          clear ho6 hlit hr6 hg7
          have HSZX : Value.slice (some ⟨w5.heap.size + 1, 0, none⟩) 1 1 = Value.slice (some ⟨w6.heap.size, 0, none⟩) 1 1 := by rw [HSZ.out]
          go_wp2_with (at_builtin; rw [HW6.out]; refine wpApp1 rfl _ _ rfl w5.heap.size 1 1 _ [x] 1 rfl HL.out rfl (by rw [HSZ.out]; omega) (by omega) ?_)
          intro a7 c7 w7 hown7 hc7 hgr7
          have ho7 := (HP.out.up (M' := w5.heap.size) HUP).ints HL.out hgr7
          have hr7 := HR6.out.grown hgr7 (by intro b hb; have := (HL.out.lt b hb).1; omega)
          have hg8 := grown_trans HG7.out hgr7 (by intro b hb; have := (HL.out.lt b hb).1; omega)
          obtain ⟨v1, hc1, hf1⟩ := ho7.cell (j := 0) hk1
          have hown8 : w7.ownsRow w.heap.size 3 1 (.slice a7 2 c7) 2 ([x, 1].map (.int .i64)) := own_base hown7 hw5
          obtain ⟨ho9, hg9⟩ := ho7.store (j := 0) hown8
          have H9 := Lib.hid ho9
          have G9 := Lib.hid hg9
          have G8 := Lib.hid hg8
          have R7 := Lib.hid hr7
          clear ho9 hg9 hg8 hr7 hown8 hown7 hgr7 ho7
          go_wp2
          go_ret
          exact pairsPost_mk H9.out hkc (by omega) (R7.out.grown G9.out (by intro b hb; injection hb; omega)) (by omega) (grown_trans G8.out G9.out (by intro b hb; injection hb; omega))
        · have hqe : ((q : Int) == 0) = false := by simp; omega
          go_wp2
          go_ret
          exact pairsPost_mk ho2 hkc (by omega) hr2 (by omega) hg4
      · have hk1' : ¬ (0 : Int) < (k : Int) := by omega
        go_wp2
        go_ret
        exact pairsPost_mk ho hkc (by omega) hr (by omega) hg
end Go.Proofs.Ytcikgbkehfepdab
namespace Go.Proofs.Ytcikgbkehfepdab
open Go.RowKit Go.WideShapes

/-- drawn jobs of two machines -/
def DrawnP (w : World) (e : Ending) (w' : World) : Prop := ∃ (a : Option Addr) (l c : Nat) (rows : List (List Int)), e = .returned (.slice a l c) ∧ RowsAt w' (· < w'.heap.size) a l rows ∧ l ≤ c ∧ l ≤ 8 ∧ Below w.heap.size w w'
/-- and an order, most often -/
def DrawnPO (w : World) (e : Ending) (w' : World) : Prop := ∃ (a : Option Addr) (l c : Nat) (rows : List (List Int)) (a2 : Option Addr) (l2 c2 : Nat) (xs : List Int), e = .returned (.tuple #[.slice a l c, .slice a2 l2 c2]) ∧
  RowsAt w' (· < w'.heap.size) a l rows ∧ l ≤ c ∧ l ≤ 8 ∧ IntsAt w' (· < w'.heap.size) a2 l2 xs ∧ l2 ≤ c2 ∧ l2 = l ∧ (∀ x ∈ xs, -1 ≤ x ∧ x ≤ 8) ∧ Below w.heap.size w w'
theorem drawSpanTried_any (a : Option Addr) (len cap : Nat) (w : World) (hb : BytesAt w w.heap.size a len) (hl : len ≤ cap) (hs : len ≤ 9223372036854775807) :
    Calls Try.prog 16 #[.slice a len cap] w (DrawnP w) := by
  go_enter Try.func16, Try.ntmps16
  go_wp2_with fail
  refine (newReader_any a len cap w hb hl hs).mono ?_
  rintro e w1 ⟨rfl, hr, hb1⟩
  go_wp2_with fail
  refine (somePairs_any w.heap.size 0 6 w1 hr (by omega) (by omega)).mono ?_
  rintro e w2 ⟨a2, l2, c2, rows, p2, rfl, h1, h2, h3, hr2, hp2, hg⟩
  have hbb : Below w.heap.size w w2 := grown_below hg hb1 hb1.size
  go_wp2_with fail
  go_ret
  exact ⟨a2, l2, c2, rows, rfl, h1.to (fun b hb => ⟨hb.2, rfl⟩), h2, h3, hbb⟩
theorem drawSpanByTurns_any (a : Option Addr) (len cap : Nat) (w : World) (hb : BytesAt w w.heap.size a len) (hl : len ≤ cap) (hs : len ≤ 9223372036854775807) :
    Calls Try.prog 7 #[.slice a len cap] w (DrawnPO w) := by
  go_enter Try.func7, Try.ntmps7
  go_wp2_with fail
  refine (newReader_any a len cap w hb hl hs).mono ?_
  rintro e w1 ⟨rfl, hr, hb1⟩
  go_wp2_with fail
  refine (somePairs_any w.heap.size 0 8 w1 hr (by omega) (by omega)).mono ?_
  rintro e w2 ⟨a2, l2, c2, rows, p2, rfl, h1, h2, h3, hr2, hp2, hg⟩
  go_wp2_with fail
  refine (orderOf_any w.heap.size p2 l2 w2 hr2 (by omega) h3).mono ?_
  rintro e w3 ⟨g3, c3, xs, rfl, ho3, hc3, hall, hg3⟩
  have hbb : Below w.heap.size w w3 := grown_below (grown_r hg hg3) hb1 hb1.size
  have hrw : RowsAt w3 (· < w3.heap.size) a2 l2 rows := h1.to (fun b hb => ⟨Nat.lt_of_lt_of_le hb.2 hg3.size, hg3.block b hb.2 (by have := hr.lt; simp; omega)⟩)
  have hiw : IntsAt w3 (· < w3.heap.size) (some ⟨g3, 0, none⟩) l2 xs := by
    obtain ⟨a', c', e', _, h'⟩ := own_ints ho3 (by omega)
    injection e' with e1 _ _
    subst e1
    exact h'.to fun b hb => ⟨hb.2, rfl⟩
  go_wp2
  go_ret2
  exact ⟨a2, l2, c2, rows, _, l2, c3, xs, rfl, hrw, h2, h3, hiw, hc3, rfl, (fun x hx => by have := hall x hx; omega), hbb⟩
end Go.Proofs.Ytcikgbkehfepdab
namespace Go.Proofs.Ytcikgbkehfepdab
open Go.RowKit Go.WideShapes

theorem cloM_false {A : List Nat} {s k : Nat} (h : cloM A s (k + 1) = false) : ∀ n, k < n → cloM A s n = false
  | n + 1, hn => by
    rcases Nat.lt_or_eq_of_le (Nat.le_of_lt_succ hn) with h1 | rfl
    · rw [cloM, cloM_false h n h1]; rfl
    · exact h
end Go.Proofs.Ytcikgbkehfepdab
namespace Go.Proofs.Ytcikgbkehfepdab

theorem scanP_bd {T : List Int} {c : Int} {t : List Int} {s : Nat} {B : Int} (h0 : -1 ≤ B) (hB : ∀ r, r < s → t.getD r 0 + 1 ≤ B) : ∀ R, R ≤ s → -1 ≤ scanP T c t s R ∧ scanP T c t s R ≤ B
  | 0, _ => ⟨Int.le_refl _, h0⟩
  | R + 1, h => by
    have := scanP_bd (T := T) (c := c) h0 hB R (by omega)
    have h1 := hB R (by omega)
    rw [scanP]; split
    · rename_i h2; have := h2.1.2.1; omega
    · exact this
theorem stP_bd {T : List Int} {A : List Nat} {c : Int} : ∀ N s, s ≤ N → -1 ≤ stP T A c s ∧ stP T A c s ≤ s
  | N, 0, _ => by show (-1 : Int) ≤ 0 ∧ (0 : Int) ≤ 0; omega
  | N + 1, s + 1, h => by
    rw [stP_succ]; unfold nxtP; split
    · exact scanP_bd (B := ((s + 1 : Nat) : Int)) (by omega) (fun r hr => by rw [tabP_at (show r ≤ s by omega)]; have := stP_bd (T := T) (A := A) (c := c) N r (by omega); omega) (s + 1) (Nat.le_refl _)
    · omega
theorem tabP_step (T : List Int) (A : List Nat) (c : Int) {k : Nat} (h : 1 ≤ k) : tabP T A c k = tabP T A c (k - 1) ++ [nxtP T A c (tabP T A c (k - 1)) k] := by
  obtain ⟨d, rfl⟩ : ∃ d, k = d + 1 := ⟨k - 1, by omega⟩
  rfl
theorem tab_bd {T : List Int} {A : List Nat} {c : Int} {k r : Nat} (h : r < k) : -1 ≤ (tabP T A c (k - 1)).getD r 0 ∧ (tabP T A c (k - 1)).getD r 0 ≤ r := by
  rw [tabP_at (show r ≤ k - 1 by omega)]; exact stP_bd r r (Nat.le_refl _)
theorem scan_bd {T : List Int} {A : List Nat} {c : Int} {k R : Nat} (h : R ≤ k) : -1 ≤ scanP T c (tabP T A c (k - 1)) k R ∧ scanP T c (tabP T A c (k - 1)) k R ≤ k :=
  scanP_bd (by omega) (fun r hr => by have := tab_bd (T := T) (A := A) (c := c) hr; omega) R h
end Go.Proofs.Ytcikgbkehfepdab
namespace Go.Proofs.Ytcikgbkehfepdab
open Go.RowKit Go.WideShapes

theorem own_lit (w : World) (xs : List Int) (len : Nat) (hl : xs.length = len) (hs : len ≤ 1048576) : (w.alloc (.cells (cellsOf xs) 3)).ownsRow w.heap.size 3 1 (.slice (some ⟨w.heap.size, 0, none⟩) len len) len (xs.map (.int .i64)) :=
  ⟨by simp [hl], .inr ⟨w.heap.size, len, cellsOf xs, rfl, Nat.le_refl _, heap_alloc_new w _, Nat.le_refl _, by unfold maxLen; omega, by simp [cellsOf, hl], by simp [cellsOf]; exact List.take_of_length_le (by simp [hl])⟩⟩
theorem drew_two {a b c : World} (h1 : Drew a b) (h2 : Drew b c) : Drew a c := by obtain ⟨q, rfl⟩ := h2; exact h1.drew q
end Go.Proofs.Ytcikgbkehfepdab
namespace Go.Proofs.Ytcikgbkehfepdab
open Go.RowKit Go.WideShapes

def lineP (T ys : List Int) (c : Int) : Prop := (∀ k, k < T.length → T.getD k 0 ≤ c) ∧ tasksP T ys ∧ inB 1 60 c = true
instance (T ys : List Int) (c : Int) : Decidable (lineP T ys c) := by unfold lineP; infer_instance
def lineM (T ys : List Int) (c : Int) : Bool := decide (lineP T ys c)
theorem lineM_yes {T ys : List Int} {c : Int} (h : lineP T ys c) : lineM T ys c = true := decide_eq_true h
theorem lineM_no {T ys : List Int} {c : Int} (h : ¬ lineP T ys c) : lineM T ys c = false := decide_eq_false h
theorem lineM_get {T ys : List Int} {c : Int} (h : lineM T ys c = true) : lineP T ys c := of_decide_eq_true h
theorem lineP_c {T ys : List Int} {c : Int} (h : lineP T ys c) : 1 ≤ c ∧ c ≤ 60 := by simpa [inB] using h.2.2
def fewRes (T ys : List Int) (c : Int) : Int := if lineP T ys c then fewM T (natsOf ys) c else -1
end Go.Proofs.Ytcikgbkehfepdab
