import Derived.Test.YtkjmpkincaainadRows
import Derived.WalkKit
import Derived.LoopTactic
import Derived.Outline
import Derived.WalkSpells
import Derived.WalkLawsBesides
import Derived.ProofKit
import Derived.Deep.RegionLaw
import Derived.Deep.AppendLies
import Derived.Test.YtkjmpkincaainadM0
import Derived.Test.YtkjmpkincaainadM1
import Derived.Test.YtkjmpkincaainadM4
import Derived.Test.YtkjmpkincaainadM2
namespace Go.Proofs.Ytkjmpkincaainad
open Go.RowKit Go.WideShapes

set_option maxRecDepth 100000 in
/-- append of a list to a list of the call's own, at a step of a region that draws; the source may be empty -/
theorem stepApp {ops : Array Oper} {o : Oper} {a : Act} {K : Act → World → Prop} {Q : Exit → Act → World → Prop} {E : Prop} {wo : World} (hgd : o.guard = none) (s x : Operand)
    (ho : o.op = .call { callee := .builtin .append, args := #[s, x], argTypes := #[23, 23] })
    (base k cp gx : Nat) (xs : List Int) (S : Nat → Prop) (b off m c : Nat) (ys : List Int) (hs : a.eval s = .slice (some ⟨gx, 0, none⟩) k cp)
    (hown : wo.ownsRow base 3 1 (.slice (some ⟨gx, 0, none⟩) k cp) k (xs.map (.int .i64))) (hx : a.eval x = .slice (some ⟨b, off, none⟩) m c) (hy : IntsAt wo S (some ⟨b, off, none⟩) m ys)
    (hbase : base ≤ wo.heap.size) (km : Nat) (hkm : k + m = km) (zs : List Int) (hzs : xs ++ ys = zs) (hk : km ≤ 1048576)
    (h : ∀ (g6 c6 : Nat) (w' : World), w'.ownsRow base 3 1 (.slice (some ⟨g6, 0, none⟩) km c6) km (zs.map (.int .i64)) → km ≤ c6 → wo.grownBy w' (some gx) → base ≤ g6 → g6 < w'.heap.size →
      K (a.put o.dst (.slice (some ⟨g6, 0, none⟩) km c6)) w') :
    if Region.wanted o (yielded ops a.tmps) = true then Oper.wp Try.prog o a wo K Q else E := by
  subst hkm
  subst hzs
  have hw : Region.wanted o (yielded ops a.tmps) = true := by simp [Region.wanted, hgd]
  rw [if_pos hw]
  obtain ⟨i0, hi, hz0, hz1, hz2⟩ := info_parts Try.infoIntO
  obtain ⟨v', w', hr, h2, h3, h4, _⟩ := run_append_own_at (P := Try.prog) wo base 23 o.type 3 i0 (.int .i64 0) 1 8 Try.underlying23 hi hz0 hz1 hz2 rfl (by decide) _ k _ hown ⟨b, off, none⟩ m c (ys.map (.int .i64)) (by simp [hy.lenEq]) (by
    intro j u hj
    rw [List.getElem?_map] at hj
    cases hq : ys[j]? with
    | none => rw [hq] at hj; cases hj
    | some z =>
      rw [hq] at hj
      simp only [Option.map_some, Option.some.injEq] at hj
      have hlt : j < ys.length := (List.getElem?_eq_some_iff.1 hq).1
      obtain ⟨b', off', e, _, hc⟩ := hy.cells (by have := hy.lenEq; omega)
      cases e
      rw [add_plain, hc _ _ hq, ← hj]) (by
    intro u hu
    obtain ⟨x, _, rfl⟩ := List.mem_map.1 hu
    rfl) (by unfold maxLen; omega) (by omega) hbase
  unfold Oper.wp execOp
  simp only [ho, resolve, invoke, builtin, Sem.run_bind, Sem.run_pure, Result.andThen_ok, List.map_toArray, List.map_cons, List.map_nil, hs, hx, hr]
  obtain ⟨a6, c6, rfl, hc⟩ := own_slice h2
  rcases h2.2 with ⟨e1, e2⟩ | ⟨g, cap, cur, hv, hb, hg, _⟩
  · exact absurd (h4.1 (by injection e1 with e3 _ e4; subst e3; subst e4; rw [e2])).1 (by simp)
  · injection hv with e3 _ e4
    subst e3
    rw [← List.map_append] at h2
    refine h g c6 w' h2 hc h3 hb ?_
    rcases Nat.lt_or_ge g w'.heap.size with hlt | hge
    · exact hlt
    · rw [Array.getElem?_eq_none hge] at hg; cases hg

theorem IntsAt.takeI {w : World} {S : Nat → Prop} {b off len : Nat} {xs : List Int} (h : IntsAt w S (some ⟨b, off, none⟩) len xs) (k : Nat) (hk : k ≤ len) : IntsAt w S (some ⟨b, off, none⟩) k (xs.take k) := by
  have hl := h.lenEq
  have hs := h.small
  refine ⟨by simp; omega, by omega, fun h0 => ?_⟩
  obtain ⟨b', off', e, hS, hc⟩ := h.cells (by omega)
  cases e
  refine ⟨_, _, rfl, hS, fun i x hx => hc i x ?_⟩
  rw [List.getElem?_take] at hx
  split at hx
  · exact hx
  · cases hx
theorem IntsAt.dropI {w : World} {S : Nat → Prop} {b len : Nat} {xs : List Int} (h : IntsAt w S (some ⟨b, 0, none⟩) len xs) (k : Nat) (hk : k ≤ len) : IntsAt w S (some ⟨b, k, none⟩) (len - k) (xs.drop k) := by
  have hl := h.lenEq
  have hs := h.small
  refine ⟨by simp; omega, by omega, fun h0 => ?_⟩
  obtain ⟨b', off', e, hS, hc⟩ := h.cells (by omega)
  cases e
  refine ⟨_, _, rfl, hS, fun i x hx => ?_⟩
  rw [List.getElem?_drop] at hx
  have := hc _ x hx
  rwa [Nat.zero_add] at this
theorem IntsAt.grownEq {W W' w' : World} {b r len : Nat} {xs : List Int} (h : IntsAt W (fun k => k = b) (some ⟨b, 0, none⟩) len xs) (hg : W'.grownBy w' (some r)) (he : W'.heap = W.heap) (hb : b < W'.heap.size) (hr : b ≠ r) :
    IntsAt w' (fun k => k = b) (some ⟨b, 0, none⟩) len xs :=
  h.to fun k hk => ⟨hk, by subst hk; rw [hg.block _ hb (by simp; omega), he]⟩
theorem below_grown {n : Nat} {w w' : World} (h : Below n w w') (hn : n = w.heap.size) (r : Option Nat) : w.grownBy w' r := by
  subst hn
  exact ⟨h.os, h.tape, h.output, h.size, fun k hk _ => h.block k hk⟩
def OrderPost (w : World) (R p n : Nat) (e : Ending) (w' : World) : Prop := ∃ (g cap : Nat) (xs : List Int), e = .returned (.slice (some ⟨g, 0, none⟩) n cap) ∧
  w'.ownsRow w.heap.size 3 1 (.slice (some ⟨g, 0, none⟩) n cap) n (xs.map (.int .i64)) ∧ n ≤ cap ∧ (∀ x ∈ xs, -1 ≤ x ∧ x ≤ n) ∧ w.grownBy w' (some R)
end Go.Proofs.Ytkjmpkincaainad
namespace Go.Proofs.Ytkjmpkincaainad
open Go.RowKit Go.WideShapes

def PairsPost (w : World) (R p : Nat) (e : Ending) (w' : World) : Prop := ∃ (a : Option Addr) (len cap : Nat) (rows : List (List Int)) (p' : Nat), e = .returned (.slice a len cap) ∧
      RowsAt w' (fun b => w.heap.size ≤ b ∧ b < w'.heap.size) a len rows ∧ len ≤ cap ∧ len ≤ 8 ∧ Rd w' R p' ∧ p' ≤ p + 1000 ∧ w.grownBy w' (some R)
theorem pairsPost_mk {w w' : World} {R p p' len cap M : Nat} {a : Option Addr} (h : OwnRows w' w.heap.size M (.slice a len cap) len) (hl : len ≤ cap) (h6 : len ≤ 8) (hr : Rd w' R p') (hp : p' ≤ p + 1000)
    (hg : w.grownBy w' (some R)) : PairsPost w R p (.returned (.slice a len cap)) w' := by
  obtain ⟨a', cap', rows, hv, _, hrows⟩ := h.rows (by omega)
  simp only [Value.slice.injEq] at hv
  obtain ⟨rfl, _, rfl⟩ := hv
  exact ⟨_, _, _, rows, p', rfl, hrows, hl, h6, hr, hp, hg⟩
theorem pair_hi {n : Int} (h : n ∈ [9, 4]) : 4 ≤ n ∧ n ≤ 9 := by simp at h; omega
theorem pair_x {n : Int} (h : n ∈ [10, -1]) : -1 ≤ n ∧ n ≤ 10 := by simp at h; omega
end Go.Proofs.Ytkjmpkincaainad
namespace Go.Proofs.Ytkjmpkincaainad
open Go.RowKit Go.WideShapes

theorem own_lit3 (w : World) {B : Nat} (hB : B ≤ w.heap.size) (x y z : Int) : (w.alloc (.cells #[.int .i64 x, .int .i64 y, .int .i64 z] 3)).ownsRow B 3 1 (.slice (some ⟨w.heap.size, 0, none⟩) 3 3) 3 ([x, y, z].map (.int .i64)) :=
  ⟨rfl, .inr ⟨w.heap.size, 3, _, rfl, hB, heap_alloc_new w _, Nat.le_refl _, by unfold maxLen; omega, rfl, rfl⟩⟩
theorem job_t {n : Int} (h : n ∈ [5, 9]) : 5 ≤ n ∧ n ≤ 9 := by simp at h; omega
theorem job_d {n : Int} (h : n ∈ [12, 25, 6]) : 6 ≤ n ∧ n ≤ 25 := by simp at h; omega
end Go.Proofs.Ytkjmpkincaainad
