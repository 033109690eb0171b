import Derived.Test.YtkjmpkincaainadRows
import Derived.WalkKit
import Derived.ProofKit
import Derived.Test.YtkjmpkincaainadM0
import Derived.Test.YtkjmpkincaainadM1
import Derived.Test.YtkjmpkincaainadM4
import Derived.LoopTactic
import Derived.Outline
import Derived.WalkSpells
import Derived.WalkLawsBesides
import Derived.Deep.RegionLaw
import Derived.Deep.AppendLies
namespace Go.Proofs.Ytkjmpkincaainad
open Go.RowKit Go.WideShapes

/-- a list made behind the reader R, ahead of block B -/
def LAt (w : World) (R B : Nat) (a : Option Addr) (l : Nat) (xs : List Int) : Prop := IntsAt w (fun b => R < b ∧ b < B) a l xs ∧ B ≤ w.heap.size
theorem LAt.step {w w' : World} {R B l : Nat} {a : Option Addr} {xs : List Int} (h : LAt w R B a l xs) (hg : w.grownBy w' (some R)) : LAt w' R B a l xs :=
  ⟨h.1.to (fun b hb => ⟨hb, hg.block b (Nat.lt_of_lt_of_le hb.2 h.2) (by intro e; injection e; omega)⟩), Nat.le_trans h.2 hg.size⟩
theorem LAt.stepR {w w' : World} {R B l : Nat} {a : Option Addr} {xs : List Int} {r : Option Nat} (h : LAt w R B a l xs) (hg : w.grownBy w' r) (hr : ∀ k, r = some k → B ≤ k) : LAt w' R B a l xs :=
  ⟨h.1.to (fun b hb => ⟨hb, hg.block b (Nat.lt_of_lt_of_le hb.2 h.2) (by intro e; have := hr b e.symm; omega)⟩), Nat.le_trans h.2 hg.size⟩
theorem LAt.alloc {w : World} {R B l : Nat} {a : Option Addr} {xs : List Int} (h : LAt w R B a l xs) (o : Obj) : LAt (w.alloc o) R B a l xs := h.step (World.grownBy_alloc _ _ _)
theorem LAt.low {w : World} {R B l : Nat} {a : Option Addr} {xs : List Int} (h : LAt w R B a l xs) : IntsAt w (· < w.heap.size) a l xs := h.1.to (fun _ hb => ⟨Nat.lt_of_lt_of_le hb.2 h.2, rfl⟩)
theorem lat_new {w w' : World} {R l : Nat} {a : Option Addr} {xs : List Int} (h : IntsAt w' (fun b => w.heap.size ≤ b ∧ b < w'.heap.size) a l xs) (hR : R < w.heap.size) : LAt w' R w'.heap.size a l xs :=
  ⟨h.to (fun _ hb => ⟨⟨by omega, hb.2⟩, rfl⟩), Nat.le_refl _⟩
theorem lat_own {w w' : World} {R l cp : Nat} {a : Option Addr} {xs : List Int} (h : w'.ownsRow w.heap.size 3 1 (.slice a l cp) l (xs.map (.int .i64))) (hR : R < w.heap.size) (hl : l ≤ 9223372036854775807) : LAt w' R w'.heap.size a l xs := by
  obtain ⟨ay, cy, hve, _, hints⟩ := own_ints h hl
  simp only [Value.slice.injEq] at hve
  obtain ⟨rfl, _, rfl⟩ := hve
  exact lat_new hints hR
theorem own_low {w : World} {B l cp : Nat} {a : Option Addr} {xs : List Int} (h : w.ownsRow B 3 1 (.slice a l cp) l (xs.map (.int .i64))) (hl : l ≤ 9223372036854775807) : IntsAt w (· < w.heap.size) a l xs := by
  obtain ⟨ay, cy, hve, _, hints⟩ := own_ints h hl
  simp only [Value.slice.injEq] at hve
  obtain ⟨rfl, _, rfl⟩ := hve
  exact hints.to (fun _ hb => ⟨hb.2, rfl⟩)
theorem grown_of_below {w w' : World} (h : Below w.heap.size w w') (r : Option Nat) : w.grownBy w' r := ⟨h.os, h.tape, h.output, h.size, fun b hb _ => h.block b hb⟩
theorem Rd.step {w w' : World} {R p : Nat} (h : Rd w R p) (hb : Below w.heap.size w w') : Rd w' R p :=
  h.grown (r := none) (grown_of_below hb none) (fun k e => by cases e)
theorem own_step {w w' : World} {B R l : Nat} {v : Value} {xs : List Value} (h : w.ownsRow B 3 1 v l xs) (hg : w.grownBy w' (some R)) (hR : R < B) : w'.ownsRow B 3 1 v l xs := h.kept hg (ne_low h hR)
end Go.Proofs.Ytkjmpkincaainad
namespace Go.Proofs.Ytkjmpkincaainad
open Go.RowKit Go.WideShapes

theorem Try.infoIntD : (Try.prog.info? 3).map (fun i => (i.zero, i.size, i.bytes)) = some (some (.int .i64 0), 1, 8) := by kernel_rfl

/-- the days that are drawn -/
def DaysOk (xs : List Int) : Prop := xs.length ≤ 9 ∧ (∀ k, -1 ≤ xs.getD k 0) ∧ (∀ k, xs.getD k 0 ≤ if k = 0 then 21 else 12)
theorem daysOk_of {xs : List Int} (hl : xs.length ≤ 9) (h : ∀ x ∈ xs, 0 ≤ x ∧ x ≤ 12) : DaysOk xs := by
  have key : ∀ k, 0 ≤ xs.getD k 0 ∧ xs.getD k 0 ≤ 12 := by
    intro k
    rcases Nat.lt_or_ge k xs.length with h' | h'
    · exact h _ (List.mem_of_getElem? (get_getD h'))
    · rw [getD_past h']; omega
  exact ⟨hl, fun k => by have := key k; omega, fun k => by have := key k; split <;> omega⟩
theorem daysOk_set {xs : List Int} {x : Int} (hl : xs.length ≤ 9) (h : ∀ x ∈ xs, 0 ≤ x ∧ x ≤ 12) (hx : x = -1 ∨ x = 21) : DaysOk (xs.set 0 x) := by
  have key : ∀ k, 0 ≤ xs.getD k 0 ∧ xs.getD k 0 ≤ 12 := by
    intro k
    rcases Nat.lt_or_ge k xs.length with h' | h'
    · exact h _ (List.mem_of_getElem? (get_getD h'))
    · rw [getD_past h']; omega
  have e : ∀ k, (xs.set 0 x).getD k 0 = if k = 0 ∧ 0 < xs.length then x else xs.getD k 0 := by
    intro k
    rw [List.getD_eq_getElem?_getD, List.getD_eq_getElem?_getD, List.getElem?_set]
    by_cases hk : 0 = k
    · subst hk
      by_cases hp : 0 < xs.length
      · rw [if_pos rfl, if_pos hp, if_pos ⟨rfl, hp⟩]; rfl
      · rw [if_pos rfl, if_neg hp, if_neg (by omega), List.getElem?_eq_none (by omega)]
    · rw [if_neg hk, if_neg (by omega)]
  refine ⟨by rw [List.length_set]; exact hl, fun k => ?_, fun k => ?_⟩
  · rw [e]; have := key k; split <;> omega
  · rw [e]; have := key k; split <;> split <;> omega

def DaysPost (w : World) (R p : Nat) (e : Ending) (w' : World) : Prop := ∃ (a : Option Addr) (len cap : Nat) (xs : List Int) (p' : Nat), e = .returned (.slice a len cap) ∧
  w'.ownsRow w.heap.size 3 1 (.slice a len cap) len (xs.map (.int .i64)) ∧ len ≤ cap ∧ len ≤ 9 ∧ DaysOk xs ∧ Rd w' R p' ∧ p' ≤ p + 100 ∧ w.grownBy w' (some R)
theorem DaysPost.mk {w w' : World} {R p p' : Nat} {a : Option Addr} {len cap : Nat} {xs : List Int} (h : w'.ownsRow w.heap.size 3 1 (.slice a len cap) len (xs.map (.int .i64))) (hl : len ≤ 9) (hd : DaysOk xs) (hr : Rd w' R p') (hp : p' ≤ p + 100) (hg : w.grownBy w' (some R)) :
    DaysPost w R p (.returned (.slice a len cap)) w' := by
  obtain ⟨a', cap', e, hc⟩ := own_slice h
  simp only [Value.slice.injEq] at e
  obtain ⟨rfl, _, rfl⟩ := e
  exact ⟨_, _, _, xs, p', rfl, h, hc, hl, hd, hr, hp, hg⟩
theorem ro {R : Nat} : ∀ k, some R = some k → k = R ∨ False := by intro k e; cases e; exact Or.inl rfl

theorem most_n {n : Int} (h : n ∈ [6, 12, 3]) : 3 ≤ n ∧ n ≤ 12 := by simp at h; omega
theorem days_n {n : Int} (h : n ∈ [5, 6, 4, 8, 3, 2, 1, 0, 9]) : ∃ m : Nat, n = (m : Int) ∧ m ≤ 9 := by simp at h; exact ⟨n.toNat, by omega, by omega⟩
theorem grown_r {a b c : World} {R : Nat} (h : a.grownBy b (some R)) (g : b.grownBy c (some R)) : a.grownBy c (some R) := grown_trans h g (fun k e => by cases e; exact Or.inl rfl)

end Go.Proofs.Ytkjmpkincaainad
namespace Go.Proofs.Ytkjmpkincaainad
open Go.RowKit Go.WideShapes

/-- a list that is drawn: numbers in lo..hi -/
def ListPost (w : World) (R p n : Nat) (lo hi : Int) (e : Ending) (w' : World) : Prop := ∃ (a : Option Addr) (cap : Nat) (xs : List Int), e = .returned (.slice a n cap) ∧
  w'.ownsRow w.heap.size 3 1 (.slice a n cap) n (xs.map (.int .i64)) ∧ n ≤ cap ∧ xs.length = n ∧ (∀ x ∈ xs, lo ≤ x ∧ x ≤ hi) ∧ Rd w' R (p + n) ∧ w.grownBy w' (some R)

set_option maxRecDepth 100000 in
set_option maxHeartbeats 2000000 in
theorem listOf_any (R p n : Nat) (lo hi : Int) (w : World) (h : Rd w R p) (hp : p ≤ 1000000) (hn : n ≤ 1000) (hlo : -1000 ≤ lo) (hlh : lo ≤ hi) (hhi : hi ≤ 1000) :
    Calls Try.prog 45 #[.pointer (some ⟨R, 0, none⟩), .int .i64 n, .int .i64 lo, .int .i64 hi] w (ListPost w R p n lo hi) := by
  have hR := h.lt
  obtain ⟨i0, hi0, hz0, hz1, hz2⟩ := info_parts Try.infoIntD
  have ho0 := World.ownsRow_made (base := w.heap.size) (size := 1) (e := 3) w #[] 0 (Nat.le_refl _) (Nat.zero_le _) rfl
  go_enter Try.func45, Try.ntmps45
  go_wp2_with fail
  go_loopw [9] (fun v wr => ∃ (k cap : Nat) (a : Option Addr) (xs : List Int), v = .slice a k cap ∧ wr.ownsRow w.heap.size 3 1 v k (xs.map (.int .i64)) ∧ k ≤ n ∧ (∀ x ∈ xs, lo ≤ x ∧ x ≤ hi) ∧ Rd wr R (p + k) ∧ w.grownBy wr (some R)) (fun v _ => n - capOf v)
  case atStart => exact ⟨0, _, _, [], rfl, ho0, Nat.zero_le _, (fun x hx => by cases hx), h.alloc _, World.grownBy_alloc _ _ _⟩
  case round =>
    obtain ⟨k, cap, a, xs, rfl, hown, hkm, hall, hr, hg⟩ := hrel
    obtain ⟨wo, rfl⟩ : ∃ wo : World, wo = wr := ⟨_, rfl⟩
    have hsz := hg.size
    have HOWN := Lib.hid hown
    have HALL := Lib.hid hall
    clear hown hall
    by_cases hlt : k < n
    · go_wp2_with fail
      refine (pick_any R (p + k) (hi - lo + 1) wo hr (by omega)).mono ?_
      rintro e w5 ⟨q1, rfl, hq1, hr5, hgw⟩
      have HO5 := Lib.hid (HOWN.out.kept hgw (ne_low HOWN.out hR))
      have hg6 := grown_r hg hgw
      have hxb : lo ≤ lo + (q1 : Int) ∧ lo + (q1 : Int) ≤ hi := by omega
      go_wp2_with (at_builtin; refine wpList_append_own _ rfl _ _ 23 rfl w.heap.size 3 i0 (.int .i64 0) 1 8 Try.underlying23 hi0 hz0 hz1 hz2 rfl (by decide) _ _ _ rfl (HO5.out.alloc _) ⟨w5.heap.size, 0, none⟩ 1 1 [.int .i64 (lo + (q1 : Int))] rfl rfl ?c1 ?c2 ?c3 ?c4 ?c5 ?_)
      case c1 => exact one_new _ _ _
      case c2 => exact one_cell_int _ _
      case c3 => unfold maxLen; omega
      case c4 => omega
      case c5 => have := hgw.size; simp; omega
      intro v' w6 hown hgrow _
      obtain ⟨a6, c6, rfl, _⟩ := own_slice hown
      have hgr : w5.grownBy w6 (Value.slice a k cap).ownBlock := grown_comp (World.grownBy_alloc w5 _ _) hgrow
      have HO6 := Lib.hid hown
      have HG6 := Lib.hid hgr
      clear hown hgr hgrow
      go_wp2
      go_roundw
      case rel => exact ⟨k + 1, c6, a6, xs ++ [lo + (q1 : Int)], rfl, by rw [List.map_append]; exact HO6.out, by omega, (fun y hy => by
        rcases List.mem_append.1 hy with h' | h'
        · exact HALL.out y h'
        · simp only [List.mem_singleton] at h'; rw [h']; exact hxb), hr5.grown HG6.out (by intro b hb; have := (HO5.out.lt b hb).1; omega), grown_trans hg6 HG6.out (by intro b hb; have := (HO5.out.lt b hb).1; omega)⟩
      case measure => simp [capOf]; omega
    · obtain rfl : k = n := by omega
      go_wp2
      go_ret
      obtain ⟨a', c', e, hc⟩ := own_slice HOWN.out
      simp only [Value.slice.injEq] at e
      obtain ⟨rfl, _, rfl⟩ := e
      have hl := HOWN.out.1
      exact ⟨_, _, xs, rfl, HOWN.out, hc, by simpa using hl, HALL.out, hr, hg⟩
end Go.Proofs.Ytkjmpkincaainad
namespace Go.Proofs.Ytkjmpkincaainad
open Go.RowKit Go.WideShapes

theorem Try.infoInt : (Try.prog.info? 3).map (fun i => (i.zero, i.size, i.bytes)) = some (some (.int .i64 0), 1, 8) := by kernel_rfl
theorem Try.infoInts : (Try.prog.info? 23).map (fun i => (i.zero, i.size, i.bytes)) = some (some (.slice none 0 0), 1, 24) := by kernel_rfl

theorem bill_n {n : Int} (h : n ∈ [4, 5, 3, 6, 2, 1, 0]) : ∃ m : Nat, n = (m : Int) ∧ m ≤ 6 := by
  simp at h
  exact ⟨n.toNat, by omega, by omega⟩

def BillPost (w : World) (R p : Nat) (e : Ending) (w' : World) : Prop := ∃ (a : Option Addr) (len cap : Nat) (rows : List (List Int)) (p' : Nat), e = .returned (.slice a len cap) ∧
      RowsAt w' (fun b => w.heap.size ≤ b ∧ b < w'.heap.size) a len rows ∧ len ≤ cap ∧ len ≤ 6 ∧ Rd w' R p' ∧ p' ≤ p + 1000 ∧ w.grownBy w' (some R)
theorem billPost_mk {w w' : World} {R p p' len cap M : Nat} {a : Option Addr} (h : OwnRows w' w.heap.size M (.slice a len cap) len) (hl : len ≤ cap) (h6 : len ≤ 6) (hr : Rd w' R p') (hp : p' ≤ p + 1000)
    (hg : w.grownBy w' (some R)) : BillPost w R p (.returned (.slice a len cap)) w' := by
  obtain ⟨a', cap', rows, hv, _, hrows⟩ := h.rows (by omega)
  simp only [Value.slice.injEq] at hv
  obtain ⟨rfl, _, rfl⟩ := hv
  exact ⟨_, _, _, rows, p', rfl, hrows, hl, h6, hr, hp, hg⟩

end Go.Proofs.Ytkjmpkincaainad
namespace Go.Proofs.Ytkjmpkincaainad
open Go.RowKit Go.WideShapes

set_option maxRecDepth 100000 in
/-- append of a list to a list of the call's own, at a step of a region that draws; the source may be empty -/
theorem stepApp {ops : Array Oper} {o : Oper} {a : Act} {K : Act → World → Prop} {Q : Exit → Act → World → Prop} {E : Prop} {wo : World} (hgd : o.guard = none) (s x : Operand)
    (ho : o.op = .call { callee := .builtin .append, args := #[s, x], argTypes := #[23, 23] })
    (base k cp gx : Nat) (xs : List Int) (S : Nat → Prop) (b off m c : Nat) (ys : List Int) (hs : a.eval s = .slice (some ⟨gx, 0, none⟩) k cp)
    (hown : wo.ownsRow base 3 1 (.slice (some ⟨gx, 0, none⟩) k cp) k (xs.map (.int .i64))) (hx : a.eval x = .slice (some ⟨b, off, none⟩) m c) (hy : IntsAt wo S (some ⟨b, off, none⟩) m ys)
    (hbase : base ≤ wo.heap.size) (km : Nat) (hkm : k + m = km) (zs : List Int) (hzs : xs ++ ys = zs) (hk : km ≤ 1048576)
    (h : ∀ (g6 c6 : Nat) (w' : World), w'.ownsRow base 3 1 (.slice (some ⟨g6, 0, none⟩) km c6) km (zs.map (.int .i64)) → km ≤ c6 → wo.grownBy w' (some gx) → base ≤ g6 → g6 < w'.heap.size →
      K (a.put o.dst (.slice (some ⟨g6, 0, none⟩) km c6)) w') :
    if Region.wanted o (yielded ops a.tmps) = true then Oper.wp Try.prog o a wo K Q else E := by
  subst hkm
  subst hzs
  have hw : Region.wanted o (yielded ops a.tmps) = true := by simp [Region.wanted, hgd]
  rw [if_pos hw]
  obtain ⟨i0, hi, hz0, hz1, hz2⟩ := info_parts Try.infoIntO
  obtain ⟨v', w', hr, h2, h3, h4, _⟩ := run_append_own_at (P := Try.prog) wo base 23 o.type 3 i0 (.int .i64 0) 1 8 Try.underlying23 hi hz0 hz1 hz2 rfl (by decide) _ k _ hown ⟨b, off, none⟩ m c (ys.map (.int .i64)) (by simp [hy.lenEq]) (by
    intro j u hj
    rw [List.getElem?_map] at hj
    cases hq : ys[j]? with
    | none => rw [hq] at hj; cases hj
    | some z =>
      rw [hq] at hj
      simp only [Option.map_some, Option.some.injEq] at hj
      have hlt : j < ys.length := (List.getElem?_eq_some_iff.1 hq).1
      obtain ⟨b', off', e, _, hc⟩ := hy.cells (by have := hy.lenEq; omega)
      cases e
      rw [add_plain, hc _ _ hq, ← hj]) (by
    intro u hu
    obtain ⟨x, _, rfl⟩ := List.mem_map.1 hu
    rfl) (by unfold maxLen; omega) (by omega) hbase
  unfold Oper.wp execOp
  simp only [ho, resolve, invoke, builtin, Sem.run_bind, Sem.run_pure, Result.andThen_ok, List.map_toArray, List.map_cons, List.map_nil, hs, hx, hr]
  obtain ⟨a6, c6, rfl, hc⟩ := own_slice h2
  rcases h2.2 with ⟨e1, e2⟩ | ⟨g, cap, cur, hv, hb, hg, _⟩
  · exact absurd (h4.1 (by injection e1 with e3 _ e4; subst e3; subst e4; rw [e2])).1 (by simp)
  · injection hv with e3 _ e4
    subst e3
    rw [← List.map_append] at h2
    refine h g c6 w' h2 hc h3 hb ?_
    rcases Nat.lt_or_ge g w'.heap.size with hlt | hge
    · exact hlt
    · rw [Array.getElem?_eq_none hge] at hg; cases hg

theorem IntsAt.takeI {w : World} {S : Nat → Prop} {b off len : Nat} {xs : List Int} (h : IntsAt w S (some ⟨b, off, none⟩) len xs) (k : Nat) (hk : k ≤ len) : IntsAt w S (some ⟨b, off, none⟩) k (xs.take k) := by
  have hl := h.lenEq
  have hs := h.small
  refine ⟨by simp; omega, by omega, fun h0 => ?_⟩
  obtain ⟨b', off', e, hS, hc⟩ := h.cells (by omega)
  cases e
  refine ⟨_, _, rfl, hS, fun i x hx => hc i x ?_⟩
  rw [List.getElem?_take] at hx
  split at hx
  · exact hx
  · cases hx
theorem IntsAt.dropI {w : World} {S : Nat → Prop} {b len : Nat} {xs : List Int} (h : IntsAt w S (some ⟨b, 0, none⟩) len xs) (k : Nat) (hk : k ≤ len) : IntsAt w S (some ⟨b, k, none⟩) (len - k) (xs.drop k) := by
  have hl := h.lenEq
  have hs := h.small
  refine ⟨by simp; omega, by omega, fun h0 => ?_⟩
  obtain ⟨b', off', e, hS, hc⟩ := h.cells (by omega)
  cases e
  refine ⟨_, _, rfl, hS, fun i x hx => ?_⟩
  rw [List.getElem?_drop] at hx
  have := hc _ x hx
  rwa [Nat.zero_add] at this
theorem IntsAt.grownEq {W W' w' : World} {b r len : Nat} {xs : List Int} (h : IntsAt W (fun k => k = b) (some ⟨b, 0, none⟩) len xs) (hg : W'.grownBy w' (some r)) (he : W'.heap = W.heap) (hb : b < W'.heap.size) (hr : b ≠ r) :
    IntsAt w' (fun k => k = b) (some ⟨b, 0, none⟩) len xs :=
  h.to fun k hk => ⟨hk, by subst hk; rw [hg.block _ hb (by simp; omega), he]⟩
theorem below_grown {n : Nat} {w w' : World} (h : Below n w w') (hn : n = w.heap.size) (r : Option Nat) : w.grownBy w' r := by
  subst hn
  exact ⟨h.os, h.tape, h.output, h.size, fun k hk _ => h.block k hk⟩
def OrderPost (w : World) (R p n : Nat) (e : Ending) (w' : World) : Prop := ∃ (g cap : Nat) (xs : List Int), e = .returned (.slice (some ⟨g, 0, none⟩) n cap) ∧
  w'.ownsRow w.heap.size 3 1 (.slice (some ⟨g, 0, none⟩) n cap) n (xs.map (.int .i64)) ∧ n ≤ cap ∧ (∀ x ∈ xs, -1 ≤ x ∧ x ≤ n) ∧ w.grownBy w' (some R)
end Go.Proofs.Ytkjmpkincaainad
namespace Go.Proofs.Ytkjmpkincaainad
open Go.RowKit Go.WideShapes

def PairsPost (w : World) (R p : Nat) (e : Ending) (w' : World) : Prop := ∃ (a : Option Addr) (len cap : Nat) (rows : List (List Int)) (p' : Nat), e = .returned (.slice a len cap) ∧
      RowsAt w' (fun b => w.heap.size ≤ b ∧ b < w'.heap.size) a len rows ∧ len ≤ cap ∧ len ≤ 8 ∧ Rd w' R p' ∧ p' ≤ p + 1000 ∧ w.grownBy w' (some R)
theorem pairsPost_mk {w w' : World} {R p p' len cap M : Nat} {a : Option Addr} (h : OwnRows w' w.heap.size M (.slice a len cap) len) (hl : len ≤ cap) (h6 : len ≤ 8) (hr : Rd w' R p') (hp : p' ≤ p + 1000)
    (hg : w.grownBy w' (some R)) : PairsPost w R p (.returned (.slice a len cap)) w' := by
  obtain ⟨a', cap', rows, hv, _, hrows⟩ := h.rows (by omega)
  simp only [Value.slice.injEq] at hv
  obtain ⟨rfl, _, rfl⟩ := hv
  exact ⟨_, _, _, rows, p', rfl, hrows, hl, h6, hr, hp, hg⟩
theorem pair_hi {n : Int} (h : n ∈ [9, 4]) : 4 ≤ n ∧ n ≤ 9 := by simp at h; omega
theorem pair_x {n : Int} (h : n ∈ [10, -1]) : -1 ≤ n ∧ n ≤ 10 := by simp at h; omega
end Go.Proofs.Ytkjmpkincaainad
namespace Go.Proofs.Ytkjmpkincaainad
open Go.RowKit Go.WideShapes

theorem own_lit3 (w : World) {B : Nat} (hB : B ≤ w.heap.size) (x y z : Int) : (w.alloc (.cells #[.int .i64 x, .int .i64 y, .int .i64 z] 3)).ownsRow B 3 1 (.slice (some ⟨w.heap.size, 0, none⟩) 3 3) 3 ([x, y, z].map (.int .i64)) :=
  ⟨rfl, .inr ⟨w.heap.size, 3, _, rfl, hB, heap_alloc_new w _, Nat.le_refl _, by unfold maxLen; omega, rfl, rfl⟩⟩
theorem job_t {n : Int} (h : n ∈ [5, 9]) : 5 ≤ n ∧ n ≤ 9 := by simp at h; omega
theorem job_d {n : Int} (h : n ∈ [12, 25, 6]) : 6 ≤ n ∧ n ≤ 25 := by simp at h; omega
end Go.Proofs.Ytkjmpkincaainad
namespace Go.Proofs.Ytkjmpkincaainad

-- nets of tokens: dead nets, and when workers begin (plain)
structure Gr where
  n : Nat
  m : Nat
  f : Nat → Nat
  t : Nat → Nat
  c : Nat → Nat
  tm : Nat → Int
structure Gr.Ok (g : Gr) : Prop where
  n4 : g.n ≤ 4
  m7 : g.m ≤ 7
  ways : ∀ k, k < g.m → g.f k < g.n ∧ g.t k < g.n ∧ g.c k ≤ 3
  times : ∀ v, 0 ≤ g.tm v ∧ g.tm v ≤ 9
def wayB (n : Nat) (r : List Int) : Bool := r.length == 3 && (inB 0 ((n : Int) - 1) (r.getD 0 0) && (inB 0 ((n : Int) - 1) (r.getD 1 0) && inB 0 3 (r.getD 2 0)))
def tokM (ts : List Int) (rows : List (List Int)) : Bool := decide (ts.length ≤ 4) && (allIn 0 9 ts && (decide (rows.length ≤ 7) && rows.all (wayB ts.length)))
def grOf (ts : List Int) (rows : List (List Int)) : Gr where
  n := ts.length
  m := rows.length
  f := fun k => ((rows.getD k []).getD 0 0).toNat
  t := fun k => ((rows.getD k []).getD 1 0).toNat
  c := fun k => ((rows.getD k []).getD 2 0).toNat
  tm := fun v => ts.getD v 0
theorem tok_get {ts : List Int} {rows : List (List Int)} (h : tokM ts rows = true) : ts.length ≤ 4 ∧ (∀ v, 0 ≤ ts.getD v 0 ∧ ts.getD v 0 ≤ 9) ∧ rows.length ≤ 7 ∧
    ∀ k r, rows[k]? = some r → r.length = 3 ∧ r.getD 0 0 = ((grOf ts rows).f k : Int) ∧ (grOf ts rows).f k < ts.length ∧ r.getD 1 0 = ((grOf ts rows).t k : Int) ∧ (grOf ts rows).t k < ts.length ∧ r.getD 2 0 = ((grOf ts rows).c k : Int) ∧ (grOf ts rows).c k ≤ 3 := by
  simp only [tokM, Bool.and_eq_true, decide_eq_true_eq] at h
  obtain ⟨h1, h2, h3, h4⟩ := h
  refine ⟨h1, fun v => ?_, h3, fun k r hr => ?_⟩
  · rcases Nat.lt_or_ge v ts.length with hv | hv
    · have := List.all_eq_true.1 h2 _ (List.mem_of_getElem? (get_getD hv))
      simpa [inB] using this
    · rw [getD_past hv]; omega
  · have := List.all_eq_true.1 h4 r (List.mem_of_getElem? hr)
    simp only [wayB, Bool.and_eq_true, beq_iff_eq, inB, decide_eq_true_eq] at this
    obtain ⟨a1, a2, a3, a4⟩ := this
    have e : rows.getD k [] = r := by rw [List.getD_eq_getElem?_getD, hr]; rfl
    simp only [grOf, e]
    refine ⟨a1, by omega, by omega, by omega, by omega, by omega, by omega⟩
theorem gr_ok {ts : List Int} {rows : List (List Int)} (h : tokM ts rows = true) : (grOf ts rows).Ok := by
  obtain ⟨h1, h2, h3, h4⟩ := tok_get h
  refine ⟨h1, h3, fun k hk => ?_, h2⟩
  have hr : rows[k]? = some rows[k] := List.getElem?_eq_getElem hk
  obtain ⟨_, _, b, _, d, _, e⟩ := h4 k _ hr
  exact ⟨b, d, e⟩
theorem tok_way_false {ts : List Int} {rows : List (List Int)} {k : Nat} {r : List Int} (h : rows[k]? = some r) (hr : wayB ts.length r = false) : tokM ts rows = false := by
  have : rows.all (wayB ts.length) = false := by rw [List.all_eq_false]; exact ⟨r, List.mem_of_getElem? h, by simp [hr]⟩
  unfold tokM; rw [this]; simp
theorem tok_time_false {ts : List Int} {rows : List (List Int)} (h : allIn 0 9 ts = false) : tokM ts rows = false := by
  unfold tokM; rw [h]; simp
theorem tok_take {ts : List Int} {rows : List (List Int)} (h : tokM ts rows = true) (n : Nat) : tokM ts (rows.take n) = true := by
  simp only [tokM, Bool.and_eq_true, decide_eq_true_eq] at h ⊢
  obtain ⟨h1, h2, h3, h4⟩ := h
  refine ⟨h1, h2, by rw [List.length_take]; omega, ?_⟩
  rw [List.all_eq_true] at h4 ⊢
  exact fun r hr => h4 r (List.mem_of_mem_take hr)

/-- each worker of S waits for one of S -/
def Gr.Stuck (g : Gr) (S : Nat → Prop) : Prop := ∀ v, S v → v < g.n ∧ ∃ k, k < g.m ∧ g.t k = v ∧ g.c k = 0 ∧ S (g.f k)
def Gr.Dead (g : Gr) : Prop := ∃ S, g.Stuck S ∧ ∃ v, S v
def Gr.deadB (g : Gr) : Bool := (List.range (2 ^ g.n)).any fun M => M != 0 && (List.range g.n).all fun v => !M.testBit v || (List.range g.m).any fun k => g.t k == v && (g.c k == 0 && M.testBit (g.f k))
theorem mask_of (S : Nat → Prop) : ∀ n, ∃ M, M < 2 ^ n ∧ ∀ v, v < n → (M.testBit v = true ↔ S v) := by
  intro n
  induction n with
  | zero => exact ⟨0, by simp, fun v hv => by omega⟩
  | succ n ih =>
    obtain ⟨M, h1, h2⟩ := ih
    by_cases hS : S n
    · refine ⟨M ||| 2 ^ n, Nat.or_lt_two_pow (by rw [Nat.pow_succ]; omega) (by rw [Nat.pow_succ]; have := Nat.two_pow_pos n; omega), fun v hv => ?_⟩
      rw [Nat.testBit_or, Nat.testBit_two_pow]
      rcases Nat.lt_or_eq_of_le (Nat.le_of_lt_succ hv) with h | rfl
      · rw [decide_eq_false (by omega : ¬ n = v), Bool.or_false]; exact h2 v h
      · simp [hS]
    · refine ⟨M, by rw [Nat.pow_succ]; omega, fun v hv => ?_⟩
      rcases Nat.lt_or_eq_of_le (Nat.le_of_lt_succ hv) with h | rfl
      · exact h2 v h
      · rw [Nat.testBit_lt_two_pow h1]; simp [hS]
theorem dead_iff {g : Gr} (hg : g.Ok) : g.deadB = true ↔ g.Dead := by
  unfold Gr.deadB
  rw [List.any_eq_true]
  constructor
  · rintro ⟨M, hM, h⟩
    simp only [Bool.and_eq_true, bne_iff_ne, ne_eq, List.all_eq_true, List.mem_range, Bool.or_eq_true, Bool.not_eq_true', List.any_eq_true, beq_iff_eq] at h
    obtain ⟨h0, h1⟩ := h
    refine ⟨fun v => v < g.n ∧ M.testBit v = true, fun v hv => ⟨hv.1, ?_⟩, ?_⟩
    · rcases h1 v hv.1 with h | ⟨k, hk, e1, e2, e3⟩
      · rw [hv.2] at h; cases h
      · exact ⟨k, hk, e1, e2, (hg.ways k hk).1, e3⟩
    · obtain ⟨i, hi⟩ := Nat.exists_testBit_of_ne_zero h0
      refine ⟨i, ?_, hi⟩
      rcases Nat.lt_or_ge i g.n with h | h
      · exact h
      · rw [Nat.testBit_lt_two_pow (Nat.lt_of_lt_of_le (List.mem_range.1 hM) (Nat.pow_le_pow_right (by omega) h))] at hi; cases hi
  · rintro ⟨S, hS, v, hv⟩
    obtain ⟨M, h1, h2⟩ := mask_of S g.n
    refine ⟨M, List.mem_range.2 h1, ?_⟩
    simp only [Bool.and_eq_true, bne_iff_ne, ne_eq, List.all_eq_true, List.mem_range, Bool.or_eq_true, Bool.not_eq_true', List.any_eq_true, beq_iff_eq]
    refine ⟨?_, fun u hu => ?_⟩
    · rintro rfl
      have := (h2 v (hS v hv).1).2 hv
      simp at this
    · cases hb : M.testBit u
      · exact .inl rfl
      · right
        obtain ⟨_, k, hk, e1, e2, e3⟩ := hS u ((h2 u hu).1 hb)
        exact ⟨k, hk, e1, e2, (h2 _ (hg.ways k hk).1).2 e3⟩
theorem rank_list {g : Gr} (hd : ¬ g.Dead) : ∀ (q : Nat) (L : List Nat), L.length = q → L.Nodup → (∀ v ∈ L, v < g.n) → ∃ rk : Nat → Nat, (∀ v ∈ L, rk v < q) ∧ ∀ k, k < g.m → g.c k = 0 → g.f k ∈ L → g.t k ∈ L → rk (g.f k) < rk (g.t k) := by
  intro q
  induction q with
  | zero => intro L hl _ _; obtain rfl := List.length_eq_zero_iff.1 hl; exact ⟨fun _ => 0, (fun v hv => by cases hv), (fun k _ _ h => by cases h)⟩
  | succ q ih =>
    intro L hl hn hL
    have hex : ∃ v, v ∈ L ∧ ∀ k, k < g.m → g.t k = v → g.c k = 0 → ¬ g.f k ∈ L := by
      refine Classical.byContradiction fun h => hd ⟨(· ∈ L), fun v hv => ⟨hL v hv, ?_⟩, ?_⟩
      · refine Classical.byContradiction fun h2 => h ⟨v, hv, fun k hk e1 e2 e3 => h2 ⟨k, hk, e1, e2, e3⟩⟩
      · cases L with
        | nil => simp at hl
        | cons a l => exact ⟨a, by simp⟩
    obtain ⟨v, hv, hfree⟩ := hex
    obtain ⟨rk, h1, h2⟩ := ih (L.erase v) (by rw [List.length_erase_of_mem hv]; omega) (hn.erase v) (fun u hu => hL u (List.mem_of_mem_erase hu))
    refine ⟨fun u => if u = v then 0 else rk u + 1, fun u hu => ?_, fun k hk hc hf ht => ?_⟩
    · dsimp only
      split
      · omega
      · rename_i hne
        have := h1 u ((List.mem_erase_of_ne hne).2 hu)
        omega
    · dsimp only
      have htv : g.t k ≠ v := fun e => hfree k hk e hc hf
      rw [if_neg htv]
      split
      · omega
      · rename_i hne
        have := h2 k hk hc ((List.mem_erase_of_ne hne).2 hf) ((List.mem_erase_of_ne htv).2 ht)
        omega
/-- a rank that goes up along ways without tokens -/
def Gr.Rank (g : Gr) (rk : Nat → Nat) : Prop := (∀ v, v < g.n → rk v < g.n) ∧ ∀ k, k < g.m → g.c k = 0 → rk (g.f k) < rk (g.t k)
theorem rank_of {g : Gr} (hg : g.Ok) (hd : ¬ g.Dead) : ∃ rk, g.Rank rk := by
  obtain ⟨rk, h1, h2⟩ := rank_list hd g.n (List.range g.n) List.length_range List.nodup_range (fun v hv => List.mem_range.1 hv)
  exact ⟨rk, fun v hv => h1 v (List.mem_range.2 hv), fun k hk hc => h2 k hk hc (List.mem_range.2 (hg.ways k hk).1) (List.mem_range.2 (hg.ways k hk).2.1)⟩
theorem dead_of_rank {g : Gr} {rk : Nat → Nat} (h : g.Rank rk) : ¬ g.Dead := by
  rintro ⟨S, hS, v, hv⟩
  have key : ∀ q v, rk v < q → ¬ S v := by
    intro q
    induction q with
    | zero => intro v h; omega
    | succ q ih =>
      intro v hq hv
      obtain ⟨_, k, hk, rfl, e2, e3⟩ := hS v hv
      exact ih (g.f k) (by have := h.2 k hk e2; omega) e3
  exact key _ v (Nat.lt_succ_self _) hv

/-- the greatest of base and of those that are told -/
def mxP (P : Nat → Bool) (h : Nat → Int) (base : Int) : Nat → Int
  | 0 => base
  | j + 1 => if P j = true then max (mxP P h base j) (h j) else mxP P h base j
theorem mxP_base (P : Nat → Bool) (h : Nat → Int) (base : Int) (j : Nat) : base ≤ mxP P h base j := by
  induction j with
  | zero => exact Int.le_refl _
  | succ j ih => rw [mxP]; split <;> omega
theorem mxP_ge {P : Nat → Bool} {h : Nat → Int} {base : Int} {j k : Nat} (hk : k < j) (hp : P k = true) : h k ≤ mxP P h base j := by
  induction j with
  | zero => omega
  | succ j ih =>
    rw [mxP]
    rcases Nat.lt_or_eq_of_le (Nat.le_of_lt_succ hk) with h1 | rfl
    · have := ih h1; split <;> omega
    · rw [if_pos hp]; omega
theorem mxP_le {P : Nat → Bool} {h : Nat → Int} {base x : Int} {j : Nat} (h0 : base ≤ x) (h1 : ∀ k, k < j → P k = true → h k ≤ x) : mxP P h base j ≤ x := by
  induction j with
  | zero => exact h0
  | succ j ih =>
    have := ih (fun k hk => h1 k (by omega))
    rw [mxP]; split
    · rename_i hp; have := h1 j (by omega) hp; omega
    · exact this
theorem mxP_at (P : Nat → Bool) (h : Nat → Int) (base : Int) (j : Nat) : mxP P h base j = base ∨ ∃ k, k < j ∧ P k = true ∧ mxP P h base j = h k := by
  induction j with
  | zero => exact .inl rfl
  | succ j ih =>
    rw [mxP]; split
    · rename_i hp
      rcases Int.le_total (mxP P h base j) (h j) with e | e
      · right; exact ⟨j, by omega, hp, by omega⟩
      · rw [Int.max_eq_left e]
        rcases ih with h1 | ⟨k, hk, hp, h1⟩
        · exact .inl h1
        · exact .inr ⟨k, by omega, hp, h1⟩
    · rcases ih with h1 | ⟨k, hk, hp, h1⟩
      · exact .inl h1
      · exact .inr ⟨k, by omega, hp, h1⟩
theorem mxP_congr {P Q : Nat → Bool} {h h' : Nat → Int} {base : Int} {j : Nat} (e : ∀ k, k < j → P k = Q k ∧ (P k = true → h k = h' k)) : mxP P h base j = mxP Q h' base j := by
  induction j with
  | zero => rfl
  | succ j ih =>
    rw [mxP, mxP, ih (fun k hk => e k (by omega)), ← (e j (by omega)).1]
    split
    · rename_i hp; rw [(e j (by omega)).2 hp]
    · rfl

def Gr.from (g : Gr) (r v k : Nat) : Bool := decide (g.t k = v ∧ g.c k ≤ r)
def Gr.stepB (g : Gr) (X : Nat → Nat → Int) (r v : Nat) : Int := mxP (g.from r v) (fun k => X (r - g.c k) (g.f k) + g.tm (g.f k)) 0 g.m
def Gr.bF (g : Gr) : Nat → Nat → Nat → Int
  | 0, _, _ => 0
  | q + 1, r, v => g.stepB (g.bF q) r v
def Gr.b (g : Gr) (r v : Nat) : Int := g.bF 200 r v
theorem less_from {g : Gr} (hg : g.Ok) {rk : Nat → Nat} (hr : g.Rank rk) {r v k : Nat} (hk : k < g.m) (h : g.from r v k = true) : (r - g.c k) * g.n + rk (g.f k) < r * g.n + rk v := by
  unfold Gr.from at h
  obtain ⟨rfl, hc⟩ := of_decide_eq_true h
  by_cases h0 : g.c k = 0
  · have := hr.2 k hk h0
    rw [h0, Nat.sub_zero]; omega
  · have h1 := hr.1 _ (hg.ways k hk).1
    obtain ⟨q, rfl⟩ : ∃ q, r = q + g.c k := ⟨r - g.c k, by omega⟩
    rw [Nat.add_sub_cancel, Nat.add_mul]
    have : g.n ≤ g.c k * g.n := Nat.le_mul_of_pos_left _ (by omega)
    omega
theorem bF_stable {g : Gr} (hg : g.Ok) {rk : Nat → Nat} (hr : g.Rank rk) : ∀ (q q' r v : Nat), r * g.n + rk v < q → r * g.n + rk v < q' → g.bF q r v = g.bF q' r v := by
  intro q
  induction q with
  | zero => intro q' r v h; omega
  | succ q ih =>
    intro q' r v h h'
    obtain ⟨q', rfl⟩ : ∃ p, q' = p + 1 := ⟨q' - 1, by omega⟩
    show g.stepB (g.bF q) r v = g.stepB (g.bF q') r v
    refine mxP_congr fun k hk => ⟨rfl, fun hp => ?_⟩
    have := less_from hg hr hk hp
    rw [ih q' (r - g.c k) (g.f k) (by omega) (by omega)]
theorem b_eq {g : Gr} (hg : g.Ok) {rk : Nat → Nat} (hr : g.Rank rk) {r v : Nat} (h40 : r ≤ 40) (hv : v < g.n) : g.b r v = g.stepB g.b r v := by
  have hn := hg.n4
  have h1 := hr.1 v hv
  have h2 : r * g.n ≤ 40 * 4 := Nat.mul_le_mul h40 hn
  show g.stepB (g.bF 199) r v = g.stepB g.b r v
  refine mxP_congr fun k hk => ⟨rfl, fun hp => ?_⟩
  have := less_from hg hr hk hp
  show _ = g.bF 200 _ _ + _
  rw [bF_stable hg hr 199 200 (r - g.c k) (g.f k) (by omega) (by omega)]
theorem b_unique {g : Gr} (hg : g.Ok) {rk : Nat → Nat} (hr : g.Rank rk) {X : Nat → Nat → Int} {R : Nat} (hR : R ≤ 41) (hX : ∀ r v, r < R → v < g.n → X r v = g.stepB X r v) : ∀ r v, r < R → v < g.n → X r v = g.b r v := by
  have key : ∀ q r v, r * g.n + rk v < q → r < R → v < g.n → X r v = g.b r v := by
    intro q
    induction q with
    | zero => intro r v h; omega
    | succ q ih =>
      intro r v h hrR hv
      rw [hX r v hrR hv, b_eq hg hr (by omega) hv]
      refine mxP_congr fun k hk => ⟨rfl, fun hp => ?_⟩
      have := less_from hg hr hk hp
      rw [ih (r - g.c k) (g.f k) (by omega) (by omega) (hg.ways k hk).1]
  exact fun r v => key _ r v (Nat.lt_succ_self _)
theorem b_nn (g : Gr) (r v : Nat) : 0 ≤ g.b r v := by
  show 0 ≤ g.stepB _ r v
  exact mxP_base _ _ _ _
theorem b_ge {g : Gr} (hg : g.Ok) {rk : Nat → Nat} (hr : g.Rank rk) {r k : Nat} (h40 : r ≤ 40) (hk : k < g.m) (hc : g.c k ≤ r) : g.b (r - g.c k) (g.f k) + g.tm (g.f k) ≤ g.b r (g.t k) := by
  rw [b_eq hg hr h40 (hg.ways k hk).2.1]
  exact mxP_ge (h := fun k => g.b (r - g.c k) (g.f k) + g.tm (g.f k)) hk (decide_eq_true ⟨rfl, hc⟩)
theorem b_le {g : Gr} (hg : g.Ok) {rk : Nat → Nat} (hr : g.Rank rk) (Y : Nat → Nat → Int) {R : Nat} (hR : R ≤ 41) (h0 : ∀ r v, r < R → v < g.n → 0 ≤ Y r v) (h1 : ∀ r k, r < R → k < g.m → g.c k ≤ r → g.b (r - g.c k) (g.f k) ≤ Y (r - g.c k) (g.f k) → g.b (r - g.c k) (g.f k) + g.tm (g.f k) ≤ Y r (g.t k)) : ∀ r v, r < R → v < g.n → g.b r v ≤ Y r v := by
  have key : ∀ q r v, r * g.n + rk v < q → r < R → v < g.n → g.b r v ≤ Y r v := by
    intro q
    induction q with
    | zero => intro r v h; omega
    | succ q ih =>
      intro r v h hrR hv
      rw [b_eq hg hr (by omega) hv]
      refine mxP_le (h0 r v hrR hv) fun k hk hp => ?_
      have hl := less_from hg hr hk hp
      obtain ⟨rfl, hc⟩ := of_decide_eq_true hp
      exact h1 r k hrR hk hc (ih _ _ (by omega) (by omega) (hg.ways k hk).1)
  exact fun r v => key _ r v (Nat.lt_succ_self _)
theorem b_mono {g : Gr} (hg : g.Ok) {rk : Nat → Nat} (hr : g.Rank rk) : ∀ r v, r < 40 → v < g.n → g.b r v ≤ g.b (r + 1) v := by
  refine b_le hg hr (fun r v => g.b (r + 1) v) (R := 40) (by omega) (fun r v _ _ => b_nn g _ v) fun r k hrR hk hc hi => ?_
  have h2 := b_ge hg hr (r := r + 1) (by omega) hk (by omega)
  rw [show r + 1 - g.c k = r - g.c k + 1 by omega] at h2
  omega
theorem b_mono_le {g : Gr} (hg : g.Ok) {rk : Nat → Nat} (hr : g.Rank rk) {v : Nat} (hv : v < g.n) : ∀ (d r : Nat), r + d ≤ 40 → g.b r v ≤ g.b (r + d) v := by
  intro d
  induction d with
  | zero => intro r _; exact Int.le_refl _
  | succ d ih =>
    intro r h
    have h1 := ih r (by omega)
    have h2 := b_mono hg hr (r + d) v (by omega) hv
    rw [show r + (d + 1) = r + d + 1 by omega]
    omega
/-- a bound -/
theorem b_bd {g : Gr} (hg : g.Ok) {rk : Nat → Nat} (hr : g.Rank rk) : ∀ r v, r ≤ 40 → v < g.n → g.b r v ≤ 9 * ((r : Int) * (g.n : Int) + (rk v : Int)) := by
  intro r v h hv
  refine b_le hg hr (fun r v => 9 * ((r : Int) * (g.n : Int) + (rk v : Int))) (R := 41) (by omega) (fun r v _ _ => ?_) (fun r k hrR hk hc hi => ?_) r v (by omega) hv
  · have : 0 ≤ (r : Int) * (g.n : Int) := Int.mul_nonneg (by omega) (by omega)
    omega
  · have h2 := less_from hg hr hk (r := r) (v := g.t k) (decide_eq_true ⟨rfl, hc⟩)
    have h3 := hg.times (g.f k)
    have h4 : (((r - g.c k : Nat) : Int) * (g.n : Int) + (rk (g.f k) : Int)) < (r : Int) * (g.n : Int) + (rk (g.t k) : Int) := by exact_mod_cast h2
    omega
theorem b_bd2 {g : Gr} (hg : g.Ok) {rk : Nat → Nat} (hr : g.Rank rk) {r v : Nat} (h40 : r ≤ 40) (hv : v < g.n) : g.b r v ≤ 1500 := by
  have h1 := b_bd hg hr r v h40 hv
  have h2 := hr.1 v hv
  have h3 := hg.n4
  have h4 : (r : Int) * (g.n : Int) ≤ 40 * 4 := by exact_mod_cast Nat.mul_le_mul h40 h3
  omega
/-- with more tokens none begins later -/
theorem b_more {g h : Gr} (hg : g.Ok) (hh : h.Ok) {rk rk' : Nat → Nat} (hr : g.Rank rk) (hr' : h.Rank rk') (en : h.n = g.n) (em : h.m = g.m) (ef : ∀ k, k < g.m → h.f k = g.f k ∧ h.t k = g.t k ∧ g.c k ≤ h.c k) (et : ∀ v, h.tm v = g.tm v) : ∀ r v, r ≤ 40 → v < g.n → h.b r v ≤ g.b r v := by
  intro r v h40 hv
  refine b_le hh hr' (fun r v => g.b r v) (R := 41) (by omega) (fun r v _ _ => b_nn g r v) (fun r k hrR hk hc hi => ?_) r v (by omega) (by omega)
  rw [em] at hk
  obtain ⟨e1, e2, e3⟩ := ef k hk
  rw [e1] at hi ⊢
  rw [e2, et]
  have h1 := b_ge hg hr (r := r) (by omega) hk (by omega)
  have h2 := b_mono_le hg hr (hg.ways k hk).1 (h.c k - g.c k) (r - h.c k) (by omega)
  rw [show r - h.c k + (h.c k - g.c k) = r - g.c k by omega] at h2
  omega
end Go.Proofs.Ytkjmpkincaainad
