import Derived.Test.YtkjmpkincaainacRows
import Derived.WalkKit
import Derived.LoopTactic
import Derived.Outline
import Derived.WalkSpells
import Derived.WalkLawsBesides
import Derived.ProofKit
import Derived.Test.YtkjmpkincaainacM0
import Derived.Test.YtkjmpkincaainacM3
import Derived.Test.YtkjmpkincaainacM1
import Derived.Test.YtkjmpkincaainacM2
import Derived.Deep.RegionLaw
import Derived.Deep.AppendLies
import Derived.Lib.Hide
namespace Go.Proofs.Ytkjmpkincaainac
open Go.RowKit Go.WideShapes

/-- a list that is drawn: numbers in lo..hi -/
def ListPost (w : World) (R p n : Nat) (lo hi : Int) (e : Ending) (w' : World) : Prop := ∃ (a : Option Addr) (cap : Nat) (xs : List Int), e = .returned (.slice a n cap) ∧
  w'.ownsRow w.heap.size 3 1 (.slice a n cap) n (xs.map (.int .i64)) ∧ n ≤ cap ∧ xs.length = n ∧ (∀ x ∈ xs, lo ≤ x ∧ x ≤ hi) ∧ Rd w' R (p + n) ∧ w.grownBy w' (some R)

set_option maxRecDepth 100000 in
set_option maxHeartbeats 2000000 in
theorem listOf_any (R p n : Nat) (lo hi : Int) (w : World) (h : Rd w R p) (hp : p ≤ 1000000) (hn : n ≤ 1000) (hlo : -1000 ≤ lo) (hlh : lo ≤ hi) (hhi : hi ≤ 1000) :
    Calls Try.prog 39 #[.pointer (some ⟨R, 0, none⟩), .int .i64 n, .int .i64 lo, .int .i64 hi] w (ListPost w R p n lo hi) := by
  have hR := h.lt
  obtain ⟨i0, hi0, hz0, hz1, hz2⟩ := info_parts Try.infoIntD
  have ho0 := World.ownsRow_made (base := w.heap.size) (size := 1) (e := 3) w #[] 0 (Nat.le_refl _) (Nat.zero_le _) rfl
  go_enter Try.func39, Try.ntmps39
  go_wp2_with fail
  go_loopw [9] (fun v wr => ∃ (k cap : Nat) (a : Option Addr) (xs : List Int), v = .slice a k cap ∧ wr.ownsRow w.heap.size 3 1 v k (xs.map (.int .i64)) ∧ k ≤ n ∧ (∀ x ∈ xs, lo ≤ x ∧ x ≤ hi) ∧ Rd wr R (p + k) ∧ w.grownBy wr (some R)) (fun v _ => n - capOf v)
  case atStart => exact ⟨0, _, _, [], rfl, ho0, Nat.zero_le _, (fun x hx => by cases hx), h.alloc _, World.grownBy_alloc _ _ _⟩
  case round =>
    obtain ⟨k, cap, a, xs, rfl, hown, hkm, hall, hr, hg⟩ := hrel
    obtain ⟨wo, rfl⟩ : ∃ wo : World, wo = wr := ⟨_, rfl⟩
    have hsz := hg.size
    have HOWN := Lib.hid hown
    have HALL := Lib.hid hall
    clear hown hall
    by_cases hlt : k < n
    · go_wp2_with fail
      refine (pick_any R (p + k) (hi - lo + 1) wo hr (by omega)).mono ?_
      rintro e w5 ⟨q1, rfl, hq1, hr5, hgw⟩
      have HO5 := Lib.hid (HOWN.out.kept hgw (ne_low HOWN.out hR))
      have hg6 := grown_r hg hgw
      have hxb : lo ≤ lo + (q1 : Int) ∧ lo + (q1 : Int) ≤ hi := by omega
      go_wp2_with (at_builtin; refine wpList_append_own _ rfl _ _ 22 rfl w.heap.size 3 i0 (.int .i64 0) 1 8 Try.underlying22 hi0 hz0 hz1 hz2 rfl (by decide) _ _ _ rfl (HO5.out.alloc _) ⟨w5.heap.size, 0, none⟩ 1 1 [.int .i64 (lo + (q1 : Int))] rfl rfl ?c1 ?c2 ?c3 ?c4 ?c5 ?_)
      case c1 => exact one_new _ _ _
      case c2 => exact one_cell_int _ _
      case c3 => unfold maxLen; omega
      case c4 => omega
      case c5 => have := hgw.size; simp; omega
      intro v' w6 hown hgrow _
      obtain ⟨a6, c6, rfl, _⟩ := own_slice hown
      have hgr : w5.grownBy w6 (Value.slice a k cap).ownBlock := grown_comp (World.grownBy_alloc w5 _ _) hgrow
      have HO6 := Lib.hid hown
      have HG6 := Lib.hid hgr
      clear hown hgr hgrow
      go_wp2
      go_roundw
      case rel => exact ⟨k + 1, c6, a6, xs ++ [lo + (q1 : Int)], rfl, by rw [List.map_append]; exact HO6.out, by omega, (fun y hy => by
        rcases List.mem_append.1 hy with h' | h'
        · exact HALL.out y h'
        · simp only [List.mem_singleton] at h'; rw [h']; exact hxb), hr5.grown HG6.out (by intro b hb; have := (HO5.out.lt b hb).1; omega), grown_trans hg6 HG6.out (by intro b hb; have := (HO5.out.lt b hb).1; omega)⟩
      case measure => simp [capOf]; omega
    · obtain rfl : k = n := by omega
      go_wp2
      go_ret
      obtain ⟨a', c', e, hc⟩ := own_slice HOWN.out
      simp only [Value.slice.injEq] at e
      obtain ⟨rfl, _, rfl⟩ := e
      have hl := HOWN.out.1
      exact ⟨_, _, xs, rfl, HOWN.out, hc, by simpa using hl, HALL.out, hr, hg⟩
end Go.Proofs.Ytkjmpkincaainac
namespace Go.Proofs.Ytkjmpkincaainac
open Go.RowKit Go.WideShapes

theorem Try.infoInt : (Try.prog.info? 3).map (fun i => (i.zero, i.size, i.bytes)) = some (some (.int .i64 0), 1, 8) := by kernel_rfl
theorem Try.infoInts : (Try.prog.info? 22).map (fun i => (i.zero, i.size, i.bytes)) = some (some (.slice none 0 0), 1, 24) := by kernel_rfl

theorem bill_n {n : Int} (h : n ∈ [4, 5, 3, 6, 2, 1, 0]) : ∃ m : Nat, n = (m : Int) ∧ m ≤ 6 := by
  simp at h
  exact ⟨n.toNat, by omega, by omega⟩

def BillPost (w : World) (R p : Nat) (e : Ending) (w' : World) : Prop := ∃ (a : Option Addr) (len cap : Nat) (rows : List (List Int)) (p' : Nat), e = .returned (.slice a len cap) ∧
      RowsAt w' (fun b => w.heap.size ≤ b ∧ b < w'.heap.size) a len rows ∧ len ≤ cap ∧ len ≤ 6 ∧ Rd w' R p' ∧ p' ≤ p + 1000 ∧ w.grownBy w' (some R)
theorem billPost_mk {w w' : World} {R p p' len cap M : Nat} {a : Option Addr} (h : OwnRows w' w.heap.size M (.slice a len cap) len) (hl : len ≤ cap) (h6 : len ≤ 6) (hr : Rd w' R p') (hp : p' ≤ p + 1000)
    (hg : w.grownBy w' (some R)) : BillPost w R p (.returned (.slice a len cap)) w' := by
  obtain ⟨a', cap', rows, hv, _, hrows⟩ := h.rows (by omega)
  simp only [Value.slice.injEq] at hv
  obtain ⟨rfl, _, rfl⟩ := hv
  exact ⟨_, _, _, rows, p', rfl, hrows, hl, h6, hr, hp, hg⟩

end Go.Proofs.Ytkjmpkincaainac
namespace Go.Proofs.Ytkjmpkincaainac
open Go.RowKit Go.WideShapes

set_option maxRecDepth 100000 in
/-- append of a list to a list of the call's own, at a step of a region that draws; the source may be empty -/
theorem stepApp {ops : Array Oper} {o : Oper} {a : Act} {K : Act → World → Prop} {Q : Exit → Act → World → Prop} {E : Prop} {wo : World} (hgd : o.guard = none) (s x : Operand)
    (ho : o.op = .call { callee := .builtin .append, args := #[s, x], argTypes := #[22, 22] })
    (base k cp gx : Nat) (xs : List Int) (S : Nat → Prop) (b off m c : Nat) (ys : List Int) (hs : a.eval s = .slice (some ⟨gx, 0, none⟩) k cp)
    (hown : wo.ownsRow base 3 1 (.slice (some ⟨gx, 0, none⟩) k cp) k (xs.map (.int .i64))) (hx : a.eval x = .slice (some ⟨b, off, none⟩) m c) (hy : IntsAt wo S (some ⟨b, off, none⟩) m ys)
    (hbase : base ≤ wo.heap.size) (km : Nat) (hkm : k + m = km) (zs : List Int) (hzs : xs ++ ys = zs) (hk : km ≤ 1048576)
    (h : ∀ (g6 c6 : Nat) (w' : World), w'.ownsRow base 3 1 (.slice (some ⟨g6, 0, none⟩) km c6) km (zs.map (.int .i64)) → km ≤ c6 → wo.grownBy w' (some gx) → base ≤ g6 → g6 < w'.heap.size →
      K (a.put o.dst (.slice (some ⟨g6, 0, none⟩) km c6)) w') :
    if Region.wanted o (yielded ops a.tmps) = true then Oper.wp Try.prog o a wo K Q else E := by
  subst hkm
  subst hzs
  have hw : Region.wanted o (yielded ops a.tmps) = true := by simp [Region.wanted, hgd]
  rw [if_pos hw]
  obtain ⟨i0, hi, hz0, hz1, hz2⟩ := info_parts Try.infoIntO
  obtain ⟨v', w', hr, h2, h3, h4, _⟩ := run_append_own_at (P := Try.prog) wo base 22 o.type 3 i0 (.int .i64 0) 1 8 Try.underlying22 hi hz0 hz1 hz2 rfl (by decide) _ k _ hown ⟨b, off, none⟩ m c (ys.map (.int .i64)) (by simp [hy.lenEq]) (by
    intro j u hj
    rw [List.getElem?_map] at hj
    cases hq : ys[j]? with
    | none => rw [hq] at hj; cases hj
    | some z =>
      rw [hq] at hj
      simp only [Option.map_some, Option.some.injEq] at hj
      have hlt : j < ys.length := (List.getElem?_eq_some_iff.1 hq).1
      obtain ⟨b', off', e, _, hc⟩ := hy.cells (by have := hy.lenEq; omega)
      cases e
      rw [add_plain, hc _ _ hq, ← hj]) (by
    intro u hu
    obtain ⟨x, _, rfl⟩ := List.mem_map.1 hu
    rfl) (by unfold maxLen; omega) (by omega) hbase
  unfold Oper.wp execOp
  simp only [ho, resolve, invoke, builtin, Sem.run_bind, Sem.run_pure, Result.andThen_ok, List.map_toArray, List.map_cons, List.map_nil, hs, hx, hr]
  obtain ⟨a6, c6, rfl, hc⟩ := own_slice h2
  rcases h2.2 with ⟨e1, e2⟩ | ⟨g, cap, cur, hv, hb, hg, _⟩
  · exact absurd (h4.1 (by injection e1 with e3 _ e4; subst e3; subst e4; rw [e2])).1 (by simp)
  · injection hv with e3 _ e4
    subst e3
    rw [← List.map_append] at h2
    refine h g c6 w' h2 hc h3 hb ?_
    rcases Nat.lt_or_ge g w'.heap.size with hlt | hge
    · exact hlt
    · rw [Array.getElem?_eq_none hge] at hg; cases hg

theorem IntsAt.takeI {w : World} {S : Nat → Prop} {b off len : Nat} {xs : List Int} (h : IntsAt w S (some ⟨b, off, none⟩) len xs) (k : Nat) (hk : k ≤ len) : IntsAt w S (some ⟨b, off, none⟩) k (xs.take k) := by
  have hl := h.lenEq
  have hs := h.small
  refine ⟨by simp; omega, by omega, fun h0 => ?_⟩
  obtain ⟨b', off', e, hS, hc⟩ := h.cells (by omega)
  cases e
  refine ⟨_, _, rfl, hS, fun i x hx => hc i x ?_⟩
  rw [List.getElem?_take] at hx
  split at hx
  · exact hx
  · cases hx
theorem IntsAt.dropI {w : World} {S : Nat → Prop} {b len : Nat} {xs : List Int} (h : IntsAt w S (some ⟨b, 0, none⟩) len xs) (k : Nat) (hk : k ≤ len) : IntsAt w S (some ⟨b, k, none⟩) (len - k) (xs.drop k) := by
  have hl := h.lenEq
  have hs := h.small
  refine ⟨by simp; omega, by omega, fun h0 => ?_⟩
  obtain ⟨b', off', e, hS, hc⟩ := h.cells (by omega)
  cases e
  refine ⟨_, _, rfl, hS, fun i x hx => ?_⟩
  rw [List.getElem?_drop] at hx
  have := hc _ x hx
  rwa [Nat.zero_add] at this
theorem IntsAt.grownEq {W W' w' : World} {b r len : Nat} {xs : List Int} (h : IntsAt W (fun k => k = b) (some ⟨b, 0, none⟩) len xs) (hg : W'.grownBy w' (some r)) (he : W'.heap = W.heap) (hb : b < W'.heap.size) (hr : b ≠ r) :
    IntsAt w' (fun k => k = b) (some ⟨b, 0, none⟩) len xs :=
  h.to fun k hk => ⟨hk, by subst hk; rw [hg.block _ hb (by simp; omega), he]⟩
theorem below_grown {n : Nat} {w w' : World} (h : Below n w w') (hn : n = w.heap.size) (r : Option Nat) : w.grownBy w' r := by
  subst hn
  exact ⟨h.os, h.tape, h.output, h.size, fun k hk _ => h.block k hk⟩
def OrderPost (w : World) (R p n : Nat) (e : Ending) (w' : World) : Prop := ∃ (g cap : Nat) (xs : List Int), e = .returned (.slice (some ⟨g, 0, none⟩) n cap) ∧
  w'.ownsRow w.heap.size 3 1 (.slice (some ⟨g, 0, none⟩) n cap) n (xs.map (.int .i64)) ∧ n ≤ cap ∧ (∀ x ∈ xs, -1 ≤ x ∧ x ≤ n) ∧ w.grownBy w' (some R)
end Go.Proofs.Ytkjmpkincaainac
namespace Go.Proofs.Ytkjmpkincaainac
open Go.RowKit Go.WideShapes

def PairsPost (w : World) (R p : Nat) (e : Ending) (w' : World) : Prop := ∃ (a : Option Addr) (len cap : Nat) (rows : List (List Int)) (p' : Nat), e = .returned (.slice a len cap) ∧
      RowsAt w' (fun b => w.heap.size ≤ b ∧ b < w'.heap.size) a len rows ∧ len ≤ cap ∧ len ≤ 8 ∧ Rd w' R p' ∧ p' ≤ p + 1000 ∧ w.grownBy w' (some R)
theorem pairsPost_mk {w w' : World} {R p p' len cap M : Nat} {a : Option Addr} (h : OwnRows w' w.heap.size M (.slice a len cap) len) (hl : len ≤ cap) (h6 : len ≤ 8) (hr : Rd w' R p') (hp : p' ≤ p + 1000)
    (hg : w.grownBy w' (some R)) : PairsPost w R p (.returned (.slice a len cap)) w' := by
  obtain ⟨a', cap', rows, hv, _, hrows⟩ := h.rows (by omega)
  simp only [Value.slice.injEq] at hv
  obtain ⟨rfl, _, rfl⟩ := hv
  exact ⟨_, _, _, rows, p', rfl, hrows, hl, h6, hr, hp, hg⟩
theorem pair_hi {n : Int} (h : n ∈ [9, 4]) : 4 ≤ n ∧ n ≤ 9 := by simp at h; omega
theorem pair_x {n : Int} (h : n ∈ [10, -1]) : -1 ≤ n ∧ n ≤ 10 := by simp at h; omega
end Go.Proofs.Ytkjmpkincaainac
namespace Go.Proofs.Ytkjmpkincaainac
open Go.RowKit Go.WideShapes

theorem own_lit3 (w : World) {B : Nat} (hB : B ≤ w.heap.size) (x y z : Int) : (w.alloc (.cells #[.int .i64 x, .int .i64 y, .int .i64 z] 3)).ownsRow B 3 1 (.slice (some ⟨w.heap.size, 0, none⟩) 3 3) 3 ([x, y, z].map (.int .i64)) :=
  ⟨rfl, .inr ⟨w.heap.size, 3, _, rfl, hB, heap_alloc_new w _, Nat.le_refl _, by unfold maxLen; omega, rfl, rfl⟩⟩
theorem job_t {n : Int} (h : n ∈ [5, 9]) : 5 ≤ n ∧ n ≤ 9 := by simp at h; omega
theorem job_d {n : Int} (h : n ∈ [12, 25, 6]) : 6 ≤ n ∧ n ≤ 25 := by simp at h; omega
end Go.Proofs.Ytkjmpkincaainac
namespace Go.Proofs.Ytkjmpkincaainac

-- nets of tokens: dead nets, and when workers begin (plain)
structure Gr where
  n : Nat
  m : Nat
  f : Nat → Nat
  t : Nat → Nat
  c : Nat → Nat
  tm : Nat → Int
structure Gr.Ok (g : Gr) : Prop where
  n4 : g.n ≤ 4
  m7 : g.m ≤ 7
  ways : ∀ k, k < g.m → g.f k < g.n ∧ g.t k < g.n ∧ g.c k ≤ 3
  times : ∀ v, 0 ≤ g.tm v ∧ g.tm v ≤ 9
def wayB (n : Nat) (r : List Int) : Bool := r.length == 3 && (inB 0 ((n : Int) - 1) (r.getD 0 0) && (inB 0 ((n : Int) - 1) (r.getD 1 0) && inB 0 3 (r.getD 2 0)))
def tokM (ts : List Int) (rows : List (List Int)) : Bool := decide (ts.length ≤ 4) && (allIn 0 9 ts && (decide (rows.length ≤ 7) && rows.all (wayB ts.length)))
def grOf (ts : List Int) (rows : List (List Int)) : Gr where
  n := ts.length
  m := rows.length
  f := fun k => ((rows.getD k []).getD 0 0).toNat
  t := fun k => ((rows.getD k []).getD 1 0).toNat
  c := fun k => ((rows.getD k []).getD 2 0).toNat
  tm := fun v => ts.getD v 0
theorem tok_get {ts : List Int} {rows : List (List Int)} (h : tokM ts rows = true) : ts.length ≤ 4 ∧ (∀ v, 0 ≤ ts.getD v 0 ∧ ts.getD v 0 ≤ 9) ∧ rows.length ≤ 7 ∧
    ∀ k r, rows[k]? = some r → r.length = 3 ∧ r.getD 0 0 = ((grOf ts rows).f k : Int) ∧ (grOf ts rows).f k < ts.length ∧ r.getD 1 0 = ((grOf ts rows).t k : Int) ∧ (grOf ts rows).t k < ts.length ∧ r.getD 2 0 = ((grOf ts rows).c k : Int) ∧ (grOf ts rows).c k ≤ 3 := by
  simp only [tokM, Bool.and_eq_true, decide_eq_true_eq] at h
  obtain ⟨h1, h2, h3, h4⟩ := h
  refine ⟨h1, fun v => ?_, h3, fun k r hr => ?_⟩
  · rcases Nat.lt_or_ge v ts.length with hv | hv
    · have := List.all_eq_true.1 h2 _ (List.mem_of_getElem? (get_getD hv))
      simpa [inB] using this
    · rw [getD_past hv]; omega
  · have := List.all_eq_true.1 h4 r (List.mem_of_getElem? hr)
    simp only [wayB, Bool.and_eq_true, beq_iff_eq, inB, decide_eq_true_eq] at this
    obtain ⟨a1, a2, a3, a4⟩ := this
    have e : rows.getD k [] = r := by rw [List.getD_eq_getElem?_getD, hr]; rfl
    simp only [grOf, e]
    refine ⟨a1, by omega, by omega, by omega, by omega, by omega, by omega⟩
theorem gr_ok {ts : List Int} {rows : List (List Int)} (h : tokM ts rows = true) : (grOf ts rows).Ok := by
  obtain ⟨h1, h2, h3, h4⟩ := tok_get h
  refine ⟨h1, h3, fun k hk => ?_, h2⟩
  have hr : rows[k]? = some rows[k] := List.getElem?_eq_getElem hk
  obtain ⟨_, _, b, _, d, _, e⟩ := h4 k _ hr
  exact ⟨b, d, e⟩
theorem tok_way_false {ts : List Int} {rows : List (List Int)} {k : Nat} {r : List Int} (h : rows[k]? = some r) (hr : wayB ts.length r = false) : tokM ts rows = false := by
  have : rows.all (wayB ts.length) = false := by rw [List.all_eq_false]; exact ⟨r, List.mem_of_getElem? h, by simp [hr]⟩
  unfold tokM; rw [this]; simp
theorem tok_time_false {ts : List Int} {rows : List (List Int)} (h : allIn 0 9 ts = false) : tokM ts rows = false := by
  unfold tokM; rw [h]; simp
theorem tok_take {ts : List Int} {rows : List (List Int)} (h : tokM ts rows = true) (n : Nat) : tokM ts (rows.take n) = true := by
  simp only [tokM, Bool.and_eq_true, decide_eq_true_eq] at h ⊢
  obtain ⟨h1, h2, h3, h4⟩ := h
  refine ⟨h1, h2, by rw [List.length_take]; omega, ?_⟩
  rw [List.all_eq_true] at h4 ⊢
  exact fun r hr => h4 r (List.mem_of_mem_take hr)

/-- each worker of S waits for one of S -/
def Gr.Stuck (g : Gr) (S : Nat → Prop) : Prop := ∀ v, S v → v < g.n ∧ ∃ k, k < g.m ∧ g.t k = v ∧ g.c k = 0 ∧ S (g.f k)
def Gr.Dead (g : Gr) : Prop := ∃ S, g.Stuck S ∧ ∃ v, S v
def Gr.deadB (g : Gr) : Bool := (List.range (2 ^ g.n)).any fun M => M != 0 && (List.range g.n).all fun v => !M.testBit v || (List.range g.m).any fun k => g.t k == v && (g.c k == 0 && M.testBit (g.f k))
theorem mask_of (S : Nat → Prop) : ∀ n, ∃ M, M < 2 ^ n ∧ ∀ v, v < n → (M.testBit v = true ↔ S v) := by
  intro n
  induction n with
  | zero => exact ⟨0, by simp, fun v hv => by omega⟩
  | succ n ih =>
    obtain ⟨M, h1, h2⟩ := ih
    by_cases hS : S n
    · refine ⟨M ||| 2 ^ n, Nat.or_lt_two_pow (by rw [Nat.pow_succ]; omega) (by rw [Nat.pow_succ]; have := Nat.two_pow_pos n; omega), fun v hv => ?_⟩
      rw [Nat.testBit_or, Nat.testBit_two_pow]
      rcases Nat.lt_or_eq_of_le (Nat.le_of_lt_succ hv) with h | rfl
      · rw [decide_eq_false (by omega : ¬ n = v), Bool.or_false]; exact h2 v h
      · simp [hS]
    · refine ⟨M, by rw [Nat.pow_succ]; omega, fun v hv => ?_⟩
      rcases Nat.lt_or_eq_of_le (Nat.le_of_lt_succ hv) with h | rfl
      · exact h2 v h
      · rw [Nat.testBit_lt_two_pow h1]; simp [hS]
theorem dead_iff {g : Gr} (hg : g.Ok) : g.deadB = true ↔ g.Dead := by
  unfold Gr.deadB
  rw [List.any_eq_true]
  constructor
  · rintro ⟨M, hM, h⟩
    simp only [Bool.and_eq_true, bne_iff_ne, ne_eq, List.all_eq_true, List.mem_range, Bool.or_eq_true, Bool.not_eq_true', List.any_eq_true, beq_iff_eq] at h
    obtain ⟨h0, h1⟩ := h
    refine ⟨fun v => v < g.n ∧ M.testBit v = true, fun v hv => ⟨hv.1, ?_⟩, ?_⟩
    · rcases h1 v hv.1 with h | ⟨k, hk, e1, e2, e3⟩
      · rw [hv.2] at h; cases h
      · exact ⟨k, hk, e1, e2, (hg.ways k hk).1, e3⟩
    · obtain ⟨i, hi⟩ := Nat.exists_testBit_of_ne_zero h0
      refine ⟨i, ?_, hi⟩
      rcases Nat.lt_or_ge i g.n with h | h
      · exact h
      · rw [Nat.testBit_lt_two_pow (Nat.lt_of_lt_of_le (List.mem_range.1 hM) (Nat.pow_le_pow_right (by omega) h))] at hi; cases hi
  · rintro ⟨S, hS, v, hv⟩
    obtain ⟨M, h1, h2⟩ := mask_of S g.n
    refine ⟨M, List.mem_range.2 h1, ?_⟩
    simp only [Bool.and_eq_true, bne_iff_ne, ne_eq, List.all_eq_true, List.mem_range, Bool.or_eq_true, Bool.not_eq_true', List.any_eq_true, beq_iff_eq]
    refine ⟨?_, fun u hu => ?_⟩
    · rintro rfl
      have := (h2 v (hS v hv).1).2 hv
      simp at this
    · cases hb : M.testBit u
      · exact .inl rfl
      · right
        obtain ⟨_, k, hk, e1, e2, e3⟩ := hS u ((h2 u hu).1 hb)
        exact ⟨k, hk, e1, e2, (h2 _ (hg.ways k hk).1).2 e3⟩
theorem rank_list {g : Gr} (hd : ¬ g.Dead) : ∀ (q : Nat) (L : List Nat), L.length = q → L.Nodup → (∀ v ∈ L, v < g.n) → ∃ rk : Nat → Nat, (∀ v ∈ L, rk v < q) ∧ ∀ k, k < g.m → g.c k = 0 → g.f k ∈ L → g.t k ∈ L → rk (g.f k) < rk (g.t k) := by
  intro q
  induction q with
  | zero => intro L hl _ _; obtain rfl := List.length_eq_zero_iff.1 hl; exact ⟨fun _ => 0, (fun v hv => by cases hv), (fun k _ _ h => by cases h)⟩
  | succ q ih =>
    intro L hl hn hL
    have hex : ∃ v, v ∈ L ∧ ∀ k, k < g.m → g.t k = v → g.c k = 0 → ¬ g.f k ∈ L := by
      refine Classical.byContradiction fun h => hd ⟨(· ∈ L), fun v hv => ⟨hL v hv, ?_⟩, ?_⟩
      · refine Classical.byContradiction fun h2 => h ⟨v, hv, fun k hk e1 e2 e3 => h2 ⟨k, hk, e1, e2, e3⟩⟩
      · cases L with
        | nil => simp at hl
        | cons a l => exact ⟨a, by simp⟩
    obtain ⟨v, hv, hfree⟩ := hex
    obtain ⟨rk, h1, h2⟩ := ih (L.erase v) (by rw [List.length_erase_of_mem hv]; omega) (hn.erase v) (fun u hu => hL u (List.mem_of_mem_erase hu))
    refine ⟨fun u => if u = v then 0 else rk u + 1, fun u hu => ?_, fun k hk hc hf ht => ?_⟩
    · dsimp only
      split
      · omega
      · rename_i hne
        have := h1 u ((List.mem_erase_of_ne hne).2 hu)
        omega
    · dsimp only
      have htv : g.t k ≠ v := fun e => hfree k hk e hc hf
      rw [if_neg htv]
      split
      · omega
      · rename_i hne
        have := h2 k hk hc ((List.mem_erase_of_ne hne).2 hf) ((List.mem_erase_of_ne htv).2 ht)
        omega
/-- a rank that goes up along ways without tokens -/
def Gr.Rank (g : Gr) (rk : Nat → Nat) : Prop := (∀ v, v < g.n → rk v < g.n) ∧ ∀ k, k < g.m → g.c k = 0 → rk (g.f k) < rk (g.t k)
theorem rank_of {g : Gr} (hg : g.Ok) (hd : ¬ g.Dead) : ∃ rk, g.Rank rk := by
  obtain ⟨rk, h1, h2⟩ := rank_list hd g.n (List.range g.n) List.length_range List.nodup_range (fun v hv => List.mem_range.1 hv)
  exact ⟨rk, fun v hv => h1 v (List.mem_range.2 hv), fun k hk hc => h2 k hk hc (List.mem_range.2 (hg.ways k hk).1) (List.mem_range.2 (hg.ways k hk).2.1)⟩
theorem dead_of_rank {g : Gr} {rk : Nat → Nat} (h : g.Rank rk) : ¬ g.Dead := by
  rintro ⟨S, hS, v, hv⟩
  have key : ∀ q v, rk v < q → ¬ S v := by
    intro q
    induction q with
    | zero => intro v h; omega
    | succ q ih =>
      intro v hq hv
      obtain ⟨_, k, hk, rfl, e2, e3⟩ := hS v hv
      exact ih (g.f k) (by have := h.2 k hk e2; omega) e3
  exact key _ v (Nat.lt_succ_self _) hv

/-- the greatest of base and of those that are told -/
def mxP (P : Nat → Bool) (h : Nat → Int) (base : Int) : Nat → Int
  | 0 => base
  | j + 1 => if P j = true then max (mxP P h base j) (h j) else mxP P h base j
theorem mxP_base (P : Nat → Bool) (h : Nat → Int) (base : Int) (j : Nat) : base ≤ mxP P h base j := by
  induction j with
  | zero => exact Int.le_refl _
  | succ j ih => rw [mxP]; split <;> omega
theorem mxP_ge {P : Nat → Bool} {h : Nat → Int} {base : Int} {j k : Nat} (hk : k < j) (hp : P k = true) : h k ≤ mxP P h base j := by
  induction j with
  | zero => omega
  | succ j ih =>
    rw [mxP]
    rcases Nat.lt_or_eq_of_le (Nat.le_of_lt_succ hk) with h1 | rfl
    · have := ih h1; split <;> omega
    · rw [if_pos hp]; omega
theorem mxP_le {P : Nat → Bool} {h : Nat → Int} {base x : Int} {j : Nat} (h0 : base ≤ x) (h1 : ∀ k, k < j → P k = true → h k ≤ x) : mxP P h base j ≤ x := by
  induction j with
  | zero => exact h0
  | succ j ih =>
    have := ih (fun k hk => h1 k (by omega))
    rw [mxP]; split
    · rename_i hp; have := h1 j (by omega) hp; omega
    · exact this
theorem mxP_at (P : Nat → Bool) (h : Nat → Int) (base : Int) (j : Nat) : mxP P h base j = base ∨ ∃ k, k < j ∧ P k = true ∧ mxP P h base j = h k := by
  induction j with
  | zero => exact .inl rfl
  | succ j ih =>
    rw [mxP]; split
    · rename_i hp
      rcases Int.le_total (mxP P h base j) (h j) with e | e
      · right; exact ⟨j, by omega, hp, by omega⟩
      · rw [Int.max_eq_left e]
        rcases ih with h1 | ⟨k, hk, hp, h1⟩
        · exact .inl h1
        · exact .inr ⟨k, by omega, hp, h1⟩
    · rcases ih with h1 | ⟨k, hk, hp, h1⟩
      · exact .inl h1
      · exact .inr ⟨k, by omega, hp, h1⟩
theorem mxP_congr {P Q : Nat → Bool} {h h' : Nat → Int} {base : Int} {j : Nat} (e : ∀ k, k < j → P k = Q k ∧ (P k = true → h k = h' k)) : mxP P h base j = mxP Q h' base j := by
  induction j with
  | zero => rfl
  | succ j ih =>
    rw [mxP, mxP, ih (fun k hk => e k (by omega)), ← (e j (by omega)).1]
    split
    · rename_i hp; rw [(e j (by omega)).2 hp]
    · rfl

def Gr.from (g : Gr) (r v k : Nat) : Bool := decide (g.t k = v ∧ g.c k ≤ r)
def Gr.stepB (g : Gr) (X : Nat → Nat → Int) (r v : Nat) : Int := mxP (g.from r v) (fun k => X (r - g.c k) (g.f k) + g.tm (g.f k)) 0 g.m
def Gr.bF (g : Gr) : Nat → Nat → Nat → Int
  | 0, _, _ => 0
  | q + 1, r, v => g.stepB (g.bF q) r v
def Gr.b (g : Gr) (r v : Nat) : Int := g.bF 200 r v
theorem less_from {g : Gr} (hg : g.Ok) {rk : Nat → Nat} (hr : g.Rank rk) {r v k : Nat} (hk : k < g.m) (h : g.from r v k = true) : (r - g.c k) * g.n + rk (g.f k) < r * g.n + rk v := by
  unfold Gr.from at h
  obtain ⟨rfl, hc⟩ := of_decide_eq_true h
  by_cases h0 : g.c k = 0
  · have := hr.2 k hk h0
    rw [h0, Nat.sub_zero]; omega
  · have h1 := hr.1 _ (hg.ways k hk).1
    obtain ⟨q, rfl⟩ : ∃ q, r = q + g.c k := ⟨r - g.c k, by omega⟩
    rw [Nat.add_sub_cancel, Nat.add_mul]
    have : g.n ≤ g.c k * g.n := Nat.le_mul_of_pos_left _ (by omega)
    omega
theorem bF_stable {g : Gr} (hg : g.Ok) {rk : Nat → Nat} (hr : g.Rank rk) : ∀ (q q' r v : Nat), r * g.n + rk v < q → r * g.n + rk v < q' → g.bF q r v = g.bF q' r v := by
  intro q
  induction q with
  | zero => intro q' r v h; omega
  | succ q ih =>
    intro q' r v h h'
    obtain ⟨q', rfl⟩ : ∃ p, q' = p + 1 := ⟨q' - 1, by omega⟩
    show g.stepB (g.bF q) r v = g.stepB (g.bF q') r v
    refine mxP_congr fun k hk => ⟨rfl, fun hp => ?_⟩
    have := less_from hg hr hk hp
    rw [ih q' (r - g.c k) (g.f k) (by omega) (by omega)]
theorem b_eq {g : Gr} (hg : g.Ok) {rk : Nat → Nat} (hr : g.Rank rk) {r v : Nat} (h40 : r ≤ 40) (hv : v < g.n) : g.b r v = g.stepB g.b r v := by
  have hn := hg.n4
  have h1 := hr.1 v hv
  have h2 : r * g.n ≤ 40 * 4 := Nat.mul_le_mul h40 hn
  show g.stepB (g.bF 199) r v = g.stepB g.b r v
  refine mxP_congr fun k hk => ⟨rfl, fun hp => ?_⟩
  have := less_from hg hr hk hp
  show _ = g.bF 200 _ _ + _
  rw [bF_stable hg hr 199 200 (r - g.c k) (g.f k) (by omega) (by omega)]
theorem b_unique {g : Gr} (hg : g.Ok) {rk : Nat → Nat} (hr : g.Rank rk) {X : Nat → Nat → Int} {R : Nat} (hR : R ≤ 41) (hX : ∀ r v, r < R → v < g.n → X r v = g.stepB X r v) : ∀ r v, r < R → v < g.n → X r v = g.b r v := by
  have key : ∀ q r v, r * g.n + rk v < q → r < R → v < g.n → X r v = g.b r v := by
    intro q
    induction q with
    | zero => intro r v h; omega
    | succ q ih =>
      intro r v h hrR hv
      rw [hX r v hrR hv, b_eq hg hr (by omega) hv]
      refine mxP_congr fun k hk => ⟨rfl, fun hp => ?_⟩
      have := less_from hg hr hk hp
      rw [ih (r - g.c k) (g.f k) (by omega) (by omega) (hg.ways k hk).1]
  exact fun r v => key _ r v (Nat.lt_succ_self _)
theorem b_nn (g : Gr) (r v : Nat) : 0 ≤ g.b r v := by
  show 0 ≤ g.stepB _ r v
  exact mxP_base _ _ _ _
theorem b_ge {g : Gr} (hg : g.Ok) {rk : Nat → Nat} (hr : g.Rank rk) {r k : Nat} (h40 : r ≤ 40) (hk : k < g.m) (hc : g.c k ≤ r) : g.b (r - g.c k) (g.f k) + g.tm (g.f k) ≤ g.b r (g.t k) := by
  rw [b_eq hg hr h40 (hg.ways k hk).2.1]
  exact mxP_ge (h := fun k => g.b (r - g.c k) (g.f k) + g.tm (g.f k)) hk (decide_eq_true ⟨rfl, hc⟩)
theorem b_le {g : Gr} (hg : g.Ok) {rk : Nat → Nat} (hr : g.Rank rk) (Y : Nat → Nat → Int) {R : Nat} (hR : R ≤ 41) (h0 : ∀ r v, r < R → v < g.n → 0 ≤ Y r v) (h1 : ∀ r k, r < R → k < g.m → g.c k ≤ r → g.b (r - g.c k) (g.f k) ≤ Y (r - g.c k) (g.f k) → g.b (r - g.c k) (g.f k) + g.tm (g.f k) ≤ Y r (g.t k)) : ∀ r v, r < R → v < g.n → g.b r v ≤ Y r v := by
  have key : ∀ q r v, r * g.n + rk v < q → r < R → v < g.n → g.b r v ≤ Y r v := by
    intro q
    induction q with
    | zero => intro r v h; omega
    | succ q ih =>
      intro r v h hrR hv
      rw [b_eq hg hr (by omega) hv]
      refine mxP_le (h0 r v hrR hv) fun k hk hp => ?_
      have hl := less_from hg hr hk hp
      obtain ⟨rfl, hc⟩ := of_decide_eq_true hp
      exact h1 r k hrR hk hc (ih _ _ (by omega) (by omega) (hg.ways k hk).1)
  exact fun r v => key _ r v (Nat.lt_succ_self _)
theorem b_mono {g : Gr} (hg : g.Ok) {rk : Nat → Nat} (hr : g.Rank rk) : ∀ r v, r < 40 → v < g.n → g.b r v ≤ g.b (r + 1) v := by
  refine b_le hg hr (fun r v => g.b (r + 1) v) (R := 40) (by omega) (fun r v _ _ => b_nn g _ v) fun r k hrR hk hc hi => ?_
  have h2 := b_ge hg hr (r := r + 1) (by omega) hk (by omega)
  rw [show r + 1 - g.c k = r - g.c k + 1 by omega] at h2
  omega
theorem b_mono_le {g : Gr} (hg : g.Ok) {rk : Nat → Nat} (hr : g.Rank rk) {v : Nat} (hv : v < g.n) : ∀ (d r : Nat), r + d ≤ 40 → g.b r v ≤ g.b (r + d) v := by
  intro d
  induction d with
  | zero => intro r _; exact Int.le_refl _
  | succ d ih =>
    intro r h
    have h1 := ih r (by omega)
    have h2 := b_mono hg hr (r + d) v (by omega) hv
    rw [show r + (d + 1) = r + d + 1 by omega]
    omega
/-- a bound -/
theorem b_bd {g : Gr} (hg : g.Ok) {rk : Nat → Nat} (hr : g.Rank rk) : ∀ r v, r ≤ 40 → v < g.n → g.b r v ≤ 9 * ((r : Int) * (g.n : Int) + (rk v : Int)) := by
  intro r v h hv
  refine b_le hg hr (fun r v => 9 * ((r : Int) * (g.n : Int) + (rk v : Int))) (R := 41) (by omega) (fun r v _ _ => ?_) (fun r k hrR hk hc hi => ?_) r v (by omega) hv
  · have : 0 ≤ (r : Int) * (g.n : Int) := Int.mul_nonneg (by omega) (by omega)
    omega
  · have h2 := less_from hg hr hk (r := r) (v := g.t k) (decide_eq_true ⟨rfl, hc⟩)
    have h3 := hg.times (g.f k)
    have h4 : (((r - g.c k : Nat) : Int) * (g.n : Int) + (rk (g.f k) : Int)) < (r : Int) * (g.n : Int) + (rk (g.t k) : Int) := by exact_mod_cast h2
    omega
theorem b_bd2 {g : Gr} (hg : g.Ok) {rk : Nat → Nat} (hr : g.Rank rk) {r v : Nat} (h40 : r ≤ 40) (hv : v < g.n) : g.b r v ≤ 1500 := by
  have h1 := b_bd hg hr r v h40 hv
  have h2 := hr.1 v hv
  have h3 := hg.n4
  have h4 : (r : Int) * (g.n : Int) ≤ 40 * 4 := by exact_mod_cast Nat.mul_le_mul h40 h3
  omega
/-- with more tokens none begins later -/
theorem b_more {g h : Gr} (hg : g.Ok) (hh : h.Ok) {rk rk' : Nat → Nat} (hr : g.Rank rk) (hr' : h.Rank rk') (en : h.n = g.n) (em : h.m = g.m) (ef : ∀ k, k < g.m → h.f k = g.f k ∧ h.t k = g.t k ∧ g.c k ≤ h.c k) (et : ∀ v, h.tm v = g.tm v) : ∀ r v, r ≤ 40 → v < g.n → h.b r v ≤ g.b r v := by
  intro r v h40 hv
  refine b_le hh hr' (fun r v => g.b r v) (R := 41) (by omega) (fun r v _ _ => b_nn g r v) (fun r k hrR hk hc hi => ?_) r v (by omega) (by omega)
  rw [em] at hk
  obtain ⟨e1, e2, e3⟩ := ef k hk
  rw [e1] at hi ⊢
  rw [e2, et]
  have h1 := b_ge hg hr (r := r) (by omega) hk (by omega)
  have h2 := b_mono_le hg hr (hg.ways k hk).1 (h.c k - g.c k) (r - h.c k) (by omega)
  rw [show r - h.c k + (h.c k - g.c k) = r - g.c k by omega] at h2
  omega
end Go.Proofs.Ytkjmpkincaainac
namespace Go.Proofs.Ytkjmpkincaainac
open Go.RowKit Go.WideShapes

/-- where a net lies -/
structure NV where
  aT : Option Addr
  lT : Nat
  cT : Nat
  aW : Option Addr
  lW : Nat
  cW : Nat
def NV.v (d : NV) : Value := .agg #[.slice d.aT d.lT d.cT, .slice d.aW d.lW d.cW]
structure NetAt (w : World) (S : Nat → Prop) (d : NV) (ts : List Int) (rows : List (List Int)) : Prop where
  t : IntsAt w S d.aT d.lT ts
  r : RowsAt w S d.aW d.lW rows
  ct : d.lT ≤ d.cT
  cw : d.lW ≤ d.cW
theorem NetAt.to {w w' : World} {S S' : Nat → Prop} {d : NV} {ts : List Int} {rows : List (List Int)} (h : NetAt w S d ts rows) (hg : ∀ b, S b → S' b ∧ w'.heap[b]? = w.heap[b]?) : NetAt w' S' d ts rows :=
  ⟨h.t.to hg, h.r.to hg, h.ct, h.cw⟩
theorem NetAt.below {w w' : World} {n : Nat} {d : NV} {ts : List Int} {rows : List (List Int)} (h : NetAt w (· < n) d ts rows) (hb : Below n w w') : NetAt w' (· < n) d ts rows := ⟨h.t.below hb, h.r.below hb, h.ct, h.cw⟩
theorem net_lift {w w' : World} {d : NV} {ts : List Int} {rows : List (List Int)} (h : NetAt w (· < w.heap.size) d ts rows) (hb : Below w.heap.size w w') : NetAt w' (· < w'.heap.size) d ts rows :=
  (h.below hb).to fun b hb' => ⟨Nat.lt_of_lt_of_le hb' hb.size, rfl⟩
/-- the box of a net, as it is made -/
def netObj (aT : Option Addr) (lT cT : Nat) (aW : Option Addr) (lW cW : Nat) : Array Value := #[.slice aT lT cT, .slice aW lW cW]
/-- block b holds the two slices of a net -/
def NetB (w : World) (b : Nat) (d : NV) : Prop := w.cell? ⟨b, 0, none⟩ = some (.slice d.aT d.lT d.cT) ∧ w.cell? ⟨b, 1, none⟩ = some (.slice d.aW d.lW d.cW)
theorem NetB.block {w w' : World} {b : Nat} {d : NV} (h : NetB w b d) (e : w'.heap[b]? = w.heap[b]?) : NetB w' b d :=
  ⟨by rw [World.cell?_of_block (w := w) e]; exact h.1, by rw [World.cell?_of_block (w := w) e]; exact h.2⟩
theorem NetB.lt {w : World} {b : Nat} {d : NV} (h : NetB w b d) : b < w.heap.size := World.block_lt_of_cell? w _ h.1
theorem NetB.below {w w' : World} {b n : Nat} {d : NV} (h : NetB w b d) (hb : Below n w w') (hn : b < n) : NetB w' b d := h.block (hb.block b hn)
theorem netB_new (w : World) (aT : Option Addr) (lT cT : Nat) (aW : Option Addr) (lW cW : Nat) (t : TypeId) : NetB (w.alloc (.cells #[.slice aT lT cT, .slice aW lW cW] t)) w.heap.size ⟨aT, lT, cT, aW, lW, cW⟩ :=
  ⟨by rw [World.cell?_alloc_new]; rfl, by rw [World.cell?_alloc_new]; rfl⟩
/-- the answer, and what lay below lies as it lay -/
def valN (w : World) (v : Value) (e : Ending) (w' : World) : Prop := e = .returned v ∧ Below w.heap.size w w'
theorem below_drewN {w w' : World} {n : Nat} (h : Below n w w') (q : Nat) : Below n w (w'.drewN q) := h.trans (Drew.below ⟨q, rfl⟩ n)
theorem NetB.drewN {w : World} {b : Nat} {d : NV} (h : NetB w b d) (q : Nat) : NetB (w.drewN q) b d := h.block rfl
/-- a net in its box -/
structure NetOn (w : World) (b : Nat) (d : NV) (ts : List Int) (rows : List (List Int)) : Prop where
  box : NetB w b d
  at' : NetAt w (· < w.heap.size) d ts rows
theorem NetOn.lift {w w' : World} {b : Nat} {d : NV} {ts : List Int} {rows : List (List Int)} (h : NetOn w b d ts rows) (hb : Below w.heap.size w w') : NetOn w' b d ts rows := ⟨h.box.below hb h.box.lt, net_lift h.at' hb⟩
theorem netOn_new {w : World} {aT : Option Addr} {lT cT : Nat} {aW : Option Addr} {lW cW : Nat} {ts : List Int} {rows : List (List Int)} (h : NetAt w (· < w.heap.size) ⟨aT, lT, cT, aW, lW, cW⟩ ts rows) (t : TypeId) : NetOn (w.alloc (.cells #[.slice aT lT cT, .slice aW lW cW] t)) w.heap.size ⟨aT, lT, cT, aW, lW, cW⟩ ts rows :=
  ⟨netB_new w aT lT cT aW lW cW t, net_lift h ((Below.refl _ _).alloc (Nat.le_refl _) _)⟩
end Go.Proofs.Ytkjmpkincaainac
namespace Go.Proofs.Ytkjmpkincaainac
open Go.RowKit Go.WideShapes

/-- two cells of a block, that may be written -/
def Two (w : World) (b : Nat) (x y : Value) : Prop := (w.cell? ⟨b, 0, none⟩ = some x ∧ w.frozen? ⟨b, 0, none⟩ = false) ∧ w.cell? ⟨b, 1, none⟩ = some y ∧ w.frozen? ⟨b, 1, none⟩ = false
theorem Two.block {w w' : World} {b : Nat} {x y : Value} (h : Two w b x y) (e : w'.heap[b]? = w.heap[b]?) : Two w' b x y :=
  ⟨⟨by rw [World.cell?_of_block (w := w) e]; exact h.1.1, by rw [World.frozen?_of_block (w := w) e]; exact h.1.2⟩, by rw [World.cell?_of_block (w := w) e]; exact h.2.1, by rw [World.frozen?_of_block (w := w) e]; exact h.2.2⟩
theorem Two.lt {w : World} {b : Nat} {x y : Value} (h : Two w b x y) : b < w.heap.size := World.block_lt_of_cell? w _ h.1.1
theorem Two.grown {w w' : World} {b : Nat} {x y : Value} {r : Option Nat} (h : Two w b x y) (hg : w.grownBy w' r) (hr : some b ≠ r) : Two w' b x y := h.block (hg.block b h.lt hr)
theorem two_new (w : World) (x y : Value) (t : TypeId) : Two (w.alloc (.cells #[x, y] t)) w.heap.size x y :=
  ⟨⟨by rw [World.cell?_alloc_new]; rfl, World.frozen?_alloc_new w _ _ _⟩, by rw [World.cell?_alloc_new]; rfl, World.frozen?_alloc_new w _ _ _⟩
theorem Two.set0 {w : World} {b : Nat} {x y : Value} (h : Two w b x y) (u : Value) : Two (w.setCell ⟨b, 0, none⟩ u) b u y := by
  refine ⟨⟨World.cell?_setCell_same _ _ _ h.1.1, by rw [World.frozen?_setCell]; exact h.1.2⟩, ?_, by rw [World.frozen?_setCell]; exact h.2.2⟩
  rw [World.cell?_setCell_other _ _ _ _ (by intro e; injection e with _ e2; exact absurd e2 (by omega))]; exact h.2.1
theorem Two.set1 {w : World} {b : Nat} {x y : Value} (h : Two w b x y) (u : Value) : Two (w.setCell ⟨b, 1, none⟩ u) b x u := by
  refine ⟨⟨?_, by rw [World.frozen?_setCell]; exact h.1.2⟩, World.cell?_setCell_same _ _ _ h.2.1, by rw [World.frozen?_setCell]; exact h.2.2⟩
  rw [World.cell?_setCell_other _ _ _ _ (by intro e; injection e with _ e2; exact absurd e2 (by omega))]; exact h.1.1
/-- a drawn net, behind a reader -/
def NetPost (w : World) (R p : Nat) (e : Ending) (w' : World) : Prop := ∃ (d : NV) (ts : List Int) (rows : List (List Int)) (p' : Nat), e = .returned (.agg #[.slice d.aT d.lT d.cT, .slice d.aW d.lW d.cW]) ∧
  NetAt w' (fun b => w.heap.size ≤ b ∧ b < w'.heap.size) d ts rows ∧ d.lT ≤ 4 ∧ d.lW ≤ 8 ∧ Rd w' R p' ∧ p' ≤ p + 100 ∧ w.grownBy w' (some R)
theorem netw_n {n : Int} (h : n ∈ [4, 5, 3, 6, 7, 2, 0]) : ∃ m : Nat, n = (m : Int) ∧ m ≤ 7 := by
  simp at h
  exact ⟨n.toNat, by omega, by omega⟩
theorem netv_n {n : Int} (h : n ∈ [3, 2, 4, 1, 0]) : ∃ m : Nat, n = (m : Int) ∧ m ≤ 4 := by
  simp at h
  exact ⟨n.toNat, by omega, by omega⟩
theorem nett_n {n : Int} (h : n ∈ [5, 9]) : 5 ≤ n ∧ n ≤ 9 := by simp at h; omega
end Go.Proofs.Ytkjmpkincaainac
