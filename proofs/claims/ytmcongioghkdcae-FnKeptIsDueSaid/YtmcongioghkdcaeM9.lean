import Derived.Test.YtmcongioghkdcaeRows
import Derived.WalkKit
import Derived.LoopTactic
import Derived.Outline
import Derived.WalkSpells
import Derived.WalkLawsBesides
import Derived.Deep.QuietTactic
import Derived.BigQuiet
import Derived.IntWalk
import Derived.Test.YtmcongioghkdcaeM0
import Derived.ProofKit
import Derived.Test.YtmcongioghkdcaeM1
import Derived.Test.YtmcongioghkdcaeM2
import Derived.Deep.RegionLaw
import Derived.Deep.AppendLies
namespace Go.Proofs.Ytmcongioghkdcae
open Go.RowKit

set_option maxRecDepth 100000 in
set_option maxHeartbeats 1000000 in
theorem pick_any (R p : Nat) (n : Int) (w : World) (h : Rd w R p) (hp : p ≤ 1099511627776) :
    Calls Try.prog 42 #[.pointer (some ⟨R, 0, none⟩), .int .i64 n] w fun e w' => ∃ k : Nat, e = .returned (.int .i64 k) ∧ (k : Int) < max n 1 ∧ Rd w' R (p + 1) ∧ w.grownBy w' (some R) := by
  have HR := Lib.hid h
  obtain ⟨h1, hf, a, m, cap, h0, hm, hb⟩ := h
  by_cases hn : n < 1
  · go_enter Try.func42, Try.ntmps42
    go_wp2
    go_ret
    exact ⟨0, rfl, by omega, HR.out.stored0⟩
  · by_cases hm0 : m = 0
    · subst hm0
      go_enter Try.func42, Try.ntmps42
      go_wp2
      go_ret
      exact ⟨0, rfl, by omega, HR.out.stored0⟩
    · obtain ⟨b, off, rfl, hbR, hby⟩ := hb (by omega)
      by_cases hlt : p < m
      · obtain ⟨x, hx, hc⟩ := hby p hlt
        have hc' : (w.setCell ⟨R, 1, none⟩ (.int .i64 ((p : Int) + 1))).cell? ⟨b, off + p, none⟩ = some (.int .u8 x) := by
          rw [World.cell?_setCell_other _ _ _ _ (by intro e; injection e; omega)]; exact hc
        clear hby hb
        go_enter Try.func42, Try.ntmps42
        go_wp2
        go_ret
        have e1 : 0 ≤ (x : Int) % n := Int.emod_nonneg _ (by omega)
        have e2 : (x : Int) % n < n := Int.emod_lt_of_pos _ (by omega)
        exact ⟨((x : Int) % n).toNat, ret_int (by omega), by omega, HR.out.stored0⟩
      · have hm1 : 1 ≤ m := by omega
        obtain ⟨x1, hx1, hc1⟩ := hby (p % m) (Nat.mod_lt _ (by omega))
        obtain ⟨x2, hx2, hc2⟩ := hby ((p * 7 + 3) % m) (Nat.mod_lt _ (by omega))
        have hd1 : (w.setCell ⟨R, 1, none⟩ (.int .i64 ((p : Int) + 1))).cell? ⟨b, off + p % m, none⟩ = some (.int .u8 x1) := by
          rw [World.cell?_setCell_other _ _ _ _ (by intro e; injection e; omega)]; exact hc1
        have hd2 : (w.setCell ⟨R, 1, none⟩ (.int .i64 ((p : Int) + 1))).cell? ⟨b, off + (p * 7 + 3) % m, none⟩ = some (.int .u8 x2) := by
          rw [World.cell?_setCell_other _ _ _ _ (by intro e; injection e; omega)]; exact hc2
        clear hc1 hc2 hby hb
        have b1 : p % m < m := Nat.mod_lt _ (by omega)
        have b2 : (p * 7 + 3) % m < m := Nat.mod_lt _ (by omega)
        have g1 : 0 ≤ ((p : Int) * 7 + 3) % (m : Int) := Int.emod_nonneg _ (by omega)
        have g2 : ((p : Int) * 7 + 3) % (m : Int) < (m : Int) := Int.emod_lt_of_pos _ (by omega)
        have g3 : 0 ≤ (p : Int) / (m : Int) := Int.ediv_nonneg (by omega) (by omega)
        have g4 : (p : Int) / (m : Int) ≤ p := Int.ediv_le_self _ (by omega)
        go_enter Try.func42, Try.ntmps42
        go_wp2
        go_quiet (fail)
        go_wp2
        go_ret
        obtain ⟨k, hk, hk'⟩ := mixed ((x1 : Int) * 131 + x2 * 1117 + p * 29 + (p : Int) / (m : Int) * 53) n (by omega) (by omega) hn
        exact ⟨k, ret_int hk, by omega, HR.out.stored _⟩

theorem one_any (S : Nat → Prop) (R p : Nat) (a : Option Addr) (len cap : Nat) (xs : List Int) (w : World) (h : Rd w R p) (hx : IntsAt w S a len xs) (hne : ∀ b, S b → b ≠ R ∧ b < w.heap.size) (hl : 1 ≤ len) (hp : p ≤ 1099511627776) :
    Calls Try.prog 41 #[.pointer (some ⟨R, 0, none⟩), .slice a len cap] w fun e w' => ∃ x, x ∈ xs ∧ e = .returned (.int .i64 x) ∧ Rd w' R (p + 1) ∧ w.grownBy w' (some R) := by
  have hs := hx.small
  go_enter Try.func41, Try.ntmps41
  go_wp2_with fail
  refine (pick_any R p (len : Int) w h hp).mono ?_
  rintro e w' ⟨k, rfl, hk, hr, hg⟩
  obtain ⟨b, off, x, rfl, hx1, hx2⟩ := (hx.to (S' := S) (w' := w') fun b hb => ⟨hb, hg.block b (hne b hb).2 (by have := (hne b hb).1; simpa using this)⟩).get (k := k) (by omega)
  have HX := Lib.hid hx1
  clear hx1
  have hk' : k < len := by omega
  go_wp2
  go_ret
  exact ⟨x, List.mem_of_getElem? HX.out, rfl, hr, hg⟩
end Go.Proofs.Ytmcongioghkdcae
namespace Go.Proofs.Ytmcongioghkdcae
open Go.RowKit Go.WideShapes

theorem Try.infoIntD : (Try.prog.info? 3).map (fun i => (i.zero, i.size, i.bytes)) = some (some (.int .i64 0), 1, 8) := by kernel_rfl

/-- the days that are drawn -/
def DaysOk (xs : List Int) : Prop := xs.length ≤ 9 ∧ (∀ k, -1 ≤ xs.getD k 0) ∧ (∀ k, xs.getD k 0 ≤ if k = 0 then 21 else 12)
theorem daysOk_of {xs : List Int} (hl : xs.length ≤ 9) (h : ∀ x ∈ xs, 0 ≤ x ∧ x ≤ 12) : DaysOk xs := by
  have key : ∀ k, 0 ≤ xs.getD k 0 ∧ xs.getD k 0 ≤ 12 := by
    intro k
    rcases Nat.lt_or_ge k xs.length with h' | h'
    · exact h _ (List.mem_of_getElem? (get_getD h'))
    · rw [getD_past h']; omega
  exact ⟨hl, fun k => by have := key k; omega, fun k => by have := key k; split <;> omega⟩
theorem daysOk_set {xs : List Int} {x : Int} (hl : xs.length ≤ 9) (h : ∀ x ∈ xs, 0 ≤ x ∧ x ≤ 12) (hx : x = -1 ∨ x = 21) : DaysOk (xs.set 0 x) := by
  have key : ∀ k, 0 ≤ xs.getD k 0 ∧ xs.getD k 0 ≤ 12 := by
    intro k
    rcases Nat.lt_or_ge k xs.length with h' | h'
    · exact h _ (List.mem_of_getElem? (get_getD h'))
    · rw [getD_past h']; omega
  have e : ∀ k, (xs.set 0 x).getD k 0 = if k = 0 ∧ 0 < xs.length then x else xs.getD k 0 := by
    intro k
    rw [List.getD_eq_getElem?_getD, List.getD_eq_getElem?_getD, List.getElem?_set]
    by_cases hk : 0 = k
    · subst hk
      by_cases hp : 0 < xs.length
      · rw [if_pos rfl, if_pos hp, if_pos ⟨rfl, hp⟩]; rfl
      · rw [if_pos rfl, if_neg hp, if_neg (by omega), List.getElem?_eq_none (by omega)]
    · rw [if_neg hk, if_neg (by omega)]
  refine ⟨by rw [List.length_set]; exact hl, fun k => ?_, fun k => ?_⟩
  · rw [e]; have := key k; split <;> omega
  · rw [e]; have := key k; split <;> split <;> omega

def DaysPost (w : World) (R p : Nat) (e : Ending) (w' : World) : Prop := ∃ (a : Option Addr) (len cap : Nat) (xs : List Int) (p' : Nat), e = .returned (.slice a len cap) ∧
  w'.ownsRow w.heap.size 3 1 (.slice a len cap) len (xs.map (.int .i64)) ∧ len ≤ cap ∧ len ≤ 9 ∧ DaysOk xs ∧ Rd w' R p' ∧ p' ≤ p + 100 ∧ w.grownBy w' (some R)
theorem DaysPost.mk {w w' : World} {R p p' : Nat} {a : Option Addr} {len cap : Nat} {xs : List Int} (h : w'.ownsRow w.heap.size 3 1 (.slice a len cap) len (xs.map (.int .i64))) (hl : len ≤ 9) (hd : DaysOk xs) (hr : Rd w' R p') (hp : p' ≤ p + 100) (hg : w.grownBy w' (some R)) :
    DaysPost w R p (.returned (.slice a len cap)) w' := by
  obtain ⟨a', cap', e, hc⟩ := own_slice h
  simp only [Value.slice.injEq] at e
  obtain ⟨rfl, _, rfl⟩ := e
  exact ⟨_, _, _, xs, p', rfl, h, hc, hl, hd, hr, hp, hg⟩
theorem ro {R : Nat} : ∀ k, some R = some k → k = R ∨ False := by intro k e; cases e; exact Or.inl rfl

theorem most_n {n : Int} (h : n ∈ [6, 12, 3]) : 3 ≤ n ∧ n ≤ 12 := by simp at h; omega
theorem days_n {n : Int} (h : n ∈ [5, 6, 4, 8, 3, 2, 1, 0, 9]) : ∃ m : Nat, n = (m : Int) ∧ m ≤ 9 := by simp at h; exact ⟨n.toNat, by omega, by omega⟩
theorem grown_r {a b c : World} {R : Nat} (h : a.grownBy b (some R)) (g : b.grownBy c (some R)) : a.grownBy c (some R) := grown_trans h g (fun k e => by cases e; exact Or.inl rfl)

end Go.Proofs.Ytmcongioghkdcae
namespace Go.Proofs.Ytmcongioghkdcae
open Go.RowKit Go.WideShapes

theorem rd_new (w : World) (a : Option Addr) (n cap : Nat) (t : TypeId) (hn : n ≤ 2000) (hb : BytesAt w w.heap.size a n) : Rd (w.alloc (.cells #[.slice a n cap, .int .i64 0] t)) w.heap.size 0 := by
  refine ⟨by rw [World.cell?_alloc_new]; rfl, World.frozen?_alloc_new w _ _ _, a, n, cap, by rw [World.cell?_alloc_new]; rfl, hn, fun h0 => ?_⟩
  obtain ⟨b, off, ha, hb', hc⟩ := hb h0
  refine ⟨b, off, ha, hb', fun i hi => ?_⟩
  obtain ⟨x, hx, hx'⟩ := hc i hi
  exact ⟨x, hx, by rw [World.cell?_alloc_lt _ _ _ hb']; exact hx'⟩

def ReaderPost (w : World) (e : Ending) (w' : World) : Prop := e = .returned (.pointer (some ⟨w.heap.size, 0, none⟩)) ∧ Rd w' w.heap.size 0 ∧ Below w.heap.size w w'

theorem newReader_any (a : Option Addr) (len cap : Nat) (w : World) (hb : BytesAt w w.heap.size a len) (hl : len ≤ cap) (hs : len ≤ 9223372036854775807) :
    Calls Try.prog 20 #[.slice a len cap] w (ReaderPost w) := by
  by_cases h : len ≤ 2000
  · go_enter Try.func20, Try.ntmps20
    go_wp2
    go_ret
    exact ⟨rfl, rd_new w a len cap _ h hb, (Below.refl _ _).alloc (Nat.le_refl _) _⟩
  · obtain ⟨b, off, rfl, hb1, hc⟩ := hb (by omega)
    have h2 : BytesAt w w.heap.size (some ⟨b, off, none⟩) 2000 := fun _ => ⟨b, off, rfl, hb1, fun i hi => hc i (by omega)⟩
    clear hc
    go_enter Try.func20, Try.ntmps20
    go_wp2
    go_ret
    exact ⟨rfl, rd_new w _ 2000 cap _ (by omega) h2, (Below.refl _ _).alloc (Nat.le_refl _) _⟩
end Go.Proofs.Ytmcongioghkdcae
namespace Go.Proofs.Ytmcongioghkdcae
open Go.RowKit Go.WideShapes

/-- a list made behind the reader R, ahead of block B -/
def LAt (w : World) (R B : Nat) (a : Option Addr) (l : Nat) (xs : List Int) : Prop := IntsAt w (fun b => R < b ∧ b < B) a l xs ∧ B ≤ w.heap.size
theorem LAt.step {w w' : World} {R B l : Nat} {a : Option Addr} {xs : List Int} (h : LAt w R B a l xs) (hg : w.grownBy w' (some R)) : LAt w' R B a l xs :=
  ⟨h.1.to (fun b hb => ⟨hb, hg.block b (Nat.lt_of_lt_of_le hb.2 h.2) (by intro e; injection e; omega)⟩), Nat.le_trans h.2 hg.size⟩
theorem LAt.stepR {w w' : World} {R B l : Nat} {a : Option Addr} {xs : List Int} {r : Option Nat} (h : LAt w R B a l xs) (hg : w.grownBy w' r) (hr : ∀ k, r = some k → B ≤ k) : LAt w' R B a l xs :=
  ⟨h.1.to (fun b hb => ⟨hb, hg.block b (Nat.lt_of_lt_of_le hb.2 h.2) (by intro e; have := hr b e.symm; omega)⟩), Nat.le_trans h.2 hg.size⟩
theorem LAt.alloc {w : World} {R B l : Nat} {a : Option Addr} {xs : List Int} (h : LAt w R B a l xs) (o : Obj) : LAt (w.alloc o) R B a l xs := h.step (World.grownBy_alloc _ _ _)
theorem LAt.low {w : World} {R B l : Nat} {a : Option Addr} {xs : List Int} (h : LAt w R B a l xs) : IntsAt w (· < w.heap.size) a l xs := h.1.to (fun _ hb => ⟨Nat.lt_of_lt_of_le hb.2 h.2, rfl⟩)
theorem lat_new {w w' : World} {R l : Nat} {a : Option Addr} {xs : List Int} (h : IntsAt w' (fun b => w.heap.size ≤ b ∧ b < w'.heap.size) a l xs) (hR : R < w.heap.size) : LAt w' R w'.heap.size a l xs :=
  ⟨h.to (fun _ hb => ⟨⟨by omega, hb.2⟩, rfl⟩), Nat.le_refl _⟩
theorem lat_own {w w' : World} {R l cp : Nat} {a : Option Addr} {xs : List Int} (h : w'.ownsRow w.heap.size 3 1 (.slice a l cp) l (xs.map (.int .i64))) (hR : R < w.heap.size) (hl : l ≤ 9223372036854775807) : LAt w' R w'.heap.size a l xs := by
  obtain ⟨ay, cy, hve, _, hints⟩ := own_ints h hl
  simp only [Value.slice.injEq] at hve
  obtain ⟨rfl, _, rfl⟩ := hve
  exact lat_new hints hR
theorem own_low {w : World} {B l cp : Nat} {a : Option Addr} {xs : List Int} (h : w.ownsRow B 3 1 (.slice a l cp) l (xs.map (.int .i64))) (hl : l ≤ 9223372036854775807) : IntsAt w (· < w.heap.size) a l xs := by
  obtain ⟨ay, cy, hve, _, hints⟩ := own_ints h hl
  simp only [Value.slice.injEq] at hve
  obtain ⟨rfl, _, rfl⟩ := hve
  exact hints.to (fun _ hb => ⟨hb.2, rfl⟩)
theorem grown_of_below {w w' : World} (h : Below w.heap.size w w') (r : Option Nat) : w.grownBy w' r := ⟨h.os, h.tape, h.output, h.size, fun b hb _ => h.block b hb⟩
theorem Rd.step {w w' : World} {R p : Nat} (h : Rd w R p) (hb : Below w.heap.size w w') : Rd w' R p :=
  h.grown (r := none) (grown_of_below hb none) (fun k e => by cases e)
theorem own_step {w w' : World} {B R l : Nat} {v : Value} {xs : List Value} (h : w.ownsRow B 3 1 v l xs) (hg : w.grownBy w' (some R)) (hR : R < B) : w'.ownsRow B 3 1 v l xs := h.kept hg (ne_low h hR)
end Go.Proofs.Ytmcongioghkdcae
namespace Go.Proofs.Ytmcongioghkdcae
open Go.RowKit Go.WideShapes

/-- append of a list to a list of the call's own, at a step of a region that draws; the source may be empty -/
theorem stepApp {ops : Array Oper} {o : Oper} {a : Act} {K : Act → World → Prop} {Q : Exit → Act → World → Prop} {E : Prop} {wo : World} (hgd : o.guard = none) (s x : Operand)
    (ho : o.op = .call { callee := .builtin .append, args := #[s, x], argTypes := #[24, 24] })
    (base k cp gx : Nat) (xs : List Int) (S : Nat → Prop) (b off m c : Nat) (ys : List Int) (hs : a.eval s = .slice (some ⟨gx, 0, none⟩) k cp)
    (hown : wo.ownsRow base 3 1 (.slice (some ⟨gx, 0, none⟩) k cp) k (xs.map (.int .i64))) (hx : a.eval x = .slice (some ⟨b, off, none⟩) m c) (hy : IntsAt wo S (some ⟨b, off, none⟩) m ys)
    (hbase : base ≤ wo.heap.size) (km : Nat) (hkm : k + m = km) (zs : List Int) (hzs : xs ++ ys = zs) (hk : km ≤ 1048576)
    (h : ∀ (g6 c6 : Nat) (w' : World), w'.ownsRow base 3 1 (.slice (some ⟨g6, 0, none⟩) km c6) km (zs.map (.int .i64)) → km ≤ c6 → wo.grownBy w' (some gx) → base ≤ g6 → g6 < w'.heap.size →
      K (a.put o.dst (.slice (some ⟨g6, 0, none⟩) km c6)) w') :
    if Region.wanted o (yielded ops a.tmps) = true then Oper.wp Try.prog o a wo K Q else E := by
  subst hkm
  subst hzs
  have hw : Region.wanted o (yielded ops a.tmps) = true := by simp [Region.wanted, hgd]
  rw [if_pos hw]
  obtain ⟨i0, hi, hz0, hz1, hz2⟩ := info_parts Try.infoIntO
  obtain ⟨v', w', hr, h2, h3, h4, _⟩ := run_append_own_at (P := Try.prog) wo base 24 o.type 3 i0 (.int .i64 0) 1 8 Try.underlying24 hi hz0 hz1 hz2 rfl (by decide) _ k _ hown ⟨b, off, none⟩ m c (ys.map (.int .i64)) (by simp [hy.lenEq]) (by
    intro j u hj
    rw [List.getElem?_map] at hj
    cases hq : ys[j]? with
    | none => rw [hq] at hj; cases hj
    | some z =>
      rw [hq] at hj
      simp only [Option.map_some, Option.some.injEq] at hj
      have hlt : j < ys.length := (List.getElem?_eq_some_iff.1 hq).1
      obtain ⟨b', off', e, _, hc⟩ := hy.cells (by have := hy.lenEq; omega)
      cases e
      rw [add_plain, hc _ _ hq, ← hj]) (by
    intro u hu
    obtain ⟨x, _, rfl⟩ := List.mem_map.1 hu
    rfl) (by unfold maxLen; omega) (by omega) hbase
  unfold Oper.wp execOp
  simp only [ho, resolve, invoke, builtin, Sem.run_bind, Sem.run_pure, Result.andThen_ok, List.map_toArray, List.map_cons, List.map_nil, hs, hx, hr]
  obtain ⟨a6, c6, rfl, hc⟩ := own_slice h2
  rcases h2.2 with ⟨e1, e2⟩ | ⟨g, cap, cur, hv, hb, hg, _⟩
  · exact absurd (h4.1 (by injection e1 with e3 _ e4; subst e3; subst e4; rw [e2])).1 (by simp)
  · injection hv with e3 _ e4
    subst e3
    rw [← List.map_append] at h2
    refine h g c6 w' h2 hc h3 hb ?_
    rcases Nat.lt_or_ge g w'.heap.size with hlt | hge
    · exact hlt
    · rw [Array.getElem?_eq_none hge] at hg; cases hg

theorem IntsAt.takeI {w : World} {S : Nat → Prop} {b off len : Nat} {xs : List Int} (h : IntsAt w S (some ⟨b, off, none⟩) len xs) (k : Nat) (hk : k ≤ len) : IntsAt w S (some ⟨b, off, none⟩) k (xs.take k) := by
  have hl := h.lenEq
  have hs := h.small
  refine ⟨by simp; omega, by omega, fun h0 => ?_⟩
  obtain ⟨b', off', e, hS, hc⟩ := h.cells (by omega)
  cases e
  refine ⟨_, _, rfl, hS, fun i x hx => hc i x ?_⟩
  rw [List.getElem?_take] at hx
  split at hx
  · exact hx
  · cases hx
theorem IntsAt.dropI {w : World} {S : Nat → Prop} {b len : Nat} {xs : List Int} (h : IntsAt w S (some ⟨b, 0, none⟩) len xs) (k : Nat) (hk : k ≤ len) : IntsAt w S (some ⟨b, k, none⟩) (len - k) (xs.drop k) := by
  have hl := h.lenEq
  have hs := h.small
  refine ⟨by simp; omega, by omega, fun h0 => ?_⟩
  obtain ⟨b', off', e, hS, hc⟩ := h.cells (by omega)
  cases e
  refine ⟨_, _, rfl, hS, fun i x hx => ?_⟩
  rw [List.getElem?_drop] at hx
  have := hc _ x hx
  rwa [Nat.zero_add] at this
theorem IntsAt.grownEq {W W' w' : World} {b r len : Nat} {xs : List Int} (h : IntsAt W (fun k => k = b) (some ⟨b, 0, none⟩) len xs) (hg : W'.grownBy w' (some r)) (he : W'.heap = W.heap) (hb : b < W'.heap.size) (hr : b ≠ r) :
    IntsAt w' (fun k => k = b) (some ⟨b, 0, none⟩) len xs :=
  h.to fun k hk => ⟨hk, by subst hk; rw [hg.block _ hb (by simp; omega), he]⟩
theorem below_grown {n : Nat} {w w' : World} (h : Below n w w') (hn : n = w.heap.size) (r : Option Nat) : w.grownBy w' r := by
  subst hn
  exact ⟨h.os, h.tape, h.output, h.size, fun k hk _ => h.block k hk⟩
def OrderPost (w : World) (R p n : Nat) (e : Ending) (w' : World) : Prop := ∃ (g cap : Nat) (xs : List Int), e = .returned (.slice (some ⟨g, 0, none⟩) n cap) ∧
  w'.ownsRow w.heap.size 3 1 (.slice (some ⟨g, 0, none⟩) n cap) n (xs.map (.int .i64)) ∧ n ≤ cap ∧ (∀ x ∈ xs, -1 ≤ x ∧ x ≤ n) ∧ w.grownBy w' (some R)
set_option maxRecDepth 100000 in
set_option maxHeartbeats 4000000 in
theorem orderOf_any (R p n : Nat) (w : World) (h : Rd w R p) (hp : p ≤ 900000) (hn : n ≤ 8) :
    Calls Try.prog 22 #[.pointer (some ⟨R, 0, none⟩), .int .i64 n] w (OrderPost w R p n) := by
  have hR := h.lt
  have ho0 := World.ownsRow_made (base := w.heap.size) (size := 1) (e := 3) w #[] 0 (Nat.le_refl _) (Nat.zero_le _) rfl
  go_enter Try.func22, Try.ntmps22
  go_wp2_with fail
  go_loopw [5, 6] (fun v i wr => ∃ (j p' cap g : Nat) (xs : List Int), i = .int .i64 j ∧ v = .slice (some ⟨g, 0, none⟩) j cap ∧ wr.ownsRow w.heap.size 3 1 v j (xs.map (.int .i64)) ∧ j ≤ cap ∧ j ≤ n ∧ (∀ x ∈ xs, -1 ≤ x ∧ x ≤ n) ∧ Rd wr R p' ∧ p' ≤ p + j ∧ w.grownBy wr (some R)) (fun _ i _ => n - (intOf i).toNat)
  case atStart => exact ⟨0, p, 0, w.heap.size, [], rfl, rfl, ho0, Nat.zero_le _, Nat.zero_le _, (fun x hx => by cases hx), h.alloc _, by omega, World.grownBy_alloc _ _ _⟩
  case round =>
    clear ho0
    obtain ⟨j, p', cap, g, xs, rfl, rfl, hown, hjc, hjn, hall, hr, hpp, hg⟩ := hrel
    obtain ⟨wo, rfl⟩ : ∃ wo : World, wo = wr := ⟨_, rfl⟩
    have hsz := hg.size
    by_cases hlt : j < n
    · go_wp2_with fail
      refine (pick_any R p' (j + 1) wo hr (by omega)).mono ?_
      rintro e w1 ⟨k, rfl, hk, hr1, hg1⟩
      have hkj : k ≤ j := by omega
      have HOWN := Lib.hid (hown.kept hg1 (ne_low hown hR))
      clear hown
      have hx1 : IntsAt w1 (· < w1.heap.size) (some ⟨g, 0, none⟩) j xs := by
        obtain ⟨a', c', e', _, h'⟩ := own_ints HOWN.out (by omega)
        injection e' with e1 _ _
        subst e1
        exact h'.to fun b hb => ⟨hb.2, rfl⟩
      have HT := Lib.hid (hx1.takeI k hkj)
      obtain ⟨AD, hAD, hD⟩ : ∃ od : Nat, (if cap = k then (some ⟨g, 0, none⟩ : Option Addr) else some ⟨g, k, none⟩) = some ⟨g, od, none⟩ ∧ IntsAt w1 (· < w1.heap.size) (some ⟨g, od, none⟩) (j - k) (xs.drop k) := by
        by_cases hck : cap = k
        · exact ⟨0, by rw [if_pos hck], by have := hx1.lenEq; simp; omega, by omega, fun h0 => by omega⟩
        · exact ⟨k, by rw [if_neg hck], hx1.dropI k hkj⟩
      have HD := Lib.hid hD
      clear hD hx1
      have hkc : k ≤ cap := by omega
      have QA := Lib.hid (World.ownsRow_made (base := w1.heap.size) (size := 1) (e := 3) w1 #[] 0 (Nat.le_refl _) (Nat.zero_le _) rfl)
      have QB : Hid (((w1.alloc (.cells #[.int .i64 (j : Int)] 3)).alloc (.cells #[] 3)).ownsRow w1.heap.size 3 1 (.slice (some ⟨w1.heap.size + 1, 0, none⟩) 0 0) 0 (([] : List Int).map (.int .i64))) := Lib.hid (by
        have := World.ownsRow_made (base := w1.heap.size) (size := 1) (e := 3) (w1.alloc (.cells #[.int .i64 (j : Int)] 3)) #[] 0 (by simp) (Nat.zero_le _) rfl
        simpa using this)
      have YA : Hid (IntsAt ((w1.alloc (.cells #[] 3)).alloc (.cells #[.int .i64 (j : Int)] 3)) (fun k => k = w1.heap.size + 1) (some ⟨w1.heap.size + 1, 0, none⟩) 1 [(j : Int)]) := Lib.hid (IntsAt.lit rfl rfl (by simp) (by omega))
      have YB : Hid (IntsAt ((w1.alloc (.cells #[.int .i64 (j : Int)] 3)).alloc (.cells #[] 3)) (fun k => k = w1.heap.size) (some ⟨w1.heap.size, 0, none⟩) 1 [(j : Int)]) := Lib.hid (IntsAt.to (IntsAt.lit (W := w1) (cs := #[.int .i64 (j : Int)]) (t := 3) (xs := [(j : Int)]) (len := 1) rfl rfl rfl (by omega)) (fun b hb => ⟨hb, by subst hb; exact Below.heap_alloc _ _ _ (by simp)⟩))
      have B1 : Hid (Below w1.heap.size w1 (w1.alloc (.cells #[] 3)).drew) := Lib.hid ((Below.refl _ _).alloc (Nat.le_refl _) _).drew
      have B2 : Hid (Below w1.heap.size w1 ((w1.alloc (.cells #[] 3)).alloc (.cells #[.int .i64 (j : Int)] 3)).drew) := Lib.hid (((Below.refl _ _).alloc (Nat.le_refl _) _).alloc (by simp) _).drew
      have B3 : Hid (Below w1.heap.size w1 ((w1.alloc (.cells #[.int .i64 (j : Int)] 3)).alloc (.cells #[] 3)).drew) := Lib.hid (((Below.refl _ _).alloc (Nat.le_refl _) _).alloc (by simp) _).drew
      have hg2 : w.grownBy w1 (some R) := grown_r hg hg1
      have HALL2 : Hid (∀ x ∈ xs.take k ++ [(j : Int)] ++ xs.drop k, -1 ≤ x ∧ x ≤ n) := Lib.hid (by
        intro x hx
        rcases List.mem_append.1 hx with hx | hx
        · rcases List.mem_append.1 hx with hx | hx
          · exact hall x (List.mem_of_mem_take hx)
          · simp only [List.mem_singleton] at hx
            omega
        · exact hall x (List.mem_of_mem_drop hx))
      go_wp2_with fail
      go_region_law (first
        | (refine stepApp (by rfl) _ _ (by rfl) w1.heap.size 0 0 w1.heap.size [] (· < w1.heap.size) g 0 k cap (xs.take k) (by rfl) QA.out.drew (by rfl) (HT.out.below B1.out) B1.out.size k (by omega) (xs.take k) (by simp) (by omega) ?_
           intro g4 c4 w4 own4 hc4 gr4 hb4 hl4
           have BC := Lib.hid (B1.out.grown gr4 B1.out.size (by intro k e; injection e with e; omega)))
        | (refine stepApp (by rfl) _ _ (by rfl) w1.heap.size 0 0 w1.heap.size [] (· < w1.heap.size) g 0 k cap (xs.take k) (by rfl) (QA.out.alloc _).drew (by rfl) (HT.out.below B2.out) B2.out.size k (by omega) (xs.take k) (by simp) (by omega) ?_
           intro g4 c4 w4 own4 hc4 gr4 hb4 hl4
           have BA := Lib.hid (B2.out.grown gr4 B2.out.size (by intro k e; injection e with e; omega))
           have Y4 := Lib.hid (YA.out.grownEq gr4 rfl (by simp <;> omega) (by omega)))
        | (refine stepApp (by rfl) _ _ (by rfl) w1.heap.size 0 0 (w1.heap.size + 1) [] (· < w1.heap.size) g 0 k cap (xs.take k) (by rfl) QB.out.drew (by rfl) (HT.out.below B3.out) B3.out.size k (by omega) (xs.take k) (by simp) (by omega) ?_
           intro g4 c4 w4 own4 hc4 gr4 hb4 hl4
           have BA := Lib.hid (B3.out.grown gr4 B3.out.size (by intro k e; injection e with e; omega))
           have Y4 := Lib.hid (YB.out.grownEq gr4 rfl (by simp <;> omega) (by omega)))
        | (refine stepApp (by rfl) _ _ (by rfl) w1.heap.size k c4 g4 (xs.take k) (fun b => b = w4.heap.size) w4.heap.size 0 1 1 [(j : Int)] (by rfl) (own4.alloc _) (by rfl) (IntsAt.lit (W := w4) (cs := #[.int .i64 (j : Int)]) (t := 3) (xs := [(j : Int)]) (len := 1) rfl rfl rfl (by omega)) (by have := BC.out.size; simp; omega) (k + 1) rfl (xs.take k ++ [(j : Int)]) rfl (by omega) ?_
           intro g5 c5 w5 own5 hc5 gr5 hb5 hl5
           have B5 := Lib.hid ((BC.out.alloc BC.out.size _).grown gr5 (by have := BC.out.size; simp; omega) (by intro k e; injection e with e; omega)))
        | (refine stepApp (by rfl) _ _ (by rfl) w1.heap.size k c4 g4 (xs.take k) _ _ 0 1 1 [(j : Int)] (by rfl) own4 (by rfl) Y4.out BA.out.size (k + 1) rfl (xs.take k ++ [(j : Int)]) rfl (by omega) ?_
           intro g5 c5 w5 own5 hc5 gr5 hb5 hl5
           have B5 := Lib.hid (BA.out.grown gr5 BA.out.size (by intro k e; injection e with e; omega)))
        | (refine stepApp (by rfl) _ _ (by rfl) w1.heap.size (k + 1) c5 g5 (xs.take k ++ [(j : Int)]) (· < w1.heap.size) g AD (j - k) (cap - k) (xs.drop k) (by rfl) own5 (by rfl) (HD.out.below B5.out) B5.out.size (j + 1) (by omega) (xs.take k ++ [(j : Int)] ++ xs.drop k) rfl (by omega) ?_
           intro g6 c6 w6 own6 hc6 gr6 hb6 hl6
           have B6 := Lib.hid (B5.out.grown gr6 B5.out.size (by intro k e; injection e with e; omega))))
      all_goals (have H6 := Lib.hid own6; clear own6 own5 own4 gr4 gr5 gr6)
      all_goals go_wp2
      all_goals go_roundw
      case rel => exact ⟨j + 1, p' + 1, c6, g6, xs.take k ++ [(j : Int)] ++ xs.drop k, by go_num, rfl, own_base H6.out hg2.size, hc6, by omega, HALL2.out, hr1.grown (below_grown B6.out rfl none) (by simp), by omega, grown_r hg2 (below_grown B6.out rfl (some R))⟩
      case measure => simp [intOf]; omega
      case rel => exact ⟨j + 1, p' + 1, c6, g6, xs.take k ++ [(j : Int)] ++ xs.drop k, by go_num, rfl, own_base H6.out hg2.size, hc6, by omega, HALL2.out, hr1.grown (below_grown B6.out rfl none) (by simp), by omega, grown_r hg2 (below_grown B6.out rfl (some R))⟩
      case measure => simp [intOf]; omega
      case rel => exact ⟨j + 1, p' + 1, c6, g6, xs.take k ++ [(j : Int)] ++ xs.drop k, by go_num, rfl, own_base H6.out hg2.size, hc6, by omega, HALL2.out, hr1.grown (below_grown B6.out rfl none) (by simp), by omega, grown_r hg2 (below_grown B6.out rfl (some R))⟩
      case measure => simp [intOf]; omega
    · obtain rfl : j = n := by omega
      by_cases h0 : 0 < j
      · go_wp2_with fail
        refine (pick_any R p' 30 wo hr (by omega)).mono ?_
        rintro e w2 ⟨q, rfl, _, hr2, hg3⟩
        have ho2 := hown.kept hg3 (ne_low hown hR)
        have hg4 := grown_r hg hg3
        by_cases hq : q = 0
        · subst hq
          go_wp2_with fail
          refine (one_any (fun b => b = w2.heap.size) R (p' + 1) _ 2 2 [-1, (j : Int)] _ (hr2.alloc _) (IntsAt.lit rfl rfl rfl (by omega)) (by intro b hb; have := hr2.lt; simp; omega) (by omega) (by omega)).mono ?_
          rintro e w5 ⟨x, hx, rfl, hr5, hg5⟩
          have hxb : -1 ≤ x ∧ x ≤ j := by simp at hx; omega
          clear hx
          have hgw : w2.grownBy w5 (some R) := grown_r (World.grownBy_alloc w2 _ _) hg5
          have ho5 := ho2.kept hgw (ne_low ho2 hR)
          have hg6 := grown_r hg4 hgw
          have hg' : g < w5.heap.size := (ho5.lt g rfl).2
          have hgB : w.heap.size ≤ g := (ho5.lt g rfl).1
          obtain ⟨v1, hc1, hf1⟩ : ∃ v, w5.cell? ⟨g, 0, none⟩ = some v ∧ w5.frozen? ⟨g, 0, none⟩ = false := by
            have hl := ho5.1
            refine ⟨(xs.map (Value.int .i64))[0]'(by omega), ?_, ho5.frozenAt 0⟩
            rw [ho5.cellAt 0 (by omega)]
            exact List.getElem?_eq_getElem _
          obtain ⟨hst, hgs⟩ := ho5.stored 0 (.int .i64 x)
          have HST : Hid ((w5.setCell ⟨g, 0, none⟩ (.int .i64 x)).ownsRow w.heap.size 3 1 (.slice (some ⟨g, 0, none⟩) j cap) j ((xs.set 0 x).map (.int .i64))) := Lib.hid (by rw [List.map_set]; exact hst)
          have HGS := Lib.hid hgs
          clear hst hgs
          go_wp2
          go_ret
          refine ⟨g, cap, xs.set 0 x, rfl, HST.out, hjc, fun y hy => ?_, grown_trans hg6 HGS.out (by intro b hb; injection hb; omega)⟩
          rcases List.mem_or_eq_of_mem_set hy with hy | rfl
          · exact hall y hy
          · exact hxb
        · have hqe : ((q : Int) == 0) = false := by simp; omega
          go_wp2
          go_ret
          exact ⟨g, cap, xs, rfl, ho2, hjc, hall, hg4⟩
      · have h0' : ¬ (0 : Int) < (j : Int) := by omega
        go_wp2
        go_ret
        exact ⟨g, cap, xs, rfl, hown, hjc, hall, hg⟩
end Go.Proofs.Ytmcongioghkdcae
