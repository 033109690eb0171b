import Derived.Test.YthmlgicjedhgfabRows
import Derived.Test.YthmlgicjedhgfabM0
import Derived.Test.YthmlgicjedhgfabM1
import Derived.Test.YthmlgicjedhgfabM2
import Derived.WalkKit
import Derived.LoopTactic
import Derived.Outline
import Derived.WalkSpells
import Derived.WalkLawsBesides
import Derived.ProofKit
import Derived.Deep.RegionHeld3
import Derived.Test.YthmlgicjedhgfabM10
import Derived.Test.YthmlgicjedhgfabM18
import Derived.Test.YthmlgicjedhgfabM6
import Derived.Deep.RegionLaw
import Derived.Deep.AppendLies
import Derived.Test.YthmlgicjedhgfabM3
namespace Go.Proofs.Ythmlgicjedhgfab
open Go.RowKit Go.WideShapes

/-- u is a job of the call's own: rows, in a block below M -/
def OwnJob (w : World) (B M : Nat) (u : Value) : Prop := ∃ n : Nat, OwnRows w B M u n ∧ n ≤ 3 ∧ ∀ k, u.ownBlock = some k → k < M
/-- v is a slice of k such -/
def OwnShop (w : World) (B M : Nat) (v : Value) (k : Nat) : Prop := ∃ us : List Value, w.ownsRow B 27 1 v k us ∧ ∀ u ∈ us, OwnJob w B M u
theorem OwnRows.base {w : World} {B B' M k : Nat} {v : Value} (h : OwnRows w B M v k) (hb : B' ≤ B) : OwnRows w B' M v k := by
  obtain ⟨us, h1, h2⟩ := h
  exact ⟨us, own_base h1 hb, fun u hu => by obtain ⟨l, xs, h3, h4⟩ := h2 u hu; exact ⟨l, xs, own_base h3 hb, h4⟩⟩
theorem OwnJob.kept {w w' : World} {B M : Nat} {u : Value} {r : Option Nat} (h : OwnJob w B M u) (hg : w.grownBy w' r) (hr : ∀ k, r = some k → k < B ∨ M ≤ k) : OwnJob w' B M u := by
  obtain ⟨n, h, hn, hl⟩ := h
  refine ⟨n, h.kept hg hr ?_, hn, hl⟩
  obtain ⟨us, h1, _⟩ := h
  cases hv : u.ownBlock with
  | none => exact Or.inl rfl
  | some k => right; intro e; have := h1.lt k hv; have := hl k hv; have := hr k e.symm; omega
theorem OwnShop.kept {w w' : World} {B M k : Nat} {v : Value} {r : Option Nat} (h : OwnShop w B M v k) (hg : w.grownBy w' r) (hr : ∀ k, r = some k → k < B ∨ M ≤ k)
    (hv : v.ownBlock = none ∨ v.ownBlock ≠ r) : OwnShop w' B M v k := by
  obtain ⟨us, h, hu⟩ := h
  exact ⟨us, h.kept hg hv, fun u hu' => (hu u hu').kept hg hr⟩
theorem OwnShop.low {w w' : World} {B M k R : Nat} {v : Value} (h : OwnShop w B M v k) (hg : w.grownBy w' (some R)) (hR : R < B) : OwnShop w' B M v k := by
  refine h.kept hg (fun k e => by cases e; exact Or.inl hR) ?_
  obtain ⟨us, h, _⟩ := h
  exact ne_low h hR
theorem OwnShop.alloc {w : World} {B M k : Nat} {v : Value} (h : OwnShop w B M v k) (o : Obj) : OwnShop (w.alloc o) B M v k :=
  h.kept (World.grownBy_alloc w o none) (fun k e => by cases e) (by cases v.ownBlock <;> simp)
/-- an append to rows that are newer than the shop -/
theorem OwnShop.rows {w w' : World} {B M M' k n : Nat} {v u : Value} (h : OwnShop w B M v k) (hu : OwnRows w M M' u n) (hg : w.grownBy w' u.ownBlock) : OwnShop w' B M v k := by
  obtain ⟨ys, hu, _⟩ := hu
  refine h.kept hg (fun k e => Or.inr (hu.lt k e).1) ?_
  obtain ⟨us, h, _⟩ := h
  exact own_ne h hu (by decide)
theorem OwnShop.slice {w : World} {B M k : Nat} {v : Value} (h : OwnShop w B M v k) : ∃ a cap, v = .slice a k cap ∧ k ≤ cap := by
  obtain ⟨us, h, _⟩ := h
  exact own_slice h
theorem OwnShop.nil {w w1 : World} {B M r : Nat} (hB : B = w.heap.size) (hg : (w.alloc (.cells #[] 27)).grownBy w1 (some r)) (hr : r < B) : OwnShop w1 B M (.slice (some ⟨B, 0, none⟩) 0 0) 0 := by
  subst hB
  have h0 := World.ownsRow_made (base := w.heap.size) (size := 1) (e := 27) w #[] 0 (Nat.le_refl _) (Nat.zero_le _) rfl
  refine ⟨[], (h0.kept hg (ne_low h0 hr)), fun u hu => by cases hu⟩
theorem OwnShop.up {w : World} {B M M' k : Nat} {v : Value} (h : OwnShop w B M v k) (hM : M ≤ M') : OwnShop w B M' v k := by
  obtain ⟨us, h, hu⟩ := h
  refine ⟨us, h, fun u hu' => ?_⟩
  obtain ⟨n, h1, h2, h3⟩ := hu u hu'
  exact ⟨n, h1.up hM, h2, fun k hk => Nat.lt_of_lt_of_le (h3 k hk) hM⟩
/-- a job lies on when the shop's own block grows -/
theorem OwnRows.beside {w w' : World} {B B' M n k : Nat} {x v : Value} {us : List Value} (h : OwnRows w B M x n) (hv : w.ownsRow B' 27 1 v k us) (hg : w.grownBy w' v.ownBlock) : OwnRows w' B w'.heap.size x n := by
  obtain ⟨ys, h1, h2⟩ := h
  refine ⟨ys, h1.kept hg (own_ne h1 hv (by decide)), fun y hy => ?_⟩
  obtain ⟨l, xs, h3, _⟩ := h2 y hy
  have h4 := h3.kept hg (own_ne h3 hv (by decide))
  exact ⟨l, xs, h4, fun k hk => (h4.lt k hk).2⟩
theorem OwnRows.job {w : World} {B n : Nat} {x : Value} (h : OwnRows w B w.heap.size x n) (hn : n ≤ 3) : OwnJob w B w.heap.size x := by
  have h0 := h
  obtain ⟨ys, h1, _⟩ := h
  exact ⟨n, h0, hn, fun k hk => (h1.lt k hk).2⟩
/-- the job is done, and put to the shop -/
theorem OwnShop.push {w w' : World} {B M M' n k : Nat} {v v' u : Value} {us : List Value} (hu : OwnRows w M M' u n) (hn : n ≤ 3) (hM : B ≤ M)
    (hv : w.ownsRow B 27 1 v k us) (hus : ∀ u ∈ us, OwnJob w B M u) (hv' : w'.ownsRow B 27 1 v' (k + 1) (us ++ [u])) (hg : w.grownBy w' v.ownBlock) : OwnShop w' B w'.heap.size v' (k + 1) := by
  refine ⟨us ++ [u], hv', fun x hx => ?_⟩
  rcases List.mem_append.1 hx with hx | hx
  · obtain ⟨l, h, hl, _⟩ := hus x hx
    exact (h.beside hv hg).job hl
  · simp only [List.mem_singleton] at hx
    subst hx
    exact ((hu.base hM).beside hv hg).job hn
theorem OwnShop.addr {w : World} {B M k cap : Nat} {a : Option Addr} (h : OwnShop w B M (.slice a k cap) k) (hk : 0 < k) : ∃ g, a = some ⟨g, 0, none⟩ ∧ B ≤ g := by
  obtain ⟨us, hv, _⟩ := h
  rcases hv.2 with ⟨h1, h2⟩ | ⟨g, c, cur, h1, h2, _⟩
  · omega
  · simp only [Value.slice.injEq] at h1
    exact ⟨g, h1.1, h2⟩
theorem OwnShop.cell {w : World} {B M g k cap j : Nat} (h : OwnShop w B M (.slice (some ⟨g, 0, none⟩) k cap) k) (hj : j < k) : ∃ v, w.cell? ⟨g, j, none⟩ = some v ∧ w.frozen? ⟨g, j, none⟩ = false ∧ OwnJob w B M v := by
  obtain ⟨us, hv, hus⟩ := h
  have hl := hv.1
  refine ⟨us[j]'(by omega), ?_, hv.frozenAt j, hus _ (List.getElem_mem _)⟩
  rw [hv.cellAt j (by omega)]
  exact List.getElem?_eq_getElem _
/-- a row of a job is set -/
theorem OwnShop.store {w : World} {B M g k n cap j l : Nat} {v u : Value} {xs : List Int} (h : OwnShop w B M v k) (hj : OwnRows w B M (.slice (some ⟨g, 0, none⟩) n cap) n) (hu : w.ownsRow B 3 1 u l (xs.map (.int .i64))) :
    OwnShop (w.setCell ⟨g, j, none⟩ u) B w.heap.size v k ∧ w.grownBy (w.setCell ⟨g, j, none⟩ u) (some g) := by
  have hg := (hj.store (j := j) hu).2
  have hsz : (w.setCell ⟨g, j, none⟩ u).heap.size = w.heap.size := by simp
  obtain ⟨us, hv, hus⟩ := h
  obtain ⟨zs, hz, _⟩ := hj
  refine ⟨⟨us, hv.kept hg (own_ne hv hz (by decide)), fun x hx => ?_⟩, hg⟩
  obtain ⟨n', hx', hn', hlt⟩ := hus x hx
  have hxl : ∀ k, x.ownBlock = some k → k < w.heap.size := fun k hk => by
    obtain ⟨ys, h1, _⟩ := hx'
    exact (h1.lt k hk).2
  by_cases e : x.ownBlock = some g
  · obtain ⟨a, c, rfl, _⟩ := hx'.slice
    have hx2 := hx'
    obtain ⟨ys, h1, _⟩ := hx'
    rcases h1.2 with ⟨h2, _⟩ | ⟨g', c', cur, h2, _⟩
    · rw [h2] at e; simp [Value.ownBlock] at e
    · simp only [Value.slice.injEq] at h2
      obtain ⟨rfl, _, _⟩ := h2
      have eg : g' = g := by simpa [Value.ownBlock] using e
      subst eg
      exact ⟨n', (hx2.store (j := j) hu).1, hn', hxl⟩
  · obtain ⟨ys, h1, h2⟩ := hx'
    refine ⟨n', ⟨ys, h1.kept hg (.inr e), fun y hy => ?_⟩, hn', hxl⟩
    obtain ⟨l', xs', h3, _⟩ := h2 y hy
    exact ⟨l', xs', h3.kept hg (own_ne h3 hz (by decide)), fun k hk => (h3.lt k hk).2⟩
theorem OwnShop.shop {w : World} {B M k : Nat} {v : Value} (h : OwnShop w B M v k) (hk : k ≤ 9223372036854775807) :
    ∃ a cap shop, v = .slice a k cap ∧ k ≤ cap ∧ ShopAt w (fun b => B ≤ b ∧ b < w.heap.size) a k shop ∧ ∀ job ∈ shop, job.length ≤ 3 := by
  obtain ⟨us, h, hu⟩ := h
  have hlen : us.length = k := by have := h.1; simpa using this
  have hlt := h.lt
  have hc := fun g hg => h.cells (g := g) hg
  obtain ⟨shop, hr1, hr2⟩ := all_choose (Q := fun (u : Value) (r : List (List Int)) => ∃ a' l c, u = .slice a' l c ∧ l ≤ c ∧ RowsAt w (fun b => B ≤ b ∧ b < w.heap.size) a' l r ∧ l ≤ 3) us (fun u hu' => by
    obtain ⟨n, h1, hn, _⟩ := hu u hu'
    obtain ⟨a, cap, rows, h3, h4, h5⟩ := h1.rows (by omega)
    exact ⟨rows, a, n, cap, h3, h4, h5, hn⟩)
  have hall : ∀ job ∈ shop, job.length ≤ 3 := fun job hj => by
    obtain ⟨i, hi⟩ := List.mem_iff_getElem?.1 hj
    obtain ⟨_, _, _, l, _, _, _, h3, h4⟩ := hr2 i job hi
    rw [h3.lenEq]; exact h4
  rcases h.2 with ⟨rfl, rfl⟩ | ⟨g, cap, cur, rfl, _, _, hcap, _⟩
  · exact ⟨none, 0, shop, rfl, Nat.le_refl _, ⟨by omega, hk, fun h0 => absurd h0 (by omega)⟩, hall⟩
  · refine ⟨some ⟨g, 0, none⟩, cap, shop, rfl, hcap, ⟨by omega, hk, fun h0 => ⟨g, 0, rfl, hlt g rfl, fun i r hr => ?_⟩⟩, hall⟩
    obtain ⟨u, hu1, a', l, c, rfl, h4, h5, _⟩ := hr2 i r hr
    have := hc g rfl i _ hu1
    rw [add_plain] at this
    exact ⟨a', l, c, this, h4, h5⟩
end Go.Proofs.Ythmlgicjedhgfab
namespace Go.Proofs.Ythmlgicjedhgfab
open Go.RowKit Go.WideShapes

def ShopPost (w : World) (R p : Nat) (e : Ending) (w' : World) : Prop := ∃ (a : Option Addr) (len cap : Nat) (shop : List (List (List Int))) (p' : Nat), e = .returned (.slice a len cap) ∧
      ShopAt w' (fun b => w.heap.size ≤ b ∧ b < w'.heap.size) a len shop ∧ (∀ job ∈ shop, job.length ≤ 3) ∧ len ≤ cap ∧ len ≤ 3 ∧ Rd w' R p' ∧ p' ≤ p + 100 ∧ w.grownBy w' (some R)
theorem shopPost_mk {w w' : World} {R p p' len cap M : Nat} {a : Option Addr} (h : OwnShop w' w.heap.size M (.slice a len cap) len) (hl : len ≤ cap) (h3 : len ≤ 3) (hr : Rd w' R p') (hp : p' ≤ p + 100)
    (hg : w.grownBy w' (some R)) : ShopPost w R p (.returned (.slice a len cap)) w' := by
  obtain ⟨a', cap', shop, hv, _, hs, hall⟩ := h.shop (by omega)
  simp only [Value.slice.injEq] at hv
  obtain ⟨rfl, _, rfl⟩ := hv
  exact ⟨_, _, _, shop, p', rfl, hs, hall, hl, h3, hr, hp, hg⟩
theorem Try.infoIntss7 : (Try.prog.info? 27).map (fun i => (i.zero, i.size, i.bytes)) = some (some (.slice none 0 0), 1, 24) := by kernel_rfl
theorem shop_n {n : Int} (h : n ∈ [2, 3, 2, 1, 0]) : ∃ m : Nat, n = (m : Int) ∧ m ≤ 3 := by
  simp at h
  exact ⟨n.toNat, by omega, by omega⟩
theorem own_lit2 (w : World) {B : Nat} (hB : B ≤ w.heap.size) (x y : Int) : (w.alloc (.cells #[.int .i64 x, .int .i64 y] 3)).ownsRow B 3 1 (.slice (some ⟨w.heap.size, 0, none⟩) 2 2) 2 ([x, y].map (.int .i64)) :=
  ⟨rfl, .inr ⟨w.heap.size, 2, _, rfl, hB, heap_alloc_new w _, Nat.le_refl _, by unfold maxLen; omega, rfl, rfl⟩⟩
set_option maxRecDepth 100000 in
set_option maxHeartbeats 4000000 in
theorem someShop_any (R p : Nat) (w : World) (h : Rd w R p) (hp : p ≤ 900000) :
    Calls Try.prog 29 #[.pointer (some ⟨R, 0, none⟩)] w (ShopPost w R p) := by
  have hR := h.lt
  obtain ⟨i1, hj, hy0, hy1, hy2⟩ := info_parts Try.infoInts
  obtain ⟨i2, hj2, hz0, hz1, hz2⟩ := info_parts Try.infoIntss7
  go_enter Try.func29, Try.ntmps29
  go_wp2_with fail
  refine (one_any (fun k => k = w.heap.size + 1) R p _ 5 5 [2, 3, 2, 1, 0] _ ((h.alloc _).alloc _) (IntsAt.lit rfl rfl (by simp) (by omega)) (by intro b hb; simp; omega) (by omega) (by omega)).mono ?_
  rintro e w1 ⟨n, hn, rfl, hr1, hg1⟩
  obtain ⟨m, rfl, hm⟩ := shop_n hn
  clear hn
  have hg2 : w.grownBy w1 (some R) := grown_r (World.grownBy_alloc w _ _) (grown_r (World.grownBy_alloc _ _ _) hg1)
  have ho1 : OwnShop w1 w.heap.size w1.heap.size (.slice (some ⟨w.heap.size, 0, none⟩) 0 0) 0 :=
    OwnShop.nil rfl (grown_r (World.grownBy_alloc _ _ _) hg1) hR
  go_wp2_with fail
  go_loopw [3] (fun v wr => ∃ (k p' cap : Nat) (a : Option Addr), v = .slice a k cap ∧ k ≤ cap ∧ OwnShop wr w.heap.size wr.heap.size v k ∧ k ≤ m ∧ Rd wr R p' ∧ p' ≤ p + 1 + 10 * k ∧ w.grownBy wr (some R)) (fun v _ => m - capOf v)
  case atStart => exact ⟨0, p + 1, 0, _, rfl, Nat.le_refl _, ho1, Nat.zero_le _, hr1, Nat.le_refl _, hg2⟩
  case round =>
    clear ho1
    obtain ⟨k, p', cap, a, rfl, hkc, ho, hkm, hr, hpp, hg⟩ := hrel
    obtain ⟨wo, rfl⟩ : ∃ wo : World, wo = wr := ⟨_, rfl⟩
    have hw0 : w.heap.size ≤ wo.heap.size := hg.size
    by_cases hlt : k < m
    · go_wp2_with fail
      refine (pick_any R p' 3 _ (hr.alloc _) (by omega)).mono ?_
      rintro e w2 ⟨q1, rfl, hq1, hr2, hgA⟩
      go_wp2_with fail
      refine (pick_any R (p' + 1) 2 w2 hr2 (by omega)).mono ?_
      rintro e w3 ⟨q2, rfl, hq2, hr3, hgB⟩
      go_wp2_with fail
      refine (one_any (fun b => b = w3.heap.size) R (p' + 1 + 1) _ 5 5 [2, 3, 2, 1, 0] _ (hr3.alloc _) (IntsAt.lit rfl rfl rfl (by omega)) (by intro b hb; have := hr3.lt; simp; omega) (by omega) (by omega)).mono ?_
      rintro e w4 ⟨nn, hnn, rfl, hr4, hgC⟩
      obtain ⟨mj, rfl, hmj⟩ := shop_n hnn
      clear hnn
      have gab : (wo.alloc (.cells #[] 24)).grownBy w4 (some R) := grown_r (grown_trans hgA hgB (by intro k e; cases e; exact Or.inl rfl)) (grown_r (World.grownBy_alloc w3 _ _) hgC)
      have hRo : R < wo.heap.size := hr.lt
      have hj0 : OwnRows w4 wo.heap.size w4.heap.size (.slice (some ⟨wo.heap.size, 0, none⟩) 0 0) 0 := OwnRows.nil rfl gab hRo
      have gwo : wo.grownBy w4 (some R) := grown_r (World.grownBy_alloc wo _ _) gab
      have ho4 : OwnShop w4 w.heap.size wo.heap.size (.slice a k cap) k := ho.low gwo hR
      have hg4 := grown_r hg gwo
      have hwo4 := gwo.size
      clear hr hr2 hr3 hgA hgB hgC gab gwo hg ho
      go_wp2_with fail
      go_loopw [5] (fun v wr => ∃ (j p2 cj : Nat) (aj : Option Addr), v = .slice aj j cj ∧ j ≤ cj ∧ OwnRows wr wo.heap.size wr.heap.size v j ∧ OwnShop wr w.heap.size wo.heap.size (.slice a k cap) k ∧ j ≤ mj ∧ Rd wr R p2 ∧ p2 ≤ p' + 3 + j ∧ wo.heap.size ≤ wr.heap.size ∧ w.grownBy wr (some R)) (fun v _ => mj - capOf v)
      case atStart => exact ⟨0, p' + 1 + 1 + 1, 0, _, rfl, Nat.le_refl _, hj0, ho4, Nat.zero_le _, hr4, by omega, hwo4, hg4⟩
      case round =>
        clear hj0 ho4 hr4 hg4 hwo4
        obtain ⟨j, p2, cj, aj, rfl, hjc, hjr, hos, hjm, hr5, hpp2, hwo, hg5⟩ := hrel
        obtain ⟨wi, rfl⟩ : ∃ wi : World, wi = wr := ⟨_, rfl⟩
        by_cases hlj : j < mj
        · have hq1b : q1 ≤ 2 := by omega
          have hq2b : q2 ≤ 1 := by omega
          have hj2 : j ≤ 2 := by omega
          have hmb : 0 ≤ (1 + (q2 : Int)) * (j : Int) ∧ (1 + (q2 : Int)) * (j : Int) ≤ 2 * 2 := ⟨Int.mul_nonneg (by omega) (by omega), Int.mul_le_mul (by omega) (by omega) (by omega) (by omega)⟩
          go_wp2_with fail
          refine (pick_any R p2 6 _ hr5 (by omega)).mono ?_
          rintro e w5 ⟨q3, rfl, hq3, hr6, hg6⟩
          have hjr5 := hjr.low hg6 hRo
          have hos5 := hos.low hg6 hR
          have hlit := own_lit2 w5 (B := wi.heap.size) hg6.size (((q1 : Int) + (1 + (q2 : Int)) * (j : Int)) % 3) (1 + (q3 : Int))
          obtain ⟨us, hout, hus⟩ := hjr5.alloc (.cells #[.int .i64 (((q1 : Int) + (1 + (q2 : Int)) * (j : Int)) % 3), .int .i64 (1 + (q3 : Int))] 3)
          have hos6 := hos5.alloc (.cells #[.int .i64 (((q1 : Int) + (1 + (q2 : Int)) * (j : Int)) % 3), .int .i64 (1 + (q3 : Int))] 3)
          have hr8 := hr6.alloc (.cells #[.int .i64 (((q1 : Int) + (1 + (q2 : Int)) * (j : Int)) % 3), .int .i64 (1 + (q3 : Int))] 3)
          have hg8 := grown_alloc (grown_r hg5 hg6) (.cells #[.int .i64 (((q1 : Int) + (1 + (q2 : Int)) * (j : Int)) % 3), .int .i64 (1 + (q3 : Int))] 3)
          have hsz5 := hg6.size
          have hsz8 : (w5.alloc (.cells #[.int .i64 (((q1 : Int) + (1 + (q2 : Int)) * (j : Int)) % 3), .int .i64 (1 + (q3 : Int))] 3)).heap.size = w5.heap.size + 1 := by simp
          obtain ⟨w8, hw8⟩ : ∃ w8, (w5.alloc (.cells #[.int .i64 (((q1 : Int) + (1 + (q2 : Int)) * (j : Int)) % 3), .int .i64 (1 + (q3 : Int))] 3)) = w8 := ⟨_, rfl⟩
          rw [hw8] at hlit hout hus hr8 hg8 hsz8 hos6
          have HW8 := Lib.hid hw8
          have HSZ := Lib.hid hsz8
          clear hw8 hsz8 hjr5 hos5 hr6 hg6 hjr hos hr5 hg5
          have HLIT := Lib.hid hlit
          have HOUT := Lib.hid hout
          have HUS := Lib.hid hus
          have HR8 := Lib.hid hr8
          have HG8 := Lib.hid hg8
          have HOS := Lib.hid hos6
          clear hlit hout hus hr8 hg8 hos6
          go_wp2_with (at_builtin; rw [HW8.out]; refine wpList_append_own _ rfl _ _ 27 rfl wo.heap.size 24 i1 (.slice none 0 0) 1 24 Try.underlying27 hj hy0 hy1 hy2 rfl (by decide) _ _ _ rfl (HOUT.out.alloc _) ⟨w8.heap.size, 0, none⟩ 1 1 [.slice (some ⟨w5.heap.size, 0, none⟩) 2 2] (by rw [HSZ.out]; rfl) rfl ?c1 ?c2 ?c3 ?c4 ?c5 ?_)
          case c1 => exact one_new _ _ _
          case c2 => exact one_cell_slice _ _ _
          case c3 => unfold maxLen; omega
          case c4 => omega
          case c5 => have := HSZ.out; simp; omega
          intro v' w9 hown hgrow _
          obtain ⟨a6, c6, rfl, hjc6⟩ := own_slice hown
          have hgr : w8.grownBy w9 (Value.slice aj j cj).ownBlock := grown_comp (World.grownBy_alloc w8 _ _) hgrow
          have HPUSH := Lib.hid (OwnRows.push HLIT.out hwo HOUT.out HUS.out hown hgr)
          have HOS9 := Lib.hid (HOS.out.rows (⟨us, HOUT.out, HUS.out⟩ : OwnRows w8 wo.heap.size wi.heap.size (.slice aj j cj) j) hgr)
          have HR9 := Lib.hid (HR8.out.grown hgr (by intro b hb; have := (HOUT.out.lt b hb).1; omega))
          have HG9 := Lib.hid (grown_trans HG8.out hgr (by intro b hb; have := (HOUT.out.lt b hb).1; omega))
          have HWO := Lib.hid (show wo.heap.size ≤ w9.heap.size by have := hgr.size; have := HSZ.out; omega)
          clear hown hgrow hgr
          go_wp2_with fail
          go_roundw
          case rel => exact ⟨j + 1, p2 + 1, c6, a6, rfl, hjc6, HPUSH.out, HOS9.out, by omega, HR9.out, by omega, HWO.out, HG9.out⟩
          case measure => simp [capOf] <;> omega
        · obtain rfl : j = mj := by omega
          obtain ⟨us, hout, hus⟩ := hos
          have hwo0 : w.heap.size ≤ wo.heap.size := hw0
          go_wp2_with (at_builtin; refine wpList_append_own _ rfl _ _ 23 rfl w.heap.size 27 i2 (.slice none 0 0) 1 24 Try.underlying23 hj2 hz0 hz1 hz2 rfl (by decide) _ _ _ rfl (hout.alloc _) ⟨wi.heap.size, 0, none⟩ 1 1 [.slice aj j cj] rfl rfl ?c1 ?c2 ?c3 ?c4 ?c5 ?_)
          case c1 => exact one_new _ _ _
          case c2 => exact one_cell_slice _ _ _
          case c3 => unfold maxLen; omega
          case c4 => omega
          case c5 => simp; omega
          intro v' w6 hown hgrow _
          obtain ⟨a6, c6, rfl, hjc6⟩ := own_slice hown
          have hgr : wi.grownBy w6 (Value.slice a k cap).ownBlock := grown_comp (World.grownBy_alloc wi _ _) hgrow
          have HPU := Lib.hid (OwnShop.push hjr (by omega) hwo0 hout hus hown hgr)
          have HR9 := Lib.hid (hr5.grown hgr (by intro b hb; have := (hout.lt b hb).1; omega))
          have HG9 := Lib.hid (grown_trans hg5 hgr (by intro b hb; have := (hout.lt b hb).1; omega))
          clear hown hgrow hgr
          go_wp2_with fail
          go_roundw
          case rel => exact ⟨k + 1, p2, c6, a6, rfl, hjc6, HPU.out, by omega, HR9.out, by omega, HG9.out⟩
          case measure => simp [capOf] <;> omega
    · by_cases hk0 : 0 < k
      · obtain ⟨g, rfl, hgB⟩ := ho.addr hk0
        obtain ⟨v, hc0, hf0, n, hrow, hn3, hltn⟩ := ho.cell (j := 0) hk0
        obtain ⟨a2, c2, rfl, hnc⟩ := hrow.slice
        by_cases hn0 : 0 < n
        · obtain ⟨g2, rfl, hg2B⟩ := hrow.addr hn0
          go_wp2_with fail
          refine (pick_any R p' 30 wo hr (by omega)).mono ?_
          rintro e w2 ⟨q, rfl, _, hr2, hg3⟩
          have ho2 := ho.low hg3 hR
          have hrow2 := hrow.low hg3 hR
          have hg4 := grown_r hg hg3
          have hsz3 := hg3.size
          have hgs : g < wo.heap.size := World.block_lt_of_cell? wo _ hc0
          have hcw : w2.cell? ⟨g, 0, none⟩ = some (.slice (some ⟨g2, 0, none⟩) n c2) := hg3.cell hc0 (by simp; omega)
          by_cases hq : q = 0
          · subst hq
            have hkA : ∀ o, (w2.alloc o).cell? ⟨g, 0, none⟩ = some (.slice (some ⟨g2, 0, none⟩) n c2) := fun o => by
              rw [World.cell?_of_block (w := w2) (Below.heap_alloc _ _ _ (by show g < _; omega))]; exact hcw
            have hli : IntsAt (w2.alloc (.cells #[.int .i64 3, .int .i64 (-1)] 3)) (fun b => b = w2.heap.size) (some ⟨w2.heap.size, 0, none⟩) 2 [3, -1] := IntsAt.lit rfl rfl rfl (by omega)
            have HLI := Lib.hid (Drew.ints (wr := (w2.alloc (.cells #[.int .i64 3, .int .i64 (-1)] 3)).drew) hli ⟨1, rfl⟩)
            clear hli
            have HGA := Lib.hid (show w2.grownBy (w2.alloc (.cells #[.int .i64 3, .int .i64 (-1)] 3)).drew (some R) from (grown_r (World.grownBy_alloc w2 _ _) (grownBy_drewN _ 1 _)))
            have HRA := Lib.hid (show Rd (w2.alloc (.cells #[.int .i64 3, .int .i64 (-1)] 3)).drew R (p' + 1) from (hr2.alloc _).grown (grownBy_drewN _ 1 none) (fun k e => by cases e))
            have HNE : Hid (∀ b, b = w2.heap.size → b ≠ R ∧ b < ((w2.alloc (.cells #[.int .i64 3, .int .i64 (-1)] 3)).drew).heap.size) := Lib.hid (by intro b hb; have := hr2.lt; subst hb; exact ⟨by omega, by show _ < (w2.alloc _).heap.size; simp⟩)
            have HO2 := Lib.hid ho2
            have HROW := Lib.hid hrow2
            have HG4 := Lib.hid hg4
            have hgR : g ≠ R := by omega
            have hgg : g ≠ g2 := by
              obtain ⟨us, hv, _⟩ := ho
              obtain ⟨ys, hy, _⟩ := hrow
              have := own_ne hv hy (by decide)
              simpa [Value.ownBlock] using this
            clear ho2 hrow2 ho hrow hg4 hg3 hr hg hr2 hc0 hf0
            go_wp2_with fail
            go_region_held3 (fun w' => w'.cell? ⟨g, 0, none⟩ = some (.slice (some ⟨g2, 0, none⟩) n c2)) (first | go_keep | exact hkA _ | exact k4)
              (first | (go_at_call 47; refine (one_any _ R (p' + 1) _ 2 2 [3, -1] _ HRA.out HLI.out HNE.out (by omega) (by omega)).mono ?_; rintro e w5 ⟨x, _, rfl, hr5, hg5⟩; have k1 : w5.cell? ⟨g, 0, none⟩ = some (.slice (some ⟨g2, 0, none⟩) n c2) := hg5.cell (hkA _) (by simp; omega); have gw5 := grown_r HGA.out hg5; have hx5 := (HROW.out.low gw5 hR).alloc (.cells #[.int .i64 x, .int .i64 1] 3); have hz5 := gw5.size; obtain ⟨v1, k2, k3⟩ := hx5.cell (j := 0) hn0; have k1a : (w5.alloc (.cells #[.int .i64 x, .int .i64 1] 3)).cell? ⟨g, 0, none⟩ = some (.slice (some ⟨g2, 0, none⟩) n c2) := (World.grownBy_alloc w5 (.cells #[.int .i64 x, .int .i64 1] 3) none).cell k1 (by simp); have k4 := (hx5.store (j := 0) (own_lit2 w5 (B := w.heap.size) (by omega) x 1)).2.cell k1a (by simp; exact hgg)))
            have gW := grown_alloc (grown_r HG4.out gw5) (.cells #[.int .i64 x, .int .i64 1] 3)
            have hsW : OwnShop (w5.alloc (.cells #[.int .i64 x, .int .i64 1] 3)) w.heap.size wo.heap.size (.slice (some ⟨g, 0, none⟩) k cap) k := (HO2.out.low gw5 hR).alloc _
            obtain ⟨h1, h2⟩ := OwnShop.store (j := 0) hsW hx5 (own_lit2 w5 (B := w.heap.size) (by omega) x 1)
            have H1 := Lib.hid h1
            have H2 := Lib.hid h2
            have GW := Lib.hid gW
            have HR5 := Lib.hid hr5
            clear h1 h2 gW hsW hr5 hx5 gw5 hg5 k1 k1a k2 k3 k4
            go_wp2
            go_ret
            exact shopPost_mk H1.out hkc (by omega) ((HR5.out.alloc _).grown H2.out (by intro b hb; injection hb; omega)) (by omega) (grown_trans GW.out H2.out (by intro b hb; injection hb; omega))
          · have hqe : ((q : Int) == 0) = false := by simp; omega
            go_wp2
            go_ret
            exact shopPost_mk ho2 hkc (by omega) hr2 (by omega) hg4
        · have hn00 : ¬ (0 : Int) < (n : Int) := by omega
          go_wp2
          go_ret
          exact shopPost_mk ho hkc (by omega) hr (by omega) hg
      · have hk1' : ¬ (0 : Int) < (k : Int) := by omega
        go_wp2
        go_ret
        exact shopPost_mk ho hkc (by omega) hr (by omega) hg
end Go.Proofs.Ythmlgicjedhgfab
namespace Go.Proofs.Ythmlgicjedhgfab
open Go.RowKit Go.WideShapes

def TurnsDrawn (w : World) (R p : Nat) (e : Ending) (w' : World) : Prop := ∃ (g n cap : Nat) (xs : List Int), e = .returned (.slice (some ⟨g, 0, none⟩) n cap) ∧
  w'.ownsRow w.heap.size 3 1 (.slice (some ⟨g, 0, none⟩) n cap) n (xs.map (.int .i64)) ∧ n ≤ cap ∧ n ≤ 10 ∧ w.grownBy w' (some R)
theorem shop_grown {w w' : World} {R len : Nat} {a : Option Addr} {shop : List (List (List Int))} (h : ShopAt w (fun b => R < b ∧ b < w.heap.size) a len shop) (hg : w.grownBy w' (some R)) : ShopAt w' (fun b => R < b ∧ b < w'.heap.size) a len shop := by
  have hs := hg.size
  exact h.to fun b hb => ⟨⟨hb.1, by omega⟩, hg.block b hb.2 (by simp; omega)⟩
set_option maxRecDepth 100000 in
set_option maxHeartbeats 4000000 in
theorem turnsOf_any (R p : Nat) (aS : Option Addr) (len capS : Nat) (shop : List (List (List Int))) (w : World) (h : Rd w R p) (hp : p ≤ 900000) (hsh : ShopAt w (fun b => R < b ∧ b < w.heap.size) aS len shop) (hj3 : ∀ job ∈ shop, job.length ≤ 3) (hl3 : len ≤ 3) :
    Calls Try.prog 30 #[.pointer (some ⟨R, 0, none⟩), .slice aS len capS] w (TurnsDrawn w R p) := by
  have hR := h.lt
  have ho0 := World.ownsRow_made (base := w.heap.size) (size := 1) (e := 3) w #[] 0 (Nat.le_refl _) (Nat.zero_le _) rfl
  have HSH := Lib.hid (fun (w' : World) (hg : w.grownBy w' (some R)) => shop_grown hsh hg)
  have HJ3 := Lib.hid hj3
  clear hsh hj3
  go_enter Try.func30, Try.ntmps30
  go_wp2_with fail
  go_loopw [5, 6] (fun v i wr => ∃ (j m p' cap g : Nat) (xs : List Int), i = .int .i64 j ∧ v = .slice (some ⟨g, 0, none⟩) m cap ∧ wr.ownsRow w.heap.size 3 1 v m (xs.map (.int .i64)) ∧ m ≤ cap ∧ j ≤ len ∧ m ≤ 3 * j ∧ Rd wr R p' ∧ p' ≤ p + m ∧ w.grownBy wr (some R)) (fun _ i _ => len - (intOf i).toNat)
  case atStart => exact ⟨0, 0, p, 0, w.heap.size, [], rfl, rfl, ho0, Nat.zero_le _, Nat.zero_le _, Nat.zero_le _, h.alloc _, by omega, World.grownBy_alloc _ _ _⟩
  case round =>
    clear ho0
    obtain ⟨j, m0, p0, cap0, g0, xs0, rfl, rfl, hown, hjc, hjn, hm0, hr, hpp, hg⟩ := hrel
    obtain ⟨wo, rfl⟩ : ∃ wo : World, wo = wr := ⟨_, rfl⟩
    have hsz := hg.size
    by_cases hlt : j < len
    · obtain ⟨bs, os, job, aj, lj, cj, e0, hjob, _, _, hrj⟩ := (HSH.out wo hg).get hlt
      have hlj3 : lj ≤ 3 := by have := HJ3.out job (List.mem_of_getElem? hjob); have := hrj.lenEq; omega
      subst e0
      have HLJ := Lib.hid (fun (w' : World) (hg' : w.grownBy w' (some R)) => show ∃ a l c, w'.cell? ⟨bs, os + j, none⟩ = some (.slice a l c) ∧ l = lj by
        obtain ⟨b', o', job', a', l', c', e, hjob', d', _, hr'⟩ := (HSH.out w' hg').get hlt
        cases e
        rw [hjob] at hjob'
        cases hjob'
        exact ⟨a', l', c', d', hr'.lenEq.symm.trans hrj.lenEq⟩)
      clear hrj hjob
      have HOWN0 := Lib.hid hown
      have HR0 := Lib.hid hr
      have HG0 := Lib.hid hg
      clear hown hr hg
      go_wp2_with fail
      go_loopw [5, 7] (fun v i wr => ∃ (k m p' cap g : Nat) (xs : List Int), i = .int .i64 k ∧ v = .slice (some ⟨g, 0, none⟩) m cap ∧ wr.ownsRow w.heap.size 3 1 v m (xs.map (.int .i64)) ∧ m ≤ cap ∧ k ≤ lj ∧ m ≤ 3 * j + k ∧ Rd wr R p' ∧ p' ≤ p + m ∧ w.grownBy wr (some R)) (fun _ i _ => lj - (intOf i).toNat)
      case atStart => exact ⟨0, m0, p0, cap0, g0, xs0, rfl, rfl, HOWN0.out, hjc, Nat.zero_le _, by omega, HR0.out, hpp, HG0.out⟩
      case round =>
        clear HOWN0 HR0 HG0 hsz
        obtain ⟨kk, m, p', cap, g, xs, rfl, rfl, hown, hmc, hkl, hm, hr, hpp', hg⟩ := hrel
        obtain ⟨wo, rfl⟩ : ∃ wo : World, wo = wr := ⟨_, rfl⟩
        have hsz := hg.size
        obtain ⟨a9, l9, c9, d9, e9⟩ := HLJ.out wo hg
        subst e9
        by_cases hlt2 : kk < l9
        · go_wp2_with fail
          refine (pick_any R p' (m + 1) wo hr (by omega)).mono ?_
          rintro e w1 ⟨k, rfl, hk, hr1, hg1⟩
          have hkm : k ≤ m := by omega
          clear d9
          have HOWN := Lib.hid (hown.kept hg1 (ne_low hown hR))
          clear hown
          have hx1 : IntsAt w1 (· < w1.heap.size) (some ⟨g, 0, none⟩) m xs := by
            obtain ⟨a', c', e', _, h'⟩ := own_ints HOWN.out (by omega)
            injection e' with e1 _ _
            subst e1
            exact h'.to fun b hb => ⟨hb.2, rfl⟩
          have HT := Lib.hid (hx1.takeI k hkm)
          obtain ⟨AD, hAD, hD⟩ : ∃ od : Nat, (if cap = k then (some ⟨g, 0, none⟩ : Option Addr) else some ⟨g, k, none⟩) = some ⟨g, od, none⟩ ∧ IntsAt w1 (· < w1.heap.size) (some ⟨g, od, none⟩) (m - k) (xs.drop k) := by
            by_cases hck : cap = k
            · exact ⟨0, by rw [if_pos hck], by have := hx1.lenEq; simp; omega, by omega, fun h0 => by omega⟩
            · exact ⟨k, by rw [if_neg hck], hx1.dropI k hkm⟩
          have HD := Lib.hid hD
          clear hD hx1
          have hkc : k ≤ cap := by omega
          have QA := Lib.hid (World.ownsRow_made (base := w1.heap.size) (size := 1) (e := 3) w1 #[] 0 (Nat.le_refl _) (Nat.zero_le _) rfl)
          have QB : Hid (((w1.alloc (.cells #[.int .i64 ((j : Nat) : Int)] 3)).alloc (.cells #[] 3)).ownsRow w1.heap.size 3 1 (.slice (some ⟨w1.heap.size + 1, 0, none⟩) 0 0) 0 (([] : List Int).map (.int .i64))) := Lib.hid (by
            have := World.ownsRow_made (base := w1.heap.size) (size := 1) (e := 3) (w1.alloc (.cells #[.int .i64 ((j : Nat) : Int)] 3)) #[] 0 (by simp) (Nat.zero_le _) rfl
            simpa using this)
          have YA : Hid (IntsAt ((w1.alloc (.cells #[] 3)).alloc (.cells #[.int .i64 ((j : Nat) : Int)] 3)) (fun k => k = w1.heap.size + 1) (some ⟨w1.heap.size + 1, 0, none⟩) 1 [((j : Nat) : Int)]) := Lib.hid (IntsAt.lit rfl rfl (by simp) (by omega))
          have YB : Hid (IntsAt ((w1.alloc (.cells #[.int .i64 ((j : Nat) : Int)] 3)).alloc (.cells #[] 3)) (fun k => k = w1.heap.size) (some ⟨w1.heap.size, 0, none⟩) 1 [((j : Nat) : Int)]) := Lib.hid (IntsAt.to (IntsAt.lit (W := w1) (cs := #[.int .i64 ((j : Nat) : Int)]) (t := 3) (xs := [((j : Nat) : Int)]) (len := 1) rfl rfl rfl (by omega)) (fun b hb => ⟨hb, by subst hb; exact Below.heap_alloc _ _ _ (by simp)⟩))
          have B1 : Hid (Below w1.heap.size w1 (w1.alloc (.cells #[] 3)).drew) := Lib.hid ((Below.refl _ _).alloc (Nat.le_refl _) _).drew
          have B2 : Hid (Below w1.heap.size w1 ((w1.alloc (.cells #[] 3)).alloc (.cells #[.int .i64 ((j : Nat) : Int)] 3)).drew) := Lib.hid (((Below.refl _ _).alloc (Nat.le_refl _) _).alloc (by simp) _).drew
          have B3 : Hid (Below w1.heap.size w1 ((w1.alloc (.cells #[.int .i64 ((j : Nat) : Int)] 3)).alloc (.cells #[] 3)).drew) := Lib.hid (((Below.refl _ _).alloc (Nat.le_refl _) _).alloc (by simp) _).drew
          have hg2 : w.grownBy w1 (some R) := grown_r hg hg1
          go_wp2_with fail
          go_region_law (first
            | (refine stepApp (by rfl) _ _ (by rfl) w1.heap.size 0 0 w1.heap.size [] (· < w1.heap.size) g 0 k cap (xs.take k) (by rfl) QA.out.drew (by rfl) (HT.out.below B1.out) B1.out.size k (by omega) (xs.take k) (by simp) (by omega) ?_
               intro g4 c4 w4 own4 hc4 gr4 hb4 hl4
               have BC := Lib.hid (B1.out.grown gr4 B1.out.size (by intro k e; injection e with e; omega)))
            | (refine stepApp (by rfl) _ _ (by rfl) w1.heap.size 0 0 w1.heap.size [] (· < w1.heap.size) g 0 k cap (xs.take k) (by rfl) (QA.out.alloc _).drew (by rfl) (HT.out.below B2.out) B2.out.size k (by omega) (xs.take k) (by simp) (by omega) ?_
               intro g4 c4 w4 own4 hc4 gr4 hb4 hl4
               have BA := Lib.hid (B2.out.grown gr4 B2.out.size (by intro k e; injection e with e; omega))
               have Y4 := Lib.hid (YA.out.grownEq gr4 rfl (by simp <;> omega) (by omega)))
            | (refine stepApp (by rfl) _ _ (by rfl) w1.heap.size 0 0 (w1.heap.size + 1) [] (· < w1.heap.size) g 0 k cap (xs.take k) (by rfl) QB.out.drew (by rfl) (HT.out.below B3.out) B3.out.size k (by omega) (xs.take k) (by simp) (by omega) ?_
               intro g4 c4 w4 own4 hc4 gr4 hb4 hl4
               have BA := Lib.hid (B3.out.grown gr4 B3.out.size (by intro k e; injection e with e; omega))
               have Y4 := Lib.hid (YB.out.grownEq gr4 rfl (by simp <;> omega) (by omega)))
            | (refine stepApp (by rfl) _ _ (by rfl) w1.heap.size k c4 g4 (xs.take k) (fun b => b = w4.heap.size) w4.heap.size 0 1 1 [((j : Nat) : Int)] (by rfl) (own4.alloc _) (by rfl) (IntsAt.lit (W := w4) (cs := #[.int .i64 ((j : Nat) : Int)]) (t := 3) (xs := [((j : Nat) : Int)]) (len := 1) rfl rfl rfl (by omega)) (by have := BC.out.size; simp; omega) (k + 1) rfl (xs.take k ++ [((j : Nat) : Int)]) rfl (by omega) ?_
               intro g5 c5 w5 own5 hc5 gr5 hb5 hl5
               have B5 := Lib.hid ((BC.out.alloc BC.out.size _).grown gr5 (by have := BC.out.size; simp; omega) (by intro k e; injection e with e; omega)))
            | (refine stepApp (by rfl) _ _ (by rfl) w1.heap.size k c4 g4 (xs.take k) _ _ 0 1 1 [((j : Nat) : Int)] (by rfl) own4 (by rfl) Y4.out BA.out.size (k + 1) rfl (xs.take k ++ [((j : Nat) : Int)]) rfl (by omega) ?_
               intro g5 c5 w5 own5 hc5 gr5 hb5 hl5
               have B5 := Lib.hid (BA.out.grown gr5 BA.out.size (by intro k e; injection e with e; omega)))
            | (refine stepApp (by rfl) _ _ (by rfl) w1.heap.size (k + 1) c5 g5 (xs.take k ++ [((j : Nat) : Int)]) (· < w1.heap.size) g AD (m - k) (cap - k) (xs.drop k) (by rfl) own5 (by rfl) (HD.out.below B5.out) B5.out.size (m + 1) (by omega) (xs.take k ++ [((j : Nat) : Int)] ++ xs.drop k) rfl (by omega) ?_
               intro g6 c6 w6 own6 hc6 gr6 hb6 hl6
               have B6 := Lib.hid (B5.out.grown gr6 B5.out.size (by intro k e; injection e with e; omega))))
          all_goals (have H6 := Lib.hid own6; clear own6 own5 own4 gr4 gr5 gr6)
          all_goals go_wp2
          all_goals go_roundw
          case rel => exact ⟨kk + 1, m + 1, p' + 1, c6, g6, xs.take k ++ [((j : Nat) : Int)] ++ xs.drop k, by go_num, rfl, own_base H6.out hg2.size, hc6, by omega, by omega, hr1.grown (below_grown B6.out rfl none) (by simp), by omega, grown_r hg2 (below_grown B6.out rfl (some R))⟩
          case measure => simp [intOf]; omega
          case rel => exact ⟨kk + 1, m + 1, p' + 1, c6, g6, xs.take k ++ [((j : Nat) : Int)] ++ xs.drop k, by go_num, rfl, own_base H6.out hg2.size, hc6, by omega, by omega, hr1.grown (below_grown B6.out rfl none) (by simp), by omega, grown_r hg2 (below_grown B6.out rfl (some R))⟩
          case measure => simp [intOf]; omega
          case rel => exact ⟨kk + 1, m + 1, p' + 1, c6, g6, xs.take k ++ [((j : Nat) : Int)] ++ xs.drop k, by go_num, rfl, own_base H6.out hg2.size, hc6, by omega, by omega, hr1.grown (below_grown B6.out rfl none) (by simp), by omega, grown_r hg2 (below_grown B6.out rfl (some R))⟩
          case measure => simp [intOf]; omega
        · have hkk : kk = l9 := by omega
          go_wp2_with fail
          go_roundw
          case rel => exact ⟨j + 1, m, p', cap, g, xs, by go_num, rfl, hown, hmc, by omega, by omega, hr, by omega, hg⟩
          case measure => simp [intOf]; omega
    · obtain rfl : j = len := by omega
      go_wp2_with fail
      refine (pick_any R p0 30 wo hr (by omega)).mono ?_
      rintro e w2 ⟨q, rfl, _, hr2, hg3⟩
      have ho2 := hown.kept hg3 (ne_low hown hR)
      have hg4 := grown_r hg hg3
      by_cases hq : q = 0
      · subst hq
        have HO2 := Lib.hid ho2
        have hs4 := hg4.size
        clear hown ho2
        go_wp2_with (at_builtin; refine wpApp1 rfl _ _ rfl w.heap.size _ _ _ _ _ rfl HO2.out rfl (by omega) (by omega) ?_)
        intro a6 c6 w6 own6 hc6 gr6
        obtain ⟨g7, c8, hv7, hb7, hl7⟩ := World.ownsRow.form own6 (by omega)
        injection hv7 with e7 _ e8
        subst e7 e8
        have HO6 := Lib.hid (own_snoc own6)
        have hgE : w.grownBy w6 (some R) := grown_trans hg4 gr6 (fun b e => .inr (HO2.out.lt b e).1)
        clear own6 gr6
        go_wp2_with fail
        go_ret
        exact ⟨g7, m0 + 1, c6, _, rfl, HO6.out, hc6, by omega, hgE⟩
      · have hqe : ((q : Int) == 0) = false := by simp; omega
        go_wp2
        go_ret
        exact ⟨g0, m0, cap0, xs0, rfl, ho2, hjc, by omega, hg4⟩
/-- a drawn shop, and turns -/
def DrawnST (w : World) (e : Ending) (w' : World) : Prop := ∃ (a : Option Addr) (l c : Nat) (shop : List (List (List Int))) (a2 : Option Addr) (l2 c2 : Nat) (ts : List Int), e = .returned (.tuple #[.slice a l c, .slice a2 l2 c2]) ∧ ShopAt w' (· < w'.heap.size) a l shop ∧ (∀ job ∈ shop, job.length ≤ 3) ∧ l ≤ c ∧ l ≤ 3 ∧ IntsAt w' (· < w'.heap.size) a2 l2 ts ∧ l2 ≤ c2 ∧ l2 ≤ 10 ∧ Below w.heap.size w w'
set_option maxHeartbeats 1000000 in
theorem drawShopTimes_any (a : Option Addr) (len cap : Nat) (w : World) (hb : BytesAt w w.heap.size a len) (hl : len ≤ cap) (hs : len ≤ 9223372036854775807) :
    Calls Try.prog 7 #[.slice a len cap] w (DrawnST w) := by
  go_enter Try.func7, Try.ntmps7
  go_wp2_with fail
  refine (newReader_any a len cap w hb hl hs).mono ?_
  rintro e w1 ⟨rfl, hr, hb1⟩
  have hR := hr.lt
  go_wp2_with fail
  refine (someShop_any w.heap.size 0 w1 hr (by omega)).mono ?_
  rintro e w2 ⟨a2, l2, c2, shop, p2, rfl, h1, hj, h2, h3, hr2, hp2, hg⟩
  have h1' : ShopAt w2 (fun b => w.heap.size < b ∧ b < w2.heap.size) a2 l2 shop := h1.to (fun b hb => ⟨⟨by omega, hb.2⟩, rfl⟩)
  go_wp2_with fail
  refine (turnsOf_any w.heap.size p2 a2 l2 c2 shop w2 hr2 (by omega) h1' hj h3).mono ?_
  rintro e w3 ⟨g, n, c3, xs, rfl, hown, hnc, hn10, hg3⟩
  have hbb : Below w.heap.size w w3 := grown_below (grown_r hg hg3) hb1 hb1.size
  have hsh := shop_grown h1' hg3
  obtain ⟨a', c', e', hnc', h'⟩ := own_ints hown (by omega)
  injection e' with e1 _ _
  subst e1
  go_wp2_with fail
  go_ret2
  exact ⟨a2, l2, c2, shop, _, n, _, xs, rfl, hsh.to (fun b hb => ⟨hb.2, rfl⟩), hj, h2, h3, h'.to (fun b hb => ⟨hb.2, rfl⟩), hnc', hn10, hbb⟩
end Go.Proofs.Ythmlgicjedhgfab
