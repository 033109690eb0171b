import Derived.Test.YthmlgicjedhgfacRows
import Derived.WalkKit
import Derived.LoopTactic
import Derived.Outline
import Derived.WalkSpells
import Derived.WalkLawsBesides
import Derived.ProofKit
import Derived.Deep.RegionHeld3
import Derived.Test.YthmlgicjedhgfacM0
import Derived.Test.YthmlgicjedhgfacM1
import Derived.Test.YthmlgicjedhgfacM2
import Derived.Test.YthmlgicjedhgfacM10
import Derived.Test.YthmlgicjedhgfacM19
import Derived.Test.YthmlgicjedhgfacM6
import Derived.Deep.Matrix
import Derived.Deep.Slices
namespace Go.Proofs.Ythmlgicjedhgfac
open Go.RowKit Go.WideShapes

def ShopPost (w : World) (R p : Nat) (e : Ending) (w' : World) : Prop := ∃ (a : Option Addr) (len cap : Nat) (shop : List (List (List Int))) (p' : Nat), e = .returned (.slice a len cap) ∧
      ShopAt w' (fun b => w.heap.size ≤ b ∧ b < w'.heap.size) a len shop ∧ (∀ job ∈ shop, job.length ≤ 3) ∧ len ≤ cap ∧ len ≤ 3 ∧ Rd w' R p' ∧ p' ≤ p + 100 ∧ w.grownBy w' (some R)
theorem shopPost_mk {w w' : World} {R p p' len cap M : Nat} {a : Option Addr} (h : OwnShop w' w.heap.size M (.slice a len cap) len) (hl : len ≤ cap) (h3 : len ≤ 3) (hr : Rd w' R p') (hp : p' ≤ p + 100)
    (hg : w.grownBy w' (some R)) : ShopPost w R p (.returned (.slice a len cap)) w' := by
  obtain ⟨a', cap', shop, hv, _, hs, hall⟩ := h.shop (by omega)
  simp only [Value.slice.injEq] at hv
  obtain ⟨rfl, _, rfl⟩ := hv
  exact ⟨_, _, _, shop, p', rfl, hs, hall, hl, h3, hr, hp, hg⟩
theorem Try.infoIntss7 : (Try.prog.info? 29).map (fun i => (i.zero, i.size, i.bytes)) = some (some (.slice none 0 0), 1, 24) := by kernel_rfl
theorem shop_n {n : Int} (h : n ∈ [2, 3, 2, 1, 0]) : ∃ m : Nat, n = (m : Int) ∧ m ≤ 3 := by
  simp at h
  exact ⟨n.toNat, by omega, by omega⟩
theorem own_lit2 (w : World) {B : Nat} (hB : B ≤ w.heap.size) (x y : Int) : (w.alloc (.cells #[.int .i64 x, .int .i64 y] 3)).ownsRow B 3 1 (.slice (some ⟨w.heap.size, 0, none⟩) 2 2) 2 ([x, y].map (.int .i64)) :=
  ⟨rfl, .inr ⟨w.heap.size, 2, _, rfl, hB, heap_alloc_new w _, Nat.le_refl _, by unfold maxLen; omega, rfl, rfl⟩⟩
set_option maxRecDepth 100000 in
set_option maxHeartbeats 4000000 in
theorem someShop_any (R p : Nat) (w : World) (h : Rd w R p) (hp : p ≤ 900000) :
    Calls Try.prog 23 #[.pointer (some ⟨R, 0, none⟩)] w (ShopPost w R p) := by
  have hR := h.lt
  obtain ⟨i1, hj, hy0, hy1, hy2⟩ := info_parts Try.infoInts
  obtain ⟨i2, hj2, hz0, hz1, hz2⟩ := info_parts Try.infoIntss7
  go_enter Try.func23, Try.ntmps23
  go_wp2_with fail
  refine (one_any (fun k => k = w.heap.size + 1) R p _ 5 5 [2, 3, 2, 1, 0] _ ((h.alloc _).alloc _) (IntsAt.lit rfl rfl (by simp) (by omega)) (by intro b hb; simp; omega) (by omega) (by omega)).mono ?_
  rintro e w1 ⟨n, hn, rfl, hr1, hg1⟩
  obtain ⟨m, rfl, hm⟩ := shop_n hn
  clear hn
  have hg2 : w.grownBy w1 (some R) := grown_r (World.grownBy_alloc w _ _) (grown_r (World.grownBy_alloc _ _ _) hg1)
  have ho1 : OwnShop w1 w.heap.size w1.heap.size (.slice (some ⟨w.heap.size, 0, none⟩) 0 0) 0 :=
    OwnShop.nil rfl (grown_r (World.grownBy_alloc _ _ _) hg1) hR
  go_wp2_with fail
  go_loopw [3] (fun v wr => ∃ (k p' cap : Nat) (a : Option Addr), v = .slice a k cap ∧ k ≤ cap ∧ OwnShop wr w.heap.size wr.heap.size v k ∧ k ≤ m ∧ Rd wr R p' ∧ p' ≤ p + 1 + 10 * k ∧ w.grownBy wr (some R)) (fun v _ => m - capOf v)
  case atStart => exact ⟨0, p + 1, 0, _, rfl, Nat.le_refl _, ho1, Nat.zero_le _, hr1, Nat.le_refl _, hg2⟩
  case round =>
    clear ho1
    obtain ⟨k, p', cap, a, rfl, hkc, ho, hkm, hr, hpp, hg⟩ := hrel
    obtain ⟨wo, rfl⟩ : ∃ wo : World, wo = wr := ⟨_, rfl⟩
    have hw0 : w.heap.size ≤ wo.heap.size := hg.size
    by_cases hlt : k < m
    · go_wp2_with fail
      refine (pick_any R p' 3 _ (hr.alloc _) (by omega)).mono ?_
      rintro e w2 ⟨q1, rfl, hq1, hr2, hgA⟩
      go_wp2_with fail
      refine (pick_any R (p' + 1) 2 w2 hr2 (by omega)).mono ?_
      rintro e w3 ⟨q2, rfl, hq2, hr3, hgB⟩
      go_wp2_with fail
      refine (one_any (fun b => b = w3.heap.size) R (p' + 1 + 1) _ 5 5 [2, 3, 2, 1, 0] _ (hr3.alloc _) (IntsAt.lit rfl rfl rfl (by omega)) (by intro b hb; have := hr3.lt; simp; omega) (by omega) (by omega)).mono ?_
      rintro e w4 ⟨nn, hnn, rfl, hr4, hgC⟩
      obtain ⟨mj, rfl, hmj⟩ := shop_n hnn
      clear hnn
      have gab : (wo.alloc (.cells #[] 25)).grownBy w4 (some R) := grown_r (grown_trans hgA hgB (by intro k e; cases e; exact Or.inl rfl)) (grown_r (World.grownBy_alloc w3 _ _) hgC)
      have hRo : R < wo.heap.size := hr.lt
      have hj0 : OwnRows w4 wo.heap.size w4.heap.size (.slice (some ⟨wo.heap.size, 0, none⟩) 0 0) 0 := OwnRows.nil rfl gab hRo
      have gwo : wo.grownBy w4 (some R) := grown_r (World.grownBy_alloc wo _ _) gab
      have ho4 : OwnShop w4 w.heap.size wo.heap.size (.slice a k cap) k := ho.low gwo hR
      have hg4 := grown_r hg gwo
      have hwo4 := gwo.size
      clear hr hr2 hr3 hgA hgB hgC gab gwo hg ho
      go_wp2_with fail
      go_loopw [5] (fun v wr => ∃ (j p2 cj : Nat) (aj : Option Addr), v = .slice aj j cj ∧ j ≤ cj ∧ OwnRows wr wo.heap.size wr.heap.size v j ∧ OwnShop wr w.heap.size wo.heap.size (.slice a k cap) k ∧ j ≤ mj ∧ Rd wr R p2 ∧ p2 ≤ p' + 3 + j ∧ wo.heap.size ≤ wr.heap.size ∧ w.grownBy wr (some R)) (fun v _ => mj - capOf v)
      case atStart => exact ⟨0, p' + 1 + 1 + 1, 0, _, rfl, Nat.le_refl _, hj0, ho4, Nat.zero_le _, hr4, by omega, hwo4, hg4⟩
      case round =>
        clear hj0 ho4 hr4 hg4 hwo4
        obtain ⟨j, p2, cj, aj, rfl, hjc, hjr, hos, hjm, hr5, hpp2, hwo, hg5⟩ := hrel
        obtain ⟨wi, rfl⟩ : ∃ wi : World, wi = wr := ⟨_, rfl⟩
        by_cases hlj : j < mj
        · have hq1b : q1 ≤ 2 := by omega
          have hq2b : q2 ≤ 1 := by omega
          have hj2 : j ≤ 2 := by omega
          have hmb : 0 ≤ (1 + (q2 : Int)) * (j : Int) ∧ (1 + (q2 : Int)) * (j : Int) ≤ 2 * 2 := ⟨Int.mul_nonneg (by omega) (by omega), Int.mul_le_mul (by omega) (by omega) (by omega) (by omega)⟩
          go_wp2_with fail
          refine (pick_any R p2 6 _ hr5 (by omega)).mono ?_
          rintro e w5 ⟨q3, rfl, hq3, hr6, hg6⟩
          have hjr5 := hjr.low hg6 hRo
          have hos5 := hos.low hg6 hR
          have hlit := own_lit2 w5 (B := wi.heap.size) hg6.size (((q1 : Int) + (1 + (q2 : Int)) * (j : Int)) % 3) (1 + (q3 : Int))
          obtain ⟨us, hout, hus⟩ := hjr5.alloc (.cells #[.int .i64 (((q1 : Int) + (1 + (q2 : Int)) * (j : Int)) % 3), .int .i64 (1 + (q3 : Int))] 3)
          have hos6 := hos5.alloc (.cells #[.int .i64 (((q1 : Int) + (1 + (q2 : Int)) * (j : Int)) % 3), .int .i64 (1 + (q3 : Int))] 3)
          have hr8 := hr6.alloc (.cells #[.int .i64 (((q1 : Int) + (1 + (q2 : Int)) * (j : Int)) % 3), .int .i64 (1 + (q3 : Int))] 3)
          have hg8 := grown_alloc (grown_r hg5 hg6) (.cells #[.int .i64 (((q1 : Int) + (1 + (q2 : Int)) * (j : Int)) % 3), .int .i64 (1 + (q3 : Int))] 3)
          have hsz5 := hg6.size
          have hsz8 : (w5.alloc (.cells #[.int .i64 (((q1 : Int) + (1 + (q2 : Int)) * (j : Int)) % 3), .int .i64 (1 + (q3 : Int))] 3)).heap.size = w5.heap.size + 1 := by simp
          obtain ⟨w8, hw8⟩ : ∃ w8, (w5.alloc (.cells #[.int .i64 (((q1 : Int) + (1 + (q2 : Int)) * (j : Int)) % 3), .int .i64 (1 + (q3 : Int))] 3)) = w8 := ⟨_, rfl⟩
          rw [hw8] at hlit hout hus hr8 hg8 hsz8 hos6
          have HW8 := Lib.hid hw8
          have HSZ := Lib.hid hsz8
          clear hw8 hsz8 hjr5 hos5 hr6 hg6 hjr hos hr5 hg5
          have HLIT := Lib.hid hlit
          have HOUT := Lib.hid hout
          have HUS := Lib.hid hus
          have HR8 := Lib.hid hr8
          have HG8 := Lib.hid hg8
          have HOS := Lib.hid hos6
          clear hlit hout hus hr8 hg8 hos6
          go_wp2_with (at_builtin; rw [HW8.out]; refine wpList_append_own _ rfl _ _ 29 rfl wo.heap.size 25 i1 (.slice none 0 0) 1 24 Try.underlying29 hj hy0 hy1 hy2 rfl (by decide) _ _ _ rfl (HOUT.out.alloc _) ⟨w8.heap.size, 0, none⟩ 1 1 [.slice (some ⟨w5.heap.size, 0, none⟩) 2 2] (by rw [HSZ.out]; rfl) rfl ?c1 ?c2 ?c3 ?c4 ?c5 ?_)
          case c1 => exact one_new _ _ _
          case c2 => exact one_cell_slice _ _ _
          case c3 => unfold maxLen; omega
          case c4 => omega
          case c5 => have := HSZ.out; simp; omega
          intro v' w9 hown hgrow _
          obtain ⟨a6, c6, rfl, hjc6⟩ := own_slice hown
          have hgr : w8.grownBy w9 (Value.slice aj j cj).ownBlock := grown_comp (World.grownBy_alloc w8 _ _) hgrow
          have HPUSH := Lib.hid (OwnRows.push HLIT.out hwo HOUT.out HUS.out hown hgr)
          have HOS9 := Lib.hid (HOS.out.rows (⟨us, HOUT.out, HUS.out⟩ : OwnRows w8 wo.heap.size wi.heap.size (.slice aj j cj) j) hgr)
          have HR9 := Lib.hid (HR8.out.grown hgr (by intro b hb; have := (HOUT.out.lt b hb).1; omega))
          have HG9 := Lib.hid (grown_trans HG8.out hgr (by intro b hb; have := (HOUT.out.lt b hb).1; omega))
          have HWO := Lib.hid (show wo.heap.size ≤ w9.heap.size by have := hgr.size; have := HSZ.out; omega)
          clear hown hgrow hgr
          go_wp2_with fail
          go_roundw
          case rel => exact ⟨j + 1, p2 + 1, c6, a6, rfl, hjc6, HPUSH.out, HOS9.out, by omega, HR9.out, by omega, HWO.out, HG9.out⟩
          case measure => simp [capOf] <;> omega
        · obtain rfl : j = mj := by omega
          obtain ⟨us, hout, hus⟩ := hos
          have hwo0 : w.heap.size ≤ wo.heap.size := hw0
          go_wp2_with (at_builtin; refine wpList_append_own _ rfl _ _ 23 rfl w.heap.size 29 i2 (.slice none 0 0) 1 24 Try.underlying23 hj2 hz0 hz1 hz2 rfl (by decide) _ _ _ rfl (hout.alloc _) ⟨wi.heap.size, 0, none⟩ 1 1 [.slice aj j cj] rfl rfl ?c1 ?c2 ?c3 ?c4 ?c5 ?_)
          case c1 => exact one_new _ _ _
          case c2 => exact one_cell_slice _ _ _
          case c3 => unfold maxLen; omega
          case c4 => omega
          case c5 => simp; omega
          intro v' w6 hown hgrow _
          obtain ⟨a6, c6, rfl, hjc6⟩ := own_slice hown
          have hgr : wi.grownBy w6 (Value.slice a k cap).ownBlock := grown_comp (World.grownBy_alloc wi _ _) hgrow
          have HPU := Lib.hid (OwnShop.push hjr (by omega) hwo0 hout hus hown hgr)
          have HR9 := Lib.hid (hr5.grown hgr (by intro b hb; have := (hout.lt b hb).1; omega))
          have HG9 := Lib.hid (grown_trans hg5 hgr (by intro b hb; have := (hout.lt b hb).1; omega))
          clear hown hgrow hgr
          go_wp2_with fail
          go_roundw
          case rel => exact ⟨k + 1, p2, c6, a6, rfl, hjc6, HPU.out, by omega, HR9.out, by omega, HG9.out⟩
          case measure => simp [capOf] <;> omega
    · by_cases hk0 : 0 < k
      · obtain ⟨g, rfl, hgB⟩ := ho.addr hk0
        obtain ⟨v, hc0, hf0, n, hrow, hn3, hltn⟩ := ho.cell (j := 0) hk0
        obtain ⟨a2, c2, rfl, hnc⟩ := hrow.slice
        by_cases hn0 : 0 < n
        · obtain ⟨g2, rfl, hg2B⟩ := hrow.addr hn0
          go_wp2_with fail
          refine (pick_any R p' 30 wo hr (by omega)).mono ?_
          rintro e w2 ⟨q, rfl, _, hr2, hg3⟩
          have ho2 := ho.low hg3 hR
          have hrow2 := hrow.low hg3 hR
          have hg4 := grown_r hg hg3
          have hsz3 := hg3.size
          have hgs : g < wo.heap.size := World.block_lt_of_cell? wo _ hc0
          have hcw : w2.cell? ⟨g, 0, none⟩ = some (.slice (some ⟨g2, 0, none⟩) n c2) := hg3.cell hc0 (by simp; omega)
          by_cases hq : q = 0
          · subst hq
            have hkA : ∀ o, (w2.alloc o).cell? ⟨g, 0, none⟩ = some (.slice (some ⟨g2, 0, none⟩) n c2) := fun o => by
              rw [World.cell?_of_block (w := w2) (Below.heap_alloc _ _ _ (by show g < _; omega))]; exact hcw
            have hli : IntsAt (w2.alloc (.cells #[.int .i64 3, .int .i64 (-1)] 3)) (fun b => b = w2.heap.size) (some ⟨w2.heap.size, 0, none⟩) 2 [3, -1] := IntsAt.lit rfl rfl rfl (by omega)
            have HLI := Lib.hid (Drew.ints (wr := (w2.alloc (.cells #[.int .i64 3, .int .i64 (-1)] 3)).drew) hli ⟨1, rfl⟩)
            clear hli
            have HGA := Lib.hid (show w2.grownBy (w2.alloc (.cells #[.int .i64 3, .int .i64 (-1)] 3)).drew (some R) from (grown_r (World.grownBy_alloc w2 _ _) (grownBy_drewN _ 1 _)))
            have HRA := Lib.hid (show Rd (w2.alloc (.cells #[.int .i64 3, .int .i64 (-1)] 3)).drew R (p' + 1) from (hr2.alloc _).grown (grownBy_drewN _ 1 none) (fun k e => by cases e))
            have HNE : Hid (∀ b, b = w2.heap.size → b ≠ R ∧ b < ((w2.alloc (.cells #[.int .i64 3, .int .i64 (-1)] 3)).drew).heap.size) := Lib.hid (by intro b hb; have := hr2.lt; subst hb; exact ⟨by omega, by show _ < (w2.alloc _).heap.size; simp⟩)
            have HO2 := Lib.hid ho2
            have HROW := Lib.hid hrow2
            have HG4 := Lib.hid hg4
            have hgR : g ≠ R := by omega
            have hgg : g ≠ g2 := by
              obtain ⟨us, hv, _⟩ := ho
              obtain ⟨ys, hy, _⟩ := hrow
              have := own_ne hv hy (by decide)
              simpa [Value.ownBlock] using this
            clear ho2 hrow2 ho hrow hg4 hg3 hr hg hr2 hc0 hf0
            go_wp2_with fail
            go_region_held3 (fun w' => w'.cell? ⟨g, 0, none⟩ = some (.slice (some ⟨g2, 0, none⟩) n c2)) (first | go_keep | exact hkA _ | exact k4)
              (first | (go_at_call 47; refine (one_any _ R (p' + 1) _ 2 2 [3, -1] _ HRA.out HLI.out HNE.out (by omega) (by omega)).mono ?_; rintro e w5 ⟨x, _, rfl, hr5, hg5⟩; have k1 : w5.cell? ⟨g, 0, none⟩ = some (.slice (some ⟨g2, 0, none⟩) n c2) := hg5.cell (hkA _) (by simp; omega); have gw5 := grown_r HGA.out hg5; have hx5 := (HROW.out.low gw5 hR).alloc (.cells #[.int .i64 x, .int .i64 1] 3); have hz5 := gw5.size; obtain ⟨v1, k2, k3⟩ := hx5.cell (j := 0) hn0; have k1a : (w5.alloc (.cells #[.int .i64 x, .int .i64 1] 3)).cell? ⟨g, 0, none⟩ = some (.slice (some ⟨g2, 0, none⟩) n c2) := (World.grownBy_alloc w5 (.cells #[.int .i64 x, .int .i64 1] 3) none).cell k1 (by simp); have k4 := (hx5.store (j := 0) (own_lit2 w5 (B := w.heap.size) (by omega) x 1)).2.cell k1a (by simp; exact hgg)))
            have gW := grown_alloc (grown_r HG4.out gw5) (.cells #[.int .i64 x, .int .i64 1] 3)
            have hsW : OwnShop (w5.alloc (.cells #[.int .i64 x, .int .i64 1] 3)) w.heap.size wo.heap.size (.slice (some ⟨g, 0, none⟩) k cap) k := (HO2.out.low gw5 hR).alloc _
            obtain ⟨h1, h2⟩ := OwnShop.store (j := 0) hsW hx5 (own_lit2 w5 (B := w.heap.size) (by omega) x 1)
            have H1 := Lib.hid h1
            have H2 := Lib.hid h2
            have GW := Lib.hid gW
            have HR5 := Lib.hid hr5
            clear h1 h2 gW hsW hr5 hx5 gw5 hg5 k1 k1a k2 k3 k4
            go_wp2
            go_ret
            exact shopPost_mk H1.out hkc (by omega) ((HR5.out.alloc _).grown H2.out (by intro b hb; injection hb; omega)) (by omega) (grown_trans GW.out H2.out (by intro b hb; injection hb; omega))
          · have hqe : ((q : Int) == 0) = false := by simp; omega
            go_wp2
            go_ret
            exact shopPost_mk ho2 hkc (by omega) hr2 (by omega) hg4
        · have hn00 : ¬ (0 : Int) < (n : Int) := by omega
          go_wp2
          go_ret
          exact shopPost_mk ho hkc (by omega) hr (by omega) hg
      · have hk1' : ¬ (0 : Int) < (k : Int) := by omega
        go_wp2
        go_ret
        exact shopPost_mk ho hkc (by omega) hr (by omega) hg
end Go.Proofs.Ythmlgicjedhgfac
namespace Go.Proofs.Ythmlgicjedhgfac
open Go.RowKit Go.WideShapes

/-- a drawn shop -/
def DrawnS (w : World) (e : Ending) (w' : World) : Prop := ∃ (a : Option Addr) (l c : Nat) (shop : List (List (List Int))), e = .returned (.slice a l c) ∧ ShopAt w' (· < w'.heap.size) a l shop ∧ (∀ job ∈ shop, job.length ≤ 3) ∧ l ≤ c ∧ l ≤ 3 ∧ Below w.heap.size w w'
theorem drawBestTurns_any (a : Option Addr) (len cap : Nat) (w : World) (hb : BytesAt w w.heap.size a len) (hl : len ≤ cap) (hs : len ≤ 9223372036854775807) :
    Calls Try.prog 6 #[.slice a len cap] w (DrawnS w) := by
  go_enter Try.func6, Try.ntmps6
  go_wp2_with fail
  refine (newReader_any a len cap w hb hl hs).mono ?_
  rintro e w1 ⟨rfl, hr, hb1⟩
  go_wp2_with fail
  refine (someShop_any w.heap.size 0 w1 hr (by omega)).mono ?_
  rintro e w2 ⟨a2, l2, c2, shop, p2, rfl, h1, hj, h2, h3, hr2, hp2, hg⟩
  have hbb : Below w.heap.size w w2 := grown_below hg hb1 hb1.size
  go_wp2_with fail
  go_ret
  exact ⟨a2, l2, c2, shop, rfl, h1.to (fun b hb => ⟨hb.2, rfl⟩), hj, h2, h3, hbb⟩
end Go.Proofs.Ythmlgicjedhgfac
namespace Go.Proofs.Ythmlgicjedhgfac
open Go.RowKit Go.ChangeShapes Go.WideShapes Go.Deep

section
variable {H : Type} {enc : TypeId × Value → H} {P : Program} {W : World}
theorem open_rows_cs {t e q : TypeId} {fuel : Nat} {cs : List Value} {x : DataW H × List MemPlace} (ht : P.underlying t = some (.slice e)) (he : P.underlying e = some (.slice q)) (hq : P.underlying q = some (.int .i64))
    (ce : P.cellsOf e = 1) (cq : P.cellsOf q = 1) (h : DataW.trod enc P W 0 (fun _ => true) true fuel t cs = some x) : ∃ a len cap rows, cs = [.slice a len cap] ∧ len ≤ cap ∧ RowsAt W (· < W.heap.size) a len rows := by
  rcases open_int_rows ht he hq ce cq h with ⟨hcs, _⟩ | ⟨a, len', cap', A, L, C, Z, hcs, _, hl, hmx, _, hx⟩
  · exact ⟨none, 0, 0, [], hcs, Nat.le_refl _, rfl, Nat.zero_le _, fun h => absurd h (by omega)⟩
  · exact ⟨some a, len', cap', _, hcs, hl, rowsAt_of hl hmx hx⟩
theorem choose_list {Q : Nat → List (List Int) → Prop} : ∀ n, (∀ i, i < n → ∃ r, Q i r) → ∃ shop : List (List (List Int)), shop.length = n ∧ ∀ i r, shop[i]? = some r → Q i r
  | 0, _ => ⟨[], rfl, fun i r h => by simp at h⟩
  | n + 1, h => by
    obtain ⟨l, h1, h2⟩ := choose_list n (fun i hi => h i (by omega))
    obtain ⟨r, hr⟩ := h n (by omega)
    refine ⟨l ++ [r], by simp [h1], fun i x hx => ?_⟩
    rcases Nat.lt_or_ge i l.length with hi | hi
    · rw [List.getElem?_append_left hi] at hx; exact h2 i x hx
    · rw [List.getElem?_append_right hi] at hx
      have h0 : i - l.length = 0 := by have := (List.getElem?_eq_some_iff.1 hx).1; simp at this; omega
      rw [h0] at hx
      simp only [List.getElem?_cons_zero, Option.some.injEq] at hx
      subst hx
      rw [show i = n by omega]; exact hr
theorem open_shop_arg {t e f q : TypeId} {a : Option Addr} {len cap : Nat} {d : DataW H} {p : List MemPlace} (ht : P.underlying t = some (.slice e)) (he : P.underlying e = some (.slice f)) (hf : P.underlying f = some (.slice q)) (hq : P.underlying q = some (.int .i64))
    (ce : P.cellsOf e = 1) (cf : P.cellsOf f = 1) (cq : P.cellsOf q = 1) (h : DataW.Trod enc P W 0 (fun _ => true) true t (.slice a len cap) d p) : ∃ shop, ShopAt W (· < W.heap.size) a len shop := by
  obtain ⟨fuel, hfu⟩ := h
  rcases open_slice1 ht ce hfu with ⟨hcs, _⟩ | ⟨a', len', cap', m, n, V, D, Pl, hcs, _, hl, hmx, hm, _, hx⟩
  · simp [Value.cells] at hcs
    obtain ⟨rfl, rfl, rfl⟩ := hcs
    exact ⟨[], rfl, Nat.zero_le _, fun h => absurd h (by omega)⟩
  · simp [Value.cells] at hcs
    obtain ⟨rfl, rfl, rfl⟩ := hcs
    simp only [if_true] at hm
    subst hm
    obtain ⟨shop, hlen, hshop⟩ := choose_list (Q := fun i r => ∃ a2 l c, V i = .slice a2 l c ∧ l ≤ c ∧ RowsAt W (· < W.heap.size) a2 l r) len (fun i hi => by
      obtain ⟨a2, l, c, rows, h1, h2, h3⟩ := open_rows_cs he hf hq cf cq (hx i (by omega)).2
      simp only [List.cons.injEq, and_true] at h1
      exact ⟨rows, a2, l, c, h1, h2, h3⟩)
    refine ⟨shop, hlen, by unfold maxLen at hmx; omega, fun h0 => ?_⟩
    obtain ⟨b, off, spot⟩ := a'
    have hspot : spot = none := by simpa [Addr.add] using World.cell?_spot (hx 0 (by omega)).1
    subst hspot
    refine ⟨b, off, rfl, lt_of_cell (o := off + 0) (by rw [← add_plain]; exact (hx 0 (by omega)).1), fun i r hr => ?_⟩
    have hi : i < shop.length := (List.getElem?_eq_some_iff.1 hr).1
    obtain ⟨a2, l, c, h1, h2, h3⟩ := hshop i r hr
    exact ⟨a2, l, c, by rw [← add_plain, (hx i (by omega)).1, h1], h2, h3⟩
end
end Go.Proofs.Ythmlgicjedhgfac
