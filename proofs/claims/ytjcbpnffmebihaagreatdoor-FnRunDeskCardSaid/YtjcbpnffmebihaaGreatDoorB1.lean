import Derived.Test.YtjcbpnffmebihaaGreatDoorB0
import Derived.Test.YtjcbpnffmebihaaGreatDoorA0
import Derived.Test.YtjcbpnffmebihaaGreatDoorA1
import Derived.Test.YtjcbpnffmebihaaGreatDoorA10
import Derived.Test.YtjcbpnffmebihaaGreatDoorA12
import Derived.Test.YtjcbpnffmebihaaGreatDoorA13
import Derived.Test.YtjcbpnffmebihaaGreatDoorA14
import Derived.Test.YtjcbpnffmebihaaGreatDoorA16
import Derived.Test.YtjcbpnffmebihaaGreatDoorA17
import Derived.Test.YtjcbpnffmebihaaGreatDoorA2
import Derived.Test.YtjcbpnffmebihaaGreatDoorA20
import Derived.Test.YtjcbpnffmebihaaGreatDoorA5
import Derived.Test.YtjcbpnffmebihaaGreatDoorA7
import Derived.Test.YtjcbpnffmebihaaGreatDoorA8
import Derived.Test.YtjcbpnffmebihaaGreatDoorA9
import Derived.Test.YtjcbpnffmebihaaGreatDoorRows
import Derived.WalkKit
import Derived.LoopTactic
import Derived.Outline
import Derived.WalkSpells
import Derived.WalkLawsBesides
import Derived.ProofKit
import Derived.Lib.Hide
import Derived.Deep.RegionHeld3
import Derived.IntWalk
set_option linter.unusedVariables false
set_option linter.unusedSimpArgs false
namespace Go.Proofs.YtjcbpnffmebihaaGreatDoor
open Go.RowKit Go.WideShapes

/-- a list that is drawn: numbers in lo..hi -/
def ListPost (w : World) (R p n : Nat) (lo hi : Int) (e : Ending) (w' : World) : Prop := ∃ (a : Option Addr) (cap : Nat) (xs : List Int), e = .returned (.slice a n cap) ∧
  w'.ownsRow w.heap.size 3 1 (.slice a n cap) n (xs.map (.int .i64)) ∧ n ≤ cap ∧ xs.length = n ∧ (∀ x ∈ xs, lo ≤ x ∧ x ≤ hi) ∧ Rd w' R (p + n) ∧ w.grownBy w' (some R)

set_option maxRecDepth 100000 in
set_option maxHeartbeats 2000000 in
theorem listOf_any (R p n : Nat) (lo hi : Int) (w : World) (h : Rd w R p) (hp : p ≤ 1000000) (hn : n ≤ 1000) (hlo : -1000 ≤ lo) (hlh : lo ≤ hi) (hhi : hi ≤ 1000) :
    Calls Tryz.prog 27 #[.pointer (some ⟨R, 0, none⟩), .int .i64 n, .int .i64 lo, .int .i64 hi] w (ListPost w R p n lo hi) := by
  have hR := h.lt
  obtain ⟨i0, hi0, hz0, hz1, hz2⟩ := info_parts Tryz.infoIntD
  have ho0 := World.ownsRow_made (base := w.heap.size) (size := 1) (e := 3) w #[] 0 (Nat.le_refl _) (Nat.zero_le _) rfl
  go_enter Tryz.func27, Tryz.ntmps27
  go_wp2_with fail
  go_loopw [9] (fun v wr => ∃ (k cap : Nat) (a : Option Addr) (xs : List Int), v = .slice a k cap ∧ wr.ownsRow w.heap.size 3 1 v k (xs.map (.int .i64)) ∧ k ≤ n ∧ (∀ x ∈ xs, lo ≤ x ∧ x ≤ hi) ∧ Rd wr R (p + k) ∧ w.grownBy wr (some R)) (fun v _ => n - capOf v)
  case atStart => exact ⟨0, _, _, [], rfl, ho0, Nat.zero_le _, (fun x hx => by cases hx), h.alloc _, World.grownBy_alloc _ _ _⟩
  case round =>
    obtain ⟨k, cap, a, xs, rfl, hown, hkm, hall, hr, hg⟩ := hrel
    obtain ⟨wo, rfl⟩ : ∃ wo : World, wo = wr := ⟨_, rfl⟩
    have hsz := hg.size
    have HOWN := Lib.hid hown
    have HALL := Lib.hid hall
    clear hown hall
    by_cases hlt : k < n
    · go_wp2_with fail
      refine (pick_any R (p + k) (hi - lo + 1) wo hr (by omega)).mono ?_
      rintro e w5 ⟨q1, rfl, hq1, hr5, hgw⟩
      have HO5 := Lib.hid (HOWN.out.kept hgw (ne_low HOWN.out hR))
      have hg6 := grown_r hg hgw
      have hxb : lo ≤ lo + (q1 : Int) ∧ lo + (q1 : Int) ≤ hi := by omega
      go_wp2_with (at_builtin; refine wpList_append_own _ rfl _ _ 35 rfl w.heap.size 3 i0 (.int .i64 0) 1 8 Tryz.underlying35 hi0 hz0 hz1 hz2 rfl (by decide) _ _ _ rfl (HO5.out.alloc _) ⟨w5.heap.size, 0, none⟩ 1 1 [.int .i64 (lo + (q1 : Int))] rfl rfl ?c1 ?c2 ?c3 ?c4 ?c5 ?_)
      case c1 => exact one_new _ _ _
      case c2 => exact one_cell_int _ _
      case c3 => unfold maxLen; omega
      case c4 => omega
      case c5 => have := hgw.size; simp; omega
      intro v' w6 hown hgrow _
      obtain ⟨a6, c6, rfl, _⟩ := own_slice hown
      have hgr : w5.grownBy w6 (Value.slice a k cap).ownBlock := grown_comp (World.grownBy_alloc w5 _ _) hgrow
      have HO6 := Lib.hid hown
      have HG6 := Lib.hid hgr
      clear hown hgr hgrow
      go_wp2
      go_roundw
      case rel => exact ⟨k + 1, c6, a6, xs ++ [lo + (q1 : Int)], rfl, by rw [List.map_append]; exact HO6.out, by omega, (fun y hy => by
        rcases List.mem_append.1 hy with h' | h'
        · exact HALL.out y h'
        · simp only [List.mem_singleton] at h'; rw [h']; exact hxb), hr5.grown HG6.out (by intro b hb; have := (HO5.out.lt b hb).1; omega), grown_trans hg6 HG6.out (by intro b hb; have := (HO5.out.lt b hb).1; omega)⟩
      case measure => simp [capOf]; omega
    · obtain rfl : k = n := by omega
      go_wp2
      go_ret
      obtain ⟨a', c', e, hc⟩ := own_slice HOWN.out
      simp only [Value.slice.injEq] at e
      obtain ⟨rfl, _, rfl⟩ := e
      have hl := HOWN.out.1
      exact ⟨_, _, xs, rfl, HOWN.out, hc, by simpa using hl, HALL.out, hr, hg⟩
end Go.Proofs.YtjcbpnffmebihaaGreatDoor
namespace Go.Proofs.YtjcbpnffmebihaaGreatDoor
open Go.RowKit Go.WideShapes

set_option maxRecDepth 100000 in
set_option maxHeartbeats 2000000 in
/-- rows as a text: some text, not long -/
theorem rowsText_any (S : Nat → Prop) (a : Option Addr) (len cap : Nat) (rows : List (List Int)) (w : World) (h : RowsAt w S a len rows) (hl : len ≤ 20) (hr : ∀ r ∈ rows, r.length ≤ 20 ∧ ∀ x ∈ r, -9223372036854775807 ≤ x ∧ x ≤ 9223372036854775807) :
    Calls Tryz.prog 14 #[.slice a len cap] w fun e w' => (∃ s : ByteArray, e = .returned (.string s) ∧ s.size ≤ 421 * len) ∧ w' = w := by
  have HR := Lib.hid hr
  clear hr
  go_enter Tryz.func14, Tryz.ntmps14
  go_wp2_with fail
  go_loop [3, 4] (fun o i => ∃ (k : Nat) (s : ByteArray), k ≤ len ∧ i = .int .i64 k ∧ o = .string s ∧ s.size ≤ 421 * k) (fun _ i => len - (intOf i).toNat)
  case atStart => exact ⟨0, _, Nat.zero_le _, rfl, rfl, Nat.le_refl _⟩
  case round =>
    obtain ⟨k, s, hk, rfl, rfl, hs⟩ := hrel
    by_cases hlt : k < len
    · obtain ⟨b, off, r, a', l, c, rfl, hrk, hcr, hlc, hri⟩ := h.get hlt
      obtain ⟨hr1, hr2⟩ := HR.out r (List.mem_of_getElem? hrk)
      have hll : l ≤ 20 := by have := hri.lenEq; omega
      have HT := Lib.hid (listText_any S a' l c r w hri hr2 (by omega))
      have hsz := listB_size (xs := r) fun x hx => by have := hr2 x hx; omega
      clear hr2 hrk
      generalize listB r = X at *
      have hX : X.size ≤ 420 := by omega
      have HX := Lib.hid hX
      have HSS := Lib.hid hs
      by_cases hk0 : 0 < k
      · have t1 : ¬ 9223372036854775807 < s.size + (⟨#[47]⟩ : ByteArray).size := by show ¬ _ < _ + 1; omega
        have t2 : ¬ 9223372036854775807 < (s ++ (⟨#[47]⟩ : ByteArray)).size + X.size := by rw [ByteArray.size_append]; show ¬ _ < _ + 1 + _; omega
        clear hsz hX hs hr1
        go_wp2_with fail
        refine HT.out.mono ?_
        rintro e w1 ⟨rfl, hw⟩
        subst hw
        go_wp2_with fail
        go_round
        case rel => exact ⟨k + 1, _, by omega, by go_num, rfl, by have := HX.out; have := HSS.out; rw [ByteArray.size_append, ByteArray.size_append]; show _ + 1 + _ ≤ _; omega⟩
        case measure => simp [intOf] <;> omega
      · obtain rfl : k = 0 := by omega
        rw [Nat.add_zero] at hcr
        have t2 : ¬ 9223372036854775807 < s.size + X.size := by omega
        clear hsz hX hs hr1
        go_wp2_with fail
        refine HT.out.mono ?_
        rintro e w1 ⟨rfl, hw⟩
        subst hw
        go_wp2_with fail
        go_round
        case rel => exact ⟨1, _, by omega, by go_num, rfl, by have := HX.out; have := HSS.out; rw [ByteArray.size_append]; omega⟩
        case measure => simp [intOf] <;> omega
    · obtain rfl : k = len := by omega
      go_wp2_with fail
      go_ret
      exact ⟨⟨s, rfl, hs⟩, rfl⟩
/-- one of some texts -/
theorem ofB_any (P : ByteArray → Prop) (R p b len cap : Nat) (w : World) (h : Rd w R p) (hc : ∀ i, i < len → ∃ s : ByteArray, w.cell? ⟨b, i, none⟩ = some (.string s) ∧ P s) (hne : b ≠ R) (hb : b < w.heap.size) (hl : 1 ≤ len) (hl2 : len ≤ 1048576) (hp : p ≤ 1099511627776) :
    Calls Tryz.prog 23 #[.pointer (some ⟨R, 0, none⟩), .slice (some ⟨b, 0, none⟩) len cap] w fun e w' => ∃ s : ByteArray, e = .returned (.string s) ∧ P s ∧ Rd w' R (p + 1) ∧ w.grownBy w' (some R) := by
  go_enter Tryz.func23, Tryz.ntmps23
  go_wp2_with fail
  refine (pick_any R p (len : Int) w h hp).mono ?_
  rintro e w' ⟨k, rfl, hk, hr, hg⟩
  have hkl : k < len := by omega
  have hkI : (k : Int) < (len : Int) := by omega
  obtain ⟨s, hs, hP⟩ := hc k hkl
  have hs' : w'.cell? ⟨b, k, none⟩ = some (.string s) := by rw [World.cell?_of_block (w := w) (hg.block b hb (by intro e; injection e with e; exact hne e))]; exact hs
  clear hs hc
  go_wp2_with fail
  go_ret
  exact ⟨s, rfl, hP, hr, hg⟩
theorem grown_d {a b : World} {R : Nat} (h : a.drew.grownBy b (some R)) : a.grownBy b (some R) := grown_r (grownBy_drewN a 1 (some R)) h
/-- one of texts just laid -/
theorem ofB_lit (C R p n : Nat) (cs : Array Value) (t : TypeId) (w w' : World) (h : Rd w R p) (hw : w' = w.alloc (.cells cs t) ∨ w' = (w.alloc (.cells cs t)).drew) (hc : ∀ i, i < n → ∃ s : ByteArray, cs[i]? = some (.string s) ∧ s.size ≤ C) (hl : 1 ≤ n) (hl2 : n ≤ 1048576) (hp : p ≤ 1099511627776) :
    Calls Tryz.prog 23 #[.pointer (some ⟨R, 0, none⟩), .slice (some ⟨w.heap.size, 0, none⟩) n n] w' fun e w2 => ∃ s : ByteArray, e = .returned (.string s) ∧ s.size ≤ C ∧ Rd w2 R (p + 1) ∧ w'.grownBy w2 (some R) := by
  have hR := h.lt
  have key : ∀ i, i < n → ∃ s : ByteArray, (w.alloc (.cells cs t)).cell? ⟨w.heap.size, i, none⟩ = some (.string s) ∧ s.size ≤ C := fun i hi => by
    obtain ⟨s, hs, hC⟩ := hc i hi
    exact ⟨s, by rw [World.cell?_alloc_new]; exact hs, hC⟩
  rcases hw with rfl | rfl
  · exact ofB_any (fun s => s.size ≤ C) R p _ n n _ (h.alloc _) key (by omega) (by simp) hl hl2 hp
  · exact ofB_any (fun s => s.size ≤ C) R p _ n n _ ((h.alloc _).grown (grownBy_drewN _ 1 none) (fun k e => by cases e)) key (by omega) (by simp) hl hl2 hp
theorem lit6 {i : Nat} (hi : i < 6) : ∃ s : ByteArray, (#[Value.string ⟨#[49]⟩, .string ⟨#[48]⟩, .string ⟨#[47]⟩, .string ⟨#[44]⟩, .string ⟨#[32]⟩, .string ⟨#[45]⟩] : Array Value)[i]? = some (.string s) ∧ s.size ≤ 1 := by
  match i, hi with
  | 0, _ => exact ⟨_, rfl, Nat.le_refl _⟩
  | 1, _ => exact ⟨_, rfl, Nat.le_refl _⟩
  | 2, _ => exact ⟨_, rfl, Nat.le_refl _⟩
  | 3, _ => exact ⟨_, rfl, Nat.le_refl _⟩
  | 4, _ => exact ⟨_, rfl, Nat.le_refl _⟩
  | 5, _ => exact ⟨_, rfl, Nat.le_refl _⟩
theorem lit4 {i : Nat} (hi : i < 4) : ∃ s : ByteArray, (#[Value.string ⟨#[49]⟩, .string ⟨#[44, 50]⟩, .string ⟨#[32]⟩, .string ⟨#[47, 49, 44, 49]⟩] : Array Value)[i]? = some (.string s) ∧ s.size ≤ 4 := by
  match i, hi with
  | 0, _ => exact ⟨_, rfl, by decide⟩
  | 1, _ => exact ⟨_, rfl, by decide⟩
  | 2, _ => exact ⟨_, rfl, by decide⟩
  | 3, _ => exact ⟨_, rfl, by decide⟩
def MutPost (w : World) (R p : Nat) (s : ByteArray) (e : Ending) (w' : World) : Prop := ∃ (t : ByteArray) (p' : Nat), e = .returned (.string t) ∧ t.size ≤ s.size + 4 ∧ Rd w' R p' ∧ p' ≤ p + 3 ∧ w.grownBy w' (some R)
set_option maxRecDepth 100000 in
set_option maxHeartbeats 2000000 in
/-- a text with a piece changed -/
theorem mutate_any (R p : Nat) (s : ByteArray) (w : World) (h : Rd w R p) (hp : p ≤ 1000000) (hs : s.size ≤ 1000000) :
    Calls Tryz.prog 24 #[.pointer (some ⟨R, 0, none⟩), .string s] w (MutPost w R p s) := by
  have hR := h.lt
  have hw1 : IntKind.i64.wrap ((s.size : Int) + 1) = (s.size : Int) + 1 := IntWalk.i64_in _ (by omega)
  go_enter Tryz.func24, Tryz.ntmps24
  go_wp2_with fail
  refine (pick_any R p ((s.size : Int) + 1) w h (by omega)).mono ?_
  rintro e w1 ⟨k, rfl, hk, hr1, hg1⟩
  have hks : k ≤ s.size := by omega
  clear hk hw1
  go_wp2_with fail
  refine (pick_any R (p + 1) 5 w1 hr1 (by omega)).mono ?_
  rintro e w2 ⟨c, rfl, hc, hr2, hg2⟩
  have hg12 := grown_r hg1 hg2
  have HG := Lib.hid hg12
  have HR2 := Lib.hid hr2
  have hc5 : c = 0 ∨ c = 1 ∨ c = 2 ∨ c = 3 ∨ c = 4 := by omega
  clear hg1 hg2 hg12 hr1 hc
  rcases hc5 with rfl | rfl | rfl | rfl | rfl
  · by_cases hlt : k < s.size
    · have hki : (k : Int) < (s.size : Int) := by omega
      have hki2 : (k : Int) ≤ (s.size : Int) := by omega
      have hki3 : (k : Int) + 1 ≤ (s.size : Int) := by omega
      have hk0 : (0 : Int) ≤ (k : Int) := by omega
      have hk1 : (0 : Int) ≤ (k : Int) + 1 := by omega
      have hkn : ((k : Int) + 1).toNat = k + 1 := by omega
      have hw2 : IntKind.i64.wrap ((k : Int) + 1) = (k : Int) + 1 := IntWalk.i64_in _ (by omega)
      go_wp2_with fail
      go_region_held3 (fun _ => True) (first | go_keep | trivial) (first | (go_at_call 23; refine (ofB_lit 1 R (p + 1 + 1) 6 _ _ w2 _ HR2.out (by first | exact .inl rfl | exact .inr rfl) (fun i hi => lit6 hi) (by omega) (by omega) (by omega)).mono ?_; rintro e w5 ⟨t, rfl, ht, hr5, hg5⟩; have k1 := True.intro; have t1 : ¬ 9223372036854775807 < k + t.size := (by omega); have t2 : ¬ 9223372036854775807 < k + t.size + (s.size - (k + 1)) := (by omega); have hg6 := Lib.hid (grown_r HG.out (grown_r (World.grownBy_alloc w2 _ _) (grown_d hg5))); have HT := Lib.hid ht; have HR5 := Lib.hid hr5; clear hg5 ht hr5))
      go_wp2_with fail
      go_ret
      exact ⟨_, p + 1 + 1 + 1, rfl, by rw [ByteArray.size_append, ByteArray.size_append, ByteArray.size_extract, ByteArray.size_extract]; have := HT.out; omega, HR5.out, by omega, hg6.out⟩
    · have hki : ¬ (k : Int) < (s.size : Int) := by omega
      go_wp2_with fail
      go_ret
      exact ⟨s, p + 1 + 1, rfl, by omega, HR2.out, by omega, HG.out⟩
  · by_cases hlt : k < s.size
    · have hki : (k : Int) < (s.size : Int) := by omega
      have hki2 : (k : Int) ≤ (s.size : Int) := by omega
      have hki3 : (k : Int) + 1 ≤ (s.size : Int) := by omega
      have hk0 : (0 : Int) ≤ (k : Int) := by omega
      have hk1 : (0 : Int) ≤ (k : Int) + 1 := by omega
      have hkn : ((k : Int) + 1).toNat = k + 1 := by omega
      have hw2 : IntKind.i64.wrap ((k : Int) + 1) = (k : Int) + 1 := IntWalk.i64_in _ (by omega)
      go_wp2_with fail
      go_region_held3 (fun _ => True) (first | go_keep | trivial) (first | (go_at_call 23; refine (ofB_lit 1 R (p + 1 + 1) 6 _ _ w2 _ HR2.out (by first | exact .inl rfl | exact .inr rfl) (fun i hi => lit6 hi) (by omega) (by omega) (by omega)).mono ?_; rintro e w5 ⟨t, rfl, ht, hr5, hg5⟩; have k1 := True.intro; have t1 : ¬ 9223372036854775807 < k + t.size := (by omega); have t2 : ¬ 9223372036854775807 < k + t.size + (s.size - (k + 1)) := (by omega); have hg6 := Lib.hid (grown_r HG.out (grown_r (World.grownBy_alloc w2 _ _) (grown_d hg5))); have HT := Lib.hid ht; have HR5 := Lib.hid hr5; clear hg5 ht hr5))
      go_wp2_with fail
      go_ret
      exact ⟨_, p + 1 + 1 + 1, rfl, by rw [ByteArray.size_append, ByteArray.size_append, ByteArray.size_extract, ByteArray.size_extract]; have := HT.out; omega, HR5.out, by omega, hg6.out⟩
    · have hki : ¬ (k : Int) < (s.size : Int) := by omega
      go_wp2_with fail
      go_ret
      exact ⟨s, p + 1 + 1, rfl, by omega, HR2.out, by omega, HG.out⟩
  · have hki2 : (k : Int) ≤ (s.size : Int) := by omega
    go_wp2_with fail
    go_ret
    exact ⟨_, p + 1 + 1, rfl, by rw [ByteArray.size_extract]; omega, HR2.out, by omega, HG.out⟩
  · go_wp2_with fail
    refine (ofB_lit 4 R (p + 1 + 1) 4 _ _ w2 _ HR2.out (by first | exact .inl rfl | exact .inr rfl) (fun i hi => lit4 hi) (by omega) (by omega) (by omega)).mono ?_
    rintro e w5 ⟨t, rfl, ht, hr5, hg5⟩
    have hg6 := Lib.hid (grown_r HG.out (grown_r (World.grownBy_alloc w2 _ _) hg5))
    have HT := Lib.hid ht
    have HR5 := Lib.hid hr5
    have t1 : ¬ 9223372036854775807 < s.size + t.size := by omega
    clear hg5 ht hr5
    go_wp2_with fail
    go_ret
    exact ⟨_, p + 1 + 1 + 1, rfl, by rw [ByteArray.size_append]; have := HT.out; omega, HR5.out, by omega, hg6.out⟩
  · go_wp2_with fail
    go_ret
    exact ⟨s, p + 1 + 1, rfl, by omega, HR2.out, by omega, HG.out⟩
end Go.Proofs.YtjcbpnffmebihaaGreatDoor
namespace Go.Proofs.YtjcbpnffmebihaaGreatDoor

instance (T : List Int) (A : List Nat) (places : Int) (t : Nat) : Decidable (okT T A places t) := by unfold okT; infer_instance
end Go.Proofs.YtjcbpnffmebihaaGreatDoor
namespace Go.Proofs.YtjcbpnffmebihaaGreatDoor
open Go.RowKit Go.WideShapes

theorem pair_hi {n : Int} (h : n ∈ [9, 4]) : 4 ≤ n ∧ n ≤ 9 := by simp at h; omega
theorem pair_x {n : Int} (h : n ∈ [10, -1]) : -1 ≤ n ∧ n ≤ 10 := by simp at h; omega
end Go.Proofs.YtjcbpnffmebihaaGreatDoor
namespace Go.Proofs.YtjcbpnffmebihaaGreatDoor
open Go.RowKit Go.WideShapes

def ChPost (w : World) (R p : Nat) (e : Ending) (w' : World) : Prop := ∃ (a : Option Addr) (len cap : Nat) (xs : List Int) (p' : Nat), e = .returned (.slice a len cap) ∧
  w'.ownsRow w.heap.size 3 1 (.slice a len cap) len (xs.map (.int .i64)) ∧ len ≤ cap ∧ len ≤ 8 ∧ Rd w' R p' ∧ p' ≤ p + 100 ∧ w.grownBy w' (some R)
theorem ChPost.mk {w w' : World} {R p p' : Nat} {a : Option Addr} {len cap : Nat} {xs : List Int} (h : w'.ownsRow w.heap.size 3 1 (.slice a len cap) len (xs.map (.int .i64))) (hl : len ≤ 8) (hr : Rd w' R p') (hp : p' ≤ p + 100) (hg : w.grownBy w' (some R)) :
    ChPost w R p (.returned (.slice a len cap)) w' := by
  obtain ⟨a', cap', e, hc⟩ := own_slice h
  simp only [Value.slice.injEq] at e
  obtain ⟨rfl, _, rfl⟩ := e
  exact ⟨_, _, _, xs, p', rfl, h, hc, hl, hr, hp, hg⟩
theorem ch_n {n : Int} (h : n ∈ [4, 5, 3, 7, 2, 1, 0, 8]) : ∃ m : Nat, n = (m : Int) ∧ m ≤ 8 := by simp at h; exact ⟨n.toNat, by omega, by omega⟩
theorem ch_hi {n : Int} (h : n ∈ [4, 9, 1]) : 1 ≤ n ∧ n ≤ 9 := by simp at h; omega
end Go.Proofs.YtjcbpnffmebihaaGreatDoor
namespace Go.Proofs.YtjcbpnffmebihaaGreatDoor
open Go.RowKit Go.WideShapes

instance (ys : List Int) (n : Nat) : Decidable (powIn ys n) := by unfold powIn; infer_instance
instance (T ys : List Int) : Decidable (tasksP T ys) := by unfold tasksP; infer_instance
end Go.Proofs.YtjcbpnffmebihaaGreatDoor
namespace Go.Proofs.YtjcbpnffmebihaaGreatDoor

instance (T : List Int) (c : Int) (s r : Nat) : Decidable (okC T c s r) := by unfold okC; infer_instance
end Go.Proofs.YtjcbpnffmebihaaGreatDoor
namespace Go.Proofs.YtjcbpnffmebihaaGreatDoor
open Go.RowKit Go.WideShapes

def PairsPostQ (w : World) (R p : Nat) (e : Ending) (w' : World) : Prop := ∃ (a : Option Addr) (len cap : Nat) (rows : List (List Int)) (p' : Nat), e = .returned (.slice a len cap) ∧
      RowsAt w' (fun b => w.heap.size ≤ b ∧ b < w'.heap.size) a len rows ∧ (∀ r ∈ rows, Okn r) ∧ len ≤ cap ∧ len ≤ 8 ∧ Rd w' R p' ∧ p' ≤ p + 1000 ∧ w.grownBy w' (some R)
theorem pairsPostQ_mk {w w' : World} {R p p' len cap M : Nat} {a : Option Addr} (h : OwnRowsQ w' w.heap.size M (.slice a len cap) len) (hl : len ≤ cap) (h6 : len ≤ 8) (hr : Rd w' R p') (hp : p' ≤ p + 1000)
    (hg : w.grownBy w' (some R)) : PairsPostQ w R p (.returned (.slice a len cap)) w' := by
  obtain ⟨a', cap', rows, hv, _, hrows, hok⟩ := h.rows (by omega)
  simp only [Value.slice.injEq] at hv
  obtain ⟨rfl, _, rfl⟩ := hv
  exact ⟨_, _, _, rows, p', rfl, hrows, hok, hl, h6, hr, hp, hg⟩
set_option maxRecDepth 100000 in
set_option maxHeartbeats 4000000 in
theorem somePairs_Q (R p most : Nat) (w : World) (h : Rd w R p) (hp : p ≤ 900000) (hm8 : most ≤ 8) :
    Calls Tryz.prog 15 #[.pointer (some ⟨R, 0, none⟩), .int .i64 most] w (PairsPostQ w R p) := by
  have hR := h.lt
  obtain ⟨i1, hj, hy0, hy1, hy2⟩ := info_parts Tryz.infoInts
  go_enter Tryz.func15, Tryz.ntmps15
  go_wp2_with fail
  refine (one_any (fun k => k = w.heap.size + 1) R p _ 7 7 [4, 3, 5, 2, 1, 0, (most : Int)] _ ((h.alloc _).alloc _) (IntsAt.lit rfl rfl (by simp) (by omega)) (by intro b hb; simp; omega) (by omega) (by omega)).mono ?_
  rintro e w1 ⟨n, hn, rfl, hr1, hg1⟩
  obtain ⟨m, rfl, hm⟩ : ∃ m : Nat, n = (m : Int) ∧ m ≤ 8 := by simp at hn; exact ⟨n.toNat, by omega, by omega⟩
  clear hn
  have hg2 : w.grownBy w1 (some R) := grown_r (World.grownBy_alloc w _ _) (grown_r (World.grownBy_alloc _ _ _) hg1)
  have ho1 : OwnRowsQ w1 w.heap.size w1.heap.size (.slice (some ⟨w.heap.size, 0, none⟩) 0 0) 0 :=
    OwnRowsQ.nil rfl (grown_r (World.grownBy_alloc _ _ _) hg1) hR
  go_wp2_with fail
  go_loopw [5] (fun v wr => ∃ (k p' cap : Nat) (a : Option Addr), v = .slice a k cap ∧ k ≤ cap ∧ OwnRowsQ wr w.heap.size wr.heap.size v k ∧ k ≤ m ∧ Rd wr R p' ∧ p' ≤ p + 1 + 30 * k ∧ w.grownBy wr (some R)) (fun v _ => m - capOf v)
  case atStart => exact ⟨0, p + 1, 0, _, rfl, Nat.le_refl _, ho1, Nat.zero_le _, hr1, Nat.le_refl _, hg2⟩
  case round =>
    clear ho1
    obtain ⟨k, p', cap, a, rfl, hkc, ho, hkm, hr, hpp, hg⟩ := hrel
    obtain ⟨wo, rfl⟩ : ∃ wo : World, wo = wr := ⟨_, rfl⟩
    by_cases hlt : k < m
    · go_wp2_with fail
      refine (one_any (fun b => b = wo.heap.size) R p' _ 2 2 [9, 4] _ (hr.alloc _) (IntsAt.lit rfl rfl rfl (by omega)) (by intro b hb; have := hr.lt; simp; omega) (by omega) (by omega)).mono ?_
      rintro e w3 ⟨hi, hhi, rfl, hr3, hg3⟩
      obtain ⟨hi1, hi2⟩ := pair_hi hhi
      clear hhi
      have ga3 : wo.grownBy w3 (some R) := grown_r (World.grownBy_alloc wo _ _) hg3
      go_wp2_with fail
      refine (listOf_any R (p' + 1) 2 0 hi w3 hr3 (by omega) (by omega) (by omega) (by omega) (by omega)).mono ?_
      rintro e w4 ⟨a5, c5, ts, rfl, ho5, hc5, hl5, htb, hr4, hg4⟩
      have ga4 : wo.grownBy w4 (some R) := grown_r ga3 hg4
      have hw0 : w.heap.size ≤ w3.heap.size := Nat.le_trans hg.size ga3.size
      have ho3 := (ho.low ga3 hR).up (M' := w3.heap.size) ga3.size
      obtain ⟨us, hout, hus⟩ := ho3.low hg4 hR
      have hgw4 := grown_r hg ga4
      go_wp2_with (at_builtin; refine wpList_append_own _ rfl _ _ 37 rfl w.heap.size 35 i1 (.slice none 0 0) 1 24 Tryz.underlying37 hj hy0 hy1 hy2 rfl (by decide) _ _ _ rfl (hout.alloc _) ⟨w4.heap.size, 0, none⟩ 1 1 [.slice a5 2 c5] rfl rfl ?c1 ?c2 ?c3 ?c4 ?c5 ?_)
      case c1 => exact one_new _ _ _
      case c2 => exact one_cell_slice _ _ _
      case c3 => unfold maxLen; omega
      case c4 => omega
      case c5 => have := hgw4.size; simp; omega
      intro v' w6 hown hgrow _
      obtain ⟨a6, c6, rfl, hjc6⟩ := own_slice hown
      have hgr : w4.grownBy w6 (Value.slice a k cap).ownBlock := grown_comp (World.grownBy_alloc w4 _ _) hgrow
      have HPUSH := Lib.hid (OwnRowsQ.push ho5 hw0 hout hus hown hgr (Okn.of (by omega) fun y hy => by have := htb y hy; omega))
      have HR6 := Lib.hid (hr4.grown hgr (by intro b hb; have := (hout.lt b hb).1; omega))
      have HG6 := Lib.hid (grown_trans hgw4 hgr (by intro b hb; have := (hout.lt b hb).1; omega))
      clear hown hgrow hgr hout hus ho5
      go_wp2
      go_roundw
      case rel => exact ⟨k + 1, p' + 1 + 2, c6, a6, rfl, hjc6, HPUSH.out, by omega, HR6.out, by omega, HG6.out⟩
      case measure => simp [capOf] <;> omega
    · by_cases hk1 : 0 < k
      · obtain ⟨g, rfl, hgB⟩ := ho.addr (by omega)
        go_wp2_with fail
        refine (pick_any R p' 30 wo hr (by omega)).mono ?_
        rintro e w2 ⟨q, rfl, _, hr2, hg3⟩
        have ho2 := ho.low hg3 hR
        have hg4 := grown_r hg hg3
        by_cases hq : q = 0
        · subst hq
          go_wp2_with fail
          refine (one_any (fun b => b = w2.heap.size) R (p' + 1) _ 2 2 [10, -1] _ (hr2.alloc _) (IntsAt.lit rfl rfl rfl (by omega)) (by intro b hb; have := hr2.lt; simp; omega) (by omega) (by omega)).mono ?_
          rintro e w5 ⟨x, hxm, rfl, hr5, hg5⟩
          have HXM := Lib.hid (pair_x hxm)
          clear hxm
          have hgw : w2.grownBy w5 (some R) := grown_r (World.grownBy_alloc w2 _ _) hg5
          have ho5 := ho2.low hgw hR
          have hg6 := grown_r hg4 hgw
          have hw5 : w.heap.size ≤ w5.heap.size := hg6.size
          have hlit := own_one w5 (B := w5.heap.size) (Nat.le_refl _) x
          have hsz : (w5.alloc (.cells #[.int .i64 x] 3)).heap.size = w5.heap.size + 1 := by simp
          obtain ⟨w6, hw6⟩ : ∃ w6, (w5.alloc (.cells #[.int .i64 x] 3)) = w6 := ⟨_, rfl⟩
          have ho6 := ho5.alloc (.cells #[.int .i64 x] 3)
          have hg7 := grown_alloc hg6 (.cells #[.int .i64 x] 3)
          have hr6 := hr5.alloc (.cells #[.int .i64 x] 3)
          rw [hw6] at hlit hsz ho6 hg7 hr6
          have HW6 := Lib.hid hw6
          have HSZ := Lib.hid hsz
          clear hw6 hsz ho5
          have HP := Lib.hid ho6
          have HL := Lib.hid hlit
          have HR6 := Lib.hid hr6
          have HG7 := Lib.hid hg7
          have HUP : wo.heap.size ≤ w5.heap.size := Nat.le_trans hg3.size hgw.size
          clear ho6 hlit hr6 hg7
          have HSZX : Value.slice (some ⟨w5.heap.size + 1, 0, none⟩) 1 1 = Value.slice (some ⟨w6.heap.size, 0, none⟩) 1 1 := by rw [HSZ.out]
          go_wp2_with (at_builtin; rw [HW6.out]; refine wpApp1 rfl _ _ rfl w5.heap.size 1 1 _ [x] 1 rfl HL.out rfl (by rw [HSZ.out]; omega) (by omega) ?_)
          intro a7 c7 w7 hown7 hc7 hgr7
          have ho7 := (HP.out.up (M' := w5.heap.size) HUP).ints HL.out hgr7
          have hr7 := HR6.out.grown hgr7 (by intro b hb; have := (HL.out.lt b hb).1; omega)
          have hg8 := grown_trans HG7.out hgr7 (by intro b hb; have := (HL.out.lt b hb).1; omega)
          obtain ⟨v1, hc1, hf1⟩ := ho7.cell (j := 0) hk1
          have hown8 : w7.ownsRow w.heap.size 3 1 (.slice a7 2 c7) 2 ([x, 1].map (.int .i64)) := own_base hown7 hw5
          obtain ⟨ho9, hg9⟩ := ho7.store (j := 0) hown8 (Okn.of (by simp) fun y hy => by have := HXM.out; simp at hy; omega)
          have H9 := Lib.hid ho9
          have G9 := Lib.hid hg9
          have G8 := Lib.hid hg8
          have R7 := Lib.hid hr7
          clear ho9 hg9 hg8 hr7 hown8 hown7 hgr7 ho7
          go_wp2
          go_ret
          exact pairsPostQ_mk H9.out hkc (by omega) (R7.out.grown G9.out (by intro b hb; injection hb; omega)) (by omega) (grown_trans G8.out G9.out (by intro b hb; injection hb; omega))
        · have hqe : ((q : Int) == 0) = false := by simp; omega
          go_wp2
          go_ret
          exact pairsPostQ_mk ho2 hkc (by omega) hr2 (by omega) hg4
      · have hk1' : ¬ (0 : Int) < (k : Int) := by omega
        go_wp2
        go_ret
        exact pairsPostQ_mk ho hkc (by omega) hr (by omega) hg
end Go.Proofs.YtjcbpnffmebihaaGreatDoor
namespace Go.Proofs.YtjcbpnffmebihaaGreatDoor
open Go.RowKit Go.WideShapes

theorem own_lit3 (w : World) {B : Nat} (hB : B ≤ w.heap.size) (x y z : Int) : (w.alloc (.cells #[.int .i64 x, .int .i64 y, .int .i64 z] 3)).ownsRow B 3 1 (.slice (some ⟨w.heap.size, 0, none⟩) 3 3) 3 ([x, y, z].map (.int .i64)) :=
  ⟨rfl, .inr ⟨w.heap.size, 3, _, rfl, hB, heap_alloc_new w _, Nat.le_refl _, by unfold maxLen; omega, rfl, rfl⟩⟩
theorem job_t {n : Int} (h : n ∈ [5, 9]) : 5 ≤ n ∧ n ≤ 9 := by simp at h; omega
theorem job_d {n : Int} (h : n ∈ [12, 25, 6]) : 6 ≤ n ∧ n ≤ 25 := by simp at h; omega
end Go.Proofs.YtjcbpnffmebihaaGreatDoor
namespace Go.Proofs.YtjcbpnffmebihaaGreatDoor
open Go.RowKit Go.WideShapes

def ChPostQ (w : World) (R p : Nat) (e : Ending) (w' : World) : Prop := ∃ (a : Option Addr) (len cap : Nat) (xs : List Int) (p' : Nat), e = .returned (.slice a len cap) ∧
  w'.ownsRow w.heap.size 3 1 (.slice a len cap) len (xs.map (.int .i64)) ∧ len ≤ cap ∧ Okn xs ∧ len ≤ 8 ∧ Rd w' R p' ∧ p' ≤ p + 100 ∧ w.grownBy w' (some R)
theorem ChPostQ.mk {w w' : World} {R p p' : Nat} {a : Option Addr} {len cap : Nat} {xs : List Int} (h : w'.ownsRow w.heap.size 3 1 (.slice a len cap) len (xs.map (.int .i64))) (hok : Okn xs) (hl : len ≤ 8) (hr : Rd w' R p') (hp : p' ≤ p + 100) (hg : w.grownBy w' (some R)) :
    ChPostQ w R p (.returned (.slice a len cap)) w' := by
  obtain ⟨a', cap', e, hc⟩ := own_slice h
  simp only [Value.slice.injEq] at e
  obtain ⟨rfl, _, rfl⟩ := e
  exact ⟨_, _, _, xs, p', rfl, h, hc, hok, hl, hr, hp, hg⟩
set_option maxRecDepth 100000 in
set_option maxHeartbeats 4000000 in
theorem someChances_Q (R p : Nat) (w : World) (h : Rd w R p) (hp : p ≤ 900000) :
    Calls Tryz.prog 22 #[.pointer (some ⟨R, 0, none⟩)] w (ChPostQ w R p) := by
  have hR := h.lt
  go_enter Tryz.func22, Tryz.ntmps22
  go_wp2_with fail
  refine (one_any (fun k => k = w.heap.size) R p _ 8 8 [4, 5, 3, 7, 2, 1, 0, 8] _ (h.alloc _) (IntsAt.lit rfl rfl rfl (by omega)) (by intro b hb; simp; omega) (by omega) (by omega)).mono ?_
  rintro e w1 ⟨n, hn, rfl, hr1, hg1⟩
  obtain ⟨n, rfl, hn8⟩ := ch_n hn
  clear hn
  have gw1 : w.grownBy w1 (some R) := grown_r (World.grownBy_alloc _ _ _) hg1
  go_wp2_with fail
  refine (one_any (fun k => k = w1.heap.size) R (p + 1) _ 3 3 [4, 9, 1] _ (hr1.alloc _) (IntsAt.lit rfl rfl rfl (by omega)) (by intro b hb; have := hr1.lt; simp; omega) (by omega) (by omega)).mono ?_
  rintro e w2 ⟨hi, hhi, rfl, hr2, hg2⟩
  obtain ⟨hi1, hi9⟩ := ch_hi hhi
  clear hhi
  have gw2 := grown_r gw1 (grown_r (World.grownBy_alloc _ _ _) hg2)
  go_wp2_with fail
  refine (listOf_any R (p + 1 + 1) n 0 hi w2 hr2 (by omega) (by omega) (by omega) (by omega) (by omega)).mono ?_
  rintro e w3 ⟨a5, c5, xs, rfl, ho5, hc5, hl5, hall, hr3, hg3⟩
  have gw3 := grown_r gw2 hg3
  have ho := own_base ho5 gw2.size
  have HO := Lib.hid ho
  have HL := Lib.hid (fun w' (hx : IntsAt w' (· < w'.heap.size) a5 n xs) => specSum_any (· < w'.heap.size) a5 n c5 xs w' hx (fun y hy => by have := hall y hy; omega) (by omega))
  have HLOW := Lib.hid (own_low ho5 (by omega))
  have HOK := Lib.hid (Okn.of (xs := xs) (by omega) fun y hy => by have := hall y hy; omega)
  have HR3 := Lib.hid hr3
  have HG3 := Lib.hid gw3
  clear ho5 ho hall hr1 hr2 hr3 hg1 hg2 hg3 gw1 gw2 gw3 h
  obtain ⟨T, hT⟩ : ∃ T, totalM xs = T := ⟨_, rfl⟩
  rw [hT] at HL
  clear hT
  by_cases h0 : 0 < n
  · go_wp2_with fail
    refine (HL.out w3 HLOW.out).mono ?_
    rintro e w4 ⟨rfl, rfl⟩
    by_cases hT0 : T = 0
    · subst hT0
      go_wp2_with fail
      refine (pick_any R (p + 1 + 1 + n) (n : Int) w3 HR3.out (by omega)).mono ?_
      rintro e w5 ⟨q, rfl, hq, hr5, hg5⟩
      have HO5 := Lib.hid (HO.out.kept hg5 (ne_low HO.out hR))
      have gw5 := grown_r HG3.out hg5
      have hqn : q < n := by omega
      obtain ⟨g, v0, rfl, hgB, hc0, hf0⟩ := own_place HO5.out (j := q) hqn
      obtain ⟨h7, g7⟩ := HO5.out.stored q (.int .i64 1)
      have hr7 := hr5.grown g7 (by intro b hb; injection hb; omega)
      have hg7 := grown_trans gw5 g7 (by intro b hb; injection hb; omega)
      have ho7 : World.ownsRow (w5.setCell ⟨g, q, none⟩ (.int .i64 1)) w.heap.size 3 1 (.slice (some ⟨g, 0, none⟩) n c5) n ((xs.set q 1).map (.int .i64)) := by rw [List.map_set]; simpa using h7
      have hr7' : Rd (w5.setCell ⟨g, q, none⟩ (.int .i64 1)) R (p + 1 + 1 + n + 1) := by simpa using hr7
      have hg7' : w.grownBy (w5.setCell ⟨g, q, none⟩ (.int .i64 1)) (some R) := by simpa using hg7
      obtain ⟨w6, hw6⟩ : ∃ w6, w5.setCell ⟨g, q, none⟩ (.int .i64 1) = w6 := ⟨_, rfl⟩
      rw [hw6] at ho7 hr7' hg7'
      have HO7 := Lib.hid ho7
      have HR7 := Lib.hid hr7'
      have HG7 := Lib.hid hg7'
      have HW6 := Lib.hid hw6
      clear h7 g7 hg5 gw5 hr5 hr7 hg7 hr7' hg7' ho7 hw6 HO HO5
      go_wp2_with fail
      rw [HW6.out]
      go_wp2_with fail
      refine (pick_any R (p + 1 + 1 + n + 1) 30 w6 HR7.out (by omega)).mono ?_
      rintro e w8 ⟨q8, rfl, hq8, hr8, hg8⟩
      have HO8 := Lib.hid (HO7.out.kept hg8 (ne_low HO7.out hR))
      have hg9 := grown_r HG7.out hg8
      by_cases hq80 : q8 = 0
      · subst hq80
        go_wp2_with fail
        refine (one_any (fun b => b = w8.heap.size) R (p + 1 + 1 + n + 1 + 1) _ 2 2 [-1, 10] _ (hr8.alloc _) (IntsAt.lit rfl rfl rfl (by omega)) (by intro b hb; have := hr8.lt; simp; omega) (by omega) (by omega)).mono ?_
        rintro e w9 ⟨x, hxm, rfl, hr9, hg9b⟩
        have HXM := Lib.hid (show -1 ≤ x ∧ x ≤ 10 by simp at hxm; omega)
        clear hxm
        have hgw : w8.grownBy w9 (some R) := grown_r (World.grownBy_alloc _ _ _) hg9b
        have HO9 := Lib.hid (HO8.out.kept hgw (ne_low HO8.out hR))
        have hg10 := grown_r hg9 hgw
        obtain ⟨g2, v0, e0, hgB, hc0, hf0⟩ := own_place HO9.out (j := 0) h0
        first | (obtain rfl := e0) | (simp only [Option.some.injEq, Addr.mk.injEq, and_true] at e0; subst e0)
        go_wp2
        go_ret
        obtain ⟨h7, g7⟩ := HO9.out.stored 0 (.int .i64 x)
        exact ChPostQ.mk (xs := (xs.set q 1).set 0 x) (by rw [List.map_set]; exact h7) ((HOK.out.set (by omega) (by omega)).set (by have := HXM.out; omega) (by have := HXM.out; omega)) (by omega) (hr9.grown g7 (by intro b hb; injection hb; omega)) (by omega) (grown_trans hg10 g7 (by intro b hb; injection hb; omega))
      · go_wp2_with fail
        go_ret
        exact ChPostQ.mk HO8.out (HOK.out.set (by omega) (by omega)) (by omega) hr8 (by omega) hg9
    · go_wp2_with fail
      go_wp2_with fail
      refine (pick_any R (p + 1 + 1 + n) 30 w3 HR3.out (by omega)).mono ?_
      rintro e w8 ⟨q8, rfl, hq8, hr8, hg8⟩
      have HO8 := Lib.hid (HO.out.kept hg8 (ne_low HO.out hR))
      have hg9 := grown_r HG3.out hg8
      by_cases hq80 : q8 = 0
      · subst hq80
        go_wp2_with fail
        refine (one_any (fun b => b = w8.heap.size) R (p + 1 + 1 + n + 1) _ 2 2 [-1, 10] _ (hr8.alloc _) (IntsAt.lit rfl rfl rfl (by omega)) (by intro b hb; have := hr8.lt; simp; omega) (by omega) (by omega)).mono ?_
        rintro e w9 ⟨x, hxm, rfl, hr9, hg9b⟩
        have HXM := Lib.hid (show -1 ≤ x ∧ x ≤ 10 by simp at hxm; omega)
        clear hxm
        have hgw : w8.grownBy w9 (some R) := grown_r (World.grownBy_alloc _ _ _) hg9b
        have HO9 := Lib.hid (HO8.out.kept hgw (ne_low HO8.out hR))
        have hg10 := grown_r hg9 hgw
        obtain ⟨g2, v0, e0, hgB, hc0, hf0⟩ := own_place HO9.out (j := 0) h0
        first | (obtain rfl := e0) | (simp only [Option.some.injEq, Addr.mk.injEq, and_true] at e0; subst e0)
        go_wp2
        go_ret
        obtain ⟨h7, g7⟩ := HO9.out.stored 0 (.int .i64 x)
        exact ChPostQ.mk (xs := xs.set 0 x) (by rw [List.map_set]; exact h7) (HOK.out.set (by have := HXM.out; omega) (by have := HXM.out; omega)) (by omega) (hr9.grown g7 (by intro b hb; injection hb; omega)) (by omega) (grown_trans hg10 g7 (by intro b hb; injection hb; omega))
      · go_wp2_with fail
        go_ret
        exact ChPostQ.mk HO8.out HOK.out (by omega) hr8 (by omega) hg9
  · have hn0 : n = 0 := by omega
    subst hn0
    go_wp2_with fail
    go_ret
    exact ChPostQ.mk HO.out HOK.out (by omega) HR3.out (by omega) HG3.out
end Go.Proofs.YtjcbpnffmebihaaGreatDoor
namespace Go.Proofs.YtjcbpnffmebihaaGreatDoor
open Go.RowKit Go.WideShapes

-- pairs
instance (o : List Int) (n : Nat) : Decidable (orderP o n) := by unfold orderP; infer_instance
end Go.Proofs.YtjcbpnffmebihaaGreatDoor
namespace Go.Proofs.YtjcbpnffmebihaaGreatDoor
open Go.RowKit Go.WideShapes

instance (T ys : List Int) (c : Int) : Decidable (lineP T ys c) := by unfold lineP; infer_instance
end Go.Proofs.YtjcbpnffmebihaaGreatDoor
