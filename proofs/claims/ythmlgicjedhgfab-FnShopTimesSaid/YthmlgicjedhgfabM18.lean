import Derived.Test.YthmlgicjedhgfabRows
import Derived.WalkKit
import Derived.LoopTactic
import Derived.Outline
import Derived.WalkSpells
import Derived.WalkLawsBesides
import Derived.ProofKit
import Derived.Test.YthmlgicjedhgfabM0
import Derived.Test.YthmlgicjedhgfabM1
import Derived.Test.YthmlgicjedhgfabM2
import Derived.Test.YthmlgicjedhgfabM17
import Derived.Test.YthmlgicjedhgfabM9
import Derived.Test.YthmlgicjedhgfabM8
import Derived.Test.YthmlgicjedhgfabM12
import Derived.Test.YthmlgicjedhgfabM10
import Derived.Test.YthmlgicjedhgfabM3
import Derived.Test.YthmlgicjedhgfabM6
import Derived.Deep.RegionLaw
import Derived.Deep.AppendLies
namespace Go.Proofs.Ythmlgicjedhgfab
open Go.RowKit Go.WideShapes

-- lists of lists of lists that may be marked
structure ShopFreeTS (w : World) (T S : Nat → Prop) (a : Option Addr) (len : Nat) : Prop where
  small : len ≤ 1048576
  cells : 0 < len → ∃ b off, a = some ⟨b, off, none⟩ ∧ T b ∧ ∀ i, i < len → ∃ a' l c, w.cell? ⟨b, off + i, none⟩ = some (.slice a' l c) ∧ RowsFree w T S a' l
theorem RowsFree.to {w w' : World} {T S T' S' : Nat → Prop} {a : Option Addr} {len : Nat} (h : RowsFree w T S a len) (hT : ∀ b, T b → T' b ∧ w'.heap[b]? = w.heap[b]?) (hS : ∀ b, S b → S' b ∧ w'.heap[b]? = w.heap[b]?) : RowsFree w' T' S' a len := by
  refine ⟨h.small, fun h0 => ?_⟩
  obtain ⟨b, off, ha, ht, hc⟩ := h.cells h0
  refine ⟨b, off, ha, (hT b ht).1, fun i hi => ?_⟩
  obtain ⟨a', l, c, h1, h2, h3⟩ := hc i hi
  exact ⟨a', l, c, by rw [World.cell?_of_block (w := w) (hT b ht).2]; exact h1, h2, h3.to hS⟩
theorem ShopFreeTS.to {w w' : World} {T S T' S' : Nat → Prop} {a : Option Addr} {len : Nat} (h : ShopFreeTS w T S a len) (hT : ∀ b, T b → T' b ∧ w'.heap[b]? = w.heap[b]?) (hS : ∀ b, S b → S' b ∧ w'.heap[b]? = w.heap[b]?) : ShopFreeTS w' T' S' a len := by
  refine ⟨h.small, fun h0 => ?_⟩
  obtain ⟨b, off, ha, ht, hc⟩ := h.cells h0
  refine ⟨b, off, ha, (hT b ht).1, fun i hi => ?_⟩
  obtain ⟨a', l, c, h1, h3⟩ := hc i hi
  exact ⟨a', l, c, by rw [World.cell?_of_block (w := w) (hT b ht).2]; exact h1, h3.to hT hS⟩
theorem ShopFreeTS.kept {w w' : World} {T S : Nat → Prop} {a : Option Addr} {len : Nat} (h : ShopFreeTS w T S a len) (g : KeptBut S w w') (hd : ∀ k, T k → ¬ S k) : ShopFreeTS w' T S a len := by
  refine ⟨h.small, fun h0 => ?_⟩
  obtain ⟨b, off, ha, ht, hc⟩ := h.cells h0
  refine ⟨b, off, ha, ht, fun i hi => ?_⟩
  obtain ⟨a', l, c, h1, h3⟩ := hc i hi
  exact ⟨a', l, c, by rw [World.cell?_of_block (w := w) (g.block b (hd b ht))]; exact h1, h3.kept g hd⟩
set_option maxHeartbeats 400000 in
theorem markShop_TS (T S : Nat → Prop) (a : Option Addr) (len cap : Nat) (k : Int) (w : World) (h : ShopFreeTS w T S a len) (hd : ∀ k, T k → ¬ S k) (h0 : 0 ≤ k) (h1 : k ≤ 1099511627776) :
    Calls Try.prog 18 #[.slice a len cap, .int .i64 k] w fun e w' => ∃ q : Int, e = .returned (.int .i64 q) ∧ k ≤ q ∧ q ≤ k + 1152921504606846976 ∧ KeptBut S w w' := by
  have hs := h.small
  go_enter Try.func18, Try.ntmps18
  go_wp2
  go_loopw [1, 5] (fun q i wr => ∃ (m : Nat) (n : Int), m ≤ len ∧ i = .int .i64 m ∧ q = .int .i64 n ∧ k ≤ n ∧ n ≤ k + 1099511627776 * (m : Int) ∧ KeptBut S w wr ∧ ShopFreeTS wr T S a len) (fun _ i _ => len - (intOf i).toNat)
  case atStart => exact ⟨0, k, Nat.zero_le _, rfl, rfl, Int.le_refl _, by omega, KeptBut.refl _ _, h⟩
  case round =>
    obtain ⟨m, n, hm, rfl, rfl, hn0, hn1, hk, hf⟩ := hrel
    have HK := Lib.hid hk
    clear hk
    by_cases hlt : m < len
    · obtain ⟨b, off, ha, ht, hc⟩ := hf.cells (by omega)
      obtain ⟨a', l, c, h2, h4⟩ := hc m hlt
      subst ha
      have hl4 := h4.small
      have HF := Lib.hid hf
      clear hf hc
      go_wp2_with fail
      refine (markIntSS_any T S a' l c n wr h4 hd (by omega) (by omega)).mono ?_
      rintro e w3 ⟨n2, rfl, hn2, hn3, hk3⟩
      have hn4 : n2 ≤ k + 1099511627776 * ((m : Int) + 1) := by omega
      clear hn3
      go_wp2
      go_roundw
      case rel => exact ⟨m + 1, n2, by omega, by go_num, rfl, by omega, by omega, HK.out.trans hk3, HF.out.kept hk3 hd⟩
      case measure => simp [intOf]; omega
    · obtain rfl : m = len := by omega
      go_wp2
      go_ret
      exact ⟨n, rfl, hn0, by omega, HK.out⟩
/-- a shop that may be marked, in the blocks lo ≤ b < hi -/
def ShopFree (w : World) (lo hi : Nat) (a : Option Addr) (len : Nat) : Prop := ∃ T S : Nat → Prop, (∀ k, T k → ¬ S k) ∧ (∀ k, T k → lo ≤ k ∧ k < hi) ∧ (∀ k, S k → lo ≤ k ∧ k < hi) ∧ ShopFreeTS w T S a len
theorem SameOn.sfree {lo hi : Nat} {a b : World} {p : Option Addr} {len : Nat} (h : SameOn lo hi a b) (x : ShopFree a lo hi p len) : ShopFree b lo hi p len := by
  obtain ⟨T, S, h1, h2, h3, h4⟩ := x
  exact ⟨T, S, h1, h2, h3, h4.to (fun k hk => ⟨hk, h k (h2 k hk).1 (h2 k hk).2⟩) (fun k hk => ⟨hk, h k (h3 k hk).1 (h3 k hk).2⟩)⟩
theorem markShop_any (lo hi : Nat) (a : Option Addr) (len cap : Nat) (k : Int) (w : World) (h : ShopFree w lo hi a len) (h0 : 0 ≤ k) (h1 : k ≤ 1099511627776) :
    Calls Try.prog 18 #[.slice a len cap, .int .i64 k] w fun e w' => ∃ q : Int, e = .returned (.int .i64 q) ∧ k ≤ q ∧ q ≤ k + 1152921504606846976 ∧ KeptBut (fun b => lo ≤ b ∧ b < hi) w w' := by
  obtain ⟨T, S, hd, _, h3, h4⟩ := h
  refine (markShop_TS T S a len cap k w h4 hd h0 h1).mono ?_
  rintro e w' ⟨q, rfl, a1, a2, a3⟩
  exact ⟨q, rfl, a1, a2, a3.wide h3⟩
/-- a copy of a shop so far, that may be marked: job j in the blocks from gs j to gs (j + 1) -/
structure Copy3F (w wr : World) (len k : Nat) (shop : List (List (List Int))) (gs : Nat → Nat) : Prop where
  zero : gs 0 = w.heap.size + 1
  up : ∀ j, j < k → gs j < gs (j + 1)
  last : gs k = wr.heap.size
  top : ∃ C : Array Value, wr.heap[w.heap.size]? = some (.cells C 27 (0, 0)) ∧ C.size = len ∧
    ∀ (j : Nat) (job : List (List Int)), j < k → shop[j]? = some job → C[j]? = some (.slice (some ⟨gs j, 0, none⟩) job.length job.length) ∧ RowsFree wr (fun b => b = gs j) (fun b => gs j < b ∧ b < gs (j + 1)) (some ⟨gs j, 0, none⟩) job.length
theorem gs_mono {gs : Nat → Nat} {k : Nat} (h : ∀ j, j < k → gs j < gs (j + 1)) : ∀ i j, i ≤ j → j ≤ k → gs i ≤ gs j := by
  intro i j hij
  induction j with
  | zero => intro _; obtain rfl : i = 0 := by omega
            exact Nat.le_refl _
  | succ j ih =>
    intro hj
    rcases Nat.lt_or_eq_of_le hij with h1 | rfl
    · exact Nat.le_trans (ih (by omega) (by omega)) (Nat.le_of_lt (h j (by omega)))
    · exact Nat.le_refl _
theorem copy3F_start (w : World) (len : Nat) (shop : List (List (List Int))) : Copy3F w (w.alloc (.cells (madeCells #[.slice none 0 0] len) 27)) len 0 shop (fun _ => w.heap.size + 1) :=
  ⟨rfl, fun j hj => absurd hj (by omega), by simp, ⟨_, heap_alloc_new w _, size_madeCells _ _, fun j r h => absurd h (by omega)⟩⟩
theorem Copy3F.step {w wr w3 : World} {len k : Nat} {shop : List (List (List Int))} {gs : Nat → Nat} {job : List (List Int)} (h : Copy3F w wr len k shop gs) (hk : k < len) (hjob : shop[k]? = some job) (hb : Below wr.heap.size wr w3) (hlt : wr.heap.size < w3.heap.size)
    (hf : RowsFree w3 (fun b => b = wr.heap.size) (fun b => wr.heap.size < b ∧ b < w3.heap.size) (some ⟨wr.heap.size, 0, none⟩) job.length) :
    Copy3F w (w3.setCell ⟨w.heap.size, k, none⟩ (.slice (some ⟨wr.heap.size, 0, none⟩) job.length job.length)) len (k + 1) shop (fun j => if j ≤ k then gs j else w3.heap.size) := by
  obtain ⟨C, h1, h2, h3⟩ := h.top
  have hg0 : w.heap.size < gs k := by have := gs_mono h.up 0 k (Nat.zero_le _) (Nat.le_refl _); have := h.zero; omega
  have hl := h.last
  have hot : ∀ b, b ≠ w.heap.size → (w3.setCell ⟨w.heap.size, k, none⟩ (.slice (some ⟨wr.heap.size, 0, none⟩) job.length job.length)).heap[b]? = w3.heap[b]? := fun b hb => Below.heap_setCell _ _ _ _ hb
  have h1' : w3.heap[w.heap.size]? = some (.cells C 27 (0, 0)) := (hb.block _ (by omega)).trans h1
  refine ⟨by simp only [Nat.zero_le, if_true]; exact h.zero, fun j hj => ?_, by simp only [show ¬ k + 1 ≤ k by omega, if_false]; simp [World.setCell], ⟨C.setIfInBounds k (.slice (some ⟨wr.heap.size, 0, none⟩) job.length job.length), heap_setCell_same w3 w.heap.size k C _ _ h1', by simpa using h2, fun j job' hj hjob' => ?_⟩⟩
  · rw [if_pos (by omega)]
    by_cases e : j + 1 ≤ k
    · rw [if_pos e]; exact h.up j (by omega)
    · obtain rfl : j = k := by omega
      rw [if_neg e, hl]; exact hlt
  · rw [Array.getElem?_setIfInBounds]
    by_cases e : k = j
    · subst e
      rw [if_pos rfl, if_pos (by omega)]
      have e' := hjob.symm.trans hjob'
      simp only [Option.some.injEq] at e'
      subst e'
      simp only [Nat.le_refl, if_true, show ¬ k + 1 ≤ k by omega, if_false]
      rw [hl]
      exact ⟨rfl, hf.to (fun b hb' => ⟨hb', hot b (by omega)⟩) (fun b hb' => ⟨hb', hot b (by omega)⟩)⟩
    · rw [if_neg e]
      have hj' : j < k := by omega
      obtain ⟨e1, e2⟩ := h3 j job' hj' hjob'
      simp only [show j ≤ k by omega, if_true, show j + 1 ≤ k by omega]
      have m1 := gs_mono h.up 0 j (Nat.zero_le _) (by omega)
      have m2 := gs_mono h.up (j + 1) k (by omega) (Nat.le_refl _)
      have m3 := h.up j hj'
      have hz := h.zero
      exact ⟨e1, e2.to (fun b hb' => ⟨hb', (hot b (by omega)).trans (hb.block b (by omega))⟩) (fun b hb' => ⟨hb', (hot b (by omega)).trans (hb.block b (by omega))⟩)⟩
theorem Copy3F.free {w wr : World} {len : Nat} {shop : List (List (List Int))} {gs : Nat → Nat} (h : Copy3F w wr len len shop gs) (hl : shop.length = len) (hs : len ≤ 1048576) : ShopFree wr w.heap.size wr.heap.size (some ⟨w.heap.size, 0, none⟩) len := by
  obtain ⟨C, h1, h2, h3⟩ := h.top
  have hz := h.zero
  have hla := h.last
  have m0 := gs_mono h.up 0 len (Nat.zero_le _) (Nat.le_refl _)
  refine ⟨fun b => b = w.heap.size ∨ ∃ j, j < len ∧ b = gs j, fun b => ∃ j, j < len ∧ gs j < b ∧ b < gs (j + 1), ?_, ?_, ?_, hs, fun h0 => ⟨_, 0, rfl, .inl rfl, fun i hi => ?_⟩⟩
  · rintro k (rfl | ⟨j, hj, rfl⟩) ⟨i, hi, h4, h5⟩
    · have := gs_mono h.up 0 i (Nat.zero_le _) (by omega); omega
    · rcases Nat.lt_or_ge i j with h6 | h6
      · have := gs_mono h.up (i + 1) j (by omega) (by omega); omega
      · have := gs_mono h.up j i h6 (by omega); omega
  · rintro k (rfl | ⟨j, hj, rfl⟩)
    · omega
    · have := gs_mono h.up 0 j (Nat.zero_le _) (by omega)
      have := gs_mono h.up (j + 1) len (by omega) (Nat.le_refl _)
      have := h.up j hj
      omega
  · rintro k ⟨j, hj, h4, h5⟩
    have := gs_mono h.up 0 j (Nat.zero_le _) (by omega)
    have := gs_mono h.up (j + 1) len (by omega) (Nat.le_refl _)
    omega
  · have hri : shop[i]? = some shop[i] := List.getElem?_eq_getElem (by omega)
    obtain ⟨e1, e2⟩ := h3 i _ hi hri
    refine ⟨_, _, (shop[i]).length, ?_, e2.to (fun b hb => ⟨.inr ⟨i, hi, hb⟩, rfl⟩) (fun b hb => ⟨⟨i, hi, hb.1, hb.2⟩, rfl⟩)⟩
    rw [Nat.zero_add]; simp only [World.cell?, h1]; exact e1
def CopyS3F (w : World) (len : Nat) (shop : List (List (List Int))) (e : Ending) (w' : World) : Prop := e = .returned (.slice (some ⟨w.heap.size, 0, none⟩) len len) ∧
  ShopAt w' (fun b => w.heap.size ≤ b ∧ b < w'.heap.size) (some ⟨w.heap.size, 0, none⟩) len shop ∧ ShopFree w' w.heap.size w'.heap.size (some ⟨w.heap.size, 0, none⟩) len ∧ w.heap.size < w'.heap.size ∧ Below w.heap.size w w'
set_option maxHeartbeats 400000 in
theorem toShopF_new (a : Option Addr) (len cap : Nat) (shop : List (List (List Int))) (w : World) (h : ShopAt w (· < w.heap.size) a len shop) (hl : len ≤ 1048576) (hr : sizesB shop) :
    Calls Try.prog 13 #[.slice a len cap] w (CopyS3F w len shop) := by
  have HL := Lib.hid h.lenEq
  have hmk := fun w => run_make_row' (P := Try.prog) 23 27 (.slice none 0 0) 24 Try.underlying23 Try.infoInts3 rfl .i64 .i64 len (by omega) (by omega) w
  go_enter Try.func13, Try.ntmps13
  go_wp2
  clear hmk
  go_loopw [4] (fun i wr => ∃ (k : Nat) (gs : Nat → Nat), k ≤ len ∧ i = .int .i64 k ∧ Copy3 w wr len k shop ∧ Copy3F w wr len k shop gs) (fun i _ => len - (intOf i).toNat)
  case atStart => exact ⟨0, _, Nat.zero_le _, rfl, copy3_start w len shop, copy3F_start w len shop⟩
  case round =>
    obtain ⟨k, gs, hk, rfl, hco, hcf⟩ := hrel
    have HCF := Lib.hid hcf
    clear hcf
    by_cases hlt : k < len
    · have hw := h.below hco.below
      obtain ⟨b, off, job, a', l, c, rfl, hx, hc, _, hri⟩ := hw.get hlt
      have hjl := hr job (List.mem_of_getElem? hx)
      have hl' : l ≤ 1048576 := by rw [← hri.lenEq]; exact hjl.1
      have hws := hco.lt
      have HX := Lib.hid hx
      have HRL := Lib.hid hri.lenEq
      clear hx
      have HTO := Lib.hid (toRows_new a' l c job wr (hri.to fun b hb => ⟨by omega, rfl⟩) hl' hjl.2)
      have HCO := Lib.hid hco
      obtain ⟨c0, hc1, hf1⟩ := hco.cell hlt
      clear hco
      go_wp2_with fail
      refine HTO.out.mono ?_
      rintro e w3 ⟨rfl, h3, hlt3, hb3, hff⟩
      have hco3 := HCO.out.later hb3
      obtain ⟨c1, hc2, hf2⟩ := hco3.cell hlt
      have HST := Lib.hid (hco3.step hlt HX.out ⟨hws, hlt3⟩ (by rw [HRL.out]; exact h3.to fun b hb => ⟨⟨by omega, hb.2⟩, rfl⟩))
      have HSF := Lib.hid (HCF.out.step hlt HX.out hb3 hlt3 (by rw [HRL.out]; exact hff))
      rw [HRL.out] at HST HSF
      clear hco3 h3 hb3 hc1 hf1 hff
      go_wp2
      go_roundw
      case rel => exact ⟨k + 1, _, by omega, by go_num, HST.out, HSF.out⟩
      case measure => simp [intOf]; omega
    · obtain rfl : k = len := by omega
      have HCO := Lib.hid hco
      clear hco
      go_wp2
      go_ret
      have hll := HL.out
      have hsf := HCF.out.free hll hl
      obtain ⟨C, h1, h2, h3⟩ := HCO.out.top
      refine ⟨rfl, ⟨hll, by omega, fun h0 => ⟨w.heap.size, 0, rfl, ⟨Nat.le_refl _, HCO.out.lt⟩, fun i job hi => ?_⟩⟩, hsf, HCO.out.lt, HCO.out.below⟩
      have hil : i < k := by
        have := (List.getElem?_eq_some_iff.1 hi).1
        omega
      obtain ⟨g, e1, e2, e3, e4⟩ := h3 i job hil hi
      refine ⟨some ⟨g, 0, none⟩, job.length, job.length, ?_, Nat.le_refl _, e4.to fun b hb => ⟨⟨by omega, hb.2⟩, rfl⟩⟩
      rw [Nat.zero_add]
      simp only [World.cell?, h1]
      exact e1
end Go.Proofs.Ythmlgicjedhgfab
namespace Go.Proofs.Ythmlgicjedhgfab
open Go.RowKit
theorem validShop_implB (a : Option Addr) (len cap : Nat) (shop : List (List (List Int))) (w : World) (h : ShopAt w (· < w.heap.size) a len shop) (hc : len ≤ cap) :
    Calls Try.prog 26 #[.slice a len cap] w (ValPost w (.bool (shopM shop))) :=
  (validShop_impl _ a len cap shop w h hc).mono fun _ _ h => ⟨h.1, h.2.below _⟩
theorem mostTurns_implR (a : Option Addr) (len cap : Nat) (shop : List (List (List Int))) (w : World) (h : ShopAt w (· < w.heap.size) a len shop) (hc : len ≤ cap) :
    Calls Try.prog 23 #[.slice a len cap] w (ResPost w (mostRes shop)) := (mostTurns_impl a len cap shop w h hc).mono fun _ _ h => h.res
theorem most_TurnsOf (shop : List (List (List Int))) : TurnsOf shop.length (slen shop) (mostM shop) := ⟨(most_turns shop).1, (most_turns shop).2⟩
theorem mostRes_len (shop : List (List (List Int))) : (mostRes shop).length ≤ 1048576 := by
  unfold mostRes
  cases hv : shopM shop
  · simp
  · rw [if_pos rfl, List.length_map]
    have h := most_TurnsOf shop
    have := turnsOf_len hv h.1 (turnsOf_cnt h)
    omega
end Go.Proofs.Ythmlgicjedhgfab
namespace Go.Proofs.Ythmlgicjedhgfab
open Go.RowKit Go.WideShapes

theorem Try.infoIntD : (Try.prog.info? 3).map (fun i => (i.zero, i.size, i.bytes)) = some (some (.int .i64 0), 1, 8) := by kernel_rfl

/-- the days that are drawn -/
def DaysOk (xs : List Int) : Prop := xs.length ≤ 9 ∧ (∀ k, -1 ≤ xs.getD k 0) ∧ (∀ k, xs.getD k 0 ≤ if k = 0 then 21 else 12)
theorem daysOk_of {xs : List Int} (hl : xs.length ≤ 9) (h : ∀ x ∈ xs, 0 ≤ x ∧ x ≤ 12) : DaysOk xs := by
  have key : ∀ k, 0 ≤ xs.getD k 0 ∧ xs.getD k 0 ≤ 12 := by
    intro k
    rcases Nat.lt_or_ge k xs.length with h' | h'
    · exact h _ (List.mem_of_getElem? (get_getD h'))
    · rw [getD_past h']; omega
  exact ⟨hl, fun k => by have := key k; omega, fun k => by have := key k; split <;> omega⟩
theorem daysOk_set {xs : List Int} {x : Int} (hl : xs.length ≤ 9) (h : ∀ x ∈ xs, 0 ≤ x ∧ x ≤ 12) (hx : x = -1 ∨ x = 21) : DaysOk (xs.set 0 x) := by
  have key : ∀ k, 0 ≤ xs.getD k 0 ∧ xs.getD k 0 ≤ 12 := by
    intro k
    rcases Nat.lt_or_ge k xs.length with h' | h'
    · exact h _ (List.mem_of_getElem? (get_getD h'))
    · rw [getD_past h']; omega
  have e : ∀ k, (xs.set 0 x).getD k 0 = if k = 0 ∧ 0 < xs.length then x else xs.getD k 0 := by
    intro k
    rw [List.getD_eq_getElem?_getD, List.getD_eq_getElem?_getD, List.getElem?_set]
    by_cases hk : 0 = k
    · subst hk
      by_cases hp : 0 < xs.length
      · rw [if_pos rfl, if_pos hp, if_pos ⟨rfl, hp⟩]; rfl
      · rw [if_pos rfl, if_neg hp, if_neg (by omega), List.getElem?_eq_none (by omega)]
    · rw [if_neg hk, if_neg (by omega)]
  refine ⟨by rw [List.length_set]; exact hl, fun k => ?_, fun k => ?_⟩
  · rw [e]; have := key k; split <;> omega
  · rw [e]; have := key k; split <;> split <;> omega

def DaysPost (w : World) (R p : Nat) (e : Ending) (w' : World) : Prop := ∃ (a : Option Addr) (len cap : Nat) (xs : List Int) (p' : Nat), e = .returned (.slice a len cap) ∧
  w'.ownsRow w.heap.size 3 1 (.slice a len cap) len (xs.map (.int .i64)) ∧ len ≤ cap ∧ len ≤ 9 ∧ DaysOk xs ∧ Rd w' R p' ∧ p' ≤ p + 100 ∧ w.grownBy w' (some R)
theorem DaysPost.mk {w w' : World} {R p p' : Nat} {a : Option Addr} {len cap : Nat} {xs : List Int} (h : w'.ownsRow w.heap.size 3 1 (.slice a len cap) len (xs.map (.int .i64))) (hl : len ≤ 9) (hd : DaysOk xs) (hr : Rd w' R p') (hp : p' ≤ p + 100) (hg : w.grownBy w' (some R)) :
    DaysPost w R p (.returned (.slice a len cap)) w' := by
  obtain ⟨a', cap', e, hc⟩ := own_slice h
  simp only [Value.slice.injEq] at e
  obtain ⟨rfl, _, rfl⟩ := e
  exact ⟨_, _, _, xs, p', rfl, h, hc, hl, hd, hr, hp, hg⟩
theorem ro {R : Nat} : ∀ k, some R = some k → k = R ∨ False := by intro k e; cases e; exact Or.inl rfl

theorem most_n {n : Int} (h : n ∈ [6, 12, 3]) : 3 ≤ n ∧ n ≤ 12 := by simp at h; omega
theorem days_n {n : Int} (h : n ∈ [5, 6, 4, 8, 3, 2, 1, 0, 9]) : ∃ m : Nat, n = (m : Int) ∧ m ≤ 9 := by simp at h; exact ⟨n.toNat, by omega, by omega⟩
theorem grown_r {a b c : World} {R : Nat} (h : a.grownBy b (some R)) (g : b.grownBy c (some R)) : a.grownBy c (some R) := grown_trans h g (fun k e => by cases e; exact Or.inl rfl)

end Go.Proofs.Ythmlgicjedhgfab
namespace Go.Proofs.Ythmlgicjedhgfab
open Go.RowKit Go.WideShapes

theorem rd_new (w : World) (a : Option Addr) (n cap : Nat) (t : TypeId) (hn : n ≤ 2000) (hb : BytesAt w w.heap.size a n) : Rd (w.alloc (.cells #[.slice a n cap, .int .i64 0] t)) w.heap.size 0 := by
  refine ⟨by rw [World.cell?_alloc_new]; rfl, World.frozen?_alloc_new w _ _ _, a, n, cap, by rw [World.cell?_alloc_new]; rfl, hn, fun h0 => ?_⟩
  obtain ⟨b, off, ha, hb', hc⟩ := hb h0
  refine ⟨b, off, ha, hb', fun i hi => ?_⟩
  obtain ⟨x, hx, hx'⟩ := hc i hi
  exact ⟨x, hx, by rw [World.cell?_alloc_lt _ _ _ hb']; exact hx'⟩

def ReaderPost (w : World) (e : Ending) (w' : World) : Prop := e = .returned (.pointer (some ⟨w.heap.size, 0, none⟩)) ∧ Rd w' w.heap.size 0 ∧ Below w.heap.size w w'

theorem newReader_any (a : Option Addr) (len cap : Nat) (w : World) (hb : BytesAt w w.heap.size a len) (hl : len ≤ cap) (hs : len ≤ 9223372036854775807) :
    Calls Try.prog 28 #[.slice a len cap] w (ReaderPost w) := by
  by_cases h : len ≤ 2000
  · go_enter Try.func28, Try.ntmps28
    go_wp2
    go_ret
    exact ⟨rfl, rd_new w a len cap _ h hb, (Below.refl _ _).alloc (Nat.le_refl _) _⟩
  · obtain ⟨b, off, rfl, hb1, hc⟩ := hb (by omega)
    have h2 : BytesAt w w.heap.size (some ⟨b, off, none⟩) 2000 := fun _ => ⟨b, off, rfl, hb1, fun i hi => hc i (by omega)⟩
    clear hc
    go_enter Try.func28, Try.ntmps28
    go_wp2
    go_ret
    exact ⟨rfl, rd_new w _ 2000 cap _ (by omega) h2, (Below.refl _ _).alloc (Nat.le_refl _) _⟩
end Go.Proofs.Ythmlgicjedhgfab
namespace Go.Proofs.Ythmlgicjedhgfab
open Go.RowKit Go.WideShapes

/-- a list made behind the reader R, ahead of block B -/
def LAt (w : World) (R B : Nat) (a : Option Addr) (l : Nat) (xs : List Int) : Prop := IntsAt w (fun b => R < b ∧ b < B) a l xs ∧ B ≤ w.heap.size
theorem LAt.step {w w' : World} {R B l : Nat} {a : Option Addr} {xs : List Int} (h : LAt w R B a l xs) (hg : w.grownBy w' (some R)) : LAt w' R B a l xs :=
  ⟨h.1.to (fun b hb => ⟨hb, hg.block b (Nat.lt_of_lt_of_le hb.2 h.2) (by intro e; injection e; omega)⟩), Nat.le_trans h.2 hg.size⟩
theorem LAt.stepR {w w' : World} {R B l : Nat} {a : Option Addr} {xs : List Int} {r : Option Nat} (h : LAt w R B a l xs) (hg : w.grownBy w' r) (hr : ∀ k, r = some k → B ≤ k) : LAt w' R B a l xs :=
  ⟨h.1.to (fun b hb => ⟨hb, hg.block b (Nat.lt_of_lt_of_le hb.2 h.2) (by intro e; have := hr b e.symm; omega)⟩), Nat.le_trans h.2 hg.size⟩
theorem LAt.alloc {w : World} {R B l : Nat} {a : Option Addr} {xs : List Int} (h : LAt w R B a l xs) (o : Obj) : LAt (w.alloc o) R B a l xs := h.step (World.grownBy_alloc _ _ _)
theorem LAt.low {w : World} {R B l : Nat} {a : Option Addr} {xs : List Int} (h : LAt w R B a l xs) : IntsAt w (· < w.heap.size) a l xs := h.1.to (fun _ hb => ⟨Nat.lt_of_lt_of_le hb.2 h.2, rfl⟩)
theorem lat_new {w w' : World} {R l : Nat} {a : Option Addr} {xs : List Int} (h : IntsAt w' (fun b => w.heap.size ≤ b ∧ b < w'.heap.size) a l xs) (hR : R < w.heap.size) : LAt w' R w'.heap.size a l xs :=
  ⟨h.to (fun _ hb => ⟨⟨by omega, hb.2⟩, rfl⟩), Nat.le_refl _⟩
theorem lat_own {w w' : World} {R l cp : Nat} {a : Option Addr} {xs : List Int} (h : w'.ownsRow w.heap.size 3 1 (.slice a l cp) l (xs.map (.int .i64))) (hR : R < w.heap.size) (hl : l ≤ 9223372036854775807) : LAt w' R w'.heap.size a l xs := by
  obtain ⟨ay, cy, hve, _, hints⟩ := own_ints h hl
  simp only [Value.slice.injEq] at hve
  obtain ⟨rfl, _, rfl⟩ := hve
  exact lat_new hints hR
theorem own_low {w : World} {B l cp : Nat} {a : Option Addr} {xs : List Int} (h : w.ownsRow B 3 1 (.slice a l cp) l (xs.map (.int .i64))) (hl : l ≤ 9223372036854775807) : IntsAt w (· < w.heap.size) a l xs := by
  obtain ⟨ay, cy, hve, _, hints⟩ := own_ints h hl
  simp only [Value.slice.injEq] at hve
  obtain ⟨rfl, _, rfl⟩ := hve
  exact hints.to (fun _ hb => ⟨hb.2, rfl⟩)
theorem grown_of_below {w w' : World} (h : Below w.heap.size w w') (r : Option Nat) : w.grownBy w' r := ⟨h.os, h.tape, h.output, h.size, fun b hb _ => h.block b hb⟩
theorem Rd.step {w w' : World} {R p : Nat} (h : Rd w R p) (hb : Below w.heap.size w w') : Rd w' R p :=
  h.grown (r := none) (grown_of_below hb none) (fun k e => by cases e)
theorem own_step {w w' : World} {B R l : Nat} {v : Value} {xs : List Value} (h : w.ownsRow B 3 1 v l xs) (hg : w.grownBy w' (some R)) (hR : R < B) : w'.ownsRow B 3 1 v l xs := h.kept hg (ne_low h hR)
end Go.Proofs.Ythmlgicjedhgfab
namespace Go.Proofs.Ythmlgicjedhgfab
open Go.RowKit Go.WideShapes

/-- append of a list to a list of the call's own, at a step of a region that draws; the source may be empty -/
theorem stepApp {ops : Array Oper} {o : Oper} {a : Act} {K : Act → World → Prop} {Q : Exit → Act → World → Prop} {E : Prop} {wo : World} (hgd : o.guard = none) (s x : Operand)
    (ho : o.op = .call { callee := .builtin .append, args := #[s, x], argTypes := #[24, 24] })
    (base k cp gx : Nat) (xs : List Int) (S : Nat → Prop) (b off m c : Nat) (ys : List Int) (hs : a.eval s = .slice (some ⟨gx, 0, none⟩) k cp)
    (hown : wo.ownsRow base 3 1 (.slice (some ⟨gx, 0, none⟩) k cp) k (xs.map (.int .i64))) (hx : a.eval x = .slice (some ⟨b, off, none⟩) m c) (hy : IntsAt wo S (some ⟨b, off, none⟩) m ys)
    (hbase : base ≤ wo.heap.size) (km : Nat) (hkm : k + m = km) (zs : List Int) (hzs : xs ++ ys = zs) (hk : km ≤ 1048576)
    (h : ∀ (g6 c6 : Nat) (w' : World), w'.ownsRow base 3 1 (.slice (some ⟨g6, 0, none⟩) km c6) km (zs.map (.int .i64)) → km ≤ c6 → wo.grownBy w' (some gx) → base ≤ g6 → g6 < w'.heap.size →
      K (a.put o.dst (.slice (some ⟨g6, 0, none⟩) km c6)) w') :
    if Region.wanted o (yielded ops a.tmps) = true then Oper.wp Try.prog o a wo K Q else E := by
  subst hkm
  subst hzs
  have hw : Region.wanted o (yielded ops a.tmps) = true := by simp [Region.wanted, hgd]
  rw [if_pos hw]
  obtain ⟨i0, hi, hz0, hz1, hz2⟩ := info_parts Try.infoIntO
  obtain ⟨v', w', hr, h2, h3, h4, _⟩ := run_append_own_at (P := Try.prog) wo base 24 o.type 3 i0 (.int .i64 0) 1 8 Try.underlying24 hi hz0 hz1 hz2 rfl (by decide) _ k _ hown ⟨b, off, none⟩ m c (ys.map (.int .i64)) (by simp [hy.lenEq]) (by
    intro j u hj
    rw [List.getElem?_map] at hj
    cases hq : ys[j]? with
    | none => rw [hq] at hj; cases hj
    | some z =>
      rw [hq] at hj
      simp only [Option.map_some, Option.some.injEq] at hj
      have hlt : j < ys.length := (List.getElem?_eq_some_iff.1 hq).1
      obtain ⟨b', off', e, _, hc⟩ := hy.cells (by have := hy.lenEq; omega)
      cases e
      rw [add_plain, hc _ _ hq, ← hj]) (by
    intro u hu
    obtain ⟨x, _, rfl⟩ := List.mem_map.1 hu
    rfl) (by unfold maxLen; omega) (by omega) hbase
  unfold Oper.wp execOp
  simp only [ho, resolve, invoke, builtin, Sem.run_bind, Sem.run_pure, Result.andThen_ok, List.map_toArray, List.map_cons, List.map_nil, hs, hx, hr]
  obtain ⟨a6, c6, rfl, hc⟩ := own_slice h2
  rcases h2.2 with ⟨e1, e2⟩ | ⟨g, cap, cur, hv, hb, hg, _⟩
  · exact absurd (h4.1 (by injection e1 with e3 _ e4; subst e3; subst e4; rw [e2])).1 (by simp)
  · injection hv with e3 _ e4
    subst e3
    rw [← List.map_append] at h2
    refine h g c6 w' h2 hc h3 hb ?_
    rcases Nat.lt_or_ge g w'.heap.size with hlt | hge
    · exact hlt
    · rw [Array.getElem?_eq_none hge] at hg; cases hg

theorem IntsAt.takeI {w : World} {S : Nat → Prop} {b off len : Nat} {xs : List Int} (h : IntsAt w S (some ⟨b, off, none⟩) len xs) (k : Nat) (hk : k ≤ len) : IntsAt w S (some ⟨b, off, none⟩) k (xs.take k) := by
  have hl := h.lenEq
  have hs := h.small
  refine ⟨by simp; omega, by omega, fun h0 => ?_⟩
  obtain ⟨b', off', e, hS, hc⟩ := h.cells (by omega)
  cases e
  refine ⟨_, _, rfl, hS, fun i x hx => hc i x ?_⟩
  rw [List.getElem?_take] at hx
  split at hx
  · exact hx
  · cases hx
theorem IntsAt.dropI {w : World} {S : Nat → Prop} {b len : Nat} {xs : List Int} (h : IntsAt w S (some ⟨b, 0, none⟩) len xs) (k : Nat) (hk : k ≤ len) : IntsAt w S (some ⟨b, k, none⟩) (len - k) (xs.drop k) := by
  have hl := h.lenEq
  have hs := h.small
  refine ⟨by simp; omega, by omega, fun h0 => ?_⟩
  obtain ⟨b', off', e, hS, hc⟩ := h.cells (by omega)
  cases e
  refine ⟨_, _, rfl, hS, fun i x hx => ?_⟩
  rw [List.getElem?_drop] at hx
  have := hc _ x hx
  rwa [Nat.zero_add] at this
theorem IntsAt.grownEq {W W' w' : World} {b r len : Nat} {xs : List Int} (h : IntsAt W (fun k => k = b) (some ⟨b, 0, none⟩) len xs) (hg : W'.grownBy w' (some r)) (he : W'.heap = W.heap) (hb : b < W'.heap.size) (hr : b ≠ r) :
    IntsAt w' (fun k => k = b) (some ⟨b, 0, none⟩) len xs :=
  h.to fun k hk => ⟨hk, by subst hk; rw [hg.block _ hb (by simp; omega), he]⟩
theorem below_grown {n : Nat} {w w' : World} (h : Below n w w') (hn : n = w.heap.size) (r : Option Nat) : w.grownBy w' r := by
  subst hn
  exact ⟨h.os, h.tape, h.output, h.size, fun k hk _ => h.block k hk⟩
def OrderPost (w : World) (R p n : Nat) (e : Ending) (w' : World) : Prop := ∃ (g cap : Nat) (xs : List Int), e = .returned (.slice (some ⟨g, 0, none⟩) n cap) ∧
  w'.ownsRow w.heap.size 3 1 (.slice (some ⟨g, 0, none⟩) n cap) n (xs.map (.int .i64)) ∧ n ≤ cap ∧ (∀ x ∈ xs, -1 ≤ x ∧ x ≤ n) ∧ w.grownBy w' (some R)
end Go.Proofs.Ythmlgicjedhgfab
namespace Go.Proofs.Ythmlgicjedhgfab
open Go.RowKit Go.WideShapes

/-- a list that is drawn: numbers in lo..hi -/
def ListPost (w : World) (R p n : Nat) (lo hi : Int) (e : Ending) (w' : World) : Prop := ∃ (a : Option Addr) (cap : Nat) (xs : List Int), e = .returned (.slice a n cap) ∧
  w'.ownsRow w.heap.size 3 1 (.slice a n cap) n (xs.map (.int .i64)) ∧ n ≤ cap ∧ xs.length = n ∧ (∀ x ∈ xs, lo ≤ x ∧ x ≤ hi) ∧ Rd w' R (p + n) ∧ w.grownBy w' (some R)

end Go.Proofs.Ythmlgicjedhgfab
