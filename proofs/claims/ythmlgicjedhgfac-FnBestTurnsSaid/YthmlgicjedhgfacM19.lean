import Derived.Test.YthmlgicjedhgfacRows
import Derived.WalkKit
import Derived.LoopTactic
import Derived.Outline
import Derived.WalkSpells
import Derived.WalkLawsBesides
import Derived.ProofKit
import Derived.Test.YthmlgicjedhgfacM0
import Derived.Test.YthmlgicjedhgfacM1
import Derived.Test.YthmlgicjedhgfacM2
import Derived.Test.YthmlgicjedhgfacM18
import Derived.Test.YthmlgicjedhgfacM9
import Derived.Test.YthmlgicjedhgfacM8
import Derived.Test.YthmlgicjedhgfacM12
import Derived.Test.YthmlgicjedhgfacM10
import Derived.Test.YthmlgicjedhgfacM6
import Derived.Test.YthmlgicjedhgfacM3
namespace Go.Proofs.Ythmlgicjedhgfac
open Go.RowKit Go.WideShapes

-- lists of lists of lists that may be marked
structure ShopFreeTS (w : World) (T S : Nat → Prop) (a : Option Addr) (len : Nat) : Prop where
  small : len ≤ 1048576
  cells : 0 < len → ∃ b off, a = some ⟨b, off, none⟩ ∧ T b ∧ ∀ i, i < len → ∃ a' l c, w.cell? ⟨b, off + i, none⟩ = some (.slice a' l c) ∧ RowsFree w T S a' l
theorem RowsFree.to {w w' : World} {T S T' S' : Nat → Prop} {a : Option Addr} {len : Nat} (h : RowsFree w T S a len) (hT : ∀ b, T b → T' b ∧ w'.heap[b]? = w.heap[b]?) (hS : ∀ b, S b → S' b ∧ w'.heap[b]? = w.heap[b]?) : RowsFree w' T' S' a len := by
  refine ⟨h.small, fun h0 => ?_⟩
  obtain ⟨b, off, ha, ht, hc⟩ := h.cells h0
  refine ⟨b, off, ha, (hT b ht).1, fun i hi => ?_⟩
  obtain ⟨a', l, c, h1, h2, h3⟩ := hc i hi
  exact ⟨a', l, c, by rw [World.cell?_of_block (w := w) (hT b ht).2]; exact h1, h2, h3.to hS⟩
theorem ShopFreeTS.to {w w' : World} {T S T' S' : Nat → Prop} {a : Option Addr} {len : Nat} (h : ShopFreeTS w T S a len) (hT : ∀ b, T b → T' b ∧ w'.heap[b]? = w.heap[b]?) (hS : ∀ b, S b → S' b ∧ w'.heap[b]? = w.heap[b]?) : ShopFreeTS w' T' S' a len := by
  refine ⟨h.small, fun h0 => ?_⟩
  obtain ⟨b, off, ha, ht, hc⟩ := h.cells h0
  refine ⟨b, off, ha, (hT b ht).1, fun i hi => ?_⟩
  obtain ⟨a', l, c, h1, h3⟩ := hc i hi
  exact ⟨a', l, c, by rw [World.cell?_of_block (w := w) (hT b ht).2]; exact h1, h3.to hT hS⟩
theorem ShopFreeTS.kept {w w' : World} {T S : Nat → Prop} {a : Option Addr} {len : Nat} (h : ShopFreeTS w T S a len) (g : KeptBut S w w') (hd : ∀ k, T k → ¬ S k) : ShopFreeTS w' T S a len := by
  refine ⟨h.small, fun h0 => ?_⟩
  obtain ⟨b, off, ha, ht, hc⟩ := h.cells h0
  refine ⟨b, off, ha, ht, fun i hi => ?_⟩
  obtain ⟨a', l, c, h1, h3⟩ := hc i hi
  exact ⟨a', l, c, by rw [World.cell?_of_block (w := w) (g.block b (hd b ht))]; exact h1, h3.kept g hd⟩
set_option maxHeartbeats 400000 in
theorem markShop_TS (T S : Nat → Prop) (a : Option Addr) (len cap : Nat) (k : Int) (w : World) (h : ShopFreeTS w T S a len) (hd : ∀ k, T k → ¬ S k) (h0 : 0 ≤ k) (h1 : k ≤ 1099511627776) :
    Calls Try.prog 17 #[.slice a len cap, .int .i64 k] w fun e w' => ∃ q : Int, e = .returned (.int .i64 q) ∧ k ≤ q ∧ q ≤ k + 1152921504606846976 ∧ KeptBut S w w' := by
  have hs := h.small
  go_enter Try.func17, Try.ntmps17
  go_wp2
  go_loopw [1, 5] (fun q i wr => ∃ (m : Nat) (n : Int), m ≤ len ∧ i = .int .i64 m ∧ q = .int .i64 n ∧ k ≤ n ∧ n ≤ k + 1099511627776 * (m : Int) ∧ KeptBut S w wr ∧ ShopFreeTS wr T S a len) (fun _ i _ => len - (intOf i).toNat)
  case atStart => exact ⟨0, k, Nat.zero_le _, rfl, rfl, Int.le_refl _, by omega, KeptBut.refl _ _, h⟩
  case round =>
    obtain ⟨m, n, hm, rfl, rfl, hn0, hn1, hk, hf⟩ := hrel
    have HK := Lib.hid hk
    clear hk
    by_cases hlt : m < len
    · obtain ⟨b, off, ha, ht, hc⟩ := hf.cells (by omega)
      obtain ⟨a', l, c, h2, h4⟩ := hc m hlt
      subst ha
      have hl4 := h4.small
      have HF := Lib.hid hf
      clear hf hc
      go_wp2_with fail
      refine (markIntSS_any T S a' l c n wr h4 hd (by omega) (by omega)).mono ?_
      rintro e w3 ⟨n2, rfl, hn2, hn3, hk3⟩
      have hn4 : n2 ≤ k + 1099511627776 * ((m : Int) + 1) := by omega
      clear hn3
      go_wp2
      go_roundw
      case rel => exact ⟨m + 1, n2, by omega, by go_num, rfl, by omega, by omega, HK.out.trans hk3, HF.out.kept hk3 hd⟩
      case measure => simp [intOf]; omega
    · obtain rfl : m = len := by omega
      go_wp2
      go_ret
      exact ⟨n, rfl, hn0, by omega, HK.out⟩
/-- a shop that may be marked, in the blocks lo ≤ b < hi -/
def ShopFree (w : World) (lo hi : Nat) (a : Option Addr) (len : Nat) : Prop := ∃ T S : Nat → Prop, (∀ k, T k → ¬ S k) ∧ (∀ k, T k → lo ≤ k ∧ k < hi) ∧ (∀ k, S k → lo ≤ k ∧ k < hi) ∧ ShopFreeTS w T S a len
theorem SameOn.sfree {lo hi : Nat} {a b : World} {p : Option Addr} {len : Nat} (h : SameOn lo hi a b) (x : ShopFree a lo hi p len) : ShopFree b lo hi p len := by
  obtain ⟨T, S, h1, h2, h3, h4⟩ := x
  exact ⟨T, S, h1, h2, h3, h4.to (fun k hk => ⟨hk, h k (h2 k hk).1 (h2 k hk).2⟩) (fun k hk => ⟨hk, h k (h3 k hk).1 (h3 k hk).2⟩)⟩
theorem markShop_any (lo hi : Nat) (a : Option Addr) (len cap : Nat) (k : Int) (w : World) (h : ShopFree w lo hi a len) (h0 : 0 ≤ k) (h1 : k ≤ 1099511627776) :
    Calls Try.prog 17 #[.slice a len cap, .int .i64 k] w fun e w' => ∃ q : Int, e = .returned (.int .i64 q) ∧ k ≤ q ∧ q ≤ k + 1152921504606846976 ∧ KeptBut (fun b => lo ≤ b ∧ b < hi) w w' := by
  obtain ⟨T, S, hd, _, h3, h4⟩ := h
  refine (markShop_TS T S a len cap k w h4 hd h0 h1).mono ?_
  rintro e w' ⟨q, rfl, a1, a2, a3⟩
  exact ⟨q, rfl, a1, a2, a3.wide h3⟩
/-- a copy of a shop so far, that may be marked: job j in the blocks from gs j to gs (j + 1) -/
structure Copy3F (w wr : World) (len k : Nat) (shop : List (List (List Int))) (gs : Nat → Nat) : Prop where
  zero : gs 0 = w.heap.size + 1
  up : ∀ j, j < k → gs j < gs (j + 1)
  last : gs k = wr.heap.size
  top : ∃ C : Array Value, wr.heap[w.heap.size]? = some (.cells C 29 (0, 0)) ∧ C.size = len ∧
    ∀ (j : Nat) (job : List (List Int)), j < k → shop[j]? = some job → C[j]? = some (.slice (some ⟨gs j, 0, none⟩) job.length job.length) ∧ RowsFree wr (fun b => b = gs j) (fun b => gs j < b ∧ b < gs (j + 1)) (some ⟨gs j, 0, none⟩) job.length
theorem gs_mono {gs : Nat → Nat} {k : Nat} (h : ∀ j, j < k → gs j < gs (j + 1)) : ∀ i j, i ≤ j → j ≤ k → gs i ≤ gs j := by
  intro i j hij
  induction j with
  | zero => intro _; obtain rfl : i = 0 := by omega
            exact Nat.le_refl _
  | succ j ih =>
    intro hj
    rcases Nat.lt_or_eq_of_le hij with h1 | rfl
    · exact Nat.le_trans (ih (by omega) (by omega)) (Nat.le_of_lt (h j (by omega)))
    · exact Nat.le_refl _
theorem copy3F_start (w : World) (len : Nat) (shop : List (List (List Int))) : Copy3F w (w.alloc (.cells (madeCells #[.slice none 0 0] len) 29)) len 0 shop (fun _ => w.heap.size + 1) :=
  ⟨rfl, fun j hj => absurd hj (by omega), by simp, ⟨_, heap_alloc_new w _, size_madeCells _ _, fun j r h => absurd h (by omega)⟩⟩
theorem Copy3F.step {w wr w3 : World} {len k : Nat} {shop : List (List (List Int))} {gs : Nat → Nat} {job : List (List Int)} (h : Copy3F w wr len k shop gs) (hk : k < len) (hjob : shop[k]? = some job) (hb : Below wr.heap.size wr w3) (hlt : wr.heap.size < w3.heap.size)
    (hf : RowsFree w3 (fun b => b = wr.heap.size) (fun b => wr.heap.size < b ∧ b < w3.heap.size) (some ⟨wr.heap.size, 0, none⟩) job.length) :
    Copy3F w (w3.setCell ⟨w.heap.size, k, none⟩ (.slice (some ⟨wr.heap.size, 0, none⟩) job.length job.length)) len (k + 1) shop (fun j => if j ≤ k then gs j else w3.heap.size) := by
  obtain ⟨C, h1, h2, h3⟩ := h.top
  have hg0 : w.heap.size < gs k := by have := gs_mono h.up 0 k (Nat.zero_le _) (Nat.le_refl _); have := h.zero; omega
  have hl := h.last
  have hot : ∀ b, b ≠ w.heap.size → (w3.setCell ⟨w.heap.size, k, none⟩ (.slice (some ⟨wr.heap.size, 0, none⟩) job.length job.length)).heap[b]? = w3.heap[b]? := fun b hb => Below.heap_setCell _ _ _ _ hb
  have h1' : w3.heap[w.heap.size]? = some (.cells C 29 (0, 0)) := (hb.block _ (by omega)).trans h1
  refine ⟨by simp only [Nat.zero_le, if_true]; exact h.zero, fun j hj => ?_, by simp only [show ¬ k + 1 ≤ k by omega, if_false]; simp [World.setCell], ⟨C.setIfInBounds k (.slice (some ⟨wr.heap.size, 0, none⟩) job.length job.length), heap_setCell_same w3 w.heap.size k C _ _ h1', by simpa using h2, fun j job' hj hjob' => ?_⟩⟩
  · rw [if_pos (by omega)]
    by_cases e : j + 1 ≤ k
    · rw [if_pos e]; exact h.up j (by omega)
    · obtain rfl : j = k := by omega
      rw [if_neg e, hl]; exact hlt
  · rw [Array.getElem?_setIfInBounds]
    by_cases e : k = j
    · subst e
      rw [if_pos rfl, if_pos (by omega)]
      have e' := hjob.symm.trans hjob'
      simp only [Option.some.injEq] at e'
      subst e'
      simp only [Nat.le_refl, if_true, show ¬ k + 1 ≤ k by omega, if_false]
      rw [hl]
      exact ⟨rfl, hf.to (fun b hb' => ⟨hb', hot b (by omega)⟩) (fun b hb' => ⟨hb', hot b (by omega)⟩)⟩
    · rw [if_neg e]
      have hj' : j < k := by omega
      obtain ⟨e1, e2⟩ := h3 j job' hj' hjob'
      simp only [show j ≤ k by omega, if_true, show j + 1 ≤ k by omega]
      have m1 := gs_mono h.up 0 j (Nat.zero_le _) (by omega)
      have m2 := gs_mono h.up (j + 1) k (by omega) (Nat.le_refl _)
      have m3 := h.up j hj'
      have hz := h.zero
      exact ⟨e1, e2.to (fun b hb' => ⟨hb', (hot b (by omega)).trans (hb.block b (by omega))⟩) (fun b hb' => ⟨hb', (hot b (by omega)).trans (hb.block b (by omega))⟩)⟩
theorem Copy3F.free {w wr : World} {len : Nat} {shop : List (List (List Int))} {gs : Nat → Nat} (h : Copy3F w wr len len shop gs) (hl : shop.length = len) (hs : len ≤ 1048576) : ShopFree wr w.heap.size wr.heap.size (some ⟨w.heap.size, 0, none⟩) len := by
  obtain ⟨C, h1, h2, h3⟩ := h.top
  have hz := h.zero
  have hla := h.last
  have m0 := gs_mono h.up 0 len (Nat.zero_le _) (Nat.le_refl _)
  refine ⟨fun b => b = w.heap.size ∨ ∃ j, j < len ∧ b = gs j, fun b => ∃ j, j < len ∧ gs j < b ∧ b < gs (j + 1), ?_, ?_, ?_, hs, fun h0 => ⟨_, 0, rfl, .inl rfl, fun i hi => ?_⟩⟩
  · rintro k (rfl | ⟨j, hj, rfl⟩) ⟨i, hi, h4, h5⟩
    · have := gs_mono h.up 0 i (Nat.zero_le _) (by omega); omega
    · rcases Nat.lt_or_ge i j with h6 | h6
      · have := gs_mono h.up (i + 1) j (by omega) (by omega); omega
      · have := gs_mono h.up j i h6 (by omega); omega
  · rintro k (rfl | ⟨j, hj, rfl⟩)
    · omega
    · have := gs_mono h.up 0 j (Nat.zero_le _) (by omega)
      have := gs_mono h.up (j + 1) len (by omega) (Nat.le_refl _)
      have := h.up j hj
      omega
  · rintro k ⟨j, hj, h4, h5⟩
    have := gs_mono h.up 0 j (Nat.zero_le _) (by omega)
    have := gs_mono h.up (j + 1) len (by omega) (Nat.le_refl _)
    omega
  · have hri : shop[i]? = some shop[i] := List.getElem?_eq_getElem (by omega)
    obtain ⟨e1, e2⟩ := h3 i _ hi hri
    refine ⟨_, _, (shop[i]).length, ?_, e2.to (fun b hb => ⟨.inr ⟨i, hi, hb⟩, rfl⟩) (fun b hb => ⟨⟨i, hi, hb.1, hb.2⟩, rfl⟩)⟩
    rw [Nat.zero_add]; simp only [World.cell?, h1]; exact e1
def CopyS3F (w : World) (len : Nat) (shop : List (List (List Int))) (e : Ending) (w' : World) : Prop := e = .returned (.slice (some ⟨w.heap.size, 0, none⟩) len len) ∧
  ShopAt w' (fun b => w.heap.size ≤ b ∧ b < w'.heap.size) (some ⟨w.heap.size, 0, none⟩) len shop ∧ ShopFree w' w.heap.size w'.heap.size (some ⟨w.heap.size, 0, none⟩) len ∧ w.heap.size < w'.heap.size ∧ Below w.heap.size w w'
set_option maxHeartbeats 400000 in
theorem toShopF_new (a : Option Addr) (len cap : Nat) (shop : List (List (List Int))) (w : World) (h : ShopAt w (· < w.heap.size) a len shop) (hl : len ≤ 1048576) (hr : sizesB shop) :
    Calls Try.prog 14 #[.slice a len cap] w (CopyS3F w len shop) := by
  have HL := Lib.hid h.lenEq
  have hmk := fun w => run_make_row' (P := Try.prog) 23 29 (.slice none 0 0) 24 Try.underlying23 Try.infoInts3 rfl .i64 .i64 len (by omega) (by omega) w
  go_enter Try.func14, Try.ntmps14
  go_wp2
  clear hmk
  go_loopw [4] (fun i wr => ∃ (k : Nat) (gs : Nat → Nat), k ≤ len ∧ i = .int .i64 k ∧ Copy3 w wr len k shop ∧ Copy3F w wr len k shop gs) (fun i _ => len - (intOf i).toNat)
  case atStart => exact ⟨0, _, Nat.zero_le _, rfl, copy3_start w len shop, copy3F_start w len shop⟩
  case round =>
    obtain ⟨k, gs, hk, rfl, hco, hcf⟩ := hrel
    have HCF := Lib.hid hcf
    clear hcf
    by_cases hlt : k < len
    · have hw := h.below hco.below
      obtain ⟨b, off, job, a', l, c, rfl, hx, hc, _, hri⟩ := hw.get hlt
      have hjl := hr job (List.mem_of_getElem? hx)
      have hl' : l ≤ 1048576 := by rw [← hri.lenEq]; exact hjl.1
      have hws := hco.lt
      have HX := Lib.hid hx
      have HRL := Lib.hid hri.lenEq
      clear hx
      have HTO := Lib.hid (toRows_new a' l c job wr (hri.to fun b hb => ⟨by omega, rfl⟩) hl' hjl.2)
      have HCO := Lib.hid hco
      obtain ⟨c0, hc1, hf1⟩ := hco.cell hlt
      clear hco
      go_wp2_with fail
      refine HTO.out.mono ?_
      rintro e w3 ⟨rfl, h3, hlt3, hb3, hff⟩
      have hco3 := HCO.out.later hb3
      obtain ⟨c1, hc2, hf2⟩ := hco3.cell hlt
      have HST := Lib.hid (hco3.step hlt HX.out ⟨hws, hlt3⟩ (by rw [HRL.out]; exact h3.to fun b hb => ⟨⟨by omega, hb.2⟩, rfl⟩))
      have HSF := Lib.hid (HCF.out.step hlt HX.out hb3 hlt3 (by rw [HRL.out]; exact hff))
      rw [HRL.out] at HST HSF
      clear hco3 h3 hb3 hc1 hf1 hff
      go_wp2
      go_roundw
      case rel => exact ⟨k + 1, _, by omega, by go_num, HST.out, HSF.out⟩
      case measure => simp [intOf]; omega
    · obtain rfl : k = len := by omega
      have HCO := Lib.hid hco
      clear hco
      go_wp2
      go_ret
      have hll := HL.out
      have hsf := HCF.out.free hll hl
      obtain ⟨C, h1, h2, h3⟩ := HCO.out.top
      refine ⟨rfl, ⟨hll, by omega, fun h0 => ⟨w.heap.size, 0, rfl, ⟨Nat.le_refl _, HCO.out.lt⟩, fun i job hi => ?_⟩⟩, hsf, HCO.out.lt, HCO.out.below⟩
      have hil : i < k := by
        have := (List.getElem?_eq_some_iff.1 hi).1
        omega
      obtain ⟨g, e1, e2, e3, e4⟩ := h3 i job hil hi
      refine ⟨some ⟨g, 0, none⟩, job.length, job.length, ?_, Nat.le_refl _, e4.to fun b hb => ⟨⟨by omega, hb.2⟩, rfl⟩⟩
      rw [Nat.zero_add]
      simp only [World.cell?, h1]
      exact e1
end Go.Proofs.Ythmlgicjedhgfac
namespace Go.Proofs.Ythmlgicjedhgfac
open Go.RowKit
theorem validShop_implB (a : Option Addr) (len cap : Nat) (shop : List (List (List Int))) (w : World) (h : ShopAt w (· < w.heap.size) a len shop) (hc : len ≤ cap) :
    Calls Try.prog 37 #[.slice a len cap] w (ValPost w (.bool (shopM shop))) :=
  (validShop_impl _ a len cap shop w h hc).mono fun _ _ h => ⟨h.1, h.2.below _⟩
theorem mostTurns_implR (a : Option Addr) (len cap : Nat) (shop : List (List (List Int))) (w : World) (h : ShopAt w (· < w.heap.size) a len shop) (hc : len ≤ cap) :
    Calls Try.prog 11 #[.slice a len cap] w (ResPost w (mostRes shop)) := (mostTurns_impl a len cap shop w h hc).mono fun _ _ h => h.res
theorem bestTurns_spec (a : Option Addr) (len cap : Nat) (shop : List (List (List Int))) (w : World) (h : ShopAt w (· < w.heap.size) a len shop) :
    Calls Try.prog 8 #[.slice a len cap] w (NewIntsI w (bestI shop) (bestN shop)) := bestTurns_any a len cap shop w h
theorem most_TurnsOf (shop : List (List (List Int))) : TurnsOf shop.length (slen shop) (mostM shop) := ⟨(most_turns shop).1, (most_turns shop).2⟩
theorem mostRes_len (shop : List (List (List Int))) : (mostRes shop).length ≤ 1048576 := by
  unfold mostRes
  cases hv : shopM shop
  · simp
  · rw [if_pos rfl, List.length_map]
    have h := most_TurnsOf shop
    have := turnsOf_len hv h.1 (turnsOf_cnt h)
    omega
end Go.Proofs.Ythmlgicjedhgfac
namespace Go.Proofs.Ythmlgicjedhgfac
open Go.RowKit Go.WideShapes

theorem rd_new (w : World) (a : Option Addr) (n cap : Nat) (t : TypeId) (hn : n ≤ 2000) (hb : BytesAt w w.heap.size a n) : Rd (w.alloc (.cells #[.slice a n cap, .int .i64 0] t)) w.heap.size 0 := by
  refine ⟨by rw [World.cell?_alloc_new]; rfl, World.frozen?_alloc_new w _ _ _, a, n, cap, by rw [World.cell?_alloc_new]; rfl, hn, fun h0 => ?_⟩
  obtain ⟨b, off, ha, hb', hc⟩ := hb h0
  refine ⟨b, off, ha, hb', fun i hi => ?_⟩
  obtain ⟨x, hx, hx'⟩ := hc i hi
  exact ⟨x, hx, by rw [World.cell?_alloc_lt _ _ _ hb']; exact hx'⟩

def ReaderPost (w : World) (e : Ending) (w' : World) : Prop := e = .returned (.pointer (some ⟨w.heap.size, 0, none⟩)) ∧ Rd w' w.heap.size 0 ∧ Below w.heap.size w w'

theorem newReader_any (a : Option Addr) (len cap : Nat) (w : World) (hb : BytesAt w w.heap.size a len) (hl : len ≤ cap) (hs : len ≤ 9223372036854775807) :
    Calls Try.prog 24 #[.slice a len cap] w (ReaderPost w) := by
  by_cases h : len ≤ 2000
  · go_enter Try.func24, Try.ntmps24
    go_wp2
    go_ret
    exact ⟨rfl, rd_new w a len cap _ h hb, (Below.refl _ _).alloc (Nat.le_refl _) _⟩
  · obtain ⟨b, off, rfl, hb1, hc⟩ := hb (by omega)
    have h2 : BytesAt w w.heap.size (some ⟨b, off, none⟩) 2000 := fun _ => ⟨b, off, rfl, hb1, fun i hi => hc i (by omega)⟩
    clear hc
    go_enter Try.func24, Try.ntmps24
    go_wp2
    go_ret
    exact ⟨rfl, rd_new w _ 2000 cap _ (by omega) h2, (Below.refl _ _).alloc (Nat.le_refl _) _⟩
end Go.Proofs.Ythmlgicjedhgfac
namespace Go.Proofs.Ythmlgicjedhgfac
open Go.RowKit Go.WideShapes

/-- a list made behind the reader R, ahead of block B -/
def LAt (w : World) (R B : Nat) (a : Option Addr) (l : Nat) (xs : List Int) : Prop := IntsAt w (fun b => R < b ∧ b < B) a l xs ∧ B ≤ w.heap.size
theorem LAt.step {w w' : World} {R B l : Nat} {a : Option Addr} {xs : List Int} (h : LAt w R B a l xs) (hg : w.grownBy w' (some R)) : LAt w' R B a l xs :=
  ⟨h.1.to (fun b hb => ⟨hb, hg.block b (Nat.lt_of_lt_of_le hb.2 h.2) (by intro e; injection e; omega)⟩), Nat.le_trans h.2 hg.size⟩
theorem LAt.stepR {w w' : World} {R B l : Nat} {a : Option Addr} {xs : List Int} {r : Option Nat} (h : LAt w R B a l xs) (hg : w.grownBy w' r) (hr : ∀ k, r = some k → B ≤ k) : LAt w' R B a l xs :=
  ⟨h.1.to (fun b hb => ⟨hb, hg.block b (Nat.lt_of_lt_of_le hb.2 h.2) (by intro e; have := hr b e.symm; omega)⟩), Nat.le_trans h.2 hg.size⟩
theorem LAt.alloc {w : World} {R B l : Nat} {a : Option Addr} {xs : List Int} (h : LAt w R B a l xs) (o : Obj) : LAt (w.alloc o) R B a l xs := h.step (World.grownBy_alloc _ _ _)
theorem LAt.low {w : World} {R B l : Nat} {a : Option Addr} {xs : List Int} (h : LAt w R B a l xs) : IntsAt w (· < w.heap.size) a l xs := h.1.to (fun _ hb => ⟨Nat.lt_of_lt_of_le hb.2 h.2, rfl⟩)
theorem lat_new {w w' : World} {R l : Nat} {a : Option Addr} {xs : List Int} (h : IntsAt w' (fun b => w.heap.size ≤ b ∧ b < w'.heap.size) a l xs) (hR : R < w.heap.size) : LAt w' R w'.heap.size a l xs :=
  ⟨h.to (fun _ hb => ⟨⟨by omega, hb.2⟩, rfl⟩), Nat.le_refl _⟩
theorem lat_own {w w' : World} {R l cp : Nat} {a : Option Addr} {xs : List Int} (h : w'.ownsRow w.heap.size 3 1 (.slice a l cp) l (xs.map (.int .i64))) (hR : R < w.heap.size) (hl : l ≤ 9223372036854775807) : LAt w' R w'.heap.size a l xs := by
  obtain ⟨ay, cy, hve, _, hints⟩ := own_ints h hl
  simp only [Value.slice.injEq] at hve
  obtain ⟨rfl, _, rfl⟩ := hve
  exact lat_new hints hR
theorem own_low {w : World} {B l cp : Nat} {a : Option Addr} {xs : List Int} (h : w.ownsRow B 3 1 (.slice a l cp) l (xs.map (.int .i64))) (hl : l ≤ 9223372036854775807) : IntsAt w (· < w.heap.size) a l xs := by
  obtain ⟨ay, cy, hve, _, hints⟩ := own_ints h hl
  simp only [Value.slice.injEq] at hve
  obtain ⟨rfl, _, rfl⟩ := hve
  exact hints.to (fun _ hb => ⟨hb.2, rfl⟩)
theorem grown_of_below {w w' : World} (h : Below w.heap.size w w') (r : Option Nat) : w.grownBy w' r := ⟨h.os, h.tape, h.output, h.size, fun b hb _ => h.block b hb⟩
theorem Rd.step {w w' : World} {R p : Nat} (h : Rd w R p) (hb : Below w.heap.size w w') : Rd w' R p :=
  h.grown (r := none) (grown_of_below hb none) (fun k e => by cases e)
theorem own_step {w w' : World} {B R l : Nat} {v : Value} {xs : List Value} (h : w.ownsRow B 3 1 v l xs) (hg : w.grownBy w' (some R)) (hR : R < B) : w'.ownsRow B 3 1 v l xs := h.kept hg (ne_low h hR)
end Go.Proofs.Ythmlgicjedhgfac
namespace Go.Proofs.Ythmlgicjedhgfac
open Go.RowKit Go.WideShapes

theorem Try.infoIntD : (Try.prog.info? 3).map (fun i => (i.zero, i.size, i.bytes)) = some (some (.int .i64 0), 1, 8) := by kernel_rfl

/-- the days that are drawn -/
def DaysOk (xs : List Int) : Prop := xs.length ≤ 9 ∧ (∀ k, -1 ≤ xs.getD k 0) ∧ (∀ k, xs.getD k 0 ≤ if k = 0 then 21 else 12)
theorem daysOk_of {xs : List Int} (hl : xs.length ≤ 9) (h : ∀ x ∈ xs, 0 ≤ x ∧ x ≤ 12) : DaysOk xs := by
  have key : ∀ k, 0 ≤ xs.getD k 0 ∧ xs.getD k 0 ≤ 12 := by
    intro k
    rcases Nat.lt_or_ge k xs.length with h' | h'
    · exact h _ (List.mem_of_getElem? (get_getD h'))
    · rw [getD_past h']; omega
  exact ⟨hl, fun k => by have := key k; omega, fun k => by have := key k; split <;> omega⟩
theorem daysOk_set {xs : List Int} {x : Int} (hl : xs.length ≤ 9) (h : ∀ x ∈ xs, 0 ≤ x ∧ x ≤ 12) (hx : x = -1 ∨ x = 21) : DaysOk (xs.set 0 x) := by
  have key : ∀ k, 0 ≤ xs.getD k 0 ∧ xs.getD k 0 ≤ 12 := by
    intro k
    rcases Nat.lt_or_ge k xs.length with h' | h'
    · exact h _ (List.mem_of_getElem? (get_getD h'))
    · rw [getD_past h']; omega
  have e : ∀ k, (xs.set 0 x).getD k 0 = if k = 0 ∧ 0 < xs.length then x else xs.getD k 0 := by
    intro k
    rw [List.getD_eq_getElem?_getD, List.getD_eq_getElem?_getD, List.getElem?_set]
    by_cases hk : 0 = k
    · subst hk
      by_cases hp : 0 < xs.length
      · rw [if_pos rfl, if_pos hp, if_pos ⟨rfl, hp⟩]; rfl
      · rw [if_pos rfl, if_neg hp, if_neg (by omega), List.getElem?_eq_none (by omega)]
    · rw [if_neg hk, if_neg (by omega)]
  refine ⟨by rw [List.length_set]; exact hl, fun k => ?_, fun k => ?_⟩
  · rw [e]; have := key k; split <;> omega
  · rw [e]; have := key k; split <;> split <;> omega

def DaysPost (w : World) (R p : Nat) (e : Ending) (w' : World) : Prop := ∃ (a : Option Addr) (len cap : Nat) (xs : List Int) (p' : Nat), e = .returned (.slice a len cap) ∧
  w'.ownsRow w.heap.size 3 1 (.slice a len cap) len (xs.map (.int .i64)) ∧ len ≤ cap ∧ len ≤ 9 ∧ DaysOk xs ∧ Rd w' R p' ∧ p' ≤ p + 100 ∧ w.grownBy w' (some R)
theorem DaysPost.mk {w w' : World} {R p p' : Nat} {a : Option Addr} {len cap : Nat} {xs : List Int} (h : w'.ownsRow w.heap.size 3 1 (.slice a len cap) len (xs.map (.int .i64))) (hl : len ≤ 9) (hd : DaysOk xs) (hr : Rd w' R p') (hp : p' ≤ p + 100) (hg : w.grownBy w' (some R)) :
    DaysPost w R p (.returned (.slice a len cap)) w' := by
  obtain ⟨a', cap', e, hc⟩ := own_slice h
  simp only [Value.slice.injEq] at e
  obtain ⟨rfl, _, rfl⟩ := e
  exact ⟨_, _, _, xs, p', rfl, h, hc, hl, hd, hr, hp, hg⟩
theorem ro {R : Nat} : ∀ k, some R = some k → k = R ∨ False := by intro k e; cases e; exact Or.inl rfl

theorem most_n {n : Int} (h : n ∈ [6, 12, 3]) : 3 ≤ n ∧ n ≤ 12 := by simp at h; omega
theorem days_n {n : Int} (h : n ∈ [5, 6, 4, 8, 3, 2, 1, 0, 9]) : ∃ m : Nat, n = (m : Int) ∧ m ≤ 9 := by simp at h; exact ⟨n.toNat, by omega, by omega⟩
theorem grown_r {a b c : World} {R : Nat} (h : a.grownBy b (some R)) (g : b.grownBy c (some R)) : a.grownBy c (some R) := grown_trans h g (fun k e => by cases e; exact Or.inl rfl)

end Go.Proofs.Ythmlgicjedhgfac
namespace Go.Proofs.Ythmlgicjedhgfac
open Go.RowKit Go.WideShapes

/-- a list that is drawn: numbers in lo..hi -/
def ListPost (w : World) (R p n : Nat) (lo hi : Int) (e : Ending) (w' : World) : Prop := ∃ (a : Option Addr) (cap : Nat) (xs : List Int), e = .returned (.slice a n cap) ∧
  w'.ownsRow w.heap.size 3 1 (.slice a n cap) n (xs.map (.int .i64)) ∧ n ≤ cap ∧ xs.length = n ∧ (∀ x ∈ xs, lo ≤ x ∧ x ≤ hi) ∧ Rd w' R (p + n) ∧ w.grownBy w' (some R)

set_option maxRecDepth 100000 in
set_option maxHeartbeats 2000000 in
theorem listOf_any (R p n : Nat) (lo hi : Int) (w : World) (h : Rd w R p) (hp : p ≤ 1000000) (hn : n ≤ 1000) (hlo : -1000 ≤ lo) (hlh : lo ≤ hi) (hhi : hi ≤ 1000) :
    Calls Try.prog 61 #[.pointer (some ⟨R, 0, none⟩), .int .i64 n, .int .i64 lo, .int .i64 hi] w (ListPost w R p n lo hi) := by
  have hR := h.lt
  obtain ⟨i0, hi0, hz0, hz1, hz2⟩ := info_parts Try.infoIntD
  have ho0 := World.ownsRow_made (base := w.heap.size) (size := 1) (e := 3) w #[] 0 (Nat.le_refl _) (Nat.zero_le _) rfl
  go_enter Try.func61, Try.ntmps61
  go_wp2_with fail
  go_loopw [9] (fun v wr => ∃ (k cap : Nat) (a : Option Addr) (xs : List Int), v = .slice a k cap ∧ wr.ownsRow w.heap.size 3 1 v k (xs.map (.int .i64)) ∧ k ≤ n ∧ (∀ x ∈ xs, lo ≤ x ∧ x ≤ hi) ∧ Rd wr R (p + k) ∧ w.grownBy wr (some R)) (fun v _ => n - capOf v)
  case atStart => exact ⟨0, _, _, [], rfl, ho0, Nat.zero_le _, (fun x hx => by cases hx), h.alloc _, World.grownBy_alloc _ _ _⟩
  case round =>
    obtain ⟨k, cap, a, xs, rfl, hown, hkm, hall, hr, hg⟩ := hrel
    obtain ⟨wo, rfl⟩ : ∃ wo : World, wo = wr := ⟨_, rfl⟩
    have hsz := hg.size
    have HOWN := Lib.hid hown
    have HALL := Lib.hid hall
    clear hown hall
    by_cases hlt : k < n
    · go_wp2_with fail
      refine (pick_any R (p + k) (hi - lo + 1) wo hr (by omega)).mono ?_
      rintro e w5 ⟨q1, rfl, hq1, hr5, hgw⟩
      have HO5 := Lib.hid (HOWN.out.kept hgw (ne_low HOWN.out hR))
      have hg6 := grown_r hg hgw
      have hxb : lo ≤ lo + (q1 : Int) ∧ lo + (q1 : Int) ≤ hi := by omega
      go_wp2_with (at_builtin; refine wpList_append_own _ rfl _ _ 25 rfl w.heap.size 3 i0 (.int .i64 0) 1 8 Try.underlying25 hi0 hz0 hz1 hz2 rfl (by decide) _ _ _ rfl (HO5.out.alloc _) ⟨w5.heap.size, 0, none⟩ 1 1 [.int .i64 (lo + (q1 : Int))] rfl rfl ?c1 ?c2 ?c3 ?c4 ?c5 ?_)
      case c1 => exact one_new _ _ _
      case c2 => exact one_cell_int _ _
      case c3 => unfold maxLen; omega
      case c4 => omega
      case c5 => have := hgw.size; simp; omega
      intro v' w6 hown hgrow _
      obtain ⟨a6, c6, rfl, _⟩ := own_slice hown
      have hgr : w5.grownBy w6 (Value.slice a k cap).ownBlock := grown_comp (World.grownBy_alloc w5 _ _) hgrow
      have HO6 := Lib.hid hown
      have HG6 := Lib.hid hgr
      clear hown hgr hgrow
      go_wp2
      go_roundw
      case rel => exact ⟨k + 1, c6, a6, xs ++ [lo + (q1 : Int)], rfl, by rw [List.map_append]; exact HO6.out, by omega, (fun y hy => by
        rcases List.mem_append.1 hy with h' | h'
        · exact HALL.out y h'
        · simp only [List.mem_singleton] at h'; rw [h']; exact hxb), hr5.grown HG6.out (by intro b hb; have := (HO5.out.lt b hb).1; omega), grown_trans hg6 HG6.out (by intro b hb; have := (HO5.out.lt b hb).1; omega)⟩
      case measure => simp [capOf]; omega
    · obtain rfl : k = n := by omega
      go_wp2
      go_ret
      obtain ⟨a', c', e, hc⟩ := own_slice HOWN.out
      simp only [Value.slice.injEq] at e
      obtain ⟨rfl, _, rfl⟩ := e
      have hl := HOWN.out.1
      exact ⟨_, _, xs, rfl, HOWN.out, hc, by simpa using hl, HALL.out, hr, hg⟩
end Go.Proofs.Ythmlgicjedhgfac
namespace Go.Proofs.Ythmlgicjedhgfac
open Go.RowKit Go.WideShapes

/-- u is a job of the call's own: rows, in a block below M -/
def OwnJob (w : World) (B M : Nat) (u : Value) : Prop := ∃ n : Nat, OwnRows w B M u n ∧ n ≤ 3 ∧ ∀ k, u.ownBlock = some k → k < M
/-- v is a slice of k such -/
def OwnShop (w : World) (B M : Nat) (v : Value) (k : Nat) : Prop := ∃ us : List Value, w.ownsRow B 29 1 v k us ∧ ∀ u ∈ us, OwnJob w B M u
theorem OwnRows.base {w : World} {B B' M k : Nat} {v : Value} (h : OwnRows w B M v k) (hb : B' ≤ B) : OwnRows w B' M v k := by
  obtain ⟨us, h1, h2⟩ := h
  exact ⟨us, own_base h1 hb, fun u hu => by obtain ⟨l, xs, h3, h4⟩ := h2 u hu; exact ⟨l, xs, own_base h3 hb, h4⟩⟩
theorem OwnJob.kept {w w' : World} {B M : Nat} {u : Value} {r : Option Nat} (h : OwnJob w B M u) (hg : w.grownBy w' r) (hr : ∀ k, r = some k → k < B ∨ M ≤ k) : OwnJob w' B M u := by
  obtain ⟨n, h, hn, hl⟩ := h
  refine ⟨n, h.kept hg hr ?_, hn, hl⟩
  obtain ⟨us, h1, _⟩ := h
  cases hv : u.ownBlock with
  | none => exact Or.inl rfl
  | some k => right; intro e; have := h1.lt k hv; have := hl k hv; have := hr k e.symm; omega
theorem OwnShop.kept {w w' : World} {B M k : Nat} {v : Value} {r : Option Nat} (h : OwnShop w B M v k) (hg : w.grownBy w' r) (hr : ∀ k, r = some k → k < B ∨ M ≤ k)
    (hv : v.ownBlock = none ∨ v.ownBlock ≠ r) : OwnShop w' B M v k := by
  obtain ⟨us, h, hu⟩ := h
  exact ⟨us, h.kept hg hv, fun u hu' => (hu u hu').kept hg hr⟩
theorem OwnShop.low {w w' : World} {B M k R : Nat} {v : Value} (h : OwnShop w B M v k) (hg : w.grownBy w' (some R)) (hR : R < B) : OwnShop w' B M v k := by
  refine h.kept hg (fun k e => by cases e; exact Or.inl hR) ?_
  obtain ⟨us, h, _⟩ := h
  exact ne_low h hR
theorem OwnShop.alloc {w : World} {B M k : Nat} {v : Value} (h : OwnShop w B M v k) (o : Obj) : OwnShop (w.alloc o) B M v k :=
  h.kept (World.grownBy_alloc w o none) (fun k e => by cases e) (by cases v.ownBlock <;> simp)
/-- an append to rows that are newer than the shop -/
theorem OwnShop.rows {w w' : World} {B M M' k n : Nat} {v u : Value} (h : OwnShop w B M v k) (hu : OwnRows w M M' u n) (hg : w.grownBy w' u.ownBlock) : OwnShop w' B M v k := by
  obtain ⟨ys, hu, _⟩ := hu
  refine h.kept hg (fun k e => Or.inr (hu.lt k e).1) ?_
  obtain ⟨us, h, _⟩ := h
  exact own_ne h hu (by decide)
theorem OwnShop.slice {w : World} {B M k : Nat} {v : Value} (h : OwnShop w B M v k) : ∃ a cap, v = .slice a k cap ∧ k ≤ cap := by
  obtain ⟨us, h, _⟩ := h
  exact own_slice h
theorem OwnShop.nil {w w1 : World} {B M r : Nat} (hB : B = w.heap.size) (hg : (w.alloc (.cells #[] 29)).grownBy w1 (some r)) (hr : r < B) : OwnShop w1 B M (.slice (some ⟨B, 0, none⟩) 0 0) 0 := by
  subst hB
  have h0 := World.ownsRow_made (base := w.heap.size) (size := 1) (e := 29) w #[] 0 (Nat.le_refl _) (Nat.zero_le _) rfl
  refine ⟨[], (h0.kept hg (ne_low h0 hr)), fun u hu => by cases hu⟩
theorem OwnShop.up {w : World} {B M M' k : Nat} {v : Value} (h : OwnShop w B M v k) (hM : M ≤ M') : OwnShop w B M' v k := by
  obtain ⟨us, h, hu⟩ := h
  refine ⟨us, h, fun u hu' => ?_⟩
  obtain ⟨n, h1, h2, h3⟩ := hu u hu'
  exact ⟨n, h1.up hM, h2, fun k hk => Nat.lt_of_lt_of_le (h3 k hk) hM⟩
/-- a job lies on when the shop's own block grows -/
theorem OwnRows.beside {w w' : World} {B B' M n k : Nat} {x v : Value} {us : List Value} (h : OwnRows w B M x n) (hv : w.ownsRow B' 29 1 v k us) (hg : w.grownBy w' v.ownBlock) : OwnRows w' B w'.heap.size x n := by
  obtain ⟨ys, h1, h2⟩ := h
  refine ⟨ys, h1.kept hg (own_ne h1 hv (by decide)), fun y hy => ?_⟩
  obtain ⟨l, xs, h3, _⟩ := h2 y hy
  have h4 := h3.kept hg (own_ne h3 hv (by decide))
  exact ⟨l, xs, h4, fun k hk => (h4.lt k hk).2⟩
theorem OwnRows.job {w : World} {B n : Nat} {x : Value} (h : OwnRows w B w.heap.size x n) (hn : n ≤ 3) : OwnJob w B w.heap.size x := by
  have h0 := h
  obtain ⟨ys, h1, _⟩ := h
  exact ⟨n, h0, hn, fun k hk => (h1.lt k hk).2⟩
/-- the job is done, and put to the shop -/
theorem OwnShop.push {w w' : World} {B M M' n k : Nat} {v v' u : Value} {us : List Value} (hu : OwnRows w M M' u n) (hn : n ≤ 3) (hM : B ≤ M)
    (hv : w.ownsRow B 29 1 v k us) (hus : ∀ u ∈ us, OwnJob w B M u) (hv' : w'.ownsRow B 29 1 v' (k + 1) (us ++ [u])) (hg : w.grownBy w' v.ownBlock) : OwnShop w' B w'.heap.size v' (k + 1) := by
  refine ⟨us ++ [u], hv', fun x hx => ?_⟩
  rcases List.mem_append.1 hx with hx | hx
  · obtain ⟨l, h, hl, _⟩ := hus x hx
    exact (h.beside hv hg).job hl
  · simp only [List.mem_singleton] at hx
    subst hx
    exact ((hu.base hM).beside hv hg).job hn
theorem OwnShop.addr {w : World} {B M k cap : Nat} {a : Option Addr} (h : OwnShop w B M (.slice a k cap) k) (hk : 0 < k) : ∃ g, a = some ⟨g, 0, none⟩ ∧ B ≤ g := by
  obtain ⟨us, hv, _⟩ := h
  rcases hv.2 with ⟨h1, h2⟩ | ⟨g, c, cur, h1, h2, _⟩
  · omega
  · simp only [Value.slice.injEq] at h1
    exact ⟨g, h1.1, h2⟩
theorem OwnShop.cell {w : World} {B M g k cap j : Nat} (h : OwnShop w B M (.slice (some ⟨g, 0, none⟩) k cap) k) (hj : j < k) : ∃ v, w.cell? ⟨g, j, none⟩ = some v ∧ w.frozen? ⟨g, j, none⟩ = false ∧ OwnJob w B M v := by
  obtain ⟨us, hv, hus⟩ := h
  have hl := hv.1
  refine ⟨us[j]'(by omega), ?_, hv.frozenAt j, hus _ (List.getElem_mem _)⟩
  rw [hv.cellAt j (by omega)]
  exact List.getElem?_eq_getElem _
/-- a row of a job is set -/
theorem OwnShop.store {w : World} {B M g k n cap j l : Nat} {v u : Value} {xs : List Int} (h : OwnShop w B M v k) (hj : OwnRows w B M (.slice (some ⟨g, 0, none⟩) n cap) n) (hu : w.ownsRow B 3 1 u l (xs.map (.int .i64))) :
    OwnShop (w.setCell ⟨g, j, none⟩ u) B w.heap.size v k ∧ w.grownBy (w.setCell ⟨g, j, none⟩ u) (some g) := by
  have hg := (hj.store (j := j) hu).2
  have hsz : (w.setCell ⟨g, j, none⟩ u).heap.size = w.heap.size := by simp
  obtain ⟨us, hv, hus⟩ := h
  obtain ⟨zs, hz, _⟩ := hj
  refine ⟨⟨us, hv.kept hg (own_ne hv hz (by decide)), fun x hx => ?_⟩, hg⟩
  obtain ⟨n', hx', hn', hlt⟩ := hus x hx
  have hxl : ∀ k, x.ownBlock = some k → k < w.heap.size := fun k hk => by
    obtain ⟨ys, h1, _⟩ := hx'
    exact (h1.lt k hk).2
  by_cases e : x.ownBlock = some g
  · obtain ⟨a, c, rfl, _⟩ := hx'.slice
    have hx2 := hx'
    obtain ⟨ys, h1, _⟩ := hx'
    rcases h1.2 with ⟨h2, _⟩ | ⟨g', c', cur, h2, _⟩
    · rw [h2] at e; simp [Value.ownBlock] at e
    · simp only [Value.slice.injEq] at h2
      obtain ⟨rfl, _, _⟩ := h2
      have eg : g' = g := by simpa [Value.ownBlock] using e
      subst eg
      exact ⟨n', (hx2.store (j := j) hu).1, hn', hxl⟩
  · obtain ⟨ys, h1, h2⟩ := hx'
    refine ⟨n', ⟨ys, h1.kept hg (.inr e), fun y hy => ?_⟩, hn', hxl⟩
    obtain ⟨l', xs', h3, _⟩ := h2 y hy
    exact ⟨l', xs', h3.kept hg (own_ne h3 hz (by decide)), fun k hk => (h3.lt k hk).2⟩
theorem OwnShop.shop {w : World} {B M k : Nat} {v : Value} (h : OwnShop w B M v k) (hk : k ≤ 9223372036854775807) :
    ∃ a cap shop, v = .slice a k cap ∧ k ≤ cap ∧ ShopAt w (fun b => B ≤ b ∧ b < w.heap.size) a k shop ∧ ∀ job ∈ shop, job.length ≤ 3 := by
  obtain ⟨us, h, hu⟩ := h
  have hlen : us.length = k := by have := h.1; simpa using this
  have hlt := h.lt
  have hc := fun g hg => h.cells (g := g) hg
  obtain ⟨shop, hr1, hr2⟩ := all_choose (Q := fun (u : Value) (r : List (List Int)) => ∃ a' l c, u = .slice a' l c ∧ l ≤ c ∧ RowsAt w (fun b => B ≤ b ∧ b < w.heap.size) a' l r ∧ l ≤ 3) us (fun u hu' => by
    obtain ⟨n, h1, hn, _⟩ := hu u hu'
    obtain ⟨a, cap, rows, h3, h4, h5⟩ := h1.rows (by omega)
    exact ⟨rows, a, n, cap, h3, h4, h5, hn⟩)
  have hall : ∀ job ∈ shop, job.length ≤ 3 := fun job hj => by
    obtain ⟨i, hi⟩ := List.mem_iff_getElem?.1 hj
    obtain ⟨_, _, _, l, _, _, _, h3, h4⟩ := hr2 i job hi
    rw [h3.lenEq]; exact h4
  rcases h.2 with ⟨rfl, rfl⟩ | ⟨g, cap, cur, rfl, _, _, hcap, _⟩
  · exact ⟨none, 0, shop, rfl, Nat.le_refl _, ⟨by omega, hk, fun h0 => absurd h0 (by omega)⟩, hall⟩
  · refine ⟨some ⟨g, 0, none⟩, cap, shop, rfl, hcap, ⟨by omega, hk, fun h0 => ⟨g, 0, rfl, hlt g rfl, fun i r hr => ?_⟩⟩, hall⟩
    obtain ⟨u, hu1, a', l, c, rfl, h4, h5, _⟩ := hr2 i r hr
    have := hc g rfl i _ hu1
    rw [add_plain] at this
    exact ⟨a', l, c, this, h4, h5⟩
end Go.Proofs.Ythmlgicjedhgfac
