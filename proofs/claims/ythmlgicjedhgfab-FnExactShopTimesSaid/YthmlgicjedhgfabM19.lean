import Derived.Test.YthmlgicjedhgfabRows
import Derived.WalkKit
import Derived.LoopTactic
import Derived.Outline
import Derived.WalkSpells
import Derived.WalkLawsBesides
import Derived.ProofKit
import Derived.Test.YthmlgicjedhgfabM0
import Derived.Test.YthmlgicjedhgfabM1
import Derived.Test.YthmlgicjedhgfabM2
import Derived.Test.YthmlgicjedhgfabM18
import Derived.Test.YthmlgicjedhgfabM10
import Derived.Test.YthmlgicjedhgfabM9
import Derived.Test.YthmlgicjedhgfabM13
import Derived.Lib.Hide
import Derived.Test.YthmlgicjedhgfabM16
import Derived.Test.YthmlgicjedhgfabM17
namespace Go.Proofs.Ythmlgicjedhgfab
open Go.RowKit Go.WideShapes

-- lists of lists of lists that may be marked
structure ShopFreeTS (w : World) (T S : Nat → Prop) (a : Option Addr) (len : Nat) : Prop where
  small : len ≤ 1048576
  cells : 0 < len → ∃ b off, a = some ⟨b, off, none⟩ ∧ T b ∧ ∀ i, i < len → ∃ a' l c, w.cell? ⟨b, off + i, none⟩ = some (.slice a' l c) ∧ RowsFree w T S a' l
theorem RowsFree.to {w w' : World} {T S T' S' : Nat → Prop} {a : Option Addr} {len : Nat} (h : RowsFree w T S a len) (hT : ∀ b, T b → T' b ∧ w'.heap[b]? = w.heap[b]?) (hS : ∀ b, S b → S' b ∧ w'.heap[b]? = w.heap[b]?) : RowsFree w' T' S' a len := by
  refine ⟨h.small, fun h0 => ?_⟩
  obtain ⟨b, off, ha, ht, hc⟩ := h.cells h0
  refine ⟨b, off, ha, (hT b ht).1, fun i hi => ?_⟩
  obtain ⟨a', l, c, h1, h2, h3⟩ := hc i hi
  exact ⟨a', l, c, by rw [World.cell?_of_block (w := w) (hT b ht).2]; exact h1, h2, h3.to hS⟩
theorem ShopFreeTS.to {w w' : World} {T S T' S' : Nat → Prop} {a : Option Addr} {len : Nat} (h : ShopFreeTS w T S a len) (hT : ∀ b, T b → T' b ∧ w'.heap[b]? = w.heap[b]?) (hS : ∀ b, S b → S' b ∧ w'.heap[b]? = w.heap[b]?) : ShopFreeTS w' T' S' a len := by
  refine ⟨h.small, fun h0 => ?_⟩
  obtain ⟨b, off, ha, ht, hc⟩ := h.cells h0
  refine ⟨b, off, ha, (hT b ht).1, fun i hi => ?_⟩
  obtain ⟨a', l, c, h1, h3⟩ := hc i hi
  exact ⟨a', l, c, by rw [World.cell?_of_block (w := w) (hT b ht).2]; exact h1, h3.to hT hS⟩
theorem ShopFreeTS.kept {w w' : World} {T S : Nat → Prop} {a : Option Addr} {len : Nat} (h : ShopFreeTS w T S a len) (g : KeptBut S w w') (hd : ∀ k, T k → ¬ S k) : ShopFreeTS w' T S a len := by
  refine ⟨h.small, fun h0 => ?_⟩
  obtain ⟨b, off, ha, ht, hc⟩ := h.cells h0
  refine ⟨b, off, ha, ht, fun i hi => ?_⟩
  obtain ⟨a', l, c, h1, h3⟩ := hc i hi
  exact ⟨a', l, c, by rw [World.cell?_of_block (w := w) (g.block b (hd b ht))]; exact h1, h3.kept g hd⟩
set_option maxHeartbeats 400000 in
theorem markShop_TS (T S : Nat → Prop) (a : Option Addr) (len cap : Nat) (k : Int) (w : World) (h : ShopFreeTS w T S a len) (hd : ∀ k, T k → ¬ S k) (h0 : 0 ≤ k) (h1 : k ≤ 1099511627776) :
    Calls Try.prog 18 #[.slice a len cap, .int .i64 k] w fun e w' => ∃ q : Int, e = .returned (.int .i64 q) ∧ k ≤ q ∧ q ≤ k + 1152921504606846976 ∧ KeptBut S w w' := by
  have hs := h.small
  go_enter Try.func18, Try.ntmps18
  go_wp2
  go_loopw [1, 5] (fun q i wr => ∃ (m : Nat) (n : Int), m ≤ len ∧ i = .int .i64 m ∧ q = .int .i64 n ∧ k ≤ n ∧ n ≤ k + 1099511627776 * (m : Int) ∧ KeptBut S w wr ∧ ShopFreeTS wr T S a len) (fun _ i _ => len - (intOf i).toNat)
  case atStart => exact ⟨0, k, Nat.zero_le _, rfl, rfl, Int.le_refl _, by omega, KeptBut.refl _ _, h⟩
  case round =>
    obtain ⟨m, n, hm, rfl, rfl, hn0, hn1, hk, hf⟩ := hrel
    have HK := Lib.hid hk
    clear hk
    by_cases hlt : m < len
    · obtain ⟨b, off, ha, ht, hc⟩ := hf.cells (by omega)
      obtain ⟨a', l, c, h2, h4⟩ := hc m hlt
      subst ha
      have hl4 := h4.small
      have HF := Lib.hid hf
      clear hf hc
      go_wp2_with fail
      refine (markIntSS_any T S a' l c n wr h4 hd (by omega) (by omega)).mono ?_
      rintro e w3 ⟨n2, rfl, hn2, hn3, hk3⟩
      have hn4 : n2 ≤ k + 1099511627776 * ((m : Int) + 1) := by omega
      clear hn3
      go_wp2
      go_roundw
      case rel => exact ⟨m + 1, n2, by omega, by go_num, rfl, by omega, by omega, HK.out.trans hk3, HF.out.kept hk3 hd⟩
      case measure => simp [intOf]; omega
    · obtain rfl : m = len := by omega
      go_wp2
      go_ret
      exact ⟨n, rfl, hn0, by omega, HK.out⟩
/-- a shop that may be marked, in the blocks lo ≤ b < hi -/
def ShopFree (w : World) (lo hi : Nat) (a : Option Addr) (len : Nat) : Prop := ∃ T S : Nat → Prop, (∀ k, T k → ¬ S k) ∧ (∀ k, T k → lo ≤ k ∧ k < hi) ∧ (∀ k, S k → lo ≤ k ∧ k < hi) ∧ ShopFreeTS w T S a len
theorem SameOn.sfree {lo hi : Nat} {a b : World} {p : Option Addr} {len : Nat} (h : SameOn lo hi a b) (x : ShopFree a lo hi p len) : ShopFree b lo hi p len := by
  obtain ⟨T, S, h1, h2, h3, h4⟩ := x
  exact ⟨T, S, h1, h2, h3, h4.to (fun k hk => ⟨hk, h k (h2 k hk).1 (h2 k hk).2⟩) (fun k hk => ⟨hk, h k (h3 k hk).1 (h3 k hk).2⟩)⟩
theorem markShop_any (lo hi : Nat) (a : Option Addr) (len cap : Nat) (k : Int) (w : World) (h : ShopFree w lo hi a len) (h0 : 0 ≤ k) (h1 : k ≤ 1099511627776) :
    Calls Try.prog 18 #[.slice a len cap, .int .i64 k] w fun e w' => ∃ q : Int, e = .returned (.int .i64 q) ∧ k ≤ q ∧ q ≤ k + 1152921504606846976 ∧ KeptBut (fun b => lo ≤ b ∧ b < hi) w w' := by
  obtain ⟨T, S, hd, _, h3, h4⟩ := h
  refine (markShop_TS T S a len cap k w h4 hd h0 h1).mono ?_
  rintro e w' ⟨q, rfl, a1, a2, a3⟩
  exact ⟨q, rfl, a1, a2, a3.wide h3⟩
/-- a copy of a shop so far, that may be marked: job j in the blocks from gs j to gs (j + 1) -/
structure Copy3F (w wr : World) (len k : Nat) (shop : List (List (List Int))) (gs : Nat → Nat) : Prop where
  zero : gs 0 = w.heap.size + 1
  up : ∀ j, j < k → gs j < gs (j + 1)
  last : gs k = wr.heap.size
  top : ∃ C : Array Value, wr.heap[w.heap.size]? = some (.cells C 27 (0, 0)) ∧ C.size = len ∧
    ∀ (j : Nat) (job : List (List Int)), j < k → shop[j]? = some job → C[j]? = some (.slice (some ⟨gs j, 0, none⟩) job.length job.length) ∧ RowsFree wr (fun b => b = gs j) (fun b => gs j < b ∧ b < gs (j + 1)) (some ⟨gs j, 0, none⟩) job.length
theorem gs_mono {gs : Nat → Nat} {k : Nat} (h : ∀ j, j < k → gs j < gs (j + 1)) : ∀ i j, i ≤ j → j ≤ k → gs i ≤ gs j := by
  intro i j hij
  induction j with
  | zero => intro _; obtain rfl : i = 0 := by omega
            exact Nat.le_refl _
  | succ j ih =>
    intro hj
    rcases Nat.lt_or_eq_of_le hij with h1 | rfl
    · exact Nat.le_trans (ih (by omega) (by omega)) (Nat.le_of_lt (h j (by omega)))
    · exact Nat.le_refl _
theorem copy3F_start (w : World) (len : Nat) (shop : List (List (List Int))) : Copy3F w (w.alloc (.cells (madeCells #[.slice none 0 0] len) 27)) len 0 shop (fun _ => w.heap.size + 1) :=
  ⟨rfl, fun j hj => absurd hj (by omega), by simp, ⟨_, heap_alloc_new w _, size_madeCells _ _, fun j r h => absurd h (by omega)⟩⟩
theorem Copy3F.step {w wr w3 : World} {len k : Nat} {shop : List (List (List Int))} {gs : Nat → Nat} {job : List (List Int)} (h : Copy3F w wr len k shop gs) (hk : k < len) (hjob : shop[k]? = some job) (hb : Below wr.heap.size wr w3) (hlt : wr.heap.size < w3.heap.size)
    (hf : RowsFree w3 (fun b => b = wr.heap.size) (fun b => wr.heap.size < b ∧ b < w3.heap.size) (some ⟨wr.heap.size, 0, none⟩) job.length) :
    Copy3F w (w3.setCell ⟨w.heap.size, k, none⟩ (.slice (some ⟨wr.heap.size, 0, none⟩) job.length job.length)) len (k + 1) shop (fun j => if j ≤ k then gs j else w3.heap.size) := by
  obtain ⟨C, h1, h2, h3⟩ := h.top
  have hg0 : w.heap.size < gs k := by have := gs_mono h.up 0 k (Nat.zero_le _) (Nat.le_refl _); have := h.zero; omega
  have hl := h.last
  have hot : ∀ b, b ≠ w.heap.size → (w3.setCell ⟨w.heap.size, k, none⟩ (.slice (some ⟨wr.heap.size, 0, none⟩) job.length job.length)).heap[b]? = w3.heap[b]? := fun b hb => Below.heap_setCell _ _ _ _ hb
  have h1' : w3.heap[w.heap.size]? = some (.cells C 27 (0, 0)) := (hb.block _ (by omega)).trans h1
  refine ⟨by simp only [Nat.zero_le, if_true]; exact h.zero, fun j hj => ?_, by simp only [show ¬ k + 1 ≤ k by omega, if_false]; simp [World.setCell], ⟨C.setIfInBounds k (.slice (some ⟨wr.heap.size, 0, none⟩) job.length job.length), heap_setCell_same w3 w.heap.size k C _ _ h1', by simpa using h2, fun j job' hj hjob' => ?_⟩⟩
  · rw [if_pos (by omega)]
    by_cases e : j + 1 ≤ k
    · rw [if_pos e]; exact h.up j (by omega)
    · obtain rfl : j = k := by omega
      rw [if_neg e, hl]; exact hlt
  · rw [Array.getElem?_setIfInBounds]
    by_cases e : k = j
    · subst e
      rw [if_pos rfl, if_pos (by omega)]
      have e' := hjob.symm.trans hjob'
      simp only [Option.some.injEq] at e'
      subst e'
      simp only [Nat.le_refl, if_true, show ¬ k + 1 ≤ k by omega, if_false]
      rw [hl]
      exact ⟨rfl, hf.to (fun b hb' => ⟨hb', hot b (by omega)⟩) (fun b hb' => ⟨hb', hot b (by omega)⟩)⟩
    · rw [if_neg e]
      have hj' : j < k := by omega
      obtain ⟨e1, e2⟩ := h3 j job' hj' hjob'
      simp only [show j ≤ k by omega, if_true, show j + 1 ≤ k by omega]
      have m1 := gs_mono h.up 0 j (Nat.zero_le _) (by omega)
      have m2 := gs_mono h.up (j + 1) k (by omega) (Nat.le_refl _)
      have m3 := h.up j hj'
      have hz := h.zero
      exact ⟨e1, e2.to (fun b hb' => ⟨hb', (hot b (by omega)).trans (hb.block b (by omega))⟩) (fun b hb' => ⟨hb', (hot b (by omega)).trans (hb.block b (by omega))⟩)⟩
theorem Copy3F.free {w wr : World} {len : Nat} {shop : List (List (List Int))} {gs : Nat → Nat} (h : Copy3F w wr len len shop gs) (hl : shop.length = len) (hs : len ≤ 1048576) : ShopFree wr w.heap.size wr.heap.size (some ⟨w.heap.size, 0, none⟩) len := by
  obtain ⟨C, h1, h2, h3⟩ := h.top
  have hz := h.zero
  have hla := h.last
  have m0 := gs_mono h.up 0 len (Nat.zero_le _) (Nat.le_refl _)
  refine ⟨fun b => b = w.heap.size ∨ ∃ j, j < len ∧ b = gs j, fun b => ∃ j, j < len ∧ gs j < b ∧ b < gs (j + 1), ?_, ?_, ?_, hs, fun h0 => ⟨_, 0, rfl, .inl rfl, fun i hi => ?_⟩⟩
  · rintro k (rfl | ⟨j, hj, rfl⟩) ⟨i, hi, h4, h5⟩
    · have := gs_mono h.up 0 i (Nat.zero_le _) (by omega); omega
    · rcases Nat.lt_or_ge i j with h6 | h6
      · have := gs_mono h.up (i + 1) j (by omega) (by omega); omega
      · have := gs_mono h.up j i h6 (by omega); omega
  · rintro k (rfl | ⟨j, hj, rfl⟩)
    · omega
    · have := gs_mono h.up 0 j (Nat.zero_le _) (by omega)
      have := gs_mono h.up (j + 1) len (by omega) (Nat.le_refl _)
      have := h.up j hj
      omega
  · rintro k ⟨j, hj, h4, h5⟩
    have := gs_mono h.up 0 j (Nat.zero_le _) (by omega)
    have := gs_mono h.up (j + 1) len (by omega) (Nat.le_refl _)
    omega
  · have hri : shop[i]? = some shop[i] := List.getElem?_eq_getElem (by omega)
    obtain ⟨e1, e2⟩ := h3 i _ hi hri
    refine ⟨_, _, (shop[i]).length, ?_, e2.to (fun b hb => ⟨.inr ⟨i, hi, hb⟩, rfl⟩) (fun b hb => ⟨⟨i, hi, hb.1, hb.2⟩, rfl⟩)⟩
    rw [Nat.zero_add]; simp only [World.cell?, h1]; exact e1
def CopyS3F (w : World) (len : Nat) (shop : List (List (List Int))) (e : Ending) (w' : World) : Prop := e = .returned (.slice (some ⟨w.heap.size, 0, none⟩) len len) ∧
  ShopAt w' (fun b => w.heap.size ≤ b ∧ b < w'.heap.size) (some ⟨w.heap.size, 0, none⟩) len shop ∧ ShopFree w' w.heap.size w'.heap.size (some ⟨w.heap.size, 0, none⟩) len ∧ w.heap.size < w'.heap.size ∧ Below w.heap.size w w'
set_option maxHeartbeats 400000 in
theorem toShopF_new (a : Option Addr) (len cap : Nat) (shop : List (List (List Int))) (w : World) (h : ShopAt w (· < w.heap.size) a len shop) (hl : len ≤ 1048576) (hr : sizesB shop) :
    Calls Try.prog 13 #[.slice a len cap] w (CopyS3F w len shop) := by
  have HL := Lib.hid h.lenEq
  have hmk := fun w => run_make_row' (P := Try.prog) 23 27 (.slice none 0 0) 24 Try.underlying23 Try.infoInts3 rfl .i64 .i64 len (by omega) (by omega) w
  go_enter Try.func13, Try.ntmps13
  go_wp2
  clear hmk
  go_loopw [4] (fun i wr => ∃ (k : Nat) (gs : Nat → Nat), k ≤ len ∧ i = .int .i64 k ∧ Copy3 w wr len k shop ∧ Copy3F w wr len k shop gs) (fun i _ => len - (intOf i).toNat)
  case atStart => exact ⟨0, _, Nat.zero_le _, rfl, copy3_start w len shop, copy3F_start w len shop⟩
  case round =>
    obtain ⟨k, gs, hk, rfl, hco, hcf⟩ := hrel
    have HCF := Lib.hid hcf
    clear hcf
    by_cases hlt : k < len
    · have hw := h.below hco.below
      obtain ⟨b, off, job, a', l, c, rfl, hx, hc, _, hri⟩ := hw.get hlt
      have hjl := hr job (List.mem_of_getElem? hx)
      have hl' : l ≤ 1048576 := by rw [← hri.lenEq]; exact hjl.1
      have hws := hco.lt
      have HX := Lib.hid hx
      have HRL := Lib.hid hri.lenEq
      clear hx
      have HTO := Lib.hid (toRows_new a' l c job wr (hri.to fun b hb => ⟨by omega, rfl⟩) hl' hjl.2)
      have HCO := Lib.hid hco
      obtain ⟨c0, hc1, hf1⟩ := hco.cell hlt
      clear hco
      go_wp2_with fail
      refine HTO.out.mono ?_
      rintro e w3 ⟨rfl, h3, hlt3, hb3, hff⟩
      have hco3 := HCO.out.later hb3
      obtain ⟨c1, hc2, hf2⟩ := hco3.cell hlt
      have HST := Lib.hid (hco3.step hlt HX.out ⟨hws, hlt3⟩ (by rw [HRL.out]; exact h3.to fun b hb => ⟨⟨by omega, hb.2⟩, rfl⟩))
      have HSF := Lib.hid (HCF.out.step hlt HX.out hb3 hlt3 (by rw [HRL.out]; exact hff))
      rw [HRL.out] at HST HSF
      clear hco3 h3 hb3 hc1 hf1 hff
      go_wp2
      go_roundw
      case rel => exact ⟨k + 1, _, by omega, by go_num, HST.out, HSF.out⟩
      case measure => simp [intOf]; omega
    · obtain rfl : k = len := by omega
      have HCO := Lib.hid hco
      clear hco
      go_wp2
      go_ret
      have hll := HL.out
      have hsf := HCF.out.free hll hl
      obtain ⟨C, h1, h2, h3⟩ := HCO.out.top
      refine ⟨rfl, ⟨hll, by omega, fun h0 => ⟨w.heap.size, 0, rfl, ⟨Nat.le_refl _, HCO.out.lt⟩, fun i job hi => ?_⟩⟩, hsf, HCO.out.lt, HCO.out.below⟩
      have hil : i < k := by
        have := (List.getElem?_eq_some_iff.1 hi).1
        omega
      obtain ⟨g, e1, e2, e3, e4⟩ := h3 i job hil hi
      refine ⟨some ⟨g, 0, none⟩, job.length, job.length, ?_, Nat.le_refl _, e4.to fun b hb => ⟨⟨by omega, hb.2⟩, rfl⟩⟩
      rw [Nat.zero_add]
      simp only [World.cell?, h1]
      exact e1
end Go.Proofs.Ythmlgicjedhgfab
namespace Go.Proofs.Ythmlgicjedhgfab
open Go.RowKit
theorem validShop_implB (a : Option Addr) (len cap : Nat) (shop : List (List (List Int))) (w : World) (h : ShopAt w (· < w.heap.size) a len shop) (hc : len ≤ cap) :
    Calls Try.prog 26 #[.slice a len cap] w (ValPost w (.bool (shopM shop))) :=
  (validShop_impl _ a len cap shop w h hc).mono fun _ _ h => ⟨h.1, h.2.below _⟩
theorem mostTurns_implR (a : Option Addr) (len cap : Nat) (shop : List (List (List Int))) (w : World) (h : ShopAt w (· < w.heap.size) a len shop) (hc : len ≤ cap) :
    Calls Try.prog 23 #[.slice a len cap] w (ResPost w (mostRes shop)) := (mostTurns_impl a len cap shop w h hc).mono fun _ _ h => h.res
theorem most_TurnsOf (shop : List (List (List Int))) : TurnsOf shop.length (slen shop) (mostM shop) := ⟨(most_turns shop).1, (most_turns shop).2⟩
theorem mostRes_len (shop : List (List (List Int))) : (mostRes shop).length ≤ 1048576 := by
  unfold mostRes
  cases hv : shopM shop
  · simp
  · rw [if_pos rfl, List.length_map]
    have h := most_TurnsOf shop
    have := turnsOf_len hv h.1 (turnsOf_cnt h)
    omega
end Go.Proofs.Ythmlgicjedhgfab
namespace Go.Proofs.Ythmlgicjedhgfab
open Go.RowKit Go.WideShapes

-- rows that lie apart, in the exact laws
def pre7 (L : Nat → Nat) : Nat → Nat
  | 0 => 0
  | i + 1 => pre7 L i + L i
theorem pre7_le {L : Nat → Nat} {c : Nat} : ∀ n, (∀ i, i < n → L i ≤ c) → pre7 L n ≤ c * n
  | 0, _ => Nat.zero_le _
  | n + 1, h => by have := pre7_le n (fun i hi => h i (by omega)); have := h n (by omega); rw [pre7, Nat.mul_succ]; omega
/-- row i lies in block bl i, at A i, L i long; the slices lie at (b, off) -/
structure RowsSep (w : World) (b off n : Nat) (A : Nat → Option Addr) (L C : Nat → Nat) (bl : Nat → Nat) : Prop where
  small : n ≤ 3
  cell : ∀ i, i < n → w.cell? ⟨b, off + i, none⟩ = some (.slice (A i) (L i) (C i))
  len : ∀ i, i < n → L i ≤ 1048576
  free : ∀ i, i < n → Free w (fun x => x = bl i) (A i) (L i)
  far : ∀ i, i < n → bl i ≠ b
  sep : ∀ i j, i < n → j < n → 0 < L i → i ≠ j → bl i ≠ bl j
def rowBlocks (n : Nat) (bl : Nat → Nat) (k : Nat) : Prop := ∃ i, i < n ∧ k = bl i
theorem RowsSep.kept {w w' : World} {b off n : Nat} {A : Nat → Option Addr} {L C : Nat → Nat} {bl : Nat → Nat} (h : RowsSep w b off n A L C bl) (g : KeptBut (rowBlocks n bl) w w') : RowsSep w' b off n A L C bl :=
  ⟨h.small, fun i hi => by rw [World.cell?_of_block (w := w) (g.block b (fun ⟨j, hj, e⟩ => h.far j hj e.symm))]; exact h.cell i hi, h.len, fun i hi => (h.free i hi).kept g, h.far, h.sep⟩
theorem RowsSep.to {w w' : World} {b off n : Nat} {A : Nat → Option Addr} {L C : Nat → Nat} {bl : Nat → Nat} (h : RowsSep w b off n A L C bl) (g : 0 < n → w'.heap[b]? = w.heap[b]?) (g2 : ∀ i, i < n → 0 < L i → w'.heap[bl i]? = w.heap[bl i]?) : RowsSep w' b off n A L C bl :=
  ⟨h.small, fun i hi => by rw [World.cell?_of_block (w := w) (g (by omega))]; exact h.cell i hi, h.len, fun i hi => by
    by_cases h0 : 0 < L i
    · exact (h.free i hi).to (fun k hk => ⟨hk, by rw [hk]; exact g2 i hi h0⟩)
    · exact ⟨(h.free i hi).small, fun h1 => absurd h1 h0⟩, h.far, h.sep⟩
def MarkedRows (w : World) (n : Nat) (A : Nat → Option Addr) (L : Nat → Nat) (bl : Nat → Nat) : Prop := ∀ i, i < n → IntsAt w (fun x => x = bl i) (A i) (L i) (upFrom (1 + (pre7 L i : Int)) (L i))
theorem MarkedRows.to {w w' : World} {n : Nat} {A : Nat → Option Addr} {L : Nat → Nat} {bl : Nat → Nat} (h : MarkedRows w n A L bl) (g2 : ∀ i, i < n → 0 < L i → w'.heap[bl i]? = w.heap[bl i]?) : MarkedRows w' n A L bl := fun i hi =>
  ⟨(h i hi).lenEq, (h i hi).small, fun h0 => ((h i hi).to (w' := w') (S' := fun x => x = bl i) (fun k hk => ⟨hk, by rw [hk]; exact g2 i hi h0⟩)).cells h0⟩
def MarkRowsPost (w : World) (n : Nat) (A : Nat → Option Addr) (L : Nat → Nat) (bl : Nat → Nat) (e : Ending) (w' : World) : Prop :=
  e = .returned (.int .i64 (1 + (pre7 L n : Int))) ∧ MarkedRows w' n A L bl ∧ KeptBut (rowBlocks n bl) w w'
set_option maxRecDepth 100000 in
set_option maxHeartbeats 2000000 in
theorem markRows_any {w : World} {b off n : Nat} {A : Nat → Option Addr} {L C : Nat → Nat} {bl : Nat → Nat} (a : Option Addr) (cap : Nat) (ha : 0 < n → a = some ⟨b, off, none⟩) (h : RowsSep w b off n A L C bl) :
    Calls Try.prog 20 #[.slice a n cap, .int .i64 1] w (MarkRowsPost w n A L bl) := by
  have hn3 := h.small
  have HH := Lib.hid h
  clear h
  go_enter Try.func20, Try.ntmps20
  go_wp2
  go_loopw [1, 5] (fun q i wr => ∃ m : Nat, m ≤ n ∧ i = .int .i64 m ∧ q = .int .i64 (1 + (pre7 L m : Int)) ∧ KeptBut (rowBlocks n bl) w wr ∧ ∀ i, i < m → IntsAt wr (fun x => x = bl i) (A i) (L i) (upFrom (1 + (pre7 L i : Int)) (L i))) (fun _ i _ => n - (intOf i).toNat)
  case atStart => exact ⟨0, Nat.zero_le _, rfl, rfl, KeptBut.refl _ _, fun i hi => absurd hi (by omega)⟩
  case round =>
    obtain ⟨m, hm, rfl, rfl, hk, hi⟩ := hrel
    have HK := Lib.hid hk
    have HI := Lib.hid hi
    clear hi
    by_cases hlt : m < n
    · obtain rfl := ha (by omega)
      have hs := HH.out.kept hk
      have hc := hs.cell m hlt
      have hf := hs.free m hlt
      have hl := hs.len m hlt
      have hp := pre7_le (L := L) (c := 1048576) m (fun i hi => HH.out.len i (by omega))
      have HPS := Lib.hid (show pre7 L (m + 1) = pre7 L m + L m from rfl)
      have HSEP := Lib.hid (fun i (hi : i < m) (h0 : 0 < L i) => HH.out.sep i m (by omega) hlt h0 (by omega))
      clear hs hk
      obtain ⟨Am, hAm⟩ : ∃ x, A m = x := ⟨_, rfl⟩
      obtain ⟨Lm, hLm⟩ : ∃ x, L m = x := ⟨_, rfl⟩
      obtain ⟨pm, hpm⟩ : ∃ x, pre7 L m = x := ⟨_, rfl⟩
      have HAM := Lib.hid hAm
      have HLM := Lib.hid hLm
      have HPM := Lib.hid hpm
      rw [hAm, hLm] at hc hf
      rw [hLm] at hl HPS
      rw [hpm] at hp HPS ⊢
      clear hAm hLm hpm
      go_wp2_with fail
      refine (markIntS_any (fun x => x = bl m) Am Lm _ (1 + (pm : Int)) wr hf (by omega) (by omega) (by omega)).mono ?_
      rintro e w3 ⟨rfl, hi3, hk3⟩
      have HI3 := Lib.hid hi3
      have HK3 := Lib.hid hk3
      clear hi3 hk3 hf
      go_wp2_with fail
      go_roundw
      case rel =>
        refine ⟨m + 1, by omega, by go_num, by rw [HPS.out]; congr 1; push_cast; omega, HK.out.trans (HK3.out.wide (fun k hk => ⟨m, hlt, hk⟩)), fun i hi => ?_⟩
        by_cases e : i = m
        · subst e; rw [HAM.out, HLM.out, HPM.out]; exact HI3.out
        · have h1 := HI.out i (by omega)
          refine ⟨h1.lenEq, h1.small, fun h0 => ?_⟩
          exact (HK3.out.ints h1 (fun k hk e2 => HSEP.out i (by omega) h0 (hk.symm.trans e2))).cells h0
      case measure => simp [intOf]; omega
    · obtain rfl : m = n := by omega
      clear hk
      obtain ⟨pm, hpm⟩ : ∃ x, pre7 L m = x := ⟨_, rfl⟩
      have HPM := Lib.hid hpm
      rw [hpm]
      clear hpm
      go_wp2_with fail
      go_ret
      exact ⟨by rw [HPM.out]; rfl, HI.out, HK.out⟩
set_option maxRecDepth 100000 in
set_option maxHeartbeats 2000000 in
theorem heldRows_any {w : World} {b off n : Nat} {A : Nat → Option Addr} {L C : Nat → Nat} {bl : Nat → Nat} (a : Option Addr) (cap : Nat) (ha : 0 < n → a = some ⟨b, off, none⟩) (h : RowsSep w b off n A L C bl) (hm : MarkedRows w n A L bl) :
    Calls Try.prog 21 #[.slice a n cap, .int .i64 1] w fun e w' => e = .returned (.int .i64 (1 + (pre7 L n : Int))) ∧ w = w' := by
  have hn3 := h.small
  have HH := Lib.hid h
  have HM := Lib.hid hm
  clear h hm
  go_enter Try.func21, Try.ntmps21
  go_wp2
  go_loop [1, 5] (fun q i => ∃ m : Nat, m ≤ n ∧ i = .int .i64 m ∧ q = .int .i64 (1 + (pre7 L m : Int))) (fun _ i => n - (intOf i).toNat)
  case atStart => exact ⟨0, Nat.zero_le _, rfl, rfl⟩
  case round =>
    obtain ⟨m, hm, rfl, rfl⟩ := hrel
    by_cases hlt : m < n
    · obtain rfl := ha (by omega)
      have hc := HH.out.cell m hlt
      have hl := HH.out.len m hlt
      have hi := HM.out m hlt
      have hp := pre7_le (L := L) (c := 1048576) m (fun i hi => HH.out.len i (by omega))
      have HPS := Lib.hid (show pre7 L (m + 1) = pre7 L m + L m from rfl)
      generalize A m = Am at *
      generalize L m = Lm at *
      generalize pre7 L m = pm at *
      go_wp2_with fail
      refine (heldIntS_any (fun x => x = bl m) Am Lm _ (1 + (pm : Int)) w hi (by omega) (by omega) (by omega)).mono ?_
      rintro e w3 ⟨rfl, rfl⟩
      have hnn : ¬ (1 + (pm : Int) + (Lm : Int)) < 0 := by omega
      go_wp2_with fail
      go_round
      case rel => exact ⟨m + 1, by omega, by go_num, by rw [HPS.out]; congr 1; push_cast; omega⟩
      case measure => simp [intOf]; omega
    · obtain rfl : m = n := by omega
      obtain ⟨pm, hpm⟩ : ∃ x, pre7 L m = x := ⟨_, rfl⟩
      have HPM := Lib.hid hpm
      rw [hpm]
      clear hpm
      go_wp2_with fail
      go_ret
      exact ⟨by rw [HPM.out]; rfl, rfl⟩
/-- a result of rows, told so -/
theorem RowsO.sep7 {w w' : World} {a : Option Addr} {len cap : Nat} {rows : List (List Int)} (h : RowsO w w' (.slice a len cap) rows) (hl : rows.length ≤ 3) :
    ∃ (b off : Nat) (A : Nat → Option Addr) (L C bl : Nat → Nat), (0 < len → a = some ⟨b, off, none⟩) ∧ RowsSep w' b off len A L C bl ∧ (0 < len → w.heap.size ≤ b ∧ b < w'.heap.size) ∧ ∀ i, i < len → w.heap.size ≤ bl i ∧ (0 < L i → bl i < w'.heap.size) := by
  obtain ⟨us, h1, h2, h3, _⟩ := h
  obtain ⟨a', c', e, hc⟩ := own_slice h1
  simp only [Value.slice.injEq] at e
  obtain ⟨rfl, rfl, rfl⟩ := e
  have hul : us.length = rows.length := by have := h1.1; simpa using this
  rcases Nat.eq_zero_or_pos rows.length with h0 | h0
  · refine ⟨0, 0, fun _ => none, fun _ => 0, fun _ => 0, fun _ => 0, fun h => by omega, ⟨hl, fun i hi => by omega, fun i hi => by omega, fun i hi => by omega, fun i hi => by omega, fun i j hi => by omega⟩, fun h => by omega, fun i hi => by omega⟩
  · obtain ⟨G, cp, e, hG1, hG2⟩ := h1.form h0
    simp only [Value.slice.injEq, true_and] at e
    obtain ⟨rfl, rfl⟩ := e
    have hu : ∀ i, i < rows.length → us[i]? = some (us.getD i (.slice none 0 0)) := fun i hi => by rw [List.getD_eq_getElem?_getD, List.getElem?_eq_getElem (by omega)]; rfl
    have hr : ∀ i, i < rows.length → ∃ (a : Option Addr) (l c : Nat) (r : List Int), us.getD i (.slice none 0 0) = .slice a l c ∧ l ≤ 1048576 ∧ w'.ownsRow w.heap.size 3 1 (.slice a l c) l (r.map (.int .i64)) := fun i hi => by
      obtain ⟨a, l, c, r, _, e2, _, e4, e5⟩ := h2 i _ (hu i hi)
      exact ⟨a, l, c, r, e2, e4, by rw [← e2]; exact e5⟩
    refine ⟨G, 0, fun i => adr7 (us.getD i (.slice none 0 0)), fun i => capOf (us.getD i (.slice none 0 0)), fun i => cap7 (us.getD i (.slice none 0 0)), fun i => if 0 < capOf (us.getD i (.slice none 0 0)) then blk7 (us.getD i (.slice none 0 0)) else w'.heap.size + 1, fun _ => rfl, ⟨hl, fun i hi => ?_, fun i hi => ?_, fun i hi => ?_, fun i hi => ?_, fun i j hi hj h0 hij => ?_⟩, fun _ => ⟨hG1, hG2⟩, fun i hi => ?_⟩
    · obtain ⟨a, l, c, r, e, _, _⟩ := hr i hi
      rw [Nat.zero_add, h1.cellAt i (by omega), hu i hi, e]; rfl
    · obtain ⟨a, l, c, r, e, hl2, _⟩ := hr i hi
      try dsimp only
      rw [e]; exact hl2
    · obtain ⟨a, l, c, r, e, hl2, ho⟩ := hr i hi
      try dsimp only
      rw [e]
      show Free w' (fun x => x = if 0 < l then blk7 (.slice a l c) else w'.heap.size + 1) a l
      refine ⟨by omega, fun h5 => ?_⟩
      obtain ⟨g, cq, e2, _, _⟩ := ho.form h5
      simp only [Value.slice.injEq, true_and] at e2
      obtain ⟨rfl, rfl⟩ := e2
      refine ⟨g, 0, rfl, by rw [if_pos h5]; rfl, fun q hq => ?_⟩
      rw [Nat.zero_add]
      have hll : r.length = l := by have := ho.1; simpa using this
      exact ⟨⟨_, by rw [ho.cellAt q (by simp; omega)]; exact List.getElem?_eq_getElem (by simp; omega)⟩, ho.frozenAt q⟩
    · obtain ⟨a, l, c, r, e, hl2, ho⟩ := hr i hi
      try dsimp only
      rw [e]
      show (if 0 < l then blk7 (.slice a l c) else w'.heap.size + 1) ≠ G
      split
      · rename_i h5
        obtain ⟨g, cq, e2, _, _⟩ := ho.form h5
        simp only [Value.slice.injEq, true_and] at e2
        obtain ⟨rfl, rfl⟩ := e2
        have := own_ne ho h1 (by decide)
        simpa [Value.ownBlock, blk7, adr7] using this
      · omega
    · obtain ⟨a, l, c, r, e, hl2, ho⟩ := hr i hi
      obtain ⟨a', l', c', r', e', hl2', ho'⟩ := hr j hj
      have hs := h3 i j _ _ hij (hu i hi) (hu j hj)
      rw [e, e'] at hs
      try dsimp only at h0 ⊢
      rw [e] at h0 ⊢
      rw [e']
      show (if 0 < l then blk7 (.slice a l c) else w'.heap.size + 1) ≠ if 0 < l' then blk7 (.slice a' l' c') else w'.heap.size + 1
      have h5 : 0 < l := h0
      rw [if_pos h5]
      obtain ⟨g, cq, e2, _, hg⟩ := ho.form h5
      simp only [Value.slice.injEq, true_and] at e2
      obtain ⟨rfl, rfl⟩ := e2
      split
      · rename_i h6
        obtain ⟨g', cq', e2, _, _⟩ := ho'.form h6
        simp only [Value.slice.injEq, true_and] at e2
        obtain ⟨rfl, rfl⟩ := e2
        simpa [Value.ownBlock, blk7, adr7] using hs
      · show g ≠ _; omega
    · obtain ⟨a, l, c, r, e, hl2, ho⟩ := hr i hi
      try dsimp only
      rw [e]
      show w.heap.size ≤ (if 0 < l then blk7 (.slice a l c) else w'.heap.size + 1) ∧ (0 < l → (if 0 < l then blk7 (.slice a l c) else w'.heap.size + 1) < w'.heap.size)
      by_cases h5 : 0 < l
      · rw [if_pos h5]
        obtain ⟨g, cq, e2, hg1, hg2⟩ := ho.form h5
        simp only [Value.slice.injEq, true_and] at e2
        obtain ⟨rfl, rfl⟩ := e2
        exact ⟨hg1, fun _ => hg2⟩
      · rw [if_neg h5]
        exact ⟨by omega, fun h => absurd h h5⟩
end Go.Proofs.Ythmlgicjedhgfab
