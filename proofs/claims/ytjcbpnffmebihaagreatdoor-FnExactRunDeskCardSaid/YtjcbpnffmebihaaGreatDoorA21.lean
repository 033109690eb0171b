import Derived.Test.YtjcbpnffmebihaaGreatDoorA20
import Derived.Test.YtjcbpnffmebihaaGreatDoorRows
import Derived.WalkKit
import Derived.LoopTactic
import Derived.Outline
import Derived.WalkSpells
import Derived.WalkLawsBesides
import Derived.ProofKit
import Derived.Deep.AppendLies
import Derived.Lib.Hide
import Derived.Deep.QuietTactic
import Derived.BigQuiet
import Derived.IntWalk
import Derived.Deep.LoopGhost
import Derived.Shelf.RegionOpenPlain
import Derived.Deep.RegionLaw
import Derived.Deep.RegionHeld3
namespace Go.Proofs.YtjcbpnffmebihaaGreatDoor
open Go.RowKit Go.WideShapes

set_option maxRecDepth 100000 in
theorem leastOne_no (a : Option Addr) (len cap : Nat) (rows : List (List Int)) (a2 : Option Addr) (len2 cap2 : Nat) (o : List Int) (w : World) (h : RowsAt w (· < w.heap.size) a len rows) (g : IntsAt w (· < w.heap.size) a2 len2 o) (hc : len ≤ cap) (hf : spanFine rows o = false) :
    Calls Tryz.prog 112 #[.slice a len cap, .iface 137 (.slice a2 len2 cap2)] w (ValPost w (.int .i64 (-1))) := by
  have hB := (Below.refl w.heap.size w).alloc (Nat.le_refl _) (.cells #[.slice a len cap] 37)
  have HFIT := Lib.hid (fitOne_any _ _ a len cap rows a2 len2 cap2 o _ (h.below hB) (g.below hB) hc)
  rw [hf] at HFIT
  refine (callsIn_wide (n := 9)).1 ?_
  refine callsIn_of_wp Tryz.func112 rfl trivial ?_ rfl
  simp only [Tryz.ntmps112, List.size_toArray, List.length_cons, List.length_nil, Nat.reduceAdd, Nat.reduceSub, Array.replicate_succ, Array.replicate_zero, List.push_toArray, List.append_toArray, List.nil_append, List.cons_append]
  clear hB
  gi_wp2_with fail
  refine ⟨trivial, (callsIn_wide.2 HFIT.out).mono ?_⟩
  rintro e w2 ⟨rfl, hdw⟩
  have HD := Lib.hid (((Below.refl w.heap.size w).alloc (Nat.le_refl _) (.cells #[.slice a len cap] 37)).trans (hdw.below _))
  clear hdw
  gi_wp2_with fail
  go_ret
  exact ⟨rfl, HD.out⟩
theorem spanOf_impl (a : Option Addr) (len cap : Nat) (rows : List (List Int)) (a2 : Option Addr) (len2 cap2 : Nat) (o : List Int) (w : World) (h : RowsAt w (· < w.heap.size) a len rows) (g : IntsAt w (· < w.heap.size) a2 len2 o) (hc : len ≤ cap) (hc2 : len2 ≤ cap2) :
    Calls Tryz.prog 87 #[.slice a len cap, .slice a2 len2 cap2] w (ValPost w (.int .i64 (spanRes rows o))) := by
  have HL := Lib.hid h.lenEq
  cases hf : spanFine rows o
  · rw [spanRes_no hf]
    go_enter Tryz.func87, Tryz.ntmps87
    go_wp2_with fail
    refine (leastOne_no a len cap rows a2 len2 cap2 o w h g hc hf).mono ?_
    rintro e w' ⟨rfl, hb⟩
    go_wp2_with fail
    go_ret
    exact ⟨rfl, hb⟩
  · rw [spanRes_yes hf]
    obtain ⟨hp, hO⟩ := spanFine_get hf
    have hl8 : len ≤ 8 := by have := (pairs_get hp).1; have := HL.out; omega
    have hl2 : len2 = len := by have := hO.2; have := HL.out; have := g.lenEq; omega
    have hG := leastSpan_gen a len cap rows 137 232 233 (.slice a2 len2 cap2) 137 (fun _ => o) 1 (OneE a2 len2 cap2 (· < w.heap.size) o) w h hp
      (fun _ _ => by kernel_rfl) (enters_of Tryz.func232 (by kernel_rfl) rfl) (enters_of Tryz.func233 (by kernel_rfl) rfl)
      (fun w' hb => (fitOne_any _ _ a len cap rows a2 len2 cap2 o w' (h.below hb) (g.below hb) hc).mono (by rintro e w2 ⟨rfl, hd⟩; rw [hf]; exact ⟨rfl, hd⟩))
      (fun w' => eachOne_any 8 a2 len2 cap2 w')
      (fun w' hsz _ hcell => one_seq a2 len2 cap2 _ _ o w' (by omega) hcell)
      (fun m k x A B he _ => he)
      (fun m k x W he hb => by
        obtain ⟨rfl, rfl⟩ := he
        exact ⟨_, g.below hb, by dsimp only; omega, fun x hx => by have := hO.1.1 x hx; rw [HL.out] at this; exact this⟩)
    have hv : lstT (fun _ => spanT (ta rows) (tb rows) (nO o)) 1 = spanT (ta rows) (tb rows) (nO o) := by
      rw [lstT, lstT]; simp
    rw [hv] at hG
    generalize spanT (ta rows) (tb rows) (nO o) = v at hG ⊢
    have HG := Lib.hid hG
    clear hv hG hl2
    go_enter Tryz.func87, Tryz.ntmps87
    go_wp2_with fail
    refine HG.out.mono ?_
    rintro e w' ⟨rfl, hb⟩
    go_wp2_with fail
    go_ret
    exact ⟨rfl, hb⟩
end Go.Proofs.YtjcbpnffmebihaaGreatDoor
namespace Go.Proofs.YtjcbpnffmebihaaGreatDoor

-- the rule by comparing (plain)
def cc (p q : Int) : Int := if p < q then -1 else if q < p then 1 else 0
def cmp4 (x0 x1 y0 y1 : Int) : Int := if x0 < x1 then (if y0 < y1 then cc x0 y0 else -1) else (if y0 < y1 then 1 else cc y1 x1)
def cmpV (a b : Nat → Int) (x y : Nat) : Int := cmp4 (a x) (b x) (a y) (b y)
theorem cmpV_lt {a b : Nat → Int} {x y : Nat} (h : y < x) : cmpV a b x y < 0 ↔ ¬ btr a b y x := by
  unfold cmpV cmp4 cc btr
  by_cases h1 : a x < b x <;> by_cases h2 : a y < b y <;> simp only [h1, h2, if_true, if_false, not_true, not_false_eq_true]
  · constructor
    · intro h3; split at h3
      · omega
      · split at h3 <;> omega
    · intro h3; rw [if_pos (by omega)]; omega
  · exact ⟨fun _ => trivial, fun _ => by omega⟩
  · exact ⟨fun h3 => by omega, fun h3 => h3.elim⟩
  · constructor
    · intro h3; split at h3
      · omega
      · split at h3 <;> omega
    · intro h3; rw [if_pos (by omega)]; omega
theorem insR_split {a b : Nat → Int} {x : Nat} : ∀ (l1 l2 : List Nat), (∀ y ∈ l1, btr a b y x) → (∀ y ∈ l2, ¬ btr a b y x) → insR a b x (l1 ++ l2) = l1 ++ x :: l2 := by
  intro l1
  induction l1 with
  | nil =>
    intro l2 _ h2
    cases l2 with
    | nil => rfl
    | cons y l2 => rw [List.nil_append, insR, if_neg (h2 y (by simp))]; rfl
  | cons y l1 ih =>
    intro l2 h1 h2
    rw [List.cons_append, insR, if_pos (h1 y (by simp)), ih l2 (fun z hz => h1 z (by simp [hz])) h2]; rfl
/-- what lies there while job i is put in its place: l1 ahead of it, l2 behind it, and those that are still to come -/
def insAt (l1 : List Nat) (i : Nat) (l2 : List Nat) (n : Nat) : List Nat := l1 ++ i :: (l2 ++ List.range' (i + 1) (n - (i + 1)))
theorem insAt_length {l1 l2 : List Nat} {i n : Nat} (h : l1.length + l2.length = i) (hi : i < n) : (insAt l1 i l2 n).length = n := by
  simp only [insAt, List.length_append, List.length_cons, List.length_range']; omega
theorem insAt_here (l1 l2 : List Nat) (i n : Nat) : (insAt l1 i l2 n).getD l1.length 0 = i := by
  simp [insAt, List.getD_eq_getElem?_getD]
theorem insAt_ahead (l1 l2 : List Nat) (y i n : Nat) : (insAt (l1 ++ [y]) i l2 n).getD l1.length 0 = y := by
  simp [insAt, List.getD_eq_getElem?_getD]
theorem insAt_swap (l1 l2 : List Nat) (y i n : Nat) : swN (insAt (l1 ++ [y]) i l2 n) (l1.length + 1) l1.length = insAt l1 i (y :: l2) n := by
  have h1 : (insAt (l1 ++ [y]) i l2 n).getD (l1.length + 1) 0 = i := by have := insAt_here (l1 ++ [y]) l2 i n; simpa using this
  unfold swN
  rw [h1, insAt_ahead]
  unfold insAt
  rw [List.append_assoc, List.singleton_append]
  rw [List.set_append, if_neg (by omega), Nat.add_sub_cancel_left, List.set_cons_succ, List.set_cons_zero, List.set_append, if_neg (by omega), Nat.sub_self, List.set_cons_zero]
  simp
theorem insAt_next {a b : Nat → Int} {l1 l2 : List Nat} {i n : Nat} (hi : i + 1 < n) (h : l1 ++ i :: l2 = ruleT a b (i + 1)) : insAt l1 i l2 n = insAt (ruleT a b (i + 1)) (i + 1) [] n := by
  unfold insAt
  rw [← h]
  have : List.range' (i + 1) (n - (i + 1)) = (i + 1) :: List.range' (i + 1 + 1) (n - (i + 1 + 1)) := by
    obtain ⟨m, hm⟩ : ∃ m, n - (i + 1) = m + 1 := ⟨n - (i + 1) - 1, by omega⟩
    rw [hm, List.range'_succ, show n - (i + 1 + 1) = m by omega]
  rw [this]; simp
theorem insAt_last {a b : Nat → Int} {l1 l2 : List Nat} {i : Nat} (h : l1 ++ i :: l2 = ruleT a b (i + 1)) : insAt l1 i l2 (i + 1) = ruleT a b (i + 1) := by
  unfold insAt; rw [Nat.sub_self, List.range'_zero, List.append_nil, h]
theorem insAt_first {a b : Nat → Int} {n : Nat} (hn : 1 < n) : List.range n = insAt (ruleT a b 1) 1 [] n := by
  unfold insAt
  obtain ⟨m, rfl⟩ : ∃ m, n = m + 2 := ⟨n - 2, by omega⟩
  rw [List.range_eq_range', List.range'_succ, List.range'_succ]
  rfl
theorem ruleT_lenN (a b : Nat → Int) (n : Nat) : (ruleT a b n).length = n := by have := (ruleT_perm a b n).length_eq; simpa using this
/-- the loop's end: what is ahead is better, what is behind is not -/
theorem ins_done {a b : Nat → Int} {l1 l2 : List Nat} {i : Nat} (h : l1 ++ l2 = ruleT a b i) (h1 : ∀ y, l1.getLast? = some y → btr a b y i) (h2 : ∀ y ∈ l2, ¬ btr a b y i) : l1 ++ i :: l2 = ruleT a b (i + 1) := by
  rw [ruleT, ← h]
  refine (insR_split l1 l2 (fun y hy => ?_) h2).symm
  have hs : l1.Pairwise (btr a b) := by
    have := ruleT_sorted a b i
    rw [← h] at this
    exact (List.pairwise_append.1 this).1
  rcases List.eq_nil_or_concat l1 with rfl | ⟨l, z, rfl⟩
  · cases hy
  · have hz := h1 z (by simp)
    rw [List.concat_eq_append] at hy hs
    rcases List.mem_append.1 hy with hy | hy
    · exact btr_trans ((List.pairwise_append.1 hs).2.2 y hy z (by simp)) hz
    · simp only [List.mem_singleton] at hy; subst hy; exact hz
end Go.Proofs.YtjcbpnffmebihaaGreatDoor
namespace Go.Proofs.YtjcbpnffmebihaaGreatDoor
open Go.RowKit Go.WideShapes

def natI (h : List Nat) : List Int := h.map (fun x : Nat => (x : Int))
theorem natI_get {h : List Nat} {k : Nat} {x : Int} (hx : (natI h)[k]? = some x) : ∃ y : Nat, x = (y : Int) ∧ h[k]? = some y := by
  unfold natI at hx
  rw [List.getElem?_map] at hx
  cases hq : h[k]? with
  | none => rw [hq] at hx; cases hx
  | some y => rw [hq] at hx; simp only [Option.map_some, Option.some.injEq] at hx; exact ⟨y, hx.symm, rfl⟩
end Go.Proofs.YtjcbpnffmebihaaGreatDoor
namespace Go.Proofs.YtjcbpnffmebihaaGreatDoor
open Go.RowKit Go.WideShapes

theorem Tryz.infoIntOB : (Tryz.prog.info? 3).map (fun i => (i.zero, i.size, i.bytes)) = some (some (.int .i64 0), 1, 8) := by kernel_rfl
/-- the cells of block b, from its first one on, hold these numbers, and may be written -/
def RowB (w : World) (b : Nat) (xs : List Nat) : Prop := ∀ (q x : Nat), xs[q]? = some x → w.cell? ⟨b, q, none⟩ = some (.int .i64 (x : Int)) ∧ w.frozen? ⟨b, q, none⟩ = false
theorem RowB.block {w w' : World} {b : Nat} {xs : List Nat} (h : RowB w b xs) (e : w'.heap[b]? = w.heap[b]?) : RowB w' b xs := by
  intro q x hx
  obtain ⟨h1, h2⟩ := h q x hx
  exact ⟨by rw [World.cell?_of_block (w := w) e]; exact h1, by rw [World.frozen?_of_block (w := w) e]; exact h2⟩
theorem RowB.drew {w : World} {b : Nat} {xs : List Nat} (h : RowB w b xs) : RowB w.drew b xs := h
theorem RowB.drewN {w : World} {b : Nat} {xs : List Nat} (h : RowB w b xs) (n : Nat) : RowB (w.drewN n) b xs := h
theorem RowB.at {w : World} {b q : Nat} {xs : List Nat} (h : RowB w b xs) (hq : q < xs.length) : w.cell? ⟨b, q, none⟩ = some (.int .i64 ((xs.getD q 0 : Nat) : Int)) ∧ w.frozen? ⟨b, q, none⟩ = false := by
  refine h q _ ?_
  rw [List.getD_eq_getElem?_getD, List.getElem?_eq_getElem hq]; rfl
theorem RowB.lt {w : World} {b : Nat} {xs : List Nat} (h : RowB w b xs) (hq : 0 < xs.length) : b < w.heap.size := World.block_lt_of_cell? w _ (h.at hq).1
theorem RowB.put {w : World} {b : Nat} {xs : List Nat} (h : RowB w b xs) {k : Nat} (hk : k < xs.length) (v : Nat) : RowB (w.setCell ⟨b, k, none⟩ (.int .i64 (v : Int))) b (xs.set k v) := by
  intro q x hx
  rw [List.getElem?_set] at hx
  refine ⟨?_, ?_⟩
  · by_cases e : k = q
    · subst e
      rw [if_pos rfl, if_pos hk] at hx
      cases hx
      exact World.cell?_setCell_same _ _ _ (h.at hk).1
    · rw [if_neg e] at hx
      rw [World.cell?_setCell_other _ _ _ _ (by intro e'; injection e' with _ e2; exact e (by omega))]
      exact (h q x hx).1
  · rw [World.frozen?_setCell]
    by_cases e : k = q
    · subst e; exact (h.at hk).2
    · rw [if_neg e] at hx; exact (h q x hx).2
theorem RowB.ints {w : World} {b n : Nat} {xs : List Nat} (h : RowB w b xs) (hl : xs.length = n) (hn : n ≤ 1048576) {S : Nat → Prop} (hS : S b) : IntsAt w S (some ⟨b, 0, none⟩) n (natI xs) :=
  ⟨by simp [natI, hl], by omega, fun _ => ⟨b, 0, rfl, hS, fun i x hx => by
    obtain ⟨y, rfl, hy⟩ := natI_get hx
    have := (h i y hy).1
    simpa using this⟩⟩
theorem RowB.swap {w : World} {b : Nat} {xs : List Nat} (h : RowB w b xs) {i j : Nat} (hi : i < xs.length) (hj : j < xs.length) :
    RowB ((w.setCell ⟨b, i, none⟩ (.int .i64 ((xs.getD j 0 : Nat) : Int))).setCell ⟨b, j, none⟩ (.int .i64 ((xs.getD i 0 : Nat) : Int))) b (swN xs i j) :=
  (h.put hi (xs.getD j 0)).put (by simpa using hj) (xs.getD i 0)
end Go.Proofs.YtjcbpnffmebihaaGreatDoor
namespace Go.Proofs.YtjcbpnffmebihaaGreatDoor
open Go.RowKit Go.WideShapes

attribute [local go_sem] Oper.semAt_some

set_option maxHeartbeats 1000000 in
theorem firstOrder_any (n : Nat) (w : World) (hn : n ≤ 8) :
    Calls Tryz.prog 106 #[.int .i64 n] w fun e w' => e = .returned (.slice (some ⟨w.heap.size, 0, none⟩) n n) ∧ OwnF w w' n (fun q => (q : Int)) := by
  have hmk := fun w => run_make_row' (P := Tryz.prog) 35 3 (.int .i64 0) 8 Tryz.underlying35 Tryz.infoIntOB rfl .i64 .i64 n (by omega) (by omega) w
  go_enter Tryz.func106, Tryz.ntmps106
  go_wp2_with fail
  clear hmk
  go_loopw [9] (fun i wr => ∃ k : Nat, k ≤ n ∧ i = .int .i64 k ∧ OwnF w wr n (fun q => if q < k then (q : Int) else 0)) (fun i _ => n - (intOf i).toNat)
  case atStart => exact ⟨0, Nat.zero_le _, rfl, (OwnF.start w n (by omega)).congr (fun q _ => by rw [if_neg (by omega)])⟩
  case round =>
    obtain ⟨k, hk, rfl, hC⟩ := hrel
    by_cases hlt : k < n
    · obtain ⟨c1, f1⟩ := hC.cell hlt
      have HC := Lib.hid hC
      have hkn : (k : Int) < (n : Int) := by omega
      clear hC
      go_wp2_with fail
      go_roundw
      case rel => exact ⟨k + 1, by omega, by go_num, (HC.out.put k _).congr (fun q hq => by
        by_cases e : q = k
        · subst e; rw [if_pos rfl, if_pos (by omega)]
        · rw [if_neg e]
          by_cases e2 : q < k
          · rw [if_pos e2, if_pos (by omega)]
          · rw [if_neg e2, if_neg (by omega)])⟩
      case measure => simp [intOf] <;> omega
    · have HC := Lib.hid (hC.congr (g := fun q => (q : Int)) (fun q hq => by rw [if_pos (by omega)]))
      clear hC
      go_wp2_with fail
      go_ret
      exact ⟨rfl, HC.out⟩
theorem OwnF.rowB {w w' : World} {n : Nat} (h : OwnF w w' n (fun q => (q : Int))) : RowB w' w.heap.size (List.range n) := by
  intro q x hx
  have hq : q < n := by have := (List.getElem?_eq_some_iff.1 hx).1; simpa using this
  rw [List.getElem?_range hq] at hx
  cases hx
  exact h.cell hq
/-- the orders that come -/
def AllE (n m k : Nat) (x : Option Addr × Nat × Nat) (W : World) : Prop := ∃ b, m ≤ b ∧ b < W.heap.size ∧ x = (some ⟨b, 0, none⟩, n, n) ∧ k < (ordL n).length ∧ RowB W b ((ordL n).getD k [])
theorem AllE.kept {n m k : Nat} {x : Option Addr × Nat × Nat} {A B : World} (h : AllE n m k x A) (hk : KeepsUp m A B) : AllE n m k x B := by
  obtain ⟨b, h1, h2, h3, h4, h5⟩ := h
  exact ⟨b, h1, Nat.lt_of_lt_of_le h2 hk.1, h3, h4, h5.block (hk.2 b h1 h2)⟩
end Go.Proofs.YtjcbpnffmebihaaGreatDoor
namespace Go.Proofs.YtjcbpnffmebihaaGreatDoor
open Go.RowKit Go.WideShapes

/-- what RuleOrder answers -/
def ruleRes (rows : List (List Int)) : List Int := if pairsM rows then ruleI rows rows.length else []
theorem ruleRes_no {rows : List (List Int)} (h : pairsM rows = false) : ruleRes rows = [] := by unfold ruleRes; rw [h]; rfl
theorem ruleRes_yes {rows : List (List Int)} (h : pairsM rows = true) : ruleRes rows = ruleI rows rows.length := by unfold ruleRes; rw [h]; rfl
end Go.Proofs.YtjcbpnffmebihaaGreatDoor
namespace Go.Proofs.YtjcbpnffmebihaaGreatDoor
open Go.RowKit Go.WideShapes

theorem resC_lower {w w2 w' : World} {xs : List Int} {e : Ending} (hb : Below w.heap.size w w2) (h : ResPostC w2 xs e w') : ResPostC w xs e w' := by
  obtain ⟨a, l, c, h1, h2, h3, h4, h5⟩ := h
  have hz := hb.size
  exact ⟨a, l, c, h1, h2.to (fun b hb => ⟨⟨Nat.le_trans hz hb.1, hb.2⟩, rfl⟩), h3.to (fun b hb => ⟨⟨Nat.le_trans hz hb.1, hb.2⟩, rfl⟩), h4, hb.trans (h5.mono hz)⟩
theorem quiet_two {P : Program} {f : FuncId} {args : Array Value} {w : World} {n k : Nat} {v : Value}
    (h : Calls P f args (w.drewN (n + k)) fun e w' => e = .returned v ∧ w' = w.drewN (n + k)) : Calls P f args (w.drewN (n + k)) fun e w'' => e = .returned v ∧ ∃ m, w'' = w.drewN (n + m) :=
  h.mono fun _ _ ⟨he, hm⟩ => ⟨he, k, hm⟩
theorem isNaN_any (p : Int) (w : World) : Calls Tryz.prog 169 #[.int .i64 p] w fun e w' => e = .returned (.bool false) ∧ w = w' := by
  have h1 : (p != p) = false := by simp
  go_enter Tryz.func169, Tryz.ntmps169
  go_wp2_with fail
  go_ret
  exact ⟨rfl, rfl⟩
theorem compare_any (p q : Int) (w : World) : Calls Tryz.prog 141 #[.int .i64 p, .int .i64 q] w fun e w' => e = .returned (.int .i64 (cc p q)) ∧ w = w' := by
  by_cases h1 : p < q
  · have HC := Lib.hid (show cc p q = -1 from if_pos h1)
    go_enter Tryz.func141, Tryz.ntmps141
    go_wp2_with (go_at_call 169; refine (isNaN_any _ _).mono ?_; rintro e w' ⟨rfl, rfl⟩)
    go_ret
    exact ⟨ret_int HC.out.symm, rfl⟩
  · by_cases h2 : q < p
    · have HC := Lib.hid (show cc p q = 1 by unfold cc; rw [if_neg h1, if_pos h2])
      go_enter Tryz.func141, Tryz.ntmps141
      go_wp2_with (go_at_call 169; refine (isNaN_any _ _).mono ?_; rintro e w' ⟨rfl, rfl⟩)
      go_ret
      exact ⟨ret_int HC.out.symm, rfl⟩
    · have HC := Lib.hid (show cc p q = 0 by unfold cc; rw [if_neg h1, if_neg h2])
      go_enter Tryz.func141, Tryz.ntmps141
      go_wp2_with (go_at_call 169; refine (isNaN_any _ _).mono ?_; rintro e w' ⟨rfl, rfl⟩)
      go_ret
      exact ⟨ret_int HC.out.symm, rfl⟩
set_option maxHeartbeats 1000000 in
theorem byRule_cmp (b1 o1 c1 b2 o2 c2 : Nat) (x0 x1 y0 y1 : Int) (w : World) (h1 : w.cell? ⟨b1, o1, none⟩ = some (.int .i64 x0)) (h2 : w.cell? ⟨b1, o1 + 1, none⟩ = some (.int .i64 x1)) (h3 : w.cell? ⟨b2, o2, none⟩ = some (.int .i64 y0)) (h4 : w.cell? ⟨b2, o2 + 1, none⟩ = some (.int .i64 y1)) :
    Calls Tryz.prog 109 #[.slice (some ⟨b1, o1, none⟩) 2 c1, .slice (some ⟨b2, o2, none⟩) 2 c2] w fun e w' => e = .returned (.int .i64 (cmp4 x0 x1 y0 y1)) ∧ Drew w w' := by
  by_cases g1 : x0 < x1
  · by_cases g2 : y0 < y1
    · have HC := Lib.hid (show cmp4 x0 x1 y0 y1 = cc x0 y0 by unfold cmp4; rw [if_pos g1, if_pos g2])
      have HCM := Lib.hid (show ∀ W : World, Calls Tryz.prog 141 #[.int .i64 x0, .int .i64 y0] W (fun e w' => e = .returned (.int .i64 (cc x0 y0)) ∧ w' = W) from fun W => (compare_any x0 y0 W).mono (fun _ _ h => ⟨h.1, h.2.symm⟩))
      go_enter Tryz.func109, Tryz.ntmps109
      go_wp2_with fail
      go_quiet (fail)
      go_wp2_with fail
      go_quiet (first | (go_at_call 141; with_reducible exact quiet_two (HCM.out _)))
      go_wp2_with fail
      go_ret
      exact ⟨ret_int HC.out.symm, by repeat (first | exact Drew.refl _ | refine Drew.drew ?_ _)⟩
    · have HC := Lib.hid (show cmp4 x0 x1 y0 y1 = -1 by unfold cmp4; rw [if_pos g1, if_neg g2])
      go_enter Tryz.func109, Tryz.ntmps109
      go_wp2_with fail
      go_quiet (fail)
      go_wp2_with fail
      go_ret
      exact ⟨ret_int HC.out.symm, by repeat (first | exact Drew.refl _ | refine Drew.drew ?_ _)⟩
  · by_cases g2 : y0 < y1
    · have HC := Lib.hid (show cmp4 x0 x1 y0 y1 = 1 by unfold cmp4; rw [if_neg g1, if_pos g2])
      go_enter Tryz.func109, Tryz.ntmps109
      go_wp2_with fail
      go_quiet (fail)
      go_wp2_with fail
      go_ret
      exact ⟨ret_int HC.out.symm, by repeat (first | exact Drew.refl _ | refine Drew.drew ?_ _)⟩
    · have HC := Lib.hid (show cmp4 x0 x1 y0 y1 = cc y1 x1 by unfold cmp4; rw [if_neg g1, if_neg g2])
      have HCM := Lib.hid (show ∀ W : World, Calls Tryz.prog 141 #[.int .i64 y1, .int .i64 x1] W (fun e w' => e = .returned (.int .i64 (cc y1 x1)) ∧ w' = W) from fun W => (compare_any y1 x1 W).mono (fun _ _ h => ⟨h.1, h.2.symm⟩))
      go_enter Tryz.func109, Tryz.ntmps109
      go_wp2_with fail
      go_quiet (fail)
      go_wp2_with fail
      go_quiet (first | (go_at_call 141; with_reducible exact quiet_two (HCM.out _)))
      go_wp2_with fail
      go_ret
      exact ⟨ret_int HC.out.symm, by repeat (first | exact Drew.refl _ | refine Drew.drew ?_ _)⟩
/-- where the times of a job stand -/
theorem times_at {w : World} {S : Nat → Prop} {a : Option Addr} {len : Nat} {rows : List (List Int)} (h : RowsAt w S a len rows) (hp : pairsM rows = true) {q : Nat} (hq : q < len) : ∃ (b off b3 off3 c : Nat), a = some ⟨b, off, none⟩ ∧
      w.cell? ⟨b, off + q, none⟩ = some (.slice (some ⟨b3, off3, none⟩) 2 c) ∧ w.cell? ⟨b3, off3, none⟩ = some (.int .i64 (ta rows q)) ∧ w.cell? ⟨b3, off3 + 1, none⟩ = some (.int .i64 (tb rows q)) := by
  obtain ⟨b, off, r, a', l, c, rfl, hr, hcr, _, hri⟩ := h.get hq
  obtain ⟨hr2, _, _⟩ := (pairs_get hp).2 r (List.mem_of_getElem? hr)
  have hl2 : l = 2 := by rw [← hri.lenEq, hr2]
  subst hl2
  obtain ⟨b3, off3, x3, rfl, h3, hc3⟩ := hri.get (k := 0) (by omega)
  obtain ⟨b4, off4, x4, e4, h4, hc4⟩ := hri.get (k := 1) (by omega)
  cases e4
  have ht := t_at hr
  rw [getD_of h3, getD_of h4] at ht
  rw [Nat.add_zero] at hc3
  exact ⟨b, off, b3, off3, c, rfl, hcr, by rw [ht.1]; exact hc3, by rw [ht.2]; exact hc4⟩
set_option maxHeartbeats 1000000 in
theorem ruleClosure_any (S : Nat → Prop) (a : Option Addr) (len cap Bs : Nat) (rows : List (List Int)) (x y : Nat) (w : World) (h : RowsAt w S a len rows) (hp : pairsM rows = true) (hB : w.cell? ⟨Bs, 0, none⟩ = some (.slice a len cap)) (hx : x < len) (hy : y < len) :
    Calls Tryz.prog 108 #[.int .i64 (x : Int), .int .i64 (y : Int), .pointer (some ⟨Bs, 0, none⟩)] w fun e w' => e = .returned (.int .i64 (cmpV (ta rows) (tb rows) x y)) ∧ ∃ z, w' = w.drewN z := by
  obtain ⟨b, off, b3, o3, c3, rfl, h1, h2, h3⟩ := times_at h hp hx
  obtain ⟨b', off', b4, o4, c4, e, k1, k2, k3⟩ := times_at h hp hy
  cases e
  have hs := h.small
  have HCM := Lib.hid (fun z => byRule_cmp b3 o3 c3 b4 o4 c4 (ta rows x) (tb rows x) (ta rows y) (tb rows y) (w.drewN z) h2 h3 k2 k3)
  have HV := Lib.hid (show cmp4 (ta rows x) (tb rows x) (ta rows y) (tb rows y) = cmpV (ta rows) (tb rows) x y from rfl)
  have hxi : (x : Int) < (len : Int) := by omega
  have hyi : (y : Int) < (len : Int) := by omega
  clear h2 h3 k2 k3
  generalize cmp4 (ta rows x) (tb rows x) (ta rows y) (tb rows y) = v at HV HCM
  go_enter Tryz.func108, Tryz.ntmps108
  go_wp2_with fail
  go_quiet (first | (go_at_call 109; with_reducible exact Calls.quiet_of (HCM.out _)))
  go_wp2_with fail
  go_ret
  exact ⟨ret_int HV.out, _, rfl⟩
set_option maxRecDepth 100000 in
set_option maxHeartbeats 4000000 in
/-- Go's insertion sort of a block of job numbers, by the rule -/
theorem insertion_any (S : Nat → Prop) (a : Option Addr) (len cap Bs b n cp : Nat) (rows : List (List Int)) (w : World) (h : RowsAt w S a len rows) (hS : ∀ x, S x → x < b) (hBs : Bs < b) (hp : pairsM rows = true) (hB : w.cell? ⟨Bs, 0, none⟩ = some (.slice a len cap)) (hn : n = len) (hR : RowB w b (List.range n)) :
    Calls Tryz.prog 167 #[.slice (some ⟨b, 0, none⟩) n cp, .int .i64 0, .int .i64 n, .func (.func 108) #[] #[.pointer (some ⟨Bs, 0, none⟩)]] w fun e w' => e = .returned (.tuple #[]) ∧ RowB w' b (ruleT (ta rows) (tb rows) n) ∧ Below b w w' := by
  have mixed : Tryz.prog.follows .mixedOrders = true := by kernel_rfl
  have hent := enters_of Tryz.func108 (by kernel_rfl) rfl
  have hs := h.small
  subst hn
  have HRW := Lib.hid (show ∀ w', Below b w w' → RowsAt w' S a n rows from fun w' hb => h.to fun x hx => ⟨hx, hb.block x (hS x hx)⟩)
  have HBX := Lib.hid (show ∀ w', Below b w w' → w'.cell? ⟨Bs, 0, none⟩ = some (.slice a n cap) from fun w' hb => (hb.cell (p := ⟨Bs, 0, none⟩) hBs).trans hB)
  have HP := Lib.hid hp
  have HR := Lib.hid hR
  clear h hp hB hR
  go_enter Tryz.func167, Tryz.ntmps167
  go_wp2_with fail
  go_loopg [8] n (fun g s8 wr => ∃ i : Nat, s8 = .int .i64 (i : Int) ∧ 1 ≤ i ∧ n - i ≤ g ∧ Below b w wr ∧ (i < n → RowB wr b (insAt (ruleT (ta rows) (tb rows) i) i [] n)) ∧ (n ≤ i → RowB wr b (ruleT (ta rows) (tb rows) n)))
  case atStart =>
    refine ⟨1, rfl, by omega, by omega, Below.refl _ _, fun h => ?_, fun h => ?_⟩
    · rw [← insAt_first h]; exact HR.out
    · have : List.range n = ruleT (ta rows) (tb rows) n := by
        rcases Nat.eq_zero_or_pos n with e | e
        · rw [e]; rfl
        · rw [show n = 1 by omega]; rfl
      rw [← this]; exact HR.out
  case round =>
    obtain ⟨i, rfl, hi1, hg, hB, h1, h2⟩ := hrel
    have H1 := Lib.hid h1
    have H2 := Lib.hid h2
    have HB := Lib.hid hB
    clear h1 h2 hB
    by_cases hlt : i < n
    · have hin : (i : Int) < (n : Int) := by omega
      have HRL := Lib.hid (ruleT_lenN (ta rows) (tb rows) i)
      go_wp2_with fail
      go_loopg [9] i (fun g2 s9 wy => ∃ (l1 l2 : List Nat), s9 = .int .i64 (l1.length : Int) ∧ l1.length ≤ g2 ∧ l1 ++ l2 = ruleT (ta rows) (tb rows) i ∧ (∀ y ∈ l2, ¬ btr (ta rows) (tb rows) y i) ∧ RowB wy b (insAt l1 i l2 n) ∧ Below b w wy)
      case atStart => exact ⟨ruleT (ta rows) (tb rows) i, [], by rw [HRL.out], by rw [HRL.out]; exact Nat.le_refl _, List.append_nil _, (fun y hy => by cases hy), H1.out hlt, HB.out⟩
      case round =>
        obtain ⟨l1, l2, rfl, hg2, hl, h2, hRow, hBy⟩ := hrel
        have H2' := Lib.hid h2
        have HRow := Lib.hid hRow
        have HBy := Lib.hid hBy
        have HLL := Lib.hid hl
        have hll : l1.length + l2.length = i := by have := congrArg List.length hl; simpa [HRL.out] using this
        have hlen := insAt_length (l1 := l1) (l2 := l2) hll hlt
        clear h2 hRow hBy hl
        rcases List.eq_nil_or_concat l1 with rfl | ⟨l, y, rfl⟩
        · have HD := Lib.hid (ins_done HLL.out (fun y hy => by cases hy) H2'.out)
          have hj0 : decide ((0 : Int) < 0) = false := rfl
          rw [List.length_nil]
          go_wp2_with fail
          go_quiet (fail)
          go_wp2_with fail
          go_roundg (n - (i + 1))
          case measure => omega
          case rel => exact ⟨i + 1, by go_num, by omega, by omega, below_drewN HBy.out _, fun h => by
              have := (HRow.out.drewN nq)
              rw [insAt_next h HD.out] at this
              exact this, fun h => by
              have := (HRow.out.drewN nq)
              have e : n = i + 1 := by omega
              subst e
              rw [insAt_last HD.out] at this
              exact this⟩
        · rw [List.concat_eq_append] at HLL HRow hll hlen ⊢
          rw [List.length_append, List.length_singleton] at hll ⊢
          have c1 := (HRow.out.at (q := l.length + 1) (by omega)).1
          have c2 := (HRow.out.at (q := l.length) (by omega)).1
          have f1 := (HRow.out.at (q := l.length + 1) (by omega)).2
          have f2 := (HRow.out.at (q := l.length) (by omega)).2
          have e1 : (insAt (l ++ [y]) i l2 n).getD (l.length + 1) 0 = i := by have := insAt_here (l ++ [y]) l2 i n; simpa using this
          rw [e1] at c1
          rw [insAt_ahead] at c2
          have hyi : y < i := by
            have hm : y ∈ ruleT (ta rows) (tb rows) i := by rw [← HLL.out]; simp
            have := (ruleT_perm (ta rows) (tb rows) i).mem_iff.1 hm
            simpa using this
          have HCV := Lib.hid (cmpV_lt (a := ta rows) (b := tb rows) hyi)
          have HCM := Lib.hid (show ∀ z, Calls Tryz.prog 108 #[.int .i64 (i : Int), .int .i64 (y : Int), .pointer (some ⟨Bs, 0, none⟩)] (wr.drewN z) (fun e w' => e = .returned (.int .i64 (cmpV (ta rows) (tb rows) i y)) ∧ ∃ m, w' = (wr.drewN z).drewN m) from fun z =>
            ruleClosure_any S a n cap Bs rows i y _ (HRW.out _ (below_drewN HBy.out z)) HP.out (HBX.out _ (below_drewN HBy.out z)) hlt (by omega))
          generalize cmpV (ta rows) (tb rows) i y = cv at HCV HCM
          have e2 : ((l.length + 1 : Nat) : Int) - 1 = (l.length : Int) := by omega
          have e3 : ((l.length + 1 : Nat) : Int) = (l.length : Int) + 1 := by omega
          have hj1 : l.length + 1 < n := by omega
          have hj2 : (l.length : Int) + 1 < (n : Int) := by omega
          have hj3 : (l.length : Int) < (n : Int) := by omega
          have hj4 : (0 : Int) < (l.length : Int) + 1 := by omega
          rw [e3]
          have HE1 := Lib.hid e1
          have HLEN := Lib.hid hlen
          clear e1 e2 e3
          have HLL2 := Lib.hid hll
          obtain ⟨j, hj⟩ : ∃ j, l.length = j := ⟨_, rfl⟩
          have HJ := Lib.hid hj
          rw [hj] at c1 c2 f1 f2 hj1 hj2 hj3 hj4 ⊢
          clear hj hll hlen
          by_cases hb : cv < 0
          · go_wp2_with fail
            go_quiet (first | (go_at_call 108; with_reducible exact Calls.quiet_of (HCM.out _)))
            go_wp2_with fail
            go_region_o
            go_wp2_with fail
            have hsw := (HRow.out.drewN (nq + 1)).swap (i := l.length + 1) (j := l.length) (by rw [HLEN.out]; have := HJ.out; omega) (by rw [HLEN.out]; have := HJ.out; omega)
            rw [HE1.out, insAt_ahead, insAt_swap, HJ.out] at hsw
            go_roundg j
            case measure => have := HJ.out; simp at hg2; omega
            case rel => exact ⟨l, y :: l2, by rw [HJ.out], by rw [HJ.out]; exact Nat.le_refl _, by simpa using HLL.out, fun z hz => by
                rcases List.mem_cons.1 hz with rfl | hz
                · exact HCV.out.1 hb
                · exact H2'.out z hz, hsw, ((below_drewN HBy.out (nq + 1)).setCell (p := ⟨b, j + 1, none⟩) (Nat.le_refl _) _).setCell (p := ⟨b, j, none⟩) (Nat.le_refl _) _⟩
          · have HD := Lib.hid (ins_done HLL.out (fun z hz => by
              simp at hz; subst hz
              exact Classical.byContradiction (fun h => hb (HCV.out.2 h))) H2'.out)
            go_wp2_with fail
            go_quiet (first | (go_at_call 108; with_reducible exact Calls.quiet_of (HCM.out _)))
            go_wp2_with fail
            go_roundg (n - (i + 1))
            case measure => omega
            case rel => exact ⟨i + 1, by go_num, by omega, by omega, below_drewN HBy.out _, fun h => by
                have := (HRow.out.drewN nq)
                rw [insAt_next h HD.out] at this
                exact this, fun h => by
                have := (HRow.out.drewN nq)
                have e : n = i + 1 := by omega
                subst e
                rw [insAt_last HD.out] at this
                exact this⟩
    · have hin : ¬ (i : Int) < (n : Int) := by omega
      go_wp2_with fail
      go_end0
      exact ⟨rfl, H2.out (by omega), HB.out⟩
theorem stable_any (S : Nat → Prop) (a : Option Addr) (len cap Bs b n cp : Nat) (rows : List (List Int)) (w : World) (h : RowsAt w S a len rows) (hS : ∀ x, S x → x < b) (hBs : Bs < b) (hp : pairsM rows = true) (hB : w.cell? ⟨Bs, 0, none⟩ = some (.slice a len cap)) (hn : n = len) (hn8 : n ≤ 8) (hR : RowB w b (List.range n)) :
    Calls Tryz.prog 140 #[.slice (some ⟨b, 0, none⟩) n cp, .int .i64 n, .func (.func 108) #[] #[.pointer (some ⟨Bs, 0, none⟩)]] w fun e w' => e = .returned (.tuple #[]) ∧ RowB w' b (ruleT (ta rows) (tb rows) n) ∧ Below b w w' := by
  have HI := Lib.hid (insertion_any S a len cap Bs b n cp rows w h hS hBs hp hB hn hR)
  have h20 : ¬ (20 : Int) ≤ (n : Int) := by omega
  have h20' : ¬ (20 : Int) < (n : Int) := by omega
  clear h hB hR hn
  go_enter Tryz.func140, Tryz.ntmps140
  go_wp2_with fail
  go_loopw [7, 8] (fun s7 s8 wr => s7 = .int .i64 0 ∧ s8 = .int .i64 20 ∧ wr = w) (fun _ _ _ => 0)
  case atStart => exact ⟨rfl, rfl, rfl⟩
  case round =>
    obtain ⟨rfl, rfl, rfl⟩ := hrel
    go_wp2_with fail
    refine HI.out.mono ?_
    rintro e w2 ⟨rfl, h1, h2⟩
    have H1 := Lib.hid h1
    have H2 := Lib.hid h2
    clear h1 h2
    go_wp2_with fail
    go_loopw [6] (fun s6 wr => s6 = .int .i64 20 ∧ wr = w2) (fun _ _ => 0)
    case atStart => exact ⟨rfl, rfl⟩
    case round =>
      obtain ⟨rfl, rfl⟩ := hrel
      go_wp2_with fail
      go_end0
      exact ⟨rfl, H1.out, H2.out⟩
theorem sortStable_any (S : Nat → Prop) (a : Option Addr) (len cap Bs b n cp : Nat) (rows : List (List Int)) (w : World) (h : RowsAt w S a len rows) (hS : ∀ x, S x → x < b) (hBs : Bs < b) (hp : pairsM rows = true) (hB : w.cell? ⟨Bs, 0, none⟩ = some (.slice a len cap)) (hn : n = len) (hn8 : n ≤ 8) (hR : RowB w b (List.range n)) :
    Calls Tryz.prog 107 #[.slice (some ⟨b, 0, none⟩) n cp, .func (.func 108) #[] #[.pointer (some ⟨Bs, 0, none⟩)]] w fun e w' => e = .returned (.tuple #[]) ∧ RowB w' b (ruleT (ta rows) (tb rows) n) ∧ Below b w w' := by
  have HI := Lib.hid (stable_any S a len cap Bs b n cp rows w h hS hBs hp hB hn hn8 hR)
  clear h hB hR hn
  go_enter Tryz.func107, Tryz.ntmps107
  go_wp2_with fail
  refine HI.out.mono ?_
  rintro e w2 ⟨rfl, h1, h2⟩
  go_wp2_with fail
  go_end0
  exact ⟨rfl, h1, h2⟩
set_option maxHeartbeats 1000000 in
theorem ruleOrder_impl (a : Option Addr) (len cap : Nat) (rows : List (List Int)) (w : World) (h : RowsAt w (· < w.heap.size) a len rows) (hc : len ≤ cap) :
    Calls Tryz.prog 84 #[.slice a len cap] w (ResPostC w (ruleRes rows)) := by
  have HL := Lib.hid h.lenEq
  have B0 := (Below.refl w.heap.size w).alloc (Nat.le_refl _) (.cells #[.slice a len cap] 37)
  have HV := Lib.hid (validPairs_impl _ a len cap rows _ (h.below B0) hc)
  have z1 := (cell_new_l w (.slice a len cap) 37).1
  cases hp : pairsM rows
  · rw [ruleRes_no hp]
    rw [hp] at HV
    go_enter Tryz.func84, Tryz.ntmps84
    go_wp2_with fail
    refine HV.out.mono ?_
    rintro e w' ⟨rfl, hdw⟩
    go_wp2_with fail
    go_ret
    exact resC_lower (B0.trans (hdw.below _)) (resPostC_nil _)
  · rw [ruleRes_yes hp]
    rw [hp] at HV
    have hl8 : len ≤ 8 := by have := (pairs_get hp).1; have := HL.out; omega
    have HB0 := Lib.hid B0
    have HROWS := Lib.hid h
    clear B0 h
    go_enter Tryz.func84, Tryz.ntmps84
    go_wp2_with fail
    refine HV.out.mono ?_
    rintro e w' ⟨rfl, hdw⟩
    obtain ⟨z, rfl⟩ := hdw
    go_wp2_with fail
    have HW1 := Lib.hid (below_drewN HB0.out z)
    obtain ⟨w1, hw1⟩ : ∃ w1, (w.alloc (Obj.cells #[Value.slice a len cap] 37)).drewN z = w1 := ⟨_, rfl⟩
    have hs1 : w1.heap.size = w.heap.size + 1 := by rw [← hw1]; simp
    have hc1 : w1.cell? ⟨w.heap.size, 0, none⟩ = some (.slice a len cap) := by rw [← hw1]; exact z1
    rw [hw1] at HW1 ⊢
    clear hw1 z1 HB0
    have HS1 := Lib.hid hs1
    clear hs1
    refine (firstOrder_any len w1 hl8).mono ?_
    rintro e w3 ⟨rfl, hown⟩
    have HR3 := Lib.hid hown.rowB
    have hlt3 : w1.heap.size < w3.heap.size := (Array.getElem?_eq_some_iff.1 hown.heap).1
    have HB3 := Lib.hid hown.below
    have HST := Lib.hid (sortStable_any (· < w.heap.size) a len cap w.heap.size w1.heap.size len len rows w3 ((HROWS.out.below HW1.out).to fun x hx => ⟨hx, HB3.out.block x (by have := HS1.out; omega)⟩) (fun x hx => by have := HS1.out; omega) (by have := HS1.out; omega) hp
      ((HB3.out.cell (p := ⟨w.heap.size, 0, none⟩) (by have := HS1.out; show w.heap.size < _; omega)).trans hc1) rfl hl8 HR3.out)
    clear hown hc1
    go_wp2_with fail
    refine HST.out.mono ?_
    rintro e w4 ⟨rfl, h4, hb4⟩
    have H4 := Lib.hid h4
    have HB4 := Lib.hid hb4
    clear h4 hb4
    go_wp2_with fail
    go_ret
    have hl4 : (ruleT (ta rows) (tb rows) len).length = len := ruleT_lenN _ _ _
    have hlo : w.heap.size ≤ w1.heap.size := by have := HS1.out; omega
    have hup : w1.heap.size < w4.heap.size := Nat.lt_of_lt_of_le hlt3 HB4.out.size
    refine ⟨_, _, _, rfl, ?_, ?_, Nat.le_refl _, HW1.out.trans ((HB3.out.trans HB4.out).mono hlo)⟩
    · have := H4.out.ints hl4 (by omega) (S := fun b => w.heap.size ≤ b ∧ b < w4.heap.size) ⟨hlo, hup⟩
      unfold ruleI
      rw [HL.out]
      exact this
    · refine ⟨by omega, fun h => ⟨w1.heap.size, 0, rfl, ⟨hlo, hup⟩, fun i hi => ?_⟩⟩
      have := H4.out.at (q := i) (by rw [hl4]; exact hi)
      rw [Nat.zero_add]
      exact ⟨⟨_, this.1⟩, this.2⟩
end Go.Proofs.YtjcbpnffmebihaaGreatDoor
namespace Go.Proofs.YtjcbpnffmebihaaGreatDoor
open Go.RowKit Go.WideShapes

/-- v is a slice of the call's own, of rows of its own -/
def OwnRowsV (w : World) (B : Nat) (v : Value) (k : Nat) (rows : List (List Int)) : Prop := ∃ us : List Value, w.ownsRow B 35 1 v k us ∧ rows.length = k ∧
  ∀ (q : Nat) (u : Value), us[q]? = some u → ∃ (a : Option Addr) (l c : Nat) (r : List Int), rows[q]? = some r ∧ u = .slice a l c ∧ l ≤ c ∧ l ≤ 1048576 ∧ w.ownsRow B 3 1 u l (r.map (.int .i64))
theorem OwnRowsV.rows {w : World} {B k : Nat} {a : Option Addr} {cap : Nat} {rows : List (List Int)} (h : OwnRowsV w B (.slice a k cap) k rows) (hk : k ≤ 1048576) :
    RowsAt w (fun b => B ≤ b ∧ b < w.heap.size) a k rows := by
  obtain ⟨us, h1, h2, h3⟩ := h
  have hul : us.length = k := by have := h1.1; simpa using this
  refine ⟨h2, by omega, fun h0 => ?_⟩
  have hc := fun g hg => h1.cells (g := g) hg
  have hlt := h1.lt
  rcases h1.2 with ⟨e1, e2⟩ | ⟨g, cp, cur, e1, e2, _⟩
  · omega
  · injection e1 with e3 _ _
    subst e3
    refine ⟨g, 0, rfl, hlt g rfl, fun i r hr => ?_⟩
    have hi : i < us.length := by have := (List.getElem?_eq_some_iff.1 hr).1; omega
    obtain ⟨a', l, c, r', hr', hu, hlc, hl, hown⟩ := h3 i us[i] (List.getElem?_eq_getElem hi)
    rw [hr] at hr'
    injection hr' with hr'
    subst hr'
    rw [hu] at hown
    obtain ⟨a2, c2, e4, _, hints⟩ := own_ints hown (by omega)
    injection e4 with e5 _ _
    subst e5
    refine ⟨a', l, c, ?_, hlc, hints⟩
    have := hc g rfl i us[i] (List.getElem?_eq_getElem hi)
    rw [hu, add_plain] at this
    exact this
theorem OwnRowsV.push {w w' : World} {B k l : Nat} {v v' : Value} {a : Option Addr} {c : Nat} {rows : List (List Int)} {r : List Int} {us : List Value} (hv : w.ownsRow B 35 1 v k us) (hl : rows.length = k)
    (hus : ∀ (q : Nat) (u : Value), us[q]? = some u → ∃ (a : Option Addr) (l c : Nat) (r : List Int), rows[q]? = some r ∧ u = .slice a l c ∧ l ≤ c ∧ l ≤ 1048576 ∧ w.ownsRow B 3 1 u l (r.map (.int .i64)))
    (hu : w.ownsRow B 3 1 (.slice a l c) l (r.map (.int .i64))) (hlc : l ≤ c) (hl2 : l ≤ 1048576) (hv' : w'.ownsRow B 35 1 v' (k + 1) (us ++ [.slice a l c])) (hg : w.grownBy w' v.ownBlock) : OwnRowsV w' B v' (k + 1) (rows ++ [r]) := by
  have hul : us.length = k := by have := hv.1; simpa using this
  refine ⟨_, hv', by simp [hl], fun q u hq => ?_⟩
  rcases Nat.lt_or_ge q us.length with h | h
  · rw [List.getElem?_append_left h] at hq
    obtain ⟨a', l', c', r', h1, h2, h3, h4, h5⟩ := hus q u hq
    exact ⟨a', l', c', r', by rw [List.getElem?_append_left (by omega)]; exact h1, h2, h3, h4, h5.kept hg (own_ne h5 hv (by decide))⟩
  · rw [List.getElem?_append_right h] at hq
    have hq0 : q - us.length = 0 := by
      have := (List.getElem?_eq_some_iff.1 hq).1; simp at this; omega
    rw [hq0] at hq
    simp only [List.getElem?_cons_zero, Option.some.injEq] at hq
    subst hq
    exact ⟨a, l, c, r, by rw [List.getElem?_append_right (by omega), show q - rows.length = 0 by omega]; rfl, rfl, hlc, hl2, hu.kept hg (own_ne hu hv (by decide))⟩
end Go.Proofs.YtjcbpnffmebihaaGreatDoor
namespace Go.Proofs.YtjcbpnffmebihaaGreatDoor
open Go.RowKit Go.WideShapes

theorem runT_congr {a b a' b' : Nat → Int} : ∀ (l : List Nat) (s : Int × Int), (∀ x ∈ l, a x = a' x ∧ b x = b' x) → runT a b s l = runT a' b' s l := by
  intro l
  induction l with
  | nil => intro s _; rfl
  | cons x l ih =>
    intro s h
    have hx := h x (by simp)
    have e : stT a b s x = stT a' b' s x := by unfold stT; rw [hx.1, hx.2]
    rw [runT_cons, runT_cons, e]
    exact ih _ (fun y hy => h y (by simp [hy]))
theorem LeastO.congr {a b a' b' : Nat → Int} {n : Nat} {v : Int} (h : LeastO a b n v) (e : ∀ x, x < n → a x = a' x ∧ b x = b' x) : LeastO a' b' n v := by
  have key : ∀ l : List Nat, l.Perm (List.range n) → spanT a b l = spanT a' b' l := fun l hl => by
    unfold spanT
    rw [runT_congr l _ (fun x hx => e x (by have := hl.mem_iff.1 hx; simpa using this))]
  obtain ⟨⟨l, hl, hv⟩, h2⟩ := h
  exact ⟨⟨l, hl, by rw [← key l hl]; exact hv⟩, fun m hm => by rw [← key m hm]; exact h2 m hm⟩
end Go.Proofs.YtjcbpnffmebihaaGreatDoor
namespace Go.Proofs.YtjcbpnffmebihaaGreatDoor
open Go.RowKit Go.WideShapes

theorem ruleI_order {rows : List (List Int)} : orderP (ruleI rows rows.length) rows.length := by
  have hp := ruleT_perm (ta rows) (tb rows) rows.length
  refine ⟨⟨fun x hx => ?_, ?_⟩, ruleI_len _ _⟩
  · obtain ⟨y, hy, rfl⟩ := List.mem_map.1 hx
    have := hp.mem_iff.1 hy
    simp at this
    omega
  · exact List.pairwise_map.2 ((hp.symm.nodup List.nodup_range).imp (fun {x y} hne e => hne (by omega)))
theorem rule_fine {rows : List (List Int)} (h : pairsM rows = true) : spanFine rows (ruleRes rows) = true := by
  unfold spanFine
  rw [h, ruleRes_yes h, Bool.true_and]
  exact decide_eq_true ruleI_order
end Go.Proofs.YtjcbpnffmebihaaGreatDoor
