import Derived.Test.YtmcongioghkdcacRows
import Derived.WalkKit
import Derived.LoopTactic
import Derived.Outline
import Derived.WalkSpells
import Derived.WalkLawsBesides
import Derived.ProofKit
import Derived.Lib.Hide
import Derived.Deep.QuietTactic
import Derived.BigQuiet
import Derived.RegionTactic
import Derived.BigRegion
import Derived.IntWalk
import Derived.Test.YtmcongioghkdcacM0
import Derived.Test.YtmcongioghkdcacM1
import Derived.Test.YtmcongioghkdcacM2
import Derived.Test.YtmcongioghkdcacM3
import Derived.Test.YtmcongioghkdcacM9
import Derived.Test.YtmcongioghkdcacM8
import Derived.Test.YtmcongioghkdcacM5
import Derived.Test.YtmcongioghkdcacM6
namespace Go.Proofs.Ytmcongioghkdcac
open Go.RowKit Go.WideShapes

theorem Try.infoIntP : (Try.prog.info? 3).map (fun i => (i.zero, i.size, i.bytes)) = some (some (.int .i64 0), 1, 8) := by kernel_rfl
def validLotsM (xs : List Int) (s h : Int) : Bool := validDaysM xs && inB 0 30 s && inB 0 30 h
theorem validLots_get {xs : List Int} {s h : Int} (hv : validLotsM xs s h = true) : validDaysM xs = true ∧ (0 ≤ s ∧ s ≤ 30) ∧ (0 ≤ h ∧ h ≤ 30) := by
  simp only [validLotsM, Bool.and_eq_true] at hv
  have h1 : 0 ≤ s ∧ s ≤ 30 := by simpa [inB] using hv.1.2
  have h2 : 0 ≤ h ∧ h ≤ 30 := by simpa [inB] using hv.2
  exact ⟨hv.1.1, h1, h2⟩
theorem mul_box3 {a b A B : Int} (ha : 0 ≤ a) (ha' : a ≤ A) (hb : 0 ≤ b) (hb' : b ≤ B) : 0 ≤ a * b ∧ a * b ≤ A * B :=
  ⟨Int.mul_nonneg ha hb, Int.mul_le_mul ha' hb' hb (by omega)⟩
theorem ints_part {w : World} {S : Nat → Prop} {b off len : Nat} {xs : List Int} (h : IntsAt w S (some ⟨b, off, none⟩) len xs) (i k : Nat) (hi : i < k) (hk : k ≤ len) : IntsAt w S (some ⟨b, off + i, none⟩) (k - i) ((xs.drop i).take (k - i)) := by
  have hl := h.lenEq
  have hs := h.small
  obtain ⟨b', off', e, hS, hc⟩ := h.cells (by omega)
  cases e
  refine ⟨by simp; omega, by omega, fun _ => ⟨b, off + i, rfl, hS, fun j x hx => ?_⟩⟩
  rw [List.getElem?_take] at hx
  split at hx
  · rw [List.getElem?_drop] at hx
    rw [Nat.add_assoc]
    exact hc _ _ hx
  · cases hx
theorem days_mem {xs : List Int} (hx : ∀ k, 0 ≤ xs.getD k 0 ∧ xs.getD k 0 ≤ 20) : ∀ x ∈ xs, -1099511627776 ≤ x ∧ x ≤ 1099511627776 := by
  intro x hx'
  obtain ⟨k, hk, rfl⟩ := List.mem_iff_getElem.1 hx'
  have := hx k
  rw [List.getD_eq_getElem?_getD, List.getElem?_eq_getElem hk] at this
  simp at this
  omega
def lotFine (ms xs : List Int) (s h : Int) : Bool := validLotsM xs s h && stocksFine 0 ms xs
/-- what LotCost answers -/
def lotCostM (ms xs : List Int) (s h : Int) : Int := if lotFine ms xs s h then planTo ms xs s h xs.length else -1
def IntBool (w : World) (n : Int) (b : Bool) (e : Ending) (w' : World) : Prop := e = .returned (.tuple #[.int .i64 n, .bool b]) ∧ Below w.heap.size w w'
theorem lotCost_no {ms xs : List Int} {s h : Int} (e : lotFine ms xs s h = false) : lotCostM ms xs s h = -1 := by unfold lotCostM; rw [e]; rfl
theorem lotCost_yes {ms xs : List Int} {s h : Int} (e : lotFine ms xs s h = true) : lotCostM ms xs s h = planTo ms xs s h xs.length := by unfold lotCostM; rw [e]; rfl
theorem dayC_bd {ms xs : List Int} {s h : Int} (hm : validMadeM ms = true) (hx : validDaysM xs = true) (hok : ∀ q, q < xs.length → 0 ≤ stockTo ms xs 0 (q + 1)) (hs : 0 ≤ s ∧ s ≤ 31) (hh : 0 ≤ h ∧ h ≤ 31) {q : Nat} (hq : q < xs.length) : 0 ≤ dayC ms xs s h q ∧ dayC ms xs s h q ≤ 50000 := by
  have h1 := hok q hq
  have h2 := stockTo_bd (s := 0) (by omega) (by omega) hm hx (q + 1)
  have hl := validDays_len hx
  have e : stockTo ms xs 0 (q + 1) = sumN ms (q + 1) - sumN xs (q + 1) := by rw [stockTo_closed]; omega
  rw [e] at h1 h2
  have h3 := mul_box3 hh.1 hh.2 h1 (show _ ≤ (1400 : Int) by omega)
  unfold dayC; split <;> omega
theorem planTo_bd {ms xs : List Int} {s h : Int} (hm : validMadeM ms = true) (hx : validDaysM xs = true) (hok : ∀ q, q < xs.length → 0 ≤ stockTo ms xs 0 (q + 1)) (hs : 0 ≤ s ∧ s ≤ 31) (hh : 0 ≤ h ∧ h ≤ 31) : ∀ q, q ≤ xs.length → 0 ≤ planTo ms xs s h q ∧ planTo ms xs s h q ≤ 50000 * (q : Int) := by
  intro q
  induction q with
  | zero => intro _; simp [planTo]
  | succ q ih => intro hq; have := ih (by omega); have := dayC_bd hm hx hok hs hh (q := q) (by omega); rw [planTo]; omega
/-- of the days behind i, so many lots are tried: the least cost, -1 ahead of the first -/
def curM (xs : List Int) (s h : Int) (i : Nat) : Nat → Int
  | 0 => -1
  | m + 1 => minTo (fun d => runD xs s h i (d + 1) + bst xs s h (i + (d + 1))) m
def doneB (xs : List Int) (s h : Int) (m q : Nat) : Int := if m ≤ q then bst xs s h q else 0
def bestNow (xs : List Int) (s h : Int) (i : Nat) (c : Int) (q : Nat) : Int := if q = i then c else if i < q then bst xs s h q else 0
def leastRes (xs : List Int) (s h : Int) : Int := if validLotsM xs s h then bst xs s h 0 else -1
theorem leastRes_no {xs : List Int} {s h : Int} (e : validLotsM xs s h = false) : leastRes xs s h = -1 := by unfold leastRes; rw [e]; rfl
theorem leastRes_yes {xs : List Int} {s h : Int} (e : validLotsM xs s h = true) : leastRes xs s h = bst xs s h 0 := by unfold leastRes; rw [e]; rfl
def IntVal (w : World) (n : Int) (e : Ending) (w' : World) : Prop := e = .returned (.int .i64 n) ∧ Below w.heap.size w w'
end Go.Proofs.Ytmcongioghkdcac
namespace Go.Proofs.Ytmcongioghkdcac
open Go.RowKit Go.WideShapes

/-- the latest of the first k + 1 jobs -/
def latM (t d : Nat → Int) (l : List Nat) : Nat → Int
  | 0 => sumL t (l.take 1) - d (l.getD 0 0)
  | k + 1 => max (latM t d l k) (sumL t (l.take (k + 2)) - d (l.getD (k + 1) 0))
theorem latM_iff {t d : Nat → Int} {l : List Nat} {L : Int} : ∀ k, latM t d l k ≤ L ↔ ∀ j, j ≤ k → sumL t (l.take (j + 1)) - d (l.getD j 0) ≤ L := by
  intro k
  induction k with
  | zero => exact ⟨fun h j hj => by obtain rfl : j = 0 := by omega
                                    exact h, fun h => h 0 (Nat.le_refl _)⟩
  | succ k ih =>
    rw [latM]
    constructor
    · intro h j hj
      rcases Nat.lt_or_eq_of_le hj with h1 | rfl
      · exact (ih.1 (by omega)) j (by omega)
      · show sumL t (l.take (k + 2)) - _ ≤ L
        omega
    · intro h
      have h1 := ih.2 (fun j hj => h j (by omega))
      have h2 := h (k + 1) (Nat.le_refl _)
      rw [show k + 1 + 1 = k + 2 by omega] at h2
      omega
theorem latM_bd {t d : Nat → Int} (ht : ∀ x, 0 ≤ t x ∧ t x ≤ 9) (hd : ∀ x, 0 ≤ d x ∧ d x ≤ 60) {l : List Nat} (hl : l.length ≤ 8) : ∀ k, -60 ≤ latM t d l k ∧ latM t d l k ≤ 72 := by
  intro k
  induction k with
  | zero => have := end_bd ht hl 1; have := hd (l.getD 0 0); rw [latM]; omega
  | succ k ih => have := end_bd ht hl (k + 2); have := hd (l.getD (k + 1) 0); rw [latM]; omega
theorem allLe_lat {t d : Nat → Int} {l : List Nat} {L : Int} (hl : 0 < l.length) : allLe t d L 0 l ↔ latM t d l (l.length - 1) ≤ L := by
  rw [allLe_iff, latM_iff]
  exact ⟨fun h j hj => by have := h j (by omega); omega, fun h k hk => by have := h k (by omega); omega⟩
def latestB (rows : List (List Int)) (o : List Int) : Bool := rowFine rows o && decide (0 < rows.length)
def latestRes (rows : List (List Int)) (o : List Int) : Int := if latestB rows o then latM (ta rows) (td rows) (nO o) (rows.length - 1) else 0
end Go.Proofs.Ytmcongioghkdcac
namespace Go.Proofs.Ytmcongioghkdcac
open Go.RowKit Go.WideShapes

theorem sumL_eraseIdx {f : Nat → Int} : ∀ (l : List Nat) (k : Nat), k < l.length → sumL f (l.eraseIdx k) = sumL f l - f (l.getD k 0) := by
  intro l
  induction l with
  | nil => intro k hk; simp at hk
  | cons x l ih =>
    intro k hk
    cases k with
    | zero => rw [List.eraseIdx_cons_zero, sumL]; simp; omega
    | succ k => rw [List.eraseIdx_cons_succ, sumL, sumL, ih k (by simpa using hk), List.getD_cons_succ]; omega
def nI (l : List Nat) : List Int := l.map (fun x : Nat => (x : Int))
theorem nI_len (l : List Nat) : (nI l).length = l.length := by simp [nI]
theorem nI_get {l : List Nat} {k : Nat} {x : Int} (h : (nI l)[k]? = some x) : x = ((l.getD k 0 : Nat) : Int) ∧ k < l.length := by
  unfold nI at h
  rw [List.getElem?_map] at h
  cases hq : l[k]? with
  | none => rw [hq] at h; cases h
  | some y =>
    rw [hq] at h
    simp only [Option.map_some, Option.some.injEq] at h
    exact ⟨by rw [List.getD_eq_getElem?_getD, hq]; exact h.symm, (List.getElem?_eq_some_iff.1 hq).1⟩
theorem nI_append (l m : List Nat) : nI (l ++ m) = nI l ++ nI m := by simp [nI]
theorem ints_at {w : World} {S : Nat → Prop} {a : Option Addr} {n : Nat} {l : List Nat} (h : IntsAt w S a n (nI l)) {k : Nat} (hk : k < n) : ∃ b off, a = some ⟨b, off, none⟩ ∧ S b ∧ w.cell? ⟨b, off + k, none⟩ = some (.int .i64 ((l.getD k 0 : Nat) : Int)) := by
  obtain ⟨b, off, e, hS, hc⟩ := h.cells (by omega)
  obtain ⟨b', off', x, e', hx, _⟩ := h.get hk
  have := hc k x hx
  rw [(nI_get hx).1] at this
  exact ⟨b, off, e, hS, this⟩
theorem own_at {w : World} {B g k cp : Nat} {l : List Nat} (h : w.ownsRow B 3 1 (.slice (some ⟨g, 0, none⟩) k cp) k ((nI l).map (.int .i64))) (hk : k ≤ 1048576) : IntsAt w (· < w.heap.size) (some ⟨g, 0, none⟩) k (nI l) := by
  obtain ⟨a', c', e', _, h'⟩ := own_ints h (by omega)
  injection e' with e1 _ _
  subst e1
  exact h'.to fun b hb => ⟨hb.2, rfl⟩
/-- those that are kept of the first j by due times -/
def keptM (rows : List (List Int)) (n j : Nat) : List Nat := keepL (ta rows) (td rows) ((sortE (ahD (td rows)) n).take j)
theorem keptM_sub {rows : List (List Int)} (hp : jobsM rows = true) (n j : Nat) : (keptM rows n j).Sublist ((sortE (ahD (td rows)) n).take j) := by
  refine (kept_all (fun x => (j_bd hp x).1.1) _ ((sortE_nodup _ n).sublist (List.take_sublist _ _)) ?_).sub
  exact (sortD (td rows) n).sublist (List.take_sublist _ _)
theorem keptM_succ {rows : List (List Int)} {n j x : Nat} (h : (sortE (ahD (td rows)) n)[j]? = some x) : keptM rows n (j + 1) = keepS (ta rows) (td rows) (keptM rows n j) x := by
  unfold keptM; rw [take_get h, keepL_snoc]
theorem kept_len {rows : List (List Int)} (hp : jobsM rows = true) {n j : Nat} : (keptM rows n j).length ≤ j := by
  have := (keptM_sub hp n j).length_le; rw [List.length_take] at this; omega
theorem kept_mem {rows : List (List Int)} (hp : jobsM rows = true) {n j x : Nat} (h : x ∈ keptM rows n j) : x < n :=
  sortE_mem.1 (List.mem_of_mem_take ((keptM_sub hp n j).subset h))
/-- what KeptOnTime answers -/
def keptRes (rows : List (List Int)) : List Int := if jobsM rows = true then nI (keptM rows rows.length rows.length) else []
end Go.Proofs.Ytmcongioghkdcac
namespace Go.Proofs.Ytmcongioghkdcac
open Go.RowKit Go.WideShapes

theorem ltX_bd {rows : List (List Int)} (hp : jobsM rows = true) {n s : Nat} (hn : n ≤ 8) (hs : s < 2 ^ n) : 0 ≤ ltX (ta rows) (tb rows) (td rows) n s ∧ ltX (ta rows) (tb rows) (td rows) n s ≤ 5600 := by
  refine ⟨ltX_nn (fun x => (j_bd hp x).2.1.1) s s (Nat.le_refl _) hs, ?_⟩
  obtain ⟨l, h1, h2, _, h4⟩ := lt_is (t := ta rows) (w := tb rows) (d := td rows) (fun x => (j_bd hp x).2.1.1) (n := n) s s (Nat.le_refl _) hs
  rw [← h4]
  have hl : l.length ≤ 8 := by
    have := List.Nodup.length_le_of_subset h1 (fun x hx => List.mem_range.2 (h2 x hx))
    rw [List.length_range] at this; omega
  have := (cost_bd (fun x => (j_bd hp x).1) (tard_bd hp) hl l.length).2
  rwa [List.take_length] at this
theorem bsum_bd {f : Nat → Int} (h : ∀ x, 0 ≤ f x ∧ f x ≤ 9) (s : Nat) : ∀ n, 0 ≤ bsum f s n ∧ bsum f s n ≤ 9 * (n : Int)
  | 0 => by simp [bsum]
  | n + 1 => by have := bsum_bd h s n; have := h n; rw [bsum]; split <;> omega
theorem scanL_bd {w d : Nat → Int} {tb : List Int} {tm : Int} {s : Nat} (hw : ∀ x, 0 ≤ w x ∧ w x ≤ 9) (hd : ∀ x, 0 ≤ d x ∧ d x ≤ 60) (htm : 0 ≤ tm ∧ tm ≤ 72) (htb : ∀ q, 0 ≤ tb.getD q 0 ∧ tb.getD q 0 ≤ 5600) : ∀ n, -1 ≤ scanL w d tb tm s n ∧ scanL w d tb tm s n ≤ 6300
  | 0 => by simp [scanL]
  | n + 1 => by
    have h1 := scanL_bd (s := s) hw hd htm htb n
    have h2 := htb (s - 2 ^ n)
    have h3 := hd n
    have h4 := mul_boxJ (hw n).1 (hw n).2 (show 0 ≤ max (tm - d n) 0 by omega) (show max (tm - d n) 0 ≤ 72 by omega)
    have h5 : tardG w d n tm = w n * max (tm - d n) 0 := rfl
    rw [scanL]
    split <;> omega
/-- what LeastTardy answers -/
def ltRes (rows : List (List Int)) : Int := if jobsM rows = true then ltX (ta rows) (tb rows) (td rows) rows.length (2 ^ rows.length - 1) else -1
set_option maxRecDepth 100000 in
set_option maxHeartbeats 8000000 in
theorem leastTardy_any (a : Option Addr) (len cap : Nat) (rows : List (List Int)) (w : World) (h : RowsAt w (· < w.heap.size) a len rows) (hp : jobsM rows = true) (hl8 : len ≤ 8) :
    Calls Try.prog 34 #[.slice a len cap] w (NewOwn w (ltT (ta rows) (tb rows) (td rows) len (2 ^ len - 1))) := by
  have HP := Lib.hid (jobs_get hp).2
  have HB := Lib.hid (fun x => j_bd hp x)
  have HG := Lib.hid h
  have hp2 : 1 ≤ 2 ^ len ∧ 2 ^ len ≤ 256 := ⟨Nat.two_pow_pos _, Nat.pow_le_pow_right (n := 2) (j := 8) (by omega) hl8⟩
  have HPV := Lib.hid (powV_eq len (by omega))
  have HLB := Lib.hid (fun s hs => ltX_bd hp hl8 (s := s) hs)
  obtain ⟨P, hP⟩ : ∃ P, 2 ^ len = P := ⟨_, rfl⟩
  rw [hP] at hp2 HPV HLB ⊢
  have HPE := Lib.hid hP
  have HPW := Lib.hid (fun w => power_all len (by omega) w)
  rw [HPV.out] at HPW
  have ho0 := own_one w (B := w.heap.size) (Nat.le_refl _) 0
  clear h hp hP
  go_enter Try.func34, Try.ntmps34
  go_wp2_with fail
  go_loopw [3, 4] (fun v s wr => ∃ (σ cp : Nat) (ax : Option Addr), s = .int .i64 ((σ + 1 : Nat) : Int) ∧ σ + 1 ≤ P ∧ v = .slice ax (σ + 1) cp ∧ wr.ownsRow w.heap.size 3 1 v (σ + 1) ((ltT (ta rows) (tb rows) (td rows) len σ).map (.int .i64)) ∧ Below w.heap.size w wr) (fun _ s _ => P - (intOf s).toNat)
  case atStart => exact ⟨0, 1, _, rfl, by omega, rfl, ho0, (Below.refl _ _).alloc (Nat.le_refl _) _⟩
  case round =>
    clear ho0
    obtain ⟨σ, cp, ax, rfl, hσ, rfl, hown, hB⟩ := hrel
    obtain ⟨wo, rfl⟩ : ∃ wo : World, wo = wr := ⟨_, rfl⟩
    have HOW := Lib.hid hown
    have HBW := Lib.hid hB
    clear hown hB
    by_cases hlt : σ + 1 < P
    · have HRO := Lib.hid (HG.out.below HBW.out)
      have HLS := Lib.hid (show ltT (ta rows) (tb rows) (td rows) len (σ + 1) = ltT (ta rows) (tb rows) (td rows) len σ ++ [scanL (tb rows) (td rows) (ltT (ta rows) (tb rows) (td rows) len σ) (bsum (ta rows) (σ + 1) len) (σ + 1) len] from rfl)
      have HTB := Lib.hid (show ∀ q, q ≤ σ → 0 ≤ (ltT (ta rows) (tb rows) (td rows) len σ).getD q 0 ∧ (ltT (ta rows) (tb rows) (td rows) len σ).getD q 0 ≤ 5600 from fun q hq => by rw [ltT_at hq]; exact HLB.out q (by omega))
      have HTL := Lib.hid (ltT_len (ta rows) (tb rows) (td rows) len σ)
      have HTA : Hid (∀ q, 0 ≤ (ltT (ta rows) (tb rows) (td rows) len σ).getD q 0 ∧ (ltT (ta rows) (tb rows) (td rows) len σ).getD q 0 ≤ 5600) := Lib.hid (fun q => by
        by_cases hq : q ≤ σ
        · exact HTB.out q hq
        · rw [getD_past (by rw [HTL.out]; omega)]; omega)
      have HI : Hid (IntsAt wo (· < wo.heap.size) ax (σ + 1) (ltT (ta rows) (tb rows) (td rows) len σ)) := Lib.hid (by
        obtain ⟨a', c', e', _, h'⟩ := own_ints HOW.out (by omega)
        injection e' with e1 _ _
        subst e1
        exact h'.to fun b hb => ⟨hb.2, rfl⟩)
      have hσI : ((σ + 1 : Nat) : Int) < (P : Int) := by omega
      obtain ⟨s, hs⟩ : ∃ s, σ + 1 = s := ⟨_, rfl⟩
      have HS := Lib.hid hs
      rw [hs] at hσI hlt HLS HI HOW ⊢
      have hs1 : 1 ≤ s ∧ s ≤ 256 := by omega
      obtain ⟨L, hL⟩ : ∃ L, ltT (ta rows) (tb rows) (td rows) len σ = L := ⟨_, rfl⟩
      rw [hL] at HLS HTL HTA HI HOW
      clear hs hL HTB
      go_wp2_with fail
      refine (HPW.out _).mono ?_
      rintro e w' ⟨rfl, rfl⟩
      go_wp2_with fail
      go_loopw [5, 6] (fun t i wy => ∃ k : Nat, k ≤ len ∧ i = .int .i64 k ∧ t = .int .i64 (bsum (ta rows) s k) ∧ Drew wo wy) (fun _ i _ => len - (intOf i).toNat)
      case atStart => exact ⟨0, Nat.zero_le _, rfl, rfl, Drew.refl _⟩
      case round =>
        obtain ⟨k, hk, rfl, rfl, hdw⟩ := hrel
        obtain ⟨z, rfl⟩ := hdw
        by_cases hlk : k < len
        · obtain ⟨b2, off2, b3, off3, c3, rfl, hcr, hct, _, _, _⟩ := row3_at HRO.out HP.out hlk
          have HN := Lib.hid (show bsum (ta rows) s (k + 1) = bsum (ta rows) s k + (if s.testBit k = true then ta rows k else 0) from rfl)
          have hbb := bsum_bd (fun x => (HB.out x).1) s k
          have htk := (HB.out k).1
          have hkI : (k : Int) < (len : Int) := by omega
          have HBIT := Lib.hid (show ∀ W : World, Calls Try.prog 45 #[.int .i64 (s : Int), .int .i64 (k : Int)] W (fun e w' => e = .returned (.int .i64 (bI s k)) ∧ w' = W) from fun W => (bit_at s k (by omega) (by omega) W).mono (fun _ _ h => ⟨h.1, h.2.symm⟩))
          generalize bsum (ta rows) s k = bs at *
          generalize ta rows k = tk at *
          cases htb : s.testBit k
          · have HBI : Hid (bI s k = 0) := Lib.hid (by unfold bI; rw [htb]; rfl)
            have HN2 := Lib.hid (HN.out.trans (by rw [htb]; simp : _ = bs))
            rw [HBI.out] at HBIT
            clear htb
            go_wp2_with fail
            go_quiet (first | (go_at_call 45; with_reducible exact quiet_add (HBIT.out _)))
            go_wp2_with fail
            go_roundw
            case rel => exact ⟨k + 1, by omega, by go_num, by rw [HN2.out] <;> simp, ⟨_, rfl⟩⟩
            case measure => simp [intOf] <;> omega
          · have HBI : Hid (bI s k = 1) := Lib.hid (by unfold bI; rw [htb]; rfl)
            have HN2 := Lib.hid (HN.out.trans (by rw [htb]; simp : _ = bs + tk))
            rw [HBI.out] at HBIT
            clear htb
            go_wp2_with fail
            go_quiet (first | (go_at_call 45; with_reducible exact quiet_add (HBIT.out _)))
            go_wp2_with fail
            go_roundw
            case rel => exact ⟨k + 1, by omega, by go_num, by rw [HN2.out] <;> simp, ⟨_, rfl⟩⟩
            case measure => simp [intOf] <;> omega
        · obtain rfl : k = len := by omega
          have htm := bsum_bd (fun x => (HB.out x).1) s k
          obtain ⟨tm, hTM⟩ : ∃ tm, bsum (ta rows) s k = tm := ⟨_, rfl⟩
          rw [hTM] at htm HLS ⊢
          have htm' : 0 ≤ tm ∧ tm ≤ 72 := by omega
          clear hTM htm
          have hkk : ¬ (k : Int) < (k : Int) := by omega
          go_wp2_with fail
          go_loopw [7, 8] (fun b i wy => ∃ i' : Nat, i' ≤ k ∧ i = .int .i64 i' ∧ b = .int .i64 (scanL (tb rows) (td rows) L tm s i') ∧ Drew wo wy) (fun _ i _ => k - (intOf i).toNat)
          case atStart => exact ⟨0, Nat.zero_le _, rfl, rfl, ⟨_, rfl⟩⟩
          case round =>
            obtain ⟨i, hi, rfl, rfl, hdw⟩ := hrel
            obtain ⟨z2, rfl⟩ := hdw
            have hsb := scanL_bd (tb := L) (s := s) (fun x => (HB.out x).2.1) (fun x => (HB.out x).2.2) htm' HTA.out i
            by_cases hli : i < k
            · obtain ⟨b2, off2, b3, off3, c3, rfl, hcr, hct, hcw, hcd, _⟩ := row3_at HRO.out HP.out hli
              have HN := Lib.hid (show scanL (tb rows) (td rows) L tm s (i + 1) = if s.testBit i = true ∧ (scanL (tb rows) (td rows) L tm s i < 0 ∨ L.getD (s - 2 ^ i) 0 + tb rows i * max (tm - td rows i) 0 < scanL (tb rows) (td rows) L tm s i) then L.getD (s - 2 ^ i) 0 + tb rows i * max (tm - td rows i) 0 else scanL (tb rows) (td rows) L tm s i from rfl)
              have hiI : (i : Int) < (k : Int) := by omega
              have HBIT := Lib.hid (show ∀ W : World, Calls Try.prog 45 #[.int .i64 (s : Int), .int .i64 (i : Int)] W (fun e w' => e = .returned (.int .i64 (bI s i)) ∧ w' = W) from fun W => (bit_at s i (by omega) (by omega) W).mono (fun _ _ h => ⟨h.1, h.2.symm⟩))
              have hwi := (HB.out i).2.1
              have hdi := (HB.out i).2.2
              clear hct
              generalize scanL (tb rows) (td rows) L tm s i = best at *
              generalize tb rows i = wi at *
              generalize td rows i = di at *
              cases htb : s.testBit i
              · have HBI : Hid (bI s i = 0) := Lib.hid (by unfold bI; rw [htb]; rfl)
                have HN2 := Lib.hid (HN.out.trans (by rw [htb]; simp : _ = best))
                rw [HBI.out] at HBIT
                clear htb
                go_wp2_with fail
                refine (HBIT.out _).mono ?_
                rintro e w' ⟨rfl, rfl⟩
                go_wp2_with fail
                go_roundw
                case rel => exact ⟨i + 1, by omega, by go_num, by rw [HN2.out], ⟨_, rfl⟩⟩
                case measure => simp [intOf] <;> omega
              · have HBI : Hid (bI s i = 1) := Lib.hid (by unfold bI; rw [htb]; rfl)
                have hge := ge_bit htb
                have hps : 1 ≤ 2 ^ i := Nat.two_pow_pos i
                rw [HBI.out] at HBIT
                rw [htb] at HN
                have HPV2 := Lib.hid (powV_eq i (by omega))
                obtain ⟨pi, hpi⟩ : ∃ pi, 2 ^ i = pi := ⟨_, rfl⟩
                rw [hpi] at hge hps HN HPV2
                have HPW2 := Lib.hid (show ∀ W : World, Calls Try.prog 44 #[.int .i64 (i : Int)] W (fun e w' => e = .returned (.int .i64 (pi : Int)) ∧ w' = W) from fun W => (power_all i (by omega) W).mono (fun _ _ h => ⟨by rw [h.1, HPV2.out], h.2.symm⟩))
                obtain ⟨q, hq⟩ : ∃ q, s - pi = q := ⟨_, rfl⟩
                rw [hq] at HN
                have hqs : q < s := by omega
                have hsq : (s : Int) - (pi : Int) = (q : Int) := by omega
                have hwq : IntKind.i64.wrap ((s : Int) - (pi : Int)) = (q : Int) := by rw [hsq]; exact IntWalk.i64_in _ (by omega)
                have hqsI : (q : Int) < (s : Int) := by omega
                obtain ⟨bL, offL, vq, rfl, hvq, hcq⟩ := HI.out.get hqs
                have HVQ := Lib.hid (getD_of hvq)
                have hvb := HTA.out q
                rw [HVQ.out] at HN hvb
                clear htb hpi hq hsq hvq
                by_cases hmx : tm - di < 0
                · have hpr := mul_boxJ hwi.1 hwi.2 (Int.le_refl 0) (Int.le_refl 0)
                  rw [show max (tm - di) 0 = 0 by omega, Int.mul_zero, Int.add_zero] at HN
                  by_cases hb0 : best < 0
                  · have HN2 := Lib.hid (HN.out.trans (if_pos ⟨rfl, .inl hb0⟩))
                    go_wp2_with fail
                    refine (HBIT.out _).mono ?_
                    rintro e w' ⟨rfl, rfl⟩
                    go_wp2_with fail
                    go_quiet (first | (go_at_call 44; with_reducible exact quiet_add (HPW2.out _)))
                    go_wp2_with fail
                    go_roundw
                    case rel => exact ⟨i + 1, by omega, by go_num, by rw [HN2.out] <;> simp, ⟨_, rfl⟩⟩
                    case measure => simp [intOf] <;> omega
                  · by_cases hb1 : vq < best
                    · have HN2 := Lib.hid (HN.out.trans (if_pos ⟨rfl, .inr hb1⟩))
                      go_wp2_with fail
                      refine (HBIT.out _).mono ?_
                      rintro e w' ⟨rfl, rfl⟩
                      go_wp2_with fail
                      go_quiet (first | (go_at_call 44; with_reducible exact quiet_add (HPW2.out _)))
                      go_wp2_with fail
                      go_roundw
                      case rel => exact ⟨i + 1, by omega, by go_num, by rw [HN2.out] <;> simp, ⟨_, rfl⟩⟩
                      case measure => simp [intOf] <;> omega
                    · have HN2 := Lib.hid (HN.out.trans (if_neg (fun h => h.2.elim hb0 hb1)))
                      go_wp2_with fail
                      refine (HBIT.out _).mono ?_
                      rintro e w' ⟨rfl, rfl⟩
                      go_wp2_with fail
                      go_quiet (first | (go_at_call 44; with_reducible exact quiet_add (HPW2.out _)))
                      go_wp2_with fail
                      go_roundw
                      case rel => exact ⟨i + 1, by omega, by go_num, by rw [HN2.out], ⟨_, rfl⟩⟩
                      case measure => simp [intOf] <;> omega
                · have hpr := mul_boxJ hwi.1 hwi.2 (show 0 ≤ tm - di by omega) (show tm - di ≤ 72 by omega)
                  rw [show max (tm - di) 0 = tm - di by omega] at HN
                  by_cases hb0 : best < 0
                  · have HN2 := Lib.hid (HN.out.trans (if_pos ⟨rfl, .inl hb0⟩))
                    go_wp2_with fail
                    refine (HBIT.out _).mono ?_
                    rintro e w' ⟨rfl, rfl⟩
                    go_wp2_with fail
                    go_quiet (first | (go_at_call 44; with_reducible exact quiet_add (HPW2.out _)))
                    go_wp2_with fail
                    go_roundw
                    case rel => exact ⟨i + 1, by omega, by go_num, by rw [HN2.out], ⟨_, rfl⟩⟩
                    case measure => simp [intOf] <;> omega
                  · by_cases hb1 : vq + wi * (tm - di) < best
                    · have HN2 := Lib.hid (HN.out.trans (if_pos ⟨rfl, .inr hb1⟩))
                      go_wp2_with fail
                      refine (HBIT.out _).mono ?_
                      rintro e w' ⟨rfl, rfl⟩
                      go_wp2_with fail
                      go_quiet (first | (go_at_call 44; with_reducible exact quiet_add (HPW2.out _)))
                      go_wp2_with fail
                      go_roundw
                      case rel => exact ⟨i + 1, by omega, by go_num, by rw [HN2.out], ⟨_, rfl⟩⟩
                      case measure => simp [intOf] <;> omega
                    · have HN2 := Lib.hid (HN.out.trans (if_neg (fun h => h.2.elim hb0 hb1)))
                      go_wp2_with fail
                      refine (HBIT.out _).mono ?_
                      rintro e w' ⟨rfl, rfl⟩
                      go_wp2_with fail
                      go_quiet (first | (go_at_call 44; with_reducible exact quiet_add (HPW2.out _)))
                      go_wp2_with fail
                      go_roundw
                      case rel => exact ⟨i + 1, by omega, by go_num, by rw [HN2.out], ⟨_, rfl⟩⟩
                      case measure => simp [intOf] <;> omega
            · obtain rfl : i = k := by omega
              have hii : ¬ (i : Int) < (i : Int) := by omega
              obtain ⟨bv, hbv⟩ : ∃ bv, scanL (tb rows) (td rows) L tm s i = bv := ⟨_, rfl⟩
              rw [hbv] at HLS ⊢
              clear hbv hsb
              have HOZ := Lib.hid (own_drewN HOW.out z2)
              have HBZ := Lib.hid (below_drewN HBW.out z2)
              obtain ⟨wz, hwz⟩ : ∃ wz, wo.drewN z2 = wz := ⟨_, rfl⟩
              rw [hwz] at HOZ HBZ ⊢
              clear hwz
              go_wp2_with (at_builtin; refine wpApp1 rfl _ _ rfl w.heap.size s cp ax L bv rfl HOZ.out rfl HBZ.out.size (by omega) ?_)
              intro a7 c7 w7 hown7 hc7 hgr7
              have HO7 := Lib.hid (own_snoc hown7)
              have HB7 := Lib.hid (HBZ.out.grown hgr7 HBZ.out.size (own_block HOZ.out))
              clear hown7 hgr7
              go_wp2_with fail
              go_roundw
              case rel => exact ⟨s, c7, a7, by go_num, by omega, rfl, by have := HS.out; subst this; rw [HLS.out]; exact HO7.out, HB7.out⟩
              case measure => simp [intOf] <;> omega
    · have hPe : P = σ + 1 := by omega
      have HPX := Lib.hid hPe
      have hge : ¬ ((σ + 1 : Nat) : Int) < (P : Int) := by omega
      clear hPe
      go_wp2_with fail
      refine (HPW.out _).mono ?_
      rintro e w' ⟨rfl, rfl⟩
      go_wp2_with fail
      go_ret
      have e1 : P - 1 = σ := by have := HPX.out; omega
      rw [e1]
      exact ⟨_, _, _, rfl, by omega, HOW.out, HBW.out⟩
set_option maxHeartbeats 1000000 in
theorem leastTardy_spec (a : Option Addr) (len cap : Nat) (rows : List (List Int)) (w : World) (h : RowsAt w (· < w.heap.size) a len rows) :
    Calls Try.prog 18 #[.slice a len cap] w (ValPost w (.int .i64 (ltRes rows))) := by
  have HL := Lib.hid h.lenEq
  cases hp : jobsM rows
  · have HR := Lib.hid (show ltRes rows = -1 by unfold ltRes; rw [hp]; rfl)
    rw [HR.out]
    go_enter Try.func18, Try.ntmps18
    go_wp2_with fail
    refine (validJobs_any _ a len cap rows w h).mono ?_
    rintro e w' ⟨rfl, rfl⟩
    rw [hp]
    go_wp2_with fail
    go_ret
    exact ⟨rfl, Below.refl _ _⟩
  · have hl8 : len ≤ 8 := by have := (jobs_get hp).1; have := HL.out; omega
    have HR := Lib.hid (show ltRes rows = ltX (ta rows) (tb rows) (td rows) len (2 ^ len - 1) by unfold ltRes; rw [if_pos hp, HL.out])
    have HVJ := Lib.hid (validJobs_any _ a len cap rows w h)
    have HLT := Lib.hid (leastTardy_any a len cap rows w h hp hl8)
    have hp2 : 1 ≤ 2 ^ len ∧ 2 ^ len ≤ 256 := ⟨Nat.two_pow_pos _, Nat.pow_le_pow_right (n := 2) (j := 8) (by omega) hl8⟩
    rw [hp] at HVJ
    rw [HR.out]
    have HLL := Lib.hid (ltT_len (ta rows) (tb rows) (td rows) len (2 ^ len - 1))
    have HLX := Lib.hid (show (ltT (ta rows) (tb rows) (td rows) len (2 ^ len - 1)).getD (2 ^ len - 1) 0 = ltX (ta rows) (tb rows) (td rows) len (2 ^ len - 1) from rfl)
    have hmb : 2 ^ len - 1 ≤ 255 := by omega
    generalize 2 ^ len - 1 = m at *
    clear h hp
    go_enter Try.func18, Try.ntmps18
    go_wp2_with fail
    refine HVJ.out.mono ?_
    rintro e w' ⟨rfl, rfl⟩
    go_wp2_with fail
    refine (HLT.out.mono (fun _ _ h => h.ints)).mono ?_
    rintro e w1 ⟨a3, l3, c3, rfl, h3, hc3, hb1⟩
    have hl3 : l3 = m + 1 := by have := h3.lenEq; have := HLL.out; omega
    subst hl3
    obtain ⟨b, off, x, rfl, hx, hc⟩ := h3.get (k := m) (by omega)
    have HX := Lib.hid ((getD_of hx).symm.trans HLX.out)
    clear hx h3
    have hmI : (m : Int) < (m : Int) + 1 := by omega
    have hwm : wrap64 (m : Int) = (m : Int) := w64_id (by omega) (by omega)
    go_wp2_with fail
    go_ret
    exact ⟨ret_int HX.out, hb1⟩
end Go.Proofs.Ytmcongioghkdcac
namespace Go.Proofs.Ytmcongioghkdcac
open Go.RowKit Go.WideShapes

theorem cloM_false {A : List Nat} {s k : Nat} (h : cloM A s (k + 1) = false) : ∀ n, k < n → cloM A s n = false
  | n + 1, hn => by
    rcases Nat.lt_or_eq_of_le (Nat.le_of_lt_succ hn) with h1 | rfl
    · rw [cloM, cloM_false h n h1]; rfl
    · exact h
end Go.Proofs.Ytmcongioghkdcac
namespace Go.Proofs.Ytmcongioghkdcac

theorem scanP_bd {T : List Int} {c : Int} {t : List Int} {s : Nat} {B : Int} (h0 : -1 ≤ B) (hB : ∀ r, r < s → t.getD r 0 + 1 ≤ B) : ∀ R, R ≤ s → -1 ≤ scanP T c t s R ∧ scanP T c t s R ≤ B
  | 0, _ => ⟨Int.le_refl _, h0⟩
  | R + 1, h => by
    have := scanP_bd (T := T) (c := c) h0 hB R (by omega)
    have h1 := hB R (by omega)
    rw [scanP]; split
    · rename_i h2; have := h2.1.2.1; omega
    · exact this
theorem stP_bd {T : List Int} {A : List Nat} {c : Int} : ∀ N s, s ≤ N → -1 ≤ stP T A c s ∧ stP T A c s ≤ s
  | N, 0, _ => by show (-1 : Int) ≤ 0 ∧ (0 : Int) ≤ 0; omega
  | N + 1, s + 1, h => by
    rw [stP_succ]; unfold nxtP; split
    · exact scanP_bd (B := ((s + 1 : Nat) : Int)) (by omega) (fun r hr => by rw [tabP_at (show r ≤ s by omega)]; have := stP_bd (T := T) (A := A) (c := c) N r (by omega); omega) (s + 1) (Nat.le_refl _)
    · omega
theorem tabP_step (T : List Int) (A : List Nat) (c : Int) {k : Nat} (h : 1 ≤ k) : tabP T A c k = tabP T A c (k - 1) ++ [nxtP T A c (tabP T A c (k - 1)) k] := by
  obtain ⟨d, rfl⟩ : ∃ d, k = d + 1 := ⟨k - 1, by omega⟩
  rfl
theorem tab_bd {T : List Int} {A : List Nat} {c : Int} {k r : Nat} (h : r < k) : -1 ≤ (tabP T A c (k - 1)).getD r 0 ∧ (tabP T A c (k - 1)).getD r 0 ≤ r := by
  rw [tabP_at (show r ≤ k - 1 by omega)]; exact stP_bd r r (Nat.le_refl _)
theorem scan_bd {T : List Int} {A : List Nat} {c : Int} {k R : Nat} (h : R ≤ k) : -1 ≤ scanP T c (tabP T A c (k - 1)) k R ∧ scanP T c (tabP T A c (k - 1)) k R ≤ k :=
  scanP_bd (by omega) (fun r hr => by have := tab_bd (T := T) (A := A) (c := c) hr; omega) R h
end Go.Proofs.Ytmcongioghkdcac
namespace Go.Proofs.Ytmcongioghkdcac
open Go.RowKit Go.WideShapes

theorem own_lit (w : World) (xs : List Int) (len : Nat) (hl : xs.length = len) (hs : len ≤ 1048576) : (w.alloc (.cells (cellsOf xs) 3)).ownsRow w.heap.size 3 1 (.slice (some ⟨w.heap.size, 0, none⟩) len len) len (xs.map (.int .i64)) :=
  ⟨by simp [hl], .inr ⟨w.heap.size, len, cellsOf xs, rfl, Nat.le_refl _, heap_alloc_new w _, Nat.le_refl _, by unfold maxLen; omega, by simp [cellsOf, hl], by simp [cellsOf]; exact List.take_of_length_le (by simp [hl])⟩⟩
theorem drew_two {a b c : World} (h1 : Drew a b) (h2 : Drew b c) : Drew a c := by obtain ⟨q, rfl⟩ := h2; exact h1.drew q
end Go.Proofs.Ytmcongioghkdcac
namespace Go.Proofs.Ytmcongioghkdcac
open Go.RowKit Go.WideShapes

def lineP (T ys : List Int) (c : Int) : Prop := (∀ k, k < T.length → T.getD k 0 ≤ c) ∧ tasksP T ys ∧ inB 1 60 c = true
instance (T ys : List Int) (c : Int) : Decidable (lineP T ys c) := by unfold lineP; infer_instance
def lineM (T ys : List Int) (c : Int) : Bool := decide (lineP T ys c)
theorem lineM_yes {T ys : List Int} {c : Int} (h : lineP T ys c) : lineM T ys c = true := decide_eq_true h
theorem lineM_no {T ys : List Int} {c : Int} (h : ¬ lineP T ys c) : lineM T ys c = false := decide_eq_false h
theorem lineM_get {T ys : List Int} {c : Int} (h : lineM T ys c = true) : lineP T ys c := of_decide_eq_true h
theorem lineP_c {T ys : List Int} {c : Int} (h : lineP T ys c) : 1 ≤ c ∧ c ≤ 60 := by simpa [inB] using h.2.2
def fewRes (T ys : List Int) (c : Int) : Int := if lineP T ys c then fewM T (natsOf ys) c else -1
end Go.Proofs.Ytmcongioghkdcac
