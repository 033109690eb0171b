import Derived.Test.YtjcbpnffmebihaaGreatDoorA31
import Derived.Test.YtjcbpnffmebihaaGreatDoorRows
import Derived.WalkKit
import Derived.LoopTactic
import Derived.Outline
import Derived.WalkSpells
import Derived.WalkLawsBesides
import Derived.ProofKit
import Derived.Lib.Hide
import Derived.Deep.RegionHeld3
import Derived.BigQuiet
namespace Go.Proofs.YtjcbpnffmebihaaGreatDoor

/-! What the code reads and what the model reads of a line are the same wherever it matters. -/
def SmallR (rows : List (List Int)) : Prop := ∀ r ∈ rows, ∀ x ∈ r, 0 ≤ x ∧ x < 100
theorem num_code {t : ByteArray} (h : numOk t = true) : codeN t = some (numV t) := by
  unfold numOk numV at *
  cases hc : codeN t with
  | none => rw [hc] at h; cases h
  | some v => rfl
theorem read_of_num {t : ByteArray} (h : numOk t = true) (h0 : 0 ≤ numV t) (h1 : numV t < 100) : readB t = numV t := (codeN_read h0 h1).1 (num_code h)
theorem num_of_read {t : ByteArray} (h0 : 0 ≤ readB t) (h1 : readB t < 100) : numOk t = true ∧ numV t = readB t := by
  have := (codeN_read (s := t) h0 h1).2 rfl
  unfold numOk numV
  rw [this]
  exact ⟨rfl, rfl⟩
theorem rows_of_code {t : ByteArray} (hok : rowsOk t = true) (hs : SmallR (rowsV t)) : rowsB t = rowsV t := by
  unfold rowsB rowsV rowV
  refine List.map_congr_left fun l hl => List.map_congr_left fun x hx => ?_
  have h1 := List.all_eq_true.1 (List.all_eq_true.1 hok l hl) x hx
  have h2 := hs (rowV l) (List.mem_map.2 ⟨l, hl, rfl⟩) (numV x) (List.mem_map.2 ⟨x, hx, rfl⟩)
  exact read_of_num h1 h2.1 h2.2
theorem rows_of_model {t : ByteArray} (hs : SmallR (rowsB t)) : rowsOk t = true ∧ rowsV t = rowsB t := by
  have key : ∀ l ∈ splitB t 47, ∀ x ∈ splitB l 44, numOk x = true ∧ numV x = readB x := fun l hl x hx => by
    have h2 := hs ((splitB l 44).map readB) (List.mem_map.2 ⟨l, hl, rfl⟩) (readB x) (List.mem_map.2 ⟨x, hx, rfl⟩)
    exact num_of_read h2.1 h2.2
  constructor
  · exact List.all_eq_true.2 fun l hl => List.all_eq_true.2 fun x hx => (key l hl x hx).1
  · unfold rowsV rowsB rowV
    exact List.map_congr_left fun l hl => List.map_congr_left fun x hx => (key l hl x hx).2
theorem mem_two {r : List Int} (h : r.length = 2) {x : Int} (hx : x ∈ r) : x = r.getD 0 0 ∨ x = r.getD 1 0 := by
  match r, h with
  | [a, b], _ => simpa using hx
theorem mem_three {r : List Int} (h : r.length = 3) {x : Int} (hx : x ∈ r) : x = r.getD 0 0 ∨ x = r.getD 1 0 ∨ x = r.getD 2 0 := by
  match r, h with
  | [a, b, c], _ => simpa using hx
theorem small_pairs {rows : List (List Int)} (h : pairsM rows = true) : SmallR rows := fun r hr x hx => by
  obtain ⟨h1, h2, h3⟩ := (pairs_get h).2 r hr
  rcases mem_two h1 hx with rfl | rfl <;> omega
theorem small_jobs {rows : List (List Int)} (h : jobsM rows = true) : SmallR rows := fun r hr x hx => by
  obtain ⟨h1, h2, h3, h4⟩ := (jobs_get h).2 r hr
  rcases mem_three h1 hx with rfl | rfl | rfl <;> omega
theorem small_all {lo hi : Int} {r : List Int} (h : allIn lo hi r = true) (h0 : 0 ≤ lo) (h1 : hi < 100) : ∀ x ∈ r, 0 ≤ x ∧ x < 100 := fun x hx => by
  obtain ⟨k, hk⟩ := List.mem_iff_getElem?.1 hx
  have := allIn_get h hk
  omega
theorem small_one {rows : List (List Int)} {r : List Int} (hl : rows.length = 1) (hr : rows.getD 0 [] = r) (h : ∀ x ∈ r, 0 ≤ x ∧ x < 100) : SmallR rows := by
  match rows, hl with
  | [a], _ =>
    intro q hq x hx
    simp at hq hr
    subst hq hr
    exact h x hx
theorem lots_small {xs : List Int} {a b : Int} (h : validLotsM xs a b = true) : (∀ x ∈ xs, 0 ≤ x ∧ x < 100) ∧ (0 ≤ a ∧ a < 100) ∧ (0 ≤ b ∧ b < 100) := by
  obtain ⟨hv, hs, hh⟩ := validLots_get h
  unfold validDaysM at hv
  simp only [Bool.and_eq_true] at hv
  exact ⟨small_all hv.2 (by omega) (by omega), by omega, by omega⟩
theorem cuts_small {xs : List Int} {R : Int} (h : cutsM xs R = true) : (∀ x ∈ xs, 0 ≤ x ∧ x < 100) ∧ (0 ≤ R ∧ R < 100) := by
  obtain ⟨h1, h2, _, _⟩ := cuts_get h
  unfold cutsM at h
  simp only [Bool.and_eq_true] at h
  exact ⟨small_all h.1 (by omega) (by omega), by omega⟩
theorem stock_small {xs : List Int} {o u : Int} (h : okO xs o u = true) : (∀ x ∈ xs, 0 ≤ x ∧ x < 100) ∧ (0 ≤ o ∧ o < 100) ∧ (0 ≤ u ∧ u < 100) := by
  obtain ⟨hc, ho0, ho1, hu0, hu1⟩ := okO_at h
  unfold chM at hc
  simp only [Bool.and_eq_true] at hc
  exact ⟨small_all hc.1.2 (by omega) (by omega), by omega, by omega⟩
/-- what the code answers -/
def codeTwo (ts : List ByteArray) : Bool := askOk 0 false ts && pairsM (rowsV (ts.getD 0 ByteArray.empty))
def codeKept (ts : List ByteArray) : Bool := askOk 0 false ts && jobsM (rowsV (ts.getD 0 ByteArray.empty))
def codeLots (ts : List ByteArray) : Bool := askOk 2 true ts && validLotsM ((rowsV (ts.getD 2 ByteArray.empty)).getD 0 []) (numV (ts.getD 0 ByteArray.empty)) (numV (ts.getD 1 ByteArray.empty))
def codeRolls (ts : List ByteArray) : Bool := askOk 1 true ts && cutsM ((rowsV (ts.getD 1 ByteArray.empty)).getD 0 []) (numV (ts.getD 0 ByteArray.empty))
def codeStock (ts : List ByteArray) : Bool := askOk 2 true ts && okO ((rowsV (ts.getD 2 ByteArray.empty)).getD 0 []) (numV (ts.getD 0 ByteArray.empty)) (numV (ts.getD 1 ByteArray.empty))
/-- the model's answer to a word and what is behind it -/
def lineB (k : ByteArray) (ts : List ByteArray) : ByteArray := wordsB (k :: ts) (rowsB ((k :: ts).getD ((k :: ts).length - 1) ByteArray.empty))
theorem ask_get {A : Nat} {isl : Bool} {ts : List ByteArray} (h : askOk A isl ts = true) : ts.length = A + 1 ∧ (∀ i, i < A → numOk (ts.getD i ByteArray.empty) = true) ∧ rowsOk (ts.getD A ByteArray.empty) = true ∧ (isl = true → (rowsV (ts.getD A ByteArray.empty)).length = 1) := by
  unfold askOk at h
  simp only [Bool.and_eq_true, decide_eq_true_eq, Bool.or_eq_true, Bool.not_eq_true'] at h
  obtain ⟨h1, h2, h3, h4⟩ := h
  refine ⟨h1, fun i hi => ?_, h3, fun e => ?_⟩
  · refine List.all_eq_true.1 h2 _ (List.mem_take_iff_getElem.2 ⟨i, by omega, ?_⟩)
    rw [List.getD_eq_getElem?_getD, List.getElem?_eq_getElem (by omega)]; rfl
  · have := rowsV_bd (ts.getD A ByteArray.empty)
    rcases h4 with h4 | h4
    · rw [e] at h4; cases h4
    · omega
theorem ask_mk {A : Nat} {isl : Bool} {ts : List ByteArray} (h1 : ts.length = A + 1) (h2 : ∀ i, i < A → numOk (ts.getD i ByteArray.empty) = true) (h3 : rowsOk (ts.getD A ByteArray.empty) = true) (h4 : isl = true → (rowsV (ts.getD A ByteArray.empty)).length = 1) : askOk A isl ts = true := by
  unfold askOk
  rw [decide_eq_true h1, h3]
  have e : (ts.take A).all numOk = true := List.all_eq_true.2 fun x hx => by
    obtain ⟨i, hi, rfl⟩ := List.mem_take_iff_getElem.1 hx
    have := h2 i (by omega)
    rwa [List.getD_eq_getElem?_getD, List.getElem?_eq_getElem (by omega)] at this
  rw [e]
  cases isl
  · rfl
  · rw [decide_eq_true (Nat.le_of_eq (h4 rfl))]; rfl
theorem two_line (ts : List ByteArray) : lineB kTwo ts = if codeTwo ts = true then twoB (rowsV (ts.getD 0 ByteArray.empty)) else sWrong := by
  unfold lineB wordsB
  rw [if_pos (show (kTwo :: ts).getD 0 ByteArray.empty = kTwo from rfl)]
  by_cases hc : codeTwo ts = true
  · rw [if_pos hc]
    unfold codeTwo at hc
    simp only [Bool.and_eq_true] at hc
    obtain ⟨h1, h2, h3, h4⟩ := ask_get hc.1
    have e := rows_of_code h3 (small_pairs hc.2)
    have hl : (kTwo :: ts).length - 1 = 1 := by simp; omega
    rw [hl, show (kTwo :: ts).getD 1 ByteArray.empty = ts.getD 0 ByteArray.empty from rfl, e, if_pos ⟨by simp; omega, hc.2⟩]
  · rw [if_neg hc, if_neg]
    rintro ⟨h1, h2⟩
    have h1 : ts.length = 1 := by simpa using h1
    have hl : (kTwo :: ts).length - 1 = 1 := by simp; omega
    rw [hl, show (kTwo :: ts).getD 1 ByteArray.empty = ts.getD 0 ByteArray.empty from rfl] at h2
    obtain ⟨e1, e2⟩ := rows_of_model (small_pairs h2)
    refine hc ?_
    unfold codeTwo
    rw [ask_mk (by omega) (fun i hi => absurd hi (by omega)) e1 (fun e => by cases e), e2, h2]; rfl
theorem kept_line (ts : List ByteArray) : lineB kKept ts = if codeKept ts = true then keptB (rowsV (ts.getD 0 ByteArray.empty)) else sWrong := by
  unfold lineB wordsB
  rw [if_neg (show (kKept :: ts).getD 0 ByteArray.empty ≠ kTwo by show kKept ≠ kTwo; decide), if_pos (show (kKept :: ts).getD 0 ByteArray.empty = kKept from rfl)]
  by_cases hc : codeKept ts = true
  · rw [if_pos hc]
    unfold codeKept at hc
    simp only [Bool.and_eq_true] at hc
    obtain ⟨h1, h2, h3, h4⟩ := ask_get hc.1
    have e := rows_of_code h3 (small_jobs hc.2)
    have hl : (kKept :: ts).length - 1 = 1 := by simp; omega
    rw [hl, show (kKept :: ts).getD 1 ByteArray.empty = ts.getD 0 ByteArray.empty from rfl, e, if_pos ⟨by simp; omega, hc.2⟩]
  · rw [if_neg hc, if_neg]
    rintro ⟨h1, h2⟩
    have h1 : ts.length = 1 := by simpa using h1
    have hl : (kKept :: ts).length - 1 = 1 := by simp; omega
    rw [hl, show (kKept :: ts).getD 1 ByteArray.empty = ts.getD 0 ByteArray.empty from rfl] at h2
    obtain ⟨e1, e2⟩ := rows_of_model (small_jobs h2)
    refine hc ?_
    unfold codeKept
    rw [ask_mk (by omega) (fun i hi => absurd hi (by omega)) e1 (fun e => by cases e), e2, h2]; rfl
theorem lots_line (ts : List ByteArray) : lineB kLots ts = if codeLots ts = true then lotsB ((rowsV (ts.getD 2 ByteArray.empty)).getD 0 []) (numV (ts.getD 0 ByteArray.empty)) (numV (ts.getD 1 ByteArray.empty)) else sWrong := by
  unfold lineB wordsB
  rw [if_neg (show (kLots :: ts).getD 0 ByteArray.empty ≠ kTwo by show kLots ≠ kTwo; decide), if_neg (show (kLots :: ts).getD 0 ByteArray.empty ≠ kKept by show kLots ≠ kKept; decide), if_pos (show (kLots :: ts).getD 0 ByteArray.empty = kLots from rfl)]
  rw [show (kLots :: ts).getD 1 ByteArray.empty = ts.getD 0 ByteArray.empty from rfl, show (kLots :: ts).getD 2 ByteArray.empty = ts.getD 1 ByteArray.empty from rfl]
  by_cases hc : codeLots ts = true
  · rw [if_pos hc]
    unfold codeLots at hc
    simp only [Bool.and_eq_true] at hc
    obtain ⟨h1, h2, h3, h4⟩ := ask_get hc.1
    obtain ⟨g1, g2, g3⟩ := lots_small hc.2
    have e := rows_of_code h3 (small_one (h4 rfl) rfl g1)
    have n0 := read_of_num (h2 0 (by omega)) g2.1 g2.2
    have n1 := read_of_num (h2 1 (by omega)) g3.1 g3.2
    have hl : (kLots :: ts).length - 1 = 3 := by simp; omega
    rw [hl, show (kLots :: ts).getD 3 ByteArray.empty = ts.getD 2 ByteArray.empty from rfl, e, n0, n1, if_pos ⟨by simp; omega, hc.2, h4 rfl⟩]
  · rw [if_neg hc, if_neg]
    rintro ⟨h1, h2, h3⟩
    have h1 : ts.length = 3 := by simpa using h1
    have hl : (kLots :: ts).length - 1 = 3 := by simp; omega
    rw [hl, show (kLots :: ts).getD 3 ByteArray.empty = ts.getD 2 ByteArray.empty from rfl] at h2 h3
    obtain ⟨g1, g2, g3⟩ := lots_small h2
    obtain ⟨e1, e2⟩ := rows_of_model (small_one h3 rfl g1)
    have n0 := num_of_read g2.1 g2.2
    have n1 := num_of_read g3.1 g3.2
    refine hc ?_
    unfold codeLots
    rw [ask_mk (by omega) (fun i hi => by rcases (show i = 0 ∨ i = 1 by omega) with rfl | rfl; exact n0.1; exact n1.1) e1 (fun _ => by rw [e2]; exact h3), e2, n0.2, n1.2, h2]; rfl
theorem rolls_line (ts : List ByteArray) : lineB kRolls ts = if codeRolls ts = true then rollsB ((rowsV (ts.getD 1 ByteArray.empty)).getD 0 []) (numV (ts.getD 0 ByteArray.empty)) else sWrong := by
  unfold lineB wordsB
  rw [if_neg (show (kRolls :: ts).getD 0 ByteArray.empty ≠ kTwo by show kRolls ≠ kTwo; decide), if_neg (show (kRolls :: ts).getD 0 ByteArray.empty ≠ kKept by show kRolls ≠ kKept; decide), if_neg (show (kRolls :: ts).getD 0 ByteArray.empty ≠ kLots by show kRolls ≠ kLots; decide), if_pos (show (kRolls :: ts).getD 0 ByteArray.empty = kRolls from rfl)]
  rw [show (kRolls :: ts).getD 1 ByteArray.empty = ts.getD 0 ByteArray.empty from rfl]
  by_cases hc : codeRolls ts = true
  · rw [if_pos hc]
    unfold codeRolls at hc
    simp only [Bool.and_eq_true] at hc
    obtain ⟨h1, h2, h3, h4⟩ := ask_get hc.1
    obtain ⟨g1, g2⟩ := cuts_small hc.2
    have e := rows_of_code h3 (small_one (h4 rfl) rfl g1)
    have n0 := read_of_num (h2 0 (by omega)) g2.1 g2.2
    have hl : (kRolls :: ts).length - 1 = 2 := by simp; omega
    rw [hl, show (kRolls :: ts).getD 2 ByteArray.empty = ts.getD 1 ByteArray.empty from rfl, e, n0, if_pos ⟨by simp; omega, h4 rfl, hc.2⟩]
  · rw [if_neg hc, if_neg]
    rintro ⟨h1, h3, h2⟩
    have h1 : ts.length = 2 := by simpa using h1
    have hl : (kRolls :: ts).length - 1 = 2 := by simp; omega
    rw [hl, show (kRolls :: ts).getD 2 ByteArray.empty = ts.getD 1 ByteArray.empty from rfl] at h2 h3
    obtain ⟨g1, g2⟩ := cuts_small h2
    obtain ⟨e1, e2⟩ := rows_of_model (small_one h3 rfl g1)
    have n0 := num_of_read g2.1 g2.2
    refine hc ?_
    unfold codeRolls
    rw [ask_mk (by omega) (fun i hi => by have e : i = 0 := (by omega); subst e; exact n0.1) e1 (fun _ => by rw [e2]; exact h3), e2, n0.2, h2]; rfl
theorem stock_line (ts : List ByteArray) : lineB kStock ts = if codeStock ts = true then stockB ((rowsV (ts.getD 2 ByteArray.empty)).getD 0 []) (numV (ts.getD 0 ByteArray.empty)) (numV (ts.getD 1 ByteArray.empty)) else sWrong := by
  unfold lineB wordsB
  rw [if_neg (show (kStock :: ts).getD 0 ByteArray.empty ≠ kTwo by show kStock ≠ kTwo; decide), if_neg (show (kStock :: ts).getD 0 ByteArray.empty ≠ kKept by show kStock ≠ kKept; decide), if_neg (show (kStock :: ts).getD 0 ByteArray.empty ≠ kLots by show kStock ≠ kLots; decide), if_neg (show (kStock :: ts).getD 0 ByteArray.empty ≠ kRolls by show kStock ≠ kRolls; decide), if_pos (show (kStock :: ts).getD 0 ByteArray.empty = kStock from rfl)]
  rw [show (kStock :: ts).getD 1 ByteArray.empty = ts.getD 0 ByteArray.empty from rfl, show (kStock :: ts).getD 2 ByteArray.empty = ts.getD 1 ByteArray.empty from rfl]
  by_cases hc : codeStock ts = true
  · rw [if_pos hc]
    unfold codeStock at hc
    simp only [Bool.and_eq_true] at hc
    obtain ⟨h1, h2, h3, h4⟩ := ask_get hc.1
    obtain ⟨g1, g2, g3⟩ := stock_small hc.2
    have e := rows_of_code h3 (small_one (h4 rfl) rfl g1)
    have n0 := read_of_num (h2 0 (by omega)) g2.1 g2.2
    have n1 := read_of_num (h2 1 (by omega)) g3.1 g3.2
    have hl : (kStock :: ts).length - 1 = 3 := by simp; omega
    rw [hl, show (kStock :: ts).getD 3 ByteArray.empty = ts.getD 2 ByteArray.empty from rfl, e, n0, n1, if_pos ⟨by simp; omega, h4 rfl, hc.2⟩]
  · rw [if_neg hc, if_neg]
    rintro ⟨h1, h3, h2⟩
    have h1 : ts.length = 3 := by simpa using h1
    have hl : (kStock :: ts).length - 1 = 3 := by simp; omega
    rw [hl, show (kStock :: ts).getD 3 ByteArray.empty = ts.getD 2 ByteArray.empty from rfl] at h2 h3
    obtain ⟨g1, g2, g3⟩ := stock_small h2
    obtain ⟨e1, e2⟩ := rows_of_model (small_one h3 rfl g1)
    have n0 := num_of_read g2.1 g2.2
    have n1 := num_of_read g3.1 g3.2
    refine hc ?_
    unfold codeStock
    rw [ask_mk (by omega) (fun i hi => by rcases (show i = 0 ∨ i = 1 by omega) with rfl | rfl; exact n0.1; exact n1.1) e1 (fun _ => by rw [e2]; exact h3), e2, n0.2, n1.2, h2]; rfl
theorem what_line (k : ByteArray) (ts : List ByteArray) (k1 : k ≠ kTwo) (k2 : k ≠ kKept) (k3 : k ≠ kLots) (k4 : k ≠ kRolls) (k5 : k ≠ kStock) : lineB k ts = sWhat := by
  unfold lineB wordsB
  rw [show (k :: ts).getD 0 ByteArray.empty = k from rfl, if_neg k1, if_neg k2, if_neg k3, if_neg k4, if_neg k5]
theorem ans_line {line k : ByteArray} {ts : List ByteArray} (h : splitB line 32 = k :: ts) : ansB line = lineB k ts := by
  unfold ansB lineB; rw [h]
end Go.Proofs.YtjcbpnffmebihaaGreatDoor
namespace Go.Proofs.YtjcbpnffmebihaaGreatDoor
open Go.RowKit Go.WideShapes

set_option maxRecDepth 100000 in
set_option maxHeartbeats 8000000 in
/-- a line of a command -/
theorem answerTo_cmd (A : Nat) (isl : Bool) (F : Nat) (ok : List ByteArray → Bool) (out : List ByteArray → ByteArray) (line x0 : ByteArray) (ts : List ByteArray) (w : World) (hA : A ≤ 2) (hE : EnvD w) (h10 : 10 ≤ w.heap.size) (hs : line.size ≤ 1048575) (hsp : splitB line 32 = x0 :: ts)
    (hent : ∀ (args : Array Value) (w : World), (callFunc F args).run Tryz.prog w = .ok (.enter F args) w)
    (hcmd : ∀ W, Calls Tryz.prog 48 #[.string x0] W fun e W' => e = .returned (.tuple #[.agg #[.int .i64 A, .bool isl, .func (.func F) #[] #[]], .bool true]) ∧ Below W.heap.size W W')
    (hans : ∀ (a1 : Option Addr) (c1 : Nat) (a2 : Option Addr) (l2 c2 : Nat) (W : World), askOk A isl ts = true → EnvD W → 10 ≤ W.heap.size → A ≤ c1 → IntsAt W (· < W.heap.size) a1 A ((ts.take A).map numV) → RowsAt W (· < W.heap.size) a2 l2 (rowsV (ts.getD A ByteArray.empty)) → l2 ≤ c2 →
      Calls Tryz.prog F #[.agg #[.slice a1 A c1, .slice a2 l2 c2]] W (AnsPost W (ok ts) (out ts))) :
    Calls Tryz.prog 29 #[.string line] w (AnsPost w (askOk A isl ts && ok ts) (out ts)) := by
  have HE := Lib.hid hE
  have H10 := Lib.hid h10
  have HSP := Lib.hid hsp
  have HCMD := Lib.hid hcmd
  have HANS := Lib.hid hans
  have HSZ := Lib.hid (splitB_size line 32)
  have n1 := iface_ne
  have n2 := nil_ne
  have hst : ∀ (W : World) (p : Addr), W.cell? p = some .nilFunc → W.frozen? p = false → (store p (.func (.func F) #[] #[])).run Tryz.prog W = .ok () (W.setCell p (.func (.func F) #[] #[])) := by
    intro W p h1 h2; rw [run_store Tryz.prog _ _ _ _ (by rfl)]; simp [h1, h2]
  clear hE h10 hcmd hans
  go_enter Tryz.func29, Tryz.ntmps29
  go_wp2_with fail
  refine (strSplit line 32 w HE.out (by omega)).mono ?_
  rintro e w1 ⟨rfl, hst1, hb1, hz1⟩
  rw [hsp] at hst1
  rw [hsp, List.length_cons]
  rw [List.length_cons] at hst1
  have HST := Lib.hid hst1
  have HB1 := Lib.hid hb1
  have HZ1 := Lib.hid hz1
  have hc0 : w1.cell? ⟨w.heap.size, 0, none⟩ = some (.string x0) := by
    obtain ⟨b, o, x, e0, hx, hc⟩ := hst1.get (k := 0) (by omega)
    injection e0 with e0
    injection e0 with q1 q2
    subst q1 q2
    injection hx with hx
    subst hx
    exact hc
  have hn0 : (0 : Int) < ((ts.length + 1 : Nat) : Int) := by omega
  have hn1 : (1 : Int) ≤ ((ts.length + 1 : Nat) : Int) := by omega
  have hnn : 1 ≤ ts.length + 1 := by omega
  have HTL := Lib.hid (show ts.length ≤ 1048575 by have := splitB_pos line 32; rw [hsp, List.length_cons] at this; omega)
  clear hst1 hb1 hz1 hsp
  go_wp2_with fail
  refine (HCMD.out w1).mono ?_
  rintro e w2 ⟨rfl, hb2⟩
  have HB2 := Lib.hid hb2
  have HZ2 := Lib.hid hb2.size
  clear hb2 hc0
  go_wp2_with fail
  obtain ⟨w3, hw3⟩ : ∃ w3 : World, w3 = w2.alloc (.cells #[.int .i64 A, .bool isl, .func (.func F) #[] #[]] 73) := ⟨_, rfl⟩
  rw [← hw3]
  have hs3 : w3.heap.size = w2.heap.size + 1 := by rw [hw3]; simp
  have HB3 := Lib.hid (show Below w.heap.size w w3 by rw [hw3]; exact (HB1.out.trans (HB2.out.mono HB1.out.size)).alloc (by have := HZ1.out; have := HZ2.out; omega) _)
  have hk0 : w3.cell? ⟨w2.heap.size, 0, none⟩ = some (.int .i64 A) := by rw [hw3]; simp
  have hk1 : w3.cell? ⟨w2.heap.size, 1, none⟩ = some (.bool isl) := by rw [hw3]; simp
  have hk2 : w3.cell? ⟨w2.heap.size, 2, none⟩ = some (.func (.func F) #[] #[]) := by rw [hw3]; simp
  have HST3 := Lib.hid (show StrsAt w3 (· < w3.heap.size) (some ⟨w.heap.size, 1, none⟩) ts.length ts from ⟨rfl, by have := HTL.out; omega, fun h0 => by
    obtain ⟨b, o, e', hS, hc⟩ := (HST.out.to (w' := w3) (S' := fun b => b = w.heap.size) fun b hb => ⟨hb, by rw [hw3, Below.heap_alloc _ _ _ (by have := HZ1.out; have := HZ2.out; omega)]; exact HB2.out.block b (by have := HZ1.out; omega)⟩).cells (by omega)
    injection e' with e'
    injection e' with q1 q2
    subst q1 q2
    exact ⟨w.heap.size, 1, rfl, by have := HZ1.out; have := HZ2.out; omega, fun i x hx => by have := hc (i + 1) x (by rw [List.getElem?_cons_succ]; exact hx); rw [Nat.zero_add] at this; rw [Nat.add_comm 1]; exact this⟩⟩)
  have HE3 := Lib.hid (HE.out.below H10.out HB3.out)
  have H103 := Lib.hid (show 10 ≤ w3.heap.size by have := H10.out; have := HZ1.out; have := HZ2.out; omega)
  have HTZ := Lib.hid (show ∀ t ∈ ts, t.size ≤ 1048575 from fun t ht => Nat.le_trans (HSZ.out t (by rw [HSP.out]; exact List.mem_cons_of_mem _ ht)) hs)
  have HBL := Lib.hid (show w2.heap.size < w3.heap.size by omega)
  have HK0 := Lib.hid hk0
  have HK1 := Lib.hid hk1
  have HK2 := Lib.hid hk2
  have HBW := Lib.hid ((Below.refl w3.heap.size w3).drew)
  have hnn2 : ts.length + 1 - 1 = ts.length := by omega
  have HS3 := Lib.hid hs3
  have hne23 : w2.heap.size ≠ w3.heap.size := by omega
  have hne32 : w3.heap.size ≠ w2.heap.size := by omega
  clear hw3 hs3
  have hI1 : (1 : Int) ≤ (ts.length : Int) + 1 := by omega
  have HBA := Lib.hid (((Below.refl w3.heap.size w3).alloc (Nat.le_refl _) (.cells #[.slice none 0 0, .slice none 0 0] 77)).drew)
  have HZ0 := Lib.hid (show (w3.alloc (.cells #[.slice none 0 0, .slice none 0 0] 77)).drew.cell? ⟨w3.heap.size, 0, none⟩ = some (.slice none 0 0) by simp)
  have HZ1 := Lib.hid (show (w3.alloc (.cells #[.slice none 0 0, .slice none 0 0] 77)).drew.cell? ⟨w3.heap.size, 1, none⟩ = some (.slice none 0 0) by simp)
  have HZF := Lib.hid (show ∀ i : Nat, (w3.alloc (.cells #[.slice none 0 0, .slice none 0 0] 77)).drew.frozen? ⟨w3.heap.size, i, none⟩ = false by intro i; simp)
  have HZL := Lib.hid (show w3.heap.size < (w3.alloc (.cells #[.slice none 0 0, .slice none 0 0] 77)).drew.heap.size by simp)
  by_cases hts : ts.length = 0
  · have HK := Lib.hid (show askOk A isl ts = false by unfold askOk; rw [decide_eq_false (by omega)]; rfl)
    go_region_held3 (fun W => W.cell? ⟨w2.heap.size, 0, none⟩ = some (.int .i64 A) ∧ W.cell? ⟨w2.heap.size, 1, none⟩ = some (.bool isl) ∧ W.cell? ⟨w2.heap.size, 2, none⟩ = some (.func (.func F) #[] #[])) (first | go_keep | exact kS) (first
      | (go_at_call 49; refine (read_no HK.out hA (HE3.out.below H103.out HBW.out) (Nat.le_trans H103.out HBW.out.size) (show StrsAt _ _ _ _ ts from ⟨by first | exact hts | rfl, by omega, fun h0 => absurd h0 (by omega)⟩) HTZ.out (by have := HTL.out; omega) (Nat.le_refl _)).mono ?_; rintro e wp ⟨⟨m, rfl⟩, hb5⟩; have HBW := Lib.hid (HBW.out.trans (hb5.mono HBW.out.size)); have kS := And.intro (cell_up HK0.out HBL.out HBW.out) (And.intro (cell_up HK1.out HBL.out HBW.out) (cell_up HK2.out HBL.out HBW.out)); clear hb5)
      | (go_at_call 49; refine (read_no HK.out hA (HE3.out.below H103.out HBA.out) (Nat.le_trans H103.out HBA.out.size) (show StrsAt _ _ _ _ ts from ⟨by first | exact hts | rfl, by omega, fun h0 => absurd h0 (by omega)⟩) HTZ.out (by have := HTL.out; omega) (Nat.le_refl _)).mono ?_; rintro e wp ⟨⟨m, rfl⟩, hb5⟩; have kz0 := cell_up HZ0.out HZL.out hb5; have kz1 := cell_up HZ1.out HZL.out hb5; have kzf : ∀ i : Nat, wp.frozen? ⟨w3.heap.size, i, none⟩ = false := fun i => (hb5.frozen (p := ⟨w3.heap.size, i, none⟩) HZL.out).trans (HZF.out i); have HBW := Lib.hid (HBA.out.trans (hb5.mono HBA.out.size)); have kS := And.intro (cell_up HK0.out HBL.out HBW.out) (And.intro (cell_up HK1.out HBL.out HBW.out) (cell_up HK2.out HBL.out HBW.out)); clear hb5))
    all_goals
      have HBX := Lib.hid (HB3.out.trans (HBW.out.mono HB3.out.size))
      go_wp2_with fail
      go_ret2
      refine ⟨?_, .inr ⟨by rw [HK.out]; rfl, _, _, rfl⟩⟩
      repeat' first | exact Below.refl _ _ | exact HBX.out | refine Below.setCell ?_ (by first | exact Nat.le_refl _ | (show _ ≤ w3.heap.size; exact HB3.out.size)) _ | refine Below.alloc ?_ (by first | omega | exact HBX.out.size | (simp; done) | (simp; omega)) _
  cases hk : askOk A isl ts
  · have HK := Lib.hid hk
    go_region_held3 (fun W => W.cell? ⟨w2.heap.size, 0, none⟩ = some (.int .i64 A) ∧ W.cell? ⟨w2.heap.size, 1, none⟩ = some (.bool isl) ∧ W.cell? ⟨w2.heap.size, 2, none⟩ = some (.func (.func F) #[] #[])) (first | go_keep | exact kS) (first
      | (go_at_call 49; refine (read_no HK.out hA (HE3.out.below H103.out HBW.out) (Nat.le_trans H103.out HBW.out.size) (HST3.out.to fun b hb => ⟨Nat.lt_of_lt_of_le hb HBW.out.size, HBW.out.block b hb⟩) HTZ.out (by have := HTL.out; omega) (Nat.le_refl _)).mono ?_; rintro e wp ⟨⟨m, rfl⟩, hb5⟩; have HBW := Lib.hid (HBW.out.trans (hb5.mono HBW.out.size)); have kS := And.intro (cell_up HK0.out HBL.out HBW.out) (And.intro (cell_up HK1.out HBL.out HBW.out) (cell_up HK2.out HBL.out HBW.out)); clear hb5)
      | (go_at_call 49; refine (read_no HK.out hA (HE3.out.below H103.out HBA.out) (Nat.le_trans H103.out HBA.out.size) (HST3.out.to fun b hb => ⟨Nat.lt_of_lt_of_le hb HBA.out.size, HBA.out.block b hb⟩) HTZ.out (by have := HTL.out; omega) (Nat.le_refl _)).mono ?_; rintro e wp ⟨⟨m, rfl⟩, hb5⟩; have kz0 := cell_up HZ0.out HZL.out hb5; have kz1 := cell_up HZ1.out HZL.out hb5; have kzf : ∀ i : Nat, wp.frozen? ⟨w3.heap.size, i, none⟩ = false := fun i => (hb5.frozen (p := ⟨w3.heap.size, i, none⟩) HZL.out).trans (HZF.out i); have HBW := Lib.hid (HBA.out.trans (hb5.mono HBA.out.size)); have kS := And.intro (cell_up HK0.out HBL.out HBW.out) (And.intro (cell_up HK1.out HBL.out HBW.out) (cell_up HK2.out HBL.out HBW.out)); clear hb5))
    all_goals
      have HBX := Lib.hid (HB3.out.trans (HBW.out.mono HB3.out.size))
      go_wp2_with fail
      go_ret2
      refine ⟨?_, .inr ⟨by rw [HK.out]; rfl, _, _, rfl⟩⟩
      repeat' first | exact Below.refl _ _ | exact HBX.out | refine Below.setCell ?_ (by first | exact Nat.le_refl _ | (show _ ≤ w3.heap.size; exact HB3.out.size)) _ | refine Below.alloc ?_ (by first | omega | exact HBX.out.size | (simp; done) | (simp; omega)) _
  · have HK := Lib.hid hk
    go_region_held3 (fun W => W.cell? ⟨w2.heap.size, 0, none⟩ = some (.int .i64 A) ∧ W.cell? ⟨w2.heap.size, 1, none⟩ = some (.bool isl) ∧ W.cell? ⟨w2.heap.size, 2, none⟩ = some (.func (.func F) #[] #[])) (first | go_keep | exact kS) (first
      | (go_at_call 49; refine (read_yes HK.out hA (HE3.out.below H103.out HBW.out) (Nat.le_trans H103.out HBW.out.size) (HST3.out.to fun b hb => ⟨Nat.lt_of_lt_of_le hb HBW.out.size, HBW.out.block b hb⟩) HTZ.out (by have := HTL.out; omega) (Nat.le_refl _)).mono ?_; rintro e wp ⟨a1, c1, a2, l2, c2, rfl, hc1, hi1, hr2, hc2, hb5⟩; have HBW := Lib.hid (HBW.out.trans (hb5.mono HBW.out.size)); have kS := And.intro (cell_up HK0.out HBL.out HBW.out) (And.intro (cell_up HK1.out HBL.out HBW.out) (cell_up HK2.out HBL.out HBW.out)); have HI := Lib.hid hi1; have HR := Lib.hid hr2; have HC := Lib.hid (And.intro hc1 hc2); clear hb5)
      | (go_at_call 49; refine (read_yes HK.out hA (HE3.out.below H103.out HBA.out) (Nat.le_trans H103.out HBA.out.size) (HST3.out.to fun b hb => ⟨Nat.lt_of_lt_of_le hb HBA.out.size, HBA.out.block b hb⟩) HTZ.out (by have := HTL.out; omega) (Nat.le_refl _)).mono ?_; rintro e wp ⟨a1, c1, a2, l2, c2, rfl, hc1, hi1, hr2, hc2, hb5⟩; have kz0 := cell_up HZ0.out HZL.out hb5; have kz1 := cell_up HZ1.out HZL.out hb5; have kzf : ∀ i : Nat, wp.frozen? ⟨w3.heap.size, i, none⟩ = false := fun i => (hb5.frozen (p := ⟨w3.heap.size, i, none⟩) HZL.out).trans (HZF.out i); have HBW := Lib.hid (HBA.out.trans (hb5.mono HBA.out.size)); have kS := And.intro (cell_up HK0.out HBL.out HBW.out) (And.intro (cell_up HK1.out HBL.out HBW.out) (cell_up HK2.out HBL.out HBW.out)); have HI := Lib.hid hi1; have HR := Lib.hid hr2; have HC := Lib.hid (And.intro hc1 hc2); clear hb5))
    all_goals
      have HBX := Lib.hid (HB3.out.trans (HBW.out.mono HB3.out.size))
    · have HB6 := Lib.hid (show Below wp.heap.size wp (wp.alloc (.cells #[.slice a1 A c1, .slice a2 l2 c2] 77)) from (Below.refl _ _).alloc (Nat.le_refl _) _)
      have HW6 := Lib.hid (show Below w.heap.size w (wp.alloc (.cells #[.slice a1 A c1, .slice a2 l2 c2] 77)) from HBX.out.trans (HB6.out.mono HBX.out.size))
      have HI6 := Lib.hid (ints_up (HI.out.to (w' := wp) (S' := (· < wp.heap.size)) fun b hb => ⟨hb.2, rfl⟩) HB6.out)
      have HR6 := Lib.hid (rows_up (HR.out.to (w' := wp) (S' := (· < wp.heap.size)) fun b hb => ⟨hb.2, rfl⟩) HB6.out)
      have k2 := cell_up kS.2.2 (Nat.lt_of_lt_of_le HBL.out HBW.out.size) HB6.out
      have k3 : (wp.alloc (.cells #[.slice a1 A c1, .slice a2 l2 c2] 77)).cell? ⟨wp.heap.size, 0, none⟩ = some (.slice a1 A c1) := by simp
      have k4 : (wp.alloc (.cells #[.slice a1 A c1, .slice a2 l2 c2] 77)).cell? ⟨wp.heap.size, 1, none⟩ = some (.slice a2 l2 c2) := by simp
      generalize wp.alloc (.cells #[.slice a1 A c1, .slice a2 l2 c2] 77) = w6 at *
      have HE6 := Lib.hid (HE.out.below H10.out HW6.out)
      have H106 := Lib.hid (Nat.le_trans H10.out HW6.out.size)
      clear kS hk
      go_wp2_with fail
      refine (HANS.out a1 c1 a2 l2 c2 w6 HK.out HE6.out H106.out HC.out.1 HI6.out HR6.out HC.out.2).mono ?_
      rintro e w7 ⟨hb7, ⟨hok, rfl⟩ | ⟨hno, q, m, rfl⟩⟩
      · have HOK := Lib.hid hok
        have HB7 := Lib.hid (HW6.out.trans (hb7.mono HW6.out.size))
        clear hb7 hok
        go_wp2_with fail
        go_ret2
        exact ⟨HB7.out, .inl ⟨by rw [HK.out, HOK.out]; rfl, rfl⟩⟩
      · have HOK := Lib.hid hno
        have HB7 := Lib.hid (HW6.out.trans (hb7.mono HW6.out.size))
        clear hb7 hno
        go_wp2_with fail
        go_ret2
        exact ⟨HB7.out, .inr ⟨by rw [HK.out, HOK.out]; rfl, q, m, rfl⟩⟩
    · have HN6 := Lib.hid (show ∀ b, b ≠ w3.heap.size → ((wp.setCell ⟨w3.heap.size, 0, none⟩ (.slice a1 A c1)).setCell ⟨w3.heap.size, 1, none⟩ (.slice a2 l2 c2)).heap[b]? = wp.heap[b]? from fun b hb => (Below.heap_setCell _ _ _ _ (by show b ≠ w3.heap.size; exact hb)).trans (Below.heap_setCell _ _ _ _ (by show b ≠ w3.heap.size; exact hb)))
      have HZ6 := Lib.hid (show ((wp.setCell ⟨w3.heap.size, 0, none⟩ (.slice a1 A c1)).setCell ⟨w3.heap.size, 1, none⟩ (.slice a2 l2 c2)).heap.size = wp.heap.size by simp only [World.size_setCell])
      have HW6 := Lib.hid (show Below w.heap.size w ((wp.setCell ⟨w3.heap.size, 0, none⟩ (.slice a1 A c1)).setCell ⟨w3.heap.size, 1, none⟩ (.slice a2 l2 c2)) from (HBX.out.setCell (p := ⟨w3.heap.size, 0, none⟩) HB3.out.size _).setCell (p := ⟨w3.heap.size, 1, none⟩) HB3.out.size _)
      have HL6 := Lib.hid (show (w3.alloc (.cells #[.slice none 0 0, .slice none 0 0] 77)).drew.heap.size = w3.heap.size + 1 by simp)
      have HI6 := Lib.hid (HI.out.to (w' := (wp.setCell ⟨w3.heap.size, 0, none⟩ (.slice a1 A c1)).setCell ⟨w3.heap.size, 1, none⟩ (.slice a2 l2 c2)) (S' := (· < ((wp.setCell ⟨w3.heap.size, 0, none⟩ (.slice a1 A c1)).setCell ⟨w3.heap.size, 1, none⟩ (.slice a2 l2 c2)).heap.size)) fun b hb => ⟨by rw [HZ6.out]; exact hb.2, HN6.out b (by have := HL6.out; omega)⟩)
      have HR6 := Lib.hid (HR.out.to (w' := (wp.setCell ⟨w3.heap.size, 0, none⟩ (.slice a1 A c1)).setCell ⟨w3.heap.size, 1, none⟩ (.slice a2 l2 c2)) (S' := (· < ((wp.setCell ⟨w3.heap.size, 0, none⟩ (.slice a1 A c1)).setCell ⟨w3.heap.size, 1, none⟩ (.slice a2 l2 c2)).heap.size)) fun b hb => ⟨by rw [HZ6.out]; exact hb.2, HN6.out b (by have := HL6.out; omega)⟩)
      have k2 : ((wp.setCell ⟨w3.heap.size, 0, none⟩ (.slice a1 A c1)).setCell ⟨w3.heap.size, 1, none⟩ (.slice a2 l2 c2)).cell? ⟨w2.heap.size, 2, none⟩ = some (.func (.func F) #[] #[]) := by rw [World.cell?_of_block (w := wp) (HN6.out _ hne23)]; exact kS.2.2
      have k3 : ((wp.setCell ⟨w3.heap.size, 0, none⟩ (.slice a1 A c1)).setCell ⟨w3.heap.size, 1, none⟩ (.slice a2 l2 c2)).cell? ⟨w3.heap.size, 0, none⟩ = some (.slice a1 A c1) := by rw [World.cell?_setCell_other _ _ _ _ (by simp)]; exact World.cell?_setCell_same _ _ _ kz0
      have k4 : ((wp.setCell ⟨w3.heap.size, 0, none⟩ (.slice a1 A c1)).setCell ⟨w3.heap.size, 1, none⟩ (.slice a2 l2 c2)).cell? ⟨w3.heap.size, 1, none⟩ = some (.slice a2 l2 c2) := World.cell?_setCell_same _ _ _ (u := .slice none 0 0) (by rw [World.cell?_setCell_other _ _ _ _ (by simp)]; exact kz1)
      generalize (wp.setCell ⟨w3.heap.size, 0, none⟩ (.slice a1 A c1)).setCell ⟨w3.heap.size, 1, none⟩ (.slice a2 l2 c2) = w6 at *
      have HE6 := Lib.hid (HE.out.below H10.out HW6.out)
      have H106 := Lib.hid (Nat.le_trans H10.out HW6.out.size)
      clear kS hk
      go_wp2_with fail
      refine (HANS.out a1 c1 a2 l2 c2 w6 HK.out HE6.out H106.out HC.out.1 HI6.out HR6.out HC.out.2).mono ?_
      rintro e w7 ⟨hb7, ⟨hok, rfl⟩ | ⟨hno, q, m, rfl⟩⟩
      · have HOK := Lib.hid hok
        have HB7 := Lib.hid (HW6.out.trans (hb7.mono HW6.out.size))
        clear hb7 hok
        go_wp2_with fail
        go_ret2
        exact ⟨HB7.out, .inl ⟨by rw [HK.out, HOK.out]; rfl, rfl⟩⟩
      · have HOK := Lib.hid hno
        have HB7 := Lib.hid (HW6.out.trans (hb7.mono HW6.out.size))
        clear hb7 hno
        go_wp2_with fail
        go_ret2
        exact ⟨HB7.out, .inr ⟨by rw [HK.out, HOK.out]; rfl, q, m, rfl⟩⟩
end Go.Proofs.YtjcbpnffmebihaaGreatDoor
