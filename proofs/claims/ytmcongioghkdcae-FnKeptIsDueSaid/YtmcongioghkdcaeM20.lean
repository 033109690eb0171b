import Derived.Test.YtmcongioghkdcaeM19
import Derived.Test.YtmcongioghkdcaeRows
import Derived.WalkKit
import Derived.LoopTactic
import Derived.Outline
import Derived.WalkSpells
import Derived.WalkLawsBesides
import Derived.ProofKit
import Derived.Lib.Hide
import Derived.Deep.QuietTactic
import Derived.BigQuiet
import Derived.IntWalk
import Derived.Test.YtmcongioghkdcaeM0
import Derived.Test.YtmcongioghkdcaeM1
import Derived.Test.YtmcongioghkdcaeM2
import Derived.Test.YtmcongioghkdcaeM10
import Derived.Test.YtmcongioghkdcaeM5
import Derived.Test.YtmcongioghkdcaeM6
namespace Go.Proofs.Ytmcongioghkdcae

-- jobs of which weights and times are exchanged, and jobs without due times (plain)
def turn3 (rows : List (List Int)) : List (List Int) := rows.map (fun r => [r.getD 1 0, r.getD 0 0, r.getD 2 0])
def zero3 (rows : List (List Int)) : List (List Int) := rows.map (fun r => [r.getD 0 0, r.getD 1 0, 0])
theorem turn3_t (rows : List (List Int)) : ta (turn3 rows) = tb rows := by
  funext x
  unfold ta tb turn3
  rw [List.getD_eq_getElem?_getD (l := rows.map _), List.getD_eq_getElem?_getD (l := rows), List.getElem?_map]
  cases rows[x]? <;> rfl
theorem turn3_w (rows : List (List Int)) : tb (turn3 rows) = ta rows := by
  funext x
  unfold ta tb turn3
  rw [List.getD_eq_getElem?_getD (l := rows.map _), List.getD_eq_getElem?_getD (l := rows), List.getElem?_map]
  cases rows[x]? <;> rfl
theorem zero3_t (rows : List (List Int)) : ta (zero3 rows) = ta rows := by
  funext x
  unfold ta zero3
  rw [List.getD_eq_getElem?_getD (l := rows.map _), List.getD_eq_getElem?_getD (l := rows), List.getElem?_map]
  cases rows[x]? <;> rfl
theorem zero3_w (rows : List (List Int)) : tb (zero3 rows) = tb rows := by
  funext x
  unfold tb zero3
  rw [List.getD_eq_getElem?_getD (l := rows.map _), List.getD_eq_getElem?_getD (l := rows), List.getElem?_map]
  cases rows[x]? <;> rfl
theorem zero3_d (rows : List (List Int)) (x : Nat) : td (zero3 rows) x = 0 := by
  unfold td zero3
  rw [List.getD_eq_getElem?_getD (l := rows.map _), List.getElem?_map]
  cases rows[x]? <;> rfl
theorem turn3_step {rows : List (List Int)} {k : Nat} (h : k < rows.length) : turn3 (rows.take (k + 1)) = turn3 (rows.take k) ++ [[tb rows k, ta rows k, td rows k]] := by
  have hr : rows[k]? = some rows[k] := List.getElem?_eq_getElem h
  obtain ⟨h1, h2, h3⟩ := j_at hr
  rw [take_get hr, h1, h2, h3]; unfold turn3; rw [List.map_append]; rfl
theorem zero3_step {rows : List (List Int)} {k : Nat} (h : k < rows.length) : zero3 (rows.take (k + 1)) = zero3 (rows.take k) ++ [[ta rows k, tb rows k, 0]] := by
  have hr : rows[k]? = some rows[k] := List.getElem?_eq_getElem h
  obtain ⟨h1, h2, _⟩ := j_at hr
  rw [take_get hr, h1, h2]; unfold zero3; rw [List.map_append]; rfl
theorem revM_rev (xs : List Int) : revM xs = xs.reverse := by
  apply List.ext_getElem?
  intro q
  by_cases h : q < xs.length
  · rw [List.getElem?_reverse h, get_getD (by rw [revM_length]; exact h), revM_getD xs h, get_getD (by omega)]
  · rw [List.getElem?_eq_none (by rw [revM_length]; omega), List.getElem?_eq_none (by simp; omega)]
theorem nO_revM (o : List Int) : nO (revM o) = (nO o).reverse := by rw [revM_rev]; unfold nO; rw [List.map_reverse]
/-- P72 -/
theorem turned_wait {rows : List (List Int)} {o : List Int} (h : rowFine rows o = true) : waitRes (turn3 rows) (revM o) < 0 ∨ waitRes (turn3 rows) (revM o) = waitRes rows o := by
  cases hf : rowFine (turn3 rows) (revM o) with
  | false => left; rw [waitRes_no hf]; omega
  | true => right; rw [waitRes_yes hf, waitRes_yes h, turn3_t, turn3_w, nO_revM]; exact wait_turned _ _ _
/-- P73 -/
theorem zero3_jobs {rows : List (List Int)} (hp : jobsM rows = true) : jobsM (zero3 rows) = true := by
  simp only [jobsM, Bool.and_eq_true, decide_eq_true_eq, List.all_eq_true] at hp ⊢
  refine ⟨fun r hr => ?_, by unfold zero3; rw [List.length_map]; exact hp.2⟩
  obtain ⟨s, hs, rfl⟩ := List.mem_map.1 hr
  have := hp.1 s hs
  simp only [jobB, Bool.and_eq_true] at this ⊢
  exact ⟨rfl, this.2.1, this.2.2.1, rfl⟩
theorem zero_late {rows : List (List Int)} {kind : ByteArray} (hp : jobsM rows = true) (hk : isW kind = true) : ltRes (zero3 rows) = waitRes (zero3 rows) (ordRes (zero3 rows) kind) := by
  have hz := zero3_jobs hp
  obtain ⟨⟨l, hl, e⟩, hmin⟩ := lt_leastL hz
  have same : ∀ m : List Nat, costG (ta (zero3 rows)) (tardG (tb (zero3 rows)) (td (zero3 rows))) 0 m = costG (ta (zero3 rows)) (waitG (tb (zero3 rows))) 0 m := by
    intro m
    refine costG_congr m 0 (fun x _ c hc => ?_) (fun x _ => jb_t hz x)
    unfold tardG waitG
    rw [zero3_d, show max (c - 0) 0 = c by omega]
  have hs := srt_fine hz (ahW (ta (zero3 rows)) (tb (zero3 rows)))
  rw [ord_wait hz hk, waitRes_yes hs, srtI_nI, nO_nI]
  have h1 := hmin _ (sortE_perm (ahW (ta (zero3 rows)) (tb (zero3 rows))) (zero3 rows).length)
  have h2 := wait_best (t := ta (zero3 rows)) (w := tb (zero3 rows)) _ l 0 (sortW (fun x hx => j_pos hz hx)) ((sortE_perm _ _).trans hl.symm)
  rw [same] at h1 e
  omega
theorem zero_kept {rows : List (List Int)} (hp : jobsM rows = true) : keptRes (zero3 rows) = [] := by
  have hz := zero3_jobs hp
  rw [keptRes_yes hz, kept_none (jb_t hz) (sortE_nodup _ _) (sortD _ _) (fun x hx => ⟨j_pos hz (sortE_mem.1 hx), zero3_d rows x⟩)]
  rfl
theorem zero3_len (rows : List (List Int)) : (zero3 rows).length = rows.length := by simp [zero3]
end Go.Proofs.Ytmcongioghkdcae
namespace Go.Proofs.Ytmcongioghkdcae
open Go.RowKit Go.WideShapes

/-- the greatest number, 0 if there is none -/
def greatM : List Int → Int
  | xs => xs.foldl max 0
theorem greatM_snoc (xs : List Int) (x : Int) : greatM (xs ++ [x]) = max (greatM xs) x := by simp [greatM]
theorem greatM_nn (xs : List Int) : 0 ≤ greatM xs := by
  have key : ∀ (xs : List Int) (s : Int), s ≤ xs.foldl max s := by
    intro xs
    induction xs with
    | nil => intro s; exact Int.le_refl _
    | cons a l ih => intro s; have := ih (max s a); simp only [List.foldl_cons]; omega
  exact key xs 0
theorem greatM_ge {xs : List Int} : ∀ x ∈ xs, x ≤ greatM xs := by
  have key : ∀ (xs : List Int) (s : Int), s ≤ xs.foldl max s ∧ ∀ x ∈ xs, x ≤ xs.foldl max s := by
    intro xs
    induction xs with
    | nil => intro s; exact ⟨Int.le_refl _, fun x hx => by cases hx⟩
    | cons a l ih =>
      intro s
      obtain ⟨h1, h2⟩ := ih (max s a)
      simp only [List.foldl_cons]
      refine ⟨by omega, fun x hx => ?_⟩
      rcases List.mem_cons.1 hx with rfl | hx
      · omega
      · exact h2 x hx
  exact (key xs 0).2
theorem greatM_le {xs : List Int} {B : Int} (hB : 0 ≤ B) (h : ∀ x ∈ xs, x ≤ B) : greatM xs ≤ B := by
  have key : ∀ (xs : List Int) (s : Int), s ≤ B → (∀ x ∈ xs, x ≤ B) → xs.foldl max s ≤ B := by
    intro xs
    induction xs with
    | nil => intro s hs _; exact hs
    | cons a l ih => intro s hs h; simp only [List.foldl_cons]; exact ih _ (by have := h a List.mem_cons_self; omega) (fun x hx => h x (List.mem_cons_of_mem _ hx))
  exact key xs 0 hB h
def inM (xs : List Int) (x : Int) : Bool := xs.any (· == x)
theorem inM_iff {xs : List Int} {x : Int} : inM xs x = true ↔ x ∈ xs := by simp [inM]
/-- how many numbers are different -/
def diffM (xs : List Int) : Nat → Nat
  | 0 => 0
  | k + 1 => diffM xs k + (if inM (xs.take k) (xs.getD k 0) then 0 else 1)
theorem diffM_le (xs : List Int) : ∀ k, diffM xs k ≤ k := by
  intro k
  induction k with
  | zero => exact Nat.le_refl _
  | succ k ih => rw [diffM]; split <;> omega
theorem ints_take {w : World} {S : Nat → Prop} {b off len : Nat} {xs : List Int} (h : IntsAt w S (some ⟨b, off, none⟩) len xs) {k : Nat} (hk : k ≤ len) : IntsAt w S (some ⟨b, off, none⟩) k (xs.take k) := by
  have hl := h.lenEq
  have hs := h.small
  refine ⟨by simp; omega, by omega, fun h0 => ?_⟩
  obtain ⟨b', off', e, hS, hc⟩ := h.cells (by omega)
  cases e
  refine ⟨b, off, rfl, hS, fun i x hx => ?_⟩
  rw [List.getElem?_take] at hx
  split at hx
  · exact hc _ _ hx
  · cases hx
end Go.Proofs.Ytmcongioghkdcae
namespace Go.Proofs.Ytmcongioghkdcae

-- what the laws of kept jobs ask (plain)
structure KeptP (rows : List (List Int)) (l : List Nat) : Prop where
  res : keptRes rows = nI l
  mem : ∀ x ∈ l, x < rows.length
  nod : l.Nodup
  due : ∀ x y, l[x]? = some y → ∀ z, l[x + 1]? = some z → td rows y ≤ td rows z
  time : ∀ x y, l[x]? = some y → sumL (ta rows) (l.take (x + 1)) ≤ td rows y
  rest : ∀ m : List Nat, (l ++ m).Perm (List.range rows.length) → lateRes rows (nI (l ++ m)) = (m.length : Int)
theorem kept_is {rows : List (List Int)} (hp : jobsM rows = true) : ∃ l, KeptP rows l := by
  have hn := sortE_nodup (ahD (td rows)) rows.length
  have hs := sortD (td rows) rows.length
  have hk := kept_all (jb_t hp) (d := td rows) _ hn hs
  have hkn := hn.sublist hk.sub
  refine ⟨keepL (ta rows) (td rows) (sortE (ahD (td rows)) rows.length), keptRes_yes hp, fun x hx => sortE_mem.1 (hk.sub.subset hx), hkn, fun x y hy z hz => ?_, fun x y hy => ?_, fun m hm => ?_⟩
  · obtain ⟨hx, rfl⟩ := List.getElem?_eq_some_iff.1 hy
    obtain ⟨hx2, rfl⟩ := List.getElem?_eq_some_iff.1 hz
    exact List.pairwise_iff_getElem.1 (kept_due (jb_t hp) (d := td rows) hn hs).1 x (x + 1) hx hx2 (by omega)
  · have hx := (List.getElem?_eq_some_iff.1 hy).1
    have := (allLe_iff _ 0).1 hk.time x hx
    rw [List.getD_eq_getElem?_getD, hy] at this
    simp only [Option.getD_some] at this
    omega
  · have hf : rowFine rows (nI (keepL (ta rows) (td rows) (sortE (ahD (td rows)) rows.length) ++ m)) = true := by unfold rowFine; rw [hp, order_nI hm]; rfl
    rw [lateRes_yes hf, nO_nI]
    refine kept_late (jb_t hp) hn hs (fun x hx => ?_)
    refine ⟨sortE_mem.2 ?_, fun hxk => ?_⟩
    · have := hm.mem_iff.1 (List.mem_append_right _ hx); simpa using this
    · exact (List.nodup_append.1 (hm.symm.nodup List.nodup_range)).2.2 x hxk x hx rfl
theorem kept_no {rows : List (List Int)} (hp : jobsM rows = false) : keptRes rows = [] := by unfold keptRes; rw [hp]; rfl
theorem kept_full {rows : List (List Int)} {kind : ByteArray} (hp : jobsM rows = true) (hw : isW kind = false) (hd : isD kind = true) : (keptRes rows).length = rows.length ↔ lateRes rows (ordRes rows kind) = 0 := by
  rw [keptRes_yes hp, nI_len, ord_due hp hw hd, lateRes_yes (srt_fine hp _), srtI_nI, nO_nI]
  have := (kept_due (jb_t hp) (d := td rows) (sortE_nodup (ahD (td rows)) rows.length) (sortD (td rows) rows.length)).2
  rw [sortE_len] at this
  exact this
/-- the jobs that are not kept, up to i -/
def restTo (l : List Nat) : Nat → List Nat
  | 0 => []
  | i + 1 => if i ∈ l then restTo l i else restTo l i ++ [i]
theorem restTo_mem (l : List Nat) : ∀ i x, x ∈ restTo l i ↔ x < i ∧ x ∉ l := by
  intro i
  induction i with
  | zero => intro x; simp [restTo]
  | succ i ih =>
    intro x
    rw [restTo]
    split
    · rename_i h; rw [ih]; constructor
      · rintro ⟨h1, h2⟩; exact ⟨by omega, h2⟩
      · rintro ⟨h1, h2⟩; exact ⟨by have : x ≠ i := fun e => h2 (e ▸ h); omega, h2⟩
    · rename_i h
      rw [List.mem_append, ih, List.mem_singleton]; constructor
      · rintro (⟨h1, h2⟩ | rfl)
        · exact ⟨by omega, h2⟩
        · exact ⟨by omega, h⟩
      · rintro ⟨h1, h2⟩
        by_cases e : x = i
        · exact .inr e
        · exact .inl ⟨by omega, h2⟩
theorem restTo_nod (l : List Nat) : ∀ i, (restTo l i).Nodup := by
  intro i
  induction i with
  | zero => exact List.nodup_nil
  | succ i ih =>
    rw [restTo]; split
    · exact ih
    · exact (List.perm_append_singleton _ _).symm.nodup (List.nodup_cons.2 ⟨fun h => by have := ((restTo_mem l i i).1 h).1; omega, ih⟩)
theorem rest_perm {l : List Nat} {n : Nat} (hm : ∀ x ∈ l, x < n) (hn : l.Nodup) : (l ++ restTo l n).Perm (List.range n) := by
  refine (List.perm_ext_iff_of_nodup ?_ List.nodup_range).2 (fun x => ?_)
  · exact List.nodup_append.2 ⟨hn, restTo_nod l n, fun a ha b hb e => ((restTo_mem l n b).1 hb).2 (e ▸ ha)⟩
  · rw [List.mem_append, restTo_mem, List.mem_range]; constructor
    · rintro (h | h)
      · exact hm x h
      · exact h.1
    · intro h
      by_cases hx : x ∈ l
      · exact .inl hx
      · exact .inr ⟨h, hx⟩
theorem restTo_len (l : List Nat) : ∀ i, (restTo l i).length ≤ i := by
  intro i
  induction i with
  | zero => exact Nat.le_refl _
  | succ i ih => rw [restTo]; split
                 · omega
                 · rw [List.length_append, List.length_singleton]; omega
theorem inM_nI {l : List Nat} {i : Nat} : inM (nI l) (i : Int) = decide (i ∈ l) := by
  rw [Bool.eq_iff_iff, inM_iff, decide_eq_true_eq]
  unfold nI
  rw [List.mem_map]
  constructor
  · rintro ⟨y, hy, e⟩
    have : y = i := by omega
    exact this ▸ hy
  · intro h; exact ⟨i, h, rfl⟩
/-- all others are late -/
theorem rest_late {rows : List (List Int)} {l : List Nat} {n : Nat} (h : KeptP rows l) (hn : rows.length = n) : lateRes rows (nI (l ++ restTo l n)) = (n : Int) - (l.length : Int) := by
  subst hn
  have hp := rest_perm h.mem h.nod
  rw [h.rest _ hp]
  have := hp.length_eq
  rw [List.length_append, List.length_range] at this
  omega
end Go.Proofs.Ytmcongioghkdcae
