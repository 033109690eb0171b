import Derived.Test.YtmcongioghkdcadM17
import Derived.Test.YtmcongioghkdcadM2
import Derived.Deep.Upon
namespace Go.Proofs.Ytmcongioghkdcad

-- what the laws of kept jobs ask (plain)
structure KeptP (rows : List (List Int)) (l : List Nat) : Prop where
  res : keptRes rows = nI l
  mem : ∀ x ∈ l, x < rows.length
  nod : l.Nodup
  due : ∀ x y, l[x]? = some y → ∀ z, l[x + 1]? = some z → td rows y ≤ td rows z
  time : ∀ x y, l[x]? = some y → sumL (ta rows) (l.take (x + 1)) ≤ td rows y
  rest : ∀ m : List Nat, (l ++ m).Perm (List.range rows.length) → lateRes rows (nI (l ++ m)) = (m.length : Int)
theorem kept_is {rows : List (List Int)} (hp : jobsM rows = true) : ∃ l, KeptP rows l := by
  have hn := sortE_nodup (ahD (td rows)) rows.length
  have hs := sortD (td rows) rows.length
  have hk := kept_all (jb_t hp) (d := td rows) _ hn hs
  have hkn := hn.sublist hk.sub
  refine ⟨keepL (ta rows) (td rows) (sortE (ahD (td rows)) rows.length), keptRes_yes hp, fun x hx => sortE_mem.1 (hk.sub.subset hx), hkn, fun x y hy z hz => ?_, fun x y hy => ?_, fun m hm => ?_⟩
  · obtain ⟨hx, rfl⟩ := List.getElem?_eq_some_iff.1 hy
    obtain ⟨hx2, rfl⟩ := List.getElem?_eq_some_iff.1 hz
    exact List.pairwise_iff_getElem.1 (kept_due (jb_t hp) (d := td rows) hn hs).1 x (x + 1) hx hx2 (by omega)
  · have hx := (List.getElem?_eq_some_iff.1 hy).1
    have := (allLe_iff _ 0).1 hk.time x hx
    rw [List.getD_eq_getElem?_getD, hy] at this
    simp only [Option.getD_some] at this
    omega
  · have hf : rowFine rows (nI (keepL (ta rows) (td rows) (sortE (ahD (td rows)) rows.length) ++ m)) = true := by unfold rowFine; rw [hp, order_nI hm]; rfl
    rw [lateRes_yes hf, nO_nI]
    refine kept_late (jb_t hp) hn hs (fun x hx => ?_)
    refine ⟨sortE_mem.2 ?_, fun hxk => ?_⟩
    · have := hm.mem_iff.1 (List.mem_append_right _ hx); simpa using this
    · exact (List.nodup_append.1 (hm.symm.nodup List.nodup_range)).2.2 x hxk x hx rfl
theorem kept_no {rows : List (List Int)} (hp : jobsM rows = false) : keptRes rows = [] := by unfold keptRes; rw [hp]; rfl
theorem kept_full {rows : List (List Int)} {kind : ByteArray} (hp : jobsM rows = true) (hw : isW kind = false) (hd : isD kind = true) : (keptRes rows).length = rows.length ↔ lateRes rows (ordRes rows kind) = 0 := by
  rw [keptRes_yes hp, nI_len, ord_due hp hw hd, lateRes_yes (srt_fine hp _), srtI_nI, nO_nI]
  have := (kept_due (jb_t hp) (d := td rows) (sortE_nodup (ahD (td rows)) rows.length) (sortD (td rows) rows.length)).2
  rw [sortE_len] at this
  exact this
/-- the jobs that are not kept, up to i -/
def restTo (l : List Nat) : Nat → List Nat
  | 0 => []
  | i + 1 => if i ∈ l then restTo l i else restTo l i ++ [i]
theorem restTo_mem (l : List Nat) : ∀ i x, x ∈ restTo l i ↔ x < i ∧ x ∉ l := by
  intro i
  induction i with
  | zero => intro x; simp [restTo]
  | succ i ih =>
    intro x
    rw [restTo]
    split
    · rename_i h; rw [ih]; constructor
      · rintro ⟨h1, h2⟩; exact ⟨by omega, h2⟩
      · rintro ⟨h1, h2⟩; exact ⟨by have : x ≠ i := fun e => h2 (e ▸ h); omega, h2⟩
    · rename_i h
      rw [List.mem_append, ih, List.mem_singleton]; constructor
      · rintro (⟨h1, h2⟩ | rfl)
        · exact ⟨by omega, h2⟩
        · exact ⟨by omega, h⟩
      · rintro ⟨h1, h2⟩
        by_cases e : x = i
        · exact .inr e
        · exact .inl ⟨by omega, h2⟩
theorem restTo_nod (l : List Nat) : ∀ i, (restTo l i).Nodup := by
  intro i
  induction i with
  | zero => exact List.nodup_nil
  | succ i ih =>
    rw [restTo]; split
    · exact ih
    · exact (List.perm_append_singleton _ _).symm.nodup (List.nodup_cons.2 ⟨fun h => by have := ((restTo_mem l i i).1 h).1; omega, ih⟩)
theorem rest_perm {l : List Nat} {n : Nat} (hm : ∀ x ∈ l, x < n) (hn : l.Nodup) : (l ++ restTo l n).Perm (List.range n) := by
  refine (List.perm_ext_iff_of_nodup ?_ List.nodup_range).2 (fun x => ?_)
  · exact List.nodup_append.2 ⟨hn, restTo_nod l n, fun a ha b hb e => ((restTo_mem l n b).1 hb).2 (e ▸ ha)⟩
  · rw [List.mem_append, restTo_mem, List.mem_range]; constructor
    · rintro (h | h)
      · exact hm x h
      · exact h.1
    · intro h
      by_cases hx : x ∈ l
      · exact .inl hx
      · exact .inr ⟨h, hx⟩
theorem restTo_len (l : List Nat) : ∀ i, (restTo l i).length ≤ i := by
  intro i
  induction i with
  | zero => exact Nat.le_refl _
  | succ i ih => rw [restTo]; split
                 · omega
                 · rw [List.length_append, List.length_singleton]; omega
theorem inM_nI {l : List Nat} {i : Nat} : inM (nI l) (i : Int) = decide (i ∈ l) := by
  rw [Bool.eq_iff_iff, inM_iff, decide_eq_true_eq]
  unfold nI
  rw [List.mem_map]
  constructor
  · rintro ⟨y, hy, e⟩
    have : y = i := by omega
    exact this ▸ hy
  · intro h; exact ⟨i, h, rfl⟩
/-- all others are late -/
theorem rest_late {rows : List (List Int)} {l : List Nat} {n : Nat} (h : KeptP rows l) (hn : rows.length = n) : lateRes rows (nI (l ++ restTo l n)) = (n : Int) - (l.length : Int) := by
  subst hn
  have hp := rest_perm h.mem h.nod
  rw [h.rest _ hp]
  have := hp.length_eq
  rw [List.length_append, List.length_range] at this
  omega
end Go.Proofs.Ytmcongioghkdcad
namespace Go.Proofs.Ytmcongioghkdcad
open Go.RowKit Go.WideShapes

/-- append of a list that may be empty, at whatever address, to a list of the call's own -/
theorem wpAppAny {ops : Array Oper} {rest : List Oper} {o : Oper} {a : Act} {Q : Exit → Act → World → Prop} {wo : World} (hgd : o.guard = none) (s x : Operand)
    (ho : o.op = .call { callee := .builtin .append, args := #[s, x], argTypes := #[26, 26] })
    (base k cp : Nat) (ax : Option Addr) (xs : List Int) (S : Nat → Prop) (ay : Option Addr) (m c : Nat) (ys : List Int) (hs : a.eval s = .slice ax k cp)
    (hown : wo.ownsRow base 3 1 (.slice ax k cp) k (xs.map (.int .i64))) (hx : a.eval x = .slice ay m c) (hy : IntsAt wo S ay m ys)
    (hbase : base ≤ wo.heap.size) (hk : k + m ≤ 1048576)
    (h : ∀ (a6 : Option Addr) (c6 : Nat) (w' : World), w'.ownsRow base 3 1 (.slice a6 (k + m) c6) (k + m) ((xs ++ ys).map (.int .i64)) → k + m ≤ c6 → wo.grownBy w' (Value.slice ax k cp).ownBlock →
      wpList Try.prog ops Q rest (a.put o.dst (.slice a6 (k + m) c6)) w') :
    wpList Try.prog ops Q (o :: rest) a wo := by
  by_cases hm : 0 < m
  · obtain ⟨b, off, rfl, _, _⟩ := hy.cells hm
    exact wpAppN hgd s x ho base k cp ax xs S b off m c ys hs hown hx hy hbase hk (fun a6 c6 w' h1 h2 h3 => h a6 c6 w' (by rw [List.map_append]; exact h1) h2 h3)
  · obtain rfl : m = 0 := by omega
    have hy0 : ys = [] := List.eq_nil_of_length_eq_zero hy.lenEq
    subst hy0
    obtain ⟨a', cp', e, hle⟩ := own_slice hown
    injection e with _ _ e2
    subst e2
    obtain ⟨i0, hi, hz0, hz1, hz2⟩ := info_parts Try.infoIntO
    have hsrc : Src Try.prog i0.size 26 (.slice ay 0 c) 0 [] wo := by
      cases ay with
      | none => exact Src.ofNil wo Try.underlying26 c
      | some ad => exact Src.ofSlice wo Try.underlying26 ad 0 c [] (by simp) (fun j u hj => by simp at hj) (fun u hu => by cases hu)
    have hrun := run_append_nothing (P := Try.prog) wo 26 26 o.type 3 i0 Try.underlying26 hi ax k cp hle (.slice ay 0 c) hsrc
    refine wpList_plain hgd fun K hK => ?_
    unfold Oper.wp
    simp [execOp, ho, resolve, invoke, builtin, hs, hx, hrun, Result.andThen]
    exact hK _ _ (h ax cp wo (by rw [List.append_nil]; exact hown) hle (grown_refl _ _))
end Go.Proofs.Ytmcongioghkdcad
namespace Go.Proofs.Ytmcongioghkdcad
open Go.RowKit Go.WideShapes

/-- one of some strings -/
theorem of_any (R p b len cap : Nat) (w : World) (h : Rd w R p) (hc : ∀ i, i < len → ∃ s : ByteArray, w.cell? ⟨b, i, none⟩ = some (.string s)) (hne : b ≠ R) (hb : b < w.heap.size) (hl : 1 ≤ len) (hl2 : len ≤ 1048576) (hp : p ≤ 1099511627776) :
    Calls Try.prog 27 #[.pointer (some ⟨R, 0, none⟩), .slice (some ⟨b, 0, none⟩) len cap] w fun e w' => ∃ s : ByteArray, e = .returned (.string s) ∧ Rd w' R (p + 1) ∧ w.grownBy w' (some R) := by
  go_enter Try.func27, Try.ntmps27
  go_wp2_with fail
  refine (pick_any R p (len : Int) w h hp).mono ?_
  rintro e w' ⟨k, rfl, hk, hr, hg⟩
  have hkl : k < len := by omega
  have hkI : (k : Int) < (len : Int) := by omega
  obtain ⟨s, hs⟩ := hc k hkl
  have hs' : w'.cell? ⟨b, k, none⟩ = some (.string s) := by rw [World.cell?_of_block (w := w) (hg.block b hb (by intro e; injection e with e; exact hne e))]; exact hs
  clear hs hc
  go_wp2_with fail
  go_ret
  exact ⟨s, rfl, hr, hg⟩
/-- drawn jobs and a kind -/
def DrawnJK (w : World) (e : Ending) (w' : World) : Prop := ∃ (a : Option Addr) (l c : Nat) (rows : List (List Int)) (s : ByteArray), e = .returned (.tuple #[.slice a l c, .string s]) ∧
  RowsAt w' (· < w'.heap.size) a l rows ∧ l ≤ c ∧ l ≤ 8 ∧ Below w.heap.size w w'
theorem drawOrderBy_any (a : Option Addr) (len cap : Nat) (w : World) (hb : BytesAt w w.heap.size a len) (hl : len ≤ cap) (hs : len ≤ 9223372036854775807) :
    Calls Try.prog 7 #[.slice a len cap] w (DrawnJK w) := by
  go_enter Try.func7, Try.ntmps7
  go_wp2_with fail
  refine (newReader_any a len cap w hb hl hs).mono ?_
  rintro e w1 ⟨rfl, hr, hb1⟩
  go_wp2_with fail
  refine (someJobs_any w.heap.size 0 w1 hr (by omega)).mono ?_
  rintro e w2 ⟨a2, l2, c2, rows, p2, rfl, h1, h2, h3, hr2, hp2, hg⟩
  go_wp2_with fail
  refine (of_any w.heap.size p2 w2.heap.size 5 5 _ (hr2.alloc _) (fun i hi => ?_) (by have := hr2.lt; omega) (by simp) (by omega) (by omega) (by omega)).mono ?_
  · rw [World.cell?_alloc_new]
    match i, hi with
    | 0, _ => exact ⟨_, rfl⟩
    | 1, _ => exact ⟨_, rfl⟩
    | 2, _ => exact ⟨_, rfl⟩
    | 3, _ => exact ⟨_, rfl⟩
    | 4, _ => exact ⟨_, rfl⟩
  rintro e w3 ⟨s, rfl, hr3, hg3⟩
  have hg4 : w2.grownBy w3 (some w.heap.size) := grown_r (World.grownBy_alloc w2 _ _) hg3
  have hbb : Below w.heap.size w w3 := grown_below (grown_r hg hg4) hb1 hb1.size
  have hrw : RowsAt w3 (· < w3.heap.size) a2 l2 rows := h1.to (fun b hb => ⟨Nat.lt_of_lt_of_le hb.2 hg4.size, hg4.block b hb.2 (by have := hr.lt; simp; omega)⟩)
  clear hg hg3 hg4 hr hr2 hr3 h1
  go_wp2_with fail
  go_ret2
  exact ⟨a2, l2, c2, rows, s, rfl, hrw, h2, h3, hbb⟩
end Go.Proofs.Ytmcongioghkdcad
namespace Go.Proofs.Ytmcongioghkdcad

-- what FnOrderBy and the laws of kept jobs ask (plain)
theorem diffM_nod {xs : List Int} (h : xs.Nodup) : ∀ k, k ≤ xs.length → diffM xs k = k := by
  intro k
  induction k with
  | zero => intro _; rfl
  | succ k ih =>
    intro hk
    have hx : xs[k]? = some xs[k] := List.getElem?_eq_getElem (by omega)
    have h2 : (xs.take (k + 1)).Nodup := h.sublist (List.take_sublist _ _)
    rw [take_get hx] at h2
    have h3 : inM (xs.take k) (xs.getD k 0) = false := by
      rw [getD_of hx]
      unfold inM
      simp only [decide_eq_false_iff_not, List.contains_eq_mem, List.any_eq_false, beq_iff_eq]
      exact fun y hy e => (List.nodup_append.1 h2).2.2 y hy _ (by simp) e
    rw [diffM, ih (by omega), h3]; rfl
theorem w_not_d {kind : ByteArray} (h : isW kind = true) : isD kind = false := by
  unfold isW at h
  unfold isD
  rw [beq_iff_eq] at h
  rw [h]; rfl
/-- what an order by a rule is: the list, and how two side by side stand -/
structure RuleO (rows : List (List Int)) (kind : ByteArray) (l : List Nat) : Prop where
  res : ordRes rows kind = nI l
  len : l.length = rows.length
  mem : ∀ x ∈ l, x < rows.length
  nod : (nI l).Nodup
theorem nI_nodup {l : List Nat} (h : l.Nodup) : (nI l).Nodup := List.pairwise_map.2 (h.imp (fun {x y} hne e => hne (by omega)))
theorem ord_cases {rows : List (List Int)} {kind : ByteArray} (h0 : ordRes rows kind ≠ []) : jobsM rows = true ∧ ∃ l, RuleO rows kind l ∧
    ((isW kind = true ∧ isD kind = false ∧ ∀ x y, l[x]? = some y → ∀ z, l[x + 1]? = some z → ¬ tb rows y * ta rows z < tb rows z * ta rows y) ∨
     (isW kind = false ∧ isD kind = true ∧ ∀ x y, l[x]? = some y → ∀ z, l[x + 1]? = some z → ¬ td rows z < td rows y)) := by
  have hp : jobsM rows = true := by
    cases hp : jobsM rows with
    | true => rfl
    | false => exact absurd (by unfold ordRes; rw [hp]; rfl) h0
  have step : ∀ {l : List Nat} {R : Nat → Nat → Prop}, l.Pairwise R → ∀ x y, l[x]? = some y → ∀ z, l[x + 1]? = some z → R y z := by
    intro l R hl x y hy z hz
    obtain ⟨hx, rfl⟩ := List.getElem?_eq_some_iff.1 hy
    obtain ⟨hx2, rfl⟩ := List.getElem?_eq_some_iff.1 hz
    exact List.pairwise_iff_getElem.1 hl x (x + 1) hx hx2 (by omega)
  refine ⟨hp, ?_⟩
  cases hw : isW kind with
  | true =>
    refine ⟨sortE (ahW (ta rows) (tb rows)) rows.length, ⟨ord_wait hp hw, sortE_len _ _, fun x hx => sortE_mem.1 hx, nI_nodup (sortE_nodup _ _)⟩, .inl ⟨rfl, w_not_d hw, fun x y hy z hz => ?_⟩⟩
    have := step (sortW (fun x hx => j_pos hp hx)) x y hy z hz
    omega
  | false =>
    cases hd : isD kind with
    | true =>
      refine ⟨sortE (ahD (td rows)) rows.length, ⟨ord_due hp hw hd, sortE_len _ _, fun x hx => sortE_mem.1 hx, nI_nodup (sortE_nodup _ _)⟩, .inr ⟨rfl, rfl, fun x y hy z hz => ?_⟩⟩
      have := step (sortD (td rows) rows.length) x y hy z hz
      omega
    | false => exact absurd (by unfold ordRes; rw [hp, hw, hd]; rfl) h0
end Go.Proofs.Ytmcongioghkdcad
