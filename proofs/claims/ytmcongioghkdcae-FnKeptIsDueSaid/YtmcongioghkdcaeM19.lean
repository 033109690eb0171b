import Derived.Test.YtmcongioghkdcaeM18
import Derived.Test.YtmcongioghkdcaeRows
import Derived.WalkKit
import Derived.LoopTactic
import Derived.Outline
import Derived.WalkSpells
import Derived.WalkLawsBesides
import Derived.ProofKit
import Derived.Test.YtmcongioghkdcaeM0
import Derived.Test.YtmcongioghkdcaeM1
import Derived.Test.YtmcongioghkdcaeM9
import Derived.Test.YtmcongioghkdcaeM2
import Derived.Lib.Hide
import Derived.Deep.RegionLaw
import Derived.Deep.AppendLies
import Derived.Deep.RegionHeld3
import Derived.Test.YtmcongioghkdcaeM6
namespace Go.Proofs.Ytmcongioghkdcae

-- what the laws of one machine ask (plain)
theorem nO_nI (l : List Nat) : nO (nI l) = l := by
  unfold nO nI
  rw [List.map_map]
  exact List.map_id'' (fun x => by simp) l
theorem srtI_nI (ah : Nat → Nat → Bool) (n : Nat) : srtI ah n = nI (sortE ah n) := rfl
theorem order_nI {l : List Nat} {n : Nat} (h : l.Perm (List.range n)) : orderM (nI l) n = true := by
  refine decide_eq_true ⟨⟨fun x hx => ?_, ?_⟩, ?_⟩
  · obtain ⟨y, hy, rfl⟩ := List.mem_map.1 hx
    have := List.mem_range.1 (h.mem_iff.1 hy); omega
  · refine List.pairwise_map.2 ((h.symm.nodup List.nodup_range).imp (fun {x y} hne e => hne ?_))
    omega
  · rw [nI_len]; have := h.length_eq; simpa using this
theorem srt_fine {rows : List (List Int)} (hp : jobsM rows = true) (ah : Nat → Nat → Bool) : rowFine rows (srtI ah rows.length) = true := by
  unfold rowFine; rw [hp, srtI_nI, order_nI (sortE_perm ah rows.length)]; rfl
theorem jb_t {rows : List (List Int)} (hp : jobsM rows = true) : ∀ x, 0 ≤ ta rows x := fun x => (j_bd hp x).1.1
theorem fine_perm {rows : List (List Int)} {o : List Int} (h : rowFine rows o = true) (ah : Nat → Nat → Bool) : (sortE ah rows.length).Perm (nO o) :=
  (sortE_perm ah _).trans (nO_perm (rowFine_get h).2).symm
theorem ord_wait {rows : List (List Int)} {kind : ByteArray} (hp : jobsM rows = true) (hk : isW kind = true) : ordRes rows kind = srtI (ahW (ta rows) (tb rows)) rows.length := by
  unfold ordRes; rw [if_pos hp, if_pos hk]
theorem ord_due {rows : List (List Int)} {kind : ByteArray} (hp : jobsM rows = true) (hk : isW kind = false) (hd : isD kind = true) : ordRes rows kind = srtI (ahD (td rows)) rows.length := by
  unfold ordRes; rw [if_pos hp, hk, if_pos hd]; rfl
theorem waitRes_yes {rows : List (List Int)} {o : List Int} (h : rowFine rows o = true) : waitRes rows o = costG (ta rows) (waitG (tb rows)) 0 (nO o) := by unfold waitRes; rw [h]; rfl
theorem waitRes_no {rows : List (List Int)} {o : List Int} (h : rowFine rows o = false) : waitRes rows o = -1 := by unfold waitRes; rw [h]; rfl
theorem tardRes_yes {rows : List (List Int)} {o : List Int} (h : rowFine rows o = true) : tardRes rows o = costG (ta rows) (tardG (tb rows) (td rows)) 0 (nO o) := by unfold tardRes; rw [h]; rfl
theorem tardRes_no {rows : List (List Int)} {o : List Int} (h : rowFine rows o = false) : tardRes rows o = -1 := by unfold tardRes; rw [h]; rfl
theorem lateRes_yes {rows : List (List Int)} {o : List Int} (h : rowFine rows o = true) : lateRes rows o = costG (ta rows) (lateG (td rows)) 0 (nO o) := by unfold lateRes; rw [h]; rfl
theorem lateRes_no {rows : List (List Int)} {o : List Int} (h : rowFine rows o = false) : lateRes rows o = -1 := by unfold lateRes; rw [h]; rfl
theorem fine_len {rows : List (List Int)} {o : List Int} (h : rowFine rows o = true) : (nO o).length ≤ 8 ∧ (nO o).length = rows.length := by
  obtain ⟨hp, hO⟩ := rowFine_get h
  have : (nO o).length = rows.length := by unfold nO; rw [List.length_map]; exact hO.2
  exact ⟨by rw [this]; exact (jobs_get hp).1, this⟩
theorem waitRes_bd {rows : List (List Int)} {o : List Int} (h : rowFine rows o = true) : 0 ≤ waitRes rows o ∧ waitRes rows o ≤ 5600 := by
  obtain ⟨hp, _⟩ := rowFine_get h
  rw [waitRes_yes h]
  have := cost_bd (fun x => (j_bd hp x).1) (wait_bd hp) (fine_len h).1 (nO o).length
  rwa [List.take_length] at this
theorem tardRes_bd {rows : List (List Int)} {o : List Int} (h : rowFine rows o = true) : 0 ≤ tardRes rows o ∧ tardRes rows o ≤ 5600 := by
  obtain ⟨hp, _⟩ := rowFine_get h
  rw [tardRes_yes h]
  have := cost_bd (fun x => (j_bd hp x).1) (tard_bd hp) (fine_len h).1 (nO o).length
  rwa [List.take_length] at this
theorem lateRes_bd {rows : List (List Int)} {o : List Int} (h : rowFine rows o = true) : 0 ≤ lateRes rows o ∧ lateRes rows o ≤ 5600 := by
  obtain ⟨hp, _⟩ := rowFine_get h
  rw [lateRes_yes h]
  have := cost_bd (fun x => (j_bd hp x).1) (late_bd (td rows)) (fine_len h).1 (nO o).length
  rwa [List.take_length] at this
/-- P28 -/
theorem wait_rule {rows : List (List Int)} {o : List Int} {kind : ByteArray} (h : rowFine rows o = true) (hk : isW kind = true) : 0 ≤ waitRes rows (ordRes rows kind) ∧ waitRes rows (ordRes rows kind) ≤ waitRes rows o := by
  obtain ⟨hp, hO⟩ := rowFine_get h
  have hf := srt_fine hp (ahW (ta rows) (tb rows))
  rw [ord_wait hp hk]
  refine ⟨(waitRes_bd hf).1, ?_⟩
  rw [waitRes_yes hf, waitRes_yes h, srtI_nI, nO_nI]
  exact wait_best _ _ 0 (sortW (fun x hx => j_pos hp hx)) (fine_perm h _)
/-- P30 -/
theorem latest_pos {rows : List (List Int)} {o : List Int} (h : latestB rows o = true) : rowFine rows o = true ∧ 0 < rows.length := by
  simpa [latestB] using h
theorem due_rule {rows : List (List Int)} {o : List Int} {kind : ByteArray} (h : latestB rows o = true) (hk : isW kind = false) (hd : isD kind = true) :
    latestB rows (ordRes rows kind) = true ∧ latestRes rows (ordRes rows kind) ≤ latestRes rows o := by
  obtain ⟨hf, h0⟩ := latest_pos h
  obtain ⟨hp, hO⟩ := rowFine_get hf
  have hs := srt_fine hp (ahD (td rows))
  have hb : latestB rows (srtI (ahD (td rows)) rows.length) = true := by unfold latestB; rw [hs, decide_eq_true h0]; rfl
  rw [ord_due hp hk hd]
  refine ⟨hb, ?_⟩
  have e1 : latestRes rows (srtI (ahD (td rows)) rows.length) = latM (ta rows) (td rows) (sortE (ahD (td rows)) rows.length) (rows.length - 1) := by unfold latestRes; rw [hb, srtI_nI, nO_nI]; rfl
  have e2 : latestRes rows o = latM (ta rows) (td rows) (nO o) (rows.length - 1) := by unfold latestRes; rw [h]; rfl
  rw [e1, e2]
  have hl := (fine_len hf).2
  have h2 := allLe_lat (t := ta rows) (d := td rows) (l := nO o) (L := latM (ta rows) (td rows) (nO o) (rows.length - 1)) (by rw [hl]; exact h0)
  rw [hl] at h2
  have h3 := due_best (jb_t hp) _ _ 0 (sortD (td rows) rows.length) (fine_perm hf _) (h2.2 (Int.le_refl _))
  have h4 := allLe_lat (t := ta rows) (d := td rows) (l := sortE (ahD (td rows)) rows.length) (L := latM (ta rows) (td rows) (nO o) (rows.length - 1)) (by rw [sortE_len]; exact h0)
  rw [sortE_len] at h4
  exact h4.1 h3
/-- P31 -/
theorem keptRes_yes {rows : List (List Int)} (hp : jobsM rows = true) : keptRes rows = nI (keepL (ta rows) (td rows) (sortE (ahD (td rows)) rows.length)) := by
  unfold keptRes keptM
  rw [if_pos hp, List.take_of_length_le (by rw [sortE_len]; exact Nat.le_refl _)]
theorem late_rule {rows : List (List Int)} {o : List Int} (h : rowFine rows o = true) : (rows.length : Int) - ((keptRes rows).length : Int) ≤ lateRes rows o ∧ (latestB rows o = true → (lateRes rows o = 0 ↔ latestRes rows o ≤ 0)) := by
  obtain ⟨hp, hO⟩ := rowFine_get h
  have hl := (fine_len h).2
  refine ⟨?_, fun hb => ?_⟩
  · have := kept_most (jb_t hp) (d := td rows) (sortE_nodup (ahD (td rows)) rows.length) (sortD (td rows) rows.length) (fine_perm h (ahD (td rows)))
    rw [keptRes_yes hp, nI_len, lateRes_yes h]
    rw [hl] at this
    exact this
  · obtain ⟨_, h0⟩ := latest_pos hb
    rw [lateRes_yes h, (late_zero (nO o) 0).2, allLe_lat (by rw [hl]; exact h0), hl]
    have : latestRes rows o = latM (ta rows) (td rows) (nO o) (rows.length - 1) := by unfold latestRes; rw [hb]; rfl
    rw [this]
theorem late_none {rows : List (List Int)} {o : List Int} (h : rowFine rows o = true) (hb : latestB rows o = false) : rows.length = 0 := by
  unfold latestB at hb
  rw [h, Bool.true_and] at hb
  have := of_decide_eq_false hb
  omega
/-- P33, P34 -/
theorem ltRes_yes {rows : List (List Int)} (hp : jobsM rows = true) : ltRes rows = ltX (ta rows) (tb rows) (td rows) rows.length (2 ^ rows.length - 1) := by unfold ltRes; rw [if_pos hp]
theorem ltRes_no {rows : List (List Int)} (hp : jobsM rows = false) : ltRes rows = -1 := by unfold ltRes; rw [hp]; rfl
theorem lt_leastL {rows : List (List Int)} (hp : jobsM rows = true) : LeastL (ta rows) (tb rows) (td rows) rows.length (ltRes rows) := by
  rw [ltRes_yes hp]; exact ltX_least (fun x => (j_bd hp x).2.1.1) _
theorem lt_tard {rows : List (List Int)} {o : List Int} (h : rowFine rows o = true) : ltRes rows ≤ tardRes rows o := by
  obtain ⟨hp, hO⟩ := rowFine_get h
  rw [tardRes_yes h]
  exact (lt_leastL hp).2 _ (nO_perm hO)
theorem ltRes_bd {rows : List (List Int)} (hp : jobsM rows = true) : 0 ≤ ltRes rows ∧ ltRes rows ≤ 5600 := by
  rw [ltRes_yes hp]; exact ltX_bd hp (jobs_get hp).1 (by have := Nat.two_pow_pos rows.length; omega)
theorem jobs_take {rows : List (List Int)} (hp : jobsM rows = true) (n : Nat) : jobsM (rows.take n) = true := by
  simp only [jobsM, Bool.and_eq_true, decide_eq_true_eq, List.all_eq_true] at hp ⊢
  exact ⟨fun r hr => hp.1 r (List.mem_of_mem_take hr), by rw [List.length_take]; omega⟩
theorem lt_fewer {rows : List (List Int)} (hp : jobsM rows = true) {n : Nat} (hn : rows.length = n + 1) : ltRes (rows.take n) ≤ ltRes rows := by
  have h1 := lt_leastL hp
  have h2 := lt_leastL (jobs_take hp n)
  have hl : (rows.take n).length = n := by rw [List.length_take]; omega
  rw [hl] at h2
  rw [hn] at h1
  refine least_less (t := ta rows) (w := tb rows) (d := td rows) (jb_t hp) (fun x => (j_bd hp x).2.1.1) h1 ?_
  have e : ∀ l : List Nat, l.Perm (List.range n) → costG (ta (rows.take n)) (tardG (tb (rows.take n)) (td (rows.take n))) 0 l = costG (ta rows) (tardG (tb rows) (td rows)) 0 l := by
    intro l hl
    have key : ∀ x, x < n → (rows.take n).getD x [] = rows.getD x [] := fun x hx => by
      simp only [List.getD_eq_getElem?_getD, List.getElem?_take]; rw [if_pos hx]
    have gen : ∀ (m : List Nat) (s : Int), (∀ x ∈ m, x < n) → costG (ta (rows.take n)) (tardG (tb (rows.take n)) (td (rows.take n))) s m = costG (ta rows) (tardG (tb rows) (td rows)) s m := by
      intro m
      induction m with
      | nil => intro s _; rfl
      | cons x m ih =>
        intro s hm
        have hx := key x (hm x (by simp))
        have e1 : ta (rows.take n) x = ta rows x := by unfold ta; rw [hx]
        have e2 : tb (rows.take n) x = tb rows x := by unfold tb; rw [hx]
        have e3 : td (rows.take n) x = td rows x := by unfold td; rw [hx]
        rw [costG, costG, e1, ih _ (fun y hy => hm y (by simp [hy]))]
        unfold tardG; rw [e2, e3]
    exact gen l 0 (fun x hx => by have := hl.mem_iff.1 hx; simpa using this)
  obtain ⟨⟨l, hl1, hl2⟩, h3⟩ := h2
  exact ⟨⟨l, hl1, by rw [← e l hl1]; exact hl2⟩, fun m hm => by rw [← e m hm]; exact h3 m hm⟩
theorem lt_empty : ltRes [] = 0 := by
  have hp : jobsM [] = true := rfl
  rw [ltRes_yes hp]; rfl
/-- not late, nothing to pay -/
theorem late_tard {rows : List (List Int)} {o : List Int} (h : rowFine rows o = true) (h0 : ¬ 0 < lateRes rows o) : tardRes rows o = 0 := by
  obtain ⟨hp, _⟩ := rowFine_get h
  have hb := lateRes_bd h
  have hz : lateRes rows o = 0 := by omega
  rw [lateRes_yes h] at hz
  rw [tardRes_yes h]
  have h1 := (late_zero (nO o) 0).2.1 hz
  have gen : ∀ (m : List Nat) (s : Int), allLe (ta rows) (td rows) 0 s m → costG (ta rows) (tardG (tb rows) (td rows)) s m = 0 := by
    intro m
    induction m with
    | nil => intro s _; rfl
    | cons x m ih =>
      intro s hm
      rw [costG, ih _ hm.2]
      unfold tardG
      rw [show max (s + ta rows x - td rows x) 0 = 0 by have := hm.1; omega]; simp
  exact gen _ 0 h1
theorem lt_ord {rows : List (List Int)} {kind : ByteArray} (hp : jobsM rows = true) (h : isW kind = true ∨ isD kind = true) (hw : isW kind = false) : ltRes rows ≤ tardRes rows (ordRes rows kind) := by
  rcases h with h | h
  · rw [h] at hw; cases hw
  · rw [ord_due hp hw h]; exact lt_tard (srt_fine hp _)
theorem lt_ordW {rows : List (List Int)} {kind : ByteArray} (hp : jobsM rows = true) (h : isW kind = true) : ltRes rows ≤ tardRes rows (ordRes rows kind) := by
  rw [ord_wait hp h]; exact lt_tard (srt_fine hp _)
end Go.Proofs.Ytmcongioghkdcae
namespace Go.Proofs.Ytmcongioghkdcae
open Go.RowKit Go.WideShapes

/-- a list that is drawn: numbers in lo..hi -/
def ListPost (w : World) (R p n : Nat) (lo hi : Int) (e : Ending) (w' : World) : Prop := ∃ (a : Option Addr) (cap : Nat) (xs : List Int), e = .returned (.slice a n cap) ∧
  w'.ownsRow w.heap.size 3 1 (.slice a n cap) n (xs.map (.int .i64)) ∧ n ≤ cap ∧ xs.length = n ∧ (∀ x ∈ xs, lo ≤ x ∧ x ≤ hi) ∧ Rd w' R (p + n) ∧ w.grownBy w' (some R)

end Go.Proofs.Ytmcongioghkdcae
namespace Go.Proofs.Ytmcongioghkdcae
open Go.RowKit Go.WideShapes

theorem Try.infoInt : (Try.prog.info? 3).map (fun i => (i.zero, i.size, i.bytes)) = some (some (.int .i64 0), 1, 8) := by kernel_rfl
theorem Try.infoInts : (Try.prog.info? 24).map (fun i => (i.zero, i.size, i.bytes)) = some (some (.slice none 0 0), 1, 24) := by kernel_rfl

theorem bill_n {n : Int} (h : n ∈ [4, 5, 3, 6, 2, 1, 0]) : ∃ m : Nat, n = (m : Int) ∧ m ≤ 6 := by
  simp at h
  exact ⟨n.toNat, by omega, by omega⟩

def BillPost (w : World) (R p : Nat) (e : Ending) (w' : World) : Prop := ∃ (a : Option Addr) (len cap : Nat) (rows : List (List Int)) (p' : Nat), e = .returned (.slice a len cap) ∧
      RowsAt w' (fun b => w.heap.size ≤ b ∧ b < w'.heap.size) a len rows ∧ len ≤ cap ∧ len ≤ 6 ∧ Rd w' R p' ∧ p' ≤ p + 1000 ∧ w.grownBy w' (some R)
theorem billPost_mk {w w' : World} {R p p' len cap M : Nat} {a : Option Addr} (h : OwnRows w' w.heap.size M (.slice a len cap) len) (hl : len ≤ cap) (h6 : len ≤ 6) (hr : Rd w' R p') (hp : p' ≤ p + 1000)
    (hg : w.grownBy w' (some R)) : BillPost w R p (.returned (.slice a len cap)) w' := by
  obtain ⟨a', cap', rows, hv, _, hrows⟩ := h.rows (by omega)
  simp only [Value.slice.injEq] at hv
  obtain ⟨rfl, _, rfl⟩ := hv
  exact ⟨_, _, _, rows, p', rfl, hrows, hl, h6, hr, hp, hg⟩

end Go.Proofs.Ytmcongioghkdcae
namespace Go.Proofs.Ytmcongioghkdcae
open Go.RowKit Go.WideShapes

def PairsPost (w : World) (R p : Nat) (e : Ending) (w' : World) : Prop := ∃ (a : Option Addr) (len cap : Nat) (rows : List (List Int)) (p' : Nat), e = .returned (.slice a len cap) ∧
      RowsAt w' (fun b => w.heap.size ≤ b ∧ b < w'.heap.size) a len rows ∧ len ≤ cap ∧ len ≤ 8 ∧ Rd w' R p' ∧ p' ≤ p + 1000 ∧ w.grownBy w' (some R)
theorem pairsPost_mk {w w' : World} {R p p' len cap M : Nat} {a : Option Addr} (h : OwnRows w' w.heap.size M (.slice a len cap) len) (hl : len ≤ cap) (h6 : len ≤ 8) (hr : Rd w' R p') (hp : p' ≤ p + 1000)
    (hg : w.grownBy w' (some R)) : PairsPost w R p (.returned (.slice a len cap)) w' := by
  obtain ⟨a', cap', rows, hv, _, hrows⟩ := h.rows (by omega)
  simp only [Value.slice.injEq] at hv
  obtain ⟨rfl, _, rfl⟩ := hv
  exact ⟨_, _, _, rows, p', rfl, hrows, hl, h6, hr, hp, hg⟩
theorem pair_hi {n : Int} (h : n ∈ [9, 4]) : 4 ≤ n ∧ n ≤ 9 := by simp at h; omega
theorem pair_x {n : Int} (h : n ∈ [10, -1]) : -1 ≤ n ∧ n ≤ 10 := by simp at h; omega
end Go.Proofs.Ytmcongioghkdcae
namespace Go.Proofs.Ytmcongioghkdcae
open Go.RowKit Go.WideShapes

theorem own_lit3 (w : World) {B : Nat} (hB : B ≤ w.heap.size) (x y z : Int) : (w.alloc (.cells #[.int .i64 x, .int .i64 y, .int .i64 z] 3)).ownsRow B 3 1 (.slice (some ⟨w.heap.size, 0, none⟩) 3 3) 3 ([x, y, z].map (.int .i64)) :=
  ⟨rfl, .inr ⟨w.heap.size, 3, _, rfl, hB, heap_alloc_new w _, Nat.le_refl _, by unfold maxLen; omega, rfl, rfl⟩⟩
theorem job_t {n : Int} (h : n ∈ [5, 9]) : 5 ≤ n ∧ n ≤ 9 := by simp at h; omega
theorem job_d {n : Int} (h : n ∈ [12, 25, 6]) : 6 ≤ n ∧ n ≤ 25 := by simp at h; omega
set_option maxRecDepth 100000 in
set_option maxHeartbeats 4000000 in
theorem someJobs_any (R p : Nat) (w : World) (h : Rd w R p) (hp : p ≤ 900000) :
    Calls Try.prog 21 #[.pointer (some ⟨R, 0, none⟩)] w (PairsPost w R p) := by
  have hR := h.lt
  obtain ⟨i1, hj, hy0, hy1, hy2⟩ := info_parts Try.infoInts
  go_enter Try.func21, Try.ntmps21
  go_wp2_with fail
  refine (one_any (fun k => k = w.heap.size + 1) R p _ 7 7 [4, 3, 5, 2, 6, 1, 0] _ ((h.alloc _).alloc _) (IntsAt.lit rfl rfl (by simp) (by omega)) (by intro b hb; simp; omega) (by omega) (by omega)).mono ?_
  rintro e w1 ⟨n, hn, rfl, hr1, hg1⟩
  obtain ⟨m, rfl, hm⟩ : ∃ m : Nat, n = (m : Int) ∧ m ≤ 8 := by simp at hn; exact ⟨n.toNat, by omega, by omega⟩
  clear hn
  have hg2 : w.grownBy w1 (some R) := grown_r (World.grownBy_alloc w _ _) (grown_r (World.grownBy_alloc _ _ _) hg1)
  have ho1 : OwnRows w1 w.heap.size w1.heap.size (.slice (some ⟨w.heap.size, 0, none⟩) 0 0) 0 :=
    OwnRows.nil rfl (grown_r (World.grownBy_alloc _ _ _) hg1) hR
  go_wp2_with fail
  go_loopw [3] (fun v wr => ∃ (k p' cap : Nat) (a : Option Addr), v = .slice a k cap ∧ k ≤ cap ∧ OwnRows wr w.heap.size wr.heap.size v k ∧ k ≤ m ∧ Rd wr R p' ∧ p' ≤ p + 1 + 30 * k ∧ w.grownBy wr (some R)) (fun v _ => m - capOf v)
  case atStart => exact ⟨0, p + 1, 0, _, rfl, Nat.le_refl _, ho1, Nat.zero_le _, hr1, Nat.le_refl _, hg2⟩
  case round =>
    clear ho1
    obtain ⟨k, p', cap, a, rfl, hkc, ho, hkm, hr, hpp, hg⟩ := hrel
    obtain ⟨wo, rfl⟩ : ∃ wo : World, wo = wr := ⟨_, rfl⟩
    by_cases hlt : k < m
    · go_wp2_with fail
      refine (one_any (fun b => b = wo.heap.size) R p' _ 2 2 [5, 9] _ (hr.alloc _) (IntsAt.lit rfl rfl rfl (by omega)) (by intro b hb; have := hr.lt; simp; omega) (by omega) (by omega)).mono ?_
      rintro e w3 ⟨hi, hhi, rfl, hr3, hg3⟩
      obtain ⟨hi1, hi2⟩ := job_t hhi
      clear hhi
      have ga3 : wo.grownBy w3 (some R) := grown_r (World.grownBy_alloc wo _ _) hg3
      go_wp2_with fail
      refine (pick_any R (p' + 1) hi w3 hr3 (by omega)).mono ?_
      rintro e w4 ⟨q1, rfl, hq1, hr4, hg4⟩
      have ga4 := grown_r ga3 hg4
      have hq1b : q1 ≤ 9 := by omega
      go_wp2_with fail
      refine (pick_any R (p' + 1 + 1) 6 w4 hr4 (by omega)).mono ?_
      rintro e w5 ⟨q2, rfl, hq2, hr5, hg5⟩
      have ga5 := grown_r ga4 hg5
      go_wp2_with fail
      refine (one_any (fun b => b = w5.heap.size) R (p' + 1 + 1 + 1) _ 3 3 [12, 25, 6] _ (hr5.alloc _) (IntsAt.lit rfl rfl rfl (by omega)) (by intro b hb; have := hr5.lt; simp; omega) (by omega) (by omega)).mono ?_
      rintro e w6 ⟨di, hdi, rfl, hr6, hg6⟩
      have ga6 : wo.grownBy w6 (some R) := grown_r ga5 (grown_r (World.grownBy_alloc w5 _ _) hg6)
      clear hdi
      go_wp2_with fail
      refine (pick_any R (p' + 1 + 1 + 1 + 1) di w6 hr6 (by omega)).mono ?_
      rintro e w7 ⟨q3, rfl, _, hr7, hg7⟩
      have ga7 := grown_r ga6 hg7
      have hw0 : w.heap.size ≤ w7.heap.size := Nat.le_trans hg.size ga7.size
      have ho7 := ho.low ga7 hR
      have hlit := own_lit3 w7 (B := wo.heap.size) ga7.size ((1 : Int) + (q1 : Int)) (q2 : Int) (q3 : Int)
      obtain ⟨us, hout, hus⟩ := ho7.alloc (.cells #[.int .i64 ((1 : Int) + (q1 : Int)), .int .i64 (q2 : Int), .int .i64 (q3 : Int)] 3)
      have hr8 := hr7.alloc (.cells #[.int .i64 ((1 : Int) + (q1 : Int)), .int .i64 (q2 : Int), .int .i64 (q3 : Int)] 3)
      have ga8 := grown_alloc ga7 (.cells #[.int .i64 ((1 : Int) + (q1 : Int)), .int .i64 (q2 : Int), .int .i64 (q3 : Int)] 3)
      have hsz8 : (w7.alloc (.cells #[.int .i64 ((1 : Int) + (q1 : Int)), .int .i64 (q2 : Int), .int .i64 (q3 : Int)] 3)).heap.size = w7.heap.size + 1 := by simp
      obtain ⟨w8, hw8⟩ : ∃ w8, (w7.alloc (.cells #[.int .i64 ((1 : Int) + (q1 : Int)), .int .i64 (q2 : Int), .int .i64 (q3 : Int)] 3)) = w8 := ⟨_, rfl⟩
      rw [hw8] at hlit hout hus hr8 ga8 hsz8
      have HW8 := Lib.hid hw8
      have HSZ := Lib.hid hsz8
      have hgw8 := grown_r hg ga8
      clear hw8 hsz8 hr hr3 hr4 hr5 hr6 hr7 ga3 ga4 ga5 ga6 ga7 hg3 hg4 hg5 hg6 hg7
      have HLIT := Lib.hid hlit
      have HOUT := Lib.hid hout
      have HUS := Lib.hid hus
      have HR8 := Lib.hid hr8
      have HG8 := Lib.hid hgw8
      have HGA8 := Lib.hid ga8
      clear hlit hout hus hr8 hgw8 ga8 ho7
      go_wp2_with (at_builtin; rw [HW8.out]; refine wpList_append_own _ rfl _ _ 23 rfl w.heap.size 24 i1 (.slice none 0 0) 1 24 Try.underlying23 hj hy0 hy1 hy2 rfl (by decide) _ _ _ rfl (HOUT.out.alloc _) ⟨w8.heap.size, 0, none⟩ 1 1 [.slice (some ⟨w7.heap.size, 0, none⟩) 3 3] (by rw [HSZ.out]; rfl) rfl ?c1 ?c2 ?c3 ?c4 ?c5 ?_)
      case c1 => exact one_new _ _ _
      case c2 => exact one_cell_slice _ _ _
      case c3 => unfold maxLen; omega
      case c4 => omega
      case c5 => have := HG8.out.size; simp; omega
      intro v' w9 hown hgrow _
      obtain ⟨a6, c6, rfl, hjc6⟩ := own_slice hown
      have hgr : w8.grownBy w9 (Value.slice a k cap).ownBlock := grown_comp (World.grownBy_alloc w8 _ _) hgrow
      have HPUSH := Lib.hid (OwnRows.push HLIT.out hg.size HOUT.out HUS.out hown hgr)
      have HR6 := Lib.hid (HR8.out.grown hgr (by intro b hb; have := (HOUT.out.lt b hb).1; omega))
      have HG6 := Lib.hid (grown_trans HG8.out hgr (by intro b hb; have := (HOUT.out.lt b hb).1; omega))
      clear hown hgrow hgr
      go_wp2_with fail
      go_roundw
      case rel => exact ⟨k + 1, p' + 1 + 1 + 1 + 1 + 1, c6, a6, rfl, hjc6, HPUSH.out, by omega, HR6.out, by omega, HG6.out⟩
      case measure => simp [capOf] <;> omega
    · by_cases hk1 : 0 < k
      · obtain ⟨g, rfl, hgB⟩ := ho.addr (by omega)
        go_wp2_with fail
        refine (pick_any R p' 30 wo hr (by omega)).mono ?_
        rintro e w2 ⟨q, rfl, _, hr2, hg3⟩
        have ho2 := ho.low hg3 hR
        have hg4 := grown_r hg hg3
        by_cases hq : q = 0
        · subst hq
          go_wp2_with fail
          refine (one_any (fun b => b = w2.heap.size) R (p' + 1) _ 2 2 [0, 10] _ (hr2.alloc _) (IntsAt.lit rfl rfl rfl (by omega)) (by intro b hb; have := hr2.lt; simp; omega) (by omega) (by omega)).mono ?_
          rintro e w5 ⟨x, _, rfl, hr5, hg5⟩
          have hgw : w2.grownBy w5 (some R) := grown_r (World.grownBy_alloc w2 _ _) hg5
          have ho5 := ho2.low hgw hR
          have hg6 := grown_r hg4 hgw
          have hw5 : w.heap.size ≤ w5.heap.size := hg6.size
          have hlit := own_one w5 (B := w5.heap.size) (Nat.le_refl _) x
          have hsz : (w5.alloc (.cells #[.int .i64 x] 3)).heap.size = w5.heap.size + 1 := by simp
          have ho6 := (ho5.alloc (.cells #[.int .i64 x] 3)).alloc (.cells #[.int .i64 1, .int .i64 1] 3)
          have hg7 := grown_alloc (grown_alloc hg6 (.cells #[.int .i64 x] 3)) (.cells #[.int .i64 1, .int .i64 1] 3)
          have hr6 := (hr5.alloc (.cells #[.int .i64 x] 3)).alloc (.cells #[.int .i64 1, .int .i64 1] 3)
          have hl2 := hlit.alloc (.cells #[.int .i64 1, .int .i64 1] 3)
          have hy : IntsAt ((w5.alloc (.cells #[.int .i64 x] 3)).alloc (.cells #[.int .i64 1, .int .i64 1] 3)) (fun k => k = w5.heap.size + 1) (some ⟨w5.heap.size + 1, 0, none⟩) 2 [1, 1] := IntsAt.lit rfl rfl (by simp) (by omega)
          have hsz2 : ((w5.alloc (.cells #[.int .i64 x] 3)).alloc (.cells #[.int .i64 1, .int .i64 1] 3)).heap.size = w5.heap.size + 2 := by simp
          obtain ⟨w6, hw6⟩ : ∃ w6, ((w5.alloc (.cells #[.int .i64 x] 3)).alloc (.cells #[.int .i64 1, .int .i64 1] 3)) = w6 := ⟨_, rfl⟩
          rw [hw6] at hl2 ho6 hg7 hr6 hy hsz2
          have HW6 := Lib.hid hw6
          have HSZ := Lib.hid hsz2
          clear hw6 hsz ho5 hlit hsz2
          have HP := Lib.hid ho6
          have HL := Lib.hid hl2
          have HR6 := Lib.hid hr6
          have HG7 := Lib.hid hg7
          have HY := Lib.hid hy
          have HUP : wo.heap.size ≤ w5.heap.size := Nat.le_trans hg3.size hgw.size
          clear ho6 hl2 hr6 hg7 hy
          go_wp2_with (at_builtin; rw [HW6.out]; refine wpAppN rfl _ _ rfl w5.heap.size 1 1 _ [x] _ (w5.heap.size + 1) 0 2 2 [1, 1] rfl HL.out rfl HY.out (by rw [HSZ.out]; omega) (by omega) ?_)
          intro a7 c7 w7 hown7 hc7 hgr7
          have ho7 := (HP.out.up (M' := w5.heap.size) HUP).ints HL.out hgr7
          have hr7 := HR6.out.grown hgr7 (by intro b hb; have := (HL.out.lt b hb).1; omega)
          have hg8 := grown_trans HG7.out hgr7 (by intro b hb; have := (HL.out.lt b hb).1; omega)
          obtain ⟨v1, hc1, hf1⟩ := ho7.cell (j := 0) hk1
          have hown8 : w7.ownsRow w.heap.size 3 1 (.slice a7 3 c7) 3 ([x, 1, 1].map (.int .i64)) := own_base hown7 hw5
          obtain ⟨ho9, hg9⟩ := ho7.store (j := 0) hown8
          have H9 := Lib.hid ho9
          have G9 := Lib.hid hg9
          have G8 := Lib.hid hg8
          have R7 := Lib.hid hr7
          clear ho9 hg9 hg8 hr7 hown8 hown7 hgr7 ho7
          go_wp2
          go_ret
          exact pairsPost_mk H9.out hkc (by omega) (R7.out.grown G9.out (by intro b hb; injection hb; omega)) (by omega) (grown_trans G8.out G9.out (by intro b hb; injection hb; omega))
        · have hqe : ((q : Int) == 0) = false := by simp; omega
          go_wp2
          go_ret
          exact pairsPost_mk ho2 hkc (by omega) hr2 (by omega) hg4
      · have hk1' : ¬ (0 : Int) < (k : Int) := by omega
        go_wp2
        go_ret
        exact pairsPost_mk ho hkc (by omega) hr (by omega) hg
end Go.Proofs.Ytmcongioghkdcae
namespace Go.Proofs.Ytmcongioghkdcae
open Go.RowKit Go.WideShapes

/-- drawn jobs -/
def DrawnJ (w : World) (e : Ending) (w' : World) : Prop := ∃ (a : Option Addr) (l c : Nat) (rows : List (List Int)), e = .returned (.slice a l c) ∧ RowsAt w' (· < w'.heap.size) a l rows ∧ l ≤ c ∧ l ≤ 8 ∧ Below w.heap.size w w'
/-- and an order, most often -/
def DrawnJO (w : World) (e : Ending) (w' : World) : Prop := ∃ (a : Option Addr) (l c : Nat) (rows : List (List Int)) (a2 : Option Addr) (l2 c2 : Nat) (xs : List Int), e = .returned (.tuple #[.slice a l c, .slice a2 l2 c2]) ∧
  RowsAt w' (· < w'.heap.size) a l rows ∧ l ≤ c ∧ l ≤ 8 ∧ IntsAt w' (· < w'.heap.size) a2 l2 xs ∧ l2 ≤ c2 ∧ l2 = l ∧ (∀ x ∈ xs, -1 ≤ x ∧ x ≤ 8) ∧ Below w.heap.size w w'
theorem drawKeptOnTime_any (a : Option Addr) (len cap : Nat) (w : World) (hb : BytesAt w w.heap.size a len) (hl : len ≤ cap) (hs : len ≤ 9223372036854775807) :
    Calls Try.prog 16 #[.slice a len cap] w (DrawnJ w) := by
  go_enter Try.func16, Try.ntmps16
  go_wp2_with fail
  refine (newReader_any a len cap w hb hl hs).mono ?_
  rintro e w1 ⟨rfl, hr, hb1⟩
  go_wp2_with fail
  refine (someJobs_any w.heap.size 0 w1 hr (by omega)).mono ?_
  rintro e w2 ⟨a2, l2, c2, rows, p2, rfl, h1, h2, h3, hr2, hp2, hg⟩
  have hbb : Below w.heap.size w w2 := grown_below hg hb1 hb1.size
  go_wp2_with fail
  go_ret
  exact ⟨a2, l2, c2, rows, rfl, h1.to (fun b hb => ⟨hb.2, rfl⟩), h2, h3, hbb⟩
theorem drawLeastTardy_any (a : Option Addr) (len cap : Nat) (w : World) (hb : BytesAt w w.heap.size a len) (hl : len ≤ cap) (hs : len ≤ 9223372036854775807) :
    Calls Try.prog 10 #[.slice a len cap] w (DrawnJ w) := by
  go_enter Try.func10, Try.ntmps10
  go_wp2_with fail
  refine (newReader_any a len cap w hb hl hs).mono ?_
  rintro e w1 ⟨rfl, hr, hb1⟩
  go_wp2_with fail
  refine (someJobs_any w.heap.size 0 w1 hr (by omega)).mono ?_
  rintro e w2 ⟨a2, l2, c2, rows, p2, rfl, h1, h2, h3, hr2, hp2, hg⟩
  have hbb : Below w.heap.size w w2 := grown_below hg hb1 hb1.size
  go_wp2_with fail
  go_ret
  exact ⟨a2, l2, c2, rows, rfl, h1.to (fun b hb => ⟨hb.2, rfl⟩), h2, h3, hbb⟩
theorem drawWaitOf_any (a : Option Addr) (len cap : Nat) (w : World) (hb : BytesAt w w.heap.size a len) (hl : len ≤ cap) (hs : len ≤ 9223372036854775807) :
    Calls Try.prog 6 #[.slice a len cap] w (DrawnJO w) := by
  go_enter Try.func6, Try.ntmps6
  go_wp2_with fail
  refine (newReader_any a len cap w hb hl hs).mono ?_
  rintro e w1 ⟨rfl, hr, hb1⟩
  go_wp2_with fail
  refine (someJobs_any w.heap.size 0 w1 hr (by omega)).mono ?_
  rintro e w2 ⟨a2, l2, c2, rows, p2, rfl, h1, h2, h3, hr2, hp2, hg⟩
  go_wp2_with fail
  refine (orderOf_any w.heap.size p2 l2 w2 hr2 (by omega) h3).mono ?_
  rintro e w3 ⟨g3, c3, xs, rfl, ho3, hc3, hall, hg3⟩
  have hbb : Below w.heap.size w w3 := grown_below (grown_r hg hg3) hb1 hb1.size
  have hrw : RowsAt w3 (· < w3.heap.size) a2 l2 rows := h1.to (fun b hb => ⟨Nat.lt_of_lt_of_le hb.2 hg3.size, hg3.block b hb.2 (by have := hr.lt; simp; omega)⟩)
  have hiw : IntsAt w3 (· < w3.heap.size) (some ⟨g3, 0, none⟩) l2 xs := by
    obtain ⟨a', c', e', _, h'⟩ := own_ints ho3 (by omega)
    injection e' with e1 _ _
    subst e1
    exact h'.to fun b hb => ⟨hb.2, rfl⟩
  go_wp2
  go_ret2
  exact ⟨a2, l2, c2, rows, _, l2, c3, xs, rfl, hrw, h2, h3, hiw, hc3, rfl, (fun x hx => by have := hall x hx; omega), hbb⟩
end Go.Proofs.Ytmcongioghkdcae
namespace Go.Proofs.Ytmcongioghkdcae
open Go.RowKit Go.WideShapes

/-- v is a slice of the call's own, of rows of its own -/
def OwnRowsV (w : World) (B : Nat) (v : Value) (k : Nat) (rows : List (List Int)) : Prop := ∃ us : List Value, w.ownsRow B 24 1 v k us ∧ rows.length = k ∧
  ∀ (q : Nat) (u : Value), us[q]? = some u → ∃ (a : Option Addr) (l c : Nat) (r : List Int), rows[q]? = some r ∧ u = .slice a l c ∧ l ≤ c ∧ l ≤ 1048576 ∧ w.ownsRow B 3 1 u l (r.map (.int .i64))
theorem own_two (w : World) {B : Nat} (hB : B ≤ w.heap.size) (x y : Int) : (w.alloc (.cells #[.int .i64 x, .int .i64 y] 3)).ownsRow B 3 1 (.slice (some ⟨w.heap.size, 0, none⟩) 2 2) 2 ([x, y].map (.int .i64)) :=
  ⟨rfl, .inr ⟨w.heap.size, 2, _, rfl, hB, heap_alloc_new w _, Nat.le_refl _, by unfold maxLen; omega, rfl, rfl⟩⟩
theorem OwnRowsV.rows {w : World} {B k : Nat} {a : Option Addr} {cap : Nat} {rows : List (List Int)} (h : OwnRowsV w B (.slice a k cap) k rows) (hk : k ≤ 1048576) :
    RowsAt w (fun b => B ≤ b ∧ b < w.heap.size) a k rows := by
  obtain ⟨us, h1, h2, h3⟩ := h
  have hul : us.length = k := by have := h1.1; simpa using this
  refine ⟨h2, by omega, fun h0 => ?_⟩
  have hc := fun g hg => h1.cells (g := g) hg
  have hlt := h1.lt
  rcases h1.2 with ⟨e1, e2⟩ | ⟨g, cp, cur, e1, e2, _⟩
  · omega
  · injection e1 with e3 _ _
    subst e3
    refine ⟨g, 0, rfl, hlt g rfl, fun i r hr => ?_⟩
    have hi : i < us.length := by have := (List.getElem?_eq_some_iff.1 hr).1; omega
    obtain ⟨a', l, c, r', hr', hu, hlc, hl, hown⟩ := h3 i us[i] (List.getElem?_eq_getElem hi)
    rw [hr] at hr'
    injection hr' with hr'
    subst hr'
    rw [hu] at hown
    obtain ⟨a2, c2, e4, _, hints⟩ := own_ints hown (by omega)
    injection e4 with e5 _ _
    subst e5
    refine ⟨a', l, c, ?_, hlc, hints⟩
    have := hc g rfl i us[i] (List.getElem?_eq_getElem hi)
    rw [hu, add_plain] at this
    exact this
theorem OwnRowsV.push {w w' : World} {B k l : Nat} {v v' : Value} {a : Option Addr} {c : Nat} {rows : List (List Int)} {r : List Int} {us : List Value} (hv : w.ownsRow B 24 1 v k us) (hl : rows.length = k)
    (hus : ∀ (q : Nat) (u : Value), us[q]? = some u → ∃ (a : Option Addr) (l c : Nat) (r : List Int), rows[q]? = some r ∧ u = .slice a l c ∧ l ≤ c ∧ l ≤ 1048576 ∧ w.ownsRow B 3 1 u l (r.map (.int .i64)))
    (hu : w.ownsRow B 3 1 (.slice a l c) l (r.map (.int .i64))) (hlc : l ≤ c) (hl2 : l ≤ 1048576) (hv' : w'.ownsRow B 24 1 v' (k + 1) (us ++ [.slice a l c])) (hg : w.grownBy w' v.ownBlock) : OwnRowsV w' B v' (k + 1) (rows ++ [r]) := by
  have hul : us.length = k := by have := hv.1; simpa using this
  refine ⟨_, hv', by simp [hl], fun q u hq => ?_⟩
  rcases Nat.lt_or_ge q us.length with h | h
  · rw [List.getElem?_append_left h] at hq
    obtain ⟨a', l', c', r', h1, h2, h3, h4, h5⟩ := hus q u hq
    exact ⟨a', l', c', r', by rw [List.getElem?_append_left (by omega)]; exact h1, h2, h3, h4, h5.kept hg (own_ne h5 hv (by decide))⟩
  · rw [List.getElem?_append_right h] at hq
    have hq0 : q - us.length = 0 := by
      have := (List.getElem?_eq_some_iff.1 hq).1; simp at this; omega
    rw [hq0] at hq
    simp only [List.getElem?_cons_zero, Option.some.injEq] at hq
    subst hq
    exact ⟨a, l, c, r, by rw [List.getElem?_append_right (by omega), show q - rows.length = 0 by omega]; rfl, rfl, hlc, hl2, hu.kept hg (own_ne hu hv (by decide))⟩
def turnP (rows : List (List Int)) : List (List Int) := rows.map (fun r => [r.getD 1 0, r.getD 0 0])
end Go.Proofs.Ytmcongioghkdcae
namespace Go.Proofs.Ytmcongioghkdcae
open Go.RowKit Go.WideShapes

def revM (xs : List Int) : List Int := tab (fun q => xs.getD (xs.length - 1 - q) 0) xs.length
theorem revM_length (xs : List Int) : (revM xs).length = xs.length := tab_length _ _
theorem revM_getD (xs : List Int) {q : Nat} (h : q < xs.length) : (revM xs).getD q 0 = xs.getD (xs.length - 1 - q) 0 := tab_getD _ h
set_option maxRecDepth 100000 in
set_option maxHeartbeats 2000000 in
theorem backwards_any (a : Option Addr) (len cap : Nat) (xs : List Int) (w : World) (h : IntsAt w (· < w.heap.size) a len xs) (hl : len ≤ 1000) :
    Calls Try.prog 9 #[.slice a len cap] w (NewOwn w (revM xs)) := by
  have HL := Lib.hid h.lenEq
  go_enter Try.func9, Try.ntmps9
  go_wp2
  go_loopw [3, 4] (fun v i wr => ∃ (k cp : Nat) (ax : Option Addr), k ≤ len ∧ i = .int .i64 ((len : Int) - 1 - k) ∧ v = .slice ax k cp ∧ wr.ownsRow w.heap.size 3 1 v k ((tab (fun q => xs.getD (len - 1 - q) 0) k).map (.int .i64)) ∧ Below w.heap.size w wr) (fun _ i _ => (intOf i + 1).toNat)
  case atStart => exact ⟨0, 0, _, Nat.zero_le _, by simp, rfl, World.ownsRow_made _ _ _ (Nat.le_refl _) (Nat.zero_le _) rfl, (Below.refl _ _).alloc (Nat.le_refl _) _⟩
  case round =>
    obtain ⟨k, cp, ax, hk, rfl, rfl, hown, hB⟩ := hrel
    obtain ⟨wo, rfl⟩ : ∃ wo : World, wo = wr := ⟨_, rfl⟩
    have HOWN := Lib.hid hown
    have HB := Lib.hid hB
    clear hown
    by_cases hlt : k < len
    · obtain ⟨m, hm⟩ : ∃ m : Nat, m = len - 1 - k := ⟨_, rfl⟩
      have hmi : (len : Int) - 1 - (k : Int) = (m : Int) := by omega
      rw [hmi]
      obtain ⟨b, off, x, rfl, hx, hc⟩ := (h.below hB).get (k := m) (by omega)
      have HX := Lib.hid (getD_of hx)
      have HM := Lib.hid hm
      have hml : m < len := by omega
      have hml2 : (m : Int) < (len : Int) := by omega
      have HMI := Lib.hid hmi
      clear hx hm hmi hB
      go_wp2_with (at_builtin; refine wpApp1 rfl _ _ rfl w.heap.size _ _ _ _ _ rfl HOWN.out rfl HB.out.size (by omega) ?_)
      intro a6 c6 w6 hown hc6 hgr
      have HO6 := Lib.hid hown
      have HG6 := Lib.hid hgr
      clear hown hgr
      go_wp2
      go_roundw
      case rel => exact ⟨k + 1, c6, a6, by omega, by have := HMI.out; congr 1; omega, rfl, by rw [tab_succ, ← HM.out, HX.out]; exact own_snoc HO6.out, HB.out.grown HG6.out HB.out.size (own_block HOWN.out)⟩
      case measure => simp [intOf] <;> omega
    · obtain rfl : k = len := by omega
      have e : (k : Int) - 1 - (k : Int) = -1 := by omega
      rw [e]
      clear hB e
      go_wp2
      go_ret
      have e : revM xs = tab (fun q => xs.getD (k - 1 - q) 0) k := by unfold revM; rw [HL.out]
      rw [e]
      exact ⟨_, _, _, rfl, by omega, HOWN.out, HB.out⟩
end Go.Proofs.Ytmcongioghkdcae
