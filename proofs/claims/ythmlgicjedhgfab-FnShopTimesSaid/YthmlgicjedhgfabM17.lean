import Derived.Test.YthmlgicjedhgfabRows
import Derived.WalkKit
import Derived.LoopTactic
import Derived.Outline
import Derived.WalkSpells
import Derived.WalkLawsBesides
import Derived.ProofKit
import Derived.Lib.Hide
import Derived.IntWalk
import Derived.Test.YthmlgicjedhgfabM0
import Derived.Test.YthmlgicjedhgfabM1
import Derived.Test.YthmlgicjedhgfabM2
import Derived.Test.YthmlgicjedhgfabM6
import Derived.Test.YthmlgicjedhgfabM8
import Derived.Test.YthmlgicjedhgfabM13
import Derived.Test.YthmlgicjedhgfabM14
import Derived.Test.YthmlgicjedhgfabM15
import Derived.Test.YthmlgicjedhgfabM16
import Derived.Test.YthmlgicjedhgfabM10
import Derived.Test.YthmlgicjedhgfabM11
import Derived.Test.YthmlgicjedhgfabM9
import Derived.Test.YthmlgicjedhgfabM12
import Derived.Deep.OwnRows
import Derived.Deep.QuietTactic
import Derived.BigQuiet
namespace Go.Proofs.Ythmlgicjedhgfab
open Go.RowKit Go.WideShapes

def PutAllPost (w : World) (D : PD) (shop : List (List (List Int))) (ts : List Int) (e : Ending) (w' : World) : Prop :=
  if turnsM shop ts then e = .returned (.bool true) ∧ ∃ (l : List Nat) (v : Value), ts = l.map (fun x : Nat => (x : Int)) ∧ TurnsOf shop.length (slen shop) l ∧ PlanAt w' D shop v l ∧ PFr D (.slice none 0 0) w w'
  else e = .returned (.bool false) ∧ PFr D (.slice none 0 0) w w'
set_option maxRecDepth 100000 in
set_option maxHeartbeats 4000000 in
theorem putAll_any {w : World} {D : PD} {shop : List (List (List Int))} (h : PlanAt w D shop (.slice none 0 0) []) (hv : shopM shop = true) (a2 : Option Addr) (len2 cap2 : Nat) (ts : List Int) (g : IntsAt w (· < D.B) a2 len2 ts) :
    Calls Try.prog 32 #[.pointer (some ⟨D.P, 0, none⟩), .slice a2 len2 cap2] w (PutAllPost w D shop ts) := by
  have hl3 := (shop_get hv).1
  have hs2 := g.small
  have HTL := Lib.hid g.lenEq
  have HPL := Lib.hid h
  have HV := Lib.hid hv
  have HG := Lib.hid (fun (w' : World) (hf : PFr D (.slice none 0 0) w w') => g.to (w' := w') (S' := (· < D.B)) (fun b hb => ⟨hb, hf.rest b (by obtain ⟨bg, on, hm, _⟩ := h.mem; have := hm.ok.bt; have := h.top; omega) (.inl hb) (by simp [Value.ownBlock])⟩))
  clear h hv g
  go_enter Try.func32, Try.ntmps32
  go_wp2_with fail
  go_loopw [9] (fun i wr => ∃ (k : Nat) (l : List Nat) (v : Value), k ≤ len2 ∧ i = .int .i64 k ∧ ts.take k = l.map (fun x : Nat => (x : Int)) ∧ PlanAt wr D shop v l ∧ PFr D (.slice none 0 0) w wr ∧ NewV w v) (fun i _ => len2 - (intOf i).toNat)
  case atStart => exact ⟨0, [], _, Nat.zero_le _, rfl, rfl, HPL.out, PFr.refl _ _ _, newV_nil _⟩
  case round =>
    clear HPL
    obtain ⟨k, l, v, hk, rfl, hl, hp, hf, hn⟩ := hrel
    have HL := Lib.hid hl
    have HP := Lib.hid hp
    have HF := Lib.hid hf
    have HN := Lib.hid hn
    have hgk := HG.out wr hf
    have hm := hp.mem
    clear hl hp hf hn
    by_cases hkl : k < len2
    · obtain ⟨b, off, x, rfl, hx, hcx⟩ := hgk.get hkl
      obtain ⟨bg, on, hmm, _⟩ := hm
      have c0 := hmm.cells.1
      have HX := Lib.hid hx
      clear hmm hgk hx
      obtain ⟨n, hnn⟩ : ∃ n, shop.length = n := ⟨_, rfl⟩
      have HNN := Lib.hid hnn
      rw [hnn] at hl3 c0
      clear hnn
      have hwn : IntKind.i64.wrap ((n : Int) - 1) = (n : Int) - 1 := IntWalk.i64_in _ (by omega)
      cases hb : inB 0 ((n : Int) - 1) x
      · have HNO := Lib.hid (show turnsM shop ts = false from turns_out HX.out (by rw [HNN.out]; exact hb))
        go_wp2_with (go_at_call 49; refine (isUpTo_any _ _ _).mono ?_; rintro e w' ⟨rfl, rfl⟩)
        go_ret
        unfold PutAllPost
        rw [HNO.out]
        exact ⟨rfl, HF.out⟩
      · have hxb : 0 ≤ x ∧ x ≤ (n : Int) - 1 := by simpa [inB] using hb
        obtain ⟨j, rfl⟩ : ∃ j : Nat, x = (j : Int) := ⟨x.toNat, by omega⟩
        have hjn : j < shop.length := by have := HNN.out; omega
        have HNX := Lib.hid (nextStep_at HP.out HV.out j hjn)
        have htk : ts.take (k + 1) = (l ++ [j]).map (fun x : Nat => (x : Int)) := by rw [take_get HX.out, HL.out]; simp
        have HTK := Lib.hid htk
        have HJN := Lib.hid hjn
        clear htk hjn
        by_cases hlt : l.count j < slen shop j
        · have hno : nextO (fun j => l.count j) shop j = some (j, l.count j) := if_pos hlt
          rw [hno] at HNX
          have HLT := Lib.hid hlt
          clear hlt hno c0
          have c0 : wr.cell? ⟨D.P, 0, none⟩ = some (.slice (some ⟨D.J, 0, none⟩) n n) := by
            obtain ⟨bg, on, hmm, _⟩ := HP.out.mem
            rw [← HNN.out]; exact hmm.cells.1
          have HNX2 := Lib.hid (fun (w2 : World) (hd : Drew wr w2) => show Calls Try.prog 43 #[.pointer (some ⟨D.P, 0, none⟩), .int .i64 j] w2 (DrewPost w2 (.pointer (some ⟨D.Q j (l.count j), 0, none⟩))) by
            have := nextStep_at (HP.out.drew hd) HV.out j HJN.out
            rw [show nextO (fun j => l.count j) shop j = some (j, l.count j) from if_pos HLT.out] at this
            exact this)
          go_wp2_with (first
            | (go_at_call 49; refine (isUpTo_any _ _ _).mono ?_; rintro e w' ⟨rfl, rfl⟩)
            | (go_at_call 43; (first
                | (refine (HNX2.out w2 hd2).mono ?_; rintro e w3 ⟨rfl, hd3⟩)
                | (refine (HNX2.out wr (Drew.refl _)).mono ?_; rintro e w2 ⟨rfl, hd2⟩))))
          have HP2 := Lib.hid (HP.out.drew hd2)
          have HF2 := Lib.hid (HF.out.drew hd2)
          have HP3 := Lib.hid (HP2.out.drew hd3)
          have HF3 := Lib.hid (HF2.out.drew hd3)
          clear hd2 hd3 c0
          refine (put_any HP3.out HV.out HJN.out HLT.out).mono ?_
          rintro e w4 ⟨rfl, v', hp4, hf4, hsn⟩
          have HP4 := Lib.hid hp4
          have HF4 := Lib.hid (HF3.out.trans hf4 (.inr HN.out))
          have HN4 := Lib.hid (HN.out.next HF3.out.size hsn)
          clear hp4 hf4 hsn
          go_wp2_with fail
          go_roundw
          case rel => exact ⟨k + 1, l ++ [j], v', by omega, by go_num, HTK.out, HP4.out, HF4.out, HN4.out⟩
          case measure => simp [intOf]; omega
        · have hno : nextO (fun j => l.count j) shop j = none := if_neg hlt
          rw [hno] at HNX
          have hcnt : ts.count (j : Int) ≠ slen shop j := by
            have h1 : (ts.take (k + 1)).count (j : Int) = l.count j + 1 := by
              rw [HTK.out, count_cast, count_snoc, if_pos rfl]
            have h2 : (ts.take (k + 1)).count (j : Int) ≤ ts.count (j : Int) := (List.take_sublist _ _).count_le _
            omega
          have HNO := Lib.hid (turns_not HJN.out hcnt)
          clear hno hcnt
          go_wp2_with (first
            | (go_at_call 49; refine (isUpTo_any _ _ _).mono ?_; rintro e w' ⟨rfl, rfl⟩)
            | (go_at_call 43; refine HNX.out.mono ?_; rintro e w2 ⟨rfl, hd2⟩; show _; unfold PD.ptr PD.addr; dsimp only))
          go_ret
          unfold PutAllPost
          rw [HNO.out]
          exact ⟨rfl, HF.out.drew hd2⟩
    · have htk : ts = l.map (fun x : Nat => (x : Int)) := by
        have := HL.out
        rw [List.take_of_length_le (by have := HTL.out; omega)] at this
        exact this
      have HTS := Lib.hid htk
      have HDONE := Lib.hid (isDone_at HP.out HV.out)
      clear hgk hm htk
      cases hd : doneP shop (fun j => l.count j)
      · have HNO := Lib.hid (show turnsM shop ts = false by
          unfold doneP at hd
          rw [List.all_eq_false] at hd
          obtain ⟨j, hj, hne⟩ := hd
          refine turns_not (List.mem_range.1 hj) (fun e => hne ?_)
          rw [HTS.out, count_cast] at e
          exact decide_eq_true (Nat.le_of_eq e.symm))
        rw [hd] at HDONE
        clear hd
        go_wp2_with fail
        refine HDONE.out.mono ?_
        rintro e w2 ⟨rfl, hd2⟩
        have HD2 := Lib.hid hd2
        clear hd2
        go_wp2_with fail
        go_ret
        unfold PutAllPost
        rw [HNO.out]
        exact ⟨rfl, HF.out.drew HD2.out⟩
      · have HTO := Lib.hid (show TurnsOf shop.length (slen shop) l from ⟨HP.out.jobs, fun j hj => by
          unfold doneP at hd
          rw [List.all_eq_true] at hd
          have h1 : slen shop j ≤ l.count j := of_decide_eq_true (hd j (List.mem_range.2 hj))
          have h2 := HP.out.cnt j
          omega⟩)
        have HYES := Lib.hid (show turnsM shop ts = true by rw [HTS.out]; exact list_turns HTO.out)
        rw [hd] at HDONE
        clear hd
        go_wp2_with fail
        refine HDONE.out.mono ?_
        rintro e w2 ⟨rfl, hd2⟩
        have HD2 := Lib.hid hd2
        clear hd2
        go_wp2_with fail
        go_ret
        unfold PutAllPost
        rw [HYES.out]
        exact ⟨rfl, l, v, HTS.out, HTO.out, HP.out.drew HD2.out, HF.out.drew HD2.out⟩
/-- rows of the call's own, and a number -/
def RowsIntO (w : World) (rows : List (List Int)) (n : Int) (e : Ending) (w' : World) : Prop := ∃ (a : Option Addr) (len cap : Nat), e = .returned (.tuple #[.slice a len cap, .int .i64 n]) ∧ RowsO w w' (.slice a len cap) rows
theorem RowsO.later {w w1 w2 : World} {v : Value} {rows : List (List Int)} (h : RowsO w w1 v rows) (hd : Drew w1 w2) : RowsO w w2 v rows := by
  obtain ⟨q, rfl⟩ := hd
  obtain ⟨us, h1, h2, h3, h4⟩ := h
  exact ⟨us, own_drewN h1 q, fun q' u hu => by obtain ⟨a, l, c, r, e1, e2, e3, e4, e5⟩ := h2 q' u hu; exact ⟨a, l, c, r, e1, e2, e3, e4, own_drewN e5 q⟩, h3, h4.trans (Drew.below ⟨q, rfl⟩ _)⟩
theorem RowsO.from {w w1 w2 : World} {v : Value} {rows : List (List Int)} (hb : Below w.heap.size w w1) (h : RowsO w1 w2 v rows) : RowsO w w2 v rows := by
  have hs := hb.size
  obtain ⟨us, h1, h2, h3, h4⟩ := h
  exact ⟨us, own_base h1 hs, fun q' u hu => by obtain ⟨a, l, c, r, e1, e2, e3, e4, e5⟩ := h2 q' u hu; exact ⟨a, l, c, r, e1, e2, e3, e4, own_base e5 hs⟩, h3, hb.trans (h4.mono hs)⟩
theorem rowsO_nil {w w' : World} (hb : Below w.heap.size w w') : RowsO w w' (.slice none 0 0) [] :=
  ⟨[], World.ownsRow_nil _ _ _ _, fun q u h => by simp at h, fun p q u u' _ h => by simp at h, hb⟩
set_option maxRecDepth 100000 in
set_option maxHeartbeats 4000000 in
theorem shopTimes_own (a : Option Addr) (len cap : Nat) (shop : List (List (List Int))) (a2 : Option Addr) (len2 cap2 : Nat) (ts : List Int) (w : World) (h : ShopAt w (· < w.heap.size) a len shop) (g : IntsAt w (· < w.heap.size) a2 len2 ts) (hc : len ≤ cap) :
    Calls Try.prog 8 #[.slice a len cap, .slice a2 len2 cap2] w (RowsIntO w (timesRows shop ts) (timesN shop ts)) := by
  go_enter Try.func8, Try.ntmps8
  go_wp2_with fail
  refine (planOf_any a len cap shop w h hc).mono ?_
  intro e w1 hp
  unfold PlanOfPost at hp
  cases hv : shopM shop
  · rw [hv] at hp
    obtain ⟨rfl, hd⟩ := hp
    go_wp2_with fail
    go_ret2
    unfold timesRows timesN
    rw [hv]
    exact ⟨none, 0, 0, rfl, rowsO_nil (hd.below _)⟩
  · rw [hv, if_pos rfl] at hp
    obtain ⟨D, rfl, hpl, hB, hb1⟩ := hp
    have HCALL := Lib.hid (putAll_any hpl hv a2 len2 cap2 ts (g.to (fun b hb => ⟨by omega, hb1.block b hb⟩)))
    have HV := Lib.hid hv
    have HB := Lib.hid hB
    have HB1 := Lib.hid hb1
    clear hv hpl hB hb1 h g hc
    cases ht : turnsM shop ts
    · have HTT := Lib.hid ht
      clear ht
      go_wp2_with (go_at_call 32; refine HCALL.out.mono ?_; intro e w2 hp2; unfold PutAllPost at hp2; rw [HTT.out] at hp2; obtain ⟨rfl, hf2⟩ := hp2)
      go_ret2
      unfold timesRows timesN
      rw [HV.out, HTT.out]
      have hs := HB1.out.size
      exact ⟨none, 0, 0, rfl, rowsO_nil (HB1.out.trans (hf2.below HB.out hs (fun b e => by simp [Value.ownBlock] at e)))⟩
    · have HTT := Lib.hid ht
      clear ht
      go_wp2_with (go_at_call 32; refine HCALL.out.mono ?_; intro e w2 hp2; unfold PutAllPost at hp2; rw [HTT.out, if_pos rfl] at hp2; obtain ⟨rfl, l, v, hts, hto, hpl2, hf2⟩ := hp2; have HTS := Lib.hid hts; have HTO := Lib.hid hto; have HP2 := Lib.hid hpl2; have HF2 := Lib.hid hf2; clear hts hto hpl2 hf2)
      refine (begins_any HP2.out HV.out HTO.out.2).mono ?_
      rintro e w3 ⟨V, rfl, ⟨aV, lV, cV, rfl⟩, ho⟩
      have HO := Lib.hid ho
      have HP3 : Hid (PlanAt w3 D shop v l) := Lib.hid (by
        obtain ⟨us, _, _, _, hb⟩ := ho
        obtain ⟨bg, on, h1, h2, h3⟩ := HP2.out.mem
        have ht := HP2.out.top
        have hs := hb.size
        exact ⟨⟨bg, on, h1.to (fun b _ hb2 => hb.block b (by omega)), h2, h3⟩, own_later HP2.out.own hb, by omega, HP2.out.jobs, HP2.out.cnt⟩)
      clear ho
      go_wp2_with fail
      refine (planEnd_any HP3.out HV.out).mono ?_
      rintro e w4 ⟨rfl, hd4⟩
      have HD4 := Lib.hid hd4
      clear hd4
      go_wp2_with fail
      go_ret2
      unfold timesRows timesN runOf
      rw [HV.out, HTT.out, HTS.out, toNat_cast]
      have hs := HB1.out.size
      have hbel : Below w.heap.size w w2 := HB1.out.trans (HF2.out.below HB.out hs (fun b e => by simp [Value.ownBlock] at e))
      exact ⟨aV, lV, cV, rfl, (HO.out.from hbel).later HD4.out⟩
theorem RowsO.below7 {w w' : World} {v : Value} {rows : List (List Int)} (h : RowsO w w' v rows) : Below w.heap.size w w' := by
  obtain ⟨us, _, _, _, hb⟩ := h; exact hb
theorem timesRows_len (shop : List (List (List Int))) (ts : List Int) : (timesRows shop ts).length ≤ 3 := by
  unfold timesRows
  cases hv : shopM shop
  · simp
  · split
    · rw [rowsS_len]; exact (shop_get hv).1
    · simp
theorem RowsO.at' {w w' : World} {a : Option Addr} {len cap : Nat} {rows : List (List Int)} (h : RowsO w w' (.slice a len cap) rows) (hl : rows.length ≤ 1048576) :
    len = rows.length ∧ len ≤ cap ∧ RowsAt w' (fun b => w.heap.size ≤ b ∧ b < w'.heap.size) a len rows := by
  obtain ⟨us, h1, h2, _, _⟩ := h
  obtain ⟨a', c', e, hc⟩ := own_slice h1
  simp only [Value.slice.injEq] at e
  obtain ⟨rfl, rfl, rfl⟩ := e
  exact ⟨rfl, hc, OwnRowsW.rows (B0 := w.heap.size) (B1 := w.heap.size) ⟨us, h1, rfl, h2⟩ hl (Nat.le_refl _)⟩
theorem shopTimes_impl (a : Option Addr) (len cap : Nat) (shop : List (List (List Int))) (a2 : Option Addr) (len2 cap2 : Nat) (ts : List Int) (w : World) (h : ShopAt w (· < w.heap.size) a len shop) (g : IntsAt w (· < w.heap.size) a2 len2 ts) (hc : len ≤ cap) (_hc2 : len2 ≤ cap2) :
    Calls Try.prog 8 #[.slice a len cap, .slice a2 len2 cap2] w (RowsInt w (timesRows shop ts) (timesN shop ts)) := by
  refine (shopTimes_own a len cap shop a2 len2 cap2 ts w h g hc).mono ?_
  rintro e w' ⟨a3, l3, c3, rfl, ho⟩
  have hl := timesRows_len shop ts
  obtain ⟨_, h2, h3⟩ := ho.at' (by omega)
  obtain ⟨us, _, _, _, hb⟩ := ho
  exact ⟨a3, l3, c3, rfl, h3, h2, hb⟩
theorem shopTimes_ownC (a : Option Addr) (len cap : Nat) (shop : List (List (List Int))) (a2 : Option Addr) (len2 cap2 : Nat) (ts : List Int) (w : World) (h : ShopAt w (· < w.heap.size) a len shop) (g : IntsAt w (· < w.heap.size) a2 len2 ts) (hc : len ≤ cap) (_hc2 : len2 ≤ cap2) :
    Calls Try.prog 8 #[.slice a len cap, .slice a2 len2 cap2] w (RowsIntO w (timesRows shop ts) (timesN shop ts)) := shopTimes_own a len cap shop a2 len2 cap2 ts w h g hc
end Go.Proofs.Ythmlgicjedhgfab
namespace Go.Proofs.Ythmlgicjedhgfab
open Go.RowKit
end Go.Proofs.Ythmlgicjedhgfab
namespace Go.Proofs.Ythmlgicjedhgfab
open Go.RowKit Go.WideShapes Go.Deep

-- lists of lists of lists, in the exact laws
def sizesB (shop : List (List (List Int))) : Prop := ∀ job ∈ shop, job.length ≤ 1048576 ∧ ∀ r ∈ job, r.length ≤ 1048576
def SizePost3 (w : World) (left : Int) (len : Nat) (shop : List (List (List Int))) (e : Ending) (w' : World) : Prop := ∃ q : Int, e = .returned (.int .i64 q) ∧ q ≤ left ∧ (0 ≤ q → (len : Int) ≤ left ∧ sizesB shop) ∧ w = w'
theorem szIntSSS_any (S : Nat → Prop) (a : Option Addr) (len cap : Nat) (shop : List (List (List Int))) (left : Int) (w : World) (h : ShopAt w S a len shop) (h0 : 0 ≤ left) (h1 : left ≤ 1048576) :
    Calls Try.prog 12 #[.slice a len cap, .int .i64 left] w (SizePost3 w left len shop) := by
  have hs := h.small
  by_cases hl : (len : Int) ≤ left
  · have HL := Lib.hid h.lenEq
    go_enter Try.func12, Try.ntmps12
    go_wp2
    go_loop [1, 5] (fun q i => ∃ (k : Nat) (n : Int), k ≤ len ∧ i = .int .i64 k ∧ q = .int .i64 n ∧ 0 ≤ n ∧ n ≤ left ∧ sizesB (shop.take k)) (fun _ i => len - (intOf i).toNat)
    case atStart => exact ⟨0, _, Nat.zero_le _, rfl, rfl, by omega, by omega, fun r hr => by simp at hr⟩
    case round =>
      obtain ⟨k, n, hk, rfl, rfl, hn0, hn1, hr⟩ := hrel
      have HR := Lib.hid hr
      clear hr
      by_cases hlt : k < len
      · obtain ⟨b, off, job, a', l, c, rfl, hx, hc, _, hri⟩ := h.get hlt
        have hsl := hri.small
        have HX := Lib.hid hx
        have HRL := Lib.hid hri.lenEq
        clear hx
        go_wp2_with fail
        refine (szIntSS_any _ a' l c job n _ hri hn0 (by omega)).mono ?_
        rintro e w2 ⟨q, rfl, hq1, hq2, rfl⟩
        by_cases hq0 : 0 ≤ q
        · have hq2' := hq2 hq0
          have HQ := Lib.hid hq2'
          clear hq2 hq2'
          go_wp2
          go_round
          case rel =>
            refine ⟨k + 1, q, by omega, by go_num, rfl, hq0, by omega, fun r' hr' => ?_⟩
            rw [take_get HX.out] at hr'
            rcases List.mem_append.1 hr' with h' | h'
            · exact HR.out r' h'
            · simp only [List.mem_singleton] at h'
              rw [h']
              exact ⟨by rw [HRL.out]; have := HQ.out.1; omega, fun r hr => by have := HQ.out.2 r hr; omega⟩
          case measure => simp [intOf]; omega
        · go_wp2
          go_ret
          exact ⟨_, rfl, by omega, fun h => absurd h (by omega), rfl⟩
      · go_wp2
        go_ret
        have hl' := HL.out
        have hr := HR.out
        rw [List.take_of_length_le (by omega)] at hr
        exact ⟨_, rfl, by omega, fun _ => ⟨hl, hr⟩, rfl⟩
  · go_enter Try.func12, Try.ntmps12
    go_wp2
    go_ret
    exact ⟨_, rfl, by omega, fun h => absurd h (by omega), rfl⟩
def eqSB (xs ys : List (List (List Int))) : Bool := decide (xs = ys)
set_option maxHeartbeats 400000 in
theorem eqIntSSS_any (S T : Nat → Prop) (a a2 : Option Addr) (len cap len2 cap2 : Nat) (xs ys : List (List (List Int))) (w : World) (h : ShopAt w S a len xs) (g : ShopAt w T a2 len2 ys) :
    Calls Try.prog 16 #[.slice a len cap, .slice a2 len2 cap2] w (EqPost w (eqSB xs ys)) := by
  have hs := h.small
  have hs2 := g.small
  by_cases hll : len = len2
  · subst hll
    go_enter Try.func16, Try.ntmps16
    go_wp2
    go_loopw [5] (fun i wr => ∃ k : Nat, k ≤ len ∧ i = .int .i64 k ∧ xs.take k = ys.take k ∧ Drew w wr) (fun i _ => len - (intOf i).toNat)
    case atStart => exact ⟨0, Nat.zero_le _, rfl, rfl, Drew.refl w⟩
    case round =>
      obtain ⟨k, hk, rfl, ht, hd⟩ := hrel
      have HT := Lib.hid ht
      clear ht
      by_cases hlt : k < len
      · obtain ⟨b, off, x, a3, l3, c3, rfl, hx, hc, _, hi⟩ := (Drew.shop h hd).get hlt
        obtain ⟨b2, off2, y, a4, l4, c4, rfl, hy, hc2, _, hi2⟩ := (Drew.shop g hd).get hlt
        have HX := Lib.hid hx
        have HY := Lib.hid hy
        clear hx hy
        have hcall : ∀ n, Calls Try.prog 15 #[.slice a3 l3 c3, .slice a4 l4 c4] (wr.drewN n) (fun e w' => e = .returned (.bool (eqRB x y)) ∧ ∃ m, w' = (wr.drewN n).drewN m) :=
          fun n => eqIntSS_any S T a3 a4 l3 c3 l4 c4 x y _ (Drew.rows hi ⟨n, rfl⟩) (Drew.rows hi2 ⟨n, rfl⟩)
        have HCALL := Lib.hid hcall
        clear hcall
        by_cases hxy : x = y
        · have hb : eqRB x y = true := decide_eq_true hxy
          have HXY := Lib.hid hxy
          clear hxy
          go_wp2
          go_quiet ((go_at_call 15; exact Calls.quiet_of (HCALL.out _)))
          go_wp2
          go_roundw
          case rel => exact ⟨k + 1, by omega, by go_num, take_eq_step HX.out (by rw [HXY.out]; exact HY.out) HT.out, hd.drew _⟩
          case measure => simp [intOf]; omega
        · have hb : eqRB x y = false := decide_eq_false hxy
          go_wp2
          go_quiet ((go_at_call 15; exact Calls.quiet_of (HCALL.out _)))
          go_wp2
          go_ret
          exact ⟨ret_bool (decide_eq_false (ne_of_get HX.out HY.out hxy)).symm, hd.drew _⟩
      · go_wp2
        go_ret
        have e1 := h.lenEq
        have e2 := g.lenEq
        have ht := HT.out
        rw [List.take_of_length_le (by omega), List.take_of_length_le (by omega)] at ht
        exact ⟨ret_bool (decide_eq_true ht).symm, hd⟩
  · have hne : xs ≠ ys := by rintro rfl; exact hll (h.lenEq.symm.trans g.lenEq)
    go_enter Try.func16, Try.ntmps16
    go_wp2
    go_ret
    exact ⟨ret_bool (decide_eq_false hne).symm, Drew.refl w⟩
theorem SameOn.shop {lo hi : Nat} {a b : World} {p : Option Addr} {len : Nat} {xs : List (List (List Int))} (h : SameOn lo hi a b) (x : ShopAt a (fun b => lo ≤ b ∧ b < hi) p len xs) : ShopAt b (fun b => lo ≤ b ∧ b < hi) p len xs :=
  x.to (fun k hk => ⟨hk, h k hk.1 hk.2⟩)
theorem shop_in {lo hi : Nat} {w : World} {a : Option Addr} {len : Nat} {xs : List (List (List Int))} (h : ShopAt w (fun b => lo ≤ b ∧ b < hi) a len xs) (hh : hi ≤ w.heap.size) : ShopAt w (· < w.heap.size) a len xs :=
  h.to (fun _ hb => ⟨Nat.lt_of_lt_of_le hb.2 hh, rfl⟩)
theorem shop_lift3 {w w1 : World} {a : Option Addr} {len : Nat} {shop : List (List (List Int))} (h : ShopAt w (· < w.heap.size) a len shop) (hb : Below w.heap.size w w1) : ShopAt w1 (· < w1.heap.size) a len shop :=
  (h.below hb).to (fun _ hb' => ⟨Nat.lt_of_lt_of_le hb' hb.size, rfl⟩)
theorem Try.infoInts3 : (Try.prog.info? 27).map (fun i => (i.zero, i.size, i.bytes)) = some (some (.slice none 0 0), 1, 24) := by kernel_rfl
/-- a copy of a shop so far: its top block holds k slices, and these read as the first k jobs, in blocks between -/
structure Copy3 (w wr : World) (len k : Nat) (shop : List (List (List Int))) : Prop where
  below : Below w.heap.size w wr
  lt : w.heap.size < wr.heap.size
  top : ∃ C : Array Value, wr.heap[w.heap.size]? = some (.cells C 27 (0, 0)) ∧ C.size = len ∧
    ∀ (j : Nat) (job : List (List Int)), j < k → shop[j]? = some job → ∃ g, C[j]? = some (.slice (some ⟨g, 0, none⟩) job.length job.length) ∧ w.heap.size < g ∧ g < wr.heap.size ∧ RowsAt wr (fun b => w.heap.size < b ∧ b < wr.heap.size) (some ⟨g, 0, none⟩) job.length job
theorem copy3_start (w : World) (len : Nat) (shop : List (List (List Int))) : Copy3 w (w.alloc (.cells (madeCells #[.slice none 0 0] len) 27)) len 0 shop :=
  ⟨(Below.refl _ _).alloc (Nat.le_refl _) _, by simp, ⟨_, heap_alloc_new w _, size_madeCells _ _, fun j r h => absurd h (by omega)⟩⟩
theorem Copy3.cell {w wr : World} {len k : Nat} {shop : List (List (List Int))} (h : Copy3 w wr len k shop) {j : Nat} (hj : j < len) : ∃ c, wr.cell? ⟨w.heap.size, j, none⟩ = some c ∧ wr.frozen? ⟨w.heap.size, j, none⟩ = false := by
  obtain ⟨C, h1, h2, _⟩ := h.top
  refine ⟨C[j]'(by omega), ?_, ?_⟩
  · simp only [World.cell?, h1]; exact Array.getElem?_eq_getElem _
  · simp [World.frozen?, h1]
theorem Copy3.later {w wr w2 : World} {len k : Nat} {shop : List (List (List Int))} (h : Copy3 w wr len k shop) (hb : Below wr.heap.size wr w2) : Copy3 w w2 len k shop := by
  obtain ⟨C, h1, h2, h3⟩ := h.top
  refine ⟨h.below.trans (hb.mono h.below.size), Nat.lt_of_lt_of_le h.lt hb.size, ⟨C, (hb.block _ h.lt).trans h1, h2, fun j job hj hjob => ?_⟩⟩
  obtain ⟨g, e1, e2, e3, e4⟩ := h3 j job hj hjob
  exact ⟨g, e1, e2, Nat.lt_of_lt_of_le e3 hb.size, e4.to fun b hb' => ⟨⟨hb'.1, Nat.lt_of_lt_of_le hb'.2 hb.size⟩, hb.block b hb'.2⟩⟩
theorem Copy3.step {w wr : World} {len k g : Nat} {shop : List (List (List Int))} {job : List (List Int)} (h : Copy3 w wr len k shop) (hk : k < len) (hjob : shop[k]? = some job) (hg : w.heap.size < g ∧ g < wr.heap.size) (hr : RowsAt wr (fun b => w.heap.size < b ∧ b < wr.heap.size) (some ⟨g, 0, none⟩) job.length job) :
    Copy3 w (wr.setCell ⟨w.heap.size, k, none⟩ (.slice (some ⟨g, 0, none⟩) job.length job.length)) len (k + 1) shop := by
  obtain ⟨C, h1, h2, h3⟩ := h.top
  have hsz : (wr.setCell ⟨w.heap.size, k, none⟩ (.slice (some ⟨g, 0, none⟩) job.length job.length)).heap.size = wr.heap.size := by simp [World.setCell]
  have hot : ∀ b, b ≠ w.heap.size → (wr.setCell ⟨w.heap.size, k, none⟩ (.slice (some ⟨g, 0, none⟩) job.length job.length)).heap[b]? = wr.heap[b]? := fun b hb => Below.heap_setCell _ _ _ _ hb
  refine ⟨h.below.setCell (Nat.le_refl _) _, by rw [hsz]; exact h.lt, ⟨C.setIfInBounds k (.slice (some ⟨g, 0, none⟩) job.length job.length), heap_setCell_same wr w.heap.size k C _ _ h1, by simpa using h2, fun j job' hj hjob' => ?_⟩⟩
  rw [Array.getElem?_setIfInBounds, hsz]
  by_cases e : k = j
  · subst e
    rw [if_pos rfl, if_pos (by omega)]
    have e' := hjob.symm.trans hjob'
    simp only [Option.some.injEq] at e'
    subst e'
    exact ⟨g, rfl, hg.1, hg.2, hr.to fun b hb => ⟨hb, hot b (by omega)⟩⟩
  · rw [if_neg e]
    obtain ⟨g', e1, e2, e3, e4⟩ := h3 j job' (by omega) hjob'
    exact ⟨g', e1, e2, e3, e4.to fun b hb => ⟨hb, hot b (by omega)⟩⟩
def CopyS3 (w : World) (len : Nat) (shop : List (List (List Int))) (e : Ending) (w' : World) : Prop := e = .returned (.slice (some ⟨w.heap.size, 0, none⟩) len len) ∧
  ShopAt w' (fun b => w.heap.size ≤ b ∧ b < w'.heap.size) (some ⟨w.heap.size, 0, none⟩) len shop ∧ w.heap.size < w'.heap.size ∧ Below w.heap.size w w'
set_option maxHeartbeats 400000 in
theorem toShop_new (a : Option Addr) (len cap : Nat) (shop : List (List (List Int))) (w : World) (h : ShopAt w (· < w.heap.size) a len shop) (hl : len ≤ 1048576) (hr : sizesB shop) :
    Calls Try.prog 13 #[.slice a len cap] w (CopyS3 w len shop) := by
  have HL := Lib.hid h.lenEq
  have hmk := fun w => run_make_row' (P := Try.prog) 23 27 (.slice none 0 0) 24 Try.underlying23 Try.infoInts3 rfl .i64 .i64 len (by omega) (by omega) w
  go_enter Try.func13, Try.ntmps13
  go_wp2
  clear hmk
  go_loopw [4] (fun i wr => ∃ (k : Nat), k ≤ len ∧ i = .int .i64 k ∧ Copy3 w wr len k shop) (fun i _ => len - (intOf i).toNat)
  case atStart => exact ⟨0, Nat.zero_le _, rfl, copy3_start w len shop⟩
  case round =>
    obtain ⟨k, hk, rfl, hco⟩ := hrel
    by_cases hlt : k < len
    · have hw := h.below hco.below
      obtain ⟨b, off, job, a', l, c, rfl, hx, hc, _, hri⟩ := hw.get hlt
      have hjl := hr job (List.mem_of_getElem? hx)
      have hl' : l ≤ 1048576 := by rw [← hri.lenEq]; exact hjl.1
      have hws := hco.lt
      have HX := Lib.hid hx
      have HRL := Lib.hid hri.lenEq
      clear hx
      have HTO := Lib.hid (toRows_new a' l c job wr (hri.to fun b hb => ⟨by omega, rfl⟩) hl' hjl.2)
      have HCO := Lib.hid hco
      obtain ⟨c0, hc1, hf1⟩ := hco.cell hlt
      clear hco
      go_wp2_with fail
      refine HTO.out.mono ?_
      rintro e w3 ⟨rfl, hrest⟩
      have h3 := hrest.1
      have hlt3 := hrest.2.1
      have hb3 : Below wr.heap.size wr w3 := by first | exact hrest.2.2 | exact hrest.2.2.1
      clear hrest
      have hco3 := HCO.out.later hb3
      obtain ⟨c1, hc2, hf2⟩ := hco3.cell hlt
      have HST := Lib.hid (hco3.step hlt HX.out ⟨hws, hlt3⟩ (by rw [HRL.out]; exact h3.to fun b hb => ⟨⟨by omega, hb.2⟩, rfl⟩))
      rw [HRL.out] at HST
      clear hco3 h3 hb3 hc1 hf1
      go_wp2
      go_roundw
      case rel => exact ⟨k + 1, by omega, by go_num, HST.out⟩
      case measure => simp [intOf]; omega
    · obtain rfl : k = len := by omega
      have HCO := Lib.hid hco
      clear hco
      go_wp2
      go_ret
      have hll := HL.out
      obtain ⟨C, h1, h2, h3⟩ := HCO.out.top
      refine ⟨rfl, ⟨hll, by omega, fun h0 => ⟨w.heap.size, 0, rfl, ⟨Nat.le_refl _, HCO.out.lt⟩, fun i job hi => ?_⟩⟩, HCO.out.lt, HCO.out.below⟩
      have hil : i < k := by
        have := (List.getElem?_eq_some_iff.1 hi).1
        omega
      obtain ⟨g, e1, e2, e3, e4⟩ := h3 i job hil hi
      refine ⟨some ⟨g, 0, none⟩, job.length, job.length, ?_, Nat.le_refl _, e4.to fun b hb => ⟨⟨by omega, hb.2⟩, rfl⟩⟩
      rw [Nat.zero_add]
      simp only [World.cell?, h1]
      exact e1
end Go.Proofs.Ythmlgicjedhgfab
