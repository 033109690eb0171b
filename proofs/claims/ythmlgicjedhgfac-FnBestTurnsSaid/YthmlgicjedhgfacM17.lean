import Derived.Test.YthmlgicjedhgfacRows
import Derived.WalkKit
import Derived.LoopTactic
import Derived.Outline
import Derived.WalkSpells
import Derived.WalkLawsBesides
import Derived.ProofKit
import Derived.Lib.Hide
import Derived.IntWalk
import Derived.Test.YthmlgicjedhgfacM0
import Derived.Test.YthmlgicjedhgfacM1
import Derived.Test.YthmlgicjedhgfacM2
import Derived.Test.YthmlgicjedhgfacM6
import Derived.Test.YthmlgicjedhgfacM8
import Derived.Test.YthmlgicjedhgfacM13
import Derived.Test.YthmlgicjedhgfacM14
import Derived.Test.YthmlgicjedhgfacM15
import Derived.Test.YthmlgicjedhgfacM16
import Derived.Test.YthmlgicjedhgfacM10
import Derived.Test.YthmlgicjedhgfacM11
import Derived.StillTailTactics
import Derived.Defers
namespace Go.Proofs.Ythmlgicjedhgfac
open Go.RowKit Go.WideShapes

def PutAllPost (w : World) (D : PD) (shop : List (List (List Int))) (ts : List Int) (e : Ending) (w' : World) : Prop :=
  if turnsM shop ts then e = .returned (.bool true) ∧ ∃ (l : List Nat) (v : Value), ts = l.map (fun x : Nat => (x : Int)) ∧ TurnsOf shop.length (slen shop) l ∧ PlanAt w' D shop v l ∧ PFr D (.slice none 0 0) w w'
  else e = .returned (.bool false) ∧ PFr D (.slice none 0 0) w w'
set_option maxRecDepth 100000 in
set_option maxHeartbeats 4000000 in
theorem putAll_any {w : World} {D : PD} {shop : List (List (List Int))} (h : PlanAt w D shop (.slice none 0 0) []) (hv : shopM shop = true) (a2 : Option Addr) (len2 cap2 : Nat) (ts : List Int) (g : IntsAt w (· < D.B) a2 len2 ts) :
    Calls Try.prog 30 #[.pointer (some ⟨D.P, 0, none⟩), .slice a2 len2 cap2] w (PutAllPost w D shop ts) := by
  have hl3 := (shop_get hv).1
  have hs2 := g.small
  have HTL := Lib.hid g.lenEq
  have HPL := Lib.hid h
  have HV := Lib.hid hv
  have HG := Lib.hid (fun (w' : World) (hf : PFr D (.slice none 0 0) w w') => g.to (w' := w') (S' := (· < D.B)) (fun b hb => ⟨hb, hf.rest b (by obtain ⟨bg, on, hm, _⟩ := h.mem; have := hm.ok.bt; have := h.top; omega) (.inl hb) (by simp [Value.ownBlock])⟩))
  clear h hv g
  go_enter Try.func30, Try.ntmps30
  go_wp2_with fail
  go_loopw [9] (fun i wr => ∃ (k : Nat) (l : List Nat) (v : Value), k ≤ len2 ∧ i = .int .i64 k ∧ ts.take k = l.map (fun x : Nat => (x : Int)) ∧ PlanAt wr D shop v l ∧ PFr D (.slice none 0 0) w wr ∧ NewV w v) (fun i _ => len2 - (intOf i).toNat)
  case atStart => exact ⟨0, [], _, Nat.zero_le _, rfl, rfl, HPL.out, PFr.refl _ _ _, newV_nil _⟩
  case round =>
    clear HPL
    obtain ⟨k, l, v, hk, rfl, hl, hp, hf, hn⟩ := hrel
    have HL := Lib.hid hl
    have HP := Lib.hid hp
    have HF := Lib.hid hf
    have HN := Lib.hid hn
    have hgk := HG.out wr hf
    have hm := hp.mem
    clear hl hp hf hn
    by_cases hkl : k < len2
    · obtain ⟨b, off, x, rfl, hx, hcx⟩ := hgk.get hkl
      obtain ⟨bg, on, hmm, _⟩ := hm
      have c0 := hmm.cells.1
      have HX := Lib.hid hx
      clear hmm hgk hx
      obtain ⟨n, hnn⟩ : ∃ n, shop.length = n := ⟨_, rfl⟩
      have HNN := Lib.hid hnn
      rw [hnn] at hl3 c0
      clear hnn
      have hwn : IntKind.i64.wrap ((n : Int) - 1) = (n : Int) - 1 := IntWalk.i64_in _ (by omega)
      cases hb : inB 0 ((n : Int) - 1) x
      · have HNO := Lib.hid (show turnsM shop ts = false from turns_out HX.out (by rw [HNN.out]; exact hb))
        go_wp2_with (go_at_call 55; refine (isUpTo_any _ _ _).mono ?_; rintro e w' ⟨rfl, rfl⟩)
        go_ret
        unfold PutAllPost
        rw [HNO.out]
        exact ⟨rfl, HF.out⟩
      · have hxb : 0 ≤ x ∧ x ≤ (n : Int) - 1 := by simpa [inB] using hb
        obtain ⟨j, rfl⟩ : ∃ j : Nat, x = (j : Int) := ⟨x.toNat, by omega⟩
        have hjn : j < shop.length := by have := HNN.out; omega
        have HNX := Lib.hid (nextStep_at HP.out HV.out j hjn)
        have htk : ts.take (k + 1) = (l ++ [j]).map (fun x : Nat => (x : Int)) := by rw [take_get HX.out, HL.out]; simp
        have HTK := Lib.hid htk
        have HJN := Lib.hid hjn
        clear htk hjn
        by_cases hlt : l.count j < slen shop j
        · have hno : nextO (fun j => l.count j) shop j = some (j, l.count j) := if_pos hlt
          rw [hno] at HNX
          have HLT := Lib.hid hlt
          clear hlt hno c0
          have c0 : wr.cell? ⟨D.P, 0, none⟩ = some (.slice (some ⟨D.J, 0, none⟩) n n) := by
            obtain ⟨bg, on, hmm, _⟩ := HP.out.mem
            rw [← HNN.out]; exact hmm.cells.1
          have HNX2 := Lib.hid (fun (w2 : World) (hd : Drew wr w2) => show Calls Try.prog 35 #[.pointer (some ⟨D.P, 0, none⟩), .int .i64 j] w2 (DrewPost w2 (.pointer (some ⟨D.Q j (l.count j), 0, none⟩))) by
            have := nextStep_at (HP.out.drew hd) HV.out j HJN.out
            rw [show nextO (fun j => l.count j) shop j = some (j, l.count j) from if_pos HLT.out] at this
            exact this)
          go_wp2_with (first
            | (go_at_call 55; refine (isUpTo_any _ _ _).mono ?_; rintro e w' ⟨rfl, rfl⟩)
            | (go_at_call 35; (first
                | (refine (HNX2.out w2 hd2).mono ?_; rintro e w3 ⟨rfl, hd3⟩)
                | (refine (HNX2.out wr (Drew.refl _)).mono ?_; rintro e w2 ⟨rfl, hd2⟩))))
          have HP2 := Lib.hid (HP.out.drew hd2)
          have HF2 := Lib.hid (HF.out.drew hd2)
          have HP3 := Lib.hid (HP2.out.drew hd3)
          have HF3 := Lib.hid (HF2.out.drew hd3)
          clear hd2 hd3 c0
          refine (put_any HP3.out HV.out HJN.out HLT.out).mono ?_
          rintro e w4 ⟨rfl, v', hp4, hf4, hsn⟩
          have HP4 := Lib.hid hp4
          have HF4 := Lib.hid (HF3.out.trans hf4 (.inr HN.out))
          have HN4 := Lib.hid (HN.out.next HF3.out.size hsn)
          clear hp4 hf4 hsn
          go_wp2_with fail
          go_roundw
          case rel => exact ⟨k + 1, l ++ [j], v', by omega, by go_num, HTK.out, HP4.out, HF4.out, HN4.out⟩
          case measure => simp [intOf]; omega
        · have hno : nextO (fun j => l.count j) shop j = none := if_neg hlt
          rw [hno] at HNX
          have hcnt : ts.count (j : Int) ≠ slen shop j := by
            have h1 : (ts.take (k + 1)).count (j : Int) = l.count j + 1 := by
              rw [HTK.out, count_cast, count_snoc, if_pos rfl]
            have h2 : (ts.take (k + 1)).count (j : Int) ≤ ts.count (j : Int) := (List.take_sublist _ _).count_le _
            omega
          have HNO := Lib.hid (turns_not HJN.out hcnt)
          clear hno hcnt
          go_wp2_with (first
            | (go_at_call 55; refine (isUpTo_any _ _ _).mono ?_; rintro e w' ⟨rfl, rfl⟩)
            | (go_at_call 35; refine HNX.out.mono ?_; rintro e w2 ⟨rfl, hd2⟩; show _; unfold PD.ptr PD.addr; dsimp only))
          go_ret
          unfold PutAllPost
          rw [HNO.out]
          exact ⟨rfl, HF.out.drew hd2⟩
    · have htk : ts = l.map (fun x : Nat => (x : Int)) := by
        have := HL.out
        rw [List.take_of_length_le (by have := HTL.out; omega)] at this
        exact this
      have HTS := Lib.hid htk
      have HDONE := Lib.hid (isDone_at HP.out HV.out)
      clear hgk hm htk
      cases hd : doneP shop (fun j => l.count j)
      · have HNO := Lib.hid (show turnsM shop ts = false by
          unfold doneP at hd
          rw [List.all_eq_false] at hd
          obtain ⟨j, hj, hne⟩ := hd
          refine turns_not (List.mem_range.1 hj) (fun e => hne ?_)
          rw [HTS.out, count_cast] at e
          exact decide_eq_true (Nat.le_of_eq e.symm))
        rw [hd] at HDONE
        clear hd
        go_wp2_with fail
        refine HDONE.out.mono ?_
        rintro e w2 ⟨rfl, hd2⟩
        have HD2 := Lib.hid hd2
        clear hd2
        go_wp2_with fail
        go_ret
        unfold PutAllPost
        rw [HNO.out]
        exact ⟨rfl, HF.out.drew HD2.out⟩
      · have HTO := Lib.hid (show TurnsOf shop.length (slen shop) l from ⟨HP.out.jobs, fun j hj => by
          unfold doneP at hd
          rw [List.all_eq_true] at hd
          have h1 : slen shop j ≤ l.count j := of_decide_eq_true (hd j (List.mem_range.2 hj))
          have h2 := HP.out.cnt j
          omega⟩)
        have HYES := Lib.hid (show turnsM shop ts = true by rw [HTS.out]; exact list_turns HTO.out)
        rw [hd] at HDONE
        clear hd
        go_wp2_with fail
        refine HDONE.out.mono ?_
        rintro e w2 ⟨rfl, hd2⟩
        have HD2 := Lib.hid hd2
        clear hd2
        go_wp2_with fail
        go_ret
        unfold PutAllPost
        rw [HYES.out]
        exact ⟨rfl, l, v, HTS.out, HTO.out, HP.out.drew HD2.out, HF.out.drew HD2.out⟩
/-- rows of the call's own, and a number -/
def RowsIntO (w : World) (rows : List (List Int)) (n : Int) (e : Ending) (w' : World) : Prop := ∃ (a : Option Addr) (len cap : Nat), e = .returned (.tuple #[.slice a len cap, .int .i64 n]) ∧ RowsO w w' (.slice a len cap) rows
theorem RowsO.later {w w1 w2 : World} {v : Value} {rows : List (List Int)} (h : RowsO w w1 v rows) (hd : Drew w1 w2) : RowsO w w2 v rows := by
  obtain ⟨q, rfl⟩ := hd
  obtain ⟨us, h1, h2, h3, h4⟩ := h
  exact ⟨us, own_drewN h1 q, fun q' u hu => by obtain ⟨a, l, c, r, e1, e2, e3, e4, e5⟩ := h2 q' u hu; exact ⟨a, l, c, r, e1, e2, e3, e4, own_drewN e5 q⟩, h3, h4.trans (Drew.below ⟨q, rfl⟩ _)⟩
theorem RowsO.from {w w1 w2 : World} {v : Value} {rows : List (List Int)} (hb : Below w.heap.size w w1) (h : RowsO w1 w2 v rows) : RowsO w w2 v rows := by
  have hs := hb.size
  obtain ⟨us, h1, h2, h3, h4⟩ := h
  exact ⟨us, own_base h1 hs, fun q' u hu => by obtain ⟨a, l, c, r, e1, e2, e3, e4, e5⟩ := h2 q' u hu; exact ⟨a, l, c, r, e1, e2, e3, e4, own_base e5 hs⟩, h3, hb.trans (h4.mono hs)⟩
theorem rowsO_nil {w w' : World} (hb : Below w.heap.size w w') : RowsO w w' (.slice none 0 0) [] :=
  ⟨[], World.ownsRow_nil _ _ _ _, fun q u h => by simp at h, fun p q u u' _ h => by simp at h, hb⟩
set_option maxRecDepth 100000 in
set_option maxHeartbeats 4000000 in
theorem shopTimes_own (a : Option Addr) (len cap : Nat) (shop : List (List (List Int))) (a2 : Option Addr) (len2 cap2 : Nat) (ts : List Int) (w : World) (h : ShopAt w (· < w.heap.size) a len shop) (g : IntsAt w (· < w.heap.size) a2 len2 ts) (hc : len ≤ cap) :
    Calls Try.prog 10 #[.slice a len cap, .slice a2 len2 cap2] w (RowsIntO w (timesRows shop ts) (timesN shop ts)) := by
  go_enter Try.func10, Try.ntmps10
  go_wp2_with fail
  refine (planOf_any a len cap shop w h hc).mono ?_
  intro e w1 hp
  unfold PlanOfPost at hp
  cases hv : shopM shop
  · rw [hv] at hp
    obtain ⟨rfl, hd⟩ := hp
    go_wp2_with fail
    go_ret2
    unfold timesRows timesN
    rw [hv]
    exact ⟨none, 0, 0, rfl, rowsO_nil (hd.below _)⟩
  · rw [hv, if_pos rfl] at hp
    obtain ⟨D, rfl, hpl, hB, hb1⟩ := hp
    have HCALL := Lib.hid (putAll_any hpl hv a2 len2 cap2 ts (g.to (fun b hb => ⟨by omega, hb1.block b hb⟩)))
    have HV := Lib.hid hv
    have HB := Lib.hid hB
    have HB1 := Lib.hid hb1
    clear hv hpl hB hb1 h g hc
    cases ht : turnsM shop ts
    · have HTT := Lib.hid ht
      clear ht
      go_wp2_with (go_at_call 30; refine HCALL.out.mono ?_; intro e w2 hp2; unfold PutAllPost at hp2; rw [HTT.out] at hp2; obtain ⟨rfl, hf2⟩ := hp2)
      go_ret2
      unfold timesRows timesN
      rw [HV.out, HTT.out]
      have hs := HB1.out.size
      exact ⟨none, 0, 0, rfl, rowsO_nil (HB1.out.trans (hf2.below HB.out hs (fun b e => by simp [Value.ownBlock] at e)))⟩
    · have HTT := Lib.hid ht
      clear ht
      go_wp2_with (go_at_call 30; refine HCALL.out.mono ?_; intro e w2 hp2; unfold PutAllPost at hp2; rw [HTT.out, if_pos rfl] at hp2; obtain ⟨rfl, l, v, hts, hto, hpl2, hf2⟩ := hp2; have HTS := Lib.hid hts; have HTO := Lib.hid hto; have HP2 := Lib.hid hpl2; have HF2 := Lib.hid hf2; clear hts hto hpl2 hf2)
      refine (begins_any HP2.out HV.out HTO.out.2).mono ?_
      rintro e w3 ⟨V, rfl, ⟨aV, lV, cV, rfl⟩, ho⟩
      have HO := Lib.hid ho
      have HP3 : Hid (PlanAt w3 D shop v l) := Lib.hid (by
        obtain ⟨us, _, _, _, hb⟩ := ho
        obtain ⟨bg, on, h1, h2, h3⟩ := HP2.out.mem
        have ht := HP2.out.top
        have hs := hb.size
        exact ⟨⟨bg, on, h1.to (fun b _ hb2 => hb.block b (by omega)), h2, h3⟩, own_later HP2.out.own hb, by omega, HP2.out.jobs, HP2.out.cnt⟩)
      clear ho
      go_wp2_with fail
      refine (planEnd_any HP3.out HV.out).mono ?_
      rintro e w4 ⟨rfl, hd4⟩
      have HD4 := Lib.hid hd4
      clear hd4
      go_wp2_with fail
      go_ret2
      unfold timesRows timesN runOf
      rw [HV.out, HTT.out, HTS.out, toNat_cast]
      have hs := HB1.out.size
      have hbel : Below w.heap.size w w2 := HB1.out.trans (HF2.out.below HB.out hs (fun b e => by simp [Value.ownBlock] at e))
      exact ⟨aV, lV, cV, rfl, (HO.out.from hbel).later HD4.out⟩
theorem timesRows_len (shop : List (List (List Int))) (ts : List Int) : (timesRows shop ts).length ≤ 3 := by
  unfold timesRows
  cases hv : shopM shop
  · simp
  · split
    · rw [rowsS_len]; exact (shop_get hv).1
    · simp
theorem RowsO.at' {w w' : World} {a : Option Addr} {len cap : Nat} {rows : List (List Int)} (h : RowsO w w' (.slice a len cap) rows) (hl : rows.length ≤ 1048576) :
    len = rows.length ∧ len ≤ cap ∧ RowsAt w' (fun b => w.heap.size ≤ b ∧ b < w'.heap.size) a len rows := by
  obtain ⟨us, h1, h2, _, _⟩ := h
  obtain ⟨a', c', e, hc⟩ := own_slice h1
  simp only [Value.slice.injEq] at e
  obtain ⟨rfl, rfl, rfl⟩ := e
  exact ⟨rfl, hc, OwnRowsW.rows (B0 := w.heap.size) (B1 := w.heap.size) ⟨us, h1, rfl, h2⟩ hl (Nat.le_refl _)⟩
theorem shopTimes_impl (a : Option Addr) (len cap : Nat) (shop : List (List (List Int))) (a2 : Option Addr) (len2 cap2 : Nat) (ts : List Int) (w : World) (h : ShopAt w (· < w.heap.size) a len shop) (g : IntsAt w (· < w.heap.size) a2 len2 ts) (hc : len ≤ cap) (_hc2 : len2 ≤ cap2) :
    Calls Try.prog 10 #[.slice a len cap, .slice a2 len2 cap2] w (RowsInt w (timesRows shop ts) (timesN shop ts)) := by
  refine (shopTimes_own a len cap shop a2 len2 cap2 ts w h g hc).mono ?_
  rintro e w' ⟨a3, l3, c3, rfl, ho⟩
  have hl := timesRows_len shop ts
  obtain ⟨_, h2, h3⟩ := ho.at' (by omega)
  obtain ⟨us, _, _, _, hb⟩ := ho
  exact ⟨a3, l3, c3, rfl, h3, h2, hb⟩
end Go.Proofs.Ythmlgicjedhgfac
namespace Go.Proofs.Ythmlgicjedhgfac
open Go.RowKit Go.WideShapes

theorem own_back {w : World} {B e n cp : Nat} {v : Value} {xs : List Value} {x : Value} (h : w.ownsRow B e 1 v (n + 1) (xs ++ [x])) (hv : ∃ ax, v = .slice ax (n + 1) cp) :
    ∃ g, v = .slice (some ⟨g, 0, none⟩) (n + 1) cp ∧ n + 1 ≤ cp ∧ w.ownsRow B e 1 (.slice (some ⟨g, 0, none⟩) n cp) n xs := by
  obtain ⟨ax, rfl⟩ := hv
  obtain ⟨h1, h2 | ⟨g, cap, cur, e1, h2, h3, h4, h5, h6, h7⟩⟩ := h
  · exact absurd h2.2 (by omega)
  · simp only [Value.slice.injEq, true_and] at e1
    obtain ⟨rfl, rfl⟩ := e1
    refine ⟨g, rfl, h4, by simp at h1 ⊢; exact h1, .inr ⟨g, cp, cur, rfl, h2, h3, by omega, h5, h6, ?_⟩⟩
    simp only [Nat.mul_one] at h7 ⊢
    have := congrArg (List.take n) h7
    rw [List.take_take] at this
    simp at h1
    rw [show min n (n + 1) = n by omega] at this
    have e : List.take n (xs ++ [x]) = xs := by rw [List.take_append_of_le_length (by omega)]; exact List.take_of_length_le (by omega)
    exact this.trans e
def BackPost (w : World) (D : PD) (shop : List (List (List Int))) (v : Value) (l : List Nat) (e : Ending) (w' : World) : Prop :=
  e = .returned (.tuple #[]) ∧ ∃ v', PlanAt w' D shop v' l ∧ PFr D v w w' ∧ v'.ownBlock = v.ownBlock
set_option maxRecDepth 100000 in
set_option maxHeartbeats 2000000 in
theorem putBack_any {w : World} {D : PD} {shop : List (List (List Int))} {v : Value} {l : List Nat} {j : Nat} (h : PlanAt w D shop v (l ++ [j])) (hv : shopM shop = true) (u : FrameMode) :
    CallsD Try.prog 65 #[.pointer (some ⟨D.P, 0, none⟩), D.ptr (some (j, l.count j))] u w fun e u' w' => u' = u ∧ BackPost w D shop v l e w' := by
  have HL9 := Lib.hid (h.len hv)
  obtain ⟨⟨bg, on, hm, hbg, hon⟩, hown, htop, hjobs, hcnt⟩ := h
  have hj := hjobs j (by simp)
  have hk : l.count j < slen shop j := by have := hcnt j; rw [count_snoc, if_pos rfl] at this; omega
  have hM := smach_lt hv j (l.count j)
  have hl3 := (shop_get hv).1
  obtain ⟨hon1, hon2⟩ := onOk_back hon
  have HBG := Lib.hid (bgOk_back hbg)
  have HON := Lib.hid hon1
  have HTOP := Lib.hid htop
  have HJOBS := Lib.hid (show ∀ x ∈ l, x < shop.length from fun x hx => hjobs x (by simp [hx]))
  have HCNT := Lib.hid (show ∀ i, l.count i ≤ slen shop i from fun i => by have := hcnt i; rw [count_snoc] at this; split at this <;> omega)
  have HFR0 := Lib.hid (PFr.refl D v w)
  obtain ⟨ax, cp, rfl, hcp⟩ := own_slice hown
  have hown' : w.ownsRow D.top 3 1 (.slice ax (l.length + 1) cp) (l.length + 1) ((l.map (fun x : Nat => (x : Int))).map (.int .i64) ++ [.int .i64 (j : Int)]) := by
    unfold TurnsOwn at hown; simpa using hown
  rw [show (l ++ [j]).length = l.length + 1 by simp] at *
  obtain ⟨g, e1, hcp, ho⟩ := own_back hown' ⟨ax, rfl⟩
  simp only [Value.slice.injEq, and_true] at e1
  subst e1
  have HOWN := Lib.hid (show TurnsOwn w D (.slice (some ⟨g, 0, none⟩) l.length cp) l from ho)
  clear hbg hon hon1 hown hown' htop hjobs hcnt ho
  obtain ⟨k, hkk⟩ : ∃ k, l.count j = k := ⟨_, rfl⟩
  obtain ⟨M, hMM⟩ : ∃ M, smach shop j k = M := ⟨_, rfl⟩
  obtain ⟨u1, hu⟩ : ∃ u, D.addr (lastL (smach shop) l M) = u := ⟨_, rfl⟩
  obtain ⟨q, hq⟩ : ∃ q, D.Q j k = q := ⟨_, rfl⟩
  obtain ⟨P, hP⟩ : ∃ P, D.P = P := ⟨_, rfl⟩
  obtain ⟨X, hX⟩ : ∃ X, D.X = X := ⟨_, rfl⟩
  obtain ⟨n, hn⟩ : ∃ n, shop.length = n := ⟨_, rfl⟩
  obtain ⟨n1, hn1⟩ : ∃ n, l.length = n := ⟨_, rfl⟩
  rw [hkk] at hk hM hon2
  rw [hMM] at hM hon2
  have p5 := hm.cells.2.2.2.2.2
  have fP := hm.frozen.1
  have HPR := Lib.hid (show D.B ≤ P ∧ P < D.top by rw [← hP]; exact hm.ok.p)
  have HXR := Lib.hid (show D.B ≤ X ∧ X < D.top by rw [← hX]; exact hm.ok.x)
  have HM0 := Lib.hid hm
  have HLN := Lib.hid (HL9.out)
  clear hm
  rw [hP, hn1] at p5
  rw [hP] at fP
  show CallsD Try.prog 65 #[.pointer (some ⟨D.P, 0, none⟩), .pointer (some ⟨D.Q j (l.count j), 0, none⟩)] u w _
  rw [hkk, hq, hP]
  have hcp2 : n1 + 1 ≤ cp := by omega
  have hn9 : n1 ≤ 9 := by have := HLN.out; simp at this; omega
  have hjn2 : (j : Int) < (n : Int) := by omega
  have hjn : j < n := by omega
  have hM2 : (M : Int) < 3 := by omega
  have hwn : IntKind.i64.wrap (n1 : Int) = (n1 : Int) := IntWalk.i64_in _ (by omega)
  have hk3 : k < 3 := by have := slen_le hv j; omega
  have hwk : IntKind.i64.wrap (k : Int) = (k : Int) := IntWalk.i64_in _ (by omega)
  have hcp0 : ¬ cp = 0 := by omega
  have hcp3 : n1 ≤ cp := by omega
  have hcp4 : (n1 : Int) ≤ (cp : Int) := by omega
  have HKK := Lib.hid hkk
  have HMM := Lib.hid hMM
  have HU := Lib.hid hu
  have HQ := Lib.hid hq
  have HP := Lib.hid hP
  have HX := Lib.hid hX
  have HN := Lib.hid hn
  have HN1 := Lib.hid hn1
  have HON2 := Lib.hid hon2
  clear hkk hMM hu hq hP hX hn hn1 hon2 hcp
  go_enter_d Try.func65, Try.ntmps65
  go_wp2_with fail
  go_still_tail 14, (by kernel_rfl)
  go_wp2_with fail
  obtain ⟨V, hV⟩ : ∃ V, Value.slice (some ⟨g, 0, none⟩) n1 cp = V := ⟨_, rfl⟩
  have HVV := Lib.hid hV
  have hm1 : PlanW (w.setCell ⟨P, 5, none⟩ V).drew D shop (fun i => (l ++ [j]).count i) (lastL (smach shop) (l ++ [j])) V bg on := by
    have := (HM0.out.setTurns V).drewN 1
    rw [HP.out] at this
    exact this
  have ho0 : TurnsOwn w D V l := by rw [← HVV.out, ← HN1.out]; exact HOWN.out
  have hf1 : PFr D (.slice (some ⟨g, 0, none⟩) (l.length + 1) cp) w (w.setCell ⟨P, 5, none⟩ V).drew := (HFR0.out.set (i := 5) V HPR.out).drew ⟨1, rfl⟩
  have ho1 : TurnsOwn (w.setCell ⟨P, 5, none⟩ V).drew D V l := (ho0.set 5 V HPR.out.2).drewN 1
  rw [hV]
  obtain ⟨w1, hw1⟩ : ∃ w1, (w.setCell ⟨P, 5, none⟩ V).drew = w1 := ⟨_, rfl⟩
  rw [hw1] at hm1 hf1 ho1 ⊢
  clear hw1 ho0 p5 fP HM0 HFR0 HOWN hV
  obtain ⟨c0, _, _, _, _, _⟩ := hm1.stepCells hj hk
  obtain ⟨_, p1, _, _, _, _⟩ := hm1.cells
  have cx := hm1.nextCell hj
  have fX := hm1.frozen.2.1
  rw [HQ.out] at c0
  rw [HP.out] at p1
  simp only [count_snoc, if_true, HKK.out] at cx
  rw [HX.out] at cx fX
  rw [HX.out, HN.out] at p1
  have HM1 := Lib.hid hm1
  have HF1 := Lib.hid hf1
  have HO1 := Lib.hid ho1
  clear hm1 hf1 ho1
  go_still_tail 12, (by kernel_rfl)
  go_wp2_with fail
  have hm2 : PlanW (w1.setCell ⟨X, j, none⟩ (.int .i64 (k : Int))).drew D shop (fun i => l.count i) (lastL (smach shop) (l ++ [j])) V bg on := by
    have := (HM1.out.setNext j k).drewN 1
    rw [HX.out] at this
    have e : setN (fun i => (l ++ [j]).count i) j k = fun i => l.count i := by
      funext i
      by_cases e : i = j
      · subst e; rw [setN_at, HKK.out]
      · rw [setN_ne _ _ e, count_snoc, if_neg e]
    rw [e] at this
    exact this
  have hf2 := (HF1.out.set (i := j) (.int .i64 (k : Int)) HXR.out).drew (w2 := (w1.setCell ⟨X, j, none⟩ (.int .i64 (k : Int))).drew) ⟨1, rfl⟩
  have ho2 : TurnsOwn (w1.setCell ⟨X, j, none⟩ (.int .i64 (k : Int))).drew D V l := (HO1.out.set j (.int .i64 (k : Int)) HXR.out.2).drewN 1
  obtain ⟨w2, hw2⟩ : ∃ w2, (w1.setCell ⟨X, j, none⟩ (.int .i64 (k : Int))).drew = w2 := ⟨_, rfl⟩
  rw [hw2] at hm2 hf2 ho2 ⊢
  clear hw2 c0 p1 cx fX HM1 HF1 HO1
  obtain ⟨_, c1, _, _, _, c5⟩ := hm2.stepCells hj hk
  have cm := hm2.lastCell hM
  have fP := hm2.frozen.1
  unfold PD.ptr at cm c5
  rw [HQ.out] at c1 c5
  rw [HMM.out] at c1
  rw [HON2.out, HU.out] at c5
  rw [HP.out] at cm fP
  obtain ⟨u2, hu2⟩ : ∃ u2, D.addr (lastL (smach shop) (l ++ [j]) M) = u2 := ⟨_, rfl⟩
  rw [hu2] at cm
  have HM2 := Lib.hid hm2
  have HF2 := Lib.hid hf2
  have HO2 := Lib.hid ho2
  clear hm2 hf2 ho2 hu2
  go_still_tail 12, (by kernel_rfl)
  go_wp2_with fail
  have hm3 : PlanW (w2.setCell ⟨P, 2 + M, none⟩ (.pointer u1)).drew D shop (fun i => l.count i) (lastL (smach shop) l) V bg on := by
    have := (HM2.out.setLast hM (lastL (smach shop) l M)).drewN 1
    have e := last_back (smach shop) l j
    rw [HKK.out, HMM.out] at e
    rw [e] at this
    unfold PD.ptr at this
    rw [HU.out, HP.out] at this
    exact this
  have HM3 := Lib.hid hm3
  clear hm3 c1 c5 cm fP
  go_end0
  refine ⟨rfl, V, ⟨⟨bg, on, HM3.out, HBG.out, HON.out⟩, (HO2.out.set (2 + M) (.pointer u1) HPR.out.2).drewN 1, ?_, HJOBS.out, HCNT.out⟩, (HF2.out.set (i := 2 + M) (.pointer u1) HPR.out).drew ⟨1, rfl⟩, by rw [← HVV.out]; rfl⟩
  have h1 := HF2.out.size
  have h2 := HTOP.out
  show D.top ≤ (w2.setCell _ _).heap.size
  rw [World.size_setCell]; omega
end Go.Proofs.Ythmlgicjedhgfac
