import Derived.Test.YthmlgicjedhgfacRows
import Derived.WalkKit
import Derived.LoopTactic
import Derived.Outline
import Derived.WalkSpells
import Derived.WalkLawsBesides
import Derived.ProofKit
import Derived.Lib.Hide
import Derived.IntWalk
import Derived.Deep.QuietTactic
import Derived.BigQuiet
import Derived.StillTailTactics
import Derived.Shelf.RegionOpenPlain
import Derived.Test.YthmlgicjedhgfacM0
import Derived.Test.YthmlgicjedhgfacM1
import Derived.Test.YthmlgicjedhgfacM2
import Derived.Test.YthmlgicjedhgfacM6
import Derived.Test.YthmlgicjedhgfacM9
import Derived.Deep.AppendLies
import Derived.Test.YthmlgicjedhgfacM11
import Derived.Test.YthmlgicjedhgfacM8
import Derived.RegionTactic
import Derived.BigRegion
import Derived.Test.YthmlgicjedhgfacM7
namespace Go.Proofs.Ythmlgicjedhgfac
open Go.RowKit Go.WideShapes

def nat7 (h : List Nat) : List Int := h.map (fun x : Nat => (x : Int))
/-- turns, and a number -/
def TurnsInt (B : Nat) (w : World) (t : List Nat) (v : Int) (e : Ending) (w' : World) : Prop := ∃ (a : Option Addr) (len cap : Nat), e = .returned (.tuple #[.slice a len cap, .int .i64 v]) ∧ IntsAt w' (fun b => B ≤ b ∧ b < w'.heap.size) a len (nat7 t) ∧ len ≤ cap ∧ Below w.heap.size w w'
def valB (shop : List (List (List Int))) (l : List Nat) : Int := (runS (smach shop) (stime shop) shop0 l).all
def doneB (left : Nat → Nat) (j : Nat) : Bool := decide (∀ i, i < j → left i = 0)
theorem doneB_skip {left : Nat → Nat} {j : Nat} (h : left j = 0) : doneB left (j + 1) = doneB left j := by
  unfold doneB
  rw [Bool.eq_iff_iff]; simp only [decide_eq_true_eq]
  refine ⟨fun g i hi => g i (by omega), fun g i hi => ?_⟩
  rcases Nat.lt_or_eq_of_le (Nat.le_of_lt_succ hi) with h1 | rfl
  · exact g i h1
  · exact h
theorem doneB_not {left : Nat → Nat} {j n : Nat} (h : left j ≠ 0) (hj : j < n) : doneB left n = false := decide_eq_false fun g => h (g j hj)
set_option maxRecDepth 100000 in
set_option maxHeartbeats 4000000 in
theorem bestTurns_rec (a : Option Addr) (len cap : Nat) (shop : List (List (List Int))) (hv : shopM shop = true) (B : Nat) : ∀ (f : Nat) (h : List Nat) (lh b2 cap2 : Nat) (left : Nat → Nat) (aL : Option Addr) (capL : Nat) (w : World),
    h.length = lh → sumLeft left len = f → (∀ x ∈ h, x < len) → (∀ j, j < len → h.count j + left j ≤ slen shop j) → lh + f ≤ 9 → lh ≤ cap2 → B ≤ w.heap.size → ShopAt w (· < w.heap.size) a len shop →
    IntsAt w (fun b => B ≤ b ∧ b < w.heap.size) (some ⟨b2, 0, none⟩) lh (nat7 h) → IntsAt w (· < w.heap.size) aL len (tab (fun q => (left q : Int)) len) →
    Calls Try.prog 28 #[.slice a len cap, .slice (some ⟨b2, 0, none⟩) lh cap2, .slice aL len capL] w (TurnsInt B w (bestFS (valB shop) len f h left).1 (bestFS (valB shop) len f h left).2) := by
  intro f
  induction f with
  | zero =>
    intro h lh b2 cap2 left aL capL w hlh hf hh hcn hl9 hcap hB0 hs hx hl
    have hz := sumLeft_zero len hf
    have HL := Lib.hid hs.lenEq
    have hl3 : len ≤ 3 := by have := (shop_get hv).1; have := HL.out; omega
    have HH := Lib.hid (show ∀ w', Below w.heap.size w w' → ShopAt w' (· < w'.heap.size) a len shop ∧ IntsAt w' (· < w'.heap.size) (some ⟨b2, 0, none⟩) lh (nat7 h) ∧ IntsAt w' (fun b => B ≤ b ∧ b < w'.heap.size) (some ⟨b2, 0, none⟩) lh (nat7 h) ∧ IntsAt w' (· < w'.heap.size) aL len (tab (fun q => (left q : Int)) len) from fun w' hb => by
      have hsz := hb.size
      refine ⟨(hs.below hb).to (fun b hb' => ⟨by omega, rfl⟩), hx.to (fun b hb' => ⟨by omega, hb.block b hb'.2⟩), hx.to (fun b hb' => ⟨⟨hb'.1, by omega⟩, hb.block b hb'.2⟩), (hl.below hb).to (fun b hb' => ⟨by omega, rfl⟩)⟩)
    have HV := Lib.hid hv
    have HHX := Lib.hid hh
    have HCN := Lib.hid hcn
    clear hs hx hl hv hh hcn
    go_enter Try.func28, Try.ntmps28
    go_wp2_with fail
    go_loopw [10, 11] (fun dv jv wr => ∃ j : Nat, j ≤ len ∧ jv = .int .i64 j ∧ dv = .bool true ∧ Below w.heap.size w wr) (fun _ jv _ => len - (intOf jv).toNat)
    case atStart => exact ⟨0, Nat.zero_le _, rfl, rfl, (Below.refl _ w).alloc (Nat.le_refl _) _⟩
    case round =>
      obtain ⟨j, hj, rfl, rfl, hb⟩ := hrel
      obtain ⟨wo, rfl⟩ : ∃ wo : World, wo = wr := ⟨_, rfl⟩
      have HB := Lib.hid hb
      clear hb
      by_cases hlt : j < len
      · obtain ⟨bl, ol, xl, rfl, hxl, d1⟩ := (HH.out wo HB.out).2.2.2.get hlt
        rw [tab_at _ hlt, hz j hlt] at hxl
        cases hxl
        go_wp2_with fail
        go_roundw
        case rel => exact ⟨j + 1, by omega, by go_num, rfl, HB.out⟩
        case measure => simp [intOf]; omega
      · obtain rfl : j = len := by omega
        go_wp2_with fail
        refine (begun_any a j cap shop (some ⟨b2, 0, none⟩) lh cap2 h wo (HH.out wo HB.out).1 (HH.out wo HB.out).2.1 HV.out HHX.out (fun i => by
          by_cases hi : i < j
          · have := HCN.out i hi; omega
          · rw [List.count_eq_zero.2 (fun hm => hi (HHX.out i hm))]; exact Nat.zero_le _) (by omega)).mono ?_
        rintro e w2 ⟨a3, l3, c3, rfl, _, _, hb3⟩
        have HB2 := Lib.hid (HB.out.trans (hb3.mono HB.out.size))
        clear hb3
        go_wp2_with fail
        go_ret2
        exact ⟨_, _, _, rfl, (HH.out w2 HB2.out).2.2.1, hcap, HB2.out⟩
  | succ f ih =>
    intro h lh b2 cap2 left aL capL w hlh hf hh hcn hl9 hcap hB0 hs hx hl
    obtain ⟨j0, hj0, hj1⟩ := sumLeft_pos len (by omega : sumLeft left len ≠ 0)
    have HDN := Lib.hid (doneB_not hj1 hj0)
    have HL := Lib.hid hs.lenEq
    have hl3 : len ≤ 3 := by have := (shop_get hv).1; have := HL.out; omega
    have HH := Lib.hid (show ∀ w', Below w.heap.size w w' → ShopAt w' (· < w'.heap.size) a len shop ∧ IntsAt w' (· < w'.heap.size) (some ⟨b2, 0, none⟩) lh (nat7 h) ∧ IntsAt w' (· < w'.heap.size) aL len (tab (fun q => (left q : Int)) len) from fun w' hb => by
      have hsz := hb.size
      refine ⟨(hs.below hb).to (fun b hb' => ⟨by omega, rfl⟩), hx.to (fun b hb' => ⟨by omega, hb.block b hb'.2⟩), (hl.below hb).to (fun b hb' => ⟨by omega, rfl⟩)⟩)
    have HV := Lib.hid hv
    have HHX := Lib.hid hh
    have HCN := Lib.hid hcn
    have HLH := Lib.hid hlh
    have HF := Lib.hid hf
    have IH := Lib.hid ih
    clear hs hx hl hv hh hcn ih hlh hf hj0 hj1
    rw [show bestFS (valB shop) len (f + 1) h left = scanB left (fun j => bestFS (valB shop) len f (h ++ [j]) (setN left j (left j - 1))) len from rfl]
    obtain ⟨g, hg⟩ : ∃ g, (fun j => bestFS (valB shop) len f (h ++ [j]) (setN left j (left j - 1))) = g := ⟨_, rfl⟩
    have HG := Lib.hid (fun j => congrFun hg.symm j)
    rw [hg]
    clear hg
    go_enter Try.func28, Try.ntmps28
    go_wp2_with fail
    go_loopw [8, 9, 10, 11] (fun bv lv dv jv wr => ∃ (j : Nat) (ab : Option Addr) (lb cb : Nat), j ≤ len ∧ jv = .int .i64 j ∧ dv = .bool (doneB left j) ∧ lv = .int .i64 (scanB left g j).2 ∧ bv = .slice ab lb cb ∧ IntsAt wr (fun b => B ≤ b ∧ b < wr.heap.size) ab lb (nat7 (scanB left g j).1) ∧ lb ≤ cb ∧ Below w.heap.size w wr) (fun _ _ _ jv _ => len - (intOf jv).toNat)
    case atStart => exact ⟨0, some ⟨w.heap.size, 0, none⟩, 0, 0, Nat.zero_le _, rfl, by unfold doneB; simp, rfl, rfl, ⟨rfl, Nat.zero_le _, fun h => absurd h (by omega)⟩, Nat.le_refl _, (Below.refl _ w).alloc (Nat.le_refl _) _⟩
    case round =>
      obtain ⟨j, ab, lb, cb, hj, rfl, rfl, rfl, rfl, hbi, hbc, hb⟩ := hrel
      obtain ⟨wo, rfl⟩ : ∃ wo : World, wo = wr := ⟨_, rfl⟩
      have HB := Lib.hid hb
      have HBI := Lib.hid hbi
      clear hb hbi
      by_cases hlt : j < len
      · obtain ⟨bl, ol, xl, rfl, hxl, d1⟩ := (HH.out wo HB.out).2.2.get hlt
        rw [tab_at _ hlt] at hxl
        cases hxl
        have HSC : Hid (scanB left g (j + 1) = if left j = 0 then scanB left g j else if (scanB left g j).2 < 0 ∨ (g j).2 < (scanB left g j).2 then g j else scanB left g j) := Lib.hid rfl
        by_cases h0 : left j = 0
        · have HSK := Lib.hid (doneB_skip h0)
          have HS := Lib.hid (HSC.out.trans (if_pos h0))
          have hI0 : (((left j : Nat) : Int) == 0) = true := by simp; omega
          clear h0
          go_wp2_with fail
          go_roundw
          case rel => exact ⟨j + 1, ab, lb, cb, by omega, by go_num, by rw [HSK.out], by rw [HS.out], rfl, by rw [HS.out]; exact HBI.out, hbc, HB.out⟩
          case measure => simp [intOf]; omega
        · have HDJ := Lib.hid (doneB_not h0 (Nat.lt_succ_self j))
          have HS := Lib.hid (HSC.out.trans (if_neg h0))
          have H0 := Lib.hid h0
          have hI0 : (((left j : Nat) : Int) == 0) = false := by simp; omega
          have hlj := HCN.out j hlt
          have hsj := slen_le HV.out j
          have hljI : 1 ≤ ((left j : Nat) : Int) ∧ ((left j : Nat) : Int) ≤ 3 := by omega
          clear h0 HSC
          have hl6 := (HH.out wo HB.out).2.2
          have HL6 := Lib.hid (hl6.below ((Below.refl _ _).alloc (Nat.le_refl _) (.cells #[] 3)))
          clear hl6
          go_wp2_with (at_builtin; refine wpAppAny rfl _ _ rfl wo.heap.size 0 _ _ [] (· < wo.heap.size) (some ⟨bl, ol, none⟩) len capL _ rfl (World.ownsRow_made wo #[] 0 (Nat.le_refl _) (Nat.zero_le _) rfl) rfl HL6.out (by simp) (by omega) ?_)
          intro a6 c6 w6 own6 hc6 gr6
          have B6 : Hid (Below wo.heap.size wo w6) := Lib.hid (((Below.refl _ _).alloc (Nat.le_refl _) _).grown gr6 (by simp) (by intro k e; simp [Value.ownBlock] at e; omega))
          have own6 : w6.ownsRow wo.heap.size 3 1 (.slice a6 len c6) len ((tab (fun q => (left q : Int)) len).map (.int .i64)) := by simpa using own6
          have hc6 : len ≤ c6 := by simpa using hc6
          obtain ⟨g6, c6', hv6, hb6, hl6⟩ := World.ownsRow.form own6 (by omega)
          injection hv6 with e6 _ e6'
          subst e6 e6'
          have e1 : w6.cell? ⟨g6, j, none⟩ = some (.int .i64 ((left j : Nat) : Int)) := by
            rw [own6.cellAt j (by simpa [tab_length] using hlt), List.getElem?_map, tab_at _ hlt]; rfl
          have e2 := own6.frozenAt j
          obtain ⟨st6, gs6⟩ := own6.stored j (.int .i64 ((left j : Nat) - 1 : Int))
          rw [← List.map_set, tab_set] at st6
          have HO6 := Lib.hid st6
          have BS : Hid (Below wo.heap.size wo (w6.setCell ⟨g6, j, none⟩ (.int .i64 ((left j : Nat) - 1 : Int)))) := Lib.hid (B6.out.setCell hb6 _)
          clear own6 gr6 st6 gs6
          try simp only [Nat.zero_add]
          obtain ⟨ws, hws⟩ : ∃ ws, w6.setCell ⟨g6, j, none⟩ (.int .i64 ((left j : Nat) - 1 : Int)) = ws := ⟨_, rfl⟩
          rw [hws] at HO6 BS
          have HB7 := Lib.hid (HB.out.trans (BS.out.mono HB.out.size))
          have hx6 := (HH.out ws HB7.out).2.1
          have HX6 := Lib.hid (hx6.below ((Below.refl _ _).alloc (Nat.le_refl _) (.cells #[] 3)))
          clear hx6
          have HWS := Lib.hid hws
          have hsz6 : ws.heap.size = w6.heap.size := by rw [← hws]; simp [World.setCell]
          have HMD : Hid ((ws.alloc (.cells #[] 3)).ownsRow ws.heap.size 3 1 (.slice (some ⟨w6.heap.size, 0, none⟩) 0 0) 0 (([] : List Int).map (.int .i64))) := Lib.hid (by rw [← hsz6]; exact World.ownsRow_made ws #[] 0 (Nat.le_refl _) (Nat.zero_le _) rfl)
          have HSZ6 := Lib.hid hsz6
          clear hws hsz6
          go_wp2_with (at_builtin; rw [HWS.out]; refine wpAppN rfl _ _ rfl ws.heap.size 0 0 (some ⟨w6.heap.size, 0, none⟩) [] (· < ws.heap.size) b2 0 lh cap2 (nat7 h) rfl HMD.out rfl HX6.out (by simp) (by omega) ?_)
          intro a8 c8 w8 own8 hc8 gr8
          have B8 : Hid (Below ws.heap.size ws w8) := Lib.hid (((Below.refl _ _).alloc (Nat.le_refl _) _).grown gr8 (by simp) (by intro k e; have := HSZ6.out; simp [Value.ownBlock] at e; omega))
          have HO8 : Hid (w8.ownsRow ws.heap.size 3 1 (.slice a8 lh c8) lh ((nat7 h).map (.int .i64))) := Lib.hid (by simpa using own8)
          clear own8 gr8 hc8
          try rw [Nat.zero_add]
          go_wp2_with (at_builtin; refine wpApp1 rfl _ _ rfl ws.heap.size lh c8 a8 (nat7 h) j rfl HO8.out rfl B8.out.size (by omega) ?_)
          intro a9 c9 w9 own9 hc9 gr9
          have B9 : Hid (Below ws.heap.size ws w9) := Lib.hid (B8.out.grown gr9 B8.out.size (own_block HO8.out))
          obtain ⟨g9, c9', hv9, hb9, hl9'⟩ := World.ownsRow.form own9 (by omega)
          injection hv9 with e9 _ e9'
          subst e9 e9'
          have HX9 : Hid (IntsAt w9 (fun b => B ≤ b ∧ b < w9.heap.size) (some ⟨g9, 0, none⟩) (lh + 1) (nat7 (h ++ [j]))) := Lib.hid (by
            have h7 : w9.ownsRow ws.heap.size 3 1 (.slice (some ⟨g9, 0, none⟩) (lh + 1) c9) (lh + 1) ((nat7 (h ++ [j])).map (.int .i64)) := by simpa [nat7] using own9
            obtain ⟨a', c', e', _, h'⟩ := own_ints h7 (by omega)
            injection e' with e1 _ _
            subst e1
            have := HB7.out.size
            exact h'.to fun b hb => ⟨⟨by omega, hb.2⟩, rfl⟩)
          have HB9 := Lib.hid (HB7.out.trans (B9.out.mono HB7.out.size))
          have HR9 : Hid (IntsAt w9 (· < w9.heap.size) (some ⟨g6, 0, none⟩) len (tab (fun q => ((setN left j (left j - 1) q : Nat) : Int)) len)) := Lib.hid (by
            obtain ⟨a', c', e', _, h'⟩ := own_ints HO6.out (by omega)
            injection e' with e1 _ _
            subst e1
            have e3 : tab (fun q => if q = j then ((left j : Nat) : Int) - 1 else (left q : Int)) len = tab (fun q => ((setN left j (left j - 1) q : Nat) : Int)) len := tab_cong fun q _ => by
              unfold setN; split
              · omega
              · rfl
            rw [e3] at h'
            have := B9.out.size
            exact h'.to fun b hb => ⟨by omega, B9.out.block b hb.2⟩)
          have hh9 : Hid (∀ x ∈ h ++ [j], x < len) := Lib.hid (fun x hx => by
            rcases List.mem_append.1 hx with hx | hx
            · exact HHX.out x hx
            · simp only [List.mem_singleton] at hx; omega)
          have HL9 : Hid ((h ++ [j]).length = lh + 1) := Lib.hid (by rw [List.length_append, HLH.out]; rfl)
          have HS9 : Hid (sumLeft (setN left j (left j - 1)) len = f) := Lib.hid (by have := sumLeft_set H0.out len hlt; have := HF.out; omega)
          have HC9 : Hid (∀ i, i < len → (h ++ [j]).count i + setN left j (left j - 1) i ≤ slen shop i) := Lib.hid (fun i hi => by
            have := HCN.out i hi
            rw [List.count_append]
            by_cases e : i = j
            · subst e; rw [setN_at, List.count_singleton_self]; omega
            · rw [setN_ne _ _ e, List.count_singleton, if_neg (by simp; exact fun h => e h.symm)]; exact this)
          have hs9 := HB9.out.size
          clear own9 gr9 hb9 hl9' e1 e2
          go_wp2_with fail
          refine (IH.out (h ++ [j]) (lh + 1) g9 c9 (setN left j (left j - 1)) (some ⟨g6, 0, none⟩) c6 w9 HL9.out HS9.out hh9.out HC9.out (by omega) hc9 (by omega) (HH.out w9 HB9.out).1 HX9.out HR9.out).mono ?_
          rw [← HG.out j]
          rintro e w10 ⟨aT, lT, cT, rfl, hT, hTc, hb10⟩
          have HB10 := Lib.hid (HB9.out.trans (hb10.mono HB9.out.size))
          have HT := Lib.hid hT
          have HBI10 := Lib.hid (show IntsAt w10 (fun b => B ≤ b ∧ b < w10.heap.size) ab lb (nat7 (scanB left g j).1) from HBI.out.to fun b hb => by
            have h1 := BS.out.size; have h2 := B9.out.size; have h3 := hb10.size; have h4 := B6.out.size
            exact ⟨⟨hb.1, by omega⟩, (hb10.block b (by omega)).trans ((B9.out.block b (by omega)).trans (BS.out.block b hb.2))⟩)
          clear hb10 hT
          obtain ⟨nv, hnv⟩ : ∃ nv, (g j).2 = nv := ⟨_, rfl⟩
          obtain ⟨sv, hsv⟩ : ∃ sv, (scanB left g j).2 = sv := ⟨_, rfl⟩
          rw [hnv] at HS ⊢
          rw [hsv] at HS ⊢
          by_cases hc : sv < 0 ∨ nv < sv
          · have HS2 := Lib.hid (HS.out.trans (if_pos hc))
            have HE := Lib.hid hnv
            clear hnv hsv
            by_cases hs0 : sv < 0
            · clear hc
              go_wp2_with fail
              go_roundw
              case rel => exact ⟨j + 1, aT, lT, cT, by omega, by go_num, by rw [HDJ.out], by rw [HS2.out, HE.out], rfl, by rw [HS2.out]; exact HT.out, hTc, HB10.out⟩
              case measure => simp [intOf]; omega
            · have hn0 : nv < sv := by omega
              clear hc
              go_wp2_with fail
              go_roundw
              case rel => exact ⟨j + 1, aT, lT, cT, by omega, by go_num, by rw [HDJ.out], by rw [HS2.out, HE.out], rfl, by rw [HS2.out]; exact HT.out, hTc, HB10.out⟩
              case measure => simp [intOf]; omega
          · have HS2 := Lib.hid (HS.out.trans (if_neg hc))
            have HE := Lib.hid hsv
            have hs0 : ¬ sv < 0 := fun h => hc (.inl h)
            have hn0 : ¬ nv < sv := fun h => hc (.inr h)
            clear hc hnv hsv
            go_wp2_with fail
            go_roundw
            case rel => exact ⟨j + 1, ab, lb, cb, by omega, by go_num, by rw [HDJ.out], by rw [HS2.out, HE.out], rfl, by rw [HS2.out]; exact HBI10.out, hbc, HB10.out⟩
            case measure => simp [intOf]; omega
      · obtain rfl : j = len := by omega
        rw [HDN.out]
        go_wp2_with fail
        go_ret2
        exact ⟨_, _, _, rfl, HBI.out, hbc, HB.out⟩
end Go.Proofs.Ythmlgicjedhgfac
namespace Go.Proofs.Ythmlgicjedhgfac
open Go.RowKit Go.WideShapes

theorem slen_job {shop : List (List (List Int))} {k : Nat} {job : List (List Int)} (h : shop[k]? = some job) : slen shop k = job.length := by
  unfold slen; rw [List.getD_eq_getElem?_getD, h]; rfl
set_option maxRecDepth 100000 in
set_option maxHeartbeats 4000000 in
theorem steps_any (a : Option Addr) (len cap : Nat) (shop : List (List (List Int))) (w : World) (h : ShopAt w (· < w.heap.size) a len shop) (hl3 : len ≤ 3) :
    Calls Try.prog 29 #[.slice a len cap] w (NewInts w (tab (fun q => ((slen shop q : Nat) : Int)) len)) := by
  have HH := Lib.hid (fun (w' : World) (hb : Below w.heap.size w w') => h.below hb)
  clear h
  go_enter Try.func29, Try.ntmps29
  go_wp2_with fail
  go_loopw [3, 4] (fun v i wr => ∃ (k cp : Nat) (ax : Option Addr), k ≤ len ∧ i = .int .i64 k ∧ v = .slice ax k cp ∧ wr.ownsRow w.heap.size 3 1 v k ((tab (fun q => ((slen shop q : Nat) : Int)) k).map (.int .i64)) ∧ Below w.heap.size w wr) (fun _ i _ => len - (intOf i).toNat)
  case atStart => exact ⟨0, 0, _, Nat.zero_le _, rfl, rfl, World.ownsRow_made w #[] 0 (Nat.le_refl _) (Nat.zero_le _) rfl, (Below.refl _ w).alloc (Nat.le_refl _) _⟩
  case round =>
    obtain ⟨k, cp, ax, hk, rfl, rfl, hown, hb⟩ := hrel
    obtain ⟨wo, rfl⟩ : ∃ wo : World, wo = wr := ⟨_, rfl⟩
    have HO9 := Lib.hid hown
    have HB9 := Lib.hid hb
    clear hown hb
    by_cases hlt : k < len
    · obtain ⟨b, off, job, a', l, c, rfl, hjob, hc, hlc, hr⟩ := (HH.out wo HB9.out).get hlt
      have hlj : l = slen shop k := by rw [slen_job hjob]; exact hr.lenEq.symm
      subst hlj
      clear hr hjob
      go_wp2_with (at_builtin; refine wpApp1 rfl _ _ rfl w.heap.size _ _ _ _ _ rfl HO9.out rfl HB9.out.size (by omega) ?_)
      intro a6 c6 w6 hown hc6 hgr
      have HO6 := Lib.hid hown
      have HG6 := Lib.hid hgr
      clear hown hgr
      go_wp2
      go_roundw
      case rel => exact ⟨k + 1, c6, a6, by omega, by go_num, rfl, by rw [tab_succ]; exact own_snoc HO6.out, HB9.out.grown HG6.out HB9.out.size (own_block HO9.out)⟩
      case measure => simp [intOf] <;> omega
    · obtain rfl : k = len := by omega
      go_wp2
      go_ret
      exact newInts_own HO9.out HB9.out (by omega)
/-- the best turns, and when all is done by them -/
def bestT (shop : List (List (List Int))) : List Nat := if shopM shop then (bestFS (valB shop) shop.length (sumLeft (slen shop) shop.length) [] (slen shop)).1 else []
def bestN (shop : List (List (List Int))) : Int := if shopM shop then (bestFS (valB shop) shop.length (sumLeft (slen shop) shop.length) [] (slen shop)).2 else -1
/-- as ints -/
def bestI (shop : List (List (List Int))) : List Int := nat7 (bestT shop)
theorem valB_nn {shop : List (List (List Int))} (hv : shopM shop = true) (l : List Nat) : 0 ≤ valB shop l :=
  (runS_inv (fun j k => (stime_bd hv j k).1) l shop0 (shop0_inv (smach shop) (stime shop))).nn.1
theorem best_is {shop : List (List (List Int))} (hv : shopM shop = true) : BestB (valB shop) shop.length (slen shop) (bestT shop) (bestN shop) := by
  unfold bestT bestN
  rw [if_pos hv, if_pos hv]
  exact bestFS_best (valB_nn hv) shop.length (slen shop)
theorem bestI_len (shop : List (List (List Int))) : (bestI shop).length ≤ 1048576 := by
  unfold bestI nat7
  rw [List.length_map]
  cases hv : shopM shop
  · unfold bestT; rw [hv]; simp
  · have h := (best_is hv).turns
    have := turnsOf_len hv h.1 (turnsOf_cnt h)
    omega
theorem sumLeft_shop {shop : List (List (List Int))} (hv : shopM shop = true) : sumLeft (slen shop) shop.length ≤ 9 := by
  have h3 := (shop_get hv).1
  have h4 := sumLeft_le (c := 3) (f := slen shop) shop.length (fun j _ => slen_le hv j)
  omega
set_option maxRecDepth 100000 in
set_option maxHeartbeats 4000000 in
theorem bestTurns_any (a : Option Addr) (len cap : Nat) (shop : List (List (List Int))) (w : World) (h : ShopAt w (· < w.heap.size) a len shop) :
    Calls Try.prog 8 #[.slice a len cap] w (TurnsInt w.heap.size w (bestT shop) (bestN shop)) := by
  have HL := Lib.hid h.lenEq
  go_enter Try.func8, Try.ntmps8
  go_wp2_with fail
  refine (validShop_any _ a len cap shop w h).mono ?_
  rintro e w' ⟨rfl, rfl⟩
  cases hv : shopM shop
  · go_wp2_with fail
    go_ret2
    unfold bestT bestN; rw [hv]
    exact ⟨none, 0, 0, rfl, ⟨rfl, Nat.zero_le _, fun h => absurd h (by omega)⟩, Nat.le_refl _, Below.refl _ _⟩
  · have HV := Lib.hid hv
    have hl3 : len ≤ 3 := by have := (shop_get hv).1; have := HL.out; omega
    clear hv
    go_wp2_with fail
    have hb0 : Below w.heap.size w (w.alloc (.cells #[] 3)) := (Below.refl _ _).alloc (Nat.le_refl _) _
    have hs1 : (w.alloc (.cells #[] 3)).heap.size = w.heap.size + 1 := by simp
    obtain ⟨w1, hw1⟩ : ∃ w1, w.alloc (.cells #[] 3) = w1 := ⟨_, rfl⟩
    rw [hw1] at hb0 hs1 ⊢
    clear hw1
    refine (steps_any a len cap shop w1 ((h.below hb0).to (fun b hb => ⟨by omega, rfl⟩)) hl3).mono ?_
    rintro e w2 ⟨aL, lL, cL, rfl, hI, hcL, hb1⟩
    obtain rfl : lL = len := by have := hI.lenEq; rw [tab_length] at this; exact this.symm
    have hb2 := hb0.trans (hb1.mono (by omega))
    have hs2 := hb1.size
    have HI := Lib.hid hI
    have HB2 := Lib.hid hb2
    clear hI hb1 hb2 hb0
    go_wp2_with fail
    refine (bestTurns_rec a lL cap shop HV.out w.heap.size (sumLeft (slen shop) lL) [] 0 w.heap.size 0 (slen shop) aL cL w2 rfl rfl (fun x hx => by cases hx) (fun j _ => by simp) (by have := sumLeft_shop HV.out; have := HL.out; subst this; omega) (Nat.le_refl _) (by omega)
      ((h.below HB2.out).to (fun b hb => ⟨by omega, rfl⟩)) ⟨rfl, Nat.zero_le _, fun h => absurd h (by omega)⟩ (HI.out.to (fun b hb => ⟨hb.2, rfl⟩))).mono ?_
    rintro e w3 ⟨aT, lT, cT, rfl, hT, hTc, hb3⟩
    have HB3 := Lib.hid (HB2.out.trans (hb3.mono (by omega)))
    have HT := Lib.hid hT
    clear hT hb3
    go_wp2_with fail
    go_ret2
    unfold bestT bestN; rw [HV.out, HL.out]
    exact ⟨_, _, _, rfl, HT.out, hTc, HB3.out⟩
end Go.Proofs.Ythmlgicjedhgfac
namespace Go.Proofs.Ythmlgicjedhgfac

-- plans of shops (plain): what was put to each machine last
def lastF (m : Nat → Nat → Nat) (s : (Nat → Nat) × (Nat → Option (Nat × Nat))) (j : Nat) : (Nat → Nat) × (Nat → Option (Nat × Nat)) :=
  (setN s.1 j (s.1 j + 1), setN s.2 (m j (s.1 j)) (some (j, s.1 j)))
def lastL (m : Nat → Nat → Nat) (l : List Nat) : Nat → Option (Nat × Nat) := (l.foldl (lastF m) (fun _ => 0, fun _ => none)).2
theorem lastF_cnt (m : Nat → Nat → Nat) : ∀ (l : List Nat) (s : (Nat → Nat) × (Nat → Option (Nat × Nat))) (j : Nat), (l.foldl (lastF m) s).1 j = s.1 j + l.count j
  | [], s, j => by simp
  | i :: l, s, j => by
    rw [List.foldl_cons, lastF_cnt m l, List.count_cons]
    show setN s.1 i (s.1 i + 1) j + _ = _
    by_cases e : j = i
    · subst e; rw [setN_at]; simp; omega
    · rw [setN_ne _ _ e]; simp [beq_eq_false_iff_ne.2 (fun h => e h.symm)]
theorem lastL_nil (m : Nat → Nat → Nat) (M : Nat) : lastL m [] M = none := rfl
theorem lastL_snoc (m : Nat → Nat → Nat) (l : List Nat) (j : Nat) : lastL m (l ++ [j]) = setN (lastL m l) (m j (l.count j)) (some (j, l.count j)) := by
  have e : (l.foldl (lastF m) (fun _ => 0, fun _ => none)).1 j = l.count j := by rw [lastF_cnt]; exact Nat.zero_add _
  unfold lastL
  rw [List.foldl_append]
  show setN (l.foldl (lastF m) (fun _ => 0, fun _ => none)).2 (m j ((l.foldl (lastF m) (fun _ => 0, fun _ => none)).1 j)) (some (j, (l.foldl (lastF m) (fun _ => 0, fun _ => none)).1 j)) = _
  rw [e]
def endV (p : Nat → Nat → Int) (b : Nat → Nat → Int) : Option (Nat × Nat) → Int
  | none => 0
  | some x => b x.1 x.2 + p x.1 x.2
def prevO (j k : Nat) : Option (Nat × Nat) := if k = 0 then none else some (j, k - 1)
theorem run_nx (m : Nat → Nat → Nat) (p : Nat → Nat → Int) (l : List Nat) (j : Nat) : (runS m p shop0 l).nx j = l.count j := by
  rw [runS_nx]; show 0 + _ = _; omega
theorem snoc_ind {α : Type} {P : List α → Prop} (h0 : P []) (h1 : ∀ l x, P l → P (l ++ [x])) (l : List α) : P l := by
  have key : ∀ r : List α, P r.reverse := by
    intro r
    induction r with
    | nil => exact h0
    | cons x r ih => rw [List.reverse_cons]; exact h1 _ _ ih
  have := key l.reverse
  rwa [List.reverse_reverse] at this
theorem count_snoc (l : List Nat) (i j : Nat) : (l ++ [i]).count j = if j = i then l.count j + 1 else l.count j := by
  rw [List.count_append]
  split
  · rename_i e; subst e; simp
  · rename_i e; rw [List.count_cons_of_ne (fun h => e h.symm)]; simp
theorem last_in (m : Nat → Nat → Nat) (l : List Nat) : ∀ M x, lastL m l M = some x → x.2 < l.count x.1 ∧ m x.1 x.2 = M := by
  refine snoc_ind (P := fun l => ∀ M x, lastL m l M = some x → x.2 < l.count x.1 ∧ m x.1 x.2 = M) (fun M x h => by rw [lastL_nil] at h; cases h) (fun l i ih M x h => ?_) l
  rw [lastL_snoc] at h
  by_cases e : M = m i (l.count i)
  · subst e
    rw [setN_at] at h
    cases h
    rw [count_snoc, if_pos rfl]
    exact ⟨Nat.lt_succ_self _, rfl⟩
  · rw [setN_ne _ _ e] at h
    obtain ⟨h1, h2⟩ := ih M x h
    refine ⟨?_, h2⟩
    rw [count_snoc]; split <;> omega
theorem turn_b (m : Nat → Nat → Nat) (p : Nat → Nat → Int) (s : ShopS) (i j k : Nat) (h : ¬ (j = i ∧ k = s.nx i)) : (turnS m p s i).b j k = s.b j k := by
  show setN s.b i (setN (s.b i) (s.nx i) (beginS m s i)) j k = _
  by_cases hi : j = i
  · subst hi
    rw [setN_at, setN_ne _ _ (fun e => h ⟨rfl, e⟩)]
  · rw [setN_ne _ _ hi]
theorem turn_b_at (m : Nat → Nat → Nat) (p : Nat → Nat → Int) (s : ShopS) (i : Nat) : (turnS m p s i).b i (s.nx i) = beginS m s i := by
  show setN s.b i (setN (s.b i) (s.nx i) (beginS m s i)) i (s.nx i) = _
  rw [setN_at, setN_at]
theorem last_fr (m : Nat → Nat → Nat) (p : Nat → Nat → Int) (l : List Nat) : ∀ M, (runS m p shop0 l).fr M = endV p (runS m p shop0 l).b (lastL m l M) := by
  refine snoc_ind (P := fun l => ∀ M, (runS m p shop0 l).fr M = endV p (runS m p shop0 l).b (lastL m l M)) (fun M => rfl) (fun l i ih M => ?_) l
  rw [runS_snoc, lastL_snoc]
  have hn := run_nx m p l i
  show setN (runS m p shop0 l).fr (m i ((runS m p shop0 l).nx i)) _ M = _
  rw [hn]
  by_cases e : M = m i (l.count i)
  · subst e
    rw [setN_at, setN_at]
    show _ = (turnS m p (runS m p shop0 l) i).b i (l.count i) + p i (l.count i)
    rw [← hn, turn_b_at]
  · rw [setN_ne _ _ e, setN_ne _ _ e, ih]
    cases hx : lastL m l M with
    | none => rfl
    | some x =>
      have := (last_in m l M x hx).1
      show _ = (turnS m p (runS m p shop0 l) i).b x.1 x.2 + p x.1 x.2
      rw [turn_b m p _ i x.1 x.2 (fun h => by rw [hn] at h; obtain ⟨h1, h2⟩ := h; rw [h1] at this; omega)]
      rfl
theorem last_rd (m : Nat → Nat → Nat) (p : Nat → Nat → Int) (l : List Nat) : ∀ j, (runS m p shop0 l).rd j = endV p (runS m p shop0 l).b (prevO j (l.count j)) := by
  refine snoc_ind (P := fun l => ∀ j, (runS m p shop0 l).rd j = endV p (runS m p shop0 l).b (prevO j (l.count j))) (fun j => rfl) (fun l i ih j => ?_) l
  rw [runS_snoc, count_snoc]
  have hn := run_nx m p l i
  show setN (runS m p shop0 l).rd i _ j = _
  by_cases e : j = i
  · subst e
    rw [setN_at, if_pos rfl]
    show _ = endV p (turnS m p (runS m p shop0 l) j).b (prevO j (l.count j + 1))
    unfold prevO
    rw [if_neg (by omega)]
    show _ = (turnS m p (runS m p shop0 l) j).b j (l.count j + 1 - 1) + p j (l.count j + 1 - 1)
    rw [Nat.add_sub_cancel, hn]
    conv => rhs; rw [← hn, turn_b_at]
    rw [hn]
  · rw [setN_ne _ _ e, if_neg e, ih]
    unfold prevO
    split
    · rfl
    · show (runS m p shop0 l).b j (l.count j - 1) + _ = (turnS m p (runS m p shop0 l) i).b j (l.count j - 1) + _
      rw [turn_b m p _ i j _ (fun h => e h.1)]
/-- all is done when each machine is -/
theorem last_all {m : Nat → Nat → Nat} {p : Nat → Nat → Int} (hp : ∀ j k, 0 ≤ p j k) (hm : ∀ j k, m j k < 3) (l : List Nat) :
    (runS m p shop0 l).all = max (max (max 0 (endV p (runS m p shop0 l).b (lastL m l 0))) (endV p (runS m p shop0 l).b (lastL m l 1))) (endV p (runS m p shop0 l).b (lastL m l 2)) := by
  rw [← last_fr, ← last_fr, ← last_fr]
  have h := runS_inv hp l shop0 (shop0_inv m p)
  have h0 := h.upF 0
  have h1 := h.upF 1
  have h2 := h.upF 2
  have hn := h.nn.1
  rcases h.is with e | ⟨j, k, hk, e⟩
  · omega
  · have hf := h.free j k hk
    have hmm := hm j k
    have : m j k = 0 ∨ m j k = 1 ∨ m j k = 2 := by omega
    rcases this with q | q | q <;> rw [q] at hf <;> omega
/-- a plan's memory: which steps were put, and when; what lay on a step's machine ahead of it -/
def OnOk (m : Nat → Nat → Nat) (l : List Nat) (on : Nat → Nat → Option (Nat × Nat)) : Prop := ∀ l1 j l2, l = l1 ++ j :: l2 → on j (l1.count j) = lastL m l1 (m j (l1.count j))
def BgOk (m : Nat → Nat → Nat) (p : Nat → Nat → Int) (l : List Nat) (bg : Nat → Nat → Int) : Prop := ∀ j k, k < l.count j → bg j k = (runS m p shop0 l).b j k
def set2 {α : Type} (f : Nat → Nat → α) (j k : Nat) (v : α) : Nat → Nat → α := setN f j (setN (f j) k v)
theorem set2_at {α : Type} (f : Nat → Nat → α) (j k : Nat) (v : α) : set2 f j k v j k = v := by unfold set2; rw [setN_at, setN_at]
theorem set2_ne {α : Type} (f : Nat → Nat → α) {j k j' k' : Nat} (v : α) (h : ¬ (j' = j ∧ k' = k)) : set2 f j k v j' k' = f j' k' := by
  unfold set2
  by_cases e : j' = j
  · subst e; rw [setN_at, setN_ne _ _ (fun e => h ⟨rfl, e⟩)]
  · rw [setN_ne _ _ e]
theorem onOk_nil (m : Nat → Nat → Nat) (on : Nat → Nat → Option (Nat × Nat)) : OnOk m [] on := fun l1 j l2 h => by simp at h
theorem bgOk_nil (m : Nat → Nat → Nat) (p : Nat → Nat → Int) (bg : Nat → Nat → Int) : BgOk m p [] bg := fun j k h => by simp at h
theorem onOk_snoc {m : Nat → Nat → Nat} {l : List Nat} {on : Nat → Nat → Option (Nat × Nat)} (h : OnOk m l on) (i : Nat) : OnOk m (l ++ [i]) (set2 on i (l.count i) (lastL m l (m i (l.count i)))) := by
  intro l1 j l2 e
  rcases List.eq_nil_or_concat l2 with rfl | ⟨l3, x, rfl⟩
  · obtain ⟨rfl, e2⟩ := List.append_inj' e rfl
    cases e2
    rw [set2_at]
  · rw [List.concat_eq_append, ← List.cons_append, ← List.append_assoc] at e
    obtain ⟨e1, e2⟩ := List.append_inj' e rfl
    rw [set2_ne]
    · exact h l1 j l3 e1
    · rintro ⟨rfl, hc⟩
      have := congrArg (List.count j) e1
      rw [List.count_append, List.count_cons_self] at this
      omega
theorem onOk_back {m : Nat → Nat → Nat} {l : List Nat} {on : Nat → Nat → Option (Nat × Nat)} {i : Nat} (h : OnOk m (l ++ [i]) on) : OnOk m l on ∧ on i (l.count i) = lastL m l (m i (l.count i)) :=
  ⟨fun l1 j l2 e => h l1 j (l2 ++ [i]) (by rw [e]; simp), h l i [] rfl⟩
theorem bgOk_snoc {m : Nat → Nat → Nat} {p : Nat → Nat → Int} {l : List Nat} {bg : Nat → Nat → Int} (h : BgOk m p l bg) (i : Nat) : BgOk m p (l ++ [i]) (set2 bg i (l.count i) (beginS m (runS m p shop0 l) i)) := by
  intro j k hk
  have hn := run_nx m p l i
  rw [runS_snoc]
  by_cases e : j = i ∧ k = l.count i
  · obtain ⟨rfl, rfl⟩ := e
    rw [set2_at]
    conv => rhs; rw [← hn, turn_b_at]
  · rw [set2_ne _ _ e, turn_b m p _ i j k (by rw [hn]; exact e)]
    refine h j k ?_
    rw [count_snoc] at hk
    split at hk
    · rename_i e2; subst e2
      have : k ≠ l.count j := fun h => e ⟨rfl, h⟩
      omega
    · exact hk
theorem bgOk_back {m : Nat → Nat → Nat} {p : Nat → Nat → Int} {l : List Nat} {bg : Nat → Nat → Int} {i : Nat} (h : BgOk m p (l ++ [i]) bg) : BgOk m p l bg := by
  intro j k hk
  rw [h j k (by rw [count_snoc]; split <;> omega), runS_snoc, turn_b]
  rw [run_nx]
  rintro ⟨rfl, rfl⟩
  omega
theorem last_back (m : Nat → Nat → Nat) (l : List Nat) (i : Nat) : setN (lastL m (l ++ [i])) (m i (l.count i)) (lastL m l (m i (l.count i))) = lastL m l := by
  funext M
  by_cases e : M = m i (l.count i)
  · rw [e, setN_at]
  · rw [setN_ne _ _ e, lastL_snoc, setN_ne _ _ e]
theorem endV_cong {m : Nat → Nat → Nat} {p : Nat → Nat → Int} {l : List Nat} {bg : Nat → Nat → Int} (h : BgOk m p l bg) (M : Nat) : endV p bg (lastL m l M) = endV p (runS m p shop0 l).b (lastL m l M) := by
  cases hx : lastL m l M with
  | none => rfl
  | some x => show bg x.1 x.2 + _ = _; rw [h x.1 x.2 (last_in m l M x hx).1]; rfl
theorem endV_prev {m : Nat → Nat → Nat} {p : Nat → Nat → Int} {l : List Nat} {bg : Nat → Nat → Int} (h : BgOk m p l bg) (j : Nat) : endV p bg (prevO j (l.count j)) = endV p (runS m p shop0 l).b (prevO j (l.count j)) := by
  unfold prevO
  split
  · rfl
  · show bg j (l.count j - 1) + _ = _; rw [h j _ (by omega)]; rfl
/-- when the next step of job j begins, by what is put -/
theorem begin_ends {m : Nat → Nat → Nat} {p : Nat → Nat → Int} {l : List Nat} {bg : Nat → Nat → Int} (h : BgOk m p l bg) (j : Nat) :
    max (endV p bg (prevO j (l.count j))) (endV p bg (lastL m l (m j (l.count j)))) = beginS m (runS m p shop0 l) j := by
  rw [endV_cong h, endV_prev h, ← last_fr, ← last_rd]
  unfold beginS
  rw [run_nx]
theorem ends_bd {m : Nat → Nat → Nat} {p : Nat → Nat → Int} (hp : ∀ j k, 0 ≤ p j k ∧ p j k ≤ 9) {l : List Nat} (hl : l.length ≤ 9) {bg : Nat → Nat → Int} (h : BgOk m p l bg) (j k : Nat) (hk : k < l.count j) : 0 ≤ bg j k ∧ bg j k ≤ 81 := by
  have hi := runS_inv (fun j k => (hp j k).1) l shop0 (shop0_inv m p)
  have hb := runS_bd (m := m) hp l
  rw [h j k hk]
  have h1 := hi.pos j k (by rw [run_nx]; exact hk)
  have h2 := hi.last j k (by rw [run_nx]; exact hk)
  have h3 := hi.upR j
  have h4 := hp j k
  omega
end Go.Proofs.Ythmlgicjedhgfac
