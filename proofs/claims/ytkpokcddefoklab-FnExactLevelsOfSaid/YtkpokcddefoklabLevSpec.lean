import Derived.Test.YtkpokcddefoklabRows
import Derived.WalkKit
import Derived.LoopTactic
import Derived.Outline
import Derived.WalkSpells
import Derived.WalkLawsBesides
import Derived.ProofKit
import Derived.IntWalk
import Derived.Test.YtkpokcddefoklabLib
import Derived.Test.YtkpokcddefoklabArr
import Derived.Test.YtkpokcddefoklabOwn1
import Derived.Test.YtkpokcddefoklabRd
import Derived.Test.YtkpokcddefoklabGen
import Derived.Test.YtkpokcddefoklabCountM
import Derived.Test.YtkpokcddefoklabLevM
import Derived.Test.YtkpokcddefoklabVb
namespace Go.Proofs.Ytkpokcddefoklab
open Go.RowKit Go.WideShapes

theorem Try.infoIntS : (Try.prog.info? 3).map (fun i => (i.zero, i.size, i.bytes)) = some (some (.int .i64 0), 1, 8) := by kernel_rfl

def levTo (rows : List (List Int)) (k : Nat) : List Int := (List.range k).map (lev rows)
theorem levTo_succ (rows : List (List Int)) (k : Nat) : levTo rows (k + 1) = levTo rows k ++ [lev rows k] := by simp [levTo, List.range_succ]
theorem levTo_get {rows : List (List Int)} {k i : Nat} {x : Int} (h : (levTo rows k)[i]? = some x) : x = lev rows i := by
  simp only [levTo, List.getElem?_map, Option.map_eq_some_iff] at h
  obtain ⟨j, hj, rfl⟩ := h
  obtain ⟨_, h2⟩ := List.getElem?_eq_some_iff.1 hj
  simp at h2
  rw [h2]

set_option maxHeartbeats 1000000 in
theorem levels_spec0 (S : Nat → Prop) (a : Option Addr) (len cap : Nat) (rows : List (List Int)) (w : World) (hv : validBillM rows = true) (h : RowsAt w S a len rows) (hS : ∀ b, S b → b < w.heap.size) :
    Calls Try.prog 22 #[.slice a len cap] w (NewInts w (levelsM rows)) := by
  have hl := h.lenEq
  have hl6 : len ≤ 6 := by have := validBill_len6 hv; omega
  have HL := Lib.hid hl
  clear hl
  obtain ⟨i0, hi, hz0, hz1, hz2⟩ := info_parts Try.infoIntS
  go_enter Try.func22, Try.ntmps22
  go_wp2
  go_loopw [3, 4] (fun v i wr => ∃ (k cp : Nat) (ax : Option Addr), k ≤ len ∧ i = .int .i64 k ∧ v = .slice ax k cp ∧ wr.ownsRow w.heap.size 3 1 v k ((levTo rows k).map (.int .i64)) ∧ Below w.heap.size w wr) (fun _ i _ => len - (intOf i).toNat)
  case atStart => exact ⟨0, 0, _, Nat.zero_le _, rfl, rfl, World.ownsRow_made _ _ _ (Nat.le_refl _) (Nat.zero_le _) rfl, (Below.refl _ _).alloc (Nat.le_refl _) _⟩
  case round =>
    obtain ⟨k, cp, ax, hk, rfl, rfl, hown, hB⟩ := hrel
    obtain ⟨wo, rfl⟩ : ∃ wo : World, wo = wr := ⟨_, rfl⟩
    by_cases hlt : k < len
    · obtain ⟨b, off, r, a', l, c, rfl, hx, hc, _, hri⟩ := (h.to (S' := S) (w' := wo) (fun b hb => ⟨hb, hB.block b (hS b hb)⟩)).get hlt
      obtain ⟨hr1, _, _⟩ := okRows_get hv hx
      have hlr : l = k := by rw [← hri.lenEq]; exact hr1
      subst hlr
      have HX := Lib.hid hx
      have HR1 := Lib.hid hr1
      have HOWN := Lib.hid hown
      have HB := Lib.hid hB
      obtain ⟨ay, cy, hve, _, hints⟩ := own_ints hown (by omega)
      simp only [Value.slice.injEq] at hve
      obtain ⟨rfl, _, rfl⟩ := hve
      clear hx hr1 hown hB
      go_wp2
      go_loop [5, 6] (fun n j => ∃ m : Nat, m ≤ l ∧ j = .int .i64 m ∧ n = .int .i64 (levOver (lev rows) (pairsTo r m))) (fun _ j => l - (intOf j).toNat)
      case atStart => exact ⟨0, Nat.zero_le _, rfl, rfl⟩
      case round =>
        obtain ⟨m, hm, rfl, rfl⟩ := hrel
        by_cases hml : m < l
        · obtain ⟨b2, off2, x, rfl, hy, hd⟩ := hri.get hml
          obtain ⟨b3, off3, y, rfl, hy3, hd3⟩ := hints.get (k := m) hml
          have hyv := levTo_get hy3
          subst hyv
          have hb0 := lev_bd rows m
          have hp0 := lev_part (rows := rows) (r := r) (k := m)
          have HY := Lib.hid hy
          clear hy hy3
          by_cases hx0 : 0 < x
          · have hsn : levOver (lev rows) (pairsTo r (m + 1)) = max (levOver (lev rows) (pairsTo r m)) (lev rows m + 1) := by rw [pairsTo, pairAt_yes HY.out hx0, levOver_snoc]
            have HSN := Lib.hid hsn
            clear hsn
            generalize hS : levOver (lev rows) (pairsTo r m) = m0 at hp0 HSN ⊢
            generalize hV : lev rows m = lp at hb0 HSN hd3
            clear hS hV
            by_cases hmax : lp + 1 ≤ m0
            · go_wp2
              go_round
              case rel => exact ⟨m + 1, by omega, by go_num, by rw [HSN.out]; congr 1; omega⟩
              case measure => simp [intOf]; omega
            · go_wp2
              go_round
              case rel => exact ⟨m + 1, by omega, by go_num, by rw [HSN.out]; congr 1; omega⟩
              case measure => simp [intOf]; omega
          · have hp := pairAt_no HY.out hx0
            go_wp2
            go_round
            case rel => exact ⟨m + 1, by omega, by go_num, by rw [pairsTo, hp, List.append_nil]⟩
            case measure => simp [intOf]; omega
        · obtain rfl : m = l := by omega
          have hle := lev_eq hv HX.out
          rw [HR1.out] at hle
          rw [← hle]
          clear hle
          go_wp2_with (at_builtin; refine wpList_append_own _ rfl _ _ 25 rfl w.heap.size 3 i0 (.int .i64 0) 1 8 Try.underlying25 hi hz0 hz1 hz2 rfl (by decide) _ _ _ rfl (HOWN.out.alloc _) ⟨wo.heap.size, 0, none⟩ 1 1 [.int .i64 (lev rows m)] rfl rfl ?c1 ?c2 ?c3 ?c4 ?c5 ?_)
          case c2 => rfl
          case c3 => unfold maxLen; omega
          case c4 => omega
          case c5 => have := HB.out.size; simp; omega
          intro v' w6 hown hgrow _
          obtain ⟨a6, c6, rfl, _⟩ := own_slice hown
          have hgr : wo.grownBy w6 (Value.slice ax m cp).ownBlock := grown_comp (World.grownBy_alloc wo _ _) hgrow
          have HO6 := Lib.hid hown
          have HG6 := Lib.hid hgr
          clear hown hgr hgrow
          go_wp2
          go_roundw
          case rel => exact ⟨m + 1, c6, a6, by omega, by go_num, rfl, by rw [levTo_succ, List.map_append]; exact HO6.out, HB.out.grown HG6.out HB.out.size (fun q hq => (HOWN.out.lt q hq).1)⟩
          case measure => simp [intOf]; omega
    · obtain rfl : k = len := by omega
      have HOWN := Lib.hid hown
      have HB := Lib.hid hB
      clear hown hB
      go_wp2
      go_ret
      obtain ⟨ay, cy, hve, hcc, hints⟩ := own_ints HOWN.out (by omega)
      simp only [Value.slice.injEq] at hve
      obtain ⟨rfl, _, rfl⟩ := hve
      have e : levelsM rows = levTo rows k := by unfold levelsM levTo; rw [HL.out]
      rw [e]
      exact ⟨_, _, _, rfl, hints, hcc, HB.out⟩
end Go.Proofs.Ytkpokcddefoklab
