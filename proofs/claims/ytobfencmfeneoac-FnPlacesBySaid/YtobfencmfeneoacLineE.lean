import Derived.Test.YtobfencmfeneoacRows
import Derived.WalkKit
import Derived.LoopTactic
import Derived.Outline
import Derived.WalkSpells
import Derived.WalkLawsBesides
import Derived.ProofKit
import Derived.Lib.Hide
import Derived.IntWalk
import Derived.StillTail
import Derived.StillTailTactics
import Derived.Test.YtobfencmfeneoacLib
import Derived.Test.YtobfencmfeneoacGen
import Derived.Test.YtobfencmfeneoacMark
import Derived.Test.YtobfencmfeneoacArr
import Derived.Test.YtobfencmfeneoacOwn1
import Derived.Test.YtobfencmfeneoacUp
import Derived.Test.YtobfencmfeneoacEx
import Derived.Test.YtobfencmfeneoacResC
import Derived.Test.YtobfencmfeneoacNetM
import Derived.Test.YtobfencmfeneoacBitOp
import Derived.Test.YtobfencmfeneoacTaskSpec
import Derived.Test.YtobfencmfeneoacLoadSpec
import Derived.Test.YtobfencmfeneoacWeightSpec
import Derived.Test.YtobfencmfeneoacFewSpec
import Derived.Test.YtobfencmfeneoacTactSpec
import Derived.Test.YtobfencmfeneoacFewC
import Derived.Test.YtobfencmfeneoacLineA
import Derived.Test.YtobfencmfeneoacLineB
namespace Go.Proofs.Ytobfencmfeneoac
open Go.RowKit Go.WideShapes

theorem Try.infoIntAh : (Try.prog.info? 3).map (fun i => (i.zero, i.size, i.bytes)) = some (some (.int .i64 0), 1, 8) := by kernel_rfl
theorem resC_own {w wr : World} {len : Nat} {f : Nat → Int} (h : OwnF w wr len f) (hs : len ≤ 1048576) : ResPostC w (tab f len) (.returned (.slice (some ⟨w.heap.size, 0, none⟩) len len)) wr := by
  have h1 := (h.done hs).ints
  obtain ⟨a, l, c, e, h2, h3, h4⟩ := h1
  simp only [Ending.returned.injEq, Value.slice.injEq] at e
  obtain ⟨rfl, rfl, rfl⟩ := e
  refine ⟨_, _, _, rfl, h2, ⟨by omega, fun h0 => ⟨_, 0, rfl, ⟨Nat.le_refl _, ?_⟩, fun i hi => ?_⟩⟩, Nat.le_refl _, h4⟩
  · exact World.block_lt_of_cell? wr _ (h.cell (q := 0) (by omega)).1
  · have := h.cell hi
    rw [Nat.zero_add]
    exact ⟨⟨_, this.1⟩, this.2⟩
set_option maxRecDepth 100000 in
set_option maxHeartbeats 4000000 in
theorem allAhead_any (a : Option Addr) (len cap : Nat) (ys : List Int) (w : World) (hy : IntsAt w (· < w.heap.size) a len ys) (hp : powIn ys ys.length) (hl : len ≤ 6) :
    Calls Try.prog 41 #[.slice a len cap] w fun e w' => ∃ a3, e = .returned (.slice a3 len len) ∧ IntsAt w' (fun b => w.heap.size ≤ b ∧ b < w'.heap.size) a3 len (tab (fun i => (allX (natsOf ys) i : Int)) len) ∧ Below w.heap.size w w' := by
  have HYL := Lib.hid hy.lenEq
  have HPI := Lib.hid hp
  have hA := natsOf_hA hp
  have HAB := Lib.hid (fun k (h : k ≤ 6) => show allX (natsOf ys) k ≤ 64 by have := allX_lt hA k; have := Nat.pow_le_pow_right (n := 2) (by omega) h; omega)
  have HUB := Lib.hid (fun k m (h : k ≤ 6) (h2 : m ≤ k) => show aU (natsOf ys) (allT (natsOf ys) k) k m ≤ 64 by have := aU_lt hA k m h2; have := Nat.pow_le_pow_right (n := 2) (by omega) h; omega)
  clear hA hp
  have hmk := fun w => run_make_row' (P := Try.prog) 23 3 (.int .i64 0) 8 Try.underlying23 Try.infoIntAh rfl .i64 .i64 len (by omega) (by omega) w
  have HO0 := Lib.hid (OwnF.start w len (by omega))
  go_enter Try.func41, Try.ntmps41
  go_wp2_with fail
  clear hmk
  go_loopw [12] (fun i wr => ∃ (k : Nat) (f : Nat → Int), k ≤ len ∧ i = .int .i64 k ∧ OwnF w wr len f ∧ ∀ q, q < k → f q = allX (natsOf ys) q) (fun i _ => len - (intOf i).toNat)
  case atStart => exact ⟨0, _, Nat.zero_le _, rfl, HO0.out, fun q h => absurd h (by omega)⟩
  case round =>
    clear HO0
    obtain ⟨k, f, hk, rfl, hO, hf⟩ := hrel
    have HO := Lib.hid hO
    have HF := Lib.hid hf
    by_cases hlt : k < len
    · have hlti : (k : Int) < (len : Int) := by omega
      obtain ⟨b, off, y, rfl, hyy, hcy⟩ := (hy.below hO.below).get hlt
      have hye : y = (((natsOf ys).getD k 0 : Nat) : Int) := by rw [natsOf_get HPI.out (by rw [HYL.out]; exact hlt), getD_of hyy]
      subst hye
      have hab := natsOf_small HPI.out (i := k) (by omega)
      obtain ⟨ck, zk⟩ := hO.cell hlt
      have HU0 := Lib.hid (show aU (natsOf ys) (allT (natsOf ys) k) k 0 = (natsOf ys).getD k 0 from rfl)
      have HUS := Lib.hid (fun m (h : m < k) => show aU (natsOf ys) (allT (natsOf ys) k) k (m + 1) = if ((natsOf ys).getD k 0).testBit m = true then aU (natsOf ys) (allT (natsOf ys) k) k m ||| allX (natsOf ys) m else aU (natsOf ys) (allT (natsOf ys) k) k m by rw [aU, allT_at h])
      have HUE := Lib.hid (allX_eq (natsOf ys) k)
      have HUB2 := Lib.hid (fun m (h : m ≤ k) => HUB.out k m (by omega) h)
      have HOP := Lib.hid (hO.put k (((natsOf ys).getD k 0 : Nat) : Int))
      clear hO hf hyy HUB
      generalize aU (natsOf ys) (allT (natsOf ys) k) k = u at *
      generalize (natsOf ys).getD k 0 = am at *
      go_wp2_with fail
      generalize wr.setCell _ _ = w1 at *
      go_loopw [22] (fun i wz => ∃ (m : Nat) (f' : Nat → Int), m ≤ k ∧ i = .int .i64 m ∧ OwnF w wz len f' ∧ (∀ q, q < k → f' q = allX (natsOf ys) q) ∧ f' k = (u m : Int)) (fun i _ => k - (intOf i).toNat)
      case atStart => exact ⟨0, _, Nat.zero_le _, rfl, HOP.out, fun q hq => by rw [if_neg (by omega)]; exact HF.out q hq, by rw [if_pos rfl, HU0.out]⟩
      case round =>
        clear HOP
        obtain ⟨wi, rfl⟩ : ∃ wi : World, wi = wr := ⟨_, rfl⟩
        obtain ⟨m, f', hm, rfl, hO, hf, hfk⟩ := hrel
        by_cases hmk : m < k
        · have hmki : (m : Int) < (k : Int) := by omega
          have hml : m < len := by omega
          have hmli : (m : Int) < (len : Int) := by omega
          obtain ⟨c1, z1⟩ := hO.cell hlt
          obtain ⟨c2, z2⟩ := hO.cell hml
          rw [hfk] at c1
          rw [hf m hmk] at c2
          have hub := HUB2.out m (by omega)
          have hxb := HAB.out m (by omega)
          have HS := Lib.hid (HUS.out m hmk)
          have HIN := Lib.hid (fun w => inSet_any am m (by omega) (by omega) w)
          have HO2 := Lib.hid hO
          have HF2 := Lib.hid hf
          have HFK := Lib.hid hfk
          clear hO hf hfk
          obtain ⟨um, hum⟩ : ∃ um, u m = um := ⟨_, rfl⟩
          rw [hum] at hub HS c1
          have HUM := Lib.hid hum
          clear hum
          generalize allX (natsOf ys) m = xm at *
          have EO := Lib.hid (i_or um xm (by omega) (by omega))
          cases hb : am.testBit m
          · have HS2 := Lib.hid (show u (m + 1) = um by rw [HS.out, hb]; rfl)
            go_wp2_with fail
            refine (HIN.out _).mono ?_
            rintro e w' ⟨rfl, rfl⟩
            rw [hb]
            go_wp2_with fail
            go_roundw
            case rel => exact ⟨m + 1, f', by omega, by go_num, HO2.out, HF2.out, by rw [HFK.out, HS2.out, HUM.out]⟩
            case measure => simp [intOf] <;> omega
          · have HS2 := Lib.hid (show u (m + 1) = um ||| xm by rw [HS.out, hb]; rfl)
            go_wp2_with fail
            refine (HIN.out _).mono ?_
            rintro e w' ⟨rfl, rfl⟩
            rw [hb]
            go_wp2_with fail
            go_still_tail 10, (by kernel_rfl)
            go_wp2
            go_roundw
            case rel => exact ⟨m + 1, _, by omega, by go_num, (HO2.out.drew1.put k _), fun q hq => by rw [if_neg (by omega)]; exact HF2.out q hq, by rw [if_pos rfl, EO.out, HS2.out]⟩
            case measure => simp [intOf] <;> omega
        · obtain rfl : m = k := by omega
          have HO2 := Lib.hid hO
          have HF2 := Lib.hid (show ∀ q, q < m + 1 → f' q = allX (natsOf ys) q from fun q hq => by
            rcases Nat.lt_or_eq_of_le (Nat.le_of_lt_succ hq) with h | rfl
            · exact hf q h
            · rw [hfk, HUE.out])
          clear hO hf hfk
          go_wp2_with fail
          go_roundw
          case rel => exact ⟨m + 1, f', by omega, by go_num, HO2.out, HF2.out⟩
          case measure => simp [intOf] <;> omega
    · obtain rfl : len = k := by omega
      clear hO hf
      go_wp2
      go_ret
      obtain ⟨a3, l3, c3, e, h1, h2, h3⟩ := ((HO.out.congr (g := fun i => (allX (natsOf ys) i : Int)) HF.out).done (by omega)).ints
      simp only [Ending.returned.injEq, Value.slice.injEq] at e
      obtain ⟨rfl, rfl, rfl⟩ := e
      exact ⟨_, rfl, h1, h3⟩
end Go.Proofs.Ytobfencmfeneoac
