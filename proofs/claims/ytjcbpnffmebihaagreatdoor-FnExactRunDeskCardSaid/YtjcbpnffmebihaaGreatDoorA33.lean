import Derived.Test.YtjcbpnffmebihaaGreatDoorA32
import Derived.Test.YtjcbpnffmebihaaGreatDoorRows
import Derived.WalkKit
import Derived.LoopTactic
import Derived.Outline
import Derived.WalkSpells
import Derived.WalkLawsBesides
import Derived.ProofKit
import Derived.Lib.Hide
import Derived.BigQuiet
namespace Go.Proofs.YtjcbpnffmebihaaGreatDoor
open Go.RowKit Go.WideShapes

/-- an answer, or why there is none -/
def ToPost (w : World) (line : ByteArray) (e : Ending) (w' : World) : Prop :=
  Below w.heap.size w w' ∧ ((e = .returned (.tuple #[.string (ansB line), .nilIface])) ∨
    (ansB line = sWrong ∧ ∃ q m, e = .returned (.tuple #[.string q, .iface 56 (.agg #[.string m])])) ∨
    (ansB line = sWhat ∧ ∃ q v, e = .returned (.tuple #[.string q, .iface 238 v])))
theorem to_of {w : World} {line : ByteArray} {b : Bool} {s : ByteArray} {e : Ending} {w' : World} (h : AnsPost w b s e w') (ha : ansB line = if b = true then s else sWrong) : ToPost w line e w' := by
  obtain ⟨h1, ⟨rfl, h2⟩ | ⟨rfl, h2⟩⟩ := h
  · rw [if_pos rfl] at ha
    exact ⟨h1, .inl (by rw [ha]; exact h2)⟩
  · exact ⟨h1, .inr (.inl ⟨by rw [ha, if_neg (by simp)], h2⟩)⟩
theorem take_one {ts : List ByteArray} (h : ts.length = 1 + 1) : (ts.take 1).map numV = [numV (ts.getD 0 ByteArray.empty)] := by
  match ts, h with
  | [a, b], _ => rfl
theorem take_two {ts : List ByteArray} (h : ts.length = 2 + 1) : (ts.take 2).map numV = [numV (ts.getD 0 ByteArray.empty), numV (ts.getD 1 ByteArray.empty)] := by
  match ts, h with
  | [a, b, c], _ => rfl
theorem rows_pos {a : Option Addr} {l : Nat} {s : ByteArray} {W : World} {S : Nat → Prop} (h : RowsAt W S a l (rowsV s)) : 0 < l := by
  have := h.lenEq
  have := (rowsV_bd s).1
  omega
theorem answerTo_two (line : ByteArray) (ts : List ByteArray) (w : World) (hE : EnvD w) (h10 : 10 ≤ w.heap.size) (hs : line.size ≤ 1048575) (hsp : splitB line 32 = kTwo :: ts) :
    Calls Tryz.prog 29 #[.string line] w (ToPost w line) :=
  (answerTo_cmd 0 false 66 (fun ts => pairsM (rowsV (ts.getD 0 ByteArray.empty))) (fun ts => twoB (rowsV (ts.getD 0 ByteArray.empty))) line kTwo ts w (by omega) hE h10 hs hsp
    (enters_of Tryz.func66 (by kernel_rfl) rfl) (fun W => commandOf_two W)
    (fun a1 c1 a2 l2 c2 W hk hE hW hc1 hi hr hc2 => answerTwo_any a1 0 c1 a2 l2 c2 _ W hE hW hr hc2)).mono fun _ _ h => to_of h ((ans_line hsp).trans (two_line ts))
theorem answerTo_kept (line : ByteArray) (ts : List ByteArray) (w : World) (hE : EnvD w) (h10 : 10 ≤ w.heap.size) (hs : line.size ≤ 1048575) (hsp : splitB line 32 = kKept :: ts) :
    Calls Tryz.prog 29 #[.string line] w (ToPost w line) :=
  (answerTo_cmd 0 false 67 (fun ts => jobsM (rowsV (ts.getD 0 ByteArray.empty))) (fun ts => keptB (rowsV (ts.getD 0 ByteArray.empty))) line kKept ts w (by omega) hE h10 hs hsp
    (enters_of Tryz.func67 (by kernel_rfl) rfl) (fun W => commandOf_kept W)
    (fun a1 c1 a2 l2 c2 W hk hE hW hc1 hi hr hc2 => answerKept_any a1 0 c1 a2 l2 c2 _ W hE hW hr hc2)).mono fun _ _ h => to_of h ((ans_line hsp).trans (kept_line ts))
theorem answerTo_lots (line : ByteArray) (ts : List ByteArray) (w : World) (hE : EnvD w) (h10 : 10 ≤ w.heap.size) (hs : line.size ≤ 1048575) (hsp : splitB line 32 = kLots :: ts) :
    Calls Tryz.prog 29 #[.string line] w (ToPost w line) :=
  (answerTo_cmd 2 true 68 (fun ts => validLotsM ((rowsV (ts.getD 2 ByteArray.empty)).getD 0 []) (numV (ts.getD 0 ByteArray.empty)) (numV (ts.getD 1 ByteArray.empty))) (fun ts => lotsB ((rowsV (ts.getD 2 ByteArray.empty)).getD 0 []) (numV (ts.getD 0 ByteArray.empty)) (numV (ts.getD 1 ByteArray.empty))) line kLots ts w (by omega) hE h10 hs hsp
    (enters_of Tryz.func68 (by kernel_rfl) rfl) (fun W => commandOf_lots W)
    (fun a1 c1 a2 l2 c2 W hk hE hW hc1 hi hr hc2 => answerLots_any a1 c1 a2 l2 c2 _ _ _ W hE hW (take_two (ask_get hk).1 ▸ hi) hr (rows_pos hr))).mono fun _ _ h => to_of h ((ans_line hsp).trans (lots_line ts))
theorem answerTo_rolls (line : ByteArray) (ts : List ByteArray) (w : World) (hE : EnvD w) (h10 : 10 ≤ w.heap.size) (hs : line.size ≤ 1048575) (hsp : splitB line 32 = kRolls :: ts) :
    Calls Tryz.prog 29 #[.string line] w (ToPost w line) :=
  (answerTo_cmd 1 true 69 (fun ts => cutsM ((rowsV (ts.getD 1 ByteArray.empty)).getD 0 []) (numV (ts.getD 0 ByteArray.empty))) (fun ts => rollsB ((rowsV (ts.getD 1 ByteArray.empty)).getD 0 []) (numV (ts.getD 0 ByteArray.empty))) line kRolls ts w (by omega) hE h10 hs hsp
    (enters_of Tryz.func69 (by kernel_rfl) rfl) (fun W => commandOf_rolls W)
    (fun a1 c1 a2 l2 c2 W hk hE hW hc1 hi hr hc2 => answerRolls_any a1 c1 a2 l2 c2 _ _ W hE hW (take_one (ask_get hk).1 ▸ hi) hr (rows_pos hr))).mono fun _ _ h => to_of h ((ans_line hsp).trans (rolls_line ts))
theorem answerTo_stock (line : ByteArray) (ts : List ByteArray) (w : World) (hE : EnvD w) (h10 : 10 ≤ w.heap.size) (hs : line.size ≤ 1048575) (hsp : splitB line 32 = kStock :: ts) :
    Calls Tryz.prog 29 #[.string line] w (ToPost w line) :=
  (answerTo_cmd 2 true 70 (fun ts => okO ((rowsV (ts.getD 2 ByteArray.empty)).getD 0 []) (numV (ts.getD 0 ByteArray.empty)) (numV (ts.getD 1 ByteArray.empty))) (fun ts => stockB ((rowsV (ts.getD 2 ByteArray.empty)).getD 0 []) (numV (ts.getD 0 ByteArray.empty)) (numV (ts.getD 1 ByteArray.empty))) line kStock ts w (by omega) hE h10 hs hsp
    (enters_of Tryz.func70 (by kernel_rfl) rfl) (fun W => commandOf_stock W)
    (fun a1 c1 a2 l2 c2 W hk hE hW hc1 hi hr hc2 => answerStock_any a1 c1 a2 l2 c2 _ _ _ W hE hW (take_two (ask_get hk).1 ▸ hi) hr (rows_pos hr))).mono fun _ _ h => to_of h ((ans_line hsp).trans (stock_line ts))
set_option maxRecDepth 100000 in
set_option maxHeartbeats 8000000 in
/-- a line of no command -/
theorem answerTo_none (line x0 : ByteArray) (ts : List ByteArray) (w : World) (hE : EnvD w) (h10 : 10 ≤ w.heap.size) (hs : line.size ≤ 1048575) (hsp : splitB line 32 = x0 :: ts) (k1 : x0 ≠ kTwo) (k2 : x0 ≠ kKept) (k3 : x0 ≠ kLots) (k4 : x0 ≠ kRolls) (k5 : x0 ≠ kStock) :
    Calls Tryz.prog 29 #[.string line] w (ToPost w line) := by
  have HE := Lib.hid hE
  have H10 := Lib.hid h10
  have HW := Lib.hid ((ans_line hsp).trans (what_line x0 ts k1 k2 k3 k4 k5))
  have HCMD := Lib.hid (fun W => commandOf_none x0 W k1 k2 k3 k4 k5)
  have hst : ∀ (W : World) (p : Addr), W.cell? p = some .nilFunc → W.frozen? p = false → (store p .nilFunc).run Tryz.prog W = .ok () (W.setCell p .nilFunc) := by
    intro W p h1 h2; rw [run_store Tryz.prog _ _ _ _ (by rfl)]; simp [h1, h2]
  clear hE h10 k1 k2 k3 k4 k5
  go_enter Tryz.func29, Tryz.ntmps29
  go_wp2_with fail
  refine (strSplit line 32 w HE.out (by omega)).mono ?_
  rintro e w1 ⟨rfl, hst1, hb1, hz1⟩
  rw [hsp] at hst1
  rw [hsp, List.length_cons]
  rw [List.length_cons] at hst1
  have HB1 := Lib.hid hb1
  have HZ1 := Lib.hid hz1
  have hc0 : w1.cell? ⟨w.heap.size, 0, none⟩ = some (.string x0) := by
    obtain ⟨b, o, x, e0, hx, hc⟩ := hst1.get (k := 0) (by omega)
    injection e0 with e0
    injection e0 with q1 q2
    subst q1 q2
    injection hx with hx
    subst hx
    exact hc
  have hn0 : (0 : Int) < ((ts.length + 1 : Nat) : Int) := by omega
  clear hst1 hb1 hz1 hsp
  go_wp2_with fail
  refine (HCMD.out w1).mono ?_
  rintro e w2 ⟨rfl, hb2⟩
  have HB2 := Lib.hid (HB1.out.trans (hb2.mono HB1.out.size))
  have HZ2 := Lib.hid hb2.size
  obtain ⟨v, hv⟩ := (HE.out.below H10.out HB2.out).no
  have HV := Lib.hid hv
  have H102 := Lib.hid (Nat.le_trans H10.out HB2.out.size)
  clear hb2 hc0 hv
  go_wp2_with fail
  have hv3 : (w2.alloc (.cells #[.int .i64 0, .bool false, .nilFunc] 73)).cell? ⟨0, 0, none⟩ = some (.iface 238 v) := by rw [World.cell?_alloc_lt _ _ ⟨0, 0, none⟩ (by have := H102.out; show 0 < _; omega)]; exact HV.out
  go_quiet (fail)
  go_wp2_with fail
  go_ret2
  refine ⟨?_, .inr (.inr ⟨HW.out, _, v, rfl⟩)⟩
  exact below_dn (HB2.out.alloc HB2.out.size _) _
/-- a line's answer, or why there is none -/
theorem answerTo_any (line : ByteArray) (w : World) (hE : EnvD w) (h10 : 10 ≤ w.heap.size) (hs : line.size ≤ 1048575) :
    Calls Tryz.prog 29 #[.string line] w (ToPost w line) := by
  cases hsp : splitB line 32 with
  | nil => have := (splitB_pos line 32).1; rw [hsp] at this; exact absurd this (by decide)
  | cons x0 ts =>
    by_cases k1 : x0 = kTwo
    · subst k1; exact answerTo_two line ts w hE h10 hs hsp
    by_cases k2 : x0 = kKept
    · subst k2; exact answerTo_kept line ts w hE h10 hs hsp
    by_cases k3 : x0 = kLots
    · subst k3; exact answerTo_lots line ts w hE h10 hs hsp
    by_cases k4 : x0 = kRolls
    · subst k4; exact answerTo_rolls line ts w hE h10 hs hsp
    by_cases k5 : x0 = kStock
    · subst k5; exact answerTo_stock line ts w hE h10 hs hsp
    exact answerTo_none line x0 ts w hE h10 hs hsp k1 k2 k3 k4 k5
set_option maxRecDepth 100000 in
set_option maxHeartbeats 8000000 in
/-- the reply to a line -/
theorem replyTo_any (line : ByteArray) (w : World) (hE : EnvD w) (h10 : 10 ≤ w.heap.size) (hs : line.size ≤ 1048575) :
    Calls Tryz.prog 25 #[.string line] w fun e w' => e = .returned (.string (ansB line)) ∧ Below w.heap.size w w' := by
  have HE := Lib.hid hE
  have H10 := Lib.hid h10
  have HC := Lib.hid (answerTo_any line w hE h10 hs)
  have n1 := iface_ne
  have n2 := nil_ne
  clear hE h10
  go_enter Tryz.func25, Tryz.ntmps25
  go_wp2_with fail
  refine HC.out.mono ?_
  rintro e w1 ⟨hb1, rfl | ⟨ha, q, m, rfl⟩ | ⟨ha, q, v, rfl⟩⟩
  · have HB1 := Lib.hid hb1
    obtain ⟨X, hX⟩ : ∃ X, X = ansB line := ⟨_, rfl⟩
    have HX := Lib.hid hX
    rw [← hX]
    clear hb1 hX
    go_wp2_with (go_at_call 30; refine (as_nil _ _).mono ?_; rintro e w' ⟨rfl, hw⟩; subst hw)
    go_ret
    exact ⟨ret_str HX.out, HB1.out.alloc HB1.out.size _⟩
  · have HA := Lib.hid ha
    have HB1 := Lib.hid hb1
    have hty : (w1.alloc (.cells #[.string ByteArray.empty] 56)).cell? ⟨1, 0, none⟩ = some (.iface 110 (.agg #[hdl 52])) := by
      rw [World.cell?_alloc_lt _ _ ⟨1, 0, none⟩ (by have := H10.out; have := HB1.out.size; show 1 < _; omega)]; exact (HE.out.below H10.out hb1).ty
    have HTY := Lib.hid hty
    clear hb1 ha hty
    go_wp2_with fail
    refine (as_hit m ⟨w1.heap.size, 0, none⟩ (.string ByteArray.empty) _ HTY.out (by simp) (by simp)).mono ?_
    rintro e w2 ⟨rfl, hb2⟩
    have HB2 := Lib.hid ((HB1.out.alloc HB1.out.size _).trans (hb2 w.heap.size HB1.out.size))
    clear hb2
    go_wp2_with fail
    go_ret
    exact ⟨by rw [HA.out]; rfl, HB2.out⟩
  · have HA := Lib.hid ha
    have HB1 := Lib.hid hb1
    have hty : (w1.alloc (.cells #[.string ByteArray.empty] 56)).cell? ⟨1, 0, none⟩ = some (.iface 110 (.agg #[hdl 52])) := by
      rw [World.cell?_alloc_lt _ _ ⟨1, 0, none⟩ (by have := H10.out; have := HB1.out.size; show 1 < _; omega)]; exact (HE.out.below H10.out hb1).ty
    have HTY := Lib.hid hty
    clear hb1 ha hty
    go_wp2_with fail
    refine (as_miss v ⟨w1.heap.size, 0, none⟩ _ HTY.out).mono ?_
    rintro e w2 ⟨rfl, hb2⟩
    have HB2 := Lib.hid ((HB1.out.alloc HB1.out.size _).trans (hb2.mono (by have := HB1.out.size; simp; omega)))
    clear hb2
    go_wp2_with fail
    go_ret
    exact ⟨by rw [HA.out]; rfl, HB2.out⟩
set_option maxRecDepth 100000 in
set_option maxHeartbeats 4000000 in
/-- the desk -/
theorem runDesk_impl (S : Nat → Prop) (a : Option Addr) (len cap : Nat) (ls : List ByteArray) (w : World) (hE : EnvD w) (h10 : 10 ≤ w.heap.size) (hS : ∀ b, S b → b < w.heap.size) (h : StrsAt w S a len ls) (hl : ∀ l ∈ ls, l.size ≤ 1048575) :
    Calls Tryz.prog 6 #[.slice a len cap] w (fun e w' => e = .returned (.string (deskRes ls)) ∧ Below w.heap.size w w') := by
  have HL := Lib.hid h.lenEq
  by_cases h20 : 20 < len
  · have HE := Lib.hid (show deskRes ls = ByteArray.empty from if_neg (by rw [HL.out]; omega))
    have h20i : (20 : Int) < (len : Int) := by omega
    clear h20
    go_enter Tryz.func6, Tryz.ntmps6
    go_wp2
    go_ret
    exact ⟨ret_str HE.out.symm, Below.refl _ _⟩
  · have HR := Lib.hid (show deskRes ls = deskB ls from if_pos (by rw [HL.out]; omega))
    have h20i : ¬ (20 : Int) < (len : Int) := by omega
    have HE := Lib.hid hE
    have H10 := Lib.hid h10
    have HZ := Lib.hid (deskB_size ans_size)
    have HS := Lib.hid hS
    have HLL := Lib.hid hl
    clear hE h10 hS hl
    go_enter Tryz.func6, Tryz.ntmps6
    go_wp2
    go_loopw [3, 11] (fun o i wr => ∃ k : Nat, k ≤ len ∧ i = .int .i64 k ∧ o = .string (deskB (ls.take k)) ∧ Below w.heap.size w wr) (fun _ i _ => len - (intOf i).toNat)
    case atStart => exact ⟨0, Nat.zero_le _, rfl, rfl, Below.refl _ _⟩
    case round =>
      obtain ⟨k, hk, rfl, rfl, hB⟩ := hrel
      have HB := Lib.hid hB
      by_cases hlt : k < len
      · have hki : (k : Int) < (len : Int) := by omega
        obtain ⟨b, off, l, rfl, hlk, hc⟩ := (h.to (w' := wr) (S' := S) fun b hb => ⟨hb, hB.block b (HS.out b hb)⟩).get hlt
        have hll := HLL.out l (List.mem_of_getElem? hlk)
        have HK := Lib.hid (show deskB (ls.take (k + 1)) = deskB (ls.take k) ++ (ansB l ++ sgnB 10) by rw [take_get hlk, deskB_snoc, ByteArray.append_assoc])
        have s1 := HZ.out (ls.take k)
        have s2 := ans_size l
        have s3 : (ls.take k).length ≤ 20 := by rw [List.length_take]; omega
        have s4 : (ls.take k).length * (400 + 1) ≤ 20 * (400 + 1) := Nat.mul_le_mul_right _ s3
        generalize deskB (ls.take k) = L at *
        have HAN := Lib.hid (replyTo_any l wr (HE.out.below H10.out hB) (Nat.le_trans H10.out hB.size) hll)
        clear hlk hB
        generalize ansB l = X at *
        have t1 : ¬ 9223372036854775807 < X.size + (⟨#[10]⟩ : ByteArray).size := by show ¬ _ < _ + 1; omega
        have t2 : ¬ 9223372036854775807 < L.size + (X ++ (⟨#[10]⟩ : ByteArray)).size := by rw [ByteArray.size_append]; show ¬ _ < _ + (_ + 1); omega
        clear s1 s2 s3 s4
        go_wp2_with fail
        refine HAN.out.mono ?_
        rintro e w2 ⟨rfl, hb2⟩
        have HB2 := Lib.hid (HB.out.trans (hb2.mono HB.out.size))
        clear hb2
        go_wp2_with fail
        go_roundw
        case rel => exact ⟨k + 1, by omega, by go_num, by rw [HK.out]; rfl, HB2.out⟩
        case measure => simp [intOf] <;> omega
      · obtain rfl : k = len := by omega
        have HT := Lib.hid (show deskRes ls = deskB (ls.take k) by rw [HR.out, List.take_of_length_le (by rw [HL.out]; omega)])
        clear hB
        go_wp2_with fail
        go_ret
        exact ⟨ret_str HT.out.symm, HB.out⟩
end Go.Proofs.YtjcbpnffmebihaaGreatDoor
namespace Go.Proofs.YtjcbpnffmebihaaGreatDoor
open Go.RowKit Go.WideShapes

/-! FnExactRunDesk: sizes, copies, and comparing lists of texts. -/
def sumZ : List ByteArray → Nat
  | [] => 0
  | s :: ss => s.size + sumZ ss
theorem sumZ_snoc (ss : List ByteArray) (s : ByteArray) : sumZ (ss ++ [s]) = sumZ ss + s.size := by
  induction ss with
  | nil => simp [sumZ]
  | cons x xs ih => rw [List.cons_append, sumZ, sumZ, ih]; omega
theorem sumZ_take {ss : List ByteArray} {k : Nat} {s : ByteArray} (h : ss[k]? = some s) : sumZ (ss.take (k + 1)) = sumZ (ss.take k) + s.size := by rw [take_get h, sumZ_snoc]
theorem sumZ_mem {ss : List ByteArray} {s : ByteArray} (h : s ∈ ss) : s.size ≤ sumZ ss := by
  induction ss with
  | nil => cases h
  | cons x xs ih =>
    rw [sumZ]
    rcases List.mem_cons.1 h with rfl | h
    · omega
    · have := ih h; omega
set_option maxRecDepth 100000 in
set_option maxHeartbeats 2000000 in
/-- how much is left of a size, below 0 if not enough -/
theorem szStringS_any (S : Nat → Prop) (a : Option Addr) (len cap : Nat) (ss : List ByteArray) (w : World) (h : StrsAt w S a len ss) (hz : ∀ s ∈ ss, s.size ≤ 9223372036854775807) (hl : len ≤ 9223372036854775807) :
    Calls Tryz.prog 9 #[.slice a len cap, .int .i64 1048576] w fun e w' => (∃ r : Int, e = .returned (.int .i64 r) ∧ (r < 0 ∨ (0 ≤ r ∧ len + sumZ ss ≤ 1048576))) ∧ w' = w := by
  have HL := Lib.hid h.lenEq
  have HZ := Lib.hid hz
  have hw1 : IntKind.i64.wrap (1048576 - (len : Int)) = 1048576 - (len : Int) := IntWalk.i64_in _ (by omega)
  clear hz
  go_enter Tryz.func9, Tryz.ntmps9
  by_cases h1 : len ≤ 1048576
  · have h1I : ¬ 1048576 - (len : Int) < 0 := by omega
    go_wp2_with fail
    go_loop [1, 5] (fun v i => ∃ k : Nat, k ≤ len ∧ i = .int .i64 k ∧ v = .int .i64 (1048576 - (len : Int) - (sumZ (ss.take k) : Nat)) ∧ len + sumZ (ss.take k) ≤ 1048576) (fun _ i => len - (intOf i).toNat)
    case atStart => exact ⟨0, Nat.zero_le _, rfl, by simp [sumZ], by simp [sumZ]; exact h1⟩
    case round =>
      obtain ⟨k, hk, rfl, rfl, hsum⟩ := hrel
      by_cases hlt : k < len
      · have hki : (k : Int) < (len : Int) := by omega
        obtain ⟨b, off, s, rfl, hsk, hc⟩ := h.get hlt
        have hsz := HZ.out s (List.mem_of_getElem? hsk)
        have HT := Lib.hid (sumZ_take hsk)
        clear hsk
        generalize sumZ (ss.take k) = T at *
        have hw2 : IntKind.i64.wrap (1048576 - (len : Int) - (T : Int) - (s.size : Int)) = 1048576 - (len : Int) - (T : Int) - (s.size : Int) := IntWalk.i64_in _ (by omega)
        by_cases h2 : 1048576 - (len : Int) - (T : Int) - (s.size : Int) < 0
        · go_wp2_with fail
          go_ret
          exact ⟨⟨-1, rfl, Or.inl (by omega)⟩, rfl⟩
        · go_wp2_with fail
          go_round
          case rel => exact ⟨k + 1, by omega, by go_num, by rw [HT.out]; go_num, by rw [HT.out]; omega⟩
          case measure => simp [intOf] <;> omega
      · obtain rfl : k = len := by omega
        have HE := Lib.hid (show sumZ (ss.take k) = sumZ ss by rw [List.take_of_length_le (by rw [HL.out]; omega)])
        rw [HE.out] at hsum
        rw [HE.out]
        go_wp2_with fail
        go_ret
        refine ⟨⟨_, rfl, ?_⟩, rfl⟩
        omega
  · have h1I : 1048576 - (len : Int) < 0 := by omega
    go_wp2_with fail
    go_ret
    exact ⟨⟨-1, rfl, Or.inl (by omega)⟩, rfl⟩
/-- texts copied so far -/
def copiedB (ss : List ByteArray) (k len : Nat) : List ByteArray := ss.take k ++ List.replicate (len - k) ByteArray.empty
theorem copied_zero (ss : List ByteArray) (len : Nat) : copiedB ss 0 len = List.replicate len ByteArray.empty := by simp [copiedB]
theorem copied_all {ss : List ByteArray} {len : Nat} (h : ss.length = len) : copiedB ss len len = ss := by
  unfold copiedB; rw [List.take_of_length_le (by omega)]; simp
theorem copied_put {ss : List ByteArray} {k len : Nat} {x : ByteArray} (hx : ss[k]? = some x) (hk : k < len) : (copiedB ss k len).set k x = copiedB ss (k + 1) len := by
  have hl : k < ss.length := (List.getElem?_eq_some_iff.1 hx).1
  unfold copiedB
  rw [take_get hx, List.set_append, if_neg (by simp; omega)]
  have : k - (ss.take k).length = 0 := by simp; omega
  rw [this, show len - k = (len - (k + 1)) + 1 by omega, List.replicate_succ, List.set_cons_zero]
  simp
theorem copied_at {ss : List ByteArray} {k len : Nat} (hk : k < len) (hl : ss.length = len) : (copiedB ss k len)[k]? = some ByteArray.empty := by
  unfold copiedB
  rw [List.getElem?_append_right (by simp; omega), show k - (ss.take k).length = 0 by simp; omega, List.getElem?_replicate, if_pos (by omega)]
set_option maxRecDepth 100000 in
set_option maxHeartbeats 2000000 in
/-- a copy -/
theorem toStringS_any (a : Option Addr) (len cap : Nat) (ss : List ByteArray) (w : World) (h : StrsAt w (· < w.heap.size) a len ss) (hl : len ≤ 1048576) :
    Calls Tryz.prog 10 #[.slice a len cap] w fun e w' => e = .returned (.slice (some ⟨w.heap.size, 0, none⟩) len len) ∧ OwnS w w' len ss := by
  have HL := Lib.hid h.lenEq
  have hmk := fun w => run_make_row' (P := Tryz.prog) 23 9 (.string ByteArray.empty) 16 Tryz.underlying23 Tryz.infoStr rfl .i64 .i64 len (by omega) (by omega) w
  have HO0 := Lib.hid (OwnS.start w len hl)
  go_enter Tryz.func10, Tryz.ntmps10
  go_wp2_with fail
  clear hmk
  go_loopw [4] (fun i wr => ∃ k : Nat, k ≤ len ∧ i = .int .i64 k ∧ OwnS w wr len (copiedB ss k len)) (fun i _ => len - (intOf i).toNat)
  case atStart => exact ⟨0, Nat.zero_le _, rfl, by rw [copied_zero]; exact HO0.out⟩
  case round =>
    obtain ⟨k, hk, rfl, hO⟩ := hrel
    have HO := Lib.hid hO
    by_cases hlt : k < len
    · have hki : (k : Int) < (len : Int) := by omega
      obtain ⟨b, off, x, rfl, hxk, hc⟩ := (h.to (w' := wr) (S' := (· < w.heap.size)) fun b hb => ⟨hb, hO.below.block b hb⟩).get hlt
      have HP := Lib.hid (copied_put (k := k) (len := len) hxk hlt)
      obtain ⟨q0, q1⟩ := hO.cell (copied_at hlt HL.out)
      clear hO hxk
      go_wp2_with fail
      go_roundw
      case rel => exact ⟨k + 1, by omega, by go_num, by rw [← HP.out]; exact HO.out.put k x⟩
      case measure => simp [intOf] <;> omega
    · obtain rfl : k = len := by omega
      clear hO
      go_wp2_with fail
      go_ret
      exact ⟨rfl, by have := HO.out; rwa [copied_all HL.out] at this⟩
theorem OwnS.at' {w wr : World} {len : Nat} {ss : List ByteArray} (h : OwnS w wr len ss) (hl : len ≤ 1048576) : StrsAt wr (fun b => b = w.heap.size) (some ⟨w.heap.size, 0, none⟩) len ss :=
  ⟨h.len, by omega, fun _ => ⟨w.heap.size, 0, rfl, rfl, fun i x hx => by rw [Nat.zero_add]; exact (h.cell hx).1⟩⟩
set_option maxRecDepth 100000 in
set_option maxHeartbeats 2000000 in
/-- two lists of the same texts are equal -/
theorem eqStringS_any (S T : Nat → Prop) (a : Option Addr) (len cap : Nat) (a2 : Option Addr) (cap2 : Nat) (ss : List ByteArray) (w : World) (h : StrsAt w S a len ss) (g : StrsAt w T a2 len ss) :
    Calls Tryz.prog 11 #[.slice a len cap, .slice a2 len cap2] w fun e w' => e = .returned (.bool true) ∧ Below w.heap.size w w' := by
  have hs := h.small
  go_enter Tryz.func11, Tryz.ntmps11
  go_wp2_with fail
  go_loopw [5] (fun i wr => ∃ k : Nat, k ≤ len ∧ i = .int .i64 k ∧ ∃ n, w.drewN n = wr) (fun i _ => len - (intOf i).toNat)
  case atStart => exact ⟨0, Nat.zero_le _, rfl, 0, rfl⟩
  case round =>
    obtain ⟨k, hk, rfl, n, hn⟩ := hrel
    by_cases hlt : k < len
    · have hki : (k : Int) < (len : Int) := by omega
      obtain ⟨b, off, x, rfl, hxk, hc⟩ := (h.to (w' := wr) (S' := S) fun b hb => ⟨hb, by rw [← hn]; rfl⟩).get hlt
      obtain ⟨b2, off2, y, rfl, hyk, hc2⟩ := (g.to (w' := wr) (S' := T) fun b hb => ⟨hb, by rw [← hn]; rfl⟩).get hlt
      rw [hxk] at hyk
      injection hyk with hyk
      subst hyk
      have heq : (x.toList == x.toList) = true := beq_self_eq_true _
      have HN := Lib.hid hn
      clear hn hxk
      go_wp2_with fail
      go_quiet (fail)
      go_wp2_with fail
      go_roundw
      case rel => exact ⟨k + 1, by omega, by go_num, n + nq, by rw [← HN.out, World.drewN_drewN]⟩
      case measure => simp [intOf] <;> omega
    · obtain rfl : k = len := by omega
      have HN := Lib.hid hn
      clear hn
      go_wp2_with fail
      go_ret
      exact ⟨rfl, by rw [← HN.out]; exact below_dn (Below.refl _ _) _⟩
set_option maxRecDepth 100000 in
set_option maxHeartbeats 4000000 in
/-- the law FnExactRunDesk -/
theorem fnExactRunDesk_any (a : Option Addr) (len cap : Nat) (ss : List ByteArray) (w : World) (hE : EnvD w) (h10 : 10 ≤ w.heap.size) (h : StrsAt w (· < w.heap.size) a len ss) (hz : ∀ s ∈ ss, s.size ≤ 9223372036854775807) (hl : len ≤ 9223372036854775807) :
    Calls Tryz.prog 4 #[.slice a len cap] w (LawPost w) := by
  have HE := Lib.hid hE
  have H10 := Lib.hid h10
  have H := Lib.hid h
  have HZ := Lib.hid hz
  clear hE h10 h hz
  go_enter Tryz.func4, Tryz.ntmps4
  go_wp2_with fail
  refine (szStringS_any _ a len cap ss w H.out HZ.out hl).mono ?_
  rintro e w1 ⟨⟨r, rfl, hr⟩, hw⟩
  subst hw
  rcases hr with hr | ⟨hr, hsum⟩
  · go_wp2_with fail
    go_ret
    exact ⟨rfl, Below.refl _ _⟩
  · have hrI : ¬ r < 0 := by omega
    have HLZ := Lib.hid (show ∀ s ∈ ss, s.size ≤ 1048575 from fun s hs => by
      have h1 := sumZ_mem hs
      have h2 := H.out.lenEq
      have h3 := List.length_pos_of_mem hs
      omega)
    have hl1 : len ≤ 1048576 := by omega
    have HLL := Lib.hid hl1
    clear hr hsum
    go_wp2_with fail
    refine (toStringS_any a len cap ss w1 H.out hl1).mono ?_
    rintro e w2 ⟨rfl, hO2⟩
    have HO2 := Lib.hid hO2
    have HB2 := Lib.hid hO2.below
    clear hO2
    go_wp2_with fail
    refine (runDesk_spec (· < w2.heap.size) _ len len ss w2 (fun b hb => hb) ((HO2.out.at' HLL.out).to fun b hb => ⟨by rw [hb]; exact (HO2.out.own.lt _ rfl).2, rfl⟩) HLZ.out).mono ?_
    rintro e w3 ⟨rfl, hb3⟩
    have HB3 := Lib.hid (HB2.out.trans (hb3.mono HB2.out.size))
    clear hb3
    go_wp2_with fail
    refine (toStringS_any a len cap ss w3 (H.out.to fun b hb => ⟨Nat.lt_of_lt_of_le hb HB3.out.size, HB3.out.block b hb⟩) HLL.out).mono ?_
    rintro e w4 ⟨rfl, hO4⟩
    have HO4 := Lib.hid hO4
    have HB4 := Lib.hid (HB3.out.trans (hO4.below.mono HB3.out.size))
    clear hO4
    go_wp2_with fail
    refine (runDesk_impl (· < w4.heap.size) _ len len ss w4 (HE.out.below H10.out HB4.out) (Nat.le_trans H10.out HB4.out.size) (fun b hb => hb) ((HO4.out.at' HLL.out).to fun b hb => ⟨by rw [hb]; exact (HO4.out.own.lt _ rfl).2, rfl⟩) HLZ.out).mono ?_
    rintro e w5 ⟨rfl, hb5⟩
    have HO5 := Lib.hid (HO4.out.up hb5)
    have HB5 := Lib.hid (HB4.out.trans (hb5.mono HB4.out.size))
    clear hb5
    generalize deskRes ss = X at *
    have heq : (X.toList == X.toList) = true := beq_self_eq_true _
    go_wp2_with fail
    refine (toStringS_any a len cap ss w5 (H.out.to fun b hb => ⟨Nat.lt_of_lt_of_le hb HB5.out.size, HB5.out.block b hb⟩) HLL.out).mono ?_
    rintro e w6 ⟨rfl, hO6⟩
    have HO6 := Lib.hid hO6
    have HB6 := Lib.hid (HB5.out.trans (hO6.below.mono HB5.out.size))
    have HO56 := Lib.hid (HO5.out.up hO6.below)
    clear hO6
    go_wp2_with fail
    refine (eqStringS_any _ _ _ len len _ len ss w6 (HO56.out.at' HLL.out) (HO6.out.at' HLL.out)).mono ?_
    rintro e w7 ⟨rfl, hb7⟩
    have HB7 := Lib.hid (HB6.out.trans (hb7.mono HB6.out.size))
    clear hb7
    go_wp2_with fail
    go_ret
    exact ⟨rfl, HB7.out⟩
end Go.Proofs.YtjcbpnffmebihaaGreatDoor
