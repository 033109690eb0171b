import Derived.Test.YthmifadnfaajbadRows
import Derived.WalkKit
import Derived.LoopTactic
import Derived.Outline
import Derived.WalkSpells
import Derived.WalkLawsBesides
import Derived.ProofKit
import Derived.Lib.Hide
import Derived.IntWalk
import Derived.Deep.QuietTactic
import Derived.BigQuiet
import Derived.Deep.RegionHeld3
import Derived.Test.YthmifadnfaajbadM0
import Derived.Test.YthmifadnfaajbadM1
import Derived.Test.YthmifadnfaajbadM8
import Derived.Test.YthmifadnfaajbadM10
import Derived.Test.YthmifadnfaajbadM11
namespace Go.Proofs.Ythmifadnfaajbad
open Go.RowKit Go.WideShapes

-- chapter 11: PatternsOf, the model
theorem pre_ints {w : World} {S : Nat → Prop} {b off l : Nat} {s : Int} {ss : List Int} (h : IntsAt w S (some ⟨b, off, none⟩) (l + 1) (s :: ss)) : w.cell? ⟨b, off, none⟩ = some (.int .i64 s) ∧ IntsAt w S (some ⟨b, off + 1, none⟩) l ss := by
  have hl := h.lenEq
  have hs := h.small
  obtain ⟨b', off', e, hb, hc⟩ := h.cells (by omega)
  injection e with e; injection e with e1 e2
  subst e1 e2
  exact ⟨hc 0 s rfl, by simpa using hl, by omega, fun _ => ⟨b, off + 1, rfl, hb, fun i x hx => by
    have := hc (i + 1) x (by simpa using hx)
    rwa [show off + (i + 1) = off + 1 + i by omega] at this⟩⟩
def PatP (w : World) (rows : List (List Int)) (e : Ending) (w' : World) : Prop := ∃ v, e = .returned v ∧ Pats w' w.heap.size v rows ∧ Below w.heap.size w w'
/-- behind j rows of the list that lies in w3's blocks from H0 on -/
structure PatI (w : World) (H0 : Nat) (w3 wy : World) (v : Value) (rows : List (List Int)) : Prop where
  out : Pats wy w.heap.size v rows
  below : Below w.heap.size w wy
  lst : ∀ q, H0 ≤ q → q < w3.heap.size → wy.heap[q]? = w3.heap[q]?
  own : ∀ q, v.ownBlock = some q → q < H0 ∨ w3.heap.size ≤ q
  size : w3.heap.size ≤ wy.heap.size
theorem Pats.own {w : World} {B : Nat} {v : Value} {rows : List (List Int)} (h : Pats w B v rows) : ∀ q, v.ownBlock = some q → B ≤ q ∧ q < w.heap.size := by
  obtain ⟨us, h1, _⟩ := h
  exact fun q hq => h1.lt q hq
set_option maxRecDepth 100000 in
set_option maxHeartbeats 4000000 in
theorem patFrom_spec : ∀ (ss : List Int) (R : Int) (w : World) (a : Option Addr) (len cap : Nat), IntsAt w (· < w.heap.size) a len ss → len ≤ cap → len ≤ 3 → 0 ≤ R → R ≤ 20 → (∀ s ∈ ss, 1 ≤ s ∧ s ≤ 20) →
    Calls Try.prog 16 #[.slice a len cap, .int .i64 R] w (PatP w (patS ss R)) := by
  intro ss
  induction ss with
  | nil =>
    intro R w a len cap h hc h3 hR0 hR hs
    have hl : len = 0 := by simpa using h.lenEq.symm
    subst hl
    clear h
    have ho := World.ownsRow_made (base := w.heap.size) (size := 1) (e := 3) w #[] 0 (Nat.le_refl _) (Nat.zero_le _) rfl
    have hp := Pats.one (w := w.alloc (.cells #[] 3)) (B := w.heap.size) (r := []) (g := w.heap.size) (c := 0) (by simp) ho (by simp)
    have hsz : (w.alloc (.cells #[] 3)).heap.size = w.heap.size + 1 := by simp
    rw [hsz] at hp
    have HP := Lib.hid hp
    have HB := Lib.hid (((Below.refl w.heap.size w).alloc (Nat.le_refl _) (.cells #[] 3)).alloc (by simp) (.cells #[.slice (some ⟨w.heap.size, 0, none⟩) 0 0] 23))
    clear ho hp hsz
    go_enter Try.func16, Try.ntmps16
    go_wp2_with fail
    go_ret
    exact ⟨_, rfl, HP.out, HB.out⟩
  | cons s ss ih =>
    intro R w a len cap h hc h3 hR0 hR hs
    obtain ⟨l, rfl⟩ : ∃ l, len = l + 1 := ⟨ss.length, by simpa using h.lenEq.symm⟩
    obtain ⟨b, off, rfl, hbs, _⟩ := h.cells (by omega)
    have hs1 := hs s (by simp)
    have HSS := Lib.hid (fun s' (h' : s' ∈ ss) => hs s' (by simp [h']))
    have HC := Lib.hid (fun (W : World) (hb : Below w.heap.size w W) => show W.cell? ⟨b, off, none⟩ = some (.int .i64 s) from (pre_ints (h.below hb)).1)
    have HT := Lib.hid (fun (W : World) (hb : Below w.heap.size w W) => show IntsAt W (· < W.heap.size) (some ⟨b, off + 1, none⟩) l ss from (pre_ints (h.below hb)).2.to (fun k hk => ⟨by have := hb.size; omega, rfl⟩))
    obtain ⟨N, hN⟩ : ∃ N, (R / s).toNat = N := ⟨_, rfl⟩
    have hq0 : 0 ≤ R / s := Int.ediv_nonneg hR0 (by omega)
    have hqs : R / s * s ≤ R := Int.ediv_mul_le R (by omega)
    have hNe : R / s = (N : Int) := by omega
    rw [hNe] at hqs
    have hNt : R.tdiv s = (N : Int) := by rw [Int.tdiv_eq_ediv_of_nonneg hR0]; exact hNe
    have hs0 : ¬ s = 0 := by omega
    have HN := Lib.hid (fun n : Nat => fun (hn : n ≤ N) => show 0 ≤ (n : Int) * s ∧ (n : Int) * s ≤ R from ⟨Int.mul_nonneg (by omega) (by omega), Int.le_trans (Int.mul_le_mul_of_nonneg_right (by omega) (by omega)) hqs⟩)
    have hN20 : N ≤ 20 := by
      have := Int.mul_le_mul_of_nonneg_left hs1.1 (show (0 : Int) ≤ (N : Int) by omega)
      omega
    have HF := Lib.hid (show patS (s :: ss) R = catD (fun n => (patS ss (R - n * s)).map (fun c => (n : Int) :: c)) N (N + 1) by rw [patS, hN])
    have HLN := Lib.hid (fun (R' : Int) (hR' : R' ≤ 20) => show (patS ss R').length ≤ 441 by
      have a := patS_len ss R' hR' (fun s' h' => (HSS.out s' h').1)
      have hl2 : ss.length ≤ 2 := by have := h.lenEq; simp at this; omega
      have b : 21 ^ ss.length ≤ 21 ^ 2 := Nat.pow_le_pow_right (by omega) hl2
      have d : (21 : Nat) ^ 2 = 441 := by decide
      omega)
    have HML := Lib.hid (fun (R' : Int) (hR' : 0 ≤ R') (c : List Int) (hc : c ∈ patS ss R') => show c.length = ss.length from (patS_mem ss R' c hR' (fun s' h' => (HSS.out s' h').1) hc).1)
    have HSL := Lib.hid (show ss.length = l by simpa using h.lenEq)
    have HCL := Lib.hid (fun k (hk : k ≤ N + 1) => show (catD (fun n => (patS ss (R - n * s)).map (fun c => (n : Int) :: c)) N k).length ≤ 441 * 21 by
      refine Nat.le_trans (catD_len (m := 441) (fun n => ?_) k) (Nat.mul_le_mul_left _ (by omega))
      rw [List.length_map]
      exact HLN.out _ (by have := Int.mul_nonneg (show (0 : Int) ≤ (n : Int) by omega) (show 0 ≤ s by omega); omega))
    have HST := Lib.hid (fun k => show catD (fun n => (patS ss (R - n * s)).map (fun c => (n : Int) :: c)) N (k + 1) = catD (fun n => (patS ss (R - n * s)).map (fun c => (n : Int) :: c)) N k ++ (patS ss (R - (N - k : Nat) * s)).map (fun c => ((N - k : Nat) : Int) :: c) from rfl)
    have HZ := Lib.hid (show catD (fun n => (patS ss (R - n * s)).map (fun c => (n : Int) :: c)) N 0 = [] from rfl)
    generalize catD (fun n => (patS ss (R - n * s)).map (fun c => (n : Int) :: c)) N = cat at HF HCL HST HZ
    rw [HF.out]
    have c0 := HC.out w (Below.refl _ _)
    have hlz : ((l : Int) + 1 == 0) = false := beq_false_of_ne (by omega)
    have HP0 := Lib.hid (Pats.empty w w.heap.size (Nat.le_refl _))
    have HIH := Lib.hid ih
    clear h hs hqs hq0 hNe ih
    go_enter Try.func16, Try.ntmps16
    go_wp2_with fail
    clear c0
    obtain hcc | ⟨c, hcc⟩ : cap = 1 ∨ ∃ c, cap = c + 2 := by
      rcases Nat.lt_or_ge 1 cap with g | g
      · exact .inr ⟨cap - 2, by omega⟩
      · exact .inl (by omega)
    · have hl00 : l = 0 := by omega
      subst hcc
      subst hl00
      clear hc hlz
      go_loopw [5, 6] (fun s5 s6 wr => ∃ k : Nat, k ≤ N + 1 ∧ s6 = .int .i64 ((N : Int) - k) ∧ ∃ (m0 cp0 : Nat) (ax0 : Option Addr), s5 = .slice ax0 m0 cp0 ∧ Pats wr w.heap.size (.slice ax0 m0 cp0) (cat k) ∧ Below w.heap.size w wr) (fun _ s6 _ => (intOf s6 + 1).toNat)
      case atStart => exact ⟨0, Nat.zero_le _, by simp, 0, 0, _, rfl, by rw [HZ.out]; exact HP0.out, (Below.refl _ _).alloc (Nat.le_refl _) _⟩
      case round =>
        clear HP0
        obtain ⟨k, hk, rfl, m0, cp0, ax0, rfl, hp, hb⟩ := hrel
        obtain ⟨wo, rfl⟩ : ∃ wo : World, wo = wr := ⟨_, rfl⟩
        by_cases hlt : k < N + 1
        · obtain ⟨n, hn⟩ : ∃ n, N - k = n := ⟨_, rfl⟩
          have hnI : (N : Int) - k = (n : Int) := by omega
          rw [hnI]
          obtain ⟨hp0, hp1⟩ := HN.out n (by omega)
          have HSK := Lib.hid (HST.out k)
          rw [hn] at HSK
          have c1 := HC.out wo hb
          have hlk := HCL.out k (by omega)
          obtain ⟨rk, hrk⟩ : ∃ r, cat k = r := ⟨_, rfl⟩
          rw [hrk] at hp HSK hlk
          obtain ⟨pr, hpr⟩ : ∃ pr, (n : Int) * s = pr := ⟨_, rfl⟩
          rw [hpr] at hp0 hp1 HSK
          have hw1 : IntKind.i64.wrap ((n : Int) * s) = pr := by rw [hpr]; exact IntWalk.i64_in _ (by omega)
          have hw2 : IntKind.i64.wrap (R - pr) = R - pr := IntWalk.i64_in _ (by omega)
          have HREC := Lib.hid (show Calls Try.prog 16 #[.slice (some ⟨b, off, none⟩) 0 (0), .int .i64 (R - pr)] wo.drew (PatP wo.drew (patS ss (R - pr))) from HIH.out (R - pr) wo.drew _ 0 _ (by have := HSL.out; exact ⟨this, by omega, fun h => by omega⟩) (by omega) (by omega) (by omega) (by omega) HSS.out)
          have hll := HLN.out (R - pr) (by omega)
          have hml := fun c hc => HML.out (R - pr) (by omega) c hc
          have HML2 := Lib.hid hml
          obtain ⟨rl, hrl⟩ : ∃ r, patS ss (R - pr) = r := ⟨_, rfl⟩
          rw [hrl] at HREC hll HSK HML2
          have HPP := Lib.hid hp
          have HBB := Lib.hid hb
          have hbw : b < wo.heap.size := Nat.lt_of_lt_of_le hbs hb.size
          have hnn : (0 : Int) ≤ (n : Int) := by omega
          have hw3 : IntKind.i64.wrap ((n : Int) - 1) = (n : Int) - 1 := IntWalk.i64_in _ (by omega)
          have HNI := Lib.hid hnI
          have HNK := Lib.hid hn
          clear hp hb hrk hpr hrl hml hnI hn
          go_wp2_with fail
          go_region_held3 (fun w' => w'.cell? ⟨b, off, none⟩ = some (.int .i64 s)) (first | go_keep | exact k1)
            (first | (go_at_call 16; refine HREC.out.mono ?_; rintro e w3 ⟨vL, rfl, hpL, hb3⟩; have k1 := (hb3.cell (p := ⟨b, off, none⟩) hbw).trans c1))
          have hs3 : wo.heap.size ≤ w3.heap.size := hb3.size
          have HB3 := Lib.hid (HBB.out.drew.trans (hb3.mono (by show w.heap.size ≤ wo.heap.size; exact HBB.out.size)))
          have hpo := HPP.out.own
          have HI0 := Lib.hid (show PatI w wo.heap.size w3 w3 (.slice ax0 m0 cp0) rk from ⟨HPP.out.keep (fun q _ hq => hb3.block q hq), HB3.out, fun q _ _ => rfl, fun q hq => .inl (hpo q hq).2, Nat.le_refl _⟩)
          have HPL := Lib.hid (show Pats w3 wo.heap.size vL rl from hpL)
          obtain ⟨aL, cL, rfl, hcL⟩ := hpL.slice
          clear hpL hb3 hw1 hw2 c1 k1 hpo HPP HREC
          go_wp2_with fail
          go_loopw [5, 8] (fun t5 t8 wy => ∃ j : Nat, j ≤ rl.length ∧ t8 = .int .i64 j ∧ ∃ (m1 cp1 : Nat) (ax1 : Option Addr), t5 = .slice ax1 m1 cp1 ∧ PatI w wo.heap.size w3 wy (.slice ax1 m1 cp1) (rk ++ (rl.take j).map (fun c => (n : Int) :: c))) (fun _ t8 _ => rl.length - (intOf t8).toNat)
          case atStart => exact ⟨0, Nat.zero_le _, rfl, m0, cp0, ax0, rfl, by simpa using HI0.out⟩
          case round =>
            clear HI0
            obtain ⟨j, hj, rfl, m1, cp1, ax1, rfl, hpi⟩ := hrel
            obtain ⟨wi, rfl⟩ : ∃ wi : World, wi = wr := ⟨_, rfl⟩
            by_cases hjl : j < rl.length
            · have hjI : (j : Int) < (rl.length : Int) := by omega
              have hpy : Pats wi wo.heap.size (.slice aL rl.length cL) rl := HPL.out.keep (fun q a c => hpi.lst q a c)
              obtain ⟨G, C, g, c, r, e, hr, hcell, hrc, hri⟩ := hpy.get hjl
              injection e with e1 _ e2
              subst e1 e2
              have hGl : G < wi.heap.size := World.block_lt_of_cell? wi _ hcell
              have hcell1 : (wi.alloc (.cells #[.int .i64 (n : Int)] 3)).cell? ⟨G, j, none⟩ = some (.slice (some ⟨g, 0, none⟩) r.length c) := (World.cell?_of_block (w := wi) (Below.heap_alloc _ _ _ hGl)).trans hcell
              have hri1 : IntsAt (wi.alloc (.cells #[.int .i64 (n : Int)] 3)) (fun b => wo.heap.size ≤ b ∧ b < wi.heap.size) (some ⟨g, 0, none⟩) r.length r := hri.to (fun q hq => ⟨hq, Below.heap_alloc _ _ _ hq.2⟩)
              have hrm : r.length = ss.length := HML2.out r (List.mem_of_getElem? hr)
              have hr2 : r.length ≤ 3 := by have := HSL.out; omega
              have hlit := own_lits wi (Nat.le_refl wi.heap.size) (cs := #[.int .i64 (n : Int)]) (r := [(n : Int)]) (m := 1) rfl rfl (by omega)
              have HTK := Lib.hid (show rk ++ (rl.take (j + 1)).map (fun c => (n : Int) :: c) = (rk ++ (rl.take j).map (fun c => (n : Int) :: c)) ++ [(n : Int) :: r] by rw [take_get hr, List.map_append, List.append_assoc]; rfl)
              have hlj : (rk ++ (rl.take j).map (fun c => (n : Int) :: c)).length ≤ 10000 := by rw [List.length_append, List.length_map, List.length_take]; omega
              have HPI := Lib.hid hpi
              have HLIT := Lib.hid hlit
              have HRI := Lib.hid hri1
              generalize rk ++ (rl.take j).map (fun c => (n : Int) :: c) = rj at *
              have HSZ := Lib.hid (show (wi.alloc (.cells #[.int .i64 (n : Int)] 3)).heap.size = wi.heap.size + 1 by simp)
              clear hpi hpy hcell hri hri1 hlit hrm
              go_wp2_with (at_builtin; refine wpAppN rfl _ _ rfl wi.heap.size 1 1 _ [(n : Int)] _ g 0 r.length c r rfl HLIT.out rfl HRI.out (by have := HSZ.out; omega) (by omega) ?_)
              intro a6 c6 w6 hown6 hc6 hg6
              obtain ⟨g6, c7, e6, hg6b, hg6s⟩ := hown6.form (by omega)
              injection e6 with e6 _ e7
              subst e6 e7
              have hs6 := hg6.size
              have hown7 : w6.ownsRow wi.heap.size 3 1 (.slice (some ⟨g6, 0, none⟩) ((n : Int) :: r).length c6) ((n : Int) :: r).length (((n : Int) :: r).map (.int .i64)) := by
                rw [List.length_cons, Nat.add_comm]; exact hown6
              have hs1 := HSZ.out
              have HP1 := Lib.hid (Pats.one (by omega) hown7 (by simp; omega))
              rw [List.length_cons] at HP1
              have hold : ∀ q, q < wi.heap.size → w6.heap[q]? = wi.heap[q]? := fun q hq => by
                rw [hg6.block q (by omega) (by intro e; simp [Value.ownBlock] at e; omega), Below.heap_alloc _ _ _ hq]
              have h16 : 1 + r.length = r.length + 1 := Nat.add_comm _ _
              rw [h16]
              have hold2 : ∀ q, q < wi.heap.size → (w6.alloc (.cells #[.slice (some ⟨g6, 0, none⟩) (r.length + 1) c6] 23)).heap[q]? = wi.heap[q]? := fun q hq => by
                rw [Below.heap_alloc _ _ _ (by omega)]; exact hold q hq
              have HO2 := Lib.hid hold2
              have hs2 : (w6.alloc (.cells #[.slice (some ⟨g6, 0, none⟩) (r.length + 1) c6] 23)).heap.size = w6.heap.size + 1 := by simp
              have HS2 := Lib.hid (show wi.heap.size ≤ (w6.alloc (.cells #[.slice (some ⟨g6, 0, none⟩) (r.length + 1) c6] 23)).heap.size by omega)
              have hbz := HPI.out.below.size
              have HB6 := Lib.hid (show Below w.heap.size wi (w6.alloc (.cells #[.slice (some ⟨g6, 0, none⟩) (r.length + 1) c6] 23)) from ⟨hg6.os, hg6.tape, hg6.output, HS2.out, fun q hq => HO2.out q (by omega)⟩)
              clear hown6 hown7 hold hold2 hs1 hs2 h16 hg6
              go_wp2_with (at_builtin; refine wpPats (w0 := wi) rfl _ _ rfl w.heap.size wi.heap.size (.slice ax1 m1 cp1) _ rj [(n : Int) :: r] rfl rfl HPI.out.out (fun q _ hq => HO2.out q hq) HS2.out HP1.out (by omega) (Nat.le_refl _) (by have := HS2.out; omega) (by simp; omega) ?_)
              intro v' w' hp' hg' hat'
              obtain ⟨a', c', rfl, _⟩ := hp'.slice
              have hpi2 : PatI w wo.heap.size w3 w' (.slice a' (rj ++ [(n : Int) :: r]).length c') (rj ++ [(n : Int) :: r]) := by
                have hsz := HPI.out.size
                have hs2 := HS2.out
                refine ⟨hp', HPI.out.below.trans (HB6.out.grown hg' (by omega) (fun q hq => (HPI.out.out.own q hq).1)), fun q a c => ?_, fun q hq => ?_, ?_⟩
                · rw [hg'.block q (by omega) (fun e => by rcases HPI.out.own q e.symm with g | g <;> omega), HO2.out q (by omega)]
                  exact HPI.out.lst q a c
                · rcases hat' with e | e
                  · exact HPI.out.own q (by rw [← e]; exact hq)
                  · rw [e] at hq; injection hq with hq; omega
                · have := hg'.size; omega
              have HX := Lib.hid hpi2
              clear hp' hg' hat' hpi2 HB6 HO2 HP1 HPI hcell1
              go_wp2_with fail
              go_roundw
              case rel => exact ⟨j + 1, by omega, by go_num, _, c', a', rfl, by rw [HTK.out]; exact HX.out⟩
              case measure => simp [intOf]; omega
            · obtain rfl : j = rl.length := by omega
              have hjI : ¬ (rl.length : Int) < (rl.length : Int) := by omega
              have HX := Lib.hid hpi
              clear hpi
              go_wp2_with fail
              go_roundw
              case rel =>
                refine ⟨k + 1, by omega, by first | (congr 1; have := HNI.out; omega) | (have := HNI.out; omega), m1, cp1, ax1, (by first | rfl | exact ⟨rfl, rfl, rfl⟩), ?_, HX.out.below⟩
                have := HX.out.out
                rw [List.take_of_length_le (Nat.le_refl _)] at this
                rw [HSK.out]
                exact this
              case measure => simp [intOf] <;> omega
        · obtain rfl : k = N + 1 := by omega
          have hnI : (N : Int) - ((N + 1 : Nat) : Int) = -1 := by omega
          rw [hnI]
          have HPP := Lib.hid hp
          have HBB := Lib.hid hb
          clear hp hb
          go_wp2_with fail
          go_ret
          exact ⟨_, rfl, HPP.out, HBB.out⟩
    · subst hcc
      have hcc1 : (l : Int) + 1 ≤ ((c + 2 : Nat) : Int) := by omega
      have hcc2 : (l : Int) + 1 ≤ (c : Int) + 2 := by omega
      have hcc3 : (1 : Int) ≤ (l : Int) + 1 := by omega
      have hcc4 : (0 : Int) ≤ (l : Int) := by omega
      have hcc5 : (l : Int) ≤ (c : Int) + 1 := by omega
      go_loopw [5, 6] (fun s5 s6 wr => ∃ k : Nat, k ≤ N + 1 ∧ s6 = .int .i64 ((N : Int) - k) ∧ ∃ (m0 cp0 : Nat) (ax0 : Option Addr), s5 = .slice ax0 m0 cp0 ∧ Pats wr w.heap.size (.slice ax0 m0 cp0) (cat k) ∧ Below w.heap.size w wr) (fun _ s6 _ => (intOf s6 + 1).toNat)
      case atStart => exact ⟨0, Nat.zero_le _, by simp, 0, 0, _, rfl, by rw [HZ.out]; exact HP0.out, (Below.refl _ _).alloc (Nat.le_refl _) _⟩
      case round =>
        clear HP0
        obtain ⟨k, hk, rfl, m0, cp0, ax0, rfl, hp, hb⟩ := hrel
        obtain ⟨wo, rfl⟩ : ∃ wo : World, wo = wr := ⟨_, rfl⟩
        by_cases hlt : k < N + 1
        · obtain ⟨n, hn⟩ : ∃ n, N - k = n := ⟨_, rfl⟩
          have hnI : (N : Int) - k = (n : Int) := by omega
          rw [hnI]
          obtain ⟨hp0, hp1⟩ := HN.out n (by omega)
          have HSK := Lib.hid (HST.out k)
          rw [hn] at HSK
          have c1 := HC.out wo hb
          have hlk := HCL.out k (by omega)
          obtain ⟨rk, hrk⟩ : ∃ r, cat k = r := ⟨_, rfl⟩
          rw [hrk] at hp HSK hlk
          obtain ⟨pr, hpr⟩ : ∃ pr, (n : Int) * s = pr := ⟨_, rfl⟩
          rw [hpr] at hp0 hp1 HSK
          have hw1 : IntKind.i64.wrap ((n : Int) * s) = pr := by rw [hpr]; exact IntWalk.i64_in _ (by omega)
          have hw2 : IntKind.i64.wrap (R - pr) = R - pr := IntWalk.i64_in _ (by omega)
          have HREC := Lib.hid (show Calls Try.prog 16 #[.slice (some ⟨b, off + 1, none⟩) l (c + 2 - 1), .int .i64 (R - pr)] wo.drew (PatP wo.drew (patS ss (R - pr))) from HIH.out (R - pr) wo.drew _ l _ (HT.out wo.drew hb.drew) (by omega) (by omega) (by omega) (by omega) HSS.out)
          have hll := HLN.out (R - pr) (by omega)
          have hml := fun c hc => HML.out (R - pr) (by omega) c hc
          have HML2 := Lib.hid hml
          obtain ⟨rl, hrl⟩ : ∃ r, patS ss (R - pr) = r := ⟨_, rfl⟩
          rw [hrl] at HREC hll HSK HML2
          have HPP := Lib.hid hp
          have HBB := Lib.hid hb
          have hbw : b < wo.heap.size := Nat.lt_of_lt_of_le hbs hb.size
          have hnn : (0 : Int) ≤ (n : Int) := by omega
          have hw3 : IntKind.i64.wrap ((n : Int) - 1) = (n : Int) - 1 := IntWalk.i64_in _ (by omega)
          have HNI := Lib.hid hnI
          have HNK := Lib.hid hn
          clear hp hb hrk hpr hrl hml hnI hn
          go_wp2_with fail
          go_region_held3 (fun w' => w'.cell? ⟨b, off, none⟩ = some (.int .i64 s)) (first | go_keep | exact k1)
            (first | (go_at_call 16; refine HREC.out.mono ?_; rintro e w3 ⟨vL, rfl, hpL, hb3⟩; have k1 := (hb3.cell (p := ⟨b, off, none⟩) hbw).trans c1))
          have hs3 : wo.heap.size ≤ w3.heap.size := hb3.size
          have HB3 := Lib.hid (HBB.out.drew.trans (hb3.mono (by show w.heap.size ≤ wo.heap.size; exact HBB.out.size)))
          have hpo := HPP.out.own
          have HI0 := Lib.hid (show PatI w wo.heap.size w3 w3 (.slice ax0 m0 cp0) rk from ⟨HPP.out.keep (fun q _ hq => hb3.block q hq), HB3.out, fun q _ _ => rfl, fun q hq => .inl (hpo q hq).2, Nat.le_refl _⟩)
          have HPL := Lib.hid (show Pats w3 wo.heap.size vL rl from hpL)
          obtain ⟨aL, cL, rfl, hcL⟩ := hpL.slice
          clear hpL hb3 hw1 hw2 c1 k1 hpo HPP HREC
          go_wp2_with fail
          go_loopw [5, 8] (fun t5 t8 wy => ∃ j : Nat, j ≤ rl.length ∧ t8 = .int .i64 j ∧ ∃ (m1 cp1 : Nat) (ax1 : Option Addr), t5 = .slice ax1 m1 cp1 ∧ PatI w wo.heap.size w3 wy (.slice ax1 m1 cp1) (rk ++ (rl.take j).map (fun c => (n : Int) :: c))) (fun _ t8 _ => rl.length - (intOf t8).toNat)
          case atStart => exact ⟨0, Nat.zero_le _, rfl, m0, cp0, ax0, rfl, by simpa using HI0.out⟩
          case round =>
            clear HI0
            obtain ⟨j, hj, rfl, m1, cp1, ax1, rfl, hpi⟩ := hrel
            obtain ⟨wi, rfl⟩ : ∃ wi : World, wi = wr := ⟨_, rfl⟩
            by_cases hjl : j < rl.length
            · have hjI : (j : Int) < (rl.length : Int) := by omega
              have hpy : Pats wi wo.heap.size (.slice aL rl.length cL) rl := HPL.out.keep (fun q a c => hpi.lst q a c)
              obtain ⟨G, C, g, c, r, e, hr, hcell, hrc, hri⟩ := hpy.get hjl
              injection e with e1 _ e2
              subst e1 e2
              have hGl : G < wi.heap.size := World.block_lt_of_cell? wi _ hcell
              have hcell1 : (wi.alloc (.cells #[.int .i64 (n : Int)] 3)).cell? ⟨G, j, none⟩ = some (.slice (some ⟨g, 0, none⟩) r.length c) := (World.cell?_of_block (w := wi) (Below.heap_alloc _ _ _ hGl)).trans hcell
              have hri1 : IntsAt (wi.alloc (.cells #[.int .i64 (n : Int)] 3)) (fun b => wo.heap.size ≤ b ∧ b < wi.heap.size) (some ⟨g, 0, none⟩) r.length r := hri.to (fun q hq => ⟨hq, Below.heap_alloc _ _ _ hq.2⟩)
              have hrm : r.length = ss.length := HML2.out r (List.mem_of_getElem? hr)
              have hr2 : r.length ≤ 3 := by have := HSL.out; omega
              have hlit := own_lits wi (Nat.le_refl wi.heap.size) (cs := #[.int .i64 (n : Int)]) (r := [(n : Int)]) (m := 1) rfl rfl (by omega)
              have HTK := Lib.hid (show rk ++ (rl.take (j + 1)).map (fun c => (n : Int) :: c) = (rk ++ (rl.take j).map (fun c => (n : Int) :: c)) ++ [(n : Int) :: r] by rw [take_get hr, List.map_append, List.append_assoc]; rfl)
              have hlj : (rk ++ (rl.take j).map (fun c => (n : Int) :: c)).length ≤ 10000 := by rw [List.length_append, List.length_map, List.length_take]; omega
              have HPI := Lib.hid hpi
              have HLIT := Lib.hid hlit
              have HRI := Lib.hid hri1
              generalize rk ++ (rl.take j).map (fun c => (n : Int) :: c) = rj at *
              have HSZ := Lib.hid (show (wi.alloc (.cells #[.int .i64 (n : Int)] 3)).heap.size = wi.heap.size + 1 by simp)
              clear hpi hpy hcell hri hri1 hlit hrm
              go_wp2_with (at_builtin; refine wpAppN rfl _ _ rfl wi.heap.size 1 1 _ [(n : Int)] _ g 0 r.length c r rfl HLIT.out rfl HRI.out (by have := HSZ.out; omega) (by omega) ?_)
              intro a6 c6 w6 hown6 hc6 hg6
              obtain ⟨g6, c7, e6, hg6b, hg6s⟩ := hown6.form (by omega)
              injection e6 with e6 _ e7
              subst e6 e7
              have hs6 := hg6.size
              have hown7 : w6.ownsRow wi.heap.size 3 1 (.slice (some ⟨g6, 0, none⟩) ((n : Int) :: r).length c6) ((n : Int) :: r).length (((n : Int) :: r).map (.int .i64)) := by
                rw [List.length_cons, Nat.add_comm]; exact hown6
              have hs1 := HSZ.out
              have HP1 := Lib.hid (Pats.one (by omega) hown7 (by simp; omega))
              rw [List.length_cons] at HP1
              have hold : ∀ q, q < wi.heap.size → w6.heap[q]? = wi.heap[q]? := fun q hq => by
                rw [hg6.block q (by omega) (by intro e; simp [Value.ownBlock] at e; omega), Below.heap_alloc _ _ _ hq]
              have h16 : 1 + r.length = r.length + 1 := Nat.add_comm _ _
              rw [h16]
              have hold2 : ∀ q, q < wi.heap.size → (w6.alloc (.cells #[.slice (some ⟨g6, 0, none⟩) (r.length + 1) c6] 23)).heap[q]? = wi.heap[q]? := fun q hq => by
                rw [Below.heap_alloc _ _ _ (by omega)]; exact hold q hq
              have HO2 := Lib.hid hold2
              have hs2 : (w6.alloc (.cells #[.slice (some ⟨g6, 0, none⟩) (r.length + 1) c6] 23)).heap.size = w6.heap.size + 1 := by simp
              have HS2 := Lib.hid (show wi.heap.size ≤ (w6.alloc (.cells #[.slice (some ⟨g6, 0, none⟩) (r.length + 1) c6] 23)).heap.size by omega)
              have hbz := HPI.out.below.size
              have HB6 := Lib.hid (show Below w.heap.size wi (w6.alloc (.cells #[.slice (some ⟨g6, 0, none⟩) (r.length + 1) c6] 23)) from ⟨hg6.os, hg6.tape, hg6.output, HS2.out, fun q hq => HO2.out q (by omega)⟩)
              clear hown6 hown7 hold hold2 hs1 hs2 h16 hg6
              go_wp2_with (at_builtin; refine wpPats (w0 := wi) rfl _ _ rfl w.heap.size wi.heap.size (.slice ax1 m1 cp1) _ rj [(n : Int) :: r] rfl rfl HPI.out.out (fun q _ hq => HO2.out q hq) HS2.out HP1.out (by omega) (Nat.le_refl _) (by have := HS2.out; omega) (by simp; omega) ?_)
              intro v' w' hp' hg' hat'
              obtain ⟨a', c', rfl, _⟩ := hp'.slice
              have hpi2 : PatI w wo.heap.size w3 w' (.slice a' (rj ++ [(n : Int) :: r]).length c') (rj ++ [(n : Int) :: r]) := by
                have hsz := HPI.out.size
                have hs2 := HS2.out
                refine ⟨hp', HPI.out.below.trans (HB6.out.grown hg' (by omega) (fun q hq => (HPI.out.out.own q hq).1)), fun q a c => ?_, fun q hq => ?_, ?_⟩
                · rw [hg'.block q (by omega) (fun e => by rcases HPI.out.own q e.symm with g | g <;> omega), HO2.out q (by omega)]
                  exact HPI.out.lst q a c
                · rcases hat' with e | e
                  · exact HPI.out.own q (by rw [← e]; exact hq)
                  · rw [e] at hq; injection hq with hq; omega
                · have := hg'.size; omega
              have HX := Lib.hid hpi2
              clear hp' hg' hat' hpi2 HB6 HO2 HP1 HPI hcell1
              go_wp2_with fail
              go_roundw
              case rel => exact ⟨j + 1, by omega, by go_num, _, c', a', rfl, by rw [HTK.out]; exact HX.out⟩
              case measure => simp [intOf]; omega
            · obtain rfl : j = rl.length := by omega
              have hjI : ¬ (rl.length : Int) < (rl.length : Int) := by omega
              have HX := Lib.hid hpi
              clear hpi
              go_wp2_with fail
              go_roundw
              case rel =>
                refine ⟨k + 1, by omega, by first | (congr 1; have := HNI.out; omega) | (have := HNI.out; omega), m1, cp1, ax1, (by first | rfl | exact ⟨rfl, rfl, rfl⟩), ?_, HX.out.below⟩
                have := HX.out.out
                rw [List.take_of_length_le (Nat.le_refl _)] at this
                rw [HSK.out]
                exact this
              case measure => simp [intOf] <;> omega
        · obtain rfl : k = N + 1 := by omega
          have hnI : (N : Int) - ((N + 1 : Nat) : Int) = -1 := by omega
          rw [hnI]
          have HPP := Lib.hid hp
          have HBB := Lib.hid hb
          clear hp hb
          go_wp2_with fail
          go_ret
          exact ⟨_, rfl, HPP.out, HBB.out⟩
end Go.Proofs.Ythmifadnfaajbad
