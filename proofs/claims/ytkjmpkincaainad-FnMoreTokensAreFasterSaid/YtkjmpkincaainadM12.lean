import Derived.Test.YtkjmpkincaainadRows
import Derived.WalkKit
import Derived.ProofKit
import Derived.Test.YtkjmpkincaainadM0
import Derived.Test.YtkjmpkincaainadM6
import Derived.Test.YtkjmpkincaainadM11
import Derived.LoopTactic
import Derived.Outline
import Derived.WalkSpells
import Derived.WalkLawsBesides
import Derived.Lib.Hide
import Derived.IntWalk
import Derived.Deep.QuietTactic
import Derived.BigQuiet
import Derived.Deep.RegionLaw
import Derived.Test.YtkjmpkincaainadM1
import Derived.Test.YtkjmpkincaainadM7
import Derived.Test.YtkjmpkincaainadM4
import Derived.Test.YtkjmpkincaainadM5
namespace Go.Proofs.Ytkjmpkincaainad
open Go.RowKit
/-- the pace of a net that is alive, else nothing -/
def PaceRes (ts : List Int) (rows : List (List Int)) (U D : Nat) (b : Bool) : Prop := (aliveB ts rows = true ∧ b = true ∧ IsPace (grOf ts rows) U D) ∨ (aliveB ts rows = false ∧ b = false ∧ U = 0 ∧ D = 0)
theorem paceRes_unique {ts : List Int} {rows : List (List Int)} {U D U' D' : Nat} {b b' : Bool} (h : PaceRes ts rows U D b) (h' : PaceRes ts rows U' D' b') : U = U' ∧ D = D' ∧ b = b' := by
  rcases h with ⟨a, rfl, p⟩ | ⟨a, rfl, rfl, rfl⟩ <;> rcases h' with ⟨a', rfl, p'⟩ | ⟨a', rfl, rfl, rfl⟩
  · obtain ⟨e1, e2⟩ := pace_unique p p'; exact ⟨e1, e2, rfl⟩
  · rw [a] at a'; cases a'
  · rw [a] at a'; cases a'
  · exact ⟨rfl, rfl, rfl⟩
def PacePostR (w : World) (ts : List Int) (rows : List (List Int)) (e : Ending) (w' : World) : Prop := ∃ (U D : Nat) (b : Bool), e = .returned (.tuple #[.agg #[.int .i64 U, .int .i64 D], .bool b]) ∧ PaceRes ts rows U D b ∧ Below w.heap.size w w'
end Go.Proofs.Ytkjmpkincaainad
namespace Go.Proofs.Ytkjmpkincaainad
open Go.RowKit Go.WideShapes

def natD (h : List Nat) : List Int := h.map (fun x : Nat => (x : Int))
theorem natD_len (h : List Nat) : (natD h).length = h.length := by simp [natD]
def bitOf : Value → Nat | .bool true => 1 | _ => 0
/-- what is left holds each stuck set -/
def LeftP (g : Gr) (X : List Nat) : Prop := (∀ v ∈ X, v < g.n) ∧ ∀ S, g.Stuck S → ∀ v, S v → v ∈ X
def Gr.freeK (g : Gr) (X : List Nat) (v k : Nat) : Prop := ∀ q, q < k → g.t q = v → g.c q = 0 → ¬ g.f q ∈ X
theorem left_cut {g : Gr} {X : List Nat} (h : LeftP g X) {x v : Nat} (hx : X[x]? = some v) (hf : g.freeK X v g.m) : LeftP g (X.take x ++ X.drop (x + 1)) := by
  obtain ⟨hlt, hv⟩ := List.getElem?_eq_some_iff.1 hx
  have hsplit : X = X.take x ++ v :: X.drop (x + 1) := by
    rw [← hv, ← List.drop_eq_getElem_cons hlt, List.take_append_drop]
  refine ⟨fun u hu => h.1 u ?_, fun S hS u hu => ?_⟩
  · rw [hsplit]
    rcases List.mem_append.1 hu with hu | hu
    · exact List.mem_append_left _ hu
    · exact List.mem_append_right _ (List.mem_cons_of_mem _ hu)
  · have hm := h.2 S hS u hu
    have hne : u ≠ v := by
      rintro rfl
      obtain ⟨_, k, hk, e1, e2, e3⟩ := hS u hu
      exact hf k hk e1 e2 (h.2 S hS _ e3)
    rw [hsplit] at hm
    rcases List.mem_append.1 hm with hm | hm
    · exact List.mem_append_left _ hm
    · rcases List.mem_cons.1 hm with e | hm
      · exact absurd e hne
      · exact List.mem_append_right _ hm
theorem left_len {X : List Nat} {x : Nat} (hx : x < X.length) : (X.take x ++ X.drop (x + 1)).length + 1 = X.length := by
  rw [List.length_append, List.length_take, List.length_drop]; omega
theorem natD_cut (X : List Nat) (x : Nat) : natD (X.take x ++ X.drop (x + 1)) = (natD X).take x ++ (natD X).drop (x + 1) := by
  unfold natD; rw [List.map_append, List.map_take, List.map_drop]
theorem stuck_left {g : Gr} {X : List Nat} (h : LeftP g X) (hn : ∀ (i v : Nat), X[i]? = some v → ¬ g.freeK X v g.m) : g.Stuck (· ∈ X) := fun v hv => by
  obtain ⟨i, hi, e⟩ := List.getElem_of_mem hv
  have h1 := hn i v (by rw [List.getElem?_eq_getElem hi, e])
  refine ⟨h.1 v hv, Classical.byContradiction fun h2 => h1 fun q hq e1 e2 e3 => h2 ⟨q, hq, e1, e2, e3⟩⟩
theorem left_dead {g : Gr} {X : List Nat} (hg : g.Ok) (h : LeftP g X) (hs : g.Stuck (· ∈ X)) : g.deadB = decide (0 < X.length) := by
  rw [Bool.eq_iff_iff, dead_iff hg, decide_eq_true_eq]
  constructor
  · rintro ⟨S, hS, v, hv⟩; exact List.length_pos_of_mem (h.2 S hS v hv)
  · intro hl
    cases X with
    | nil => simp at hl
    | cons a l => exact ⟨_, hs, a, by simp⟩
set_option maxRecDepth 100000 in
set_option maxHeartbeats 4000000 in
theorem dead_any (d : NV) (ts : List Int) (rows : List (List Int)) (w : World) (h : NetAt w (· < w.heap.size) d ts rows) (hv : tokM ts rows = true) :
    Calls Try.prog 30 #[.agg #[.slice d.aT d.lT d.cT, .slice d.aW d.lW d.cW]] w (valN w (.bool (grOf ts rows).deadB)) := by
  obtain ⟨aT, lT, cT, aW, lW, cW⟩ := d
  obtain ⟨ht, hr, hct, hcw⟩ := h
  dsimp only at ht hr hct hcw ⊢
  have hok := gr_ok hv
  have hnl : (grOf ts rows).n = lT := ht.lenEq
  have hml : (grOf ts rows).m = lW := hr.lenEq
  have HG := Lib.hid (tok_get hv).2.2.2
  have hsw := hr.small
  have HH := Lib.hid (show ∀ w', Below w.heap.size w w' → RowsAt w' (· < w.heap.size) aW lW rows from fun w' hb => hr.below hb)
  obtain ⟨g, hg⟩ : ∃ g, grOf ts rows = g := ⟨_, rfl⟩
  rw [hg] at hok hnl hml HG ⊢
  have h4 := hok.n4
  have h7 := hok.m7
  rw [hnl] at h4
  rw [hml] at h7
  have HOK := Lib.hid hok
  have HN := Lib.hid hnl
  have HM := Lib.hid hml
  clear ht hr hv hg hok hnl hml
  go_enter Try.func30, Try.ntmps30
  go_wp2_with fail
  have hb0 := ((Below.refl w.heap.size w).alloc (Nat.le_refl _) (.cells #[.slice aT lT cT, .slice aW lW cW] 26)).alloc (by simp) (.cells #[] 3)
  have hn0 : NetB ((w.alloc (.cells #[.slice aT lT cT, .slice aW lW cW] 26)).alloc (.cells #[] 3)) w.heap.size ⟨aT, lT, cT, aW, lW, cW⟩ := (netB_new w aT lT cT aW lW cW 26).block (Below.heap_alloc _ _ _ (by simp))
  have ho0 : ((w.alloc (.cells #[.slice aT lT cT, .slice aW lW cW] 26)).alloc (.cells #[] 3)).ownsRow (w.heap.size + 1) 3 1 (.slice (some ⟨w.heap.size + 1, 0, none⟩) 0 0) 0 (([] : List Int).map (.int .i64)) := by
    have := World.ownsRow_made (base := w.heap.size + 1) (size := 1) (e := 3) (w.alloc (.cells #[.slice aT lT cT, .slice aW lW cW] 26)) #[] 0 (by simp) (Nat.zero_le _) rfl
    simpa using this
  have hz0 : w.heap.size < ((w.alloc (.cells #[.slice aT lT cT, .slice aW lW cW] 26)).alloc (.cells #[] 3)).heap.size := by simp; omega
  go_loopw [3, 4] (fun sv iv wr => ∃ (k : Nat) (a : Option Addr) (cap : Nat), k ≤ lT ∧ iv = .int .i64 k ∧ sv = .slice a k cap ∧ wr.ownsRow (w.heap.size + 1) 3 1 sv k ((natD (List.range k)).map (.int .i64)) ∧ k ≤ cap ∧ Below w.heap.size w wr ∧ w.heap.size < wr.heap.size ∧ NetB wr w.heap.size ⟨aT, lT, cT, aW, lW, cW⟩) (fun _ iv _ => lT - (intOf iv).toNat)
  case atStart => exact ⟨0, _, 0, Nat.zero_le _, rfl, rfl, ho0, Nat.le_refl _, hb0, hz0, hn0⟩
  case round =>
    clear hb0 hn0 ho0 hz0
    obtain ⟨k, a, cap, hk, rfl, rfl, hown, hcap, hb, hz, hn⟩ := hrel
    obtain ⟨wo, rfl⟩ : ∃ wo : World, wo = wr := ⟨_, rfl⟩
    obtain ⟨n0, n1⟩ := id hn
    dsimp only at n0 n1
    have HOWN := Lib.hid hown
    have HB := Lib.hid hb
    have HNB := Lib.hid hn
    clear hown hb hn
    by_cases hlt : k < lT
    · have hkI : (k : Int) < (lT : Int) := by omega
      go_wp2_with (at_builtin; refine wpApp1 rfl _ _ rfl (w.heap.size + 1) k cap a (natD (List.range k)) k rfl HOWN.out rfl (by omega) (by omega) ?_)
      intro a5 c5 w5 own5 hc5 gr5
      have hlow5 : ∀ b, (Value.slice a k cap).ownBlock = some b → w.heap.size + 1 ≤ b := fun b e => (HOWN.out.lt b e).1
      have HO5 := Lib.hid own5
      have HB5 := Lib.hid (HB.out.grown gr5 HB.out.size (fun b e => by have := hlow5 b e; omega))
      have HN5 := Lib.hid (HNB.out.block (gr5.block _ hz (fun e => by have := hlow5 _ e.symm; omega)))
      have hz5 := Nat.lt_of_lt_of_le hz gr5.size
      clear own5 gr5
      go_wp2_with fail
      go_roundw
      case rel => exact ⟨k + 1, a5, c5, by omega, by go_num, rfl, by have := HO5.out; rw [List.range_succ]; simpa [natD] using this, hc5, HB5.out, hz5, HN5.out⟩
      case measure => simp [intOf]; omega
    · obtain rfl : k = lT := by omega
      have hkI : ¬ (k : Int) < (k : Int) := by omega
      go_wp2_with fail
      have hX0 : LeftP g (List.range k) := ⟨fun v hv => by rw [HN.out]; exact List.mem_range.1 hv, fun S hS v hv => List.mem_range.2 (by rw [← HN.out]; exact (hS v hv).1)⟩
      go_loopw [3, 5] (fun sv bv wr => ∃ (a : Option Addr) (cap : Nat) (X : List Nat) (b : Bool), sv = .slice a X.length cap ∧ bv = .bool b ∧ X.length ≤ k ∧ wr.ownsRow (w.heap.size + 1) 3 1 sv X.length ((natD X).map (.int .i64)) ∧ X.length ≤ cap ∧ LeftP g X ∧ (b = false → g.Stuck (· ∈ X)) ∧ Below w.heap.size w wr ∧ w.heap.size < wr.heap.size ∧ NetB wr w.heap.size ⟨aT, k, cT, aW, lW, cW⟩) (fun sv bv _ => 2 * capOf sv + bitOf bv)
      case atStart => exact ⟨a, cap, List.range k, true, by rw [List.length_range], rfl, by rw [List.length_range]; exact Nat.le_refl _, by rw [List.length_range]; exact HOWN.out, by rw [List.length_range]; exact hcap, hX0, (fun e => by cases e), HB.out, hz, HNB.out⟩
      case round =>
        clear hX0 HOWN HB HNB n0 n1 hcap hz
        obtain ⟨a, cap, X, b, rfl, rfl, hXk, hown, hcap, hX, hst, hb, hz, hn⟩ := hrel
        obtain ⟨wo, rfl⟩ : ∃ wo : World, wo = wr := ⟨_, rfl⟩
        obtain ⟨n0, n1⟩ := id hn
        dsimp only at n0 n1
        have HOWN := Lib.hid hown
        have HX := Lib.hid hX
        have HB := Lib.hid hb
        have HNB := Lib.hid hn
        clear hown hX hb hn
        cases b
        · have HDD := Lib.hid (left_dead HOK.out HX.out (hst rfl))
          clear hst
          go_wp2_with fail
          go_ret
          exact ⟨ret_bool (by rw [HDD.out]), HB.out⟩
        · clear hst
          obtain ⟨L, hL⟩ : ∃ L, X.length = L := ⟨_, rfl⟩
          have HL := Lib.hid hL
          rw [hL] at HOWN hcap hXk ⊢
          clear hL
          go_wp2_with fail
          go_loopw [3, 5, 6] (fun sv bv xv wr => ∃ (a' : Option Addr) (cap' l' : Nat) (X' : List Nat) (b' : Bool) (x : Nat), sv = .slice a' l' cap' ∧ bv = .bool b' ∧ xv = .int .i64 x ∧ X'.length = l' ∧ l' ≤ L ∧ wr.ownsRow (w.heap.size + 1) 3 1 sv l' ((natD X').map (.int .i64)) ∧ l' ≤ cap' ∧ LeftP g X' ∧ x ≤ L ∧
            (b' = true → l' < L) ∧ (b' = false → l' = L ∧ ∀ i v, i < x → X'[i]? = some v → ¬ g.freeK X' v g.m) ∧ Below w.heap.size w wr ∧ w.heap.size < wr.heap.size ∧ NetB wr w.heap.size ⟨aT, k, cT, aW, lW, cW⟩) (fun _ bv xv _ => (1 - bitOf bv) * (1 + L - (intOf xv).toNat))
          case atStart => exact ⟨a, cap, L, X, false, 0, rfl, rfl, rfl, HL.out, Nat.le_refl _, HOWN.out, hcap, HX.out, Nat.zero_le _, (fun e => by cases e), (fun _ => ⟨rfl, fun i v hi => by omega⟩), HB.out, hz, HNB.out⟩
          case round =>
            clear HOWN HB HNB HX n0 n1 hcap hz
            obtain ⟨a, cap, l, X', b', x, rfl, rfl, rfl, hXl, hlL, hown, hcap, hX, hxL, hbt, hbf, hb, hz, hn⟩ := hrel
            obtain ⟨wo, rfl⟩ : ∃ wo : World, wo = wr := ⟨_, rfl⟩
            obtain ⟨n0, n1⟩ := id hn
            dsimp only at n0 n1
            have HOWN := Lib.hid hown
            have HX := Lib.hid hX
            have HB := Lib.hid hb
            have HNB := Lib.hid hn
            have HXL := Lib.hid hXl
            clear hown hX hb hn hXl
            cases b'
            · obtain ⟨hlL2, hnf⟩ := hbf rfl
              have HNF := Lib.hid hnf
              clear hnf hbt hbf
              subst hlL2
              by_cases hxl : x < l
              · obtain ⟨gx, c', e', _, _⟩ := World.ownsRow.form HOWN.out (by omega)
                simp only [Value.slice.injEq, true_and] at e'
                obtain ⟨rfl, rfl⟩ := e'
                have hgxlt := (HOWN.out.lt gx rfl).2
                have hgxB := (HOWN.out.lt gx rfl).1
                obtain ⟨v, hxv⟩ : ∃ v, X'[x]? = some v := ⟨_, List.getElem?_eq_getElem (by have := HXL.out; omega)⟩
                have HXV := Lib.hid hxv
                have HCELL := Lib.hid (show ∀ (i u : Nat), X'[i]? = some u → i < l → wo.cell? ⟨gx, i, none⟩ = some (.int .i64 (u : Int)) from fun i u hu hi => by
                  rw [HOWN.out.cellAt i (by omega), List.getElem?_map]; unfold natD; rw [List.getElem?_map, hu]; rfl)
                have hxI : (x : Int) < (l : Int) := by omega
                clear hxv
                go_wp2_with fail
                go_loopw [7, 8] (fun fv kv wr => ∃ (q : Nat) (F : Bool), kv = .int .i64 q ∧ fv = .bool F ∧ q ≤ lW ∧ (F = true ↔ g.freeK X' v q) ∧ Drew wo wr) (fun _ kv _ => lW - (intOf kv).toNat)
                case atStart => exact ⟨0, true, rfl, rfl, Nat.zero_le _, ⟨fun _ q hq => by omega, fun _ => rfl⟩, Drew.refl _⟩
                case round =>
                  clear n0 n1
                  obtain ⟨q, F, rfl, rfl, hq, hF, hdr⟩ := hrel
                  obtain ⟨wi, rfl⟩ : ∃ wi : World, wi = wr := ⟨_, rfl⟩
                  obtain ⟨n0, n1⟩ := (show NetB wi w.heap.size ⟨aT, k, cT, aW, lW, cW⟩ by obtain ⟨z, rfl⟩ := hdr; exact HNB.out.drewN z)
                  dsimp only at n0 n1
                  have HFQ := Lib.hid hF
                  have HDR := Lib.hid hdr
                  have HBI := Lib.hid (show Below w.heap.size w wi by obtain ⟨z, rfl⟩ := hdr; exact below_drewN HB.out z)
                  have cx : wi.cell? ⟨gx, x, none⟩ = some (.int .i64 (v : Int)) := by obtain ⟨z, rfl⟩ := hdr; exact HCELL.out x v HXV.out hxl
                  clear hF hdr
                  by_cases hql : q < lW
                  · obtain ⟨b, off, r, a', lr, cr, rfl, hr, dr, _, hri⟩ := (HH.out wi HBI.out).get hql
                    have HR := Lib.hid (HG.out q r hr)
                    have hl3 : lr = 3 := by have := hri.lenEq; have := HR.out.1; omega
                    subst hl3
                    clear hr
                    obtain ⟨b', off', r0, rfl, hy, hd⟩ := hri.get (k := 0) (by omega)
                    obtain ⟨b2, off2, r1, e2, hy2, hd2⟩ := hri.get (k := 1) (by omega)
                    cases e2
                    obtain ⟨b3, off3, r2, e3, hy3, hd3⟩ := hri.get (k := 2) (by omega)
                    cases e3
                    rw [Nat.add_zero] at hd
                    have hr0 : r0 = (g.f q : Int) := by have := HR.out.2.1; rw [getD_of hy] at this; exact this
                    have hr1 : r1 = (g.t q : Int) := by have := HR.out.2.2.2.1; rw [getD_of hy2] at this; exact this
                    have hr2 : r2 = (g.c q : Int) := by have := HR.out.2.2.2.2.2.1; rw [getD_of hy3] at this; exact this
                    clear hy hy2 hy3 hri
                    subst hr0
                    subst hr1
                    subst hr2
                    have hqI : (q : Int) < (lW : Int) := by omega
                    have HD0 := Lib.hid (show ∀ w', Drew wo w' → w'.cell? ⟨b', off', none⟩ = some (.int .i64 ((g.f q : Nat) : Int)) from fun w' ⟨z, hz⟩ => by
                      obtain ⟨z2, hz2⟩ := HDR.out
                      rw [hz]; rw [hz2] at hd; exact hd)
                    by_cases htv : g.t q = v
                    · have htI : (((g.t q : Nat) : Int) == (v : Int)) = true := by simp; omega
                      have HTV := Lib.hid htv
                      clear htv
                      by_cases hc : g.c q = 0
                      · have hcI : (((g.c q : Nat) : Int) == 0) = true := by simp; omega
                        have HC := Lib.hid hc
                        clear hc
                        go_wp2_with fail
                        go_quiet (fail)
                        go_wp2_with fail
                        go_loopw [7, 10] (fun fv yv wr => ∃ (y : Nat) (F2 : Bool), yv = .int .i64 y ∧ fv = .bool F2 ∧ y ≤ l ∧ (F2 = true ↔ F = true ∧ ∀ (i : Nat), i < y → X'[i]? ≠ some (g.f q)) ∧ Drew wo wr) (fun _ yv _ => l - (intOf yv).toNat)
                        case atStart => exact ⟨0, F, rfl, rfl, Nat.zero_le _, ⟨fun h => ⟨h, fun i hi => by omega⟩, fun h => h.1⟩, HDR.out.drew _⟩
                        case round =>
                          clear n0 n1 cx hd hd2 hd3 dr
                          obtain ⟨y, F2, rfl, rfl, hyl, hF2, hdr2⟩ := hrel
                          obtain ⟨wj, rfl⟩ : ∃ wj : World, wj = wr := ⟨_, rfl⟩
                          have HF2 := Lib.hid hF2
                          have HDR2 := Lib.hid hdr2
                          have HBJ := Lib.hid (show Below w.heap.size w wj by obtain ⟨z, rfl⟩ := hdr2; exact below_drewN HB.out z)
                          clear hF2 hdr2
                          by_cases hylt : y < l
                          · obtain ⟨u, hyu⟩ : ∃ u, X'[y]? = some u := ⟨_, List.getElem?_eq_getElem (by have := HXL.out; omega)⟩
                            have cy : wj.cell? ⟨gx, y, none⟩ = some (.int .i64 (u : Int)) := by obtain ⟨z, hz⟩ := HDR2.out; rw [hz]; exact HCELL.out y u hyu hylt
                            have HYU := Lib.hid hyu
                            clear hyu
                            have d0 : wj.cell? ⟨b', off', none⟩ = some (.int .i64 ((g.f q : Nat) : Int)) := HD0.out wj HDR2.out
                            have hylI : (y : Int) < (l : Int) := by omega
                            cases F2
                            · go_wp2_with fail
                              go_quiet (fail)
                              go_wp2_with fail
                              go_roundw
                              case rel => exact ⟨y + 1, false, by go_num, rfl, by omega, ⟨fun e => (by cases e), fun h => (HF2.out.2 ⟨h.1, fun i hi => h.2 i (by omega)⟩)⟩, HDR2.out.drew _⟩
                              case measure => simp [intOf]; omega
                            · by_cases hu : u = g.f q
                              · have huI : ((u : Int) != ((g.f q : Nat) : Int)) = false := by simp; omega
                                have HU := Lib.hid hu
                                clear hu
                                go_wp2_with fail
                                go_quiet (fail)
                                go_wp2_with fail
                                go_roundw
                                case rel => exact ⟨y + 1, false, by go_num, rfl, by omega, ⟨fun e => (by cases e), fun h => absurd (by rw [HYU.out, HU.out]) (h.2 y (by omega))⟩, HDR2.out.drew _⟩
                                case measure => simp [intOf]; omega
                              · have huI : ((u : Int) != ((g.f q : Nat) : Int)) = true := by simp; omega
                                have HU := Lib.hid hu
                                clear hu
                                go_wp2_with fail
                                go_quiet (fail)
                                go_wp2_with fail
                                go_roundw
                                case rel => exact ⟨y + 1, true, by go_num, rfl, by omega, ⟨fun _ => ⟨(HF2.out.1 (by simp)).1, fun i hi => by
                                  rcases Nat.lt_or_eq_of_le (Nat.le_of_lt_succ hi) with h | rfl
                                  · exact (HF2.out.1 (by simp)).2 i h
                                  · rw [HYU.out]; intro e; exact HU.out (by simpa using e)⟩, fun _ => rfl⟩, HDR2.out.drew _⟩
                                case measure => simp [intOf]; omega
                          · obtain rfl : y = l := by omega
                            have hyI : ¬ (y : Int) < (y : Int) := by omega
                            go_wp2_with fail
                            go_roundw
                            case rel => exact ⟨q + 1, F2, by go_num, rfl, by omega, by
                              rw [HF2.out, HFQ.out]
                              constructor
                              · rintro ⟨h1, h2⟩ p hp e1 e2 hm
                                rcases Nat.lt_or_eq_of_le (Nat.le_of_lt_succ hp) with h | rfl
                                · exact h1 p h e1 e2 hm
                                · obtain ⟨i, hi, e⟩ := List.getElem_of_mem hm
                                  exact h2 i (by have := HXL.out; omega) (by rw [List.getElem?_eq_getElem hi, e])
                              · intro h
                                exact ⟨fun p hp => h p (by omega), fun i hi e => h q (by omega) HTV.out HC.out (List.mem_of_getElem? e)⟩, HDR2.out⟩
                            case measure => simp [intOf]; omega
                      · have hcI : (((g.c q : Nat) : Int) == 0) = false := by simp; omega
                        have HC := Lib.hid hc
                        clear hc
                        go_wp2_with fail
                        go_quiet (fail)
                        go_wp2_with fail
                        go_roundw
                        case rel => exact ⟨q + 1, F, by go_num, rfl, by omega, by
                          rw [HFQ.out]
                          exact ⟨fun h p hp e1 e2 => by
                            rcases Nat.lt_or_eq_of_le (Nat.le_of_lt_succ hp) with h5 | rfl
                            · exact h p h5 e1 e2
                            · exact absurd e2 HC.out, fun h p hp => h p (by omega)⟩, HDR.out.drew _⟩
                        case measure => simp [intOf]; omega
                    · have htI : (((g.t q : Nat) : Int) == (v : Int)) = false := by simp; omega
                      have HTV := Lib.hid htv
                      clear htv
                      go_wp2_with fail
                      go_quiet (fail)
                      go_wp2_with fail
                      go_roundw
                      case rel => exact ⟨q + 1, F, by go_num, rfl, by omega, by
                        rw [HFQ.out]
                        exact ⟨fun h p hp e1 e2 => by
                          rcases Nat.lt_or_eq_of_le (Nat.le_of_lt_succ hp) with h5 | rfl
                          · exact h p h5 e1 e2
                          · exact absurd e1 HTV.out, fun h p hp => h p (by omega)⟩, HDR.out.drew _⟩
                      case measure => simp [intOf]; omega
                  · obtain rfl : q = lW := by omega
                    have hqI : ¬ (q : Int) < (q : Int) := by omega
                    clear cx
                    have HNI := Lib.hid (show NetB wi w.heap.size ⟨aT, k, cT, aW, q, cW⟩ by obtain ⟨z, hz⟩ := HDR.out; rw [hz]; exact HNB.out.drewN z)
                    have HOI := Lib.hid (show wi.ownsRow (w.heap.size + 1) 3 1 (.slice (some ⟨gx, 0, none⟩) l cap) l ((natD X').map (.int .i64)) by obtain ⟨z, hz⟩ := HDR.out; rw [hz]; exact own_drewN HOWN.out z)
                    have hzi : w.heap.size < wi.heap.size := by obtain ⟨z, hz2⟩ := HDR.out; rw [hz2]; exact hz
                    cases F
                    · have HNO : Hid (¬ g.freeK X' v g.m) := Lib.hid (fun h => by rw [HM.out] at h; have := HFQ.out.2 h; cases this)
                      go_wp2_with fail
                      go_roundw
                      case rel => exact ⟨some ⟨gx, 0, none⟩, cap, l, X', false, x + 1, rfl, rfl, by go_num, HXL.out, Nat.le_refl _, HOI.out, hcap, HX.out, by omega, (fun e => by cases e), (fun _ => ⟨rfl, fun i u hi hu => by
                        rcases Nat.lt_or_eq_of_le (Nat.le_of_lt_succ hi) with h | rfl
                        · exact HNF.out i u h hu
                        · rw [HXV.out] at hu; cases hu; exact HNO.out⟩), HBI.out, hzi, HNI.out⟩
                      case measure => simp [bitOf, intOf]; omega
                    · have HCUT := Lib.hid (left_cut HX.out HXV.out (by rw [HM.out]; exact HFQ.out.1 rfl))
                      have HLEN := Lib.hid (left_len (X := X') (x := x) (by have := HXL.out; omega))
                      have hx1 : IntsAt wi (· < wi.heap.size) (some ⟨gx, 0, none⟩) l (natD X') := by
                        obtain ⟨a', c', e', _, h'⟩ := own_ints HOI.out (by omega)
                        injection e' with e1 _ _
                        subst e1
                        exact h'.to fun b hb => ⟨hb.2, rfl⟩
                      have HT := Lib.hid (hx1.takeI x (by omega))
                      have hx1c : x + 1 ≤ cap := by omega
                      have hxc : x ≤ cap := by omega
                      have hx1l : x + 1 ≤ l := by omega
                      have hwx : IntKind.i64.wrap ((x : Int) + 1) = (x : Int) + 1 := IntWalk.i64_in _ (by omega)
                      have hx0 : 0 ≤ (x : Int) + 1 := by omega
                      have hxl1 : (x : Int) + 1 ≤ (l : Int) := by omega
                      have hxt : ((x : Int) + 1).toNat = x + 1 := by omega
                      obtain ⟨AD, hAD, hD⟩ : ∃ od : Nat, (if cap = x + 1 then (some ⟨gx, 0, none⟩ : Option Addr) else some ⟨gx, x + 1, none⟩) = some ⟨gx, od, none⟩ ∧ IntsAt wi (· < wi.heap.size) (some ⟨gx, od, none⟩) (l - (x + 1)) ((natD X').drop (x + 1)) := by
                        by_cases hck : cap = x + 1
                        · exact ⟨0, by rw [if_pos hck], by have := hx1.lenEq; simp; omega, by omega, fun h0 => by omega⟩
                        · exact ⟨x + 1, by rw [if_neg hck], hx1.dropI (x + 1) (by omega)⟩
                      have HD := Lib.hid hD
                      clear hD hx1
                      have QA := Lib.hid (World.ownsRow_made (base := wi.heap.size) (size := 1) (e := 3) wi #[] 0 (Nat.le_refl _) (Nat.zero_le _) rfl)
                      have B1 : Hid (Below wi.heap.size wi (wi.alloc (.cells #[] 3)).drew) := Lib.hid ((Below.refl _ _).alloc (Nat.le_refl _) _).drew
                      go_wp2_with fail
                      go_region_law (first
                        | (refine stepApp (by rfl) _ _ (by rfl) wi.heap.size 0 0 wi.heap.size [] (· < wi.heap.size) gx 0 x cap ((natD X').take x) (by rfl) QA.out.drew (by rfl) (HT.out.below B1.out) B1.out.size x (by omega) ((natD X').take x) (by simp) (by omega) ?_
                           intro g4 c4 w4 own4 hc4 gr4 hb4 hl4
                           have BC := Lib.hid (B1.out.grown gr4 B1.out.size (by intro k e; injection e with e; omega)))
                        | (refine stepApp (by rfl) _ _ (by rfl) wi.heap.size x c4 g4 ((natD X').take x) (· < wi.heap.size) gx AD (l - (x + 1)) (cap - (x + 1)) ((natD X').drop (x + 1)) (by rfl) own4 (by rfl) (HD.out.below BC.out) BC.out.size (l - 1) (by omega) ((natD X').take x ++ (natD X').drop (x + 1)) rfl (by omega) ?_
                           intro g6 c6 w6 own6 hc6 gr6 hb6 hl6
                           have B6 := Lib.hid (BC.out.grown gr6 BC.out.size (by intro k e; injection e with e; omega))))
                      all_goals (have H6 := Lib.hid own6; clear own6 own4 gr4 gr6)
                      go_wp2_with fail
                      go_roundw
                      case rel => exact ⟨some ⟨g6, 0, none⟩, c6, l - 1, X'.take x ++ X'.drop (x + 1), true, x + 1, rfl, rfl, by go_num, by have := HLEN.out; have := HXL.out; omega, by omega, by rw [natD_cut]; exact own_base H6.out (by omega), hc6, HCUT.out, by omega, (fun _ => by omega), (fun e => by cases e), HBI.out.trans (B6.out.mono HBI.out.size), Nat.lt_of_lt_of_le hzi B6.out.size, HNI.out.below B6.out hzi⟩
                      case measure => simp [bitOf, intOf]; omega
              · obtain rfl : x = l := by omega
                have hxI : ¬ (x : Int) < (x : Int) := by omega
                have HSTK := Lib.hid (stuck_left HX.out (fun i v hi => HNF.out i v (by have := (List.getElem?_eq_some_iff.1 hi).1; have := HXL.out; omega) hi))
                go_wp2_with fail
                go_roundw
                case rel => exact ⟨a, cap, X', false, by rw [HXL.out], rfl, by rw [HXL.out]; exact hXk, by rw [HXL.out]; exact HOWN.out, by rw [HXL.out]; exact hcap, HX.out, (fun _ => HSTK.out), HB.out, hz, HNB.out⟩
                case measure => simp [bitOf, capOf]
            · have hlt := hbt rfl
              clear hbt hbf
              by_cases hxl : x < l
              all_goals
                first | have hxI : (x : Int) < (l : Int) := by omega | have hxI : ¬ (x : Int) < (l : Int) := by omega
                go_wp2_with fail
                go_roundw
                case rel => exact ⟨a, cap, X', true, by rw [HXL.out], rfl, by rw [HXL.out]; omega, by rw [HXL.out]; exact HOWN.out, by rw [HXL.out]; exact hcap, HX.out, (fun e => by cases e), HB.out, hz, HNB.out⟩
                case measure => simp [bitOf, capOf]; omega
end Go.Proofs.Ytkjmpkincaainad
