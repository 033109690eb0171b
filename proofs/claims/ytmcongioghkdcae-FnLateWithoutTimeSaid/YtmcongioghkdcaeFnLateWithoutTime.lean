/- The law FnLateWithoutTime returns true at every code, and the code reads behind the call as it read before. No condition. -/
import Derived.Test.YtmcongioghkdcaeRows
import Derived.WalkKit
import Derived.LoopTactic
import Derived.Outline
import Derived.WalkSpells
import Derived.WalkLawsBesides
import Derived.ProofKit
import Derived.Deep.QuietTactic
import Derived.BigQuiet
import Derived.IntWalk
import Derived.Test.YtmcongioghkdcaeM0
import Derived.Test.YtmcongioghkdcaeM1
import Derived.Test.YtmcongioghkdcaeM18
import Derived.Test.YtmcongioghkdcaeM19
import Derived.Test.YtmcongioghkdcaeM20
namespace Go.Proofs.Ytmcongioghkdcae
open Go.RowKit Go.WideShapes

set_option maxRecDepth 100000 in
set_option maxHeartbeats 2000000 in
theorem fnLateWithoutTime_any (a : Option Addr) (len cap : Nat) (w : World) (hb : BytesAt w w.heap.size a len) (hl : len ≤ cap) (hs : len ≤ 9223372036854775807) :
    Calls Try.prog 4 #[.slice a len cap] w (LawPost w) := by
  by_cases h20 : len ≤ 1048576
  · go_enter Try.func4, Try.ntmps4
    have hB0 := Below.refl w.heap.size w
    go_wp2_with fail
    refine (drawLeastTardy_any a len cap w hb hl hs).mono ?_
    rintro e w1 ⟨a1, l1, c1, rows, rfl, n_r, hc1, hl1, hb1⟩
    have hB1 : Below w.heap.size w w1 := hB0.trans (hb1.mono hB0.size)
    clear hB0
    have xr_1 := n_r
    clear n_r
    clear hb hb1
    go_wp2_with fail
    refine (leastTardy_impl a1 l1 c1 rows w1 xr_1 hc1).mono ?_
    rintro e w2 ⟨rfl, hb2⟩
    have xr_2 := rows_lift xr_1 hb2
    have hB2 : Below w.heap.size w w2 := hB1.trans (hb2.mono hB1.size)
    clear hB1 xr_1
    clear hb2
    go_wp2_with fail
    refine (leastTardy_spec a1 l1 c1 rows w2 xr_2).mono ?_
    rintro e w3 ⟨rfl, hb3⟩
    have xr_3 := rows_lift xr_2 hb3
    have hB3 : Below w.heap.size w w3 := hB2.trans (hb3.mono hB2.size)
    clear hB2 xr_2
    clear hb3
    go_wp2_with fail
    refine (validJobs_implV a1 l1 c1 rows w3 xr_3 hc1).mono ?_
    rintro e w4 ⟨rfl, hb6⟩
    have xr_4 := rows_lift xr_3 hb6
    have hB4 : Below w.heap.size w w4 := hB3.trans (hb6.mono hB3.size)
    clear hB3 xr_3
    clear hb6
    cases hv : jobsM rows
    · go_wp2_with fail
      go_ret
      exact ⟨rfl, hB4⟩
    · have HZ := Lib.hid (zero_late (kind := ⟨#[119, 97, 105, 116]⟩) hv w_isW)
      have HK := Lib.hid (zero_kept hv)
      have HP := Lib.hid (jobs_get hv).2
      have HLN := Lib.hid (xr_4.lenEq)
      clear hv
      obtain ⟨i1, hj, hy0, hy1, hy2⟩ := info_parts Try.infoInts
      have ho0 := World.ownsRow_made (base := w4.heap.size) (size := 1) (e := 24) w4 #[] 0 (Nat.le_refl _) (Nat.zero_le _) rfl
      have hb00 := (Below.refl w4.heap.size w4).alloc (Nat.le_refl _) (.cells #[] 24)
      go_wp2_with fail
      go_loopw [4, 5] (fun v iv wr => ∃ (k cp : Nat) (ax : Option Addr), k ≤ l1 ∧ iv = .int .i64 k ∧ v = .slice ax k cp ∧ k ≤ cp ∧ OwnRowsV wr w4.heap.size v k (zero3 (rows.take k)) ∧ Below w4.heap.size w4 wr) (fun _ iv _ => l1 - (intOf iv).toNat)
      case atStart => exact ⟨0, 0, _, Nat.zero_le _, rfl, rfl, Nat.le_refl _, ⟨[], ho0, rfl, fun q u hq => by cases hq⟩, hb00⟩
      case round =>
        clear ho0 hb00
        obtain ⟨k, cp, ax, hk, rfl, rfl, hkc, hown, hB⟩ := hrel
        obtain ⟨wo, rfl⟩ : ∃ wo : World, wo = wr := ⟨_, rfl⟩
        have HB := Lib.hid hB
        by_cases hkl : k < l1
        · have hr := xr_4.below hB
          clear hB
          obtain ⟨us, hv, hlr, hus⟩ := hown
          have HV := Lib.hid hv
          have HUS := Lib.hid hus
          have HLR := Lib.hid hlr
          obtain ⟨b, off, b3, off3, c3, rfl, hcr, hct, hcw, hcd, _⟩ := row3_at hr HP.out hkl
          have HTP := Lib.hid (zero3_step (rows := rows) (k := k) (by rw [HLN.out]; exact hkl))
          have hm1 : b < w4.heap.size := hr.mem (by omega)
          have hm2 : b3 < w4.heap.size := row3_mem hr HP.out hkl hcr
          have hsz := HB.out.size
          generalize ta rows k = xt at *
          generalize tb rows k = xw at *
          generalize td rows k = xd at *
          have ak : (Value.slice ax k cp).ownBlock ≠ some b := fun e => by have h1 := own_block HV.out _ e; omega
          have av : (Value.slice ax k cp).ownBlock ≠ some b3 := fun e => by have h1 := own_block HV.out _ e; omega
          have HNB : Hid (((wo.alloc (.cells #[.int .i64 (xt), .int .i64 (xw), .int .i64 (0)] 3)).alloc (.cells #[.slice (some ⟨wo.heap.size, 0, none⟩) 3 3] 24)).heap[wo.heap.size + 1]? = some (.cells #[.slice (some ⟨wo.heap.size, 0, none⟩) 3 3] 24 (0, 0))) := Lib.hid (by
            have h1 := heap_alloc_new (wo.alloc (.cells #[.int .i64 (xt), .int .i64 (xw), .int .i64 (0)] 3)) (.cells #[.slice (some ⟨wo.heap.size, 0, none⟩) 3 3] 24)
            rw [show (wo.alloc (.cells #[.int .i64 (xt), .int .i64 (xw), .int .i64 (0)] 3)).heap.size = wo.heap.size + 1 by simp] at h1
            exact h1)
          have hkk : (k : Int) < (l1 : Int) := by omega
          clear hv hus hlr hr
          go_wp2_with fail
          go_region_held3 (fun w' => w'.cell? ⟨b, off + k, none⟩ = some (.slice (some ⟨b3, off3, none⟩) 3 c3) ∧ w'.cell? ⟨b3, off3, none⟩ = some (.int .i64 xt) ∧ w'.cell? ⟨b3, off3 + 1, none⟩ = some (.int .i64 xw))
              (first
                | go_keep
                | (go_split_ands
                   refine ⟨?_, ?_, ?_⟩
                   · (rw [hgrow.cell_far _ (by simp; omega) (Ne.symm ak)]; assumption)
                   · (rw [hgrow.cell_far _ (by simp; omega) (Ne.symm av)]; assumption)
                   · (rw [hgrow.cell_far _ (by simp; omega) (Ne.symm av)]; assumption)))
              ((refine step_append_lies _ (by rfl) _ _ _ (by rfl) w4.heap.size 24 i1 _ 1 24 Try.underlying23 hj hy0 hy1 hy2 rfl (by omega) (.slice ax k cp) k _ (by rfl) (((HV.out.alloc _).alloc _).drew)
                  ⟨wo.heap.size + 1, 0, none⟩ 1 1 [.slice (some ⟨wo.heap.size, 0, none⟩) 3 3] (by rfl) (by rfl) (World.news_of_block (cs := #[.slice (some ⟨wo.heap.size, 0, none⟩) 3 3]) (t := 24) (fr := (0, 0)) HNB.out) (by simp [Value.oneCell'])
                  (by omega) (by unfold maxLen; omega) (by omega) (by have := HB.out.size; simp; omega) (wo.heap.size + 2) (by simp) ?_; intro gg c6 w6 hown6 hgrow hat hlt))
          have HGX := Lib.hid (show ((wo.alloc (.cells #[.int .i64 (xt), .int .i64 (xw), .int .i64 (0)] 3)).alloc (.cells #[.slice (some ⟨wo.heap.size, 0, none⟩) 3 3] 24)).grownBy w6 (Value.slice ax k cp).ownBlock from grown_comp (grownBy_drewN _ 1 _) hgrow)
          have HO6 := Lib.hid hown6
          have hkc6 : Hid (k + 1 ≤ c6) := Lib.hid (by obtain ⟨_, _, e, h'⟩ := own_slice hown6; injection e with _ _ e; omega)
          clear hown6 hgrow
          have HPU := Lib.hid (OwnRowsV.push (a := some ⟨wo.heap.size, 0, none⟩) (c := 3) (r := [xt, xw, 0]) (rows := zero3 (rows.take k)) ((HV.out.alloc (.cells #[.int .i64 (xt), .int .i64 (xw), .int .i64 (0)] 3)).alloc (.cells #[.slice (some ⟨wo.heap.size, 0, none⟩) 3 3] 24)) HLR.out
            (fun q u hq => by
              obtain ⟨a', l', c', r', e1, e2, e3, e4, e5⟩ := HUS.out q u hq
              exact ⟨a', l', c', r', e1, e2, e3, e4, (e5.alloc _).alloc _⟩) ((own_lit3 wo hsz (xt) (xw) (0)).alloc _) (Nat.le_refl _) (by omega) HO6.out HGX.out)
          have HB6 := Lib.hid (((HB.out.alloc hsz (.cells #[.int .i64 (xt), .int .i64 (xw), .int .i64 (0)] 3)).alloc (by simp; omega) (.cells #[.slice (some ⟨wo.heap.size, 0, none⟩) 3 3] 24)).grown HGX.out (by simp; omega) (own_block HV.out))
          go_wp2
          go_roundw
          case rel => exact ⟨k + 1, c6, _, by omega, by go_num, rfl, hkc6.out, by rw [HTP.out]; exact HPU.out, HB6.out⟩
          case measure => simp [intOf] <;> omega
        · obtain rfl : l1 = k := by omega
          have n_t := hown.rows (by omega)
          rw [List.take_of_length_le (by have := HLN.out; omega)] at n_t
          have hkl0 : ¬ (l1 : Int) < (l1 : Int) := by omega
          clear hown HB
          obtain ⟨w5, rfl⟩ : ∃ wz : World, wz = wo := ⟨_, rfl⟩
          have xr_5 := rows_lift xr_4 hB
          have hB5 : Below w.heap.size w w5 := hB4.trans (hB.mono hB4.size)
          clear hB4 xr_4
          have xt_5 := rows_in n_t (Nat.le_refl _)
          clear n_t
          clear hB
          go_wp2_with fail
          refine (leastTardy_impl ax l1 cp (zero3 rows) w5 xt_5 hkc).mono ?_
          rintro e w6 ⟨rfl, hb7⟩
          have xr_6 := rows_lift xr_5 hb7
          have xt_6 := rows_lift xt_5 hb7
          have hB6 : Below w.heap.size w w6 := hB5.trans (hb7.mono hB5.size)
          clear hB5 xr_5 xt_5
          clear hb7
          rw [HZ.out]
          go_wp2_with fail
          refine (orderBy_impl ax l1 cp (zero3 rows) ⟨#[119, 97, 105, 116]⟩ w6 xt_6 hkc).mono ?_
          rintro e w7 ⟨a3, l3, c3, rfl, n_g, _, hc3, hb8⟩
          have xr_7 := rows_lift xr_6 hb8
          have xt_7 := rows_lift xt_6 hb8
          have hB7 : Below w.heap.size w w7 := hB6.trans (hb8.mono hB6.size)
          clear hB6 xr_6 xt_6
          have xg_7 := ints_in n_g (Nat.le_refl _)
          clear n_g
          clear hb8
          go_wp2_with fail
          refine (waitOf_impl ax l1 cp (zero3 rows) a3 l3 c3 (ordRes (zero3 rows) ⟨#[119, 97, 105, 116]⟩) w7 xt_7 xg_7 hkc hc3).mono ?_
          rintro e w8 ⟨rfl, hb9⟩
          have xr_8 := rows_lift xr_7 hb9
          have xt_8 := rows_lift xt_7 hb9
          have xg_8 := ints_lift xg_7 hb9
          have hB8 : Below w.heap.size w w8 := hB7.trans (hb9.mono hB7.size)
          clear hB7 xr_7 xt_7 xg_7
          clear hb9
          generalize waitRes (zero3 rows) (ordRes (zero3 rows) ⟨#[119, 97, 105, 116]⟩) = sv at *
          go_wp2_with fail
          refine (keptOnTime_impl ax l1 cp (zero3 rows) w8 xt_8 hkc).mono ?_
          rintro e w9 ⟨a4, l4, c4, rfl, n_k, _, hc4, hb10⟩
          have xr_9 := rows_lift xr_8 hb10
          have xt_9 := rows_lift xt_8 hb10
          have xg_9 := ints_lift xg_8 hb10
          have hB9 : Below w.heap.size w w9 := hB8.trans (hb10.mono hB8.size)
          clear hB8 xr_8 xt_8 xg_8
          have xk_9 := ints_in n_k (Nat.le_refl _)
          clear n_k
          clear hb10
          obtain rfl : l4 = 0 := by have := xk_9.lenEq; rw [HK.out] at this; exact this.symm
          go_wp2_with fail
          go_ret
          exact ⟨rfl, hB9⟩
  · go_enter Try.func4, Try.ntmps4
    go_wp2
    go_ret
    exact ⟨rfl, Below.refl _ _⟩
end Go.Proofs.Ytmcongioghkdcae
