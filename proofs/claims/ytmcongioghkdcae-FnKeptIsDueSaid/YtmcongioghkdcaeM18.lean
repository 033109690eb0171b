import Derived.Test.YtmcongioghkdcaeM14
import Derived.Test.YtmcongioghkdcaeM12
import Derived.Test.YtmcongioghkdcaeM13
import Derived.Deep.RegionHeld3
import Derived.Test.YtmcongioghkdcaeRows
import Derived.WalkKit
import Derived.ProofKit
import Derived.Test.YtmcongioghkdcaeM0
import Derived.Test.YtmcongioghkdcaeM1
import Derived.Test.YtmcongioghkdcaeM8
import Derived.Test.YtmcongioghkdcaeM10
import Derived.Test.YtmcongioghkdcaeM11
import Derived.Test.YtmcongioghkdcaeM15
import Derived.Test.YtmcongioghkdcaeM17
import Derived.WalkSpells
import Derived.WalkLawsBesides
namespace Go.Proofs.Ytmcongioghkdcae
open Go.RowKit Go.WideShapes

/-- the least one so far, from the greatest number on -/
def mvK (w d : Nat → Int) (tb : List Int) (tm : Int) (s : Nat) : Nat → Int
  | 0 => 9223372036854775807
  | k + 1 => if s.testBit k = true then min (mvK w d tb tm s k) (tb.getD (s - 2 ^ k) 0 + tardG w d k tm) else mvK w d tb tm s k
theorem mv_step (b : Bool) (M x c : Int) (h1 : 0 ≤ c) (h2 : c ≤ M) : (if b = true then min (if x < 0 then M else x) c else (if x < 0 then M else x)) = if (if b = true ∧ (x < 0 ∨ c < x) then c else x) < 0 then M else (if b = true ∧ (x < 0 ∨ c < x) then c else x) := by
  cases b
  · simp
  · by_cases hx : x < 0
    · simp only [hx, true_or, and_self, if_true]
      rw [if_neg (by omega)]; omega
    · by_cases hcx : c < x
      · simp only [hx, hcx, false_or, and_self, if_true, if_false]
        rw [if_neg (by omega)]; omega
      · simp only [hx, hcx, false_or, and_false, if_true, if_false]
        omega
theorem mvK_scan {w d : Nat → Int} {tb : List Int} {tm : Int} {s : Nat} (hc : ∀ k, 0 ≤ tb.getD (s - 2 ^ k) 0 + tardG w d k tm ∧ tb.getD (s - 2 ^ k) 0 + tardG w d k tm ≤ 9223372036854775807) : ∀ k, mvK w d tb tm s k = if scanL w d tb tm s k < 0 then 9223372036854775807 else scanL w d tb tm s k
  | 0 => by rw [mvK, scanL, if_pos (by omega)]
  | k + 1 => by
    rw [mvK, scanL, mvK_scan hc k]
    exact mv_step _ _ _ _ (hc k).1 (hc k).2
theorem OwnF.later {w wr w' : World} {len : Nat} {f : Nat → Int} (h : OwnF w wr len f) (hb : Below wr.heap.size wr w') : OwnF w w' len f := by
  have hh := h.heap
  have hlt : w.heap.size < wr.heap.size := (Array.getElem?_eq_some_iff.1 hh).1
  refine ⟨⟨h.own.1, ?_⟩, h.below.trans (hb.mono h.below.size)⟩
  rcases h.own.2 with ⟨e, _⟩ | ⟨k, cap, cur, e, h1, h2, h3⟩
  · cases e
  · simp only [Value.slice.injEq, Option.some.injEq, Addr.mk.injEq] at e
    obtain ⟨⟨rfl, _⟩, _, rfl⟩ := e
    exact .inr ⟨_, _, cur, rfl, h1, (hb.block _ hlt).trans h2, h3⟩
theorem OwnF.lt {w wr : World} {len : Nat} {f : Nat → Int} (h : OwnF w wr len f) : w.heap.size < wr.heap.size := (Array.getElem?_eq_some_iff.1 h.heap).1
theorem dif_two {s i : Nat} (h : s.testBit i = true) : dif s (2 ^ i) = s - 2 ^ i := by
  apply Nat.eq_of_testBit_eq; intro q
  rw [dif_bit, sub_bit h, Nat.testBit_two_pow]
  by_cases e : i = q
  · subst e; simp
  · simp [e, Ne.symm e]
set_option maxHeartbeats 1000000 in
theorem endOfSet_any (B n s : Nat) (t v d : Nat → Int) (w : World) (hJ : JobsB w B n t v d) (hB : B < w.heap.size) (hn : n ≤ 8) (hs : s < 1048576) (ht : ∀ x, 0 ≤ t x ∧ t x ≤ 9) :
    Calls Try.prog 29 #[.slice (some ⟨B, 0, none⟩) n n, .int .i64 s] w fun e w' => e = .returned (.int .i64 (bsum t s n)) ∧ Below w.heap.size w w' := by
  have HJ := Lib.hid hJ
  clear hJ
  go_enter Try.func29, Try.ntmps29
  go_wp2_with fail
  go_loopw [5, 10] (fun e i wr => ∃ k : Nat, i = .int .i64 k ∧ k ≤ n ∧ e = .int .i64 (bsum t s k) ∧ Below w.heap.size w wr) (fun _ i _ => n - (intOf i).toNat)
  case atStart => exact ⟨0, rfl, Nat.zero_le _, rfl, Below.refl _ _⟩
  case round =>
    obtain ⟨k, rfl, hk, rfl, hb⟩ := hrel
    have hbb := bsum_bd ht s k
    by_cases hlt : k < n
    · obtain ⟨g0, g1, g2⟩ := (HJ.out.block (w' := wr) (hb.block B hB)).at hlt
      have htk := ht k
      have HB := Lib.hid hb
      have HIN := Lib.hid (fun W => inSet_any s k hs (by omega) W)
      have HN := Lib.hid (show bsum t s (k + 1) = bsum t s k + (if s.testBit k = true then t k else 0) from rfl)
      have hkI : (k : Int) < (n : Int) := by omega
      have hsz := hb.size
      clear hb
      generalize bsum t s k = bs at *
      generalize t k = tk at *
      cases hq : s.testBit k
      · rw [hq] at HIN
        have HN2 := Lib.hid (HN.out.trans (by rw [hq]; simp : _ = bs))
        clear hq
        go_wp2_with fail
        refine (HIN.out _).mono ?_
        rintro e w' ⟨rfl, rfl⟩
        go_wp2_with fail
        go_roundw
        case rel => exact ⟨k + 1, by go_num, by omega, by rw [HN2.out], HB.out.alloc hsz _⟩
        case measure => simp [intOf] <;> omega
      · rw [hq] at HIN
        have HN2 := Lib.hid (HN.out.trans (by rw [hq]; simp : _ = bs + tk))
        clear hq
        go_wp2_with fail
        refine (HIN.out _).mono ?_
        rintro e w' ⟨rfl, rfl⟩
        go_wp2_with fail
        go_roundw
        case rel => exact ⟨k + 1, by go_num, by omega, by rw [HN2.out], HB.out.alloc hsz _⟩
        case measure => simp [intOf] <;> omega
    · obtain rfl : k = n := by omega
      go_wp2_with fail
      go_ret
      exact ⟨rfl, hb⟩
set_option maxRecDepth 100000 in
set_option maxHeartbeats 8000000 in
theorem leastTardy_impl (a : Option Addr) (len cap : Nat) (rows : List (List Int)) (w : World) (h : RowsAt w (· < w.heap.size) a len rows) (hc : len ≤ cap) :
    Calls Try.prog 11 #[.slice a len cap] w (ValPost w (.int .i64 (ltRes rows))) := by
  have HL := Lib.hid h.lenEq
  have HD := Lib.hid (dueJobsOf_any a len cap rows w h hc)
  clear h
  cases hp : jobsM rows
  · have HR := Lib.hid (show ltRes rows = -1 by unfold ltRes; rw [hp]; rfl)
    rw [HR.out]
    go_enter Try.func11, Try.ntmps11
    go_wp2_with fail
    refine HD.out.mono ?_
    rintro e w1 ⟨hb, ⟨_, rfl⟩ | ⟨hf, _⟩⟩
    · go_wp2_with fail
      go_ret
      exact ⟨rfl, hb⟩
    · rw [hp] at hf; cases hf
  · have hl8 : len ≤ 8 := by have := (jobs_get hp).1; have := HL.out; omega
    have HBD := Lib.hid (fun q => j_bd hp q)
    have hp8 : 1 ≤ 2 ^ len ∧ 2 ^ len ≤ 256 := ⟨Nat.two_pow_pos _, Nat.pow_le_pow_right (n := 2) (j := 8) (by omega) hl8⟩
    have HXB := Lib.hid (fun s (hs : s < 2 ^ len) => ltX_bd hp hl8 hs)
    have HALL := Lib.hid (fun w => allOf_any len (by omega) w)
    obtain ⟨m, hm⟩ : ∃ m, 2 ^ len - 1 = m := ⟨_, rfl⟩
    have hP : 2 ^ len = m + 1 := by omega
    have HPE := Lib.hid hP
    have hm8 : m ≤ 255 := by omega
    rw [hP] at HXB
    rw [hm] at HALL
    have HR := Lib.hid (show ltRes rows = ltX (ta rows) (tb rows) (td rows) len m by unfold ltRes; rw [if_pos hp, HL.out, hm])
    rw [HR.out]
    have hmk := fun w => run_make_row' (P := Try.prog) 24 3 (.int .i64 0) 8 Try.underlying24 Try.infoIntO rfl .i64 .i64 (m + 1) (by omega) (by omega) w
    rw [show ((m + 1 : Nat) : Int) = (m : Int) + 1 by omega] at hmk
    clear hP hm hp8
    go_enter Try.func11, Try.ntmps11
    go_wp2_with fail
    refine HD.out.mono ?_
    rintro e w1 ⟨hb, ⟨hf, _⟩ | ⟨_, B, rfl, hB1, hB2, hJB⟩⟩
    · rw [hp] at hf; cases hf
    have HB := Lib.hid hb
    have HJB := Lib.hid hJB
    clear hJB hb hp
    go_wp2_with fail
    refine (HALL.out _).mono ?_
    rintro e w' ⟨rfl, rfl⟩
    go_wp2_with fail
    clear hmk
    go_loopw [6] (fun v wr => ∃ s : Nat, v = .int .i64 s ∧ 1 ≤ s ∧ s ≤ m + 1 ∧ OwnF w1 wr (m + 1) (fun q => if q < s then ltX (ta rows) (tb rows) (td rows) len q else 0)) (fun v _ => m + 1 - (intOf v).toNat)
    case atStart => exact ⟨1, rfl, Nat.le_refl _, by omega, (OwnF.start w1 (m + 1) (by omega)).congr (fun q _ => by
      by_cases e : q < 1
      · rw [if_pos e, show q = 0 by omega]; rfl
      · rw [if_neg e])⟩
    case round =>
      obtain ⟨s, rfl, hs1, hsm, hO⟩ := hrel
      by_cases hlt : s < m + 1
      · have HO := Lib.hid hO
        have hOb := hO.below
        have HEN := Lib.hid (endOfSet_any B len s (ta rows) (tb rows) (td rows) wr (HJB.out.block (hOb.block B hB2)) (Nat.lt_of_lt_of_le hB2 hOb.size) hl8 (by omega) (fun x => (HBD.out x).1))
        obtain ⟨σ, hσ⟩ : ∃ σ, s = σ + 1 := ⟨s - 1, by omega⟩
        have HLX := Lib.hid (show ltX (ta rows) (tb rows) (td rows) len s = scanL (tb rows) (td rows) (ltT (ta rows) (tb rows) (td rows) len σ) (bsum (ta rows) s len) s len by rw [hσ]; exact ltX_succ _ _ _ _ _)
        have HTQ := Lib.hid (show ∀ q, q < s → (ltT (ta rows) (tb rows) (td rows) len σ).getD q 0 = ltX (ta rows) (tb rows) (td rows) len q from fun q hq => ltT_at (by omega))
        obtain ⟨TB, hTB⟩ : ∃ TB, ltT (ta rows) (tb rows) (td rows) len σ = TB := ⟨_, rfl⟩
        have htm := bsum_bd (fun x => (HBD.out x).1) s len
        have HSP := Lib.hid (show 0 ≤ scanL (tb rows) (td rows) (ltT (ta rows) (tb rows) (td rows) len σ) (bsum (ta rows) s len) s len from by
          rw [← HLX.out]; exact (HXB.out s (by omega)).1)
        rw [hTB] at HLX HTQ HSP
        obtain ⟨tm, hTM⟩ : ∃ tm, bsum (ta rows) s len = tm := ⟨_, rfl⟩
        rw [hTM] at HEN HLX HSP htm
        have htm2 : 0 ≤ tm ∧ tm ≤ 72 := by omega
        have HCB := Lib.hid (show ∀ k, s.testBit k = true → (0 ≤ TB.getD (s - 2 ^ k) 0 ∧ TB.getD (s - 2 ^ k) 0 ≤ 5600) ∧ s - 2 ^ k < s from fun k hk => by
          have hg := ge_bit hk
          have hpk := Nat.two_pow_pos k
          rw [HTQ.out _ (by omega)]
          exact ⟨HXB.out _ (by omega), by omega⟩)
        have HTG := Lib.hid (show ∀ k, 0 ≤ tardG (tb rows) (td rows) k tm ∧ tardG (tb rows) (td rows) k tm ≤ 700 from fun k => by
          have hdk := (HBD.out k).2.2
          have := mul_boxJ (HBD.out k).2.1.1 (HBD.out k).2.1.2 (show 0 ≤ max (tm - td rows k) 0 by omega) (show max (tm - td rows k) 0 ≤ 72 by omega)
          unfold tardG; omega)
        have HTL := Lib.hid (show TB.length = s by rw [← hTB, ltT_len, hσ])
        have HALLB := Lib.hid (show ∀ q, 0 ≤ TB.getD q 0 ∧ TB.getD q 0 ≤ 5600 from fun q => by
          by_cases hq : q < s
          · rw [HTQ.out q hq]; exact HXB.out q (by omega)
          · rw [List.getD_eq_getElem?_getD, List.getElem?_eq_none (by rw [HTL.out]; omega)]; simp)
        have HMV := Lib.hid (show mvK (tb rows) (td rows) TB tm s len = ltX (ta rows) (tb rows) (td rows) len s by
          rw [mvK_scan (fun k => by have h1 := HALLB.out (s - 2 ^ k); have h2 := HTG.out k; omega), HLX.out, if_neg (by have := HSP.out; omega)])
        have hsI : (s : Int) < (m : Int) + 1 := by omega
        have hsI2 : (s : Int) < ((m + 1 : Nat) : Int) := by omega
        clear hσ hTB hTM htm hO hOb
        go_wp2_with fail
        refine HEN.out.mono ?_
        rintro e w3 ⟨rfl, hb3⟩
        have hO3 := HO.out.later hb3
        obtain ⟨cs, fs⟩ := hO3.cell hlt
        have HO3 := Lib.hid hO3
        clear hb3 hO3
        go_wp2_with fail
        go_loopw [36] (fun i wy => ∃ k : Nat, i = .int .i64 k ∧ k ≤ len ∧ OwnF w1 wy (m + 1) (fun q => if q = s then mvK (tb rows) (td rows) TB tm s k else if q < s then ltX (ta rows) (tb rows) (td rows) len q else 0)) (fun i _ => len - (intOf i).toNat)
        case atStart => exact ⟨0, rfl, Nat.zero_le _, HO3.out.put s _⟩
        case round =>
          obtain ⟨k, rfl, hk, hOk⟩ := hrel
          obtain ⟨wo, rfl⟩ : ∃ wo : World, wo = wr := ⟨_, rfl⟩
          by_cases hlk : k < len
          · obtain ⟨g0, g1, g2⟩ := (HJB.out.block (w' := wo) (hOk.below.block B hB2)).at hlk
            have HOK := Lib.hid hOk
            have HIN := Lib.hid (fun W => inSet_any s k (by omega) (by omega) W)
            have hkI : (k : Int) < (len : Int) := by omega
            have hal := (Below.refl wo.heap.size wo).alloc (Nat.le_refl _) (.cells #[.int .i64 (ta rows k), .int .i64 (tb rows k), .int .i64 (td rows k)] 50)
            have HOA := Lib.hid (hOk.later hal)
            have HN := Lib.hid (show mvK (tb rows) (td rows) TB tm s (k + 1) = if s.testBit k = true then min (mvK (tb rows) (td rows) TB tm s k) (TB.getD (s - 2 ^ k) 0 + tardG (tb rows) (td rows) k tm) else mvK (tb rows) (td rows) TB tm s k from rfl)
            clear hOk hal
            cases htb : s.testBit k
            · rw [htb] at HIN
              have HN2 := Lib.hid (HN.out.trans (if_neg (by rw [htb]; simp)))
              clear htb
              go_wp2_with fail
              refine (HIN.out _).mono ?_
              rintro e w' ⟨rfl, rfl⟩
              go_wp2_with fail
              go_roundw
              case rel => exact ⟨k + 1, by go_num, by omega, HOA.out.congr fun q _ => by rw [HN2.out]⟩
              case measure => simp [intOf] <;> omega
            · rw [htb] at HIN
              obtain ⟨⟨hc0, hc1⟩, hqs⟩ := HCB.out k htb
              have htg := HTG.out k
              have HN2 := Lib.hid (HN.out.trans (if_pos htb))
              have HQ := Lib.hid (HTQ.out _ hqs)
              have HDI := Lib.hid (dif_two htb)
              have hge := ge_bit htb
              have hps := Nat.two_pow_pos k
              have hpi2 : ((2 : Int) ^ k) = ((2 ^ k : Nat) : Int) := by push_cast; rfl
              obtain ⟨pi, hpi⟩ : ∃ pi, 2 ^ k = pi := ⟨_, rfl⟩
              rw [hpi] at HN2 HQ HDI hqs hge hps hpi2 hc0 hc1
              obtain ⟨q, hq⟩ : ∃ q, s - pi = q := ⟨_, rfl⟩
              rw [hq] at HN2 HQ HDI hqs hc0 hc1
              have EN := i_not s pi (by omega) (by omega)
              rw [HDI.out] at EN
              rw [HQ.out] at HN2 hc0 hc1
              obtain ⟨cq, _⟩ := HOA.out.cell (q := q) (by omega)
              rw [if_neg (by omega), if_pos hqs] at cq
              obtain ⟨cs2, fs2⟩ := HOA.out.cell (q := s) hlt
              rw [if_pos rfl] at cs2
              have HTA := Lib.hid (fun W => tardyAt_any (ta rows k) (tb rows k) (td rows k) tm W (HBD.out k).1 (HBD.out k).2.1 (HBD.out k).2.2 htm2)
              rw [show tardR (ta rows k) (tb rows k) (td rows k) tm = tardG (tb rows) (td rows) k tm from rfl] at HTA
              obtain ⟨j0, j1, j2⟩ : (wo.alloc (.cells #[.int .i64 (ta rows k), .int .i64 (tb rows k), .int .i64 (td rows k)] 50)).cell? ⟨wo.heap.size, 0, none⟩ = some (.int .i64 (ta rows k)) ∧ (wo.alloc (.cells #[.int .i64 (ta rows k), .int .i64 (tb rows k), .int .i64 (td rows k)] 50)).cell? ⟨wo.heap.size, 1, none⟩ = some (.int .i64 (tb rows k)) ∧ (wo.alloc (.cells #[.int .i64 (ta rows k), .int .i64 (tb rows k), .int .i64 (td rows k)] 50)).cell? ⟨wo.heap.size, 2, none⟩ = some (.int .i64 (td rows k)) := by
                refine ⟨?_, ?_, ?_⟩ <;> rw [World.cell?_alloc_new] <;> rfl
              have hwz : wo.heap.size < (wo.alloc (.cells #[.int .i64 (ta rows k), .int .i64 (tb rows k), .int .i64 (td rows k)] 50)).heap.size := by simp
              have hwt := HOA.out.lt
              obtain ⟨wb, hwb⟩ : ∃ wb, wo.alloc (.cells #[.int .i64 (ta rows k), .int .i64 (tb rows k), .int .i64 (td rows k)] 50) = wb := ⟨_, rfl⟩
              rw [hwb] at HOA j0 j1 j2 hwz hwt cq cs2 fs2
              have HWB := Lib.hid hwb
              have hqI : (q : Int) < (m : Int) + 1 := by omega
              have hqI2 : (0 : Int) ≤ (q : Int) := by omega
              have HXQ := Lib.hid (show q ≠ s by omega)
              clear hpi hq htb hwb
              generalize ta rows k = tk at *
              generalize tb rows k = vk at *
              generalize td rows k = dk at *
              generalize tardG (tb rows) (td rows) k tm = tg at *
              generalize mvK (tb rows) (td rows) TB tm s k = mv at *
              generalize ltX (ta rows) (tb rows) (td rows) len q = lq at *
              have hw1 : IntKind.i64.wrap (lq + tg) = lq + tg := IntWalk.i64_in _ (by omega)
              have hw2 : IntKind.i64.wrap ((pi : Nat) : Int) = (pi : Int) := IntWalk.i64_in _ (by omega)
              obtain ⟨mn, hmn⟩ : ∃ mn, (if lq + tg < mv then lq + tg else mv) = mn := ⟨_, rfl⟩
              have HM := Lib.hid (HN2.out.trans (show _ = mn by rw [← hmn]; split <;> omega))
              have hn0 : (⟨w1.heap.size, s, none⟩ : Addr) ≠ ⟨w1.heap.size, q, none⟩ := by intro e; injection e with _ e2; omega
              have hwo := HOK.out.lt
              have hn1 : ∀ j, (⟨w1.heap.size, s, none⟩ : Addr) ≠ ⟨wo.heap.size, j, none⟩ := fun j => by intro e; injection e with e1 _; omega
              have HK := Lib.hid (show ∀ w5 : World, w5.cell? ⟨w1.heap.size, q, none⟩ = some (.int .i64 lq) → w5.cell? ⟨wo.heap.size, 0, none⟩ = some (.int .i64 tk) → w5.cell? ⟨wo.heap.size, 1, none⟩ = some (.int .i64 vk) → w5.cell? ⟨wo.heap.size, 2, none⟩ = some (.int .i64 dk) →
                  ∀ u, (w5.setCell ⟨w1.heap.size, s, none⟩ u).cell? ⟨w1.heap.size, q, none⟩ = some (.int .i64 lq) ∧ (w5.setCell ⟨w1.heap.size, s, none⟩ u).cell? ⟨wo.heap.size, 0, none⟩ = some (.int .i64 tk) ∧ (w5.setCell ⟨w1.heap.size, s, none⟩ u).cell? ⟨wo.heap.size, 1, none⟩ = some (.int .i64 vk) ∧ (w5.setCell ⟨w1.heap.size, s, none⟩ u).cell? ⟨wo.heap.size, 2, none⟩ = some (.int .i64 dk) from
                fun w5 q0 q1 q2 q3 u => ⟨(World.cell?_setCell_other _ _ _ _ hn0).trans q0, (World.cell?_setCell_other _ _ _ _ (hn1 0)).trans q1, (World.cell?_setCell_other _ _ _ _ (hn1 1)).trans q2, (World.cell?_setCell_other _ _ _ _ (hn1 2)).trans q3⟩)
              clear hn0 hn1
              go_wp2_with fail
              refine (HIN.out _).mono ?_
              rintro e w' ⟨rfl, rfl⟩
              rw [HWB.out]
              go_wp2_with fail
              refine wp_region_held_drew (S := fun w' => w'.cell? ⟨w1.heap.size, q, none⟩ = some (.int .i64 lq) ∧ w'.cell? ⟨wo.heap.size, 0, none⟩ = some (.int .i64 tk) ∧ w'.cell? ⟨wo.heap.size, 1, none⟩ = some (.int .i64 vk) ∧ w'.cell? ⟨wo.heap.size, 2, none⟩ = some (.int .i64 dk)) (by kernel_rfl) ⟨cq, j0, j1, j2⟩ (fun hHeld => ?_)
              refine wpAnyH_take (i := 0) (v := .slice (some ⟨w1.heap.size, 0, none⟩) (m + 1) (m + 1)) rfl (by kernel_rfl) (by kernel_rfl) (by kernel_rfl) (fun _ _ _ h => h) (Or.inl ⟨by rfl, ?_⟩) hHeld ?_
              · rintro w' ⟨k1, k2, k3, k4⟩; go_simp
              try simp only [Act.put, List.setIfInBounds_toArray, List.set_cons_zero, List.set_cons_succ]
              refine wpAnyH_take (i := 1) (v := .int .i64 s) rfl (by kernel_rfl) (by kernel_rfl) (by kernel_rfl) (fun _ _ _ h => h) (Or.inl ⟨by rfl, ?_⟩) hHeld ?_
              · rintro w' ⟨k1, k2, k3, k4⟩; go_simp
              try simp only [Act.put, List.setIfInBounds_toArray, List.set_cons_zero, List.set_cons_succ]
              refine wpAnyH_take (i := 2) (v := .slice (some ⟨w1.heap.size, 0, none⟩) (m + 1) (m + 1)) rfl (by kernel_rfl) (by kernel_rfl) (by kernel_rfl) (fun _ _ _ h => h) (Or.inl ⟨by rfl, ?_⟩) hHeld ?_
              · rintro w' ⟨k1, k2, k3, k4⟩; go_simp
              try simp only [Act.put, List.setIfInBounds_toArray, List.set_cons_zero, List.set_cons_succ]
              refine wpAnyH_take (i := 3) (v := .int .i64 s) rfl (by kernel_rfl) (by kernel_rfl) (by kernel_rfl) (fun _ _ _ h => h) (Or.inl ⟨by rfl, ?_⟩) hHeld ?_
              · rintro w' ⟨k1, k2, k3, k4⟩; go_simp
              try simp only [Act.put, List.setIfInBounds_toArray, List.set_cons_zero, List.set_cons_succ]
              refine wpAnyH_take (i := 4) (v := .pointer (some ⟨w1.heap.size, s, none⟩)) rfl (by kernel_rfl) (by kernel_rfl) (by kernel_rfl) (fun _ _ _ h => h) (Or.inl ⟨by rfl, ?_⟩) hHeld ?_
              · rintro w' ⟨k1, k2, k3, k4⟩; go_simp
              try simp only [Act.put, List.setIfInBounds_toArray, List.set_cons_zero, List.set_cons_succ]
              refine wpAnyH_take (i := 6) (v := .slice (some ⟨w1.heap.size, 0, none⟩) (m + 1) (m + 1)) rfl (by kernel_rfl) (by kernel_rfl) (by kernel_rfl) (fun _ _ _ h => h) (Or.inl ⟨by rfl, ?_⟩) hHeld ?_
              · rintro w' ⟨k1, k2, k3, k4⟩; go_simp
              try simp only [Act.put, List.setIfInBounds_toArray, List.set_cons_zero, List.set_cons_succ]
              refine wpAnyH_take (i := 7) (v := .int .i64 s) rfl (by kernel_rfl) (by kernel_rfl) (by kernel_rfl) (fun _ _ _ h => h) (Or.inl ⟨by rfl, ?_⟩) hHeld ?_
              · rintro w' ⟨k1, k2, k3, k4⟩; go_simp
              try simp only [Act.put, List.setIfInBounds_toArray, List.set_cons_zero, List.set_cons_succ]
              refine wpAnyH_take (i := 8) (v := .int .i64 k) rfl (by kernel_rfl) (by kernel_rfl) (by kernel_rfl) (fun _ _ _ h => h) (Or.inl ⟨by rfl, ?_⟩) hHeld ?_
              · rintro w' ⟨k1, k2, k3, k4⟩; go_simp
              try simp only [Act.put, List.setIfInBounds_toArray, List.set_cons_zero, List.set_cons_succ]
              refine wpAnyH_take (i := 9) (v := .int .i64 pi) rfl (by kernel_rfl) (by kernel_rfl) (by kernel_rfl) (fun _ _ _ h => h) (Or.inl ⟨by rfl, ?_⟩) hHeld ?_
              · rintro w' ⟨k1, k2, k3, k4⟩; go_simp
              try simp only [Act.put, List.setIfInBounds_toArray, List.set_cons_zero, List.set_cons_succ]
              refine wpAnyH_take (i := 10) (v := .int .i64 q) rfl (by kernel_rfl) (by kernel_rfl) (by kernel_rfl) (fun _ _ _ h => h) (Or.inl ⟨by rfl, ?_⟩) hHeld ?_
              · rintro w' ⟨k1, k2, k3, k4⟩; go_simp
              try simp only [Act.put, List.setIfInBounds_toArray, List.set_cons_zero, List.set_cons_succ]
              refine wpAnyH_take (i := 11) (v := .pointer (some ⟨w1.heap.size, q, none⟩)) rfl (by kernel_rfl) (by kernel_rfl) (by kernel_rfl) (fun _ _ _ h => h) (Or.inl ⟨by rfl, ?_⟩) hHeld ?_
              · rintro w' ⟨k1, k2, k3, k4⟩; go_simp
              try simp only [Act.put, List.setIfInBounds_toArray, List.set_cons_zero, List.set_cons_succ]
              refine wpAnyH_take (i := 12) (v := .int .i64 lq) rfl (by kernel_rfl) (by kernel_rfl) (by kernel_rfl) (fun _ _ _ h => h) (Or.inl ⟨by rfl, ?_⟩) hHeld ?_
              · rintro w' ⟨k1, k2, k3, k4⟩; go_simp
              try simp only [Act.put, List.setIfInBounds_toArray, List.set_cons_zero, List.set_cons_succ]
              refine wpAnyH_take (i := 13) (v := .agg #[.int .i64 tk, .int .i64 vk, .int .i64 dk]) rfl (by kernel_rfl) (by kernel_rfl) (by kernel_rfl) (fun _ _ _ h => h) (Or.inl ⟨by rfl, ?_⟩) hHeld ?_
              · rintro w' ⟨k1, k2, k3, k4⟩; go_simp
              try simp only [Act.put, List.setIfInBounds_toArray, List.set_cons_zero, List.set_cons_succ]
              refine wpAnyH_take (i := 14) (v := .int .i64 tm) rfl (by kernel_rfl) (by kernel_rfl) (by kernel_rfl) (fun _ _ _ h => h) (Or.inl ⟨by rfl, ?_⟩) hHeld ?_
              · rintro w' ⟨k1, k2, k3, k4⟩; go_simp
              try simp only [Act.put, List.setIfInBounds_toArray, List.set_cons_zero, List.set_cons_succ]
              refine wpAnyH_ready (rs := [5, 15]) (by kernel_rfl) (by simp) ?_
              refine AllReadyH.cons (o := _) rfl (fun K hK => ?_) (AllReadyH.cons (o := _) rfl (fun K hK => ?_) AllReadyH.nil)
              · go_simp
                refine hK.out _ _ ⟨cq, j0, j1, j2⟩ (fun hHeld => ?_)
                clear hK K
                try simp only [Act.put, List.setIfInBounds_toArray, List.set_cons_zero, List.set_cons_succ]
                refine wpAnyH_ready (rs := [15]) (by kernel_rfl) (by simp) ?_
                refine AllReadyH.cons (o := _) rfl (fun K hK => ?_) AllReadyH.nil
                go_simp
                refine (HTA.out _).mono ?_
                rintro e w5 ⟨rfl, hb5⟩
                have p0 := (hb5.cell (p := ⟨w1.heap.size, q, none⟩) hwt).trans cq
                have p1 := (hb5.cell (p := ⟨wo.heap.size, 0, none⟩) hwz).trans j0
                have p2 := (hb5.cell (p := ⟨wo.heap.size, 1, none⟩) hwz).trans j1
                have p3 := (hb5.cell (p := ⟨wo.heap.size, 2, none⟩) hwz).trans j2
                have p4 := (hb5.cell (p := ⟨w1.heap.size, s, none⟩) hwt).trans cs2
                have p5 := (hb5.frozen (p := ⟨w1.heap.size, s, none⟩) hwt).trans fs2
                refine hK.out _ _ ⟨p0, p1, p2, p3⟩ (fun hHeld => ?_)
                clear hK K
                try simp only [Act.put, List.setIfInBounds_toArray, List.set_cons_zero, List.set_cons_succ]
                refine wpAnyH_take (i := 16) (v := .int .i64 (lq + tg)) rfl (by kernel_rfl) (by kernel_rfl) (by kernel_rfl) (fun _ _ _ h => h) (Or.inl ⟨by rfl, ?_⟩) hHeld ?_
                · rintro w' ⟨k1, k2, k3, k4⟩; go_simp
                try simp only [Act.put, List.setIfInBounds_toArray, List.set_cons_zero, List.set_cons_succ]
                refine wpAnyH_take (i := 17) (v := .int .i64 mn) rfl (by kernel_rfl) (by kernel_rfl) (by kernel_rfl) (fun _ _ _ h => h) (Or.inl ⟨by rfl, ?_⟩) hHeld ?_
                · rintro w' ⟨k1, k2, k3, k4⟩; go_simp
                try simp only [Act.put, List.setIfInBounds_toArray, List.set_cons_zero, List.set_cons_succ]
                refine wpAnyH_take (i := 18) (v := .pointer (some ⟨w1.heap.size, s, none⟩)) rfl (by kernel_rfl) (by kernel_rfl) (by kernel_rfl) (fun _ _ _ h => h) (Or.inl ⟨by rfl, ?_⟩) hHeld ?_
                · rintro w' ⟨k1, k2, k3, k4⟩; go_simp
                try simp only [Act.put, List.setIfInBounds_toArray, List.set_cons_zero, List.set_cons_succ]
                refine wpAnyH_ready (rs := [19]) (by kernel_rfl) (by simp) ?_
                refine AllReadyH.cons (o := _) rfl (fun K hK => ?_) AllReadyH.nil
                go_simp
                refine hK.out _ _ (HK.out _ p0 p1 p2 p3 _) (fun hHeld => ?_)
                clear hK K
                try simp only [Act.put, List.setIfInBounds_toArray, List.set_cons_zero, List.set_cons_succ]
                refine wpAnyH_done (by kernel_rfl) ?_ _
                have HO5 := Lib.hid (((HOA.out.drew1).later hb5).put s mn)
                clear hw1 hw2 hmn p0 p1 p2 p3 p4 p5 hb5 EN hpi2
                go_wp2_with fail
                go_roundw
                case rel => exact ⟨k + 1, by go_num, by omega, HO5.out.congr fun x _ => by
                  by_cases e : x = s
                  · rw [if_pos e, if_pos e, HM.out]
                  · rw [if_neg e, if_neg e, if_neg e]⟩
                case measure => simp [intOf] <;> omega
              · go_simp
                refine (HTA.out _).mono ?_
                rintro e w5 ⟨rfl, hb5⟩
                have p0 := (hb5.cell (p := ⟨w1.heap.size, q, none⟩) hwt).trans cq
                have p1 := (hb5.cell (p := ⟨wo.heap.size, 0, none⟩) hwz).trans j0
                have p2 := (hb5.cell (p := ⟨wo.heap.size, 1, none⟩) hwz).trans j1
                have p3 := (hb5.cell (p := ⟨wo.heap.size, 2, none⟩) hwz).trans j2
                have p4 := (hb5.cell (p := ⟨w1.heap.size, s, none⟩) hwt).trans cs2
                have p5 := (hb5.frozen (p := ⟨w1.heap.size, s, none⟩) hwt).trans fs2
                refine hK.out _ _ ⟨p0, p1, p2, p3⟩ (fun hHeld => ?_)
                clear hK K
                try simp only [Act.put, List.setIfInBounds_toArray, List.set_cons_zero, List.set_cons_succ]
                refine wpAnyH_take (i := 16) (v := .int .i64 (lq + tg)) rfl (by kernel_rfl) (by kernel_rfl) (by kernel_rfl) (fun _ _ _ h => h) (Or.inl ⟨by rfl, ?_⟩) hHeld ?_
                · rintro w' ⟨k1, k2, k3, k4⟩; go_simp
                try simp only [Act.put, List.setIfInBounds_toArray, List.set_cons_zero, List.set_cons_succ]
                refine wpAnyH_ready (rs := [5]) (by kernel_rfl) (by simp) ?_
                refine AllReadyH.cons (o := _) rfl (fun K hK => ?_) AllReadyH.nil
                go_simp
                refine hK.out _ _ ⟨p0, p1, p2, p3⟩ (fun hHeld => ?_)
                clear hK K
                try simp only [Act.put, List.setIfInBounds_toArray, List.set_cons_zero, List.set_cons_succ]
                refine wpAnyH_take (i := 17) (v := .int .i64 mn) rfl (by kernel_rfl) (by kernel_rfl) (by kernel_rfl) (fun _ _ _ h => h) (Or.inl ⟨by rfl, ?_⟩) hHeld ?_
                · rintro w' ⟨k1, k2, k3, k4⟩; go_simp
                try simp only [Act.put, List.setIfInBounds_toArray, List.set_cons_zero, List.set_cons_succ]
                refine wpAnyH_take (i := 18) (v := .pointer (some ⟨w1.heap.size, s, none⟩)) rfl (by kernel_rfl) (by kernel_rfl) (by kernel_rfl) (fun _ _ _ h => h) (Or.inl ⟨by rfl, ?_⟩) hHeld ?_
                · rintro w' ⟨k1, k2, k3, k4⟩; go_simp
                try simp only [Act.put, List.setIfInBounds_toArray, List.set_cons_zero, List.set_cons_succ]
                refine wpAnyH_ready (rs := [19]) (by kernel_rfl) (by simp) ?_
                refine AllReadyH.cons (o := _) rfl (fun K hK => ?_) AllReadyH.nil
                go_simp
                refine hK.out _ _ (HK.out _ p0 p1 p2 p3 _) (fun hHeld => ?_)
                clear hK K
                try simp only [Act.put, List.setIfInBounds_toArray, List.set_cons_zero, List.set_cons_succ]
                refine wpAnyH_done (by kernel_rfl) ?_ _
                have HO5 := Lib.hid (((HOA.out.drew1).later hb5).put s mn)
                clear hw1 hw2 hmn p0 p1 p2 p3 p4 p5 hb5 EN hpi2
                go_wp2_with fail
                go_roundw
                case rel => exact ⟨k + 1, by go_num, by omega, HO5.out.congr fun x _ => by
                  by_cases e : x = s
                  · rw [if_pos e, if_pos e, HM.out]
                  · rw [if_neg e, if_neg e, if_neg e]⟩
                case measure => simp [intOf] <;> omega
          · obtain rfl : k = len := by omega
            have HO6 := Lib.hid (hOk.congr (g := fun q => if q < s + 1 then ltX (ta rows) (tb rows) (td rows) k q else 0) fun q _ => by
              by_cases e : q = s
              · subst e; rw [if_pos rfl, if_pos (by omega), HMV.out]
              · rw [if_neg e]
                by_cases e2 : q < s
                · rw [if_pos e2, if_pos (by omega)]
                · rw [if_neg e2, if_neg (by omega)])
            clear hOk
            go_wp2_with fail
            go_roundw
            case rel => exact ⟨s + 1, by go_num, by omega, by omega, HO6.out⟩
            case measure => simp [intOf] <;> omega
      · obtain rfl : s = m + 1 := by omega
        obtain ⟨cm, _⟩ := hO.cell (q := m) (by omega)
        rw [if_pos (by omega)] at cm
        have HBO := Lib.hid (HB.out.trans (hO.below.mono HB.out.size))
        have hmI : (m : Int) < (m : Int) + 1 := by omega
        clear hO
        go_wp2_with fail
        refine (HALL.out _).mono ?_
        rintro e w' ⟨rfl, rfl⟩
        go_wp2_with fail
        go_ret
        exact ⟨rfl, HBO.out⟩
end Go.Proofs.Ytmcongioghkdcae
namespace Go.Proofs.Ytmcongioghkdcae
end Go.Proofs.Ytmcongioghkdcae
namespace Go.Proofs.Ytmcongioghkdcae
open Go.RowKit
theorem validJobs_implV (a : Option Addr) (len cap : Nat) (rows : List (List Int)) (w : World) (h : RowsAt w (· < w.heap.size) a len rows) (hc : len ≤ cap) :
    Calls Try.prog 13 #[.slice a len cap] w (ValPost w (.bool (jobsM rows))) := validJobs_impl a len cap rows w h hc
theorem orderBy_implR (a : Option Addr) (len cap : Nat) (rows : List (List Int)) (kind : ByteArray) (w : World) (h : RowsAt w (· < w.heap.size) a len rows) (hc : len ≤ cap) :
    Calls Try.prog 14 #[.slice a len cap, .string kind] w (ResPost w (ordRes rows kind)) := (orderBy_impl a len cap rows kind w h hc).mono (fun _ _ h => h.res)
theorem keptOnTime_implR (a : Option Addr) (len cap : Nat) (rows : List (List Int)) (w : World) (h : RowsAt w (· < w.heap.size) a len rows) (hc : len ≤ cap) :
    Calls Try.prog 15 #[.slice a len cap] w (ResPost w (keptRes rows)) := (keptOnTime_impl a len cap rows w h hc).mono (fun _ _ h => h.res)
theorem ordRes_at (rows : List (List Int)) (kind : ByteArray) : ordRes rows kind = [] ∨ (jobsM rows = true ∧ ∃ ah, ordRes rows kind = srtI ah rows.length) := by
  unfold ordRes
  split
  · rename_i h
    split
    · exact .inr ⟨h, _, rfl⟩
    · split
      · exact .inr ⟨h, _, rfl⟩
      · exact .inl rfl
  · exact .inl rfl
theorem ordRes_len (rows : List (List Int)) (kind : ByteArray) : (ordRes rows kind).length ≤ 8 := by
  rcases ordRes_at rows kind with h | ⟨hp, ah, h⟩
  · rw [h]; exact Nat.zero_le _
  · rw [h, srtI_len]; exact (jobs_get hp).1
theorem keptRes_len (rows : List (List Int)) : (keptRes rows).length ≤ 1048576 := by
  unfold keptRes
  split
  · rename_i hp; rw [nI_len]; have := kept_len hp (n := rows.length) (j := rows.length); have := (jobs_get hp).1; omega
  · simp
end Go.Proofs.Ytmcongioghkdcae
