import Derived.Test.YtjcbpnffmebihaaGreatDoorB2
import Derived.Test.YtjcbpnffmebihaaGreatDoorA0
import Derived.Test.YtjcbpnffmebihaaGreatDoorA1
import Derived.Test.YtjcbpnffmebihaaGreatDoorA2
import Derived.Test.YtjcbpnffmebihaaGreatDoorA5
import Derived.Test.YtjcbpnffmebihaaGreatDoorA8
import Derived.Test.YtjcbpnffmebihaaGreatDoorA9
import Derived.Test.YtjcbpnffmebihaaGreatDoorRows
import Derived.WalkKit
import Derived.LoopTactic
import Derived.Outline
import Derived.WalkSpells
import Derived.WalkLawsBesides
import Derived.ProofKit
import Derived.Lib.Hide
import Derived.Deep.Cut
import Derived.Deep.CutRange
import Derived.Deep.CutBlock
set_option linter.unusedVariables false
set_option linter.unusedSimpArgs false
namespace Go.Proofs.YtjcbpnffmebihaaGreatDoor
open Go.RowKit Go.WideShapes

/-- a few lines, none long -/
def DrawnL (w : World) (e : Ending) (w' : World) : Prop := ∃ (a : Option Addr) (len cap : Nat) (ss : List ByteArray), e = .returned (.slice a len cap) ∧ StrsAt w' (· < w'.heap.size) a len ss ∧ len ≤ cap ∧ len ≤ 6 ∧ (∀ s ∈ ss, s.size ≤ 10000) ∧ ((a = none ∧ len = 0 ∧ cap = 0) ∨ ∃ b off, a = some ⟨b, off, none⟩) ∧ Below w.heap.size w w'
theorem own_atD {w : World} {B l : Nat} {a : Option Addr} {c : Nat} {xs : List Int} (h : w.ownsRow B 3 1 (.slice a l c) l (xs.map (.int .i64))) (hl : l ≤ 9223372036854775807) : IntsAt w (fun b => B ≤ b ∧ b < w.heap.size) a l xs := by
  obtain ⟨a', c', e, _, hi⟩ := own_ints h hl
  injection e with e1 _ _
  subst e1
  exact hi
theorem own_addr {w : World} {B l : Nat} {e : TypeId} {a : Option Addr} {c : Nat} {vs : List Value} (h : w.ownsRow B e 1 (.slice a l c) l vs) : (a = none ∧ l = 0 ∧ c = 0) ∨ ∃ b off, a = some ⟨b, off, none⟩ := by
  rcases h.2 with ⟨h1, h2⟩ | ⟨g, cap, cur, h1, _⟩
  · injection h1 with e1 e2 e3
    exact .inl ⟨e1, e2, e3⟩
  · injection h1 with e1 _ _
    exact .inr ⟨g, 0, e1⟩
theorem ten_lits {i : Nat} (hi : i < 10) : ∃ s : ByteArray, (#[Value.string ⟨#[]⟩, .string ⟨#[104, 101, 108, 112]⟩, .string ⟨#[116, 119, 111]⟩, .string ⟨#[116, 119, 111, 32]⟩, .string ⟨#[107, 101, 112, 116, 32, 49]⟩, .string ⟨#[108, 111, 116, 115, 32, 49, 32, 49]⟩, .string ⟨#[114, 111, 108, 108, 115, 32, 53, 32, 54]⟩, .string ⟨#[115, 116, 111, 99, 107, 32, 49, 32, 49, 32, 48]⟩, .string ⟨#[108, 111, 116, 115, 32, 49, 32, 49, 32, 49, 47, 50]⟩, .string ⟨#[119, 97, 108, 107, 32, 49]⟩] : Array Value)[i]? = some (.string s) ∧ s.size ≤ 12 := by
  match i, hi with
  | 0, _ => exact ⟨_, rfl, by decide⟩
  | 1, _ => exact ⟨_, rfl, by decide⟩
  | 2, _ => exact ⟨_, rfl, by decide⟩
  | 3, _ => exact ⟨_, rfl, by decide⟩
  | 4, _ => exact ⟨_, rfl, by decide⟩
  | 5, _ => exact ⟨_, rfl, by decide⟩
  | 6, _ => exact ⟨_, rfl, by decide⟩
  | 7, _ => exact ⟨_, rfl, by decide⟩
  | 8, _ => exact ⟨_, rfl, by decide⟩
  | 9, _ => exact ⟨_, rfl, by decide⟩
set_option maxRecDepth 100000 in
set_option maxHeartbeats 16000000 in
theorem drawRunDesk_any (a : Option Addr) (len cap : Nat) (w : World) (hb : BytesAt w w.heap.size a len) (hl : len ≤ cap) (hs : len ≤ 9223372036854775807) :
    Calls Tryz.prog 5 #[.slice a len cap] w (DrawnL w) := by
  go_enter Tryz.func5, Tryz.ntmps5
  go_wp2_with fail
  refine (newReader_any a len cap w hb hl hs).mono ?_
  rintro e w1 ⟨rfl, hr1, hb1⟩
  have HB1 := Lib.hid hb1
  obtain ⟨R, hRd⟩ : ∃ R, R = w.heap.size := ⟨_, rfl⟩
  have HRD := Lib.hid hRd
  rw [← hRd] at hr1 ⊢
  have hR := hr1.lt
  clear hb1 hRd hb hl hs
  go_wp2_with fail
  refine (one_any (fun k => k = w1.heap.size + 1) R 0 _ 5 5 [4, 5, 2, 6, 0] _ ((hr1.alloc _).alloc _) (IntsAt.lit rfl rfl (by simp) (by omega)) (by intro b hb; simp; omega) (by omega) (by omega)).mono ?_
  rintro e w2 ⟨n, hn, rfl, hr2, hg2⟩
  obtain ⟨m, rfl, hm⟩ : ∃ m : Nat, n = (m : Int) ∧ m ≤ 6 := by simp at hn; exact ⟨n.toNat, by omega, by omega⟩
  clear hn
  have HG2 := Lib.hid (show w1.grownBy w2 (some R) from grown_r (World.grownBy_alloc w1 _ _) (grown_r (World.grownBy_alloc _ _ _) hg2))
  have h0 := World.ownsRow_made (base := w1.heap.size) (size := 1) (e := 9) w1 #[] 0 (Nat.le_refl _) (Nat.zero_le _) rfl
  have HO2 := Lib.hid (show w2.ownsRow w1.heap.size 9 1 (.slice (some ⟨w1.heap.size, 0, none⟩) 0 0) 0 (([] : List ByteArray).map .string) from (h0.kept (grown_r (World.grownBy_alloc _ _ _) hg2) (ne_low h0 hR)))
  have HR2 := Lib.hid hr2
  clear h0 hg2 hr1 hr2
  go_wp2_with fail
  go_loopw [4, 5] (fun v i wr => ∃ (k p' cp : Nat) (ax : Option Addr) (ss : List ByteArray), k ≤ m ∧ i = .int .i64 ((m : Int) - (k : Int)) ∧ v = .slice ax k cp ∧ k ≤ cp ∧ wr.ownsRow w1.heap.size 9 1 (.slice ax k cp) k (ss.map .string) ∧ (∀ s ∈ ss, s.size ≤ 10000) ∧ Rd wr R p' ∧ p' ≤ 1 + 4000 * k ∧ w1.grownBy wr (some R)) (fun v _ _ => m - capOf v)
  case atStart => exact ⟨0, 1, 0, _, [], Nat.zero_le _, by simp, rfl, Nat.le_refl _, HO2.out, (fun s hs => by cases hs), HR2.out, Nat.le_refl _, HG2.out⟩
  case round =>
    clear HO2 HR2 HG2
    obtain ⟨k, p', cp, ax, ss, hk, rfl, rfl, hkc, hown, hss, hrd, hpp, hgr⟩ := hrel
    obtain ⟨wo, rfl⟩ : ∃ wo : World, wo = wr := ⟨_, rfl⟩
    have HO := Lib.hid hown
    have HG := Lib.hid hgr
    have HR := Lib.hid hrd
    have HSS := Lib.hid hss
    clear hown hgr hrd hss
    by_cases hlt : k < m
    · have hmk : (0 : Int) < (m : Int) - (k : Int) := by omega
      have hwd : IntKind.i64.wrap ((m : Int) - (k : Int) - 1) = (m : Int) - (k : Int) - 1 := IntWalk.i64_in _ (by omega)
      go_wp2_with fail
      refine (somePairs_Q R p' 4 wo HR.out (by omega) (by omega)).mono ?_
      rintro e wa ⟨aa, la, ca, rows, pa, rfl, hrw, hok, hlc, hl8, hra, hpa, hga⟩
      have HGA := Lib.hid (grown_r HG.out hga)
      have HRA := Lib.hid hra
      have HT := Lib.hid (rowsText_any _ aa la ca rows wa hrw (by omega) (fun r hr => ⟨(hok r hr).1, fun x hx => by have := (hok r hr).2 x hx; omega⟩))
      have HOA := Lib.hid (HO.out.kept hga (ne_low HO.out hR))
      clear hrw hok hra hga hlc
      go_wp2_with fail
      refine HT.out.mono ?_
      rintro e wb ⟨⟨s0, rfl, hs0⟩, hw⟩
      subst hw
      have t1 : ¬ 9223372036854775807 < (⟨#[116, 119, 111, 32]⟩ : ByteArray).size + s0.size := by show ¬ _ < 4 + _; omega
      have t2 : ¬ 9223372036854775807 < 4 + s0.size := by omega
      have HZ0 := Lib.hid (show ((⟨#[116, 119, 111, 32]⟩ : ByteArray) ++ s0).size ≤ 9000 by rw [ByteArray.size_append]; show 4 + _ ≤ _; omega)
      clear hs0 hl8
      go_wp2_with fail
      generalize (⟨#[116, 119, 111, 32]⟩ : ByteArray) ++ s0 = s1 at *
      clear t1 t2
      refine (pick_any R pa 6 wb HRA.out (by omega)).mono ?_
      rintro e wq ⟨q, rfl, hq, hrc, hgc⟩
      have hq6 : q < 6 := by omega
      have HGC := Lib.hid (grown_r HGA.out hgc)
      have HOC := Lib.hid (HOA.out.kept hgc (ne_low HOA.out hR))
      have HRC := Lib.hid hrc
      clear hrc hgc hq
      go_upto_block 2 with fail
      go_cut [6, 7, 8] from 15 to 92 (fun s6 _ _ wx => ∃ (sx : ByteArray) (p : Nat), s6 = .string sx ∧ sx.size ≤ 9000 ∧ Rd wx R p ∧ p ≤ p' + 3900 ∧ wx.ownsRow w1.heap.size 9 1 (.slice ax k cp) k (ss.map .string) ∧ w1.grownBy wx (some R))
      case first =>
        by_cases h0 : q = 0
        · subst h0
          go_wp2_with fail
          refine (someJobs_Q R (pa + 1) wq HRC.out (by omega)).mono ?_
          rintro e wx ⟨ab, lb, cb, rowsb, pb, rfl, hrw, hok, hlc, hl8, hrx, hpb, hgx⟩
          have HGX := Lib.hid (grown_r HGC.out hgx)
          have HRX := Lib.hid hrx
          have HTB := Lib.hid (rowsText_any _ ab lb cb rowsb wx hrw (by omega) (fun r hr => ⟨(hok r hr).1, fun x hx => by have := (hok r hr).2 x hx; omega⟩))
          have HOX := Lib.hid (HOC.out.kept hgx (ne_low HOC.out hR))
          clear hrw hok hrx hgx hlc
          go_wp2_with fail
          refine HTB.out.mono ?_
          rintro e wb2 ⟨⟨sb, rfl, hsb⟩, hw⟩
          subst hw
          have t1 : ¬ 9223372036854775807 < (⟨#[107, 101, 112, 116, 32]⟩ : ByteArray).size + sb.size := by show ¬ _ < 5 + _; omega
          have t2 : ¬ 9223372036854775807 < 5 + sb.size := by omega
          have HZX := Lib.hid (show ((⟨#[107, 101, 112, 116, 32]⟩ : ByteArray) ++ sb).size ≤ 9000 by rw [ByteArray.size_append]; show 5 + _ ≤ _; omega)
          clear hsb hl8
          go_wp2_with fail
          generalize (⟨#[107, 101, 112, 116, 32]⟩ : ByteArray) ++ sb = sx at *
          clear t1 t2
          go_meet
          exact ⟨sx, pb, rfl, HZX.out, HRX.out, by omega, HOX.out, HGX.out⟩
        · by_cases h1 : q = 1
          · subst h1
            go_wp2_with fail
            refine (pick_any R (pa + 1) 20 wq HRC.out (by omega)).mono ?_
            rintro e we1 ⟨x1, rfl, hx1, hre1, hge1⟩
            have HGE1 := Lib.hid (grown_r HGC.out hge1)
            have HOE1 := Lib.hid (HOC.out.kept hge1 (ne_low HOC.out hR))
            have HRE1 := Lib.hid hre1
            have hx1b : x1 < 20 := by omega
            have hz1 := numB_size (n := (x1 : Int)) (by omega) (by omega)
            clear hre1 hge1 hx1
            go_wp2_with fail
            refine (number_any (x1 : Int) we1 (by omega) (by omega)).mono ?_
            rintro e w' ⟨rfl, hw⟩
            subst hw
            generalize numB (x1 : Int) = y1 at *
            have t1 : ¬ 9223372036854775807 < (⟨#[108, 111, 116, 115, 32]⟩ : ByteArray).size + y1.size := by show ¬ _ < 5 + _; omega
            have t2 : ¬ 9223372036854775807 < 5 + y1.size := by omega
            have t3 : ¬ 9223372036854775807 < ((⟨#[108, 111, 116, 115, 32]⟩ : ByteArray) ++ y1).size + (⟨#[32]⟩ : ByteArray).size := by rw [ByteArray.size_append]; show ¬ _ < 5 + _ + 1; omega
            have t4 : ¬ 9223372036854775807 < 5 + y1.size + 1 := by omega
            have HS1 := Lib.hid (show ((⟨#[108, 111, 116, 115, 32]⟩ : ByteArray) ++ y1 ++ (⟨#[32]⟩ : ByteArray)).size ≤ 40 by rw [ByteArray.size_append, ByteArray.size_append]; show 5 + _ + 1 ≤ _; omega)
            go_wp2_with fail
            generalize (⟨#[108, 111, 116, 115, 32]⟩ : ByteArray) ++ y1 ++ (⟨#[32]⟩ : ByteArray) = z1 at *
            clear t1 t2 t3 t4 hz1
            refine (pick_any R (pa + 1 + 1) 4 w' HRE1.out (by omega)).mono ?_
            rintro e we2 ⟨x2, rfl, hx2, hre2, hge2⟩
            have HGE2 := Lib.hid (grown_r HGE1.out hge2)
            have HOE2 := Lib.hid (HOE1.out.kept hge2 (ne_low HOE1.out hR))
            have HRE2 := Lib.hid hre2
            have hx2b : x2 < 4 := by omega
            have hz2 := numB_size (n := (x2 : Int)) (by omega) (by omega)
            clear hre2 hge2 hx2
            go_wp2_with fail
            refine (number_any (x2 : Int) we2 (by omega) (by omega)).mono ?_
            rintro e w'' ⟨rfl, hw⟩
            subst hw
            generalize numB (x2 : Int) = y2 at *
            have hs1 := HS1.out
            have t1 : ¬ 9223372036854775807 < z1.size + y2.size := by omega
            have t3 : ¬ 9223372036854775807 < (z1 ++ y2).size + (⟨#[32]⟩ : ByteArray).size := by rw [ByteArray.size_append]; show ¬ _ < _ + _ + 1; omega
            have t4 : ¬ 9223372036854775807 < z1.size + y2.size + 1 := by omega
            have HS2 := Lib.hid (show (z1 ++ y2 ++ (⟨#[32]⟩ : ByteArray)).size ≤ 70 by rw [ByteArray.size_append, ByteArray.size_append]; show _ + _ + 1 ≤ _; omega)
            clear hs1
            go_wp2_with fail
            generalize z1 ++ y2 ++ (⟨#[32]⟩ : ByteArray) = z2 at *
            clear t1 t3 t4 hz2
            refine (someDays_any R (pa + 1 + 1 + 1) w'' HRE2.out (by omega)).mono ?_
            rintro e wx ⟨ab, lb, cb, xs, pb, rfl, hox, hlc, hl9, hdays, hrx, hpb, hgx⟩
            have hxb : ∀ x ∈ xs, -9223372036854775807 ≤ x ∧ x ≤ 9223372036854775807 := fun x hx => by
              obtain ⟨j, hj⟩ := List.mem_iff_getElem?.1 hx
              have e1 : xs.getD j 0 = x := getD_of hj
              have h1 := hdays.2.1 j
              have h2 := hdays.2.2 j
              rw [e1] at h1 h2
              constructor
              · omega
              · split at h2 <;> omega
            have HGX := Lib.hid (grown_r HGE2.out hgx)
            have HRX := Lib.hid hrx
            have HOX := Lib.hid (HOE2.out.kept hgx (ne_low HOE2.out hR))
            have hix := own_atD hox (by omega)
            have hlx : xs.length ≤ 9 := by have h : xs.length = lb := (by have := hox.1; simpa using this); omega
            have HLT := Lib.hid (listText_any _ ab lb cb xs wx hix hxb (by omega))
            have hz3 := listB_size (xs := xs) fun x hx => by have := hxb x hx; omega
            have hz4 : (listB xs).size ≤ 189 := by omega
            clear hox hix hxb hz3 hrx hgx hlx
            go_wp2_with fail
            refine HLT.out.mono ?_
            rintro e wb2 ⟨rfl, hw⟩
            subst hw
            generalize listB xs = y3 at *
            have hs2 := HS2.out
            have t1 : ¬ 9223372036854775807 < z2.size + y3.size := by omega
            have HZX := Lib.hid (show (z2 ++ y3).size ≤ 9000 by rw [ByteArray.size_append]; omega)
            clear hs2
            go_wp2_with fail
            generalize z2 ++ y3 = sx at *
            clear t1
            go_meet
            exact ⟨sx, pb, rfl, HZX.out, HRX.out, by omega, HOX.out, HGX.out⟩
          · by_cases h2 : q = 2
            · subst h2
              go_wp2_with fail
              refine (someCuts_Q R (pa + 1) wq HRC.out (by omega)).mono ?_
              rintro e wx ⟨ab, lb, cb, xs, c, pb, rfl, hox, hlc, hokx, hl7, hc1, hc20, hrx, hpb, hgx⟩
              have HGX := Lib.hid (grown_r HGC.out hgx)
              have HRX := Lib.hid hrx
              have HOX := Lib.hid (HOC.out.kept hgx (ne_low HOC.out hR))
              have hxb : ∀ x ∈ xs, -9223372036854775807 ≤ x ∧ x ≤ 9223372036854775807 := fun x hx => by have := hokx.2 x hx; omega
              have hix := own_atD hox (by omega)
              have hlx : xs.length ≤ 9 := by have h : xs.length = lb := (by have := hox.1; simpa using this); omega
              have HLT := Lib.hid (listText_any _ ab lb cb xs wx hix hxb (by omega))
              have hz3 := listB_size (xs := xs) fun x hx => by have := hxb x hx; omega
              have hz4 : (listB xs).size ≤ 189 := by omega
              have hz1 := numB_size (n := c) (by omega) (by omega)
              clear hox hix hxb hz3 hrx hgx hlx hokx
              go_wp2_with fail
              refine (number_any c wx (by omega) (by omega)).mono ?_
              rintro e w' ⟨rfl, hw⟩
              subst hw
              generalize numB c = y1 at *
              have t1 : ¬ 9223372036854775807 < (⟨#[114, 111, 108, 108, 115, 32]⟩ : ByteArray).size + y1.size := by show ¬ _ < 6 + _; omega
              have t2 : ¬ 9223372036854775807 < 6 + y1.size := by omega
              have t3 : ¬ 9223372036854775807 < ((⟨#[114, 111, 108, 108, 115, 32]⟩ : ByteArray) ++ y1).size + (⟨#[32]⟩ : ByteArray).size := by rw [ByteArray.size_append]; show ¬ _ < 6 + _ + 1; omega
              have t4 : ¬ 9223372036854775807 < 6 + y1.size + 1 := by omega
              have HS2 := Lib.hid (show ((⟨#[114, 111, 108, 108, 115, 32]⟩ : ByteArray) ++ y1 ++ (⟨#[32]⟩ : ByteArray)).size ≤ 70 by rw [ByteArray.size_append, ByteArray.size_append]; show 6 + _ + 1 ≤ _; omega)
              go_wp2_with fail
              generalize (⟨#[114, 111, 108, 108, 115, 32]⟩ : ByteArray) ++ y1 ++ (⟨#[32]⟩ : ByteArray) = z2 at *
              clear t1 t2 t3 t4 hz1
              refine HLT.out.mono ?_
              rintro e wb2 ⟨rfl, hw⟩
              subst hw
              generalize listB xs = y3 at *
              have hs2 := HS2.out
              have t1 : ¬ 9223372036854775807 < z2.size + y3.size := by omega
              have HZX := Lib.hid (show (z2 ++ y3).size ≤ 9000 by rw [ByteArray.size_append]; omega)
              clear hs2
              go_wp2_with fail
              generalize z2 ++ y3 = sx at *
              clear t1
              go_meet
              exact ⟨sx, pb, rfl, HZX.out, HRX.out, by omega, HOX.out, HGX.out⟩
            · by_cases h3 : q = 3
              · subst h3
                go_wp2_with fail
                refine (pick_any R (pa + 1) 6 wq HRC.out (by omega)).mono ?_
                rintro e we1 ⟨x1, rfl, hx1, hre1, hge1⟩
                have HGE1 := Lib.hid (grown_r HGC.out hge1)
                have HOE1 := Lib.hid (HOC.out.kept hge1 (ne_low HOC.out hR))
                have HRE1 := Lib.hid hre1
                have hx1b : x1 < 6 := by omega
                have hz1 := numB_size (n := (x1 : Int)) (by omega) (by omega)
                clear hre1 hge1 hx1
                go_wp2_with fail
                refine (number_any (x1 : Int) we1 (by omega) (by omega)).mono ?_
                rintro e w' ⟨rfl, hw⟩
                subst hw
                generalize numB (x1 : Int) = y1 at *
                have t1 : ¬ 9223372036854775807 < (⟨#[115, 116, 111, 99, 107, 32]⟩ : ByteArray).size + y1.size := by show ¬ _ < 6 + _; omega
                have t2 : ¬ 9223372036854775807 < 6 + y1.size := by omega
                have t3 : ¬ 9223372036854775807 < ((⟨#[115, 116, 111, 99, 107, 32]⟩ : ByteArray) ++ y1).size + (⟨#[32]⟩ : ByteArray).size := by rw [ByteArray.size_append]; show ¬ _ < 6 + _ + 1; omega
                have t4 : ¬ 9223372036854775807 < 6 + y1.size + 1 := by omega
                have HS1 := Lib.hid (show ((⟨#[115, 116, 111, 99, 107, 32]⟩ : ByteArray) ++ y1 ++ (⟨#[32]⟩ : ByteArray)).size ≤ 40 by rw [ByteArray.size_append, ByteArray.size_append]; show 6 + _ + 1 ≤ _; omega)
                go_wp2_with fail
                generalize (⟨#[115, 116, 111, 99, 107, 32]⟩ : ByteArray) ++ y1 ++ (⟨#[32]⟩ : ByteArray) = z1 at *
                clear t1 t2 t3 t4 hz1
                refine (pick_any R (pa + 1 + 1) 9 w' HRE1.out (by omega)).mono ?_
                rintro e we2 ⟨x2, rfl, hx2, hre2, hge2⟩
                have HGE2 := Lib.hid (grown_r HGE1.out hge2)
                have HOE2 := Lib.hid (HOE1.out.kept hge2 (ne_low HOE1.out hR))
                have HRE2 := Lib.hid hre2
                have hx2b : x2 < 9 := by omega
                have hz2 := numB_size (n := (x2 : Int)) (by omega) (by omega)
                clear hre2 hge2 hx2
                go_wp2_with fail
                refine (number_any (x2 : Int) we2 (by omega) (by omega)).mono ?_
                rintro e w'' ⟨rfl, hw⟩
                subst hw
                generalize numB (x2 : Int) = y2 at *
                have hs1 := HS1.out
                have t1 : ¬ 9223372036854775807 < z1.size + y2.size := by omega
                have t3 : ¬ 9223372036854775807 < (z1 ++ y2).size + (⟨#[32]⟩ : ByteArray).size := by rw [ByteArray.size_append]; show ¬ _ < _ + _ + 1; omega
                have t4 : ¬ 9223372036854775807 < z1.size + y2.size + 1 := by omega
                have HS2 := Lib.hid (show (z1 ++ y2 ++ (⟨#[32]⟩ : ByteArray)).size ≤ 70 by rw [ByteArray.size_append, ByteArray.size_append]; show _ + _ + 1 ≤ _; omega)
                clear hs1
                go_wp2_with fail
                generalize z1 ++ y2 ++ (⟨#[32]⟩ : ByteArray) = z2 at *
                clear t1 t3 t4 hz2
                refine (someChances_Q R (pa + 1 + 1 + 1) w'' HRE2.out (by omega)).mono ?_
                rintro e wx ⟨ab, lb, cb, xs, pb, rfl, hox, hlc, hokx, hl9, hrx, hpb, hgx⟩
                have hxb : ∀ x ∈ xs, -9223372036854775807 ≤ x ∧ x ≤ 9223372036854775807 := fun x hx => by have := hokx.2 x hx; omega
                have HGX := Lib.hid (grown_r HGE2.out hgx)
                have HRX := Lib.hid hrx
                have HOX := Lib.hid (HOE2.out.kept hgx (ne_low HOE2.out hR))
                have hix := own_atD hox (by omega)
                have hlx : xs.length ≤ 9 := by have h : xs.length = lb := (by have := hox.1; simpa using this); omega
                have HLT := Lib.hid (listText_any _ ab lb cb xs wx hix hxb (by omega))
                have hz3 := listB_size (xs := xs) fun x hx => by have := hxb x hx; omega
                have hz4 : (listB xs).size ≤ 189 := by omega
                clear hox hix hxb hz3 hrx hgx hlx
                go_wp2_with fail
                refine HLT.out.mono ?_
                rintro e wb2 ⟨rfl, hw⟩
                subst hw
                generalize listB xs = y3 at *
                have hs2 := HS2.out
                have t1 : ¬ 9223372036854775807 < z2.size + y3.size := by omega
                have HZX := Lib.hid (show (z2 ++ y3).size ≤ 9000 by rw [ByteArray.size_append]; omega)
                clear hs2
                go_wp2_with fail
                generalize z2 ++ y3 = sx at *
                clear t1
                go_meet
                exact ⟨sx, pb, rfl, HZX.out, HRX.out, by omega, HOX.out, HGX.out⟩
              · have hz0 : ((q : Int) == 0) = false := by rw [beq_eq_false_iff_ne]; omega
                have hz1 : ((q : Int) == 1) = false := by rw [beq_eq_false_iff_ne]; omega
                have hz2 : ((q : Int) == 2) = false := by rw [beq_eq_false_iff_ne]; omega
                have hz3 : ((q : Int) == 3) = false := by rw [beq_eq_false_iff_ne]; omega
                have HGX := HGC
                have HOX := HOC
                have HRX := HRC
                have HZX := HZ0
                obtain ⟨sx, rfl⟩ : ∃ sx : ByteArray, sx = s1 := ⟨_, rfl⟩
                go_wp2_with fail
                go_meet
                exact ⟨sx, pa + 1, rfl, HZX.out, HRX.out, by omega, HOX.out, HGX.out⟩
      case rest =>
        obtain ⟨sx, pb, rfl, hzx, hrx, hpb, hox, hgx⟩ := hcut
        obtain ⟨wk, rfl⟩ : ∃ wk : World, wk = wc := ⟨_, rfl⟩
        have HZX := Lib.hid hzx
        have HRX := Lib.hid hrx
        have HOX := Lib.hid hox
        have HGX := Lib.hid hgx
        clear hrx hox hgx hzx HZ0 HRC HOC HGC HGA HRA HT HOA hq6
        go_wp2_with fail
        refine (pick_any R pb 8 wk HRX.out (by omega)).mono ?_
        rintro e wd ⟨q8, rfl, hq8, hrd8, hgd8⟩
        have HGD := Lib.hid (grown_r HGX.out hgd8)
        have HOD := Lib.hid (HOX.out.kept hgd8 (ne_low HOX.out hR))
        have HRD8 := Lib.hid hrd8
        clear hrd8 hgd8 hq8
        go_upto_block 3 with fail
        go_cut [6] from 15 to 92 (fun s6 wx => ∃ (sy : ByteArray) (pe : Nat), s6 = .string sy ∧ sy.size ≤ 10000 ∧ Rd wx R pe ∧ pe ≤ p' + 3990 ∧ wx.ownsRow w1.heap.size 9 1 (.slice ax k cp) k (ss.map .string) ∧ w1.grownBy wx (some R))
        case first =>
          by_cases h8 : q8 = 0
          · subst h8
            go_wp2_with fail
            refine (ofB_lit 12 R (pb + 1) 10 _ _ wd _ HRD8.out (by first | exact .inl rfl | exact .inr rfl) (fun i hi => ten_lits hi) (by omega) (by omega) (by omega)).mono ?_
            rintro e we ⟨sy, rfl, hsy, hre, hge⟩
            have hge2 := grown_r (World.grownBy_alloc wd _ _) hge
            have HGE := Lib.hid (grown_r HGD.out hge2)
            have HOE := Lib.hid (HOD.out.kept hge2 (ne_low HOD.out hR))
            have HRE := Lib.hid hre
            have HZE := Lib.hid (show sy.size ≤ 10000 by omega)
            clear hre hge hge2 hsy
            go_wp2_with fail
            go_meet
            exact ⟨sy, pb + 1 + 1, rfl, HZE.out, HRE.out, by omega, HOE.out, HGE.out⟩
          · by_cases h81 : q8 = 1
            · subst h81
              have hsx := HZX.out
              go_wp2_with fail
              refine (mutate_any R (pb + 1) sx wd HRD8.out (by omega) (by omega)).mono ?_
              rintro e we ⟨sy, pe, rfl, hsy, hre, hpe, hge2⟩
              have HGE := Lib.hid (grown_r HGD.out hge2)
              have HOE := Lib.hid (HOD.out.kept hge2 (ne_low HOD.out hR))
              have HRE := Lib.hid hre
              have HZE := Lib.hid (show sy.size ≤ 10000 by omega)
              clear hre hge2 hsy hsx
              go_wp2_with fail
              go_meet
              exact ⟨sy, pe, rfl, HZE.out, HRE.out, by omega, HOE.out, HGE.out⟩
            · have hz0 : ((q8 : Int) == 0) = false := by rw [beq_eq_false_iff_ne]; omega
              have hz1 : ((q8 : Int) == 1) = false := by rw [beq_eq_false_iff_ne]; omega
              go_wp2_with fail
              go_meet
              exact ⟨sx, pb + 1, rfl, Nat.le_trans HZX.out (by omega), HRD8.out, by omega, HOD.out, HGD.out⟩
        case rest =>
          obtain ⟨sy, pe, rfl, hzy, hre, hpe, hoe, hge⟩ := hcut
          obtain ⟨we, rfl⟩ : ∃ we : World, we = wc := ⟨_, rfl⟩
          have HZE := Lib.hid hzy
          have HRE := Lib.hid hre
          have HOE := Lib.hid hoe
          have HGE := Lib.hid hge
          clear hzy hre hoe hge HZX HRX HOX HGX HGD HOD HRD8
          go_wp2_with (at_builtin; refine wpAppS rfl _ _ rfl w1.heap.size _ _ _ _ _ rfl HOE.out rfl HGE.out.size (by omega) ?_)
          intro a6 c6 w6 hown6 hc6 hgr6
          have HO6 := Lib.hid hown6
          have HR6 := Lib.hid (HRE.out.grown hgr6 (by intro b hb; have := (HOE.out.lt b hb).1; omega))
          have HG6 := Lib.hid (grown_trans HGE.out hgr6 (by intro b hb; have := (HOE.out.lt b hb).1; omega))
          clear hown6 hgr6
          go_wp2
          go_roundw
          case rel => exact ⟨k + 1, pe, c6, a6, ss ++ [sy], by omega, by go_num, rfl, hc6, strs_snoc HO6.out, (fun x hx => by rcases List.mem_append.1 hx with hx | hx; exact HSS.out x hx; simp at hx; subst hx; exact HZE.out), HR6.out, by omega, HG6.out⟩
          case measure => simp [capOf] <;> omega
    · obtain rfl : k = m := by omega
      have hmk : ¬ (0 : Int) < (k : Int) - (k : Int) := by omega
      have HSA := Lib.hid (own_strsAt HO.out (by omega))
      go_wp2_with fail
      go_ret
      exact ⟨ax, k, cp, ss, rfl, HSA.out.to fun b hb => ⟨hb.2, rfl⟩, hkc, hm, HSS.out, own_addr HO.out, by rw [← HRD.out]; exact grown_below HG.out (by rw [HRD.out]; exact HB1.out) (by rw [HRD.out]; exact HB1.out.size)⟩
end Go.Proofs.YtjcbpnffmebihaaGreatDoor
