import Derived.Test.YtjcbpnffmebihaaGreatDoorA0
import Derived.Test.YtjcbpnffmebihaaGreatDoorRows
import Derived.WalkKit
import Derived.LoopTactic
import Derived.Outline
import Derived.WalkSpells
import Derived.WalkLawsBesides
import Derived.ProofKit
import Derived.Lib.Hide
import Derived.Lib.Split
import Derived.Lib.Join
import Derived.Lib.AtoiAll
import Derived.Lib.ItoaNum
import Derived.Lib.ItoaMem
import Derived.Lib.CountLaws
import Derived.Lib.SplitLaws
import Derived.Lib.IndexBytes
import Derived.Lib.IndexLaws
set_option linter.unusedVariables false
set_option linter.unusedSimpArgs false
namespace Go.Proofs.YtjcbpnffmebihaaGreatDoor
open Go.RowKit Go.WideShapes

theorem dig_lit {n : Nat} (h : n < 10) : (⟨#[48, 49, 50, 51, 52, 53, 54, 55, 56, 57]⟩ : ByteArray).extract n (n + 1) = natB n := by
  rw [natB_lt h]
  have : ∀ k : Fin 10, (⟨#[48, 49, 50, 51, 52, 53, 54, 55, 56, 57]⟩ : ByteArray).extract k.1 (k.1 + 1) = digB k.1 := by
    intro k
    rw [ByteArray.ext_iff]
    revert k
    decide
  exact this ⟨n, h⟩
theorem ret_str {a b : ByteArray} (h : a = b) : Ending.returned (.string a) = Ending.returned (.string b) := by rw [h]
theorem natB_max {n : Nat} (h : n ≤ 9223372036854775807) : (natB n).size ≤ 19 := natB_size 18 n (by omega)
set_option maxRecDepth 100000 in
theorem number_nat (n : Nat) : n ≤ 9223372036854775807 → ∀ w : World, Calls Tryz.prog 18 #[.int .i64 n] w fun e w' => e = .returned (.string (natB n)) ∧ w' = w := by
  induction n using Nat.strongRecOn with
  | ind n ih =>
    intro hn w
    by_cases h : n < 10
    · have hd := dig_lit h
      clear ih
      have h0 : ¬ (n : Int) < 0 := by omega
      have h1 : (n : Int) < 10 := by omega
      go_enter Tryz.func18, Tryz.ntmps18
      go_wp2
      all_goals go_ret
      rw [← hd]
      exact ⟨rfl, rfl⟩
    · have ha := ih (n / 10) (by omega) (by omega)
      have hb := ih (n % 10) (by omega) (by omega)
      have hg := natB_ge h
      have s1 := natB_max (n := n / 10) (by omega)
      have s2 := natB_max (n := n % 10) (by omega)
      clear ih
      have HA := Lib.hid ha
      have HB := Lib.hid hb
      have HG := Lib.hid hg
      have HS := Lib.hid (And.intro s1 s2)
      have h1 : ¬ (n : Int) < 10 := by omega
      have h0 : ¬ (n : Int) < 0 := by omega
      have htd : (n : Int).tdiv 10 = ((n / 10 : Nat) : Int) := by rw [Int.tdiv_eq_ediv_of_nonneg (by omega)]; omega
      have htm : (n : Int).tmod 10 = ((n % 10 : Nat) : Int) := by rw [Int.tmod_eq_emod_of_nonneg (by omega)]; omega
      have hq : n / 10 ≤ 9223372036854775807 := by omega
      generalize hQ : n / 10 = q at *
      generalize hR : n % 10 = r at *
      have HQ := Lib.hid (And.intro hQ hR)
      clear ha hb hg s1 s2 hn h hQ hR
      go_enter Tryz.func18, Tryz.ntmps18
      go_wp2_with fail
      refine (HA.out w).mono ?_
      rintro e w1 ⟨rfl, hw⟩
      subst hw
      go_wp2_with fail
      refine (HB.out _).mono ?_
      rintro e w2 ⟨rfl, hw⟩
      subst hw
      have hsum : ¬ 9223372036854775807 < (natB q).size + (natB r).size := by have := HS.out; omega
      have hsum2 : ¬ (9223372036854775807 : Int) < ((natB q).size : Int) + ((natB r).size : Int) := by have := HS.out; omega
      go_wp2_with fail
      go_ret
      exact ⟨ret_str HG.out.symm, rfl⟩
/-- the model's numbers in decimal -/
theorem number_any (n : Int) (w : World) (h1 : -9223372036854775807 ≤ n) (h2 : n ≤ 9223372036854775807) : Calls Tryz.prog 18 #[.int .i64 n] w fun e w' => e = .returned (.string (numB n)) ∧ w' = w := by
  by_cases h : n < 0
  · obtain ⟨m, rfl⟩ : ∃ m : Nat, n = -(m : Int) := ⟨(-n).toNat, by omega⟩
    have HA := Lib.hid (number_nat m (by omega) w)
    have HG := Lib.hid (show sgnB 45 ++ natB m = numB (-(m : Int)) by rw [numB_neg h, Int.neg_neg, numB_nat])
    have hs := natB_max (n := m) (by omega)
    have hw : IntKind.i64.wrap (-(-(m : Int))) = (m : Int) := by rw [Int.neg_neg]; exact IntWalk.i64_in _ (by omega)
    have hsum : ¬ 9223372036854775807 < (⟨#[45]⟩ : ByteArray).size + (natB m).size := by show ¬ _ < 1 + _; omega
    have hn : -(m : Int) < 0 := h
    go_enter Tryz.func18, Tryz.ntmps18
    go_wp2_with fail
    refine HA.out.mono ?_
    rintro e w1 ⟨rfl, hw⟩
    subst hw
    go_wp2_with fail
    go_ret
    exact ⟨ret_str HG.out, rfl⟩
  · obtain ⟨m, rfl⟩ : ∃ m : Nat, n = (m : Int) := ⟨n.toNat, by omega⟩
    rw [numB_nat]
    exact number_nat m (by omega) w
theorem listB_step {xs : List Int} {x : Int} {k : Nat} (h : xs[k]? = some x) (hk : 0 < k) : listB (xs.take (k + 1)) = listB (xs.take k) ++ sgnB 44 ++ numB x := by
  rw [take_get h]
  refine listB_snoc _ _ fun e => ?_
  have : k < xs.length := (List.getElem?_eq_some_iff.1 h).1
  have := congrArg List.length e
  simp only [List.length_take, List.length_nil] at this
  omega
set_option maxHeartbeats 1000000 in
/-- the model's lists in decimal -/
theorem listText_any (S : Nat → Prop) (a : Option Addr) (len cap : Nat) (xs : List Int) (w : World) (h : IntsAt w S a len xs) (hx : ∀ x ∈ xs, -9223372036854775807 ≤ x ∧ x ≤ 9223372036854775807) (hl : len ≤ 1048576) :
    Calls Tryz.prog 19 #[.slice a len cap] w fun e w' => e = .returned (.string (listB xs)) ∧ w' = w := by
  have HX := Lib.hid hx
  have HL := Lib.hid h.lenEq
  clear hx
  go_enter Tryz.func19, Tryz.ntmps19
  go_wp2_with fail
  go_loop [3, 4] (fun o i => ∃ k : Nat, k ≤ len ∧ i = .int .i64 k ∧ o = .string (listB (xs.take k))) (fun _ i => len - (intOf i).toNat)
  case atStart => exact ⟨0, Nat.zero_le _, rfl, rfl⟩
  case round =>
    obtain ⟨k, hk, rfl, rfl⟩ := hrel
    by_cases hlt : k < len
    · obtain ⟨b, off, x, rfl, hxk, hc⟩ := h.get hlt
      have hxb := HX.out x (List.mem_of_getElem? hxk)
      have HC := Lib.hid (number_any x w hxb.1 hxb.2)
      have s1 := listB_size (xs := xs.take k) fun y hy => by have := HX.out y (List.mem_of_mem_take hy); omega
      have s2 := numB_size (n := x) (by omega) hxb.2
      have s3 : (xs.take k).length ≤ 1048576 := by rw [List.length_take]; omega
      by_cases hk0 : 0 < k
      · have HS := Lib.hid (listB_step hxk hk0)
        clear hxk hxb
        generalize listB (xs.take k) = L at *
        generalize numB x = X at *
        generalize (xs.take k).length = m at *
        have HZ := Lib.hid (And.intro s1 (And.intro s2 s3))
        have t1 : ¬ 9223372036854775807 < L.size + (⟨#[44]⟩ : ByteArray).size := by show ¬ _ < _ + 1; omega
        have t2 : ¬ 9223372036854775807 < (L ++ (⟨#[44]⟩ : ByteArray)).size + X.size := by rw [ByteArray.size_append]; show ¬ _ < _ + 1 + _; omega
        clear s1 s2 s3
        go_wp2_with fail
        refine HC.out.mono ?_
        rintro e w1 ⟨rfl, hw⟩
        subst hw
        go_wp2_with fail
        go_round
        case rel => exact ⟨k + 1, by omega, by go_num, by rw [HS.out]; rfl⟩
        case measure => simp [intOf] <;> omega
      · obtain rfl : k = 0 := by omega
        have HS := Lib.hid (show listB (xs.take (0 + 1)) = numB x by rw [take_get hxk]; exact listB_one x)
        rw [Nat.add_zero] at hc
        clear hxk hxb s1 s3
        generalize numB x = X at *
        have t2 : ¬ 9223372036854775807 < (⟨#[]⟩ : ByteArray).size + X.size := by show ¬ _ < 0 + _; omega
        clear s2
        go_wp2_with fail
        refine HC.out.mono ?_
        rintro e w1 ⟨rfl, hw⟩
        subst hw
        go_wp2_with fail
        go_round
        case rel => exact ⟨1, by omega, by go_num, by rw [HS.out]; exact congrArg Value.string ByteArray.empty_append⟩
        case measure => simp [intOf] <;> omega
    · obtain rfl : k = len := by omega
      have HE := Lib.hid (show xs.take k = xs by rw [List.take_of_length_le (by rw [HL.out]; omega)])
      go_wp2_with fail
      go_ret
      exact ⟨ret_str (by rw [HE.out]), rfl⟩
end Go.Proofs.YtjcbpnffmebihaaGreatDoor
namespace Go.Proofs.YtjcbpnffmebihaaGreatDoor

/-! The library's split, numerals and join, as the desk's. -/
theorem pieces_none {s : ByteArray} {c : UInt8} {f : Nat} : ∀ (n i : Nat), s.size - i = n → (∀ j (h : j < s.size), i ≤ j → s[j] ≠ c) → pieces s c f i = [s.extract f s.size]
  | 0, i, h, _ => pieces_end (by omega)
  | n + 1, i, h, hn => by
    rw [pieces_miss (by omega) (hn i (by omega) (Nat.le_refl _))]
    exact pieces_none n (i + 1) (by omega) fun j hj hij => hn j hj (by omega)
theorem pieces_first {s : ByteArray} {c : UInt8} {f p : Nat} (hp : p < s.size) (hc : s[p] = c) : ∀ (n i : Nat), p - i = n → i ≤ p → (∀ j (h : j < s.size), i ≤ j → j < p → s[j] ≠ c) → pieces s c f i = s.extract f p :: pieces s c (p + 1) (p + 1)
  | 0, i, h, hi, _ => by
    obtain rfl : i = p := by omega
    exact pieces_hit hp hc
  | n + 1, i, h, hi, hn => by
    rw [pieces_miss (by omega) (hn i (by omega) (Nat.le_refl _) (by omega))]
    exact pieces_first hp hc n (i + 1) (by omega) (by omega) fun j hj hij => hn j hj (by omega)
theorem ext_get {s : ByteArray} {m i : Nat} (h : i < (s.extract m s.size).size) (h2 : m + i < s.size) : (s.extract m s.size)[i] = s[m + i] := by
  rw [ByteArray.getElem_extract]
theorem ext_ext {s : ByteArray} {m a b : Nat} (hb : m + b ≤ s.size) : (s.extract m s.size).extract a b = s.extract (m + a) (m + b) := by
  rw [ByteArray.extract_extract]
  congr 1
  omega
theorem pieces_shift {s : ByteArray} {c : UInt8} {m : Nat} (hm : m ≤ s.size) : ∀ (n f i : Nat), s.size - (m + i) = n → f ≤ i → pieces (s.extract m s.size) c f i = pieces s c (m + f) (m + i)
  | 0, f, i, h, hf => by
    have hs : (s.extract m s.size).size = s.size - m := by rw [ByteArray.size_extract]; omega
    rw [pieces_end (by omega), pieces_end (by omega), hs, ext_ext (by omega), show m + (s.size - m) = s.size by omega]
  | n + 1, f, i, h, hf => by
    have hs : (s.extract m s.size).size = s.size - m := by rw [ByteArray.size_extract]; omega
    have hi : i < (s.extract m s.size).size := by omega
    have h2 : m + i < s.size := by omega
    by_cases e : s[m + i] = c
    · rw [pieces_hit hi ((ext_get hi h2).trans e), pieces_hit h2 e, ext_ext (by omega), pieces_shift hm n (i + 1) (i + 1) (by omega) (Nat.le_refl _)]
      rfl
    · rw [pieces_miss hi (fun e' => e ((ext_get hi h2).symm.trans e')), pieces_miss h2 e, pieces_shift hm n f (i + 1) (by omega) (by omega)]
      rfl
theorem get_list {s : ByteArray} {j : Nat} (h : j < s.size) : s.data.toList[j]? = some s[j] := by
  rw [List.getElem?_eq_getElem (by simpa using h)]; rfl
theorem index_sgn (s : ByteArray) (c : UInt8) : Lib.indexB s (sgnB c) = Lib.indexByte s.data.toList c := Lib.index_one _ _
/-- the library's split at one sign -/
theorem split_lib (c : UInt8) : ∀ (n : Nat) (s : ByteArray), s.size ≤ n → Lib.splitB (sgnB c) 0 (Lib.countB s (sgnB c)) s = splitB s c
  | n, s, hn => by
    have hg := Lib.indexByte_ge s.data.toList c
    by_cases h1 : Lib.indexByte s.data.toList c = -1
    · have h2 := (index_sgn s c).trans h1
      rw [Lib.countB_miss _ _ h2, Lib.splitB_zero]
      unfold splitB
      rw [pieces_none s.size 0 (by omega) fun j hj _ e => Lib.indexByte_none h1 j (by rw [get_list hj, e])]
      rw [ByteArray.extract_zero_size]
    · obtain ⟨i, hi⟩ : ∃ i : Nat, Lib.indexByte s.data.toList c = (i : Int) := ⟨(Lib.indexByte s.data.toList c).toNat, by omega⟩
      obtain ⟨h3, h4⟩ := Lib.indexByte_some hi
      have hil : i < s.size := by
        rcases Nat.lt_or_ge i s.size with h | h
        · exact h
        · rw [List.getElem?_eq_none (by simpa using h)] at h3; cases h3
      have e : s[i] = c := by rw [get_list hil] at h3; exact Option.some.inj h3
      have h2 := (index_sgn s c).trans hi
      rw [Lib.countB_hit s (sgnB c) i (Nat.le_refl _) h2, Nat.add_comm 1, Lib.splitB_hit _ _ _ _ i h2]
      have hz : (s.extract (i + (sgnB c).size) s.size).size < s.size := by rw [ByteArray.size_extract, sgnB_size]; omega
      match n, hn with
      | 0, hn => omega
      | n + 1, hn =>
        rw [split_lib c n _ (by omega)]
        unfold splitB
        rw [pieces_first hil e i 0 (by omega) (Nat.zero_le _) fun j hj _ hji e' => h4 j hji (by rw [get_list hj, e']), sgnB_size, pieces_shift (by omega) (s.size - (i + 1)) 0 0 (by omega) (Nat.le_refl _)]
        rfl
theorem count_lib (s : ByteArray) (c : UInt8) : Lib.countB s (sgnB c) + 1 = (splitB s c).length := by
  rw [← split_lib c s.size s (Nat.le_refl _), Lib.splitB_all (sgnB c) (Nat.le_refl _) 0 (Lib.countB s (sgnB c)) s rfl]
/-- the library's numerals -/
theorem dec_nat (n : Nat) : (⟨(Lib.decDigits n).toArray⟩ : ByteArray) = natB n := by
  induction n using Nat.strongRecOn with
  | ind n ih =>
    by_cases h : n < 10
    · rw [natB_lt h, Lib.decDigits_one h]; rfl
    · rw [natB_ge h, Lib.decDigits, dif_neg h, ← ih (n / 10) (by omega), natB_lt (n := n % 10) (by omega)]
      apply ByteArray.ext
      simp [ByteArray.data_append, digB, sgnB]
theorem itoa_num (n : Int) : (⟨(Lib.itoa n).toArray⟩ : ByteArray) = numB n := by
  unfold Lib.itoa numB
  by_cases h : n < 0
  · rw [if_pos h, if_pos h, show (-n).toNat = n.natAbs by omega, ← dec_nat]
    apply ByteArray.ext
    simp [ByteArray.data_append, sgnB]
  · rw [if_neg h, if_neg h, dec_nat]
/-- the library's join of numerals -/
theorem join_tail : ∀ xs : List Int, (⟨(Lib.joinTail [44] ((xs.map numB).map (·.data.toList))).toArray⟩ : ByteArray) = tailB xs
  | [] => rfl
  | x :: xs => by
    rw [tailB, ← join_tail xs]
    apply ByteArray.ext
    simp [Lib.joinTail, ByteArray.data_append, sgnB]
theorem join_list (xs : List Int) : (⟨(Lib.join ((xs.map numB).map (·.data.toList)) (sgnB 44).data.toList).toArray⟩ : ByteArray) = listB xs := by
  cases xs with
  | nil => rfl
  | cons x xs =>
    rw [listB, ← join_tail xs, List.map_cons, List.map_cons, Lib.join_cons]
    apply ByteArray.ext
    simp [ByteArray.data_append, sgnB]
/-- the number of a text as the library reads it, if it is written so -/
def codeN (s : ByteArray) : Option Int := match Lib.atoiAll s.data.toList with
  | .ok v => if numB v = s then some v else none
  | _ => none
def numOk (s : ByteArray) : Bool := (codeN s).isSome
def numV (s : ByteArray) : Int := (codeN s).getD 0
theorem num_yes {s : ByteArray} {v : Int} (h : Lib.atoiAll s.data.toList = .ok v) (e : numB v = s) : numOk s = true ∧ numV s = v := by
  unfold numOk numV codeN; rw [h]; simp [e]
theorem num_no {s : ByteArray} {v : Int} (h : Lib.atoiAll s.data.toList = .ok v) (e : numB v ≠ s) : numOk s = false := by
  unfold numOk codeN; rw [h]; simp [e]
theorem num_bad {s : ByteArray} (h : ∀ v, Lib.atoiAll s.data.toList ≠ .ok v) : numOk s = false := by
  unfold numOk codeN
  split
  · rename_i v hv; exact absurd hv (h v)
  · rfl
/-- a number up to 60 is read by both alike -/
theorem small_dig {v : Nat} (h : v < 10) : numB (v : Int) = ⟨#[UInt8.ofNat (48 + v)]⟩ := by rw [numB_nat, natB_lt h]; rfl
theorem small_two {v : Nat} (h : ¬ v < 10) (h2 : v < 100) : numB (v : Int) = ⟨#[UInt8.ofNat (48 + v / 10), UInt8.ofNat (48 + v % 10)]⟩ := by
  rw [numB_nat, natB_ge h, natB_lt (n := v / 10) (by omega), natB_lt (n := v % 10) (by omega)]
  apply ByteArray.ext
  simp [digB, sgnB, ByteArray.data_append]
theorem atoi_small {v : Nat} (h : v < 100) : Lib.atoiAll (numB (v : Int)).data.toList = .ok (v : Int) := by
  by_cases h1 : v < 10
  · rw [small_dig h1]
    have : ∀ k : Fin 10, Lib.atoiAll [UInt8.ofNat (48 + k.1)] = .ok (k.1 : Int) := by decide
    exact this ⟨v, h1⟩
  · rw [small_two h1 h]
    have : ∀ k : Fin 100, ¬ k.1 < 10 → Lib.atoiAll [UInt8.ofNat (48 + k.1 / 10), UInt8.ofNat (48 + k.1 % 10)] = .ok (k.1 : Int) := by decide +kernel
    exact this ⟨v, h⟩ h1
theorem digit_nat {k : Nat} (h : k < 10) : (UInt8.ofNat (48 + k)).toNat = 48 + k := by
  rw [UInt8.toNat_ofNat_of_lt' (by show 48 + k < 256; omega)]
theorem read_small {v : Nat} (h : v < 100) : readB (numB (v : Int)) = (v : Int) := by
  have key : readFrom (numB (v : Int)) 0 0 = (v : Int) := by
    by_cases h1 : v < 10
    · rw [small_dig h1]
      have hd := digit_nat h1
      have e0 : (⟨#[UInt8.ofNat (48 + v)]⟩ : ByteArray)[0]'(by show 0 < 1; omega) = UInt8.ofNat (48 + v) := rfl
      rw [readFrom_go (by show 0 < 1; omega) (by rw [e0]; omega), readFrom_end (by show ¬ 1 < 1; omega), e0]
      omega
    · rw [small_two h1 h]
      have hd := digit_nat (k := v / 10) (by omega)
      have hm := digit_nat (k := v % 10) (by omega)
      have e0 : (⟨#[UInt8.ofNat (48 + v / 10), UInt8.ofNat (48 + v % 10)]⟩ : ByteArray)[0]'(by show 0 < 2; omega) = UInt8.ofNat (48 + v / 10) := rfl
      have e1 : (⟨#[UInt8.ofNat (48 + v / 10), UInt8.ofNat (48 + v % 10)]⟩ : ByteArray)[1]'(by show 1 < 2; omega) = UInt8.ofNat (48 + v % 10) := rfl
      rw [readFrom_go (by show 0 < 2; omega) (by rw [e0]; omega), readFrom_go (by show 1 < 2; omega) (by rw [e0, e1]; omega), readFrom_end (by show ¬ 2 < 2; omega), e0, e1]
      omega
  have hne : numB (v : Int) ≠ ByteArray.empty := fun e => by have := numB_pos (v : Int); rw [e] at this; exact absurd this (by decide)
  unfold readB
  rw [key, if_neg (by omega), if_neg hne, if_pos rfl]
theorem readB_back {s : ByteArray} (h : readB s ≠ -1) : numB (readB s) = s := by
  unfold readB at h ⊢
  split at h
  · exact absurd rfl h
  · rename_i h1
    rw [if_neg h1]
    split at h
    · exact absurd rfl h
    · rename_i h2
      rw [if_neg h2]
      split at h
      · rename_i h3; rw [if_pos h3]; exact h3
      · exact absurd rfl h
theorem codeN_read {s : ByteArray} {v : Int} (h0 : 0 ≤ v) (h1 : v < 100) : codeN s = some v ↔ readB s = v := by
  obtain ⟨n, rfl⟩ : ∃ n : Nat, v = (n : Int) := ⟨v.toNat, by omega⟩
  constructor
  · intro h
    unfold codeN at h
    split at h
    · split at h
      · rename_i e; rw [Option.some.inj h] at e; rw [← e]; exact read_small (by omega)
      · cases h
    · cases h
  · intro h
    have hb := readB_back (s := s) (by omega)
    rw [h] at hb
    unfold codeN
    rw [← hb, atoi_small (by omega)]
    simp
end Go.Proofs.YtjcbpnffmebihaaGreatDoor
namespace Go.Proofs.YtjcbpnffmebihaaGreatDoor
open Go.RowKit

theorem inRange_any (n lo hi : Int) (w : World) :
    Calls Tryz.prog 54 #[.int .i64 n, .int .i64 lo, .int .i64 hi] w fun e w' => e = .returned (.bool (inB lo hi n)) ∧ w = w' := by
  by_cases h1 : lo ≤ n
  · by_cases h2 : n ≤ hi
    · go_enter Tryz.func54, Tryz.ntmps54
      go_wp2
      go_ret
      exact ⟨ret_bool (inB_true h1 h2).symm, rfl⟩
    · go_enter Tryz.func54, Tryz.ntmps54
      go_wp2
      go_ret
      exact ⟨ret_bool (inB_hi (by omega)).symm, rfl⟩
  · go_enter Tryz.func54, Tryz.ntmps54
    go_wp2
    go_ret
    exact ⟨ret_bool (inB_lo (by omega)).symm, rfl⟩
theorem isUpTo_any (n hi : Int) (w : World) :
    Calls Tryz.prog 118 #[.int .i64 n, .int .i64 hi] w fun e w' => e = .returned (.bool (inB 0 hi n)) ∧ w = w' := by
  by_cases h1 : 0 ≤ n
  · by_cases h2 : n ≤ hi
    · go_enter Tryz.func118, Tryz.ntmps118
      go_wp2
      go_ret
      exact ⟨ret_bool (inB_true h1 h2).symm, rfl⟩
    · go_enter Tryz.func118, Tryz.ntmps118
      go_wp2
      go_ret
      exact ⟨ret_bool (inB_hi (by omega)).symm, rfl⟩
  · go_enter Tryz.func118, Tryz.ntmps118
    go_wp2
    go_ret
    exact ⟨ret_bool (inB_lo (by omega)).symm, rfl⟩
theorem allUpTo_any (S : Nat → Prop) (a : Option Addr) (len cap : Nat) (xs : List Int) (lim : Int) (w : World) (h : IntsAt w S a len xs) :
    Calls Tryz.prog 105 #[.slice a len cap, .int .i64 lim] w fun e w' => e = .returned (.bool (allIn 0 lim xs)) ∧ w = w' := by
  have hs := h.small
  go_enter Tryz.func105, Tryz.ntmps105
  go_wp2
  go_loop [9] (fun i => ∃ k : Nat, k ≤ len ∧ i = .int .i64 k ∧ allIn 0 lim (xs.take k) = true) (fun i => len - (intOf i).toNat)
  case atStart => exact ⟨0, Nat.zero_le _, rfl, rfl⟩
  case round =>
    obtain ⟨k, hk, rfl, ha⟩ := hrel
    have HA := Lib.hid ha
    clear ha
    by_cases hlt : k < len
    · obtain ⟨b, off, x, rfl, hx, hc⟩ := h.get hlt
      have HX := Lib.hid hx
      clear hx
      cases hq : inB 0 lim x
      · go_wp2_with (go_at_call 118; refine (isUpTo_any _ _ _).mono ?_; rintro e w' ⟨rfl, rfl⟩)
        go_ret
        exact ⟨ret_bool (allIn_false HX.out hq).symm, rfl⟩
      · go_wp2_with (go_at_call 118; refine (isUpTo_any _ _ _).mono ?_; rintro e w' ⟨rfl, rfl⟩)
        go_round
        case rel => exact ⟨k + 1, by omega, by go_num, allIn_step HX.out HA.out hq⟩
        case measure => simp [intOf]; omega
    · go_wp2
      go_ret
      have ha := HA.out
      have hl := h.lenEq
      rw [List.take_of_length_le (by omega)] at ha
      exact ⟨ret_bool ha.symm, rfl⟩
end Go.Proofs.YtjcbpnffmebihaaGreatDoor
