import Derived.Test.YtjcbpnffmebihaaGreatDoorA0
import Derived.Test.YtjcbpnffmebihaaGreatDoorRows
import Derived.WalkKit
import Derived.ProofKit
import Derived.WalkSpells
import Derived.WalkLawsBesides
import Derived.Lib.Hide
import Derived.LoopTactic
import Derived.Outline
namespace Go.Proofs.YtjcbpnffmebihaaGreatDoor
open Go.RowKit Go.WideShapes

/-- append of one int to a list of the call's own -/
theorem wpApp1 {ops : Array Oper} {rest : List Oper} {o : Oper} {a : Act} {Q : Exit → Act → World → Prop} {wo : World} (hgd : o.guard = none) (s x : Operand)
    (ho : o.op = .call { callee := .builtin .append, args := #[s, x], argTypes := #[35, 35] })
    (base k cp : Nat) (ax : Option Addr) (xs : List Int) (v : Int) (hs : a.eval s = .slice ax k cp)
    (hown : wo.ownsRow base 3 1 (.slice ax k cp) k (xs.map (.int .i64))) (hx : a.eval x = .slice (some ⟨wo.heap.size, 0, none⟩) 1 1)
    (hbase : base ≤ wo.heap.size) (hk : k ≤ 1048576)
    (h : ∀ (a6 : Option Addr) (c6 : Nat) (w' : World), w'.ownsRow base 3 1 (.slice a6 (k + 1) c6) (k + 1) (xs.map (.int .i64) ++ [.int .i64 v]) → k + 1 ≤ c6 → wo.grownBy w' (Value.slice ax k cp).ownBlock →
      wpList Tryz.prog ops Q rest (a.put o.dst (.slice a6 (k + 1) c6)) w') :
    wpList Tryz.prog ops Q (o :: rest) a (wo.alloc (.cells #[.int .i64 v] 3)) := by
  obtain ⟨i0, hi, hz0, hz1, hz2⟩ := info_parts Tryz.infoIntO
  refine wpList_append_own _ hgd s x 35 ho base 3 i0 (.int .i64 0) 1 8 Tryz.underlying35 hi hz0 hz1 hz2 rfl (by decide) _ k _ hs (hown.alloc _) ⟨wo.heap.size, 0, none⟩ 1 1 [.int .i64 v] hx rfl (one_new _ _ _) (one_cell_int _ _) (by unfold maxLen; omega) (by omega) (by simp; omega) ?_
  intro v' w6 hown6 hgrow _
  obtain ⟨a6, c6, rfl, hc⟩ := own_slice hown6
  exact h a6 c6 w6 hown6 hc (grown_comp (World.grownBy_alloc wo _ _) hgrow)
theorem own_block {w : World} {B e s n : Nat} {v : Value} {xs : List Value} (h : w.ownsRow B e s v n xs) : ∀ k, v.ownBlock = some k → B ≤ k := fun k e => (h.lt k e).1
theorem own_snoc {w : World} {B n : Nat} {u : Value} {xs : List Int} {x : Int} (h : w.ownsRow B 3 1 u n (xs.map (.int .i64) ++ [.int .i64 x])) : w.ownsRow B 3 1 u n ((xs ++ [x]).map (.int .i64)) := by
  rw [List.map_append]; exact h
end Go.Proofs.YtjcbpnffmebihaaGreatDoor
namespace Go.Proofs.YtjcbpnffmebihaaGreatDoor

/-! The desk, plain: numbers in decimal, lists with commas, a text cut at a sign, numbers read. -/
/-- a sign as a text -/
def sgnB (c : UInt8) : ByteArray := ⟨#[c]⟩
theorem sgnB_size (c : UInt8) : (sgnB c).size = 1 := rfl
/-- a digit -/
def digB (n : Nat) : ByteArray := sgnB (UInt8.ofNat (48 + n))
/-- a number from 0 on in decimal -/
def natB (n : Nat) : ByteArray := if n < 10 then digB n else natB (n / 10) ++ digB (n % 10)
termination_by n
decreasing_by omega
theorem natB_lt {n : Nat} (h : n < 10) : natB n = digB n := by rw [natB, if_pos h]
theorem natB_ge {n : Nat} (h : ¬ n < 10) : natB n = natB (n / 10) ++ natB (n % 10) := by
  rw [natB, if_neg h, natB_lt (n := n % 10) (by omega)]
theorem natB_size : ∀ (k n : Nat), n < 10 ^ (k + 1) → (natB n).size ≤ k + 1
  | 0, n, h => by rw [natB_lt (by omega)]; exact Nat.le_refl _
  | k + 1, n, h => by
    by_cases h1 : n < 10
    · rw [natB_lt h1]; show 1 ≤ _; omega
    · rw [natB_ge h1, ByteArray.size_append, natB_lt (n := n % 10) (by omega)]
      have := natB_size k (n / 10) (by rw [Nat.pow_succ] at h; omega)
      show _ + 1 ≤ _
      omega
theorem natB_pos (n : Nat) : 1 ≤ (natB n).size := by
  by_cases h1 : n < 10
  · rw [natB_lt h1]; exact Nat.le_refl _
  · rw [natB_ge h1, ByteArray.size_append, natB_lt (n := n % 10) (by omega)]; show 1 ≤ _ + 1; omega
/-- a number in decimal -/
def numB (n : Int) : ByteArray := if n < 0 then sgnB 45 ++ natB (-n).toNat else natB n.toNat
theorem numB_neg {n : Int} (h : n < 0) : numB n = sgnB 45 ++ numB (-n) := by
  rw [numB, if_pos h, numB, if_neg (by omega)]
theorem numB_nat (n : Nat) : numB n = natB n := by rw [numB, if_neg (by omega)]; simp
theorem numB_size {n : Int} (h1 : -9223372036854775808 ≤ n) (h2 : n ≤ 9223372036854775807) : (numB n).size ≤ 20 := by
  unfold numB
  split
  · rw [ByteArray.size_append, sgnB_size]
    have := natB_size 18 (-n).toNat (by omega)
    omega
  · have := natB_size 18 n.toNat (by omega)
    omega
theorem numB_pos (n : Int) : 1 ≤ (numB n).size := by
  unfold numB
  split
  · rw [ByteArray.size_append, sgnB_size]; omega
  · exact natB_pos _
/-- the numbers behind the first one, each behind a comma -/
def tailB : List Int → ByteArray
  | [] => ByteArray.empty
  | x :: xs => sgnB 44 ++ numB x ++ tailB xs
/-- numbers with a comma between two -/
def listB : List Int → ByteArray
  | [] => ByteArray.empty
  | x :: xs => numB x ++ tailB xs
theorem tailB_snoc (x : Int) : ∀ xs : List Int, tailB (xs ++ [x]) = tailB xs ++ sgnB 44 ++ numB x
  | [] => by simp [tailB, ByteArray.empty_append, ByteArray.append_empty]
  | y :: ys => by rw [List.cons_append, tailB, tailB, tailB_snoc x ys]; simp only [ByteArray.append_assoc]
theorem listB_one (x : Int) : listB [x] = numB x := by simp [listB, tailB, ByteArray.append_empty]
theorem listB_snoc (x : Int) (xs : List Int) (h : xs ≠ []) : listB (xs ++ [x]) = listB xs ++ sgnB 44 ++ numB x := by
  cases xs with
  | nil => exact absurd rfl h
  | cons y ys => rw [List.cons_append, listB, listB, tailB_snoc]; simp only [ByteArray.append_assoc]
theorem listB_size {xs : List Int} (h : ∀ x ∈ xs, -9223372036854775808 ≤ x ∧ x ≤ 9223372036854775807) : (listB xs).size ≤ 21 * xs.length := by
  have ht : ∀ ys : List Int, (∀ x ∈ ys, -9223372036854775808 ≤ x ∧ x ≤ 9223372036854775807) → (tailB ys).size ≤ 21 * ys.length := by
    intro ys
    induction ys with
    | nil => intro _; exact Nat.le_refl _
    | cons y ys ih =>
      intro hh
      have a := hh y (by simp)
      have b := ih fun x hx => hh x (by simp [hx])
      have c := numB_size a.1 a.2
      rw [tailB, ByteArray.size_append, ByteArray.size_append, sgnB_size, List.length_cons]
      omega
  cases xs with
  | nil => exact Nat.le_refl _
  | cons y ys =>
    have a := h y (by simp)
    have b := ht ys fun x hx => h x (by simp [hx])
    have c := numB_size a.1 a.2
    rw [listB, ByteArray.size_append, List.length_cons]
    omega
/-- the pieces of a text from the i-th sign on, a piece begun at the sign f -/
def pieces (s : ByteArray) (c : UInt8) (f i : Nat) : List ByteArray :=
  if h : i < s.size then (if s[i] = c then s.extract f i :: pieces s c (i + 1) (i + 1) else pieces s c f (i + 1)) else [s.extract f s.size]
termination_by s.size - i
def splitB (s : ByteArray) (c : UInt8) : List ByteArray := pieces s c 0 0
theorem pieces_end {s : ByteArray} {c : UInt8} {f i : Nat} (h : ¬ i < s.size) : pieces s c f i = [s.extract f s.size] := by rw [pieces, dif_neg h]
theorem pieces_hit {s : ByteArray} {c : UInt8} {f i : Nat} (h : i < s.size) (e : s[i] = c) : pieces s c f i = s.extract f i :: pieces s c (i + 1) (i + 1) := by rw [pieces, dif_pos h, if_pos e]
theorem pieces_miss {s : ByteArray} {c : UInt8} {f i : Nat} (h : i < s.size) (e : ¬ s[i] = c) : pieces s c f i = pieces s c f (i + 1) := by rw [pieces, dif_pos h, if_neg e]
theorem pieces_pos (s : ByteArray) (c : UInt8) : ∀ (n f i : Nat), s.size - i = n → 1 ≤ (pieces s c f i).length ∧ (pieces s c f i).length ≤ n + 1
  | 0, f, i, h => by rw [pieces_end (by omega)]; simp
  | n + 1, f, i, h => by
    by_cases e : s[i]'(by omega) = c
    · rw [pieces_hit (by omega) e]
      have := pieces_pos s c n (i + 1) (i + 1) (by omega)
      simp only [List.length_cons]; omega
    · rw [pieces_miss (by omega) e]
      have := pieces_pos s c n f (i + 1) (by omega)
      omega
theorem splitB_pos (s : ByteArray) (c : UInt8) : 1 ≤ (splitB s c).length ∧ (splitB s c).length ≤ s.size + 1 := pieces_pos s c s.size 0 0 (by omega)
theorem pieces_size (s : ByteArray) (c : UInt8) : ∀ (n f i : Nat), s.size - i = n → ∀ p ∈ pieces s c f i, p.size ≤ s.size
  | 0, f, i, h => by rw [pieces_end (by omega)]; intro p hp; simp only [List.mem_singleton] at hp; subst hp; rw [ByteArray.size_extract]; omega
  | n + 1, f, i, h => by
    by_cases e : s[i]'(by omega) = c
    · rw [pieces_hit (by omega) e]
      intro p hp
      rcases List.mem_cons.1 hp with rfl | hp
      · rw [ByteArray.size_extract]; omega
      · exact pieces_size s c n (i + 1) (i + 1) (by omega) p hp
    · rw [pieces_miss (by omega) e]
      exact pieces_size s c n f (i + 1) (by omega)
theorem splitB_size (s : ByteArray) (c : UInt8) : ∀ p ∈ splitB s c, p.size ≤ s.size := pieces_size s c s.size 0 0 (by omega)
/-- digits read from the i-th on, what was read before being n; -1 if one is none, or much is left -/
def readFrom (s : ByteArray) (i : Nat) (n : Int) : Int :=
  if h : i < s.size then (if (s[i].toNat : Int) < 48 ∨ 57 < (s[i].toNat : Int) ∨ 1000 < n then -1 else readFrom s (i + 1) (10 * n + ((s[i].toNat : Int) - 48))) else n
termination_by s.size - i
theorem readFrom_end {s : ByteArray} {i : Nat} {n : Int} (h : ¬ i < s.size) : readFrom s i n = n := by rw [readFrom, dif_neg h]
theorem readFrom_bad {s : ByteArray} {i : Nat} {n : Int} (h : i < s.size) (e : (s[i].toNat : Int) < 48 ∨ 57 < (s[i].toNat : Int) ∨ 1000 < n) : readFrom s i n = -1 := by rw [readFrom, dif_pos h, if_pos e]
theorem readFrom_go {s : ByteArray} {i : Nat} {n : Int} (h : i < s.size) (e : ¬ ((s[i].toNat : Int) < 48 ∨ 57 < (s[i].toNat : Int) ∨ 1000 < n)) : readFrom s i n = readFrom s (i + 1) (10 * n + ((s[i].toNat : Int) - 48)) := by rw [readFrom, dif_pos h, if_neg e]
theorem readFrom_bd (s : ByteArray) : ∀ (k i : Nat) (n : Int), s.size - i = k → 0 ≤ n → n ≤ 10009 → -1 ≤ readFrom s i n ∧ readFrom s i n ≤ 10009
  | 0, i, n, h, h0, h1 => by rw [readFrom_end (by omega)]; omega
  | k + 1, i, n, h, h0, h1 => by
    by_cases e : ((s[i]'(by omega)).toNat : Int) < 48 ∨ 57 < ((s[i]'(by omega)).toNat : Int) ∨ 1000 < n
    · rw [readFrom_bad (by omega) e]; omega
    · rw [readFrom_go (by omega) e]
      exact readFrom_bd s k (i + 1) _ (by omega) (by omega) (by omega)
/-- the number of a text, -1 if it is none -/
def readB (s : ByteArray) : Int := if readFrom s 0 0 = -1 then -1 else if s = ByteArray.empty then -1 else if numB (readFrom s 0 0) = s then readFrom s 0 0 else -1
theorem readB_bd (s : ByteArray) : -1 ≤ readB s ∧ readB s ≤ 10009 := by
  have := readFrom_bd s s.size 0 0 (by omega) (by omega) (by omega)
  unfold readB
  split
  · omega
  · split
    · omega
    · split <;> omega
/-- the rows of a text -/
def rowsB (s : ByteArray) : List (List Int) := (splitB s 47).map fun l => (splitB l 44).map readB
end Go.Proofs.YtjcbpnffmebihaaGreatDoor
namespace Go.Proofs.YtjcbpnffmebihaaGreatDoor
open Go.RowKit Go.WideShapes

theorem dig_lit {n : Nat} (h : n < 10) : (⟨#[48, 49, 50, 51, 52, 53, 54, 55, 56, 57]⟩ : ByteArray).extract n (n + 1) = natB n := by
  rw [natB_lt h]
  have : ∀ k : Fin 10, (⟨#[48, 49, 50, 51, 52, 53, 54, 55, 56, 57]⟩ : ByteArray).extract k.1 (k.1 + 1) = digB k.1 := by
    intro k
    rw [ByteArray.ext_iff]
    revert k
    decide
  exact this ⟨n, h⟩
theorem ret_str {a b : ByteArray} (h : a = b) : Ending.returned (.string a) = Ending.returned (.string b) := by rw [h]
theorem natB_max {n : Nat} (h : n ≤ 9223372036854775807) : (natB n).size ≤ 19 := natB_size 18 n (by omega)
set_option maxRecDepth 100000 in
theorem number_nat (n : Nat) : n ≤ 9223372036854775807 → ∀ w : World, Calls Tryz.prog 18 #[.int .i64 n] w fun e w' => e = .returned (.string (natB n)) ∧ w' = w := by
  induction n using Nat.strongRecOn with
  | ind n ih =>
    intro hn w
    by_cases h : n < 10
    · have hd := dig_lit h
      clear ih
      have h0 : ¬ (n : Int) < 0 := by omega
      have h1 : (n : Int) < 10 := by omega
      go_enter Tryz.func18, Tryz.ntmps18
      go_wp2
      all_goals go_ret
      rw [← hd]
      exact ⟨rfl, rfl⟩
    · have ha := ih (n / 10) (by omega) (by omega)
      have hb := ih (n % 10) (by omega) (by omega)
      have hg := natB_ge h
      have s1 := natB_max (n := n / 10) (by omega)
      have s2 := natB_max (n := n % 10) (by omega)
      clear ih
      have HA := Lib.hid ha
      have HB := Lib.hid hb
      have HG := Lib.hid hg
      have HS := Lib.hid (And.intro s1 s2)
      have h1 : ¬ (n : Int) < 10 := by omega
      have h0 : ¬ (n : Int) < 0 := by omega
      have htd : (n : Int).tdiv 10 = ((n / 10 : Nat) : Int) := by rw [Int.tdiv_eq_ediv_of_nonneg (by omega)]; omega
      have htm : (n : Int).tmod 10 = ((n % 10 : Nat) : Int) := by rw [Int.tmod_eq_emod_of_nonneg (by omega)]; omega
      have hq : n / 10 ≤ 9223372036854775807 := by omega
      generalize hQ : n / 10 = q at *
      generalize hR : n % 10 = r at *
      have HQ := Lib.hid (And.intro hQ hR)
      clear ha hb hg s1 s2 hn h hQ hR
      go_enter Tryz.func18, Tryz.ntmps18
      go_wp2_with fail
      refine (HA.out w).mono ?_
      rintro e w1 ⟨rfl, hw⟩
      subst hw
      go_wp2_with fail
      refine (HB.out _).mono ?_
      rintro e w2 ⟨rfl, hw⟩
      subst hw
      have hsum : ¬ 9223372036854775807 < (natB q).size + (natB r).size := by have := HS.out; omega
      have hsum2 : ¬ (9223372036854775807 : Int) < ((natB q).size : Int) + ((natB r).size : Int) := by have := HS.out; omega
      go_wp2_with fail
      go_ret
      exact ⟨ret_str HG.out.symm, rfl⟩
/-- the model's numbers in decimal -/
theorem number_any (n : Int) (w : World) (h1 : -9223372036854775807 ≤ n) (h2 : n ≤ 9223372036854775807) : Calls Tryz.prog 18 #[.int .i64 n] w fun e w' => e = .returned (.string (numB n)) ∧ w' = w := by
  by_cases h : n < 0
  · obtain ⟨m, rfl⟩ : ∃ m : Nat, n = -(m : Int) := ⟨(-n).toNat, by omega⟩
    have HA := Lib.hid (number_nat m (by omega) w)
    have HG := Lib.hid (show sgnB 45 ++ natB m = numB (-(m : Int)) by rw [numB_neg h, Int.neg_neg, numB_nat])
    have hs := natB_max (n := m) (by omega)
    have hw : IntKind.i64.wrap (-(-(m : Int))) = (m : Int) := by rw [Int.neg_neg]; exact IntWalk.i64_in _ (by omega)
    have hsum : ¬ 9223372036854775807 < (⟨#[45]⟩ : ByteArray).size + (natB m).size := by show ¬ _ < 1 + _; omega
    have hn : -(m : Int) < 0 := h
    go_enter Tryz.func18, Tryz.ntmps18
    go_wp2_with fail
    refine HA.out.mono ?_
    rintro e w1 ⟨rfl, hw⟩
    subst hw
    go_wp2_with fail
    go_ret
    exact ⟨ret_str HG.out, rfl⟩
  · obtain ⟨m, rfl⟩ : ∃ m : Nat, n = (m : Int) := ⟨n.toNat, by omega⟩
    rw [numB_nat]
    exact number_nat m (by omega) w
theorem listB_step {xs : List Int} {x : Int} {k : Nat} (h : xs[k]? = some x) (hk : 0 < k) : listB (xs.take (k + 1)) = listB (xs.take k) ++ sgnB 44 ++ numB x := by
  rw [take_get h]
  refine listB_snoc _ _ fun e => ?_
  have : k < xs.length := (List.getElem?_eq_some_iff.1 h).1
  have := congrArg List.length e
  simp only [List.length_take, List.length_nil] at this
  omega
set_option maxHeartbeats 1000000 in
/-- the model's lists in decimal -/
theorem listText_any (S : Nat → Prop) (a : Option Addr) (len cap : Nat) (xs : List Int) (w : World) (h : IntsAt w S a len xs) (hx : ∀ x ∈ xs, -9223372036854775807 ≤ x ∧ x ≤ 9223372036854775807) (hl : len ≤ 1048576) :
    Calls Tryz.prog 19 #[.slice a len cap] w fun e w' => e = .returned (.string (listB xs)) ∧ w' = w := by
  have HX := Lib.hid hx
  have HL := Lib.hid h.lenEq
  clear hx
  go_enter Tryz.func19, Tryz.ntmps19
  go_wp2_with fail
  go_loop [3, 4] (fun o i => ∃ k : Nat, k ≤ len ∧ i = .int .i64 k ∧ o = .string (listB (xs.take k))) (fun _ i => len - (intOf i).toNat)
  case atStart => exact ⟨0, Nat.zero_le _, rfl, rfl⟩
  case round =>
    obtain ⟨k, hk, rfl, rfl⟩ := hrel
    by_cases hlt : k < len
    · obtain ⟨b, off, x, rfl, hxk, hc⟩ := h.get hlt
      have hxb := HX.out x (List.mem_of_getElem? hxk)
      have HC := Lib.hid (number_any x w hxb.1 hxb.2)
      have s1 := listB_size (xs := xs.take k) fun y hy => by have := HX.out y (List.mem_of_mem_take hy); omega
      have s2 := numB_size (n := x) (by omega) hxb.2
      have s3 : (xs.take k).length ≤ 1048576 := by rw [List.length_take]; omega
      by_cases hk0 : 0 < k
      · have HS := Lib.hid (listB_step hxk hk0)
        clear hxk hxb
        generalize listB (xs.take k) = L at *
        generalize numB x = X at *
        generalize (xs.take k).length = m at *
        have HZ := Lib.hid (And.intro s1 (And.intro s2 s3))
        have t1 : ¬ 9223372036854775807 < L.size + (⟨#[44]⟩ : ByteArray).size := by show ¬ _ < _ + 1; omega
        have t2 : ¬ 9223372036854775807 < (L ++ (⟨#[44]⟩ : ByteArray)).size + X.size := by rw [ByteArray.size_append]; show ¬ _ < _ + 1 + _; omega
        clear s1 s2 s3
        go_wp2_with fail
        refine HC.out.mono ?_
        rintro e w1 ⟨rfl, hw⟩
        subst hw
        go_wp2_with fail
        go_round
        case rel => exact ⟨k + 1, by omega, by go_num, by rw [HS.out]; rfl⟩
        case measure => simp [intOf] <;> omega
      · obtain rfl : k = 0 := by omega
        have HS := Lib.hid (show listB (xs.take (0 + 1)) = numB x by rw [take_get hxk]; exact listB_one x)
        rw [Nat.add_zero] at hc
        clear hxk hxb s1 s3
        generalize numB x = X at *
        have t2 : ¬ 9223372036854775807 < (⟨#[]⟩ : ByteArray).size + X.size := by show ¬ _ < 0 + _; omega
        clear s2
        go_wp2_with fail
        refine HC.out.mono ?_
        rintro e w1 ⟨rfl, hw⟩
        subst hw
        go_wp2_with fail
        go_round
        case rel => exact ⟨1, by omega, by go_num, by rw [HS.out]; exact congrArg Value.string ByteArray.empty_append⟩
        case measure => simp [intOf] <;> omega
    · obtain rfl : k = len := by omega
      have HE := Lib.hid (show xs.take k = xs by rw [List.take_of_length_le (by rw [HL.out]; omega)])
      go_wp2_with fail
      go_ret
      exact ⟨ret_str (by rw [HE.out]), rfl⟩
end Go.Proofs.YtjcbpnffmebihaaGreatDoor
namespace Go.Proofs.YtjcbpnffmebihaaGreatDoor
open Go.RowKit Go.WideShapes

theorem Tryz.infoStr : (Tryz.prog.info? 9).map (fun i => (i.zero, i.size, i.bytes)) = some (some (.string ByteArray.empty), 1, 16) := by kernel_rfl
/-- a list of texts in memory -/
structure StrsAt (w : World) (S : Nat → Prop) (a : Option Addr) (len : Nat) (ss : List ByteArray) : Prop where
  lenEq : ss.length = len
  small : len ≤ 9223372036854775807
  cells : 0 < len → ∃ b off, a = some ⟨b, off, none⟩ ∧ S b ∧ ∀ i x, ss[i]? = some x → w.cell? ⟨b, off + i, none⟩ = some (.string x)
theorem StrsAt.get {w : World} {S : Nat → Prop} {a : Option Addr} {len : Nat} {ss : List ByteArray} (h : StrsAt w S a len ss) {k : Nat} (hk : k < len) :
    ∃ b off x, a = some ⟨b, off, none⟩ ∧ ss[k]? = some x ∧ w.cell? ⟨b, off + k, none⟩ = some (.string x) := by
  obtain ⟨b, off, ha, _, hc⟩ := h.cells (by omega)
  have hl := h.lenEq
  have hx : ss[k]? = some (ss[k]'(by omega)) := List.getElem?_eq_getElem (by omega)
  exact ⟨b, off, _, ha, hx, hc _ _ hx⟩
theorem StrsAt.to {w w' : World} {S S' : Nat → Prop} {a : Option Addr} {len : Nat} {ss : List ByteArray} (h : StrsAt w S a len ss) (hk : ∀ k, S k → S' k ∧ w'.heap[k]? = w.heap[k]?) : StrsAt w' S' a len ss := by
  refine ⟨h.lenEq, h.small, fun h0 => ?_⟩
  obtain ⟨b, off, ha, hb, hc⟩ := h.cells h0
  exact ⟨b, off, ha, (hk b hb).1, fun i x hx => by rw [World.cell?_of_block (w := w) (hk b hb).2]; exact hc i x hx⟩
theorem StrsAt.below {w w' : World} {n : Nat} {a : Option Addr} {len : Nat} {ss : List ByteArray} (h : StrsAt w (· < n) a len ss) (hb : Below n w w') : StrsAt w' (· < n) a len ss :=
  h.to fun k hk => ⟨hk, hb.block k hk⟩
/-- append of one text to a list of the call's own -/
theorem wpAppS {ops : Array Oper} {rest : List Oper} {o : Oper} {a : Act} {Q : Exit → Act → World → Prop} {wo : World} (hgd : o.guard = none) (s x : Operand)
    (ho : o.op = .call { callee := .builtin .append, args := #[s, x], argTypes := #[23, 23] })
    (base k cp : Nat) (ax : Option Addr) (xs : List ByteArray) (v : ByteArray) (hs : a.eval s = .slice ax k cp)
    (hown : wo.ownsRow base 9 1 (.slice ax k cp) k (xs.map .string)) (hx : a.eval x = .slice (some ⟨wo.heap.size, 0, none⟩) 1 1)
    (hbase : base ≤ wo.heap.size) (hk : k ≤ 1048576)
    (h : ∀ (a6 : Option Addr) (c6 : Nat) (w' : World), w'.ownsRow base 9 1 (.slice a6 (k + 1) c6) (k + 1) ((xs ++ [v]).map .string) → k + 1 ≤ c6 → wo.grownBy w' (Value.slice ax k cp).ownBlock →
      wpList Tryz.prog ops Q rest (a.put o.dst (.slice a6 (k + 1) c6)) w') :
    wpList Tryz.prog ops Q (o :: rest) a (wo.alloc (.cells #[.string v] 9)) := by
  obtain ⟨i0, hi, hz0, hz1, hz2⟩ := info_parts Tryz.infoStr
  refine wpList_append_own _ hgd s x 23 ho base 9 i0 (.string ByteArray.empty) 1 16 Tryz.underlying23 hi hz0 hz1 hz2 rfl (by decide) _ k _ hs (hown.alloc _) ⟨wo.heap.size, 0, none⟩ 1 1 [.string v] hx rfl (one_new _ _ _) (by simp [Value.oneCell']) (by unfold maxLen; omega) (by omega) (by simp; omega) ?_
  intro v' w6 hown6 hgrow _
  obtain ⟨a6, c6, rfl, hc⟩ := own_slice hown6
  refine h a6 c6 w6 ?_ hc (grown_comp (World.grownBy_alloc wo _ _) hgrow)
  rw [List.map_append]
  exact hown6
theorem strs_snoc {w : World} {B n : Nat} {u : Value} {xs : List ByteArray} {x : ByteArray} (h : w.ownsRow B 9 1 u n (xs.map .string ++ [.string x])) : w.ownsRow B 9 1 u n ((xs ++ [x]).map .string) := by
  rw [List.map_append]; exact h
theorem own_strs {w : World} {B l : Nat} {u : Value} {ss : List ByteArray} (h : w.ownsRow B 9 1 u l (ss.map .string)) (hl : l ≤ 9223372036854775807) :
    ∃ a cap, u = .slice a l cap ∧ l ≤ cap ∧ StrsAt w (fun b => B ≤ b ∧ b < w.heap.size) a l ss := by
  have hlen : ss.length = l := by have := h.1; simpa using this
  have hlt := h.lt
  have hc := fun g hg => h.cells (g := g) hg
  rcases h.2 with ⟨rfl, rfl⟩ | ⟨g, cap, cur, rfl, _, _, hcap, _⟩
  · exact ⟨none, 0, rfl, Nat.le_refl _, hlen, hl, fun h0 => absurd h0 (by omega)⟩
  · refine ⟨some ⟨g, 0, none⟩, cap, rfl, hcap, hlen, hl, fun h0 => ⟨g, 0, rfl, hlt g rfl, fun i x hx => ?_⟩⟩
    have := hc g rfl i (.string x) (by rw [List.getElem?_map, hx]; rfl)
    rw [add_plain] at this
    exact this
/-- a new list of these texts, that is the call's own -/
def NewStrs (w : World) (ss : List ByteArray) (e : Ending) (w' : World) : Prop := ∃ (a : Option Addr) (len cap : Nat), e = .returned (.slice a len cap) ∧ len ≤ 1048576 ∧
  w'.ownsRow w.heap.size 9 1 (.slice a len cap) len (ss.map .string) ∧ Below w.heap.size w w'
theorem newStrs_own {w wr : World} {k cp : Nat} {ax : Option Addr} {ss : List ByteArray} (h : wr.ownsRow w.heap.size 9 1 (.slice ax k cp) k (ss.map .string)) (hb : Below w.heap.size w wr) (hk : k ≤ 1048576) :
    NewStrs w ss (.returned (.slice ax k cp)) wr := ⟨_, _, _, rfl, hk, h, hb⟩
theorem own_strsAt {w : World} {B l c : Nat} {a : Option Addr} {ss : List ByteArray} (h : w.ownsRow B 9 1 (.slice a l c) l (ss.map .string)) (hl : l ≤ 1048576) : StrsAt w (fun b => B ≤ b ∧ b < w.heap.size) a l ss := by
  obtain ⟨a', c', e, _, hs⟩ := own_strs h (by omega)
  injection e with e1 _ _
  subst e1
  exact hs
set_option maxRecDepth 100000 in
set_option maxHeartbeats 2000000 in
/-- the model's cut of a text -/
theorem splitAt_any (s : ByteArray) (c : UInt8) (w : World) (hs : s.size ≤ 1048575) :
    Calls Tryz.prog 31 #[.string s, .int .u8 (c.toNat : Int)] w (NewStrs w (splitB s c)) := by
  have hlen := splitB_pos s c
  go_enter Tryz.func31, Tryz.ntmps31
  go_wp2
  go_loopw [5, 6, 7] (fun v f i wr => ∃ (k q m cp : Nat) (ax : Option Addr) (ps : List ByteArray), k ≤ s.size ∧ q ≤ k ∧ i = .int .i64 k ∧ f = .int .i64 q ∧ v = .slice ax m cp ∧ m ≤ k ∧ wr.ownsRow w.heap.size 9 1 v m (ps.map .string) ∧ ps ++ pieces s c q k = splitB s c ∧ Below w.heap.size w wr) (fun _ _ i _ => s.size - (intOf i).toNat)
  case atStart => exact ⟨0, 0, 0, 0, _, [], Nat.zero_le _, Nat.le_refl _, rfl, rfl, rfl, Nat.le_refl _, World.ownsRow_made _ _ _ (Nat.le_refl _) (Nat.zero_le _) rfl, rfl, (Below.refl _ _).alloc (Nat.le_refl _) _⟩
  case round =>
    obtain ⟨k, q, m, cp, ax, ps, hk, hqk, rfl, rfl, rfl, hm, hown, hps, hB⟩ := hrel
    obtain ⟨wo, rfl⟩ : ∃ wo : World, wo = wr := ⟨_, rfl⟩
    have HOWN := Lib.hid hown
    have HB := Lib.hid hB
    have HP := Lib.hid hps
    clear hown hB hps
    by_cases hlt : k < s.size
    · have hki : (k : Int) < (s.size : Int) := by omega
      by_cases e : s[k] = c
      · have HP2 := Lib.hid (show (ps ++ [s.extract q k]) ++ pieces s c (k + 1) (k + 1) = splitB s c by rw [← HP.out, pieces_hit hlt e, List.append_assoc]; rfl)
        have HE := Lib.hid e
        have he : ((s[k].toNat : Int) == (c.toNat : Int)) = true := by rw [e]; exact beq_self_eq_true _
        clear e
        go_wp2_with (at_builtin; refine wpAppS rfl _ _ rfl w.heap.size _ _ _ _ _ rfl HOWN.out rfl HB.out.size (by omega) ?_)
        intro a6 c6 w6 hown hc6 hgr
        have HO6 := Lib.hid hown
        have HG6 := Lib.hid hgr
        clear hown hgr
        go_wp2
        go_roundw
        case rel => exact ⟨k + 1, k + 1, m + 1, c6, a6, _, by omega, Nat.le_refl _, by go_num, by go_num, rfl, by omega, strs_snoc HO6.out, HP2.out, HB.out.grown HG6.out HB.out.size (own_block HOWN.out)⟩
        case measure => simp [intOf] <;> omega
      · have HP2 := Lib.hid (show ps ++ pieces s c q (k + 1) = splitB s c by rw [← HP.out, pieces_miss hlt e])
        have he : ((s[k].toNat : Int) == (c.toNat : Int)) = false := by
          rw [beq_eq_false_iff_ne]
          intro h
          exact e (UInt8.toNat_inj.1 (by omega))
        clear e
        go_wp2
        go_roundw
        case rel => exact ⟨k + 1, q, m, cp, ax, ps, by omega, by omega, by go_num, rfl, rfl, by omega, HOWN.out, HP2.out, HB.out⟩
        case measure => simp [intOf] <;> omega
    · have HP2 := Lib.hid (show ps ++ [s.extract q s.size] = splitB s c by rw [← HP.out, pieces_end hlt])
      have hki : ¬ (k : Int) < (s.size : Int) := by omega
      have hq0 : q ≤ s.size := by omega
      go_wp2_with (at_builtin; refine wpAppS rfl _ _ rfl w.heap.size _ _ _ _ _ rfl HOWN.out rfl HB.out.size (by omega) ?_)
      intro a6 c6 w6 hown hc6 hgr
      have HO6 := Lib.hid hown
      have HG6 := Lib.hid hgr
      clear hown hgr
      go_wp2
      go_ret
      rw [← HP2.out]
      exact newStrs_own (strs_snoc HO6.out) (HB.out.grown HG6.out HB.out.size (own_block HOWN.out)) (by omega)
end Go.Proofs.YtjcbpnffmebihaaGreatDoor
namespace Go.Proofs.YtjcbpnffmebihaaGreatDoor

-- two machines: a, b the times of the jobs
def sumL (f : Nat → Int) : List Nat → Int
  | [] => 0
  | x :: l => f x + sumL f l
theorem sumL_append (f : Nat → Int) (l m : List Nat) : sumL f (l ++ m) = sumL f l + sumL f m := by
  induction l with
  | nil => simp [sumL]
  | cons x l ih => simp only [List.cons_append, sumL, ih]; omega
theorem sumL_nn {f : Nat → Int} (h : ∀ x, 0 ≤ f x) : ∀ l, 0 ≤ sumL f l := by
  intro l
  induction l with
  | nil => exact Int.le_refl _
  | cons x l ih => have := h x; rw [sumL]; omega
theorem sumL_perm {f : Nat → Int} {l m : List Nat} (h : l.Perm m) : sumL f l = sumL f m := by
  induction h with
  | nil => rfl
  | cons x _ ih => rw [sumL, sumL, ih]
  | swap x y l => simp only [sumL]; omega
  | trans _ _ ih1 ih2 => rw [ih1, ih2]
theorem sumL_bd {f : Nat → Int} {B : Int} (h : ∀ x, f x ≤ B) : ∀ l : List Nat, sumL f l ≤ B * (l.length : Int) := by
  intro l
  induction l with
  | nil => simp [sumL]
  | cons x l ih => have := h x; rw [sumL, List.length_cons]; push_cast; rw [Int.mul_add]; omega
/-- one job more: the times at which both machines are done -/
def stT (a b : Nat → Int) (s : Int × Int) (x : Nat) : Int × Int := (s.1 + a x, max (s.1 + a x) s.2 + b x)
def runT (a b : Nat → Int) (s : Int × Int) (l : List Nat) : Int × Int := l.foldl (stT a b) s
def spanT (a b : Nat → Int) (l : List Nat) : Int := (runT a b (0, 0) l).2
theorem runT_snoc (a b : Nat → Int) (s : Int × Int) (l : List Nat) (x : Nat) : runT a b s (l ++ [x]) = stT a b (runT a b s l) x := by simp [runT]
theorem runT_cons (a b : Nat → Int) (s : Int × Int) (l : List Nat) (x : Nat) : runT a b s (x :: l) = runT a b (stT a b s x) l := rfl
theorem runT_fst (a b : Nat → Int) : ∀ (l : List Nat) (s : Int × Int), (runT a b s l).1 = s.1 + sumL a l := by
  intro l
  induction l with
  | nil => intro s; simp [runT, sumL]
  | cons x l ih => intro s; rw [runT_cons, ih, sumL, stT]; simp only; omega
/-- the k-th job is the turn -/
def turnT (a b : Nat → Int) (l : List Nat) (k : Nat) : Int := sumL a (l.take (k + 1)) + sumL b (l.drop k)
theorem turnT_zero (a b : Nat → Int) (x : Nat) (l : List Nat) : turnT a b (x :: l) 0 = a x + b x + sumL b l := by
  simp only [turnT, List.take_succ_cons, List.take_zero, List.drop_zero, sumL]; omega
theorem turnT_succ (a b : Nat → Int) (x : Nat) (l : List Nat) (k : Nat) : turnT a b (x :: l) (k + 1) = a x + turnT a b l k := by
  simp only [turnT, List.take_succ_cons, List.drop_succ_cons, sumL]; omega
theorem runT_ge (a b : Nat → Int) : ∀ (l : List Nat) (s : Int × Int), s.2 + sumL b l ≤ (runT a b s l).2 ∧ ∀ k, k < l.length → s.1 + turnT a b l k ≤ (runT a b s l).2 := by
  intro l
  induction l with
  | nil => intro s; exact ⟨by simp [runT, sumL], fun k hk => by simp at hk⟩
  | cons x l ih =>
    intro s
    obtain ⟨h1, h2⟩ := ih (stT a b s x)
    rw [runT_cons]
    simp only [stT] at h1 h2 ⊢
    refine ⟨by rw [sumL]; omega, fun k hk => ?_⟩
    cases k with
    | zero => rw [turnT_zero]; omega
    | succ k => have := h2 k (by simp at hk; omega); rw [turnT_succ]; omega
theorem runT_is (a b : Nat → Int) : ∀ (l : List Nat) (s : Int × Int), (runT a b s l).2 = s.2 + sumL b l ∨ ∃ k, k < l.length ∧ (runT a b s l).2 = s.1 + turnT a b l k := by
  intro l
  induction l with
  | nil => intro s; left; simp [runT, sumL]
  | cons x l ih =>
    intro s
    rw [runT_cons]
    rcases ih (stT a b s x) with h | ⟨k, hk, h⟩
    · simp only [stT] at h ⊢
      by_cases hm : s.2 ≤ s.1 + a x
      · right; exact ⟨0, by simp, by rw [h, turnT_zero]; omega⟩
      · left; rw [h, sumL]; omega
    · right
      simp only [stT] at h ⊢
      exact ⟨k + 1, by simpa using hk, by rw [h, turnT_succ]; omega⟩
theorem span_ge {a b : Nat → Int} {l : List Nat} {k : Nat} (hk : k < l.length) : turnT a b l k ≤ spanT a b l := by
  have := (runT_ge a b l (0, 0)).2 k hk
  unfold spanT; simp only at this; omega
theorem span_is {a b : Nat → Int} (ha : ∀ x, 0 ≤ a x) {l : List Nat} (hl : l ≠ []) : ∃ k, k < l.length ∧ spanT a b l = turnT a b l k := by
  rcases runT_is a b l (0, 0) with h | ⟨k, hk, h⟩
  · obtain ⟨x, m, rfl⟩ := List.exists_cons_of_ne_nil hl
    refine ⟨0, by simp, ?_⟩
    have h2 := span_ge (a := a) (b := b) (l := x :: m) (k := 0) (by simp)
    unfold spanT at h2 ⊢
    rw [h] at h2 ⊢
    rw [turnT_zero] at h2 ⊢
    rw [sumL] at h2 ⊢
    have := ha x
    simp only at h2 ⊢
    omega
  · exact ⟨k, hk, by unfold spanT; rw [h]; simp⟩
/-- the greatest of the first so many turns -/
def turnsTo (a b : Nat → Int) (l : List Nat) : Nat → Int
  | 0 => 0
  | k + 1 => max (turnsTo a b l k) (turnT a b l k)
theorem turnsTo_ge (a b : Nat → Int) (l : List Nat) : ∀ m k, k < m → turnT a b l k ≤ turnsTo a b l m := by
  intro m
  induction m with
  | zero => intro k hk; omega
  | succ m ih =>
    intro k hk
    rw [turnsTo]
    by_cases e : k = m
    · subst e; omega
    · have := ih k (by omega); omega
theorem turnsTo_is (a b : Nat → Int) (l : List Nat) : ∀ m, turnsTo a b l m = 0 ∨ ∃ k, k < m ∧ turnsTo a b l m = turnT a b l k := by
  intro m
  induction m with
  | zero => left; rfl
  | succ m ih =>
    rw [turnsTo]
    by_cases h : turnsTo a b l m ≤ turnT a b l m
    · right; exact ⟨m, by omega, by omega⟩
    · rcases ih with h2 | ⟨k, hk, h2⟩
      · left; omega
      · right; exact ⟨k, by omega, by omega⟩
theorem turnT_nn {a b : Nat → Int} (ha : ∀ x, 0 ≤ a x) (hb : ∀ x, 0 ≤ b x) (l : List Nat) (k : Nat) : 0 ≤ turnT a b l k := by
  have := sumL_nn ha (l.take (k + 1)); have := sumL_nn hb (l.drop k); unfold turnT; omega
theorem turnsTo_nn (a b : Nat → Int) (l : List Nat) : ∀ m, 0 ≤ turnsTo a b l m := by
  intro m
  induction m with
  | zero => exact Int.le_refl _
  | succ m ih => rw [turnsTo]; omega
theorem turns_span {a b : Nat → Int} (ha : ∀ x, 0 ≤ a x) (hb : ∀ x, 0 ≤ b x) (l : List Nat) : turnsTo a b l l.length = spanT a b l := by
  by_cases hl : l = []
  · subst hl; rfl
  · obtain ⟨k, hk, e⟩ := span_is (b := b) ha hl
    have h1 := turnsTo_ge a b l l.length k hk
    rcases turnsTo_is a b l l.length with h2 | ⟨j, hj, h2⟩
    · have := turnT_nn ha hb l k; omega
    · have := span_ge (a := a) (b := b) hj; omega
theorem span_nn {a b : Nat → Int} (ha : ∀ x, 0 ≤ a x) (hb : ∀ x, 0 ≤ b x) (l : List Nat) : 0 ≤ spanT a b l := by
  rw [← turns_span ha hb]; exact turnsTo_nn _ _ _ _
theorem span_sums {a b : Nat → Int} (ha : ∀ x, 0 ≤ a x) (hb : ∀ x, 0 ≤ b x) (l : List Nat) : sumL a l ≤ spanT a b l ∧ sumL b l ≤ spanT a b l ∧ spanT a b l ≤ sumL a l + sumL b l := by
  by_cases hl : l = []
  · subst hl; exact ⟨Int.le_refl _, Int.le_refl _, Int.le_refl _⟩
  · have hpos : 0 < l.length := List.length_pos_iff.2 hl
    refine ⟨?_, ?_, ?_⟩
    · have h := span_ge (a := a) (b := b) (l := l) (k := l.length - 1) (by omega)
      have := sumL_nn hb (l.drop (l.length - 1))
      unfold turnT at h
      rw [show l.length - 1 + 1 = l.length by omega, List.take_length] at h
      omega
    · have h := span_ge (a := a) (b := b) (l := l) (k := 0) hpos
      have := sumL_nn ha (l.take (0 + 1))
      unfold turnT at h
      rw [List.drop_zero] at h
      omega
    · obtain ⟨k, hk, e⟩ := span_is (b := b) ha hl
      rw [e]
      unfold turnT
      have h1 : sumL a l = sumL a (l.take (k + 1)) + sumL a (l.drop (k + 1)) := by rw [← sumL_append, List.take_append_drop]
      have h2 : sumL b l = sumL b (l.take k) + sumL b (l.drop k) := by rw [← sumL_append, List.take_append_drop]
      have := sumL_nn ha (l.drop (k + 1))
      have := sumL_nn hb (l.take k)
      omega
def LeS (s t : Int × Int) : Prop := s.1 ≤ t.1 ∧ s.2 ≤ t.2
theorem LeS.refl (s : Int × Int) : LeS s s := ⟨Int.le_refl _, Int.le_refl _⟩
theorem LeS.trans {s t u : Int × Int} (h : LeS s t) (g : LeS t u) : LeS s u := ⟨Int.le_trans h.1 g.1, Int.le_trans h.2 g.2⟩
def btr (a b : Nat → Int) (i k : Nat) : Prop :=
  if a i < b i then (if a k < b k then (a i < a k ∨ (a i = a k ∧ i < k)) else True)
  else (if a k < b k then False else (b k < b i ∨ (b i = b k ∧ i < k)))
instance (a b : Nat → Int) (i k : Nat) : Decidable (btr a b i k) := by unfold btr; infer_instance
theorem btr_total {a b : Nat → Int} {i k : Nat} (h : i ≠ k) (hn : ¬ btr a b i k) : btr a b k i := by
  unfold btr at hn ⊢
  by_cases h1 : a i < b i <;> by_cases h3 : a k < b k <;> simp only [h1, h3, if_true, if_false, not_true, not_false_eq_true] at hn ⊢ <;> omega
theorem btr_trans {a b : Nat → Int} {i j k : Nat} (h : btr a b i j) (g : btr a b j k) : btr a b i k := by
  unfold btr at h g ⊢
  by_cases h1 : a i < b i <;> by_cases h2 : a j < b j <;> by_cases h3 : a k < b k <;> simp only [h1, h2, h3, if_true, if_false] at h g ⊢ <;> omega
def insR (a b : Nat → Int) (x : Nat) : List Nat → List Nat
  | [] => [x]
  | y :: l => if btr a b y x then y :: insR a b x l else x :: y :: l
theorem insR_perm (a b : Nat → Int) (x : Nat) : ∀ l, (insR a b x l).Perm (x :: l) := by
  intro l
  induction l with
  | nil => exact .refl _
  | cons y l ih =>
    rw [insR]
    split
    · exact (ih.cons y).trans (.swap x y l)
    · exact .refl _
theorem insR_sorted {a b : Nat → Int} {x : Nat} : ∀ l : List Nat, x ∉ l → l.Pairwise (btr a b) → (insR a b x l).Pairwise (btr a b) := by
  intro l
  induction l with
  | nil => intro _ _; rw [insR]; exact List.pairwise_singleton _ _
  | cons y l ih =>
    intro hx hp
    rw [insR]
    obtain ⟨h1, h2⟩ := List.pairwise_cons.1 hp
    have hxy : x ≠ y ∧ x ∉ l := by simpa using hx
    split
    · rename_i hb
      refine List.pairwise_cons.2 ⟨fun z hz => ?_, ih hxy.2 h2⟩
      rcases List.mem_cons.1 ((insR_perm a b x l).mem_iff.1 hz) with rfl | hz
      · exact hb
      · exact h1 z hz
    · rename_i hb
      have hb2 := btr_total (a := a) (b := b) (i := y) (k := x) (fun e => hxy.1 e.symm) hb
      refine List.pairwise_cons.2 ⟨fun z hz => ?_, hp⟩
      rcases List.mem_cons.1 hz with rfl | hz
      · exact hb2
      · exact btr_trans hb2 (h1 z hz)
/-- the rule: one job after the other put in its place -/
def ruleT (a b : Nat → Int) : Nat → List Nat
  | 0 => []
  | n + 1 => insR a b n (ruleT a b n)
theorem ruleT_perm (a b : Nat → Int) : ∀ n, (ruleT a b n).Perm (List.range n) := by
  intro n
  induction n with
  | zero => exact .refl _
  | succ n ih =>
    rw [List.range_succ]
    exact (insR_perm a b n _).trans ((ih.cons n).trans (List.perm_append_singleton n _).symm)
theorem ruleT_sorted (a b : Nat → Int) : ∀ n, (ruleT a b n).Pairwise (btr a b) := by
  intro n
  induction n with
  | zero => exact List.Pairwise.nil
  | succ n ih => exact insR_sorted _ (fun hm => by have := (ruleT_perm a b n).mem_iff.1 hm; simp at this) ih
def LeastO (a b : Nat → Int) (n : Nat) (v : Int) : Prop := (∃ l : List Nat, l.Perm (List.range n) ∧ spanT a b l = v) ∧ ∀ l : List Nat, l.Perm (List.range n) → v ≤ spanT a b l
end Go.Proofs.YtjcbpnffmebihaaGreatDoor
