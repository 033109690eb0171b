import Derived.WalkKit
import Derived.Lib.Hide
import Derived.Below
import Derived.Deep.Draws
import Derived.Test.YtjcbpnffmebihaaGreatDoorRows
import Derived.LaidEql
import Derived.Stop.Asserts
import Derived.RowKitTokens
import Derived.RangeFuncCalls
import Derived.RangeFuncWrites
import Derived.TacticsIn
import Derived.StillTail
import Derived.RangeFuncLeaves
import Derived.RangeFuncNested
set_option linter.unusedVariables false
set_option linter.unusedSimpArgs false
namespace Go.Proofs.YtjcbpnffmebihaaGreatDoor
open Go.RowKit

/-- the slice (a, len) of ints reads as xs, in a block of S -/
structure IntsAt (w : World) (S : Nat → Prop) (a : Option Addr) (len : Nat) (xs : List Int) : Prop where
  lenEq : xs.length = len
  small : len ≤ 9223372036854775807
  cells : 0 < len → ∃ b off, a = some ⟨b, off, none⟩ ∧ S b ∧ ∀ i x, xs[i]? = some x → w.cell? ⟨b, off + i, none⟩ = some (.int .i64 x)

theorem IntsAt.get {w : World} {S : Nat → Prop} {a : Option Addr} {len : Nat} {xs : List Int} (h : IntsAt w S a len xs) {k : Nat} (hk : k < len) :
    ∃ b off x, a = some ⟨b, off, none⟩ ∧ xs[k]? = some x ∧ w.cell? ⟨b, off + k, none⟩ = some (.int .i64 x) := by
  obtain ⟨b, off, ha, _, hc⟩ := h.cells (by omega)
  have hl := h.lenEq
  have hx : xs[k]? = some xs[k] := List.getElem?_eq_getElem (by omega)
  exact ⟨b, off, _, ha, hx, hc _ _ hx⟩

theorem take_get {α : Type} {xs : List α} {k : Nat} {x : α} (h : xs[k]? = some x) : xs.take (k + 1) = xs.take k ++ [x] := by
  rw [List.take_add_one, h]; rfl

theorem ret_bool {a b : Bool} (h : a = b) : Ending.returned (.bool a) = Ending.returned (.bool b) := by rw [h]
theorem ret_int {k : IntKind} {a b : Int} (h : a = b) : Ending.returned (.int k a) = Ending.returned (.int k b) := by rw [h]

/-- how each law ends -/
def LawPost (w : World) (e : Ending) (w' : World) : Prop := e = .returned (.bool true) ∧ Below w.heap.size w w'

def inB (lo hi : Int) (x : Int) : Bool := decide (lo ≤ x ∧ x ≤ hi)
def allIn (lo hi : Int) (xs : List Int) : Bool := xs.all (inB lo hi)
theorem inB_true {lo hi x : Int} (h1 : lo ≤ x) (h2 : x ≤ hi) : inB lo hi x = true := decide_eq_true ⟨h1, h2⟩
theorem inB_lo {lo hi x : Int} (h1 : x < lo) : inB lo hi x = false := decide_eq_false (by omega)
theorem inB_hi {lo hi x : Int} (h1 : hi < x) : inB lo hi x = false := decide_eq_false (by omega)
theorem allIn_snoc (lo hi : Int) (xs : List Int) (x : Int) : allIn lo hi (xs ++ [x]) = (allIn lo hi xs && inB lo hi x) := by
  simp [allIn]
theorem allIn_false {lo hi : Int} {xs : List Int} {k : Nat} {x : Int} (h : xs[k]? = some x) (hx : inB lo hi x = false) : allIn lo hi xs = false := by
  unfold allIn
  rw [List.all_eq_false]
  exact ⟨x, List.mem_of_getElem? h, by simp [hx]⟩

/-- the slice (a, len) of slices of ints reads as rows, in blocks of S -/
structure RowsAt (w : World) (S : Nat → Prop) (a : Option Addr) (len : Nat) (rows : List (List Int)) : Prop where
  lenEq : rows.length = len
  small : len ≤ 9223372036854775807
  cells : 0 < len → ∃ b off, a = some ⟨b, off, none⟩ ∧ S b ∧ ∀ i r, rows[i]? = some r → ∃ a' l c, w.cell? ⟨b, off + i, none⟩ = some (.slice a' l c) ∧ l ≤ c ∧ IntsAt w S a' l r

theorem RowsAt.get {w : World} {S : Nat → Prop} {a : Option Addr} {len : Nat} {rows : List (List Int)} (h : RowsAt w S a len rows) {k : Nat} (hk : k < len) :
    ∃ b off r a' l c, a = some ⟨b, off, none⟩ ∧ rows[k]? = some r ∧ w.cell? ⟨b, off + k, none⟩ = some (.slice a' l c) ∧ l ≤ c ∧ IntsAt w S a' l r := by
  obtain ⟨b, off, ha, _, hc⟩ := h.cells (by omega)
  have hl := h.lenEq
  have hx : rows[k]? = some rows[k] := List.getElem?_eq_getElem (by omega)
  obtain ⟨a', l, c, h1, h2, h3⟩ := hc _ _ hx
  exact ⟨b, off, _, a', l, c, ha, hx, h1, h2, h3⟩

theorem allIn_step {lo hi : Int} {xs : List Int} {x : Int} {k : Nat} (h : xs[k]? = some x) (ha : allIn lo hi (xs.take k) = true) (hr : inB lo hi x = true) : allIn lo hi (xs.take (k + 1)) = true := by
  rw [take_get h, allIn_snoc, ha, hr]; rfl
theorem IntsAt.to {w w' : World} {S S' : Nat → Prop} {a : Option Addr} {len : Nat} {xs : List Int} (h : IntsAt w S a len xs)
    (hg : ∀ b, S b → S' b ∧ w'.heap[b]? = w.heap[b]?) : IntsAt w' S' a len xs := by
  refine ⟨h.lenEq, h.small, fun hl => ?_⟩
  obtain ⟨b, off, ha, hs, hc⟩ := h.cells hl
  exact ⟨b, off, ha, (hg b hs).1, fun i x hx => by rw [World.cell?_of_block (w := w) (hg b hs).2]; exact hc i x hx⟩
theorem RowsAt.to {w w' : World} {S S' : Nat → Prop} {a : Option Addr} {len : Nat} {rows : List (List Int)} (h : RowsAt w S a len rows)
    (hg : ∀ b, S b → S' b ∧ w'.heap[b]? = w.heap[b]?) : RowsAt w' S' a len rows := by
  refine ⟨h.lenEq, h.small, fun hl => ?_⟩
  obtain ⟨b, off, ha, hs, hc⟩ := h.cells hl
  refine ⟨b, off, ha, (hg b hs).1, fun i r hr => ?_⟩
  obtain ⟨a', l, c, h1, h2, h3⟩ := hc i r hr
  exact ⟨a', l, c, by rw [World.cell?_of_block (w := w) (hg b hs).2]; exact h1, h2, h3.to hg⟩
theorem IntsAt.below {w w' : World} {n : Nat} {a : Option Addr} {len : Nat} {xs : List Int} (h : IntsAt w (· < n) a len xs) (hb : Below n w w') : IntsAt w' (· < n) a len xs :=
  h.to fun b hb' => ⟨hb', hb.block b hb'⟩
theorem RowsAt.below {w w' : World} {n : Nat} {a : Option Addr} {len : Nat} {rows : List (List Int)} (h : RowsAt w (· < n) a len rows) (hb : Below n w w') : RowsAt w' (· < n) a len rows :=
  h.to fun b hb' => ⟨hb', hb.block b hb'⟩
theorem IntsAt.lit {W : World} {cs : Array Value} {t : TypeId} {xs : List Int} {b len : Nat} (hcs : cs.toList = xs.map (.int .i64)) (hlen : xs.length = len) (hb : b = W.heap.size) (hs : len ≤ 9223372036854775807) :
    IntsAt (W.alloc (.cells cs t)) (fun k => k = b) (some ⟨b, 0, none⟩) len xs := by
  subst hb
  refine ⟨hlen, hs, fun _ => ⟨_, _, rfl, rfl, fun i x hx => ?_⟩⟩
  rw [Nat.zero_add, World.cell?_alloc_new, ← Array.getElem?_toList, hcs, List.getElem?_map, hx]; rfl
theorem RowsAt.mem {w : World} {S : Nat → Prop} {b off len : Nat} {rows : List (List Int)} (h : RowsAt w S (some ⟨b, off, none⟩) len rows) (h0 : 0 < len) : S b := by
  obtain ⟨b', off', e, hs, _⟩ := h.cells h0
  cases e
  exact hs
theorem IntsAt.mem {w : World} {S : Nat → Prop} {b off len : Nat} {xs : List Int} (h : IntsAt w S (some ⟨b, off, none⟩) len xs) (h0 : 0 < len) : S b := by
  obtain ⟨b', off', e, hs, _⟩ := h.cells h0
  cases e
  exact hs
theorem RowsAt.take {w : World} {S : Nat → Prop} {a : Option Addr} {len : Nat} {rows : List (List Int)} (h : RowsAt w S a len rows) (k : Nat) (hk : k ≤ len) : RowsAt w S a k (rows.take k) := by
  have hl := h.lenEq
  have hs := h.small
  refine ⟨by simp; omega, by omega, fun h0 => ?_⟩
  obtain ⟨b, off, ha, hs, hc⟩ := h.cells (by omega)
  refine ⟨b, off, ha, hs, fun i r hr => hc i r ?_⟩
  rw [List.getElem?_take] at hr
  split at hr
  · exact hr
  · cases hr
/-- nothing but draws -/
def Drew (w w' : World) : Prop := ∃ q, w' = w.drewN q
theorem Drew.refl (w : World) : Drew w w := ⟨0, rfl⟩
theorem Drew.drew {w wr : World} (h : Drew w wr) (q : Nat) : Drew w (wr.drewN q) := by
  obtain ⟨p, rfl⟩ := h
  exact ⟨p + q, World.drewN_drewN _ _ _⟩
theorem Drew.rows {w wr : World} {S : Nat → Prop} {a : Option Addr} {len : Nat} {rows : List (List Int)} (h : RowsAt w S a len rows) (d : Drew w wr) : RowsAt wr S a len rows := by
  obtain ⟨q, rfl⟩ := d
  exact h.to (fun b hb => ⟨hb, rfl⟩)
theorem Drew.ints {w wr : World} {S : Nat → Prop} {a : Option Addr} {len : Nat} {xs : List Int} (h : IntsAt w S a len xs) (d : Drew w wr) : IntsAt wr S a len xs := by
  obtain ⟨q, rfl⟩ := d
  exact h.to (fun b hb => ⟨hb, rfl⟩)
theorem Drew.below {w wr : World} (d : Drew w wr) (B : Nat) : Below B w wr := by
  obtain ⟨q, rfl⟩ := d
  exact ⟨rfl, rfl, rfl, Nat.le_refl _, fun _ _ => rfl⟩
theorem Drew.size {w wr : World} (d : Drew w wr) : wr.heap.size = w.heap.size := by
  obtain ⟨q, rfl⟩ := d
  rfl
end Go.Proofs.YtjcbpnffmebihaaGreatDoor
namespace Go.Proofs.YtjcbpnffmebihaaGreatDoor

/-! The desk, plain: numbers in decimal, lists with commas, a text cut at a sign, numbers read. -/
/-- a sign as a text -/
def sgnB (c : UInt8) : ByteArray := ⟨#[c]⟩
theorem sgnB_size (c : UInt8) : (sgnB c).size = 1 := rfl
/-- a digit -/
def digB (n : Nat) : ByteArray := sgnB (UInt8.ofNat (48 + n))
/-- a number from 0 on in decimal -/
def natB (n : Nat) : ByteArray := if n < 10 then digB n else natB (n / 10) ++ digB (n % 10)
termination_by n
decreasing_by omega
theorem natB_lt {n : Nat} (h : n < 10) : natB n = digB n := by rw [natB, if_pos h]
theorem natB_ge {n : Nat} (h : ¬ n < 10) : natB n = natB (n / 10) ++ natB (n % 10) := by
  rw [natB, if_neg h, natB_lt (n := n % 10) (by omega)]
theorem natB_size : ∀ (k n : Nat), n < 10 ^ (k + 1) → (natB n).size ≤ k + 1
  | 0, n, h => by rw [natB_lt (by omega)]; exact Nat.le_refl _
  | k + 1, n, h => by
    by_cases h1 : n < 10
    · rw [natB_lt h1]; show 1 ≤ _; omega
    · rw [natB_ge h1, ByteArray.size_append, natB_lt (n := n % 10) (by omega)]
      have := natB_size k (n / 10) (by rw [Nat.pow_succ] at h; omega)
      show _ + 1 ≤ _
      omega
theorem natB_pos (n : Nat) : 1 ≤ (natB n).size := by
  by_cases h1 : n < 10
  · rw [natB_lt h1]; exact Nat.le_refl _
  · rw [natB_ge h1, ByteArray.size_append, natB_lt (n := n % 10) (by omega)]; show 1 ≤ _ + 1; omega
/-- a number in decimal -/
def numB (n : Int) : ByteArray := if n < 0 then sgnB 45 ++ natB (-n).toNat else natB n.toNat
theorem numB_neg {n : Int} (h : n < 0) : numB n = sgnB 45 ++ numB (-n) := by
  rw [numB, if_pos h, numB, if_neg (by omega)]
theorem numB_nat (n : Nat) : numB n = natB n := by rw [numB, if_neg (by omega)]; simp
theorem numB_size {n : Int} (h1 : -9223372036854775808 ≤ n) (h2 : n ≤ 9223372036854775807) : (numB n).size ≤ 20 := by
  unfold numB
  split
  · rw [ByteArray.size_append, sgnB_size]
    have := natB_size 18 (-n).toNat (by omega)
    omega
  · have := natB_size 18 n.toNat (by omega)
    omega
theorem numB_pos (n : Int) : 1 ≤ (numB n).size := by
  unfold numB
  split
  · rw [ByteArray.size_append, sgnB_size]; omega
  · exact natB_pos _
/-- the numbers behind the first one, each behind a comma -/
def tailB : List Int → ByteArray
  | [] => ByteArray.empty
  | x :: xs => sgnB 44 ++ numB x ++ tailB xs
/-- numbers with a comma between two -/
def listB : List Int → ByteArray
  | [] => ByteArray.empty
  | x :: xs => numB x ++ tailB xs
theorem tailB_snoc (x : Int) : ∀ xs : List Int, tailB (xs ++ [x]) = tailB xs ++ sgnB 44 ++ numB x
  | [] => by simp [tailB, ByteArray.empty_append, ByteArray.append_empty]
  | y :: ys => by rw [List.cons_append, tailB, tailB, tailB_snoc x ys]; simp only [ByteArray.append_assoc]
theorem listB_one (x : Int) : listB [x] = numB x := by simp [listB, tailB, ByteArray.append_empty]
theorem listB_snoc (x : Int) (xs : List Int) (h : xs ≠ []) : listB (xs ++ [x]) = listB xs ++ sgnB 44 ++ numB x := by
  cases xs with
  | nil => exact absurd rfl h
  | cons y ys => rw [List.cons_append, listB, listB, tailB_snoc]; simp only [ByteArray.append_assoc]
theorem listB_size {xs : List Int} (h : ∀ x ∈ xs, -9223372036854775808 ≤ x ∧ x ≤ 9223372036854775807) : (listB xs).size ≤ 21 * xs.length := by
  have ht : ∀ ys : List Int, (∀ x ∈ ys, -9223372036854775808 ≤ x ∧ x ≤ 9223372036854775807) → (tailB ys).size ≤ 21 * ys.length := by
    intro ys
    induction ys with
    | nil => intro _; exact Nat.le_refl _
    | cons y ys ih =>
      intro hh
      have a := hh y (by simp)
      have b := ih fun x hx => hh x (by simp [hx])
      have c := numB_size a.1 a.2
      rw [tailB, ByteArray.size_append, ByteArray.size_append, sgnB_size, List.length_cons]
      omega
  cases xs with
  | nil => exact Nat.le_refl _
  | cons y ys =>
    have a := h y (by simp)
    have b := ht ys fun x hx => h x (by simp [hx])
    have c := numB_size a.1 a.2
    rw [listB, ByteArray.size_append, List.length_cons]
    omega
/-- the pieces of a text from the i-th sign on, a piece begun at the sign f -/
def pieces (s : ByteArray) (c : UInt8) (f i : Nat) : List ByteArray :=
  if h : i < s.size then (if s[i] = c then s.extract f i :: pieces s c (i + 1) (i + 1) else pieces s c f (i + 1)) else [s.extract f s.size]
termination_by s.size - i
def splitB (s : ByteArray) (c : UInt8) : List ByteArray := pieces s c 0 0
theorem pieces_end {s : ByteArray} {c : UInt8} {f i : Nat} (h : ¬ i < s.size) : pieces s c f i = [s.extract f s.size] := by rw [pieces, dif_neg h]
theorem pieces_hit {s : ByteArray} {c : UInt8} {f i : Nat} (h : i < s.size) (e : s[i] = c) : pieces s c f i = s.extract f i :: pieces s c (i + 1) (i + 1) := by rw [pieces, dif_pos h, if_pos e]
theorem pieces_miss {s : ByteArray} {c : UInt8} {f i : Nat} (h : i < s.size) (e : ¬ s[i] = c) : pieces s c f i = pieces s c f (i + 1) := by rw [pieces, dif_pos h, if_neg e]
theorem pieces_pos (s : ByteArray) (c : UInt8) : ∀ (n f i : Nat), s.size - i = n → 1 ≤ (pieces s c f i).length ∧ (pieces s c f i).length ≤ n + 1
  | 0, f, i, h => by rw [pieces_end (by omega)]; simp
  | n + 1, f, i, h => by
    by_cases e : s[i]'(by omega) = c
    · rw [pieces_hit (by omega) e]
      have := pieces_pos s c n (i + 1) (i + 1) (by omega)
      simp only [List.length_cons]; omega
    · rw [pieces_miss (by omega) e]
      have := pieces_pos s c n f (i + 1) (by omega)
      omega
theorem splitB_pos (s : ByteArray) (c : UInt8) : 1 ≤ (splitB s c).length ∧ (splitB s c).length ≤ s.size + 1 := pieces_pos s c s.size 0 0 (by omega)
theorem pieces_size (s : ByteArray) (c : UInt8) : ∀ (n f i : Nat), s.size - i = n → ∀ p ∈ pieces s c f i, p.size ≤ s.size
  | 0, f, i, h => by rw [pieces_end (by omega)]; intro p hp; simp only [List.mem_singleton] at hp; subst hp; rw [ByteArray.size_extract]; omega
  | n + 1, f, i, h => by
    by_cases e : s[i]'(by omega) = c
    · rw [pieces_hit (by omega) e]
      intro p hp
      rcases List.mem_cons.1 hp with rfl | hp
      · rw [ByteArray.size_extract]; omega
      · exact pieces_size s c n (i + 1) (i + 1) (by omega) p hp
    · rw [pieces_miss (by omega) e]
      exact pieces_size s c n f (i + 1) (by omega)
theorem splitB_size (s : ByteArray) (c : UInt8) : ∀ p ∈ splitB s c, p.size ≤ s.size := pieces_size s c s.size 0 0 (by omega)
/-- digits read from the i-th on, what was read before being n; -1 if one is none, or much is left -/
def readFrom (s : ByteArray) (i : Nat) (n : Int) : Int :=
  if h : i < s.size then (if (s[i].toNat : Int) < 48 ∨ 57 < (s[i].toNat : Int) ∨ 1000 < n then -1 else readFrom s (i + 1) (10 * n + ((s[i].toNat : Int) - 48))) else n
termination_by s.size - i
theorem readFrom_end {s : ByteArray} {i : Nat} {n : Int} (h : ¬ i < s.size) : readFrom s i n = n := by rw [readFrom, dif_neg h]
theorem readFrom_bad {s : ByteArray} {i : Nat} {n : Int} (h : i < s.size) (e : (s[i].toNat : Int) < 48 ∨ 57 < (s[i].toNat : Int) ∨ 1000 < n) : readFrom s i n = -1 := by rw [readFrom, dif_pos h, if_pos e]
theorem readFrom_go {s : ByteArray} {i : Nat} {n : Int} (h : i < s.size) (e : ¬ ((s[i].toNat : Int) < 48 ∨ 57 < (s[i].toNat : Int) ∨ 1000 < n)) : readFrom s i n = readFrom s (i + 1) (10 * n + ((s[i].toNat : Int) - 48)) := by rw [readFrom, dif_pos h, if_neg e]
theorem readFrom_bd (s : ByteArray) : ∀ (k i : Nat) (n : Int), s.size - i = k → 0 ≤ n → n ≤ 10009 → -1 ≤ readFrom s i n ∧ readFrom s i n ≤ 10009
  | 0, i, n, h, h0, h1 => by rw [readFrom_end (by omega)]; omega
  | k + 1, i, n, h, h0, h1 => by
    by_cases e : ((s[i]'(by omega)).toNat : Int) < 48 ∨ 57 < ((s[i]'(by omega)).toNat : Int) ∨ 1000 < n
    · rw [readFrom_bad (by omega) e]; omega
    · rw [readFrom_go (by omega) e]
      exact readFrom_bd s k (i + 1) _ (by omega) (by omega) (by omega)
/-- the number of a text, -1 if it is none -/
def readB (s : ByteArray) : Int := if readFrom s 0 0 = -1 then -1 else if s = ByteArray.empty then -1 else if numB (readFrom s 0 0) = s then readFrom s 0 0 else -1
theorem readB_bd (s : ByteArray) : -1 ≤ readB s ∧ readB s ≤ 10009 := by
  have := readFrom_bd s s.size 0 0 (by omega) (by omega) (by omega)
  unfold readB
  split
  · omega
  · split
    · omega
    · split <;> omega
/-- the rows of a text -/
def rowsB (s : ByteArray) : List (List Int) := (splitB s 47).map fun l => (splitB l 44).map readB
end Go.Proofs.YtjcbpnffmebihaaGreatDoor
namespace Go.Proofs.YtjcbpnffmebihaaGreatDoor
open Go.RowKit Go.Extern.Stop Go.Stop Go.Extern

/-! errors.As at a target of the desk's own error type. -/
theorem as_nil (t : Value) (w : World) :
    Calls Tryz.prog 30 #[.nilIface, t] w fun e w' => e = .returned (.bool false) ∧ w' = w := by
  go_enter Tryz.func30, Tryz.ntmps30
  go_wp2
  go_ret
  exact ⟨rfl, rfl⟩
/-- a type's handle -/
def hdl (t : Nat) : Value := .pointer (some ⟨10, t, none⟩)
theorem valueOfP (t : Addr) (w : World) : (ReflectliteValue.unpack (.iface 58 (.pointer (some t)))).run Tryz.prog w
    = .ok (.agg #[hdl 58, .pointer (some ⟨w.heap.size, 0, none⟩), .int .u64 150]) (w.alloc (.cells #[.pointer (some t)] 58)) := by kernel_rfl
theorem typeP (a : Addr) (w : World) : (ReflectliteValue.methodAny (ReflectliteValue.valueError "reflectlite.Value.Type" 0) (fun t _ _ _ => ReflectliteType.toType t) #[.agg #[hdl 58, .pointer (some a), .int .u64 150]]).run Tryz.prog w
    = .ok (.iface 110 (.agg #[hdl 58])) w := by kernel_rfl
theorem methodKind (h : Value) (w : World) : (Go.method 373 110 (.agg #[h]) "Kind").run Tryz.prog w = .ok (214, h) w := by kernel_rfl
theorem kindP (w : World) : ((ReflectliteType.abiMethod fun t => (fun a : Nat => Value.int IntKind.u8 (a : Int)) <$> Rtype.kind t) #[hdl 58]).run Tryz.prog w = .ok (.int .u8 22) w := by kernel_rfl
theorem kindE (w : World) : ((ReflectliteType.abiMethod fun t => (fun a : Nat => Value.int IntKind.u8 (a : Int)) <$> Rtype.kind t) #[hdl 56]).run Tryz.prog w = .ok (.int .u8 25) w := by kernel_rfl
theorem rlm (z : Sem Value) (f : TypeId → Addr → Nat → Nat → Sem Value) (v : Value) :
    ReflectliteValue.method z f #[v] = (do match ← ReflectliteValue.parts v with | none => z | some (t, a, fl) => f t a fl (fl % 32)) := rfl
theorem partsP (a : Addr) (w : World) : (ReflectliteValue.parts (.agg #[hdl 58, .pointer (some a), .int .u64 150])).run Tryz.prog w = .ok (some (58, a, 150)) w := by kernel_rfl
theorem isNilP (a p : Addr) (W : World) (ha : W.cell? a = some (.pointer (some p))) :
    (ReflectliteValue.method (ReflectliteValue.valueError "reflectlite.Value.IsNil" 0) ReflectliteValue.isNil #[.agg #[hdl 58, .pointer (some a), .int .u64 150]]).run Tryz.prog W = .ok (.bool false) W := by
  rw [rlm]
  simp only [Sem.run_bind, partsP, Result.andThen]
  simp [ReflectliteValue.isNil, loadVar, isAgg, underlying, Tryz.underlying58, ha, Result.andThen]
theorem methodElem (h : Value) (w : World) : (Go.method 373 110 (.agg #[h]) "Elem").run Tryz.prog w = .ok (224, .agg #[h]) w := by kernel_rfl
theorem methodImplements (h : Value) (w : World) : (Go.method 373 110 (.agg #[h]) "Implements").run Tryz.prog w = .ok (225, .agg #[h]) w := by kernel_rfl
theorem methodAssignableTo (h : Value) (w : World) : (Go.method 373 110 (.agg #[h]) "AssignableTo").run Tryz.prog w = .ok (222, .agg #[h]) w := by kernel_rfl
theorem elemP (w : World) : (ReflectliteType.method ReflectliteType.elem #[.agg #[hdl 58]]).run Tryz.prog w = .ok (.iface 110 (.agg #[hdl 56])) w := by kernel_rfl
theorem implementsE (w : World) : (ReflectliteType.relation "Implements" ReflectliteType.implements_ #[.agg #[hdl 56], .iface 110 (.agg #[hdl 52])]).run Tryz.prog w = .ok (.bool true) w := by kernel_rfl
theorem typeOfE (v : Value) (w : World) : (ReflectliteType.typeOf #[.iface 56 v]).run Tryz.prog w = .ok (.iface 110 (.agg #[hdl 56])) w := by kernel_rfl
theorem typeOfS (v : Value) (w : World) : (ReflectliteType.typeOf #[.iface 238 v]).run Tryz.prog w = .ok (.iface 110 (.agg #[hdl 238])) w := by kernel_rfl
theorem assignableE (w : World) : (ReflectliteType.relation "AssignableTo" ReflectliteType.assignableTo #[.agg #[hdl 56], .iface 110 (.agg #[hdl 56])]).run Tryz.prog w = .ok (.bool true) w := by kernel_rfl
theorem assignableS (w : World) : (ReflectliteType.relation "AssignableTo" ReflectliteType.assignableTo #[.agg #[hdl 238], .iface 110 (.agg #[hdl 56])]).run Tryz.prog w = .ok (.bool false) w := by kernel_rfl
theorem valueOfE (m : ByteArray) (w : World) : (ReflectliteValue.unpack (.iface 56 (.agg #[.string m]))).run Tryz.prog w
    = .ok (.agg #[hdl 56, .pointer (some ⟨w.heap.size, 0, none⟩), .int .u64 153]) (w.alloc (.cells #[.string m] 56)) := by kernel_rfl
theorem elemOfP (w : World) : (Rtype.elem? 58).run Tryz.prog w = .ok (some 56) w := by kernel_rfl
theorem mkE (p : Addr) (w : World) : (ReflectliteValue.mk 56 p ReflectliteValue.flagAddr).run Tryz.prog w = .ok (.agg #[hdl 56, .pointer (some p), .int .u64 409]) w := by kernel_rfl
theorem elemVP (a p : Addr) (W : World) (ha : W.cell? a = some (.pointer (some p))) :
    (ReflectliteValue.method (ReflectliteValue.valueError "reflectlite.Value.Elem" 0) ReflectliteValue.elem #[.agg #[hdl 58, .pointer (some a), .int .u64 150]]).run Tryz.prog W
      = .ok (.agg #[hdl 56, .pointer (some p), .int .u64 409]) W := by
  rw [rlm]
  simp only [Sem.run_bind, partsP, Result.andThen]
  simp [ReflectliteValue.elem, loadVar, isAgg, underlying, Tryz.underlying58, ha, Result.andThen, elemOfP, mkE]
theorem rls (v x : Value) : ReflectliteValue.set #[v, x] = (do
    let (some (dst, a, fl), some (src, b, _)) := (← ReflectliteValue.parts v, ← ReflectliteValue.parts x)
      | unsupported (.noEntry "extern/(internal/reflectlite.Value).Set.zeroValue")
    if fl / ReflectliteValue.flagAddr % 2 == 0 then unsupported (.noEntry "extern/(internal/reflectlite.Value).Set.unaddressable")
    let val ← loadVar src b
    if ← Rtype.directlyAssignable dst src then storeVar dst a val
    else if ← Rtype.implements dst src then
      if (← Rtype.kind src) == 20 then
        match val with
        | .nilIface => unsupported (.noEntry "extern/reflectlite: a nil value of one interface type handed on as a value of another")
        | _ => storeVar dst a val
      else storeVar dst a (.iface src val)
    else panicString ("reflectlite.Set: value of type " ++ (← Rtype.spelt src) ++ " is not assignable to type " ++ (← Rtype.spelt dst))
    pure (.tuple #[])) := rfl
theorem partsEa (a : Addr) (w : World) : (ReflectliteValue.parts (.agg #[hdl 56, .pointer (some a), .int .u64 409])).run Tryz.prog w = .ok (some (56, a, 409)) w := by kernel_rfl
theorem partsE (a : Addr) (w : World) : (ReflectliteValue.parts (.agg #[hdl 56, .pointer (some a), .int .u64 153])).run Tryz.prog w = .ok (some (56, a, 153)) w := by kernel_rfl
theorem directE (w : World) : (Rtype.directlyAssignable 56 56).run Tryz.prog w = .ok true w := by kernel_rfl
theorem sizeE (w : World) : (sizeOf 56).run Tryz.prog w = .ok 1 w := by kernel_rfl
theorem setE (ta b : Addr) (m : ByteArray) (old : Value) (W : World) (hb : W.cell? b = some (.string m)) (ht : W.cell? ta = some old) (hf : W.frozen? ta = false) :
    (ReflectliteValue.set #[.agg #[hdl 56, .pointer (some ta), .int .u64 409], .agg #[hdl 56, .pointer (some b), .int .u64 153]]).run Tryz.prog W
      = .ok (.tuple #[]) (W.setCell ta (.string m)) := by
  have hl : (loadCells b 1).run Tryz.prog W = .ok #[.string m] W := by
    simp [loadCells, loadCellsFrom, go_sem, Addr.add, hb]
  have hst : (store ta (.string m)).run Tryz.prog W = .ok () (W.setCell ta (.string m)) := by
    rw [run_store Tryz.prog W ta _ _ (by rfl)]; simp [ht, hf]
  rw [rls]
  simp only [Sem.run_bind, partsEa, partsE, Result.andThen]
  simp [ReflectliteValue.flagAddr, loadVar, isAgg, underlying, Tryz.underlying56, hl, Result.andThen, directE, storeVar, Value.cells, storeCells, Addr.add, hst]
end Go.Proofs.YtjcbpnffmebihaaGreatDoor
namespace Go.Proofs.YtjcbpnffmebihaaGreatDoor

/-- Pascal's triangle up to 12, ten bits a number -/
def pasT : Nat := 54385061065684800540011163633074225266529689054062350113096803723279458193811827842204926003977343309459177112652888669744470748115619296461917853970249117576653513846418436790461392887768700952485466176952685347854922204958842601551461357000522739273210641263130788881835566643715928825264181515877615878201727098649938612295921831467937628080429425022212340976598681061771703336248555950105563781297952392327987407334892147973078235041655175546388897522636949859416138614742195963638451675281028127129601
/-- in how many ways k of n are chosen, for n and k up to 12 -/
def ch (n k : Nat) : Nat := (pasT / 1024 ^ (13 * n + k)) % 1024
set_option maxRecDepth 100000
end Go.Proofs.YtjcbpnffmebihaaGreatDoor
namespace Go.Proofs.YtjcbpnffmebihaaGreatDoor
open Go.RowKit

/-- one operation in a round of a wide fence: as everywhere, where it is no defer statement -/
theorem oper_round {P : Program} {o : Oper} {a : Act} {w : World} {next next' : Act → World → Prop} {Q : Exit → Act → World → Prop} (r n : Nat) (hnd : ∀ c, o.op ≠ .defer c)
    (h : Oper.wp P o a w next Q) (hn : ∀ a w, next a w → next' a w) : o.wpIn (Fence.wide.inRound r) n P a w next' Q := by
  refine ⟨fun _ _ => trivial, ?_⟩
  rw [Fence.inRound_round, Oper.semAt_some r a.eval o hnd]
  unfold Oper.wp at h
  cases hx : (execOp a.eval o).run P w with
  | halt x w' =>
    rw [hx] at h
    cases x <;> first | exact h | exact h.elim
  | ok x w' =>
    rw [hx] at h
    cases x with
    | value v => exact hn _ _ h
    | skip => exact hn _ _ h
    | defer d => exact hn _ _ h
    | enter f args =>
      refine ⟨fun e => (by cases e), CallsIn.inRound r (callsIn_wide.2 (Calls.mono h ?_))⟩
      intro e w'' he
      cases e with
      | returned v => exact hn _ _ he
      | panicked c => exact he
      | outgrown => exact he
    | row row args =>
      refine ⟨fun e => (by cases e), ?_⟩
      have h' : RowsIn Fence.wide (n - 1) P row args w' (fun v w'' => next' (a.put o.dst v) w'') := fun c cs _ => by
        obtain ⟨v, w'', hr, hs⟩ := h c cs
        exact ⟨v, w'', hn _ _ hr, stepsIn_wide.2 hs⟩
      exact h'
    | _ => exact h.elim
/-- no operation is a defer statement -/
def noDefer (ops : Array Oper) : Bool := ops.all fun o => match o.op with | .defer _ => false | _ => true
theorem noDefer_spec {ops : Array Oper} (h : noDefer ops = true) {i : Nat} {o : Oper} (ho : ops[i]? = some o) : ∀ c, o.op ≠ .defer c := by
  intro c e
  obtain ⟨hi, rfl⟩ := Array.getElem?_eq_some_iff.1 ho
  have := (Array.all_eq_true.1 h) i hi
  rw [e] at this
  cases this

theorem ops_round {P : Program} {ops : Array Oper} {Q : Exit → Act → World → Prop} (r n : Nat) (hnd : noDefer ops = true) (hQ : ∀ a w, ¬ Q .outgrown a w) :
    ∀ (l : List Nat) (a : Act) (w : World), wpOps P ops Q l a w → wpOpsIn (Fence.wide.inRound r) n P ops Q l a w := by
  intro l
  induction l with
  | nil => exact fun _ _ h => h
  | cons i rest ih =>
    intro a w h
    simp only [wpOps] at h
    simp only [wpOpsIn]
    cases ho : ops[i]? with
    | none => rw [ho] at h; exact ih _ _ h
    | some o =>
      rw [ho] at h
      dsimp only at h ⊢
      by_cases hw : Region.wanted o (yielded ops a.tmps) = true
      · rw [if_pos hw] at h ⊢
        rcases h with h | ⟨_, a0, w0, hq⟩
        · exact oper_round r n (noDefer_spec hnd ho) h ih
        · exact (hQ a0 w0 hq).elim
      · rw [if_neg hw] at h ⊢
        exact ⟨fun _ _ => trivial, ih _ _ h⟩

theorem region_round_any {P : Program} {ops : Array Oper} {Q : Exit → Act → World → Prop} {id : Nat} {a : Act} {w : World} (r n : Nat) (hnd : noDefer ops = true) (hQ : ∀ a w, ¬ Q .outgrown a w) (hm : P.follows .mixedOrders = true)
    (h : wpAny P .any ops Q ops.size (Array.replicate ops.size false) a { w with drawn := w.drawn + 1 }) : (Code.region id ops true).wpIn (Fence.wide.inRound r) n P Q a w :=
  wpIn_region_draw fun t => by
    simp only [Region.schedule, hm, Bool.true_or, if_true]
    exact ops_round r n hnd hQ _ _ _ (wpAny_sound ops.size t _ a _ h)

/-- a region of a round that only reads ahead of its last operations, walked in the order of the text -/
theorem region_round_tail {P : Program} {id : Nat} {Q : Exit → Act → World → Prop} {a : Act} {w : World} {l : List Oper} (r n k : Nat) (hnd : noDefer l.toArray = true) (hQ : ∀ a w, ¬ Q .outgrown a w) (hm : P.follows .mixedOrders = true)
    (hB : Region.lexTailB .any l.toArray k = true)
    (h : wpStill P l.toArray { w with drawn := w.drawn + 1 } (fun a' => wpList P l.toArray Q (l.drop k) a' { w with drawn := w.drawn + 1 }) (l.take k) a) : (Code.region id l.toArray true).wpIn (Fence.wide.inRound r) n P Q a w := by
  simp only [Region.lexTailB, Bool.and_eq_true, decide_eq_true_eq] at hB
  obtain ⟨⟨⟨⟨hsel, hn⟩, hs⟩, hc⟩, hlex⟩ := hB
  have hn' : k < l.length := by simpa using hn
  have htl : (l.take k).length = k := by simp; omega
  have hdl : (l.drop k).length = l.toArray.size - k := by simp
  have inv0 : HeadInv .any l.toArray k (Array.replicate l.toArray.size false) :=
    ⟨by simp, fun j oj _ hl => (by rw [getD_replicate_false] at hl; cases hl), fun t _ ht => getD_in (by simpa using ht) (getD_replicate_false _ _)⟩
  have H := wpAnyL_lex (md := .any) (g := l.toArray.size - k) hsel hs hc hn (l.take k) 0 _ a (fun j hj => by
    have hj' : j < k := by rw [htl] at hj; exact hj
    simp [hj']) (by simpa using htl) inv0 (by rw [htl]; exact hlex) h
  refine region_round_any r n hnd hQ hm ?_
  have := wpAny_of_head (Q' := Q) (g := l.toArray.size - k) (fun listed a' hL => by
    have := wpAny_of_seq (md := .any) (Q' := Q) (l.drop k) k listed a' { w with drawn := w.drawn + 1 } (fun j => by simp [List.getElem?_drop]) (by rw [hdl]; exact hL.1) hL.2
    rwa [hdl] at this) _ _ _ H
  rw [htl, show k + (l.toArray.size - k) = l.toArray.size by omega] at this
  exact this
/-! ### several ranges over functions in one call: one mark each -/
def collected (D : Nat) : Deferred := { target := .collected D, args := #[] }
/-- the blocks of the marks, from B on, no two the same -/
def Marks (w : World) (B : Nat) : List Nat → Prop
  | [] => True
  | D :: Ds => (w.heap[D]? = some (.deferred (some [])) ∧ B ≤ D ∧ ∀ x ∈ Ds, x ≠ D) ∧ Marks w B Ds
theorem Marks.kept {w w' : World} {B : Nat} : ∀ {Ds : List Nat}, Marks w B Ds → (∀ D ∈ Ds, w.heap[D]? = some (.deferred (some [])) → w'.heap[D]? = some (.deferred (some []))) → Marks w' B Ds := by
  intro Ds
  induction Ds with
  | nil => exact fun _ _ => trivial
  | cons D Ds ih => exact fun h g => ⟨⟨g D List.mem_cons_self h.1.1, h.1.2⟩, ih h.2 (fun x hx => g x (List.mem_cons_of_mem _ hx))⟩
theorem Marks.get {w : World} {B D : Nat} : ∀ {Ds : List Nat}, Marks w B Ds → D ∈ Ds → w.heap[D]? = some (.deferred (some [])) ∧ B ≤ D := by
  intro Ds
  induction Ds with
  | nil => intro _ h; cases h
  | cons x Ds ih =>
    intro h hm
    rcases List.mem_cons.1 hm with rfl | hm
    · exact ⟨h.1.1, h.1.2.1⟩
    · exact ih h.2 hm
theorem Marks.lt {w : World} {B D : Nat} {Ds : List Nat} (h : Marks w B Ds) (hm : D ∈ Ds) : D < w.heap.size := by
  have h1 := (h.get hm).1
  rcases Nat.lt_or_ge D w.heap.size with h' | h'
  · exact h'
  · rw [Array.getElem?_eq_none h'] at h1; cases h1
theorem Marks.alloc {w : World} {B : Nat} {Ds : List Nat} (h : Marks w B Ds) (o : Obj) : Marks (w.alloc o) B Ds :=
  h.kept (fun D hD hx => by rw [Below.heap_alloc _ _ _ (h.lt hD)]; exact hx)
theorem Marks.setCell {w : World} {B : Nat} {Ds : List Nat} (h : Marks w B Ds) {p : Addr} {v u : Value} (hp : w.cell? p = some v) : Marks (w.setCell p u) B Ds :=
  h.kept (fun D _ hx => by
    rw [Below.heap_setCell _ _ _ _ (fun e => by subst e; simp [World.cell?, hx] at hp)]
    exact hx)
/-- cells read as they did, and what lay below B lies as it lay -/
structure SameCells (B : Nat) (w w' : World) : Prop where
  cell : ∀ p, w'.cell? p = w.cell? p
  frozen : ∀ p, w'.frozen? p = w.frozen? p
  below : Below B w w'
theorem SameCells.refl (B : Nat) (w : World) : SameCells B w w := ⟨fun _ => rfl, fun _ => rfl, Below.refl _ _⟩
theorem SameCells.trans {B : Nat} {a b c : World} (h : SameCells B a b) (g : SameCells B b c) : SameCells B a c :=
  ⟨fun p => (g.cell p).trans (h.cell p), fun p => (g.frozen p).trans (h.frozen p), h.below.trans g.below⟩
theorem sameCells_put {B D : Nat} {w : World} (h : w.heap[D]? = some (.deferred (some []))) (hB : B ≤ D) : SameCells B w (w.putObj D (.deferred none)) := by
  have hd : D < w.heap.size := by
    rcases Nat.lt_or_ge D w.heap.size with h' | h'
    · exact h'
    · rw [Array.getElem?_eq_none h'] at h; cases h
  have hs : (w.putObj D (.deferred none)).heap[D]? = some (.deferred none) := by simp [World.putObj, hd]
  have hb : Below B w (w.putObj D (.deferred none)) := ⟨rfl, rfl, rfl, by simp, fun k hk => World.putObj_heap_other (by omega)⟩
  refine ⟨fun p => ?_, fun p => ?_, hb⟩
  · by_cases e : p.block = D
    · simp only [World.cell?, e, hs, h]
    · exact World.cell?_of_block (w := w) (World.putObj_heap_other e)
  · by_cases e : p.block = D
    · simp only [World.frozen?, e, hs, h]
    · exact World.frozen?_of_block (w := w) (World.putObj_heap_other e)

theorem leaves_marks {F : Fence} {n B : Nat} {P : Program} {fn : Func} {tmps : Array Value} {R : Ending → World → Prop} {v : Value} (hres : ∀ w, (results fn tmps).run P w = .ok v w) : ∀ (Ds : List Nat) (w : World), Marks w B Ds →
    (∀ w', SameCells B w w' → R (.returned v) w') → LeavesInM F n P fn tmps R (Ds.map collected) .returning w := by
  intro Ds
  induction Ds with
  | nil => exact fun w _ h => ⟨v, hres w, h w (SameCells.refl _ _)⟩
  | cons D Ds ih =>
    intro w hm h
    have hput := sameCells_put hm.1.1 hm.1.2.1
    refine ⟨by simp, Or.inl ⟨D, _, rfl, run_takeDeferred hm.1.1, ih _ (hm.2.kept (fun x hx hx' => ?_)) (fun w' hw' => h w' (hput.trans hw'))⟩⟩
    rw [World.putObj_heap_other (hm.1.2.2 x hx)]
    exact hx'
end Go.Proofs.YtjcbpnffmebihaaGreatDoor
