import Derived.Test.YtjcbpnffmebihaaGreatDoorA25
import Derived.Test.YtjcbpnffmebihaaGreatDoorA42
import Derived.Test.YtjcbpnffmebihaaGreatDoorTie
import Derived.ProofKit
import Derived.OpenShut
import Derived.LaidMore
import Derived.Lay
import Derived.Stop.LaidErr
import Derived.Stop.Joined
import Derived.Lib.LaidTab
import Derived.Shelf.Vars
import Derived.Test.YtjcbpnffmebihaaGreatDoorRows
import Derived.WalkKit
import Derived.LoopTactic
import Derived.Outline
import Derived.WalkSpells
import Derived.WalkLawsBesides
import Derived.Lib.Hide
import Derived.OpenVars
import Derived.SliceStrings
import Derived.Handed
import Derived.HandedShaped
set_option linter.unusedVariables false
set_option linter.unusedSimpArgs false
namespace Go.Proofs.YtjcbpnffmebihaaGreatDoor
open Go.ChangeShapes Go.WideShapes Go.RowKit

/-! From what the rows list to what the walks ask. -/
def listed : List (String × DataW Unit) := [("math/bits.deBruijn32tab", Rows.laid_math_bits_deBruijn32tab), ("math/bits.deBruijn64tab", Rows.laid_math_bits_deBruijn64tab), ("internal/strconv.uint64pow10", Rows.laid_internal_strconv_uint64pow10), ("unicode/utf8.acceptRanges", Rows.laid_unicode_utf8_acceptRanges), ("errors.errorType", Rows.laid_errors_errorType), ("strconv.ErrRange", Rows.laid_strconv_ErrRange), ("strconv.ErrSyntax", Rows.laid_strconv_ErrSyntax), ("loop.example/shopsthatmake/impl.errNoCommand", Rows.laid_loop_example_shopsthatmake_impl_errNoCommand), ("unicode/utf8.first", Rows.laid_unicode_utf8_first)]
def plainListed : List (String × DataW Unit) := [("math/bits.deBruijn32tab", Rows.laid_math_bits_deBruijn32tab), ("math/bits.deBruijn64tab", Rows.laid_math_bits_deBruijn64tab), ("internal/strconv.uint64pow10", Rows.laid_internal_strconv_uint64pow10), ("unicode/utf8.acceptRanges", Rows.laid_unicode_utf8_acceptRanges), ("strconv.ErrRange", Rows.laid_strconv_ErrRange), ("strconv.ErrSyntax", Rows.laid_strconv_ErrSyntax), ("loop.example/shopsthatmake/impl.errNoCommand", Rows.laid_loop_example_shopsthatmake_impl_errNoCommand), ("unicode/utf8.first", Rows.laid_unicode_utf8_first)]
theorem listed_plain : (listed.filter fun x => x.2.handleName?.isNone) = plainListed := rfl
theorem listed_handles : (listed.filter fun x => x.2.handleName?.isSome) = [("errors.errorType", Rows.laid_errors_errorType)] := rfl
theorem laid_parts {W : World} (h : laidMetH Tryz.prog listed W) : laidMet Tryz.prog plainListed W ∧ handlesMet Tryz.prog [("errors.errorType", Rows.laid_errors_errorType)] W := by
  unfold laidMetH at h
  rw [listed_handles, listed_plain] at h
  exact h
theorem et : Tryz.prog.globalNamed "errors.errorType" = some 1 := by kernel_rfl
theorem rtt : (Tryz.prog.cutTypes.find? (·.1 == "internal/reflectlite.rtype")).map (·.2) = some 110 := by kernel_rfl
theorem tySize : Tryz.prog.types.size = 273 := by kernel_rfl
theorem oneRow : ((List.range 273).filter fun t => Tryz.prog.rowNamed t [101, 114, 114, 111, 114]) = [52] := by kernel_rfl
theorem handle_of {W : World} (h : handlesMet Tryz.prog [("errors.errorType", Rows.laid_errors_errorType)] W) : W.cell? ⟨1, 0, none⟩ = some (.iface 110 (.agg #[hdl 52])) := by
  obtain ⟨name, u, ty, e1, e2, e3, e4, e5⟩ := h _ (List.mem_singleton.2 rfl)
  have en : name = [101, 114, 114, 111, 114] := (Option.some.inj e1).symm
  subst en
  obtain rfl := Option.some.inj (rtt.symm.trans e2)
  have hm : ty ∈ (List.range 273).filter fun t => Tryz.prog.rowNamed t [101, 114, 114, 111, 114] := List.mem_filter.2 ⟨List.mem_range.2 (by rw [← tySize]; exact e3), e4⟩
  rw [oneRow] at hm
  obtain rfl := List.mem_singleton.1 hm
  have hh : typeHandle Tryz.prog 52 = hdl 52 := by kernel_rfl
  rw [hh] at e5
  simpa using World.var?_cell et e5 0
theorem star : "*" ++ "errors.errorString" = "*errors.errorString" := by decide
theorem row238 (u : TypeId) (h : Tryz.prog.typeName? 3 u = some "*errors.errorString") : u = 238 :=
  typeName_ptr_named (nm := "errors.errorString") (by rw [star]; kernel_rfl) (by kernel_rfl) (by decide) u (by rw [star]; exact h)
theorem cells_es : Tryz.prog.cellsOf 240 = 1 := by kernel_rfl
theorem cells_str : Tryz.prog.cellsOf 9 = 1 := by kernel_rfl
theorem var_lt {W : World} {n : String} {g : Nat} {cs : Array Value} (hg : Tryz.prog.globalNamed n = some g) (h : W.var? Tryz.prog n = some cs) : g < W.heap.size := by
  unfold World.var? at h
  rw [hg] at h
  simp only [Option.bind_some] at h
  rcases Nat.lt_or_ge g W.heap.size with h' | h'
  · exact h'
  · rw [Array.getElem?_eq_none h'] at h; cases h
theorem pow_data : (Rows.laid_internal_strconv_uint64pow10 : DataW Unit) = Lib.tabData .u64 Lib.pow10Tab := by kernel_rfl
theorem env_of_laid {W : World} (h : laidMetH Tryz.prog listed W) (hsh : W.ShapedOpen Tryz.prog) : EnvD W ∧ 10 ≤ W.heap.size := by
  obtain ⟨hp, hh⟩ := laid_parts h
  have hp1 := hp.tail
  have hp2 := hp1.tail
  have hp3 := hp2.tail
  have hp4 := hp3.tail
  have hp5 := hp4.tail
  have hp6 := hp5.tail
  have hs : 9 < W.heap.size := by
    obtain ⟨ps, ⟨g, t, cs, fuel, p, q, hg, ht, hvar, _⟩, _⟩ := hp1
    obtain rfl := Option.some.inj ((show Tryz.prog.globalNamed "math/bits.deBruijn64tab" = some 9 by kernel_rfl).symm.trans hg)
    exact var_lt hg hvar
  refine ⟨⟨?_, handle_of hh, ?_, ?_, ?_, ?_⟩, hs⟩
  · obtain ⟨a, s, hv, _⟩ := laid_sentinel hp6 (g := 0) (ti := 52) (by kernel_rfl) (by kernel_rfl) Tryz.underlying52 row238 Tryz.underlying238 Tryz.underlying240 rfl rfl Tryz.underlying9 cells_es cells_str
    exact ⟨_, by simpa using World.var?_cell (show Tryz.prog.globalNamed "loop.example/shopsthatmake/impl.errNoCommand" = some 0 by kernel_rfl) hv 0⟩
  · exact cell_of_shapedOpen_int (zero := #[.int .i64 0]) (t := 3) hsh (of_decide_eq_true (by kernel_rfl)) (by kernel_rfl) rfl (by kernel_rfl) (by kernel_rfl) Tryz.underlying3
  · obtain ⟨a, s, hv, _⟩ := laid_sentinel hp5 (g := 5) (ti := 52) (by kernel_rfl) (by kernel_rfl) Tryz.underlying52 row238 Tryz.underlying238 Tryz.underlying240 rfl rfl Tryz.underlying9 cells_es cells_str
    exact ⟨_, _, by simpa using World.var?_cell (show Tryz.prog.globalNamed "strconv.ErrSyntax" = some 5 by kernel_rfl) hv 0⟩
  · obtain ⟨a, s, hv, _⟩ := laid_sentinel hp4 (g := 6) (ti := 52) (by kernel_rfl) (by kernel_rfl) Tryz.underlying52 row238 Tryz.underlying238 Tryz.underlying240 rfl rfl Tryz.underlying9 cells_es cells_str
    exact ⟨_, _, by simpa using World.var?_cell (show Tryz.prog.globalNamed "strconv.ErrRange" = some 6 by kernel_rfl) hv 0⟩
  · unfold plainListed at hp2
    rw [pow_data] at hp2
    exact Lib.tabIs_of_head (g := 7) (by kernel_rfl) (by kernel_rfl) Tryz.underlying231 Tryz.underlying216 (by kernel_rfl) (by kernel_rfl) hp2
end Go.Proofs.YtjcbpnffmebihaaGreatDoor
namespace Go.Proofs.YtjcbpnffmebihaaGreatDoor
open Go.RowKit Go.WideShapes

set_option maxRecDepth 100000 in
set_option maxHeartbeats 4000000 in
/-- numbers as they are written -/
theorem written_any (a : Option Addr) (len cap : Nat) (xs : List Int) (w : World) (hE : EnvD w) (h10 : 10 ≤ w.heap.size) (h : IntsAt w (· < w.heap.size) a len xs) (hx : ∀ x ∈ xs, -9223372036854775808 ≤ x ∧ x ≤ 9223372036854775807) (hl : len ≤ 1048576) :
    Calls Tryz.prog 85 #[.slice a len cap] w fun e w' => e = .returned (.string (listB xs)) ∧ Below w.heap.size w w' := by
  have HL := Lib.hid h.lenEq
  have HX := Lib.hid hx
  have HE := Lib.hid hE
  have H10 := Lib.hid h10
  have hmk := fun w => run_make_row' (P := Tryz.prog) 23 9 (.string ByteArray.empty) 16 Tryz.underlying23 Tryz.infoStr rfl .i64 .i64 len (by omega) (by omega) w
  have HO0 := Lib.hid (OwnS.start w len hl)
  have hz0 : ¬ (len : Int) < 0 := by omega
  clear hx hE h10
  go_enter Tryz.func85, Tryz.ntmps85
  go_wp2_with fail
  clear hmk
  go_loopw [11] (fun i wr => ∃ k : Nat, k ≤ len ∧ i = .int .i64 k ∧ OwnS w wr len (wroteB xs k len)) (fun i _ => len - (intOf i).toNat)
  case atStart => exact ⟨0, Nat.zero_le _, rfl, by rw [wrote_zero]; exact HO0.out⟩
  case round =>
    obtain ⟨k, hk, rfl, hO⟩ := hrel
    have HO := Lib.hid hO
    by_cases hlt : k < len
    · have hki : (k : Int) < (len : Int) := by omega
      obtain ⟨b, off, x, rfl, hxk, hc⟩ := (h.to (w' := wr) (S' := (· < w.heap.size)) fun b hb => ⟨hb, hO.below.block b hb⟩).get hlt
      have hxb := HX.out x (List.mem_of_getElem? hxk)
      have HC := Lib.hid (itoaD x wr (HE.out.below H10.out hO.below) hxb.1 hxb.2)
      have HP := Lib.hid (wrote_put (k := k) (len := len) hxk hlt)
      clear hO hxk hxb
      go_wp2_with fail
      refine HC.out.mono ?_
      rintro e w1 ⟨rfl, hb1⟩
      have hO1 := HO.out.up hb1
      have HO1 := Lib.hid hO1
      obtain ⟨q0, q1⟩ := hO1.cell (wrote_at hlt HL.out)
      clear hO1 hb1
      generalize numB x = X at *
      go_wp2_with fail
      go_roundw
      case rel => exact ⟨k + 1, by omega, by go_num, by rw [← HP.out]; exact HO1.out.put k X⟩
      case measure => simp [intOf] <;> omega
    · obtain rfl : k = len := by omega
      have hO2 := hO
      rw [wrote_all HL.out] at hO2
      have hll := HL.out
      have HBB := Lib.hid hO.below
      have HJ := Lib.hid (Tryz.strings_Join w.heap.size 0 k (xs.map numB) ⟨#[44]⟩ wr (fun j x hj => by rw [Nat.zero_add]; exact (hO2.cell hj).1) (hO2.own.lt _ rfl).2 (by rw [List.length_map]; omega) (by rw [List.length_map]; omega) (by
        have e := congrArg ByteArray.size (join_list xs)
        have z := listB_size HX.out
        simp only [ByteArray.size, List.size_toArray] at e z
        have : sgnB 44 = ⟨#[44]⟩ := rfl
        rw [this] at e
        omega))
      rw [List.length_map, hll, show (⟨#[44]⟩ : ByteArray) = sgnB 44 from rfl, join_list] at HJ
      clear hO hO2 hll
      go_wp2_with fail
      refine HJ.out.mono ?_
      rintro e w2 ⟨rfl, hb2⟩
      have HB2 := Lib.hid (HBB.out.trans (hb2.mono HBB.out.size))
      clear hb2
      go_wp2_with fail
      go_ret
      exact ⟨rfl, HB2.out⟩
end Go.Proofs.YtjcbpnffmebihaaGreatDoor
namespace Go.Proofs.YtjcbpnffmebihaaGreatDoor
open Go.ChangeShapes Go.WideShapes Go.ChangeAt Go.RowKit

/-! What both rows share: a start that meets the condition; the wrap; an argument that is a list of texts. -/
theorem own : ownKnob Tryz.prog.godebug = none := by kernel_rfl
theorem laidOut : laidOutB Tryz.prog = true := by kernel_rfl
/-- the settled world, the error type's handle laid -/
noncomputable def handleW (os : Os) : World :=
  let w0 := World.holding Tryz.prog os ⟨#[], #[], []⟩
  { w0 with heap := w0.heap.modify 1 fun
      | .cells _ t frozen => .cells #[.iface 110 (.agg #[hdl 52])] t frozen
      | o => o }
/-- .. and all other listed variables -/
noncomputable def witW (os : Os) : World := (handleW os).layVars Tryz.prog plainListed
theorem witW_os (os : Os) : (witW os).os = os := World.layVars_os _ _ _
theorem wit_plain (os : Os) (args : Array Value) : laidMet Tryz.prog plainListed ((witW os).forCall (fun _ _ => 0) ⟨#[], args, []⟩).memory := by
  have e1 : (plainListed.filter fun x => (plainListed.map (·.1)).contains x.1) = plainListed := List.filter_eq_self.2 fun x hx => List.contains_iff_mem.2 (List.mem_map.2 ⟨x, hx, rfl⟩)
  have e2 : (plainListed.filter fun x => !(plainListed.map (·.1)).contains x.1) = [] := List.filter_eq_nil_iff.2 fun x hx => by rw [List.contains_iff_mem.2 (List.mem_map.2 ⟨x, hx, rfl⟩)]; simp
  have h : laidMet Tryz.prog plainListed (witW os) := laidMet_layVars (w0 := handleW os) (plainListed.map (·.1)) [] (by rw [e1]; rfl) (by rw [e1]; kernel_rfl) (by rw [e1]; kernel_rfl) (by rw [e2]; exact LaidIn.none)
  exact h.of_heap (by simp [World.memory, World.forCall, Input.heap])
theorem wit_met (os : Os) (args : Array Value) : laidMetH Tryz.prog listed ((witW os).forCall (fun _ _ => 0) ⟨#[], args, []⟩).memory :=
  laidMetH_of_parts3 (fuel := 8) (by rw [listed_plain]; exact wit_plain os args) (by kernel_rfl) (by kernel_rfl)
/-- the wrap of a row that lists variables, the world's shape kept -/
theorem wrapped {H : Type} {enc : TypeId × Value → H} {a : Assume} {C : Checked} {os : Os} {f : FuncId} {fn : Func} {s : ChangeSpec} {apart fresh handsOn : Bool} {X : World → Array Value → Prop}
    (hX : ∀ (w w' : World) (args : Array Value), w.heap = w'.heap → X w args → X w' args)
    (hown : ownKnob C.prog.godebug = none) (started : os.Started) (noInit : C.prog.inits.idxOf? f = none) (hfn : C.prog.funcs[f]? = some fn)
    (witness : ∃ (w : World) (tape : Tape) (i : Input), w.os = os ∧ (w.forCall tape i).Shaped C.prog ∧ i.vars = [] ∧ Input.okWide C.prog (w.forCall tape i) .any w.heap.size f i ∧
      ((s.pre enc C.prog fn [] apart (w.forCall tape i).memory i.args ∧ X (w.forCall tape i).memory i.args) ∧ sizedMet enc C.prog fn (OpenSpec.ofChange s) apart (w.forCall tape i).memory i.args) ∧ a.holds C.prog (lone (Frame.enter C.prog f i.args .normal) [] (w.forCall tape i)))
    (contract : ∀ (W : World) (base : Nat) (args : Array Value) (ds gs : List (DataW H)) (before : List MemPlace),
      (∀ (j : Nat) t v, fn.params[j]? = some t → args[j]? = some v → Value.okWide C.prog W .any base t v) →
      DataW.Whole enc C.prog fn.params.toList s.vars apart W args.toList ds gs before → X W args → W.ShapedOpen C.prog →
      Calls C.prog f args W fun e W' => ∃ v, e = .returned v ∧ s.post enc C.prog fn apart fresh handsOn false W args v W') :
    ReturnsInHanded a C os f .any (fun w args => (s.pre enc C.prog fn [] apart w args ∧ X w args) ∧ sizedMet enc C.prog fn (OpenSpec.ofChange s) apart w args) (s.post enc C.prog fn apart fresh handsOn false) := by
  refine returnsInHanded_of_calls hown started noInit witness ?_
  intro w tape i _ hshape _ hok hpre _
  obtain ⟨_, _, _, fn2, hfn2, _, _, _, _, hval⟩ := hok
  obtain rfl : fn2 = fn := Option.some.inj (hfn2.symm.trans hfn)
  obtain ⟨⟨⟨ds, gs, before, hw, _⟩, hx⟩, _⟩ := hpre
  refine (contract (w.forCall tape i) w.heap.size i.args ds gs before hval (DataW.Whole.of_heap (w' := w.forCall tape i) (by rfl) hw) (hX _ _ _ (by rfl) hx) hshape).mono fun e W' ⟨v, he, hp⟩ => ?_
  subst he
  exact ChangeSpec.post_blind hp
section
variable {H : Type} {enc : TypeId × Value → H} {P : Program} {W : World}
theorem open_strs_arg {t e : TypeId} {a : Option Addr} {len cap : Nat} {d : DataW H} {p : List MemPlace} (ht : P.underlying t = some (.slice e)) (he : P.underlying e = some .string)
    (ce : P.cellsOf e = 1) (h : DataW.Trod enc P W 0 (fun _ => true) true t (.slice a len cap) d p) : ∃ ss, StrsAt W (· < W.heap.size) a len ss ∧ (∀ s ∈ ss, s.size ≤ 9223372036854775807) ∧ len ≤ 9223372036854775807 := by
  obtain ⟨fuel, hf⟩ := h
  rcases open_strings ht he ce hf with ⟨hcs, _⟩ | ⟨a, len', cap', ss, hcs, _, hl, hm, hz, _, hcell, hsz⟩
  · simp [Value.cells] at hcs
    obtain ⟨rfl, rfl, rfl⟩ := hcs
    exact ⟨[], ⟨rfl, Nat.zero_le _, fun h => absurd h (by omega)⟩, ⟨(fun s hs => by cases hs), Nat.zero_le _⟩⟩
  · simp [Value.cells] at hcs
    obtain ⟨rfl, rfl, rfl⟩ := hcs
    simp only [if_true] at hz
    have hm' : cap ≤ 9223372036854775807 := by unfold maxLen at hm; omega
    refine ⟨ss.take len, ⟨by simp; omega, by omega, fun h0 => ?_⟩, (fun s hs => by have := hsz s (List.mem_of_mem_take hs); unfold maxLen at this; exact this), by omega⟩
    obtain ⟨b, off, spot⟩ := a
    have hspot : spot = none := by simpa [Addr.add] using World.cell?_spot (hcell 0 (by omega))
    subst hspot
    have hb : ∀ c, c < cap → W.cell? ⟨b, off + c, none⟩ = some (.string (ss.getD c ByteArray.empty)) := fun c hc' => by rw [← add_plain]; exact hcell c (by omega)
    refine ⟨b, off, rfl, lt_of_cell (hb 0 (by omega)), fun i x hx => ?_⟩
    rw [List.getElem?_take] at hx
    split at hx
    · rw [hb i (by omega), List.getD_eq_getElem?_getD, hx]; rfl
    · cases hx
end
end Go.Proofs.YtjcbpnffmebihaaGreatDoor
namespace Go.Proofs.YtjcbpnffmebihaaGreatDoor
open Go.RowKit Go.WideShapes

theorem iface_ne (t : TypeId) (p : Value) (W : World) : (binOp .neq 52 (.iface t p) .nilIface).run Tryz.prog W = .ok (.bool true) W := by kernel_rfl
theorem nil_ne (W : World) : (binOp .neq 52 .nilIface .nilIface).run Tryz.prog W = .ok (.bool false) W := by kernel_rfl
/-- the numbers of texts, or an error of the desk's own -/
def NumsPost (w : World) (len : Nat) (ts : List ByteArray) (e : Ending) (w' : World) : Prop :=
  (ts.all numOk = true ∧ e = .returned (.tuple #[.slice (some ⟨w.heap.size, 0, none⟩) len len, .nilIface]) ∧ w'.ownsRow w.heap.size 3 1 (.slice (some ⟨w.heap.size, 0, none⟩) len len) len ((ts.map numV).map (.int .i64)) ∧ Below w.heap.size w w') ∨
  (ts.all numOk = false ∧ (∃ m, e = .returned (.tuple #[.slice none 0 0, .iface 56 (.agg #[.string m])])) ∧ Below w.heap.size w w')
theorem all_step {ts : List ByteArray} {k : Nat} {x : ByteArray} (hx : ts[k]? = some x) (h : (ts.take k).all numOk = true) : (ts.take (k + 1)).all numOk = numOk x := by
  rw [take_get hx, List.all_append, h]; simp
theorem all_bad {ts : List ByteArray} {k : Nat} {x : ByteArray} (hx : ts[k]? = some x) (h : numOk x = false) : ts.all numOk = false :=
  List.all_eq_false.2 ⟨x, List.mem_of_getElem? hx, by rw [h]; simp⟩
theorem vals_tab (ts : List ByteArray) : tab (fun q => numV (ts.getD q ByteArray.empty)) ts.length = ts.map numV := by
  apply List.ext_getElem?
  intro i
  by_cases hi : i < ts.length
  · rw [tab_at _ hi, List.getElem?_map, List.getD_eq_getElem?_getD, List.getElem?_eq_getElem hi]; rfl
  · rw [List.getElem?_eq_none (by rw [tab_length]; omega), List.getElem?_eq_none (by rw [List.length_map]; omega)]
theorem getD_at {ts : List ByteArray} {k : Nat} {x : ByteArray} (h : ts[k]? = some x) : ts.getD k ByteArray.empty = x := by rw [List.getD_eq_getElem?_getD, h]; rfl
set_option maxRecDepth 100000 in
set_option maxHeartbeats 4000000 in
/-- the numbers that are written in texts -/
theorem readNumbers_any (a : Option Addr) (len cap : Nat) (ts : List ByteArray) (w : World) (hE : EnvD w) (h10 : 10 ≤ w.heap.size) (h : StrsAt w (· < w.heap.size) a len ts) (hz : ∀ t ∈ ts, t.size ≤ 1048576) (hl : len ≤ 1048576) :
    Calls Tryz.prog 71 #[.slice a len cap] w (NumsPost w len ts) := by
  have HL := Lib.hid h.lenEq
  have HX := Lib.hid hz
  have HE := Lib.hid hE
  have H10 := Lib.hid h10
  have hmk := fun w => run_make_row' (P := Tryz.prog) 35 3 (.int .i64 0) 8 Tryz.underlying35 Tryz.infoIntPt rfl .i64 .i64 len (by omega) (by omega) w
  have HO0 := Lib.hid ((OwnF.start w len hl).congr (g := fun q => if q < 0 then numV (ts.getD q ByteArray.empty) else 0) (fun q _ => by simp))
  have n1 := iface_ne
  have n2 := nil_ne
  clear hz hE h10
  go_enter Tryz.func71, Tryz.ntmps71
  go_wp2_with fail
  clear hmk
  go_loopw [14] (fun i wr => ∃ k : Nat, k ≤ len ∧ i = .int .i64 k ∧ (ts.take k).all numOk = true ∧ OwnF w wr len (fun q => if q < k then numV (ts.getD q ByteArray.empty) else 0)) (fun i _ => len - (intOf i).toNat)
  case atStart => exact ⟨0, Nat.zero_le _, rfl, rfl, HO0.out⟩
  case round =>
    obtain ⟨k, hk, rfl, hall, hO⟩ := hrel
    have HO := Lib.hid hO
    have HA := Lib.hid hall
    by_cases hlt : k < len
    · have hki : (k : Int) < (len : Int) := by omega
      obtain ⟨b, off, x, rfl, hxk, hc⟩ := (h.to (w' := wr) (S' := (· < w.heap.size)) fun b hb => ⟨hb, hO.below.block b hb⟩).get hlt
      have hxz := HX.out x (List.mem_of_getElem? hxk)
      have hEr := HE.out.below H10.out hO.below
      have HXK := Lib.hid hxk
      have HC := Lib.hid (atoiD x wr hEr (by omega))
      have HER := Lib.hid hEr
      have HBB := Lib.hid hO.below
      have HSZ := Lib.hid hO.below.size
      clear hO hxk hall hEr
      go_wp2_with fail
      refine HC.out.mono ?_
      rintro e w1 ⟨⟨v, err, rfl, hcase⟩, hb1⟩
      have HO1 := Lib.hid (HO.out.up hb1)
      have HB1 := Lib.hid (HBB.out.trans (hb1.mono HSZ.out))
      have HE1 := Lib.hid (HER.out.below (Nat.le_trans H10.out HSZ.out) hb1)
      clear hb1
      rcases hcase with ⟨rfl, hok⟩ | ⟨⟨t, p, rfl⟩, hno⟩
      · have HV := Lib.hid hok
        have hvb := atoi_bd hok
        clear hok
        by_cases he : numB v = x
        · have HY := Lib.hid (num_yes HV.out he)
          have hee : ((numB v).toList == x.toList) = true := by rw [he]; exact beq_self_eq_true _
          clear he
          go_wp2_with fail
          refine (itoaD v w1 HE1.out hvb.1 hvb.2).mono ?_
          rintro e w2 ⟨rfl, hb2⟩
          have hO2 := HO1.out.up hb2
          obtain ⟨q0, q1⟩ := hO2.cell hlt
          have HO2 := Lib.hid hO2
          rw [if_neg (by omega)] at q0
          clear hO2 hb2
          generalize numB v = X at *
          go_wp2_with fail
          go_roundw
          case rel =>
            refine ⟨k + 1, by omega, by go_num, (all_step HXK.out HA.out).trans HY.out.1, (HO2.out.put k v).congr fun q _ => ?_⟩
            try dsimp only
            by_cases e1 : q = k
            · subst e1; rw [if_pos rfl, if_pos (by omega), getD_at HXK.out, HY.out.2]
            · rw [if_neg e1]
              by_cases e2 : q < k
              · rw [if_pos e2, if_pos (by omega)]
              · rw [if_neg e2, if_neg (by omega)]
          case measure => simp [intOf] <;> omega
        · have HN := Lib.hid (num_no HV.out he)
          have hee : ((numB v).toList == x.toList) = false := toList_ne he
          clear he
          go_wp2_with fail
          refine (itoaD v w1 HE1.out hvb.1 hvb.2).mono ?_
          rintro e w2 ⟨rfl, hb2⟩
          have HB2 := Lib.hid (HB1.out.trans (hb2.mono HB1.out.size))
          clear hb2
          generalize numB v = X at *
          go_wp2_with fail
          go_ret2
          exact .inr ⟨all_bad HXK.out HN.out, ⟨_, rfl⟩, HB2.out⟩
      · have HN := Lib.hid (num_bad hno)
        clear hno
        go_wp2_with fail
        go_ret2
        exact .inr ⟨all_bad HXK.out HN.out, ⟨_, rfl⟩, HB1.out⟩
    · obtain rfl : k = len := by omega
      have HEV := Lib.hid (show tab (fun q => if q < k then numV (ts.getD q ByteArray.empty) else 0) k = ts.map numV by
        rw [← vals_tab, HL.out]; exact tab_congr fun q hq => if_pos hq)
      have HAL := Lib.hid (show ts.all numOk = true by have := HA.out; rwa [List.take_of_length_le (by rw [HL.out]; omega)] at this)
      clear hO hall
      go_wp2_with fail
      go_ret2
      exact .inl ⟨HAL.out, rfl, by rw [← HEV.out]; exact HO.out.own, HO.out.below⟩
end Go.Proofs.YtjcbpnffmebihaaGreatDoor
namespace Go.Proofs.YtjcbpnffmebihaaGreatDoor
open Go.RowKit Go.WideShapes

def rowsOk (s : ByteArray) : Bool := (splitB s 47).all fun l => (splitB l 44).all numOk
def rowV (l : ByteArray) : List Int := (splitB l 44).map numV
def rowsV (s : ByteArray) : List (List Int) := (splitB s 47).map rowV
/-- the rows of a text, or an error of the desk's own -/
def RowsPost (w : World) (s : ByteArray) (e : Ending) (w' : World) : Prop :=
  (rowsOk s = true ∧ ∃ (a : Option Addr) (cap : Nat), e = .returned (.tuple #[.slice a (rowsV s).length cap, .nilIface]) ∧ (rowsV s).length ≤ cap ∧ Pats w' w.heap.size (.slice a (rowsV s).length cap) (rowsV s) ∧ Below w.heap.size w w') ∨
  (rowsOk s = false ∧ (∃ m, e = .returned (.tuple #[.slice none 0 0, .iface 56 (.agg #[.string m])])) ∧ Below w.heap.size w w')
theorem rowsV_len (s : ByteArray) : (rowsV s).length = (splitB s 47).length := List.length_map _
theorem rowsV_bd (s : ByteArray) : 1 ≤ (rowsV s).length ∧ (rowsV s).length ≤ s.size + 1 := by rw [rowsV_len]; exact splitB_pos s 47
set_option maxRecDepth 100000 in
set_option maxHeartbeats 4000000 in
/-- the rows that are written in a text -/
theorem readRows_impl (s : ByteArray) (w : World) (hE : EnvD w) (h10 : 10 ≤ w.heap.size) (hs : s.size ≤ 1048575) :
    Calls Tryz.prog 72 #[.string s] w (RowsPost w s) := by
  have hlen := splitB_pos s 47
  have HSZ := Lib.hid (splitB_size s 47)
  have n1 := iface_ne
  have n2 := nil_ne
  have HE := Lib.hid hE
  have H10 := Lib.hid h10
  clear hE h10
  go_enter Tryz.func72, Tryz.ntmps72
  go_wp2_with fail
  refine (strSplit s 47 w HE.out (by omega)).mono ?_
  rintro e w1 ⟨rfl, hst, hb1, hz1⟩
  have HB1 := Lib.hid hb1
  have HZ1 := Lib.hid hz1
  have HST := Lib.hid hst
  have HE1 := Lib.hid (HE.out.below H10.out hb1)
  have H101 := Lib.hid (show 10 ≤ w1.heap.size by have := H10.out; omega)
  have HP0 := Lib.hid (Pats.nil w1 w1.heap.size)
  obtain ⟨n, hn⟩ : ∃ n, n = (splitB s 47).length := ⟨_, rfl⟩
  have HN := Lib.hid hn
  rw [← hn]
  rw [← hn] at hlen
  clear hst hb1 hz1 hn
  go_wp2_with fail
  go_loopw [4, 12] (fun v i wr => ∃ (k cp : Nat) (ax : Option Addr), k ≤ n ∧ i = .int .i64 k ∧ v = .slice ax k cp ∧ k ≤ cp ∧ Pats wr w1.heap.size (.slice ax k cp) (((splitB s 47).take k).map rowV) ∧ (((splitB s 47).take k).all fun l => (splitB l 44).all numOk) = true ∧ Below w1.heap.size w1 wr) (fun _ i _ => n - (intOf i).toNat)
  case atStart => exact ⟨0, 0, none, Nat.zero_le _, rfl, rfl, Nat.le_refl _, HP0.out, rfl, Below.refl _ _⟩
  case round =>
    obtain ⟨k, cp, ax, hk, rfl, rfl, hkc, hpats, hall, hB⟩ := hrel
    obtain ⟨wo, rfl⟩ : ∃ wo : World, wo = wr := ⟨_, rfl⟩
    have HP := Lib.hid hpats
    have HA := Lib.hid hall
    have HB := Lib.hid hB
    have HSI := Lib.hid hB.size
    by_cases hlt : k < n
    · have hki : (k : Int) < (n : Int) := by omega
      obtain ⟨bl, ofl, l, e0, hlk, hcl⟩ := (HST.out.to (w' := wo) (S' := fun _ => True) fun b hb => ⟨trivial, hB.block b (by have := HZ1.out; omega)⟩).get (k := k) (by have := HN.out; omega)
      injection e0 with e0
      injection e0 with q1 q2
      subst q1 q2
      rw [Nat.zero_add] at hcl
      have hll : l.size ≤ 1048575 := Nat.le_trans (HSZ.out l (List.mem_of_getElem? hlk)) hs
      have HLK := Lib.hid hlk
      have hll2 := splitB_pos l 44
      have HLZ := Lib.hid (splitB_size l 44)
      have HEO := Lib.hid (HE1.out.below H101.out hB)
      have H10O := Lib.hid (Nat.le_trans H101.out hB.size)
      clear hpats hall hB hlk
      go_wp2_with fail
      refine (strSplit l 44 wo HEO.out (by omega)).mono ?_
      rintro e w2 ⟨rfl, hst2, hb2, hz2⟩
      have HB2 := Lib.hid hb2
      have HZ2 := Lib.hid hz2
      have HE2 := Lib.hid (HEO.out.below H10O.out hb2)
      have HST2 := Lib.hid (hst2.to (w' := w2) (S' := (· < w2.heap.size)) fun b hb => ⟨by rw [hb]; omega, rfl⟩)
      obtain ⟨m, hm⟩ : ∃ m, m = (splitB l 44).length := ⟨_, rfl⟩
      have HM := Lib.hid hm
      rw [← hm] at HST2 hll2 ⊢
      clear hst2 hb2 hz2 hm
      go_wp2_with fail
      refine (readNumbers_any _ m m (splitB l 44) w2 HE2.out (by have := H10O.out; have := HZ2.out; omega) HST2.out (fun t ht => by have := HLZ.out t ht; omega) (by omega)).mono ?_
      rintro e w3 (⟨hok, rfl, hrow, hb3⟩ | ⟨hbad, ⟨msg, rfl⟩, hb3⟩)
      · have HB3 := Lib.hid (HB2.out.trans (hb3.mono (by have := HZ2.out; omega)))
        have hrl : ((splitB l 44).map numV).length = m := by rw [List.length_map]; exact HM.out.symm
        have HRW := Lib.hid (show ((splitB s 47).take (k + 1)).map rowV = ((splitB s 47).take k).map rowV ++ [(splitB l 44).map numV] by rw [take_get HLK.out, List.map_append]; rfl)
        have HRA := Lib.hid (show (((splitB s 47).take (k + 1)).all fun l => (splitB l 44).all numOk) = true by rw [take_get HLK.out, List.all_append, HA.out]; simp [hok])
        have hrk : (((splitB s 47).take k).map rowV).length = k := by rw [List.length_map, List.length_take]; have := HN.out; omega
        have HHB := Lib.hid hb3
        clear hok hb3
        generalize (splitB l 44).map numV = r at *
        generalize hR : ((splitB s 47).take k).map rowV = R at *
        subst hrl
        have HP1 := Lib.hid (Pats.one (B := w2.heap.size) HHB.out.size hrow (by omega))
        have HKP := Lib.hid (show ∀ b, w1.heap.size ≤ b → b < wo.heap.size → (w3.alloc (.cells #[.slice (some ⟨w2.heap.size, 0, none⟩) r.length r.length] 35)).heap[b]? = wo.heap[b]? from fun b _ hb => by
          rw [Below.heap_alloc _ _ _ (by have := HB3.out.size; omega)]; exact HB3.out.block b hb)
        have HS1 := Lib.hid (show wo.heap.size ≤ (w3.alloc (.cells #[.slice (some ⟨w2.heap.size, 0, none⟩) r.length r.length] 35)).heap.size by have := HB3.out.size; simp; omega)
        clear hrow
        go_wp2_with (at_builtin; refine wpPats (w0 := wo) rfl _ _ rfl w1.heap.size w2.heap.size (.slice ax k cp) _ R [r] rfl rfl HP.out HKP.out HS1.out HP1.out (by have := HSI.out; have := HZ2.out; omega) (by have := HZ2.out; omega) (by have := HSI.out; have := HS1.out; omega) (by simp; omega) ?_)
        intro v8 w8 hp8 hgr8 _
        obtain ⟨a8, c8, ev8, hc8⟩ := hp8.slice
        have hl8 : (R ++ [r]).length = k + 1 := by rw [List.length_append, hrk]; rfl
        rw [hl8] at ev8 hc8
        subst ev8
        have HB8 := Lib.hid ((((HB.out.trans (HB3.out.mono HSI.out)).alloc (by have := HSI.out; have := HB3.out.size; omega) _).grown hgr8 (by have := HSI.out; have := HS1.out; omega) (pats_base HP.out)))
        have HP8 := Lib.hid (HRW.out.symm ▸ hp8)
        clear hp8 hgr8
        go_wp2
        go_roundw
        case rel => exact ⟨k + 1, c8, a8, by omega, by go_num, rfl, hc8, HP8.out, HRA.out, HB8.out⟩
        case measure => simp [intOf] <;> omega
      · have HNO := Lib.hid (show rowsOk s = false from List.all_eq_false.2 ⟨l, List.mem_of_getElem? HLK.out, by rw [hbad]; simp⟩)
        have HB3 := Lib.hid ((HB1.out.trans (HB.out.mono HB1.out.size)).trans ((HB2.out.trans (hb3.mono (by have := HZ2.out; omega))).mono (by have := HSI.out; have := HZ1.out; omega)))
        clear hbad hb3
        go_wp2_with fail
        go_ret2
        exact .inr ⟨HNO.out, ⟨msg, rfl⟩, HB3.out⟩
    · obtain rfl : k = n := by omega
      have HT := Lib.hid (show (splitB s 47).take k = splitB s 47 from List.take_of_length_le (by rw [HN.out]; omega))
      have HOK := Lib.hid (show rowsOk s = true by have := HA.out; rwa [HT.out] at this)
      have HPP := Lib.hid (show Pats wo w1.heap.size (.slice ax k cp) (rowsV s) by have := HP.out; rwa [HT.out] at this)
      have HKL := Lib.hid (show (rowsV s).length = k by rw [rowsV_len]; exact HN.out.symm)
      clear hpats hall hB
      go_wp2_with fail
      go_ret2
      refine .inl ⟨HOK.out, ax, cp, ?_, ?_, ?_, HB1.out.trans (HB.out.mono HB1.out.size)⟩
      · rw [HKL.out]; rfl
      · rw [HKL.out]; exact hkc
      · rw [HKL.out]; exact HPP.out.mono (by have := HZ1.out; omega)
end Go.Proofs.YtjcbpnffmebihaaGreatDoor
