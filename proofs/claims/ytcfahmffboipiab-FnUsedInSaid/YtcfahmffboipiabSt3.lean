import Derived.Test.YtcfahmffboipiabRows
import Derived.WalkKit
import Derived.Test.YtcfahmffboipiabLib
import Derived.Test.YtcfahmffboipiabEx
namespace Go.Proofs.Ytcfahmffboipiab
open Go.RowKit Go.WideShapes

/-- rows and two lists, that lie on -/
structure St3 (w wr : World) (ab : Option Addr) (lb : Nat) (rows : List (List Int)) (av : Option Addr) (lv : Nat) (xs : List Int) (ag : Option Addr) (lg : Nat) (ys : List Int) : Prop where
  b : RowsAt wr (· < wr.heap.size) ab lb rows
  v : IntsAt wr (· < wr.heap.size) av lv xs
  g : IntsAt wr (· < wr.heap.size) ag lg ys
  below : Below w.heap.size w wr
theorem St3.up {w wr w' : World} {ab av ag : Option Addr} {lb lv lg : Nat} {rows : List (List Int)} {xs ys : List Int} (h : St3 w wr ab lb rows av lv xs ag lg ys) (hb : Below wr.heap.size wr w') : St3 w w' ab lb rows av lv xs ag lg ys :=
  ⟨rows_lift h.b hb, ints_lift h.v hb, ints_lift h.g hb, h.below.trans (hb.mono h.below.size)⟩
theorem St3.dr {w wr w' : World} {ab av ag : Option Addr} {lb lv lg : Nat} {rows : List (List Int)} {xs ys : List Int} (h : St3 w wr ab lb rows av lv xs ag lg ys) (hd : Drew wr w') : St3 w w' ab lb rows av lv xs ag lg ys := h.up (hd.below _)
theorem St3.drew {w wr : World} {ab av ag : Option Addr} {lb lv lg : Nat} {rows : List (List Int)} {xs ys : List Int} (h : St3 w wr ab lb rows av lv xs ag lg ys) : St3 w wr.drew ab lb rows av lv xs ag lg ys := h.dr ⟨1, rfl⟩
end Go.Proofs.Ytcfahmffboipiab
