/- The tables that the rows of this seat list: a world in which they lie. Nothing is asked of them. -/
import Derived.Test.YtgidmgkebkodoaaGreatDoorLawL
namespace Go.Proofs.YtgidmgkebkodoaaGreatDoor
open Go.ChangeShapes Go.WideShapes Go.ChangeAt Go.RowKit Go.Shelf

def flatTab : Nat → DataW Unit → List Value
  | f + 1, .agg ds => ds.flatMap (flatTab f)
  | _, .lit (.int k n) => [.int k n]
  | _, _ => []
def putTab (h : Array Obj) (g : Nat) (cs : Array Value) : Array Obj := h.modify g fun
  | .cells _ t frozen => .cells cs t frozen
  | o => o
def seatLaid : List (String × DataW Unit) := [("math/bits.deBruijn32tab", Rows.laid_math_bits_deBruijn32tab), ("math/bits.deBruijn64tab", Rows.laid_math_bits_deBruijn64tab), ("internal/strconv.uint64pow10", Rows.laid_internal_strconv_uint64pow10), ("unicode/utf8.acceptRanges", Rows.laid_unicode_utf8_acceptRanges), ("unicode/utf8.first", Rows.laid_unicode_utf8_first)]
noncomputable def laidWorld (os : Os) : World :=
  let w0 := World.holding Tryz.prog os ⟨#[], #[], []⟩
  let h0 := putTab (w0.heap) 3 (flatTab 3 (Rows.laid_math_bits_deBruijn32tab : DataW Unit)).toArray
  let h1 := putTab (h0) 4 (flatTab 3 (Rows.laid_math_bits_deBruijn64tab : DataW Unit)).toArray
  let h2 := putTab (h1) 2 (flatTab 3 (Rows.laid_internal_strconv_uint64pow10 : DataW Unit)).toArray
  let h3 := putTab (h2) 1 (flatTab 3 (Rows.laid_unicode_utf8_acceptRanges : DataW Unit)).toArray
  let h4 := putTab (h3) 0 (flatTab 3 (Rows.laid_unicode_utf8_first : DataW Unit)).toArray
  { w0 with heap := h4 }
set_option maxRecDepth 100000 in
theorem laid_met (os : Os) (args : Array Value) : laidMetH Tryz.prog seatLaid ((laidWorld os).forCall (fun _ _ => 0) ⟨#[], args, []⟩).memory :=
  laidMetH_of_parts (LaidIn.of_run (l := seatLaid) [3, 4, 2, 1, 0] 8 (by kernel_rfl) (by kernel_rfl) (by kernel_rfl) (by kernel_rfl)).met (by kernel_rfl)
def Tabs (_ : World) : Prop := True
theorem tabs_of_laid (W : World) (_ : laidMetH Tryz.prog seatLaid W) : Tabs W := trivial
end Go.Proofs.YtgidmgkebkodoaaGreatDoor
