/- The tables that the rows of this seat list: a world in which they lie; and that the powers of ten lie where strconv reads them. -/
import Derived.Test.YtgidmgkebkodoaaGreatDoorLawL
import Derived.Test.YtgidmgkebkodoaaGreatDoorPow
import Derived.Lib.LaidTab
import Derived.Lib.LaidU8
import Derived.Lib.AppendIntMem
namespace Go.Proofs.YtgidmgkebkodoaaGreatDoor
open Go.ChangeShapes Go.WideShapes Go.ChangeAt Go.RowKit Go.Shelf

def flatTab : Nat → DataW Unit → List Value
  | f + 1, .agg ds => ds.flatMap (flatTab f)
  | _, .lit (.int k n) => [.int k n]
  | _, _ => []
def putTab (h : Array Obj) (g : Nat) (cs : Array Value) : Array Obj := h.modify g fun
  | .cells _ t frozen => .cells cs t frozen
  | o => o
def seatLaid : List (String × DataW Unit) := [("math/bits.deBruijn32tab", Rows.laid_math_bits_deBruijn32tab), ("math/bits.deBruijn64tab", Rows.laid_math_bits_deBruijn64tab), ("internal/strconv.uint64pow10", Rows.laid_internal_strconv_uint64pow10), ("unicode/utf8.acceptRanges", Rows.laid_unicode_utf8_acceptRanges), ("unicode/utf8.first", Rows.laid_unicode_utf8_first)]
noncomputable def laidWorld (os : Os) : World :=
  let w0 := World.holding Tryz.prog os ⟨#[], #[], []⟩
  let h0 := putTab (w0.heap) 3 (flatTab 3 (Rows.laid_math_bits_deBruijn32tab : DataW Unit)).toArray
  let h1 := putTab (h0) 4 (flatTab 3 (Rows.laid_math_bits_deBruijn64tab : DataW Unit)).toArray
  let h2 := putTab (h1) 2 (flatTab 3 (Rows.laid_internal_strconv_uint64pow10 : DataW Unit)).toArray
  let h3 := putTab (h2) 1 (flatTab 3 (Rows.laid_unicode_utf8_acceptRanges : DataW Unit)).toArray
  let h4 := putTab (h3) 0 (flatTab 3 (Rows.laid_unicode_utf8_first : DataW Unit)).toArray
  { w0 with heap := h4 }
set_option maxRecDepth 100000 in
theorem laid_met (os : Os) (args : Array Value) : laidMetH Tryz.prog seatLaid ((laidWorld os).forCall (fun _ _ => 0) ⟨#[], args, []⟩).memory :=
  laidMetH_of_parts (LaidIn.of_run (l := seatLaid) [3, 4, 2, 1, 0] 8 (by kernel_rfl) (by kernel_rfl) (by kernel_rfl) (by kernel_rfl)).met (by kernel_rfl)
def Tabs (W : World) : Prop := Lib.TabIs Tryz.prog W "internal/strconv.uint64pow10" .u64 Lib.pow10Tab
theorem pow_global : Tryz.prog.globalNamed "internal/strconv.uint64pow10" = some 2 := by kernel_rfl
theorem pow_type : (Tryz.prog.globals[2]?).map (·.type) = some 276 := by kernel_rfl
theorem pow_data : (Rows.laid_internal_strconv_uint64pow10 : DataW Unit) = Lib.tabData .u64 Lib.pow10Tab := by kernel_rfl
theorem tabs_of_laid (W : World) (h : laidMetH Tryz.prog seatLaid W) : Tabs W := by
  have hm : laidMet Tryz.prog seatLaid W := h
  obtain ⟨g', t', cs, fuel, p, hg', ht', hvar, hd⟩ := Lib.laidMet.reads hm (n := "internal/strconv.uint64pow10") (d := Rows.laid_internal_strconv_uint64pow10) (.tail _ (.tail _ (.head _)))
  rw [pow_data] at hd
  obtain rfl := Option.some.inj (pow_global.symm.trans hg')
  obtain rfl := Option.some.inj (pow_type.symm.trans ht')
  unfold Tabs Lib.TabIs
  rw [hvar, ← Lib.cells_of_tab (n := 20) Tryz.underlying276 Tryz.underlying59 (by kernel_rfl) (by kernel_rfl) hd]

/-- FormatInt at base 10, wherever the powers of ten lie as they lay. -/
theorem fmt_any {W w : World} (hT : Tabs W) {n : Int} (h0 : -9223372036854775808 ≤ n) (h1 : n ≤ 9223372036854775807) (hw : w.heap[2]? = W.heap[2]?) :
    Calls Tryz.prog 208 #[.int .i64 n, .int .i64 10] w fun e w' => e = .returned (.string ⟨(Lib.itoa n).toArray⟩) ∧ Below w.heap.size w w' := by
  have hTw : Lib.TabIs Tryz.prog w "internal/strconv.uint64pow10" .u64 Lib.pow10Tab := by
    unfold Tabs Lib.TabIs World.var? at hT
    unfold Lib.TabIs World.var?
    rw [pow_global] at hT ⊢
    simp only [Option.bind_some] at hT ⊢
    rw [hw]
    exact hT
  exact (Tryz.internal_strconv_FormatInt_10 n h0 h1 w hTw).mono fun e w' ⟨he, k, os, hw⟩ => ⟨he, by rw [hw]; exact Lib.below_grow _ w (Nat.le_refl _) k os⟩
theorem pow_there {W : World} (hT : Tabs W) : ∃ x, W.heap[2]? = some x := by
  unfold Tabs Lib.TabIs World.var? at hT
  rw [pow_global] at hT
  simp only [Option.bind_some] at hT
  split at hT
  · rename_i h; exact ⟨_, h⟩
  · cases hT
end Go.Proofs.YtgidmgkebkodoaaGreatDoor
